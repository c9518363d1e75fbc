/-
  What the walks of the ratio laws share: the arrays that come in, Made's numbers, lists of three.
-/
import Derived.Test.YteccbedmpjeamaaGreatDoorQSan
namespace Go.Proofs.YteccbedmpjeamaaGreatDoor
open Go.RowKit NM QM
/-- a block of an array of three ints -/
def AR (W : World) (p : Nat) (x y z : Int) : Prop := p < W.heap.size ∧ W.cell? ⟨p, 0, none⟩ = some (.int .i64 x) ∧ W.cell? ⟨p, 1, none⟩ = some (.int .i64 y) ∧ W.cell? ⟨p, 2, none⟩ = some (.int .i64 z)
theorem AR.next {u v : World} {p : Nat} {x y z : Int} (h : AR u p x y z) (k : Below u.heap.size u v) : AR v p x y z :=
  ⟨Nat.lt_of_lt_of_le h.1 k.size, (k.cell (p := ⟨p, 0, none⟩) h.1).trans h.2.1, (k.cell (p := ⟨p, 1, none⟩) h.1).trans h.2.2.1, (k.cell (p := ⟨p, 2, none⟩) h.1).trans h.2.2.2⟩
theorem ar_alloc (u : World) (x y z : Int) (t : TypeId) : AR (u.alloc (.cells #[.int .i64 x, .int .i64 y, .int .i64 z] t)) u.heap.size x y z :=
  ⟨by simp, World.cell?_alloc_at _ _ _ _ rfl, World.cell?_alloc_at _ _ _ _ rfl, World.cell?_alloc_at _ _ _ _ rfl⟩
theorem rl3 (u : World) (t : TypeId) (t1 t2 t3 : T3) : RL (u.alloc (.cells #[.bool t1.1, .string t1.2.1, .string t1.2.2, .bool t2.1, .string t2.2.1, .string t2.2.2, .bool t3.1, .string t3.2.1, .string t3.2.2] t)) u.heap.size [t1, t2, t3] := by
  intro i hi
  rw [World.cell?_alloc_at _ _ _ _ rfl, World.cell?_alloc_at _ _ _ _ rfl, World.cell?_alloc_at _ _ _ _ rfl]
  have hi3 : i < 3 := hi
  match i, hi3 with
  | 0, _ => exact ⟨rfl, rfl, rfl⟩
  | 1, _ => exact ⟨rfl, rfl, rfl⟩
  | 2, _ => exact ⟨rfl, rfl, rfl⟩
/-- a number as an element -/
def t3 (a : Rat) : T3 := (decide (a.num < 0), NB a.num.natAbs, NB a.den)
theorem rv3_t3 (a : Rat) : rv3 (t3 a) = a := rvq_QV a
theorem sum3 (a b c : Rat) : sumq [t3 a, t3 b, t3 c] = a + b + c := by
  unfold sumq
  simp only [List.foldl_cons, List.foldl_nil, rv3_t3]
  rw [Rat.zero_add]
theorem szl3 (N : Nat) (a b c : Rat) (ha : SmQ N a) (hb : SmQ N b) (hc : SmQ N c) : SzL N [t3 a, t3 b, t3 c] := by
  intro t ht
  simp only [List.mem_cons, List.not_mem_nil, or_false] at ht
  rcases ht with rfl | rfl | rfl
  · exact ⟨q_szA ha, q_szB ha⟩
  · exact ⟨q_szA hb, q_szB hb⟩
  · exact ⟨q_szA hc, q_szB hc⟩
theorem aSum3 (W : World) (p : Nat) (a b c : Rat) (hR : RL W p [t3 a, t3 b, t3 c]) (hp : p < W.heap.size) (ha : SmQ 100 a) (hb : SmQ 100 b) (hc : SmQ 100 c) (hT : Tp W) :
    Calls Tryz.prog 30 #[.slice (some ⟨p, 0, none⟩) 3 3] W fun e w' => e = .returned (.agg (qcells (a + b + c))) ∧ Below W.heap.size W w' := by
  have h := qSum W p 3 [t3 a, t3 b, t3 c] 100 hR hp (szl3 100 a b c ha hb hc) (by decide) (by simp) (by simp) (by simp) hT.b
  rwa [sum3] at h
theorem aOf (W : World) (n : Int) (q : Rat) (hq : (n : Rat) = q) (hn : -1000 ≤ n ∧ n ≤ 1000) :
    Calls Tryz.prog 36 #[.int .i64 n] W fun e w' => e = .returned (.agg (qcells q)) ∧ Below W.heap.size W w' := by
  rw [← hq]; exact qOf W n (by omega) (by omega)
theorem SmQ_div {M N : Nat} {a b : Rat} (ha : SmQ M a) (hb : SmQ N b) (h0 : b ≠ 0) : SmQ (M + N) (a / b) := by
  rw [Rat.div_def]; exact SmQ_mul ha (inv_small hb h0)
set_option maxRecDepth 100000 in
theorem aNe (w : World) (a b : Rat) (r : Bool) (h : decide (a = b) = !r) : (binOp .neq 26 (.agg (qcells a)) (.agg (qcells b))).run Tryz.prog w = .ok (.bool r) w := by
  have e := eq_q w a b
  rw [h, run_eql_struct] at e
  rw [run_neq_struct]
  generalize (Op.equalIn 10000 26 (.agg (qcells a)) (.agg (qcells b))).run Tryz.prog w = res at *
  cases res with
  | ok b w' =>
    simp only [Result.andThen_ok, Result.ok.injEq, Value.bool.injEq] at e ⊢
    exact ⟨by rw [e.1, Bool.not_not], e.2⟩
  | halt x w' => simp [Result.andThen] at e
end Go.Proofs.YteccbedmpjeamaaGreatDoor
