/-
  The walk of the law RatioTexts.
  The reference's Parse for any text of at most 1000 bytes; the law RatioTexts for any arguments.
-/
import Derived.Test.YteccbedmpjeamaaGreatDoorQJ
import Derived.Test.YteccbedmpjeamaaGreatDoorQSan
import Derived.Deep.RegionHeld3
import Derived.Test.YteccbedmpjeamaaGreatDoorQC
namespace Go.Proofs.YteccbedmpjeamaaGreatDoor
open Go.RowKit NM QM
/-- a number lies in a block of its own -/
def PR (w : World) (p : Nat) (b : Bool) (x y : ByteArray) : Prop := w.heap[p]? = some (.cells #[.bool b, .string x, .string y] 26 (0, 0))
theorem PR.new (w : World) (b : Bool) (x y : ByteArray) : PR (w.alloc (.cells #[.bool b, .string x, .string y] 26)) w.heap.size b x y := heap_alloc_new _ _
theorem PR.next {w w' : World} {p : Nat} {b : Bool} {x y : ByteArray} (h : PR w p b x y) (k : Below w.heap.size w w') : PR w' p b x y := (k.block _ (Array.getElem?_eq_some_iff.1 h).1).trans h
theorem PR.c0 {w : World} {p : Nat} {b : Bool} {x y : ByteArray} (h : PR w p b x y) : w.cell? ⟨p, 0, none⟩ = some (.bool b) := cell_of_row _ p 0 _ _ _ h
theorem PR.c1 {w : World} {p : Nat} {b : Bool} {x y : ByteArray} (h : PR w p b x y) : w.cell? ⟨p, 1, none⟩ = some (.string x) := cell_of_row _ p 1 _ _ _ h
theorem PR.c2 {w : World} {p : Nat} {b : Bool} {x y : ByteArray} (h : PR w p b x y) : w.cell? ⟨p, 2, none⟩ = some (.string y) := cell_of_row _ p 2 _ _ _ h
/-- what the walk keeps: the tables, the frame, the change's box -/
structure TQ (w : World) (c d : Int) (W : World) : Prop where
  t : Tp W
  b : Below w.heap.size w W
  c0 : W.cell? ⟨w.heap.size + 1, 0, none⟩ = some (.int .i64 c)
  c1 : W.cell? ⟨w.heap.size + 1, 1, none⟩ = some (.int .i64 d)
theorem TQ.next {w : World} {c d : Int} {u v : World} (h : TQ w c d u) (k : Below u.heap.size u v) : TQ w c d v :=
  ⟨h.t.below k, h.b.trans (k.mono h.b.size), (k.cell (p := ⟨w.heap.size + 1, 0, none⟩) (World.block_lt_of_cell? _ _ h.c0)).trans h.c0, (k.cell (p := ⟨w.heap.size + 1, 1, none⟩) (World.block_lt_of_cell? _ _ h.c1)).trans h.c1⟩
/-- and the number, and what was read -/
structure LQ (w : World) (c d : Int) (ga gq : Nat) (b : Bool) (x y : ByteArray) (W : World) : Prop where
  k : TQ w c d W
  a : PR W ga b x y
  q : PR W gq b x y
theorem LQ.next {w : World} {c d : Int} {ga gq : Nat} {b : Bool} {x y : ByteArray} {u v : World} (h : LQ w c d ga gq b x y u) (k : Below u.heap.size u v) : LQ w c d ga gq b x y v := ⟨h.k.next k, h.a.next k, h.q.next k⟩
theorem tq_start {w : World} (hT : Tp w) (x y z c d : Int) : TQ w c d ((w.alloc (.cells #[.int .i64 x, .int .i64 y, .int .i64 z] 22)).alloc (.cells #[.int .i64 c, .int .i64 d] 55)) ∧
    (∀ j v, (#[Value.int .i64 x, .int .i64 y, .int .i64 z])[j]? = some v → ((w.alloc (.cells #[.int .i64 x, .int .i64 y, .int .i64 z] 22)).alloc (.cells #[.int .i64 c, .int .i64 d] 55)).cell? ⟨w.heap.size, j, none⟩ = some v) := by
  have b1 : Below w.heap.size w (w.alloc (.cells #[.int .i64 x, .int .i64 y, .int .i64 z] 22)) := (Below.refl _ w).alloc (Nat.le_refl _) _
  have m1 : ∀ j v, (#[Value.int .i64 x, .int .i64 y, .int .i64 z])[j]? = some v → (w.alloc (.cells #[.int .i64 x, .int .i64 y, .int .i64 z] 22)).cell? ⟨w.heap.size, j, none⟩ = some v := fun j v h => by
    rw [World.cell?_alloc_at _ _ _ _ rfl]; exact h
  have z1 : (w.alloc (.cells #[.int .i64 x, .int .i64 y, .int .i64 z] 22)).heap.size = w.heap.size + 1 := by simp
  generalize w.alloc (.cells #[.int .i64 x, .int .i64 y, .int .i64 z] 22) = u at *
  have b2 := b1.alloc (by omega) (.cells #[.int .i64 c, .int .i64 d] 55)
  have k2 := (Below.refl u.heap.size u).alloc (Nat.le_refl _) (.cells #[.int .i64 c, .int .i64 d] 55)
  refine ⟨⟨hT.below b2, b2, ?_, ?_⟩, fun j v h => (k2.cell (p := ⟨w.heap.size, j, none⟩) (World.block_lt_of_cell? _ _ (m1 j v h))).trans (m1 j v h)⟩
  · rw [← z1]; exact World.cell?_alloc_at _ _ _ _ rfl
  · rw [← z1]; exact World.cell?_alloc_at _ _ _ _ rfl
/-- one byte, as a string -/
theorem one_back (W : World) (p : Nat) (u : UInt8) (hc : W.cell? ⟨p, 0, none⟩ = some (.int .u8 (u.toNat : Nat))) (cap : Nat) :
    (convert 57 9 (.slice (some ⟨p, 0, none⟩) 1 cap)).run Tryz.prog W = .ok (.string ⟨#[u]⟩) W := by
  have h := run_convert_bytes_back (P := Tryz.prog) W 57 9 5 ⟨p, 0, none⟩ cap [u] Tryz.underlying57 Tryz.underlying5 Tryz.underlying9 (fun j hj => by
    have hj2 : j = 0 := by simpa using hj
    subst hj2
    rw [Lib.add_plain, Nat.zero_add, hc]; rfl)
  exact h
theorem cells3 {W : World} {g : Nat} {A B C : ByteArray} (h : W.heap[g]? = some (.cells #[.string A, .string B, .string C] 58 (0, 0))) (a : A.size ≤ 1000) (b : B.size ≤ 1000) (c : C.size ≤ 1000) : ∀ j, j < 3 → ∃ X : ByteArray, X.size ≤ 1000 ∧ W.cell? ⟨g, j, none⟩ = some (.string X) := by
  intro j hj
  rw [cell_of_row _ g j _ _ _ h]
  match j, hj with
  | 0, _ => exact ⟨A, a, rfl⟩
  | 1, _ => exact ⟨B, b, rfl⟩
  | 2, _ => exact ⟨C, c, rfl⟩
theorem cell_keep {W V : World} {g j : Nat} (h : Below W.heap.size W V) (k : ∃ X : ByteArray, X.size ≤ 1000 ∧ W.cell? ⟨g, j, none⟩ = some (.string X)) : ∃ X : ByteArray, X.size ≤ 1000 ∧ V.cell? ⟨g, j, none⟩ = some (.string X) := by
  obtain ⟨X, a, c⟩ := k
  exact ⟨X, a, (h.cell (p := ⟨g, j, none⟩) (World.block_lt_of_cell? _ _ c)).trans c⟩
/-- what the calls give, once the number is made -/
structure CT (c : Int) (b : Bool) (x y T : ByteArray) (k : Nat) : Prop where
  lt : k < T.size
  sz : T.size ≤ 200
  tx : ∀ W, Tp W → Calls Tryz.prog 28 #[.agg #[.bool b, .string x, .string y]] W fun e w' => e = .returned (.string T) ∧ Below W.heap.size W w'
  rt : ∀ W, Tp W → Calls Tryz.prog 29 #[.agg #[.bool b, .string x, .string y]] W fun e w' => e = .returned (.string T) ∧ Below W.heap.size W w'
  rd : ∀ W, Tp W → Calls Tryz.prog 42 #[.string T] W fun e w' => e = .returned (.tuple #[.agg #[.bool b, .string x, .string y], .bool true]) ∧ Below W.heap.size W w'
  md : ∀ W, Calls Tryz.prog 35 #[.int .i64 c, .int .i64 (T.size : Int)] W fun e w' => e = .returned (.int .i64 (k : Int)) ∧ w' = W
set_option maxRecDepth 100000 in
set_option maxHeartbeats 8000000 in
theorem ratio_texts_core (w : World) (x0 y0 z0 c d : Int) (raw : ByteArray)
    (S0 : Hid (∀ W, Tp W → Calls Tryz.prog 10 #[] W fun e w' => e = .returned (.bool true) ∧ Below W.heap.size W w'))
    (M0 : Hid (∀ W, Calls Tryz.prog 11 #[.agg #[.int .i64 x0, .int .i64 y0, .int .i64 z0]] W fun e w' => ∃ b x y T k, CT c b x y T k ∧ e = .returned (.agg #[.bool b, .string x, .string y]) ∧ Below W.heap.size W w'))
    (RR : Hid (∀ t : ByteArray, t.size ≤ 1000 → ∃ (b : Bool) (x y : ByteArray) (o : Bool), ∀ W, Tp W → Calls Tryz.prog 42 #[.string t] W (fun e w' => e = .returned (.tuple #[.agg #[.bool b, .string x, .string y], .bool o]) ∧ Below W.heap.size W w') ∧ Calls Tryz.prog 43 #[.string t] W (fun e w' => e = .returned (.tuple #[.agg #[.bool b, .string x, .string y], .bool o]) ∧ Below W.heap.size W w')))
    (hT : Tp w) :
    Calls Tryz.prog 9 #[.agg #[.int .i64 x0, .int .i64 y0, .int .i64 z0], .string raw, .agg #[.int .i64 c, .int .i64 d]] w fun e w' => e = .returned (.bool true) ∧ Below w.heap.size w w' := by
  obtain ⟨HT, HX⟩ := tq_start hT x0 y0 z0 c d
  obtain ⟨W, hW⟩ : ∃ W, (w.alloc (.cells #[.int .i64 x0, .int .i64 y0, .int .i64 z0] 22)).alloc (.cells #[.int .i64 c, .int .i64 d] 55) = W := ⟨_, rfl⟩
  rw [hW] at HT HX
  replace HT := Lib.hid HT
  replace HX := Lib.hid HX
  clear hT
  go_enter Tryz.func9, Tryz.ntmps9
  go_upto_region 1 with fail
  clear hW
  go_wp2_with fail
  refine (S0.out _ HT.out.t).mono ?_
  rintro r w1 ⟨rfl, b1⟩
  have K1 := Lib.hid (HT.out.next b1)
  have a0 := (b1.cell (p := ⟨w.heap.size, 0, none⟩) (World.block_lt_of_cell? _ _ (HX.out 0 _ rfl))).trans (HX.out 0 _ rfl)
  have a1 := (b1.cell (p := ⟨w.heap.size, 1, none⟩) (World.block_lt_of_cell? _ _ (HX.out 1 _ rfl))).trans (HX.out 1 _ rfl)
  have a2 := (b1.cell (p := ⟨w.heap.size, 2, none⟩) (World.block_lt_of_cell? _ _ (HX.out 2 _ rfl))).trans (HX.out 2 _ rfl)
  clear b1 HT HX S0
  go_wp2_with fail
  clear a0 a1 a2
  refine (M0.out _).mono ?_
  rintro r w2 ⟨b, x, y, T, k, hC, rfl, b1⟩
  have K2 := Lib.hid (K1.out.next b1)
  have HC := Lib.hid hC
  clear b1 K1 M0 hC
  have m7 := PR.new w2 false ⟨#[]⟩ ⟨#[]⟩
  have hi := infoRt b x y
  go_upto_region 3 with (refine wpList_store_row rfl 26 (.tmp 8) (.tmp 21) rfl w2.heap.size #[.bool b, .string x, .string y] rfl rfl 26 _ m7 hi.out (w_size _ _ _ _ _ _) (w_one _ _ _) ?_)
  have b3 : Below w2.heap.size w2 ((w2.alloc (.cells #[.bool false, .string ⟨#[]⟩, .string ⟨#[]⟩] 26)).setRow w2.heap.size #[.bool b, .string x, .string y]) := Below.setRow' ((Below.refl w2.heap.size w2).alloc (Nat.le_refl _) _) (Nat.le_refl _) _
  have m3 : PR ((w2.alloc (.cells #[.bool false, .string ⟨#[]⟩, .string ⟨#[]⟩] 26)).setRow w2.heap.size #[.bool b, .string x, .string y]) w2.heap.size b x y := setRow_heap _ _ _ _ _ _ m7
  have K3 := Lib.hid (K2.out.next b3)
  clear b3 m7 K2
  try change Code.wp _ _ _ _ ((w2.alloc (.cells #[.bool false, .string ⟨#[]⟩, .string ⟨#[]⟩] 26)).setRow w2.heap.size #[.bool b, .string x, .string y])
  generalize (w2.alloc (.cells #[.bool false, .string ⟨#[]⟩, .string ⟨#[]⟩] 26)).setRow w2.heap.size #[.bool b, .string x, .string y] = v3 at *
  generalize w2.heap.size = ga at *
  have e0 := m3.c0
  have e1 := m3.c1
  have e2 := m3.c2
  go_wp2_with fail
  clear e0 e1 e2
  refine (HC.out.tx _ K3.out.t).mono ?_
  rintro r w4 ⟨rfl, b1⟩
  have K4 := Lib.hid (K3.out.next b1)
  have m4 := m3.next b1
  clear b1 K3 m3
  have e0 := m4.c0
  have e1 := m4.c1
  have e2 := m4.c2
  have hz0 : ((T.size : Int) == 0) = false := beq_eq_false_iff_ne.2 (by have := HC.out.lt; omega)
  have hz1 : ¬ T.size = 0 := by have := HC.out.lt; omega
  go_wp2_with fail
  clear e0 e1 e2
  refine (HC.out.rt _ K4.out.t).mono ?_
  rintro r w5 ⟨rfl, b1⟩
  have K5 := Lib.hid (K4.out.next b1)
  have m5 := m4.next b1
  clear b1 K4 m4
  go_wp2_with fail
  clear hz0 hz1
  refine (HC.out.rd _ K5.out.t).mono ?_
  rintro r w6 ⟨rfl, b1⟩
  have K6 := Lib.hid (K5.out.next b1)
  have m6 := m5.next b1
  clear b1 K5 m5
  have m7 := PR.new w6 false ⟨#[]⟩ ⟨#[]⟩
  go_upto_region 7 with (refine wpList_store_row rfl 26 (.tmp 10) (.tmp 36) rfl w6.heap.size #[.bool b, .string x, .string y] rfl rfl 26 _ m7 hi.out (w_size _ _ _ _ _ _) (w_one _ _ _) ?_)
  have b3 : Below w6.heap.size w6 ((w6.alloc (.cells #[.bool false, .string ⟨#[]⟩, .string ⟨#[]⟩] 26)).setRow w6.heap.size #[.bool b, .string x, .string y]) := Below.setRow' ((Below.refl w6.heap.size w6).alloc (Nat.le_refl _) _) (Nat.le_refl _) _
  have m3 : PR ((w6.alloc (.cells #[.bool false, .string ⟨#[]⟩, .string ⟨#[]⟩] 26)).setRow w6.heap.size #[.bool b, .string x, .string y]) w6.heap.size b x y := setRow_heap _ _ _ _ _ _ m7
  have HQ := Lib.hid (show LQ w c d ga w6.heap.size b x y ((w6.alloc (.cells #[.bool false, .string ⟨#[]⟩, .string ⟨#[]⟩] 26)).setRow w6.heap.size #[.bool b, .string x, .string y]) from ⟨K6.out.next b3, m6.next b3, m3⟩)
  clear b3 m7 K6 m3 m6
  try change Code.wp _ _ _ _ ((w6.alloc (.cells #[.bool false, .string ⟨#[]⟩, .string ⟨#[]⟩] 26)).setRow w6.heap.size #[.bool b, .string x, .string y])
  generalize (w6.alloc (.cells #[.bool false, .string ⟨#[]⟩, .string ⟨#[]⟩] 26)).setRow w6.heap.size #[.bool b, .string x, .string y] = v7 at *
  generalize w6.heap.size = gq at *
  have f0 := HQ.out.k.c0
  go_wp2_with fail
  clear f0
  refine (HC.out.md _).mono ?_
  rintro r w' ⟨rfl, rfl⟩
  go_upto_region 8 with fail
  go_cut [13] from 43 to 65 (fun v wx => ∃ g, v = .pointer (some ⟨g, 0, none⟩) ∧ Hid (LQ w c d ga gq b x y wx ∧ ∀ j, j < 3 → ∃ X : ByteArray, X.size ≤ 1000 ∧ wx.cell? ⟨g, j, none⟩ = some (.string X)))
  case first =>
    obtain ⟨m, hm⟩ : ∃ m : Nat, min (raw.size : Int) 40 = (m : Int) := ⟨min raw.size 40, by omega⟩
    have hm0 : (0 : Int) ≤ (m : Int) := by omega
    have hm1 : (m : Int) ≤ (raw.size : Int) := by omega
    have hk0 : (0 : Int) ≤ (k : Int) := by omega
    have hk1 : (k : Int) ≤ (T.size : Int) := by have := HC.out.lt; omega
    have hk2 : (0 : Int) ≤ (k : Int) + 1 := by omega
    have hk3 : (k : Int) + 1 ≤ (T.size : Int) := by have := HC.out.lt; omega
    have hk4 : (k : Int) + 1 ≤ 281474976710656 := by have := HC.out.sz; omega
    have x8 : IntKind.u8.wrap d = d % 256 := IntKind.wrap_u8 _
    have xk : IntKind.i64.wrap ((k : Int) + 1) = (k : Int) + 1 := IntWalk.i64_in _ ⟨by omega, by omega⟩
    obtain ⟨u, hu⟩ : ∃ u : UInt8, ((u.toNat : Nat) : Int) = d % 256 := ⟨UInt8.ofNat (d % 256).toNat, by simp; omega⟩
    obtain ⟨S1, e1⟩ : ∃ t, raw.extract 0 m = t := ⟨_, rfl⟩
    obtain ⟨A, e2⟩ : ∃ t, T.extract 0 k = t := ⟨_, rfl⟩
    obtain ⟨B, e3⟩ : ∃ t, T.extract (k + 1) T.size = t := ⟨_, rfl⟩
    have n1 : S1.size ≤ 40 := by rw [← e1, ← size_ls, ext_ls, List.length_take]; omega
    have n2 : A.size ≤ T.size := by rw [← e2, ← size_ls, ext_ls, List.length_take, List.length_drop, size_ls]; omega
    have n3 : B.size ≤ T.size := by rw [← e3, ← size_ls, ext_ls, List.length_take, List.length_drop, size_ls]; omega
    have HZ1 : Hid (S1.size ≤ 1000) := Lib.hid (by omega)
    have HZ2 : Hid ((A ++ ⟨#[u]⟩ ++ B).size ≤ 1000) := Lib.hid (by rw [ByteArray.size_append, ByteArray.size_append]; have := HC.out.sz; show A.size + 1 + B.size ≤ _; omega)
    have HZ3 : Hid (((⟨#[48]⟩ : ByteArray) ++ T).size ≤ 1000) := Lib.hid (by rw [ByteArray.size_append]; have := HC.out.sz; show 1 + T.size ≤ _; omega)
    have hL1 : (9223372036854775807 < A.size + 1) = False := eq_false (by have := HC.out.sz; omega)
    have hL2 : (9223372036854775807 < A.size + 1 + B.size) = False := eq_false (by have := HC.out.sz; omega)
    have hL3 : (9223372036854775807 < 1 + T.size) = False := eq_false (by have := HC.out.sz; omega)
    replace hu := Lib.hid hu
    clear n1 n2 n3
    refine wp_region_held_drew (S := LQ w c d ga gq b x y) (by kernel_rfl) (HQ.out.next (Below.refl _ _).drew) (fun hS => ?_)
    generalize w'.drew = wd at *
    have HL0 := Lib.hid hS
    have hB := Below.refl wd.heap.size wd
    refine wpAnyH_take (i := 0) (oi := { dst := some 43, op := Op.move (Operand.tmp 1), type := 9, pos := "law.go:139", after := #[], guard := none }) (v := ?vq0) rfl (by kernel_rfl) (by kernel_rfl) (by kernel_rfl) (fun _ _ _ h => h) (Or.inl ⟨by rfl, ?yq0⟩) hS ?rq0
    case yq0 => (intro w hS; go_simp; try with_reducible rfl)
    refine wpAnyH_take (i := 1) (oi := { dst := some 44, op := Op.move (Operand.tmp 1), type := 9, pos := "law.go:139", after := #[], guard := none }) (v := ?vq1) rfl (by kernel_rfl) (by kernel_rfl) (by kernel_rfl) (fun _ _ _ h => h) (Or.inl ⟨by rfl, ?yq1⟩) hS ?rq1
    case yq1 => (intro w hS; go_simp; try with_reducible rfl)
    refine wpAnyH_take (i := 5) (oi := { dst := some 48, op := Op.move (Operand.tmp 9), type := 9, pos := "law.go:139", after := #[], guard := none }) (v := ?vq5) rfl (by kernel_rfl) (by kernel_rfl) (by kernel_rfl) (fun _ _ _ h => h) (Or.inl ⟨by rfl, ?yq5⟩) hS ?rq5
    case yq5 => (intro w hS; go_simp; try with_reducible rfl)
    refine wpAnyH_take (i := 6) (oi := { dst := some 49, op := Op.move (Operand.tmp 12), type := 3, pos := "law.go:139", after := #[], guard := none }) (v := ?vq6) rfl (by kernel_rfl) (by kernel_rfl) (by kernel_rfl) (fun _ _ _ h => h) (Or.inl ⟨by rfl, ?yq6⟩) hS ?rq6
    case yq6 => (intro w hS; go_simp; try with_reducible rfl)
    refine wpAnyH_take (i := 8) (oi := { dst := some 51, op := Op.indexAddr 55 (Operand.tmp 5) (Operand.const (Value.int IntKind.i64 1)), type := 0, pos := "law.go:139", after := #[], guard := none }) (v := ?vq8) rfl (by kernel_rfl) (by kernel_rfl) (by kernel_rfl) (fun _ _ _ h => h) (Or.inl ⟨by rfl, ?yq8⟩) hS ?rq8
    case yq8 => (intro w hS; go_simp; try with_reducible rfl)
    refine wpAnyH_take (i := 14) (oi := { dst := some 57, op := Op.move (Operand.tmp 9), type := 9, pos := "law.go:139", after := #[], guard := none }) (v := ?vq14) rfl (by kernel_rfl) (by kernel_rfl) (by kernel_rfl) (fun _ _ _ h => h) (Or.inl ⟨by rfl, ?yq14⟩) hS ?rq14
    case yq14 => (intro w hS; go_simp; try with_reducible rfl)
    refine wpAnyH_take (i := 15) (oi := { dst := some 58, op := Op.move (Operand.tmp 12), type := 3, pos := "law.go:139", after := #[], guard := none }) (v := ?vq15) rfl (by kernel_rfl) (by kernel_rfl) (by kernel_rfl) (fun _ _ _ h => h) (Or.inl ⟨by rfl, ?yq15⟩) hS ?rq15
    case yq15 => (intro w hS; go_simp; try with_reducible rfl)
    refine wpAnyH_take (i := 19) (oi := { dst := some 62, op := Op.move (Operand.tmp 9), type := 9, pos := "law.go:139", after := #[], guard := none }) (v := ?vq19) rfl (by kernel_rfl) (by kernel_rfl) (by kernel_rfl) (fun _ _ _ h => h) (Or.inl ⟨by rfl, ?yq19⟩) hS ?rq19
    case yq19 => (intro w hS; go_simp; try with_reducible rfl)
    go_simp
    refine wpAnyH_take (i := 2) (oi := { dst := some 45, op := Op.call { callee := Callee.builtin Builtin.len, args := #[Operand.tmp 44], argTypes := #[9] }, type := 3, pos := "law.go:139", after := #[{ on := 1, ground := Ground.data }], guard := none }) (v := ?vq2) rfl (by kernel_rfl) (by kernel_rfl) (by kernel_rfl) (fun _ _ _ h => h) (Or.inl ⟨by rfl, ?yq2⟩) hS ?rq2
    case yq2 => (intro w hS; go_simp; try with_reducible rfl)
    refine wpAnyH_take (i := 7) (oi := { dst := some 50, op := Op.slice 9 (Operand.tmp 48) none (some (Operand.tmp 49)) none, type := 9, pos := "law.go:139", after := #[{ on := 5, ground := Ground.data }, { on := 6, ground := Ground.data }], guard := none }) (v := ?vq7) rfl (by kernel_rfl) (by kernel_rfl) (by kernel_rfl) (fun _ _ _ h => h) (Or.inl ⟨by rfl, ?yq7⟩) hS ?rq7
    case yq7 => (intro w hS; go_simp; try with_reducible rfl)
    refine wpAnyH_take (i := 9) (oi := { dst := some 52, op := Op.load 3 (Operand.tmp 51), type := 3, pos := "law.go:139", after := #[{ on := 8, ground := Ground.data }], guard := none }) (v := .int .i64 d) rfl (by kernel_rfl) (by kernel_rfl) (by kernel_rfl) (fun _ _ _ h => h) (Or.inl ⟨by rfl, ?yq9⟩) hS ?rq9
    case yq9 => (intro w' hS; have cf := hS.k.c1; go_simp; try with_reducible rfl)
    refine wpAnyH_take (i := 16) (oi := { dst := some 59, op := Op.binOp BinOp.add 3 (Operand.tmp 58) (Operand.const (Value.int IntKind.i64 1)) 3, type := 3, pos := "law.go:139", after := #[{ on := 15, ground := Ground.data }], guard := none }) (v := ?vq16) rfl (by kernel_rfl) (by kernel_rfl) (by kernel_rfl) (fun _ _ _ h => h) (Or.inl ⟨by rfl, ?yq16⟩) hS ?rq16
    case yq16 => (intro w hS; go_simp; try with_reducible rfl)
    refine wpAnyH_take (i := 20) (oi := { dst := some 63, op := Op.binOp BinOp.add 9 (Operand.const (Value.string { data := #[48] })) (Operand.tmp 62) 9, type := 9, pos := "law.go:139", after := #[{ on := 19, ground := Ground.data }], guard := none }) (v := ?vq20) rfl (by kernel_rfl) (by kernel_rfl) (by kernel_rfl) (fun _ _ _ h => h) (Or.inl ⟨by rfl, ?yq20⟩) hS ?rq20
    case yq20 => (intro w hS; go_simp; try with_reducible rfl)
    go_simp
    refine wpAnyH_take (i := 3) (oi := { dst := some 46, op := Op.call { callee := Callee.builtin Builtin.min, args := #[Operand.tmp 45, Operand.const (Value.int IntKind.i64 40)], argTypes := #[3, 3] }, type := 3, pos := "law.go:139", after := #[{ on := 2, ground := Ground.data }], guard := none }) (v := ?vq3) rfl (by kernel_rfl) (by kernel_rfl) (by kernel_rfl) (fun _ _ _ h => h) (Or.inl ⟨by rfl, ?yq3⟩) hS ?rq3
    case yq3 => (intro w hS; go_simp; try with_reducible rfl)
    refine wpAnyH_take (i := 10) (oi := { dst := some 53, op := Op.convert 3 5 (Operand.tmp 52), type := 5, pos := "law.go:139", after := #[{ on := 9, ground := Ground.data }], guard := none }) (v := ?vq10) rfl (by kernel_rfl) (by kernel_rfl) (by kernel_rfl) (fun _ _ _ h => h) (Or.inl ⟨by rfl, ?yq10⟩) hS ?rq10
    case yq10 => (intro w hS; go_simp; try with_reducible rfl)
    refine wpAnyH_take (i := 17) (oi := { dst := some 60, op := Op.slice 9 (Operand.tmp 57) (some (Operand.tmp 59)) none none, type := 9, pos := "law.go:139", after := #[{ on := 14, ground := Ground.data }, { on := 16, ground := Ground.data }], guard := none }) (v := ?vq17) rfl (by kernel_rfl) (by kernel_rfl) (by kernel_rfl) (fun _ _ _ h => h) (Or.inl ⟨by rfl, ?yq17⟩) hS ?rq17
    case yq17 => (intro w hS; go_simp; try with_reducible rfl)
    go_simp
    refine wpAnyH_take (i := 4) (oi := { dst := some 47, op := Op.slice 9 (Operand.tmp 43) none (some (Operand.tmp 46)) none, type := 9, pos := "law.go:139", after := #[{ on := 0, ground := Ground.data }, { on := 3, ground := Ground.data }], guard := none }) (v := ?vq4) rfl (by kernel_rfl) (by kernel_rfl) (by kernel_rfl) (fun _ _ _ h => h) (Or.inl ⟨by rfl, ?yq4⟩) hS ?rq4
    case yq4 => (intro w hS; go_simp; try with_reducible rfl)
    go_simp
    refine wpAnyH_ready (rs := [11, 22]) (by kernel_rfl) (by simp) ?_
    refine (AllReadyH.cons (o := { dst := some 54, op := Op.buildSlice 57 1 #[(0, Operand.tmp 53)], type := 57, pos := "law.go:139", after := #[{ on := 10, ground := Ground.data }], guard := none }) rfl (fun K hK => ?_) (AllReadyH.cons (o := { dst := some 13, op := Op.alloc 58, type := 0, pos := "law.go:139", after := #[], guard := none }) rfl (fun K hK => ?_) AllReadyH.nil))
    · go_simp
      have hN8 := heap_alloc_new wd (.cells #[.int .u8 (d % 256)] 5)
      have hG8 : wd.heap.size ≤ wd.heap.size := hB.size
      have bA := (Below.refl wd.heap.size wd).alloc (Nat.le_refl _) (.cells #[.int .u8 (d % 256)] 5)
      replace hB := hB.trans (bA.mono hB.size)
      have hS2 := HL0.out.next hB
      clear hS bA
      refine hK.out _ _ hS2 (fun hS => ?_)
      clear hK K hS2
      obtain ⟨g8, hg8⟩ : ∃ g, wd.heap.size = g := ⟨_, rfl⟩
      replace hG8 : wd.heap.size ≤ g8 := by omega
      rw [hg8] at hN8 ⊢
      obtain ⟨w8, hw8⟩ : ∃ V, World.alloc wd (.cells #[.int .u8 (d % 256)] 5) = V := ⟨_, rfl⟩
      rw [hw8] at hN8 hB hS ⊢
      clear hw8 hg8
      refine wpAnyH_ready (rs := [12, 22]) (by kernel_rfl) (by simp) ?_
      refine (AllReadyH.cons (o := { dst := some 55, op := Op.convert 57 9 (Operand.tmp 54), type := 9, pos := "law.go:139", after := #[{ on := 11, ground := Ground.data }], guard := none }) rfl (fun K hK => ?_) (AllReadyH.cons (o := { dst := some 13, op := Op.alloc 58, type := 0, pos := "law.go:139", after := #[], guard := none }) rfl (fun K hK => ?_) AllReadyH.nil))
      · have hcv := one_back w8 g8 u (by rw [hu]; exact cell_of_row _ g8 0 _ _ _ hN8) 1
        go_simp
        clear hcv
        refine hK.out _ _ hS (fun hS => ?_)
        clear hK K
        refine wpAnyH_take (i := 13) (oi := { dst := some 56, op := Op.binOp BinOp.add 9 (Operand.tmp 50) (Operand.tmp 55) 9, type := 9, pos := "law.go:139", after := #[{ on := 7, ground := Ground.data }, { on := 12, ground := Ground.data }], guard := none }) (v := ?vqaa13) rfl (by kernel_rfl) (by kernel_rfl) (by kernel_rfl) (fun _ _ _ h => h) (Or.inl ⟨by rfl, ?yqaa13⟩) hS ?rqaa13
        case yqaa13 => (intro w hS; go_simp; try with_reducible rfl)
        go_simp
        refine wpAnyH_take (i := 18) (oi := { dst := some 61, op := Op.binOp BinOp.add 9 (Operand.tmp 56) (Operand.tmp 60) 9, type := 9, pos := "law.go:139", after := #[{ on := 13, ground := Ground.data }, { on := 17, ground := Ground.data }], guard := none }) (v := ?vqaa18) rfl (by kernel_rfl) (by kernel_rfl) (by kernel_rfl) (fun _ _ _ h => h) (Or.inl ⟨by rfl, ?yqaa18⟩) hS ?rqaa18
        case yqaa18 => (intro w hS; go_simp; try with_reducible rfl)
        go_simp
        refine wpAnyH_take (i := 21) (oi := { dst := some 64, op := Op.build 58 #[(0, Operand.tmp 47), (1, Operand.tmp 61), (2, Operand.tmp 63)], type := 58, pos := "law.go:139", after := #[{ on := 4, ground := Ground.data }, { on := 18, ground := Ground.data }, { on := 20, ground := Ground.data }], guard := none }) (v := ?vqaa21) rfl (by kernel_rfl) (by kernel_rfl) (by kernel_rfl) (fun _ _ _ h => h) (Or.inl ⟨by rfl, ?yqaa21⟩) hS ?rqaa21
        case yqaa21 => (intro w hS; go_simp; try with_reducible rfl)
        go_simp
        refine wpAnyH_ready (rs := [22]) (by kernel_rfl) (by simp) ?_
        refine (AllReadyH.cons (o := { dst := some 13, op := Op.alloc 58, type := 0, pos := "law.go:139", after := #[], guard := none }) rfl (fun K hK => ?_) AllReadyH.nil)
        go_simp
        have hN13 := heap_alloc_new w8 (.cells #[.string ⟨#[]⟩, .string ⟨#[]⟩, .string ⟨#[]⟩] 58)
        have hG13 : wd.heap.size ≤ w8.heap.size := hB.size
        have bA := (Below.refl w8.heap.size w8).alloc (Nat.le_refl _) (.cells #[.string ⟨#[]⟩, .string ⟨#[]⟩, .string ⟨#[]⟩] 58)
        replace hN8 := (bA.block _ (Array.getElem?_eq_some_iff.1 hN8).1).trans hN8
        replace hB := hB.trans (bA.mono hB.size)
        have hS2 := HL0.out.next hB
        clear hS bA
        refine hK.out _ _ hS2 (fun hS => ?_)
        clear hK K hS2
        obtain ⟨g13, hg13⟩ : ∃ g, w8.heap.size = g := ⟨_, rfl⟩
        replace hG13 : wd.heap.size ≤ g13 := by omega
        rw [hg13] at hN13 ⊢
        obtain ⟨w13, hw13⟩ : ∃ V, World.alloc w8 (.cells #[.string ⟨#[]⟩, .string ⟨#[]⟩, .string ⟨#[]⟩] 58) = V := ⟨_, rfl⟩
        rw [hw13] at hN13 hB hS hN8 ⊢
        clear hw13 hg13
        refine wpAnyH_ready (rs := [23]) (by kernel_rfl) (by simp) ?_
        refine (AllReadyH.cons (o := { dst := none, op := Op.store 58 (Operand.tmp 13) (Operand.tmp 64), type := 0, pos := "law.go:139", after := #[{ on := 22, ground := Ground.data }, { on := 21, ground := Ground.data }, { on := 0, ground := Ground.phase }, { on := 1, ground := Ground.phase }, { on := 2, ground := Ground.phase }, { on := 3, ground := Ground.phase }, { on := 4, ground := Ground.phase }, { on := 5, ground := Ground.phase }, { on := 6, ground := Ground.phase }, { on := 7, ground := Ground.phase }, { on := 8, ground := Ground.phase }, { on := 9, ground := Ground.phase }, { on := 10, ground := Ground.phase }, { on := 11, ground := Ground.phase }, { on := 12, ground := Ground.phase }, { on := 13, ground := Ground.phase }, { on := 14, ground := Ground.phase }, { on := 15, ground := Ground.phase }, { on := 16, ground := Ground.phase }, { on := 17, ground := Ground.phase }, { on := 18, ground := Ground.phase }, { on := 19, ground := Ground.phase }, { on := 20, ground := Ground.phase }, { on := 21, ground := Ground.phase }, { on := 22, ground := Ground.phase }], guard := none }) rfl (fun K hK => ?_) AllReadyH.nil)
        rw [if_pos (by rfl)]
        refine wp_store_row 58 (.tmp 13) (.tmp 64) rfl g13 (#[.string S1, .string (A ++ ⟨#[u]⟩ ++ B), .string (⟨#[48]⟩ ++ T)]) (by first | rfl | (simp [Act.eval])) (by first | rfl | (simp [Act.eval])) 58 #[.string ⟨#[]⟩, .string ⟨#[]⟩, .string ⟨#[]⟩] hN13 (by kernel_rfl) (by simp) (by simp [Value.oneCell']) ?_
        replace hB := Below.setRow' hB hG13 (#[.string S1, .string (A ++ ⟨#[u]⟩ ++ B), .string (⟨#[48]⟩ ++ T)])
        have hS2 := HL0.out.next hB
        have hrow2 := setRow_heap _ _ _ (#[.string S1, .string (A ++ ⟨#[u]⟩ ++ B), .string (⟨#[48]⟩ ++ T)]) _ _ hN13
        clear hS
        refine hK.out _ _ hS2 (fun hS => ?_)
        clear hK K hS2
        refine wpAnyH_done (by kernel_rfl) ?_ _
        go_wp2_with fail
        go_meet
        exact ⟨g13, rfl, Lib.hid ⟨hS, cells3 hrow2 HZ1.out HZ2.out HZ3.out⟩⟩
      · go_simp
        have hN13 := heap_alloc_new w8 (.cells #[.string ⟨#[]⟩, .string ⟨#[]⟩, .string ⟨#[]⟩] 58)
        have hG13 : wd.heap.size ≤ w8.heap.size := hB.size
        have bA := (Below.refl w8.heap.size w8).alloc (Nat.le_refl _) (.cells #[.string ⟨#[]⟩, .string ⟨#[]⟩, .string ⟨#[]⟩] 58)
        replace hN8 := (bA.block _ (Array.getElem?_eq_some_iff.1 hN8).1).trans hN8
        replace hB := hB.trans (bA.mono hB.size)
        have hS2 := HL0.out.next hB
        clear hS bA
        refine hK.out _ _ hS2 (fun hS => ?_)
        clear hK K hS2
        obtain ⟨g13, hg13⟩ : ∃ g, w8.heap.size = g := ⟨_, rfl⟩
        replace hG13 : wd.heap.size ≤ g13 := by omega
        rw [hg13] at hN13 ⊢
        obtain ⟨w13, hw13⟩ : ∃ V, World.alloc w8 (.cells #[.string ⟨#[]⟩, .string ⟨#[]⟩, .string ⟨#[]⟩] 58) = V := ⟨_, rfl⟩
        rw [hw13] at hN13 hB hS hN8 ⊢
        clear hw13 hg13
        refine wpAnyH_ready (rs := [12]) (by kernel_rfl) (by simp) ?_
        refine (AllReadyH.cons (o := { dst := some 55, op := Op.convert 57 9 (Operand.tmp 54), type := 9, pos := "law.go:139", after := #[{ on := 11, ground := Ground.data }], guard := none }) rfl (fun K hK => ?_) AllReadyH.nil)
        have hcv := one_back w13 g8 u (by rw [hu]; exact cell_of_row _ g8 0 _ _ _ hN8) 1
        go_simp
        clear hcv
        refine hK.out _ _ hS (fun hS => ?_)
        clear hK K
        refine wpAnyH_take (i := 13) (oi := { dst := some 56, op := Op.binOp BinOp.add 9 (Operand.tmp 50) (Operand.tmp 55) 9, type := 9, pos := "law.go:139", after := #[{ on := 7, ground := Ground.data }, { on := 12, ground := Ground.data }], guard := none }) (v := ?vqab13) rfl (by kernel_rfl) (by kernel_rfl) (by kernel_rfl) (fun _ _ _ h => h) (Or.inl ⟨by rfl, ?yqab13⟩) hS ?rqab13
        case yqab13 => (intro w hS; go_simp; try with_reducible rfl)
        go_simp
        refine wpAnyH_take (i := 18) (oi := { dst := some 61, op := Op.binOp BinOp.add 9 (Operand.tmp 56) (Operand.tmp 60) 9, type := 9, pos := "law.go:139", after := #[{ on := 13, ground := Ground.data }, { on := 17, ground := Ground.data }], guard := none }) (v := ?vqab18) rfl (by kernel_rfl) (by kernel_rfl) (by kernel_rfl) (fun _ _ _ h => h) (Or.inl ⟨by rfl, ?yqab18⟩) hS ?rqab18
        case yqab18 => (intro w hS; go_simp; try with_reducible rfl)
        go_simp
        refine wpAnyH_take (i := 21) (oi := { dst := some 64, op := Op.build 58 #[(0, Operand.tmp 47), (1, Operand.tmp 61), (2, Operand.tmp 63)], type := 58, pos := "law.go:139", after := #[{ on := 4, ground := Ground.data }, { on := 18, ground := Ground.data }, { on := 20, ground := Ground.data }], guard := none }) (v := ?vqab21) rfl (by kernel_rfl) (by kernel_rfl) (by kernel_rfl) (fun _ _ _ h => h) (Or.inl ⟨by rfl, ?yqab21⟩) hS ?rqab21
        case yqab21 => (intro w hS; go_simp; try with_reducible rfl)
        go_simp
        refine wpAnyH_ready (rs := [23]) (by kernel_rfl) (by simp) ?_
        refine (AllReadyH.cons (o := { dst := none, op := Op.store 58 (Operand.tmp 13) (Operand.tmp 64), type := 0, pos := "law.go:139", after := #[{ on := 22, ground := Ground.data }, { on := 21, ground := Ground.data }, { on := 0, ground := Ground.phase }, { on := 1, ground := Ground.phase }, { on := 2, ground := Ground.phase }, { on := 3, ground := Ground.phase }, { on := 4, ground := Ground.phase }, { on := 5, ground := Ground.phase }, { on := 6, ground := Ground.phase }, { on := 7, ground := Ground.phase }, { on := 8, ground := Ground.phase }, { on := 9, ground := Ground.phase }, { on := 10, ground := Ground.phase }, { on := 11, ground := Ground.phase }, { on := 12, ground := Ground.phase }, { on := 13, ground := Ground.phase }, { on := 14, ground := Ground.phase }, { on := 15, ground := Ground.phase }, { on := 16, ground := Ground.phase }, { on := 17, ground := Ground.phase }, { on := 18, ground := Ground.phase }, { on := 19, ground := Ground.phase }, { on := 20, ground := Ground.phase }, { on := 21, ground := Ground.phase }, { on := 22, ground := Ground.phase }], guard := none }) rfl (fun K hK => ?_) AllReadyH.nil)
        rw [if_pos (by rfl)]
        refine wp_store_row 58 (.tmp 13) (.tmp 64) rfl g13 (#[.string S1, .string (A ++ ⟨#[u]⟩ ++ B), .string (⟨#[48]⟩ ++ T)]) (by first | rfl | (simp [Act.eval])) (by first | rfl | (simp [Act.eval])) 58 #[.string ⟨#[]⟩, .string ⟨#[]⟩, .string ⟨#[]⟩] hN13 (by kernel_rfl) (by simp) (by simp [Value.oneCell']) ?_
        replace hB := Below.setRow' hB hG13 (#[.string S1, .string (A ++ ⟨#[u]⟩ ++ B), .string (⟨#[48]⟩ ++ T)])
        have hS2 := HL0.out.next hB
        have hrow2 := setRow_heap _ _ _ (#[.string S1, .string (A ++ ⟨#[u]⟩ ++ B), .string (⟨#[48]⟩ ++ T)]) _ _ hN13
        clear hS
        refine hK.out _ _ hS2 (fun hS => ?_)
        clear hK K hS2
        refine wpAnyH_done (by kernel_rfl) ?_ _
        go_wp2_with fail
        go_meet
        exact ⟨g13, rfl, Lib.hid ⟨hS, cells3 hrow2 HZ1.out HZ2.out HZ3.out⟩⟩
    · go_simp
      have hN13 := heap_alloc_new wd (.cells #[.string ⟨#[]⟩, .string ⟨#[]⟩, .string ⟨#[]⟩] 58)
      have hG13 : wd.heap.size ≤ wd.heap.size := hB.size
      have bA := (Below.refl wd.heap.size wd).alloc (Nat.le_refl _) (.cells #[.string ⟨#[]⟩, .string ⟨#[]⟩, .string ⟨#[]⟩] 58)
      replace hB := hB.trans (bA.mono hB.size)
      have hS2 := HL0.out.next hB
      clear hS bA
      refine hK.out _ _ hS2 (fun hS => ?_)
      clear hK K hS2
      obtain ⟨g13, hg13⟩ : ∃ g, wd.heap.size = g := ⟨_, rfl⟩
      replace hG13 : wd.heap.size ≤ g13 := by omega
      rw [hg13] at hN13 ⊢
      obtain ⟨w13, hw13⟩ : ∃ V, World.alloc wd (.cells #[.string ⟨#[]⟩, .string ⟨#[]⟩, .string ⟨#[]⟩] 58) = V := ⟨_, rfl⟩
      rw [hw13] at hN13 hB hS ⊢
      clear hw13 hg13
      refine wpAnyH_ready (rs := [11]) (by kernel_rfl) (by simp) ?_
      refine (AllReadyH.cons (o := { dst := some 54, op := Op.buildSlice 57 1 #[(0, Operand.tmp 53)], type := 57, pos := "law.go:139", after := #[{ on := 10, ground := Ground.data }], guard := none }) rfl (fun K hK => ?_) AllReadyH.nil)
      go_simp
      have hN8 := heap_alloc_new w13 (.cells #[.int .u8 (d % 256)] 5)
      have hG8 : wd.heap.size ≤ w13.heap.size := hB.size
      have bA := (Below.refl w13.heap.size w13).alloc (Nat.le_refl _) (.cells #[.int .u8 (d % 256)] 5)
      replace hN13 := (bA.block _ (Array.getElem?_eq_some_iff.1 hN13).1).trans hN13
      replace hB := hB.trans (bA.mono hB.size)
      have hS2 := HL0.out.next hB
      clear hS bA
      refine hK.out _ _ hS2 (fun hS => ?_)
      clear hK K hS2
      obtain ⟨g8, hg8⟩ : ∃ g, w13.heap.size = g := ⟨_, rfl⟩
      replace hG8 : wd.heap.size ≤ g8 := by omega
      rw [hg8] at hN8 ⊢
      obtain ⟨w8, hw8⟩ : ∃ V, World.alloc w13 (.cells #[.int .u8 (d % 256)] 5) = V := ⟨_, rfl⟩
      rw [hw8] at hN8 hB hS hN13 ⊢
      clear hw8 hg8
      refine wpAnyH_ready (rs := [12]) (by kernel_rfl) (by simp) ?_
      refine (AllReadyH.cons (o := { dst := some 55, op := Op.convert 57 9 (Operand.tmp 54), type := 9, pos := "law.go:139", after := #[{ on := 11, ground := Ground.data }], guard := none }) rfl (fun K hK => ?_) AllReadyH.nil)
      have hcv := one_back w8 g8 u (by rw [hu]; exact cell_of_row _ g8 0 _ _ _ hN8) 1
      go_simp
      clear hcv
      refine hK.out _ _ hS (fun hS => ?_)
      clear hK K
      refine wpAnyH_take (i := 13) (oi := { dst := some 56, op := Op.binOp BinOp.add 9 (Operand.tmp 50) (Operand.tmp 55) 9, type := 9, pos := "law.go:139", after := #[{ on := 7, ground := Ground.data }, { on := 12, ground := Ground.data }], guard := none }) (v := ?vqb13) rfl (by kernel_rfl) (by kernel_rfl) (by kernel_rfl) (fun _ _ _ h => h) (Or.inl ⟨by rfl, ?yqb13⟩) hS ?rqb13
      case yqb13 => (intro w hS; go_simp; try with_reducible rfl)
      go_simp
      refine wpAnyH_take (i := 18) (oi := { dst := some 61, op := Op.binOp BinOp.add 9 (Operand.tmp 56) (Operand.tmp 60) 9, type := 9, pos := "law.go:139", after := #[{ on := 13, ground := Ground.data }, { on := 17, ground := Ground.data }], guard := none }) (v := ?vqb18) rfl (by kernel_rfl) (by kernel_rfl) (by kernel_rfl) (fun _ _ _ h => h) (Or.inl ⟨by rfl, ?yqb18⟩) hS ?rqb18
      case yqb18 => (intro w hS; go_simp; try with_reducible rfl)
      go_simp
      refine wpAnyH_take (i := 21) (oi := { dst := some 64, op := Op.build 58 #[(0, Operand.tmp 47), (1, Operand.tmp 61), (2, Operand.tmp 63)], type := 58, pos := "law.go:139", after := #[{ on := 4, ground := Ground.data }, { on := 18, ground := Ground.data }, { on := 20, ground := Ground.data }], guard := none }) (v := ?vqb21) rfl (by kernel_rfl) (by kernel_rfl) (by kernel_rfl) (fun _ _ _ h => h) (Or.inl ⟨by rfl, ?yqb21⟩) hS ?rqb21
      case yqb21 => (intro w hS; go_simp; try with_reducible rfl)
      go_simp
      refine wpAnyH_ready (rs := [23]) (by kernel_rfl) (by simp) ?_
      refine (AllReadyH.cons (o := { dst := none, op := Op.store 58 (Operand.tmp 13) (Operand.tmp 64), type := 0, pos := "law.go:139", after := #[{ on := 22, ground := Ground.data }, { on := 21, ground := Ground.data }, { on := 0, ground := Ground.phase }, { on := 1, ground := Ground.phase }, { on := 2, ground := Ground.phase }, { on := 3, ground := Ground.phase }, { on := 4, ground := Ground.phase }, { on := 5, ground := Ground.phase }, { on := 6, ground := Ground.phase }, { on := 7, ground := Ground.phase }, { on := 8, ground := Ground.phase }, { on := 9, ground := Ground.phase }, { on := 10, ground := Ground.phase }, { on := 11, ground := Ground.phase }, { on := 12, ground := Ground.phase }, { on := 13, ground := Ground.phase }, { on := 14, ground := Ground.phase }, { on := 15, ground := Ground.phase }, { on := 16, ground := Ground.phase }, { on := 17, ground := Ground.phase }, { on := 18, ground := Ground.phase }, { on := 19, ground := Ground.phase }, { on := 20, ground := Ground.phase }, { on := 21, ground := Ground.phase }, { on := 22, ground := Ground.phase }], guard := none }) rfl (fun K hK => ?_) AllReadyH.nil)
      rw [if_pos (by rfl)]
      refine wp_store_row 58 (.tmp 13) (.tmp 64) rfl g13 (#[.string S1, .string (A ++ ⟨#[u]⟩ ++ B), .string (⟨#[48]⟩ ++ T)]) (by first | rfl | (simp [Act.eval])) (by first | rfl | (simp [Act.eval])) 58 #[.string ⟨#[]⟩, .string ⟨#[]⟩, .string ⟨#[]⟩] hN13 (by kernel_rfl) (by simp) (by simp [Value.oneCell']) ?_
      replace hB := Below.setRow' hB hG13 (#[.string S1, .string (A ++ ⟨#[u]⟩ ++ B), .string (⟨#[48]⟩ ++ T)])
      have hS2 := HL0.out.next hB
      have hrow2 := setRow_heap _ _ _ (#[.string S1, .string (A ++ ⟨#[u]⟩ ++ B), .string (⟨#[48]⟩ ++ T)]) _ _ hN13
      clear hS
      refine hK.out _ _ hS2 (fun hS => ?_)
      clear hK K hS2
      refine wpAnyH_done (by kernel_rfl) ?_ _
      go_wp2_with fail
      go_meet
      exact ⟨g13, rfl, Lib.hid ⟨hS, cells3 hrow2 HZ1.out HZ2.out HZ3.out⟩⟩
  case rest =>
  obtain ⟨g, rfl, HK⟩ := hcut
  go_wp2_with fail
  go_loopw [14] (fun i wr => ∃ (j : Nat), j ≤ 3 ∧ i = .int .i64 (j : Int) ∧ Hid (LQ w c d ga gq b x y wr ∧ ∀ j, j < 3 → ∃ X : ByteArray, X.size ≤ 1000 ∧ wr.cell? ⟨g, j, none⟩ = some (.string X))) (fun i _ => 3 - (match i with | .int _ i => i.toNat | _ => 0))
  case atStart => exact ⟨0, by omega, rfl, HK⟩
  case round =>
    obtain ⟨j, hj, rfl, hK⟩ := hrel
    by_cases hlj : j < 3
    · obtain ⟨X, sX, d0⟩ := hK.out.2 j hlj
      obtain ⟨b', x', y', o, hxy⟩ := RR.out X sX
      have N1 := Lib.hid fun W t => (hxy W t).1
      have N2 := Lib.hid fun W t => (hxy W t).2
      clear hxy sX
      have hi' := infoRt b' x' y'
      go_wp2_with fail
      refine (N1.out _ hK.out.1.k.t).mono ?_
      rintro e w5 ⟨rfl, b5⟩
      have K9 := Lib.hid (And.intro (hK.out.1.next b5) (fun j (hj : j < 3) => cell_keep b5 (hK.out.2 j hj)))
      replace d0 := (b5.cell (p := ⟨g, j, none⟩) (World.block_lt_of_cell? _ _ d0)).trans d0
      clear b5 hK N1
      have m7 := PR.new w5 false ⟨#[]⟩ ⟨#[]⟩
      go_upto_region 13 with (refine wpList_store_row rfl 26 (.tmp 15) (.tmp 74) rfl w5.heap.size #[.bool b', .string x', .string y'] rfl rfl 26 _ m7 hi'.out (w_size _ _ _ _ _ _) (w_one _ _ _) ?_)
      have b3 : Below w5.heap.size w5 ((w5.alloc (.cells #[.bool false, .string ⟨#[]⟩, .string ⟨#[]⟩] 26)).setRow w5.heap.size #[.bool b', .string x', .string y']) := Below.setRow' ((Below.refl w5.heap.size w5).alloc (Nat.le_refl _) _) (Nat.le_refl _) _
      have m3 : PR ((w5.alloc (.cells #[.bool false, .string ⟨#[]⟩, .string ⟨#[]⟩] 26)).setRow w5.heap.size #[.bool b', .string x', .string y']) w5.heap.size b' x' y' := setRow_heap _ _ _ _ _ _ m7
      have KA := Lib.hid (And.intro (K9.out.1.next b3) (fun j (hj : j < 3) => cell_keep b3 (K9.out.2 j hj)))
      replace d0 := (b3.cell (p := ⟨g, j, none⟩) (World.block_lt_of_cell? _ _ d0)).trans d0
      clear b3 K9 m7
      try change Code.wp _ _ _ _ ((w5.alloc (.cells #[.bool false, .string ⟨#[]⟩, .string ⟨#[]⟩] 26)).setRow w5.heap.size #[.bool b', .string x', .string y'])
      generalize (w5.alloc (.cells #[.bool false, .string ⟨#[]⟩, .string ⟨#[]⟩] 26)).setRow w5.heap.size #[.bool b', .string x', .string y'] = v5 at *
      generalize w5.heap.size = a1 at *
      go_wp2_with fail
      clear d0
      refine (N2.out _ KA.out.1.k.t).mono ?_
      rintro e w6 ⟨rfl, b5⟩
      have KB := Lib.hid (And.intro (KA.out.1.next b5) (fun j (hj : j < 3) => cell_keep b5 (KA.out.2 j hj)))
      replace m3 := m3.next b5
      clear b5 KA N2
      have m7 := PR.new w6 false ⟨#[]⟩ ⟨#[]⟩
      go_upto_region 14 with (refine wpList_store_row rfl 26 (.tmp 17) (.tmp 81) rfl w6.heap.size #[.bool b', .string x', .string y'] rfl rfl 26 _ m7 hi'.out (w_size _ _ _ _ _ _) (w_one _ _ _) ?_)
      have b3 : Below w6.heap.size w6 ((w6.alloc (.cells #[.bool false, .string ⟨#[]⟩, .string ⟨#[]⟩] 26)).setRow w6.heap.size #[.bool b', .string x', .string y']) := Below.setRow' ((Below.refl w6.heap.size w6).alloc (Nat.le_refl _) _) (Nat.le_refl _) _
      have m4 : PR ((w6.alloc (.cells #[.bool false, .string ⟨#[]⟩, .string ⟨#[]⟩] 26)).setRow w6.heap.size #[.bool b', .string x', .string y']) w6.heap.size b' x' y' := setRow_heap _ _ _ _ _ _ m7
      have KC := Lib.hid (And.intro (KB.out.1.next b3) (fun j (hj : j < 3) => cell_keep b3 (KB.out.2 j hj)))
      replace m3 := m3.next b3
      clear b3 KB m7
      try change Code.wp _ _ _ _ ((w6.alloc (.cells #[.bool false, .string ⟨#[]⟩, .string ⟨#[]⟩] 26)).setRow w6.heap.size #[.bool b', .string x', .string y'])
      generalize (w6.alloc (.cells #[.bool false, .string ⟨#[]⟩, .string ⟨#[]⟩] 26)).setRow w6.heap.size #[.bool b', .string x', .string y'] = v6 at *
      generalize w6.heap.size = a2 at *
      have e0 := m3.c0
      have e1 := m3.c1
      have e2 := m3.c2
      have f0 := m4.c0
      have f1 := m4.c1
      have f2 := m4.c2
      clear m3 m4
      go_wp2
      exact ⟨⟨j + 1, by omega, by simp, KC⟩, by simp; omega⟩
    · obtain rfl : j = 3 := by omega
      have e0 := hK.out.1.a.c0
      have e1 := hK.out.1.a.c1
      have e2 := hK.out.1.a.c2
      have f0 := hK.out.1.q.c0
      have f1 := hK.out.1.q.c1
      have f2 := hK.out.1.q.c2
      have hF := Lib.hid hK.out.1.k.b
      clear hK
      go_wp2
      go_ret
      exact ⟨rfl, hF.out⟩
end Go.Proofs.YteccbedmpjeamaaGreatDoor
namespace Go.Proofs.YteccbedmpjeamaaGreatDoor
open Go.RowKit NM QM
theorem dval_big (l : List UInt8) (h : decOK l) (hl : l.length ≤ 1000) (N : Nat) (hN : N = 1000) : dval l < 256^N := by
  have h1 := dval_lt l h.2.1
  have h2 : 10^l.length ≤ 256^l.length := Nat.pow_le_pow_left (by decide) _
  have h3 : 256^l.length ≤ 256^N := Nat.pow_le_pow_right (by decide) (by omega)
  omega
theorem refparse_ok (l : List UInt8) (h : decOK l) (hl : l.length ≤ 1000) (w : World) : Calls Tryz.prog 78 #[.string ⟨l.toArray⟩] w fun e w' => e = .returned (.tuple #[.string (NB (dval l)), .bool true]) ∧ Below w.heap.size w w' := by
  have hp := RefParse_any w ⟨l.toArray⟩ (by show l.toArray.size ≤ _; simp; omega)
  unfold ParseV at hp
  rwa [if_pos h] at hp
theorem refparse_no (l : List UInt8) (h : ¬ decOK l) (hl : l.length ≤ 1000) (w : World) : Calls Tryz.prog 78 #[.string ⟨l.toArray⟩] w fun e w' => e = .returned (.tuple #[.string ⟨#[]⟩, .bool false]) ∧ Below w.heap.size w w' := by
  have hp := RefParse_any w ⟨l.toArray⟩ (by show l.toArray.size ≤ _; simp; omega)
  unfold ParseV at hp
  rwa [if_neg h] at hp
theorem none_form : ParqV none = .tuple #[.agg #[.bool false, .string ⟨#[]⟩, .string ⟨#[]⟩], .bool false] := rfl
theorem rParse (w : World) (s : ByteArray) (hs : s.size ≤ 1000) :
    Calls Tryz.prog 43 #[.string s] w fun e w' => e = .returned (ParqV (parq s)) ∧ Below w.heap.size w w' := by
  rw [← refq_parq s]
  have l1 : (Lib.cut (prest s) [47]).1.length ≤ 1000 := by have := prest_len s; have := cut_len (prest s) [47]; omega
  have l2 : (if (Lib.cut (prest s) [47]).2.2 = true then (Lib.cut (prest s) [47]).2.1 else [49]).length ≤ 1000 := by
    split
    · have := prest_len s; have := cut_len (prest s) [47]; omega
    · decide
  generalize hc1 : (Lib.cut (prest s) [47]).1 = C1 at *
  generalize hd1 : (if (Lib.cut (prest s) [47]).2.2 = true then (Lib.cut (prest s) [47]).2.1 else [49]) = D1 at *
  have hC : (⟨C1.toArray⟩ : ByteArray).data.toList = (Lib.cut (⟨(prest s).toArray⟩ : ByteArray).data.toList [47]).1 := hc1.symm
  have hD : (⟨D1.toArray⟩ : ByteArray).data.toList = (if (Lib.cut (⟨(prest s).toArray⟩ : ByteArray).data.toList [47]).2.2 = true then (Lib.cut (⟨(prest s).toArray⟩ : ByteArray).data.toList [47]).2.1 else [49]) := hd1.symm
  by_cases k1 : decOK C1
  · by_cases k2 : decOK D1
    · by_cases k3 : dval D1 = 0
      · have e : refq s C1 D1 = none := by unfold refq; rw [if_neg (fun h => h.2.2.1 k3)]
        rw [e]
        exact rparse_core w s ⟨(prest s).toArray⟩ ⟨C1.toArray⟩ ⟨D1.toArray⟩ _ hs rfl rfl hC hD (NB (dval C1)) (NB (dval D1)) ⟨#[]⟩ true true false false ⟨#[]⟩ ⟨#[]⟩ _
          (Lib.hid fun W => refparse_ok C1 k1 l1 W) (Lib.hid fun W => refparse_ok D1 k2 l2 W)
          (Lib.hid fun _ _ W => rmake_no W _ _ _ (by unfold fitq; rw [sv_NB, k3]; simp)) (Lib.hid fun _ _ h => by cases h) (Lib.hid fun _ => none_form) (Lib.hid fun _ _ h => by cases h)
      · obtain ⟨N, hN⟩ : ∃ N, N = 1000 := ⟨_, rfl⟩
        have hn := dval_big C1 k1 l1 N hN
        have hd := dval_big D1 k2 l2 N hN
        obtain ⟨g, hg⟩ : ∃ g, Lib.hasPrefix s.data.toList [45] = g := ⟨_, rfl⟩
        have sm := smq_mk g (dval C1) (dval D1) N hn hd k3
        have hr : refq s C1 D1 = if txq (mk g (dval C1) (dval D1)) = s then some (mk g (dval C1) (dval D1)) else none := by
          unfold refq
          rw [hg]
          by_cases h : txq (mk g (dval C1) (dval D1)) = s
          · rw [if_pos ⟨k1, k2, k3, h⟩, if_pos h]
          · rw [if_neg (fun x => h x.2.2.2), if_neg h]
        rw [hr]
        have MK := fun W => rmake_yes W g (dval C1) (dval D1) N hn hd k3 (by omega)
        generalize mk g (dval C1) (dval D1) = a at *
        exact rparse_core w s ⟨(prest s).toArray⟩ ⟨C1.toArray⟩ ⟨D1.toArray⟩ g hs hg rfl hC hD (NB (dval C1)) (NB (dval D1)) (txq a) true true true (decide (a.num < 0)) (NB a.num.natAbs) (NB a.den) _
          (Lib.hid fun W => refparse_ok C1 k1 l1 W) (Lib.hid fun W => refparse_ok D1 k2 l2 W)
          (Lib.hid fun _ _ W => MK W) (Lib.hid fun _ _ _ W => by
            have h := rText W (decide (a.num < 0)) (NB a.num.natAbs) (NB a.den) N (q_szA sm) (q_szB sm) (by omega) (by omega)
            rwa [rvq_QV] at h)
          (Lib.hid fun h => by
            rcases h with h | h | h | h
            · cases h
            · cases h
            · cases h
            · rw [if_neg h]; exact none_form)
          (Lib.hid fun _ _ _ h => by rw [if_pos h]; rfl)
    · have e : refq s C1 D1 = none := by unfold refq; rw [if_neg (fun h => k2 h.2.1)]
      rw [e]
      exact rparse_core w s ⟨(prest s).toArray⟩ ⟨C1.toArray⟩ ⟨D1.toArray⟩ _ hs rfl rfl hC hD (NB (dval C1)) ⟨#[]⟩ ⟨#[]⟩ true false false false ⟨#[]⟩ ⟨#[]⟩ _
        (Lib.hid fun W => refparse_ok C1 k1 l1 W) (Lib.hid fun W => refparse_no D1 k2 l2 W)
        (Lib.hid fun _ h => by cases h) (Lib.hid fun _ h => by cases h) (Lib.hid fun _ => none_form) (Lib.hid fun _ h => by cases h)
  · have e : refq s C1 D1 = none := by unfold refq; rw [if_neg (fun h => k1 h.1)]
    rw [e]
    by_cases k2 : decOK D1
    · exact rparse_core w s ⟨(prest s).toArray⟩ ⟨C1.toArray⟩ ⟨D1.toArray⟩ _ hs rfl rfl hC hD ⟨#[]⟩ (NB (dval D1)) ⟨#[]⟩ false true false false ⟨#[]⟩ ⟨#[]⟩ _
        (Lib.hid fun W => refparse_no C1 k1 l1 W) (Lib.hid fun W => refparse_ok D1 k2 l2 W)
        (Lib.hid fun h => by cases h) (Lib.hid fun h => by cases h) (Lib.hid fun _ => none_form) (Lib.hid fun h => by cases h)
    · exact rparse_core w s ⟨(prest s).toArray⟩ ⟨C1.toArray⟩ ⟨D1.toArray⟩ _ hs rfl rfl hC hD ⟨#[]⟩ ⟨#[]⟩ ⟨#[]⟩ false false false false ⟨#[]⟩ ⟨#[]⟩ _
        (Lib.hid fun W => refparse_no C1 k1 l1 W) (Lib.hid fun W => refparse_no D1 k2 l2 W)
        (Lib.hid fun h => by cases h) (Lib.hid fun h => by cases h) (Lib.hid fun _ => none_form) (Lib.hid fun h => by cases h)
theorem txq_size (q : Rat) (h : SmQ 16 q) : (txq q).size ≤ 200 ∧ 0 < (txq q).size := by
  have h1 := dtext_sz q.num.natAbs 16 h.1
  have h2 := dtext_sz q.den 16 h.2
  have h3 : 0 < (dtext q.num.natAbs).size := by
    have e : (dtext q.num.natAbs).size = (Lib.decDigits q.num.natAbs).length := List.size_toArray
    rw [e]; exact List.length_pos_iff.2 (dec_spec _).2.2.2
  have e1 : (⟨#[45]⟩ : ByteArray).size = 1 := rfl
  have e2 : (⟨#[47]⟩ : ByteArray).size = 1 := rfl
  unfold txq txh
  split <;> split <;> (try simp only [ByteArray.size_append, e1, e2]) <;> omega
theorem ratio_texts_walk (w : World) (x0 y0 z0 : Int) (raw : ByteArray) (c d : Int) (hT : Tp w) (hx : -9223372036854775808 ≤ x0 ∧ x0 ≤ 9223372036854775807) (hy : -9223372036854775808 ≤ y0 ∧ y0 ≤ 9223372036854775807) (hz : -9223372036854775808 ≤ z0 ∧ z0 ≤ 9223372036854775807) (hc : -9223372036854775808 ≤ c ∧ c ≤ 9223372036854775807) (_hd : -9223372036854775808 ≤ d ∧ d ≤ 9223372036854775807) :
    Calls Tryz.prog 9 #[.agg #[.int .i64 x0, .int .i64 y0, .int .i64 z0], .string raw, .agg #[.int .i64 c, .int .i64 d]] w fun e w' => e = .returned (.bool true) ∧ Below w.heap.size w w' := by
  refine ratio_texts_core w x0 y0 z0 c d raw (Lib.hid fun W t => sanity_any W t) (Lib.hid fun W => ?_) (Lib.hid fun t ht => ?_) hT
  · refine (made_q W x0 y0 z0 hx hy hz).mono ?_
    rintro e w' ⟨q, sm, rfl, hb⟩
    obtain ⟨z1, z2⟩ := txq_size q sm
    obtain ⟨k, hk, MD⟩ := mod_nat c (txq q).size ((txq q).size : Int) rfl z2 (by omega) hc
    exact ⟨decide (q.num < 0), NB q.num.natAbs, NB q.den, txq q, k, ⟨hk, z1, fun V t => aText V q 16 sm (by decide) (by decide) t, fun V _ => by
      have h := rText V (decide (q.num < 0)) (NB q.num.natAbs) (NB q.den) 16 (q_szA sm) (q_szB sm) (by decide) (by decide)
      rwa [rvq_QV] at h, fun V t => by
      have h := qParse V (txq q) (by omega) t
      rw [parq_txq] at h
      exact h, MD⟩, rfl, hb⟩
  · have h1 := fun W (t' : Tp W) => qParse W t ht t'
    have h2 := fun W => rParse W t ht
    generalize parq t = p at *
    cases p with
    | none => exact ⟨false, ⟨#[]⟩, ⟨#[]⟩, false, fun W t' => ⟨h1 W t', h2 W⟩⟩
    | some a => exact ⟨decide (a.num < 0), NB a.num.natAbs, NB a.den, true, fun W t' => ⟨h1 W t', h2 W⟩⟩
end Go.Proofs.YteccbedmpjeamaaGreatDoor
