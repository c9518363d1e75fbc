/-
  The walk of the law DigestReads.
-/
import Derived.Test.YtcelgajmockpcaaDoorReadB
import Derived.Test.YtcelgajmockpcaaDoorLawLen
import Derived.Deep.RegionHeld
namespace Go.Proofs.YtcelgajmockpcaaDoor
open Go.RowKit SH
/-- the hash and the two numbers lie in their blocks -/
structure RS (w : World) (l : List UInt8) (q0 q1 : Int) (w' : World) : Prop where
  h : HM w' w.heap.size l
  c0 : w'.cell? ⟨w.heap.size + 1, 0, none⟩ = some (.int .i64 q0)
  c1 : w'.cell? ⟨w.heap.size + 1, 1, none⟩ = some (.int .i64 q1)
  lt : w.heap.size + 1 < w'.heap.size
  b : Below w.heap.size w w'
theorem RS.next {w u v : World} {l : List UInt8} {q0 q1 : Int} (h : RS w l q0 q1 u) (b : Below u.heap.size u v) : RS w l q0 q1 v :=
  ⟨h.h.below b h.h.lt, (b.cell (p := ⟨w.heap.size + 1, 0, none⟩) h.lt).trans h.c0, (b.cell (p := ⟨w.heap.size + 1, 1, none⟩) h.lt).trans h.c1, Nat.lt_of_lt_of_le h.lt b.size, h.b.trans (b.mono h.b.size)⟩
theorem RS.drew {w u : World} {l : List UInt8} {q0 q1 : Int} (h : RS w l q0 q1 u) : RS w l q0 q1 u.drew := ⟨h.h, h.c0, h.c1, h.lt, h.b.drew⟩
theorem rs_start (w : World) (l : List UInt8) (q0 q1 : Int) (t : TypeId) : RS w l q0 q1 ((w.alloc (.cells (hcells l) 23)).alloc (.cells #[.int .i64 q0, .int .i64 q1] t)) where
  h := heap_alloc2_old _ _ _
  c0 := by rw [show w.heap.size + 1 = (w.alloc (.cells (hcells l) 23)).heap.size by simp]; exact World.cell?_alloc_at _ _ _ _ rfl
  c1 := by rw [show w.heap.size + 1 = (w.alloc (.cells (hcells l) 23)).heap.size by simp]; exact World.cell?_alloc_at _ _ _ _ rfl
  lt := by simp
  b := ((Below.refl w.heap.size w).alloc (Nat.le_refl _) _).alloc (by simp) _
theorem step_store_row {P : Program} {ops : Array Oper} {o : Oper} {a : Act} {w : World} {K : Act → World → Prop} {Q : Exit → Act → World → Prop} {E : Prop} (hw : Region.wanted o (yielded ops a.tmps) = true) (ty : TypeId) (x y : Operand) (ho : o.op = .store ty x y)
    (g : Nat) (cells : Array Value) (hx : a.eval x = .pointer (some ⟨g, 0, none⟩)) (hy : a.eval y = .agg cells)
    (t : TypeId) (old : Array Value) (hg : w.heap[g]? = some (.cells old t (0, 0))) (hi : (P.info? ty).map (·.size) = some cells.size)
    (hold : old.size = cells.size) (h1 : cells.all (·.oneCell') = true)
    (h : K (a.put o.dst undef) (w.setRow g cells)) : if Region.wanted o (yielded ops a.tmps) = true then Oper.wp P o a w K Q else E := by
  rw [if_pos hw]
  exact wp_store_row ty x y ho g cells hx hy t old hg hi hold h1 h
theorem conv1 (W : World) (g : Nat) (b : UInt8) (hc : W.cell? ⟨g, 0, none⟩ = some (.int .u8 ((b.toNat : Nat) : Int))) :
    (convert 30 9 (.slice (some ⟨g, 0, none⟩) 1 1)).run Tryd.prog W = .ok (.string ⟨#[b]⟩) W := by
  have h := run_convert_bytes_back (P := Tryd.prog) W 30 9 5 ⟨g, 0, none⟩ 1 [b] Tryd.underlying30 Tryd.underlying5 Tryd.underlying9 (fun j hj => by
    obtain rfl : j = 0 := by simpa using hj
    simpa [Addr.add] using hc)
  exact h
theorem neq_hash (w : World) (a b : List UInt8) (ha : a.length = 32) (hb : b.length = 32) : (binOp .neq 23 (hval a) (hval b)).run Tryd.prog w = .ok (.bool (!(a == b))) w := by
  rw [run_neq_struct]
  have h2 := run_equalIn_bytes (P := Tryd.prog) w 9998 23 5 32 Tryd.underlying23 Tryd.underlying5 sizeOf8 a b ha hb
  rw [show (Op.equalIn 10000 23 (.agg (hcells a)) (.agg (hcells b))).run Tryd.prog w = .ok (a == b) w from h2]
  rfl
theorem rd_some_length {l r : List UInt8} (h : rdo l = some r) : r.length = 32 := by
  unfold rdo at h
  split at h
  · have := rd_length l r h; omega
  · cases h
theorem RDV_form (l : List UInt8) : ∃ (r : List UInt8) (ok : Bool), r.length = 32 ∧ RDV l = .tuple #[hval r, .bool ok] := by
  cases h : rdo l with
  | none => exact ⟨List.replicate 32 0, false, by simp, RDV_none h⟩
  | some r => exact ⟨r, true, rd_some_length h, RDV_some h⟩
theorem info5 : Hid ((Tryd.prog.info? 31).map (·.size) = some 5) := Lib.hid (by kernel_rfl)
/-- what the rest of the law wants of the world -/
def FX (w : World) (l : List UInt8) (q0 q1 : Int) (p g : Nat) (X : World) : Prop :=
  RS w l q0 q1 X ∧ HM X p l ∧ g < X.heap.size ∧ ∀ j, j < 5 → ∃ S : ByteArray, X.cell? ⟨g, j, none⟩ = some (.string S)
theorem fx_of {w : World} {l : List UInt8} {q0 q1 : Int} {p g : Nat} {W X : World} (r : RS w l q0 q1 W) (h : HM W p l) (hb : Below W.heap.size W X) (a b c d e : ByteArray) (t : TypeId) (old : Array Value) (hs : old.size = 5) (hg : X.heap[g]? = some (.cells old t (0, 0))) (hl : W.heap.size ≤ g) :
    FX w l q0 q1 p g (X.setRow g #[.string a, .string b, .string c, .string d, .string e]) := by
  have hb2 : Below W.heap.size W (X.setRow g #[.string a, .string b, .string c, .string d, .string e]) := Below.setRow' hb hl _
  have hr := setRow_heap X g old #[.string a, .string b, .string c, .string d, .string e] t _ hg
  refine ⟨r.next hb2, h.below hb2 h.lt, (Array.getElem?_eq_some_iff.1 hr).1, fun j hj => ?_⟩
  have : (X.setRow g #[.string a, .string b, .string c, .string d, .string e]).cell? ⟨g, j, none⟩ = (#[Value.string a, .string b, .string c, .string d, .string e])[j]? := cell_of_row _ g j _ _ _ hr
  rw [this]
  match j, hj with
  | 0, _ => exact ⟨a, rfl⟩
  | 1, _ => exact ⟨b, rfl⟩
  | 2, _ => exact ⟨c, rfl⟩
  | 3, _ => exact ⟨d, rfl⟩
  | 4, _ => exact ⟨e, rfl⟩
theorem wpList_load_row_w {P : Program} {ops : Array Oper} {rest : List Oper} {o : Oper} {a : Act} {w : World} {Q : Exit → Act → World → Prop} (hw : Region.wanted o (yielded ops a.tmps) = true) (ty : TypeId) (x : Operand) (ho : o.op = .load ty x)
    (g : Nat) (hx : a.eval x = .pointer (some ⟨g, 0, none⟩)) (t : TypeId) (cs : Array Value) (fr : Nat × Nat) (d : TypeDesc) (hg : w.heap[g]? = some (.cells cs t fr))
    (hu : P.underlying ty = some d) (hd : (match d with | .struct _ | .array _ _ => true | _ => false) = true) (hi : (P.info? ty).map (·.size) = some cs.size)
    (h : wpList P ops Q rest (a.put o.dst (.agg cs)) w) : wpList P ops Q (o :: rest) a w :=
  wpList_step fun _ hK => by rw [if_pos hw]; exact wp_load_row ty x ho g hx t cs fr d hg hu hd hi (hK _ _ h)
set_option maxRecDepth 100000 in
set_option maxHeartbeats 16000000 in
theorem reads_walk (w : World) (l : List UInt8) (hl : l.length = 32) (q0 q1 : Int) (hq0 : -9223372036854775808 ≤ q0 ∧ q0 ≤ 9223372036854775807) (hq1 : -9223372036854775808 ≤ q1 ∧ q1 ≤ 9223372036854775807) (s : ByteArray) (hT : TB w) :
    Calls Tryd.prog 3 #[hval l, .agg #[.int .i64 q0, .int .i64 q1], .string s] w fun e w' => e = .returned (.bool true) ∧ Below w.heap.size w w' := by
  have rs := rs_start w l q0 q1 24
  have hsz : Hid ((Tryd.prog.info? 23).map (·.size) = some (hcells l).size) := Lib.hid (by rw [hcells_size, hl]; exact info8T.out)
  have hsz2 : Hid ((hcells (List.replicate 32 0)).size = (hcells l).size) := Lib.hid (by rw [hcells_size, hcells_size, hl]; rfl)
  have hT2 := hT.below (rs.b)
  have HK := Lib.hid (And.intro hl (And.intro hT2 rs)); clear hl hT hT2 rs
  have hmd := fun W => mod_any W q0 64 64 rfl (by omega) (by omega) hq0
  have hml := (modv_spec q0 64 (by omega)).2
  generalize modv q0 64 = k at *
  have HM0 := Lib.hid hmd; clear hmd
  obtain ⟨W0, hW0⟩ : ∃ W, (w.alloc (.cells (hcells l) 23)).alloc (.cells #[.int .i64 q0, .int .i64 q1] 24) = W := ⟨_, rfl⟩
  rw [hW0] at HK
  go_enter Tryd.func3, Tryd.ntmps3
  go_upto_region 1 with fail
  clear hW0
  go_wp2_with fail
  go_must (go_fit (sane _ HK.out.2.1))
  rintro e w1 ⟨rfl, b1⟩
  have r1 := HK.out.2.2.next b1
  clear b1
  have hh1 := r1.h
  go_wp2_with (refine wpList_load_row rfl 23 (.tmp 3) rfl w.heap.size rfl 23 (hcells l) (0, 0) _ hh1 Tryd.underlying23 rfl hsz.out ?_)
  refine (Text_any _ l HK.out.1).mono ?_
  rintro e w2 ⟨T, hTT, rfl, b2⟩
  have hTs : T.size = 64 := by rw [← size_toList, hTT, hex_length, HK.out.1]
  have r2 := r1.next b2
  have hc0 := r2.c0
  have HTT := Lib.hid (RDV_some (l := T.data.toList) (r := l) (by unfold rdo; rw [if_pos (by rw [size_toList]; exact hTs), hTT]; exact rd_hex l))
  clear r1 b2 hh1 hTT
  go_wp2_with fail
  refine (HM0.out _).mono ?_
  rintro e w3 ⟨rfl, rfl⟩
  go_wp2_with fail
  refine (Read_any _ T).mono ?_
  rintro e w4 ⟨rfl, b4⟩
  rw [HTT.out]
  have r4 := r2.next b4
  clear r2 b4 hc0
  have hn32 : HM (w4.alloc (.cells (hcells (List.replicate 32 0)) 23)) w4.heap.size (List.replicate 32 0) := heap_alloc_new _ _
  have hm6 : HM ((w4.alloc (.cells (hcells (List.replicate 32 0)) 23)).setRow w4.heap.size (hcells l)) w4.heap.size l := setRow_heap _ _ _ _ _ _ hn32
  have hb6 : Below w4.heap.size w4 ((w4.alloc (.cells (hcells (List.replicate 32 0)) 23)).setRow w4.heap.size (hcells l)) := Below.setRow' ((Below.refl _ w4).alloc (Nat.le_refl _) _) (Nat.le_refl _) _
  have r6 := r4.next hb6
  have H6 := Lib.hid (And.intro hm6 r6)
  clear r4 hb6 hm6 r6
  go_upto_region 7 with (refine wpList_store_row rfl 23 (.tmp 10) (.tmp 30) rfl w4.heap.size (hcells l) rfl rfl 23 _ hn32 hsz.out hsz2.out (hcells_one _) ?_)
  clear hn32
  change Code.wp _ _ _ _ ((w4.alloc (.cells (hcells (List.replicate 32 0)) 23)).setRow w4.heap.size (hcells l))
  generalize (w4.alloc (.cells (hcells (List.replicate 32 0)) 23)).setRow w4.heap.size (hcells l) = W6 at *
  generalize w4.heap.size = p at *
  obtain ⟨hm6, r6⟩ := H6.out
  clear H6
  have c1 : W6.drew.cell? ⟨w.heap.size + 1, 1, none⟩ = some (.int .i64 q1) := r6.c1
  have hk0 : (0 : Int) ≤ (k : Int) := by omega
  have hk1 : (k : Int) ≤ 64 := by omega
  have hk2 : (k : Int) + 1 ≤ 64 := by omega
  have hk3 : (0 : Int) ≤ (k : Int) + 1 := by omega
  obtain ⟨k', hk'⟩ : ∃ k', k + 1 = k' := ⟨_, rfl⟩
  have hki : (k : Int) + 1 = (k' : Int) := by omega
  have hkn : ((k' : Int)).toNat = k' := rfl
  have hk5 : (0 : Int) ≤ (k' : Int) := by omega
  have hk6 : (k' : Int) ≤ 64 := by omega
  have xk' : IntKind.i64.wrap (k' : Int) = (k' : Int) := IntWalk.i64_in _ ⟨by omega, by omega⟩
  have xk : IntKind.i64.wrap (k : Int) = (k : Int) := IntWalk.i64_in _ ⟨by omega, by omega⟩
  have hbA : (9223372036854775807 < T.size + 1) = False := eq_false (by omega)
  have hbB : (9223372036854775807 < 64 + 1) = False := eq_false (by omega)
  have mk : min k 64 = k := by omega
  have hbC : (9223372036854775807 < k') = False := eq_false (by omega)
  have hbD : (9223372036854775807 < k' + (64 - k')) = False := eq_false (by omega)
  obtain ⟨b, hb⟩ : ∃ b : UInt8, q1 % 256 = ((b.toNat : Nat) : Int) := ⟨UInt8.ofNat (q1 % 256).toNat, by simp; omega⟩
  have hb2 : IntKind.u8.wrap q1 = ((b.toNat : Nat) : Int) := by rw [IntKind.wrap_u8']; exact hb
  refine wp_region_any (by kernel_rfl) ?_
  change wpAny _ _ _ _ _ _ _ (World.drew _)
  have r7 := r6.drew
  have hm7 : HM W6.drew p l := hm6
  clear r6 hm6
  generalize W6.drew = W7 at *
  have c2 : (W7.alloc (.cells #[.string ⟨#[]⟩, .string ⟨#[]⟩, .string ⟨#[]⟩, .string ⟨#[]⟩, .string ⟨#[]⟩] 31)).cell? ⟨w.heap.size + 1, 1, none⟩ = some (.int .i64 q1) := (World.cell?_alloc_past _ _ _ r7.lt).trans c1
  have v1 := conv1 (W7.alloc (.cells #[.int .u8 ((b.toNat : Nat) : Int)] 5)) W7.heap.size b (World.cell?_alloc_at _ _ _ _ rfl)
  have v2 := conv1 ((W7.alloc (.cells #[.int .u8 ((b.toNat : Nat) : Int)] 5)).alloc (.cells #[.string ⟨#[]⟩, .string ⟨#[]⟩, .string ⟨#[]⟩, .string ⟨#[]⟩, .string ⟨#[]⟩] 31)) W7.heap.size b ((World.cell?_alloc_past _ _ _ (by simp)).trans (World.cell?_alloc_at _ _ _ _ rfl))
  have v3 := conv1 ((W7.alloc (.cells #[.string ⟨#[]⟩, .string ⟨#[]⟩, .string ⟨#[]⟩, .string ⟨#[]⟩, .string ⟨#[]⟩] 31)).alloc (.cells #[.int .u8 ((b.toNat : Nat) : Int)] 5)) (W7.heap.size + 1) b (by rw [show W7.heap.size + 1 = (W7.alloc (.cells #[.string ⟨#[]⟩, .string ⟨#[]⟩, .string ⟨#[]⟩, .string ⟨#[]⟩, .string ⟨#[]⟩] 31)).heap.size by simp]; exact World.cell?_alloc_at _ _ _ _ rfl)
  have zA0 : ((W7.alloc (.cells #[.int .u8 ((b.toNat : Nat) : Int)] 5)).alloc (.cells #[.string ⟨#[]⟩, .string ⟨#[]⟩, .string ⟨#[]⟩, .string ⟨#[]⟩, .string ⟨#[]⟩] 31)).heap[W7.heap.size + 1]? = some (.cells #[.string ⟨#[]⟩, .string ⟨#[]⟩, .string ⟨#[]⟩, .string ⟨#[]⟩, .string ⟨#[]⟩] 31) := heap_alloc2_new _ _ _
  have zB0 : ((W7.alloc (.cells #[.string ⟨#[]⟩, .string ⟨#[]⟩, .string ⟨#[]⟩, .string ⟨#[]⟩, .string ⟨#[]⟩] 31)).alloc (.cells #[.int .u8 ((b.toNat : Nat) : Int)] 5)).heap[W7.heap.size]? = some (.cells #[.string ⟨#[]⟩, .string ⟨#[]⟩, .string ⟨#[]⟩, .string ⟨#[]⟩, .string ⟨#[]⟩] 31) := heap_alloc2_old _ _ _
  have bA : Below W7.heap.size W7 ((W7.alloc (.cells #[.int .u8 ((b.toNat : Nat) : Int)] 5)).alloc (.cells #[.string ⟨#[]⟩, .string ⟨#[]⟩, .string ⟨#[]⟩, .string ⟨#[]⟩, .string ⟨#[]⟩] 31)) := ((Below.refl _ W7).alloc (Nat.le_refl _) _).alloc (by simp) _
  have bB : Below W7.heap.size W7 ((W7.alloc (.cells #[.string ⟨#[]⟩, .string ⟨#[]⟩, .string ⟨#[]⟩, .string ⟨#[]⟩, .string ⟨#[]⟩] 31)).alloc (.cells #[.int .u8 ((b.toNat : Nat) : Int)] 5)) := ((Below.refl _ W7).alloc (Nat.le_refl _) _).alloc (by simp) _
  have FA := Lib.hid (fx_of r7 hm7 bA s (T.extract 0 k ++ ⟨#[b]⟩ ++ T.extract k' 64) (T.extract 0 k) (T ++ ⟨#[48]⟩) (T.extract 0 k ++ ⟨#[65]⟩ ++ T.extract k' 64) _ _ rfl zA0 (by omega))
  have FB := Lib.hid (fx_of r7 hm7 bB s (T.extract 0 k ++ ⟨#[b]⟩ ++ T.extract k' 64) (T.extract 0 k) (T ++ ⟨#[48]⟩) (T.extract 0 k ++ ⟨#[65]⟩ ++ T.extract k' 64) _ _ rfl zB0 (by omega))
  have zA := Lib.hid zA0
  have zB := Lib.hid zB0
  have R7 := Lib.hid (And.intro r7 hm7)
  clear zA0 zB0 bA bB r7 hm7
  refine wpAny_take (i := 0) (v := ?v0) rfl (by kernel_rfl) (by kernel_rfl) (by kernel_rfl) (fun _ _ _ h => h) (Or.inl ⟨by rfl, ?y0⟩) ?r0
  case y0 => (intro w; go_simp; try with_reducible rfl)
  refine wpAny_take (i := 1) (v := ?v1) rfl (by kernel_rfl) (by kernel_rfl) (by kernel_rfl) (fun _ _ _ h => h) (Or.inl ⟨by rfl, ?y1⟩) ?r1
  case y1 => (intro w; go_simp; try with_reducible rfl)
  refine wpAny_take (i := 2) (v := ?v2) rfl (by kernel_rfl) (by kernel_rfl) (by kernel_rfl) (fun _ _ _ h => h) (Or.inl ⟨by rfl, ?y2⟩) ?r2
  case y2 => (intro w; go_simp; try with_reducible rfl)
  refine wpAny_take (i := 3) (v := ?v3) rfl (by kernel_rfl) (by kernel_rfl) (by kernel_rfl) (fun _ _ _ h => h) (Or.inl ⟨by rfl, ?y3⟩) ?r3
  case y3 => (intro w; go_simp; try with_reducible rfl)
  refine wpAny_take (i := 4) (v := ?v4) rfl (by kernel_rfl) (by kernel_rfl) (by kernel_rfl) (fun _ _ _ h => h) (Or.inl ⟨by rfl, ?y4⟩) ?r4
  case y4 => (intro w; go_simp; try with_reducible rfl)
  refine wpAny_take (i := 10) (v := ?v10) rfl (by kernel_rfl) (by kernel_rfl) (by kernel_rfl) (fun _ _ _ h => h) (Or.inl ⟨by rfl, ?y10⟩) ?r10
  case y10 => (intro w; go_simp; try with_reducible rfl)
  go_simp
  refine wpAny_take (i := 11) (v := ?v11) rfl (by kernel_rfl) (by kernel_rfl) (by kernel_rfl) (fun _ _ _ h => h) (Or.inl ⟨by rfl, ?y11⟩) ?r11
  case y11 => (intro w; go_simp; try with_reducible rfl)
  refine wpAny_take (i := 12) (v := ?v12) rfl (by kernel_rfl) (by kernel_rfl) (by kernel_rfl) (fun _ _ _ h => h) (Or.inl ⟨by rfl, ?y12⟩) ?r12
  case y12 => (intro w; go_simp; try with_reducible rfl)
  refine wpAny_take (i := 13) (v := ?v13) rfl (by kernel_rfl) (by kernel_rfl) (by kernel_rfl) (fun _ _ _ h => h) (Or.inl ⟨by rfl, ?y13⟩) ?r13
  case y13 => (intro w; go_simp; try with_reducible rfl)
  refine wpAny_take (i := 15) (v := ?v15) rfl (by kernel_rfl) (by kernel_rfl) (by kernel_rfl) (fun _ _ _ h => h) (Or.inl ⟨by rfl, ?y15⟩) ?r15
  case y15 => (intro w; go_simp; try with_reducible rfl)
  refine wpAny_take (i := 16) (v := ?v16) rfl (by kernel_rfl) (by kernel_rfl) (by kernel_rfl) (fun _ _ _ h => h) (Or.inl ⟨by rfl, ?y16⟩) ?r16
  case y16 => (intro w; go_simp; try with_reducible rfl)
  refine wpAny_take (i := 17) (v := ?v17) rfl (by kernel_rfl) (by kernel_rfl) (by kernel_rfl) (fun _ _ _ h => h) (Or.inl ⟨by rfl, ?y17⟩) ?r17
  case y17 => (intro w; go_simp; try with_reducible rfl)
  go_simp
  refine wpAny_take (i := 18) (v := ?v18) rfl (by kernel_rfl) (by kernel_rfl) (by kernel_rfl) (fun _ _ _ h => h) (Or.inl ⟨by rfl, ?y18⟩) ?r18
  case y18 => (intro w; go_simp; try with_reducible rfl)
  refine wpAny_take (i := 19) (v := ?v19) rfl (by kernel_rfl) (by kernel_rfl) (by kernel_rfl) (fun _ _ _ h => h) (Or.inl ⟨by rfl, ?y19⟩) ?r19
  case y19 => (intro w; go_simp; try with_reducible rfl)
  refine wpAny_take (i := 20) (v := ?v20) rfl (by kernel_rfl) (by kernel_rfl) (by kernel_rfl) (fun _ _ _ h => h) (Or.inl ⟨by rfl, ?y20⟩) ?r20
  case y20 => (intro w; go_simp; try with_reducible rfl)
  refine wpAny_take (i := 21) (v := ?v21) rfl (by kernel_rfl) (by kernel_rfl) (by kernel_rfl) (fun _ _ _ h => h) (Or.inl ⟨by rfl, ?y21⟩) ?r21
  case y21 => (intro w; go_simp; try with_reducible rfl)
  refine wpAny_take (i := 22) (v := ?v22) rfl (by kernel_rfl) (by kernel_rfl) (by kernel_rfl) (fun _ _ _ h => h) (Or.inl ⟨by rfl, ?y22⟩) ?r22
  case y22 => (intro w; go_simp; try with_reducible rfl)
  refine wpAny_take (i := 23) (v := ?v23) rfl (by kernel_rfl) (by kernel_rfl) (by kernel_rfl) (fun _ _ _ h => h) (Or.inl ⟨by rfl, ?y23⟩) ?r23
  case y23 => (intro w; go_simp; try with_reducible rfl)
  go_simp
  refine wpAny_take (i := 24) (v := ?v24) rfl (by kernel_rfl) (by kernel_rfl) (by kernel_rfl) (fun _ _ _ h => h) (Or.inl ⟨by rfl, ?y24⟩) ?r24
  case y24 => (intro w; go_simp; try with_reducible rfl)
  refine wpAny_take (i := 25) (v := ?v25) rfl (by kernel_rfl) (by kernel_rfl) (by kernel_rfl) (fun _ _ _ h => h) (Or.inl ⟨by rfl, ?y25⟩) ?r25
  case y25 => (intro w; go_simp; try with_reducible rfl)
  refine wpAny_take (i := 26) (v := ?v26) rfl (by kernel_rfl) (by kernel_rfl) (by kernel_rfl) (fun _ _ _ h => h) (Or.inl ⟨by rfl, ?y26⟩) ?r26
  case y26 => (intro w; go_simp; try with_reducible rfl)
  refine wpAny_take (i := 27) (v := ?v27) rfl (by kernel_rfl) (by kernel_rfl) (by kernel_rfl) (fun _ _ _ h => h) (Or.inl ⟨by rfl, ?y27⟩) ?r27
  case y27 => (intro w; go_simp; try with_reducible rfl)
  refine wpAny_take (i := 28) (v := ?v28) rfl (by kernel_rfl) (by kernel_rfl) (by kernel_rfl) (fun _ _ _ h => h) (Or.inl ⟨by rfl, ?y28⟩) ?r28
  case y28 => (intro w; go_simp; try with_reducible rfl)
  go_simp
  refine wpAny_ready (rs := [5, 30]) (by kernel_rfl) (by simp) ?_
  refine AllReady.cons rfl (fun K hK => ?_) (AllReady.cons rfl (fun K hK => ?_) AllReady.nil)
  · go_simp
    refine hK _ _ ?_
    clear hK K
    refine wpAny_take (i := 6) (v := ?va6) rfl (by kernel_rfl) (by kernel_rfl) (by kernel_rfl) (fun _ _ _ h => h) (Or.inl ⟨by rfl, ?ya6⟩) ?ra6
    case ya6 => (intro w; go_simp; try with_reducible rfl)
    refine wpAny_ready (rs := [7, 30]) (by kernel_rfl) (by simp) ?_
    refine AllReady.cons rfl (fun K hK => ?_) (AllReady.cons rfl (fun K hK => ?_) AllReady.nil)
    · go_simp
      refine hK _ _ ?_
      clear hK K
      refine wpAny_ready (rs := [8, 30]) (by kernel_rfl) (by simp) ?_
      refine AllReady.cons rfl (fun K hK => ?_) (AllReady.cons rfl (fun K hK => ?_) AllReady.nil)
      · go_simp
        refine hK _ _ ?_
        clear hK K
        refine wpAny_take (i := 9) (v := ?vabc9) rfl (by kernel_rfl) (by kernel_rfl) (by kernel_rfl) (fun _ _ _ h => h) (Or.inl ⟨by rfl, ?yabc9⟩) ?rabc9
        case yabc9 => (intro w; go_simp; try with_reducible rfl)
        go_simp
        refine wpAny_take (i := 14) (v := ?vabc14) rfl (by kernel_rfl) (by kernel_rfl) (by kernel_rfl) (fun _ _ _ h => h) (Or.inl ⟨by rfl, ?yabc14⟩) ?rabc14
        case yabc14 => (intro w; go_simp; try with_reducible rfl)
        go_simp
        refine wpAny_take (i := 29) (v := ?vabc29) rfl (by kernel_rfl) (by kernel_rfl) (by kernel_rfl) (fun _ _ _ h => h) (Or.inl ⟨by rfl, ?yabc29⟩) ?rabc29
        case yabc29 => (intro w; go_simp; try with_reducible rfl)
        go_simp
        refine wpAny_ready (rs := [30]) (by kernel_rfl) (by simp) ?_
        refine AllReady.cons rfl (fun K hK => ?_) AllReady.nil
        go_simp
        refine hK _ _ ?_
        clear hK K
        refine wpAny_ready (rs := [31]) (by kernel_rfl) (by simp) ?_
        refine AllReady.cons rfl (fun K hK => ?_) AllReady.nil
        refine step_store_row (by first | rfl | (simp [Region.wanted, yielded])) 31 (.tmp 12) (.tmp 61) rfl (W7.heap.size + 1) #[.string s, .string (T.extract 0 k ++ ⟨#[b]⟩ ++ T.extract k' 64), .string (T.extract 0 k), .string (T ++ ⟨#[48]⟩), .string (T.extract 0 k ++ ⟨#[65]⟩ ++ T.extract k' 64)] (by first | rfl | (simp [Act.eval])) (by first | rfl | (simp [Act.eval])) 31 _ zA.out info5.out rfl (by simp [Value.oneCell']) ?_
        refine hK _ _ ?_
        clear hK K
        refine wpAny_done (by kernel_rfl) ?_ _
        obtain ⟨x1, x2, x3, x4⟩ := FA.out
        generalize ((W7.alloc (.cells #[.int .u8 ((b.toNat : Nat) : Int)] 5)).alloc (.cells #[.string ⟨#[]⟩, .string ⟨#[]⟩, .string ⟨#[]⟩, .string ⟨#[]⟩, .string ⟨#[]⟩] 31)).setRow (W7.heap.size + 1) #[.string s, .string (T.extract 0 k ++ ⟨#[b]⟩ ++ T.extract k' 64), .string (T.extract 0 k), .string (T ++ ⟨#[48]⟩), .string (T.extract 0 k ++ ⟨#[65]⟩ ++ T.extract k' 64)] = X at *
        generalize (W7.heap.size + 1) = g at *
        have HX4 := Lib.hid x4
        have HX12 := Lib.hid (And.intro x1 x2)
        clear x1 x2 x4 c1 c2 v1 v2 v3 hk0 hk1 hk2 hk3 hk' hki hkn hk5 hk6 xk' xk hbA hbB mk hbC hbD hb hb2 FA FB zA zB R7
        go_wp2_with fail
        go_loopw [13] (fun i wr => ∃ j : Nat, j ≤ 5 ∧ i = .int .i64 j ∧ Below X.heap.size X wr) (fun i _ => 5 - (intOf i).toNat)
        case atStart => exact ⟨0, by omega, rfl, Below.refl _ _⟩
        case round =>
          obtain ⟨j, hj, rfl, hBr⟩ := hrel
          by_cases hj5 : j < 5
          · obtain ⟨S, hS⟩ := HX4.out j hj5
            have d0 := (hBr.cell (p := ⟨g, j, none⟩) x3).trans hS
            obtain ⟨r, ok, hr, hform⟩ := RDV_form S.data.toList
            have R1 := fun W => Read_any W S
            have R2 := fun W => refRead_any W S
            rw [hform] at R1 R2
            have R12 := Lib.hid (And.intro R1 R2)
            have hne := fun W => neq_hash W r r hr hr
            have hrr : (r == r) = true := by simp
            rw [hrr] at hne
            have szr : Hid ((Tryd.prog.info? 23).map (·.size) = some (hcells r).size) := Lib.hid (by rw [hcells_size, hr]; exact info8T.out)
            have szr2 : Hid ((hcells (List.replicate 32 0)).size = (hcells r).size) := Lib.hid (by rw [hcells_size, hcells_size, hr]; rfl)
            have HNE := Lib.hid hne
            clear R1 R2 hform hrr hne
            go_wp2_with fail
            refine (R12.out.1 _).mono ?_
            rintro e u1 ⟨rfl, b1⟩
            have n1 : HM (u1.alloc (.cells (hcells (List.replicate 32 0)) 23)) u1.heap.size (List.replicate 32 0) := heap_alloc_new _ _
            have m1 : HM ((u1.alloc (.cells (hcells (List.replicate 32 0)) 23)).setRow u1.heap.size (hcells r)) u1.heap.size r := setRow_heap _ _ _ _ _ _ n1
            have B1 : Below X.heap.size X ((u1.alloc (.cells (hcells (List.replicate 32 0)) 23)).setRow u1.heap.size (hcells r)) := by
              have hb2 := hBr.trans (b1.mono hBr.size)
              exact Below.setRow' (hb2.alloc hb2.size _) hb2.size _
            have d1 := (B1.cell (p := ⟨g, j, none⟩) x3).trans hS
            have HB1 := Lib.hid (And.intro m1 B1)
            clear m1 B1 b1 d0
            go_upto_region 12 with (refine wpList_store_row rfl 23 (.tmp 14) (.tmp 71) rfl u1.heap.size (hcells r) rfl rfl 23 _ n1 szr.out szr2.out (hcells_one _) ?_)
            change Code.wp _ _ _ _ ((u1.alloc (.cells (hcells (List.replicate 32 0)) 23)).setRow u1.heap.size (hcells r))
            clear n1
            generalize (u1.alloc (.cells (hcells (List.replicate 32 0)) 23)).setRow u1.heap.size (hcells r) = u2 at *
            generalize u1.heap.size = g1 at *
            go_wp2_with fail
            refine (R12.out.2 _).mono ?_
            rintro e u3 ⟨rfl, b3⟩
            have n3 : HM (u3.alloc (.cells (hcells (List.replicate 32 0)) 23)) u3.heap.size (List.replicate 32 0) := heap_alloc_new _ _
            have m3 : HM ((u3.alloc (.cells (hcells (List.replicate 32 0)) 23)).setRow u3.heap.size (hcells r)) u3.heap.size r := setRow_heap _ _ _ _ _ _ n3
            have B3 : Below u2.heap.size u2 ((u3.alloc (.cells (hcells (List.replicate 32 0)) 23)).setRow u3.heap.size (hcells r)) := Below.setRow' (b3.alloc b3.size _) b3.size _
            have m1' := HB1.out.1.below B3 HB1.out.1.lt
            have B4 := Lib.hid (HB1.out.2.trans (B3.mono HB1.out.2.size))
            clear b3 B3 HB1
            go_upto_region 13 with (refine wpList_store_row rfl 23 (.tmp 16) (.tmp 78) rfl u3.heap.size (hcells r) rfl rfl 23 _ n3 szr.out szr2.out (hcells_one _) ?_)
            change Code.wp _ _ _ _ ((u3.alloc (.cells (hcells (List.replicate 32 0)) 23)).setRow u3.heap.size (hcells r))
            clear n3
            generalize (u3.alloc (.cells (hcells (List.replicate 32 0)) 23)).setRow u3.heap.size (hcells r) = u4 at *
            generalize u3.heap.size = g3 at *
            have hne := HNE.out
            go_wp2_with (first | (refine wpList_load_row rfl 23 (.tmp 14) rfl g1 rfl 23 (hcells r) (0, 0) _ m1' Tryd.underlying23 rfl szr.out ?_) | (refine wpList_load_row rfl 23 (.tmp 16) rfl g3 rfl 23 (hcells r) (0, 0) _ m3 Tryd.underlying23 rfl szr.out ?_))
            exact ⟨⟨j + 1, by omega, by go_num, B4.out⟩, by simp only [intOf]; omega⟩
          · obtain rfl : j = 5 := by omega
            have hm3 := HX12.out.2.below hBr HX12.out.2.lt
            have rs3 := HX12.out.1.next hBr
            have hh3 := rs3.h
            have heq := fun W => eql_same W l HK.out.1
            have HR3 := Lib.hid rs3
            clear rs3 hBr
            go_wp2_with (first | (refine wpList_load_row_w (by first | rfl | (simp [Region.wanted, yielded])) 23 (.tmp 10) rfl p rfl 23 (hcells l) (0, 0) _ hm3 Tryd.underlying23 rfl hsz.out ?_) | (refine wpList_load_row_w (by first | rfl | (simp [Region.wanted, yielded])) 23 (.tmp 3) rfl w.heap.size rfl 23 (hcells l) (0, 0) _ hh3 Tryd.underlying23 rfl hsz.out ?_))
            go_ret
            exact ⟨rfl, HR3.out.b⟩
      · go_simp
        refine hK _ _ ?_
        clear hK K
        refine wpAny_ready (rs := [8]) (by kernel_rfl) (by simp) ?_
        refine AllReady.cons rfl (fun K hK => ?_) AllReady.nil
        go_simp
        refine hK _ _ ?_
        clear hK K
        refine wpAny_take (i := 9) (v := ?vabdc9) rfl (by kernel_rfl) (by kernel_rfl) (by kernel_rfl) (fun _ _ _ h => h) (Or.inl ⟨by rfl, ?yabdc9⟩) ?rabdc9
        case yabdc9 => (intro w; go_simp; try with_reducible rfl)
        go_simp
        refine wpAny_take (i := 14) (v := ?vabdc14) rfl (by kernel_rfl) (by kernel_rfl) (by kernel_rfl) (fun _ _ _ h => h) (Or.inl ⟨by rfl, ?yabdc14⟩) ?rabdc14
        case yabdc14 => (intro w; go_simp; try with_reducible rfl)
        go_simp
        refine wpAny_take (i := 29) (v := ?vabdc29) rfl (by kernel_rfl) (by kernel_rfl) (by kernel_rfl) (fun _ _ _ h => h) (Or.inl ⟨by rfl, ?yabdc29⟩) ?rabdc29
        case yabdc29 => (intro w; go_simp; try with_reducible rfl)
        go_simp
        refine wpAny_ready (rs := [31]) (by kernel_rfl) (by simp) ?_
        refine AllReady.cons rfl (fun K hK => ?_) AllReady.nil
        refine step_store_row (by first | rfl | (simp [Region.wanted, yielded])) 31 (.tmp 12) (.tmp 61) rfl (W7.heap.size + 1) #[.string s, .string (T.extract 0 k ++ ⟨#[b]⟩ ++ T.extract k' 64), .string (T.extract 0 k), .string (T ++ ⟨#[48]⟩), .string (T.extract 0 k ++ ⟨#[65]⟩ ++ T.extract k' 64)] (by first | rfl | (simp [Act.eval])) (by first | rfl | (simp [Act.eval])) 31 _ zA.out info5.out rfl (by simp [Value.oneCell']) ?_
        refine hK _ _ ?_
        clear hK K
        refine wpAny_done (by kernel_rfl) ?_ _
        obtain ⟨x1, x2, x3, x4⟩ := FA.out
        generalize ((W7.alloc (.cells #[.int .u8 ((b.toNat : Nat) : Int)] 5)).alloc (.cells #[.string ⟨#[]⟩, .string ⟨#[]⟩, .string ⟨#[]⟩, .string ⟨#[]⟩, .string ⟨#[]⟩] 31)).setRow (W7.heap.size + 1) #[.string s, .string (T.extract 0 k ++ ⟨#[b]⟩ ++ T.extract k' 64), .string (T.extract 0 k), .string (T ++ ⟨#[48]⟩), .string (T.extract 0 k ++ ⟨#[65]⟩ ++ T.extract k' 64)] = X at *
        generalize (W7.heap.size + 1) = g at *
        have HX4 := Lib.hid x4
        have HX12 := Lib.hid (And.intro x1 x2)
        clear x1 x2 x4 c1 c2 v1 v2 v3 hk0 hk1 hk2 hk3 hk' hki hkn hk5 hk6 xk' xk hbA hbB mk hbC hbD hb hb2 FA FB zA zB R7
        go_wp2_with fail
        go_loopw [13] (fun i wr => ∃ j : Nat, j ≤ 5 ∧ i = .int .i64 j ∧ Below X.heap.size X wr) (fun i _ => 5 - (intOf i).toNat)
        case atStart => exact ⟨0, by omega, rfl, Below.refl _ _⟩
        case round =>
          obtain ⟨j, hj, rfl, hBr⟩ := hrel
          by_cases hj5 : j < 5
          · obtain ⟨S, hS⟩ := HX4.out j hj5
            have d0 := (hBr.cell (p := ⟨g, j, none⟩) x3).trans hS
            obtain ⟨r, ok, hr, hform⟩ := RDV_form S.data.toList
            have R1 := fun W => Read_any W S
            have R2 := fun W => refRead_any W S
            rw [hform] at R1 R2
            have R12 := Lib.hid (And.intro R1 R2)
            have hne := fun W => neq_hash W r r hr hr
            have hrr : (r == r) = true := by simp
            rw [hrr] at hne
            have szr : Hid ((Tryd.prog.info? 23).map (·.size) = some (hcells r).size) := Lib.hid (by rw [hcells_size, hr]; exact info8T.out)
            have szr2 : Hid ((hcells (List.replicate 32 0)).size = (hcells r).size) := Lib.hid (by rw [hcells_size, hcells_size, hr]; rfl)
            have HNE := Lib.hid hne
            clear R1 R2 hform hrr hne
            go_wp2_with fail
            refine (R12.out.1 _).mono ?_
            rintro e u1 ⟨rfl, b1⟩
            have n1 : HM (u1.alloc (.cells (hcells (List.replicate 32 0)) 23)) u1.heap.size (List.replicate 32 0) := heap_alloc_new _ _
            have m1 : HM ((u1.alloc (.cells (hcells (List.replicate 32 0)) 23)).setRow u1.heap.size (hcells r)) u1.heap.size r := setRow_heap _ _ _ _ _ _ n1
            have B1 : Below X.heap.size X ((u1.alloc (.cells (hcells (List.replicate 32 0)) 23)).setRow u1.heap.size (hcells r)) := by
              have hb2 := hBr.trans (b1.mono hBr.size)
              exact Below.setRow' (hb2.alloc hb2.size _) hb2.size _
            have d1 := (B1.cell (p := ⟨g, j, none⟩) x3).trans hS
            have HB1 := Lib.hid (And.intro m1 B1)
            clear m1 B1 b1 d0
            go_upto_region 12 with (refine wpList_store_row rfl 23 (.tmp 14) (.tmp 71) rfl u1.heap.size (hcells r) rfl rfl 23 _ n1 szr.out szr2.out (hcells_one _) ?_)
            change Code.wp _ _ _ _ ((u1.alloc (.cells (hcells (List.replicate 32 0)) 23)).setRow u1.heap.size (hcells r))
            clear n1
            generalize (u1.alloc (.cells (hcells (List.replicate 32 0)) 23)).setRow u1.heap.size (hcells r) = u2 at *
            generalize u1.heap.size = g1 at *
            go_wp2_with fail
            refine (R12.out.2 _).mono ?_
            rintro e u3 ⟨rfl, b3⟩
            have n3 : HM (u3.alloc (.cells (hcells (List.replicate 32 0)) 23)) u3.heap.size (List.replicate 32 0) := heap_alloc_new _ _
            have m3 : HM ((u3.alloc (.cells (hcells (List.replicate 32 0)) 23)).setRow u3.heap.size (hcells r)) u3.heap.size r := setRow_heap _ _ _ _ _ _ n3
            have B3 : Below u2.heap.size u2 ((u3.alloc (.cells (hcells (List.replicate 32 0)) 23)).setRow u3.heap.size (hcells r)) := Below.setRow' (b3.alloc b3.size _) b3.size _
            have m1' := HB1.out.1.below B3 HB1.out.1.lt
            have B4 := Lib.hid (HB1.out.2.trans (B3.mono HB1.out.2.size))
            clear b3 B3 HB1
            go_upto_region 13 with (refine wpList_store_row rfl 23 (.tmp 16) (.tmp 78) rfl u3.heap.size (hcells r) rfl rfl 23 _ n3 szr.out szr2.out (hcells_one _) ?_)
            change Code.wp _ _ _ _ ((u3.alloc (.cells (hcells (List.replicate 32 0)) 23)).setRow u3.heap.size (hcells r))
            clear n3
            generalize (u3.alloc (.cells (hcells (List.replicate 32 0)) 23)).setRow u3.heap.size (hcells r) = u4 at *
            generalize u3.heap.size = g3 at *
            have hne := HNE.out
            go_wp2_with (first | (refine wpList_load_row rfl 23 (.tmp 14) rfl g1 rfl 23 (hcells r) (0, 0) _ m1' Tryd.underlying23 rfl szr.out ?_) | (refine wpList_load_row rfl 23 (.tmp 16) rfl g3 rfl 23 (hcells r) (0, 0) _ m3 Tryd.underlying23 rfl szr.out ?_))
            exact ⟨⟨j + 1, by omega, by go_num, B4.out⟩, by simp only [intOf]; omega⟩
          · obtain rfl : j = 5 := by omega
            have hm3 := HX12.out.2.below hBr HX12.out.2.lt
            have rs3 := HX12.out.1.next hBr
            have hh3 := rs3.h
            have heq := fun W => eql_same W l HK.out.1
            have HR3 := Lib.hid rs3
            clear rs3 hBr
            go_wp2_with (first | (refine wpList_load_row_w (by first | rfl | (simp [Region.wanted, yielded])) 23 (.tmp 10) rfl p rfl 23 (hcells l) (0, 0) _ hm3 Tryd.underlying23 rfl hsz.out ?_) | (refine wpList_load_row_w (by first | rfl | (simp [Region.wanted, yielded])) 23 (.tmp 3) rfl w.heap.size rfl 23 (hcells l) (0, 0) _ hh3 Tryd.underlying23 rfl hsz.out ?_))
            go_ret
            exact ⟨rfl, HR3.out.b⟩
    · go_simp
      refine hK _ _ ?_
      clear hK K
      refine wpAny_ready (rs := [7]) (by kernel_rfl) (by simp) ?_
      refine AllReady.cons rfl (fun K hK => ?_) AllReady.nil
      go_simp
      refine hK _ _ ?_
      clear hK K
      refine wpAny_ready (rs := [8]) (by kernel_rfl) (by simp) ?_
      refine AllReady.cons rfl (fun K hK => ?_) AllReady.nil
      go_simp
      refine hK _ _ ?_
      clear hK K
      refine wpAny_take (i := 9) (v := ?vadbc9) rfl (by kernel_rfl) (by kernel_rfl) (by kernel_rfl) (fun _ _ _ h => h) (Or.inl ⟨by rfl, ?yadbc9⟩) ?radbc9
      case yadbc9 => (intro w; go_simp; try with_reducible rfl)
      go_simp
      refine wpAny_take (i := 14) (v := ?vadbc14) rfl (by kernel_rfl) (by kernel_rfl) (by kernel_rfl) (fun _ _ _ h => h) (Or.inl ⟨by rfl, ?yadbc14⟩) ?radbc14
      case yadbc14 => (intro w; go_simp; try with_reducible rfl)
      go_simp
      refine wpAny_take (i := 29) (v := ?vadbc29) rfl (by kernel_rfl) (by kernel_rfl) (by kernel_rfl) (fun _ _ _ h => h) (Or.inl ⟨by rfl, ?yadbc29⟩) ?radbc29
      case yadbc29 => (intro w; go_simp; try with_reducible rfl)
      go_simp
      refine wpAny_ready (rs := [31]) (by kernel_rfl) (by simp) ?_
      refine AllReady.cons rfl (fun K hK => ?_) AllReady.nil
      refine step_store_row (by first | rfl | (simp [Region.wanted, yielded])) 31 (.tmp 12) (.tmp 61) rfl W7.heap.size #[.string s, .string (T.extract 0 k ++ ⟨#[b]⟩ ++ T.extract k' 64), .string (T.extract 0 k), .string (T ++ ⟨#[48]⟩), .string (T.extract 0 k ++ ⟨#[65]⟩ ++ T.extract k' 64)] (by first | rfl | (simp [Act.eval])) (by first | rfl | (simp [Act.eval])) 31 _ zB.out info5.out rfl (by simp [Value.oneCell']) ?_
      refine hK _ _ ?_
      clear hK K
      refine wpAny_done (by kernel_rfl) ?_ _
      obtain ⟨x1, x2, x3, x4⟩ := FB.out
      generalize ((W7.alloc (.cells #[.string ⟨#[]⟩, .string ⟨#[]⟩, .string ⟨#[]⟩, .string ⟨#[]⟩, .string ⟨#[]⟩] 31)).alloc (.cells #[.int .u8 ((b.toNat : Nat) : Int)] 5)).setRow W7.heap.size #[.string s, .string (T.extract 0 k ++ ⟨#[b]⟩ ++ T.extract k' 64), .string (T.extract 0 k), .string (T ++ ⟨#[48]⟩), .string (T.extract 0 k ++ ⟨#[65]⟩ ++ T.extract k' 64)] = X at *
      generalize W7.heap.size = g at *
      have HX4 := Lib.hid x4
      have HX12 := Lib.hid (And.intro x1 x2)
      clear x1 x2 x4 c1 c2 v1 v2 v3 hk0 hk1 hk2 hk3 hk' hki hkn hk5 hk6 xk' xk hbA hbB mk hbC hbD hb hb2 FA FB zA zB R7
      go_wp2_with fail
      go_loopw [13] (fun i wr => ∃ j : Nat, j ≤ 5 ∧ i = .int .i64 j ∧ Below X.heap.size X wr) (fun i _ => 5 - (intOf i).toNat)
      case atStart => exact ⟨0, by omega, rfl, Below.refl _ _⟩
      case round =>
        obtain ⟨j, hj, rfl, hBr⟩ := hrel
        by_cases hj5 : j < 5
        · obtain ⟨S, hS⟩ := HX4.out j hj5
          have d0 := (hBr.cell (p := ⟨g, j, none⟩) x3).trans hS
          obtain ⟨r, ok, hr, hform⟩ := RDV_form S.data.toList
          have R1 := fun W => Read_any W S
          have R2 := fun W => refRead_any W S
          rw [hform] at R1 R2
          have R12 := Lib.hid (And.intro R1 R2)
          have hne := fun W => neq_hash W r r hr hr
          have hrr : (r == r) = true := by simp
          rw [hrr] at hne
          have szr : Hid ((Tryd.prog.info? 23).map (·.size) = some (hcells r).size) := Lib.hid (by rw [hcells_size, hr]; exact info8T.out)
          have szr2 : Hid ((hcells (List.replicate 32 0)).size = (hcells r).size) := Lib.hid (by rw [hcells_size, hcells_size, hr]; rfl)
          have HNE := Lib.hid hne
          clear R1 R2 hform hrr hne
          go_wp2_with fail
          refine (R12.out.1 _).mono ?_
          rintro e u1 ⟨rfl, b1⟩
          have n1 : HM (u1.alloc (.cells (hcells (List.replicate 32 0)) 23)) u1.heap.size (List.replicate 32 0) := heap_alloc_new _ _
          have m1 : HM ((u1.alloc (.cells (hcells (List.replicate 32 0)) 23)).setRow u1.heap.size (hcells r)) u1.heap.size r := setRow_heap _ _ _ _ _ _ n1
          have B1 : Below X.heap.size X ((u1.alloc (.cells (hcells (List.replicate 32 0)) 23)).setRow u1.heap.size (hcells r)) := by
            have hb2 := hBr.trans (b1.mono hBr.size)
            exact Below.setRow' (hb2.alloc hb2.size _) hb2.size _
          have d1 := (B1.cell (p := ⟨g, j, none⟩) x3).trans hS
          have HB1 := Lib.hid (And.intro m1 B1)
          clear m1 B1 b1 d0
          go_upto_region 12 with (refine wpList_store_row rfl 23 (.tmp 14) (.tmp 71) rfl u1.heap.size (hcells r) rfl rfl 23 _ n1 szr.out szr2.out (hcells_one _) ?_)
          change Code.wp _ _ _ _ ((u1.alloc (.cells (hcells (List.replicate 32 0)) 23)).setRow u1.heap.size (hcells r))
          clear n1
          generalize (u1.alloc (.cells (hcells (List.replicate 32 0)) 23)).setRow u1.heap.size (hcells r) = u2 at *
          generalize u1.heap.size = g1 at *
          go_wp2_with fail
          refine (R12.out.2 _).mono ?_
          rintro e u3 ⟨rfl, b3⟩
          have n3 : HM (u3.alloc (.cells (hcells (List.replicate 32 0)) 23)) u3.heap.size (List.replicate 32 0) := heap_alloc_new _ _
          have m3 : HM ((u3.alloc (.cells (hcells (List.replicate 32 0)) 23)).setRow u3.heap.size (hcells r)) u3.heap.size r := setRow_heap _ _ _ _ _ _ n3
          have B3 : Below u2.heap.size u2 ((u3.alloc (.cells (hcells (List.replicate 32 0)) 23)).setRow u3.heap.size (hcells r)) := Below.setRow' (b3.alloc b3.size _) b3.size _
          have m1' := HB1.out.1.below B3 HB1.out.1.lt
          have B4 := Lib.hid (HB1.out.2.trans (B3.mono HB1.out.2.size))
          clear b3 B3 HB1
          go_upto_region 13 with (refine wpList_store_row rfl 23 (.tmp 16) (.tmp 78) rfl u3.heap.size (hcells r) rfl rfl 23 _ n3 szr.out szr2.out (hcells_one _) ?_)
          change Code.wp _ _ _ _ ((u3.alloc (.cells (hcells (List.replicate 32 0)) 23)).setRow u3.heap.size (hcells r))
          clear n3
          generalize (u3.alloc (.cells (hcells (List.replicate 32 0)) 23)).setRow u3.heap.size (hcells r) = u4 at *
          generalize u3.heap.size = g3 at *
          have hne := HNE.out
          go_wp2_with (first | (refine wpList_load_row rfl 23 (.tmp 14) rfl g1 rfl 23 (hcells r) (0, 0) _ m1' Tryd.underlying23 rfl szr.out ?_) | (refine wpList_load_row rfl 23 (.tmp 16) rfl g3 rfl 23 (hcells r) (0, 0) _ m3 Tryd.underlying23 rfl szr.out ?_))
          exact ⟨⟨j + 1, by omega, by go_num, B4.out⟩, by simp only [intOf]; omega⟩
        · obtain rfl : j = 5 := by omega
          have hm3 := HX12.out.2.below hBr HX12.out.2.lt
          have rs3 := HX12.out.1.next hBr
          have hh3 := rs3.h
          have heq := fun W => eql_same W l HK.out.1
          have HR3 := Lib.hid rs3
          clear rs3 hBr
          go_wp2_with (first | (refine wpList_load_row_w (by first | rfl | (simp [Region.wanted, yielded])) 23 (.tmp 10) rfl p rfl 23 (hcells l) (0, 0) _ hm3 Tryd.underlying23 rfl hsz.out ?_) | (refine wpList_load_row_w (by first | rfl | (simp [Region.wanted, yielded])) 23 (.tmp 3) rfl w.heap.size rfl 23 (hcells l) (0, 0) _ hh3 Tryd.underlying23 rfl hsz.out ?_))
          go_ret
          exact ⟨rfl, HR3.out.b⟩
  · go_simp
    refine hK _ _ ?_
    clear hK K
    refine wpAny_ready (rs := [5]) (by kernel_rfl) (by simp) ?_
    refine AllReady.cons rfl (fun K hK => ?_) AllReady.nil
    go_simp
    refine hK _ _ ?_
    clear hK K
    refine wpAny_take (i := 6) (v := ?vda6) rfl (by kernel_rfl) (by kernel_rfl) (by kernel_rfl) (fun _ _ _ h => h) (Or.inl ⟨by rfl, ?yda6⟩) ?rda6
    case yda6 => (intro w; go_simp; try with_reducible rfl)
    refine wpAny_ready (rs := [7]) (by kernel_rfl) (by simp) ?_
    refine AllReady.cons rfl (fun K hK => ?_) AllReady.nil
    go_simp
    refine hK _ _ ?_
    clear hK K
    refine wpAny_ready (rs := [8]) (by kernel_rfl) (by simp) ?_
    refine AllReady.cons rfl (fun K hK => ?_) AllReady.nil
    go_simp
    refine hK _ _ ?_
    clear hK K
    refine wpAny_take (i := 9) (v := ?vdabc9) rfl (by kernel_rfl) (by kernel_rfl) (by kernel_rfl) (fun _ _ _ h => h) (Or.inl ⟨by rfl, ?ydabc9⟩) ?rdabc9
    case ydabc9 => (intro w; go_simp; try with_reducible rfl)
    go_simp
    refine wpAny_take (i := 14) (v := ?vdabc14) rfl (by kernel_rfl) (by kernel_rfl) (by kernel_rfl) (fun _ _ _ h => h) (Or.inl ⟨by rfl, ?ydabc14⟩) ?rdabc14
    case ydabc14 => (intro w; go_simp; try with_reducible rfl)
    go_simp
    refine wpAny_take (i := 29) (v := ?vdabc29) rfl (by kernel_rfl) (by kernel_rfl) (by kernel_rfl) (fun _ _ _ h => h) (Or.inl ⟨by rfl, ?ydabc29⟩) ?rdabc29
    case ydabc29 => (intro w; go_simp; try with_reducible rfl)
    go_simp
    refine wpAny_ready (rs := [31]) (by kernel_rfl) (by simp) ?_
    refine AllReady.cons rfl (fun K hK => ?_) AllReady.nil
    refine step_store_row (by first | rfl | (simp [Region.wanted, yielded])) 31 (.tmp 12) (.tmp 61) rfl W7.heap.size #[.string s, .string (T.extract 0 k ++ ⟨#[b]⟩ ++ T.extract k' 64), .string (T.extract 0 k), .string (T ++ ⟨#[48]⟩), .string (T.extract 0 k ++ ⟨#[65]⟩ ++ T.extract k' 64)] (by first | rfl | (simp [Act.eval])) (by first | rfl | (simp [Act.eval])) 31 _ zB.out info5.out rfl (by simp [Value.oneCell']) ?_
    refine hK _ _ ?_
    clear hK K
    refine wpAny_done (by kernel_rfl) ?_ _
    obtain ⟨x1, x2, x3, x4⟩ := FB.out
    generalize ((W7.alloc (.cells #[.string ⟨#[]⟩, .string ⟨#[]⟩, .string ⟨#[]⟩, .string ⟨#[]⟩, .string ⟨#[]⟩] 31)).alloc (.cells #[.int .u8 ((b.toNat : Nat) : Int)] 5)).setRow W7.heap.size #[.string s, .string (T.extract 0 k ++ ⟨#[b]⟩ ++ T.extract k' 64), .string (T.extract 0 k), .string (T ++ ⟨#[48]⟩), .string (T.extract 0 k ++ ⟨#[65]⟩ ++ T.extract k' 64)] = X at *
    generalize W7.heap.size = g at *
    have HX4 := Lib.hid x4
    have HX12 := Lib.hid (And.intro x1 x2)
    clear x1 x2 x4 c1 c2 v1 v2 v3 hk0 hk1 hk2 hk3 hk' hki hkn hk5 hk6 xk' xk hbA hbB mk hbC hbD hb hb2 FA FB zA zB R7
    go_wp2_with fail
    go_loopw [13] (fun i wr => ∃ j : Nat, j ≤ 5 ∧ i = .int .i64 j ∧ Below X.heap.size X wr) (fun i _ => 5 - (intOf i).toNat)
    case atStart => exact ⟨0, by omega, rfl, Below.refl _ _⟩
    case round =>
      obtain ⟨j, hj, rfl, hBr⟩ := hrel
      by_cases hj5 : j < 5
      · obtain ⟨S, hS⟩ := HX4.out j hj5
        have d0 := (hBr.cell (p := ⟨g, j, none⟩) x3).trans hS
        obtain ⟨r, ok, hr, hform⟩ := RDV_form S.data.toList
        have R1 := fun W => Read_any W S
        have R2 := fun W => refRead_any W S
        rw [hform] at R1 R2
        have R12 := Lib.hid (And.intro R1 R2)
        have hne := fun W => neq_hash W r r hr hr
        have hrr : (r == r) = true := by simp
        rw [hrr] at hne
        have szr : Hid ((Tryd.prog.info? 23).map (·.size) = some (hcells r).size) := Lib.hid (by rw [hcells_size, hr]; exact info8T.out)
        have szr2 : Hid ((hcells (List.replicate 32 0)).size = (hcells r).size) := Lib.hid (by rw [hcells_size, hcells_size, hr]; rfl)
        have HNE := Lib.hid hne
        clear R1 R2 hform hrr hne
        go_wp2_with fail
        refine (R12.out.1 _).mono ?_
        rintro e u1 ⟨rfl, b1⟩
        have n1 : HM (u1.alloc (.cells (hcells (List.replicate 32 0)) 23)) u1.heap.size (List.replicate 32 0) := heap_alloc_new _ _
        have m1 : HM ((u1.alloc (.cells (hcells (List.replicate 32 0)) 23)).setRow u1.heap.size (hcells r)) u1.heap.size r := setRow_heap _ _ _ _ _ _ n1
        have B1 : Below X.heap.size X ((u1.alloc (.cells (hcells (List.replicate 32 0)) 23)).setRow u1.heap.size (hcells r)) := by
          have hb2 := hBr.trans (b1.mono hBr.size)
          exact Below.setRow' (hb2.alloc hb2.size _) hb2.size _
        have d1 := (B1.cell (p := ⟨g, j, none⟩) x3).trans hS
        have HB1 := Lib.hid (And.intro m1 B1)
        clear m1 B1 b1 d0
        go_upto_region 12 with (refine wpList_store_row rfl 23 (.tmp 14) (.tmp 71) rfl u1.heap.size (hcells r) rfl rfl 23 _ n1 szr.out szr2.out (hcells_one _) ?_)
        change Code.wp _ _ _ _ ((u1.alloc (.cells (hcells (List.replicate 32 0)) 23)).setRow u1.heap.size (hcells r))
        clear n1
        generalize (u1.alloc (.cells (hcells (List.replicate 32 0)) 23)).setRow u1.heap.size (hcells r) = u2 at *
        generalize u1.heap.size = g1 at *
        go_wp2_with fail
        refine (R12.out.2 _).mono ?_
        rintro e u3 ⟨rfl, b3⟩
        have n3 : HM (u3.alloc (.cells (hcells (List.replicate 32 0)) 23)) u3.heap.size (List.replicate 32 0) := heap_alloc_new _ _
        have m3 : HM ((u3.alloc (.cells (hcells (List.replicate 32 0)) 23)).setRow u3.heap.size (hcells r)) u3.heap.size r := setRow_heap _ _ _ _ _ _ n3
        have B3 : Below u2.heap.size u2 ((u3.alloc (.cells (hcells (List.replicate 32 0)) 23)).setRow u3.heap.size (hcells r)) := Below.setRow' (b3.alloc b3.size _) b3.size _
        have m1' := HB1.out.1.below B3 HB1.out.1.lt
        have B4 := Lib.hid (HB1.out.2.trans (B3.mono HB1.out.2.size))
        clear b3 B3 HB1
        go_upto_region 13 with (refine wpList_store_row rfl 23 (.tmp 16) (.tmp 78) rfl u3.heap.size (hcells r) rfl rfl 23 _ n3 szr.out szr2.out (hcells_one _) ?_)
        change Code.wp _ _ _ _ ((u3.alloc (.cells (hcells (List.replicate 32 0)) 23)).setRow u3.heap.size (hcells r))
        clear n3
        generalize (u3.alloc (.cells (hcells (List.replicate 32 0)) 23)).setRow u3.heap.size (hcells r) = u4 at *
        generalize u3.heap.size = g3 at *
        have hne := HNE.out
        go_wp2_with (first | (refine wpList_load_row rfl 23 (.tmp 14) rfl g1 rfl 23 (hcells r) (0, 0) _ m1' Tryd.underlying23 rfl szr.out ?_) | (refine wpList_load_row rfl 23 (.tmp 16) rfl g3 rfl 23 (hcells r) (0, 0) _ m3 Tryd.underlying23 rfl szr.out ?_))
        exact ⟨⟨j + 1, by omega, by go_num, B4.out⟩, by simp only [intOf]; omega⟩
      · obtain rfl : j = 5 := by omega
        have hm3 := HX12.out.2.below hBr HX12.out.2.lt
        have rs3 := HX12.out.1.next hBr
        have hh3 := rs3.h
        have heq := fun W => eql_same W l HK.out.1
        have HR3 := Lib.hid rs3
        clear rs3 hBr
        go_wp2_with (first | (refine wpList_load_row_w (by first | rfl | (simp [Region.wanted, yielded])) 23 (.tmp 10) rfl p rfl 23 (hcells l) (0, 0) _ hm3 Tryd.underlying23 rfl hsz.out ?_) | (refine wpList_load_row_w (by first | rfl | (simp [Region.wanted, yielded])) 23 (.tmp 3) rfl w.heap.size rfl 23 (hcells l) (0, 0) _ hh3 Tryd.underlying23 rfl hsz.out ?_))
        go_ret
        exact ⟨rfl, HR3.out.b⟩
end Go.Proofs.YtcelgajmockpcaaDoor
