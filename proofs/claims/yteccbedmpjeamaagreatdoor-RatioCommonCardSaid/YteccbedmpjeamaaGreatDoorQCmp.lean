/-
  The walk of ratio.Cmp.
-/
import Derived.Test.YteccbedmpjeamaaGreatDoorQSign
import Derived.Deep.RegionWith
namespace Go.Proofs.YteccbedmpjeamaaGreatDoor
open Go.RowKit NM QM
theorem array3' {α : Type} {cs : Array α} (h : cs.size = 3) : ∃ c0 c1 c2, cs = #[c0, c1, c2] := by
  rcases cs with ⟨l⟩
  match l, h with
  | [u0, u1, u2], _ => exact ⟨u0, u1, u2, rfl⟩
/-- two numbers in the call's first blocks -/
structure K2 (w : World) (ca cb : Array Value) (W : World) : Prop where
  a : W.heap[w.heap.size]? = some (.cells ca 26 (0, 0))
  c : W.heap[w.heap.size + 1]? = some (.cells cb 26 (0, 0))
  lt : w.heap.size + 1 < W.heap.size
  b : Below w.heap.size w W
theorem K2.next {w u v : World} {ca cb : Array Value} (h : K2 w ca cb u) (k : Below u.heap.size u v) : K2 w ca cb v :=
  ⟨(k.block _ (by have := h.lt; omega)).trans h.a, (k.block _ h.lt).trans h.c, Nat.lt_of_lt_of_le h.lt k.size, h.b.trans (k.mono h.b.size)⟩
theorem K2.drew {w u : World} {ca cb : Array Value} (h : K2 w ca cb u) : K2 w ca cb u.drew := ⟨h.a, h.c, h.lt, h.b.drew⟩
theorem two_rows {u : World} {p q : Nat} {t : TypeId} {x y : Array Value} (hx : x.size = 3) (hy : y.size = 3) (hp : u.heap[p]? = some (.cells x t (0, 0))) (hq : u.heap[q]? = some (.cells y t (0, 0))) (hne : p ≠ q) (a b c d e f : Value) :
    ((((((u.setCell ⟨p, 0, none⟩ a).setCell ⟨p, 1, none⟩ b).setCell ⟨p, 2, none⟩ c).setCell ⟨q, 0, none⟩ d).setCell ⟨q, 1, none⟩ e).setCell ⟨q, 2, none⟩ f).heap[p]? = some (.cells #[a, b, c] t (0, 0)) ∧
    ((((((u.setCell ⟨p, 0, none⟩ a).setCell ⟨p, 1, none⟩ b).setCell ⟨p, 2, none⟩ c).setCell ⟨q, 0, none⟩ d).setCell ⟨q, 1, none⟩ e).setCell ⟨q, 2, none⟩ f).heap[q]? = some (.cells #[d, e, f] t (0, 0)) := by
  obtain ⟨x0, x1, x2, rfl⟩ := array3' hx
  obtain ⟨y0, y1, y2, rfl⟩ := array3' hy
  constructor
  · rw [Deep.blk_setCell_other _ _ _ _ (by show p ≠ q; exact hne), Deep.blk_setCell_other _ _ _ _ (by show p ≠ q; exact hne), Deep.blk_setCell_other _ _ _ _ (by show p ≠ q; exact hne)]
    exact row3 hp a b c
  · refine row3 (x := y0) (y := y1) (z := y2) ?_ d e f
    rw [Deep.blk_setCell_other _ _ _ _ (by show q ≠ p; exact hne.symm), Deep.blk_setCell_other _ _ _ _ (by show q ≠ p; exact hne.symm), Deep.blk_setCell_other _ _ _ _ (by show q ≠ p; exact hne.symm)]
    exact hq
theorem k2_stored {w u : World} {x y : Array Value} (h : K2 w x y u) (hx : x.size = 3) (hy : y.size = 3) (a b c d e f : Value) :
    K2 w #[a, b, c] #[d, e, f] ((((((u.setCell ⟨w.heap.size, 0, none⟩ a).setCell ⟨w.heap.size, 1, none⟩ b).setCell ⟨w.heap.size, 2, none⟩ c).setCell ⟨w.heap.size + 1, 0, none⟩ d).setCell ⟨w.heap.size + 1, 1, none⟩ e).setCell ⟨w.heap.size + 1, 2, none⟩ f) := by
  have h2 := two_rows hx hy h.a h.c (by omega) a b c d e f
  refine ⟨h2.1, h2.2, ?_, ?_⟩
  · simp only [Deep.nblk_setCell]; exact h.lt
  · exact (((((h.b.setCell (p := ⟨w.heap.size, 0, none⟩) (Nat.le_refl _) a).setCell (p := ⟨w.heap.size, 1, none⟩) (Nat.le_refl _) b).setCell (p := ⟨w.heap.size, 2, none⟩) (Nat.le_refl _) c).setCell (p := ⟨w.heap.size + 1, 0, none⟩) (by show w.heap.size ≤ w.heap.size + 1; omega) d).setCell (p := ⟨w.heap.size + 1, 1, none⟩) (by show w.heap.size ≤ w.heap.size + 1; omega) e).setCell (p := ⟨w.heap.size + 1, 2, none⟩) (by show w.heap.size ≤ w.heap.size + 1; omega) f
theorem k2_facts {w u : World} {g1 g2 : Bool} {A1 B1 A2 B2 : ByteArray} (h : K2 w (rrow g1 A1 B1) (rrow g2 A2 B2) u) :
    (u.cell? ⟨w.heap.size, 0, none⟩ = some (.bool g1) ∧ u.cell? ⟨w.heap.size, 1, none⟩ = some (.string A1) ∧ u.cell? ⟨w.heap.size, 2, none⟩ = some (.string B1) ∧
    u.cell? ⟨w.heap.size + 1, 0, none⟩ = some (.bool g2) ∧ u.cell? ⟨w.heap.size + 1, 1, none⟩ = some (.string A2) ∧ u.cell? ⟨w.heap.size + 1, 2, none⟩ = some (.string B2)) ∧
    (u.frozen? ⟨w.heap.size, 0, none⟩ = false ∧ u.frozen? ⟨w.heap.size, 1, none⟩ = false ∧ u.frozen? ⟨w.heap.size, 2, none⟩ = false ∧
    u.frozen? ⟨w.heap.size + 1, 0, none⟩ = false ∧ u.frozen? ⟨w.heap.size + 1, 1, none⟩ = false ∧ u.frozen? ⟨w.heap.size + 1, 2, none⟩ = false) :=
  ⟨⟨cell_of_row _ _ 0 _ _ _ h.a, cell_of_row _ _ 1 _ _ _ h.a, cell_of_row _ _ 2 _ _ _ h.a, cell_of_row _ _ 0 _ _ _ h.c, cell_of_row _ _ 1 _ _ _ h.c, cell_of_row _ _ 2 _ _ _ h.c⟩,
    ⟨frozen_of_row _ _ 0 _ _ h.a, frozen_of_row _ _ 1 _ _ h.a, frozen_of_row _ _ 2 _ _ h.a, frozen_of_row _ _ 0 _ _ h.c, frozen_of_row _ _ 1 _ _ h.c, frozen_of_row _ _ 2 _ _ h.c⟩⟩
set_option maxRecDepth 100000 in
set_option maxHeartbeats 4000000 in
theorem cmp_same (w : World) (g : Bool) (A B : ByteArray) :
    Calls Tryz.prog 20 #[RW g A B, RW g A B] w fun e w' => e = .returned (.int .i64 0) ∧ Below w.heap.size w w' := by
  have hb : Below w.heap.size w ((w.alloc (.cells (rrow g A B) 26)).alloc (.cells (rrow g A B) 26)) := ((Below.refl _ w).alloc (Nat.le_refl _) _).alloc (by simp) _
  have HB := Lib.hid hb
  clear hb
  unfold RW
  go_enter Tryz.func20, Tryz.ntmps20
  go_wp2
  go_ret
  exact ⟨rfl, HB.out⟩
set_option maxRecDepth 100000 in
set_option maxHeartbeats 16000000 in
theorem cmp_other (w : World) (g1 g2 : Bool) (A1 B1 A2 B2 : ByteArray) (N : Nat) (hA1 : A1.size ≤ N) (hB1 : B1.size ≤ N) (hA2 : A2.size ≤ N) (hB2 : B2.size ≤ N) (hN1 : 1 ≤ N) (hN : N ≤ 1000000) (hT : Tb w) (hne : ¬ (g1 = g2 ∧ A1 = A2 ∧ B1 = B2)) :
    Calls Tryz.prog 20 #[RW g1 A1 B1, RW g2 A2 B2] w fun e w' => e = .returned (.int .i64 (cq (rvq g1 A1 B1) (rvq g2 A2 B2))) ∧ Below w.heap.size w w' := by
  have EE := fun W => eq_raw W g1 g2 A1 B1 A2 B2
  rw [decide_eq_false hne] at EE
  have V1 := fun W (h : Tb W) => valid_any W g1 A1 B1 N hA1 hB1 hN h
  have V2 := fun W (h : Tb W) => valid_any W g2 A2 B2 N hA2 hB2 hN h
  have s1 := SmQ_rvq g1 A1 B1 N hA1 hB1 hN1
  have s2 := SmQ_rvq g2 A2 B2 N hA2 hB2 hN1
  generalize rvq g1 A1 B1 = a at *
  generalize rvq g2 A2 B2 = b at *
  have M1 := fun W => mul_q W a.num.natAbs b.den N s1.1 s2.2 (by omega)
  have M2 := fun W => mul_q W b.num.natAbs a.den N s2.1 s1.2 (by omega)
  have l1 := mul_lt s1.1 s2.2
  have l2 := mul_lt s2.1 s1.2
  have M3 := fun W => Cmp_any W (NB (a.num.natAbs * b.den)) (NB (b.num.natAbs * a.den)) (NB_big l1 (by omega)) (NB_big l2 (by omega))
  rw [sv_NB, sv_NB] at M3
  have hcq : cq a b = if decide (a.num < 0) = true then (if decide (b.num < 0) = true then -cmpv (a.num.natAbs * b.den) (b.num.natAbs * a.den) else -1) else (if decide (b.num < 0) = true then 1 else cmpv (a.num.natAbs * b.den) (b.num.natAbs * a.den)) := by
    simp only [decide_eq_true_eq]
    split <;> split
    · exact cq_nn a b ‹_› ‹_›
    · exact cq_np a b ‹_› ‹_›
    · exact cq_pn a b ‹_› ‹_›
    · exact cq_pp a b ‹_› ‹_›
  have hz3 : -1 ≤ cmpv (a.num.natAbs * b.den) (b.num.natAbs * a.den) ∧ cmpv (a.num.natAbs * b.den) (b.num.natAbs * a.den) ≤ 1 := by unfold cmpv; split <;> (try split) <;> omega
  generalize cmpv (a.num.natAbs * b.den) (b.num.natAbs * a.den) = z at *
  generalize NB (a.num.natAbs * b.den) = X1 at *
  generalize NB (b.num.natAbs * a.den) = X2 at *
  unfold QV qcells at V1 V2
  generalize cq a b = cab at *
  generalize NB a.num.natAbs = Aa at *
  generalize NB a.den = Ba at *
  generalize NB b.num.natAbs = Ab at *
  generalize NB b.den = Bb at *
  generalize decide (a.num < 0) = ga at *
  generalize decide (b.num < 0) = gb at *
  have HM := Lib.hid (And.intro M1 (And.intro M2 M3))
  have HC := Lib.hid hcq
  have h0 := d2_start w (rrow g1 A1 B1) (rrow g2 A2 B2) hT
  have hW0 : (w.alloc (.cells (rrow g1 A1 B1) 26)).alloc (.cells (rrow g2 A2 B2) 26) = (w.alloc (.cells (rrow g1 A1 B1) 26)).alloc (.cells (rrow g2 A2 B2) 26) := rfl
  have hb : Below w.heap.size w ((w.alloc (.cells (rrow g1 A1 B1) 26)).alloc (.cells (rrow g2 A2 B2) 26)) := ((Below.refl _ w).alloc (Nat.le_refl _) _).alloc (by simp) _
  have hra := heap_alloc2_old w (.cells (rrow g1 A1 B1) 26) (.cells (rrow g2 A2 B2) 26)
  have hrb := heap_alloc2_new w (.cells (rrow g1 A1 B1) 26) (.cells (rrow g2 A2 B2) 26)
  have hlt : w.heap.size + 1 < ((w.alloc (.cells (rrow g1 A1 B1) 26)).alloc (.cells (rrow g2 A2 B2) 26)).heap.size := by simp
  obtain ⟨W, hW⟩ : ∃ W, (w.alloc (.cells (rrow g1 A1 B1) 26)).alloc (.cells (rrow g2 A2 B2) 26) = W := ⟨_, rfl⟩
  rw [hW] at hb hra hrb hlt
  have HW := Lib.hid (And.intro hW (And.intro hb (And.intro hra (And.intro hrb hlt))))
  have HT := Lib.hid hT
  have HV := Lib.hid (And.intro V1 V2)
  clear hW0 h0 hW hb hlt M1 M2 M3 l1 l2 hcq V1 V2 s1 s2 hT hne
  unfold RW
  go_enter Tryz.func20, Tryz.ntmps20
  go_upto_region 1 with fail
  change Code.wp _ _ _ _ ((w.alloc (.cells (rrow g1 A1 B1) 26)).alloc (.cells (rrow g2 A2 B2) 26))
  rw [HW.out.1]
  go_upto_region 3 with (first | (refine wpList_load_row rfl 26 (.tmp 2) rfl w.heap.size rfl 26 (rrow g1 A1 B1) (0, 0) _ hra Tryz.underlying26 rfl (rinfo _ _ _).out ?_) | (refine wpList_load_row rfl 26 (.tmp 3) rfl (w.heap.size + 1) rfl 26 (rrow g2 A2 B2) (0, 0) _ hrb Tryz.underlying26 rfl (rinfo _ _ _).out ?_))
  have K0 : K2 w (rrow g1 A1 B1) (rrow g2 A2 B2) W.drew := ⟨hra, hrb, HW.out.2.2.2.2, HW.out.2.1.drew⟩
  have HT0 := Lib.hid (HT.out.below HW.out.2.1.drew)
  clear hra hrb HW EE
  have hf0 := (k2_facts K0).1
  obtain ⟨c0, c1, c2, c3, c4, c5⟩ := hf0
  go_region_with (first
      | (go_at_call_of 47 (Value.agg #[.bool g1, .string A1, .string B1]); go_must (refine (HV.out.1 _ HT0.out).mono ?_); rintro e ua ⟨rfl, ka⟩; have K1 := K0.next ka; obtain ⟨d0, d1, d2, d3, d4, d5⟩ := (k2_facts K1).1; have HT1 := Lib.hid (HT.out.below K1.b); clear ka)
      | (go_at_call_of 47 (Value.agg #[.bool g2, .string A2, .string B2]); go_must (refine (HV.out.2 _ HT1.out).mono ?_); rintro e ub ⟨rfl, kb⟩; have K3 := K1.next kb; obtain ⟨⟨e0, e1, e2, e3, e4, e5⟩, ⟨f0, f1, f2, f3, f4, f5⟩⟩ := k2_facts K3; clear kb))
  · have K4 : K2 w (rrow ga Aa Ba) (rrow gb Ab Bb) _ := k2_stored K3 rfl rfl (.bool ga) (.string Aa) (.string Ba) (.bool gb) (.string Ab) (.string Bb)
    change Exit.then _ _ Exit.normal _ ((((((ub.setCell ⟨w.heap.size, 0, none⟩ (.bool ga)).setCell ⟨w.heap.size, 1, none⟩ (.string Aa)).setCell ⟨w.heap.size, 2, none⟩ (.string Ba)).setCell ⟨w.heap.size + 1, 0, none⟩ (.bool gb)).setCell ⟨w.heap.size + 1, 1, none⟩ (.string Ab)).setCell ⟨w.heap.size + 1, 2, none⟩ (.string Bb))
    clear c0 c1 c2 c3 c4 c5 d0 d1 d2 d3 d4 d5 e0 e1 e2 e3 e4 e5 f0 f1 f2 f3 f4 f5 K0 K1 K3 HT0 HT1 HV HT
    generalize (((((ub.setCell ⟨w.heap.size, 0, none⟩ (.bool ga)).setCell ⟨w.heap.size, 1, none⟩ (.string Aa)).setCell ⟨w.heap.size, 2, none⟩ (.string Ba)).setCell ⟨w.heap.size + 1, 0, none⟩ (.bool gb)).setCell ⟨w.heap.size + 1, 1, none⟩ (.string Ab)).setCell ⟨w.heap.size + 1, 2, none⟩ (.string Bb) = Y at *
    have hf := (k2_facts K4).1
    have HK := Lib.hid K4
    clear K4
    obtain ⟨c0, c1, c2, c3, c4, c5⟩ := hf
    cases ga <;> cases gb
    · have HR := Lib.hid (show cab = z by rw [HC.out]; rfl)
      clear HC
      go_upto_region 8 with fail
      clear c0 c1 c2 c3 c4 c5
      refine wp_region_held_drew (S := K2 w (rrow false Aa Ba) (rrow false Ab Bb)) (by kernel_rfl) HK.out.drew (fun hS => ?_)
      clear HK
      refine wpAnyH_take (i := 0) (oi := { dst := some 29, op := Op.fieldAddr 26 (Operand.tmp 2) 1, type := 0, pos := "ratio.go:62", after := #[], guard := none }) (v := ?vcxm0) rfl (by kernel_rfl) (by kernel_rfl) (by kernel_rfl) (fun _ _ _ h => h) (Or.inl ⟨by rfl, ?ycxm0⟩) hS ?rcxm0
      case ycxm0 => (intro w hS; go_simp; try with_reducible rfl)
      refine wpAnyH_take (i := 2) (oi := { dst := some 31, op := Op.fieldAddr 26 (Operand.tmp 3) 2, type := 0, pos := "ratio.go:62", after := #[], guard := none }) (v := ?vcxm2) rfl (by kernel_rfl) (by kernel_rfl) (by kernel_rfl) (fun _ _ _ h => h) (Or.inl ⟨by rfl, ?ycxm2⟩) hS ?rcxm2
      case ycxm2 => (intro w hS; go_simp; try with_reducible rfl)
      refine wpAnyH_take (i := 5) (oi := { dst := some 34, op := Op.fieldAddr 26 (Operand.tmp 3) 1, type := 0, pos := "ratio.go:62", after := #[], guard := none }) (v := ?vcxm5) rfl (by kernel_rfl) (by kernel_rfl) (by kernel_rfl) (fun _ _ _ h => h) (Or.inl ⟨by rfl, ?ycxm5⟩) hS ?rcxm5
      case ycxm5 => (intro w hS; go_simp; try with_reducible rfl)
      refine wpAnyH_take (i := 7) (oi := { dst := some 36, op := Op.fieldAddr 26 (Operand.tmp 2) 2, type := 0, pos := "ratio.go:62", after := #[], guard := none }) (v := ?vcxm7) rfl (by kernel_rfl) (by kernel_rfl) (by kernel_rfl) (fun _ _ _ h => h) (Or.inl ⟨by rfl, ?ycxm7⟩) hS ?rcxm7
      case ycxm7 => (intro w hS; go_simp; try with_reducible rfl)
      go_simp
      refine wpAnyH_take (i := 1) (oi := { dst := some 30, op := Op.load 24 (Operand.tmp 29), type := 24, pos := "ratio.go:62", after := #[{ on := 0, ground := Ground.data }], guard := none }) (v := .string Aa) rfl (by kernel_rfl) (by kernel_rfl) (by kernel_rfl) (fun _ _ _ h => h) (Or.inl ⟨by rfl, ?ycxm1⟩) hS ?rcxm1
      case ycxm1 => (intro w' hS; have cf := (show w'.cell? ⟨w.heap.size, 1, none⟩ = some (.string Aa) from cell_of_row _ _ 1 _ _ _ hS.a); go_simp; try with_reducible rfl)
      refine wpAnyH_take (i := 3) (oi := { dst := some 32, op := Op.load 24 (Operand.tmp 31), type := 24, pos := "ratio.go:62", after := #[{ on := 2, ground := Ground.data }], guard := none }) (v := .string Bb) rfl (by kernel_rfl) (by kernel_rfl) (by kernel_rfl) (fun _ _ _ h => h) (Or.inl ⟨by rfl, ?ycxm3⟩) hS ?rcxm3
      case ycxm3 => (intro w' hS; have cf := (show w'.cell? ⟨(w.heap.size + 1), 2, none⟩ = some (.string Bb) from cell_of_row _ _ 2 _ _ _ hS.c); go_simp; try with_reducible rfl)
      refine wpAnyH_take (i := 6) (oi := { dst := some 35, op := Op.load 24 (Operand.tmp 34), type := 24, pos := "ratio.go:62", after := #[{ on := 5, ground := Ground.data }], guard := none }) (v := .string Ab) rfl (by kernel_rfl) (by kernel_rfl) (by kernel_rfl) (fun _ _ _ h => h) (Or.inl ⟨by rfl, ?ycxm6⟩) hS ?rcxm6
      case ycxm6 => (intro w' hS; have cf := (show w'.cell? ⟨(w.heap.size + 1), 1, none⟩ = some (.string Ab) from cell_of_row _ _ 1 _ _ _ hS.c); go_simp; try with_reducible rfl)
      refine wpAnyH_take (i := 8) (oi := { dst := some 37, op := Op.load 24 (Operand.tmp 36), type := 24, pos := "ratio.go:62", after := #[{ on := 7, ground := Ground.data }], guard := none }) (v := .string Ba) rfl (by kernel_rfl) (by kernel_rfl) (by kernel_rfl) (fun _ _ _ h => h) (Or.inl ⟨by rfl, ?ycxm8⟩) hS ?rcxm8
      case ycxm8 => (intro w' hS; have cf := (show w'.cell? ⟨w.heap.size, 2, none⟩ = some (.string Ba) from cell_of_row _ _ 2 _ _ _ hS.a); go_simp; try with_reducible rfl)
      go_simp
      refine wpAnyH_ready (rs := [4]) (by kernel_rfl) (by simp) ?_
      refine AllReadyH.cons (o := { dst := some 33, op := Op.call { callee := Callee.value (Operand.func 56), args := #[Operand.tmp 30, Operand.tmp 32], argTypes := #[24, 24] }, type := 24, pos := "ratio.go:62", after := #[{ on := 1, ground := Ground.data }, { on := 3, ground := Ground.data }], guard := none }) rfl (fun K hK => ?_) AllReadyH.nil
      go_simp
      go_at_call 56
      refine (HM.out.1 _).mono ?_
      rintro e w' ⟨rfl, b⟩
      have hS2 := hS.next b
      clear b hS
      try go_simp
      refine hK.out _ _ hS2 (fun hS => ?_)
      clear hK K hS2
      refine wpAnyH_ready (rs := [9]) (by kernel_rfl) (by simp) ?_
      refine AllReadyH.cons (o := { dst := some 38, op := Op.call { callee := Callee.value (Operand.func 56), args := #[Operand.tmp 35, Operand.tmp 37], argTypes := #[24, 24] }, type := 24, pos := "ratio.go:62", after := #[{ on := 6, ground := Ground.data }, { on := 8, ground := Ground.data }, { on := 4, ground := Ground.chain }], guard := none }) rfl (fun K hK => ?_) AllReadyH.nil
      go_simp
      go_at_call 56
      refine (HM.out.2.1 _).mono ?_
      rintro e w' ⟨rfl, b⟩
      have hS2 := hS.next b
      clear b hS
      try go_simp
      refine hK.out _ _ hS2 (fun hS => ?_)
      clear hK K hS2
      refine wpAnyH_ready (rs := [10]) (by kernel_rfl) (by simp) ?_
      refine AllReadyH.cons (o := { dst := some 39, op := Op.call { callee := Callee.value (Operand.func 55), args := #[Operand.tmp 33, Operand.tmp 38], argTypes := #[24, 24] }, type := 3, pos := "ratio.go:62", after := #[{ on := 4, ground := Ground.data }, { on := 9, ground := Ground.data }, { on := 9, ground := Ground.chain }], guard := none }) rfl (fun K hK => ?_) AllReadyH.nil
      go_simp
      go_at_call 55
      refine (HM.out.2.2 _).mono ?_
      rintro e w' ⟨rfl, b⟩
      have hS2 := hS.next b
      clear b hS
      try go_simp
      refine hK.out _ _ hS2 (fun hS => ?_)
      clear hK K hS2
      refine wpAnyH_take (i := 11) (oi := { dst := some 5, op := Op.assign (Operand.tmp 39), type := 3, pos := "ratio.go:62", after := #[{ on := 10, ground := Ground.data }, { on := 10, ground := Ground.chain }, { on := 0, ground := Ground.phase }, { on := 1, ground := Ground.phase }, { on := 2, ground := Ground.phase }, { on := 3, ground := Ground.phase }, { on := 4, ground := Ground.phase }, { on := 5, ground := Ground.phase }, { on := 6, ground := Ground.phase }, { on := 7, ground := Ground.phase }, { on := 8, ground := Ground.phase }, { on := 9, ground := Ground.phase }, { on := 10, ground := Ground.phase }], guard := none }) (v := ?vcxm11) rfl (by kernel_rfl) (by kernel_rfl) (by kernel_rfl) (fun _ _ _ h => h) (Or.inl ⟨by rfl, ?ycxm11⟩) hS ?rcxm11
      case ycxm11 => (intro w hS; go_simp; try with_reducible rfl)
      refine wpAnyH_done (by kernel_rfl) ?_ _
      have c0 : w'.cell? ⟨w.heap.size, 0, none⟩ = some (.bool false) := (k2_facts hS).1.1
      go_wp2
      go_ret
      exact ⟨by rw [HR.out]; rfl, hS.b⟩
    · have HR := Lib.hid (show cab = 1 by rw [HC.out]; rfl)
      clear HC
      go_wp2
      go_ret
      exact ⟨by rw [HR.out]; rfl, HK.out.b⟩
    · have HR := Lib.hid (show cab = -1 by rw [HC.out]; rfl)
      clear HC
      go_wp2
      go_ret
      exact ⟨by rw [HR.out]; rfl, HK.out.b⟩
    · have HR := Lib.hid (show cab = -z by rw [HC.out]; rfl)
      clear HC
      go_upto_region 8 with fail
      clear c0 c1 c2 c3 c4 c5
      refine wp_region_held_drew (S := K2 w (rrow true Aa Ba) (rrow true Ab Bb)) (by kernel_rfl) HK.out.drew (fun hS => ?_)
      clear HK
      refine wpAnyH_take (i := 0) (oi := { dst := some 29, op := Op.fieldAddr 26 (Operand.tmp 2) 1, type := 0, pos := "ratio.go:62", after := #[], guard := none }) (v := ?vcxn0) rfl (by kernel_rfl) (by kernel_rfl) (by kernel_rfl) (fun _ _ _ h => h) (Or.inl ⟨by rfl, ?ycxn0⟩) hS ?rcxn0
      case ycxn0 => (intro w hS; go_simp; try with_reducible rfl)
      refine wpAnyH_take (i := 2) (oi := { dst := some 31, op := Op.fieldAddr 26 (Operand.tmp 3) 2, type := 0, pos := "ratio.go:62", after := #[], guard := none }) (v := ?vcxn2) rfl (by kernel_rfl) (by kernel_rfl) (by kernel_rfl) (fun _ _ _ h => h) (Or.inl ⟨by rfl, ?ycxn2⟩) hS ?rcxn2
      case ycxn2 => (intro w hS; go_simp; try with_reducible rfl)
      refine wpAnyH_take (i := 5) (oi := { dst := some 34, op := Op.fieldAddr 26 (Operand.tmp 3) 1, type := 0, pos := "ratio.go:62", after := #[], guard := none }) (v := ?vcxn5) rfl (by kernel_rfl) (by kernel_rfl) (by kernel_rfl) (fun _ _ _ h => h) (Or.inl ⟨by rfl, ?ycxn5⟩) hS ?rcxn5
      case ycxn5 => (intro w hS; go_simp; try with_reducible rfl)
      refine wpAnyH_take (i := 7) (oi := { dst := some 36, op := Op.fieldAddr 26 (Operand.tmp 2) 2, type := 0, pos := "ratio.go:62", after := #[], guard := none }) (v := ?vcxn7) rfl (by kernel_rfl) (by kernel_rfl) (by kernel_rfl) (fun _ _ _ h => h) (Or.inl ⟨by rfl, ?ycxn7⟩) hS ?rcxn7
      case ycxn7 => (intro w hS; go_simp; try with_reducible rfl)
      go_simp
      refine wpAnyH_take (i := 1) (oi := { dst := some 30, op := Op.load 24 (Operand.tmp 29), type := 24, pos := "ratio.go:62", after := #[{ on := 0, ground := Ground.data }], guard := none }) (v := .string Aa) rfl (by kernel_rfl) (by kernel_rfl) (by kernel_rfl) (fun _ _ _ h => h) (Or.inl ⟨by rfl, ?ycxn1⟩) hS ?rcxn1
      case ycxn1 => (intro w' hS; have cf := (show w'.cell? ⟨w.heap.size, 1, none⟩ = some (.string Aa) from cell_of_row _ _ 1 _ _ _ hS.a); go_simp; try with_reducible rfl)
      refine wpAnyH_take (i := 3) (oi := { dst := some 32, op := Op.load 24 (Operand.tmp 31), type := 24, pos := "ratio.go:62", after := #[{ on := 2, ground := Ground.data }], guard := none }) (v := .string Bb) rfl (by kernel_rfl) (by kernel_rfl) (by kernel_rfl) (fun _ _ _ h => h) (Or.inl ⟨by rfl, ?ycxn3⟩) hS ?rcxn3
      case ycxn3 => (intro w' hS; have cf := (show w'.cell? ⟨(w.heap.size + 1), 2, none⟩ = some (.string Bb) from cell_of_row _ _ 2 _ _ _ hS.c); go_simp; try with_reducible rfl)
      refine wpAnyH_take (i := 6) (oi := { dst := some 35, op := Op.load 24 (Operand.tmp 34), type := 24, pos := "ratio.go:62", after := #[{ on := 5, ground := Ground.data }], guard := none }) (v := .string Ab) rfl (by kernel_rfl) (by kernel_rfl) (by kernel_rfl) (fun _ _ _ h => h) (Or.inl ⟨by rfl, ?ycxn6⟩) hS ?rcxn6
      case ycxn6 => (intro w' hS; have cf := (show w'.cell? ⟨(w.heap.size + 1), 1, none⟩ = some (.string Ab) from cell_of_row _ _ 1 _ _ _ hS.c); go_simp; try with_reducible rfl)
      refine wpAnyH_take (i := 8) (oi := { dst := some 37, op := Op.load 24 (Operand.tmp 36), type := 24, pos := "ratio.go:62", after := #[{ on := 7, ground := Ground.data }], guard := none }) (v := .string Ba) rfl (by kernel_rfl) (by kernel_rfl) (by kernel_rfl) (fun _ _ _ h => h) (Or.inl ⟨by rfl, ?ycxn8⟩) hS ?rcxn8
      case ycxn8 => (intro w' hS; have cf := (show w'.cell? ⟨w.heap.size, 2, none⟩ = some (.string Ba) from cell_of_row _ _ 2 _ _ _ hS.a); go_simp; try with_reducible rfl)
      go_simp
      refine wpAnyH_ready (rs := [4]) (by kernel_rfl) (by simp) ?_
      refine AllReadyH.cons (o := { dst := some 33, op := Op.call { callee := Callee.value (Operand.func 56), args := #[Operand.tmp 30, Operand.tmp 32], argTypes := #[24, 24] }, type := 24, pos := "ratio.go:62", after := #[{ on := 1, ground := Ground.data }, { on := 3, ground := Ground.data }], guard := none }) rfl (fun K hK => ?_) AllReadyH.nil
      go_simp
      go_at_call 56
      refine (HM.out.1 _).mono ?_
      rintro e w' ⟨rfl, b⟩
      have hS2 := hS.next b
      clear b hS
      try go_simp
      refine hK.out _ _ hS2 (fun hS => ?_)
      clear hK K hS2
      refine wpAnyH_ready (rs := [9]) (by kernel_rfl) (by simp) ?_
      refine AllReadyH.cons (o := { dst := some 38, op := Op.call { callee := Callee.value (Operand.func 56), args := #[Operand.tmp 35, Operand.tmp 37], argTypes := #[24, 24] }, type := 24, pos := "ratio.go:62", after := #[{ on := 6, ground := Ground.data }, { on := 8, ground := Ground.data }, { on := 4, ground := Ground.chain }], guard := none }) rfl (fun K hK => ?_) AllReadyH.nil
      go_simp
      go_at_call 56
      refine (HM.out.2.1 _).mono ?_
      rintro e w' ⟨rfl, b⟩
      have hS2 := hS.next b
      clear b hS
      try go_simp
      refine hK.out _ _ hS2 (fun hS => ?_)
      clear hK K hS2
      refine wpAnyH_ready (rs := [10]) (by kernel_rfl) (by simp) ?_
      refine AllReadyH.cons (o := { dst := some 39, op := Op.call { callee := Callee.value (Operand.func 55), args := #[Operand.tmp 33, Operand.tmp 38], argTypes := #[24, 24] }, type := 3, pos := "ratio.go:62", after := #[{ on := 4, ground := Ground.data }, { on := 9, ground := Ground.data }, { on := 9, ground := Ground.chain }], guard := none }) rfl (fun K hK => ?_) AllReadyH.nil
      go_simp
      go_at_call 55
      refine (HM.out.2.2 _).mono ?_
      rintro e w' ⟨rfl, b⟩
      have hS2 := hS.next b
      clear b hS
      try go_simp
      refine hK.out _ _ hS2 (fun hS => ?_)
      clear hK K hS2
      refine wpAnyH_take (i := 11) (oi := { dst := some 5, op := Op.assign (Operand.tmp 39), type := 3, pos := "ratio.go:62", after := #[{ on := 10, ground := Ground.data }, { on := 10, ground := Ground.chain }, { on := 0, ground := Ground.phase }, { on := 1, ground := Ground.phase }, { on := 2, ground := Ground.phase }, { on := 3, ground := Ground.phase }, { on := 4, ground := Ground.phase }, { on := 5, ground := Ground.phase }, { on := 6, ground := Ground.phase }, { on := 7, ground := Ground.phase }, { on := 8, ground := Ground.phase }, { on := 9, ground := Ground.phase }, { on := 10, ground := Ground.phase }], guard := none }) (v := ?vcxn11) rfl (by kernel_rfl) (by kernel_rfl) (by kernel_rfl) (fun _ _ _ h => h) (Or.inl ⟨by rfl, ?ycxn11⟩) hS ?rcxn11
      case ycxn11 => (intro w hS; go_simp; try with_reducible rfl)
      refine wpAnyH_done (by kernel_rfl) ?_ _
      have c0 : w'.cell? ⟨w.heap.size, 0, none⟩ = some (.bool true) := (k2_facts hS).1.1
      go_wp2
      go_ret
      exact ⟨by rw [HR.out]; rfl, hS.b⟩
  · have K4 : K2 w (rrow ga Aa Ba) (rrow gb Ab Bb) _ := k2_stored K3 rfl rfl (.bool ga) (.string Aa) (.string Ba) (.bool gb) (.string Ab) (.string Bb)
    change Exit.then _ _ Exit.normal _ ((((((ub.setCell ⟨w.heap.size, 0, none⟩ (.bool ga)).setCell ⟨w.heap.size, 1, none⟩ (.string Aa)).setCell ⟨w.heap.size, 2, none⟩ (.string Ba)).setCell ⟨w.heap.size + 1, 0, none⟩ (.bool gb)).setCell ⟨w.heap.size + 1, 1, none⟩ (.string Ab)).setCell ⟨w.heap.size + 1, 2, none⟩ (.string Bb))
    clear c0 c1 c2 c3 c4 c5 d0 d1 d2 d3 d4 d5 e0 e1 e2 e3 e4 e5 f0 f1 f2 f3 f4 f5 K0 K1 K3 HT0 HT1 HV HT
    generalize (((((ub.setCell ⟨w.heap.size, 0, none⟩ (.bool ga)).setCell ⟨w.heap.size, 1, none⟩ (.string Aa)).setCell ⟨w.heap.size, 2, none⟩ (.string Ba)).setCell ⟨w.heap.size + 1, 0, none⟩ (.bool gb)).setCell ⟨w.heap.size + 1, 1, none⟩ (.string Ab)).setCell ⟨w.heap.size + 1, 2, none⟩ (.string Bb) = Y at *
    have hf := (k2_facts K4).1
    have HK := Lib.hid K4
    clear K4
    obtain ⟨c0, c1, c2, c3, c4, c5⟩ := hf
    cases ga <;> cases gb
    · have HR := Lib.hid (show cab = z by rw [HC.out]; rfl)
      clear HC
      go_upto_region 8 with fail
      clear c0 c1 c2 c3 c4 c5
      refine wp_region_held_drew (S := K2 w (rrow false Aa Ba) (rrow false Ab Bb)) (by kernel_rfl) HK.out.drew (fun hS => ?_)
      clear HK
      refine wpAnyH_take (i := 0) (oi := { dst := some 29, op := Op.fieldAddr 26 (Operand.tmp 2) 1, type := 0, pos := "ratio.go:62", after := #[], guard := none }) (v := ?vcym0) rfl (by kernel_rfl) (by kernel_rfl) (by kernel_rfl) (fun _ _ _ h => h) (Or.inl ⟨by rfl, ?ycym0⟩) hS ?rcym0
      case ycym0 => (intro w hS; go_simp; try with_reducible rfl)
      refine wpAnyH_take (i := 2) (oi := { dst := some 31, op := Op.fieldAddr 26 (Operand.tmp 3) 2, type := 0, pos := "ratio.go:62", after := #[], guard := none }) (v := ?vcym2) rfl (by kernel_rfl) (by kernel_rfl) (by kernel_rfl) (fun _ _ _ h => h) (Or.inl ⟨by rfl, ?ycym2⟩) hS ?rcym2
      case ycym2 => (intro w hS; go_simp; try with_reducible rfl)
      refine wpAnyH_take (i := 5) (oi := { dst := some 34, op := Op.fieldAddr 26 (Operand.tmp 3) 1, type := 0, pos := "ratio.go:62", after := #[], guard := none }) (v := ?vcym5) rfl (by kernel_rfl) (by kernel_rfl) (by kernel_rfl) (fun _ _ _ h => h) (Or.inl ⟨by rfl, ?ycym5⟩) hS ?rcym5
      case ycym5 => (intro w hS; go_simp; try with_reducible rfl)
      refine wpAnyH_take (i := 7) (oi := { dst := some 36, op := Op.fieldAddr 26 (Operand.tmp 2) 2, type := 0, pos := "ratio.go:62", after := #[], guard := none }) (v := ?vcym7) rfl (by kernel_rfl) (by kernel_rfl) (by kernel_rfl) (fun _ _ _ h => h) (Or.inl ⟨by rfl, ?ycym7⟩) hS ?rcym7
      case ycym7 => (intro w hS; go_simp; try with_reducible rfl)
      go_simp
      refine wpAnyH_take (i := 1) (oi := { dst := some 30, op := Op.load 24 (Operand.tmp 29), type := 24, pos := "ratio.go:62", after := #[{ on := 0, ground := Ground.data }], guard := none }) (v := .string Aa) rfl (by kernel_rfl) (by kernel_rfl) (by kernel_rfl) (fun _ _ _ h => h) (Or.inl ⟨by rfl, ?ycym1⟩) hS ?rcym1
      case ycym1 => (intro w' hS; have cf := (show w'.cell? ⟨w.heap.size, 1, none⟩ = some (.string Aa) from cell_of_row _ _ 1 _ _ _ hS.a); go_simp; try with_reducible rfl)
      refine wpAnyH_take (i := 3) (oi := { dst := some 32, op := Op.load 24 (Operand.tmp 31), type := 24, pos := "ratio.go:62", after := #[{ on := 2, ground := Ground.data }], guard := none }) (v := .string Bb) rfl (by kernel_rfl) (by kernel_rfl) (by kernel_rfl) (fun _ _ _ h => h) (Or.inl ⟨by rfl, ?ycym3⟩) hS ?rcym3
      case ycym3 => (intro w' hS; have cf := (show w'.cell? ⟨(w.heap.size + 1), 2, none⟩ = some (.string Bb) from cell_of_row _ _ 2 _ _ _ hS.c); go_simp; try with_reducible rfl)
      refine wpAnyH_take (i := 6) (oi := { dst := some 35, op := Op.load 24 (Operand.tmp 34), type := 24, pos := "ratio.go:62", after := #[{ on := 5, ground := Ground.data }], guard := none }) (v := .string Ab) rfl (by kernel_rfl) (by kernel_rfl) (by kernel_rfl) (fun _ _ _ h => h) (Or.inl ⟨by rfl, ?ycym6⟩) hS ?rcym6
      case ycym6 => (intro w' hS; have cf := (show w'.cell? ⟨(w.heap.size + 1), 1, none⟩ = some (.string Ab) from cell_of_row _ _ 1 _ _ _ hS.c); go_simp; try with_reducible rfl)
      refine wpAnyH_take (i := 8) (oi := { dst := some 37, op := Op.load 24 (Operand.tmp 36), type := 24, pos := "ratio.go:62", after := #[{ on := 7, ground := Ground.data }], guard := none }) (v := .string Ba) rfl (by kernel_rfl) (by kernel_rfl) (by kernel_rfl) (fun _ _ _ h => h) (Or.inl ⟨by rfl, ?ycym8⟩) hS ?rcym8
      case ycym8 => (intro w' hS; have cf := (show w'.cell? ⟨w.heap.size, 2, none⟩ = some (.string Ba) from cell_of_row _ _ 2 _ _ _ hS.a); go_simp; try with_reducible rfl)
      go_simp
      refine wpAnyH_ready (rs := [4]) (by kernel_rfl) (by simp) ?_
      refine AllReadyH.cons (o := { dst := some 33, op := Op.call { callee := Callee.value (Operand.func 56), args := #[Operand.tmp 30, Operand.tmp 32], argTypes := #[24, 24] }, type := 24, pos := "ratio.go:62", after := #[{ on := 1, ground := Ground.data }, { on := 3, ground := Ground.data }], guard := none }) rfl (fun K hK => ?_) AllReadyH.nil
      go_simp
      go_at_call 56
      refine (HM.out.1 _).mono ?_
      rintro e w' ⟨rfl, b⟩
      have hS2 := hS.next b
      clear b hS
      try go_simp
      refine hK.out _ _ hS2 (fun hS => ?_)
      clear hK K hS2
      refine wpAnyH_ready (rs := [9]) (by kernel_rfl) (by simp) ?_
      refine AllReadyH.cons (o := { dst := some 38, op := Op.call { callee := Callee.value (Operand.func 56), args := #[Operand.tmp 35, Operand.tmp 37], argTypes := #[24, 24] }, type := 24, pos := "ratio.go:62", after := #[{ on := 6, ground := Ground.data }, { on := 8, ground := Ground.data }, { on := 4, ground := Ground.chain }], guard := none }) rfl (fun K hK => ?_) AllReadyH.nil
      go_simp
      go_at_call 56
      refine (HM.out.2.1 _).mono ?_
      rintro e w' ⟨rfl, b⟩
      have hS2 := hS.next b
      clear b hS
      try go_simp
      refine hK.out _ _ hS2 (fun hS => ?_)
      clear hK K hS2
      refine wpAnyH_ready (rs := [10]) (by kernel_rfl) (by simp) ?_
      refine AllReadyH.cons (o := { dst := some 39, op := Op.call { callee := Callee.value (Operand.func 55), args := #[Operand.tmp 33, Operand.tmp 38], argTypes := #[24, 24] }, type := 3, pos := "ratio.go:62", after := #[{ on := 4, ground := Ground.data }, { on := 9, ground := Ground.data }, { on := 9, ground := Ground.chain }], guard := none }) rfl (fun K hK => ?_) AllReadyH.nil
      go_simp
      go_at_call 55
      refine (HM.out.2.2 _).mono ?_
      rintro e w' ⟨rfl, b⟩
      have hS2 := hS.next b
      clear b hS
      try go_simp
      refine hK.out _ _ hS2 (fun hS => ?_)
      clear hK K hS2
      refine wpAnyH_take (i := 11) (oi := { dst := some 5, op := Op.assign (Operand.tmp 39), type := 3, pos := "ratio.go:62", after := #[{ on := 10, ground := Ground.data }, { on := 10, ground := Ground.chain }, { on := 0, ground := Ground.phase }, { on := 1, ground := Ground.phase }, { on := 2, ground := Ground.phase }, { on := 3, ground := Ground.phase }, { on := 4, ground := Ground.phase }, { on := 5, ground := Ground.phase }, { on := 6, ground := Ground.phase }, { on := 7, ground := Ground.phase }, { on := 8, ground := Ground.phase }, { on := 9, ground := Ground.phase }, { on := 10, ground := Ground.phase }], guard := none }) (v := ?vcym11) rfl (by kernel_rfl) (by kernel_rfl) (by kernel_rfl) (fun _ _ _ h => h) (Or.inl ⟨by rfl, ?ycym11⟩) hS ?rcym11
      case ycym11 => (intro w hS; go_simp; try with_reducible rfl)
      refine wpAnyH_done (by kernel_rfl) ?_ _
      have c0 : w'.cell? ⟨w.heap.size, 0, none⟩ = some (.bool false) := (k2_facts hS).1.1
      go_wp2
      go_ret
      exact ⟨by rw [HR.out]; rfl, hS.b⟩
    · have HR := Lib.hid (show cab = 1 by rw [HC.out]; rfl)
      clear HC
      go_wp2
      go_ret
      exact ⟨by rw [HR.out]; rfl, HK.out.b⟩
    · have HR := Lib.hid (show cab = -1 by rw [HC.out]; rfl)
      clear HC
      go_wp2
      go_ret
      exact ⟨by rw [HR.out]; rfl, HK.out.b⟩
    · have HR := Lib.hid (show cab = -z by rw [HC.out]; rfl)
      clear HC
      go_upto_region 8 with fail
      clear c0 c1 c2 c3 c4 c5
      refine wp_region_held_drew (S := K2 w (rrow true Aa Ba) (rrow true Ab Bb)) (by kernel_rfl) HK.out.drew (fun hS => ?_)
      clear HK
      refine wpAnyH_take (i := 0) (oi := { dst := some 29, op := Op.fieldAddr 26 (Operand.tmp 2) 1, type := 0, pos := "ratio.go:62", after := #[], guard := none }) (v := ?vcyn0) rfl (by kernel_rfl) (by kernel_rfl) (by kernel_rfl) (fun _ _ _ h => h) (Or.inl ⟨by rfl, ?ycyn0⟩) hS ?rcyn0
      case ycyn0 => (intro w hS; go_simp; try with_reducible rfl)
      refine wpAnyH_take (i := 2) (oi := { dst := some 31, op := Op.fieldAddr 26 (Operand.tmp 3) 2, type := 0, pos := "ratio.go:62", after := #[], guard := none }) (v := ?vcyn2) rfl (by kernel_rfl) (by kernel_rfl) (by kernel_rfl) (fun _ _ _ h => h) (Or.inl ⟨by rfl, ?ycyn2⟩) hS ?rcyn2
      case ycyn2 => (intro w hS; go_simp; try with_reducible rfl)
      refine wpAnyH_take (i := 5) (oi := { dst := some 34, op := Op.fieldAddr 26 (Operand.tmp 3) 1, type := 0, pos := "ratio.go:62", after := #[], guard := none }) (v := ?vcyn5) rfl (by kernel_rfl) (by kernel_rfl) (by kernel_rfl) (fun _ _ _ h => h) (Or.inl ⟨by rfl, ?ycyn5⟩) hS ?rcyn5
      case ycyn5 => (intro w hS; go_simp; try with_reducible rfl)
      refine wpAnyH_take (i := 7) (oi := { dst := some 36, op := Op.fieldAddr 26 (Operand.tmp 2) 2, type := 0, pos := "ratio.go:62", after := #[], guard := none }) (v := ?vcyn7) rfl (by kernel_rfl) (by kernel_rfl) (by kernel_rfl) (fun _ _ _ h => h) (Or.inl ⟨by rfl, ?ycyn7⟩) hS ?rcyn7
      case ycyn7 => (intro w hS; go_simp; try with_reducible rfl)
      go_simp
      refine wpAnyH_take (i := 1) (oi := { dst := some 30, op := Op.load 24 (Operand.tmp 29), type := 24, pos := "ratio.go:62", after := #[{ on := 0, ground := Ground.data }], guard := none }) (v := .string Aa) rfl (by kernel_rfl) (by kernel_rfl) (by kernel_rfl) (fun _ _ _ h => h) (Or.inl ⟨by rfl, ?ycyn1⟩) hS ?rcyn1
      case ycyn1 => (intro w' hS; have cf := (show w'.cell? ⟨w.heap.size, 1, none⟩ = some (.string Aa) from cell_of_row _ _ 1 _ _ _ hS.a); go_simp; try with_reducible rfl)
      refine wpAnyH_take (i := 3) (oi := { dst := some 32, op := Op.load 24 (Operand.tmp 31), type := 24, pos := "ratio.go:62", after := #[{ on := 2, ground := Ground.data }], guard := none }) (v := .string Bb) rfl (by kernel_rfl) (by kernel_rfl) (by kernel_rfl) (fun _ _ _ h => h) (Or.inl ⟨by rfl, ?ycyn3⟩) hS ?rcyn3
      case ycyn3 => (intro w' hS; have cf := (show w'.cell? ⟨(w.heap.size + 1), 2, none⟩ = some (.string Bb) from cell_of_row _ _ 2 _ _ _ hS.c); go_simp; try with_reducible rfl)
      refine wpAnyH_take (i := 6) (oi := { dst := some 35, op := Op.load 24 (Operand.tmp 34), type := 24, pos := "ratio.go:62", after := #[{ on := 5, ground := Ground.data }], guard := none }) (v := .string Ab) rfl (by kernel_rfl) (by kernel_rfl) (by kernel_rfl) (fun _ _ _ h => h) (Or.inl ⟨by rfl, ?ycyn6⟩) hS ?rcyn6
      case ycyn6 => (intro w' hS; have cf := (show w'.cell? ⟨(w.heap.size + 1), 1, none⟩ = some (.string Ab) from cell_of_row _ _ 1 _ _ _ hS.c); go_simp; try with_reducible rfl)
      refine wpAnyH_take (i := 8) (oi := { dst := some 37, op := Op.load 24 (Operand.tmp 36), type := 24, pos := "ratio.go:62", after := #[{ on := 7, ground := Ground.data }], guard := none }) (v := .string Ba) rfl (by kernel_rfl) (by kernel_rfl) (by kernel_rfl) (fun _ _ _ h => h) (Or.inl ⟨by rfl, ?ycyn8⟩) hS ?rcyn8
      case ycyn8 => (intro w' hS; have cf := (show w'.cell? ⟨w.heap.size, 2, none⟩ = some (.string Ba) from cell_of_row _ _ 2 _ _ _ hS.a); go_simp; try with_reducible rfl)
      go_simp
      refine wpAnyH_ready (rs := [4]) (by kernel_rfl) (by simp) ?_
      refine AllReadyH.cons (o := { dst := some 33, op := Op.call { callee := Callee.value (Operand.func 56), args := #[Operand.tmp 30, Operand.tmp 32], argTypes := #[24, 24] }, type := 24, pos := "ratio.go:62", after := #[{ on := 1, ground := Ground.data }, { on := 3, ground := Ground.data }], guard := none }) rfl (fun K hK => ?_) AllReadyH.nil
      go_simp
      go_at_call 56
      refine (HM.out.1 _).mono ?_
      rintro e w' ⟨rfl, b⟩
      have hS2 := hS.next b
      clear b hS
      try go_simp
      refine hK.out _ _ hS2 (fun hS => ?_)
      clear hK K hS2
      refine wpAnyH_ready (rs := [9]) (by kernel_rfl) (by simp) ?_
      refine AllReadyH.cons (o := { dst := some 38, op := Op.call { callee := Callee.value (Operand.func 56), args := #[Operand.tmp 35, Operand.tmp 37], argTypes := #[24, 24] }, type := 24, pos := "ratio.go:62", after := #[{ on := 6, ground := Ground.data }, { on := 8, ground := Ground.data }, { on := 4, ground := Ground.chain }], guard := none }) rfl (fun K hK => ?_) AllReadyH.nil
      go_simp
      go_at_call 56
      refine (HM.out.2.1 _).mono ?_
      rintro e w' ⟨rfl, b⟩
      have hS2 := hS.next b
      clear b hS
      try go_simp
      refine hK.out _ _ hS2 (fun hS => ?_)
      clear hK K hS2
      refine wpAnyH_ready (rs := [10]) (by kernel_rfl) (by simp) ?_
      refine AllReadyH.cons (o := { dst := some 39, op := Op.call { callee := Callee.value (Operand.func 55), args := #[Operand.tmp 33, Operand.tmp 38], argTypes := #[24, 24] }, type := 3, pos := "ratio.go:62", after := #[{ on := 4, ground := Ground.data }, { on := 9, ground := Ground.data }, { on := 9, ground := Ground.chain }], guard := none }) rfl (fun K hK => ?_) AllReadyH.nil
      go_simp
      go_at_call 55
      refine (HM.out.2.2 _).mono ?_
      rintro e w' ⟨rfl, b⟩
      have hS2 := hS.next b
      clear b hS
      try go_simp
      refine hK.out _ _ hS2 (fun hS => ?_)
      clear hK K hS2
      refine wpAnyH_take (i := 11) (oi := { dst := some 5, op := Op.assign (Operand.tmp 39), type := 3, pos := "ratio.go:62", after := #[{ on := 10, ground := Ground.data }, { on := 10, ground := Ground.chain }, { on := 0, ground := Ground.phase }, { on := 1, ground := Ground.phase }, { on := 2, ground := Ground.phase }, { on := 3, ground := Ground.phase }, { on := 4, ground := Ground.phase }, { on := 5, ground := Ground.phase }, { on := 6, ground := Ground.phase }, { on := 7, ground := Ground.phase }, { on := 8, ground := Ground.phase }, { on := 9, ground := Ground.phase }, { on := 10, ground := Ground.phase }], guard := none }) (v := ?vcyn11) rfl (by kernel_rfl) (by kernel_rfl) (by kernel_rfl) (fun _ _ _ h => h) (Or.inl ⟨by rfl, ?ycyn11⟩) hS ?rcyn11
      case ycyn11 => (intro w hS; go_simp; try with_reducible rfl)
      refine wpAnyH_done (by kernel_rfl) ?_ _
      have c0 : w'.cell? ⟨w.heap.size, 0, none⟩ = some (.bool true) := (k2_facts hS).1.1
      go_wp2
      go_ret
      exact ⟨by rw [HR.out]; rfl, hS.b⟩
  · have K4 : K2 w (rrow ga Aa Ba) (rrow gb Ab Bb) _ := k2_stored K3 rfl rfl (.bool ga) (.string Aa) (.string Ba) (.bool gb) (.string Ab) (.string Bb)
    change Exit.then _ _ Exit.normal _ ((((((ub.setCell ⟨w.heap.size, 0, none⟩ (.bool ga)).setCell ⟨w.heap.size, 1, none⟩ (.string Aa)).setCell ⟨w.heap.size, 2, none⟩ (.string Ba)).setCell ⟨w.heap.size + 1, 0, none⟩ (.bool gb)).setCell ⟨w.heap.size + 1, 1, none⟩ (.string Ab)).setCell ⟨w.heap.size + 1, 2, none⟩ (.string Bb))
    clear c0 c1 c2 c3 c4 c5 d0 d1 d2 d3 d4 d5 e0 e1 e2 e3 e4 e5 f0 f1 f2 f3 f4 f5 K0 K1 K3 HT0 HT1 HV HT
    generalize (((((ub.setCell ⟨w.heap.size, 0, none⟩ (.bool ga)).setCell ⟨w.heap.size, 1, none⟩ (.string Aa)).setCell ⟨w.heap.size, 2, none⟩ (.string Ba)).setCell ⟨w.heap.size + 1, 0, none⟩ (.bool gb)).setCell ⟨w.heap.size + 1, 1, none⟩ (.string Ab)).setCell ⟨w.heap.size + 1, 2, none⟩ (.string Bb) = Y at *
    have hf := (k2_facts K4).1
    have HK := Lib.hid K4
    clear K4
    obtain ⟨c0, c1, c2, c3, c4, c5⟩ := hf
    cases ga <;> cases gb
    · have HR := Lib.hid (show cab = z by rw [HC.out]; rfl)
      clear HC
      go_upto_region 8 with fail
      clear c0 c1 c2 c3 c4 c5
      refine wp_region_held_drew (S := K2 w (rrow false Aa Ba) (rrow false Ab Bb)) (by kernel_rfl) HK.out.drew (fun hS => ?_)
      clear HK
      refine wpAnyH_take (i := 0) (oi := { dst := some 29, op := Op.fieldAddr 26 (Operand.tmp 2) 1, type := 0, pos := "ratio.go:62", after := #[], guard := none }) (v := ?vczm0) rfl (by kernel_rfl) (by kernel_rfl) (by kernel_rfl) (fun _ _ _ h => h) (Or.inl ⟨by rfl, ?yczm0⟩) hS ?rczm0
      case yczm0 => (intro w hS; go_simp; try with_reducible rfl)
      refine wpAnyH_take (i := 2) (oi := { dst := some 31, op := Op.fieldAddr 26 (Operand.tmp 3) 2, type := 0, pos := "ratio.go:62", after := #[], guard := none }) (v := ?vczm2) rfl (by kernel_rfl) (by kernel_rfl) (by kernel_rfl) (fun _ _ _ h => h) (Or.inl ⟨by rfl, ?yczm2⟩) hS ?rczm2
      case yczm2 => (intro w hS; go_simp; try with_reducible rfl)
      refine wpAnyH_take (i := 5) (oi := { dst := some 34, op := Op.fieldAddr 26 (Operand.tmp 3) 1, type := 0, pos := "ratio.go:62", after := #[], guard := none }) (v := ?vczm5) rfl (by kernel_rfl) (by kernel_rfl) (by kernel_rfl) (fun _ _ _ h => h) (Or.inl ⟨by rfl, ?yczm5⟩) hS ?rczm5
      case yczm5 => (intro w hS; go_simp; try with_reducible rfl)
      refine wpAnyH_take (i := 7) (oi := { dst := some 36, op := Op.fieldAddr 26 (Operand.tmp 2) 2, type := 0, pos := "ratio.go:62", after := #[], guard := none }) (v := ?vczm7) rfl (by kernel_rfl) (by kernel_rfl) (by kernel_rfl) (fun _ _ _ h => h) (Or.inl ⟨by rfl, ?yczm7⟩) hS ?rczm7
      case yczm7 => (intro w hS; go_simp; try with_reducible rfl)
      go_simp
      refine wpAnyH_take (i := 1) (oi := { dst := some 30, op := Op.load 24 (Operand.tmp 29), type := 24, pos := "ratio.go:62", after := #[{ on := 0, ground := Ground.data }], guard := none }) (v := .string Aa) rfl (by kernel_rfl) (by kernel_rfl) (by kernel_rfl) (fun _ _ _ h => h) (Or.inl ⟨by rfl, ?yczm1⟩) hS ?rczm1
      case yczm1 => (intro w' hS; have cf := (show w'.cell? ⟨w.heap.size, 1, none⟩ = some (.string Aa) from cell_of_row _ _ 1 _ _ _ hS.a); go_simp; try with_reducible rfl)
      refine wpAnyH_take (i := 3) (oi := { dst := some 32, op := Op.load 24 (Operand.tmp 31), type := 24, pos := "ratio.go:62", after := #[{ on := 2, ground := Ground.data }], guard := none }) (v := .string Bb) rfl (by kernel_rfl) (by kernel_rfl) (by kernel_rfl) (fun _ _ _ h => h) (Or.inl ⟨by rfl, ?yczm3⟩) hS ?rczm3
      case yczm3 => (intro w' hS; have cf := (show w'.cell? ⟨(w.heap.size + 1), 2, none⟩ = some (.string Bb) from cell_of_row _ _ 2 _ _ _ hS.c); go_simp; try with_reducible rfl)
      refine wpAnyH_take (i := 6) (oi := { dst := some 35, op := Op.load 24 (Operand.tmp 34), type := 24, pos := "ratio.go:62", after := #[{ on := 5, ground := Ground.data }], guard := none }) (v := .string Ab) rfl (by kernel_rfl) (by kernel_rfl) (by kernel_rfl) (fun _ _ _ h => h) (Or.inl ⟨by rfl, ?yczm6⟩) hS ?rczm6
      case yczm6 => (intro w' hS; have cf := (show w'.cell? ⟨(w.heap.size + 1), 1, none⟩ = some (.string Ab) from cell_of_row _ _ 1 _ _ _ hS.c); go_simp; try with_reducible rfl)
      refine wpAnyH_take (i := 8) (oi := { dst := some 37, op := Op.load 24 (Operand.tmp 36), type := 24, pos := "ratio.go:62", after := #[{ on := 7, ground := Ground.data }], guard := none }) (v := .string Ba) rfl (by kernel_rfl) (by kernel_rfl) (by kernel_rfl) (fun _ _ _ h => h) (Or.inl ⟨by rfl, ?yczm8⟩) hS ?rczm8
      case yczm8 => (intro w' hS; have cf := (show w'.cell? ⟨w.heap.size, 2, none⟩ = some (.string Ba) from cell_of_row _ _ 2 _ _ _ hS.a); go_simp; try with_reducible rfl)
      go_simp
      refine wpAnyH_ready (rs := [4]) (by kernel_rfl) (by simp) ?_
      refine AllReadyH.cons (o := { dst := some 33, op := Op.call { callee := Callee.value (Operand.func 56), args := #[Operand.tmp 30, Operand.tmp 32], argTypes := #[24, 24] }, type := 24, pos := "ratio.go:62", after := #[{ on := 1, ground := Ground.data }, { on := 3, ground := Ground.data }], guard := none }) rfl (fun K hK => ?_) AllReadyH.nil
      go_simp
      go_at_call 56
      refine (HM.out.1 _).mono ?_
      rintro e w' ⟨rfl, b⟩
      have hS2 := hS.next b
      clear b hS
      try go_simp
      refine hK.out _ _ hS2 (fun hS => ?_)
      clear hK K hS2
      refine wpAnyH_ready (rs := [9]) (by kernel_rfl) (by simp) ?_
      refine AllReadyH.cons (o := { dst := some 38, op := Op.call { callee := Callee.value (Operand.func 56), args := #[Operand.tmp 35, Operand.tmp 37], argTypes := #[24, 24] }, type := 24, pos := "ratio.go:62", after := #[{ on := 6, ground := Ground.data }, { on := 8, ground := Ground.data }, { on := 4, ground := Ground.chain }], guard := none }) rfl (fun K hK => ?_) AllReadyH.nil
      go_simp
      go_at_call 56
      refine (HM.out.2.1 _).mono ?_
      rintro e w' ⟨rfl, b⟩
      have hS2 := hS.next b
      clear b hS
      try go_simp
      refine hK.out _ _ hS2 (fun hS => ?_)
      clear hK K hS2
      refine wpAnyH_ready (rs := [10]) (by kernel_rfl) (by simp) ?_
      refine AllReadyH.cons (o := { dst := some 39, op := Op.call { callee := Callee.value (Operand.func 55), args := #[Operand.tmp 33, Operand.tmp 38], argTypes := #[24, 24] }, type := 3, pos := "ratio.go:62", after := #[{ on := 4, ground := Ground.data }, { on := 9, ground := Ground.data }, { on := 9, ground := Ground.chain }], guard := none }) rfl (fun K hK => ?_) AllReadyH.nil
      go_simp
      go_at_call 55
      refine (HM.out.2.2 _).mono ?_
      rintro e w' ⟨rfl, b⟩
      have hS2 := hS.next b
      clear b hS
      try go_simp
      refine hK.out _ _ hS2 (fun hS => ?_)
      clear hK K hS2
      refine wpAnyH_take (i := 11) (oi := { dst := some 5, op := Op.assign (Operand.tmp 39), type := 3, pos := "ratio.go:62", after := #[{ on := 10, ground := Ground.data }, { on := 10, ground := Ground.chain }, { on := 0, ground := Ground.phase }, { on := 1, ground := Ground.phase }, { on := 2, ground := Ground.phase }, { on := 3, ground := Ground.phase }, { on := 4, ground := Ground.phase }, { on := 5, ground := Ground.phase }, { on := 6, ground := Ground.phase }, { on := 7, ground := Ground.phase }, { on := 8, ground := Ground.phase }, { on := 9, ground := Ground.phase }, { on := 10, ground := Ground.phase }], guard := none }) (v := ?vczm11) rfl (by kernel_rfl) (by kernel_rfl) (by kernel_rfl) (fun _ _ _ h => h) (Or.inl ⟨by rfl, ?yczm11⟩) hS ?rczm11
      case yczm11 => (intro w hS; go_simp; try with_reducible rfl)
      refine wpAnyH_done (by kernel_rfl) ?_ _
      have c0 : w'.cell? ⟨w.heap.size, 0, none⟩ = some (.bool false) := (k2_facts hS).1.1
      go_wp2
      go_ret
      exact ⟨by rw [HR.out]; rfl, hS.b⟩
    · have HR := Lib.hid (show cab = 1 by rw [HC.out]; rfl)
      clear HC
      go_wp2
      go_ret
      exact ⟨by rw [HR.out]; rfl, HK.out.b⟩
    · have HR := Lib.hid (show cab = -1 by rw [HC.out]; rfl)
      clear HC
      go_wp2
      go_ret
      exact ⟨by rw [HR.out]; rfl, HK.out.b⟩
    · have HR := Lib.hid (show cab = -z by rw [HC.out]; rfl)
      clear HC
      go_upto_region 8 with fail
      clear c0 c1 c2 c3 c4 c5
      refine wp_region_held_drew (S := K2 w (rrow true Aa Ba) (rrow true Ab Bb)) (by kernel_rfl) HK.out.drew (fun hS => ?_)
      clear HK
      refine wpAnyH_take (i := 0) (oi := { dst := some 29, op := Op.fieldAddr 26 (Operand.tmp 2) 1, type := 0, pos := "ratio.go:62", after := #[], guard := none }) (v := ?vczn0) rfl (by kernel_rfl) (by kernel_rfl) (by kernel_rfl) (fun _ _ _ h => h) (Or.inl ⟨by rfl, ?yczn0⟩) hS ?rczn0
      case yczn0 => (intro w hS; go_simp; try with_reducible rfl)
      refine wpAnyH_take (i := 2) (oi := { dst := some 31, op := Op.fieldAddr 26 (Operand.tmp 3) 2, type := 0, pos := "ratio.go:62", after := #[], guard := none }) (v := ?vczn2) rfl (by kernel_rfl) (by kernel_rfl) (by kernel_rfl) (fun _ _ _ h => h) (Or.inl ⟨by rfl, ?yczn2⟩) hS ?rczn2
      case yczn2 => (intro w hS; go_simp; try with_reducible rfl)
      refine wpAnyH_take (i := 5) (oi := { dst := some 34, op := Op.fieldAddr 26 (Operand.tmp 3) 1, type := 0, pos := "ratio.go:62", after := #[], guard := none }) (v := ?vczn5) rfl (by kernel_rfl) (by kernel_rfl) (by kernel_rfl) (fun _ _ _ h => h) (Or.inl ⟨by rfl, ?yczn5⟩) hS ?rczn5
      case yczn5 => (intro w hS; go_simp; try with_reducible rfl)
      refine wpAnyH_take (i := 7) (oi := { dst := some 36, op := Op.fieldAddr 26 (Operand.tmp 2) 2, type := 0, pos := "ratio.go:62", after := #[], guard := none }) (v := ?vczn7) rfl (by kernel_rfl) (by kernel_rfl) (by kernel_rfl) (fun _ _ _ h => h) (Or.inl ⟨by rfl, ?yczn7⟩) hS ?rczn7
      case yczn7 => (intro w hS; go_simp; try with_reducible rfl)
      go_simp
      refine wpAnyH_take (i := 1) (oi := { dst := some 30, op := Op.load 24 (Operand.tmp 29), type := 24, pos := "ratio.go:62", after := #[{ on := 0, ground := Ground.data }], guard := none }) (v := .string Aa) rfl (by kernel_rfl) (by kernel_rfl) (by kernel_rfl) (fun _ _ _ h => h) (Or.inl ⟨by rfl, ?yczn1⟩) hS ?rczn1
      case yczn1 => (intro w' hS; have cf := (show w'.cell? ⟨w.heap.size, 1, none⟩ = some (.string Aa) from cell_of_row _ _ 1 _ _ _ hS.a); go_simp; try with_reducible rfl)
      refine wpAnyH_take (i := 3) (oi := { dst := some 32, op := Op.load 24 (Operand.tmp 31), type := 24, pos := "ratio.go:62", after := #[{ on := 2, ground := Ground.data }], guard := none }) (v := .string Bb) rfl (by kernel_rfl) (by kernel_rfl) (by kernel_rfl) (fun _ _ _ h => h) (Or.inl ⟨by rfl, ?yczn3⟩) hS ?rczn3
      case yczn3 => (intro w' hS; have cf := (show w'.cell? ⟨(w.heap.size + 1), 2, none⟩ = some (.string Bb) from cell_of_row _ _ 2 _ _ _ hS.c); go_simp; try with_reducible rfl)
      refine wpAnyH_take (i := 6) (oi := { dst := some 35, op := Op.load 24 (Operand.tmp 34), type := 24, pos := "ratio.go:62", after := #[{ on := 5, ground := Ground.data }], guard := none }) (v := .string Ab) rfl (by kernel_rfl) (by kernel_rfl) (by kernel_rfl) (fun _ _ _ h => h) (Or.inl ⟨by rfl, ?yczn6⟩) hS ?rczn6
      case yczn6 => (intro w' hS; have cf := (show w'.cell? ⟨(w.heap.size + 1), 1, none⟩ = some (.string Ab) from cell_of_row _ _ 1 _ _ _ hS.c); go_simp; try with_reducible rfl)
      refine wpAnyH_take (i := 8) (oi := { dst := some 37, op := Op.load 24 (Operand.tmp 36), type := 24, pos := "ratio.go:62", after := #[{ on := 7, ground := Ground.data }], guard := none }) (v := .string Ba) rfl (by kernel_rfl) (by kernel_rfl) (by kernel_rfl) (fun _ _ _ h => h) (Or.inl ⟨by rfl, ?yczn8⟩) hS ?rczn8
      case yczn8 => (intro w' hS; have cf := (show w'.cell? ⟨w.heap.size, 2, none⟩ = some (.string Ba) from cell_of_row _ _ 2 _ _ _ hS.a); go_simp; try with_reducible rfl)
      go_simp
      refine wpAnyH_ready (rs := [4]) (by kernel_rfl) (by simp) ?_
      refine AllReadyH.cons (o := { dst := some 33, op := Op.call { callee := Callee.value (Operand.func 56), args := #[Operand.tmp 30, Operand.tmp 32], argTypes := #[24, 24] }, type := 24, pos := "ratio.go:62", after := #[{ on := 1, ground := Ground.data }, { on := 3, ground := Ground.data }], guard := none }) rfl (fun K hK => ?_) AllReadyH.nil
      go_simp
      go_at_call 56
      refine (HM.out.1 _).mono ?_
      rintro e w' ⟨rfl, b⟩
      have hS2 := hS.next b
      clear b hS
      try go_simp
      refine hK.out _ _ hS2 (fun hS => ?_)
      clear hK K hS2
      refine wpAnyH_ready (rs := [9]) (by kernel_rfl) (by simp) ?_
      refine AllReadyH.cons (o := { dst := some 38, op := Op.call { callee := Callee.value (Operand.func 56), args := #[Operand.tmp 35, Operand.tmp 37], argTypes := #[24, 24] }, type := 24, pos := "ratio.go:62", after := #[{ on := 6, ground := Ground.data }, { on := 8, ground := Ground.data }, { on := 4, ground := Ground.chain }], guard := none }) rfl (fun K hK => ?_) AllReadyH.nil
      go_simp
      go_at_call 56
      refine (HM.out.2.1 _).mono ?_
      rintro e w' ⟨rfl, b⟩
      have hS2 := hS.next b
      clear b hS
      try go_simp
      refine hK.out _ _ hS2 (fun hS => ?_)
      clear hK K hS2
      refine wpAnyH_ready (rs := [10]) (by kernel_rfl) (by simp) ?_
      refine AllReadyH.cons (o := { dst := some 39, op := Op.call { callee := Callee.value (Operand.func 55), args := #[Operand.tmp 33, Operand.tmp 38], argTypes := #[24, 24] }, type := 3, pos := "ratio.go:62", after := #[{ on := 4, ground := Ground.data }, { on := 9, ground := Ground.data }, { on := 9, ground := Ground.chain }], guard := none }) rfl (fun K hK => ?_) AllReadyH.nil
      go_simp
      go_at_call 55
      refine (HM.out.2.2 _).mono ?_
      rintro e w' ⟨rfl, b⟩
      have hS2 := hS.next b
      clear b hS
      try go_simp
      refine hK.out _ _ hS2 (fun hS => ?_)
      clear hK K hS2
      refine wpAnyH_take (i := 11) (oi := { dst := some 5, op := Op.assign (Operand.tmp 39), type := 3, pos := "ratio.go:62", after := #[{ on := 10, ground := Ground.data }, { on := 10, ground := Ground.chain }, { on := 0, ground := Ground.phase }, { on := 1, ground := Ground.phase }, { on := 2, ground := Ground.phase }, { on := 3, ground := Ground.phase }, { on := 4, ground := Ground.phase }, { on := 5, ground := Ground.phase }, { on := 6, ground := Ground.phase }, { on := 7, ground := Ground.phase }, { on := 8, ground := Ground.phase }, { on := 9, ground := Ground.phase }, { on := 10, ground := Ground.phase }], guard := none }) (v := ?vczn11) rfl (by kernel_rfl) (by kernel_rfl) (by kernel_rfl) (fun _ _ _ h => h) (Or.inl ⟨by rfl, ?yczn11⟩) hS ?rczn11
      case yczn11 => (intro w hS; go_simp; try with_reducible rfl)
      refine wpAnyH_done (by kernel_rfl) ?_ _
      have c0 : w'.cell? ⟨w.heap.size, 0, none⟩ = some (.bool true) := (k2_facts hS).1.1
      go_wp2
      go_ret
      exact ⟨by rw [HR.out]; rfl, hS.b⟩
theorem qCmp (w : World) (g1 g2 : Bool) (A1 B1 A2 B2 : ByteArray) (N : Nat) (hA1 : A1.size ≤ N) (hB1 : B1.size ≤ N) (hA2 : A2.size ≤ N) (hB2 : B2.size ≤ N) (hN1 : 1 ≤ N) (hN : N ≤ 1000000) (hT : Tb w) :
    Calls Tryz.prog 20 #[RW g1 A1 B1, RW g2 A2 B2] w fun e w' => e = .returned (.int .i64 (cq (rvq g1 A1 B1) (rvq g2 A2 B2))) ∧ Below w.heap.size w w' := by
  by_cases h : g1 = g2 ∧ A1 = A2 ∧ B1 = B2
  · obtain ⟨rfl, rfl, rfl⟩ := h
    rw [cq_self]
    exact cmp_same w g1 A1 B1
  · exact cmp_other w g1 g2 A1 B1 A2 B2 N hA1 hB1 hA2 hB2 hN1 hN hT h
theorem aCmp (w : World) (a b : Rat) (N : Nat) (ha : SmQ N a) (hb : SmQ N b) (h1 : 1 ≤ N) (hN : N ≤ 1000000) (hT : Tp w) :
    Calls Tryz.prog 20 #[.agg (qcells a), .agg (qcells b)] w fun e w' => e = .returned (.int .i64 (cq a b)) ∧ Below w.heap.size w w' := by
  have h := qCmp w (decide (a.num < 0)) (decide (b.num < 0)) _ _ _ _ N (q_szA ha) (q_szB ha) (q_szA hb) (q_szB hb) h1 hN hT.b
  rwa [rvq_QV, rvq_QV] at h
end Go.Proofs.YteccbedmpjeamaaGreatDoor
