/-
  The walks of ratio.Sign and ratio.Cmp.
-/
import Derived.Test.YteccbedmpjeamaaGreatDoorQLaw
namespace Go.Proofs.YteccbedmpjeamaaGreatDoor
open Go.RowKit NM QM
set_option maxRecDepth 100000 in
set_option maxHeartbeats 4000000 in
theorem aSign (w : World) (a : Rat) (N : Nat) (ha : SmQ N a) (hN : N ≤ 1000000) (hT : Tp w) :
    Calls Tryz.prog 22 #[.agg (qcells a)] w fun e w' => e = .returned (.int .i64 (sq a)) ∧ Below w.heap.size w w' := by
  have VV := fun W (h : Tp W) => valid_any W (decide (a.num < 0)) _ _ N (q_szA ha) (q_szB ha) hN h.b
  simp only [rvq_QV] at VV
  have hs := r1_start w (qcells a)
  obtain ⟨W, hW⟩ : ∃ W, w.alloc (.cells (qcells a) 26) = W := ⟨_, rfl⟩
  rw [hW] at hs
  have HW := Lib.hid (And.intro hW (And.intro hs (And.intro (hT.below hs.b) VV)))
  have HT := Lib.hid hT
  have c0 : W.cell? ⟨w.heap.size, 0, none⟩ = some (.bool (decide (a.num < 0))) := cell_of_row _ _ 0 _ _ _ hs.r
  have c1 : W.cell? ⟨w.heap.size, 1, none⟩ = some (.string (NB a.num.natAbs)) := cell_of_row _ _ 1 _ _ _ hs.r
  have c2 : W.cell? ⟨w.heap.size, 2, none⟩ = some (.string (NB a.den)) := cell_of_row _ _ 2 _ _ _ hs.r
  clear hW hs VV hT ha
  unfold qcells
  go_enter Tryz.func22, Tryz.ntmps22
  go_upto_region 1 with fail
  change Code.wp _ _ _ _ (w.alloc (.cells (qcells a) 26))
  rw [HW.out.1]
  go_wp2_with fail
  refine (HW.out.2.2.2 _ HW.out.2.2.1).mono ?_
  rintro e w1 ⟨rfl, b1⟩
  have H1 := Lib.hid (HW.out.2.1.next b1)
  clear b1 c0 c1 c2
  unfold QV
  go_upto_region 2 with (refine wpList_store_row rfl 26 (.tmp 1) (.tmp 4) rfl w.heap.size (qcells a) rfl rfl 26 (qcells a) H1.out.r info26.out rfl (qone _) ?_)
  have hB := Below.setRow' H1.out.b (Nat.le_refl _) (qcells a)
  have hr := setRow_heap _ _ _ (qcells a) _ _ H1.out.r
  generalize w1.setRow w.heap.size (qcells a) = Y at *
  obtain ⟨z0, z1, z2⟩ := (HT.out.below hB).b.z
  have HB := Lib.hid hB
  have c0 : Y.cell? ⟨w.heap.size, 0, none⟩ = some (.bool (decide (a.num < 0))) := cell_of_row _ _ 0 _ _ _ hr
  have c1 : Y.cell? ⟨w.heap.size, 1, none⟩ = some (.string (NB a.num.natAbs)) := cell_of_row _ _ 1 _ _ _ hr
  have c2 : Y.cell? ⟨w.heap.size, 2, none⟩ = some (.string (NB a.den)) := cell_of_row _ _ 2 _ _ _ hr
  clear hB hr H1 HW HT
  by_cases h : a.num < 0
  · have hs : sq a = -1 := by unfold sq; rw [if_pos h]
    rw [decide_eq_true h] at c0
    have HS := Lib.hid hs
    clear hs h
    go_wp2
    go_ret
    exact ⟨by rw [HS.out]; rfl, HB.out⟩
  · rw [decide_eq_false h] at c0
    by_cases h0 : a.num = 0
    · have hs : sq a = 0 := by unfold sq; rw [if_neg h, if_pos h0]
      have ha0 : a = 0 := Rat.num_eq_zero.1 h0
      have e1 : NB a.num.natAbs = ⟨#[]⟩ := by rw [h0]; exact NB_zero
      have e2 : NB a.den = ⟨#[1]⟩ := by rw [ha0]; exact NB_one
      rw [e1] at c1
      rw [e2] at c2
      have HS := Lib.hid hs
      clear hs h h0 ha0 e1 e2
      go_wp2
      go_ret
      exact ⟨by rw [HS.out]; rfl, HB.out⟩
    · have hs : sq a = 1 := by unfold sq; rw [if_neg h, if_neg h0]
      have hne := nz_parts (b := a) (fun e => h0 (by rw [e]; rfl))
      generalize NB a.num.natAbs = A at *
      generalize NB a.den = B at *
      have HS := Lib.hid hs
      clear hs h h0
      go_wp2
      go_ret
      exact ⟨by rw [HS.out]; rfl, HB.out⟩
end Go.Proofs.YteccbedmpjeamaaGreatDoor
