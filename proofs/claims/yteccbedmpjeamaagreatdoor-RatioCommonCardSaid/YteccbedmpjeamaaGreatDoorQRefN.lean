/-
  The walks of the reference's Neg, Sub, Sign, Cmp; the reference's calls at right numbers.
-/
import Derived.Test.YteccbedmpjeamaaGreatDoorQRefM
import Derived.Test.YteccbedmpjeamaaGreatDoorQCmp
namespace Go.Proofs.YteccbedmpjeamaaGreatDoor
open Go.RowKit NM QM
theorem neg_cells0 (a : Rat) (h : a.num = 0) : qcells (-a) = qcells a := by
  have : a = 0 := Rat.num_eq_zero.1 h
  subst this; rfl
theorem neg_cells (a : Rat) (h : a.num ≠ 0) : qcells (-a) = #[.bool (!decide (a.num < 0)), .string (NB a.num.natAbs), .string (NB a.den)] := by
  have e := neg_rv a
  unfold QV RV at e
  rw [decide_eq_true (show a.num.natAbs ≠ 0 by omega), Bool.and_true] at e
  injection e
set_option maxRecDepth 100000 in
set_option maxHeartbeats 4000000 in
theorem rNeg (w : World) (g : Bool) (A B : ByteArray) (N : Nat) (hA : A.size ≤ N) (hB : B.size ≤ N) (hN : N ≤ 1000000) (hT : Tb w) :
    Calls Tryz.prog 25 #[RW g A B] w fun e w' => e = .returned (QV (-rvq g A B)) ∧ Below w.heap.size w w' := by
  have V1 := fun W => value_q W g A B N hA hB hN
  generalize rvq g A B = a at *
  have h0 := d1_start w (rrow g A B) hT
  obtain ⟨W, hW⟩ : ∃ W, (w.alloc (.cells (rrow g A B) 26)).alloc (.cells zrow 26) = W := ⟨_, rfl⟩
  rw [hW] at h0
  unfold QV at *
  have HP := Lib.hid V1
  have HW := Lib.hid (And.intro hW h0)
  have HT := Lib.hid hT
  have c0 : W.cell? ⟨w.heap.size, 0, none⟩ = some (.bool g) := cell_of_row _ _ 0 _ _ _ h0.a
  have c1 : W.cell? ⟨w.heap.size, 1, none⟩ = some (.string A) := cell_of_row _ _ 1 _ _ _ h0.a
  have c2 : W.cell? ⟨w.heap.size, 2, none⟩ = some (.string B) := cell_of_row _ _ 2 _ _ _ h0.a
  clear V1 hW h0 hT
  unfold RW
  go_enter Tryz.func25, Tryz.ntmps25
  go_upto_region 1 with fail
  change Code.wp _ _ _ _ ((w.alloc (.cells (rrow g A B) 26)).alloc (.cells zrow 26))
  rw [HW.out.1]
  go_wp2_with fail
  refine (HP.out _).mono ?_
  rintro e w1 ⟨rfl, b1⟩
  have H1 := Lib.hid (HW.out.2.next b1); clear b1 c0 c1 c2
  go_upto_region 2 with (refine wpList_store_row rfl 26 (.tmp 1) (.tmp 4) rfl w.heap.size (qcells a) rfl rfl 26 (rrow g A B) H1.out.a info26.out rfl (qone _) ?_)
  have ra := setRow_heap _ _ _ (qcells a) _ _ H1.out.a
  have rz := (setRow_other w1 w.heap.size (w.heap.size + 1) (qcells a) (by omega)).trans H1.out.z
  have rb := Below.setRow' H1.out.b (Nat.le_refl _) (qcells a)
  generalize w1.setRow w.heap.size (qcells a) = Y at *
  have c0 : Y.cell? ⟨w.heap.size, 0, none⟩ = some (.bool (decide (a.num < 0))) := cell_of_row _ _ 0 _ _ _ ra
  have c1 : Y.cell? ⟨w.heap.size, 1, none⟩ = some (.string (NB a.num.natAbs)) := cell_of_row _ _ 1 _ _ _ ra
  have c2 : Y.cell? ⟨w.heap.size, 2, none⟩ = some (.string (NB a.den)) := cell_of_row _ _ 2 _ _ _ ra
  have f0 : Y.frozen? ⟨w.heap.size, 0, none⟩ = false := frozen_of_row _ _ 0 _ _ ra
  have HY := Lib.hid (And.intro ra (And.intro rz rb))
  clear ra rz rb H1 HW HP HT
  by_cases h : a.num = 0
  · have e0 : NB a.num.natAbs = ⟨#[]⟩ := by rw [h]; exact NB_zero
    have hq := Lib.hid (show qcells (-a) = #[.bool (decide (a.num < 0)), .string ⟨#[]⟩, .string (NB a.den)] by rw [neg_cells0 a h]; unfold qcells; rw [e0])
    rw [e0] at c1
    clear e0 h
    go_wp2_with (refine wpList_store_row rfl 26 (.tmp 2) (.tmp 12) rfl (w.heap.size + 1) #[.bool (decide (a.num < 0)), .string ⟨#[]⟩, .string (NB a.den)] rfl rfl 26 zrow HY.out.2.1 info26.out rfl (by simp [Value.oneCell']) ?_)
    refine bodyPost_ret (results_cell_row rfl _ _ (w.heap.size + 1) _ #[.bool (decide (a.num < 0)), .string ⟨#[]⟩, .string (NB a.den)] _ _ rfl (setRow_heap _ _ _ _ _ _ HY.out.2.1) Tryz.underlying26 rfl info26.out) rfl ?_
    exact ⟨by rw [hq.out], Below.setRow' HY.out.2.2 (by omega) _⟩
  · have hne : ((NB a.num.natAbs).toList == []) = false := str_ne (B := ⟨#[]⟩) rfl (fun e => h (Int.natAbs_eq_zero.1 (NB_inj (e.trans NB_zero.symm))))
    have hq := Lib.hid (neg_cells a h)
    clear h
    go_upto_region 4 with fail
    have r2 : (Y.setCell ⟨w.heap.size, 0, none⟩ (.bool (!decide (a.num < 0)))).heap[w.heap.size]? = some (.cells #[.bool (!decide (a.num < 0)), .string (NB a.num.natAbs), .string (NB a.den)] 26 (0, 0)) := heap_setCell_same Y w.heap.size 0 _ _ _ HY.out.1
    have z2 : (Y.setCell ⟨w.heap.size, 0, none⟩ (.bool (!decide (a.num < 0)))).heap[w.heap.size + 1]? = some (.cells zrow 26 (0, 0)) := by
      rw [Deep.blk_setCell_other _ _ _ _ (by show w.heap.size + 1 ≠ w.heap.size; omega)]; exact HY.out.2.1
    have b2 := HY.out.2.2.setCell (p := ⟨w.heap.size, 0, none⟩) (Nat.le_refl _) (.bool (!decide (a.num < 0)))
    change Code.wp _ _ _ _ (Y.setCell ⟨w.heap.size, 0, none⟩ (.bool (!decide (a.num < 0))))
    generalize Y.setCell ⟨w.heap.size, 0, none⟩ (.bool (!decide (a.num < 0))) = X at *
    have HX := Lib.hid (And.intro z2 b2)
    clear c0 c1 c2 f0 HY z2 b2
    go_wp2_with (first | (refine wpList_load_row rfl 26 (.tmp 1) rfl w.heap.size rfl 26 #[.bool (!decide (a.num < 0)), .string (NB a.num.natAbs), .string (NB a.den)] (0, 0) _ r2 Tryz.underlying26 rfl info26.out ?_) | (refine wpList_store_row rfl 26 (.tmp 2) (.tmp 12) rfl (w.heap.size + 1) #[.bool (!decide (a.num < 0)), .string (NB a.num.natAbs), .string (NB a.den)] rfl rfl 26 zrow HX.out.1 info26.out rfl (by simp [Value.oneCell']) ?_))
    refine bodyPost_ret (results_cell_row rfl _ _ (w.heap.size + 1) _ #[.bool (!decide (a.num < 0)), .string (NB a.num.natAbs), .string (NB a.den)] _ _ rfl (setRow_heap _ _ _ _ _ _ HX.out.1) Tryz.underlying26 rfl info26.out) rfl ?_
    exact ⟨by rw [hq.out], Below.setRow' HX.out.2 (by omega) _⟩
set_option maxRecDepth 100000 in
set_option maxHeartbeats 8000000 in
theorem rSub (w : World) (g1 g2 : Bool) (A1 B1 A2 B2 : ByteArray) (N : Nat) (hA1 : A1.size ≤ N) (hB1 : B1.size ≤ N) (hA2 : A2.size ≤ N) (hB2 : B2.size ≤ N) (hN1 : 1 ≤ N) (hN : N ≤ 1000000) (hT : Tb w) :
    Calls Tryz.prog 17 #[RW g1 A1 B1, RW g2 A2 B2] w fun e w' => e = .returned (QV (rvq g1 A1 B1 - rvq g2 A2 B2)) ∧ Below w.heap.size w w' := by
  have s1 := SmQ_rvq g1 A1 B1 N hA1 hB1 hN1
  have s2 := SmQ_rvq g2 A2 B2 N hA2 hB2 hN1
  have V1 := fun W (h : Tb W) => rNeg W g2 A2 B2 N hA2 hB2 hN h
  obtain ⟨b, hb⟩ : ∃ b, rvq g2 A2 B2 = b := ⟨_, rfl⟩
  rw [hb] at V1 s2 ⊢
  have s3 : SmQ N (-b) := ⟨by rw [Rat.neg_num, Int.natAbs_neg]; exact s2.1, by rw [Rat.neg_den]; exact s2.2⟩
  have V2 := fun W (h : Tb W) => rAdd W g1 (decide ((-b).num < 0)) A1 B1 (NB (-b).num.natAbs) (NB (-b).den) N hA1 hB1 (NB_size s3.1) (NB_size s3.2) hN1 hN h
  simp only [rvq_QV] at V2
  generalize rvq g1 A1 B1 = a at *
  simp only [← Rat.sub_eq_add_neg] at V2
  have V2' : ∀ W, Tb W → Calls Tryz.prog 15 #[.agg (rrow g1 A1 B1), .agg (qcells (-b))] W fun e w' => e = .returned (.agg (qcells (a - b))) ∧ Below W.heap.size W w' := V2
  unfold QV at V1 ⊢
  have HV := Lib.hid (And.intro V1 V2')
  clear hb s1 s2 s3 V1 V2 V2'

  have h0 := d2_start w (rrow g1 A1 B1) (rrow g2 A2 B2) hT
  have hz := d2_z w (rrow g1 A1 B1) (rrow g2 A2 B2)
  obtain ⟨W, hW⟩ : ∃ W, ((w.alloc (.cells (rrow g1 A1 B1) 26)).alloc (.cells (rrow g2 A2 B2) 26)).alloc (.cells zrow 26) = W := ⟨_, rfl⟩
  rw [hW] at h0 hz
  have HW := Lib.hid hW
  have HT := Lib.hid hT
  have HZ := Lib.hid hz
  clear hW hz hT
  unfold RW
  go_enter Tryz.func17, Tryz.ntmps17
  go_upto_region 1 with fail
  change Code.wp _ _ _ _ (((w.alloc (.cells (rrow g1 A1 B1) 26)).alloc (.cells (rrow g2 A2 B2) 26)).alloc (.cells zrow 26))
  rw [HW.out]
  have hz : W.drew.heap[w.heap.size + 2]? = _ := HZ.out
  refine wp_region_held_drew (S := D2 w (rrow g1 A1 B1) (rrow g2 A2 B2)) (by kernel_rfl) h0.drew (fun hS => ?_)
  clear HW HZ h0
  refine wpAnyH_take (i := 0) (oi := { dst := some 5, op := Op.load 26 (Operand.tmp 2), type := 26, pos := "ref.go:100", after := #[], guard := none }) (v := .agg (rrow g1 A1 B1)) rfl (by kernel_rfl) (by kernel_rfl) (by kernel_rfl) (fun _ _ _ h => h) (Or.inl ⟨by rfl, ?yrs0⟩) hS ?rrs0
  case yrs0 => exact fun w' hS => exec_load_row w' 26 (.tmp 2) rfl w.heap.size (by first | rfl | (simp [Act.eval])) 26 (rrow g1 A1 B1) (0, 0) _ hS.a Tryz.underlying26 rfl info26.out
  refine wpAnyH_take (i := 1) (oi := { dst := some 6, op := Op.load 26 (Operand.tmp 3), type := 26, pos := "ref.go:100", after := #[], guard := none }) (v := .agg (rrow g2 A2 B2)) rfl (by kernel_rfl) (by kernel_rfl) (by kernel_rfl) (fun _ _ _ h => h) (Or.inl ⟨by rfl, ?yrs1⟩) hS ?rrs1
  case yrs1 => exact fun w' hS => exec_load_row w' 26 (.tmp 3) rfl (w.heap.size + 1) (by first | rfl | (simp [Act.eval])) 26 (rrow g2 A2 B2) (0, 0) _ hS.c Tryz.underlying26 rfl info26.out
  go_simp
  refine wpAnyH_ready (rs := [2]) (by kernel_rfl) (by simp) ?_
  refine AllReadyH.cons (o := { dst := some 7, op := Op.call { callee := Callee.value (Operand.func 25), args := #[Operand.tmp 6], argTypes := #[26] }, type := 26, pos := "ref.go:100", after := #[{ on := 1, ground := Ground.data }], guard := none }) rfl (fun K hK => ?_) AllReadyH.nil
  go_simp
  go_at_call 25
  refine (HV.out.1 _ hS.t).mono ?_
  rintro e w' ⟨rfl, b⟩
  have hS2 := hS.next b
  have hz2 := (b.block _ hS.lt).trans hz
  clear hz
  have hz := hz2
  clear hz2
  clear b hS
  try go_simp
  refine hK.out _ _ hS2 (fun hS => ?_)
  clear hK K hS2
  refine wpAnyH_ready (rs := [3]) (by kernel_rfl) (by simp) ?_
  refine AllReadyH.cons (o := { dst := some 8, op := Op.call { callee := Callee.value (Operand.func 15), args := #[Operand.tmp 5, Operand.tmp 7], argTypes := #[26, 26] }, type := 26, pos := "ref.go:100", after := #[{ on := 0, ground := Ground.data }, { on := 2, ground := Ground.data }, { on := 2, ground := Ground.chain }], guard := none }) rfl (fun K hK => ?_) AllReadyH.nil
  go_simp
  go_at_call 15
  refine (HV.out.2 _ hS.t).mono ?_
  rintro e w' ⟨rfl, b⟩
  have hS2 := hS.next b
  have hz2 := (b.block _ hS.lt).trans hz
  clear hz
  have hz := hz2
  clear hz2
  clear b hS
  try go_simp
  refine hK.out _ _ hS2 (fun hS => ?_)
  clear hK K hS2
  refine wpAnyH_ready (rs := [4]) (by kernel_rfl) (by simp) ?_
  refine AllReadyH.cons (o := { dst := none, op := Op.store 26 (Operand.tmp 4) (Operand.tmp 8), type := 0, pos := "ref.go:100", after := #[{ on := 3, ground := Ground.data }, { on := 3, ground := Ground.chain }, { on := 0, ground := Ground.phase }, { on := 1, ground := Ground.phase }, { on := 2, ground := Ground.phase }, { on := 3, ground := Ground.phase }], guard := none }) rfl (fun K hK => ?_) AllReadyH.nil
  rw [if_pos (by rfl)]
  refine wp_store_row 26 (.tmp 4) (.tmp 8) rfl (w.heap.size + 2) (qcells (a - b)) (by first | rfl | (simp [Act.eval])) (by first | rfl | (simp [Act.eval])) 26 zrow hz info26.out rfl (qone _) ?_
  have hS2 := hS.store HT.out (qcells (a - b))
  clear hS
  refine hK.out _ _ hS2 (fun hS => ?_)
  clear hK K hS2
  refine wpAnyH_done (by kernel_rfl) ?_ _
  go_wp2
  refine bodyPost_ret (results_cell_row rfl _ _ (w.heap.size + 2) _ (qcells (a - b)) _ _ rfl (setRow_heap _ _ _ _ _ _ hz) Tryz.underlying26 rfl info26.out) rfl ?_
  exact ⟨rfl, hS.b⟩
end Go.Proofs.YteccbedmpjeamaaGreatDoor
