/-
  The walks of the reference's Sign and Cmp; the reference's calls at right numbers.
-/
import Derived.Test.YteccbedmpjeamaaGreatDoorQRefN
namespace Go.Proofs.YteccbedmpjeamaaGreatDoor
open Go.RowKit NM QM
set_option maxRecDepth 100000 in
set_option maxHeartbeats 4000000 in
theorem rSign (w : World) (g : Bool) (A B : ByteArray) (N : Nat) (hA : A.size ≤ N) (hB : B.size ≤ N) (hN : N ≤ 1000000) :
    Calls Tryz.prog 23 #[RW g A B] w fun e w' => e = .returned (.int .i64 (sq (rvq g A B))) ∧ Below w.heap.size w w' := by
  have VV := fun W => value_q W g A B N hA hB hN
  generalize rvq g A B = a at *
  have hs := r1_start w (rrow g A B)
  obtain ⟨W, hW⟩ : ∃ W, w.alloc (.cells (rrow g A B) 26) = W := ⟨_, rfl⟩
  rw [hW] at hs
  unfold QV at VV
  have HW := Lib.hid (And.intro hW (And.intro hs VV))
  have c0 : W.cell? ⟨w.heap.size, 0, none⟩ = some (.bool g) := cell_of_row _ _ 0 _ _ _ hs.r
  have c1 : W.cell? ⟨w.heap.size, 1, none⟩ = some (.string A) := cell_of_row _ _ 1 _ _ _ hs.r
  have c2 : W.cell? ⟨w.heap.size, 2, none⟩ = some (.string B) := cell_of_row _ _ 2 _ _ _ hs.r
  clear hW hs VV
  unfold RW
  go_enter Tryz.func23, Tryz.ntmps23
  go_upto_region 1 with fail
  change Code.wp _ _ _ _ (w.alloc (.cells (rrow g A B) 26))
  rw [HW.out.1]
  go_wp2_with fail
  refine (HW.out.2.2 _).mono ?_
  rintro e w1 ⟨rfl, b1⟩
  have H1 := Lib.hid (HW.out.2.1.next b1)
  clear b1 c0 c1 c2
  go_upto_region 2 with (refine wpList_store_row rfl 26 (.tmp 1) (.tmp 4) rfl w.heap.size (qcells a) rfl rfl 26 (rrow g A B) H1.out.r info26.out rfl (qone _) ?_)
  have hB := Below.setRow' H1.out.b (Nat.le_refl _) (qcells a)
  have hr := setRow_heap _ _ _ (qcells a) _ _ H1.out.r
  generalize w1.setRow w.heap.size (qcells a) = Y at *
  have HB := Lib.hid hB
  have c0 : Y.cell? ⟨w.heap.size, 0, none⟩ = some (.bool (decide (a.num < 0))) := cell_of_row _ _ 0 _ _ _ hr
  have c1 : Y.cell? ⟨w.heap.size, 1, none⟩ = some (.string (NB a.num.natAbs)) := cell_of_row _ _ 1 _ _ _ hr
  clear hB hr H1 HW
  by_cases h0 : a.num = 0
  · have HS := Lib.hid (show sq a = 0 by unfold sq; rw [if_neg (by omega), if_pos h0])
    have e1 : NB a.num.natAbs = ⟨#[]⟩ := by rw [h0]; exact NB_zero
    rw [e1] at c1
    clear h0 e1
    go_wp2
    go_ret
    exact ⟨by rw [HS.out]; rfl, HB.out⟩
  · have hne : ((NB a.num.natAbs).toList == []) = false := str_ne (B := ⟨#[]⟩) rfl (fun e => h0 (Int.natAbs_eq_zero.1 (NB_inj (e.trans NB_zero.symm))))
    by_cases h : a.num < 0
    · have HS := Lib.hid (show sq a = -1 by unfold sq; rw [if_pos h])
      rw [decide_eq_true h] at c0
      generalize NB a.num.natAbs = AA at *
      clear h0 h
      go_wp2
      go_ret
      exact ⟨by rw [HS.out]; rfl, HB.out⟩
    · have HS := Lib.hid (show sq a = 1 by unfold sq; rw [if_neg h, if_neg h0])
      rw [decide_eq_false h] at c0
      generalize NB a.num.natAbs = AA at *
      clear h0 h
      go_wp2
      go_ret
      exact ⟨by rw [HS.out]; rfl, HB.out⟩
theorem cq_small (a b : Rat) {N : Nat} (ha : SmQ N a) (hb : SmQ N b) : SmQ (N + N + 1) (a - b) := by
  rw [Rat.sub_eq_add_neg]
  exact SmQ_add ha ⟨by rw [Rat.neg_num, Int.natAbs_neg]; exact hb.1, by rw [Rat.neg_den]; exact hb.2⟩
set_option maxRecDepth 100000 in
set_option maxHeartbeats 4000000 in
theorem rCmp (w : World) (g1 g2 : Bool) (A1 B1 A2 B2 : ByteArray) (N : Nat) (hA1 : A1.size ≤ N) (hB1 : B1.size ≤ N) (hA2 : A2.size ≤ N) (hB2 : B2.size ≤ N) (hN1 : 1 ≤ N) (hN : N ≤ 100000) (hT : Tb w) :
    Calls Tryz.prog 21 #[RW g1 A1 B1, RW g2 A2 B2] w fun e w' => e = .returned (.int .i64 (cq (rvq g1 A1 B1) (rvq g2 A2 B2))) ∧ Below w.heap.size w w' := by
  have V1 := fun W (h : Tb W) => rSub W g1 g2 A1 B1 A2 B2 N hA1 hB1 hA2 hB2 hN1 (by omega) h
  have sm := cq_small _ _ (SmQ_rvq g1 A1 B1 N hA1 hB1 hN1) (SmQ_rvq g2 A2 B2 N hA2 hB2 hN1)
  have V2 := fun W => rSign W (decide ((rvq g1 A1 B1 - rvq g2 A2 B2).num < 0)) _ _ (N + N + 1) (NB_size sm.1) (NB_size sm.2) (by omega)
  simp only [rvq_QV] at V2
  rw [cq_sub] at V2
  have V2' : ∀ W, Calls Tryz.prog 23 #[QV (rvq g1 A1 B1 - rvq g2 A2 B2)] W fun e w' => e = .returned (.int .i64 (cq (rvq g1 A1 B1) (rvq g2 A2 B2))) ∧ Below W.heap.size W w' := V2
  generalize cq (rvq g1 A1 B1) (rvq g2 A2 B2) = cc at *
  generalize QV (rvq g1 A1 B1 - rvq g2 A2 B2) = dd at *
  have hb : Below w.heap.size w ((w.alloc (.cells (rrow g1 A1 B1) 26)).alloc (.cells (rrow g2 A2 B2) 26)) := ((Below.refl _ w).alloc (Nat.le_refl _) _).alloc (by simp) _
  have hra := heap_alloc2_old w (.cells (rrow g1 A1 B1) 26) (.cells (rrow g2 A2 B2) 26)
  have hrb := heap_alloc2_new w (.cells (rrow g1 A1 B1) 26) (.cells (rrow g2 A2 B2) 26)
  obtain ⟨W, hW⟩ : ∃ W, (w.alloc (.cells (rrow g1 A1 B1) 26)).alloc (.cells (rrow g2 A2 B2) 26) = W := ⟨_, rfl⟩
  rw [hW] at hb hra hrb
  have c0 : W.cell? ⟨w.heap.size, 0, none⟩ = some (.bool g1) := cell_of_row _ _ 0 _ _ _ hra
  have c1 : W.cell? ⟨w.heap.size, 1, none⟩ = some (.string A1) := cell_of_row _ _ 1 _ _ _ hra
  have c2 : W.cell? ⟨w.heap.size, 2, none⟩ = some (.string B1) := cell_of_row _ _ 2 _ _ _ hra
  have c3 : W.cell? ⟨w.heap.size + 1, 0, none⟩ = some (.bool g2) := cell_of_row _ _ 0 _ _ _ hrb
  have c4 : W.cell? ⟨w.heap.size + 1, 1, none⟩ = some (.string A2) := cell_of_row _ _ 1 _ _ _ hrb
  have c5 : W.cell? ⟨w.heap.size + 1, 2, none⟩ = some (.string B2) := cell_of_row _ _ 2 _ _ _ hrb
  have HV := Lib.hid (And.intro (V1 W (hT.below hb)) (And.intro V2' (And.intro hW hb)))
  clear V1 V2 V2' sm hW hb hra hrb hT
  unfold RW
  go_enter Tryz.func21, Tryz.ntmps21
  go_upto_region 1 with fail
  change Code.wp _ _ _ _ ((w.alloc (.cells (rrow g1 A1 B1) 26)).alloc (.cells (rrow g2 A2 B2) 26))
  rw [HV.out.2.2.1]
  go_wp2_with fail
  refine HV.out.1.mono ?_
  rintro e w1 ⟨rfl, b1⟩
  have H1 := Lib.hid (HV.out.2.2.2.trans (b1.mono HV.out.2.2.2.size)); clear b1
  go_wp2_with fail
  refine (HV.out.2.1 _).mono ?_
  rintro e w2 ⟨rfl, b2⟩
  have H2 := Lib.hid (H1.out.trans (b2.mono H1.out.size)); clear b2
  go_wp2
  go_ret
  exact ⟨rfl, H2.out⟩
theorem brAdd (w : World) (a b : Rat) (N : Nat) (ha : SmQ N a) (hb : SmQ N b) (h1 : 1 ≤ N) (hN : N ≤ 100000) (hT : Tp w) :
    Calls Tryz.prog 15 #[.agg (qcells a), .agg (qcells b)] w fun e w' => e = .returned (.agg (qcells (a + b))) ∧ Below w.heap.size w w' := by
  have h := rAdd w (decide (a.num < 0)) (decide (b.num < 0)) _ _ _ _ N (q_szA ha) (q_szB ha) (q_szA hb) (q_szB hb) h1 (by omega) hT.b
  rwa [rvq_QV, rvq_QV] at h
theorem brMul (w : World) (a b : Rat) (N : Nat) (ha : SmQ N a) (hb : SmQ N b) (h1 : 1 ≤ N) (hN : N ≤ 100000) (hT : Tp w) :
    Calls Tryz.prog 19 #[.agg (qcells a), .agg (qcells b)] w fun e w' => e = .returned (.agg (qcells (a * b))) ∧ Below w.heap.size w w' := by
  have h := rMul w (decide (a.num < 0)) (decide (b.num < 0)) _ _ _ _ N (q_szA ha) (q_szB ha) (q_szA hb) (q_szB hb) h1 (by omega) hT.b
  rwa [rvq_QV, rvq_QV] at h
theorem brSub (w : World) (a b : Rat) (N : Nat) (ha : SmQ N a) (hb : SmQ N b) (h1 : 1 ≤ N) (hN : N ≤ 100000) (hT : Tp w) :
    Calls Tryz.prog 17 #[.agg (qcells a), .agg (qcells b)] w fun e w' => e = .returned (.agg (qcells (a - b))) ∧ Below w.heap.size w w' := by
  have h := rSub w (decide (a.num < 0)) (decide (b.num < 0)) _ _ _ _ N (q_szA ha) (q_szB ha) (q_szA hb) (q_szB hb) h1 (by omega) hT.b
  rwa [rvq_QV, rvq_QV] at h
theorem brNeg (w : World) (a : Rat) (N : Nat) (ha : SmQ N a) (hN : N ≤ 100000) (hT : Tp w) :
    Calls Tryz.prog 25 #[.agg (qcells a)] w fun e w' => e = .returned (.agg (qcells (-a))) ∧ Below w.heap.size w w' := by
  have h := rNeg w (decide (a.num < 0)) _ _ N (q_szA ha) (q_szB ha) (by omega) hT.b
  rwa [rvq_QV] at h
theorem brSign (w : World) (a : Rat) (N : Nat) (ha : SmQ N a) (hN : N ≤ 100000) :
    Calls Tryz.prog 23 #[.agg (qcells a)] w fun e w' => e = .returned (.int .i64 (sq a)) ∧ Below w.heap.size w w' := by
  have h := rSign w (decide (a.num < 0)) _ _ N (q_szA ha) (q_szB ha) (by omega)
  rwa [rvq_QV] at h
theorem brCmp (w : World) (a b : Rat) (N : Nat) (ha : SmQ N a) (hb : SmQ N b) (h1 : 1 ≤ N) (hN : N ≤ 100000) (hT : Tp w) :
    Calls Tryz.prog 21 #[.agg (qcells a), .agg (qcells b)] w fun e w' => e = .returned (.int .i64 (cq a b)) ∧ Below w.heap.size w w' := by
  have h := rCmp w (decide (a.num < 0)) (decide (b.num < 0)) _ _ _ _ N (q_szA ha) (q_szB ha) (q_szA hb) (q_szB hb) h1 hN hT.b
  rwa [rvq_QV, rvq_QV] at h
theorem brQuo0 (w : World) (a b : Rat) (N : Nat) (ha : SmQ N a) (hb : SmQ N b) (h1 : 1 ≤ N) (hN : N ≤ 100000) (hT : Tp w) (h0 : b = 0) :
    Calls Tryz.prog 13 #[.agg (qcells a), .agg (qcells b)] w fun e w' => e = .returned (.tuple #[.agg zrow, .bool false]) ∧ Below w.heap.size w w' :=
  rQuo0 w (decide (a.num < 0)) (decide (b.num < 0)) _ _ _ _ N (q_szA ha) (q_szB ha) (q_szA hb) (q_szB hb) h1 (by omega) hT.b (by rw [rvq_QV, h0])
end Go.Proofs.YteccbedmpjeamaaGreatDoor
