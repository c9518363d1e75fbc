/-
  The walk of the reference's Make.
-/
import Derived.Test.YteccbedmpjeamaaGreatDoorQRefS
namespace Go.Proofs.YteccbedmpjeamaaGreatDoor
open Go.RowKit NM QM
set_option maxRecDepth 100000 in
set_option maxHeartbeats 2000000 in
theorem rmake_no (w : World) (g : Bool) (A B : ByteArray) (h : fitq A B = false) :
    Calls Tryz.prog 33 #[.bool g, .string A, .string B] w fun e w' => e = .returned (.tuple #[.agg zrow, .bool false]) ∧ Below w.heap.size w w' := by
  have RA := fun W => RefRight_any W A
  have RB := fun W => RefRight_any W B
  have h0 := z1_start w
  obtain ⟨W, hW⟩ : ∃ W, w.alloc (.cells zrow 26) = W := ⟨_, rfl⟩
  rw [hW] at h0
  have HW := Lib.hid hW; clear hW
  have hz := h0.z
  have HB := Lib.hid h0.b
  clear h0
  by_cases hA : rgt A = true
  · rw [hA] at RA
    by_cases hB : rgt B = true
    · rw [hB] at RB
      have hb : B = ⟨#[]⟩ := by
        unfold fitq at h
        rw [hA, hB] at h
        have h2 : sv B = 0 := by simpa using h
        rw [rgt_NB hB, h2, NB_zero]
      subst hb
      have HR := Lib.hid (And.intro RA RB)
      clear RA RB hA hB h
      go_enter Tryz.func33, Tryz.ntmps33
      go_upto_region 1 with fail
      change Code.wp _ _ _ _ (w.alloc (.cells zrow 26))
      rw [HW.out]
      go_wp2_with fail
      refine (HR.out.1 _).mono ?_
      rintro e w' ⟨rfl, rfl⟩
      go_wp2_with fail
      refine (HR.out.2 _).mono ?_
      rintro e w' ⟨rfl, rfl⟩
      go_wp2_with (refine wpList_store_row rfl 26 (.tmp 6) (.tmp 24) rfl w.heap.size zrow rfl rfl 26 _ hz infoz.out rfl zone ?_)
      refine bodyPost_ret (results_row_tmp rfl _ _ w.heap.size _ zrow _ _ rfl (setRow_heap _ _ _ _ _ _ hz) Tryz.underlying26 rfl infoz.out) rfl ?_
      exact ⟨rfl, Below.setRow' HB.out (Nat.le_refl _) _⟩
    · rw [Bool.not_eq_true] at hB
      rw [hB] at RB
      have HR := Lib.hid (And.intro RA RB)
      clear RA RB hA hB h
      go_enter Tryz.func33, Tryz.ntmps33
      go_upto_region 1 with fail
      change Code.wp _ _ _ _ (w.alloc (.cells zrow 26))
      rw [HW.out]
      go_wp2_with fail
      refine (HR.out.1 _).mono ?_
      rintro e w' ⟨rfl, rfl⟩
      go_wp2_with fail
      refine (HR.out.2 _).mono ?_
      rintro e w' ⟨rfl, rfl⟩
      go_wp2_with (refine wpList_store_row rfl 26 (.tmp 6) (.tmp 24) rfl w.heap.size zrow rfl rfl 26 _ hz infoz.out rfl zone ?_)
      refine bodyPost_ret (results_row_tmp rfl _ _ w.heap.size _ zrow _ _ rfl (setRow_heap _ _ _ _ _ _ hz) Tryz.underlying26 rfl infoz.out) rfl ?_
      exact ⟨rfl, Below.setRow' HB.out (Nat.le_refl _) _⟩
  · rw [Bool.not_eq_true] at hA
    rw [hA] at RA
    generalize rgt B = rb at *
    have HR := Lib.hid (And.intro RA RB)
    clear RA RB hA h
    go_enter Tryz.func33, Tryz.ntmps33
    go_upto_region 1 with fail
    change Code.wp _ _ _ _ (w.alloc (.cells zrow 26))
    rw [HW.out]
    go_wp2_with fail
    refine (HR.out.1 _).mono ?_
    rintro e w' ⟨rfl, rfl⟩
    go_wp2_with fail
    refine (HR.out.2 _).mono ?_
    rintro e w' ⟨rfl, rfl⟩
    go_wp2_with (refine wpList_store_row rfl 26 (.tmp 6) (.tmp 24) rfl w.heap.size zrow rfl rfl 26 _ hz infoz.out rfl zone ?_)
    refine bodyPost_ret (results_row_tmp rfl _ _ w.heap.size _ zrow _ _ rfl (setRow_heap _ _ _ _ _ _ hz) Tryz.underlying26 rfl infoz.out) rfl ?_
    exact ⟨rfl, Below.setRow' HB.out (Nat.le_refl _) _⟩
set_option maxRecDepth 100000 in
set_option maxHeartbeats 2000000 in
theorem rmake_yes (w : World) (g : Bool) (n d N : Nat) (hn : n < 256^N) (hd : d < 256^N) (h0 : d ≠ 0) (hN : N ≤ 1000000) :
    Calls Tryz.prog 33 #[.bool g, .string (NB n), .string (NB d)] w fun e w' => e = .returned (.tuple #[QV (mk g n d), .bool true]) ∧ Below w.heap.size w w' := by
  have RA := fun W => RefRight_any W (NB n)
  have RB := fun W => RefRight_any W (NB d)
  rw [NB_rgt] at RA RB
  have LW := fun W => lowest_q W g n d N hn hd h0 (by omega)
  have hne : ((NB d).toList == []) = false := str_ne (B := ⟨#[]⟩) rfl (fun h => h0 (NB_inj (h.trans NB_zero.symm)))
  have hs := z1_start w
  obtain ⟨W, hW⟩ : ∃ W, w.alloc (.cells zrow 26) = W := ⟨_, rfl⟩
  rw [hW] at hs
  have HW := Lib.hid hW; clear hW
  generalize mk g n d = q at *
  generalize NB n = A at *
  generalize NB d = B at *
  have HR := Lib.hid (And.intro RA (And.intro RB LW))
  have HS := Lib.hid hs
  clear RA RB LW hn hd h0 hs
  go_enter Tryz.func33, Tryz.ntmps33
  go_upto_region 1 with fail
  change Code.wp _ _ _ _ (w.alloc (.cells zrow 26))
  rw [HW.out]
  go_wp2_with fail
  refine (HR.out.1 _).mono ?_
  rintro e w' ⟨rfl, rfl⟩
  go_wp2_with fail
  refine (HR.out.2.1 _).mono ?_
  rintro e w' ⟨rfl, rfl⟩
  go_wp2_with fail
  refine (HR.out.2.2 _).mono ?_
  rintro e w1 ⟨rfl, b1⟩
  have H1 := Lib.hid (HS.out.next b1); clear b1
  have hz := H1.out.z
  unfold QV
  go_wp2_with (refine wpList_store_row rfl 26 (.tmp 6) (.tmp 28) rfl w.heap.size (qcells q) rfl rfl 26 _ hz info26.out rfl (qone _) ?_)
  refine bodyPost_ret (results_row_tmp rfl _ _ w.heap.size _ (qcells q) _ _ rfl (setRow_heap _ _ _ _ _ _ hz) Tryz.underlying26 rfl info26.out) rfl ?_
  exact ⟨rfl, Below.setRow' H1.out.b (Nat.le_refl _) _⟩
end Go.Proofs.YteccbedmpjeamaaGreatDoor
