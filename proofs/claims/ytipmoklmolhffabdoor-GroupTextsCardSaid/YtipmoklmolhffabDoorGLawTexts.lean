/-
  The walk of the law GroupTexts.
-/
import Derived.Test.YtipmoklmolhffabDoorGRefNumber
namespace Go.Proofs.YtipmoklmolhffabDoor.G4
open Go.RowKit GM SH
/-- the tables lie in memory -/
structure TB (w : World) : Prop where
  sq : SQ w
  cb : CB w
theorem TB.below {u w : World} (h : TB u) (hb : Below u.heap.size u w) : TB w := ⟨h.sq.below hb h.sq.lt, h.cb.below hb h.cb.lt⟩
theorem mem_iff (a : Int) : mem a = true ↔ memG gP gQ a := by
  unfold mem memG
  have e : gp a 1152921504606845789 2305843009213691579 = a^gQ % (gP : Int) := rfl
  rw [e]
  simp only [Bool.and_eq_true, decide_eq_true_eq, beq_iff_eq, and_assoc]
  exact Iff.rfl
set_option maxRecDepth 100000 in
set_option maxHeartbeats 2000000 in
theorem texts_walk (w : World) (s : ByteArray) (hT : TB w) :
    Calls Tryd.prog 3 #[.string s] w fun e w' => e = .returned (.bool true) ∧ Below w.heap.size w w' := by
  obtain ⟨m, hm⟩ : ∃ m, min s.size 300 = m := ⟨_, rfl⟩
  have m1 : min (s.size : Int) 300 = (m : Int) := by omega
  have m2 : (m : Int) ≤ (s.size : Int) := by omega
  have m3 : (0 : Int) ≤ (m : Int) := by omega
  have m4 : m ≤ s.size := by omega
  obtain ⟨x, hx⟩ : ∃ x, s.extract 0 m = x := ⟨_, rfl⟩
  have hxs : x.size ≤ 300 := by rw [← hx, ByteArray.size_extract]; omega
  have hsr := sc_rng x
  have her := el_rng x
  have hmem := (mem_iff _).2 (el_mem x)
  have R1 := Lib.hid fun W => Scalar_any W x (by omega)
  have R2 := Lib.hid fun W => Element_any W x (by omega)
  have R3 := Lib.hid fun W => refScalar_any W x (by omega)
  have R4 := Lib.hid fun W => refElement_any W x (by omega)
  have R5 := Lib.hid fun W => member_k W (el x) true hmem (by omega) (by omega)
  clear hmem
  generalize sc x = u at *
  generalize el x = v at *
  have HT := Lib.hid hT; clear hT hxs
  go_enter Tryd.func3, Tryd.ntmps3
  go_wp2_with fail
  refine (sanity_any _).mono ?_
  rintro e w1 ⟨rfl, b1⟩
  have t1 := Lib.hid (HT.out.below b1)
  have hB := Lib.hid b1; clear b1
  go_wp2_with fail
  refine (R1.out _ t1.out.sq t1.out.cb).mono ?_
  rintro e w2 ⟨rfl, b2⟩
  have t2 := Lib.hid (t1.out.below b2)
  replace hB := Lib.hid (hB.out.trans (b2.mono hB.out.size)); clear b2 t1
  go_wp2_with fail
  refine (R2.out _ t2.out.sq t2.out.cb).mono ?_
  rintro e w3 ⟨rfl, b2⟩
  replace hB := Lib.hid (hB.out.trans (b2.mono hB.out.size)); clear b2 t2
  go_wp2_with fail
  refine (R3.out _).mono ?_
  rintro e w4 ⟨rfl, b2⟩
  replace hB := Lib.hid (hB.out.trans (b2.mono hB.out.size)); clear b2
  go_wp2_with fail
  refine (R4.out _).mono ?_
  rintro e w5 ⟨rfl, b2⟩
  replace hB := Lib.hid (hB.out.trans (b2.mono hB.out.size)); clear b2
  go_wp2_with fail
  refine (R5.out _).mono ?_
  rintro e w6 ⟨rfl, b2⟩
  replace hB := Lib.hid (hB.out.trans (b2.mono hB.out.size)); clear b2
  go_wp2
  go_ret
  exact ⟨rfl, hB.out⟩
end Go.Proofs.YtipmoklmolhffabDoor.G4
