/-
  nat.Pow for the modulus 0, and for all.
-/
import Derived.Test.YtkpkifhjedlieaaDoorPow2
namespace Go.Proofs.YtkpkifhjedlieaaDoor
open Go.RowKit NM
theorem words_zero {Y : List Nat} (tY : Tr Y) (h : wv Y = 0) : Y = [] := by
  exact (wv_zero_iff tY).1 h
set_option maxRecDepth 100000 in
set_option maxHeartbeats 2000000 in
theorem Pow_zero (w : World) (a e m : ByteArray) (hm : m.size ≤ 4294967296) (h0 : sv m = 0) :
    Calls Tryd.prog 17 #[.string a, .string e, .string m] w fun e' w' => e' = .returned (PowV a e m) ∧ Below w.heap.size w w' := by
  go_enter Tryd.func17, Tryd.ntmps17
  go_wp2_with fail
  refine (words_any _ m (by omega)).mono ?_
  rintro e' w1 ⟨Y, oY, vY, tY, bY, lY, rfl⟩
  obtain rfl := words_zero tY (Eq.trans vY h0)
  clear lY vY
  have hB2 : Below w1.heap.size w1 (w1.alloc (.cells #[.slice (some ⟨w.heap.size, 0, none⟩) ([] : List Nat).length ([] : List Nat).length] 46)) := (Below.refl _ w1).alloc (Nat.le_refl _) _
  go_wp2
  go_ret2
  refine ⟨by unfold PowV; rw [if_pos h0]; rfl, bY.trans (hB2.mono bY.size)⟩
theorem Pow_any (w : World) (a e m : ByteArray) (ha : a.size ≤ 4294967296) (he : e.size ≤ 4294967296) (hm : m.size ≤ 4294967296) (hD : DivS m) :
    Calls Tryd.prog 17 #[.string a, .string e, .string m] w fun e' w' => e' = .returned (PowV a e m) ∧ Below w.heap.size w w' := by
  by_cases h0 : sv m = 0
  · exact Pow_zero w a e m hm h0
  · by_cases h1 : sv m % 2 = 1
    · exact Pow_odd w a e m ha he hm hD h1
    · exact Pow_even w a e m ha he hm hD h0 (by omega)
end Go.Proofs.YtkpkifhjedlieaaDoor
