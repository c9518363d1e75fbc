/-
  The walk of the law GroupPows.
-/
import Derived.Test.YtipmoklmolhffaaGCells
namespace Go.Proofs.Ytipmoklmolhffaa
open Go.RowKit GM
set_option maxRecDepth 100000 in
set_option maxHeartbeats 8000000 in
theorem pows_walk (w : World) (a b m : Int) (ha : -9223372036854775808 ≤ a) (ha2 : a ≤ 9223372036854775807) (_hb : -9223372036854775808 ≤ b) (hb2 : b ≤ 9223372036854775807) (hm : -9223372036854775808 ≤ m) (hm2 : m ≤ 9223372036854775807) :
    Calls Try.prog 4 #[.int .i64 a, .int .i64 b, .int .i64 m] w fun e w' => e = .returned (.bool true) ∧ Below w.heap.size w w' := by
  go_enter Try.func4, Try.ntmps4
  go_wp2_with fail
  refine (sanity_any _).mono ?_
  rintro e w' ⟨rfl, hB⟩
  go_wp2_with fail
  have hy : fitsI (bits BinOp.and IntKind.i64 m 1023) := fits_and m 1023
  generalize bits BinOp.and IntKind.i64 m 1023 = y at *
  have hcells := Lib.hid (cells6 w' 3 m 2305843009213691579 1152921504606845789 y 9223372036854775807 1 ⟨hm, hm2⟩ (by unfold fitsI; omega) (by unfold fitsI; omega) hy (by unfold fitsI; omega) (by unfold fitsI; omega))
  have hB1 : Below w.heap.size w (w'.alloc (.cells #[.int .i64 m, .int .i64 2305843009213691579, .int .i64 1152921504606845789, .int .i64 y, .int .i64 9223372036854775807, .int .i64 1] 3)) := hB.alloc hB.size _
  have hp : w'.heap.size < (w'.alloc (.cells #[.int .i64 m, .int .i64 2305843009213691579, .int .i64 1152921504606845789, .int .i64 y, .int .i64 9223372036854775807, .int .i64 1] 3)).heap.size := by simp
  clear hB
  generalize w'.alloc (.cells #[.int .i64 m, .int .i64 2305843009213691579, .int .i64 1152921504606845789, .int .i64 y, .int .i64 9223372036854775807, .int .i64 1] 3) = w1 at *
  generalize w'.heap.size = p at *
  go_loopw [20] (fun i wr => ∃ k : Nat, k ≤ 6 ∧ i = .int .i64 k ∧ Below w1.heap.size w1 wr) (fun i _ => 6 - (intOf i).toNat)
  case atStart => exact ⟨0, Nat.zero_le _, rfl, Below.refl _ _⟩
  case round =>
    obtain ⟨k, hk, rfl, hB2⟩ := hrel
    by_cases hk4 : k < 6
    · obtain ⟨n, hn, hcell0⟩ := hcells.out k hk4
      have hcell := (hB2.cell (p := ⟨p, k, none⟩) hp).trans hcell0
      clear hcell0
      have A := Lib.hid fun W => Inv_any W a n ha ha2 hn.2
      have RA := Lib.hid fun W => refInv_any W a n ha ha2 hn.2
      have S := Lib.hid fun W => Pow_any W a b n ha ha2 hb2 hn.2
      have RS := Lib.hid fun W => refPow_any W a b n ha ha2 hb2 hn.2
      generalize gp a b n = x1 at *
      go_wp2_with fail
      refine (A.out _).mono ?_
      rintro e w2 ⟨i, ok, hI, rfl, rfl⟩
      have HI := Lib.hid hI; clear hI
      go_wp2_with fail
      refine (RA.out _).mono ?_
      rintro e w2 ⟨j, is, hJ, rfl, rfl⟩
      obtain ⟨e1, e2⟩ := HI.out.unique hJ
      subst e1 e2
      clear hJ
      go_wp2_with fail
      refine (S.out _).mono ?_
      rintro e w3 ⟨rfl, b3⟩
      have hB3 := hB2.trans (b3.mono hB2.size)
      go_wp2_with fail
      refine (RS.out _).mono ?_
      rintro e w4 ⟨rfl, rfl⟩
      go_wp2_with fail
      go_roundw
      case rel => exact ⟨k + 1, by omega, by go_num, hB3⟩
      case measure => (simp [intOf]; omega)
    · obtain rfl : k = 6 := by omega
      go_wp2
      go_ret
      exact ⟨rfl, hB1.trans (hB2.mono hB1.size)⟩
end Go.Proofs.Ytipmoklmolhffaa
