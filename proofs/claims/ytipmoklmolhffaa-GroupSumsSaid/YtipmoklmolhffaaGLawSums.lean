/-
  The walk of the law GroupSums.
-/
import Derived.Test.YtipmoklmolhffaaGCells
namespace Go.Proofs.Ytipmoklmolhffaa
open Go.RowKit GM
set_option maxRecDepth 100000 in
set_option maxHeartbeats 8000000 in
theorem sums_walk (w : World) (a b m : Int) (ha : -9223372036854775808 ≤ a) (ha2 : a ≤ 9223372036854775807) (hb : -9223372036854775808 ≤ b) (hb2 : b ≤ 9223372036854775807) (hm : -9223372036854775808 ≤ m) (hm2 : m ≤ 9223372036854775807) :
    Calls Try.prog 3 #[.int .i64 a, .int .i64 b, .int .i64 m] w fun e w' => e = .returned (.bool true) ∧ Below w.heap.size w w' := by
  go_enter Try.func3, Try.ntmps3
  go_wp2_with fail
  refine (sanity_any _).mono ?_
  rintro e w' ⟨rfl, hB⟩
  go_wp2_with fail
  have hy : fitsI (bits BinOp.and IntKind.i64 m 1023) := fits_and m 1023
  generalize bits BinOp.and IntKind.i64 m 1023 = y at *
  have hcells := Lib.hid (cells6 w' 3 m 2305843009213691579 1152921504606845789 y 9223372036854775807 1 ⟨hm, hm2⟩ (by unfold fitsI; omega) (by unfold fitsI; omega) hy (by unfold fitsI; omega) (by unfold fitsI; omega))
  have hB1 : Below w.heap.size w (w'.alloc (.cells #[.int .i64 m, .int .i64 2305843009213691579, .int .i64 1152921504606845789, .int .i64 y, .int .i64 9223372036854775807, .int .i64 1] 3)) := hB.alloc hB.size _
  clear hB
  generalize w'.alloc (.cells #[.int .i64 m, .int .i64 2305843009213691579, .int .i64 1152921504606845789, .int .i64 y, .int .i64 9223372036854775807, .int .i64 1] 3) = w1 at *
  generalize w'.heap.size = p at *
  go_loop [16] (fun i => ∃ k : Nat, k ≤ 6 ∧ i = .int .i64 k) (fun i => 6 - (intOf i).toNat)
  case atStart => exact ⟨0, Nat.zero_le _, rfl⟩
  case round =>
    obtain ⟨k, hk, rfl⟩ := hrel
    by_cases hk4 : k < 6
    · obtain ⟨n, hn, hcell⟩ := hcells.out k hk4
      have A := Lib.hid fun W => Add_any W a b n ha ha2 hb hb2 hn.2
      have RA := Lib.hid fun W => refAdd_any W a b n ha ha2 hb hb2 hn.2
      have S := Lib.hid fun W => Sub_any W a b n ha ha2 hb hb2 hn.2
      have RS := Lib.hid fun W => refSub_any W a b n ha ha2 hb hb2 hn.2
      have M := Lib.hid fun W => Mul_any W a b n ha ha2 hb hb2 hn.2
      have RM := Lib.hid fun W => refMul_any W a b n ha ha2 hb hb2 hn.2
      generalize ga a b n = x1 at *
      generalize gs a b n = x2 at *
      generalize gm a b n = x3 at *
      go_wp2_with fail
      refine (A.out _).mono ?_
      rintro e w2 ⟨rfl, rfl⟩
      go_wp2_with fail
      refine (RA.out _).mono ?_
      rintro e w2 ⟨rfl, rfl⟩
      go_wp2_with fail
      refine (S.out _).mono ?_
      rintro e w2 ⟨rfl, rfl⟩
      go_wp2_with fail
      refine (RS.out _).mono ?_
      rintro e w2 ⟨rfl, rfl⟩
      go_wp2_with fail
      refine (M.out _).mono ?_
      rintro e w2 ⟨rfl, rfl⟩
      go_wp2_with fail
      refine (RM.out _).mono ?_
      rintro e w2 ⟨rfl, rfl⟩
      go_wp2_with fail
      go_round
      case rel => exact ⟨k + 1, by omega, by go_num⟩
      case measure => (simp [intOf]; omega)
    · obtain rfl : k = 6 := by omega
      go_wp2
      go_ret
      exact ⟨rfl, hB1⟩
end Go.Proofs.Ytipmoklmolhffaa
