/-
  The walk of the law GroupMembers.
-/
import Derived.Test.YtipmoklmolhffaaGCells
namespace Go.Proofs.Ytipmoklmolhffaa.G4
open Go.RowKit GM
theorem fits_w64 (x : Int) : fitsI (wrap64 x) := by unfold fitsI wrap64; omega
theorem mem_iff (a : Int) : mem a = true ↔ memG gP gQ a := by
  unfold mem memG
  have e : gp a 1152921504606845789 2305843009213691579 = a^gQ % (gP : Int) := rfl
  rw [e]
  simp only [Bool.and_eq_true, decide_eq_true_eq, beq_iff_eq, and_assoc]
  exact Iff.rfl
theorem mem_one (x : Int) (h0 : 0 < x) (h1 : x < 2305843009213691579) : mem (2305843009213691579 - x) = !mem x := by
  have h := grp.one x h0 h1
  rw [← mem_iff, ← mem_iff] at h
  have e : mem ((gP : Int) - x) = mem (2305843009213691579 - x) := rfl
  rw [e] at h
  cases hx : mem x <;> cases hy : mem (2305843009213691579 - x) <;> simp_all
set_option maxRecDepth 100000 in
set_option maxHeartbeats 8000000 in
theorem members_walk (w : World) (a : Int) (ha : -9223372036854775808 ≤ a) (ha2 : a ≤ 9223372036854775807) :
    Calls Try.prog 7 #[.int .i64 a] w fun e w' => e = .returned (.bool true) ∧ Below w.heap.size w w' := by
  obtain ⟨z, hz⟩ : ∃ z, bits .and .i64 a 1152921504606846975 = z := ⟨_, rfl⟩
  have hz1 : 0 ≤ z ∧ z < 1152921504606846976 := by rw [← hz, and60]; omega
  have M1 := Lib.hid fun W => Member_any W (1 + z) (by omega) (by omega)
  have M2 := Lib.hid fun W => member_k W (2305843009213691579 - (1 + z)) (!mem (1 + z)) (mem_one _ (by omega) (by omega)) (by omega) (by omega)
  generalize mem (1 + z) = r at *
  go_enter Try.func7, Try.ntmps7
  go_wp2_with fail
  refine (sanity_any _).mono ?_
  rintro e w' ⟨rfl, hB⟩
  go_wp2_with fail
  have hy : fitsI (bits BinOp.and IntKind.i64 a 2305843009213693951) := fits_and a _
  have hv : fitsI (wrap64 (-a)) := fits_w64 _
  generalize bits BinOp.and IntKind.i64 a 2305843009213693951 = y at *
  generalize wrap64 (-a) = v at *
  have hcells := Lib.hid (cells6 w' 3 a v y 2305843009213691579 2305843009213691578 0 ⟨ha, ha2⟩ hv hy (by unfold fitsI; omega) (by unfold fitsI; omega) (by unfold fitsI; omega))
  have hB1 : Below w.heap.size w (w'.alloc (.cells #[.int .i64 a, .int .i64 v, .int .i64 y, .int .i64 2305843009213691579, .int .i64 2305843009213691578, .int .i64 0] 3)) := hB.alloc hB.size _
  have hp : w'.heap.size < (w'.alloc (.cells #[.int .i64 a, .int .i64 v, .int .i64 y, .int .i64 2305843009213691579, .int .i64 2305843009213691578, .int .i64 0] 3)).heap.size := by simp
  clear hB
  generalize w'.alloc (.cells #[.int .i64 a, .int .i64 v, .int .i64 y, .int .i64 2305843009213691579, .int .i64 2305843009213691578, .int .i64 0] 3) = w1 at *
  generalize w'.heap.size = p at *
  go_loopw [15] (fun i wr => ∃ k : Nat, k ≤ 6 ∧ i = .int .i64 k ∧ Below w1.heap.size w1 wr) (fun i _ => 6 - (intOf i).toNat)
  case atStart => exact ⟨0, Nat.zero_le _, rfl, Below.refl _ _⟩
  case round =>
    obtain ⟨k, hk, rfl, hB2⟩ := hrel
    by_cases hk4 : k < 6
    · obtain ⟨n, hn, hcell0⟩ := hcells.out k hk4
      have hcell := (hB2.cell (p := ⟨p, k, none⟩) hp).trans hcell0
      clear hcell0
      have S := Lib.hid fun W => Member_any W n hn.1 hn.2
      have RS := Lib.hid fun W => refMember_any W n hn.1 hn.2
      generalize mem n = x1 at *
      go_wp2_with fail
      refine (S.out _).mono ?_
      rintro e w3 ⟨rfl, b3⟩
      have hB3 := hB2.trans (b3.mono hB2.size)
      go_wp2_with fail
      refine (RS.out _).mono ?_
      rintro e w4 ⟨rfl, rfl⟩
      go_wp2_with fail
      go_roundw
      case rel => exact ⟨k + 1, by omega, by go_num, hB3⟩
      case measure => (simp [intOf]; omega)
    · obtain rfl : k = 6 := by omega
      go_wp2_with fail
      refine (M1.out _).mono ?_
      rintro e w3 ⟨rfl, b3⟩
      have hB3 := hB2.trans (b3.mono hB2.size)
      go_wp2_with fail
      refine (M2.out _).mono ?_
      rintro e w4 ⟨rfl, b4⟩
      have hB4 := hB3.trans (b4.mono hB3.size)
      go_wp2
      go_ret
      exact ⟨rfl, hB1.trans (hB4.mono hB1.size)⟩
end Go.Proofs.Ytipmoklmolhffaa.G4
