/-
  The walk of nat.factorOf: Newton's method for the number that makes -1 of an odd word.
-/
import Derived.Test.YtkpkifhjedlieaaDoorBase
namespace Go.Proofs.YtkpkifhjedlieaaDoor
open Go.RowKit NM
theorem newton (odd v E : Int) (e d : Nat) (hE : E = IntKind.u64.wrap (v * IntKind.u64.wrap (2 - IntKind.u64.wrap (odd * v)))) (hd : d ≤ 64) (hd2 : d ≤ 2*e) (h : (2:Int)^e ∣ odd * v - 1) : (2:Int)^d ∣ odd * E - 1 := by
  obtain ⟨c, hc⟩ := h
  simp only [IntKind.wrap_u64] at hE
  have e64 : (18446744073709551616 : Int) = (2:Int)^d * (2:Int)^(64-d) := by
    rw [← Int.pow_add, show d + (64 - d) = 64 by omega]; rfl
  have ee : (2:Int)^(2*e) = (2:Int)^d * (2:Int)^(2*e-d) := by rw [← Int.pow_add, show d + (2*e-d) = 2*e by omega]
  have m1 := Int.emod_add_mul_ediv (odd * v) 18446744073709551616
  have m2 := Int.emod_add_mul_ediv (2 - odd * v % 18446744073709551616) 18446744073709551616
  have m3 := Int.emod_add_mul_ediv (v * ((2 - odd * v % 18446744073709551616) % 18446744073709551616)) 18446744073709551616
  rw [← hE] at m3
  generalize odd * v / 18446744073709551616 = q1 at m1
  generalize (2 - odd * v % 18446744073709551616) / 18446744073709551616 = q2 at m2
  generalize v * ((2 - odd * v % 18446744073709551616) % 18446744073709551616) / 18446744073709551616 = q3 at m3
  have k1 : odd * v % 18446744073709551616 = odd * v - 18446744073709551616 * q1 := by omega
  rw [k1] at m2 m3
  have k2 : (2 - (odd * v - 18446744073709551616 * q1)) % 18446744073709551616 = 2 - odd * v + 18446744073709551616 * q1 - 18446744073709551616 * q2 := by omega
  rw [k2] at m3
  have k3 : E = v * (2 - odd * v + 18446744073709551616 * q1 - 18446744073709551616 * q2) - 18446744073709551616 * q3 := by omega
  have ed : (2:Int)^e * (2:Int)^e = (2:Int)^d * (2:Int)^(2*e-d) := by rw [← Int.pow_add, ← ee]; congr 1; omega
  rw [e64] at k3
  generalize (2:Int)^d = A at *
  generalize (2:Int)^(64-d) = B at *
  generalize (2:Int)^(2*e-d) = C at *
  generalize (2:Int)^e = D at *
  have k4 : odd * E - 1 = A * (- (C * (c*c)) + B * (odd * v * (q1 - q2) - odd * q3)) := by
    clear m1 m2 m3 k1 k2 hE e64 ee
    grind
  exact ⟨_, k4⟩
/-- what factorOf answers: its product with the odd word is one less than a multiple of 2 to the power of 64 -/
def FacQ (odd : Nat) (w : World) (e : Ending) (w' : World) : Prop := ∃ f : Nat, f < 18446744073709551616 ∧ (odd * f + 1) % 18446744073709551616 = 0 ∧ e = .returned (.int .u64 (f : Nat)) ∧ w = w'
theorem odd_start (odd : Nat) (h : odd % 2 = 1) : (2:Int)^3 ∣ (odd : Int) * (odd : Int) - 1 := by
  obtain ⟨k, rfl⟩ : ∃ k, odd = 2*k+1 := ⟨odd/2, by omega⟩
  obtain ⟨j, hj⟩ : ∃ j : Nat, k * (k+1) = 2 * j := by
    rcases Nat.mod_two_eq_zero_or_one k with h0 | h0
    · exact ⟨k/2 * (k+1), by rw [← Nat.mul_assoc]; congr 1; omega⟩
    · exact ⟨k * ((k+1)/2), by rw [Nat.mul_left_comm]; congr 1; omega⟩
  have hj' : (k : Int) * ((k : Int) + 1) = 2 * (j : Int) := by have := congrArg (fun n : Nat => (n : Int)) hj; simpa using this
  refine ⟨(j : Int), ?_⟩
  have e : ((2*k+1 : Nat) : Int) = 2 * (k : Int) + 1 := by omega
  rw [e]
  generalize (k : Int) = x at *
  generalize (j : Int) = y at *
  grind
theorem fac_end (odd : Nat) (v : Int) (h0 : 0 ≤ v) (h : (2:Int)^64 ∣ (odd : Int) * v - 1) : ∃ f : Nat, f < 18446744073709551616 ∧ (odd * f + 1) % 18446744073709551616 = 0 ∧ IntKind.u64.wrap (-v) = (f : Int) := by
  refine ⟨((-v) % 18446744073709551616).toNat, by omega, ?_, by rw [IntKind.wrap_u64]; omega⟩
  obtain ⟨c, hc⟩ := h
  have e64 : (2:Int)^64 = 18446744073709551616 := by decide
  rw [e64] at hc
  have m1 := Int.emod_add_mul_ediv (-v) 18446744073709551616
  have key : ((odd * ((-v) % 18446744073709551616).toNat + 1 : Nat) : Int) = 18446744073709551616 * (- c - odd * ((-v) / 18446744073709551616)) := by
    have e1 : ((((-v) % 18446744073709551616).toNat : Nat) : Int) = (-v) % 18446744073709551616 := by omega
    rw [Int.natCast_add, Int.natCast_mul, e1]
    generalize (-v) % 18446744073709551616 = r at *
    generalize (-v) / 18446744073709551616 = q at *
    generalize (odd : Int) = x at *
    clear e1 e64
    grind
  omega
set_option maxHeartbeats 1000000 in
theorem factorOf_any (w : World) (odd : Nat) (ho : odd % 2 = 1) (hlt : odd < 18446744073709551616) : Calls Tryd.prog 56 #[.int .u64 (odd : Nat)] w (FacQ odd w) := by
  have h3 := odd_start odd ho
  have H3 := Lib.hid h3; clear h3
  go_enter Tryd.func56, Tryd.ntmps56
  go_wp2
  go_loop [3, 5] (fun v i => ∃ (k : Nat) (x : Int), k ≤ 5 ∧ i = .int .i64 (k : Nat) ∧ v = .int .u64 x ∧ Hid (0 ≤ x) ∧ Hid ((2:Int)^(min 64 (3 * 2^k)) ∣ (odd : Int) * x - 1)) (fun _ i => 5 - (intOf i).toNat)
  case atStart => exact ⟨0, _, by omega, rfl, rfl, by show 0 ≤ _; omega, H3.out⟩
  case round =>
    obtain ⟨k, x, hk, rfl, rfl, hx, hd⟩ := hrel
    by_cases h : k < 5
    · go_wp2
      go_round
      case rel =>
        refine ⟨k + 1, _, h, by go_num, rfl, ?_, ?_⟩
        · show 0 ≤ _; rw [IntKind.wrap_u64]; omega
        · show _ ∣ _
          have hp : 3 * 2^(k+1) = 2 * (3 * 2^k) := by rw [Nat.pow_succ]; omega
          have hp2 : 3 * 2^k ≤ 48 := by have : 2^k ≤ 2^4 := Nat.pow_le_pow_right (by omega) (by omega); omega
          have hd' := hd.out
          rw [Nat.min_eq_right (by omega)] at hd'
          exact newton (odd : Int) x _ (3 * 2^k) (min 64 (3 * 2^(k+1))) rfl (Nat.min_le_left _ _) (by rw [← hp]; exact Nat.min_le_right _ _) hd'
      case measure => (simp [intOf]; try omega)
    · obtain rfl : k = 5 := by omega
      obtain ⟨f, f1, f2, f3⟩ := fac_end odd x hx.out hd.out
      have F2 := Lib.hid f2; clear f2
      go_wp2
      go_ret
      exact ⟨f, f1, F2.out, rfl, rfl⟩
end Go.Proofs.YtkpkifhjedlieaaDoor
