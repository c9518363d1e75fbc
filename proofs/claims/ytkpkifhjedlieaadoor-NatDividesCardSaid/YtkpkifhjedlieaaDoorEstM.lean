/-
  The arithmetic of nat.estimate: a digit out of the highest three and two words.
-/
import Derived.Test.YtkpkifhjedlieaaDoorTake
namespace Go.Proofs.YtkpkifhjedlieaaDoor
open NM
/-- U3, V2: what lies above the lowest words (a power R) of the number and of the divisor. The greatest digit whose product with V2 is not above U3 is the quotient or one more. -/
theorem est_ge (u v U3 V2 R q : Nat) (hR : 0 < R) (hu : u < (U3 + 1) * R) (hv : V2 * R ≤ v) (hq : q * v ≤ u) : q * V2 ≤ U3 := by
  have h1 : q * (V2 * R) ≤ q * v := Nat.mul_le_mul_left _ hv
  have h2 : q * V2 * R < (U3 + 1) * R := by rw [Nat.mul_assoc]; omega
  have h3 := Nat.lt_of_mul_lt_mul_right h2
  omega
theorem est_le (u v U3 V2 R d : Nat) (hu : U3 * R ≤ u) (hv : v < (V2 + 1) * R) (hd : d * V2 ≤ U3) (hdv : d * R ≤ v) (hv0 : 0 < v) : d ≤ u / v + 1 := by
  have h1 : d * v ≤ d * ((V2 + 1) * R) := Nat.mul_le_mul_left _ (Nat.le_of_lt hv)
  have h2 : d * V2 * R ≤ U3 * R := Nat.mul_le_mul_right _ hd
  have h3 : d * ((V2 + 1) * R) = d * V2 * R + d * R := by rw [Nat.add_mul, Nat.one_mul, Nat.mul_add, Nat.mul_assoc]
  have h4 : d * v ≤ u + v := by omega
  have h5 : d ≤ (u + v) / v := (Nat.le_div_iff_mul_le hv0).2 h4
  rwa [Nat.add_div_right _ hv0] at h5
/-- where the highest words don't fit: the quotient is one of the greatest two digits -/
theorem est_top (u v t S : Nat) (hu : t * (B64 * S) ≤ u) (hv : v < (t + 1) * S) (ht : B64 ≤ 2 * t + 2) (hv0 : 0 < v) : B64 - 1 ≤ u / v + 1 := by
  have h1 : (B64 - 2) * v ≤ (B64 - 2) * ((t + 1) * S) := Nat.mul_le_mul_left _ (Nat.le_of_lt hv)
  have h2 : (B64 - 2) * (t + 1) ≤ t * B64 := by
    have hB : 2 ≤ B64 := by decide
    obtain ⟨c, hc⟩ : ∃ c, B64 = c + 2 := ⟨B64 - 2, by omega⟩
    rw [hc] at ht ⊢
    rw [Nat.add_sub_cancel, Nat.mul_add, Nat.mul_add, Nat.mul_comm c t]
    omega
  have h3 : (B64 - 2) * ((t + 1) * S) ≤ t * (B64 * S) := by
    rw [← Nat.mul_assoc, ← Nat.mul_assoc]
    exact Nat.mul_le_mul_right _ h2
  have h4 : B64 - 2 ≤ u / v := (Nat.le_div_iff_mul_le hv0).2 (by omega)
  omega
end Go.Proofs.YtkpkifhjedlieaaDoor
