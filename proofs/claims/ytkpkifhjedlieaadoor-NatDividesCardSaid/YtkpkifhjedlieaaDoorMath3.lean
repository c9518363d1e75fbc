/-
  Plain arithmetic of the division of two words by one, by halves of a word.
-/
import Derived.Test.YtkpkifhjedlieaaDoorMath2
namespace NM
/-- the quotient digit is at most the estimate -/
theorem dd_start (β y1 y0 u un1 : Nat) (hy : 0 < y1) (hβ : 0 < β) (h1 : un1 < β) : (u*β + un1) / (y1*β + y0) ≤ u / y1 := by
  have e : u / y1 = (u*β + un1) / (y1*β) := by
    rw [Nat.mul_comm y1 β, ← Nat.div_div_eq_div_mul, Nat.mul_comm u β, Nat.mul_add_div hβ, Nat.div_eq_of_lt h1, Nat.add_zero]
  rw [e]
  exact Nat.div_le_div_left (Nat.le_add_right _ _) (Nat.mul_pos hy hβ)
/-- an estimate that went past the half -/
theorem dd_break (β y1 y0 u un1 q r : Nat) (h : q*y1 + r = u) (hq : q ≤ β) (hr : β ≤ r) (hy0 : y0 < β) (hy : 0 < y1*β + y0) : q ≤ (u*β + un1) / (y1*β + y0) := by
  apply dd_good β y1 y0 u un1 q r h _ hy
  have h1 : q * y0 ≤ β * y0 := Nat.mul_le_mul_right _ hq
  have h2 : β * y0 ≤ β * r := Nat.mul_le_mul_left _ (by omega)
  omega
theorem dd_lt (β Y u un1 : Nat) (hu : u < Y) (h1 : un1 < β) : (u*β + un1) / Y < β := by
  apply (Nat.div_lt_iff_lt_mul (by omega)).2
  have : (u+1)*β ≤ Y*β := Nat.mul_le_mul_right _ hu
  rw [Nat.add_mul] at this
  rw [Nat.mul_comm β]; omega
/-- the estimate is at most the half and one -/
theorem dd_cap (β y1 y0 u q r : Nat) (h : q*y1 + r = u) (hu : u < y1*β + y0) (hy0 : y0 < β) (h2 : β ≤ 2*y1) : q ≤ β + 1 := by
  apply Nat.le_of_not_lt; intro h3
  have : (β+2)*y1 ≤ q*y1 := Nat.mul_le_mul_right _ h3
  rw [Nat.add_mul, Nat.mul_comm β] at this
  omega
theorem shl_split (lo s : Nat) (hs : s ≤ 64) : lo * 2^s = lo / 2^(64-s) * 2^64 + lo * 2^s % 2^64 := by
  have e : lo / 2^(64-s) = lo * 2^s / 2^64 := by
    have : (2:Nat)^64 = 2^(64-s) * 2^s := by rw [← Nat.pow_add]; congr 1; omega
    rw [this, Nat.mul_div_mul_right _ _ (Nat.pow_pos (by omega))]
  rw [e]; have := Nat.div_add_mod (lo * 2^s) (2^64); omega
structure DV (hi lo y s Y y1 y0 u a un1 un0 Q1 R1 Q0 R0 : Nat) : Prop where
  hY : Y = y * 2^s
  Ylt : Y < 18446744073709551616
  h1 : y1 = Y / 4294967296
  h0 : y0 = Y % 4294967296
  y1lo : 2147483648 ≤ y1
  y1hi : y1 < 4294967296
  y0hi : y0 < 4294967296
  hor : (hi * 2^s) ||| (lo / 2^(64-s)) = u
  his : hi * 2^s < 18446744073709551616
  uY : u < Y
  ha : a = lo * 2^s % 18446744073709551616
  hun1 : un1 = a / 4294967296
  hun0 : un0 = a % 4294967296
  un1lt : un1 < 4294967296
  un0lt : un0 < 4294967296
  YY : Y = y1 * 4294967296 + y0
  q1 : Q1 = (u * 4294967296 + un1) / (y1 * 4294967296 + y0)
  r1 : R1 + Q1 * Y = u * 4294967296 + un1
  R1Y : R1 < Y
  q0 : Q0 = (R1 * 4294967296 + un0) / (y1 * 4294967296 + y0)
  r0 : R0 + Q0 * Y = R1 * 4294967296 + un0
  R0Y : R0 < Y
  Q1lt : Q1 < 4294967296
  Q0lt : Q0 < 4294967296
  quo : Q1 * 4294967296 + Q0 = (hi * 18446744073709551616 + lo) / y
  rem : R0 / 2^s = (hi * 18446744073709551616 + lo) % y
theorem dv_exists (hi lo y s : Nat) (hlo : lo < 18446744073709551616) (hhi : hi < y) (hs : s ≤ 63) (h63 : 9223372036854775808 ≤ y * 2^s) (h64 : y * 2^s < 18446744073709551616) :
    ∃ Y y1 y0 u a un1 un0 Q1 R1 Q0 R0, DV hi lo y s Y y1 y0 u a un1 un0 Q1 R1 Q0 R0 := by
  obtain ⟨Y, hY⟩ : ∃ Y, Y = y * 2^s := ⟨_, rfl⟩
  obtain ⟨l1, hl1⟩ : ∃ l1, l1 = lo / 2^(64-s) := ⟨_, rfl⟩
  obtain ⟨a, ha⟩ : ∃ a, a = lo * 2^s % 18446744073709551616 := ⟨_, rfl⟩
  obtain ⟨u, hu⟩ : ∃ u, u = hi * 2^s + l1 := ⟨_, rfl⟩
  have hsp := shl_split lo s (by omega)
  have e64 : (2:Nat)^64 = 18446744073709551616 := by decide
  rw [e64, ← hl1, ← ha] at hsp
  have hpos : 0 < 2^s := Nat.pow_pos (by omega)
  have hN : (hi * 18446744073709551616 + lo) * 2^s = u * 18446744073709551616 + a := by
    rw [Nat.add_mul, hsp, hu, Nat.add_mul, Nat.mul_right_comm]; omega
  have hNlt : hi * 18446744073709551616 + lo < y * 18446744073709551616 := by omega
  have uY : u < Y := by
    have h1 : (hi * 18446744073709551616 + lo) * 2^s < (y * 18446744073709551616) * 2^s := Nat.mul_lt_mul_of_pos_right hNlt hpos
    rw [hN, Nat.mul_right_comm, ← hY] at h1
    omega
  have hla : a < 18446744073709551616 := by rw [ha]; exact Nat.mod_lt _ (by decide)
  have l1lt : l1 < 2^s := by
    rw [hl1]
    apply (Nat.div_lt_iff_lt_mul (Nat.pow_pos (by omega))).2
    rw [← Nat.pow_add, show s + (64 - s) = 64 by omega]; omega
  rw [← hY] at h63 h64
  have hYY : Y = Y / 4294967296 * 4294967296 + Y % 4294967296 := by omega
  have hYp : 0 < Y := by omega
  obtain ⟨Q1, hQ1⟩ : ∃ Q1, Q1 = (u * 4294967296 + a / 4294967296) / Y := ⟨_, rfl⟩
  obtain ⟨R1, hR1⟩ : ∃ R1, R1 = (u * 4294967296 + a / 4294967296) % Y := ⟨_, rfl⟩
  obtain ⟨Q0, hQ0⟩ : ∃ Q0, Q0 = (R1 * 4294967296 + a % 4294967296) / Y := ⟨_, rfl⟩
  obtain ⟨R0, hR0⟩ : ∃ R0, R0 = (R1 * 4294967296 + a % 4294967296) % Y := ⟨_, rfl⟩
  have m1 := Nat.div_add_mod (u * 4294967296 + a / 4294967296) Y
  have m0 := Nat.div_add_mod (R1 * 4294967296 + a % 4294967296) Y
  rw [← hQ1, ← hR1, Nat.mul_comm] at m1
  rw [← hQ0, ← hR0, Nat.mul_comm] at m0
  have R1Y : R1 < Y := by rw [hR1]; exact Nat.mod_lt _ hYp
  have R0Y : R0 < Y := by rw [hR0]; exact Nat.mod_lt _ hYp
  have key : (hi * 18446744073709551616 + lo) * 2^s = (Q1 * 4294967296 + Q0) * Y + R0 := by
    rw [hN, Nat.add_mul, Nat.mul_right_comm]
    clear hQ1 hR1 hQ0 hR0 hN hsp hYY hla hu hl1 ha
    generalize Q1 * Y = P at m1 ⊢
    generalize Q0 * Y = S at m0 ⊢
    generalize hA1 : a / 4294967296 = A1 at m1 m0
    generalize hA0 : a % 4294967296 = A0 at m0
    have hA : a = A1 * 4294967296 + A0 := by omega
    clear hA1 hA0
    omega
  have hdvd : R0 = (hi * 18446744073709551616 + lo - (Q1 * 4294967296 + Q0) * y) * 2^s := by
    rw [Nat.sub_mul, key, Nat.mul_assoc, ← hY]; omega
  have hle : (Q1 * 4294967296 + Q0) * y ≤ hi * 18446744073709551616 + lo := by
    refine Nat.le_of_mul_le_mul_right (c := 2^s) ?_ hpos
    rw [key, Nat.mul_assoc, ← hY]; omega
  obtain ⟨r, hr⟩ : ∃ r, r = hi * 18446744073709551616 + lo - (Q1 * 4294967296 + Q0) * y := ⟨_, rfl⟩
  rw [← hr] at hdvd
  have hry : r < y := by
    apply Nat.lt_of_mul_lt_mul_right (a := 2^s)
    rw [← hdvd, ← hY]; exact R0Y
  have hNr : hi * 18446744073709551616 + lo = (Q1 * 4294967296 + Q0) * y + r := by omega
  refine ⟨Y, Y / 4294967296, Y % 4294967296, u, a, a / 4294967296, a % 4294967296, Q1, R1, Q0, R0, hY, h64, rfl, rfl, by omega, by omega, by omega, ?_, by omega, uY, ha, rfl, rfl, by omega, by omega, hYY, by rw [← hYY]; exact hQ1, by omega, R1Y, by rw [← hYY]; exact hQ0, by omega, R0Y,
    by rw [hQ1]; exact dd_lt _ _ _ _ uY (by omega), by rw [hQ0]; exact dd_lt _ _ _ _ R1Y (by omega), ?_, ?_⟩
  · rw [← hl1, hu, Nat.mul_comm hi]; exact (Nat.two_pow_add_eq_or_of_lt l1lt hi).symm
  · rw [hNr, Nat.mul_comm _ y, Nat.mul_add_div (by omega), Nat.div_eq_of_lt hry, Nat.add_zero]
  · rw [hNr, Nat.mul_comm _ y, Nat.mul_add_mod, Nat.mod_eq_of_lt hry, hdvd, Nat.mul_div_cancel _ hpos]
end NM
