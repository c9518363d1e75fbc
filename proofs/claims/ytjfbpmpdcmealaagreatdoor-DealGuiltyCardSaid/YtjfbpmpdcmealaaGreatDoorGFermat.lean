/-
  The group of squares modulo the document's prime: which numbers are members, inverses modulo primes.
  Members of the group of prime order: powers are one to one, factors are cancelled; signatures by the method of Schnorr.
-/
import Derived.Test.YtjfbpmpdcmealaaGreatDoorGMath
import Derived.Test.YtjfbpmpdcmealaaGreatDoorFermatM
namespace GM
/-- p = 2 q + 1 is prime, q is odd, and p - 1 = 2 q squares to Fermat's power -/
structure Grp (p q : Nat) : Prop where
  pq : p = 2 * q + 1
  odd : q % 2 = 1
  big : 1 ≤ q
  fermat : ∀ a : Int, a % (p : Int) ≠ 0 → a^(2 * q) % (p : Int) = 1
  prime : ∀ a b : Int, (p : Int) ∣ a * b → (p : Int) ∣ a ∨ (p : Int) ∣ b
def memG (p q : Nat) (a : Int) : Prop := 0 < a ∧ a < (p : Int) ∧ a^q % (p : Int) = 1
theorem neg_pow_odd (a : Int) (q : Nat) (h : q % 2 = 1) : (-a)^q = -(a^q) := by
  obtain ⟨k, hk⟩ : ∃ k, q = 2 * k + 1 := ⟨q / 2, by omega⟩
  rw [hk, Int.pow_succ, Int.pow_succ, Int.pow_mul, Int.pow_mul]
  rw [show (-a)^2 = a^2 by rw [Int.pow_succ, Int.pow_succ, Int.pow_succ, Int.pow_succ]; simp [Int.neg_mul_neg]]
  rw [Int.mul_neg]
theorem Grp.sq {p q : Nat} (h : Grp p q) (a : Int) (ha : a % (p : Int) ≠ 0) : a^q % (p : Int) = 1 ∨ a^q % (p : Int) = p - 1 := by
  have hp := h.pq
  have hb := h.big
  have h1 := h.fermat a ha
  have e : a^(2 * q) = a^q * a^q := by rw [Nat.two_mul, Int.pow_add]
  rw [e, ← mul_l, ← mul_r] at h1
  have r := rng (f := a^q) (m := (p : Int)) (by omega)
  generalize a^q % (p : Int) = y at *
  have hd : (p : Int) ∣ (y - 1) * (y + 1) := by
    refine Int.dvd_of_emod_eq_zero ?_
    rw [show (y - 1) * (y + 1) = y * y - 1 by grind, Int.sub_emod, h1]
    simp
  rcases h.prime _ _ hd with ⟨c, hc⟩ | ⟨c, hc⟩
  · left
    rcases Int.lt_or_le c 1 with h2 | h2
    · rcases Int.lt_or_le c 0 with h3 | h3
      · exfalso
        have := Int.mul_le_mul_of_nonneg_left (show c ≤ -1 by omega) (show (0 : Int) ≤ (p : Int) by omega)
        omega
      · have : c = 0 := by omega
        rw [this] at hc; omega
    · exfalso
      have := Int.mul_le_mul_of_nonneg_left h2 (show (0 : Int) ≤ (p : Int) by omega)
      omega
  · right
    rcases Int.lt_or_le c 1 with h2 | h2
    · exfalso
      have := Int.mul_le_mul_of_nonneg_left (show c ≤ 0 by omega) (show (0 : Int) ≤ (p : Int) by omega)
      omega
    · rcases Int.lt_or_le 1 c with h3 | h3
      · exfalso
        have := Int.mul_le_mul_of_nonneg_left (show 2 ≤ c by omega) (show (0 : Int) ≤ (p : Int) by omega)
        omega
      · have : c = 1 := by omega
        rw [this] at hc; omega
/-- of a number and its negative exactly one is a member -/
theorem Grp.one {p q : Nat} (h : Grp p q) (x : Int) (h0 : 0 < x) (h1 : x < p) : memG p q x ↔ ¬ memG p q (p - x) := by
  have hp := h.pq
  have hb := h.big
  have hx : x % (p : Int) ≠ 0 := by rw [Int.emod_eq_of_lt (by omega) h1]; omega
  have e : ((p : Int) - x)^q % (p : Int) = (p - x^q % (p : Int)) % (p : Int) := by
    rw [← pow_emod, show ((p : Int) - x) % (p : Int) = (-x) % (p : Int) by rw [Int.sub_emod, Int.emod_self, Int.neg_emod_eq_sub_emod, Int.zero_sub, Int.sub_emod, Int.emod_self, Int.zero_sub], pow_emod, neg_pow_odd x q h.odd, sub_r, Int.neg_emod_eq_sub_emod]
  unfold memG
  rw [e]
  rcases h.sq x hx with h2 | h2 <;> rw [h2]
  · rw [Int.emod_eq_of_lt (by omega) (by omega)]; omega
  · rw [show (p : Int) - (p - 1) = 1 by omega, Int.emod_eq_of_lt (by omega) (by omega)]; omega
/-- the square of a number is a member -/
theorem Grp.square {p q : Nat} (h : Grp p q) (x : Int) (h0 : 0 < x) (h1 : x < p) : memG p q (x * x % (p : Int)) := by
  have hp := h.pq
  have hb := h.big
  have hx : x % (p : Int) ≠ 0 := by rw [Int.emod_eq_of_lt (by omega) h1]; omega
  have e : (x * x % (p : Int))^q % (p : Int) = 1 := by
    rw [pow_emod, ← h.fermat x hx, show x^(2*q) = (x*x)^q by rw [Int.pow_mul]; congr 1; rw [Int.pow_succ, Int.pow_succ, Int.pow_zero, Int.one_mul]]
  have r := rng (f := x * x) (m := (p : Int)) (by omega)
  refine ⟨?_, r.2, e⟩
  rcases Int.lt_or_le 0 (x * x % (p : Int)) with h2 | h2
  · exact h2
  · exfalso
    rw [show x * x % (p : Int) = 0 by omega, Int.zero_pow (by omega)] at e
    simp at e
theorem one_pow_mod {a m : Int} {q : Nat} (hm : 2 ≤ m) (h : a^q % m = 1) (k : Nat) : (a^q)^k % m = 1 := by
  rw [← pow_emod, h, Int.one_pow, Int.emod_eq_of_lt (by omega) (by omega)]
/-- the powers of a member are members -/
theorem Grp.pow {p q : Nat} (h : Grp p q) {a : Int} (ha : memG p q a) (k : Nat) : memG p q (a^k % (p : Int)) := by
  have hp := h.pq
  have hb := h.big
  have e : (a^k % (p : Int))^q % (p : Int) = 1 := by
    rw [pow_emod, ← Int.pow_mul, Nat.mul_comm, Int.pow_mul, one_pow_mod (by omega) ha.2.2]
  have r := rng (f := a^k) (m := (p : Int)) (by omega)
  refine ⟨?_, r.2, e⟩
  rcases Int.lt_or_le 0 (a^k % (p : Int)) with h2 | h2
  · exact h2
  · exfalso
    rw [show a^k % (p : Int) = 0 by omega, Int.zero_pow (by omega)] at e
    simp at e
/-- a member's powers depend on the exponent's residue alone -/
theorem Grp.residue {p q : Nat} (h : Grp p q) {a : Int} (ha : memG p q a) (k : Nat) : a^(k % q) % (p : Int) = a^k % (p : Int) := by
  have hp := h.pq
  have hb := h.big
  have e : a^k = (a^q)^(k / q) * a^(k % q) := by rw [← Int.pow_mul, ← Int.pow_add, Nat.div_add_mod]
  rw [e, ← mul_l, one_pow_mod (by omega) ha.2.2, Int.one_mul]
theorem pow_toNat (a : Int) (m : Nat) (hm : 0 < m) (k : Nat) : a^k % (m : Int) = (((a % (m : Int)).toNat^k % m : Nat) : Int) := by
  rw [← pow_emod, Int.natCast_emod, Int.natCast_pow, Int.toNat_of_nonneg (Int.emod_nonneg _ (by omega))]
theorem pr_int {p : Nat} (h : NM.Pr p) (a b : Int) (hd : (p : Int) ∣ a * b) : (p : Int) ∣ a ∨ (p : Int) ∣ b := by
  have h1 : p ∣ a.natAbs * b.natAbs := by rw [← Int.natAbs_mul]; exact Int.ofNat_dvd_left.1 hd
  have h2 : p ∣ a.natAbs ∨ p ∣ b.natAbs := by
    rcases h.2 (Nat.gcd p a.natAbs) (Nat.gcd_dvd_left _ _) with h3 | h3
    · right; exact Nat.Coprime.dvd_of_dvd_mul_left h3 h1
    · left; rw [← h3]; exact Nat.gcd_dvd_right _ _
  exact h2.imp Int.ofNat_dvd_left.2 Int.ofNat_dvd_left.2
theorem fermat_int {n g : Nat} (h : NM.Gen n g) (k : Nat) (hk : k = n - 1) (a : Int) (ha : a % (n : Int) ≠ 0) : a^k % (n : Int) = 1 := by
  have hb := h.big
  rw [pow_toNat a n (by omega)]
  have := h.fermat (a % (n : Int)).toNat (by
    have r := rng (f := a) (m := (n : Int)) (by omega)
    rw [Nat.mod_eq_of_lt (by omega)]; omega)
  rw [hk, this]; rfl
def gP : Nat := 2305843009213691579
def gQ : Nat := 1152921504606845789
theorem grp : Grp gP gQ := ⟨by decide, by decide, by decide, fermat_int NM.gen2305843009213691579 (2 * gQ) (by decide), pr_int NM.pr2305843009213691579⟩
theorem gen_Q : NM.Gen gQ 2 := NM.gen1152921504606845789
/-- inverses modulo the two primes -/
theorem IsInv.ofP {a i : Int} {ok : Bool} (h : IsInv a (gP : Int) i ok) : ok = !decide (ga a 0 (gP : Int) = 0) :=
  h.prime (k := 2 * gQ - 1) (by decide) (fun ha => by
    rw [show 2 * gQ - 1 + 1 = 2 * gQ from by decide]; exact grp.fermat a ha)
theorem IsInv.ofQ {a i : Int} {ok : Bool} (h : IsInv a (gQ : Int) i ok) : ok = !decide (ga a 0 (gQ : Int) = 0) :=
  h.prime (k := gQ - 2) (by decide) (fun ha => fermat_int gen_Q (gQ - 2 + 1) (by decide) a ha)
end GM
namespace GM
/-- a member whose power with an exponent less than the order is 1 is 1 -/
theorem pow_one_of {a : Int} (ha : memG gP gQ a) (d : Nat) (h0 : 0 < d) (h1 : d < gQ) (e : a^d % (gP : Int) = 1) : a = 1 := by
  have hQ : gQ = 1152921504606845789 := rfl
  have hf := gen_Q.fermat d (by rw [Nat.mod_eq_of_lt h1]; omega)
  have e1 : a^(d * d^(gQ - 2)) % (gP : Int) = 1 := by
    rw [Int.pow_mul, one_pow_mod (by decide) e]
  have e2 : (d * d^(gQ - 2)) % gQ = 1 := by
    rw [Nat.mul_comm, ← Nat.pow_succ, show (gQ - 2).succ = gQ - 1 from by decide]; exact hf
  rw [← grp.residue ha, e2, Int.pow_one, Int.emod_eq_of_lt (Int.le_of_lt ha.1) ha.2.1] at e1
  exact e1
theorem not_dvd {a : Int} (h0 : 0 < a) (h1 : a < (gP : Int)) : ¬ (gP : Int) ∣ a := fun h => by
  have := Int.emod_eq_zero_of_dvd h
  rw [Int.emod_eq_of_lt (Int.le_of_lt h0) h1] at this
  omega
/-- a factor that is a member is cancelled -/
theorem cancel {r : Int} (hr : memG gP gQ r) (u v : Int) (e : r * u % (gP : Int) = r * v % (gP : Int)) : u % (gP : Int) = v % (gP : Int) := by
  have hd : (gP : Int) ∣ r * (u - v) := by
    refine Int.dvd_of_emod_eq_zero ?_
    rw [Int.mul_sub, Int.sub_emod, e, Int.sub_self, Int.zero_emod]
  rcases grp.prime _ _ hd with h | h
  · exact absurd h (not_dvd hr.1 hr.2.1)
  · exact (Int.emod_emod_of_dvd u (Int.dvd_refl _)).symm.trans (by
      have h2 := Int.emod_eq_zero_of_dvd h
      have h3 : u = v + (u - v) := by omega
      rw [h3, Int.add_emod, h2, Int.add_zero, Int.emod_emod_of_dvd _ (Int.dvd_refl _), Int.emod_emod_of_dvd _ (Int.dvd_refl _)])
/-- the powers of a member other than 1 with exponents less than the order are different -/
theorem pow_lt {a : Int} (ha : memG gP gQ a) (h1 : a ≠ 1) (s t : Nat) (hst : s < t) (ht : t < gQ) : a^s % (gP : Int) ≠ a^t % (gP : Int) := fun e => by
  have hm := grp.pow ha s
  have e2 : a^s % (gP : Int) * 1 % (gP : Int) = a^s % (gP : Int) * a^(t - s) % (gP : Int) := by
    rw [mul_l, mul_l, Int.mul_one, ← Int.pow_add, Nat.add_sub_cancel' (Nat.le_of_lt hst)]; exact e
  have e3 := cancel hm _ _ e2
  exact h1 (pow_one_of ha (t - s) (by omega) (by omega) (e3.symm.trans (by decide)))
theorem pow_inj {a : Int} (ha : memG gP gQ a) (h1 : a ≠ 1) (s t : Nat) (hs : s < gQ) (ht : t < gQ) (e : a^s % (gP : Int) = a^t % (gP : Int)) : s = t := by
  rcases Nat.lt_trichotomy s t with h | h | h
  · exact absurd e (pow_lt ha h1 s t h ht)
  · exact h
  · exact absurd e.symm (pow_lt ha h1 t s h hs)
theorem mem_four : memG gP gQ 4 := by
  have h := grp.square 2 (by decide) (by decide)
  exact h
end GM
