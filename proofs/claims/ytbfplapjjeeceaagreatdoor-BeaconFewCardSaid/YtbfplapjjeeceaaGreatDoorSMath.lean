/-
  Members of the group of prime order: powers are one to one, factors are cancelled; signatures by the method of Schnorr.
-/
import Derived.Test.YtbfplapjjeeceaaGreatDoorGFermat
namespace GM
/-- a member whose power with an exponent less than the order is 1 is 1 -/
theorem pow_one_of {a : Int} (ha : memG gP gQ a) (d : Nat) (h0 : 0 < d) (h1 : d < gQ) (e : a^d % (gP : Int) = 1) : a = 1 := by
  have hQ : gQ = 1152921504606845789 := rfl
  have hf := gen_Q.fermat d (by rw [Nat.mod_eq_of_lt h1]; omega)
  have e1 : a^(d * d^(gQ - 2)) % (gP : Int) = 1 := by
    rw [Int.pow_mul, one_pow_mod (by decide) e]
  have e2 : (d * d^(gQ - 2)) % gQ = 1 := by
    rw [Nat.mul_comm, ← Nat.pow_succ, show (gQ - 2).succ = gQ - 1 from by decide]; exact hf
  rw [← grp.residue ha, e2, Int.pow_one, Int.emod_eq_of_lt (Int.le_of_lt ha.1) ha.2.1] at e1
  exact e1
theorem not_dvd {a : Int} (h0 : 0 < a) (h1 : a < (gP : Int)) : ¬ (gP : Int) ∣ a := fun h => by
  have := Int.emod_eq_zero_of_dvd h
  rw [Int.emod_eq_of_lt (Int.le_of_lt h0) h1] at this
  omega
/-- a factor that is a member is cancelled -/
theorem cancel {r : Int} (hr : memG gP gQ r) (u v : Int) (e : r * u % (gP : Int) = r * v % (gP : Int)) : u % (gP : Int) = v % (gP : Int) := by
  have hd : (gP : Int) ∣ r * (u - v) := by
    refine Int.dvd_of_emod_eq_zero ?_
    rw [Int.mul_sub, Int.sub_emod, e, Int.sub_self, Int.zero_emod]
  rcases grp.prime _ _ hd with h | h
  · exact absurd h (not_dvd hr.1 hr.2.1)
  · exact (Int.emod_emod_of_dvd u (Int.dvd_refl _)).symm.trans (by
      have h2 := Int.emod_eq_zero_of_dvd h
      have h3 : u = v + (u - v) := by omega
      rw [h3, Int.add_emod, h2, Int.add_zero, Int.emod_emod_of_dvd _ (Int.dvd_refl _), Int.emod_emod_of_dvd _ (Int.dvd_refl _)])
/-- the powers of a member other than 1 with exponents less than the order are different -/
theorem pow_lt {a : Int} (ha : memG gP gQ a) (h1 : a ≠ 1) (s t : Nat) (hst : s < t) (ht : t < gQ) : a^s % (gP : Int) ≠ a^t % (gP : Int) := fun e => by
  have hm := grp.pow ha s
  have e2 : a^s % (gP : Int) * 1 % (gP : Int) = a^s % (gP : Int) * a^(t - s) % (gP : Int) := by
    rw [mul_l, mul_l, Int.mul_one, ← Int.pow_add, Nat.add_sub_cancel' (Nat.le_of_lt hst)]; exact e
  have e3 := cancel hm _ _ e2
  exact h1 (pow_one_of ha (t - s) (by omega) (by omega) (e3.symm.trans (by decide)))
theorem pow_inj {a : Int} (ha : memG gP gQ a) (h1 : a ≠ 1) (s t : Nat) (hs : s < gQ) (ht : t < gQ) (e : a^s % (gP : Int) = a^t % (gP : Int)) : s = t := by
  rcases Nat.lt_trichotomy s t with h | h | h
  · exact absurd e (pow_lt ha h1 s t h ht)
  · exact h
  · exact absurd e.symm (pow_lt ha h1 t s h hs)
theorem mem_four : memG gP gQ 4 := by
  have h := grp.square 2 (by decide) (by decide)
  exact h
end GM
