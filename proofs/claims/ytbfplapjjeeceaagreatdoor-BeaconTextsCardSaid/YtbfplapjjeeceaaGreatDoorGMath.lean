/-
  Numbers modulo m: residues, sums, products by doublings, powers by squarings, inverses by Euclid's divisions.
-/
namespace GM
/-- the residue of a power -/
theorem pow_emod (a m : Int) : ∀ n : Nat, (a % m)^n % m = a^n % m
  | 0 => by simp
  | n+1 => by
    rw [Int.pow_succ, Int.pow_succ, Int.mul_emod, pow_emod a m n, Int.emod_emod_of_dvd _ (Int.dvd_refl m), ← Int.mul_emod]
theorem mul_l (a b m : Int) : (a % m) * b % m = a * b % m := by rw [Int.mul_emod, Int.emod_emod_of_dvd _ (Int.dvd_refl m), ← Int.mul_emod]
theorem mul_r (a b m : Int) : a * (b % m) % m = a * b % m := by rw [Int.mul_comm, mul_l, Int.mul_comm]
theorem add_l (a b m : Int) : (a % m + b) % m = (a + b) % m := by rw [Int.add_emod, Int.emod_emod_of_dvd _ (Int.dvd_refl m), ← Int.add_emod]
theorem add_r (a b m : Int) : (a + b % m) % m = (a + b) % m := by rw [Int.add_comm, add_l, Int.add_comm]
theorem sub_l (a b m : Int) : (a % m - b) % m = (a - b) % m := by rw [Int.sub_emod, Int.emod_emod_of_dvd _ (Int.dvd_refl m), ← Int.sub_emod]
theorem sub_r (a b m : Int) : (a - b % m) % m = (a - b) % m := by rw [Int.sub_emod, Int.emod_emod_of_dvd _ (Int.dvd_refl m), ← Int.sub_emod]
/-- Go's remainder, mended -/
theorem residue_eq (a m : Int) (hm : 0 < m) : (if Int.tmod a m < 0 then Int.tmod a m + m else Int.tmod a m) = a % m := by
  have h := Int.tmod_eq_emod (a := a) (b := m)
  have h1 := Int.emod_nonneg a (Int.ne_of_gt hm)
  have h2 := Int.emod_lt_of_pos a hm
  have h3 : (m.natAbs : Int) = m := Int.natAbs_of_nonneg (Int.le_of_lt hm)
  split at h <;> split <;> omega
theorem sum_lo (x y m : Int) (hx : 0 ≤ x) (hy : 0 ≤ y) (h : x - m + y < 0) : x - m + y + m = (x + y) % m := by
  rw [Int.emod_eq_of_lt (by omega) (by omega)]; omega
theorem sum_hi (x y m : Int) (hxm : x < m) (hym : y < m) (h : ¬ x - m + y < 0) : x - m + y = (x + y) % m := by
  have : (x + y) % m = (x + y - m) % m := (Int.sub_emod_right (x + y) m).symm
  rw [this, Int.emod_eq_of_lt (by omega) (by omega)]; omega
theorem res_lo (a m : Int) (hm : 0 < m) (h : Int.tmod a m < 0) : Int.tmod a m + m = a % m := by rw [← residue_eq a m hm, if_pos h]
theorem res_hi (a m : Int) (hm : 0 < m) (h : ¬ Int.tmod a m < 0) : Int.tmod a m = a % m := by rw [← residue_eq a m hm, if_neg h]
/-- the inverse's spec -/
def IsInv (a m i : Int) (ok : Bool) : Prop :=
  (ok = true ∧ 2 ≤ m ∧ 0 ≤ i ∧ i < m ∧ a * i % m = 1) ∨ (ok = false ∧ i = 0 ∧ (m < 2 ∨ ∀ j : Int, a * j % m ≠ 1))
theorem IsInv.unique {a m i j : Int} {ok is : Bool} (h : IsInv a m i ok) (k : IsInv a m j is) : i = j ∧ ok = is := by
  rcases h with ⟨rfl, h2, h3, h4, h5⟩ | ⟨rfl, rfl, h3⟩
  · rcases k with ⟨rfl, k2, k3, k4, k5⟩ | ⟨rfl, rfl, k3⟩
    · refine ⟨?_, rfl⟩
      have e1 : j = i := by
        have a1 : (a * i) * j % m = j := by rw [← mul_l, h5, Int.one_mul, Int.emod_eq_of_lt k3 k4]
        have a2 : (a * j) * i % m = i := by rw [← mul_l, k5, Int.one_mul, Int.emod_eq_of_lt h3 h4]
        rw [show (a * i) * j = (a * j) * i by rw [Int.mul_assoc, Int.mul_comm i j, ← Int.mul_assoc]] at a1
        rw [← a1, a2]
      exact e1.symm
    · rcases k3 with k3 | k3
      · omega
      · exact absurd h5 (k3 i)
  · rcases k with ⟨rfl, k2, k3, k4, k5⟩ | ⟨rfl, rfl, k3⟩
    · rcases h3 with h3 | h3
      · omega
      · exact absurd k5 (h3 j)
    · exact ⟨rfl, rfl⟩
/-- what Euclid's divisions keep: (r, s) the rests, f and g their factors -/
structure EI (a m r s f g : Int) : Prop where
  r1 : 1 ≤ r
  rm : r ≤ m
  s0 : 0 ≤ s
  sm : s < m
  cf : ∃ k, r = a * f + m * k
  cg : ∃ k, s = a * g + m * k
  dv : ∀ d : Int, d ∣ r → d ∣ s → d ∣ m ∧ d ∣ a
  fb : -m ≤ f ∧ f ≤ m
  gb : -m ≤ g ∧ g ≤ m
  sg : (0 ≤ g ∧ f ≤ 0 ∧ r * g - s * f = m) ∨ (g ≤ 0 ∧ 0 ≤ f ∧ s * f - r * g = m)
theorem EI.start (a m : Int) (hm : 2 ≤ m) (h0 : 0 ≤ a) (h1 : a < m) : EI a m m a 0 1 :=
  ⟨by omega, by omega, h0, h1, ⟨1, by omega⟩, ⟨0, by omega⟩, fun d x y => ⟨x, y⟩, by omega, by omega, .inl ⟨by omega, by omega, by omega⟩⟩
theorem EI.sgn {a m r s f g : Int} (h : EI a m r s f g) (hs : 0 < s) :
    (0 ≤ f - r / s * g ∧ g ≤ 0 ∧ s * (f - r / s * g) - (r - r / s * s) * g = m) ∨ (f - r / s * g ≤ 0 ∧ 0 ≤ g ∧ (r - r / s * s) * g - s * (f - r / s * g) = m) := by
  have hq : 0 ≤ r / s := Int.ediv_nonneg (by have := h.r1; omega) (Int.le_of_lt hs)
  generalize r / s = q at *
  rcases h.sg with ⟨g0, f0, e⟩ | ⟨g0, f0, e⟩
  · right
    refine ⟨?_, g0, ?_⟩
    · have := Int.mul_nonneg hq g0; omega
    · rw [← e]; grind
  · left
    refine ⟨?_, g0, ?_⟩
    · have := Int.mul_nonneg hq (show 0 ≤ -g by omega); rw [Int.mul_neg] at this; omega
    · rw [← e]; grind
/-- no product of the round leaves the numbers from -m to m -/
theorem EI.prods {a m r s f g : Int} (h : EI a m r s f g) (hs : 0 < s) :
    0 ≤ r / s ∧ r / s ≤ m ∧ 0 ≤ r / s * s ∧ r / s * s ≤ m ∧ -m ≤ r / s * g ∧ r / s * g ≤ m ∧ -m ≤ f - r / s * g ∧ f - r / s * g ≤ m ∧ 0 ≤ r - r / s * s ∧ r - r / s * s < s := by
  have hd := Int.mul_ediv_add_emod r s
  have h1 := Int.emod_nonneg r (Int.ne_of_gt hs)
  have h2 := Int.emod_lt_of_pos r hs
  have hq : 0 ≤ r / s := Int.ediv_nonneg (by have := h.r1; omega) (Int.le_of_lt hs)
  have e : r - r / s * s = r % s := by rw [Int.mul_comm]; omega
  have b0 := Int.mul_nonneg hq (Int.le_of_lt hs)
  have b1 : r / s * 1 ≤ r / s * s := Int.mul_le_mul_of_nonneg_left hs hq
  have rm := h.rm
  -- the next factor's bound
  have nb : -m ≤ f - r / s * g ∧ f - r / s * g ≤ m := by
    have key : ∀ x y p q : Int, 0 ≤ x → 0 ≤ y → 0 ≤ p → 1 ≤ q → p * x + q * y = m → y ≤ m := by
      intro x y p q hx hy hp hq e
      have e2 : y ≤ q * y := by have := Int.mul_le_mul_of_nonneg_right hq hy; omega
      have e3 : 0 ≤ p * x := Int.mul_nonneg hp hx
      omega
    rcases h.sgn hs with ⟨g0, f0, e'⟩ | ⟨g0, f0, e'⟩
    · have := key (-g) (f - r / s * g) (r - r / s * s) s (by omega) g0 (by omega) hs (by rw [Int.mul_neg]; omega)
      omega
    · have := key g (-(f - r / s * g)) (r - r / s * s) s f0 (by omega) (by omega) hs (by rw [Int.mul_neg]; omega)
      omega
  have qg : -m ≤ r / s * g ∧ r / s * g ≤ m := by
    have key : ∀ x : Int, 0 ≤ x → r * x ≤ m → r / s * x ≤ m := by
      intro x hx e
      have a1 : r / s ≤ r := by omega
      have := Int.mul_le_mul_of_nonneg_right a1 hx
      omega
    rcases h.sg with ⟨g0, f0, e'⟩ | ⟨g0, f0, e'⟩
    · have := key g g0 (by have := Int.mul_nonneg h.s0 (show 0 ≤ -f by omega); rw [Int.mul_neg] at this; omega)
      have := Int.mul_nonneg hq g0
      omega
    · have := key (-g) (by omega) (by have := Int.mul_nonneg h.s0 f0; rw [Int.mul_neg]; omega)
      have := Int.mul_nonneg hq (show 0 ≤ -g by omega)
      rw [Int.mul_neg] at *
      omega
  omega
theorem EI.step {a m r s f g : Int} (h : EI a m r s f g) (hs : 0 < s) : EI a m s (r - r / s * s) g (f - r / s * g) := by
  have hd := Int.mul_ediv_add_emod r s
  have h1 := Int.emod_nonneg r (Int.ne_of_gt hs)
  have h2 := Int.emod_lt_of_pos r hs
  have e : r - r / s * s = r % s := by rw [Int.mul_comm]; omega
  obtain ⟨k, hk⟩ := h.cf
  obtain ⟨l, hl⟩ := h.cg
  refine ⟨by omega, Int.le_of_lt h.sm, by omega, by have := h.sm; omega, ⟨l, hl⟩, ⟨k - r / s * l, ?_⟩, ?_, ?_, ?_, ?_⟩
  · generalize r / s = q at *
    rw [show r - q * s = (a * f + m * k) - q * (a * g + m * l) by rw [← hk, ← hl]]
    grind
  · intro d x y
    refine h.dv d ?_ x
    have := Int.dvd_add y (Int.dvd_trans x (Int.dvd_mul_left (r / s) s))
    rw [show r - r / s * s + r / s * s = r by omega] at this
    exact this
  · exact h.gb
  · have := h.prods hs; exact ⟨this.2.2.2.2.2.2.1, this.2.2.2.2.2.2.2.1⟩
  · exact h.sgn hs
theorem EI.stop {a m r f g : Int} (h : EI a m r 0 f g) (hm : 2 ≤ m) : (r = 1 → IsInv a m (f % m) true) ∧ (r ≠ 1 → IsInv a m 0 false) := by
  constructor
  · rintro rfl
    obtain ⟨k, hk⟩ := h.cf
    refine .inl ⟨rfl, hm, Int.emod_nonneg _ (by omega), Int.emod_lt_of_pos _ (by omega), ?_⟩
    rw [mul_r, show a * f = 1 + m * (-k) by rw [Int.mul_neg]; omega, Int.add_mul_emod_self_left, Int.emod_eq_of_lt (by omega) (by omega)]
  · intro hr
    refine .inr ⟨rfl, rfl, .inr fun j hj => hr ?_⟩
    obtain ⟨d1, d2⟩ := h.dv r (Int.dvd_refl r) (Int.dvd_zero r)
    have e := Int.mul_ediv_add_emod (a * j) m
    rw [hj] at e
    have d3 : r ∣ a * j - m * (a * j / m) := Int.dvd_sub (Int.dvd_trans d2 (Int.dvd_mul_right a j)) (Int.dvd_trans d1 (Int.dvd_mul_right m _))
    rw [show a * j - m * (a * j / m) = 1 by omega] at d3
    have := Int.le_of_dvd (by omega) d3
    have := h.r1
    omega
/-- an argument and its residue have the same inverses -/
theorem IsInv.res {a m i : Int} {ok : Bool} (h : IsInv (a % m) m i ok) : IsInv a m i ok := by
  rcases h with ⟨h1, h2, h3, h4, h5⟩ | ⟨h1, h2, h3⟩
  · exact .inl ⟨h1, h2, h3, h4, by rw [← mul_l]; exact h5⟩
  · exact .inr ⟨h1, h2, h3.imp id fun h j => by rw [← mul_l]; exact h j⟩
def ga (a b m : Int) : Int := if m < 1 then 0 else (a + b) % m
def gs (a b m : Int) : Int := if m < 1 then 0 else (a - b) % m
def gm (a b m : Int) : Int := if m < 1 then 0 else a * b % m
def gp (a n m : Int) : Int := if m < 1 ∨ n < 0 then 0 else a ^ n.toNat % m
theorem rng {f m : Int} (h : ¬ m < 1) : 0 ≤ f % m ∧ f % m < m := ⟨Int.emod_nonneg _ (by omega), Int.emod_lt_of_pos _ (by omega)⟩
theorem ga_rng (a b m : Int) : 0 ≤ ga a b m ∧ (m < 1 → ga a b m = 0) ∧ (1 ≤ m → ga a b m < m) := by
  unfold ga; split
  · omega
  · have := rng (f := a + b) (m := m) (by omega); omega
theorem gm_rng (a b m : Int) : 0 ≤ gm a b m ∧ (m < 1 → gm a b m = 0) ∧ (1 ≤ m → gm a b m < m) := by
  unfold gm; split
  · omega
  · have := rng (f := a * b) (m := m) (by omega); omega
theorem gp_rng (a n m : Int) : 0 ≤ gp a n m ∧ (m < 1 → gp a n m = 0) ∧ (1 ≤ m → gp a n m < m) := by
  unfold gp; split
  · omega
  · have := rng (f := a ^ n.toNat) (m := m) (by omega); omega
theorem IsInv.one {a m i : Int} (h : IsInv a m i true) : gm a i m = 1 ∧ 1 ≤ i ∧ i < m ∧ 2 ≤ m := by
  rcases h with ⟨_, h2, h3, h4, h5⟩ | ⟨h1, _⟩
  · refine ⟨by unfold gm; rw [if_neg (by omega)]; exact h5, ?_, h4, h2⟩
    by_cases e : i = 0
    · subst e; simp at h5
    · omega
  · cases h1
theorem IsInv.none {a m i : Int} (h : IsInv a m i false) : i = 0 := by
  rcases h with ⟨h1, _⟩ | ⟨_, h2, _⟩
  · cases h1
  · exact h2
/-- where every residue but 0 has a power that is 1, each of them has an inverse -/
theorem IsInv.prime {a m i : Int} {ok : Bool} {k : Nat} (hm : 2 ≤ m) (hf : a % m ≠ 0 → a^(k+1) % m = 1) (h : IsInv a m i ok) : ok = !decide (ga a 0 m = 0) := by
  have e : ga a 0 m = a % m := by unfold ga; rw [if_neg (by omega), Int.add_zero]
  rw [e]
  rcases h with ⟨rfl, h2, h3, h4, h5⟩ | ⟨rfl, h2, h3⟩
  · have : a % m ≠ 0 := fun e => by
      rw [← mul_l, e, Int.zero_mul] at h5; simp at h5
    simp [this]
  · by_cases e : a % m = 0
    · simp [e]
    · exfalso
      rcases h3 with h3 | h3
      · omega
      · refine h3 (a^k) ?_
        rw [← hf e, Int.pow_succ, Int.mul_comm]
/-- one round of a power by squarings -/
theorem pow_dig (a : Int) (n i : Nat) : a^(n % 2^(i+1)) = a^(n % 2^i) * (if n / 2^i % 2 = 1 then a^(2^i) else 1) := by
  rw [Nat.pow_succ, Nat.mod_mul, Int.pow_add]
  rcases Nat.mod_two_eq_zero_or_one (n / 2^i) with h | h <;> simp [h]
theorem pow_dbl (a : Int) (i : Nat) : a^(2^(i+1)) = a^(2^i) * a^(2^i) := by
  rw [← Int.pow_add, Nat.pow_succ, Nat.mul_two]
theorem power_step (a m : Int) (n i : Nat) (h : n / 2^i % 2 = 1) : (a^(n % 2^i) % m) * (a^(2^i) % m) % m = a^(n % 2^(i+1)) % m := by
  rw [mul_l, mul_r, pow_dig, if_pos h]
theorem power_stay (a m : Int) (n i : Nat) (h : ¬ n / 2^i % 2 = 1) : a^(n % 2^i) % m = a^(n % 2^(i+1)) % m := by
  rw [pow_dig, if_neg h, Int.mul_one]
theorem square_step (a m : Int) (i : Nat) : (a^(2^i) % m) * (a^(2^i) % m) % m = a^(2^(i+1)) % m := by
  rw [mul_l, mul_r, pow_dbl]
/-- one round of a product by doublings -/
theorem dig_cast (y i : Nat) : y % 2^(i+1) = y % 2^i + 2^i * (y / 2^i % 2) := by rw [Nat.pow_succ, Nat.mod_mul]
theorem total_step (x m : Int) (y i : Nat) (h : y / 2^i % 2 = 1) : ((x * ((y % 2^i : Nat) : Int)) % m + (x * ((2^i : Nat) : Int)) % m) % m = (x * ((y % 2^(i+1) : Nat) : Int)) % m := by
  rw [add_l, add_r, ← Int.mul_add, dig_cast, h, Nat.mul_one, Int.natCast_add]
theorem total_stay (x m : Int) (y i : Nat) (h : ¬ y / 2^i % 2 = 1) : ((x * ((y % 2^i : Nat) : Int)) % m + 0) % m = (x * ((y % 2^(i+1) : Nat) : Int)) % m := by
  have h0 : y / 2^i % 2 = 0 := by have := Nat.mod_two_eq_zero_or_one (y / 2^i); omega
  rw [Int.add_zero, Int.emod_emod_of_dvd _ (Int.dvd_refl m), dig_cast, h0, Nat.mul_zero, Nat.add_zero]
theorem double_step (x m : Int) (i : Nat) : ((x * ((2^i : Nat) : Int)) % m + (x * ((2^i : Nat) : Int)) % m) % m = (x * ((2^(i+1) : Nat) : Int)) % m := by
  rw [add_l, add_r, ← Int.mul_add, Nat.pow_succ, Nat.mul_two, Int.natCast_add]
end GM
