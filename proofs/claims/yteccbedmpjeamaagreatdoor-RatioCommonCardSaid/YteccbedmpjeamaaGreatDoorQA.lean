/-
  Rational numbers in lowest terms: what sums, products and inverses are, as numerators and denominators.
  Rational numbers by a sign and two natural numbers.
  The order of rational numbers.
  Rational numbers as values, and the calls of package nat at their parts; the walks of ratio.join and ratio.minus.
  Numbers by any three parts: which of them are right, and as which number they count.
-/
import Derived.Test.YteccbedmpjeamaaGreatDoorBase
import Derived.Test.YteccbedmpjeamaaGreatDoorRatA
import Derived.Test.YteccbedmpjeamaaGreatDoorRefCmp
namespace QM
theorem mul_den (a b : Rat) : (a * b).den = (a.den / b.num.natAbs.gcd a.den) * (b.den / a.num.natAbs.gcd b.den) := by
  show (Rat.mul a b).den = _
  unfold Rat.mul
  simp [Nat.divExact_eq_div]
theorem mul_num (a b : Rat) : (a * b).num.natAbs = (a.num.natAbs / a.num.natAbs.gcd b.den) * (b.num.natAbs / b.num.natAbs.gcd a.den) := by
  show (Rat.mul a b).num.natAbs = _
  unfold Rat.mul
  simp only [Int.divExact_eq_ediv, Int.natAbs_mul]
  rw [Int.natAbs_ediv_of_dvd, Int.natAbs_ediv_of_dvd]
  · rfl
  · exact Int.ofNat_dvd_left.2 (Nat.gcd_dvd_left _ _)
  · exact Int.ofNat_dvd_left.2 (Nat.gcd_dvd_left _ _)
theorem num_zero {a : Rat} : a.num = 0 ↔ a = 0 := Rat.num_eq_zero
theorem sgn_div (n : Int) (g : Nat) (hg : 0 < g) (hd : (g : Int) ∣ n) : (n / g < 0 ↔ n < 0) ∧ (n / g = 0 ↔ n = 0) := by
  obtain ⟨c, rfl⟩ := hd
  rw [Int.mul_ediv_cancel_left _ (by omega)]
  constructor
  · constructor
    · intro h; exact Int.mul_neg_of_pos_of_neg (by omega) h
    · intro h
      rcases Int.lt_or_le c 0 with h2 | h2
      · exact h2
      · have := Int.mul_nonneg (show (0:Int) ≤ g by omega) h2; omega
  · constructor
    · rintro rfl; simp
    · intro h
      rcases Int.mul_eq_zero.1 h with h | h
      · omega
      · exact h
theorem sgn_mul (x y : Int) : decide (x * y < 0) = ((decide (x < 0) != decide (y < 0)) && decide (x * y ≠ 0)) := by
  rcases Int.lt_trichotomy x 0 with hx | hx | hx <;> rcases Int.lt_trichotomy y 0 with hy | hy | hy
  · have := Int.mul_pos_of_neg_of_neg hx hy; simp [hx, hy]; omega
  · subst hy; simp
  · have := Int.mul_neg_of_neg_of_pos hx hy; simp [hx, this, show ¬ y < 0 by omega, show x * y ≠ 0 by omega]
  · subst hx; simp
  · subst hx; simp
  · subst hx; simp
  · have := Int.mul_neg_of_pos_of_neg hx hy; simp [hy, this, show ¬ x < 0 by omega, show x * y ≠ 0 by omega]
  · subst hy; simp
  · have := Int.mul_pos hx hy; simp [show ¬ x < 0 by omega, show ¬ y < 0 by omega]; omega
theorem mul_neg (a b : Rat) : decide ((a * b).num < 0) = ((decide (a.num < 0) != decide (b.num < 0)) && decide ((a * b).num.natAbs ≠ 0)) := by
  have e : (a * b).num = a.num / (a.num.natAbs.gcd b.den : Nat) * (b.num / (b.num.natAbs.gcd a.den : Nat)) := by
    show (Rat.mul a b).num = _
    unfold Rat.mul
    simp only [Int.divExact_eq_ediv]
  have h1 := sgn_div a.num (a.num.natAbs.gcd b.den) (Nat.gcd_pos_of_pos_right _ b.den_pos) (Int.ofNat_dvd_left.2 (Nat.gcd_dvd_left _ _))
  have h2 := sgn_div b.num (b.num.natAbs.gcd a.den) (Nat.gcd_pos_of_pos_right _ a.den_pos) (Int.ofNat_dvd_left.2 (Nat.gcd_dvd_left _ _))
  rw [e, sgn_mul]
  generalize a.num / (a.num.natAbs.gcd b.den : Nat) = x at *
  generalize b.num / (b.num.natAbs.gcd a.den : Nat) = y at *
  rw [show decide (a.num < 0) = decide (x < 0) from decide_eq_decide.2 h1.1.symm, show decide (b.num < 0) = decide (y < 0) from decide_eq_decide.2 h2.1.symm]
  congr 1
  exact decide_eq_decide.2 (by rw [Ne, Ne, Int.natAbs_eq_zero])
theorem gcd_num_pos (a b : Rat) : 0 < a.num.natAbs.gcd b.den := Nat.gcd_pos_of_pos_right _ b.den_pos
/-- the sum's numerator before its last division, and the rest -/
def sn (a b : Rat) : Int := a.num * (b.den / a.den.gcd b.den : Nat) + b.num * (a.den / a.den.gcd b.den : Nat)
theorem add_den (a b : Rat) : (a + b).den = (a.den / a.den.gcd b.den) * (b.den / (sn a b).natAbs.gcd (a.den.gcd b.den)) := by
  show (Rat.add a b).den = _
  unfold Rat.add sn
  simp only
  split
  · rename_i h
    show a.den * b.den = _
    simp [h]
  · rw [Rat.maybeNormalize_eq]
    show a.den / a.den.gcd b.den * b.den / _ = _
    rw [Nat.mul_div_assoc]
    exact Nat.dvd_trans (Nat.gcd_dvd_right _ _) (Nat.gcd_dvd_right _ _)
theorem add_num (a b : Rat) : (a + b).num = sn a b / ((sn a b).natAbs.gcd (a.den.gcd b.den) : Nat) := by
  show (Rat.add a b).num = _
  unfold Rat.add sn
  simp only
  split
  · rename_i h
    show a.num * b.den + b.num * a.den = _
    simp [h]
  · rw [Rat.maybeNormalize_eq]
    simp only [Int.divExact_eq_ediv]
/-- a number with a sign -/
def sg (g : Bool) (n : Nat) : Int := if g then -(n : Int) else n
theorem sg_abs (n : Int) : sg (decide (n < 0)) n.natAbs = n := by
  unfold sg
  by_cases h : n < 0
  · rw [if_pos (by simpa using h)]; omega
  · rw [if_neg (by simpa using h)]; omega
theorem sg_natAbs (g : Bool) (n : Nat) : (sg g n).natAbs = n := by cases g <;> simp [sg]
theorem sg_neg (g : Bool) (n : Nat) : decide (sg g n < 0) = (g && decide (n ≠ 0)) := by
  cases g
  · simp [sg]
  · show decide (-(n : Int) < 0) = (true && decide (n ≠ 0))
    rw [Bool.true_and]
    exact decide_eq_decide.2 (by omega)
/-- a sum of two numbers with signs -/
def jn (gx : Bool) (x : Nat) (gy : Bool) (y : Nat) : Bool × Nat :=
  if gx = gy then (gx, x + y) else if y ≤ x then (gx, x - y) else (gy, y - x)
theorem jn_sum (gx : Bool) (x : Nat) (gy : Bool) (y : Nat) : sg (jn gx x gy y).1 (jn gx x gy y).2 = sg gx x + sg gy y := by
  by_cases h : gx = gy
  · subst h
    simp only [jn, if_true]
    cases gx <;> simp [sg] <;> omega
  · by_cases h2 : y ≤ x
    · simp only [jn, if_neg h, if_pos h2]
      cases gx <;> cases gy <;> simp [sg] at h ⊢ <;> omega
    · simp only [jn, if_neg h, if_neg h2]
      cases gx <;> cases gy <;> simp [sg] at h ⊢ <;> omega
theorem sn_jn (a b : Rat) : sg (jn (decide (a.num < 0)) (a.num.natAbs * (b.den / a.den.gcd b.den)) (decide (b.num < 0)) (b.num.natAbs * (a.den / a.den.gcd b.den))).1
    (jn (decide (a.num < 0)) (a.num.natAbs * (b.den / a.den.gcd b.den)) (decide (b.num < 0)) (b.num.natAbs * (a.den / a.den.gcd b.den))).2 = sn a b := by
  rw [jn_sum]
  have mulsg : ∀ (n : Int) (k : Nat), sg (decide (n < 0)) (n.natAbs * k) = n * k := by
    intro n k
    have h := sg_abs n
    unfold sg at h ⊢
    split
    · rename_i h2; rw [if_pos h2] at h; rw [← h]; simp [Int.neg_mul]
    · rename_i h2; rw [if_neg h2] at h; rw [← h]; simp
  rw [mulsg, mulsg]; rfl
theorem add_abs (a b : Rat) (g : Bool) (n : Nat) (h : sg g n = sn a b) : (a + b).num.natAbs = n / n.gcd (a.den.gcd b.den) := by
  have hn : (sn a b).natAbs = n := by rw [← h, sg_natAbs]
  rw [add_num, Int.natAbs_ediv_of_dvd (Int.ofNat_dvd_left.2 (Nat.gcd_dvd_left _ _)), hn]; rfl
theorem add_den' (a b : Rat) (g : Bool) (n : Nat) (h : sg g n = sn a b) : (a + b).den = (a.den / a.den.gcd b.den) * (b.den / n.gcd (a.den.gcd b.den)) := by
  have hn : (sn a b).natAbs = n := by rw [← h, sg_natAbs]
  rw [add_den, hn]
theorem add_neg (a b : Rat) (g : Bool) (n : Nat) (h : sg g n = sn a b) : decide ((a + b).num < 0) = (g && decide (n / n.gcd (a.den.gcd b.den) ≠ 0)) := by
  have hn : (sn a b).natAbs = n := by rw [← h, sg_natAbs]
  have hp : 0 < n.gcd (a.den.gcd b.den) := Nat.gcd_pos_of_pos_right _ (Nat.gcd_pos_of_pos_right _ b.den_pos)
  have h1 := sgn_div (sn a b) (n.gcd (a.den.gcd b.den)) hp (Int.ofNat_dvd_left.2 (by rw [hn]; exact Nat.gcd_dvd_left _ _))
  rw [add_num, hn, show decide (sn a b / (n.gcd (a.den.gcd b.den) : Nat) < 0) = decide (sn a b < 0) from decide_eq_decide.2 h1.1, ← h, sg_neg]
  congr 1
  refine decide_eq_decide.2 (not_congr ?_)
  constructor
  · rintro rfl; simp
  · intro h0
    have := Nat.div_mul_cancel (Nat.gcd_dvd_left n (a.den.gcd b.den))
    rw [h0] at this; omega
end QM
namespace QM
/-- the number n / d, or -n / d -/
def mk (g : Bool) (n d : Nat) : Rat := mkRat (sg g n) d
theorem mk_den (g : Bool) (n d : Nat) (hd : d ≠ 0) : (mk g n d).den = d / n.gcd d := by
  unfold mk; rw [Rat.den_mkRat, if_neg hd, sg_natAbs, Nat.gcd_comm]
theorem mk_numv (g : Bool) (n d : Nat) (hd : d ≠ 0) : (mk g n d).num = sg g n / ((n.gcd d : Nat) : Int) := by
  unfold mk; rw [Rat.num_mkRat, if_neg hd, sg_natAbs, Nat.gcd_comm]
theorem mk_num (g : Bool) (n d : Nat) (hd : d ≠ 0) : (mk g n d).num.natAbs = n / n.gcd d := by
  rw [mk_numv g n d hd, Int.natAbs_ediv_of_dvd, sg_natAbs]
  · rfl
  · exact Int.ofNat_dvd_left.2 (by rw [sg_natAbs]; exact Nat.gcd_dvd_left _ _)
theorem mk_neg (g : Bool) (n d : Nat) (hd : d ≠ 0) : decide ((mk g n d).num < 0) = (g && decide (n / n.gcd d ≠ 0)) := by
  have hp : 0 < n.gcd d := Nat.gcd_pos_of_pos_right _ (by omega)
  have h1 := sgn_div (sg g n) (n.gcd d) hp (Int.ofNat_dvd_left.2 (by rw [sg_natAbs]; exact Nat.gcd_dvd_left _ _))
  rw [mk_numv g n d hd, show decide (sg g n / ((n.gcd d : Nat) : Int) < 0) = decide (sg g n < 0) from decide_eq_decide.2 h1.1, sg_neg]
  congr 1
  refine decide_eq_decide.2 (not_congr ?_)
  constructor
  · rintro rfl; simp
  · intro h0
    have := Nat.div_mul_cancel (Nat.gcd_dvd_left n d)
    rw [h0] at this; omega
theorem mk_self (a : Rat) : mk (decide (a.num < 0)) a.num.natAbs a.den = a := by
  unfold mk; rw [sg_abs, Rat.mkRat_self]
theorem mk_zero (g : Bool) (d : Nat) : mk g 0 d = 0 := by
  unfold mk; rw [show sg g 0 = 0 by cases g <;> rfl]; exact Rat.zero_mkRat d
theorem mk_sum (a b : Rat) (g : Bool) (n : Nat) (h : sg g n = a.num * b.den + b.num * a.den) : mk g n (a.den * b.den) = a + b := by
  unfold mk
  rw [h, ← Rat.mkRat_add_mkRat _ _ a.den_nz b.den_nz, Rat.mkRat_self, Rat.mkRat_self]
theorem sg_mul (g : Bool) (n k : Nat) : sg g (n * k) = sg g n * k := by
  cases g
  · simp [sg]
  · simp [sg, Int.neg_mul]
theorem mk_jn (a b : Rat) : mk (jn (decide (a.num < 0)) (a.num.natAbs * b.den) (decide (b.num < 0)) (b.num.natAbs * a.den)).1
    (jn (decide (a.num < 0)) (a.num.natAbs * b.den) (decide (b.num < 0)) (b.num.natAbs * a.den)).2 (a.den * b.den) = a + b := by
  refine mk_sum a b _ _ ?_
  rw [jn_sum, sg_mul, sg_mul, sg_abs, sg_abs]
theorem mk_prod (a b : Rat) : mk (decide (a.num < 0) != decide (b.num < 0)) (a.num.natAbs * b.num.natAbs) (a.den * b.den) = a * b := by
  unfold mk
  have h : sg (decide (a.num < 0) != decide (b.num < 0)) (a.num.natAbs * b.num.natAbs) = a.num * b.num := by
    have ha := sg_abs a.num
    have hb := sg_abs b.num
    generalize decide (a.num < 0) = x at *
    generalize decide (b.num < 0) = y at *
    generalize a.num.natAbs = n at *
    generalize b.num.natAbs = m at *
    rw [← ha, ← hb]
    cases x <;> cases y <;> simp [sg, Int.neg_mul, Int.mul_neg]
  rw [h, ← Rat.mkRat_mul_mkRat, Rat.mkRat_self, Rat.mkRat_self]
theorem inv_numAbs (b : Rat) (hb : b ≠ 0) : (b⁻¹).num.natAbs = b.den := by
  rw [Rat.num_inv, Int.natAbs_mul, Int.natAbs_sign_of_ne_zero, Nat.one_mul, Int.natAbs_natCast]
  exact fun h => hb (Rat.num_eq_zero.1 h)
theorem inv_denN (b : Rat) (hb : b ≠ 0) : (b⁻¹).den = b.num.natAbs := by
  rw [Rat.den_inv, if_neg (fun h => hb (Rat.num_eq_zero.1 h))]
theorem inv_neg (b : Rat) (hb : b ≠ 0) : decide ((b⁻¹).num < 0) = decide (b.num < 0) := by
  refine decide_eq_decide.2 ?_
  rw [Rat.num_inv]
  have h0 : b.num ≠ 0 := fun h => hb (Rat.num_eq_zero.1 h)
  have hd := b.den_pos
  rcases Int.lt_trichotomy b.num 0 with h | h | h
  · rw [Int.sign_eq_neg_one_of_neg h]; omega
  · exact absurd h h0
  · rw [Int.sign_eq_one_of_pos h]; omega
theorem mk_quo (a b : Rat) (hb : b ≠ 0) : mk (decide (a.num < 0) != decide (b.num < 0)) (a.num.natAbs * b.den) (a.den * b.num.natAbs) = a / b := by
  have h := mk_prod a b⁻¹
  rw [inv_numAbs b hb, inv_denN b hb, inv_neg b hb] at h
  rw [h, Rat.div_def]
/-- the order of two numbers: -1, 0, 1 -/
def cq (a b : Rat) : Int := if a < b then -1 else if a = b then 0 else 1
def sq (a : Rat) : Int := if a.num < 0 then -1 else if a.num = 0 then 0 else 1
end QM
namespace Go.Proofs.YteccbedmpjeamaaGreatDoor
open NM QM
theorem cq_self (a : Rat) : cq a a = 0 := by
  unfold cq; rw [if_neg (by rw [Rat.lt_iff]; omega), if_pos rfl]
theorem cq_np (a b : Rat) (ha : a.num < 0) (hb : ¬ b.num < 0) : cq a b = -1 := by
  have h1 := Int.mul_neg_of_neg_of_pos ha (show (0:Int) < b.den by have := b.den_pos; omega)
  have h2 := Int.mul_nonneg (show 0 ≤ b.num by omega) (show (0:Int) ≤ a.den by omega)
  unfold cq; rw [if_pos (by rw [Rat.lt_iff]; omega)]
theorem cq_pn (a b : Rat) (ha : ¬ a.num < 0) (hb : b.num < 0) : cq a b = 1 := by
  have h1 := Int.mul_neg_of_neg_of_pos hb (show (0:Int) < a.den by have := a.den_pos; omega)
  have h2 := Int.mul_nonneg (show 0 ≤ a.num by omega) (show (0:Int) ≤ b.den by omega)
  unfold cq; rw [if_neg (by rw [Rat.lt_iff]; omega), if_neg (by rintro rfl; exact ha hb)]
theorem eq_cross (a b : Rat) : a = b ↔ a.num * b.den = b.num * a.den := by
  constructor
  · rintro rfl; rfl
  · intro h
    exact Rat.le_antisymm (by rw [Rat.le_iff]; omega) (by rw [Rat.le_iff]; omega)
theorem cq_pp (a b : Rat) (ha : ¬ a.num < 0) (hb : ¬ b.num < 0) : cq a b = cmpv (a.num.natAbs * b.den) (b.num.natAbs * a.den) := by
  have e1 : a.num * b.den = ((a.num.natAbs * b.den : Nat) : Int) := by rw [Int.natCast_mul]; congr 1; omega
  have e2 : b.num * a.den = ((b.num.natAbs * a.den : Nat) : Int) := by rw [Int.natCast_mul]; congr 1; omega
  unfold cq cmpv
  simp only [Rat.lt_iff, eq_cross]
  rw [e1, e2]
  generalize a.num.natAbs * b.den = x
  generalize b.num.natAbs * a.den = y
  split <;> split <;> first | rfl | omega | skip
  all_goals split <;> first | rfl | omega
theorem cq_nn (a b : Rat) (ha : a.num < 0) (hb : b.num < 0) : cq a b = -cmpv (a.num.natAbs * b.den) (b.num.natAbs * a.den) := by
  have e1 : a.num * b.den = -((a.num.natAbs * b.den : Nat) : Int) := by rw [Int.natCast_mul, ← Int.neg_mul]; congr 1; omega
  have e2 : b.num * a.den = -((b.num.natAbs * a.den : Nat) : Int) := by rw [Int.natCast_mul, ← Int.neg_mul]; congr 1; omega
  unfold cq cmpv
  simp only [Rat.lt_iff, eq_cross]
  rw [e1, e2]
  generalize a.num.natAbs * b.den = x
  generalize b.num.natAbs * a.den = y
  split <;> split <;> first | rfl | omega | skip
  all_goals split <;> first | rfl | omega
theorem sq_cq (a : Rat) : sq a = cq a 0 := by
  unfold sq cq
  simp only [Rat.lt_iff, eq_cross]
  simp
theorem cq_sub (a b : Rat) : sq (a - b) = cq a b := by
  rw [sq_cq]
  unfold cq
  have h1 : a - b < 0 ↔ a < b := by
    rw [Rat.sub_eq_add_neg, show (0 : Rat) = b + -b from (Rat.add_neg_cancel b).symm, Rat.add_lt_add_right]
  have h2 : a - b = 0 ↔ a = b := by
    constructor
    · intro h
      have : a - b + b = 0 + b := by rw [h]
      rwa [Rat.sub_eq_add_neg, Rat.add_assoc, Rat.add_comm (-b), Rat.add_neg_cancel, Rat.add_zero, Rat.zero_add] at this
    · rintro rfl; rw [Rat.sub_eq_add_neg, Rat.add_neg_cancel]
  simp only [h1, h2]
theorem cq_swap (a b : Rat) : cq b a = -cq a b := by
  unfold cq
  by_cases h1 : a < b
  · rw [if_pos h1, if_neg (by rw [Rat.lt_iff] at *; omega), if_neg (by rintro rfl; rw [Rat.lt_iff] at h1; omega)]; rfl
  · by_cases h2 : a = b
    · subst h2; rw [if_neg h1, if_pos rfl]; rfl
    · have : b < a := by rw [eq_cross] at h2; rw [Rat.lt_iff] at *; omega
      rw [if_neg h1, if_neg h2, if_pos this]
theorem cq_zero (a b : Rat) : cq a b = 0 ↔ a = b := by
  unfold cq
  by_cases h1 : a < b
  · rw [if_pos h1]; constructor
    · intro h; omega
    · rintro rfl; rw [Rat.lt_iff] at h1; omega
  · rw [if_neg h1]; split
    · simp [*]
    · simp [*]
theorem cq_add (a b c : Rat) : cq (a + c) (b + c) = cq a b := by
  unfold cq
  have : a + c = b + c ↔ a = b := by
    constructor
    · intro h
      have h2 : a + c + -c = b + c + -c := by rw [h]
      rwa [Rat.add_assoc, Rat.add_assoc, Rat.add_neg_cancel, Rat.add_zero, Rat.add_zero] at h2
    · rintro rfl; rfl
  simp only [Rat.add_lt_add_right, this]
theorem cq_lt {a b : Rat} : cq a b < 0 ↔ a < b := by
  unfold cq; split
  · simp [*]
  · rename_i h; constructor
    · split <;> intro h2 <;> omega
    · intro h2; exact absurd h2 h
theorem cq_mul (a b c : Rat) : cq (a * c) (b * c) = cq a b * sq c := by
  have e0 : cq (a * c) (b * c) = sq ((a - b) * c) := by
    rw [← cq_sub]; congr 1
    rw [Rat.sub_eq_add_neg, Rat.sub_eq_add_neg, Rat.mul_comm (a + -b), Rat.mul_add, Rat.mul_comm c a, Rat.mul_comm c, Rat.neg_mul]
  rw [e0, ← cq_sub a b]
  generalize a - b = x
  have hn := QM.mul_neg x c
  have hz : (x * c).num = 0 ↔ x.num = 0 ∨ c.num = 0 := by
    rw [Rat.num_eq_zero, Rat.num_eq_zero, Rat.num_eq_zero, Rat.mul_eq_zero]
  unfold sq
  by_cases h0 : (x * c).num = 0
  · rw [if_neg (by omega), if_pos h0]
    rcases hz.1 h0 with h | h
    · rw [if_neg (by omega), if_pos h]; simp
    · rw [h]; simp
  · have hx : x.num ≠ 0 := fun h => h0 (hz.2 (.inl h))
    have hc : c.num ≠ 0 := fun h => h0 (hz.2 (.inr h))
    rw [show decide ((x * c).num.natAbs ≠ 0) = true by simp [h0], Bool.and_true] at hn
    rw [if_neg h0, if_neg hx, if_neg hc]
    by_cases h1 : x.num < 0 <;> by_cases h2 : c.num < 0 <;> by_cases h3 : (x * c).num < 0 <;> simp [h1, h2, h3] at hn ⊢ <;> omega
end Go.Proofs.YteccbedmpjeamaaGreatDoor
namespace Go.Proofs.YteccbedmpjeamaaGreatDoor
open Go.RowKit NM QM
/-- a rational number in lowest terms as a value -/
def qcells (a : Rat) : Array Value := #[.bool (decide (a.num < 0)), .string (NB a.num.natAbs), .string (NB a.den)]
def QV (a : Rat) : Value := .agg (qcells a)
theorem QV_RV (a : Rat) (g : Bool) (p q : Nat) (hp : a.num.natAbs = p) (hq : a.den = q) (hg : decide (a.num < 0) = (g && decide (p ≠ 0))) : QV a = RV g p q := by
  unfold QV qcells RV; rw [hg, hp, hq]
/-- numerator and denominator have at most N bytes -/
def SmQ (N : Nat) (a : Rat) : Prop := a.num.natAbs < 256^N ∧ a.den < 256^N
theorem lt_wide {x N M : Nat} (h : x < 256^N) (hNM : N ≤ M) : x < 256^M := Nat.lt_of_lt_of_le h (Nat.pow_le_pow_right (by omega) hNM)
theorem mul_lt {x y N M : Nat} (hx : x < 256^N) (hy : y < 256^M) : x * y < 256^(N + M) := by rw [Nat.pow_add]; exact Nat.mul_lt_mul'' hx hy
theorem add_lt {x y N : Nat} (hx : x < 256^N) (hy : y < 256^N) : x + y < 256^(N + 1) := by rw [Nat.pow_succ]; omega
theorem div_lt {x y N : Nat} (hx : x < 256^N) : x / y < 256^N := Nat.lt_of_le_of_lt (Nat.div_le_self _ _) hx
theorem gcd_lt {x y N : Nat} (hx : x < 256^N) (h0 : 0 < x) : x.gcd y < 256^N := Nat.lt_of_le_of_lt (Nat.gcd_le_left _ h0) hx
theorem gcd_lt_r {x y N : Nat} (hy : y < 256^N) (h0 : 0 < y) : x.gcd y < 256^N := Nat.lt_of_le_of_lt (Nat.gcd_le_right _ h0) hy
theorem NB_big {x N : Nat} (hx : x < 256^N) (hN : N ≤ 4000000) : (NB x).size ≤ 4294967296 := Nat.le_trans (NB_size hx) (by omega)
theorem add_q (w : World) (x y N : Nat) (hx : x < 256^N) (hy : y < 256^N) (hN : N ≤ 4000000) :
    Calls Tryz.prog 68 #[.string (NB x), .string (NB y)] w fun e w' => e = .returned (.string (NB (x + y))) ∧ Below w.heap.size w w' := by
  have h := Add_any w (NB x) (NB y) (NB_big hx hN) (NB_big hy hN)
  rwa [sv_NB, sv_NB] at h
theorem mul_q (w : World) (x y N : Nat) (hx : x < 256^N) (hy : y < 256^N) (hN : N ≤ 4000000) :
    Calls Tryz.prog 56 #[.string (NB x), .string (NB y)] w fun e w' => e = .returned (.string (NB (x * y))) ∧ Below w.heap.size w w' := by
  have h := Mul_any w (NB x) (NB y) (NB_big hx hN) (NB_big hy hN)
  rwa [sv_NB, sv_NB] at h
theorem gcd_q (w : World) (x y N : Nat) (hx : x < 256^N) (hy : y < 256^N) (hN : N ≤ 4000000) (hT : DB w) (hg : 5 < w.heap.size) :
    Calls Tryz.prog 64 #[.string (NB x), .string (NB y)] w fun e w' => e = .returned (.string (NB (x.gcd y))) ∧ Below w.heap.size w w' := by
  have h := Gcd_any w (NB x) (NB y) (NB_big hx hN) (NB_big hy hN) hT hg
  unfold GcdV at h
  rwa [sv_NB, sv_NB] at h
theorem over_q (w : World) (x y N : Nat) (hx : x < 256^N) (hy : y < 256^N) (hN : N ≤ 4000000) (h0 : y ≠ 0) :
    Calls Tryz.prog 66 #[.string (NB x), .string (NB y)] w fun e w' => e = .returned (.string (NB (x / y))) ∧ Below w.heap.size w w' :=
  over_any w x y (NB_big hx hN) (NB_big hy hN) h0
theorem sub_q (w : World) (x y N : Nat) (hx : x < 256^N) (hy : y < 256^N) (hN : N ≤ 4000000) :
    Calls Tryz.prog 109 #[.string (NB x), .string (NB y)] w fun e w' => e = .returned (.tuple #[.string (NB (x - y)), .bool (decide (y ≤ x))]) ∧ Below w.heap.size w w' := by
  have h := Sub_any w (NB x) (NB y) (NB_big hx hN) (NB_big hy hN)
  unfold SubV at h
  rw [sv_NB, sv_NB] at h
  by_cases hyx : y ≤ x
  · rw [if_pos hyx] at h
    rw [decide_eq_true hyx]; exact h
  · rw [if_neg hyx] at h
    rw [decide_eq_false hyx, show x - y = 0 by omega, NB_zero]; exact h
theorem join_q (w : World) (gx : Bool) (x : Nat) (gy : Bool) (y N : Nat) (hx : x < 256^N) (hy : y < 256^N) (hN : N ≤ 4000000) :
    Calls Tryz.prog 82 #[.bool gx, .string (NB x), .bool gy, .string (NB y)] w fun e w' => e = .returned (.tuple #[.bool (jn gx x gy y).1, .string (NB (jn gx x gy y).2)]) ∧ Below w.heap.size w w' := by
  by_cases h : gx = gy
  · subst h
    have R := Lib.hid fun W => add_q W x y N hx hy hN
    have e1 : (gx == gx) = true := by simp
    rw [show jn gx x gx y = (gx, x + y) by simp [jn]]
    simp only
    generalize NB (x + y) = S at *
    generalize NB x = X at *
    generalize NB y = Y at *
    go_enter Tryz.func82, Tryz.ntmps82
    go_wp2_with fail
    refine (R.out _).mono ?_
    rintro e w1 ⟨rfl, b1⟩
    go_wp2
    go_ret2
    exact ⟨rfl, b1⟩
  · have e1 : (gx == gy) = false := beq_eq_false_iff_ne.2 h
    have R1 := fun W => sub_q W x y N hx hy hN
    have R2 := fun W => sub_q W y x N hy hx hN
    by_cases hyx : y ≤ x
    · rw [decide_eq_true hyx] at R1
      rw [show jn gx x gy y = (gx, x - y) by simp [jn, h, hyx]]
      simp only
      generalize NB (x - y) = S at *
      generalize NB (y - x) = S' at *
      generalize NB x = X at *
      generalize NB y = Y at *
      have RR := Lib.hid R1
      clear R1 R2 hyx h
      go_enter Tryz.func82, Tryz.ntmps82
      go_wp2_with fail
      refine (RR.out _).mono ?_
      rintro e w1 ⟨rfl, b1⟩
      go_wp2
      go_ret2
      exact ⟨rfl, b1⟩
    · rw [decide_eq_false hyx] at R1
      rw [show jn gx x gy y = (gy, y - x) by simp [jn, h, hyx]]
      simp only
      generalize NB (x - y) = S at *
      generalize NB (y - x) = S' at *
      generalize NB x = X at *
      generalize NB y = Y at *
      have RR := Lib.hid (And.intro R1 R2)
      clear R1 R2 hyx h
      go_enter Tryz.func82, Tryz.ntmps82
      go_wp2_with fail
      refine (RR.out.1 _).mono ?_
      rintro e w1 ⟨rfl, b1⟩
      go_wp2_with fail
      refine (RR.out.2 _).mono ?_
      rintro e w2 ⟨rfl, b2⟩
      go_wp2
      go_ret2
      exact ⟨rfl, b1.trans (b2.mono b1.size)⟩
end Go.Proofs.YteccbedmpjeamaaGreatDoor
namespace Go.Proofs.YteccbedmpjeamaaGreatDoor
open Go.RowKit NM QM
theorem NB_inj' {n m : Nat} (h : NB n = NB m) : n = m := by rw [← sv_NB n, h, sv_NB]
/-- the value of a number by its parts -/
def RW (g : Bool) (A B : ByteArray) : Value := .agg #[.bool g, .string A, .string B]
theorem rgt_NB {A : ByteArray} (h : rgt A = true) : A = NB (sv A) := by
  rw [← tz_NB]
  unfold rgt at h
  have h1 : dz A.data.toList = A.data.toList := by
    cases hl : A.data.toList with
    | nil => rfl
    | cons x xs =>
      rw [hl] at h
      have hx : x ≠ 0 := by simpa using h
      simp [dz, hx]
  cases A with | mk a =>
  unfold tz
  congr 1
  apply Array.ext'
  rw [h1]
theorem NB_rgt (n : Nat) : rgt (NB n) = true := by
  have h := tz_NB (NB n)
  rw [sv_NB] at h
  unfold rgt
  rw [show (NB n).data.toList = dz (NB n).data.toList by rw [← tz_list, h]]
  generalize (NB n).data.toList = l
  induction l with
  | nil => rfl
  | cons x xs ih => unfold dz; split <;> simp_all
/-- numerator and denominator are right, and the denominator is not 0 -/
def fitq (A B : ByteArray) : Bool := rgt A && rgt B && decide (sv B ≠ 0)
/-- the number is right -/
def okq (g : Bool) (A B : ByteArray) : Bool :=
  fitq A B && decide (g = decide ((mk g (sv A) (sv B)).num < 0) ∧ A = NB (mk g (sv A) (sv B)).num.natAbs ∧ B = NB (mk g (sv A) (sv B)).den)
/-- the number as which it counts -/
def rvq (g : Bool) (A B : ByteArray) : Rat := if okq g A B = true then mk g (sv A) (sv B) else 0
theorem ok_RW {g : Bool} {A B : ByteArray} (h : okq g A B = true) : RW g A B = QV (rvq g A B) := by
  unfold rvq; rw [if_pos h]
  unfold okq at h
  rw [Bool.and_eq_true] at h
  obtain ⟨_, h2⟩ := h
  obtain ⟨h3, h4, h5⟩ := of_decide_eq_true h2
  unfold RW QV qcells
  rw [← h3, ← h4, ← h5]
theorem okq_QV (a : Rat) : okq (decide (a.num < 0)) (NB a.num.natAbs) (NB a.den) = true := by
  unfold okq fitq
  rw [NB_rgt, NB_rgt, sv_NB, sv_NB, mk_self]
  simp [a.den_nz]
theorem rvq_QV (a : Rat) : rvq (decide (a.num < 0)) (NB a.num.natAbs) (NB a.den) = a := by
  unfold rvq; rw [if_pos (okq_QV a), sv_NB, sv_NB, mk_self]
theorem RW_QV (a : Rat) : QV a = RW (decide (a.num < 0)) (NB a.num.natAbs) (NB a.den) := rfl
theorem sv_lt256 (A : ByteArray) (N : Nat) (h : A.size ≤ N) : sv A < 256^N := Nat.lt_of_lt_of_le (sv_lt_size A) (Nat.pow_le_pow_right (by omega) h)
theorem SmQ_rvq (g : Bool) (A B : ByteArray) (N : Nat) (hA : A.size ≤ N) (hB : B.size ≤ N) (hN : 1 ≤ N) : SmQ N (rvq g A B) := by
  have h1 : 1 < 256^N := Nat.lt_of_lt_of_le (show 1 < 256^1 by decide) (Nat.pow_le_pow_right (by omega) hN)
  unfold rvq
  by_cases h : okq g A B = true
  · rw [if_pos h]
    have h2 := h
    unfold okq fitq at h2
    simp only [Bool.and_eq_true, decide_eq_true_eq] at h2
    refine ⟨?_, ?_⟩
    · rw [mk_num _ _ _ h2.1.2]; exact div_lt (sv_lt256 A N hA)
    · rw [mk_den _ _ _ h2.1.2]; exact div_lt (sv_lt256 B N hB)
  · rw [if_neg h]
    exact ⟨by show (0 : Nat) < _; omega, h1⟩
end Go.Proofs.YteccbedmpjeamaaGreatDoor
