/-
  Numbers in decimal: digits, values, and how Atoi reads them.
-/
import Derived.Lib.ItoaNum
import Derived.Lib.AtoiAll
import Derived.Lib.IndexLaws
import Derived.Lib.IndexMore
import Derived.Lib.IndexBytes
namespace DM
open Go
def isD (c : UInt8) : Bool := decide (48 ≤ c.toNat ∧ c.toNat ≤ 57)
def dvl (l : List UInt8) : Nat := l.foldl (fun n c => 10 * n + (c.toNat - 48)) 0
theorem dvl_snoc (l : List UInt8) (c : UInt8) : dvl (l ++ [c]) = 10 * dvl l + (c.toNat - 48) := by unfold dvl; rw [List.foldl_append]; rfl
theorem dvl_take (l : List UInt8) (k : Nat) (c : UInt8) (h : l[k]? = some c) : dvl (l.take (k+1)) = 10 * dvl (l.take k) + (c.toNat - 48) := by
  rw [List.take_add_one, h]; exact dvl_snoc _ _
theorem dvl_fold (b : List UInt8) : ∀ a, b.foldl (fun n c => 10 * n + (c.toNat - 48)) a = a * 10^b.length + dvl b := by
  induction b with
  | nil => intro a; simp [dvl]
  | cons c b ih =>
    intro a
    unfold dvl
    rw [List.foldl_cons, List.foldl_cons, ih, ih (10 * 0 + (c.toNat - 48)), List.length_cons, Nat.pow_succ]
    have : (10 * a + (c.toNat - 48)) * 10^b.length = a * (10^b.length * 10) + (10 * 0 + (c.toNat - 48)) * 10^b.length := by
      rw [Nat.add_mul, Nat.mul_zero, Nat.zero_add, Nat.mul_comm 10 a, Nat.mul_assoc, Nat.mul_comm 10 (10^b.length)]
    rw [this]; unfold dvl; omega
theorem dvl_cons (c : UInt8) (b : List UInt8) : dvl (c :: b) = (c.toNat - 48) * 10^b.length + dvl b := by
  show b.foldl _ (10 * 0 + (c.toNat - 48)) = _
  rw [dvl_fold]; simp
theorem dvl_take_le (l : List UInt8) (k : Nat) : dvl (l.take k) ≤ dvl l := by
  have h : l = l.take k ++ l.drop k := (List.take_append_drop k l).symm
  have h2 : dvl l = dvl (l.take k) * 10^(l.drop k).length + dvl (l.drop k) := by
    conv => lhs; rw [h]
    unfold dvl
    rw [List.foldl_append, dvl_fold]; rfl
  have h3 : 0 < 10^(l.drop k).length := Nat.pow_pos (by decide)
  have h4 := Nat.le_mul_of_pos_right (dvl (l.take k)) h3
  omega
theorem isD_of (u : Nat) (h : u < 10) : isD (UInt8.ofNat (48 + u)) = true ∧ (UInt8.ofNat (48 + u)).toNat - 48 = u := by
  have : (UInt8.ofNat (48 + u)).toNat = 48 + u := by simp; omega
  unfold isD
  rw [this]
  exact ⟨decide_eq_true (by omega), by omega⟩
theorem dec_all (n : Nat) : (∀ c ∈ Lib.decDigits n, isD c = true) ∧ dvl (Lib.decDigits n) = n ∧ Lib.decDigits n ≠ [] := by
  induction n using Nat.strongRecOn with
  | ind n ih =>
    rw [Lib.decDigits]
    split
    · rename_i h
      have := isD_of n h
      refine ⟨fun c hc => ?_, ?_, by simp⟩
      · rw [List.mem_singleton] at hc; subst hc; exact this.1
      · unfold dvl; simp only [List.foldl_cons, List.foldl_nil]; omega
    · rename_i h
      obtain ⟨h1, h2, h3⟩ := ih (n / 10) (by omega)
      have := isD_of (n % 10) (by omega)
      refine ⟨fun c hc => ?_, ?_, by simp⟩
      · rcases List.mem_append.1 hc with hc | hc
        · exact h1 c hc
        · rw [List.mem_singleton] at hc; subst hc; exact this.1
      · rw [dvl_snoc, h2, this.2]; omega
theorem parse_ok : ∀ (l : List UInt8) (acc : Nat), (∀ c ∈ l, isD c = true) → acc * 10^l.length + dvl l < 18446744073709551616 → Lib.parseUint10 acc l = .ok (acc * 10^l.length + dvl l)
  | [], acc, _, _ => by simp [Lib.parseUint10, dvl]
  | c :: r, acc, hd, hv => by
    have hc := hd c (by simp)
    unfold isD at hc
    have hc := of_decide_eq_true hc
    rw [dvl_cons, List.length_cons, Nat.pow_succ] at hv
    have e : acc * (10^r.length * 10) + ((c.toNat - 48) * 10^r.length + dvl r) = (acc * 10 + (c.toNat - 48)) * 10^r.length + dvl r := by
      rw [Nat.add_mul, ← Nat.add_assoc, Nat.mul_assoc, Nat.mul_comm 10 (10^r.length)]
    have hp : 0 < 10^r.length := Nat.pow_pos (by decide)
    have h2 := Nat.le_mul_of_pos_right (acc * 10 + (c.toNat - 48)) hp
    have h3 := parse_ok r (acc * 10 + (c.toNat - 48)) (fun x hx => hd x (by simp [hx])) (by omega)
    rw [Lib.parseUint10, if_pos hc, if_neg (by omega), if_neg (by omega), h3, dvl_cons, List.length_cons, Nat.pow_succ, e]
theorem parse_dec (u : Nat) (h : u < 18446744073709551616) : Lib.parseMag (Lib.decDigits u) = .ok u := by
  obtain ⟨h1, h2, h3⟩ := dec_all u
  unfold Lib.parseMag
  rw [if_neg h3, parse_ok _ 0 h1 (by rw [h2]; omega), h2]; simp
/-- Atoi reads what Itoa writes -/
theorem atoi_itoa (x : Int) (h0 : -9223372036854775808 ≤ x) (h1 : x ≤ 9223372036854775807) : Lib.atoiAll (Lib.itoa x) = .ok x := by
  by_cases hx : x < 0
  · have e : Lib.itoa x = 45 :: Lib.decDigits x.natAbs := by unfold Lib.itoa; rw [if_pos hx]
    rw [e]
    unfold Lib.atoiAll
    have p := parse_dec x.natAbs (by omega)
    have h45 : (45 : UInt8).toNat = 45 := rfl
    simp only [h45]
    rw [if_pos (.inr trivial), p]
    simp only
    rw [if_neg (by simp), if_neg (by simp; omega), if_pos trivial]
    congr 1; omega
  · have e : Lib.itoa x = Lib.decDigits x.toNat := by unfold Lib.itoa; rw [if_neg hx]
    rw [e]
    obtain ⟨d1, d2, d3⟩ := dec_all x.toNat
    have p := parse_dec x.toNat (by omega)
    cases hl : Lib.decDigits x.toNat with
    | nil => exact absurd hl d3
    | cons c r =>
      have hc := d1 c (by rw [hl]; simp)
      unfold isD at hc
      have hc := of_decide_eq_true hc
      have n45 : ¬ c.toNat = 45 := by omega
      have n43 : ¬ c.toNat = 43 := by omega
      unfold Lib.atoiAll
      simp only [n45, n43]
      rw [if_neg (by simp), ← hl, p]
      simp only
      rw [if_neg (by simp; omega), if_neg (by simp), if_neg (by simp)]
      congr 1; omega
theorem itoa_dot (x : Int) : ∀ c ∈ Lib.itoa x, c ≠ 46 := by
  intro c hc e
  subst e
  unfold Lib.itoa at hc
  have nd : ∀ n, (46 : UInt8) ∉ Lib.decDigits n := fun n h => by
    have := (dec_all n).1 _ h
    revert this; decide
  split at hc
  · rcases List.mem_cons.1 hc with h | h
    · revert h; decide
    · exact nd _ h
  · exact nd _ hc
/-- the place where a text is cut -/
theorem index_dot (a b : List UInt8) (h : ∀ c ∈ a, c ≠ 46) : Lib.indexByte (a ++ 46 :: b) 46 = (a.length : Int) := by
  induction a with
  | nil => simp [Lib.indexByte]
  | cons x a ih =>
    have hx : (x == 46) = false := beq_eq_false_iff_ne.2 (h x (by simp))
    have h2 := ih (fun c hc => h c (by simp [hc]))
    show Lib.indexByte (x :: (a ++ 46 :: b)) 46 = _
    rw [Lib.indexByte, hx, h2]
    have : ((a.length : Int) == -1) = false := beq_eq_false_iff_ne.2 (by omega)
    rw [this]
    simp
theorem cut_dot (a b : List UInt8) (h : ∀ c ∈ a, c ≠ 46) : Lib.cut (a ++ 46 :: b) [46] = (a, b, true) := by
  unfold Lib.cut
  rw [Lib.index_one, index_dot a b h, if_pos (by omega), Int.toNat_natCast]
  simp
/-- a text is cut at its first point in one way alone -/
theorem dot_unique (a b c d : List UInt8) (ha : ∀ x ∈ a, x ≠ 46) (hc : ∀ x ∈ c, x ≠ 46) (e : a ++ 46 :: b = c ++ 46 :: d) : a = c ∧ b = d := by
  have h1 := cut_dot a b ha
  rw [e, cut_dot c d hc] at h1
  injection h1 with p q
  injection q with q r
  exact ⟨p.symm, q.symm⟩
end DM
