/-
  Decimal texts in pieces of 19 digits.
-/
import Derived.Test.YteccbedmpjeamaaGreatDoorParseA
import Derived.Test.YteccbedmpjeamaaGreatDoorGcdA
import Derived.Lib.ItoaNum
namespace Go.Proofs.YteccbedmpjeamaaGreatDoor
open Go.RowKit NM
def PP : Nat := 10000000000000000000
/-- the value of pieces, the lowest first -/
def pv : List Nat → Nat
  | [] => 0
  | x :: xs => x + PP * pv xs
theorem pv_append (a b : List Nat) : pv (a ++ b) = pv a + PP^a.length * pv b := by
  induction a with
  | nil => simp [pv]
  | cons x xs ih =>
    rw [List.cons_append, pv, pv, ih, List.length_cons, Nat.pow_succ, Nat.mul_add, Nat.mul_comm (PP^xs.length) PP, Nat.mul_assoc]; omega
theorem pv_snoc (a : List Nat) (d : Nat) : pv (a ++ [d]) = pv a + PP^a.length * d := by rw [pv_append]; simp [pv]
theorem pv_drop (l : List Nat) (k : Nat) (h : k < l.length) : pv (l.drop k) = gd l k + PP * pv (l.drop (k+1)) := by
  rw [List.drop_eq_getElem_cons h, pv]
  unfold gd
  rw [List.getD_eq_getElem?_getD, List.getElem?_eq_getElem h]; rfl
/-- exactly k digits -/
def padk : Nat → Nat → List UInt8
  | 0, _ => []
  | k+1, p => padk k (p / 10) ++ [UInt8.ofNat (48 + p % 10)]
theorem dec_pad (k : Nat) : ∀ p q, 0 < q → p < 10^k → Lib.decDigits (p + 10^k * q) = Lib.decDigits q ++ padk k p := by
  induction k with
  | zero => intro p q hq hp; simp at hp; subst hp; simp [padk]
  | succ k ih =>
    intro p q hq hp
    have h10 : ¬ p + 10^(k+1) * q < 10 := by
      have h1 : 1 ≤ 10^k * q := Nat.mul_pos (Nat.pow_pos (by omega)) hq
      rw [Nat.pow_succ, Nat.mul_comm (10^k) 10, Nat.mul_assoc]; omega
    rw [Lib.decDigits, dif_neg h10]
    have e1 : (p + 10^(k+1) * q) / 10 = p / 10 + 10^k * q := by
      rw [Nat.pow_succ, Nat.mul_comm (10^k) 10, Nat.mul_assoc]; omega
    have e2 : (p + 10^(k+1) * q) % 10 = p % 10 := by
      rw [Nat.pow_succ, Nat.mul_comm (10^k) 10, Nat.mul_assoc]; omega
    rw [e1, e2, ih (p / 10) q hq (by rw [Nat.pow_succ] at hp; omega), padk, List.append_assoc]
theorem padk_zero (k : Nat) : padk k 0 = List.replicate k 48 := by
  induction k with
  | zero => rfl
  | succ k ih => rw [padk, Nat.zero_div, ih, List.replicate_succ']; rfl
theorem padk_eq (k : Nat) : ∀ p, 1 ≤ k → p < 10^k → (Lib.decDigits p).length ≤ k ∧ padk k p = List.replicate (k - (Lib.decDigits p).length) 48 ++ Lib.decDigits p := by
  induction k with
  | zero => intro p h; omega
  | succ k ih =>
    intro p _ hp
    by_cases h : p < 10
    · rw [Lib.decDigits_one h, padk, Nat.div_eq_of_lt h, padk_zero, Nat.mod_eq_of_lt h]
      exact ⟨by simp, by simp⟩
    · have hk : 1 ≤ k := by
        rcases Nat.eq_zero_or_pos k with h0 | h0
        · subst h0; simp at hp; omega
        · exact h0
      obtain ⟨i1, i2⟩ := ih (p / 10) hk (by rw [Nat.pow_succ] at hp; omega)
      have hdec : Lib.decDigits p = Lib.decDigits (p / 10) ++ [UInt8.ofNat (48 + p % 10)] := by
        conv => lhs; rw [Lib.decDigits, dif_neg h]
      rw [hdec, List.length_append, List.length_singleton]
      refine ⟨by omega, ?_⟩
      rw [padk, i2, List.append_assoc, Nat.add_sub_add_right]
theorem PP_eq : PP = 10^19 := by decide
/-- one more piece of a text -/
theorem text_step (p q : Nat) (hq : 0 < q) (hp : p < PP) : (Lib.decDigits p).length ≤ 19 ∧ Lib.decDigits (p + PP * q) = Lib.decDigits q ++ (List.replicate (19 - (Lib.decDigits p).length) 48 ++ Lib.decDigits p) := by
  rw [PP_eq] at hp ⊢
  obtain ⟨h1, h2⟩ := padk_eq 19 p (by omega) hp
  exact ⟨h1, by rw [dec_pad 19 p q hq hp, h2]⟩
theorem own_only {b lo hi : Nat} {w W : World} {B : Nat} {t : TypeId} {v : Value} {n : Nat} {xs : List Value} (h : w.ownsRow B t 1 v n xs) (ho : Only b lo hi w W) (hb : b < B) : W.ownsRow B t 1 v n xs := by
  refine ⟨h.1, h.2.imp id fun ⟨g, cap, cur, h1, h2, h3, h4⟩ => ⟨g, cap, cur, h1, h2, ?_, h4⟩⟩
  rw [ho.blk g (by omega) (Array.getElem?_eq_some_iff.1 h3).1]; exact h3
end Go.Proofs.YteccbedmpjeamaaGreatDoor
