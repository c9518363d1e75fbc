/-
  The walk of the reference's Cmp.
-/
import Derived.Test.YtipmoklmolhffaaRefMul2
namespace Go.Proofs.Ytipmoklmolhffaa
open Go.RowKit NM
theorem bytesLess_bv : ∀ (x y : List UInt8), x.length = y.length → Go.Op.bytesLess x y = decide (NM.bv x < NM.bv y)
  | [], [], _ => by simp [Go.Op.bytesLess]
  | [], _ :: _, h => by simp at h
  | _ :: _, [], h => by simp at h
  | a :: x, b :: y, h => by
    have hl : x.length = y.length := by simpa using h
    rw [Go.Op.bytesLess, bytesLess_bv x y hl, NM.bv_cons, NM.bv_cons, ← hl]
    have h1 := NM.bv_lt x
    have h2 := NM.bv_lt y
    rw [← hl] at h2
    rcases Nat.lt_trichotomy a.toNat b.toNat with h3 | h3 | h3
    · have h4 : a < b := h3
      have h5 : (a.toNat + 1) * 256^x.length ≤ b.toNat * 256^x.length := Nat.mul_le_mul_right _ h3
      rw [Nat.add_mul] at h5
      simp [h4]; omega
    · have h4 : a = b := UInt8.toNat_inj.1 h3
      subst h4
      have : ¬ a < a := by intro h; exact absurd (show a.toNat < a.toNat from h) (Nat.lt_irrefl _)
      simp
    · have h4 : ¬ a < b := fun h => by have : a.toNat < b.toNat := h; omega
      have h6 : (a == b) = false := beq_eq_false_iff_ne.2 fun e => by rw [e] at h3; exact absurd h3 (Nat.lt_irrefl _)
      have h5 : (b.toNat + 1) * 256^x.length ≤ a.toNat * 256^x.length := Nat.mul_le_mul_right _ h3
      rw [Nat.add_mul] at h5
      simp [h4, h6]; omega
theorem bv_inj : ∀ (x y : List UInt8), x.length = y.length → NM.bv x = NM.bv y → x = y
  | [], [], _, _ => rfl
  | [], _ :: _, h, _ => by simp at h
  | _ :: _, [], h, _ => by simp at h
  | a :: x, b :: y, h, hv => by
    have hl : x.length = y.length := by simpa using h
    rw [NM.bv_cons, NM.bv_cons, ← hl] at hv
    have h1 := NM.bv_lt x
    have h2 := NM.bv_lt y
    rw [← hl] at h2
    have h3 : a.toNat = b.toNat := by
      rcases Nat.lt_trichotomy a.toNat b.toNat with h3 | h3 | h3
      · have h5 : (a.toNat + 1) * 256^x.length ≤ b.toNat * 256^x.length := Nat.mul_le_mul_right _ h3
        rw [Nat.add_mul] at h5; omega
      · exact h3
      · have h5 : (b.toNat + 1) * 256^x.length ≤ a.toNat * 256^x.length := Nat.mul_le_mul_right _ h3
        rw [Nat.add_mul] at h5; omega
    rw [h3] at hv
    rw [UInt8.toNat_inj.1 h3, bv_inj x y hl (by omega)]
theorem sv_lt_size (s : ByteArray) : sv s < 256^s.size := by
  have h := bv_lt s.data.toList
  rwa [show s.data.toList.length = s.size from Array.length_toList] at h
theorem NB_lt_size {x y : Nat} (h : (NB x).size < (NB y).size) : x < y := by
  apply Nat.lt_of_not_le; intro hle
  have h1 := sv_lt_size (NB x)
  rw [sv_NB] at h1
  have := NB_size (n := y) (k := (NB x).size) (Nat.lt_of_le_of_lt hle h1)
  omega
theorem str_less (s t : ByteArray) (h : s.size = t.size) : Op.bytesLess s.toList t.toList = decide (sv s < sv t) := by
  rw [Lib.toList_data, Lib.toList_data]
  exact bytesLess_bv _ _ (by simpa using h)
theorem str_eq (s t : ByteArray) (h : s.size = t.size) : (s.toList == t.toList) = decide (sv s = sv t) := by
  rw [Lib.toList_data, Lib.toList_data]
  by_cases e : sv s = sv t
  · rw [decide_eq_true e, beq_iff_eq]
    exact bv_inj _ _ (by simpa using h) e
  · rw [decide_eq_false e, beq_eq_false_iff_ne]
    intro e2; apply e; show bv _ = bv _; rw [e2]
end Go.Proofs.Ytipmoklmolhffaa
