/-
  The walk of nat.estimate.
-/
import Derived.Test.YtkpkifhjedlieaaDoorDvM
import Derived.Test.YtkpkifhjedlieaaDoorDivW
namespace Go.Proofs.YtkpkifhjedlieaaDoor
open Go.RowKit NM
/-- what the loop keeps: digit, what the highest word leaves (l), whether that went past a word (v) -/
structure EstI (u2 u1 u0 t nx d l v : Nat) : Prop where
  d64 : d < B64
  l64 : l < B64
  v1 : v ≤ 1
  eq : u2 * B64 + u1 = d * t + (l + v * B64)
  up : (u2 * B64 + u1) * B64 + u0 < (d + 1) * (t * B64 + nx)
/-- the product of digit and next word is not above what is left: the loop ends -/
theorem EstI.good {u2 u1 u0 t nx d l v : Nat} (h : EstI u2 u1 u0 t nx d l v) (hg : d * nx ≤ (l + v * B64) * B64 + u0) :
    d * (t * B64 + nx) ≤ (u2 * B64 + u1) * B64 + u0 ∧ (u2 * B64 + u1) * B64 + u0 < (d + 1) * (t * B64 + nx) :=
  ⟨(est_test _ _ _ _ _ _ h.eq).2 hg, h.up⟩
theorem EstI.over {u2 u1 u0 t nx d l : Nat} (h : EstI u2 u1 u0 t nx d l 1) (hn : nx < B64) : d * nx ≤ (l + 1 * B64) * B64 + u0 := by
  have h1 : d * nx ≤ B64 * B64 := Nat.mul_le_mul (Nat.le_of_lt h.d64) (Nat.le_of_lt hn)
  rw [Nat.add_mul, Nat.one_mul]; omega
/-- otherwise the digit is one too great at least -/
theorem EstI.next {u2 u1 u0 t nx d l : Nat} (h : EstI u2 u1 u0 t nx d l 0) (ht : t < B64) (hb : l * B64 + u0 < d * nx) : 0 < d ∧ EstI u2 u1 u0 t nx (d-1) (lo64 l t 0) (hi64 l t 0) := by
  have hd : 0 < d := by
    rcases Nat.eq_zero_or_pos d with h0 | h0
    · rw [h0] at hb; simp at hb
    · exact h0
  obtain ⟨c, rfl⟩ : ∃ c, d = c + 1 := ⟨d - 1, by omega⟩
  have e1 := Nat.div_add_mod (l + t + 0) B64
  have heq := h.eq
  have hd64 := h.d64
  have hl64 := h.l64
  refine ⟨hd, ⟨by omega, lo64_lt _ _ _, hi64_le h.l64 ht (by omega), ?_, ?_⟩⟩
  · unfold lo64 hi64
    rw [heq, Nat.zero_mul, Nat.add_zero, Nat.add_mul, Nat.one_mul, Nat.add_sub_cancel]
    rw [Nat.mul_comm] at e1
    omega
  · rw [Nat.add_sub_cancel]
    have h2 := est_test (u2 * B64 + u1) u0 t nx (c+1) l (by rw [heq]; omega)
    rw [← Nat.not_le] at hb ⊢
    exact fun h3 => hb (h2.1 h3)
theorem mh_ml (x y : Nat) : x * y = mh64 x y * B64 + ml64 x y := by unfold mh64 ml64; rw [Nat.mul_comm (x * y / B64)]; exact (Nat.div_add_mod _ _).symm
theorem EstI.lt {u2 u1 u0 t nx d l : Nat} (h : EstI u2 u1 u0 t nx d l 0) (hc : mh64 d nx < l) : d * nx ≤ (l + 0 * B64) * B64 + u0 := by
  rw [mh_ml, Nat.zero_mul, Nat.add_zero]
  have h1 : (mh64 d nx + 1) * B64 ≤ l * B64 := Nat.mul_le_mul_right _ hc
  have h2 : ml64 d nx < B64 := ml64_lt _ _
  rw [Nat.add_mul] at h1
  omega
theorem EstI.eql {u2 u1 u0 t nx d l : Nat} (_ : EstI u2 u1 u0 t nx d l 0) (hc : mh64 d nx = l) (hu : ml64 d nx ≤ u0) : d * nx ≤ (l + 0 * B64) * B64 + u0 := by
  rw [mh_ml, Nat.zero_mul, Nat.add_zero, hc]; omega
theorem est_bad1 {d nx l u0 : Nat} (hu : u0 < B64) (hc : l < mh64 d nx) : l * B64 + u0 < d * nx := by
  rw [mh_ml d nx]
  have h1 : (l + 1) * B64 ≤ mh64 d nx * B64 := Nat.mul_le_mul_right _ hc
  rw [Nat.add_mul] at h1
  omega
theorem est_bad2 {d nx l u0 : Nat} (hc : mh64 d nx = l) (hu : u0 < ml64 d nx) : l * B64 + u0 < d * nx := by
  rw [mh_ml d nx, hc]; omega
/-- where the loop begins -/
theorem EstI.start (u2 u1 u0 t nx : Nat) (h2 : u2 < t) (h1 : u1 < B64) (h0 : u0 < B64) (ht : t < B64) : EstI u2 u1 u0 t nx (dq u2 u1 t) (dr u2 u1 t) 0 where
  d64 := dq_lt h2 h1
  l64 := Nat.lt_trans (dr_lt h2) ht
  v1 := by omega
  eq := by
    unfold dq dr
    have := Nat.div_add_mod (u2 * B64 + u1) t
    rw [Nat.mul_comm] at this; omega
  up := est_start u2 u1 u0 t nx (by omega) h0
end Go.Proofs.YtkpkifhjedlieaaDoor
