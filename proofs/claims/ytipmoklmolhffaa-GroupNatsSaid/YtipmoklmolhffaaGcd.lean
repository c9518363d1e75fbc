/-
  The zeros behind a word, nat.twos of one word, nat.gcdWord, nat.shiftRight of one word.
  nat.gcd of two words.
  nat.Gcd where a number is 0, or both have one word.
  The walk of nat.twos, all rows that are not 0.
-/
import Derived.Test.YtipmoklmolhffaaPow
import Derived.Shelf.Spec.TrailingZeros
import Derived.Test.YtipmoklmolhffaaQuo2
namespace Go.Proofs.Ytipmoklmolhffaa
open Go.RowKit NM
theorem gcd_step (x y : Nat) : Nat.gcd y (x % y) = Nat.gcd x y := by rw [Nat.gcd_comm x y, Nat.gcd_rec y x, Nat.gcd_comm]
theorem shr_one (x n : Nat) (_hn : n < 64) (_hx : x < 18446744073709551616) : ((x : Int) / 2^n) = ((x / 2^n : Nat) : Int) := by rw [Int.natCast_ediv, Int.natCast_pow]; rfl
def ShrQ (y b o cap : Nat) (w : World) (e : Ending) (w' : World) : Prop := e = .returned (.slice (some ⟨b, o, none⟩) 1 cap) ∧ Row w' b o [y] ∧ Only b o (o+1) w w'
end Go.Proofs.Ytipmoklmolhffaa
namespace Go.Proofs.Ytipmoklmolhffaa
open Go.RowKit NM
theorem Quiet.cell {u w : World} (h : Quiet u w) (p : Addr) : w.cell? p = u.cell? p := World.cell?_of_block (by rw [h.heap])
theorem gcd_le (m n u v : Nat) (hu : Nat.Coprime 2 u) (h : m ≤ n) : Nat.gcd (2^m * u) (2^n * v) = Nat.gcd u v * 2^m := by
  obtain ⟨k, rfl⟩ : ∃ k, n = m + k := ⟨n - m, by omega⟩
  rw [Nat.pow_add, Nat.mul_assoc, Nat.gcd_mul_left, Nat.Coprime.gcd_mul_left_cancel_right _ (Nat.Coprime.pow_left k hu), Nat.mul_comm]
theorem odd_co (k : Nat) : Nat.Coprime 2 (2 * k + 1) := by
  show Nat.gcd 2 (2*k+1) = 1
  rw [Nat.gcd_rec, show (2*k+1) % 2 = 1 by omega]
  decide
theorem ctz_spec (x : Nat) (h0 : x ≠ 0) (hx : x < 18446744073709551616) : ∃ k, x = 2^(Lib.ctz 64 x) * (2*k+1) ∧ x / 2^(Lib.ctz 64 x) = 2*k+1 := by
  have e : Lib.ctz 64 x = Lib.ctzFrom 64 x := by unfold Lib.ctz; rw [if_neg h0]
  rw [e]
  obtain ⟨k, h1, h2⟩ := Lib.ctzFrom_spec 64 x (by omega) hx
  refine ⟨k, h1, ?_⟩
  generalize Lib.ctzFrom 64 x = c at *
  rw [h1, Nat.mul_div_cancel_left _ (Nat.pow_pos (by omega))]
theorem gcd_math (x y : Nat) (hx0 : x ≠ 0) (hy0 : y ≠ 0) (hx : x < 18446744073709551616) (hy : y < 18446744073709551616) :
    Nat.gcd (x / 2^(Lib.ctz 64 x)) (y / 2^(Lib.ctz 64 y)) * 2^(min (Lib.ctz 64 x) (Lib.ctz 64 y)) = Nat.gcd x y := by
  obtain ⟨k, h1, h2⟩ := ctz_spec x hx0 hx
  obtain ⟨j, h3, h4⟩ := ctz_spec y hy0 hy
  rw [h2, h4]
  generalize Lib.ctz 64 x = m at *
  generalize Lib.ctz 64 y = n at *
  rw [h1, h3]
  rcases Nat.le_total m n with h | h
  · rw [Nat.min_eq_left h, gcd_le m n _ _ (odd_co k) h]
  · rw [Nat.min_eq_right h, Nat.gcd_comm (2^m * _), gcd_le n m _ _ (odd_co j) h, Nat.gcd_comm]
theorem div_ne (x : Nat) (h0 : x ≠ 0) (hx : x < 18446744073709551616) : x / 2^(Lib.ctz 64 x) ≠ 0 := by
  obtain ⟨k, h1, h2⟩ := ctz_spec x h0 hx
  rw [h2]; omega
def GcdQ (x y b b2 : Nat) (w : World) (e : Ending) (w' : World) : Prop :=
  ∃ bz m Z, w.heap.size ≤ bz ∧ bz < w'.heap.size ∧ Row w' bz 0 Z ∧ Wd Z ∧ Z.length = m ∧ m ≤ 2 ∧ wv Z = Nat.gcd x y ∧ (∀ B, B ≤ b → B ≤ b2 → B ≤ w.heap.size → Below B w w') ∧ e = .returned (.slice (some ⟨bz, 0, none⟩) m m)
end Go.Proofs.Ytipmoklmolhffaa
namespace Go.Proofs.Ytipmoklmolhffaa
open Go.RowKit NM
theorem one_of {X : List Nat} (h : X.length = 1) : ∃ x, X = [x] := by
  match X, h with
  | [x], _ => exact ⟨x, rfl⟩
def GcdV (a b : ByteArray) : Value := .string (NB (Nat.gcd (sv a) (sv b)))
end Go.Proofs.Ytipmoklmolhffaa
namespace Go.Proofs.Ytipmoklmolhffaa
open Go.RowKit NM
theorem twos_math (X : List Nat) (hX : Wd X) (j : Nat) (hj : j < X.length) (hz : ∀ i, i < j → gd X i = 0) (h0 : gd X j ≠ 0) :
    ∃ u, wv X = 2^(64 * j + Lib.ctz 64 (gd X j)) * (2 * u + 1) := by
  have hc := (Lib.lowest_bit 64 (gd X j) h0 (gd_lt hX j)).2
  obtain ⟨m, h1, _⟩ := ctz_spec (gd X j) h0 (gd_lt hX j)
  generalize Lib.ctz 64 (gd X j) = c at *
  have ht : wv (X.take j) = 0 := by
    have := wv_take_zeros (X.take j) 0 (Nat.zero_le _) (fun i _ hi => by
      rw [List.length_take] at hi
      have h2 := hz i (by omega)
      rw [gd_eq, List.getD_eq_getElem?_getD] at h2
      rw [List.getD_eq_getElem?_getD, List.getElem?_take_of_lt (show i < j by omega)]
      exact h2)
    rw [← this]; simp [wv]
  have ha := wv_append (X.take j) (X.drop j)
  rw [List.take_append_drop, ht, Nat.zero_add, List.length_take, Nat.min_eq_left (Nat.le_of_lt hj), wv_drop_cons X j hj] at ha
  have e1 : X.getD j 0 = 2^c * (2*m+1) := h1
  refine ⟨m + 2^(63-c) * wv (X.drop (j+1)), ?_⟩
  rw [ha, e1, two64 c (by omega), Nat.pow_add]
  have e2 : (2^c * 2^(64-c))^j = 2^(64*j) := by rw [← Nat.pow_add, show c + (64 - c) = 64 by omega, Nat.pow_mul]
  have e3 : 2^(64-c) = 2 * 2^(63-c) := by rw [show 64 - c = (63 - c) + 1 by omega, Nat.pow_succ, Nat.mul_comm]
  rw [e2, e3]
  generalize 2^(63-c) = A
  generalize wv (X.drop (j+1)) = M
  generalize 2^c = C
  generalize 2^(64*j) = D
  clear e1 e2 e3 ha ht h1 hc hz h0
  grind
end Go.Proofs.Ytipmoklmolhffaa
