/-
  The walk of the reference's Pow.
-/
import Derived.Test.YteccbedmpjeamaaGreatDoorRefQuo
namespace Go.Proofs.YteccbedmpjeamaaGreatDoor
open Go.RowKit NM
/-- the exponent's bytes up to k, and the bits of byte c above the lowest b -/
theorem pow_bit (a m E c i : Nat) : (a ^ (E * 2^(8-(i+1)) + c / 2^(i+1)) % m) * (a ^ (E * 2^(8-(i+1)) + c / 2^(i+1)) % m) % m = a ^ (2 * (E * 2^(8-(i+1)) + c / 2^(i+1))) % m := by
  rw [← Nat.mul_mod, ← Nat.pow_add, Nat.two_mul]
theorem half_bit (c i : Nat) : c / 2^i = 2 * (c / 2^(i+1)) + c / 2^i % 2 := by
  rw [Nat.pow_succ, ← Nat.div_div_eq_div_mul]; omega
theorem and1_u8 : ∀ x : Nat, x < 256 → bits .and .u8 ((x : Nat) : Int) 1 = ((x % 2 : Nat) : Int) := by decide +kernel
theorem quoR_c (w : World) (a b : ByteArray) (q r : Nat) (hq : q = sv a / sv b) (hr : r = sv a % sv b) (ha : a.size ≤ 1000000000) (hb : b.size ≤ 1000000000) (h : sv b ≠ 0) :
    Calls Tryz.prog 74 #[.string a, .string b] w fun e w' => e = .returned (.tuple #[.string (NB q), .string (NB r), .bool true]) ∧ Below w.heap.size w w' := by
  have := RefQuo_any w a b ha hb
  rwa [show QuoV a b = .tuple #[.string (NB q), .string (NB r), .bool true] by unfold QuoV; rw [if_neg h, hq, hr]] at this
theorem mulR_c (w : World) (a b : ByteArray) (n : Nat) (h : sv a * sv b = n) (ha : a.size ≤ 1000000000) (hb : b.size ≤ 1000000000) :
    Calls Tryz.prog 45 #[.string a, .string b] w fun e w' => e = .returned (.string (NB n)) ∧ Below w.heap.size w w' := by rw [← h]; exact RefMul_any w a b ha hb
theorem NB_sz {x m : Nat} (s : ByteArray) (hm : m = sv s) (h : x < m) : (NB x).size ≤ s.size := NB_size (Nat.lt_trans (by rw [hm] at h; exact h) (sv_lt_size s))
theorem NB_sz2 {x y m : Nat} (s : ByteArray) (hm : m = sv s) (h : x < m) (h2 : y < m) : (NB (x * y)).size ≤ s.size + s.size := by
  apply NB_size
  rw [Nat.pow_add]
  have := sv_lt_size s
  exact Nat.mul_lt_mul'' (by omega) (by omega)
end Go.Proofs.YteccbedmpjeamaaGreatDoor
