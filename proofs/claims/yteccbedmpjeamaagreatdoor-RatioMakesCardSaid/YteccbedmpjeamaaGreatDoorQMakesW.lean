/-
  The law RatioMakes walked for every input.
-/
import Derived.Test.YteccbedmpjeamaaGreatDoorQMakes
namespace Go.Proofs.YteccbedmpjeamaaGreatDoor
open Go.RowKit NM QM
theorem int_eight (n : Int) (h : -9223372036854775808 ≤ n ∧ n ≤ 9223372036854775807) : SmQ 8 (n : Rat) := by
  have q8 : (256 : Nat)^8 = 18446744073709551616 := by decide
  exact ⟨by rw [Rat.num_intCast]; omega, by rw [Rat.den_intCast]; omega⟩
theorem zrow_rrow : (Value.agg zrow) = .agg (rrow false ⟨#[]⟩ ⟨#[]⟩) := rfl
theorem QV_rrow (q : Rat) : QV q = .agg (rrow (decide (q.num < 0)) (NB q.num.natAbs) (NB q.den)) := rfl
theorem makes_mid (w : World) (neg : Bool) (s0 s1 A B : ByteArray) (m0 m1 : Nat) (n : Int) (g1 ok1 : Bool) (a1 b1 : ByteArray) (hn : -9223372036854775808 ≤ n ∧ n ≤ 9223372036854775807)
    (h01 : min (s0.size : Int) 20 = (m0 : Int)) (h02 : (m0 : Int) ≤ (s0.size : Int)) (h03 : (0 : Int) ≤ (m0 : Int)) (h04 : s0.extract 0 m0 = A)
    (h11 : min (s1.size : Int) 20 = (m1 : Int)) (h12 : (m1 : Int) ≤ (s1.size : Int)) (h13 : (0 : Int) ≤ (m1 : Int)) (h14 : s1.extract 0 m1 = B)
    (hA : A.size ≤ 20)
    (M1 : Hid (∀ W (_ : Tp W), Calls Tryz.prog 32 #[.bool neg, .string A, .string B] W fun e w' => e = .returned (.tuple #[.agg (rrow g1 a1 b1), .bool ok1]) ∧ Below W.heap.size W w'))
    (R1 : Hid (∀ W, Calls Tryz.prog 33 #[.bool neg, .string A, .string B] W fun e w' => e = .returned (.tuple #[.agg (rrow g1 a1 b1), .bool ok1]) ∧ Below W.heap.size W w'))
    (hT : Tp w) :
    Calls Tryz.prog 5 #[.bool neg, .agg #[.string s0, .string s1], .int .i64 n] w fun e w' => e = .returned (.bool true) ∧ Below w.heap.size w w' := by
  obtain ⟨x, hx, MD⟩ := mod_nat n 1099511627776 1099511627776 rfl (by decide) (by decide) hn
  obtain ⟨k, hk⟩ : ∃ k : Nat, 1 + A.size = k := ⟨_, rfl⟩
  have q8 : (256 : Nat)^8 = 18446744073709551616 := by decide
  have O1 := fun W => RefOf_any W (x : Int) (by omega) (by omega)
  have O2 := fun W => RefOf_any W (k : Int) (by omega) (by omega)
  rw [Int.toNat_natCast] at O1 O2
  have M2 := fun W (h : Tp W) => make_yes W neg x k 8 (by omega) (by omega) (by omega) (by decide) h.b.t h.b.g
  have R2 := fun W => rmake_yes W neg x k 8 (by omega) (by omega) (by omega) (by decide)
  have QO := fun W => qOf W n hn.1 hn.2
  have RO := fun W => rOf_q W n hn.1 hn.2
  have s8 := int_eight n hn
  have RT := fun W (h : Tp W) => right_any W (decide ((n : Rat).num < 0)) (NB (n : Rat).num.natAbs) (NB (n : Rat).den) 8 (q_szA s8) (q_szB s8) (by decide) h.b.t h.b.g
  rw [okq_QV] at RT
  rw [QV_rrow] at M2 R2 QO RO
  exact makes_core w neg s0 s1 A B (NB x) (NB k) m0 m1 k n x _ _ _ ok1 true a1 b1 _ _ _ _ h01 h02 h03 h04 h11 h12 h13 h14 hA (by omega) (Lib.hid fun W h => sanity_any W h) M1 R1 (Lib.hid MD) (Lib.hid O1) (Lib.hid O2) (Lib.hid M2) (Lib.hid R2) (Lib.hid QO) (Lib.hid RO) (Lib.hid RT) hT
theorem makes_walk (w : World) (neg : Bool) (s0 s1 : ByteArray) (n : Int) (hT : Tp w) (hn : -9223372036854775808 ≤ n ∧ n ≤ 9223372036854775807) :
    Calls Tryz.prog 5 #[.bool neg, .agg #[.string s0, .string s1], .int .i64 n] w fun e w' => e = .returned (.bool true) ∧ Below w.heap.size w w' := by
  obtain ⟨m0, h01, h02, hA⟩ := cut20 s0
  obtain ⟨m1, h11, h12, hB⟩ := cut20 s1
  obtain ⟨A, e0⟩ : ∃ A, s0.extract 0 m0 = A := ⟨_, rfl⟩
  obtain ⟨B, e1⟩ : ∃ A, s1.extract 0 m1 = A := ⟨_, rfl⟩
  rw [e0] at hA
  rw [e1] at hB
  cases hf : fitq A B
  · have M1 := fun W (_ : Tp W) => make_no W neg A B hf
    have R1 := fun W => rmake_no W neg A B hf
    rw [zrow_rrow] at M1 R1
    exact makes_mid w neg s0 s1 A B m0 m1 n _ false _ _ hn h01 (by omega) (by omega) e0 h11 (by omega) (by omega) e1 hA (Lib.hid M1) (Lib.hid R1) hT
  · obtain ⟨p1, p2, p3⟩ := fit_parts hf
    have M1 := fun W (h : Tp W) => make_yes W neg (sv A) (sv B) 20 (sv_lt256 A 20 hA) (sv_lt256 B 20 hB) p3 (by decide) h.b.t h.b.g
    have R1 := fun W => rmake_yes W neg (sv A) (sv B) 20 (sv_lt256 A 20 hA) (sv_lt256 B 20 hB) p3 (by decide)
    rw [← p1, ← p2, QV_rrow] at M1 R1
    exact makes_mid w neg s0 s1 A B m0 m1 n _ true _ _ hn h01 (by omega) (by omega) e0 h11 (by omega) (by omega) e1 hA (Lib.hid M1) (Lib.hid R1) hT
end Go.Proofs.YteccbedmpjeamaaGreatDoor
