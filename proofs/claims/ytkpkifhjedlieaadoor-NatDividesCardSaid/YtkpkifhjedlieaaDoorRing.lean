/-
  The walk of the law NatRing.
-/
import Derived.Test.YtkpkifhjedlieaaDoorSanity
namespace Go.Proofs.YtkpkifhjedlieaaDoor
open Go.RowKit NM
theorem sv_NB (n : Nat) : sv (NB n) = n := bv_nb n
theorem tz_NB (s : ByteArray) : tz s = NB (sv s) := by
  have h : (tz s).data.toList = (NB (sv s)).data.toList := by rw [tz_list, dz_eq]; rfl
  cases h1 : tz s with
  | mk d =>
    cases h2 : NB (sv s) with
    | mk d2 =>
      rw [h1, h2] at h
      have e : d = d2 := Array.toList_inj.1 h
      rw [e]
theorem NB_size {n k : Nat} (h : n < 256^k) : (NB n).size ≤ k := by
  rw [← len_size, NB_list]; exact nb_length_le n k h
theorem sv_lt (s : ByteArray) (h : s.size ≤ 40) : sv s < 256^40 := Nat.lt_of_lt_of_le (bv_lt _) (Nat.pow_le_pow_right (by omega) (by rw [len_size]; exact h))
structure RS (A B C : ByteArray) : Prop where
  a : A.size ≤ 4294967296
  b : B.size ≤ 4294967296
  c : C.size ≤ 4294967296
  ab : (NB (sv A + sv B)).size ≤ 4294967296
  bc : (NB (sv B + sv C)).size ≤ 4294967296
  mab : (NB (sv A * sv B)).size ≤ 4294967296
  mbc : (NB (sv B * sv C)).size ≤ 4294967296
  mac : (NB (sv A * sv C)).size ≤ 4294967296
theorem add_small {x y : Nat} (h1 : x < 256^40) (h2 : y < 256^40) : (NB (x + y)).size ≤ 4294967296 :=
  Nat.le_trans (NB_size (k := 41) (by rw [Nat.pow_succ]; omega)) (by omega)
theorem mul_small {x y : Nat} (h1 : x < 256^40) (h2 : y < 256^40) : (NB (x * y)).size ≤ 4294967296 :=
  Nat.le_trans (NB_size (k := 80) (by rw [show 256^80 = 256^40 * 256^40 by rw [← Nat.pow_add]]; exact Nat.mul_lt_mul'' h1 h2)) (by omega)
theorem ring_sizes (A B C : ByteArray) (hA : A.size ≤ 40) (hB : B.size ≤ 40) (hC : C.size ≤ 40) : RS A B C :=
  ⟨by omega, by omega, by omega, add_small (sv_lt A hA) (sv_lt B hB), add_small (sv_lt B hB) (sv_lt C hC), mul_small (sv_lt A hA) (sv_lt B hB), mul_small (sv_lt B hB) (sv_lt C hC), mul_small (sv_lt A hA) (sv_lt C hC)⟩
theorem add_c (w : World) (a b : ByteArray) (n : Nat) (h : sv a + sv b = n) (ha : a.size ≤ 4294967296) (hb : b.size ≤ 4294967296) :
    Calls Tryd.prog 9 #[.string a, .string b] w fun e w' => e = .returned (.string (NB n)) ∧ Below w.heap.size w w' := by rw [← h]; exact Add_any w a b ha hb
theorem mul_c (w : World) (a b : ByteArray) (n : Nat) (h : sv a * sv b = n) (ha : a.size ≤ 4294967296) (hb : b.size ≤ 4294967296) :
    Calls Tryd.prog 10 #[.string a, .string b] w fun e w' => e = .returned (.string (NB n)) ∧ Below w.heap.size w w' := by rw [← h]; exact Mul_any w a b ha hb
theorem sub_c (w : World) (A B : ByteArray) (ha : (NB (sv A + sv B)).size ≤ 4294967296) (hb : B.size ≤ 4294967296) :
    Calls Tryd.prog 8 #[.string (NB (sv A + sv B)), .string B] w fun e w' => e = .returned (.tuple #[.string (NB (sv A)), .bool true]) ∧ Below w.heap.size w w' := by
  have h := Sub_any w (NB (sv A + sv B)) B ha hb
  rw [show SubV (NB (sv A + sv B)) B = .tuple #[.string (NB (sv A)), .bool true] by
    unfold SubV
    rw [sv_NB, if_pos (by omega), Nat.add_sub_cancel]] at h
  exact h
theorem canon_c (w : World) (A : ByteArray) (ha : A.size ≤ 4294967296) :
    Calls Tryd.prog 11 #[.string A] w fun e w' => e = .returned (.string (NB (sv A))) ∧ Below w.heap.size w w' :=
  (Canon_any w A ha).mono fun e w' ⟨h1, h2⟩ => ⟨by rw [h1, tz_NB], by rw [← h2]; exact Below.refl _ _⟩
theorem mul0_c (w : World) (A : ByteArray) (ha : A.size ≤ 4294967296) :
    Calls Tryd.prog 10 #[.string A, .string ⟨#[]⟩] w fun e w' => e = .returned (.string ⟨#[]⟩) ∧ Below w.heap.size w w' := by
  have h := mul_c w A ⟨#[]⟩ 0 (by rw [show sv ⟨#[]⟩ = 0 by decide, Nat.mul_zero]) ha (by decide)
  rw [NB_0] at h
  exact h
theorem mul1_c (w : World) (A : ByteArray) (ha : A.size ≤ 4294967296) :
    Calls Tryd.prog 10 #[.string A, .string ⟨#[1]⟩] w fun e w' => e = .returned (.string (NB (sv A))) ∧ Below w.heap.size w w' :=
  mul_c w A ⟨#[1]⟩ (sv A) (by rw [show sv ⟨#[1]⟩ = 1 by decide, Nat.mul_one]) ha (by decide)
set_option maxRecDepth 100000 in
set_option maxHeartbeats 8000000 in
theorem ring_walk (w : World) (v0 v1 v2 : Value) (h0 : ∀ W, Below w.heap.size w W → Calls Tryd.prog 7 #[v0] W (MadeQ W)) (h1 : ∀ W, Below w.heap.size w W → Calls Tryd.prog 7 #[v1] W (MadeQ W)) (h2 : ∀ W, Below w.heap.size w W → Calls Tryd.prog 7 #[v2] W (MadeQ W))
    (hT : DB w) (hg : 2 < w.heap.size) (hP : P10 w) (hg2 : 3 < w.heap.size) :
    Calls Tryd.prog 3 #[v0, v1, v2] w fun e w' => e = .returned (.bool true) ∧ Below w.heap.size w w' := by
  have hB := Below.refl w.heap.size w
  go_enter Tryd.func3, Tryd.ntmps3
  go_wp2_with fail
  refine (sanity_any w hT hg hP hg2).mono ?_
  rintro e w' ⟨rfl, b⟩
  replace hB := hB.trans (b.mono hB.size); clear b
  go_wp2_with fail
  refine (h0 _ hB).mono ?_
  rintro e w' ⟨A, sA, rfl, rfl⟩
  go_wp2_with fail
  refine (h1 _ hB).mono ?_
  rintro e w' ⟨B, sB, rfl, rfl⟩
  go_wp2_with fail
  refine (h2 _ hB).mono ?_
  rintro e w' ⟨C, sC, rfl, rfl⟩
  have q := ring_sizes A B C sA sB sC
  have Q := Lib.hid q; clear q sA sB sC
  go_wp2_with fail
  refine (add_c _ A B (sv A + sv B) (rfl) (Q.out.a) (Q.out.b)).mono ?_
  rintro e w' ⟨rfl, b⟩
  replace hB := hB.trans (b.mono hB.size); clear b
  go_wp2_with fail
  refine (sub_c _ A B Q.out.ab Q.out.b).mono ?_
  rintro e w' ⟨rfl, b⟩
  replace hB := hB.trans (b.mono hB.size); clear b
  go_wp2_with fail
  refine (add_c _ A B (sv A + sv B) (rfl) (Q.out.a) (Q.out.b)).mono ?_
  rintro e w' ⟨rfl, b⟩
  replace hB := hB.trans (b.mono hB.size); clear b
  go_wp2_with fail
  refine (add_c _ B A (sv A + sv B) (Nat.add_comm _ _) (Q.out.b) (Q.out.a)).mono ?_
  rintro e w' ⟨rfl, b⟩
  replace hB := hB.trans (b.mono hB.size); clear b
  go_wp2_with fail
  refine (mul_c _ A B (sv A * sv B) (rfl) (Q.out.a) (Q.out.b)).mono ?_
  rintro e w' ⟨rfl, b⟩
  replace hB := hB.trans (b.mono hB.size); clear b
  go_wp2_with fail
  refine (mul_c _ B A (sv A * sv B) (Nat.mul_comm _ _) (Q.out.b) (Q.out.a)).mono ?_
  rintro e w' ⟨rfl, b⟩
  replace hB := hB.trans (b.mono hB.size); clear b
  go_wp2_with fail
  refine (canon_c _ A Q.out.a).mono ?_
  rintro e w' ⟨rfl, b⟩
  replace hB := hB.trans (b.mono hB.size); clear b
  go_wp2_with fail
  refine (add_c _ A B (sv A + sv B) (rfl) (Q.out.a) (Q.out.b)).mono ?_
  rintro e w' ⟨rfl, b⟩
  replace hB := hB.trans (b.mono hB.size); clear b
  go_wp2_with fail
  refine (add_c _ (NB (sv A + sv B)) C (sv A + sv B + sv C) (by rw [sv_NB]) (Q.out.ab) (Q.out.c)).mono ?_
  rintro e w' ⟨rfl, b⟩
  replace hB := hB.trans (b.mono hB.size); clear b
  go_wp2_with fail
  refine (add_c _ B C (sv B + sv C) (rfl) (Q.out.b) (Q.out.c)).mono ?_
  rintro e w' ⟨rfl, b⟩
  replace hB := hB.trans (b.mono hB.size); clear b
  go_wp2_with fail
  refine (add_c _ A (NB (sv B + sv C)) (sv A + sv B + sv C) (by rw [sv_NB, Nat.add_assoc]) (Q.out.a) (Q.out.bc)).mono ?_
  rintro e w' ⟨rfl, b⟩
  replace hB := hB.trans (b.mono hB.size); clear b
  go_wp2_with fail
  refine (mul_c _ A B (sv A * sv B) (rfl) (Q.out.a) (Q.out.b)).mono ?_
  rintro e w' ⟨rfl, b⟩
  replace hB := hB.trans (b.mono hB.size); clear b
  go_wp2_with fail
  refine (mul_c _ (NB (sv A * sv B)) C (sv A * sv B * sv C) (by rw [sv_NB]) (Q.out.mab) (Q.out.c)).mono ?_
  rintro e w' ⟨rfl, b⟩
  replace hB := hB.trans (b.mono hB.size); clear b
  go_wp2_with fail
  refine (mul_c _ B C (sv B * sv C) (rfl) (Q.out.b) (Q.out.c)).mono ?_
  rintro e w' ⟨rfl, b⟩
  replace hB := hB.trans (b.mono hB.size); clear b
  go_wp2_with fail
  refine (mul_c _ A (NB (sv B * sv C)) (sv A * sv B * sv C) (by rw [sv_NB, Nat.mul_assoc]) (Q.out.a) (Q.out.mbc)).mono ?_
  rintro e w' ⟨rfl, b⟩
  replace hB := hB.trans (b.mono hB.size); clear b
  go_wp2_with fail
  refine (add_c _ B C (sv B + sv C) (rfl) (Q.out.b) (Q.out.c)).mono ?_
  rintro e w' ⟨rfl, b⟩
  replace hB := hB.trans (b.mono hB.size); clear b
  go_wp2_with fail
  refine (mul_c _ A (NB (sv B + sv C)) (sv A * (sv B + sv C)) (by rw [sv_NB]) (Q.out.a) (Q.out.bc)).mono ?_
  rintro e w' ⟨rfl, b⟩
  replace hB := hB.trans (b.mono hB.size); clear b
  go_wp2_with fail
  refine (mul_c _ A B (sv A * sv B) (rfl) (Q.out.a) (Q.out.b)).mono ?_
  rintro e w' ⟨rfl, b⟩
  replace hB := hB.trans (b.mono hB.size); clear b
  go_wp2_with fail
  refine (mul_c _ A C (sv A * sv C) (rfl) (Q.out.a) (Q.out.c)).mono ?_
  rintro e w' ⟨rfl, b⟩
  replace hB := hB.trans (b.mono hB.size); clear b
  go_wp2_with fail
  refine (add_c _ (NB (sv A * sv B)) (NB (sv A * sv C)) (sv A * (sv B + sv C)) (by rw [sv_NB, sv_NB, Nat.mul_add]) (Q.out.mab) (Q.out.mac)).mono ?_
  rintro e w' ⟨rfl, b⟩
  replace hB := hB.trans (b.mono hB.size); clear b
  go_wp2_with fail
  refine (mul0_c _ A Q.out.a).mono ?_
  rintro e w' ⟨rfl, b⟩
  replace hB := hB.trans (b.mono hB.size); clear b
  go_wp2_with fail
  refine (mul1_c _ A Q.out.a).mono ?_
  rintro e w' ⟨rfl, b⟩
  replace hB := hB.trans (b.mono hB.size); clear b
  go_wp2
  go_ret
  exact ⟨rfl, hB⟩
end Go.Proofs.YtkpkifhjedlieaaDoor
