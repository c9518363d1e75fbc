/-
  The walk of the law NatDivides.
-/
import Derived.Test.YtkpkifhjedlieaaDoorRing
namespace Go.Proofs.YtkpkifhjedlieaaDoor
open Go.RowKit NM
theorem bl_bounds {n : Nat} (h : n ≠ 0) : 2^(bl n - 1) ≤ n ∧ n < 2^(bl n) ∧ 1 ≤ bl n := by
  unfold bl
  rw [if_neg h]
  have h1 := (Nat.log2_eq_iff h).1 rfl
  exact ⟨by rw [Nat.add_sub_cancel]; exact h1.1, h1.2, by omega⟩
theorem bl_mul {a b : Nat} (ha : a ≠ 0) (hb : b ≠ 0) : bl (a * b) = bl a + bl b ∨ bl (a * b) + 1 = bl a + bl b := by
  obtain ⟨a1, a2, a3⟩ := bl_bounds ha
  obtain ⟨b1, b2, b3⟩ := bl_bounds hb
  obtain ⟨i, hi⟩ : ∃ i, bl a = i + 1 := ⟨bl a - 1, by omega⟩
  obtain ⟨j, hj⟩ : ∃ j, bl b = j + 1 := ⟨bl b - 1, by omega⟩
  rw [hi, Nat.add_sub_cancel] at a1
  rw [hi] at a2
  rw [hj, Nat.add_sub_cancel] at b1
  rw [hj] at b2
  rw [hi, hj]
  have lo : 2^(i+j) ≤ a * b := by rw [Nat.pow_add]; exact Nat.mul_le_mul a1 b1
  have hi2 : a * b < 2^(i+j+1+1) := by
    have : a * b < 2^(i+1) * 2^(j+1) := Nat.mul_lt_mul'' a2 b2
    rw [← Nat.pow_add] at this
    rwa [show i + j + 1 + 1 = i + 1 + (j + 1) by omega]
  rcases Nat.lt_or_ge (a * b) (2^(i+j+1)) with h | h
  · right; rw [bl_eq lo h]; omega
  · left; rw [bl_eq h hi2]; omega
theorem bl_zero : bl 0 = 0 := rfl
theorem bitsD_c (w : World) (a : ByteArray) (p : Nat) (h : bl (sv a) = p) (ha : a.size ≤ 4294967296) :
    Calls Tryd.prog 13 #[.string a] w fun e w' => e = .returned (.int .i64 (p : Nat)) ∧ Below w.heap.size w w' := by
  rw [← h]
  exact (Bits_any w a ha).mono fun e w' ⟨h1, h2⟩ => ⟨h1, by rw [← h2]; exact Below.refl _ _⟩
theorem cmpD_c (w : World) (a b : ByteArray) (z : Int) (h : cmpv (sv a) (sv b) = z) (ha : a.size ≤ 4294967296) (hb : b.size ≤ 4294967296) :
    Calls Tryd.prog 14 #[.string a, .string b] w fun e w' => e = .returned (.int .i64 z) ∧ Below w.heap.size w w' := by
  rw [← h]; exact Cmp_any w a b ha hb
theorem rgt_NB (n : Nat) : rgt (NB n) = true := by
  unfold rgt
  rw [NB_list]
  simpa using nb_head n
theorem right_c (w : World) (n : Nat) :
    Calls Tryd.prog 15 #[.string (NB n)] w fun e w' => e = .returned (.bool true) ∧ Below w.heap.size w w' :=
  (Right_any w (NB n)).mono fun e w' ⟨h1, h2⟩ => ⟨by rw [h1, rgt_NB], by rw [← h2]; exact Below.refl _ _⟩
theorem quoD_c (w : World) (a b : ByteArray) (ha : a.size ≤ 4294967296) (hb : b.size ≤ 4294967296) (h : sv b ≠ 0) :
    Calls Tryd.prog 12 #[.string a, .string b] w fun e w' => e = .returned (.tuple #[.string (NB (sv a / sv b)), .string (NB (sv a % sv b)), .bool true]) ∧ Below w.heap.size w w' := by
  have := Quo_any w a b ha hb trivial
  rwa [show QuoV a b = .tuple #[.string (NB (sv a / sv b)), .string (NB (sv a % sv b)), .bool true] by unfold QuoV; rw [if_neg h]] at this
theorem quo0_c (w : World) (a b : ByteArray) (ha : a.size ≤ 4294967296) (hb : b.size ≤ 4294967296) (h : sv b = 0) :
    Calls Tryd.prog 12 #[.string a, .string b] w fun e w' => e = .returned (.tuple #[.string ⟨#[]⟩, .string ⟨#[]⟩, .bool false]) ∧ Below w.heap.size w w' := by
  have := Quo_any w a b ha hb trivial
  rwa [show QuoV a b = .tuple #[.string ⟨#[]⟩, .string ⟨#[]⟩, .bool false] by unfold QuoV; rw [if_pos h]] at this
structure DS (A B : ByteArray) : Prop where
  a : A.size ≤ 4294967296
  b : B.size ≤ 4294967296
  q : (NB (sv A / sv B)).size ≤ 4294967296
  r : (NB (sv A % sv B)).size ≤ 4294967296
  m : (NB (sv B * (sv A / sv B))).size ≤ 4294967296
  aa : (NB (sv A)).size ≤ 4294967296
  mab : (NB (sv A * sv B)).size ≤ 4294967296
  ba : bl (sv A) ≤ 320
  bb : bl (sv B) ≤ 320
theorem small_NB {x : Nat} (h : x < 256^40) : (NB x).size ≤ 4294967296 := Nat.le_trans (NB_size (k := 40) h) (by omega)
theorem div_sizes (A B : ByteArray) (hA : A.size ≤ 40) (hB : B.size ≤ 40) : DS A B := by
  have a := sv_lt A hA
  have b := sv_lt B hB
  have h1 := Nat.div_le_self (sv A) (sv B)
  have h2 := Nat.mod_le (sv A) (sv B)
  have h3 := Nat.mul_div_le (sv A) (sv B)
  have h4 := bl_size A
  have h5 := bl_size B
  exact ⟨by omega, by omega, small_NB (by omega), small_NB (by omega), small_NB (by omega), small_NB a, mul_small a b, by omega, by omega⟩
set_option maxRecDepth 100000 in
set_option maxHeartbeats 8000000 in
theorem divides_walk (w : World) (v0 v1 : Value) (h0 : ∀ W, Below w.heap.size w W → Calls Tryd.prog 7 #[v0] W (MadeQ W)) (h1 : ∀ W, Below w.heap.size w W → Calls Tryd.prog 7 #[v1] W (MadeQ W))
    (hT : DB w) (hg : 2 < w.heap.size) (hP : P10 w) (hg2 : 3 < w.heap.size) :
    Calls Tryd.prog 4 #[v0, v1] w fun e w' => e = .returned (.bool true) ∧ Below w.heap.size w w' := by
  have hB := Below.refl w.heap.size w
  go_enter Tryd.func4, Tryd.ntmps4
  go_wp2_with fail
  refine (sanity_any w hT hg hP hg2).mono ?_
  rintro e w' ⟨rfl, b⟩
  replace hB := hB.trans (b.mono hB.size); clear b
  go_wp2_with fail
  refine (h0 _ hB).mono ?_
  rintro e w' ⟨A, sA, rfl, rfl⟩
  go_wp2_with fail
  refine (h1 _ hB).mono ?_
  rintro e w' ⟨B, sB, rfl, rfl⟩
  have Q := Lib.hid (div_sizes A B sA sB); clear sA sB
  by_cases hb0 : sv B = 0
  · have HB0 := Lib.hid hb0; clear hb0
    go_wp2_with fail
    refine (quo0_c _ A B Q.out.a Q.out.b HB0.out).mono ?_
    rintro e w' ⟨rfl, b⟩
    replace hB := hB.trans (b.mono hB.size); clear b
    go_wp2_with fail
    refine (bitsD_c _ B 0 (by rw [HB0.out]; rfl) Q.out.b).mono ?_
    rintro e w' ⟨rfl, b⟩
    replace hB := hB.trans (b.mono hB.size); clear b
    go_wp2
    go_ret
    exact ⟨rfl, hB⟩
  · have HB0 := Lib.hid hb0; clear hb0
    have hmod : cmpv (sv (NB (sv A % sv B))) (sv B) = -1 := by rw [sv_NB]; exact cmpv_lt (Nat.mod_lt _ (Nat.pos_of_ne_zero HB0.out))
    have hall : sv (NB (sv B * (sv A / sv B))) + sv (NB (sv A % sv B)) = sv A := by rw [sv_NB, sv_NB]; exact Nat.div_add_mod _ _
    have HM := Lib.hid (And.intro hmod hall); clear hmod hall
    obtain ⟨p, hp⟩ : ∃ p, bl (sv A) = p := ⟨_, rfl⟩
    obtain ⟨q, hq⟩ : ∃ q, bl (sv B) = q := ⟨_, rfl⟩
    obtain ⟨r, hr⟩ : ∃ r, bl (sv (NB (sv A * sv B))) = r := ⟨_, rfl⟩
    have hq0 : 1 ≤ q := by rw [← hq]; exact (bl_bounds HB0.out).2.2
    have hpq : (p = 0 ∧ r = 0) ∨ (1 ≤ p ∧ (r = p + q ∨ r + 1 = p + q)) := by
      rw [sv_NB] at hr
      by_cases h : sv A = 0
      · left; rw [h, Nat.zero_mul] at hr; rw [h] at hp; exact ⟨hp.symm, hr.symm⟩
      · right; rw [← hp, ← hq, ← hr]; exact ⟨(bl_bounds h).2.2, bl_mul h HB0.out⟩
    have hp3 : p ≤ 320 := by rw [← hp]; exact Q.out.ba
    have hq3 : q ≤ 320 := by rw [← hq]; exact Q.out.bb
    have HP := Lib.hid hp; have HQ := Lib.hid hq; have HR := Lib.hid hr; clear hp hq hr
    have hqb : ((q : Int) == 0) = false := beq_eq_false_iff_ne.2 (by omega)
    go_wp2_with fail
    refine (quoD_c _ A B Q.out.a Q.out.b HB0.out).mono ?_
    rintro e w' ⟨rfl, b⟩
    replace hB := hB.trans (b.mono hB.size); clear b
    go_wp2_with fail
    refine (bitsD_c _ B q HQ.out Q.out.b).mono ?_
    rintro e w' ⟨rfl, b⟩
    replace hB := hB.trans (b.mono hB.size); clear b
    go_wp2_with fail
    refine (cmpD_c _ (NB (sv A % sv B)) B (-1) HM.out.1 Q.out.r Q.out.b).mono ?_
    rintro e w' ⟨rfl, b⟩
    replace hB := hB.trans (b.mono hB.size); clear b
    go_wp2_with fail
    refine (mul_c _ B (NB (sv A / sv B)) (sv B * (sv A / sv B)) (by rw [sv_NB]) Q.out.b Q.out.q).mono ?_
    rintro e w' ⟨rfl, b⟩
    replace hB := hB.trans (b.mono hB.size); clear b
    go_wp2_with fail
    refine (add_c _ (NB (sv B * (sv A / sv B))) (NB (sv A % sv B)) (sv A) HM.out.2 Q.out.m Q.out.r).mono ?_
    rintro e w' ⟨rfl, b⟩
    replace hB := hB.trans (b.mono hB.size); clear b
    go_wp2_with fail
    refine (cmpD_c _ (NB (sv A)) A 0 (cmpv_eq (by rw [sv_NB])) Q.out.aa Q.out.a).mono ?_
    rintro e w' ⟨rfl, b⟩
    replace hB := hB.trans (b.mono hB.size); clear b
    go_wp2_with fail
    refine (right_c _ (sv A / sv B)).mono ?_
    rintro e w' ⟨rfl, b⟩
    replace hB := hB.trans (b.mono hB.size); clear b
    go_wp2_with fail
    refine (right_c _ (sv A % sv B)).mono ?_
    rintro e w' ⟨rfl, b⟩
    replace hB := hB.trans (b.mono hB.size); clear b
    go_wp2_with fail
    refine (bitsD_c _ A p HP.out Q.out.a).mono ?_
    rintro e w' ⟨rfl, b⟩
    replace hB := hB.trans (b.mono hB.size); clear b
    go_wp2_with fail
    refine (bitsD_c _ B q HQ.out Q.out.b).mono ?_
    rintro e w' ⟨rfl, b⟩
    replace hB := hB.trans (b.mono hB.size); clear b
    go_wp2_with fail
    refine (mul_c _ A B (sv A * sv B) rfl Q.out.a Q.out.b).mono ?_
    rintro e w' ⟨rfl, b⟩
    replace hB := hB.trans (b.mono hB.size); clear b
    go_wp2_with fail
    refine (bitsD_c _ (NB (sv A * sv B)) r HR.out Q.out.mab).mono ?_
    rintro e w' ⟨rfl, b⟩
    replace hB := hB.trans (b.mono hB.size); clear b
    rcases hpq with ⟨rfl, rfl⟩ | ⟨hp1, hpr⟩
    · go_wp2_with fail
      refine (bitsD_c _ A 0 HP.out Q.out.a).mono ?_
      rintro e w' ⟨rfl, b⟩
      replace hB := hB.trans (b.mono hB.size); clear b
      go_wp2_with fail
      refine (bitsD_c _ B q HQ.out Q.out.b).mono ?_
      rintro e w' ⟨rfl, b⟩
      replace hB := hB.trans (b.mono hB.size); clear b
      go_wp2
      go_ret
      exact ⟨rfl, hB⟩
    · have hpb : ((p : Int) == 0) = false := beq_eq_false_iff_ne.2 (by omega)
      have hpb2 : decide ((0 : Int) < (p : Int)) = true := by simp; omega
      have hpb3 : decide (0 < p) = true := by simp; omega
      go_wp2_with fail
      refine (bitsD_c _ A p HP.out Q.out.a).mono ?_
      rintro e w' ⟨rfl, b⟩
      replace hB := hB.trans (b.mono hB.size); clear b
      go_wp2_with fail
      refine (bitsD_c _ A p HP.out Q.out.a).mono ?_
      rintro e w' ⟨rfl, b⟩
      replace hB := hB.trans (b.mono hB.size); clear b
      rcases hpr with rfl | hpr
      · go_wp2
        go_ret
        exact ⟨rfl, hB⟩
      · obtain ⟨p', rfl⟩ : ∃ p', p = p' + 1 := ⟨p - 1, by omega⟩
        obtain rfl : r = p' + q := by omega
        have e1 : ((p' : Int) + 1 + (q : Int) - ((p' : Int) + (q : Int))) = 1 := by omega
        go_wp2
        all_goals go_ret
        exact ⟨rfl, hB⟩
end Go.Proofs.YtkpkifhjedlieaaDoor
