/-
  The walk of the law NatGcds.
-/
import Derived.Test.YtkpkifhjedlieaaGreatDoorRefGcd
import Derived.Test.YtkpkifhjedlieaaGreatDoorGcdB
import Derived.Test.YtkpkifhjedlieaaGreatDoorSanity
import Derived.Test.YtkpkifhjedlieaaGreatDoorArg
import Derived.Deep.RegionHeld
namespace Go.Proofs.YtkpkifhjedlieaaGreatDoor
open Go.RowKit NM
theorem gcdN_c (w : World) (a b : ByteArray) (g : Nat) (h : Nat.gcd (sv a) (sv b) = g) (ha : a.size ≤ 4294967296) (hb : b.size ≤ 4294967296) (hT : DB w) (hg : 2 < w.heap.size) :
    Calls Tryz.prog 25 #[.string a, .string b] w fun e w' => e = .returned (.string (NB g)) ∧ Below w.heap.size w w' := by
  have := Gcd_any w a b ha hb hT hg
  rwa [show GcdV a b = .string (NB g) by unfold GcdV; rw [h]] at this
theorem gcdR_c (w : World) (a b : ByteArray) (g : Nat) (h : Nat.gcd (sv a) (sv b) = g) (ha : a.size ≤ 1000000000) (hb : b.size ≤ 1000000000) :
    Calls Tryz.prog 26 #[.string a, .string b] w fun e w' => e = .returned (.string (NB g)) ∧ Below w.heap.size w w' := by
  have := RefGcd_any w a b ha hb
  rwa [show GcdV a b = .string (NB g) by unfold GcdV; rw [h]] at this
structure GS (A B C : ByteArray) : Prop where
  a : A.size ≤ 1000000000
  b : B.size ≤ 1000000000
  c : C.size ≤ 1000000000
  g : (NB (Nat.gcd (sv A) (sv B))).size ≤ 1000000000
  ac : (NB (sv A * sv C)).size ≤ 1000000000
  bc : (NB (sv B * sv C)).size ≤ 1000000000
theorem mul40 (A B : ByteArray) (hA : A.size ≤ 40) (hB : B.size ≤ 40) : (NB (sv A * sv B)).size ≤ 1000000000 := by
  have a := Nat.lt_of_lt_of_le (sv_lt_size A) (Nat.pow_le_pow_right (show 256 > 0 by omega) hA)
  have b := Nat.lt_of_lt_of_le (sv_lt_size B) (Nat.pow_le_pow_right (show 256 > 0 by omega) hB)
  exact Nat.le_trans (NB_size (k := 80) (by rw [show 256^80 = 256^40 * 256^40 by rw [← Nat.pow_add]]; exact Nat.mul_lt_mul'' a b)) (by omega)
theorem gcd_sizes (A B C : ByteArray) (hA : A.size ≤ 40) (hB : B.size ≤ 40) (hC : C.size ≤ 40) : GS A B C := by
  have a := Nat.lt_of_lt_of_le (sv_lt_size A) (Nat.pow_le_pow_right (show 256 > 0 by omega) hA)
  have b := Nat.lt_of_lt_of_le (sv_lt_size B) (Nat.pow_le_pow_right (show 256 > 0 by omega) hB)
  refine ⟨by omega, by omega, by omega, Nat.le_trans (NB_size (k := 40) ?_) (by omega), mul40 A C hA hC, mul40 B C hB hC⟩
  by_cases h : sv A = 0
  · rw [h, Nat.gcd_zero_left]; exact b
  · exact Nat.lt_of_le_of_lt (Nat.gcd_le_left _ (Nat.pos_of_ne_zero h)) a
set_option maxRecDepth 100000 in
set_option maxHeartbeats 8000000 in
theorem gcds_walk (w : World) (v0 v1 v2 : Value) (h0 : MArg w 20 v0) (h1 : MArg w 20 v1) (h2 : MArg w 20 v2)
    (hT : DB w) (hg : 2 < w.heap.size) (hP : P10 w) (hg2 : 3 < w.heap.size) :
    Calls Tryz.prog 6 #[v0, v1, v2] w fun e w' => e = .returned (.bool true) ∧ Below w.heap.size w w' := by
  obtain ⟨p, N, cap, m, rfl, hm', hmc, hmN, hcv⟩ := h0
  obtain ⟨p1, N1, cap1, m1, rfl, hm1', hmc1, hmN1, hcv1⟩ := h1
  obtain ⟨p2, N2, cap2, m2, rfl, hm2', hmc2, hmN2, hcv2⟩ := h2
  have hm : min (N : Int) 20 = (m : Int) := hm'
  have hm1 : min (N1 : Int) 20 = (m1 : Int) := hm1'
  have hm2 : min (N2 : Int) 20 = (m2 : Int) := hm2'
  clear hm' hm1' hm2'
  have hB := Below.refl w.heap.size w
  have HT := Lib.hid hT
  go_enter Tryz.func6, Tryz.ntmps6
  go_wp2_with fail
  refine (sanity_any w hT hg hP hg2).mono ?_
  rintro e W1 ⟨rfl, b⟩
  replace hB := hB.trans (b.mono hB.size); clear b hT hP
  have k0 := hcv W1.drew hB.drew
  have k1 := hcv1 W1.drew hB.drew
  have k2 := hcv2 W1.drew hB.drew
  clear hcv hcv1 hcv2
  go_wp2_with fail
  go_region_held3 (fun _ => True) (trivial)
    (first
      | (go_at_call 11; go_fit k0; rintro e w5 ⟨A, sA, rfl, rfl⟩)
      | (go_at_call 11; go_fit k1; rintro e w6 ⟨B, sB, rfl, rfl⟩)
      | (go_at_call 11; go_fit k2; rintro e w7 ⟨C, sC, rfl, rfl⟩))
  all_goals
    have S := Lib.hid (gcd_sizes A B C sA sB sC)
    clear sA sB sC k0 k1 k2
    replace hB := hB.drew
    clear hm hm1 hm2 hmc hmc1 hmc2 hmN hmN1 hmN2
    have db := fun (W : World) (h : Below w.heap.size w W) => DB.below HT.out h hg
    have gs := fun (W : World) (h : Below w.heap.size w W) => Nat.lt_of_lt_of_le hg h.size
    have HD := Lib.hid (And.intro db gs); clear db gs
    obtain ⟨g, hgd⟩ : ∃ g, Nat.gcd (sv A) (sv B) = g := ⟨_, rfl⟩
    have hgd2 : Nat.gcd (sv B) (sv A) = g := by rw [Nat.gcd_comm]; exact hgd
    have hgd3 : Nat.gcd (sv (NB (sv A * sv C))) (sv (NB (sv B * sv C))) = g * sv C := by rw [sv_NB, sv_NB, Nat.gcd_mul_right, hgd]
    have hgs : (NB g).size ≤ 1000000000 := by rw [← hgd]; exact S.out.g
    have HG := Lib.hid (And.intro hgd (And.intro hgd2 (And.intro hgd3 hgs))); clear hgd hgd2 hgd3 hgs
    generalize W1.drew = W2 at *
    go_wp2_with fail
    refine (gcdN_c _ A B g HG.out.1 (Nat.le_trans S.out.a (by omega)) (Nat.le_trans S.out.b (by omega)) (HD.out.1 _ hB) (HD.out.2 _ hB)).mono ?_
    rintro e w8 ⟨rfl, b⟩
    replace hB := hB.trans (b.mono hB.size); clear b
    go_wp2_with fail
    refine (gcdR_c _ A B g HG.out.1 S.out.a S.out.b).mono ?_
    rintro e w8 ⟨rfl, b⟩
    replace hB := hB.trans (b.mono hB.size); clear b
    go_wp2_with fail
    refine (gcdN_c _ B A g HG.out.2.1 (Nat.le_trans S.out.b (by omega)) (Nat.le_trans S.out.a (by omega)) (HD.out.1 _ hB) (HD.out.2 _ hB)).mono ?_
    rintro e w8 ⟨rfl, b⟩
    replace hB := hB.trans (b.mono hB.size); clear b
    go_wp2_with fail
    refine (mulR_c _ A C _ rfl S.out.a S.out.c).mono ?_
    rintro e w8 ⟨rfl, b⟩
    replace hB := hB.trans (b.mono hB.size); clear b
    go_wp2_with fail
    refine (mulR_c _ B C _ rfl S.out.b S.out.c).mono ?_
    rintro e w8 ⟨rfl, b⟩
    replace hB := hB.trans (b.mono hB.size); clear b
    go_wp2_with fail
    refine (gcdN_c _ (NB (sv A * sv C)) (NB (sv B * sv C)) (g * sv C) HG.out.2.2.1 (Nat.le_trans S.out.ac (by omega)) (Nat.le_trans S.out.bc (by omega)) (HD.out.1 _ hB) (HD.out.2 _ hB)).mono ?_
    rintro e w8 ⟨rfl, b⟩
    replace hB := hB.trans (b.mono hB.size); clear b
    go_wp2_with fail
    refine (mulR_c _ (NB g) C (g * sv C) (by rw [sv_NB]) HG.out.2.2.2 S.out.c).mono ?_
    rintro e w8 ⟨rfl, b⟩
    replace hB := hB.trans (b.mono hB.size); clear b
    go_wp2
    go_ret
    exact ⟨rfl, hB⟩
end Go.Proofs.YtkpkifhjedlieaaGreatDoor
