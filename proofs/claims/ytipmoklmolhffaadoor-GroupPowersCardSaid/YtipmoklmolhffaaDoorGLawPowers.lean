/-
  The walk of the law GroupPowers.
-/
import Derived.Test.YtipmoklmolhffaaDoorGNumber
namespace Go.Proofs.YtipmoklmolhffaaDoor.G4
open Go.RowKit GM SH
/-- the tables lie in memory -/
structure TB (w : World) : Prop where
  sq : SQ w
  cb : CB w
theorem TB.below {u w : World} (h : TB u) (hb : Below u.heap.size u w) : TB w := ⟨h.sq.below hb h.sq.lt, h.cb.below hb h.cb.lt⟩
theorem and62 (n : Int) : bits .and .i64 n 4611686018427387903 = n % 4611686018427387904 := by
  have h127 : (BitVec.ofInt 64 4611686018427387903).toNat = 2 ^ 62 - 1 := by decide
  have key : (BitVec.ofInt 64 n &&& BitVec.ofInt 64 4611686018427387903).toNat = (n % ((2 ^ 64 : Nat) : Int)).toNat % 2 ^ 62 := by
    rw [BitVec.toNat_and, BitVec.toNat_ofInt, h127, Nat.and_two_pow_sub_one_eq_mod]
  show IntKind.i64.wrap ((BitVec.ofInt 64 n &&& BitVec.ofInt 64 4611686018427387903).toNat : Nat) = n % 4611686018427387904
  rw [key, IntKind.wrap_i64]
  omega
theorem mem_iff (a : Int) : mem a = true ↔ memG gP gQ a := by
  unfold mem memG
  have e : gp a 1152921504606845789 2305843009213691579 = a^gQ % (gP : Int) := rfl
  rw [e]
  simp only [Bool.and_eq_true, decide_eq_true_eq, beq_iff_eq, and_assoc]
  exact Iff.rfl
theorem gpP (a : Int) (n : Nat) : gp a (n : Int) 2305843009213691579 = a^n % (gP : Int) := by
  unfold gp; rw [if_neg (by omega), Int.toNat_natCast]; rfl
theorem gmP (a b : Int) : gm a b 2305843009213691579 = a * b % (gP : Int) := by
  unfold gm; rw [if_neg (by omega)]; rfl
theorem gaQ (x y : Nat) : ga (x : Int) (y : Int) 1152921504606845789 = (((x + y) % gQ : Nat) : Int) := by
  unfold ga; rw [if_neg (by omega), Int.natCast_emod, Int.natCast_add]; rfl
theorem gmQ (x y : Nat) : gm (x : Int) (y : Int) 1152921504606845789 = (((x * y) % gQ : Nat) : Int) := by
  unfold gm; rw [if_neg (by omega), Int.natCast_emod, Int.natCast_mul]; rfl
theorem pow_res {a : Int} (h : memG gP gQ a) (x : Nat) : gp a ((x % gQ : Nat) : Int) 2305843009213691579 = gp a (x : Int) 2305843009213691579 := by
  rw [gpP, gpP, grp.residue h]
theorem pow_sum {a : Int} (h : memG gP gQ a) (x y : Nat) : gp a (ga (x : Int) (y : Int) 1152921504606845789) 2305843009213691579 = gm (gp a (x : Int) 2305843009213691579) (gp a (y : Int) 2305843009213691579) 2305843009213691579 := by
  rw [gaQ, gpP, gpP, gpP, gmP, grp.residue h, Int.pow_add, mul_l, mul_r]
theorem pow_prod {a : Int} (h : memG gP gQ a) (x y : Nat) : gp a (gm (x : Int) (y : Int) 1152921504606845789) 2305843009213691579 = gp (gp a (x : Int) 2305843009213691579) (y : Int) 2305843009213691579 := by
  rw [gmQ, gpP, gpP, gpP, grp.residue h, pow_emod, Int.pow_mul]
set_option maxRecDepth 100000 in
set_option maxHeartbeats 4000000 in
theorem powers_walk (w : World) (s : ByteArray) (hs : s.size ≤ 140737488355326) (e : Int) (_he : -9223372036854775808 ≤ e ∧ e ≤ 9223372036854775807) (f : Int) (_hf : -9223372036854775808 ≤ f ∧ f ≤ 9223372036854775807) (hT : TB w) :
    Calls Tryd.prog 3 #[.string s, .int .i64 e, .int .i64 f] w fun e w' => e = .returned (.bool true) ∧ Below w.heap.size w w' := by
  obtain ⟨x, hx, hx2⟩ : ∃ x : Nat, bits .and .i64 e 4611686018427387903 = (x : Int) ∧ x < 4611686018427387904 := ⟨(e % 4611686018427387904).toNat, by rw [and62]; omega, by omega⟩
  obtain ⟨y, hy, hy2⟩ : ∃ x : Nat, bits .and .i64 f 4611686018427387903 = (x : Int) ∧ x < 4611686018427387904 := ⟨(f % 4611686018427387904).toNat, by rw [and62]; omega, by omega⟩
  have hae := el_rng s
  have hma := el_mem s
  have R1 := Lib.hid fun W => Element_any W s hs
  generalize el s = a at *
  obtain ⟨p, hp⟩ : ∃ p, gp a (x : Int) 2305843009213691579 = p := ⟨_, rfl⟩
  obtain ⟨q, hq⟩ : ∃ p, gp a (y : Int) 2305843009213691579 = p := ⟨_, rfl⟩
  obtain ⟨r, hr⟩ : ∃ r, gm p q 2305843009213691579 = r := ⟨_, rfl⟩
  obtain ⟨t, ht⟩ : ∃ t, gp p (y : Int) 2305843009213691579 = t := ⟨_, rfl⟩
  obtain ⟨z, hz⟩ : ∃ z : Nat, x % gQ = z := ⟨_, rfl⟩
  obtain ⟨u, hu⟩ : ∃ u, ga (x : Int) (y : Int) 1152921504606845789 = u := ⟨_, rfl⟩
  obtain ⟨v, hv⟩ : ∃ u, gm (x : Int) (y : Int) 1152921504606845789 = u := ⟨_, rfl⟩
  have hpe := gp_rng a (x : Int) 2305843009213691579
  rw [hp] at hpe
  have hqe := gp_rng a (y : Int) 2305843009213691579
  rw [hq] at hqe
  have hue := ga_rng (x : Int) (y : Int) 1152921504606845789
  rw [hu] at hue
  have hve := gm_rng (x : Int) (y : Int) 1152921504606845789
  rw [hv] at hve
  have hz1 : (x : Int).tmod 1152921504606845789 = (z : Int) := by
    rw [Int.tmod_eq_emod_of_nonneg (by omega), ← hz, Int.natCast_emod]; rfl
  have hz2 : z ≤ x := by rw [← hz]; exact Nat.mod_le _ _
  have P1 := Lib.hid fun W => pow_k W a x 2305843009213691579 p hp (by omega) (by omega) (by omega) (by omega)
  have P2 := Lib.hid fun W => pow_k W a y 2305843009213691579 q hq (by omega) (by omega) (by omega) (by omega)
  have P3 := Lib.hid fun W => pow_k W a z 2305843009213691579 p (by rw [← hz, pow_res hma, hp]) (by omega) (by omega) (by omega) (by omega)
  have M1 := Lib.hid fun W => member_k W a true ((mem_iff _).2 hma) (by omega) (by omega)
  have M2 := Lib.hid fun W => member_k W p true ((mem_iff _).2 (by rw [← hp, gpP]; exact grp.pow hma x)) (by omega) (by omega)
  have X1 := Lib.hid fun W => mul_k W p q 2305843009213691579 r hr (by omega) (by omega) (by omega) (by omega) (by omega)
  have A1 := Lib.hid fun W => add_k W (x : Int) (y : Int) 1152921504606845789 u hu (by omega) (by omega) (by omega) (by omega) (by omega)
  have P4 := Lib.hid fun W => pow_k W a u 2305843009213691579 r (by rw [← hu, pow_sum hma, hp, hq, hr]) (by omega) (by omega) (by omega) (by omega)
  have P5 := Lib.hid fun W => pow_k W p y 2305843009213691579 t ht (by omega) (by omega) (by omega) (by omega)
  have X2 := Lib.hid fun W => mul_k W (x : Int) (y : Int) 1152921504606845789 v hv (by omega) (by omega) (by omega) (by omega) (by omega)
  have P6 := Lib.hid fun W => pow_k W a v 2305843009213691579 t (by rw [← hv, pow_prod hma, hp, ht]) (by omega) (by omega) (by omega) (by omega)
  have HH := Lib.hid (And.intro hp (And.intro hq (And.intro hr (And.intro ht (And.intro hz (And.intro hu (And.intro hv hma)))))))
  clear hp hq hr ht hz hu hv hma hpe hqe hue hve
  have HT := Lib.hid hT; clear hT
  go_enter Tryd.func3, Tryd.ntmps3
  go_wp2_with fail
  refine (sanity_any _).mono ?_
  rintro e w1 ⟨rfl, b1⟩
  have t1 := Lib.hid (HT.out.below b1)
  have hB := Lib.hid b1; clear b1
  go_wp2_with fail
  refine (R1.out _ t1.out.sq t1.out.cb).mono ?_
  rintro e w2 ⟨rfl, b2⟩
  replace hB := Lib.hid (hB.out.trans (b2.mono hB.out.size)); clear b2 t1
  go_wp2_with fail
  refine (P1.out _).mono ?_
  rintro e w3 ⟨rfl, b2⟩
  replace hB := Lib.hid (hB.out.trans (b2.mono hB.out.size)); clear b2
  go_wp2_with fail
  refine (P2.out _).mono ?_
  rintro e w4 ⟨rfl, b2⟩
  replace hB := Lib.hid (hB.out.trans (b2.mono hB.out.size)); clear b2
  go_wp2_with fail
  refine (M1.out _).mono ?_
  rintro e w5 ⟨rfl, b2⟩
  replace hB := Lib.hid (hB.out.trans (b2.mono hB.out.size)); clear b2
  go_wp2_with fail
  refine (M2.out _).mono ?_
  rintro e w6 ⟨rfl, b2⟩
  replace hB := Lib.hid (hB.out.trans (b2.mono hB.out.size)); clear b2
  go_wp2_with fail
  refine (P3.out _).mono ?_
  rintro e w7 ⟨rfl, b2⟩
  replace hB := Lib.hid (hB.out.trans (b2.mono hB.out.size)); clear b2
  go_wp2_with fail
  refine (X1.out _).mono ?_
  rintro e w8 ⟨rfl, rfl⟩
  go_wp2_with fail
  refine (A1.out _).mono ?_
  rintro e w9 ⟨rfl, rfl⟩
  go_wp2_with fail
  refine (P4.out _).mono ?_
  rintro e w10 ⟨rfl, b2⟩
  replace hB := Lib.hid (hB.out.trans (b2.mono hB.out.size)); clear b2
  go_wp2_with fail
  refine (P5.out _).mono ?_
  rintro e w11 ⟨rfl, b2⟩
  replace hB := Lib.hid (hB.out.trans (b2.mono hB.out.size)); clear b2
  go_wp2_with fail
  refine (X2.out _).mono ?_
  rintro e w12 ⟨rfl, rfl⟩
  go_wp2_with fail
  refine (P6.out _).mono ?_
  rintro e w13 ⟨rfl, b2⟩
  replace hB := Lib.hid (hB.out.trans (b2.mono hB.out.size)); clear b2
  go_wp2
  go_ret
  exact ⟨rfl, hB.out⟩
end Go.Proofs.YtipmoklmolhffaaDoor.G4
