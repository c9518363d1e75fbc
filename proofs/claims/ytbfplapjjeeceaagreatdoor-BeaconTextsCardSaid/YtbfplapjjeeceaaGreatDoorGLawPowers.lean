/-
  The walks of group.number, and of group.Scalar and group.Element.
  The walk of the law GroupPowers.
-/
import Derived.Test.YtbfplapjjeeceaaGreatDoorGSan
import Derived.Test.YtbfplapjjeeceaaGreatDoorSumD
import Derived.OpenShut
import Derived.Laws.Bits128
namespace Go.Proofs.YtbfplapjjeeceaaGreatDoor.G4
open Go.RowKit GM SH
/-- the first k bytes of l as a number, to the base 256 -/
def num (l : List UInt8) : Nat → Nat
  | 0 => 0
  | k+1 => num l k * 256 + gb l k
/-- the number of a hash -/
def hnum (l : List UInt8) : Int := (num l 8 : Int) % 9223372036854775808
theorem hnum_lt (l : List UInt8) : 0 ≤ hnum l ∧ hnum l < 9223372036854775808 := by unfold hnum; omega
theorem or_byte (v d : Nat) (hd : d < 256) : bits .or .i64 (wrap64 ((v : Int) * 256)) (d : Int) = wrap64 ((v * 256 + d : Nat) : Int) := by
  have e1 : (wrap64 ((v : Int) * 256) % ((2 ^ 64 : Nat) : Int)).toNat = 2 ^ 8 * (v % 2 ^ 56) := by unfold wrap64; omega
  have e2 : ((d : Int) % ((2 ^ 64 : Nat) : Int)).toNat = d := by omega
  have key : (BitVec.ofInt 64 (wrap64 ((v : Int) * 256)) ||| BitVec.ofInt 64 (d : Int)).toNat = 2 ^ 8 * (v % 2 ^ 56) + d := by
    rw [BitVec.toNat_or, BitVec.toNat_ofInt, BitVec.toNat_ofInt, e1, e2, ← Nat.two_pow_add_eq_or_of_lt (i := 8) hd]
  show IntKind.i64.wrap ((BitVec.ofInt 64 (wrap64 ((v : Int) * 256)) ||| BitVec.ofInt 64 (d : Int)).toNat : Nat) = _
  rw [key, IntKind.wrap_i64]
  unfold wrap64
  omega
theorem wrap_in (v : Int) : wrap64 (wrap64 v * 256) = wrap64 (v * 256) := by unfold wrap64; omega
theorem and63 (n : Int) : bits .and .i64 n 9223372036854775807 = n % 9223372036854775808 := by
  have h127 : (BitVec.ofInt 64 9223372036854775807).toNat = 2 ^ 63 - 1 := by decide
  have key : (BitVec.ofInt 64 n &&& BitVec.ofInt 64 9223372036854775807).toNat = (n % ((2 ^ 64 : Nat) : Int)).toNat % 2 ^ 63 := by
    rw [BitVec.toNat_and, BitVec.toNat_ofInt, h127, Nat.and_two_pow_sub_one_eq_mod]
  show IntKind.i64.wrap ((BitVec.ofInt 64 n &&& BitVec.ofInt 64 9223372036854775807).toNat : Nat) = n % 9223372036854775808
  rw [key, IntKind.wrap_i64]
  omega
theorem wrap63 (n : Int) : wrap64 n % 9223372036854775808 = n % 9223372036854775808 := by unfold wrap64; omega
set_option maxRecDepth 100000 in
theorem number_any (w : World) (l : List UInt8) (hl : l.length = 32) :
    Calls Tryz.prog 65 #[hval l] w fun e w' => e = .returned (.int .i64 (hnum l)) ∧ Below w.heap.size w w' := by
  obtain ⟨W, hW⟩ : ∃ W, w.alloc (.cells (hcells l) 109) = W := ⟨_, rfl⟩
  have hB : Below w.heap.size w W := by rw [← hW]; exact (Below.refl _ w).alloc (Nat.le_refl _) _
  have hM : HM W w.heap.size l := by rw [← hW]; exact heap_alloc_new _ _
  have hC := Lib.hid (fun j (hj : j < 32) => hM.cell j (by omega))
  clear hM
  have HB := Lib.hid hB; clear hB
  go_enter Tryz.func65, Tryz.ntmps65
  go_upto_region 1 with fail
  clear hW
  go_wp2_with fail
  go_loop [3, 8] (fun n i => ∃ (k : Nat) (V : Int), k ≤ 8 ∧ Hid (V = wrap64 (num l k : Nat)) ∧ n = .int .i64 V ∧ i = .int .i64 k) (fun _ i => 8 - (intOf i).toNat)
  case atStart => exact ⟨0, 0, Nat.zero_le _, Lib.hid (by simp [num, wrap64]), rfl, rfl⟩
  case round =>
    obtain ⟨k, V, hk, hV, rfl, rfl⟩ := hrel
    by_cases hk8 : k < 8
    · have hc := hC.out k (by omega)
      have hg : gb l k < 256 := gb_lt l k
      have hN := Lib.hid (show bits .or .i64 (wrap64 (V * 256)) (gb l k : Nat) = wrap64 (num l (k+1) : Nat) by rw [hV.out, wrap_in, or_byte _ _ hg]; rfl)
      generalize gb l k = d at *
      go_wp2
      exact ⟨⟨k + 1, _, by omega, hN, rfl, by go_num⟩, by simp only [intOf]; omega⟩
    · obtain rfl : k = 8 := by omega
      have hN := Lib.hid (show bits .and .i64 V 9223372036854775807 = hnum l by rw [hV.out, and63, wrap63]; rfl)
      go_wp2
      go_ret
      exact ⟨ret_int hN.out, HB.out⟩
/-- the number of a text -/
def sc (t : ByteArray) : Int := hnum (sha ((⟨#[115, 47]⟩ : ByteArray) ++ t).data.toList) % 1152921504606845789
/-- the root of a text's member, and the member -/
def rt (t : ByteArray) : Int := 1 + hnum (sha ((⟨#[101, 47]⟩ : ByteArray) ++ t).data.toList) % 2305843009213691578
def el (t : ByteArray) : Int := gm (rt t) (rt t) 2305843009213691579
theorem sc_rng (t : ByteArray) : 0 ≤ sc t ∧ sc t < 1152921504606845789 := by unfold sc; omega
theorem rt_rng (t : ByteArray) : 0 < rt t ∧ rt t < 2305843009213691579 := by unfold rt; omega
theorem el_rng (t : ByteArray) : 0 ≤ el t ∧ el t < 2305843009213691579 := by
  have := gm_rng (rt t) (rt t) 2305843009213691579
  unfold el
  omega
theorem el_mem (t : ByteArray) : memG gP gQ (el t) := by
  have h := grp.square (rt t) (rt_rng t).1 (rt_rng t).2
  have e : el t = rt t * rt t % (gP : Int) := by unfold el gm; rw [if_neg (by omega)]; rfl
  rw [e]; exact h
theorem sha_len (l : List UInt8) : (sha l).length = 32 := by simp [sha, out]
theorem pre_size (a b : UInt8) (t : ByteArray) : ((⟨#[a, b]⟩ : ByteArray) ++ t).size = 2 + t.size := by rw [ByteArray.size_append]; rfl
set_option maxRecDepth 100000 in
theorem Scalar_any (w : World) (t : ByteArray) (hn : t.size ≤ 140737488355326) (hS : SQ w) (hC : CB w) :
    Calls Tryz.prog 109 #[.string t] w fun e w' => e = .returned (.int .i64 (sc t)) ∧ Below w.heap.size w w' := by
  have hbig : (9223372036854775807 < 2 + t.size) = False := eq_false (by omega)
  have R1 := Sum_any w ((⟨#[115, 47]⟩ : ByteArray) ++ t) (by rw [pre_size]; omega) hS hC
  have E := Lib.hid (show sc t = hnum (sha ((⟨#[115, 47]⟩ : ByteArray) ++ t).data.toList) % 1152921504606845789 from rfl)
  obtain ⟨l, hl⟩ : ∃ l, sha ((⟨#[115, 47]⟩ : ByteArray) ++ t).data.toList = l := ⟨_, rfl⟩
  have hl32 : l.length = 32 := by rw [← hl]; exact sha_len _
  rw [hl] at R1 E
  have R2 := Lib.hid fun W => number_any W l hl32
  have R1 := Lib.hid R1
  have hr := hnum_lt l
  have hmod : Int.tmod (hnum l) 1152921504606845789 = hnum l % 1152921504606845789 := Int.tmod_eq_emod_of_nonneg hr.1
  clear hl hl32
  generalize hnum l = v at *
  obtain ⟨u, hu⟩ : ∃ u, v % 1152921504606845789 = u := ⟨_, rfl⟩
  rw [hu] at hmod E
  have hu2 : 0 ≤ u ∧ u < 1152921504606845789 := by omega
  have HU := Lib.hid hu
  clear hu
  go_enter Tryz.func109, Tryz.ntmps109
  go_wp2_with fail
  refine R1.out.mono ?_
  rintro e w1 ⟨rfl, b1⟩
  go_wp2_with fail
  refine (R2.out _).mono ?_
  rintro e w2 ⟨rfl, b2⟩
  go_wp2
  go_ret
  exact ⟨ret_int E.out.symm, b1.trans (b2.mono b1.size)⟩
set_option maxRecDepth 100000 in
theorem Element_any (w : World) (t : ByteArray) (hn : t.size ≤ 140737488355326) (hS : SQ w) (hC : CB w) :
    Calls Tryz.prog 34 #[.string t] w fun e w' => e = .returned (.int .i64 (el t)) ∧ Below w.heap.size w w' := by
  have hbig : (9223372036854775807 < 2 + t.size) = False := eq_false (by omega)
  have R1 := Sum_any w ((⟨#[101, 47]⟩ : ByteArray) ++ t) (by rw [pre_size]; omega) hS hC
  have E := Lib.hid (show rt t = 1 + hnum (sha ((⟨#[101, 47]⟩ : ByteArray) ++ t).data.toList) % 2305843009213691578 from rfl)
  have hrt := rt_rng t
  have R3 := Lib.hid fun W => mul_k W (rt t) (rt t) 2305843009213691579 (el t) rfl (by omega) (by omega) (by omega) (by omega) (by omega)
  obtain ⟨l, hl⟩ : ∃ l, sha ((⟨#[101, 47]⟩ : ByteArray) ++ t).data.toList = l := ⟨_, rfl⟩
  have hl32 : l.length = 32 := by rw [← hl]; exact sha_len _
  rw [hl] at R1 E
  have R2 := Lib.hid fun W => number_any W l hl32
  have R1 := Lib.hid R1
  have hr := hnum_lt l
  have hmod : Int.tmod (hnum l) 2305843009213691578 = hnum l % 2305843009213691578 := Int.tmod_eq_emod_of_nonneg hr.1
  clear hl hl32
  generalize hnum l = v at *
  obtain ⟨u, hu⟩ : ∃ u, v % 2305843009213691578 = u := ⟨_, rfl⟩
  rw [hu] at hmod E
  have hu2 : 0 ≤ u ∧ u < 2305843009213691578 := by omega
  have HU := Lib.hid hu
  rw [E.out] at R3
  generalize el t = z at *
  clear hu hrt E
  go_enter Tryz.func34, Tryz.ntmps34
  go_wp2_with fail
  refine R1.out.mono ?_
  rintro e w1 ⟨rfl, b1⟩
  go_wp2_with fail
  refine (R2.out _).mono ?_
  rintro e w2 ⟨rfl, b2⟩
  go_wp2_with fail
  refine (R3.out _).mono ?_
  rintro e w3 ⟨rfl, rfl⟩
  go_wp2
  go_ret
  exact ⟨rfl, b1.trans (b2.mono b1.size)⟩
end Go.Proofs.YtbfplapjjeeceaaGreatDoor.G4
namespace Go.Proofs.YtbfplapjjeeceaaGreatDoor.G4
open Go.RowKit GM SH
/-- the tables lie in memory -/
structure TB (w : World) : Prop where
  sq : SQ w
  cb : CB w
theorem TB.below {u w : World} (h : TB u) (hb : Below u.heap.size u w) : TB w := ⟨h.sq.below hb h.sq.lt, h.cb.below hb h.cb.lt⟩
theorem mem_iff (a : Int) : mem a = true ↔ memG gP gQ a := by
  unfold mem memG
  have e : gp a 1152921504606845789 2305843009213691579 = a^gQ % (gP : Int) := rfl
  rw [e]
  simp only [Bool.and_eq_true, decide_eq_true_eq, beq_iff_eq, and_assoc]
  exact Iff.rfl
theorem gpP (a : Int) (n : Nat) : gp a (n : Int) 2305843009213691579 = a^n % (gP : Int) := by
  unfold gp; rw [if_neg (by omega), Int.toNat_natCast]; rfl
theorem gmP (a b : Int) : gm a b 2305843009213691579 = a * b % (gP : Int) := by
  unfold gm; rw [if_neg (by omega)]; rfl
theorem gaQ (x y : Nat) : ga (x : Int) (y : Int) 1152921504606845789 = (((x + y) % gQ : Nat) : Int) := by
  unfold ga; rw [if_neg (by omega), Int.natCast_emod, Int.natCast_add]; rfl
theorem gmQ (x y : Nat) : gm (x : Int) (y : Int) 1152921504606845789 = (((x * y) % gQ : Nat) : Int) := by
  unfold gm; rw [if_neg (by omega), Int.natCast_emod, Int.natCast_mul]; rfl
theorem pow_sum {a : Int} (h : memG gP gQ a) (x y : Nat) : gp a (ga (x : Int) (y : Int) 1152921504606845789) 2305843009213691579 = gm (gp a (x : Int) 2305843009213691579) (gp a (y : Int) 2305843009213691579) 2305843009213691579 := by
  rw [gaQ, gpP, gpP, gpP, gmP, grp.residue h, Int.pow_add, mul_l, mul_r]
theorem pow_prod {a : Int} (h : memG gP gQ a) (x y : Nat) : gp a (gm (x : Int) (y : Int) 1152921504606845789) 2305843009213691579 = gp (gp a (x : Int) 2305843009213691579) (y : Int) 2305843009213691579 := by
  rw [gmQ, gpP, gpP, gpP, grp.residue h, pow_emod, Int.pow_mul]
end Go.Proofs.YtbfplapjjeeceaaGreatDoor.G4
