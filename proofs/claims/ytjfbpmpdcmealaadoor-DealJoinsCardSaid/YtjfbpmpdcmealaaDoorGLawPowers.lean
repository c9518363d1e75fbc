/-
  The walk of the law GroupPowers.
-/
import Derived.Test.YtjfbpmpdcmealaaDoorGNumber
namespace Go.Proofs.YtjfbpmpdcmealaaDoor.G4
open Go.RowKit GM SH
/-- the tables lie in memory -/
structure TB (w : World) : Prop where
  sq : SQ w
  cb : CB w
theorem TB.below {u w : World} (h : TB u) (hb : Below u.heap.size u w) : TB w := ⟨h.sq.below hb h.sq.lt, h.cb.below hb h.cb.lt⟩
theorem and62 (n : Int) : bits .and .i64 n 4611686018427387903 = n % 4611686018427387904 := by
  have h127 : (BitVec.ofInt 64 4611686018427387903).toNat = 2 ^ 62 - 1 := by decide
  have key : (BitVec.ofInt 64 n &&& BitVec.ofInt 64 4611686018427387903).toNat = (n % ((2 ^ 64 : Nat) : Int)).toNat % 2 ^ 62 := by
    rw [BitVec.toNat_and, BitVec.toNat_ofInt, h127, Nat.and_two_pow_sub_one_eq_mod]
  show IntKind.i64.wrap ((BitVec.ofInt 64 n &&& BitVec.ofInt 64 4611686018427387903).toNat : Nat) = n % 4611686018427387904
  rw [key, IntKind.wrap_i64]
  omega
theorem mem_iff (a : Int) : mem a = true ↔ memG gP gQ a := by
  unfold mem memG
  have e : gp a 1152921504606845789 2305843009213691579 = a^gQ % (gP : Int) := rfl
  rw [e]
  simp only [Bool.and_eq_true, decide_eq_true_eq, beq_iff_eq, and_assoc]
  exact Iff.rfl
theorem gpP (a : Int) (n : Nat) : gp a (n : Int) 2305843009213691579 = a^n % (gP : Int) := by
  unfold gp; rw [if_neg (by omega), Int.toNat_natCast]; rfl
theorem gmP (a b : Int) : gm a b 2305843009213691579 = a * b % (gP : Int) := by
  unfold gm; rw [if_neg (by omega)]; rfl
theorem gaQ (x y : Nat) : ga (x : Int) (y : Int) 1152921504606845789 = (((x + y) % gQ : Nat) : Int) := by
  unfold ga; rw [if_neg (by omega), Int.natCast_emod, Int.natCast_add]; rfl
theorem gmQ (x y : Nat) : gm (x : Int) (y : Int) 1152921504606845789 = (((x * y) % gQ : Nat) : Int) := by
  unfold gm; rw [if_neg (by omega), Int.natCast_emod, Int.natCast_mul]; rfl
theorem pow_res {a : Int} (h : memG gP gQ a) (x : Nat) : gp a ((x % gQ : Nat) : Int) 2305843009213691579 = gp a (x : Int) 2305843009213691579 := by
  rw [gpP, gpP, grp.residue h]
theorem pow_sum {a : Int} (h : memG gP gQ a) (x y : Nat) : gp a (ga (x : Int) (y : Int) 1152921504606845789) 2305843009213691579 = gm (gp a (x : Int) 2305843009213691579) (gp a (y : Int) 2305843009213691579) 2305843009213691579 := by
  rw [gaQ, gpP, gpP, gpP, gmP, grp.residue h, Int.pow_add, mul_l, mul_r]
theorem pow_prod {a : Int} (h : memG gP gQ a) (x y : Nat) : gp a (gm (x : Int) (y : Int) 1152921504606845789) 2305843009213691579 = gp (gp a (x : Int) 2305843009213691579) (y : Int) 2305843009213691579 := by
  rw [gmQ, gpP, gpP, gpP, grp.residue h, pow_emod, Int.pow_mul]
end Go.Proofs.YtjfbpmpdcmealaaDoor.G4
