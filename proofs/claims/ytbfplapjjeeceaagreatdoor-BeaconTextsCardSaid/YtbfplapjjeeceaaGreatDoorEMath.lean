/-
  Proofs of equal logarithms: what is accepted, over numbers.
-/
import Derived.Test.YtbfplapjjeeceaaGreatDoorGLawPowers
import Derived.Test.YtbfplapjjeeceaaGreatDoorSMath
import Derived.Lib.ItoaNum
namespace Go.Proofs.YtbfplapjjeeceaaGreatDoor.E6
open Go.RowKit GM SH G4
/-- a number in decimal -/
def dcm (n : Int) : ByteArray := ⟨(Lib.itoa n).toArray⟩
/-- a word and numbers, each with a slash in front -/
def tw (s : ByteArray) (l : List Int) : ByteArray := l.foldl (fun s n => s ++ (⟨#[47]⟩ : ByteArray) ++ dcm n) s
def wE : ByteArray := ⟨#[101, 113, 117, 97, 108]⟩
def wN : ByteArray := ⟨#[110, 111, 110, 99, 101]⟩
/-- the challenge of numbers, the number of a proof -/
def ch (l : List Int) : Int := sc (tw wE l)
def nk (x g h : Int) : Int := sc (tw wN [x, g, h])
theorem ch_rng (l : List Int) : 0 ≤ ch l ∧ ch l < 1152921504606845789 := sc_rng _
theorem nk_rng (x g h : Int) : 0 ≤ nk x g h ∧ nk x g h < 1152921504606845789 := sc_rng _
/-- powers -/
def pp (a n : Int) : Int := gp a n 2305843009213691579
theorem pp_rng (a n : Int) : 0 ≤ pp a n ∧ pp a n < 2305843009213691579 := by
  have := gp_rng a n 2305843009213691579; unfold pp; omega
/-- the exponent of a secret -/
def ex (s : Int) : Int := ga s 0 1152921504606845789
theorem ex_rng (s : Int) : 0 ≤ ex s ∧ ex s < 1152921504606845789 := by
  have := ga_rng s 0 1152921504606845789; unfold ex; omega
theorem ex_mod (s : Int) : ex s = s % 1152921504606845789 := by unfold ex ga; rw [if_neg (by omega), Int.add_zero]
theorem ex_id (x : Int) (h : 0 ≤ x ∧ x < 1152921504606845789) : ex x = x := by
  rw [ex_mod, Int.emod_eq_of_lt h.1 h.2]
/-- the two numbers of a proof with the number k -/
def pvC (x g h k : Int) : Int := ch [g, pp g x, h, pp h x, pp g k, pp h k]
def zz (k c x : Int) : Int := ga k (gm c x 1152921504606845789) 1152921504606845789
def pvZ (x g h k : Int) : Int := zz k (pvC x g h k) x
theorem zz_rng (k c x : Int) : 0 ≤ zz k c x ∧ zz k c x < 1152921504606845789 := by
  have := ga_rng k (gm c x 1152921504606845789) 1152921504606845789; unfold zz; omega
def prC (s g h : Int) : Int := if mem g = true ∧ mem h = true then pvC (ex s) g h (nk (ex s) g h) else 0
def prZ (s g h : Int) : Int := if mem g = true ∧ mem h = true then pvZ (ex s) g h (nk (ex s) g h) else 0
theorem prC_rng (s g h : Int) : 0 ≤ prC s g h ∧ prC s g h < 1152921504606845789 := by
  unfold prC; split
  · exact ch_rng _
  · decide
theorem prZ_rng (s g h : Int) : 0 ≤ prZ s g h ∧ prZ s g h < 1152921504606845789 := by
  unfold prZ; split
  · exact zz_rng _ _ _
  · decide
/-- one side of a check -/
def sd (g a C Z : Int) : Int := gm (pp g Z) (pp a (1152921504606845789 - C)) 2305843009213691579
theorem sd_eq (g a C Z : Int) : gm (pp g Z) (pp a (1152921504606845789 - C)) 2305843009213691579 = sd g a C Z := by unfold sd; rfl
theorem pp_def (a n : Int) : gp a n 2305843009213691579 = pp a n := by unfold pp; rfl
theorem sd_rng (g a C Z : Int) : 0 ≤ sd g a C Z ∧ sd g a C Z < 2305843009213691579 := by
  have := gm_rng (pp g Z) (pp a (1152921504606845789 - C)) 2305843009213691579; unfold sd; omega
def inQ (n : Int) : Bool := !decide (n < 0) && !decide (1152921504606845789 ≤ n)
theorem inQ_t {n : Int} (h : 0 ≤ n ∧ n < 1152921504606845789) : inQ n = true := by
  unfold inQ; rw [decide_eq_false (by omega), decide_eq_false (by omega)]; rfl
theorem inQ_iff {n : Int} : inQ n = true ↔ 0 ≤ n ∧ n < 1152921504606845789 := by
  unfold inQ; simp
/-- whether a proof is accepted -/
def vf (g a h b C Z : Int) : Bool :=
  inQ C && inQ Z && (mem g && mem a && mem h && mem b) && (C == ch [g, a, h, b, sd g a C Z, sd h b C Z])
theorem pp_memG {g : Int} (hg : memG gP gQ g) (x : Int) (h : 0 ≤ x) : memG gP gQ (pp g x) := by
  obtain ⟨n, rfl⟩ : ∃ n : Nat, x = n := ⟨x.toNat, by omega⟩
  unfold pp
  rw [gpP]
  exact grp.pow hg n
theorem pp_mem {g : Int} (hg : mem g = true) (x : Int) (h : 0 ≤ x) : mem (pp g x) = true := (mem_iff _).2 (pp_memG ((mem_iff g).1 hg) x h)
/-- the side of a proof is the power with the proof's number -/
theorem sd_pow {g : Int} (hg : mem g = true) (k c x : Int) (hk : 0 ≤ k ∧ k < 1152921504606845789) (hc : 0 ≤ c ∧ c < 1152921504606845789) (hx : 0 ≤ x) : sd g (pp g x) c (zz k c x) = pp g k := by
  have hG := (mem_iff g).1 hg
  have hq : gQ = 1152921504606845789 := rfl
  obtain ⟨k, rfl⟩ : ∃ v : Nat, k = v := ⟨k.toNat, by omega⟩
  obtain ⟨c, rfl⟩ : ∃ v : Nat, c = v := ⟨c.toNat, by omega⟩
  obtain ⟨x, rfl⟩ : ∃ v : Nat, x = v := ⟨x.toNat, by omega⟩
  have e : (1152921504606845789 : Int) - (c : Int) = ((gQ - c : Nat) : Int) := by omega
  unfold sd zz pp
  rw [e, gmQ, gaQ, gpP, gpP, gpP, gpP, gmP, grp.residue hG, mul_l, pow_emod, mul_r, ← Int.pow_mul, ← Int.pow_add]
  have e2 : (k + c * x % gQ + x * (gQ - c)) % gQ = k % gQ := by
    have h1 : (k + c * x % gQ + x * (gQ - c)) % gQ = (k + c * x + x * (gQ - c)) % gQ := by
      rw [show k + c * x % gQ + x * (gQ - c) = (k + x * (gQ - c)) + c * x % gQ by omega, show k + c * x + x * (gQ - c) = (k + x * (gQ - c)) + c * x by omega, Nat.add_mod, Nat.mod_mod, ← Nat.add_mod]
    rw [h1]
    have h2 : c * x + x * (gQ - c) = gQ * x := by
      rw [Nat.mul_comm c x, ← Nat.mul_add, Nat.add_sub_cancel' (by omega), Nat.mul_comm]
    rw [Nat.add_assoc, h2, Nat.add_mul_mod_self_left]
  rw [← grp.residue hG (k + c * x % gQ + x * (gQ - c)), e2, grp.residue hG]
/-- a proof with any number k is accepted -/
theorem vf_any (g h x k : Int) (hg : mem g = true) (hh : mem h = true) (hx : 0 ≤ x) (hk : 0 ≤ k ∧ k < 1152921504606845789) : vf g (pp g x) h (pp h x) (pvC x g h k) (pvZ x g h k) = true := by
  have hc : 0 ≤ pvC x g h k ∧ pvC x g h k < 1152921504606845789 := ch_rng _
  have hz : 0 ≤ pvZ x g h k ∧ pvZ x g h k < 1152921504606845789 := zz_rng _ _ _
  unfold vf
  rw [inQ_t hc, inQ_t hz, hg, hh, pp_mem hg x hx, pp_mem hh x hx]
  unfold pvZ
  rw [sd_pow hg k _ x hk hc hx, sd_pow hh k _ x hk hc hx]
  simp [pvC]
/-- a proof is accepted -/
theorem vf_holds (s g h : Int) (hg : mem g = true) (hh : mem h = true) : vf g (pp g (ex s)) h (pp h (ex s)) (prC s g h) (prZ s g h) = true := by
  unfold prC prZ
  rw [if_pos ⟨hg, hh⟩, if_pos ⟨hg, hh⟩]
  exact vf_any g h (ex s) _ hg hh (ex_rng s).1 (nk_rng _ _ _)
/-- the member that a number determines -/
def em (n : Int) : Int := gm (ex n + 1) (ex n + 1) 2305843009213691579
end Go.Proofs.YtbfplapjjeeceaaGreatDoor.E6
