/-
  Proofs of equal logarithms: what is accepted, over numbers.
-/
import Derived.Test.YtbfplapjjeeceaaGreatDoorGLawPowers
import Derived.Test.YtbfplapjjeeceaaGreatDoorSMath
import Derived.Lib.ItoaNum
namespace Go.Proofs.YtbfplapjjeeceaaGreatDoor.E6
open Go.RowKit GM SH G4
/-- a number in decimal -/
def dcm (n : Int) : ByteArray := ⟨(Lib.itoa n).toArray⟩
/-- a word and numbers, each with a slash in front -/
def tw (s : ByteArray) (l : List Int) : ByteArray := l.foldl (fun s n => s ++ (⟨#[47]⟩ : ByteArray) ++ dcm n) s
def wE : ByteArray := ⟨#[101, 113, 117, 97, 108]⟩
def wN : ByteArray := ⟨#[110, 111, 110, 99, 101]⟩
/-- the challenge of numbers, the number of a proof -/
def ch (l : List Int) : Int := sc (tw wE l)
def nk (x g h : Int) : Int := sc (tw wN [x, g, h])
theorem ch_rng (l : List Int) : 0 ≤ ch l ∧ ch l < 1152921504606845789 := sc_rng _
theorem nk_rng (x g h : Int) : 0 ≤ nk x g h ∧ nk x g h < 1152921504606845789 := sc_rng _
/-- powers -/
def pp (a n : Int) : Int := gp a n 2305843009213691579
theorem pp_rng (a n : Int) : 0 ≤ pp a n ∧ pp a n < 2305843009213691579 := by
  have := gp_rng a n 2305843009213691579; unfold pp; omega
/-- the exponent of a secret -/
def ex (s : Int) : Int := ga s 0 1152921504606845789
theorem ex_rng (s : Int) : 0 ≤ ex s ∧ ex s < 1152921504606845789 := by
  have := ga_rng s 0 1152921504606845789; unfold ex; omega
theorem ex_mod (s : Int) : ex s = s % 1152921504606845789 := by unfold ex ga; rw [if_neg (by omega), Int.add_zero]
theorem ex_id (x : Int) (h : 0 ≤ x ∧ x < 1152921504606845789) : ex x = x := by
  rw [ex_mod, Int.emod_eq_of_lt h.1 h.2]
/-- the two numbers of a proof with the number k -/
def pvC (x g h k : Int) : Int := ch [g, pp g x, h, pp h x, pp g k, pp h k]
def zz (k c x : Int) : Int := ga k (gm c x 1152921504606845789) 1152921504606845789
def pvZ (x g h k : Int) : Int := zz k (pvC x g h k) x
theorem zz_rng (k c x : Int) : 0 ≤ zz k c x ∧ zz k c x < 1152921504606845789 := by
  have := ga_rng k (gm c x 1152921504606845789) 1152921504606845789; unfold zz; omega
def prC (s g h : Int) : Int := if mem g = true ∧ mem h = true then pvC (ex s) g h (nk (ex s) g h) else 0
def prZ (s g h : Int) : Int := if mem g = true ∧ mem h = true then pvZ (ex s) g h (nk (ex s) g h) else 0
theorem prC_rng (s g h : Int) : 0 ≤ prC s g h ∧ prC s g h < 1152921504606845789 := by
  unfold prC; split
  · exact ch_rng _
  · decide
theorem prZ_rng (s g h : Int) : 0 ≤ prZ s g h ∧ prZ s g h < 1152921504606845789 := by
  unfold prZ; split
  · exact zz_rng _ _ _
  · decide
/-- one side of a check -/
def sd (g a C Z : Int) : Int := gm (pp g Z) (pp a (1152921504606845789 - C)) 2305843009213691579
theorem sd_eq (g a C Z : Int) : gm (pp g Z) (pp a (1152921504606845789 - C)) 2305843009213691579 = sd g a C Z := by unfold sd; rfl
theorem pp_def (a n : Int) : gp a n 2305843009213691579 = pp a n := by unfold pp; rfl
theorem sd_rng (g a C Z : Int) : 0 ≤ sd g a C Z ∧ sd g a C Z < 2305843009213691579 := by
  have := gm_rng (pp g Z) (pp a (1152921504606845789 - C)) 2305843009213691579; unfold sd; omega
def inQ (n : Int) : Bool := !decide (n < 0) && !decide (1152921504606845789 ≤ n)
theorem inQ_t {n : Int} (h : 0 ≤ n ∧ n < 1152921504606845789) : inQ n = true := by
  unfold inQ; rw [decide_eq_false (by omega), decide_eq_false (by omega)]; rfl
theorem inQ_iff {n : Int} : inQ n = true ↔ 0 ≤ n ∧ n < 1152921504606845789 := by
  unfold inQ; simp
/-- whether a proof is accepted -/
def vf (g a h b C Z : Int) : Bool :=
  inQ C && inQ Z && (mem g && mem a && mem h && mem b) && (C == ch [g, a, h, b, sd g a C Z, sd h b C Z])
theorem mem_rng {a : Int} (h : mem a = true) : 0 < a ∧ a < 2305843009213691579 := by
  have := (mem_iff a).1 h
  exact ⟨this.1, this.2.1⟩
theorem pp_memG {g : Int} (hg : memG gP gQ g) (x : Int) (h : 0 ≤ x) : memG gP gQ (pp g x) := by
  obtain ⟨n, rfl⟩ : ∃ n : Nat, x = n := ⟨x.toNat, by omega⟩
  unfold pp
  rw [gpP]
  exact grp.pow hg n
theorem pp_mem {g : Int} (hg : mem g = true) (x : Int) (h : 0 ≤ x) : mem (pp g x) = true := (mem_iff _).2 (pp_memG ((mem_iff g).1 hg) x h)
/-- the side of a proof is the power with the proof's number -/
theorem sd_pow {g : Int} (hg : mem g = true) (k c x : Int) (hk : 0 ≤ k ∧ k < 1152921504606845789) (hc : 0 ≤ c ∧ c < 1152921504606845789) (hx : 0 ≤ x) : sd g (pp g x) c (zz k c x) = pp g k := by
  have hG := (mem_iff g).1 hg
  have hq : gQ = 1152921504606845789 := rfl
  obtain ⟨k, rfl⟩ : ∃ v : Nat, k = v := ⟨k.toNat, by omega⟩
  obtain ⟨c, rfl⟩ : ∃ v : Nat, c = v := ⟨c.toNat, by omega⟩
  obtain ⟨x, rfl⟩ : ∃ v : Nat, x = v := ⟨x.toNat, by omega⟩
  have e : (1152921504606845789 : Int) - (c : Int) = ((gQ - c : Nat) : Int) := by omega
  unfold sd zz pp
  rw [e, gmQ, gaQ, gpP, gpP, gpP, gpP, gmP, grp.residue hG, mul_l, pow_emod, mul_r, ← Int.pow_mul, ← Int.pow_add]
  have e2 : (k + c * x % gQ + x * (gQ - c)) % gQ = k % gQ := by
    have h1 : (k + c * x % gQ + x * (gQ - c)) % gQ = (k + c * x + x * (gQ - c)) % gQ := by
      rw [show k + c * x % gQ + x * (gQ - c) = (k + x * (gQ - c)) + c * x % gQ by omega, show k + c * x + x * (gQ - c) = (k + x * (gQ - c)) + c * x by omega, Nat.add_mod, Nat.mod_mod, ← Nat.add_mod]
    rw [h1]
    have h2 : c * x + x * (gQ - c) = gQ * x := by
      rw [Nat.mul_comm c x, ← Nat.mul_add, Nat.add_sub_cancel' (by omega), Nat.mul_comm]
    rw [Nat.add_assoc, h2, Nat.add_mul_mod_self_left]
  rw [← grp.residue hG (k + c * x % gQ + x * (gQ - c)), e2, grp.residue hG]
/-- a proof with any number k is accepted -/
theorem vf_any (g h x k : Int) (hg : mem g = true) (hh : mem h = true) (hx : 0 ≤ x) (hk : 0 ≤ k ∧ k < 1152921504606845789) : vf g (pp g x) h (pp h x) (pvC x g h k) (pvZ x g h k) = true := by
  have hc : 0 ≤ pvC x g h k ∧ pvC x g h k < 1152921504606845789 := ch_rng _
  have hz : 0 ≤ pvZ x g h k ∧ pvZ x g h k < 1152921504606845789 := zz_rng _ _ _
  unfold vf
  rw [inQ_t hc, inQ_t hz, hg, hh, pp_mem hg x hx, pp_mem hh x hx]
  unfold pvZ
  rw [sd_pow hg k _ x hk hc hx, sd_pow hh k _ x hk hc hx]
  simp [pvC]
/-- a proof is accepted -/
theorem vf_holds (s g h : Int) (hg : mem g = true) (hh : mem h = true) : vf g (pp g (ex s)) h (pp h (ex s)) (prC s g h) (prZ s g h) = true := by
  unfold prC prZ
  rw [if_pos ⟨hg, hh⟩, if_pos ⟨hg, hh⟩]
  exact vf_any g h (ex s) _ hg hh (ex_rng s).1 (nk_rng _ _ _)
/-- the challenge of other numbers says whether they are accepted -/
theorem vf_same (s g h b : Int) (hg : mem g = true) (hh : mem h = true) (hb : mem b = true) :
    vf g (pp g (ex s)) h b (prC s g h) (prZ s g h) = (ch [g, pp g (ex s), h, b, sd g (pp g (ex s)) (prC s g h) (prZ s g h), sd h b (prC s g h) (prZ s g h)] == ch [g, pp g (ex s), h, pp h (ex s), sd g (pp g (ex s)) (prC s g h) (prZ s g h), sd h (pp h (ex s)) (prC s g h) (prZ s g h)]) := by
  have hx := ex_rng s
  have hc := prC_rng s g h
  have hz := prZ_rng s g h
  have key : ch [g, pp g (ex s), h, pp h (ex s), sd g (pp g (ex s)) (prC s g h) (prZ s g h), sd h (pp h (ex s)) (prC s g h) (prZ s g h)] = prC s g h := by
    unfold prC prZ
    rw [if_pos ⟨hg, hh⟩, if_pos ⟨hg, hh⟩]
    unfold pvZ
    have hpc : 0 ≤ pvC (ex s) g h (nk (ex s) g h) ∧ pvC (ex s) g h (nk (ex s) g h) < 1152921504606845789 := ch_rng _
    rw [sd_pow hg _ _ _ (nk_rng _ _ _) hpc hx.1, sd_pow hh _ _ _ (nk_rng _ _ _) hpc hx.1]
    rfl
  rw [key]
  unfold vf
  rw [inQ_t hc, inQ_t hz, hg, hh, hb, pp_mem hg _ hx.1]
  simp only [Bool.and_true, Bool.true_and]
  exact Bool.eq_iff_iff.2 (by simp only [beq_iff_eq]; exact eq_comm)
/-- the member that a number determines -/
def em (n : Int) : Int := gm (ex n + 1) (ex n + 1) 2305843009213691579
theorem em_memG (n : Int) : memG gP gQ (em n) := by
  have hx := ex_rng n
  have hp : gP = 2305843009213691579 := rfl
  have h := grp.square (ex n + 1) (by omega) (by omega)
  have e : em n = (ex n + 1) * (ex n + 1) % (gP : Int) := by unfold em gm; rw [if_neg (by omega)]; rfl
  rw [e]; exact h
theorem em_mem (n : Int) : mem (em n) = true := (mem_iff _).2 (em_memG n)
theorem em_rng (n : Int) : 0 < em n ∧ em n < 2305843009213691579 := mem_rng (em_mem n)
/-- the powers of a member, as equations of exponents -/
theorem pp_eq {h : Int} (hh : mem h = true) (h1 : h ≠ 1) (i j k c : Int) (hi : 0 ≤ i ∧ i < 1152921504606845789) (hj : 0 ≤ j ∧ j < 1152921504606845789) (hk : 0 ≤ k) (hc : 0 ≤ c ∧ c < 1152921504606845789) (hij : i ≠ j) :
    (pp h (zz k c i) == gm (pp h k) (pp (pp h j) c) 2305843009213691579) = (c == 0) := by
  have hG := (mem_iff h).1 hh
  have hq : gQ = 1152921504606845789 := rfl
  obtain ⟨k, rfl⟩ : ∃ v : Nat, k = v := ⟨k.toNat, by omega⟩
  obtain ⟨c, rfl⟩ : ∃ v : Nat, c = v := ⟨c.toNat, by omega⟩
  obtain ⟨i, rfl⟩ : ∃ v : Nat, i = v := ⟨i.toNat, by omega⟩
  obtain ⟨j, rfl⟩ : ∃ v : Nat, j = v := ⟨j.toNat, by omega⟩
  unfold zz pp
  rw [gmQ, gaQ, gpP, gpP, gpP, gpP, gmP, mul_l, pow_emod, mul_r, ← Int.pow_mul, ← Int.pow_add, ← grp.residue hG (k + j * c)]
  have e1 : (k + c * i % gQ) % gQ = (k + c * i) % gQ := by rw [Nat.add_mod, Nat.mod_mod, ← Nat.add_mod]
  rw [e1]
  have key : (h^((k + c * i) % gQ) % (gP : Int) = h^((k + j * c) % gQ) % (gP : Int)) ↔ c = 0 := by
    constructor
    · intro e
      have e2 := pow_inj hG h1 _ _ (Nat.mod_lt _ (by omega)) (Nat.mod_lt _ (by omega)) e
      rcases Nat.eq_zero_or_pos c with h0 | h0
      · exact h0
      · exfalso
        have e3 : ((k + c * i : Nat) : Int) % (gQ : Int) = ((k + j * c : Nat) : Int) % (gQ : Int) := by
          rw [← Int.natCast_emod, ← Int.natCast_emod, e2]
        have hd : (gQ : Int) ∣ (c : Int) * ((i : Int) - (j : Int)) := by
          have := Int.emod_emod_of_dvd ((k + c * i : Nat) : Int) (Int.dvd_refl (gQ : Int))
          have h2 := Int.dvd_of_emod_eq_zero (Int.emod_eq_emod_iff_emod_sub_eq_zero.1 e3)
          have h3 : ((k + c * i : Nat) : Int) - ((k + j * c : Nat) : Int) = (c : Int) * ((i : Int) - (j : Int)) := by
            rw [Int.natCast_add, Int.natCast_add, Int.natCast_mul, Int.natCast_mul, Int.mul_sub, Int.mul_comm (j : Int)]; omega
          rw [h3] at h2; exact h2
        rcases pr_int NM.pr1152921504606845789 _ _ hd with h4 | h4
        · have := Int.emod_eq_zero_of_dvd h4
          rw [show ((1152921504606845789 : Nat) : Int) = 1152921504606845789 from rfl] at this
          rw [Int.emod_eq_of_lt (by omega) (by omega)] at this
          omega
        · obtain ⟨t, ht⟩ := h4
          rw [show ((1152921504606845789 : Nat) : Int) = 1152921504606845789 from rfl] at ht
          omega
    · rintro rfl
      simp
  exact Bool.eq_iff_iff.2 (by simp only [beq_iff_eq]; rw [key]; omega)
/-- with the logarithm itself both sides are the same -/
theorem pp_one {h : Int} (hh : mem h = true) (i k c : Int) (hi : 0 ≤ i) (hk : 0 ≤ k) (hc : 0 ≤ c) :
    pp h (zz k c i) = gm (pp h k) (pp (pp h i) c) 2305843009213691579 := by
  have hG := (mem_iff h).1 hh
  obtain ⟨k, rfl⟩ : ∃ v : Nat, k = v := ⟨k.toNat, by omega⟩
  obtain ⟨c, rfl⟩ : ∃ v : Nat, c = v := ⟨c.toNat, by omega⟩
  obtain ⟨i, rfl⟩ : ∃ v : Nat, i = v := ⟨i.toNat, by omega⟩
  unfold zz pp
  rw [gmQ, gaQ, gpP, gpP, gpP, gpP, gmP, mul_l, pow_emod, mul_r, ← Int.pow_mul, ← Int.pow_add, ← grp.residue hG (k + i * c)]
  have e1 : (k + c * i % gQ) % gQ = (k + c * i) % gQ := by rw [Nat.add_mod, Nat.mod_mod, ← Nat.add_mod]
  rw [e1, Nat.mul_comm]
/-- the negative of a member is none -/
theorem neg_mem {a : Int} (h : mem a = true) : mem (2305843009213691579 - a) = false := by
  have hr := mem_rng h
  have := (grp.one a hr.1 (by have : gP = 2305843009213691579 := rfl; omega)).1 ((mem_iff a).1 h)
  cases h2 : mem (2305843009213691579 - a)
  · rfl
  · exact absurd ((mem_iff _).1 h2) this
theorem high_mem {a : Int} (h : 0 ≤ a) : mem (a + 2305843009213691579) = false := by
  cases h2 : mem (a + 2305843009213691579)
  · rfl
  · have := mem_rng h2; omega
end Go.Proofs.YtbfplapjjeeceaaGreatDoor.E6
