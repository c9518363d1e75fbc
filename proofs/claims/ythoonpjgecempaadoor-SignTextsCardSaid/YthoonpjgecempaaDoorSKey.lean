/-
  The walks of sign.Key, Sign and Verify; a signature verifies.
-/
import Derived.Test.YthoonpjgecempaaDoorSBase
import Derived.Deep.RegionHeld3
namespace Go.Proofs.YthoonpjgecempaaDoor.S5
open Go.RowKit GM SH G4
/-- the number of a signature, its challenge, its S -/
def nn (x : Int) (t : ByteArray) : Int := nz (sc (ns x.toNat t))
def cc (r k : Int) (t : ByteArray) : Int := sc (cs r.toNat k.toNat t)
def sS (x n : Int) (t : ByteArray) : Int := ga n (gm x (cc (pk n) (pk x) t) 1152921504606845789) 1152921504606845789
theorem nn_rng (x : Int) (t : ByteArray) : 0 < nn x t ∧ nn x t < 1152921504606845789 := nz_rng (sc_rng _)
theorem cc_rng (r k : Int) (t : ByteArray) : 0 ≤ cc r k t ∧ cc r k t < 1152921504606845789 := sc_rng _
theorem sS_rng (x n : Int) (t : ByteArray) : 0 ≤ sS x n t ∧ sS x n t < 1152921504606845789 := by
  have := ga_rng n (gm x (cc (pk n) (pk x) t) 1152921504606845789) 1152921504606845789; unfold sS; omega
/-- whether a signature is accepted -/
def vf (k : Int) (t : ByteArray) (R S : Int) : Bool :=
  !decide (S < 0) && !decide (1152921504606845789 ≤ S) && mem k && mem R && (gp 4 S 2305843009213691579 == gm R (gp k (cc R k t) 2305843009213691579) 2305843009213691579)
theorem mem_rng {a : Int} (h : mem a = true) : 0 < a ∧ a < 2305843009213691579 := by
  have := (mem_iff a).1 h
  exact ⟨this.1, this.2.1⟩
theorem pk_memG (x : Int) (h : 0 ≤ x) : memG gP gQ (pk x) := by
  obtain ⟨n, rfl⟩ : ∃ n : Nat, x = n := ⟨x.toNat, by omega⟩
  unfold pk
  rw [gpP]
  exact grp.pow mem_four n
theorem pk_mem (x : Int) (h : 0 ≤ x) : mem (pk x) = true := (mem_iff _).2 (pk_memG x h)
/-- a signature with any number verifies -/
theorem vf_sig (x n : Int) (t : ByteArray) (hx : 0 ≤ x) (hn : 0 ≤ n) : vf (pk x) t (pk n) (sS x n t) = true := by
  have hs := sS_rng x n t
  have hc := cc_rng (pk n) (pk x) t
  have key : gp 4 (sS x n t) 2305843009213691579 = gm (pk n) (gp (pk x) (cc (pk n) (pk x) t) 2305843009213691579) 2305843009213691579 := by
    unfold sS
    generalize cc (pk n) (pk x) t = c at *
    obtain ⟨n', rfl⟩ : ∃ v : Nat, n = v := ⟨n.toNat, by omega⟩
    obtain ⟨x', rfl⟩ : ∃ v : Nat, x = v := ⟨x.toNat, by omega⟩
    obtain ⟨c', rfl⟩ : ∃ v : Nat, c = v := ⟨c.toNat, by omega⟩
    rw [gmQ, pow_sum mem_four, ← gmQ, pow_prod mem_four]
    rfl
  unfold vf
  rw [key, pk_mem x hx, pk_mem n hn, decide_eq_false (by omega), decide_eq_false (by omega)]
  simp
set_option maxRecDepth 100000 in
theorem Key_any (w : World) (s : ByteArray) (hs : s.size ≤ 140737488355300) (hB : TB w) :
    Calls Tryd.prog 9 #[.string s] w fun e w' => e = .returned (.tuple #[.int .i64 (nz (sc (ks s))), .int .i64 (pk (nz (sc (ks s))))]) ∧ Below w.heap.size w w' := by
  have R1 := Lib.hid (hidden_any (w.alloc (.cells #[.string ⟨#[107]⟩, .string s] 9)) w.heap.size 2 2 [⟨#[107]⟩, s] (ks s) (catL_two _ _) rfl
    (fun j x hj => by
      rw [World.cell?_alloc_at _ _ _ _ rfl]
      match j, hj with
      | 0, hj => simp at hj; subst hj; rfl
      | 1, hj => simp at hj; subst hj; rfl) (by simp) (by omega) (by omega) (by rw [ks_size]; omega) (hB.below ((Below.refl _ w).alloc (Nat.le_refl _) _)))
  have hz := nz_rng (sc_rng (ks s))
  have R2 := Lib.hid fun W => publicKey_any W (nz (sc (ks s))) (by omega)
  generalize nz (sc (ks s)) = x at *
  generalize pk x = y at *
  clear hB hs
  go_enter Tryd.func9, Tryd.ntmps9
  go_wp2_with fail
  refine R1.out.mono ?_
  rintro e w1 ⟨rfl, b1⟩
  have hb := Lib.hid (((Below.refl _ w).alloc (Nat.le_refl _) _).trans (b1.mono (by simp))); clear b1
  go_wp2_with fail
  refine (R2.out _).mono ?_
  rintro e w2 ⟨rfl, b2⟩
  replace hb := Lib.hid (hb.out.trans (b2.mono hb.out.size)); clear b2
  go_wp2
  go_ret2
  exact ⟨rfl, hb.out⟩
end Go.Proofs.YthoonpjgecempaaDoor.S5
