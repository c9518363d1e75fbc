/-
  An owner opens the box that was sealed with the owner's key, and the share fits.
-/
import Derived.Test.YtjfbpmpdcmealaaDoorDMath
namespace Go.Proofs.YtjfbpmpdcmealaaDoor.D7
open Go.RowKit GM SH G4 E6 D7P
theorem xx (a b : UInt8) : (a ^^^ b) ^^^ a = b := by
  rw [UInt8.xor_comm a b, UInt8.xor_assoc, UInt8.xor_self, UInt8.xor_zero]
theorem num8 (a b c d e f g h : UInt8) : num [a, b, c, d, e, f, g, h] 8 = ((((((a.toNat * 256 + b.toNat) * 256 + c.toNat) * 256 + d.toNat) * 256 + e.toNat) * 256 + f.toNat) * 256 + g.toNat) * 256 + h.toNat := by
  simp [num, gb]
theorem yb_nat (y : Int) (i : Nat) : ((yb y i).toNat : Int) = y / 2 ^ (8 * i) % 256 := by
  unfold yb
  have h1 : 0 ≤ y / 2 ^ (8 * i) % 256 := Int.emod_nonneg _ (by decide)
  have h2 : y / 2 ^ (8 * i) % 256 < 256 := Int.emod_lt_of_pos _ (by decide)
  generalize y / 2 ^ (8 * i) % 256 = z at *
  simp
  omega
theorem num_y8 (y : Int) (h0 : 0 ≤ y) (h1 : y < 9223372036854775808) : (num (y8 y) 8 : Int) = y := by
  unfold y8
  rw [num8]
  have e0 := yb_nat y 0
  have e1 := yb_nat y 1
  have e2 := yb_nat y 2
  have e3 := yb_nat y 3
  have e4 := yb_nat y 4
  have e5 := yb_nat y 5
  have e6 := yb_nat y 6
  have e7 := yb_nat y 7
  simp only [Nat.reduceMul, Int.reducePow] at e0 e1 e2 e3 e4 e5 e6 e7
  generalize yb y 0 = b0 at *
  generalize yb y 1 = b1 at *
  generalize yb y 2 = b2 at *
  generalize yb y 3 = b3 at *
  generalize yb y 4 = b4 at *
  generalize yb y 5 = b5 at *
  generalize yb y 6 = b6 at *
  generalize yb y 7 = b7 at *
  omega
theorem zip_bx (y : Int) (p : List UInt8) (h : p.length = 16) : List.zipWith (· ^^^ ·) ((bx y p).take 8) (p.take 8) = y8 y := by
  match p, h with
  | [a0, a1, a2, a3, a4, a5, a6, a7, a8, a9, a10, a11, a12, a13, a14, a15], _ => simp [bx, y8, xx]
theorem wrap_id (y : Int) (h0 : 0 ≤ y) (h1 : y < 9223372036854775808) : wrap64 y = y := by unfold wrap64; omega
theorem ct_bx (y : Int) (p : List UInt8) (h : p.length = 16) (h0 : 0 ≤ y) (h1 : y < 9223372036854775808) : ct (bx y p) p = y := by
  unfold ct
  rw [zip_bx y p h, num_y8 y h0 h1, wrap_id y h0 h1]
theorem fit_bx (y : Int) (p : List UInt8) (h : p.length = 16) : fit (bx y p) p = true := by
  unfold fit
  rw [bx_len y p h]
  match p, h with
  | [a0, a1, a2, a3, a4, a5, a6, a7, a8, a9, a10, a11, a12, a13, a14, a15], _ => simp [bx, y8]
theorem pp_comm (a b : Int) (ha : 0 ≤ a) (hb : 0 ≤ b) : pp (pp 4 a) b = pp (pp 4 b) a := by
  rw [← pp_prod a b ha hb, ← pp_prod b a hb ha, gm_comm]
theorem fits_own (coefs : List Int) (x : Int) (hc : ∀ c ∈ coefs, 0 ≤ c) : fits (vl coefs x) (coefs.map (pp 4)) x = true := by
  unfold fits
  rw [inQ_t (vl_rng coefs x), av_pow coefs x hc]
  simp
/-- the owner of the key opens the box -/
theorem tk_own (coefs : List Int) (K x i : Int) (hK : 0 ≤ K) (hx : 0 ≤ x) (hc : ∀ c ∈ coefs, 0 ≤ c) :
    tk (pp (pp 4 K) x) i (bx (vl coefs (i + 1)) (pd (pp (pp 4 x) K) i)) (coefs.map (pp 4)) = true ∧ ct (bx (vl coefs (i + 1)) (pd (pp (pp 4 x) K) i)) (pd (pp (pp 4 K) x) i) = vl coefs (i + 1) := by
  rw [pp_comm K x hK hx]
  have hl := pd_len (pp (pp 4 x) K) i
  have hr := vl_rng coefs (i + 1)
  have hf := fits_own coefs (i + 1) hc
  unfold tk
  generalize pd (pp (pp 4 x) K) i = P at *
  generalize vl coefs (i + 1) = y at *
  have e := ct_bx y P hl hr.1 (by omega)
  rw [e, fit_bx y P hl, hf]
  exact ⟨rfl, rfl⟩
end Go.Proofs.YtjfbpmpdcmealaaDoor.D7
