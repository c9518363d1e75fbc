/-
  Values of coefficients, public values, boxes: over numbers and bytes.
  An owner opens the box that was sealed with the owner's key, and the share fits.
-/
import Derived.Test.YtjfbpmpdcmealaaGreatDoorEMath
import Derived.Test.YtjfbpmpdcmealaaGreatDoorDPoly
namespace Go.Proofs.YtjfbpmpdcmealaaGreatDoor.D7
open Go.RowKit GM SH G4 E6 D7P
/-- numbers with the powers of x -/
def pws : List Int → Int → Int → List (Int × Int)
  | [], _, _ => []
  | c :: l, x, p => (c, p) :: pws l x (gm p x 1152921504606845789)
/-- sums of products, products of powers -/
def vf (s : Int) (l : List (Int × Int)) : Int := l.foldl (fun s c => ga s (gm c.1 c.2 1152921504606845789) 1152921504606845789) s
def af (s : Int) (l : List (Int × Int)) : Int := l.foldl (fun s c => gm s (pp c.1 c.2) 2305843009213691579) s
theorem vf_nil (s : Int) : vf s [] = s := rfl
theorem af_nil (s : Int) : af s [] = s := rfl
theorem vf_cons (s : Int) (c : Int × Int) (l : List (Int × Int)) : vf s (c :: l) = vf (ga s (gm c.1 c.2 1152921504606845789) 1152921504606845789) l := rfl
theorem af_cons (s : Int) (c : Int × Int) (l : List (Int × Int)) : af s (c :: l) = af (gm s (pp c.1 c.2) 2305843009213691579) l := rfl
theorem vf_snoc (s : Int) (l : List (Int × Int)) (c : Int × Int) : vf s (l ++ [c]) = ga (vf s l) (gm c.1 c.2 1152921504606845789) 1152921504606845789 := by simp [vf]
theorem af_snoc (s : Int) (l : List (Int × Int)) (c : Int × Int) : af s (l ++ [c]) = gm (af s l) (pp c.1 c.2) 2305843009213691579 := by simp [af]
/-- the value of coefficients at x, the public value of commitments -/
def vl (l : List Int) (x : Int) : Int := vf 0 (pws l x 1)
def av (l : List Int) (x : Int) : Int := af 1 (pws l x 1)
theorem gQr (a b : Int) : 0 ≤ ga a b 1152921504606845789 ∧ ga a b 1152921504606845789 < 1152921504606845789 := by
  have := ga_rng a b 1152921504606845789; omega
theorem mQr (a b : Int) : 0 ≤ gm a b 1152921504606845789 ∧ gm a b 1152921504606845789 < 1152921504606845789 := by
  have := gm_rng a b 1152921504606845789; omega
theorem mPr (a b : Int) : 0 ≤ gm a b 2305843009213691579 ∧ gm a b 2305843009213691579 < 2305843009213691579 := by
  have := gm_rng a b 2305843009213691579; omega
theorem vf_rng : ∀ (l : List (Int × Int)) (s : Int), 0 ≤ s ∧ s < 1152921504606845789 → 0 ≤ vf s l ∧ vf s l < 1152921504606845789
  | [], _, h => h
  | _ :: l, _, _ => vf_rng l _ (gQr _ _)
theorem af_rng : ∀ (l : List (Int × Int)) (s : Int), 0 ≤ s ∧ s < 2305843009213691579 → 0 ≤ af s l ∧ af s l < 2305843009213691579
  | [], _, h => h
  | _ :: l, _, _ => af_rng l _ (mPr _ _)
theorem vl_rng (l : List Int) (x : Int) : 0 ≤ vl l x ∧ vl l x < 1152921504606845789 := vf_rng _ _ (by decide)
theorem av_rng (l : List Int) (x : Int) : 0 ≤ av l x ∧ av l x < 2305843009213691579 := af_rng _ _ (by decide)
theorem vf_ev (x : Int) : ∀ (l : List Int) (p s : Int), vf s (pws l x p) % 1152921504606845789 = (s + p * ev l x) % 1152921504606845789 := by
  intro l
  induction l with
  | nil => intro p s; rw [ev_nil, Int.mul_zero, Int.add_zero]; rfl
  | cons c l ih =>
    intro p s
    show vf (ga s (gm c p 1152921504606845789) 1152921504606845789) (pws l x (gm p x 1152921504606845789)) % _ = _
    rw [ih, ev_cons]
    unfold ga gm
    rw [if_neg (by decide), if_neg (by decide), if_neg (by decide)]
    generalize ev l x = E
    show ((s + c * p % 1152921504606845789) % 1152921504606845789 + p * x % 1152921504606845789 * E) % 1152921504606845789 = _
    rw [add_l, show s + c * p % 1152921504606845789 + p * x % 1152921504606845789 * E = s + p * x % 1152921504606845789 * E + c * p % 1152921504606845789 by omega, add_r,
      show s + p * x % 1152921504606845789 * E + c * p = s + c * p + p * x % 1152921504606845789 * E by omega, ← add_r, mul_l, add_r]
    congr 1
    grind
theorem vl_ev (l : List Int) (x : Int) : vl l x = ev l x % 1152921504606845789 := by
  have h := vf_ev x l 1 0
  have r := vl_rng l x
  unfold vl at *
  rw [Int.emod_eq_of_lt r.1 r.2] at h
  rw [h, Int.one_mul, Int.zero_add]
/-- Horner's rule -/
theorem horner (l : List Int) (x : Int) (k : Nat) (c : Int) (h : l[k]? = some c) :
    ga (gm (ev (l.drop (k+1)) x % 1152921504606845789) x 1152921504606845789) c 1152921504606845789 = ev (l.drop k) x % 1152921504606845789 := by
  obtain ⟨hk, rfl⟩ := List.getElem?_eq_some_iff.1 h
  rw [List.drop_eq_getElem_cons hk, ev_cons]
  unfold ga gm
  rw [if_neg (by decide), if_neg (by decide), add_l, ← add_l, mul_l, add_l]
  congr 1
  grind
theorem pp_sum (x y : Int) (hx : 0 ≤ x) (hy : 0 ≤ y) : pp 4 (ga x y 1152921504606845789) = gm (pp 4 x) (pp 4 y) 2305843009213691579 := by
  obtain ⟨m, rfl⟩ : ∃ m : Nat, x = m := ⟨x.toNat, by omega⟩
  obtain ⟨n, rfl⟩ : ∃ n : Nat, y = n := ⟨y.toNat, by omega⟩
  exact pow_sum mem_four m n
theorem pp_prod (x y : Int) (hx : 0 ≤ x) (hy : 0 ≤ y) : pp 4 (gm x y 1152921504606845789) = pp (pp 4 x) y := by
  obtain ⟨m, rfl⟩ : ∃ m : Nat, x = m := ⟨x.toNat, by omega⟩
  obtain ⟨n, rfl⟩ : ∃ n : Nat, y = n := ⟨y.toNat, by omega⟩
  exact pow_prod mem_four m n
/-- the public value is the power with the value -/
theorem af_pow (x : Int) : ∀ (l : List Int) (p s : Int), (∀ c ∈ l, 0 ≤ c) → 0 ≤ p → 0 ≤ s → af (pp 4 s) (pws (l.map (pp 4)) x p) = pp 4 (vf s (pws l x p)) := by
  intro l
  induction l with
  | nil => intro p s _ _ _; rfl
  | cons c l ih =>
    intro p s hl hp hs
    show af (gm (pp 4 s) (pp (pp 4 c) p) 2305843009213691579) (pws (l.map (pp 4)) x (gm p x 1152921504606845789)) = pp 4 (vf (ga s (gm c p 1152921504606845789) 1152921504606845789) (pws l x (gm p x 1152921504606845789)))
    rw [← ih _ _ (fun d hd => hl d (by simp [hd])) (mQr _ _).1 (gQr _ _).1, pp_sum _ _ hs (mQr _ _).1, pp_prod _ _ (hl c (by simp)) hp]
theorem pp_zero (a : Int) : pp a 0 = 1 := by
  unfold pp gp; simp
theorem av_pow (l : List Int) (x : Int) (hl : ∀ c ∈ l, 0 ≤ c) : av (l.map (pp 4)) x = pp 4 (vl l x) := by
  have := af_pow x l 1 0 hl (by decide) (by decide)
  rwa [pp_zero] at this
/-- the text that is hashed for a pad, the pad -/
def padt (k i : Int) : ByteArray := (⟨#[98, 111, 120, 47]⟩ : ByteArray) ++ dcm k ++ (⟨#[47]⟩ : ByteArray) ++ dcm i
def pd (k i : Int) : List UInt8 := (sha (padt k i).data.toList).take 16
theorem pd_len (k i : Int) : (pd k i).length = 16 := by
  unfold pd; rw [List.length_take, sha_len]; rfl
/-- byte i of a number, the least significant one first -/
def yb (y : Int) (i : Nat) : UInt8 := UInt8.ofNat (y / 2 ^ (8 * i) % 256).toNat
/-- the bytes of a box: the pad's, the number's combined with the first eight ones -/
def sl (y : Int) (p : List UInt8) : Nat → List UInt8
  | 0 => p
  | i+1 => (sl y p i).set (7 - i) ((sl y p i)[7 - i]?.getD 0 ^^^ yb y i)
theorem sl_len (y : Int) (p : List UInt8) (i : Nat) : (sl y p i).length = p.length := by
  induction i with
  | zero => rfl
  | succ i ih => rw [sl, List.length_set, ih]
/-- the eight bytes of a number -/
def y8 (y : Int) : List UInt8 := [yb y 7, yb y 6, yb y 5, yb y 4, yb y 3, yb y 2, yb y 1, yb y 0]
/-- a box, by its first and its last bytes -/
def bx (y : Int) (p : List UInt8) : List UInt8 := List.zipWith (· ^^^ ·) (p.take 8) (y8 y) ++ p.drop 8
theorem sl_bx (y : Int) (p : List UInt8) (h : p.length = 16) : sl y p 8 = bx y p := by
  match p, h with
  | [a0, a1, a2, a3, a4, a5, a6, a7, a8, a9, a10, a11, a12, a13, a14, a15], _ => simp [sl, bx, y8]
theorem bx_len (y : Int) (p : List UInt8) (h : p.length = 16) : (bx y p).length = 16 := by rw [← sl_bx y p h, sl_len, h]
/-- what a box holds -/
def ct (s p : List UInt8) : Int := wrap64 (num (List.zipWith (· ^^^ ·) (s.take 8) (p.take 8)) 8 : Nat)
/-- whether a pad opens a box -/
def fit (s p : List UInt8) : Bool := (s.length == 16) && (s.drop 8 == p.drop 8)
/-- a share fits: its number, the commitments, x -/
def fits (y : Int) (l : List Int) (x : Int) : Bool := inQ y && (pp 4 y == av l x)
/-- what a number takes out of a box -/
def tk (k i : Int) (s : List UInt8) (l : List Int) : Bool := fit s (pd k i) && fits (ct s (pd k i)) l (i + 1)
end Go.Proofs.YtjfbpmpdcmealaaGreatDoor.D7
namespace Go.Proofs.YtjfbpmpdcmealaaGreatDoor.D7
open Go.RowKit GM SH G4 E6 D7P
theorem xx (a b : UInt8) : (a ^^^ b) ^^^ a = b := by
  rw [UInt8.xor_comm a b, UInt8.xor_assoc, UInt8.xor_self, UInt8.xor_zero]
theorem num8 (a b c d e f g h : UInt8) : num [a, b, c, d, e, f, g, h] 8 = ((((((a.toNat * 256 + b.toNat) * 256 + c.toNat) * 256 + d.toNat) * 256 + e.toNat) * 256 + f.toNat) * 256 + g.toNat) * 256 + h.toNat := by
  simp [num, gb]
theorem yb_nat (y : Int) (i : Nat) : ((yb y i).toNat : Int) = y / 2 ^ (8 * i) % 256 := by
  unfold yb
  have h1 : 0 ≤ y / 2 ^ (8 * i) % 256 := Int.emod_nonneg _ (by decide)
  have h2 : y / 2 ^ (8 * i) % 256 < 256 := Int.emod_lt_of_pos _ (by decide)
  generalize y / 2 ^ (8 * i) % 256 = z at *
  simp
  omega
theorem num_y8 (y : Int) (h0 : 0 ≤ y) (h1 : y < 9223372036854775808) : (num (y8 y) 8 : Int) = y := by
  unfold y8
  rw [num8]
  have e0 := yb_nat y 0
  have e1 := yb_nat y 1
  have e2 := yb_nat y 2
  have e3 := yb_nat y 3
  have e4 := yb_nat y 4
  have e5 := yb_nat y 5
  have e6 := yb_nat y 6
  have e7 := yb_nat y 7
  simp only [Nat.reduceMul, Int.reducePow] at e0 e1 e2 e3 e4 e5 e6 e7
  generalize yb y 0 = b0 at *
  generalize yb y 1 = b1 at *
  generalize yb y 2 = b2 at *
  generalize yb y 3 = b3 at *
  generalize yb y 4 = b4 at *
  generalize yb y 5 = b5 at *
  generalize yb y 6 = b6 at *
  generalize yb y 7 = b7 at *
  omega
theorem zip_bx (y : Int) (p : List UInt8) (h : p.length = 16) : List.zipWith (· ^^^ ·) ((bx y p).take 8) (p.take 8) = y8 y := by
  match p, h with
  | [a0, a1, a2, a3, a4, a5, a6, a7, a8, a9, a10, a11, a12, a13, a14, a15], _ => simp [bx, y8, xx]
theorem wrap_id (y : Int) (h0 : 0 ≤ y) (h1 : y < 9223372036854775808) : wrap64 y = y := by unfold wrap64; omega
theorem ct_bx (y : Int) (p : List UInt8) (h : p.length = 16) (h0 : 0 ≤ y) (h1 : y < 9223372036854775808) : ct (bx y p) p = y := by
  unfold ct
  rw [zip_bx y p h, num_y8 y h0 h1, wrap_id y h0 h1]
theorem fit_bx (y : Int) (p : List UInt8) (h : p.length = 16) : fit (bx y p) p = true := by
  unfold fit
  rw [bx_len y p h]
  match p, h with
  | [a0, a1, a2, a3, a4, a5, a6, a7, a8, a9, a10, a11, a12, a13, a14, a15], _ => simp [bx, y8]
theorem pp_comm (a b : Int) (ha : 0 ≤ a) (hb : 0 ≤ b) : pp (pp 4 a) b = pp (pp 4 b) a := by
  rw [← pp_prod a b ha hb, ← pp_prod b a hb ha, gm_comm]
theorem fits_own (coefs : List Int) (x : Int) (hc : ∀ c ∈ coefs, 0 ≤ c) : fits (vl coefs x) (coefs.map (pp 4)) x = true := by
  unfold fits
  rw [inQ_t (vl_rng coefs x), av_pow coefs x hc]
  simp
/-- the owner of the key opens the box -/
theorem tk_own (coefs : List Int) (K x i : Int) (hK : 0 ≤ K) (hx : 0 ≤ x) (hc : ∀ c ∈ coefs, 0 ≤ c) :
    tk (pp (pp 4 K) x) i (bx (vl coefs (i + 1)) (pd (pp (pp 4 x) K) i)) (coefs.map (pp 4)) = true ∧ ct (bx (vl coefs (i + 1)) (pd (pp (pp 4 x) K) i)) (pd (pp (pp 4 K) x) i) = vl coefs (i + 1) := by
  rw [pp_comm K x hK hx]
  have hl := pd_len (pp (pp 4 x) K) i
  have hr := vl_rng coefs (i + 1)
  have hf := fits_own coefs (i + 1) hc
  unfold tk
  generalize pd (pp (pp 4 x) K) i = P at *
  generalize vl coefs (i + 1) = y at *
  have e := ct_bx y P hl hr.1 (by omega)
  rw [e, fit_bx y P hl, hf]
  exact ⟨rfl, rfl⟩
end Go.Proofs.YtjfbpmpdcmealaaGreatDoor.D7
