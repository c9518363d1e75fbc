/-
  Polynomials modulo a prime number, by their coefficients: a polynomial with less coefficients than zeros is zero everywhere; its value at 0 out of values at different points.
  Values of coefficients, public values, boxes: over numbers and bytes.
-/
import Derived.Test.YtbfplapjjeeceaaGreatDoorEMath
namespace D7P
/-- the value of coefficients -/
def ev (l : List Int) (x : Int) : Int := l.foldr (fun c r => c + x * r) 0
theorem ev_nil (x : Int) : ev [] x = 0 := by unfold ev; rfl
theorem ev_cons (c : Int) (l : List Int) (x : Int) : ev (c :: l) x = c + x * ev l x := rfl
theorem ev_zero (l : List Int) : ev l 0 = l.headD 0 := by
  cases l with
  | nil => rfl
  | cons c l => rw [ev_cons]; simp
theorem ev_part (y : Int) : ∀ l : List Int, ∃ r : List Int, r.length ≤ l.length - 1 ∧ ∀ z, ev l z - ev l y = (z - y) * ev r z := by
  intro l
  induction l with
  | nil => exact ⟨[], by simp, fun z => by simp [ev]⟩
  | cons c l ih =>
    cases l with
    | nil => exact ⟨[], by simp, fun z => by simp [ev]⟩
    | cons d l =>
      obtain ⟨r, h1, h2⟩ := ih
      refine ⟨ev (d :: l) y :: r, by simp at h1 ⊢; omega, fun z => ?_⟩
      rw [ev_cons c, ev_cons c, ev_cons _ r]
      have h := h2 z
      generalize ev (d :: l) z = A at *
      generalize ev (d :: l) y = B at *
      generalize ev r z = R at *
      have : A = B + (z - y) * R := by omega
      subst this
      grind
/-- different points -/
def Apart (q : Int) (xs : List Int) : Prop := xs.Pairwise fun a b => ¬ q ∣ a - b
theorem roots {q : Int} (hq : ∀ a b : Int, q ∣ a * b → q ∣ a ∨ q ∣ b) : ∀ (n : Nat) (l xs : List Int), l.length ≤ n → xs.length = n → Apart q xs → (∀ x ∈ xs, q ∣ ev l x) → ∀ z, q ∣ ev l z := by
  intro n
  induction n with
  | zero =>
    intro l xs hl _ _ _ z
    have : l = [] := List.length_eq_zero_iff.1 (by omega)
    subst this
    exact ⟨0, by simp [ev]⟩
  | succ n ih =>
    intro l xs hl hx hA h z
    match xs, hx with
    | x :: xs, hx =>
      obtain ⟨r, h1, h2⟩ := ev_part x l
      have hA' := List.pairwise_cons.1 hA
      have h0 := h x (by simp)
      have key := ih r xs (by omega) (by simpa using hx) hA'.2 (fun y hy => by
        have e := h2 y
        have h3 := h y (by simp [hy])
        have h4 : q ∣ (y - x) * ev r y := by rw [← e]; exact Int.dvd_sub h3 h0
        rcases hq _ _ h4 with h5 | h5
        · exact absurd (by have := Int.dvd_neg.2 h5; rwa [Int.neg_sub] at this) (hA'.1 y hy)
        · exact h5) z
      have e := h2 z
      have : ev l z = ev l x + (z - x) * ev r z := by omega
      rw [this]
      exact Int.dvd_add h0 (Int.dvd_mul_of_dvd_right key)
/-- functions that at most n coefficients give -/
def PL (n : Nat) (f : Int → Int) : Prop := ∃ l : List Int, l.length ≤ n ∧ ∀ z, ev l z = f z
theorem PL.le {m n : Nat} {f : Int → Int} (h : PL m f) (k : m ≤ n) : PL n f := by obtain ⟨l, a, b⟩ := h; exact ⟨l, Nat.le_trans a k, b⟩
theorem PL.const (c : Int) : PL 1 fun _ => c := ⟨[c], by simp, fun z => by simp [ev]⟩
theorem PL.none : PL 0 fun _ => 0 := ⟨[], by simp, fun z => rfl⟩
theorem ev_add : ∀ a b : List Int, ∃ c : List Int, c.length ≤ max a.length b.length ∧ ∀ z, ev c z = ev a z + ev b z := by
  intro a
  induction a with
  | nil => exact fun b => ⟨b, by simp, fun z => by rw [ev_nil]; omega⟩
  | cons x a ih =>
    intro b
    cases b with
    | nil => exact ⟨x :: a, by simp, fun z => by rw [ev_nil]; omega⟩
    | cons y b =>
      obtain ⟨c, h1, h2⟩ := ih b
      refine ⟨(x + y) :: c, by simp; omega, fun z => ?_⟩
      rw [ev_cons, ev_cons, ev_cons, h2, Int.mul_add]; omega
theorem PL.add {n : Nat} {f g : Int → Int} (h : PL n f) (k : PL n g) : PL n fun z => f z + g z := by
  obtain ⟨a, a1, a2⟩ := h; obtain ⟨b, b1, b2⟩ := k
  obtain ⟨c, c1, c2⟩ := ev_add a b
  exact ⟨c, by omega, fun z => by rw [c2, a2, b2]⟩
theorem ev_map (k : Int) (l : List Int) (z : Int) : ev (l.map (k * ·)) z = k * ev l z := by
  induction l with
  | nil => simp [ev]
  | cons c l ih => rw [List.map_cons, ev_cons, ev_cons, ih]; grind
theorem PL.mul {n : Nat} {f : Int → Int} (h : PL n f) (k : Int) : PL n fun z => k * f z := by
  obtain ⟨a, a1, a2⟩ := h
  exact ⟨a.map (k * ·), by simpa using a1, fun z => by rw [ev_map, a2]⟩
theorem PL.lin {n : Nat} {f : Int → Int} (h : PL n f) (a b : Int) : PL (n+1) fun z => (a - z) * b * f z := by
  obtain ⟨l, l1, l2⟩ := h
  obtain ⟨c, c1, c2⟩ := ev_add (l.map (a * b * ·)) (0 :: l.map (-b * ·))
  refine ⟨c, by simp at c1; omega, fun z => ?_⟩
  rw [c2, ev_cons, ev_map, ev_map, l2]; grind
/-- the factor of the point x at z -/
def fac (iv : Int → Int) (x : Int) (z : Int) : List Int → Int
  | [] => 1
  | y :: l => if y = x then fac iv x z l else (y - z) * iv (y - x) * fac iv x z l
theorem fac_pl (iv : Int → Int) (x : Int) (l : List Int) : PL (1 + l.countP (fun y => decide (y ≠ x))) fun z => fac iv x z l := by
  induction l with
  | nil => exact PL.const 1
  | cons y l ih =>
    by_cases h : y = x
    · have e : (fun z => fac iv x z (y :: l)) = fun z => fac iv x z l := by funext z; simp [fac, h]
      rw [e]; exact ih.le (by simp [h])
    · have e : (fun z => fac iv x z (y :: l)) = fun z => (y - z) * iv (y - x) * fac iv x z l := by funext z; simp [fac, h]
      rw [e]; exact (ih.lin y (iv (y - x))).le (by simp [h]; omega)
theorem fac_pl' (iv : Int → Int) (x : Int) (l : List Int) (h : x ∈ l) : PL l.length fun z => fac iv x z l := by
  refine (fac_pl iv x l).le ?_
  have : l.countP (fun y => decide (y ≠ x)) < l.length := by
    rw [List.countP_eq_length_filter]
    have := List.length_filter_lt_length_iff_exists (l := l) (p := fun y => decide (y ≠ x))
    exact this.2 ⟨x, h, by simp⟩
  omega
theorem fac_self {q : Int} (iv : Int → Int) (hi : ∀ d, ¬ q ∣ d → q ∣ d * iv d - 1) (x : Int) (l : List Int) (h : ∀ y ∈ l, y ≠ x → ¬ q ∣ y - x) : q ∣ fac iv x x l - 1 := by
  induction l with
  | nil => exact ⟨0, by simp [fac]⟩
  | cons y l ih =>
    have ih := ih fun z hz => h z (by simp [hz])
    by_cases e : y = x
    · simpa [fac, e] using ih
    · have h1 := hi _ (h y (by simp) e)
      simp only [fac, if_neg e]
      have : (y - x) * iv (y - x) * fac iv x x l - 1 = ((y - x) * iv (y - x) - 1) * fac iv x x l + (fac iv x x l - 1) := by
        generalize (y - x) * iv (y - x) = A
        rw [Int.sub_mul]; omega
      rw [this]
      exact Int.dvd_add (Int.dvd_mul_of_dvd_left h1) ih
theorem fac_other (iv : Int → Int) (x z : Int) (l : List Int) (h : z ∈ l) (hz : z ≠ x) : fac iv x z l = 0 := by
  induction l with
  | nil => simp at h
  | cons y l ih =>
    by_cases e : y = x
    · have : z ∈ l := by
        rcases List.mem_cons.1 h with h | h
        · exact absurd (h.trans e) hz
        · exact h
      simp [fac, e, ih this]
    · by_cases e2 : z = y
      · subst e2; simp [fac, e]
      · have : z ∈ l := by
          rcases List.mem_cons.1 h with h | h
          · exact absurd h e2
          · exact h
        simp [fac, e, ih this]
/-- the sum of values times factors, at z -/
def lag (iv : Int → Int) (xs : List Int) (z : Int) (f : Int → Int) : List Int → Int
  | [] => 0
  | x :: l => f x * fac iv x z xs + lag iv xs z f l
theorem lag_pl (iv : Int → Int) (xs : List Int) (f : Int → Int) (l : List Int) (h : ∀ x ∈ l, x ∈ xs) : PL xs.length fun z => lag iv xs z f l := by
  induction l with
  | nil => exact PL.none.le (by omega)
  | cons x l ih => exact ((fac_pl' iv x xs (h x (by simp))).mul (f x)).add (ih fun y hy => h y (by simp [hy]))
theorem lag_at {q : Int} (iv : Int → Int) (hi : ∀ d, ¬ q ∣ d → q ∣ d * iv d - 1) (xs : List Int) (hA : ∀ x ∈ xs, ∀ y ∈ xs, y ≠ x → ¬ q ∣ y - x) (f : Int → Int) (z : Int) (hz : z ∈ xs) : ∀ l : List Int, (∀ x ∈ l, x ∈ xs) → l.Nodup →
    q ∣ lag iv xs z f l - (if z ∈ l then f z else 0) := by
  intro l
  induction l with
  | nil => intro _ _; exact ⟨0, by simp [lag]⟩
  | cons x l ih =>
    intro hl hn
    have ih := ih (fun y hy => hl y (by simp [hy])) (List.nodup_cons.1 hn).2
    by_cases e : z = x
    · subst e
      have hnot := (List.nodup_cons.1 hn).1
      rw [if_neg hnot] at ih
      rw [if_pos (by simp)]
      have h1 := fac_self iv hi z xs (fun y hy hne => hA z (hl z (by simp)) y hy hne)
      show q ∣ f z * fac iv z z xs + lag iv xs z f l - f z
      have : f z * fac iv z z xs + lag iv xs z f l - f z = f z * (fac iv z z xs - 1) + (lag iv xs z f l - 0) := by rw [Int.mul_sub]; omega
      rw [this]
      exact Int.dvd_add (Int.dvd_mul_of_dvd_right h1) ih
    · have h2 : (if z ∈ x :: l then f z else 0) = if z ∈ l then f z else 0 := by simp [e]
      rw [h2]
      show q ∣ f x * fac iv x z xs + lag iv xs z f l - _
      rw [fac_other iv x z xs hz e, Int.mul_zero, Int.zero_add]
      exact ih
/-- the first coefficient out of values at as many different points -/
theorem lagrange {q : Int} (hq : ∀ a b : Int, q ∣ a * b → q ∣ a ∨ q ∣ b) (iv : Int → Int) (hi : ∀ d, ¬ q ∣ d → q ∣ d * iv d - 1) (coefs xs : List Int) (hA : Apart q xs) (h : coefs.length ≤ xs.length) (f : Int → Int) (hf : ∀ x ∈ xs, q ∣ f x - ev coefs x) :
    q ∣ lag iv xs 0 f xs - ev coefs 0 := by
  have hne : ∀ x ∈ xs, ∀ y ∈ xs, y ≠ x → ¬ q ∣ y - x := by
    clear h hf
    induction xs with
    | nil => intro x hx; simp at hx
    | cons a l ih =>
      have h2 := List.pairwise_cons.1 hA
      intro x hx y hy hne hd
      rcases List.mem_cons.1 hx with rfl | hx
      · rcases List.mem_cons.1 hy with rfl | hy
        · exact hne rfl
        · exact h2.1 y hy (by have := Int.dvd_neg.2 hd; rwa [Int.neg_sub] at this)
      · rcases List.mem_cons.1 hy with e | hy
        · rw [e] at hd; exact h2.1 x hx hd
        · exact ih h2.2 x hx y hy hne hd
  have hnd : xs.Nodup := by
    refine hA.imp ?_
    intro a b hab e
    subst e
    exact hab ⟨0, by simp⟩
  obtain ⟨l, l1, l2⟩ := (lag_pl iv xs f xs (fun _ h => h)).add ((show PL xs.length (fun z => -1 * ev coefs z) from PL.mul ⟨coefs, h, fun _ => rfl⟩ (-1)))
  replace l2 : ∀ z, ev l z = lag iv xs z f xs + -1 * ev coefs z := l2
  have key := roots hq xs.length l xs l1 rfl hA (fun x hx => by
    rw [l2]
    have h1 := lag_at iv hi xs hne f x hx xs (fun _ h => h) hnd
    rw [if_pos hx] at h1
    have h2 := Int.dvd_add h1 (hf x hx)
    have : lag iv xs x f xs + -1 * ev coefs x = lag iv xs x f xs - f x + (f x - ev coefs x) := by omega
    rw [this]; exact h2) 0
  rw [l2] at key
  have : lag iv xs 0 f xs - ev coefs 0 = lag iv xs 0 f xs + -1 * ev coefs 0 := by omega
  rw [this]; exact key
end D7P
namespace Go.Proofs.YtbfplapjjeeceaaGreatDoor.D7
open Go.RowKit GM SH G4 E6 D7P
/-- numbers with the powers of x -/
def pws : List Int → Int → Int → List (Int × Int)
  | [], _, _ => []
  | c :: l, x, p => (c, p) :: pws l x (gm p x 1152921504606845789)
/-- sums of products, products of powers -/
def vf (s : Int) (l : List (Int × Int)) : Int := l.foldl (fun s c => ga s (gm c.1 c.2 1152921504606845789) 1152921504606845789) s
def af (s : Int) (l : List (Int × Int)) : Int := l.foldl (fun s c => gm s (pp c.1 c.2) 2305843009213691579) s
theorem af_snoc (s : Int) (l : List (Int × Int)) (c : Int × Int) : af s (l ++ [c]) = gm (af s l) (pp c.1 c.2) 2305843009213691579 := by simp [af]
/-- the value of coefficients at x, the public value of commitments -/
def vl (l : List Int) (x : Int) : Int := vf 0 (pws l x 1)
def av (l : List Int) (x : Int) : Int := af 1 (pws l x 1)
theorem gQr (a b : Int) : 0 ≤ ga a b 1152921504606845789 ∧ ga a b 1152921504606845789 < 1152921504606845789 := by
  have := ga_rng a b 1152921504606845789; omega
theorem mQr (a b : Int) : 0 ≤ gm a b 1152921504606845789 ∧ gm a b 1152921504606845789 < 1152921504606845789 := by
  have := gm_rng a b 1152921504606845789; omega
theorem mPr (a b : Int) : 0 ≤ gm a b 2305843009213691579 ∧ gm a b 2305843009213691579 < 2305843009213691579 := by
  have := gm_rng a b 2305843009213691579; omega
theorem vf_rng : ∀ (l : List (Int × Int)) (s : Int), 0 ≤ s ∧ s < 1152921504606845789 → 0 ≤ vf s l ∧ vf s l < 1152921504606845789
  | [], _, h => h
  | _ :: l, _, _ => vf_rng l _ (gQr _ _)
theorem af_rng : ∀ (l : List (Int × Int)) (s : Int), 0 ≤ s ∧ s < 2305843009213691579 → 0 ≤ af s l ∧ af s l < 2305843009213691579
  | [], _, h => h
  | _ :: l, _, _ => af_rng l _ (mPr _ _)
theorem vl_rng (l : List Int) (x : Int) : 0 ≤ vl l x ∧ vl l x < 1152921504606845789 := vf_rng _ _ (by decide)
theorem av_rng (l : List Int) (x : Int) : 0 ≤ av l x ∧ av l x < 2305843009213691579 := af_rng _ _ (by decide)
theorem vf_ev (x : Int) : ∀ (l : List Int) (p s : Int), vf s (pws l x p) % 1152921504606845789 = (s + p * ev l x) % 1152921504606845789 := by
  intro l
  induction l with
  | nil => intro p s; rw [ev_nil, Int.mul_zero, Int.add_zero]; rfl
  | cons c l ih =>
    intro p s
    show vf (ga s (gm c p 1152921504606845789) 1152921504606845789) (pws l x (gm p x 1152921504606845789)) % _ = _
    rw [ih, ev_cons]
    unfold ga gm
    rw [if_neg (by decide), if_neg (by decide), if_neg (by decide)]
    generalize ev l x = E
    show ((s + c * p % 1152921504606845789) % 1152921504606845789 + p * x % 1152921504606845789 * E) % 1152921504606845789 = _
    rw [add_l, show s + c * p % 1152921504606845789 + p * x % 1152921504606845789 * E = s + p * x % 1152921504606845789 * E + c * p % 1152921504606845789 by omega, add_r,
      show s + p * x % 1152921504606845789 * E + c * p = s + c * p + p * x % 1152921504606845789 * E by omega, ← add_r, mul_l, add_r]
    congr 1
    grind
theorem vl_ev (l : List Int) (x : Int) : vl l x = ev l x % 1152921504606845789 := by
  have h := vf_ev x l 1 0
  have r := vl_rng l x
  unfold vl at *
  rw [Int.emod_eq_of_lt r.1 r.2] at h
  rw [h, Int.one_mul, Int.zero_add]
/-- Horner's rule -/
theorem horner (l : List Int) (x : Int) (k : Nat) (c : Int) (h : l[k]? = some c) :
    ga (gm (ev (l.drop (k+1)) x % 1152921504606845789) x 1152921504606845789) c 1152921504606845789 = ev (l.drop k) x % 1152921504606845789 := by
  obtain ⟨hk, rfl⟩ := List.getElem?_eq_some_iff.1 h
  rw [List.drop_eq_getElem_cons hk, ev_cons]
  unfold ga gm
  rw [if_neg (by decide), if_neg (by decide), add_l, ← add_l, mul_l, add_l]
  congr 1
  grind
theorem pp_sum (x y : Int) (hx : 0 ≤ x) (hy : 0 ≤ y) : pp 4 (ga x y 1152921504606845789) = gm (pp 4 x) (pp 4 y) 2305843009213691579 := by
  obtain ⟨m, rfl⟩ : ∃ m : Nat, x = m := ⟨x.toNat, by omega⟩
  obtain ⟨n, rfl⟩ : ∃ n : Nat, y = n := ⟨y.toNat, by omega⟩
  exact pow_sum mem_four m n
theorem pp_prod (x y : Int) (hx : 0 ≤ x) (hy : 0 ≤ y) : pp 4 (gm x y 1152921504606845789) = pp (pp 4 x) y := by
  obtain ⟨m, rfl⟩ : ∃ m : Nat, x = m := ⟨x.toNat, by omega⟩
  obtain ⟨n, rfl⟩ : ∃ n : Nat, y = n := ⟨y.toNat, by omega⟩
  exact pow_prod mem_four m n
/-- the public value is the power with the value -/
theorem af_pow (x : Int) : ∀ (l : List Int) (p s : Int), (∀ c ∈ l, 0 ≤ c) → 0 ≤ p → 0 ≤ s → af (pp 4 s) (pws (l.map (pp 4)) x p) = pp 4 (vf s (pws l x p)) := by
  intro l
  induction l with
  | nil => intro p s _ _ _; rfl
  | cons c l ih =>
    intro p s hl hp hs
    show af (gm (pp 4 s) (pp (pp 4 c) p) 2305843009213691579) (pws (l.map (pp 4)) x (gm p x 1152921504606845789)) = pp 4 (vf (ga s (gm c p 1152921504606845789) 1152921504606845789) (pws l x (gm p x 1152921504606845789)))
    rw [← ih _ _ (fun d hd => hl d (by simp [hd])) (mQr _ _).1 (gQr _ _).1, pp_sum _ _ hs (mQr _ _).1, pp_prod _ _ (hl c (by simp)) hp]
theorem pp_zero (a : Int) : pp a 0 = 1 := by
  unfold pp gp; simp
/-- byte i of a number, the least significant one first -/
def yb (y : Int) (i : Nat) : UInt8 := UInt8.ofNat (y / 2 ^ (8 * i) % 256).toNat
/-- the eight bytes of a number -/
def y8 (y : Int) : List UInt8 := [yb y 7, yb y 6, yb y 5, yb y 4, yb y 3, yb y 2, yb y 1, yb y 0]
/-- a box, by its first and its last bytes -/
def bx (y : Int) (p : List UInt8) : List UInt8 := List.zipWith (· ^^^ ·) (p.take 8) (y8 y) ++ p.drop 8
/-- whether a pad opens a box -/
def fit (s p : List UInt8) : Bool := (s.length == 16) && (s.drop 8 == p.drop 8)
end Go.Proofs.YtbfplapjjeeceaaGreatDoor.D7
