/-
  The factor of a point: as the program computes it (all points over the product of the point and its differences), and as the reference does (a product of quotients).
  The value of a round: powers of a base, multiplied to the power of the points' factors.
-/
import Derived.Test.YtbfplapjjeeceaaGreatDoorGSan
import Derived.Test.YtbfplapjjeeceaaGreatDoorDMath
namespace Go.Proofs.YtbfplapjjeeceaaGreatDoor.W8
open Go.RowKit GM G4 D7P
abbrev i64 (n : Int) : Prop := -9223372036854775808 ≤ n ∧ n ≤ 9223372036854775807
theorem inv_ex (d : Int) (h : d % (gQ : Int) ≠ 0) : ∃ i, IsInv d (gQ : Int) i true := by
  have hf := fermat_int gen_Q (gQ - 2 + 1) (by decide) d h
  have h2 : (2 : Int) ≤ (gQ : Int) := by decide
  generalize gQ - 2 = k at hf
  generalize (gQ : Int) = q at *
  refine ⟨d^k % q, Or.inl ⟨rfl, h2, Int.emod_nonneg _ (by omega), Int.emod_lt_of_pos _ (by omega), ?_⟩⟩
  rw [Int.mul_emod, Int.emod_emod, ← Int.mul_emod, Int.mul_comm, ← Int.pow_succ]; exact hf
noncomputable def iv (d : Int) : Int := if h : d % (gQ : Int) = 0 then 0 else (inv_ex d h).choose
theorem iv_is (d : Int) (h : d % 1152921504606845789 ≠ 0) : IsInv d 1152921504606845789 (iv d) true := by
  have h' : d % (gQ : Int) ≠ 0 := h
  unfold iv; rw [dif_neg h']; exact (inv_ex d h').choose_spec
theorem iv_eq (d i : Int) (h : IsInv d 1152921504606845789 i true) : iv d = i := by
  have h1 : d % 1152921504606845789 ≠ 0 := fun e => by
    rcases h with ⟨_, _, _, _, h5⟩ | ⟨h1, _⟩
    · rw [← mul_l, e, Int.zero_mul] at h5; simp at h5
    · cases h1
  exact ((iv_is d h1).unique h).1
theorem iv_dvd (d : Int) (h : ¬ (1152921504606845789 : Int) ∣ d) : (1152921504606845789 : Int) ∣ d * iv d - 1 := by
  have h1 := iv_is d (fun e => h (Int.dvd_of_emod_eq_zero e))
  rcases h1 with ⟨_, h2, _, _, h5⟩ | ⟨h1, _⟩
  · exact Int.dvd_of_emod_eq_zero (Int.emod_eq_emod_iff_emod_sub_eq_zero.1 (h5.trans (by decide)))
  · cases h1
theorem iv_i (d : Int) (h : d % 1152921504606845789 ≠ 0) : i64 (iv d) := by
  have := (iv_is d h).one
  exact ⟨by omega, by omega⟩
theorem qdvd (a b : Int) : (1152921504606845789 : Int) ∣ a * b → (1152921504606845789 : Int) ∣ a ∨ (1152921504606845789 : Int) ∣ b := pr_int NM.pr1152921504606845789 a b
theorem gmQ_mod (a b : Int) : gm a b 1152921504606845789 = a * b % 1152921504606845789 := by unfold gm; rw [if_neg (by decide)]
theorem gaQ_mod (a b : Int) : ga a b 1152921504606845789 = (a + b) % 1152921504606845789 := by unfold ga; rw [if_neg (by decide)]
theorem gsQ_mod (a b : Int) : gs a b 1152921504606845789 = (a - b) % 1152921504606845789 := by unfold gs; rw [if_neg (by decide)]
theorem gQr (a b : Int) : 0 ≤ ga a b 1152921504606845789 ∧ ga a b 1152921504606845789 < 1152921504606845789 := by rw [gaQ_mod]; omega
theorem sQr (a b : Int) : 0 ≤ gs a b 1152921504606845789 ∧ gs a b 1152921504606845789 < 1152921504606845789 := by rw [gsQ_mod]; omega
theorem mQr (a b : Int) : 0 ≤ gm a b 1152921504606845789 ∧ gm a b 1152921504606845789 < 1152921504606845789 := by
  rw [gmQ_mod]; generalize a * b = x; omega
theorem mPr (a b : Int) : 0 ≤ gm a b 2305843009213691579 ∧ gm a b 2305843009213691579 < 2305843009213691579 := by
  unfold gm; rw [if_neg (by decide)]; generalize a * b = x; omega
theorem pPr (a n : Int) : 0 ≤ gp a n 2305843009213691579 ∧ gp a n 2305843009213691579 < 2305843009213691579 := by
  have h := gp_rng a n 2305843009213691579
  exact ⟨h.1, h.2.2 (by decide)⟩
/-- the factor of x among the points l, as the reference has it -/
noncomputable def fst (x : Int) (f t : Int) : Int := if t = x then f else gm f (gm t (iv (t - x)) 1152921504606845789) 1152921504606845789
noncomputable def fz (x y : Int) (l : List Int) : Int := l.foldl (fst x) y
noncomputable def fx (l : List Int) (x : Int) : Int := fz x 1 l
theorem fst_rng {x f t : Int} (h : 0 ≤ f ∧ f < 1152921504606845789) : 0 ≤ fst x f t ∧ fst x f t < 1152921504606845789 := by
  unfold fst; split
  · exact h
  · exact mQr _ _
theorem fz_rng (x : Int) : ∀ (l : List Int) (y : Int), (0 ≤ y ∧ y < 1152921504606845789) → 0 ≤ fz x y l ∧ fz x y l < 1152921504606845789
  | [], _, h => h
  | t :: l, y, h => fz_rng x l (fst x y t) (fst_rng h)
theorem fx_rng (l : List Int) (x : Int) : 0 ≤ fx l x ∧ fx l x < 1152921504606845789 := fz_rng x l 1 (by decide)
/-- the product of all points -/
def al (s : Int) (l : List Int) : Int := l.foldl (fun f t => gm f t 1152921504606845789) s
theorem al_rng : ∀ (l : List Int) (s : Int), (0 ≤ s ∧ s < 1152921504606845789) → 0 ≤ al s l ∧ al s l < 1152921504606845789
  | [], _, h => h
  | t :: l, s, _ => al_rng l (gm s t 1152921504606845789) (mQr _ _)
/-- the product of a point and its differences -/
def bst (x f t : Int) : Int := if t = x then f else gm f (gs t x 1152921504606845789) 1152921504606845789
def bl (x s : Int) (l : List Int) : Int := l.foldl (bst x) s
theorem bst_rng {x f t : Int} (h : 0 ≤ f ∧ f < 1152921504606845789) : 0 ≤ bst x f t ∧ bst x f t < 1152921504606845789 := by
  unfold bst; split
  · exact h
  · exact mQr _ _
theorem bl_rng (x : Int) : ∀ (l : List Int) (s : Int), (0 ≤ s ∧ s < 1152921504606845789) → 0 ≤ bl x s l ∧ bl x s l < 1152921504606845789
  | [], _, h => h
  | t :: l, s, h => bl_rng x l (bst x s t) (bst_rng h)
def np (x : Int) : List Int → Int
  | [] => 1
  | t :: l => if t = x then np x l else t * np x l
def dp (x : Int) : List Int → Int
  | [] => 1
  | t :: l => if t = x then dp x l else (t - x) * dp x l
def pr : List Int → Int
  | [] => 1
  | t :: l => t * pr l
theorem al_mod : ∀ (l : List Int) (s : Int), al s l % 1152921504606845789 = s * pr l % 1152921504606845789
  | [], s => by simp [al, pr]
  | t :: l, s => by
    show al (gm s t 1152921504606845789) l % 1152921504606845789 = s * (t * pr l) % 1152921504606845789
    rw [al_mod l, gmQ_mod, mul_l, Int.mul_assoc]
theorem bl_mod (x : Int) : ∀ (l : List Int) (s : Int), bl x s l % 1152921504606845789 = s * dp x l % 1152921504606845789
  | [], s => by simp [bl, dp]
  | t :: l, s => by
    show bl x (bst x s t) l % 1152921504606845789 = s * (if t = x then dp x l else (t - x) * dp x l) % 1152921504606845789
    rw [bl_mod x l]
    unfold bst
    split
    · rfl
    · rw [gmQ_mod, gsQ_mod, mul_l, Int.mul_assoc]
      generalize dp x l = D
      generalize t - x = d
      rw [show s * (d % 1152921504606845789 * D) = (d % 1152921504606845789) * (s * D) by rw [Int.mul_left_comm], mul_l, Int.mul_left_comm]
theorem fz_mul (x : Int) : ∀ (l : List Int) (s : Int), (∀ t ∈ l, t ≠ x → (t - x) % 1152921504606845789 ≠ 0) → fz x s l * dp x l % 1152921504606845789 = s * np x l % 1152921504606845789
  | [], s, _ => by simp [fz, dp, np]
  | t :: l, s, h => by
    have ih := fz_mul x l (fst x s t) (fun u hu => h u (by simp [hu]))
    show fz x (fst x s t) l * (if t = x then dp x l else (t - x) * dp x l) % 1152921504606845789 = s * (if t = x then np x l else t * np x l) % 1152921504606845789
    by_cases e : t = x
    · rw [if_pos e, if_pos e]
      rw [ih]; unfold fst; rw [if_pos e]
    · rw [if_neg e, if_neg e]
      have hi := (iv_is (t - x) (h t (by simp) e)).one.1
      rw [gmQ_mod] at hi
      have e1 : fst x s t = gm s (gm t (iv (t - x)) 1152921504606845789) 1152921504606845789 := by unfold fst; rw [if_neg e]
      rw [show fz x (fst x s t) l * ((t - x) * dp x l) = (fz x (fst x s t) l * dp x l) * (t - x) by rw [Int.mul_left_comm, Int.mul_comm], ← mul_l, ih, mul_l, e1, gmQ_mod, gmQ_mod]
      generalize iv (t - x) = v at *
      generalize t - x = d at *
      generalize np x l = N at *
      rw [Int.mul_assoc, mul_l, show s * (t * v % 1152921504606845789) * (N * d) = (t * v % 1152921504606845789) * (s * (N * d)) by rw [Int.mul_comm s, Int.mul_assoc], mul_l]
      rw [show t * v * (s * (N * d)) = (d * v) * (s * (t * N)) by grind, ← mul_l, hi, Int.one_mul]
theorem np_pr (x : Int) : ∀ l : List Int, x ∉ l → np x l = pr l
  | [], _ => rfl
  | t :: l, h => by
    have h1 : t ≠ x := fun e => h (by simp [e])
    show (if t = x then np x l else t * np x l) = t * pr l
    rw [if_neg h1, np_pr x l (fun m => h (by simp [m]))]
theorem pr_np (x : Int) : ∀ l : List Int, x ∈ l → l.Nodup → pr l = x * np x l
  | [], h, _ => by simp at h
  | t :: l, h, hn => by
    have hn := List.nodup_cons.1 hn
    show t * pr l = x * (if t = x then np x l else t * np x l)
    by_cases e : t = x
    · subst e
      rw [if_pos rfl, np_pr t l hn.1]
    · rw [if_neg e, pr_np x l (by rcases List.mem_cons.1 h with h | h; exact absurd h.symm e; exact h) hn.2, Int.mul_left_comm]
theorem dp_ne (x : Int) : ∀ (l : List Int), (∀ t ∈ l, t ≠ x → (t - x) % 1152921504606845789 ≠ 0) → ¬ (1152921504606845789 : Int) ∣ dp x l
  | [], _ => by show ¬ (1152921504606845789 : Int) ∣ 1; decide
  | t :: l, h => by
    have ih := dp_ne x l (fun u hu => h u (by simp [hu]))
    show ¬ (1152921504606845789 : Int) ∣ (if t = x then dp x l else (t - x) * dp x l)
    split
    · exact ih
    · rename_i e
      intro hd
      rcases qdvd _ _ hd with hd | hd
      · exact h t (by simp) e (Int.emod_eq_zero_of_dvd hd)
      · exact ih hd
/-- points: different, from 1 to Q - 1 -/
structure Pts (l : List Int) : Prop where
  r : ∀ x ∈ l, 1 ≤ x ∧ x < 1152921504606845789
  d : l.Nodup
theorem Pts.sub {l : List Int} (h : Pts l) {x : Int} (hx : x ∈ l) : ∀ t ∈ l, t ≠ x → (t - x) % 1152921504606845789 ≠ 0 := fun t ht hne => by
  have h1 := h.r x hx
  have h2 := h.r t ht
  omega
theorem Pts.below {l : List Int} (h : Pts l) {x : Int} (hx : x ∈ l) : bl x x l % 1152921504606845789 ≠ 0 := by
  rw [bl_mod]
  intro e
  rcases qdvd _ _ (Int.dvd_of_emod_eq_zero e) with hd | hd
  · have := h.r x hx
    have := Int.emod_eq_zero_of_dvd hd
    omega
  · exact dp_ne x l (h.sub hx) hd
theorem Pts.factor {l : List Int} (h : Pts l) {x : Int} (hx : x ∈ l) : gm (al 1 l) (iv (bl x x l)) 1152921504606845789 = fx l x := by
  have hb := h.below hx
  have hi := (iv_is (bl x x l) hb).one.1
  rw [gmQ_mod] at hi
  have ha := al_mod l 1
  rw [Int.one_mul, pr_np x l hx h.d] at ha
  have hf := fz_mul x l 1 (h.sub hx)
  rw [Int.one_mul] at hf
  have hbm := bl_mod x l x
  have hr := fx_rng l x
  have e : (gm (al 1 l) (iv (bl x x l)) 1152921504606845789 * bl x x l) % 1152921504606845789 = (fx l x * bl x x l) % 1152921504606845789 := by
    rw [gmQ_mod, mul_l]
    rw [show al 1 l * iv (bl x x l) * bl x x l = (bl x x l * iv (bl x x l)) * al 1 l by grind, ← mul_l, hi, Int.one_mul, ha]
    rw [← mul_r (fx l x), hbm, mul_r]
    unfold fx
    rw [show fz x 1 l * (x * dp x l) = (fz x 1 l * dp x l) * x by grind, ← mul_l (fz x 1 l * dp x l), hf, mul_l, Int.mul_comm]
  have hd : (1152921504606845789 : Int) ∣ (gm (al 1 l) (iv (bl x x l)) 1152921504606845789 - fx l x) * bl x x l := by
    refine Int.dvd_of_emod_eq_zero ?_
    rw [Int.sub_mul, Int.sub_emod, e, Int.sub_self, Int.zero_emod]
  have hm := mQr (al 1 l) (iv (bl x x l))
  generalize gm (al 1 l) (iv (bl x x l)) 1152921504606845789 = g at *
  generalize fx l x = f at *
  rcases qdvd _ _ hd with h1 | h1
  · have := Int.emod_eq_zero_of_dvd h1
    omega
  · exact absurd (Int.emod_eq_zero_of_dvd h1) hb
theorem pts_apart {l : List Int} (h : Pts l) : Apart (1152921504606845789 : Int) l := by
  have hr := h.r
  have hd := h.d
  clear h
  induction l with
  | nil => exact List.Pairwise.nil
  | cons a l ih =>
    have hd := List.nodup_cons.1 hd
    refine List.pairwise_cons.2 ⟨fun y hy hdv => ?_, ih (fun x hx => hr x (by simp [hx])) hd.2⟩
    have h1 := hr a (by simp)
    have h2 := hr y (by simp [hy])
    have h3 : a ≠ y := fun e => hd.1 (by rw [e]; exact hy)
    have := Int.emod_eq_zero_of_dvd hdv
    omega
/-- the sum of the numbers times the factors -/
noncomputable def js (xs : List Int) (s : Int) (l : List (Int × Int)) : Int := l.foldl (fun s p => ga s (gm p.2 (fx xs p.1) 1152921504606845789) 1152921504606845789) s
theorem js_rng (xs : List Int) : ∀ (l : List (Int × Int)) (s : Int), (0 ≤ s ∧ s < 1152921504606845789) → 0 ≤ js xs s l ∧ js xs s l < 1152921504606845789
  | [], _, h => h
  | _ :: l, _, _ => js_rng xs l _ (gQr _ _)
/-- the product of the numbers to the power of the factors -/
noncomputable def jl (xs : List Int) (s : Int) (l : List (Int × Int)) : Int := l.foldl (fun s p => gm s (gp p.2 (fx xs p.1) 2305843009213691579) 2305843009213691579) s
end Go.Proofs.YtbfplapjjeeceaaGreatDoor.W8
namespace Go.Proofs.YtbfplapjjeeceaaGreatDoor.B9
open Go.RowKit GM SH G4 E6 D7P
open W8 hiding i64
theorem fz_mod (x : Int) : ∀ (l : List Int) (y : Int), fz x y l % 1152921504606845789 = y * fac iv x 0 l % 1152921504606845789
  | [], y => by simp [fz, fac]
  | t :: l, y => by
    have ih := fz_mod x l (fst x y t)
    have e : fz x y (t :: l) = fz x (fst x y t) l := rfl
    rw [e, ih]
    unfold fst
    by_cases h : t = x
    · simp only [h, if_true, fac]
    · simp only [h, if_false, fac]
      rw [gmQ_mod, gmQ_mod, Int.sub_zero, mul_l]
      generalize t * iv (t - x) = A
      generalize fac iv x 0 l = F
      rw [show y * (A % 1152921504606845789) * F = (A % 1152921504606845789) * (y * F) by rw [Int.mul_comm y, Int.mul_assoc], mul_l, Int.mul_left_comm]
theorem js_mod (xs : List Int) (f : Int → Int) : ∀ (l : List Int) (s : Int), js xs s (l.map fun x => (x, f x)) % 1152921504606845789 = (s + lag iv xs 0 f l) % 1152921504606845789
  | [], s => by simp [js, lag]
  | x :: l, s => by
    have ih := js_mod xs f l (ga s (gm (f x) (fx xs x) 1152921504606845789) 1152921504606845789)
    have e : js xs s ((x :: l).map fun x => (x, f x)) = js xs (ga s (gm (f x) (fx xs x) 1152921504606845789) 1152921504606845789) (l.map fun x => (x, f x)) := rfl
    rw [e, ih, gaQ_mod, gmQ_mod, lag]
    have h := fz_mod x xs 1
    rw [Int.one_mul] at h
    have h2 : f x * fx xs x % 1152921504606845789 = f x * fac iv x 0 xs % 1152921504606845789 := by
      rw [← mul_r, show fx xs x = fz x 1 xs from rfl, h, mul_r]
    rw [add_l, h2]
    generalize lag iv xs 0 f l = L
    generalize f x * fac iv x 0 xs = A
    omega
/-- the sum is the constant term -/
theorem js_const (N xs : List Int) (hP : Pts xs) (hl : N.length ≤ xs.length) (h0 : 0 ≤ N.headD 0 ∧ N.headD 0 < 1152921504606845789) :
    js xs 0 (xs.map fun x => (x, D7.vl N x)) = N.headD 0 := by
  have hL := lagrange qdvd iv iv_dvd N xs (pts_apart hP) hl (fun x => D7.vl N x) (fun x _ => by
    show (1152921504606845789 : Int) ∣ D7.vl N x - ev N x
    rw [D7.vl_ev]
    exact Int.dvd_of_emod_eq_zero (Int.emod_eq_emod_iff_emod_sub_eq_zero.1 (Int.emod_emod_of_dvd _ (Int.dvd_refl _))))
  have h1 := js_rng xs (xs.map fun x => (x, D7.vl N x)) 0 (by decide)
  have h2 := js_mod xs (fun x => D7.vl N x) xs 0
  rw [Int.zero_add] at h2
  rw [ev_zero] at hL
  have h3 : lag iv xs 0 (fun x => D7.vl N x) xs % 1152921504606845789 = N.headD 0 % 1152921504606845789 := Int.emod_eq_emod_iff_emod_sub_eq_zero.2 (Int.emod_eq_zero_of_dvd hL)
  rw [h3, Int.emod_eq_of_lt h1.1 h1.2, Int.emod_eq_of_lt h0.1 h0.2] at h2
  exact h2
theorem pp_ga {g : Int} (hg : mem g = true) (x y : Int) (hx : 0 ≤ x) (hy : 0 ≤ y) : pp g (ga x y 1152921504606845789) = gm (pp g x) (pp g y) 2305843009213691579 := by
  obtain ⟨m, rfl⟩ : ∃ m : Nat, x = m := ⟨x.toNat, by omega⟩
  obtain ⟨n, rfl⟩ : ∃ n : Nat, y = n := ⟨y.toNat, by omega⟩
  exact pow_sum ((mem_iff g).1 hg) m n
theorem pp_gm {g : Int} (hg : mem g = true) (x y : Int) (hx : 0 ≤ x) (hy : 0 ≤ y) : pp g (gm x y 1152921504606845789) = pp (pp g x) y := by
  obtain ⟨m, rfl⟩ : ∃ m : Nat, x = m := ⟨x.toNat, by omega⟩
  obtain ⟨n, rfl⟩ : ∃ n : Nat, y = n := ⟨y.toNat, by omega⟩
  exact pow_prod ((mem_iff g).1 hg) m n
/-- the product of powers is the power of the sum -/
theorem jl_js {g : Int} (hg : mem g = true) (xs : List Int) (f : Int → Int) (hf : ∀ x, 0 ≤ f x) : ∀ (l : List Int) (s : Int), 0 ≤ s →
    jl xs (pp g s) (l.map fun x => (x, pp g (f x))) = pp g (js xs s (l.map fun x => (x, f x)))
  | [], _, _ => rfl
  | x :: l, s, hs => by
    have hx := fx_rng xs x
    have hm := W8.mQr (f x) (fx xs x)
    have ih := jl_js hg xs f hf l (ga s (gm (f x) (fx xs x) 1152921504606845789) 1152921504606845789) (W8.gQr _ _).1
    rw [pp_ga hg s _ hs hm.1, pp_gm hg _ _ (hf x) hx.1] at ih
    exact ih
theorem pp_zero {g : Int} : pp g 0 = 1 := by
  unfold pp
  rw [show (0 : Int) = ((0 : Nat) : Int) from rfl, gpP, Int.pow_zero]; rfl
/-- the powers of a base with the values at enough points lead to the power with the first coefficient -/
theorem jl_const {g : Int} (hg : mem g = true) (N xs : List Int) (hP : Pts xs) (hl : N.length ≤ xs.length) (h0 : 0 ≤ N.headD 0 ∧ N.headD 0 < 1152921504606845789) :
    jl xs 1 (xs.map fun x => (x, pp g (D7.vl N x))) = pp g (N.headD 0) := by
  have h := jl_js hg xs (fun x => D7.vl N x) (fun x => (D7.vl_rng N x).1) xs 0 (by decide)
  rw [pp_zero, js_const N xs hP hl h0] at h
  exact h
end Go.Proofs.YtbfplapjjeeceaaGreatDoor.B9
