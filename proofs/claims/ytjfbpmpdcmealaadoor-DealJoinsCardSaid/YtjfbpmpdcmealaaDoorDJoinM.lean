/-
  The sum of values times factors, modulo Q, as the program computes it: the constant term.
-/
import Derived.Test.YtjfbpmpdcmealaaDoorDValue
import Derived.Test.YtjfbpmpdcmealaaDoorDPlan
namespace Go.Proofs.YtjfbpmpdcmealaaDoor.D7
open Go.RowKit GM SH G4 E6 D7P
theorem inv_ex (d : Int) (h : d % (gQ : Int) ≠ 0) : ∃ i, IsInv d (gQ : Int) i true := by
  have hf := fermat_int gen_Q (gQ - 2 + 1) (by decide) d h
  have h2 : (2 : Int) ≤ (gQ : Int) := by decide
  generalize gQ - 2 = k at hf
  generalize (gQ : Int) = q at *
  refine ⟨d^k % q, Or.inl ⟨rfl, h2, Int.emod_nonneg _ (by omega), Int.emod_lt_of_pos _ (by omega), ?_⟩⟩
  rw [Int.mul_emod, Int.emod_emod, ← Int.mul_emod, Int.mul_comm, ← Int.pow_succ]; exact hf
noncomputable def iv (d : Int) : Int := if h : d % (gQ : Int) = 0 then 0 else (inv_ex d h).choose
theorem iv_is (d : Int) (h : d % (gQ : Int) ≠ 0) : IsInv d (gQ : Int) (iv d) true := by
  unfold iv; rw [dif_neg h]; exact (inv_ex d h).choose_spec
theorem iv_dvd (d : Int) (h : ¬ (gQ : Int) ∣ d) : (gQ : Int) ∣ d * iv d - 1 := by
  have h1 := iv_is d (fun e => h (Int.dvd_of_emod_eq_zero e))
  rcases h1 with ⟨_, h2, _, _, h5⟩ | ⟨h1, _⟩
  · have h6 : (1 : Int) % (gQ : Int) = 1 := Int.emod_eq_of_lt (by decide) (by omega)
    exact Int.dvd_of_emod_eq_zero (Int.emod_eq_emod_iff_emod_sub_eq_zero.1 (h5.trans h6.symm))
  · cases h1
theorem iv_i (d : Int) (h : d % (gQ : Int) ≠ 0) : i64 (iv d) := by
  have := (iv_is d h).one
  have e : (gQ : Int) = 1152921504606845789 := rfl
  rw [e] at this
  exact ⟨by omega, by omega⟩
theorem qdvd (a b : Int) : (gQ : Int) ∣ a * b → (gQ : Int) ∣ a ∨ (gQ : Int) ∣ b := pr_int NM.pr1152921504606845789 a b
/-- a share's value times its factors -/
noncomputable def fz (x y : Int) (l : List Int) : Int := l.foldl (fun f t => if t = x then f else gm f (gm t (iv (t - x)) 1152921504606845789) 1152921504606845789) y
/-- the sum of them -/
def sz (g : Int → Int) (l : List Int) : Int := l.foldl (fun s x => ga s (g x) 1152921504606845789) 0
theorem gmQ_mod (a b : Int) : gm a b 1152921504606845789 = a * b % 1152921504606845789 := by unfold gm; rw [if_neg (by decide)]
theorem gaQ_mod (a b : Int) : ga a b 1152921504606845789 = (a + b) % 1152921504606845789 := by unfold ga; rw [if_neg (by decide)]
theorem fz_mod (x : Int) : ∀ (l : List Int) (y : Int), fz x y l % 1152921504606845789 = y * fac iv x 0 l % 1152921504606845789
  | [], y => by simp [fz, fac]
  | t :: l, y => by
    have ih := fz_mod x l (if t = x then y else gm y (gm t (iv (t - x)) 1152921504606845789) 1152921504606845789)
    have e : fz x y (t :: l) = fz x (if t = x then y else gm y (gm t (iv (t - x)) 1152921504606845789) 1152921504606845789) l := rfl
    rw [e, ih]
    by_cases h : t = x
    · simp only [h, if_true, fac]
    · simp only [h, if_false, fac]
      rw [gmQ_mod, gmQ_mod, Int.sub_zero, mul_l]
      generalize t * iv (t - x) = A
      generalize fac iv x 0 l = F
      rw [show y * (A % 1152921504606845789) * F = (A % 1152921504606845789) * (y * F) by rw [Int.mul_comm y, Int.mul_assoc], mul_l, Int.mul_left_comm]
theorem sz_snoc (g : Int → Int) (l : List Int) (x : Int) : sz g (l ++ [x]) = ga (sz g l) (g x) 1152921504606845789 := by unfold sz; rw [List.foldl_append]; rfl
theorem fz_snoc (x y : Int) (l : List Int) (t : Int) : fz x y (l ++ [t]) = if t = x then fz x y l else gm (fz x y l) (gm t (iv (t - x)) 1152921504606845789) 1152921504606845789 := by unfold fz; rw [List.foldl_append]; rfl
theorem sz_rng (g : Int → Int) (l : List Int) : 0 ≤ sz g l ∧ sz g l < 1152921504606845789 := by
  rcases List.eq_nil_or_concat l with rfl | ⟨m, x, rfl⟩
  · show (0 : Int) ≤ 0 ∧ (0 : Int) < 1152921504606845789; decide
  · rw [List.concat_eq_append, sz_snoc]; exact gQr _ _
theorem sz_fold (g : Int → Int) : ∀ (l : List Int) (s : Int), l.foldl (fun s x => ga s (g x) 1152921504606845789) s % 1152921504606845789 = (s + (l.map g).sum) % 1152921504606845789
  | [], s => by simp
  | x :: l, s => by
    have := sz_fold g l (ga s (g x) 1152921504606845789)
    rw [List.foldl_cons, this, gaQ_mod, Int.emod_add_emod, List.map_cons, List.sum_cons, Int.add_assoc]
theorem lag_sum (f : Int → Int) (xs : List Int) : ∀ (l : List Int), ((l.map fun x => fz x (f x) xs).sum) % 1152921504606845789 = lag iv xs 0 f l % 1152921504606845789
  | [] => by simp [lag]
  | x :: l => by
    rw [List.map_cons, List.sum_cons, lag, Int.add_emod, fz_mod, lag_sum f xs l, ← Int.add_emod]
/-- the sum is the constant term -/
theorem join_sum (N xs : List Int) (hA : Apart (gQ : Int) xs) (hl : N.length ≤ xs.length) (h0 : 0 ≤ N.headD 0 ∧ N.headD 0 < 1152921504606845789) :
    sz (fun x => fz x (vl N x) xs) xs = N.headD 0 := by
  have hL := lagrange qdvd iv iv_dvd N xs hA hl (fun x => vl N x) (fun x _ => by
    show (gQ : Int) ∣ vl N x - ev N x
    rw [vl_ev]
    exact Int.dvd_of_emod_eq_zero (Int.emod_eq_emod_iff_emod_sub_eq_zero.1 (Int.emod_emod_of_dvd _ (Int.dvd_refl _))))
  have h1 := sz_rng (fun x => fz x (vl N x) xs) xs
  have h2 : sz (fun x => fz x (vl N x) xs) xs % 1152921504606845789 = lag iv xs 0 (fun x => vl N x) xs % 1152921504606845789 := by
    have := sz_fold (fun x => fz x (vl N x) xs) xs 0
    rw [Int.zero_add] at this
    exact this.trans (lag_sum (fun x => vl N x) xs xs)
  rw [ev_zero] at hL
  have h3 : lag iv xs 0 (fun x => vl N x) xs % 1152921504606845789 = N.headD 0 % 1152921504606845789 := Int.emod_eq_emod_iff_emod_sub_eq_zero.2 (Int.emod_eq_zero_of_dvd hL)
  rw [h3, Int.emod_eq_of_lt h1.1 h1.2, Int.emod_eq_of_lt h0.1 h0.2] at h2
  exact h2
/-- the points -/
def jx (f M : Nat) (k : Nat) : Int := (((f + k) % M : Nat) : Int) + 1
def jxs (f M n : Nat) : List Int := (List.range n).map (jx f M)
theorem jxs_len (f M n : Nat) : (jxs f M n).length = n := by unfold jxs; simp
theorem jxs_get (f M n k : Nat) (h : k < n) : (jxs f M n)[k]? = some (jx f M k) := by unfold jxs; rw [List.getElem?_map, List.getElem?_range h]; rfl
theorem mod_ne (f M a b : Nat) (hab : a < b) (hb : b < M) : (f + a) % M ≠ (f + b) % M := fun h => by
  have h1 := Nat.mod_add_div (f + a) M
  have h2 := Nat.mod_add_div (f + b) M
  have h3 : M * ((f + b) / M) = M * ((f + a) / M) + (b - a) := by omega
  have h4 : M ∣ b - a := by
    rw [show b - a = M * ((f + b) / M) - M * ((f + a) / M) by omega, ← Nat.mul_sub]; exact Nat.dvd_mul_right _ _
  have := Nat.le_of_dvd (by omega) h4
  omega
theorem jx_rng (f M k : Nat) (hM : 0 < M) : 1 ≤ jx f M k ∧ jx f M k ≤ M := by
  have := Nat.mod_lt (f + k) hM
  unfold jx; omega
theorem jx_ne (f M a b : Nat) (ha : a < M) (hb : b < M) (h : a ≠ b) : jx f M a ≠ jx f M b := fun e => by
  have e2 : (f + a) % M = (f + b) % M := by unfold jx at e; omega
  rcases Nat.lt_or_gt_of_ne h with h | h
  · exact mod_ne f M a b h hb e2
  · exact mod_ne f M b a h ha e2.symm
theorem jx_dvd (f M a b : Nat) (ha : a < M) (hb : b < M) (hM : M ≤ 60) (h : a ≠ b) : (jx f M a - jx f M b) % (gQ : Int) ≠ 0 := fun e => by
  have h1 := jx_rng f M a (by omega)
  have h2 := jx_rng f M b (by omega)
  have h3 := jx_ne f M a b ha hb h
  have e2 : (gQ : Int) = 1152921504606845789 := rfl
  rw [e2] at e
  generalize jx f M a = u at *
  generalize jx f M b = v at *
  omega
theorem jxs_apart (f M n : Nat) (hn : n ≤ M) (hM : M ≤ 60) : Apart (gQ : Int) (jxs f M n) := by
  unfold Apart jxs
  rw [List.pairwise_map]
  refine List.Pairwise.imp_of_mem (R := fun a b => a ≠ b) ?_ List.nodup_range
  intro a b ha hb hne hd
  rw [List.mem_range] at ha hb
  exact jx_dvd f M a b (by omega) (by omega) hM hne (Int.emod_eq_zero_of_dvd hd)
end Go.Proofs.YtjfbpmpdcmealaaDoor.D7
