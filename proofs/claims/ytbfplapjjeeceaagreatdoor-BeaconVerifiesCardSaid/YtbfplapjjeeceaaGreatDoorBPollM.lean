/-
  Polls over numbers: weights, points, coefficients, commitments.
-/
import Derived.Test.YtbfplapjjeeceaaGreatDoorBIn
import Derived.Test.YtbfplapjjeeceaaGreatDoorWRefPts
namespace Go.Proofs.YtbfplapjjeeceaaGreatDoor.B9
open Go.RowKit GM SH G4 E6 D7P
open W8 hiding i64 jn pX pY
/-- the weights -/
def wts (l : List Int) : List Int := (l.take 8).map fun z => 1 + z % 7
def wt0 (l : List Int) : List Int := if wts l = [] then [5] else wts l
/-- the members -/
def mbl (l : List Int) : List Mb := mbs 0 (wt0 l)
theorem wts_rng (l : List Int) : ∀ x ∈ wts l, 1 ≤ x ∧ x ≤ 7 := fun x hx => by
  obtain ⟨z, _, rfl⟩ := List.mem_map.1 hx
  omega
theorem wt0_rng (l : List Int) : ∀ x ∈ wt0 l, 1 ≤ x ∧ x ≤ 7 := fun x hx => by
  unfold wt0 at hx
  split at hx
  · simp at hx; omega
  · exact wts_rng l x hx
theorem wts_len (l : List Int) : (wts l).length ≤ 8 := by unfold wts; rw [List.length_map, List.length_take]; omega
theorem wt0_len (l : List Int) : 1 ≤ (wt0 l).length ∧ (wt0 l).length ≤ 8 := by
  unfold wt0
  split
  · simp
  · rename_i h
    have := wts_len l
    have h2 : (wts l).length ≠ 0 := fun e => h (List.length_eq_zero_iff.1 e)
    omega
theorem mbs_tot : ∀ (l : List Int) (k : Nat), (∀ x ∈ l, 1 ≤ x ∧ x ≤ 7) → (l.length : Int) ≤ tot (mbs k l) ∧ tot (mbs k l) ≤ 7 * (l.length : Int)
  | [], _, _ => by show ((0 : Nat) : Int) ≤ 0 ∧ (0 : Int) ≤ 7 * ((0 : Nat) : Int); omega
  | x :: l, k, h => by
    have ih := mbs_tot l (k+1) (fun y hy => h y (by simp [hy]))
    have hx := h x (by simp)
    have e : tot (mbs k (x :: l)) = x + tot (mbs (k+1) l) := by
      show tot ((1 + (k : Int), x, 0) :: mbs (k+1) l) = _
      rfl
    rw [e]
    simp only [List.length_cons]
    omega
theorem mbs_ids : ∀ (l : List Int) (k : Nat), (∀ y ∈ (mbs k l).map Prod.fst, 1 + (k : Int) ≤ y) ∧ ((mbs k l).map Prod.fst).Nodup
  | [], _ => by simp [mbs]
  | x :: l, k => by
    obtain ⟨h1, h2⟩ := mbs_ids l (k+1)
    refine ⟨fun y hy => ?_, ?_⟩
    · rcases List.mem_cons.1 hy with rfl | hy
      · show 1 + (k : Int) ≤ 1 + (k : Int); omega
      · have := h1 y hy; omega
    · show ((1 + (k : Int)) :: (mbs (k+1) l).map Prod.fst).Nodup
      exact List.nodup_cons.2 ⟨fun hm => by have := h1 _ hm; omega, h2⟩
theorem mbs_wt : ∀ (l : List Int) (k : Nat), (∀ x ∈ l, 1 ≤ x ∧ x ≤ 7) → ∀ s ∈ mbs k l, 1 ≤ s.2.1 ∧ s.2.1 ≤ 20
  | [], _, _, s, h => by simp [mbs] at h
  | x :: l, k, hr, s, h => by
    rcases List.mem_cons.1 h with rfl | h
    · have := hr x (by simp); show 1 ≤ x ∧ x ≤ 20; omega
    · exact mbs_wt l (k+1) (fun y hy => hr y (by simp [hy])) s h
theorem mbl_rgt (l : List Int) : Rgt (mbl l) := by
  have h1 := wt0_len l
  have h2 := mbs_tot (wt0 l) 0 (wt0_rng l)
  unfold Rgt mbl
  rw [mbs_len]
  exact ⟨h1.1, by omega, ⟨mbs_wt _ _ (wt0_rng l), (mbs_ids _ _).2⟩, by omega⟩
theorem mbl_tot (l : List Int) : 1 ≤ tot (mbl l) ∧ tot (mbl l) ≤ 56 := by
  have h1 := wt0_len l
  have h2 := mbs_tot (wt0 l) 0 (wt0_rng l)
  unfold mbl
  omega
/-- the points -/
def LP (l : List Int) : List (List Int) := ptl 1 (mbl l)
theorem ptl_get : ∀ (m : List Mb) (n : Int) (k : Nat) (l : List Int), (ptl n m)[k]? = some l → ∃ s, m[k]? = some s ∧ l = rng (n + tot (m.take k)) s.2.1.toNat
  | [], _, _, _, h => by simp [ptl] at h
  | s :: m, n, 0, l, h => by
    refine ⟨s, rfl, ?_⟩
    have : rng n s.2.1.toNat = l := by simpa [ptl] using h
    rw [← this]
    show _ = rng (n + 0) _
    rw [Int.add_zero]
  | s :: m, n, k+1, l, h => by
    obtain ⟨t, ht, hl⟩ := ptl_get m (n + s.2.1) k l (by simpa [ptl] using h)
    refine ⟨t, by simpa using ht, ?_⟩
    rw [hl, List.take_succ_cons]
    congr 1
    show n + s.2.1 + tot (m.take k) = n + (s.2.1 + tot (m.take k))
    omega
theorem ptl_many : ∀ (m : List Mb) (n : Int), (∀ s ∈ m, 0 ≤ s.2.1) → ((many (ptl n m) : Nat) : Int) = tot m
  | [], _, _ => rfl
  | s :: m, n, h => by
    have ih := ptl_many m (n + s.2.1) (fun t ht => h t (by simp [ht]))
    have hs := h s (by simp)
    show ((many (rng n s.2.1.toNat :: ptl (n + s.2.1) m) : Nat) : Int) = s.2.1 + tot m
    have e : many (rng n s.2.1.toNat :: ptl (n + s.2.1) m) = s.2.1.toNat + many (ptl (n + s.2.1) m) := by
      unfold many; simp [rng_len]
    rw [e]
    omega
theorem mbl_nn (l : List Int) : ∀ s ∈ mbl l, 0 ≤ s.2.1 := fun s hs => by have := mbs_wt _ _ (wt0_rng l) s hs; omega
theorem LP_many (l : List Int) : ((many (LP l) : Nat) : Int) = tot (mbl l) := ptl_many _ _ (mbl_nn l)
/-- how many coefficients -/
def nd (l : List Int) : Nat := (ned (tot (mbl l))).toNat
theorem nd_eq (l : List Int) : ((nd l : Nat) : Int) = ned (tot (mbl l)) := by
  have h := mbl_tot l
  unfold nd ned
  rw [if_neg (by omega), tdiv3 _ h.1]
  omega
theorem nd_rng (l : List Int) : 1 ≤ nd l ∧ nd l ≤ 19 ∧ nd l ≤ many (LP l) := by
  have h := mbl_tot l
  have h2 := nd_eq l
  have h3 := LP_many l
  have e : ned (tot (mbl l)) = (tot (mbl l) - 1) / 3 + 1 := by unfold ned; rw [if_neg (by omega), tdiv3 _ h.1]
  rw [e] at h2
  generalize tot (mbl l) = t at *
  omega
/-- the coefficients -/
def cf (lc : List Int) (k : Nat) : Int := if lc = [] then 3 + 2 * (k : Int) else wrap64 (lc.getD (k % lc.length) 0 + (k : Int)) % 1152921504606845789
theorem cf_rng (lc : List Int) (k : Nat) (hk : k ≤ 1000) : 0 ≤ cf lc k ∧ cf lc k < 1152921504606845789 := by
  unfold cf; split <;> omega
def cfs (lw lc : List Int) : List Int := (List.range (nd lw)).map (cf lc)
theorem cfs_len (lw lc : List Int) : (cfs lw lc).length = nd lw := by unfold cfs; simp
theorem cfs_rng (lw lc : List Int) : ∀ c ∈ cfs lw lc, 0 ≤ c ∧ c < 1152921504606845789 := fun c hc => by
  obtain ⟨k, hk, rfl⟩ := List.mem_map.1 hc
  have := nd_rng lw
  exact cf_rng lc k (by have := List.mem_range.1 hk; omega)
/-- the commitments -/
def cms (lw lc : List Int) : List Int := (cfs lw lc).map (pp 4)
theorem cms_len (lw lc : List Int) : (cms lw lc).length = nd lw := by unfold cms; rw [List.length_map, cfs_len]
end Go.Proofs.YtbfplapjjeeceaaGreatDoor.B9
