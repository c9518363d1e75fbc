/-
  Lists of partials: which count, which are bad; when keys are right. Over numbers.
-/
import Derived.Test.YtbfplapjjeeceaaGreatDoorBMath
import Derived.Test.YtbfplapjjeeceaaGreatDoorWJoin
namespace Go.Proofs.YtbfplapjjeeceaaGreatDoor.B9
open Go.RowKit GM SH G4 E6 D7P
open W8 hiding i64 jn
/-- a partial: its point, its value, the two numbers of its proof -/
abbrev Pa := Int × Int × Int × Int
/-- the base of a round -/
def wR : ByteArray := ⟨#[114, 111, 117, 110, 100, 47]⟩
def bs (r : Int) : Int := el (wR ++ dcm r)
theorem bs_mem (r : Int) : mem (bs r) = true := (mem_iff _).2 (el_mem _)
theorem bs_rng (r : Int) : 0 ≤ bs r ∧ bs r < 2305843009213691579 := el_rng _
/-- the elements of a list at whose places r says so -/
def pick {α : Type} (r : Nat → Bool) : Nat → List α → List α
  | _, [] => []
  | k, s :: l => if r k then s :: pick r (k+1) l else pick r (k+1) l
theorem pick_app {α : Type} (r : Nat → Bool) : ∀ (l : List α) (k : Nat) (s : α), pick r k (l ++ [s]) = pick r k l ++ (if r (k + l.length) then [s] else [])
  | [], k, s => by simp [pick]
  | a :: l, k, s => by
    have ih := pick_app r l (k+1) s
    have e : k + 1 + l.length = k + (l.length + 1) := by omega
    rw [e] at ih
    show (if r k then a :: pick r (k+1) (l ++ [s]) else pick r (k+1) (l ++ [s])) = _
    rw [ih]
    show _ = (if r k then a :: pick r (k+1) l else pick r (k+1) l) ++ (if r (k + (l.length + 1)) then [s] else [])
    cases r k <;> simp
theorem pick_take {α : Type} (r : Nat → Bool) (l : List α) (k : Nat) (s : α) (h : l[k]? = some s) : pick r 0 (l.take (k+1)) = pick r 0 (l.take k) ++ (if r k then [s] else []) := by
  have hk := (List.getElem?_eq_some_iff.1 h).1
  rw [List.take_add_one, h]
  show pick r 0 (l.take k ++ [s]) = _
  rw [pick_app, List.length_take, Nat.min_eq_left (by omega), Nat.zero_add]
theorem pick_le {α : Type} (r : Nat → Bool) : ∀ (l : List α) (k : Nat), (pick r k l).length ≤ l.length
  | [], _ => by simp [pick]
  | a :: l, k => by
    have := pick_le r l (k+1)
    unfold pick; split <;> simp <;> omega
theorem pick_mem {α : Type} (r : Nat → Bool) : ∀ (l : List α) (k : Nat), ∀ s ∈ pick r k l, s ∈ l
  | [], _, s, h => by simp [pick] at h
  | a :: l, k, s, h => by
    unfold pick at h
    split at h
    · rcases List.mem_cons.1 h with rfl | h
      · simp
      · exact List.mem_cons_of_mem _ (pick_mem r l (k+1) s h)
    · exact List.mem_cons_of_mem _ (pick_mem r l (k+1) s h)
/-- what f says at the places of a list -/
def at_ {α : Type} (f : α → Bool) (l : List α) (k : Nat) : Bool := match l[k]? with | some s => f s | none => false
theorem pick_filter {α : Type} (f : α → Bool) (l0 : List α) : ∀ (l : List α) (k : Nat), l0.drop k = l → pick (at_ f l0) k l = l.filter f
  | [], _, _ => rfl
  | a :: l, k, h => by
    have hk : l0[k]? = some a := by have := congrArg (fun m => m[0]?) h; simpa using this
    have h2 : l0.drop (k+1) = l := by have := congrArg (List.drop 1) h; simpa [List.drop_drop, Nat.add_comm] using this
    have e : at_ f l0 k = f a := by unfold at_; rw [hk]
    rw [pick, pick_filter f l0 l (k+1) h2, e, List.filter_cons]
theorem pick_all {α : Type} (f : α → Bool) (l : List α) : pick (at_ f l) 0 l = l.filter f := pick_filter f l l 0 rfl
/-- the first elements with each point -/
def frs (l : List Pa) (k : Nat) : Bool := match l[k]? with | some s => !((l.take k).map Prod.fst).contains s.1 | none => false
def und (l : List Pa) : List Pa := pick (frs l) 0 l
theorem und_mem (l : List Pa) : ∀ s ∈ und l, s ∈ l := pick_mem _ _ _
theorem und_le (l : List Pa) : (und l).length ≤ l.length := pick_le _ _ _
/-- elements with different points are all the first ones -/
theorem und_self (l : List Pa) (h : (l.map Prod.fst).Nodup) : und l = l := by
  have key : ∀ k, k ≤ l.length → pick (frs l) 0 (l.take k) = l.take k := by
    intro k
    induction k with
    | zero => intro _; simp [pick]
    | succ k ih =>
      intro hk
      obtain ⟨s, hs⟩ : ∃ s, l[k]? = some s := ⟨l[k], List.getElem?_eq_getElem (by omega)⟩
      have f : frs l k = true := by
        unfold frs; rw [hs]
        show (!((l.take k).map Prod.fst).contains s.1) = true
        rw [Bool.not_eq_true', List.contains_eq_mem, decide_eq_false_iff_not, List.map_take]
        intro hm
        obtain ⟨i, hi, he⟩ := List.mem_iff_getElem.1 hm
        have hi2 : i < (l.map Prod.fst).length := by simp at hi ⊢; omega
        have hi3 : i < k := by simp at hi; omega
        rw [List.getElem_take] at he
        have := (List.getElem?_inj hi2 h (j := k)).1 (by rw [List.getElem?_eq_getElem hi2, he, List.getElem?_map, hs]; rfl)
        omega
      rw [pick_take _ _ _ _ hs, ih (by omega), f, List.take_add_one, hs]; rfl
  have := key l.length (Nat.le_refl _)
  rwa [List.take_length] at this
/-- whether a partial is accepted -/
def acc (C : List Int) (n r : Int) (p : Pa) : Bool := decide (1 ≤ p.1) && decide (p.1 ≤ n) && vf 4 (D7.av C p.1) (bs r) p.2.1 p.2.2.1 p.2.2.2
def prs (l : List Pa) : List (Int × Int) := l.map fun p => (p.1, p.2.1)
/-- pairs that fit and have different points all count -/
theorem cnt_self (l : List (Int × Int)) (h1 : ∀ s ∈ l, 1 ≤ s.1 ∧ s.1 < 1152921504606845789 ∧ mem s.2 = true) (h2 : (l.map Prod.fst).Nodup) : cnt mem l = l := by
  have key : ∀ (m A : List (Int × Int)), A ++ m = l → m.foldl (cst mem) A = l := by
    intro m
    induction m with
    | nil => intro A h; simpa using h
    | cons s m ih =>
      intro A h
      have hs := h1 s (by rw [← h]; simp)
      have hc : (A.map Prod.fst).contains s.1 = false := by
        rw [List.contains_eq_mem, decide_eq_false_iff_not]
        intro hm
        rw [← h, List.map_append, List.nodup_append] at h2
        exact h2.2.2 _ hm _ (by simp) rfl
      rw [List.foldl_cons, cst_yes mem A s hs.1 hs.2.1 hc hs.2.2]
      exact ih _ (by rw [List.append_assoc]; exact h)
  exact key l [] rfl
/-- how many points there are -/
def many (L : List (List Int)) : Nat := (L.map List.length).sum
theorem many_take (L : List (List Int)) (k : Nat) (l : List Int) (h : L[k]? = some l) : many (L.take (k+1)) = many (L.take k) + l.length := by
  unfold many
  rw [List.take_add_one, h, List.map_append, List.sum_append]; simp
theorem many_le : ∀ (L : List (List Int)) (k : Nat), many (L.take k) ≤ many L
  | [], k => by simp
  | l :: L, 0 => by simp [many]
  | l :: L, k+1 => by have := many_le L k; simp [many] at *; omega
/-- the points are 1, 2, .. -/
def ptk (L : List (List Int)) : Prop := (∀ (k : Nat) (l : List Int), L[k]? = some l → l ≠ []) ∧ ∀ (k : Nat) (l : List Int) (j : Nat) (x : Int), L[k]? = some l → l[j]? = some x → x = ((many (L.take k) + j + 1 : Nat) : Int)
end Go.Proofs.YtbfplapjjeeceaaGreatDoor.B9
