/-
  The walks of weight.Most, weight.Need, weight.areRight and weight.Points.
  The walk of weight.Points.
-/
import Derived.Test.YtbfplapjjeeceaaGreatDoorWJoin
namespace Go.Proofs.YtbfplapjjeeceaaGreatDoor.W8
open Go.RowKit GM G4 D7P Go.Maps
/-- the greatest weight that is less than a third, and one more -/
def mst (n : Int) : Int := if n < 1 then 0 else Int.tdiv (n - 1) 3
def ned (n : Int) : Int := if n < 1 then 0 else Int.tdiv (n - 1) 3 + 1
theorem tdiv3 (n : Int) (h : 1 ≤ n) : Int.tdiv (n - 1) 3 = (n - 1) / 3 := Int.tdiv_eq_ediv_of_nonneg (by omega)
theorem Most_any (w : World) (n r : Int) (h : mst n = r) (hn : i64 n) :
    Calls Tryz.prog 111 #[.int .i64 n] w fun e w' => e = .returned (.int .i64 r) ∧ w' = w := by
  by_cases h1 : n < 1
  · obtain rfl : r = 0 := by rw [← h]; unfold mst; rw [if_pos h1]
    clear h
    go_enter Tryz.func111, Tryz.ntmps111
    go_wp2
    go_ret
    exact ⟨rfl, rfl⟩
  · have e : Int.tdiv (n - 1) 3 = r := by rw [← h]; unfold mst; rw [if_neg h1]
    clear h
    have h2 : 1 ≤ n := by omega
    have hr : i64 r := by rw [← e, tdiv3 n h2]; exact ⟨by omega, by omega⟩
    have hw : wrap64 r = r := by have := hr.1; have := hr.2; unfold wrap64; omega
    go_enter Tryz.func111, Tryz.ntmps111
    go_wp2
    go_ret
    exact ⟨rfl, rfl⟩
theorem Need_any (w : World) (n r : Int) (h : ned n = r) (hn : i64 n) :
    Calls Tryz.prog 82 #[.int .i64 n] w fun e w' => e = .returned (.int .i64 r) ∧ w' = w := by
  by_cases h1 : n < 1
  · obtain rfl : r = 0 := by rw [← h]; unfold ned; rw [if_pos h1]
    clear h
    go_enter Tryz.func82, Tryz.ntmps82
    go_wp2
    go_ret
    exact ⟨rfl, rfl⟩
  · have e : mst n + 1 = r := by rw [← h]; unfold ned mst; rw [if_neg h1, if_neg h1]
    have h2 : 1 ≤ n := by omega
    have hm : mst n = (n - 1) / 3 := by unfold mst; rw [if_neg h1, tdiv3 n h2]
    clear h
    have M := Lib.hid fun W => Most_any W n _ rfl hn
    have h3 : mst n ≤ 9000000000000000000 := by rw [hm]; have := hn.2; omega
    have h4 : 0 ≤ mst n := by rw [hm]; omega
    generalize mst n = d at *
    subst e
    clear hm
    go_enter Tryz.func82, Tryz.ntmps82
    go_wp2_with fail
    refine (M.out _).mono ?_
    rintro e w1 ⟨rfl, rfl⟩
    go_wp2
    go_ret
    exact ⟨rfl, rfl⟩
/-- members: Id, weight, public number -/
abbrev Mb := Int × Int × Int
def MbL (w : World) (v : Value) (l : List Mb) : Prop := (∃ (p : Option Addr) (c : Nat), v = .slice p l.length c ∧ ∀ (j : Nat) (s : Mb), l[j]? = some s → ∃ b o, p = some ⟨b, o, none⟩ ∧ w.cell? ⟨b, o + j * 3, none⟩ = some (.int .i64 s.1) ∧ w.cell? ⟨b, o + j * 3 + 1, none⟩ = some (.int .i64 s.2.1) ∧ w.cell? ⟨b, o + j * 3 + 2, none⟩ = some (.int .i64 s.2.2)) ∧ (∀ s ∈ l, i64 s.1 ∧ i64 s.2.1 ∧ i64 s.2.2) ∧ l.length ≤ 1000000000
theorem MbL.next {w w' : World} {v : Value} {l : List Mb} (h : MbL w v l) (k : Below w.heap.size w w') : MbL w' v l := by
  obtain ⟨⟨p, c, e, hc⟩, hr, hn⟩ := h
  have kk := fun {b o : Nat} {x : Value} (h1 : w.cell? ⟨b, o, none⟩ = some x) => (k.cell (p := ⟨b, o, none⟩) (World.block_lt_of_cell? _ _ h1)).trans h1
  exact ⟨⟨p, c, e, fun j y hj => by
    obtain ⟨b, o, e, h1, h2, h3⟩ := hc j y hj
    exact ⟨b, o, e, kk h1, kk h2, kk h3⟩⟩, hr, hn⟩
/-- the sum of weights -/
def tot : List Mb → Int
  | [] => 0
  | s :: l => s.2.1 + tot l
theorem tot_append (a b : List Mb) : tot (a ++ b) = tot a + tot b := by
  induction a with
  | nil => show tot b = 0 + tot b; omega
  | cons s l ih => show s.2.1 + tot (l ++ b) = s.2.1 + tot l + tot b; omega
theorem tot_snoc (l : List Mb) (k : Nat) (s : Mb) (h : l[k]? = some s) : tot (l.take (k+1)) = tot (l.take k) + s.2.1 := by
  rw [List.take_add_one, h, tot_append]; show _ + (s.2.1 + 0) = _; omega
/-- members that are right, one after the other -/
def Fair (l : List Mb) : Prop := (∀ s ∈ l, 1 ≤ s.2.1 ∧ s.2.1 ≤ 20) ∧ (l.map Prod.fst).Nodup
def Rgt (l : List Mb) : Prop := 1 ≤ l.length ∧ l.length ≤ 13 ∧ Fair l ∧ tot l ≤ 60
theorem fair_tot : ∀ l : List Mb, Fair l → 0 ≤ tot l ∧ tot l ≤ 20 * (l.length : Int)
  | [], _ => ⟨by show (0 : Int) ≤ 0; decide, by show (0 : Int) ≤ 20 * ((0 : Nat) : Int); decide⟩
  | s :: l, h => by
    have h1 := h.1 s (by simp)
    have h2 := fair_tot l ⟨fun t ht => h.1 t (by simp [ht]), (List.nodup_cons.1 h.2).2⟩
    show 0 ≤ s.2.1 + tot l ∧ s.2.1 + tot l ≤ 20 * ((l.length + 1 : Nat) : Int)
    omega
theorem Fair.snoc {l : List Mb} {k : Nat} {s : Mb} (h : Fair (l.take k)) (hs : l[k]? = some s) (h1 : 1 ≤ s.2.1) (h2 : s.2.1 ≤ 20) (h3 : ((l.take k).map Prod.fst).contains s.1 = false) : Fair (l.take (k+1)) := by
  rw [List.take_add_one, hs]
  refine ⟨fun y hy => ?_, ?_⟩
  · rcases List.mem_append.1 hy with hy | hy
    · exact h.1 y hy
    · simp at hy; subst hy; exact ⟨h1, h2⟩
  · rw [List.map_append, List.nodup_append]
    refine ⟨h.2, by simp, fun a ha b hb e => ?_⟩
    simp at hb
    subst hb
    subst e
    rw [List.contains_eq_mem, decide_eq_false_iff_not] at h3
    exact h3 ha
theorem Fair.not {l : List Mb} {k : Nat} {s : Mb} (hs : l[k]? = some s) (h : ((l.take k).map Prod.fst).contains s.1 = true ∨ s.2.1 < 1 ∨ 20 < s.2.1) : ¬ Fair l := fun hf => by
  have hm := List.mem_of_getElem? hs
  rcases h with h | h | h
  · rw [List.contains_eq_mem, decide_eq_true_eq] at h
    obtain ⟨hk, hk2⟩ := List.getElem?_eq_some_iff.1 hs
    have e : l = l.take k ++ s :: l.drop (k+1) := by rw [← hk2, ← List.drop_eq_getElem_cons hk, List.take_append_drop]
    have hd := hf.2
    rw [e, List.map_append, List.nodup_append] at hd
    exact hd.2.2 s.1 h s.1 (by simp) rfl
  · have := hf.1 s hm; omega
  · have := hf.1 s hm; omega
end Go.Proofs.YtbfplapjjeeceaaGreatDoor.W8
namespace Go.Proofs.YtbfplapjjeeceaaGreatDoor.W8
open Go.RowKit GM G4 D7P Go.Maps
/-- numbers one after the other -/
def rng (n : Int) (m : Nat) : List Int := (List.range m).map fun (i : Nat) => n + (i : Int)
theorem rng_succ (n : Int) (m : Nat) : rng n (m+1) = rng n m ++ [n + (m : Int)] := by unfold rng; rw [List.range_succ, List.map_append]; rfl
theorem rng_len (n : Int) (m : Nat) : (rng n m).length = m := by unfold rng; simp
/-- the points of members -/
def ptl : Int → List Mb → List (List Int)
  | _, [] => []
  | n, s :: l => rng n s.2.1.toNat :: ptl (n + s.2.1) l
theorem ptl_len : ∀ (l : List Mb) (n : Int), (ptl n l).length = l.length
  | [], _ => rfl
  | s :: l, n => by show (ptl (n + s.2.1) l).length + 1 = l.length + 1; rw [ptl_len l]
theorem ptl_append : ∀ (a b : List Mb) (n : Int), ptl n (a ++ b) = ptl n a ++ ptl (n + tot a) b
  | [], b, n => by show ptl n b = ptl (n + 0) b; rw [Int.add_zero]
  | s :: a, b, n => by
    show rng n s.2.1.toNat :: ptl (n + s.2.1) (a ++ b) = rng n s.2.1.toNat :: (ptl (n + s.2.1) a ++ ptl (n + (s.2.1 + tot a)) b)
    rw [ptl_append a b, Int.add_assoc]
theorem ptl_snoc (l : List Mb) (k : Nat) (s : Mb) (h : l[k]? = some s) : ptl 1 (l.take (k+1)) = ptl 1 (l.take k) ++ [rng (1 + tot (l.take k)) s.2.1.toNat] := by
  rw [List.take_add_one, h, ptl_append]; rfl
/-- rows of different types lie apart -/
theorem rows_ne {W : World} {b1 b2 : Nat} {e1 e2 : TypeId} {s1 s2 n1 n2 : Nat} {v1 v2 : Value} {x1 x2 : List Value} (h1 : W.ownsRow b1 e1 s1 v1 n1 x1) (h2 : W.ownsRow b2 e2 s2 v2 n2 x2) (hne : e1 ≠ e2) : v1.ownBlock = none ∨ v1.ownBlock ≠ v2.ownBlock := by
  rcases h1.2 with ⟨rfl, _⟩ | ⟨g, cap, cur, rfl, _, h3, _⟩
  · exact .inl rfl
  · refine .inr fun e => ?_
    rcases h2.2 with ⟨rfl, _⟩ | ⟨g', cap', cur', rfl, _, h3', _⟩
    · cases e
    · have e : g = g' := by simpa [Value.ownBlock] using e
      subst e
      rw [h3] at h3'
      injection h3' with h4
      injection h4 with _ h5
      exact hne h5
theorem own_shape {w : World} {base : Nat} {e : TypeId} {size n : Nat} {v : Value} {xs : List Value} (h : w.ownsRow base e size v n xs) : ∃ p c, v = .slice p n c := by
  rcases h.2 with ⟨rfl, rfl⟩ | ⟨g, cap, cur, rfl, _⟩
  · exact ⟨_, _, rfl⟩
  · exact ⟨_, _, rfl⟩
/-- a slice of slices that the call owns -/
structure PS (w : World) (av : Value) (L : List (List Int)) (W : World) : Prop where
  b : Below w.heap.size w W
  o : ∃ vs : List Value, W.ownsRow w.heap.size 34 1 av L.length vs ∧ ∀ (j : Nat) (l : List Int), L[j]? = some l → ∃ v, vs[j]? = some v ∧ W.ownsRow w.heap.size 3 1 v l.length (l.map (Value.int .i64))
theorem PS.next {w W V : World} {av : Value} {L : List (List Int)} (h : PS w av L W) (k : Below W.heap.size W V) : PS w av L V := by
  obtain ⟨vs, h1, h2⟩ := h.o
  refine ⟨h.b.trans (k.mono h.b.size), vs, own_below' h1 k, fun j l hj => ?_⟩
  obtain ⟨v, h3, h4⟩ := h2 j l hj
  exact ⟨v, h3, own_below' h4 k⟩
theorem own_base' {w : World} {base base' : Nat} {e : TypeId} {size : Nat} {v : Value} {n : Nat} {xs : List Value} (h : w.ownsRow base e size v n xs) (k : base' ≤ base) : w.ownsRow base' e size v n xs := by
  refine ⟨h.1, ?_⟩
  rcases h.2 with h2 | ⟨g, cap, cur, h1, h2, h3, h4⟩
  · exact .inl h2
  · exact .inr ⟨g, cap, cur, h1, by omega, h3, h4⟩
theorem PS.app {w V w9 : World} {av pv : Value} {L : List (List Int)} {l : List Int} {vs : List Value} {g cap : Nat} (hb : Below w.heap.size w V) (h1 : V.ownsRow w.heap.size 34 1 av L.length vs)
    (h2 : ∀ (j : Nat) (l : List Int), L[j]? = some l → ∃ v, vs[j]? = some v ∧ V.ownsRow w.heap.size 3 1 v l.length (l.map (Value.int .i64))) (hp : V.ownsRow w.heap.size 3 1 pv l.length (l.map (Value.int .i64)))
    (h9 : w9.ownsRow w.heap.size 34 1 (.slice (some ⟨g, 0, none⟩) (L.length + 1) cap) (L.length + 1) (vs ++ [pv])) (hg : V.grownBy w9 av.ownBlock) :
    PS w (.slice (some ⟨g, 0, none⟩) (L.length + 1) cap) (L ++ [l]) w9 := by
  have hvl : vs.length = L.length := by have := h1.1; omega
  refine ⟨hb.grown hg hb.size (fun k hk => (h1.lt k hk).1), vs ++ [pv], by rw [List.length_append]; exact h9, fun j m hj => ?_⟩
  by_cases hlt : j < L.length
  · rw [List.getElem?_append_left hlt] at hj
    obtain ⟨v, h3, h4⟩ := h2 j m hj
    exact ⟨v, by rw [List.getElem?_append_left (by omega)]; exact h3, h4.kept hg (rows_ne h4 h1 (by decide))⟩
  · rw [List.getElem?_append_right (by omega)] at hj
    have e0 : j - L.length = 0 := by
      have := (List.getElem?_eq_some_iff.1 hj).1
      simp at this; omega
    rw [e0] at hj
    have : l = m := by simpa using hj
    subst this
    refine ⟨pv, ?_, hp.kept hg (rows_ne hp h1 (by decide))⟩
    rw [List.getElem?_append_right (by omega), show j - vs.length = 0 by omega]; rfl
/-- a slice shows these lists of numbers -/
def LLi (w : World) (v : Value) (L : List (List Int)) : Prop := ∃ (p : Option Addr) (c : Nat), v = .slice p L.length c ∧ ∀ (j : Nat) (l : List Int), L[j]? = some l → ∃ b o u, p = some ⟨b, o, none⟩ ∧ w.cell? ⟨b, o + j, none⟩ = some u ∧ SLi w u l
theorem LLi.next {w w' : World} {v : Value} {L : List (List Int)} (h : LLi w v L) (k : Below w.heap.size w w') : LLi w' v L := by
  obtain ⟨p, c, e, hc⟩ := h
  refine ⟨p, c, e, fun j l hj => ?_⟩
  obtain ⟨b, o, u, e, h1, h2⟩ := hc j l hj
  exact ⟨b, o, u, e, (k.cell (p := ⟨b, o + j, none⟩) (World.block_lt_of_cell? _ _ h1)).trans h1, h2.next k⟩
theorem PS.LLi {w W : World} {av : Value} {L : List (List Int)} (h : PS w av L W) (hr : ∀ l ∈ L, (∀ y ∈ l, i64 y) ∧ l.length ≤ 1000000000) : LLi W av L := by
  obtain ⟨vs, h1, h2⟩ := h.o
  rcases h1.2 with ⟨rfl, h0⟩ | ⟨g, cap, cur, rfl, k2, k3, k4, k5, k6, k7⟩
  · have : L = [] := List.length_eq_zero_iff.1 h0
    subst this
    exact ⟨none, 0, rfl, fun j y hj => by simp at hj⟩
  · refine ⟨_, cap, rfl, fun j l hj => ?_⟩
    obtain ⟨v, h3, h4⟩ := h2 j l hj
    have hl := hr l (List.mem_of_getElem? hj)
    refine ⟨g, 0, v, rfl, ?_, own_SLi h4 hl.1 hl.2⟩
    rw [Nat.zero_add, cell_of_row W g j _ _ _ k3, ← Array.getElem?_toList]
    rw [← k7] at h3
    have hlt := (List.getElem?_eq_some_iff.1 h3).1
    rw [List.getElem?_take_of_lt (by rw [List.length_take] at hlt; omega)] at h3
    exact h3
theorem infoL : (Tryz.prog.info? 34).map (fun i => (i.zero, i.size, i.bytes)) = some (some (.slice none 0 0), 1, 24) := by kernel_rfl
/-- what Points answers -/
def PQ (w : World) (l : List Mb) (e : Ending) (w' : World) : Prop :=
  Below w.heap.size w w' ∧ ((Rgt l ∧ ∃ av, e = .returned (.tuple #[av, .bool true]) ∧ PS w av (ptl 1 l) w') ∨ (¬ Rgt l ∧ e = .returned (.tuple #[.slice none 0 0, .bool false])))
theorem fair_take {l : List Mb} (h : Fair l) (k : Nat) : Fair (l.take k) :=
  ⟨fun s hs => h.1 s (List.mem_of_mem_take hs), h.2.sublist ((List.take_sublist _ _).map _)⟩
end Go.Proofs.YtbfplapjjeeceaaGreatDoor.W8
