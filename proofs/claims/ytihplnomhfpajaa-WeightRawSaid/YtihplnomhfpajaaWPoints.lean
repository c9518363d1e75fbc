/-
  The walks of weight.Most, weight.Need, weight.areRight and weight.Points.
-/
import Derived.Test.YtihplnomhfpajaaWJoin
namespace Go.Proofs.Ytihplnomhfpajaa.W8
open Go.RowKit GM G4 D7P Go.Maps
/-- the greatest weight that is less than a third, and one more -/
def mst (n : Int) : Int := if n < 1 then 0 else Int.tdiv (n - 1) 3
def ned (n : Int) : Int := if n < 1 then 0 else Int.tdiv (n - 1) 3 + 1
theorem tdiv3 (n : Int) (h : 1 ≤ n) : Int.tdiv (n - 1) 3 = (n - 1) / 3 := Int.tdiv_eq_ediv_of_nonneg (by omega)
theorem Most_any (w : World) (n r : Int) (h : mst n = r) (hn : i64 n) :
    Calls Try.prog 10 #[.int .i64 n] w fun e w' => e = .returned (.int .i64 r) ∧ w' = w := by
  by_cases h1 : n < 1
  · obtain rfl : r = 0 := by rw [← h]; unfold mst; rw [if_pos h1]
    clear h
    go_enter Try.func10, Try.ntmps10
    go_wp2
    go_ret
    exact ⟨rfl, rfl⟩
  · have e : Int.tdiv (n - 1) 3 = r := by rw [← h]; unfold mst; rw [if_neg h1]
    clear h
    have h2 : 1 ≤ n := by omega
    have hr : i64 r := by rw [← e, tdiv3 n h2]; exact ⟨by omega, by omega⟩
    have hw : wrap64 r = r := by have := hr.1; have := hr.2; unfold wrap64; omega
    go_enter Try.func10, Try.ntmps10
    go_wp2
    go_ret
    exact ⟨rfl, rfl⟩
theorem Need_any (w : World) (n r : Int) (h : ned n = r) (hn : i64 n) :
    Calls Try.prog 11 #[.int .i64 n] w fun e w' => e = .returned (.int .i64 r) ∧ w' = w := by
  by_cases h1 : n < 1
  · obtain rfl : r = 0 := by rw [← h]; unfold ned; rw [if_pos h1]
    clear h
    go_enter Try.func11, Try.ntmps11
    go_wp2
    go_ret
    exact ⟨rfl, rfl⟩
  · have e : mst n + 1 = r := by rw [← h]; unfold ned mst; rw [if_neg h1, if_neg h1]
    have h2 : 1 ≤ n := by omega
    have hm : mst n = (n - 1) / 3 := by unfold mst; rw [if_neg h1, tdiv3 n h2]
    clear h
    have M := Lib.hid fun W => Most_any W n _ rfl hn
    have h3 : mst n ≤ 9000000000000000000 := by rw [hm]; have := hn.2; omega
    have h4 : 0 ≤ mst n := by rw [hm]; omega
    generalize mst n = d at *
    subst e
    clear hm
    go_enter Try.func11, Try.ntmps11
    go_wp2_with fail
    refine (M.out _).mono ?_
    rintro e w1 ⟨rfl, rfl⟩
    go_wp2
    go_ret
    exact ⟨rfl, rfl⟩
/-- members: Id, weight, public number -/
abbrev Mb := Int × Int × Int
def MbL (w : World) (v : Value) (l : List Mb) : Prop := (∃ (p : Option Addr) (c : Nat), v = .slice p l.length c ∧ ∀ (j : Nat) (s : Mb), l[j]? = some s → ∃ b o, p = some ⟨b, o, none⟩ ∧ w.cell? ⟨b, o + j * 3, none⟩ = some (.int .i64 s.1) ∧ w.cell? ⟨b, o + j * 3 + 1, none⟩ = some (.int .i64 s.2.1) ∧ w.cell? ⟨b, o + j * 3 + 2, none⟩ = some (.int .i64 s.2.2)) ∧ (∀ s ∈ l, i64 s.1 ∧ i64 s.2.1 ∧ i64 s.2.2) ∧ l.length ≤ 1000000000
theorem MbL.next {w w' : World} {v : Value} {l : List Mb} (h : MbL w v l) (k : Below w.heap.size w w') : MbL w' v l := by
  obtain ⟨⟨p, c, e, hc⟩, hr, hn⟩ := h
  have kk := fun {b o : Nat} {x : Value} (h1 : w.cell? ⟨b, o, none⟩ = some x) => (k.cell (p := ⟨b, o, none⟩) (World.block_lt_of_cell? _ _ h1)).trans h1
  exact ⟨⟨p, c, e, fun j y hj => by
    obtain ⟨b, o, e, h1, h2, h3⟩ := hc j y hj
    exact ⟨b, o, e, kk h1, kk h2, kk h3⟩⟩, hr, hn⟩
/-- the sum of weights -/
def tot : List Mb → Int
  | [] => 0
  | s :: l => s.2.1 + tot l
theorem tot_append (a b : List Mb) : tot (a ++ b) = tot a + tot b := by
  induction a with
  | nil => show tot b = 0 + tot b; omega
  | cons s l ih => show s.2.1 + tot (l ++ b) = s.2.1 + tot l + tot b; omega
theorem tot_snoc (l : List Mb) (k : Nat) (s : Mb) (h : l[k]? = some s) : tot (l.take (k+1)) = tot (l.take k) + s.2.1 := by
  rw [List.take_add_one, h, tot_append]; show _ + (s.2.1 + 0) = _; omega
/-- members that are right, one after the other -/
def Fair (l : List Mb) : Prop := (∀ s ∈ l, 1 ≤ s.2.1 ∧ s.2.1 ≤ 20) ∧ (l.map Prod.fst).Nodup
def Rgt (l : List Mb) : Prop := 1 ≤ l.length ∧ l.length ≤ 13 ∧ Fair l ∧ tot l ≤ 60
theorem fair_tot : ∀ l : List Mb, Fair l → 0 ≤ tot l ∧ tot l ≤ 20 * (l.length : Int)
  | [], _ => ⟨by show (0 : Int) ≤ 0; decide, by show (0 : Int) ≤ 20 * ((0 : Nat) : Int); decide⟩
  | s :: l, h => by
    have h1 := h.1 s (by simp)
    have h2 := fair_tot l ⟨fun t ht => h.1 t (by simp [ht]), (List.nodup_cons.1 h.2).2⟩
    show 0 ≤ s.2.1 + tot l ∧ s.2.1 + tot l ≤ 20 * ((l.length + 1 : Nat) : Int)
    omega
theorem Fair.snoc {l : List Mb} {k : Nat} {s : Mb} (h : Fair (l.take k)) (hs : l[k]? = some s) (h1 : 1 ≤ s.2.1) (h2 : s.2.1 ≤ 20) (h3 : ((l.take k).map Prod.fst).contains s.1 = false) : Fair (l.take (k+1)) := by
  rw [List.take_add_one, hs]
  refine ⟨fun y hy => ?_, ?_⟩
  · rcases List.mem_append.1 hy with hy | hy
    · exact h.1 y hy
    · simp at hy; subst hy; exact ⟨h1, h2⟩
  · rw [List.map_append, List.nodup_append]
    refine ⟨h.2, by simp, fun a ha b hb e => ?_⟩
    simp at hb
    subst hb
    subst e
    rw [List.contains_eq_mem, decide_eq_false_iff_not] at h3
    exact h3 ha
theorem Fair.not {l : List Mb} {k : Nat} {s : Mb} (hs : l[k]? = some s) (h : ((l.take k).map Prod.fst).contains s.1 = true ∨ s.2.1 < 1 ∨ 20 < s.2.1) : ¬ Fair l := fun hf => by
  have hm := List.mem_of_getElem? hs
  rcases h with h | h | h
  · rw [List.contains_eq_mem, decide_eq_true_eq] at h
    obtain ⟨hk, hk2⟩ := List.getElem?_eq_some_iff.1 hs
    have e : l = l.take k ++ s :: l.drop (k+1) := by rw [← hk2, ← List.drop_eq_getElem_cons hk, List.take_append_drop]
    have hd := hf.2
    rw [e, List.map_append, List.nodup_append] at hd
    exact hd.2.2 s.1 h s.1 (by simp) rfl
  · have := hf.1 s hm; omega
  · have := hf.1 s hm; omega
open Classical in
set_option maxRecDepth 100000 in
set_option maxHeartbeats 4000000 in
theorem areRight_any (w : World) (v : Value) (l : List Mb) (hV : MbL w v l) :
    Calls Try.prog 20 #[v] w fun e w' => e = .returned (.bool (decide (Rgt l))) ∧ Below w.heap.size w w' := by
  have hmm := @run_makeMap Try.prog
  obtain ⟨⟨p, c, rfl, hc⟩, hr, hln⟩ := hV
  have HI := Lib.hid (And.intro hc hr); clear hc hr
  obtain ⟨N, hN⟩ : ∃ N, l.length = N := ⟨_, rfl⟩
  rw [hN] at hln
  rw [hN]
  have HN := Lib.hid hN; clear hN
  by_cases hN1 : N < 1
  · have E := Lib.hid (show decide (Rgt l) = false from decide_eq_false (fun h => by have := h.1; rw [HN.out] at this; omega))
    go_enter Try.func20, Try.ntmps20
    go_wp2
    go_ret
    exact ⟨by rw [E.out]; rfl, Below.refl _ _⟩
  by_cases hN13 : 13 < N
  · have E := Lib.hid (show decide (Rgt l) = false from decide_eq_false (fun h => by have := h.2.1; rw [HN.out] at this; omega))
    go_enter Try.func20, Try.ntmps20
    go_wp2
    go_ret
    exact ⟨by rw [E.out]; rfl, Below.refl _ _⟩
  go_enter Try.func20, Try.ntmps20
  go_wp2_with fail
  go_loopw [3, 18] (fun t i wr => ∃ (k : Nat) (z : Int), k ≤ N ∧ t = .int .i64 z ∧ i = .int .i64 (k : Int) ∧ 0 ≤ z ∧ z ≤ 260 ∧ Hid (tot (l.take k) = z ∧ Fair (l.take k)) ∧ SetD wr w.heap.size k (fun x => ((l.take k).map Prod.fst).contains x) ∧ Hid (Below w.heap.size w wr)) (fun _ i _ => N - (match i with | .int _ i => i.toNat | _ => 0))
  case atStart => exact ⟨0, 0, Nat.zero_le _, rfl, rfl, by omega, by omega, Lib.hid ⟨rfl, by simp, by simp⟩, SetD.made w, Lib.hid ((Below.refl _ _).alloc (Nat.le_refl _) _)⟩
  case round =>
    obtain ⟨k, z, hk, rfl, rfl, hz0, hz1, ht, hs, hb⟩ := hrel
    by_cases hlt : k < N
    · obtain ⟨⟨x, y, u⟩, hx⟩ : ∃ s, l[k]? = some s := ⟨l[k]'(by rw [HN.out]; exact hlt), List.getElem?_eq_getElem _⟩
      obtain ⟨b, o, hp, hc0, hc1, hc2⟩ := HI.out.1 k _ hx
      subst hp
      have c0 := (hb.out.cell (p := ⟨b, o + k * 3, none⟩) (World.block_lt_of_cell? _ _ hc0)).trans hc0
      have c1 := (hb.out.cell (p := ⟨b, o + k * 3 + 1, none⟩) (World.block_lt_of_cell? _ _ hc1)).trans hc1
      have c2 := (hb.out.cell (p := ⟨b, o + k * 3 + 2, none⟩) (World.block_lt_of_cell? _ _ hc2)).trans hc2
      dsimp only at c0 c1 c2
      have hix := HI.out.2 _ (List.mem_of_getElem? hx)
      have hix0 : i64 x := hix.1
      have hix1 : i64 y := hix.2.1
      have HX := Lib.hid hx
      clear hx hc0 hc1 hc2 hix
      go_upto_region 7 with fail
      obtain ⟨V, hV⟩ : ∃ V, wr.alloc (.cells #[.int .i64 x, .int .i64 y, .int .i64 u] 27) = V := ⟨_, rfl⟩
      rw [hV]
      have bV : Below wr.heap.size wr V := by rw [← hV]; exact (Below.refl _ wr).alloc (Nat.le_refl _) _
      have d0 : V.cell? ⟨wr.heap.size, 0, none⟩ = some (.int .i64 x) := by rw [← hV, World.cell?_alloc_at _ _ _ _ rfl]; rfl
      have d1 : V.cell? ⟨wr.heap.size, 1, none⟩ = some (.int .i64 y) := by rw [← hV, World.cell?_alloc_at _ _ _ _ rfl]; rfl
      clear hV c0 c1 c2
      have hsV := hs.next bV
      have hbV := Lib.hid (hb.out.trans (bV.mono hb.out.size))
      have hlt0 : w.heap.size < wr.heap.size := hs.lt
      clear bV hs hb
      obtain ⟨g0, hg0⟩ : ∃ g0, g0 = wr.heap.size := ⟨_, rfl⟩
      rw [← hg0] at d0 d1 hlt0 ⊢
      clear hg0
      have hl := hsV.look x hix0
      cases h3 : ((l.take k).map Prod.fst).contains x with
      | true =>
        rw [h3] at hl
        have E := Lib.hid (show decide (Rgt l) = false from decide_eq_false (fun h => Fair.not HX.out (.inl h3) h.2.2.1))
        clear h3 hsV
        go_wp2
        go_ret
        exact ⟨by rw [E.out]; rfl, hbV.out⟩
      | false =>
        rw [h3] at hl
        by_cases h1 : y < 1
        · have E := Lib.hid (show decide (Rgt l) = false from decide_eq_false (fun h => Fair.not HX.out (.inr (.inl h1)) h.2.2.1))
          clear h3 hsV
          go_wp2
          go_ret
          exact ⟨by rw [E.out]; rfl, hbV.out⟩
        by_cases h2 : 20 < y
        · have E := Lib.hid (show decide (Rgt l) = false from decide_eq_false (fun h => Fair.not HX.out (.inr (.inr h2)) h.2.2.1))
          clear h3 hsV
          go_wp2
          go_ret
          exact ⟨by rw [E.out]; rfl, hbV.out⟩
        have hf2 := ht.out.2.snoc HX.out (by show 1 ≤ y; omega) (by show y ≤ 20; omega) h3
        have ht2 : tot (l.take (k+1)) = z + y := by rw [tot_snoc l k _ HX.out, ht.out.1]
        have hz2 := fair_tot _ hf2
        rw [ht2, List.length_take] at hz2
        have hzy : 0 ≤ z + y ∧ z + y ≤ 260 := ⟨hz2.1, by omega⟩
        have HT2 := Lib.hid (And.intro ht2 hf2)
        have HS := Lib.hid hsV
        have HE := Lib.hid (show ∀ q, (((l.take k).map Prod.fst).contains q || q == x) = ((l.take (k+1)).map Prod.fst).contains q from fun q => by rw [List.take_add_one, HX.out, List.map_append, List.contains_append]; congr 1; simp [List.contains_cons]; by_cases e : q = x <;> simp [e])
        clear h3 hsV hf2 ht2 hz2
        go_wp2_with (first | (at_mapUpdate; refine wpList_set_add _ rfl _ _ _ rfl w.heap.size k _ rfl HS.out (by unfold maxLen; omega) x hix0 rfl rfl ?_; intro w1 hS1 hg1; have e1 : w1.cell? ⟨g0, 1, none⟩ = some (.int .i64 y) := (World.cell?_of_block (w := V) (w' := w1) (a := ⟨g0, 1, none⟩) (hg1.block g0 (World.block_lt_of_cell? _ _ d1) (fun e => by injection e with e; omega))).trans d1))
        have hS2 := hS1.congr HE.out
        have hb1 := Lib.hid (hbV.out.grown hg1 hbV.out.size (fun j hj => by cases hj; exact Nat.le_refl _))
        clear hS1 hg1 d0 d1 hl
        try go_wp2
        exact ⟨⟨k + 1, z + y, by omega, rfl, by go_num, hzy.1, hzy.2, HT2, hS2, hb1⟩, by simp; omega⟩
    · obtain rfl : k = N := by omega
      have hE : l.take k = l := List.take_of_length_le (by rw [HN.out]; exact Nat.le_refl _)
      rw [hE] at ht
      clear hs hE
      cases hd : decide (z ≤ 60) with
      | true =>
        have h60 : z ≤ 60 := of_decide_eq_true hd
        have E := Lib.hid (show decide (Rgt l) = true from decide_eq_true ⟨by rw [HN.out]; omega, by rw [HN.out]; omega, ht.out.2, by rw [ht.out.1]; exact h60⟩)
        clear hd
        go_wp2
        go_ret
        exact ⟨by rw [E.out]; first | rfl | simp [h60], hb.out⟩
      | false =>
        have h60 : ¬ z ≤ 60 := of_decide_eq_false hd
        have E := Lib.hid (show decide (Rgt l) = false from decide_eq_false (fun h => h60 (by rw [← ht.out.1]; exact h.2.2.2)))
        clear hd
        go_wp2
        go_ret
        exact ⟨by rw [E.out]; first | rfl | simp [h60], hb.out⟩
end Go.Proofs.Ytihplnomhfpajaa.W8
