/-
  The walks of weight.sum, weight.areDifferent, weight.isResidue, weight.Share.
-/
import Derived.Test.YtihplnomhfpajaaWFoldB
import Derived.Deep.AppendLies
import Derived.Laws.OwnMore
import Derived.OwnWalk
namespace Go.Proofs.Ytihplnomhfpajaa.W8
open Go.RowKit GM G4 D7P Go.Maps
/-- a slice shows these numbers -/
structure SLi (w : World) (v : Value) (l : List Int) : Prop where
  h : ∃ (p : Option Addr) (c : Nat), v = .slice p l.length c ∧ ∀ (j : Nat) (y : Int), l[j]? = some y → ∃ b o, p = some ⟨b, o, none⟩ ∧ w.cell? ⟨b, o + j, none⟩ = some (.int .i64 y)
  r : ∀ y ∈ l, i64 y
  n : l.length ≤ 1000000000
theorem SLi.next {w w' : World} {v : Value} {l : List Int} (h : SLi w v l) (k : Below w.heap.size w w') : SLi w' v l := by
  obtain ⟨⟨p, c, e, hc⟩, hr, hn⟩ := h
  exact ⟨⟨p, c, e, fun j y hj => by
    obtain ⟨b, o, e, hc⟩ := hc j y hj
    exact ⟨b, o, e, (k.cell (p := ⟨b, o + j, none⟩) (World.block_lt_of_cell? _ _ hc)).trans hc⟩⟩, hr, hn⟩
theorem SLi.form {w : World} {v : Value} {l : List Int} (h : SLi w v l) : ∃ (p : Option Addr) (c : Nat), v = .slice p l.length c ∧ ∀ u : World, Below w.heap.size w u → BoxL (u.alloc (.cells #[v] 38)) u.heap.size p c l := by
  obtain ⟨⟨p, c, rfl, hc⟩, hr, hn⟩ := h
  refine ⟨p, c, rfl, fun u hu => ⟨by rw [World.cell?_alloc_at _ _ _ _ rfl]; rfl, fun j y hj => ?_, hr, hn⟩⟩
  obtain ⟨b, o, e, hc⟩ := hc j y hj
  have hb := World.block_lt_of_cell? _ _ hc
  refine ⟨b, o, e, ?_⟩
  rw [World.cell?_alloc_past _ _ _ (by show b < _; exact Nat.lt_of_lt_of_le hb hu.size)]
  exact (hu.cell (p := ⟨b, o + j, none⟩) hb).trans hc
set_option maxHeartbeats 1000000 in
theorem sum_any (w : World) (pv yv : Value) (ps ys : List Int) (hp : SLi w pv ps) (hy : SLi w yv ys) (hP : Pts ps) (hlen : ps.length = ys.length) (r : Int) (h : js ps 0 (ps.zip ys) = r) :
    Calls Try.prog 25 #[pv, yv] w fun e w' => e = .returned (.int .i64 r) ∧ Below w.heap.size w w' := by
  obtain ⟨p, c, rfl, bp⟩ := hp.form
  obtain ⟨q, m, rfl, by'⟩ := hy.form
  have hB1 := (Below.refl w.heap.size w).alloc (Nat.le_refl _) (.cells #[.slice q ys.length m] 38)
  have B1 := by' w (Below.refl _ _)
  have B2 := bp (w.alloc (.cells #[.slice q ys.length m] 38)) hB1
  have B3 := B1.next ((Below.refl _ _).alloc (Nat.le_refl _) (.cells #[.slice p ps.length c] 38))
  have hB2 := hB1.alloc hB1.size (.cells #[.slice p ps.length c] 38)
  rw [World.size_alloc] at B2
  have F := Lib.hid (fold_sum _ 0 _ _ p q c m ps ys B2 B3 hP hlen (by decide))
  rw [h] at F
  have HB := Lib.hid hB2
  clear hB1 B1 B2 B3 hB2 hp hy bp by' hP h hlen
  generalize ps.length = n at *
  generalize ys.length = n2 at *
  go_enter Try.func25, Try.ntmps25
  go_wp2_with fail
  refine (factors_any _ _ _ _).mono ?_
  rintro e w' ⟨rfl, rfl⟩
  go_wp2_with fail
  refine F.out.mono ?_
  rintro e w3 ⟨rfl, b⟩
  have hb := Lib.hid (HB.out.trans (b.mono HB.out.size)); clear b
  go_wp2
  go_ret
  exact ⟨rfl, hb.out⟩
def rq (n : Int) : Bool := decide (0 ≤ n) && decide (n < 1152921504606845789)
theorem isResidue_c (w : World) (n : Int) (r : Bool) (h : rq n = r) :
    Calls Try.prog 24 #[.int .i64 n] w fun e w' => e = .returned (.bool r) ∧ Below w.heap.size w w' := by
  by_cases h0 : 0 ≤ n
  · by_cases h1 : n < 1152921504606845789
    · obtain rfl : r = true := by rw [← h]; simp [rq, h0, h1]
      clear h
      go_enter Try.func24, Try.ntmps24
      go_wp2
      go_ret
      exact ⟨rfl, Below.refl _ _⟩
    · obtain rfl : r = false := by rw [← h]; simp [rq, h1]
      clear h
      go_enter Try.func24, Try.ntmps24
      go_wp2
      go_ret
      exact ⟨rfl, Below.refl _ _⟩
  · obtain rfl : r = false := by rw [← h]; simp [rq, h0]
    clear h
    go_enter Try.func24, Try.ntmps24
    go_wp2
    go_ret
    exact ⟨rfl, Below.refl _ _⟩
/-- all numbers from 1 to m, and different -/
def DF (m : Int) (l : List Int) : Prop := (∀ x ∈ l, 1 ≤ x ∧ x ≤ m) ∧ l.Nodup
theorem DF.snoc {m : Int} {l : List Int} {k : Nat} {x : Int} (h : DF m (l.take k)) (hx : l[k]? = some x) (h1 : 1 ≤ x) (h2 : x ≤ m) (h3 : (l.take k).contains x = false) : DF m (l.take (k+1)) := by
  rw [List.take_add_one, hx]
  refine ⟨fun y hy => ?_, ?_⟩
  · rcases List.mem_append.1 hy with hy | hy
    · exact h.1 y hy
    · simp at hy; subst hy; exact ⟨h1, h2⟩
  · rw [List.nodup_append]
    refine ⟨h.2, by simp, fun a ha b hb => ?_⟩
    simp at hb
    subst hb
    intro e
    subst e
    simp at h3
    exact h3 ha
theorem DF.not {m : Int} {l : List Int} {k : Nat} {x : Int} (hx : l[k]? = some x) (h : x < 1 ∨ m < x ∨ (l.take k).contains x = true) : ¬ DF m l := fun hd => by
  rcases h with h | h | h
  · have := hd.1 x (List.mem_of_getElem? hx); omega
  · have := hd.1 x (List.mem_of_getElem? hx); omega
  · have hm : x ∈ l.take k := by simpa using h
    obtain ⟨i, hi, he⟩ := List.mem_iff_getElem.1 hm
    obtain ⟨hk, hk2⟩ := List.getElem?_eq_some_iff.1 hx
    have hi2 : i < l.length := by simp at hi; omega
    have hi3 : i < k := by simp at hi; omega
    rw [List.getElem_take] at he
    have := (List.getElem?_inj hi2 hd.2 (j := k)).1 (by rw [hx, List.getElem?_eq_getElem hi2, he])
    omega
open Classical in
set_option maxRecDepth 100000 in
set_option maxHeartbeats 2000000 in
theorem areDifferent_any (w : World) (v : Value) (l : List Int) (m : Int) (hV : SLi w v l) (hm : i64 m) :
    Calls Try.prog 36 #[v, .int .i64 m] w fun e w' => e = .returned (.bool (decide (DF m l))) ∧ Below w.heap.size w w' := by
  have hmm := @run_makeMap Try.prog
  obtain ⟨⟨p, c, rfl, hc⟩, hr, hln⟩ := hV
  have HI := Lib.hid (And.intro hc hr); clear hc hr
  obtain ⟨N, hN⟩ : ∃ N, l.length = N := ⟨_, rfl⟩
  rw [hN] at hln
  rw [hN]
  have HN := Lib.hid hN; clear hN
  go_enter Try.func36, Try.ntmps36
  go_wp2_with fail
  go_loopw [11] (fun i wr => ∃ (k : Nat), k ≤ N ∧ i = .int .i64 (k : Int) ∧ Hid (DF m (l.take k)) ∧ SetD wr w.heap.size k (fun x => (l.take k).contains x) ∧ Hid (Below w.heap.size w wr)) (fun i _ => N - (match i with | .int _ i => i.toNat | _ => 0))
  case atStart => exact ⟨0, Nat.zero_le _, rfl, Lib.hid ⟨by simp, by simp⟩, SetD.made w, Lib.hid ((Below.refl _ _).alloc (Nat.le_refl _) _)⟩
  case round =>
    obtain ⟨k, hk, rfl, ht, hs, hb⟩ := hrel
    by_cases hlt : k < N
    · obtain ⟨x, hx⟩ : ∃ x, l[k]? = some x := ⟨l[k]'(by rw [HN.out]; exact hlt), List.getElem?_eq_getElem _⟩
      obtain ⟨b, o, hp, hcx⟩ := HI.out.1 k x hx
      subst hp
      have hcell := (hb.out.cell (p := ⟨b, o + k, none⟩) (World.block_lt_of_cell? _ _ hcx)).trans hcx
      have hix := HI.out.2 x (List.mem_of_getElem? hx)
      have hl := hs.look x hix
      have HX := Lib.hid hx
      clear hx hcx
      by_cases h1 : x < 1
      · have E := Lib.hid (decide_eq_false (DF.not (m := m) HX.out (.inl h1)))
        clear hl
        go_wp2
        go_ret
        exact ⟨by rw [E.out]; rfl, hb.out⟩
      · by_cases h2 : m < x
        · have E := Lib.hid (decide_eq_false (DF.not HX.out (.inr (.inl h2))))
          clear hl
          go_wp2
          go_ret
          exact ⟨by rw [E.out]; rfl, hb.out⟩
        · cases h3 : (l.take k).contains x with
          | true =>
            rw [h3] at hl
            have E := Lib.hid (decide_eq_false (DF.not (m := m) HX.out (.inr (.inr h3))))
            clear h3
            go_wp2
            go_ret
            exact ⟨by rw [E.out]; rfl, hb.out⟩
          | false =>
            rw [h3] at hl
            have ht2 := Lib.hid (ht.out.snoc HX.out (by omega) (by omega) h3)
            have HS := Lib.hid hs
            have HE := Lib.hid (show ∀ z, ((l.take k).contains z || z == x) = (l.take (k+1)).contains z from fun z => by rw [List.take_add_one, HX.out, List.contains_append]; congr 1; simp [List.contains_cons]; by_cases e : z = x <;> simp [e])
            clear h3 hs
            go_wp2_with (first | (at_mapUpdate; refine wpList_set_add _ rfl _ _ _ rfl w.heap.size k _ rfl HS.out (by unfold maxLen; omega) x hix rfl rfl ?_; intro w1 hS1 hg1))
            have hS2 := hS1.congr HE.out
            have hb1 := Lib.hid (hb.out.grown hg1 hb.out.size (fun j hj => by cases hj; exact Nat.le_refl _))
            clear hS1 hg1 hcell
            go_wp2
            exact ⟨⟨k + 1, by omega, by simp, ht2, hS2, hb1⟩, by simp; omega⟩
    · obtain rfl : k = N := by omega
      have E := Lib.hid (decide_eq_true (show DF m l by have := ht.out; rwa [← HN.out, List.take_length] at this))
      clear hs
      go_wp2
      go_ret
      exact ⟨by rw [E.out]; rfl, hb.out⟩
end Go.Proofs.Ytihplnomhfpajaa.W8
