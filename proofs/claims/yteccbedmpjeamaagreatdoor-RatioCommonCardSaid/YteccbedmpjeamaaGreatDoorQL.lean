/-
  Lists of numbers and of texts as slices; the walks of the reference's Same and List.
  The walk of the reference's Common; ratio.Common and ratio.Sum for any list that a slice shows, for none, too.
  ratio.Common and ratio.Sum of no numbers; Common, in the program and in the reference, and Sum of any list that a slice shows.
-/
import Derived.Test.YteccbedmpjeamaaGreatDoorQC
import Derived.Test.YteccbedmpjeamaaGreatDoorQF
import Derived.Test.YteccbedmpjeamaaGreatDoorQE
import Derived.OwnWalk
import Derived.Deep.RegionHeld3
import Derived.Test.YteccbedmpjeamaaGreatDoorQRefK
namespace Go.Proofs.YteccbedmpjeamaaGreatDoor
open Go.RowKit NM QM
theorem own_stay {w w' : World} {base : Nat} {e : TypeId} {size : Nat} {v : Value} {n : Nat} {xs : List Value} (h : w.ownsRow base e size v n xs) (k : Below w.heap.size w w') : w'.ownsRow base e size v n xs := by
  refine ⟨h.1, ?_⟩
  rcases h.2 with h2 | ⟨g, cap, cur, h1, h2, h3, h4⟩
  · exact .inl h2
  · exact .inr ⟨g, cap, cur, h1, h2, (k.block g (Array.getElem?_eq_some_iff.1 h3).1).trans h3, h4⟩
/-- a slice shows these texts -/
def SL (W : World) (v : Value) (L : List ByteArray) : Prop := ∃ (p : Option Addr) (c : Nat), v = .slice p L.length c ∧ ∀ (j : Nat) (s : ByteArray), L[j]? = some s → ∃ b o, p = some ⟨b, o, none⟩ ∧ W.cell? ⟨b, o + j, none⟩ = some (.string s)
theorem SL.next {W V : World} {v : Value} {L : List ByteArray} (h : SL W v L) (k : Below W.heap.size W V) : SL V v L := by
  obtain ⟨p, c, e, h2⟩ := h
  refine ⟨p, c, e, fun j s hj => ?_⟩
  obtain ⟨b, o, e1, hc⟩ := h2 j s hj
  exact ⟨b, o, e1, (k.cell (p := ⟨b, o + j, none⟩) (World.block_lt_of_cell? _ _ hc)).trans hc⟩
theorem own_SL {w : World} {base : Nat} {v : Value} {L : List ByteArray} (h : w.ownsRow base 24 1 v L.length (L.map Value.string)) : SL w v L := by
  rcases h.2 with ⟨rfl, h0⟩ | ⟨g, cap, cur, rfl, h2, h3, h4, h5, h6, h7⟩
  · have : L = [] := List.length_eq_zero_iff.1 h0
    subst this
    exact ⟨none, 0, rfl, fun j y hj => by simp at hj⟩
  · refine ⟨_, cap, rfl, fun j s hj => ⟨g, 0, rfl, ?_⟩⟩
    have hi : (L.map Value.string)[j]? = some (.string s) := by rw [List.getElem?_map, hj]; rfl
    rw [Nat.zero_add, cell_of_row w g j _ _ _ h3, ← Array.getElem?_toList]
    rw [← h7] at hi
    have hlt := (List.getElem?_eq_some_iff.1 hi).1
    rw [List.getElem?_take_of_lt (by rw [List.length_take] at hlt; omega)] at hi
    exact hi
set_option maxRecDepth 100000 in
set_option maxHeartbeats 2000000 in
theorem same_true (w : World) (av bv : Value) (L : List ByteArray) (ha : SL w av L) (hb : SL w bv L) (hn : L.length ≤ 1000000) :
    Calls Tryz.prog 41 #[av, bv] w fun e w' => e = .returned (.bool true) ∧ Below w.heap.size w w' := by
  obtain ⟨p, c, rfl, hc⟩ := ha
  obtain ⟨q, d, rfl, hd⟩ := hb
  have HI := Lib.hid (And.intro hc hd); clear hc hd
  obtain ⟨N, hN⟩ : ∃ N, L.length = N := ⟨_, rfl⟩
  rw [hN] at hn
  rw [hN]
  have HN := Lib.hid hN; clear hN
  go_enter Tryz.func41, Tryz.ntmps41
  go_wp2_with fail
  go_loopw [5] (fun i wr => ∃ (k : Nat), k ≤ N ∧ i = .int .i64 (k : Int) ∧ Hid (Below w.heap.size w wr)) (fun i _ => N - (match i with | .int _ i => i.toNat | _ => 0))
  case atStart => exact ⟨0, Nat.zero_le _, rfl, Lib.hid (Below.refl _ _)⟩
  case round =>
    obtain ⟨k, hk, rfl, ht⟩ := hrel
    by_cases hlt : k < N
    · obtain ⟨x, hx⟩ : ∃ x, L[k]? = some x := ⟨L[k]'(by rw [HN.out]; exact hlt), List.getElem?_eq_getElem _⟩
      obtain ⟨b, o, hp, hcx⟩ := HI.out.1 k x hx
      obtain ⟨b2, o2, hq, hcy⟩ := HI.out.2 k x hx
      subst hp
      subst hq
      have c1 := (ht.out.cell (p := ⟨b, o + k, none⟩) (World.block_lt_of_cell? _ _ hcx)).trans hcx
      have c2 := (ht.out.cell (p := ⟨b2, o2 + k, none⟩) (World.block_lt_of_cell? _ _ hcy)).trans hcy
      have ht2 := Lib.hid ht.out.drew
      clear hx hcx hcy
      go_wp2_with fail
      go_region
      go_wp2
      exact ⟨⟨k + 1, by omega, by go_num, ht2⟩, by simp; omega⟩
    · obtain rfl : k = N := by omega
      go_wp2
      go_ret
      exact ⟨rfl, ht.out⟩
/-- a number by its parts -/
def q3 (q : Rat) : T3 := (decide (q.num < 0), NB q.num.natAbs, NB q.den)
def flr : List T3 → List Value
  | [] => []
  | s :: l => [.bool s.1, .string s.2.1, .string s.2.2] ++ flr l
theorem flr_app (a b : List T3) : flr (a ++ b) = flr a ++ flr b := by
  induction a with
  | nil => rfl
  | cons s l ih => show [Value.bool s.1, .string s.2.1, .string s.2.2] ++ flr (l ++ b) = [Value.bool s.1, .string s.2.1, .string s.2.2] ++ flr l ++ flr b; rw [ih, List.append_assoc]
theorem flr_get : ∀ (l : List T3) (j : Nat) (s : T3), l[j]? = some s → (flr l)[j * 3]? = some (.bool s.1) ∧ (flr l)[j * 3 + 1]? = some (.string s.2.1) ∧ (flr l)[j * 3 + 2]? = some (.string s.2.2)
  | [], _, _, h => by simp at h
  | t :: l, 0, s, h => by
    have : t = s := by simpa using h
    subst this
    exact ⟨rfl, rfl, rfl⟩
  | t :: l, j+1, s, h => by
    have ih := flr_get l j s (by simpa using h)
    have e : ∀ i, (flr (t :: l))[(j + 1) * 3 + i]? = (flr l)[j * 3 + i]? := fun i => by
      show ([Value.bool t.1, .string t.2.1, .string t.2.2] ++ flr l)[(j + 1) * 3 + i]? = _
      rw [List.getElem?_append_right (by show 3 ≤ _; omega)]
      congr 1
      show _ - 3 = _
      omega
    exact ⟨(e 0).trans ih.1, (e 1).trans ih.2.1, (e 2).trans ih.2.2⟩
/-- a slice shows these numbers: none, or a row at a block's begin -/
def LV (W : World) (v : Value) (l : List T3) : Prop := l = [] ∧ v = .slice none 0 0 ∨ ∃ b cap, v = .slice (some ⟨b, 0, none⟩) l.length cap ∧ l.length ≤ cap ∧ b < W.heap.size ∧ RL W b l
theorem LV.next {W V : World} {v : Value} {l : List T3} (h : LV W v l) (k : Below W.heap.size W V) : LV V v l := by
  rcases h with h | ⟨b, cap, e, h1, h2, h3⟩
  · exact .inl h
  · exact .inr ⟨b, cap, e, h1, Nat.lt_of_lt_of_le h2 k.size, h3.below k h2⟩
theorem own_LV {w : World} {base : Nat} {v : Value} {l : List T3} (h : w.ownsRow base 26 3 v l.length (flr l)) : LV w v l := by
  rcases h.2 with ⟨rfl, h0⟩ | ⟨g, cap, cur, rfl, h2, h3, h4, h5, h6, h7⟩
  · exact .inl ⟨List.length_eq_zero_iff.1 h0, rfl⟩
  · have rd : ∀ i u, (flr l)[i]? = some u → w.cell? ⟨g, i, none⟩ = some u := fun i u hi => by
      rw [cell_of_row w g i _ _ _ h3, ← Array.getElem?_toList]
      rw [← h7] at hi
      have hlt := (List.getElem?_eq_some_iff.1 hi).1
      rw [List.getElem?_take_of_lt (by rw [List.length_take] at hlt; omega)] at hi
      exact hi
    refine .inr ⟨g, cap, rfl, by omega, (Array.getElem?_eq_some_iff.1 h3).1, fun i hi => ?_⟩
    obtain ⟨k0, k1, k2⟩ := flr_get l i l[i] (List.getElem?_eq_getElem hi)
    exact ⟨rd _ _ k0, rd _ _ k1, rd _ _ k2⟩
theorem infoT3 : (Tryz.prog.info? 26).map (fun i => (i.zero, i.size, i.bytes)) = some (some (.agg #[.bool false, .string ⟨#[]⟩, .string ⟨#[]⟩]), 3, 40) := by kernel_rfl
/-- triples that came in as an argument -/
def LA (W : World) (v : Value) (l : List (Int × Int × Int)) : Prop := ∃ (p : Option Addr) (c : Nat), v = .slice p l.length c ∧ l.length ≤ maxLen ∧ ∀ (j : Nat) (x : Int × Int × Int), l[j]? = some x → (∃ b o, p = some ⟨b, o, none⟩ ∧ W.cell? ⟨b, o + j * 3, none⟩ = some (.int .i64 x.1) ∧ W.cell? ⟨b, o + j * 3 + 1, none⟩ = some (.int .i64 x.2.1) ∧ W.cell? ⟨b, o + j * 3 + 2, none⟩ = some (.int .i64 x.2.2)) ∧
  (-9223372036854775808 ≤ x.1 ∧ x.1 ≤ 9223372036854775807) ∧ (-9223372036854775808 ≤ x.2.1 ∧ x.2.1 ≤ 9223372036854775807) ∧ (-9223372036854775808 ≤ x.2.2 ∧ x.2.2 ≤ 9223372036854775807)
theorem LA.next {W V : World} {v : Value} {l : List (Int × Int × Int)} (h : LA W v l) (k : Below W.heap.size W V) : LA V v l := by
  obtain ⟨p, c, e, h1, h2⟩ := h
  refine ⟨p, c, e, h1, fun j x hj => ?_⟩
  obtain ⟨⟨b, o, e1, k0, k1, k2⟩, hr⟩ := h2 j x hj
  exact ⟨⟨b, o, e1, (k.cell (p := ⟨b, o + j * 3, none⟩) (World.block_lt_of_cell? _ _ k0)).trans k0, (k.cell (p := ⟨b, o + j * 3 + 1, none⟩) (World.block_lt_of_cell? _ _ k1)).trans k1, (k.cell (p := ⟨b, o + j * 3 + 2, none⟩) (World.block_lt_of_cell? _ _ k2)).trans k2⟩, hr⟩
set_option maxRecDepth 100000 in
set_option maxHeartbeats 4000000 in
theorem list_core (w : World) (p : Option Addr) (n c : Nat) (l : List (Int × Int × Int)) (hl : l.length = n) (hn : n ≤ maxLen)
    (hc : ∀ (j : Nat) (x : Int × Int × Int), l[j]? = some x → ∃ b o, p = some ⟨b, o, none⟩ ∧ w.cell? ⟨b, o + j * 3, none⟩ = some (.int .i64 x.1) ∧ w.cell? ⟨b, o + j * 3 + 1, none⟩ = some (.int .i64 x.2.1) ∧ w.cell? ⟨b, o + j * 3 + 2, none⟩ = some (.int .i64 x.2.2))
    (MA : Hid (∀ x ∈ l, ∀ W, Calls Tryz.prog 11 #[.agg #[.int .i64 x.1, .int .i64 x.2.1, .int .i64 x.2.2]] W fun e w' => ∃ q : Rat, SmQ 16 q ∧ e = .returned (.agg #[.bool (q3 q).1, .string (q3 q).2.1, .string (q3 q).2.2]) ∧ Below W.heap.size W w')) :
    Calls Tryz.prog 38 #[.slice p n c] w fun e w' => (∃ (v : Value) (Q : List Rat), e = .returned v ∧ Q.length ≤ 12 ∧ (∀ q ∈ Q, SmQ 16 q) ∧ w'.ownsRow w.heap.size 26 3 v Q.length (flr (Q.map q3))) ∧ Below w.heap.size w w' := by
  obtain ⟨i0, hi, hz0, hz1, hz2⟩ := info_parts infoT3
  have HI := Lib.hid (And.intro hc hl); clear hc hl
  go_enter Tryz.func38, Tryz.ntmps38
  go_wp2_with fail
  go_loopw [3, 4] (fun a i wr => ∃ k : Nat, k ≤ n ∧ k ≤ 12 ∧ i = .int .i64 (k : Int) ∧ Hid (∃ Q : List Rat, Q.length = k ∧ (∀ q ∈ Q, SmQ 16 q) ∧ wr.ownsRow w.heap.size 26 3 a k (flr (Q.map q3)) ∧ Below w.heap.size w wr)) (fun _ i _ => 12 - (match i with | .int _ i => i.toNat | _ => 0))
  case atStart => exact ⟨0, Nat.zero_le _, Nat.zero_le _, rfl, Lib.hid ⟨[], rfl, fun q h => (by cases h), World.ownsRow_nil _ _ _ _, Below.refl _ _⟩⟩
  case round =>
    obtain ⟨k, hk, hk12, rfl, HQ⟩ := hrel
    by_cases h1 : k < n
    · by_cases h2 : k < 12
      · obtain ⟨Q, hQ, hs, ho, hB⟩ := HQ.out
        obtain ⟨x, hx⟩ : ∃ x, l[k]? = some x := ⟨l[k]'(by rw [HI.out.2]; exact h1), List.getElem?_eq_getElem _⟩
        obtain ⟨b, o, hp, k0, k1, k2⟩ := HI.out.1 k x hx
        subst hp
        have c0 := (hB.cell (p := ⟨b, o + k * 3, none⟩) (World.block_lt_of_cell? _ _ k0)).trans k0
        have c1 := (hB.cell (p := ⟨b, o + k * 3 + 1, none⟩) (World.block_lt_of_cell? _ _ k1)).trans k1
        have c2 := (hB.cell (p := ⟨b, o + k * 3 + 2, none⟩) (World.block_lt_of_cell? _ _ k2)).trans k2
        have M1 := Lib.hid (MA.out x (List.mem_of_getElem? hx))
        obtain ⟨x1, x2, x3⟩ := x
        try dsimp only at c0 c1 c2 M1
        have HQ1 := Lib.hid (And.intro ho (And.intro hB (And.intro hQ hs)))
        have hA := Lib.hid (show k + 1 ≤ maxLen ∧ (k + 1) * 40 ≤ 140737488355328 from ⟨by unfold maxLen; omega, by omega⟩)
        clear hx k0 k1 k2 ho hB hQ hs HQ
        go_wp2_with fail
        clear c0 c1 c2
        refine (M1.out _).mono ?_
        rintro e w2 ⟨q, sm, rfl, b2⟩
        obtain ⟨t, ht⟩ : ∃ t, q3 q = t := ⟨_, rfl⟩
        rw [ht]
        obtain ⟨u, v, y⟩ := t
        have HQ2 := Lib.hid (And.intro (own_stay HQ1.out.1 b2) (And.intro (HQ1.out.2.1.trans (b2.mono HQ1.out.2.1.size)) (And.intro HQ1.out.2.2.1 (And.intro HQ1.out.2.2.2 (And.intro sm ht)))))
        clear b2 HQ1 sm ht M1
        try dsimp only
        go_wp2_with (at_builtin; go_must (refine wpList_append_lies _ rfl _ _ 38 rfl w.heap.size 26 i0 (.agg #[.bool false, .string ⟨#[]⟩, .string ⟨#[]⟩]) 3 40 Tryz.underlying38 hi hz0 hz1 hz2 rfl (by decide) _ k (flr (Q.map q3)) rfl (HQ2.out.1.alloc _) ⟨w2.heap.size, 0, none⟩ 1 1 [.bool u, .string v, .string y] rfl rfl (World.news_of_block (heap_alloc_new _ _)) (by simp [Value.oneCell']) Nat.zero_lt_one hA.out.1 hA.out.2 (by rw [World.size_alloc]; exact Nat.le_succ_of_le HQ2.out.2.1.size) _ rfl ?_); intro g9 c9 w9 hown9 hgrow9 hat9 hlt9)
        have HC9 := HQ2.out.2.1.trans (((Below.refl _ w2).alloc (Nat.le_refl _) (.cells #[.bool u, .string v, .string y] 26)).mono HQ2.out.2.1.size)
        have K9 := Lib.hid (show ∃ Q : List Rat, Q.length = k + 1 ∧ (∀ q ∈ Q, SmQ 16 q) ∧ w9.ownsRow w.heap.size 26 3 (.slice (some ⟨g9, 0, none⟩) (k + 1) c9) (k + 1) (flr (Q.map q3)) ∧ Below w.heap.size w w9 from ⟨Q ++ [q], by rw [List.length_append, HQ2.out.2.2.1]; rfl, fun r hr => by
          rcases List.mem_append.1 hr with hr | hr
          · exact HQ2.out.2.2.2.1 r hr
          · rw [List.mem_singleton.1 hr]; exact HQ2.out.2.2.2.2.1, by
          rw [List.map_append, flr_app]
          show w9.ownsRow _ _ _ _ _ (flr (Q.map q3) ++ ([.bool (q3 q).1, .string (q3 q).2.1, .string (q3 q).2.2] ++ []))
          rw [List.append_nil, HQ2.out.2.2.2.2.2]; exact hown9, HC9.grown hgrow9 HC9.size (fun r hr => (HQ2.out.1.lt r hr).1)⟩)
        clear hown9 hgrow9 hat9 hlt9 HC9 HQ2
        try go_wp2
        exact ⟨⟨k + 1, by omega, by omega, by go_num, K9⟩, by simp; omega⟩
      · obtain rfl : k = 12 := by omega
        go_wp2
        go_ret
        obtain ⟨Q, hQ, hs, ho, hB⟩ := HQ.out
        exact ⟨⟨_, Q, rfl, by omega, hs, by rw [hQ]; exact ho⟩, hB⟩
    · obtain rfl : k = n := by omega
      go_wp2
      go_ret
      obtain ⟨Q, hQ, hs, ho, hB⟩ := HQ.out
      exact ⟨⟨_, Q, rfl, by omega, hs, by rw [hQ]; exact ho⟩, hB⟩
theorem List_any (w : World) (v : Value) (l : List (Int × Int × Int)) (h : LA w v l) :
    Calls Tryz.prog 38 #[v] w fun e w' => (∃ (v : Value) (Q : List Rat), e = .returned v ∧ Q.length ≤ 12 ∧ (∀ q ∈ Q, SmQ 16 q) ∧ w'.ownsRow w.heap.size 26 3 v Q.length (flr (Q.map q3))) ∧ Below w.heap.size w w' := by
  obtain ⟨p, c, rfl, h1, h2⟩ := h
  refine list_core w p l.length c l rfl h1 (fun j x hj => (h2 j x hj).1) (Lib.hid fun x hx W => ?_)
  obtain ⟨j, hj⟩ := List.mem_iff_getElem?.1 hx
  obtain ⟨_, r1, r2, r3⟩ := h2 j x hj
  exact (made_q W x.1 x.2.1 x.2.2 r1 r2 r3).mono fun e w' ⟨q, sm, he, hb⟩ => ⟨q, sm, he, hb⟩
end Go.Proofs.YteccbedmpjeamaaGreatDoor
namespace Go.Proofs.YteccbedmpjeamaaGreatDoor
open Go.RowKit NM QM
/-- the whole numerators -/
def wl (l : List T3) : List ByteArray := (List.range l.length).map (wh l)
theorem wl_len (l : List T3) : (wl l).length = l.length := by unfold wl; simp
theorem wl_get (l : List T3) (j : Nat) (h : j < l.length) : (wl l)[j]? = some (wh l j) := by unfold wl; rw [List.getElem?_map, List.getElem?_range h]; rfl
theorem wl_take (l : List T3) (k : Nat) (h : k < l.length) : (wl l).take (k+1) = (wl l).take k ++ [wh l k] := by rw [List.take_add_one, wl_get l k h]; rfl
theorem lc_mul (d e : Nat) : d * (e / d.gcd e) = lc d e := by rw [lc_lcm]; unfold Nat.lcm; rw [Nat.mul_div_assoc _ (Nat.gcd_dvd_right d e)]
/-- what Common gives, in the program and in the reference -/
def ComV (l : List T3) (w : World) (e : Ending) (w' : World) : Prop :=
  (l.any badq = true ∧ e = .returned (.tuple #[.string ⟨#[]⟩, .slice none 0 0, .bool false]) ∧ Below w.heap.size w w') ∨
  (l.any badq = false ∧ ∃ v, e = .returned (.tuple #[.string (NB (lcl l)), v, .bool true]) ∧ SL w' v (wl l) ∧ Below w.heap.size w w')
set_option maxRecDepth 100000 in
set_option maxHeartbeats 8000000 in
theorem rcom_core (w : World) (p : Option Addr) (n cap : Nat) (l : List T3) (hl : l.length = n) (N : Nat) (hs : SzL N l) (hN1 : 1 ≤ N) (hN : 1 + n * N + N ≤ 1000000) (hn : n ≤ 1000)
    (hc : ∀ i (h : i < l.length), ∃ b, p = some ⟨b, 0, none⟩ ∧ w.cell? ⟨b, i * 3, none⟩ = some (.bool l[i].1) ∧ w.cell? ⟨b, i * 3 + 1, none⟩ = some (.string l[i].2.1) ∧ w.cell? ⟨b, i * 3 + 2, none⟩ = some (.string l[i].2.2)) :
    Calls Tryz.prog 40 #[.slice p n cap] w (ComV l w) := by
  obtain ⟨i0, hi, hz0, hz1, hz2⟩ := info_parts infoN
  have HI := Lib.hid (And.intro hc (And.intro hl (And.intro hs (And.intro hN1 hN)))); clear hc hl hs hN1 hN
  have hone : NB (lcl (l.take 0)) = ⟨#[1]⟩ := NB_one
  go_enter Tryz.func40, Tryz.ntmps40
  go_wp2_with fail
  refine (rone_q _).mono ?_
  rintro e w1 ⟨rfl, b1⟩
  have HB1 := Lib.hid b1
  clear b1
  go_wp2_with fail
  go_loopw [5, 6] (fun d i wr => ∃ k : Nat, k ≤ n ∧ d = .string (NB (lcl (l.take k))) ∧ i = .int .i64 (k : Int) ∧ Hid ((∀ t ∈ l.take k, badq t = false) ∧ Below w.heap.size w wr)) (fun _ i _ => n - (match i with | .int _ i => i.toNat | _ => 0))
  case atStart => exact ⟨0, Nat.zero_le _, by rw [hone], rfl, Lib.hid ⟨fun t h => by simp at h, HB1.out⟩⟩
  case round =>
    clear hone HB1
    obtain ⟨k, hk, rfl, rfl, HQ⟩ := hrel
    by_cases hlt : k < n
    · have hlt' : k < l.length := by rw [HI.out.2.1]; exact hlt
      obtain ⟨b, hp, k0, k1, k2⟩ := HI.out.1 k hlt'
      subst hp
      have c0 := (HQ.out.2.cell (p := ⟨b, k * 3, none⟩) (World.block_lt_of_cell? _ _ k0)).trans k0
      have c1 := (HQ.out.2.cell (p := ⟨b, k * 3 + 1, none⟩) (World.block_lt_of_cell? _ _ k1)).trans k1
      have c2 := (HQ.out.2.cell (p := ⟨b, k * 3 + 2, none⟩) (World.block_lt_of_cell? _ _ k2)).trans k2
      have hm := HI.out.2.2.1 l[k] (List.getElem_mem hlt')
      have htk : l.take (k + 1) = l.take k ++ [l[k]] := by rw [List.take_succ_eq_append_getElem hlt']
      have hin : l[k] ∈ l := List.getElem_mem hlt'
      have hLk := lcl_small N l HI.out.2.2.1 HI.out.2.2.2.1 k (by omega)
      have hkN : k * N ≤ n * N := Nat.mul_le_mul_right _ hk
      have hNN := HI.out.2.2.2.2
      obtain ⟨t, ht⟩ : ∃ t, l[k] = t := ⟨_, rfl⟩
      rw [ht] at c0 c1 c2 hm htk hin
      have hsn : lcl (l.take (k+1)) = lc (lcl (l.take k)) (rv3 t).den := by rw [htk, lcl_snoc]
      clear k0 k1 k2 ht
      obtain ⟨g, A, B⟩ := t
      have RT := fun W => rright_any W g A B N hm.1 hm.2 (by omega)
      have hsq := SmQ_rvq g A B N hm.1 hm.2 HI.out.2.2.2.1
      change SmQ N (rv3 (g, A, B)) at hsq
      obtain ⟨q, hq⟩ : ∃ q, okq g A B = q := ⟨_, rfl⟩
      rw [hq] at RT
      have hbq : badq (g, A, B) = (!q || g) := by rw [← hq]; rfl
      have RT := Lib.hid RT
      try dsimp only at c0 c1 c2
      cases q with
      | false =>
        have F := Lib.hid (show l.any badq = true from List.any_eq_true.2 ⟨_, hin, by rw [hbq]; rfl⟩)
        clear hbq hq hm htk hin hLk hkN hNN hsn hsq
        go_wp2_with fail
        refine (RT.out _).mono ?_
        rintro e w2 ⟨rfl, b2⟩
        have HB2 := Lib.hid (HQ.out.2.trans (b2.mono HQ.out.2.size))
        clear b2 c0 c1 c2
        go_wp2
        go_ret3
        exact .inl ⟨F.out, rfl, HB2.out⟩
      | true =>
      cases g with
      | true =>
        have F := Lib.hid (show l.any badq = true from List.any_eq_true.2 ⟨_, hin, by rw [hbq]; rfl⟩)
        clear hbq hq hm htk hin hLk hkN hNN hsn hsq
        go_wp2_with fail
        refine (RT.out _).mono ?_
        rintro e w2 ⟨rfl, b2⟩
        have HB2 := Lib.hid (HQ.out.2.trans (b2.mono HQ.out.2.size))
        replace c0 := (b2.cell (p := ⟨b, k * 3, none⟩) (World.block_lt_of_cell? _ _ c0)).trans c0
        clear b2 c1 c2
        go_wp2
        go_ret3
        exact .inl ⟨F.out, rfl, HB2.out⟩
      | false =>
        have hbad : badq (false, A, B) = false := hbq
        have hgp := good_parts hbad
        have hden := (rv3 (false, A, B)).den_nz
        have HT := Lib.hid (show ∀ t ∈ l.take (k+1), badq t = false from fun t h => by
          rw [htk] at h
          rcases List.mem_append.1 h with h | h
          · exact HQ.out.1 t h
          · rw [List.mem_singleton.1 h]; exact hbad)
        have hB : B = NB (rv3 (false, A, B)).den := hgp.2.2
        have hc3 := lc_mul (lcl (l.take k)) (rv3 (false, A, B)).den
        have hgp0 : 0 < (lcl (l.take k)).gcd (rv3 (false, A, B)).den := Nat.gcd_pos_of_pos_right _ (by omega)
        have z1 := NB_size hLk
        have z2 := NB_size hsq.2
        have z3 : (NB ((lcl (l.take k)).gcd (rv3 (false, A, B)).den)).size ≤ N := NB_size (gcd_lt_r hsq.2 (Nat.pos_of_ne_zero hden))
        have z4 : (NB ((rv3 (false, A, B)).den / (lcl (l.take k)).gcd (rv3 (false, A, B)).den)).size ≤ N := NB_size (div_lt hsq.2)
        have G1 := fun W => RefGcd_any W (NB (lcl (l.take k))) (NB (rv3 (false, A, B)).den) (by omega) (by omega)
        have Q1 := fun W => quoR_c W (NB (rv3 (false, A, B)).den) (NB ((lcl (l.take k)).gcd (rv3 (false, A, B)).den)) ((rv3 (false, A, B)).den / (lcl (l.take k)).gcd (rv3 (false, A, B)).den) ((rv3 (false, A, B)).den % (lcl (l.take k)).gcd (rv3 (false, A, B)).den) (by rw [sv_NB, sv_NB]) (by rw [sv_NB, sv_NB]) (by omega) (by omega) (by rw [sv_NB]; omega)
        have M1 := fun W => mulR_c W (NB (lcl (l.take k))) (NB ((rv3 (false, A, B)).den / (lcl (l.take k)).gcd (rv3 (false, A, B)).den)) (lcl (l.take (k+1))) (by rw [sv_NB, sv_NB, hc3, hsn]) (by omega) (by omega)
        unfold GcdV at G1
        rw [sv_NB, sv_NB] at G1
        rw [← hB] at G1 Q1
        generalize NB ((rv3 (false, A, B)).den % (lcl (l.take k)).gcd (rv3 (false, A, B)).den) = R9 at *
        generalize NB ((rv3 (false, A, B)).den / (lcl (l.take k)).gcd (rv3 (false, A, B)).den) = Q9 at *
        generalize NB ((lcl (l.take k)).gcd (rv3 (false, A, B)).den) = G9 at *
        generalize NB (lcl (l.take k)) = D9 at *
        obtain ⟨D8, hD8⟩ : ∃ x, NB (lcl (l.take (k+1))) = x := ⟨_, rfl⟩
        rw [hD8] at M1
        have HH := Lib.hid (And.intro G1 (And.intro Q1 (And.intro M1 hD8)))
        clear G1 Q1 M1 hD8 z1 z2 z3 z4 hgp0 hc3 hB hden hgp hbad hbq hq hm htk hin hLk hkN hNN hsn hsq
        go_wp2_with fail
        refine (RT.out _).mono ?_
        rintro e w2 ⟨rfl, b2⟩
        have HB2 := Lib.hid (HQ.out.2.trans (b2.mono HQ.out.2.size))
        replace c0 := (b2.cell (p := ⟨b, k * 3, none⟩) (World.block_lt_of_cell? _ _ c0)).trans c0
        replace c2 := (b2.cell (p := ⟨b, k * 3 + 2, none⟩) (World.block_lt_of_cell? _ _ c2)).trans c2
        clear b2 c1 RT HQ
        go_wp2_with fail
        refine (HH.out.1 _).mono ?_
        rintro e w3 ⟨rfl, b3⟩
        have HB3 := Lib.hid (HB2.out.trans (b3.mono HB2.out.size))
        replace c2 := (b3.cell (p := ⟨b, k * 3 + 2, none⟩) (World.block_lt_of_cell? _ _ c2)).trans c2
        clear b3 c0 HB2
        go_wp2_with fail
        refine (HH.out.2.1 _).mono ?_
        rintro e w4 ⟨rfl, b4⟩
        have HB4 := Lib.hid (HB3.out.trans (b4.mono HB3.out.size))
        clear b4 c2 HB3
        go_wp2_with fail
        refine (HH.out.2.2.1 _).mono ?_
        rintro e w5 ⟨rfl, b5⟩
        have K5 := Lib.hid (And.intro HT.out (HB4.out.trans (b5.mono HB4.out.size)))
        have HE := Lib.hid HH.out.2.2.2
        clear b5 HB4 HH HT
        go_wp2
        exact ⟨⟨k + 1, by omega, by rw [HE.out], by go_num, K5⟩, by simp; omega⟩
    · obtain rfl : k = n := by omega
      have hE : l.take k = l := List.take_of_length_le (by rw [HI.out.2.1]; exact Nat.le_refl _)
      rw [hE] at HQ ⊢
      have hany : l.any badq = false := by
        rw [List.any_eq_false]
        intro t ht
        rw [HQ.out.1 t ht]; simp
      have HA := Lib.hid hany
      have HB2 := Lib.hid HQ.out.2
      have hLl := lcl_small N l HI.out.2.2.1 HI.out.2.2.2.1 k (by rw [HI.out.2.1]; exact Nat.le_refl _)
      rw [hE] at hLl
      have HL := Lib.hid hLl
      have hwr := World.ownsRow_nil
      obtain ⟨D9, hD9⟩ : ∃ x, NB (lcl l) = x := ⟨_, rfl⟩
      rw [hD9]
      have HD := Lib.hid hD9
      clear hE hany HQ hLl hD9 hwr hk hlt
      go_wp2_with fail
      go_loopw [12, 13] (fun a i wx => ∃ j : Nat, j ≤ k ∧ i = .int .i64 (j : Int) ∧ Hid (wx.ownsRow w.heap.size 24 1 a j (((wl l).take j).map Value.string) ∧ Below w.heap.size w wx)) (fun _ i _ => k - (match i with | .int _ i => i.toNat | _ => 0))
      case atStart => exact ⟨0, Nat.zero_le _, rfl, Lib.hid ⟨World.ownsRow_nil _ _ _ _, HB2.out⟩⟩
      case round =>
        clear HB2
        obtain ⟨j, hj, rfl, HQ⟩ := hrel
        by_cases hlt : j < k
        · have hlt' : j < l.length := by rw [HI.out.2.1]; exact hlt
          obtain ⟨b, hp, k0, k1, k2⟩ := HI.out.1 j hlt'
          subst hp
          have c1 := (HQ.out.2.cell (p := ⟨b, j * 3 + 1, none⟩) (World.block_lt_of_cell? _ _ k1)).trans k1
          have c2 := (HQ.out.2.cell (p := ⟨b, j * 3 + 2, none⟩) (World.block_lt_of_cell? _ _ k2)).trans k2
          have hm := HI.out.2.2.1 l[j] (List.getElem_mem hlt')
          have hbad : badq l[j] = false := by
            have h := HA.out
            rw [List.any_eq_false] at h
            simpa using h _ (List.getElem_mem hlt')
          have hgp := good_parts hbad
          have hsq := SmQ_rvq l[j].1 l[j].2.1 l[j].2.2 N hm.1 hm.2 HI.out.2.2.2.1
          change SmQ N (rv3 l[j]) at hsq
          have hwh : wh l j = NB ((rv3 l[j]).num.natAbs * (lcl l / (rv3 l[j]).den)) := by unfold wh; rw [List.getD_eq_getElem?_getD, List.getElem?_eq_getElem hlt']; rfl
          have hwt := wl_take l j hlt'
          have hden := (rv3 l[j]).den_nz
          have hNN := HI.out.2.2.2.2
          rw [hgp.2.1] at c1
          rw [hgp.2.2] at c2
          have z1 := NB_size HL.out
          have z2 := NB_size hsq.2
          have z3 := NB_size hsq.1
          have z4 : (NB (lcl l / (rv3 l[j]).den)).size ≤ 1 + k * N := NB_size (div_lt HL.out)
          have Q1 := fun W => quoR_c W (NB (lcl l)) (NB (rv3 l[j]).den) (lcl l / (rv3 l[j]).den) (lcl l % (rv3 l[j]).den) (by rw [sv_NB, sv_NB]) (by rw [sv_NB, sv_NB]) (by omega) (by omega) (by rw [sv_NB]; exact hden)
          have M1 := fun W => mulR_c W (NB (rv3 l[j]).num.natAbs) (NB (lcl l / (rv3 l[j]).den)) ((rv3 l[j]).num.natAbs * (lcl l / (rv3 l[j]).den)) (by rw [sv_NB, sv_NB]) (by omega) (by omega)
          rw [← hwh] at M1
          rw [HD.out] at Q1
          generalize NB (lcl l % (rv3 l[j]).den) = R9 at *
          generalize NB (lcl l / (rv3 l[j]).den) = Q9 at *
          generalize NB (rv3 l[j]).num.natAbs = A9 at *
          generalize NB (rv3 l[j]).den = B9 at *
          obtain ⟨W9, hW9⟩ : ∃ x, wh l j = x := ⟨_, rfl⟩
          rw [hW9] at M1 hwt
          have HH := Lib.hid (And.intro Q1 (And.intro M1 hwt))
          have hA := Lib.hid (show j + 1 ≤ maxLen ∧ (j + 1) * 16 ≤ 140737488355328 from ⟨by unfold maxLen; omega, by omega⟩)
          clear Q1 M1 hwt hW9 z1 z2 z3 z4 hNN hden hwh hsq hgp hbad hm k0 k1 k2
          go_wp2_with fail
          refine (HH.out.1 _).mono ?_
          rintro e w3 ⟨rfl, b3⟩
          have HQ3 := Lib.hid (And.intro (own_stay HQ.out.1 b3) (HQ.out.2.trans (b3.mono HQ.out.2.size)))
          replace c1 := (b3.cell (p := ⟨b, j * 3 + 1, none⟩) (World.block_lt_of_cell? _ _ c1)).trans c1
          clear b3 c2 HQ
          go_wp2_with fail
          refine (HH.out.2.1 _).mono ?_
          rintro e w4 ⟨rfl, b4⟩
          have HQ4 := Lib.hid (And.intro (own_stay HQ3.out.1 b4) (HQ3.out.2.trans (b4.mono HQ3.out.2.size)))
          clear b4 c1 HQ3
          go_wp2_with (at_builtin; go_must (refine wpList_append_lies _ rfl _ _ 50 rfl w.heap.size 24 i0 (.string ⟨#[]⟩) 1 16 Tryz.underlying50 hi hz0 hz1 hz2 rfl (by decide) _ j (((wl l).take j).map Value.string) rfl (HQ4.out.1.alloc _) ⟨w4.heap.size, 0, none⟩ 1 1 [.string W9] rfl rfl (World.news_of_block (heap_alloc_new _ _)) (by simp [Value.oneCell']) Nat.zero_lt_one hA.out.1 hA.out.2 (by rw [World.size_alloc]; exact Nat.le_succ_of_le HQ4.out.2.size) _ rfl ?_); intro g9 c9 w9 hown9 hgrow9 hat9 hlt9)
          have HC9 := HQ4.out.2.trans (((Below.refl _ w4).alloc (Nat.le_refl _) (.cells #[.string W9] 24)).mono HQ4.out.2.size)
          have K9 := Lib.hid (show w9.ownsRow w.heap.size 24 1 (.slice (some ⟨g9, 0, none⟩) (j + 1) c9) (j + 1) (((wl l).take (j+1)).map Value.string) ∧ Below w.heap.size w w9 from ⟨by rw [HH.out.2.2, List.map_append]; exact hown9, HC9.grown hgrow9 HC9.size (fun r hr => (HQ4.out.1.lt r hr).1)⟩)
          clear hown9 hgrow9 hat9 hlt9 HC9 HQ4 HH
          try go_wp2
          exact ⟨⟨j + 1, by omega, by go_num, K9⟩, by simp; omega⟩
        · obtain rfl : j = k := by omega
          have hE : (wl l).take j = wl l := List.take_of_length_le (by rw [wl_len, HI.out.2.1]; exact Nat.le_refl _)
          rw [hE] at HQ
          have HS := Lib.hid (own_SL (L := wl l) (by rw [wl_len, HI.out.2.1]; exact HQ.out.1))
          have HB := Lib.hid HQ.out.2
          clear hE HQ
          go_wp2
          go_ret3
          exact .inr ⟨HA.out, _, by rw [HD.out]; rfl, HS.out, HB.out⟩
end Go.Proofs.YteccbedmpjeamaaGreatDoor
namespace Go.Proofs.YteccbedmpjeamaaGreatDoor
open Go.RowKit NM QM
set_option maxRecDepth 100000 in
theorem idx_nil (w : World) : Calls Tryz.prog 99 #[.slice none 0 0, .func (.func 71) #[.agg #[.bool false]] #[]] w fun e w' => e = .returned (.int .i64 (-1)) ∧ w' = w := by
  go_enter Tryz.func99, Tryz.ntmps99
  go_wp2
  go_loopw [8] (fun i wr => i = .int .i64 0 ∧ wr = w) (fun _ _ => 0)
  case atStart => exact ⟨rfl, rfl⟩
  case round =>
    obtain ⟨rfl, rfl⟩ := hrel
    go_wp2
    go_ret
    exact ⟨rfl, rfl⟩
set_option maxRecDepth 100000 in
theorem con_nil (w : World) : Calls Tryz.prog 70 #[.slice none 0 0, .func (.func 71) #[.agg #[.bool false]] #[]] w fun e w' => e = .returned (.bool false) ∧ w' = w := by
  go_enter Tryz.func70, Tryz.ntmps70
  go_wp2_with fail
  refine (idx_nil _).mono ?_
  rintro e w1 ⟨rfl, rfl⟩
  go_wp2
  go_ret
  exact ⟨rfl, rfl⟩
set_option maxRecDepth 100000 in
theorem foldn_nil (w : World) : Calls Tryz.prog 72 #[.slice none 0 0, .string ⟨#[1]⟩, .func (.func 73) #[] #[]] w fun e w' => e = .returned (.string ⟨#[1]⟩) ∧ Below w.heap.size w w' := by
  go_enter Tryz.func72, Tryz.ntmps72
  go_wp2
  go_loopw [7, 13] (fun s i wr => i = .int .i64 0 ∧ s = .string ⟨#[1]⟩ ∧ Hid (Below w.heap.size w wr)) (fun _ _ _ => 0)
  case atStart => exact ⟨rfl, rfl, Lib.hid (Below.refl _ _)⟩
  case round =>
    obtain ⟨rfl, rfl, hB⟩ := hrel
    go_wp2
    go_ret
    exact ⟨rfl, hB.out⟩
set_option maxRecDepth 100000 in
set_option maxHeartbeats 2000000 in
theorem com_nil (w : World) : Calls Tryz.prog 39 #[.slice none 0 0] w (ComV [] w) := by
  have hmk := fun W => make_strs 0 (by decide) W
  simp only [Int.natCast_zero] at hmk
  have hone : NB (lcl []) = ⟨#[1]⟩ := NB_one
  have HO := Lib.hid hone
  clear hone
  go_enter Tryz.func39, Tryz.ntmps39
  go_wp2_with fail
  refine (con_nil _).mono ?_
  rintro e w1 ⟨rfl, rfl⟩
  go_wp2_with fail
  refine (foldn_nil _).mono ?_
  rintro e w2 ⟨rfl, b2⟩
  have HB2 := Lib.hid b2
  clear b2
  go_upto_region 5 with fail
  have hb3 := HB2.out.alloc HB2.out.size (.cells (madeCells #[.string ⟨#[]⟩] 0) 24)
  generalize w2.alloc (.cells (madeCells #[.string ⟨#[]⟩] 0) 24) = W3 at *
  generalize w2.heap.size = wb at *
  clear hmk HB2
  have H3 := Lib.hid hb3
  clear hb3
  go_wp2
  go_loopw [20] (fun i wr => i = .int .i64 0 ∧ Hid (Below w1.heap.size w1 wr)) (fun _ _ => 0)
  case atStart => exact ⟨rfl, H3⟩
  case round =>
    obtain ⟨rfl, hI⟩ := hrel
    go_wp2
    go_ret3
    exact .inr ⟨rfl, _, by rw [HO.out]; rfl, ⟨_, _, rfl, fun j s hj => by simp [wl] at hj⟩, hI.out⟩
set_option maxRecDepth 100000 in
set_option maxHeartbeats 4000000 in
theorem foldq_nil (w : World) :
    Calls Tryz.prog 61 #[.slice none 0 0, .agg zc, .func (.func 62) #[] #[]] w fun e w' => e = .returned (QV 0) ∧ Below w.heap.size w w' := by
  obtain ⟨W, hW⟩ : ∃ W, ((w.alloc (.cells zc 26)).alloc (.cells zrow 26)).alloc (.cells (qcells 0) 26) = W := ⟨_, rfl⟩
  have h0 : FS w 0 W := by
    rw [← hW]
    have hb : Below w.heap.size w (((w.alloc (.cells zc 26)).alloc (.cells zrow 26)).alloc (.cells (qcells 0) 26)) := (((Below.refl _ w).alloc (Nat.le_refl _) _).alloc (by simp) _).alloc (by simp; omega) _
    refine ⟨?_, ?_, by simp, hb⟩
    · rw [heap_alloc_old _ _ (by simp)]; exact heap_alloc2_new _ _ _
    · have h := heap_alloc_new ((w.alloc (.cells zc 26)).alloc (.cells zrow 26)) (.cells (qcells 0) 26)
      rwa [show ((w.alloc (.cells zc 26)).alloc (.cells zrow 26)).heap.size = w.heap.size + 2 by simp] at h
  obtain ⟨s, hs⟩ : ∃ s : Rat, s = 0 := ⟨_, rfl⟩
  rw [← hs] at h0 ⊢
  have HW := Lib.hid (And.intro hW h0)
  clear hW h0 hs
  unfold zc
  go_enter Tryz.func61, Tryz.ntmps61
  go_upto_region 2 with fail
  have hW2 := HW.out.1
  rw [zc_q] at hW2
  unfold zc zrow at hW2
  rw [hW2]
  clear hW2
  go_wp2
  go_loopw [13] (fun i wr => i = .int .i64 0 ∧ Hid (FS w s wr)) (fun _ _ => 0)
  case atStart => exact ⟨rfl, Lib.hid HW.out.2⟩
  case round =>
    clear HW
    obtain ⟨rfl, hF⟩ := hrel
    have c3 : wr.cell? ⟨w.heap.size + 2, 0, none⟩ = some (.bool (decide (s.num < 0))) := cell_of_row _ _ 0 _ _ _ hF.out.a
    have c4 : wr.cell? ⟨w.heap.size + 2, 1, none⟩ = some (.string (NB s.num.natAbs)) := cell_of_row _ _ 1 _ _ _ hF.out.a
    have c5 : wr.cell? ⟨w.heap.size + 2, 2, none⟩ = some (.string (NB s.den)) := cell_of_row _ _ 2 _ _ _ hF.out.a
    go_wp2_with (refine wpList_store_row rfl 26 (.tmp 6) (.tmp 22) rfl (w.heap.size + 1) (qcells s) rfl rfl 26 zrow hF.out.z info26.out rfl (qone _) ?_)
    refine bodyPost_ret (results_cell_row rfl _ _ (w.heap.size + 1) _ (qcells s) _ _ rfl (setRow_heap _ _ _ _ _ _ hF.out.z) Tryz.underlying26 rfl info26.out) rfl ?_
    exact ⟨rfl, Below.setRow' hF.out.b (by omega) _⟩
set_option maxRecDepth 100000 in
set_option maxHeartbeats 2000000 in
theorem sum_nil (w : World) (hT : Tb w) : Calls Tryz.prog 30 #[.slice none 0 0] w fun e w' => e = .returned (QV (sumq [])) ∧ Below w.heap.size w w' := by
  have h0 := z1_start w
  obtain ⟨W, hW⟩ : ∃ W, w.alloc (.cells zrow 26) = W := ⟨_, rfl⟩
  rw [hW] at h0
  have FF := Lib.hid (foldq_nil W)
  have HW := Lib.hid (And.intro hW h0)
  obtain ⟨z0, z1, z2⟩ := (hT.below h0.b).z
  clear hW h0 hT
  go_enter Tryz.func30, Tryz.ntmps30
  go_upto_region 1 with fail
  change Code.wp _ _ _ _ (w.alloc (.cells zrow 26))
  rw [HW.out.1]
  go_wp2_with fail
  refine FF.out.mono ?_
  rintro e w2 ⟨rfl, b2⟩
  have H2 := Lib.hid (HW.out.2.next b2)
  clear b2
  unfold QV
  go_wp2_with (refine wpList_store_row rfl 26 (.tmp 2) (.tmp 5) rfl w.heap.size (qcells 0) rfl rfl 26 zrow H2.out.z info26.out rfl (qone _) ?_)
  refine bodyPost_ret (results_cell_row rfl _ _ w.heap.size _ (qcells 0) _ _ rfl (setRow_heap _ _ _ _ _ _ H2.out.z) Tryz.underlying26 rfl info26.out) rfl ?_
  exact ⟨rfl, Below.setRow' H2.out.b (Nat.le_refl _) _⟩
theorem ComV_of {l : List T3} {w : World} {e : Ending} {w' : World} (h : ComQ l w e w') : ComV l w e w' := by
  rcases h with h | ⟨h, g, h1, h2, h3, h4, h5⟩
  · exact .inl h
  · refine .inr ⟨h, _, h3, ⟨some ⟨g, 0, none⟩, l.length, by rw [wl_len], fun j s hj => ⟨g, 0, rfl, ?_⟩⟩, h5⟩
    have hlt : j < l.length := by
      have := (List.getElem?_eq_some_iff.1 hj).1
      rwa [wl_len] at this
    rw [wl_get l j hlt] at hj
    injection hj with hj
    subst hj
    rw [Nat.zero_add]
    exact (h4 j hlt).1
/-- Common of a list that a slice shows -/
theorem comP (w : World) (v : Value) (l : List T3) (N : Nat) (h : LV w v l) (hs : SzL N l) (hN1 : 1 ≤ N) (hN : 1 + l.length * N + N ≤ 1000000) (hl : l.length ≤ 1000) (hT : Tb w) :
    Calls Tryz.prog 39 #[v] w (ComV l w) := by
  rcases h with ⟨rfl, rfl⟩ | ⟨b, cap, rfl, h1, h2, h3⟩
  · exact com_nil w
  · exact (qCommon w b cap l N h3 h2 hs hN1 hN h1 (by omega) hT).mono fun e w' h => ComV_of h
theorem comR (w : World) (v : Value) (l : List T3) (N : Nat) (h : LV w v l) (hs : SzL N l) (hN1 : 1 ≤ N) (hN : 1 + l.length * N + N ≤ 1000000) (hl : l.length ≤ 1000) :
    Calls Tryz.prog 40 #[v] w (ComV l w) := by
  rcases h with ⟨rfl, rfl⟩ | ⟨b, cap, rfl, h1, h2, h3⟩
  · exact rcom_core w none 0 0 [] rfl N hs hN1 (by simpa using hN) (by decide) (fun i hi => by simp at hi)
  · exact rcom_core w (some ⟨b, 0, none⟩) l.length cap l rfl N hs hN1 hN hl (fun i hi => ⟨b, rfl, h3 i hi⟩)
theorem sumP (w : World) (v : Value) (l : List T3) (N : Nat) (h : LV w v l) (hs : SzL N l) (hN1 : 1 ≤ N) (hN : N + l.length * (N + 1) ≤ 1000000) (hl : l.length ≤ 1000) (hT : Tb w) :
    Calls Tryz.prog 30 #[v] w fun e w' => e = .returned (QV (sumq l)) ∧ Below w.heap.size w w' := by
  rcases h with ⟨rfl, rfl⟩ | ⟨b, cap, rfl, h1, h2, h3⟩
  · exact sum_nil w hT
  · exact qSum w b cap l N h3 h2 hs hN1 hN h1 (by omega) hT
end Go.Proofs.YteccbedmpjeamaaGreatDoor
