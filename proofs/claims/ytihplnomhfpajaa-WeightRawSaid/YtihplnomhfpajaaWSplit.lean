/-
  The walk of the reference's split.
-/
import Derived.Test.YtihplnomhfpajaaWRefC
namespace Go.Proofs.Ytihplnomhfpajaa.W8
open Go.RowKit GM G4 D7P Go.Maps
/-- two slices of numbers of the call's own -/
structure SR (w : World) (pv yv : Value) (X Y : List Int) (W : World) : Prop where
  b : Below w.heap.size w W
  ox : W.ownsRow w.heap.size 3 1 pv X.length (X.map (Value.int .i64))
  oy : W.ownsRow w.heap.size 3 1 yv Y.length (Y.map (Value.int .i64))
  ne : ∀ g, pv.ownBlock = some g → yv.ownBlock ≠ some g
theorem SR.next {w W V : World} {pv yv : Value} {X Y : List Int} (h : SR w pv yv X Y W) (k : Below W.heap.size W V) : SR w pv yv X Y V :=
  ⟨h.b.trans (k.mono h.b.size), own_below' h.ox k, own_below' h.oy k, h.ne⟩
theorem SR.alloc {w W : World} {pv yv : Value} {X Y : List Int} (h : SR w pv yv X Y W) (o : Obj) : SR w pv yv X Y (W.alloc o) := h.next ((Below.refl _ W).alloc (Nat.le_refl _) o)
theorem SR.swap {w W : World} {pv yv : Value} {X Y : List Int} (h : SR w pv yv X Y W) : SR w yv pv Y X W := ⟨h.b, h.oy, h.ox, fun g hk hc => h.ne g hc hk⟩
theorem SR.app {w V w9 : World} {pv yv : Value} {X Y : List Int} (h : SR w pv yv X Y V) (z : Int) {g cap H : Nat} (hH : V.heap.size = H)
    (h1 : w9.ownsRow w.heap.size 3 1 (.slice (some ⟨g, 0, none⟩) (X.length + 1) cap) (X.length + 1) (X.map (Value.int .i64) ++ [.int .i64 z])) (h2 : V.grownBy w9 pv.ownBlock) (h3 : pv.ownBlock = some g ∨ g = H) :
    SR w (.slice (some ⟨g, 0, none⟩) (X.length + 1) cap) yv (X ++ [z]) Y w9 := by
  refine ⟨h.b.grown h2 h.b.size (fun k hk => (h.ox.lt k hk).1), by rw [List.length_append, List.map_append]; exact h1, h.oy.kept h2 ?_, fun k hk => ?_⟩
  · cases hb : yv.ownBlock with
    | none => exact .inl rfl
    | some k => exact .inr fun e => h.ne k e.symm hb
  · have hk : g = k := by simpa [Value.ownBlock] using hk
    subst hk
    rcases h3 with h3 | h3
    · exact h.ne g h3
    · intro e; have := (h.oy.lt g e).2; omega
theorem take_fst (l : List (Int × Int)) (k : Nat) (s : Int × Int) (h : l[k]? = some s) : (l.take (k+1)).map Prod.fst = (l.take k).map Prod.fst ++ [s.1] ∧ (l.take (k+1)).map Prod.snd = (l.take k).map Prod.snd ++ [s.2] := by
  rw [List.take_add_one, h, List.map_append, List.map_append]; exact ⟨rfl, rfl⟩
set_option maxRecDepth 100000 in
set_option maxHeartbeats 4000000 in
theorem split_any (w : World) (v : Value) (l : List (Int × Int)) (hV : ShL w v l) :
    Calls Try.prog 27 #[v] w fun e w' => ∃ x y, e = .returned (.tuple #[x, y]) ∧ SR w x y (l.map Prod.fst) (l.map Prod.snd) w' := by
  obtain ⟨i0, hi, hz0, hz1, hz2⟩ := info_parts infoI
  obtain ⟨⟨p, c, rfl, hc⟩, hr, hln⟩ := hV
  have HI := Lib.hid (And.intro hc hr); clear hc hr
  obtain ⟨N, hN⟩ : ∃ N, l.length = N := ⟨_, rfl⟩
  rw [hN] at hln
  rw [hN]
  have HN := Lib.hid hN; clear hN
  go_enter Try.func27, Try.ntmps27
  go_wp2_with fail
  go_loopw [4, 5, 6] (fun a d i wr => ∃ (k : Nat), k ≤ N ∧ i = .int .i64 (k : Int) ∧ Hid (SR w a d ((l.take k).map Prod.fst) ((l.take k).map Prod.snd) wr)) (fun _ _ i _ => N - (match i with | .int _ i => i.toNat | _ => 0))
  case atStart => exact ⟨0, Nat.zero_le _, rfl, Lib.hid ⟨Below.refl _ _, World.ownsRow_nil _ _ _ _, World.ownsRow_nil _ _ _ _, fun g h => by cases h⟩⟩
  case round =>
    obtain ⟨k, hk, rfl, hQ⟩ := hrel
    by_cases hlt : k < N
    · obtain ⟨⟨x, y⟩, hx⟩ : ∃ s, l[k]? = some s := ⟨l[k]'(by rw [HN.out]; exact hlt), List.getElem?_eq_getElem _⟩
      obtain ⟨b, o, hp, hcx, hcy⟩ := HI.out.1 k _ hx
      subst hp
      have hlx : ((l.take k).map Prod.fst).length = k := by rw [List.length_map, List.length_take, HN.out]; omega
      have hly : ((l.take k).map Prod.snd).length = k := by rw [List.length_map, List.length_take, HN.out]; omega
      have HT := Lib.hid (And.intro (take_fst l k _ hx) (And.intro hlx hly))
      have c0 := (hQ.out.b.cell (p := ⟨b, o + k * 2, none⟩) (World.block_lt_of_cell? _ _ hcx)).trans hcx
      have HCY := Lib.hid hcy
      dsimp only at c0
      have hA := Lib.hid (show k + 1 ≤ maxLen ∧ (k + 1) * 8 ≤ 140737488355328 from ⟨by unfold maxLen; omega, by omega⟩)
      obtain ⟨X, hX⟩ : ∃ X, (l.take k).map Prod.fst = X := ⟨_, rfl⟩
      obtain ⟨Y, hY⟩ : ∃ Y, (l.take k).map Prod.snd = Y := ⟨_, rfl⟩
      rw [hX] at hQ HT hlx
      rw [hY] at hQ HT hly
      subst hlx
      clear hx hcx hcy hX hY
      have HLY := Lib.hid hly
      clear hly
      go_upto_region 7 with (at_builtin; go_must (refine wpList_append_lies _ rfl _ _ 38 rfl w.heap.size 3 i0 (.int .i64 0) 1 8 Try.underlying38 hi hz0 hz1 hz2 rfl (by decide) _ X.length (X.map (Value.int .i64)) rfl (hQ.out.ox.alloc _) ⟨wr.heap.size, 0, none⟩ 1 1 [.int .i64 x] rfl rfl (World.news_of_block (heap_alloc_new _ _)) (by simp [Value.oneCell']) Nat.zero_lt_one hA.out.1 hA.out.2 (by rw [World.size_alloc]; exact Nat.le_succ_of_le hQ.out.b.size) _ rfl ?_); intro g1 c1 w1 hown1 hgrow1 hat1 hlt1)
      have hS1 := (hQ.out.alloc (.cells #[.int .i64 x] 3)).app x rfl hown1 hgrow1 hat1
      have HS1 := Lib.hid hS1
      have c1 := (hS1.b.cell (p := ⟨b, o + X.length * 2 + 1, none⟩) (World.block_lt_of_cell? _ _ HCY.out)).trans HCY.out
      dsimp only at c1
      clear hown1 hgrow1 hat1 hlt1 hS1 c0 hQ
      go_wp2_with (at_builtin; go_must (refine wpList_append_lies _ rfl _ _ 38 rfl w.heap.size 3 i0 (.int .i64 0) 1 8 Try.underlying38 hi hz0 hz1 hz2 rfl (by decide) _ Y.length (Y.map (Value.int .i64)) rfl (HS1.out.oy.alloc _) ⟨w1.heap.size, 0, none⟩ 1 1 [.int .i64 y] rfl rfl (World.news_of_block (heap_alloc_new _ _)) (by simp [Value.oneCell']) Nat.zero_lt_one (by rw [HLY.out]; exact hA.out.1) (by rw [HLY.out]; exact hA.out.2) (by rw [World.size_alloc]; exact Nat.le_succ_of_le HS1.out.b.size) _ rfl ?_); intro g2 c2 w2 hown2 hgrow2 hat2 hlt2)
      have hS2 := ((HS1.out.alloc (.cells #[.int .i64 y] 3)).swap.app y rfl hown2 hgrow2 hat2).swap
      have K9 := Lib.hid (show SR w _ _ ((l.take (X.length+1)).map Prod.fst) ((l.take (X.length+1)).map Prod.snd) w2 from by rw [HT.out.1.1, HT.out.1.2]; exact hS2)
      clear hown2 hgrow2 hat2 hlt2 hS2 HS1
      try go_wp2
      exact ⟨⟨X.length + 1, by omega, by go_num, K9⟩, by simp; omega⟩
    · obtain rfl : k = N := by omega
      have hE : l.take k = l := List.take_of_length_le (by rw [HN.out]; exact Nat.le_refl _)
      rw [hE] at hQ
      go_wp2
      go_ret2
      exact ⟨_, _, rfl, hQ.out⟩
end Go.Proofs.Ytihplnomhfpajaa.W8
