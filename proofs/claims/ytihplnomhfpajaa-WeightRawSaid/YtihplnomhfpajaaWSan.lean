/-
  Members by weights, as the laws make them; the law's sanity: the examples of the chapter.
-/
import Derived.Test.YtihplnomhfpajaaWSame
namespace Go.Proofs.Ytihplnomhfpajaa.W8
open Go.RowKit GM G4 D7P Go.Maps
def mc (s : Mb) : List Value := [.int .i64 s.1, .int .i64 s.2.1, .int .i64 s.2.2]
def flat : List Mb → List Value
  | [] => []
  | s :: l => mc s ++ flat l
theorem flat_append (a b : List Mb) : flat (a ++ b) = flat a ++ flat b := by
  induction a with
  | nil => rfl
  | cons s l ih => show mc s ++ flat (l ++ b) = mc s ++ flat l ++ flat b; rw [ih, List.append_assoc]
theorem flat_len (l : List Mb) : (flat l).length = l.length * 3 := by
  induction l with
  | nil => rfl
  | cons s l ih => show (mc s ++ flat l).length = (l.length + 1) * 3; rw [List.length_append, ih]; show 3 + _ = _; omega
theorem flat_get : ∀ (l : List Mb) (j : Nat) (s : Mb), l[j]? = some s → (flat l)[j * 3]? = some (.int .i64 s.1) ∧ (flat l)[j * 3 + 1]? = some (.int .i64 s.2.1) ∧ (flat l)[j * 3 + 2]? = some (.int .i64 s.2.2)
  | [], _, _, h => by simp at h
  | t :: l, 0, s, h => by
    have : t = s := by simpa using h
    subst this
    exact ⟨rfl, rfl, rfl⟩
  | t :: l, j+1, s, h => by
    have ih := flat_get l j s (by simpa using h)
    have e : ∀ i, (flat (t :: l))[(j + 1) * 3 + i]? = (flat l)[j * 3 + i]? := fun i => by
      show (mc t ++ flat l)[(j + 1) * 3 + i]? = _
      rw [List.getElem?_append_right (by show 3 ≤ _; omega)]
      congr 1
      show _ - 3 = _
      omega
    exact ⟨(e 0).trans ih.1, (e 1).trans ih.2.1, (e 2).trans ih.2.2⟩
theorem own_MbL {w : World} {base : Nat} {v : Value} {l : List Mb} (h : w.ownsRow base 27 3 v l.length (flat l)) (hr : ∀ s ∈ l, i64 s.1 ∧ i64 s.2.1 ∧ i64 s.2.2) (hn : l.length ≤ 1000000000) : MbL w v l := by
  refine ⟨?_, hr, hn⟩
  rcases h.2 with ⟨rfl, h0⟩ | ⟨g, cap, cur, rfl, h2, h3, h4, h5, h6, h7⟩
  · have : l = [] := List.length_eq_zero_iff.1 h0
    subst this
    exact ⟨none, 0, rfl, fun j y hj => by simp at hj⟩
  · have rd : ∀ i u, (flat l)[i]? = some u → w.cell? ⟨g, 0 + i, none⟩ = some u := fun i u hi => by
      rw [Nat.zero_add, cell_of_row w g i _ _ _ h3, ← Array.getElem?_toList]
      rw [← h7] at hi
      have hlt := (List.getElem?_eq_some_iff.1 hi).1
      rw [List.getElem?_take_of_lt (by rw [List.length_take] at hlt; omega)] at hi
      exact hi
    refine ⟨_, cap, rfl, fun j s hj => ?_⟩
    obtain ⟨k1, k2, k3⟩ := flat_get l j s hj
    exact ⟨g, 0, rfl, rd _ _ k1, by rw [Nat.add_assoc]; exact rd _ _ k2, by rw [Nat.add_assoc]; exact rd _ _ k3⟩
theorem infoM : (Try.prog.info? 27).map (fun i => (i.zero, i.size, i.bytes)) = some (some (.agg #[.int .i64 0, .int .i64 0, .int .i64 0]), 3, 24) := by kernel_rfl
def mbs : Nat → List Int → List Mb
  | _, [] => []
  | k, x :: l => (1 + (k : Int), x, 0) :: mbs (k + 1) l
theorem mbs_len : ∀ (l : List Int) (k : Nat), (mbs k l).length = l.length
  | [], _ => rfl
  | x :: l, k => by show (mbs (k+1) l).length + 1 = l.length + 1; rw [mbs_len l]
theorem mbs_append : ∀ (a b : List Int) (k : Nat), mbs k (a ++ b) = mbs k a ++ mbs (k + a.length) b
  | [], b, k => rfl
  | x :: a, b, k => by
    show (1 + (k : Int), x, 0) :: mbs (k+1) (a ++ b) = (1 + (k : Int), x, 0) :: (mbs (k+1) a ++ mbs (k + (a.length + 1)) b)
    rw [mbs_append a b, show k + 1 + a.length = k + (a.length + 1) by omega]
theorem mbs_snoc (l : List Int) (k : Nat) (x : Int) (h : l[k]? = some x) : mbs 0 (l.take (k+1)) = mbs 0 (l.take k) ++ [(1 + (k : Int), x, 0)] := by
  have hk := (List.getElem?_eq_some_iff.1 h).1
  rw [List.take_add_one, h, mbs_append, List.length_take, Nat.min_eq_left (by omega), Nat.zero_add]; rfl
theorem mbs_rng : ∀ (l : List Int) (k : Nat), (∀ x ∈ l, i64 x) → k + l.length ≤ 1000000000 → ∀ s ∈ mbs k l, i64 s.1 ∧ i64 s.2.1 ∧ i64 s.2.2
  | [], _, _, _, s, h => by simp [mbs] at h
  | x :: l, k, hr, hl, s, h => by
    rcases List.mem_cons.1 h with rfl | h
    · have : k + (l.length + 1) ≤ 1000000000 := hl
      exact ⟨⟨by show _ ≤ 1 + (k : Int); omega, by show 1 + (k : Int) ≤ _; omega⟩, hr x (by simp), by show _ ≤ (0 : Int); decide, by show (0 : Int) ≤ _; decide⟩
    · exact mbs_rng l (k+1) (fun y hy => hr y (by simp [hy])) (by have : k + (l.length + 1) ≤ 1000000000 := hl; omega) s h
set_option maxRecDepth 100000 in
set_option maxHeartbeats 2000000 in
theorem weights_any (w : World) (v : Value) (l : List Int) (hV : SLi w v l) :
    Calls Try.prog 18 #[v] w fun e w' => ∃ u, e = .returned u ∧ MbL w' u (mbs 0 l) ∧ Below w.heap.size w w' := by
  obtain ⟨i0, hi, hz0, hz1, hz2⟩ := info_parts infoM
  obtain ⟨⟨p, c, rfl, hc⟩, hr, hln⟩ := hV
  have HI := Lib.hid (And.intro hc hr); clear hc hr
  obtain ⟨N, hN⟩ : ∃ N, l.length = N := ⟨_, rfl⟩
  rw [hN] at hln
  rw [hN]
  have HN := Lib.hid hN; clear hN
  go_enter Try.func18, Try.ntmps18
  go_wp2_with fail
  go_loopw [3, 4] (fun a i wr => ∃ (k : Nat), k ≤ N ∧ i = .int .i64 (k : Int) ∧ Hid (wr.ownsRow w.heap.size 27 3 a k (flat (mbs 0 (l.take k))) ∧ Below w.heap.size w wr)) (fun _ i _ => N - (match i with | .int _ i => i.toNat | _ => 0))
  case atStart => exact ⟨0, Nat.zero_le _, rfl, Lib.hid ⟨World.ownsRow_nil _ _ _ _, Below.refl _ _⟩⟩
  case round =>
    obtain ⟨k, hk, rfl, hQ⟩ := hrel
    by_cases hlt : k < N
    · obtain ⟨x, hx⟩ : ∃ x, l[k]? = some x := ⟨l[k]'(by rw [HN.out]; exact hlt), List.getElem?_eq_getElem _⟩
      obtain ⟨b, o, hp, hcx⟩ := HI.out.1 k x hx
      subst hp
      have c0 := (hQ.out.2.cell (p := ⟨b, o + k, none⟩) (World.block_lt_of_cell? _ _ hcx)).trans hcx
      have HX := Lib.hid (mbs_snoc l k x hx)
      have hA := Lib.hid (show k + 1 ≤ maxLen ∧ (k + 1) * 24 ≤ 140737488355328 from ⟨by unfold maxLen; omega, by omega⟩)
      clear hx hcx
      go_wp2_with (at_builtin; go_must (refine wpList_append_lies _ rfl _ _ 23 rfl w.heap.size 27 i0 (.agg #[.int .i64 0, .int .i64 0, .int .i64 0]) 3 24 Try.underlying23 hi hz0 hz1 hz2 rfl (by decide) _ k (flat (mbs 0 (l.take k))) rfl (hQ.out.1.alloc _) ⟨wr.heap.size, 0, none⟩ 1 1 (mc (1 + (k : Int), x, 0)) rfl rfl (World.news_of_block (heap_alloc_new _ _)) (by simp [mc, Value.oneCell']) Nat.zero_lt_one hA.out.1 hA.out.2 (by rw [World.size_alloc]; exact Nat.le_succ_of_le hQ.out.2.size) _ rfl ?_); intro g9 c9 w9 hown9 hgrow9 hat9 hlt9)
      have K9 := Lib.hid (show w9.ownsRow w.heap.size 27 3 (.slice (some ⟨g9, 0, none⟩) (k + 1) c9) (k+1) (flat (mbs 0 (l.take (k+1)))) ∧ Below w.heap.size w w9 from ⟨by rw [HX.out, flat_append]; exact hown9, (hQ.out.2.alloc hQ.out.2.size _).grown hgrow9 (by rw [World.size_alloc]; exact Nat.le_succ_of_le hQ.out.2.size) (fun r hr => (hQ.out.1.lt r hr).1)⟩)
      clear hown9 hgrow9 hat9 hlt9
      try go_wp2
      exact ⟨⟨k + 1, by omega, by go_num, K9⟩, by simp; omega⟩
    · obtain rfl : k = N := by omega
      have hE : l.take k = l := List.take_of_length_le (by rw [HN.out]; exact Nat.le_refl _)
      rw [hE] at hQ
      have HQ := Lib.hid (show MbL wr _ (mbs 0 l) from own_MbL (base := w.heap.size) (by rw [mbs_len, HN.out]; exact hQ.out.1) (mbs_rng l 0 HI.out.2 (by rw [HN.out]; omega)) (by rw [mbs_len, HN.out]; omega))
      go_wp2
      go_ret
      exact ⟨_, rfl, HQ.out, hQ.out.2⟩
/-- the numbers of the examples -/
theorem gpk (b e r : Nat) (he : e < 2^64) (h : NM.pw 2305843009213691579 64 b e = r) : gp (b : Int) (e : Int) 2305843009213691579 = (r : Int) := by
  have := gp_nat b e 2305843009213691579 (by decide) he
  rw [h] at this
  exact this
theorem p7 : gp 4 7 2305843009213691579 = 16384 := gpk 4 7 16384 (by decide) (by decide +kernel)
theorem p9 : gp 4 9 2305843009213691579 = 262144 := gpk 4 9 262144 (by decide) (by decide +kernel)
theorem p5 : gp 4 5 2305843009213691579 = 1024 := gpk 4 5 1024 (by decide) (by decide +kernel)
theorem m7 : mem 16384 = true := by unfold mem; rw [show gp 16384 1152921504606845789 2305843009213691579 = 1 from gpk 16384 1152921504606845789 1 (by decide) (by decide +kernel)]; decide
theorem m9 : mem 262144 = true := by unfold mem; rw [show gp 262144 1152921504606845789 2305843009213691579 = 1 from gpk 262144 1152921504606845789 1 (by decide) (by decide +kernel)]; decide
theorem iv1 : iv 1 = 1 := iv_eq 1 1 (.inl ⟨rfl, by decide, by decide, by decide, by decide⟩)
theorem ivm : iv (-1) = 1152921504606845788 := iv_eq (-1) 1152921504606845788 (.inl ⟨rfl, by decide, by decide, by decide, by decide⟩)
theorem f1 : fx [1, 2] 1 = 2 := by
  show fst 1 (fst 1 1 1) 2 = 2
  unfold fst
  rw [if_pos rfl, if_neg (by decide), show (2 : Int) - 1 = 1 by decide, iv1]; decide
theorem f2 : fx [1, 2] 2 = 1152921504606845788 := by
  show fst 2 (fst 2 1 1) 2 = 1152921504606845788
  unfold fst
  rw [if_pos rfl, if_neg (by decide), show (1 : Int) - 2 = -1 by decide, ivm]; decide
theorem js12 : js [1, 2] 0 [(1, 7), (2, 9)] = 5 := by
  show ga (ga 0 (gm 7 (fx [1, 2] 1) 1152921504606845789) 1152921504606845789) (gm 9 (fx [1, 2] 2) 1152921504606845789) 1152921504606845789 = 5
  rw [f1, f2]; decide
theorem jl12 : jl [1, 2] 1 [(1, 16384), (2, 262144)] = 1024 := by
  show gm (gm 1 (gp 16384 (fx [1, 2] 1) 2305843009213691579) 2305843009213691579) (gp 262144 (fx [1, 2] 2) 2305843009213691579) 2305843009213691579 = 1024
  rw [f1, f2, show gp 16384 2 2305843009213691579 = 268435456 from gpk 16384 2 268435456 (by decide) (by decide +kernel)]
  obtain ⟨r, hr⟩ : ∃ r, NM.pw 2305843009213691579 64 262144 1152921504606845788 = r := ⟨_, rfl⟩
  rw [show gp 262144 1152921504606845788 2305843009213691579 = (NM.pw 2305843009213691579 64 262144 1152921504606845788 : Nat) from gpk 262144 1152921504606845788 _ (by decide) rfl]
  decide +kernel
theorem c_share (s1 s2 : Int × Int) (h : cst rq [] s1 = [s1]) (h2 : cst rq [s1] s2 = [s1, s2]) : cnt rq [s1, s2] = [s1, s2] := by
  show cst rq (cst rq [] s1) s2 = _
  rw [h, h2]
theorem jn1 : jn 2 [(1, 7), (2, 9)] = 5 ∧ enough rq 2 [(1, 7), (2, 9)] = true := by
  have hc : cnt rq [(1, 7), (2, 9)] = [(1, 7), (2, 9)] := by decide
  have he : enough rq 2 [(1, 7), (2, 9)] = true := by unfold enough; rw [hc]; decide
  refine ⟨?_, he⟩
  unfold jn pX pY
  rw [he, hc]
  exact js12
theorem jn2 : jn 2 [(1, 7), (1, 9)] = 0 ∧ enough rq 2 [(1, 7), (1, 9)] = false := by
  have he : enough rq 2 [(1, 7), (1, 9)] = false := by decide
  exact ⟨by unfold jn; rw [he]; rfl, he⟩
theorem jn3 : jn 0 [(1, 7), (2, 9)] = 0 ∧ enough rq 0 [(1, 7), (2, 9)] = false := by
  have he : enough rq 0 [(1, 7), (2, 9)] = false := by decide
  exact ⟨by unfold jn; rw [he]; rfl, he⟩
theorem lf1 : lf 2 [(1, 16384), (2, 262144)] = 1024 ∧ enough mem 2 [(1, 16384), (2, 262144)] = true := by
  have hc : cnt mem [(1, 16384), (2, 262144)] = [(1, 16384), (2, 262144)] := by
    unfold cnt
    rw [List.foldl_cons, List.foldl_cons, List.foldl_nil, cst_yes mem [] (1, 16384) (by decide) (by decide) (by decide) m7, cst_yes mem _ (2, 262144) (by decide) (by decide) (by decide) m9]; rfl
  have he : enough mem 2 [(1, 16384), (2, 262144)] = true := by unfold enough; rw [hc]; decide
  refine ⟨?_, he⟩
  unfold lf pX pY
  rw [he, hc]
  exact jl12
open Classical in
theorem sh1 : sh [1, 2] [7, 9] = 5 ∧ shk [1, 2] [7, 9] = true := by
  have he : shk [1, 2] [7, 9] = true := by unfold shk; rw [decide_eq_true_eq]; exact ⟨by decide, rfl, ⟨by decide, by decide⟩⟩
  refine ⟨?_, he⟩
  unfold sh
  rw [he]
  exact js12
theorem rg1 : Rgt (mbs 0 [2, 1, 3]) := ⟨by decide, by decide, ⟨by decide, by decide⟩, by decide⟩
end Go.Proofs.Ytihplnomhfpajaa.W8
