/-
  The walk of the reference's Shares; partials of shares of a poll.
  What the laws' walks keep of a poll.
-/
import Derived.Test.YtbfplapjjeeceaaGreatDoorBPollM
namespace Go.Proofs.YtbfplapjjeeceaaGreatDoor.B9
open Go.RowKit GM SH G4 E6 D7P
open W8 hiding i64 jn pX pY
/-- the shares of points -/
def shs (CF : List Int) (n : Nat) : List (Int × Int) := (List.range n).map fun (k : Nat) => ((k : Int) + 1, D7.vl CF ((k : Int) + 1))
theorem shs_succ (CF : List Int) (n : Nat) : shs CF (n+1) = shs CF n ++ [((n : Int) + 1, D7.vl CF ((n : Int) + 1))] := by
  unfold shs; rw [List.range_succ, List.map_append]; rfl
theorem shs_len (CF : List Int) (n : Nat) : (shs CF n).length = n := by unfold shs; simp
theorem vl_ok (CF : List Int) (x : Int) : i64 (D7.vl CF x) := i64_of (D7.vl_rng CF x) (by decide)
theorem shs_rng (CF : List Int) (n : Nat) (hn : n ≤ 1000) : ∀ s ∈ shs CF n, i64 s.1 ∧ i64 s.2 := fun s hs => by
  obtain ⟨k, hk, rfl⟩ := List.mem_map.1 hs
  have := List.mem_range.1 hk
  exact ⟨⟨by show _ ≤ (k : Int) + 1; omega, by show (k : Int) + 1 ≤ _; omega⟩, vl_ok _ _⟩
theorem CK.grown {w u V : World} {L : List (Addr × Value)} (h : CK w L [] u) {row : Option Nat} (hg : u.grownBy V row) (B : Nat) (hB : w.heap.size ≤ B) (hr : ∀ k, row = some k → B ≤ k) (hL : ∀ p ∈ L, p.1.block < B) : CK w L [] V :=
  ⟨h.b.grown hg h.b.size (fun k e => Nat.le_trans hB (hr k e)), fun p hp => by
    rw [World.cell?_of_block (hg.block p.1.block (World.block_lt_of_cell? _ _ (h.c p hp)) (fun e => by have := hr _ e.symm; have := hL p hp; omega))]
    exact h.c p hp, fun p hp => by cases hp⟩
set_option maxRecDepth 100000 in
set_option maxHeartbeats 4000000 in
theorem shares_core (w : World) (p q : Option Addr) (n c m e : Nat) (pc : Option Addr) (nc cc : Nat) (CF : List Int) (NT : Nat) (hNT : NT ≤ 60)
    (TO : Hid (∀ W, Below w.heap.size w W → Calls Tryz.prog 48 #[.agg #[.slice p n c, .slice q m e]] W fun e w' => e = .returned (.int .i64 (NT : Int)) ∧ Below W.heap.size W w'))
    (VA : Hid (∀ W x, Below w.heap.size w W → i64 x → Calls Tryz.prog 22 #[.slice pc nc cc, .int .i64 x] W fun e w' => e = .returned (.int .i64 (D7.vl CF x)) ∧ Below W.heap.size W w')) :
    Calls Tryz.prog 20 #[.slice pc nc cc, .agg #[.slice p n c, .slice q m e]] w fun e w' => (∃ sv, e = .returned sv ∧ ShL w' sv (shs CF NT)) ∧ Below w.heap.size w w' := by
  obtain ⟨i0, hi, hz0, hz1, hz2⟩ := info_parts infoSh
  obtain ⟨W, hW⟩ : ∃ W, w.alloc (.cells #[.slice p n c, .slice q m e] 41) = W := ⟨_, rfl⟩
  have K0 : CK w [(⟨w.heap.size, 0, none⟩, .slice p n c), (⟨w.heap.size, 1, none⟩, .slice q m e)] [] W := by
    have := (CK.start w).cells #[.slice p n c, .slice q m e] 41 _ rfl
    rw [hW] at this
    exact this.sub (by simp) (by simp)
  have HK := Lib.hid K0; clear K0
  go_enter Tryz.func20, Tryz.ntmps20
  go_upto_region 1 with fail
  clear hW
  go_wp2_with fail
  go_loopw [5, 6] (fun a i wr => ∃ k : Nat, k ≤ NT ∧ i = .int .i64 ((k : Int) + 1) ∧ Hid (wr.ownsRow (w.heap.size + 1) 23 2 a k (fl2' (shs CF k)) ∧ CK w [(⟨w.heap.size, 0, none⟩, .slice p n c), (⟨w.heap.size, 1, none⟩, .slice q m e)] [] wr)) (fun _ i _ => NT + 1 - (match i with | .int _ i => i.toNat | _ => 0))
  case atStart => exact ⟨0, Nat.zero_le _, by go_num, Lib.hid ⟨World.ownsRow_nil _ _ _ _, HK.out⟩⟩
  case round =>
    obtain ⟨k, hk, rfl, HQ⟩ := hrel
    have c0 := HQ.out.2.get ⟨w.heap.size, 0, none⟩ (.slice p n c) (by simp)
    have c1 := HQ.out.2.get ⟨w.heap.size, 1, none⟩ (.slice q m e) (by simp)
    have hki : (k : Int) + 1 ≤ 61 := by omega
    go_wp2_with fail
    refine (TO.out _ HQ.out.2.b).mono ?_
    rintro e1 w1 ⟨rfl, b1⟩
    have HQ1 := Lib.hid (And.intro (own_below' HQ.out.1 b1) (HQ.out.2.next b1))
    clear b1 HQ c0 c1
    by_cases hlt : k < NT
    · have h1 : (k : Int) + 1 ≤ (NT : Int) := by omega
      have hx : i64 ((k : Int) + 1) := ⟨by omega, by omega⟩
      have VA1 := Lib.hid fun W b => VA.out W ((k : Int) + 1) b hx
      have HX := Lib.hid (shs_succ CF k)
      obtain ⟨v9, hv9⟩ : ∃ v, D7.vl CF ((k : Int) + 1) = v := ⟨_, rfl⟩
      rw [hv9] at VA1 HX
      have hA := Lib.hid (show k + 1 ≤ maxLen ∧ (k + 1) * 16 ≤ 140737488355328 from ⟨by unfold maxLen; omega, by omega⟩)
      clear hv9 hx
      go_wp2_with fail
      refine (VA1.out _ HQ1.out.2.b).mono ?_
      rintro e2 w2 ⟨rfl, b2⟩
      have HQ2 := Lib.hid (And.intro (own_below' HQ1.out.1 b2) (HQ1.out.2.next b2))
      clear b2 HQ1
      go_wp2_with (at_builtin; go_must (refine wpList_append_lies _ rfl _ _ 49 rfl (w.heap.size + 1) 23 i0 (.agg #[.int .i64 0, .int .i64 0]) 2 16 Tryz.underlying49 hi hz0 hz1 hz2 rfl (by decide) _ k (fl2' (shs CF k)) rfl (HQ2.out.1.alloc _) ⟨w2.heap.size, 0, none⟩ 1 1 [.int .i64 ((k : Int) + 1), .int .i64 v9] rfl rfl (World.news_of_block (heap_alloc_new _ _)) (by simp [Value.oneCell']) Nat.zero_lt_one hA.out.1 hA.out.2 (by rw [World.size_alloc]; exact Nat.succ_le_succ HQ2.out.2.b.size) _ rfl ?_); intro g9 c9 w9 hown9 hgrow9 hat9 hlt9)
      have HC9 := HQ2.out.2.next ((Below.refl _ w2).alloc (Nat.le_refl _) (.cells #[.int .i64 ((k : Int) + 1), .int .i64 v9] 23))
      have K9 := Lib.hid (show w9.ownsRow (w.heap.size + 1) 23 2 (.slice (some ⟨g9, 0, none⟩) (k + 1) c9) (k + 1) (fl2' (shs CF (k+1))) ∧ CK w [(⟨w.heap.size, 0, none⟩, .slice p n c), (⟨w.heap.size, 1, none⟩, .slice q m e)] [] w9 from ⟨by rw [HX.out, fl2_app]; exact hown9, CK.grown HC9 hgrow9 (w.heap.size + 1) (Nat.le_succ _) (fun r hr => (HQ2.out.1.lt r hr).1) (by intro x hx; simp only [List.mem_cons, List.not_mem_nil, or_false] at hx; rcases hx with rfl | rfl <;> exact Nat.lt_succ_self _)⟩)
      clear hown9 hgrow9 hat9 hlt9 HC9 HQ2
      try go_wp2
      exact ⟨⟨k + 1, by omega, by go_num, K9⟩, by simp; omega⟩
    · obtain rfl : k = NT := by omega
      have h1 : ¬ ((k : Int) + 1 ≤ (k : Int)) := by omega
      have HS := Lib.hid (own_ShL (l := shs CF k) (by rw [shs_len]; exact HQ1.out.1) (shs_rng CF k (by omega)) (by rw [shs_len]; omega))
      go_wp2
      go_ret
      exact ⟨⟨_, rfl, HS.out⟩, HQ1.out.2.b⟩
theorem Shares_any (w : World) (p q : Option Addr) (n k m e : Nat) (C : List Int) (L : List (List Int)) (h : KY w p q n k m e C L) (hm : many L ≤ 60) (cv : Value) (CF : List Int) (hc : SLi w cv CF) :
    Calls Tryz.prog 20 #[cv, .agg #[.slice p n k, .slice q m e]] w fun e w' => (∃ sv, e = .returned sv ∧ ShL w' sv (shs CF (many L))) ∧ Below w.heap.size w w' := by
  obtain ⟨pc, cc, hcv, _⟩ := id hc.h
  subst hcv
  exact shares_core w p q n k m e pc CF.length cc CF (many L) hm (Lib.hid fun W b => total9 W p q n k m e L (h.l.next b) (by omega) h.m9)
    (Lib.hid fun W x b hx => D7.refValue_any W _ CF x (slD (hc.next b)) hc.r hx hc.n)
end Go.Proofs.YtbfplapjjeeceaaGreatDoor.B9
namespace Go.Proofs.YtbfplapjjeeceaaGreatDoor.B9
open Go.RowKit GM SH G4 E6 D7P
open W8 hiding i64 jn pX pY
theorem BL.next {W V : World} {v : Value} {l : List Int} (h : BL W v l) (k : Below W.heap.size W V) : BL V v l := by
  obtain ⟨p, c, e, h1, h2, h3⟩ := h
  exact ⟨p, c, e, h1, h2, fun j x hj => by
    obtain ⟨b, o, e, hc⟩ := h3 j x hj
    exact ⟨b, o, e, (k.cell (p := ⟨b, o + j, none⟩) (World.block_lt_of_cell? _ _ hc)).trans hc⟩⟩
theorem al_form {W : World} {v : Value} {l : List Int} (h : D7.AL W v l) : ∃ (p : Option Addr) (c : Nat), v = .slice p l.length c ∧ l.length ≤ maxLen ∧ (∀ x ∈ l, i64 x) ∧ ∀ (j : Nat) (x : Int), l[j]? = some x → ∃ b o, p = some ⟨b, o, none⟩ ∧ W.cell? ⟨b, o + j, none⟩ = some (.int .i64 x) := by
  obtain ⟨p, n, c, e, h1, h2, h3, h4, h5, _⟩ := h
  subst h1
  obtain ⟨p', c', e', hc⟩ := h4
  rw [List.length_map] at e'
  injection e' with a1 a2 a3
  subst a1 a3
  exact ⟨p, c, e, by omega, h5, fun j x hj => hc j (.int .i64 x) (by rw [List.getElem?_map, hj]; rfl)⟩
/-- what the laws' walks keep of a poll: the keys' block, the coefficients, the keys -/
structure LK (w : World) (gk : Nat) (pk pq pc : Option Addr) (ck cq cc nk nq nc : Nat) (CF C : List Int) (L : List (List Int)) (W : World) : Prop where
  b : Below w.heap.size w W
  c0 : W.cell? ⟨gk, 0, none⟩ = some (.slice pk nk ck)
  c1 : W.cell? ⟨gk, 1, none⟩ = some (.slice pq nq cq)
  y : KY W pk pq nk ck nq cq C L
  s : SLi W (.slice pc nc cc) CF
theorem LK.next {w W V : World} {gk : Nat} {pk pq pc : Option Addr} {ck cq cc nk nq nc : Nat} {CF C : List Int} {L : List (List Int)} (h : LK w gk pk pq pc ck cq cc nk nq nc CF C L W) (k : Below W.heap.size W V) : LK w gk pk pq pc ck cq cc nk nq nc CF C L V :=
  ⟨h.b.trans (k.mono h.b.size), (k.cell (p := ⟨gk, 0, none⟩) (World.block_lt_of_cell? _ _ h.c0)).trans h.c0, (k.cell (p := ⟨gk, 1, none⟩) (World.block_lt_of_cell? _ _ h.c1)).trans h.c1, h.y.next k, h.s.next k⟩
theorem lk_start {w W : World} {pk pq pc : Option Addr} {ck cq cc nk nq nc : Nat} {CF C : List Int} {L : List (List Int)} (b : Below w.heap.size w W) (hs : SLi W (.slice pc nc cc) CF) (hy : KY W pk pq nk ck nq cq C L) :
    LK w W.heap.size pk pq pc ck cq cc nk nq nc CF C L (W.alloc (.cells #[.slice pk nk ck, .slice pq nq cq] 41)) := by
  have k := (Below.refl W.heap.size W).alloc (Nat.le_refl _) (.cells #[.slice pk nk ck, .slice pq nq cq] 41)
  exact ⟨b.trans (k.mono b.size), by rw [World.cell?_alloc_at _ _ _ _ rfl]; rfl, by rw [World.cell?_alloc_at _ _ _ _ rfl]; rfl, hy.next k, hs.next k⟩
end Go.Proofs.YtbfplapjjeeceaaGreatDoor.B9
