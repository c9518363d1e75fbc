/-
  The walks of beacon.count, verifier, its function, and Verify.
  The walks of the verifying function and of beacon.Verify.
-/
import Derived.Test.YtbfplapjjeeceaaGreatDoorBEval
import Derived.Test.YtbfplapjjeeceaaGreatDoorBRight
namespace Go.Proofs.YtbfplapjjeeceaaGreatDoor.B9
open Go.RowKit GM SH G4 E6 D7P
open W8 hiding i64 jn
theorem slD {w : World} {p : Option Addr} {n c : Nat} {C : List Int} (h : SLi w (.slice p n c) C) : D7.SL w (.slice p n c) C := by
  obtain ⟨p', c', e, hc⟩ := h.h
  exact ⟨p', c', by rw [List.length_map]; exact e, fun j x hj => by
    rw [List.getElem?_map] at hj
    obtain ⟨y, hy, rfl⟩ := Option.map_eq_some_iff.1 hj
    exact hc j y hy⟩
theorem CK.old {w u : World} {L : List (Addr × Value)} {Z : List (Nat × Nat × TypeId)} (h : CK w L Z u) (a : Addr) (v : Value) (hc : w.cell? a = some v) : CK w ((a, v) :: L) Z u :=
  ⟨h.b, fun p hp => by
    rcases List.mem_cons.1 hp with rfl | hp
    · exact (h.b.cell (p := a) (World.block_lt_of_cell? _ _ hc)).trans hc
    · exact h.c p hp, h.z⟩
theorem CK.set {w u : World} {L : List (Addr × Value)} (h : CK w L [] u) (g j : Nat) (v : Value) (hg : w.heap.size ≤ g) (hL : ∀ p ∈ L, p.1.block ≠ g) : CK w L [] (u.setCell ⟨g, j, none⟩ v) :=
  ⟨h.b.setCell (p := ⟨g, j, none⟩) hg _, fun p hp => by
    rw [World.cell?_setCell_other _ _ _ _ (by intro e; have := hL p hp; first | exact this (by rw [← e]) | exact this (by rw [e]))]
    exact h.c p hp, fun p hp => by cases hp⟩
set_option maxRecDepth 100000 in
theorem count_any (w : World) (q : Option Addr) (m e : Nat) (L : List (List Int)) (hL : LLi w (.slice q m e) L) (hs : many L ≤ 1000000000) (hm9 : m ≤ 1000000000) :
    Calls Tryz.prog 85 #[.slice q m e] w fun e w' => e = .returned (.int .i64 (many L : Nat)) ∧ w' = w := by
  obtain ⟨hm, hrow⟩ := lli_row hL
  have HC := Lib.hid (And.intro hm (And.intro hrow hs)); clear hm hrow hs hL
  go_enter Tryz.func85, Tryz.ntmps85
  go_wp2_with fail
  go_loopw [3, 8] (fun a i wr => ∃ k A : Nat, k ≤ m ∧ a = .int .i64 (A : Int) ∧ i = .int .i64 (k : Int) ∧ wr = w ∧ Hid (A = many (L.take k))) (fun _ i _ => m - (match i with | .int _ i => i.toNat | _ => 0))
  case atStart => exact ⟨0, 0, Nat.zero_le _, rfl, rfl, rfl, Lib.hid (by simp [many])⟩
  case round =>
    obtain ⟨k, A, hk, rfl, rfl, rfl, HQ⟩ := hrel
    by_cases hlt : k < m
    · obtain ⟨l, hl⟩ : ∃ l, L[k]? = some l := ⟨L[k]'(by rw [← HC.out.1]; exact hlt), List.getElem?_eq_getElem _⟩
      obtain ⟨b, o, lp, lc, hq, hcu, hlx, hlr, hln⟩ := HC.out.2.1 k l hl
      subst hq
      have h1 := many_take L k l hl
      have h2 := many_le L (k+1)
      have h3 := HC.out.2.2
      have h4 : A + l.length ≤ 1000000000 := by have := HQ.out; omega
      have HA := Lib.hid (show A + l.length = many (L.take (k+1)) by rw [h1, HQ.out])
      clear h1 h2 h3 hl hlx hlr HQ
      generalize l.length = N at *
      go_wp2
      exact ⟨⟨k + 1, A + N, by omega, by go_num, by go_num, by first | rfl | trivial, HA⟩, by simp; omega⟩
    · obtain rfl : k = m := by omega
      have hE : A = many L := by rw [HQ.out, List.take_of_length_le (by rw [HC.out.1]; exact Nat.le_refl _)]
      subst hE
      go_wp2
      go_ret
      exact ⟨rfl, rfl⟩
set_option maxRecDepth 100000 in
theorem total9 (w : World) (p q : Option Addr) (n c m e : Nat) (L : List (List Int)) (hL : LLi w (.slice q m e) L) (hs : many L ≤ 1000000000) (hm9 : m ≤ 1000000000) :
    Calls Tryz.prog 48 #[.agg #[.slice p n c, .slice q m e]] w fun e w' => e = .returned (.int .i64 (many L : Nat)) ∧ Below w.heap.size w w' := by
  obtain ⟨hm, hrow⟩ := lli_row hL
  obtain ⟨W, hW⟩ : ∃ W, w.alloc (.cells #[.slice p n c, .slice q m e] 41) = W := ⟨_, rfl⟩
  have c1 : W.cell? ⟨w.heap.size, 1, none⟩ = some (.slice q m e) := by rw [← hW, World.cell?_alloc_at _ _ _ _ rfl]; rfl
  have hB : Below w.heap.size w W := by rw [← hW]; exact (Below.refl _ _).alloc (Nat.le_refl _) _
  have HC := Lib.hid (And.intro hm (And.intro hrow (And.intro hs hB))); clear hm hrow hs hL hB
  go_enter Tryz.func48, Tryz.ntmps48
  go_upto_region 1 with fail
  clear hW
  go_wp2_with fail
  go_loopw [3, 4] (fun a i wr => ∃ k A : Nat, k ≤ m ∧ a = .int .i64 (A : Int) ∧ i = .int .i64 (k : Int) ∧ wr = W ∧ Hid (A = many (L.take k))) (fun _ i _ => m - (match i with | .int _ i => i.toNat | _ => 0))
  case atStart => exact ⟨0, 0, Nat.zero_le _, rfl, rfl, rfl, Lib.hid (by simp [many])⟩
  case round =>
    obtain ⟨k, A, hk, rfl, rfl, rfl, HQ⟩ := hrel
    by_cases hlt : k < m
    · obtain ⟨l, hl⟩ : ∃ l, L[k]? = some l := ⟨L[k]'(by rw [← HC.out.1]; exact hlt), List.getElem?_eq_getElem _⟩
      obtain ⟨b, o, lp, lc, hq, hcu, hlx, hlr, hln⟩ := HC.out.2.1 k l hl
      subst hq
      have cu := (HC.out.2.2.2.cell (p := ⟨b, o + k, none⟩) (World.block_lt_of_cell? _ _ hcu)).trans hcu
      have h1 := many_take L k l hl
      have h2 := many_le L (k+1)
      have h3 := HC.out.2.2.1
      have h4 : A + l.length ≤ 1000000000 := by have := HQ.out; omega
      have HA := Lib.hid (show A + l.length = many (L.take (k+1)) by rw [h1, HQ.out])
      clear h1 h2 h3 hl hlx hlr HQ hcu
      generalize l.length = N at *
      go_wp2
      exact ⟨⟨k + 1, A + N, by omega, by go_num, by go_num, by first | rfl | trivial, HA⟩, by simp; omega⟩
    · obtain rfl : k = m := by omega
      have hE : A = many L := by rw [HQ.out, List.take_of_length_le (by rw [HC.out.1]; exact Nat.le_refl _)]
      subst hE
      go_wp2
      go_ret
      exact ⟨rfl, HC.out.2.2.2⟩
/-- what the verifying function holds -/
structure VC (W : World) (gn gk gb : Nat) (p : Option Addr) (n c : Nat) (N b : Int) : Prop where
  fn : W.cell? ⟨gn, 0, none⟩ = some (.int .i64 N)
  fk : W.cell? ⟨gk, 0, none⟩ = some (.slice p n c)
  fb : W.cell? ⟨gb, 0, none⟩ = some (.int .i64 b)
theorem VC.next {W V : World} {gn gk gb : Nat} {p : Option Addr} {n c : Nat} {N b : Int} (h : VC W gn gk gb p n c N b) (k : Below W.heap.size W V) : VC V gn gk gb p n c N b :=
  ⟨(k.cell (p := ⟨gn, 0, none⟩) (World.block_lt_of_cell? _ _ h.fn)).trans h.fn, (k.cell (p := ⟨gk, 0, none⟩) (World.block_lt_of_cell? _ _ h.fk)).trans h.fk, (k.cell (p := ⟨gb, 0, none⟩) (World.block_lt_of_cell? _ _ h.fb)).trans h.fb⟩
/-- the verifying function -/
abbrev vfn (gn gk gb : Nat) : Value := .func (.func 86) #[] #[.pointer (some ⟨gn, 0, none⟩), .pointer (some ⟨gk, 0, none⟩), .pointer (some ⟨gb, 0, none⟩)]
set_option maxRecDepth 100000 in
set_option maxHeartbeats 8000000 in
theorem verifier_core (w : World) (p q : Option Addr) (n c m e : Nat) (r b N : Int)
    (BS : Hid (∀ W, Below w.heap.size w W → Calls Tryz.prog 12 #[.int .i64 r] W fun e w' => e = .returned (.int .i64 b) ∧ Below W.heap.size W w'))
    (CT : Hid (∀ W, Below w.heap.size w W → Calls Tryz.prog 85 #[.slice q m e] W fun e w' => e = .returned (.int .i64 N) ∧ Below W.heap.size W w')) :
    Calls Tryz.prog 46 #[.agg #[.slice p n c, .slice q m e], .int .i64 r] w fun e w' => (∃ gn gk gb, e = .returned (vfn gn gk gb) ∧ VC w' gn gk gb p n c N b) ∧ Below w.heap.size w w' := by
  obtain ⟨W, hW⟩ : ∃ W, w.alloc (.cells #[.slice p n c, .slice q m e] 41) = W := ⟨_, rfl⟩
  have K0 : CK w [(⟨w.heap.size, 0, none⟩, .slice p n c), (⟨w.heap.size, 1, none⟩, .slice q m e)] [] W := by
    have := (CK.start w).cells #[.slice p n c, .slice q m e] 41 _ rfl
    rw [hW] at this
    exact this.sub (by simp) (by simp)
  go_enter Tryz.func46, Tryz.ntmps46
  go_upto_region 1 with fail
  clear hW
  have HK := Lib.hid K0; clear K0
  refine wp_region_held_drew (S := CK w [(⟨w.heap.size, 0, none⟩, .slice p n c), (⟨w.heap.size, 1, none⟩, .slice q m e)] []) (by kernel_rfl) HK.out.drew (fun hS => ?_)
  clear HK
  generalize W.drew = a0 at hS ⊢
  refine wpAnyH_take (i := 0) (v := ?vvp0) rfl (by kernel_rfl) (by kernel_rfl) (by kernel_rfl) (fun _ _ _ h => h) (Or.inl ⟨by rfl, ?yvp0⟩) hS ?rvp0
  case yvp0 => (intro w hS; go_simp; try with_reducible rfl)
  go_simp
  refine wpAnyH_take (i := 2) (v := ?vvp2) rfl (by kernel_rfl) (by kernel_rfl) (by kernel_rfl) (fun _ _ _ h => h) (Or.inl ⟨by rfl, ?yvp2⟩) hS ?rvp2
  case yvp2 => (intro w hS; go_simp; try with_reducible rfl)
  go_simp
  refine wpAnyH_take (i := 3) (v := .slice q m e) rfl (by kernel_rfl) (by kernel_rfl) (by kernel_rfl) (fun _ _ _ h => h) (Or.inl ⟨by rfl, ?yvp3⟩) hS ?rvp3
  case yvp3 => (intro w' hS; have cf := hS.get ⟨w.heap.size, 1, none⟩ (.slice q m e) (by simp); go_simp; try with_reducible rfl)
  go_simp
  refine wpAnyH_ready (rs := [1, 5, 6]) (by kernel_rfl) (by simp) ?_
  refine (AllReadyH.cons (o := { dst := some 8, op := .call { callee := .value (.func 12), args := #[.tmp 7], argTypes := #[3] }, type := 3, pos := "beacon.go:35", after := #[⟨0, .data⟩], guard := none }) rfl (fun K hK => ?_) (AllReadyH.cons (o := { dst := some 5, op := .alloc 3, type := 0, pos := "beacon.go:35", after := #[], guard := none }) rfl (fun K hK => ?_) (AllReadyH.cons (o := { dst := some 6, op := .alloc 3, type := 0, pos := "beacon.go:35", after := #[], guard := none }) rfl (fun K hK => ?_) AllReadyH.nil)))
  · go_simp
    go_at_call 12
    refine (BS.out _ hS.b).mono ?_
    rintro e a1 ⟨rfl, b⟩
    have hS2 := hS.next b
    clear b hS
    try go_simp
    refine hK.out _ _ hS2 (fun hS => ?_)
    clear hK K hS2
    refine wpAnyH_ready (rs := [4, 5, 6]) (by kernel_rfl) (by simp) ?_
    refine (AllReadyH.cons (o := { dst := some 11, op := .call { callee := .value (.func 85), args := #[.tmp 10], argTypes := #[39] }, type := 3, pos := "beacon.go:35", after := #[⟨3, .data⟩, ⟨1, .chain⟩], guard := none }) rfl (fun K hK => ?_) (AllReadyH.cons (o := { dst := some 5, op := .alloc 3, type := 0, pos := "beacon.go:35", after := #[], guard := none }) rfl (fun K hK => ?_) (AllReadyH.cons (o := { dst := some 6, op := .alloc 3, type := 0, pos := "beacon.go:35", after := #[], guard := none }) rfl (fun K hK => ?_) AllReadyH.nil)))
    · go_simp
      go_at_call 85
      refine (CT.out _ hS.b).mono ?_
      rintro e a2 ⟨rfl, b⟩
      have hS2 := hS.next b
      clear b hS
      try go_simp
      refine hK.out _ _ hS2 (fun hS => ?_)
      clear hK K hS2
      refine wpAnyH_ready (rs := [5, 6]) (by kernel_rfl) (by simp) ?_
      refine (AllReadyH.cons (o := { dst := some 5, op := .alloc 3, type := 0, pos := "beacon.go:35", after := #[], guard := none }) rfl (fun K hK => ?_) (AllReadyH.cons (o := { dst := some 6, op := .alloc 3, type := 0, pos := "beacon.go:35", after := #[], guard := none }) rfl (fun K hK => ?_) AllReadyH.nil))
      · go_simp
        have n5 := heap_alloc_new a2 (.cells #[.int .i64 0] 3)
        have l5 := hS.b.size
        have lb := World.block_lt_of_cell? _ _ (hS.get ⟨w.heap.size, 0, none⟩ (.slice p n c) (by simp))
        have hS2 := hS.next ((Below.refl _ a2).alloc (Nat.le_refl _) (.cells #[.int .i64 0] 3))
        clear hS
        refine hK.out _ _ hS2 (fun hS => ?_)
        clear hK K hS2
        obtain ⟨a3, hV⟩ : ∃ V, World.alloc a2 (.cells #[.int .i64 0] 3) = V := ⟨_, rfl⟩
        rw [hV] at hS n5 ⊢
        clear hV
        obtain ⟨g5, hg⟩ : ∃ g, a2.heap.size = g := ⟨_, rfl⟩
        rw [hg] at n5 l5 lb ⊢
        clear hg
        replace l5 := lb
        clear lb
        refine wpAnyH_ready (rs := [6]) (by kernel_rfl) (by simp) ?_
        refine (AllReadyH.cons (o := { dst := some 6, op := .alloc 3, type := 0, pos := "beacon.go:35", after := #[], guard := none }) rfl (fun K hK => ?_) AllReadyH.nil)
        go_simp
        have n6 := heap_alloc_new a3 (.cells #[.int .i64 0] 3)
        have l6 := hS.b.size
        have lb := World.block_lt_of_cell? _ _ (hS.get ⟨w.heap.size, 0, none⟩ (.slice p n c) (by simp))
        have hS2 := hS.next ((Below.refl _ a3).alloc (Nat.le_refl _) (.cells #[.int .i64 0] 3))
        have ne := (Array.getElem?_eq_some_iff.1 n5).1
        replace n5 := (heap_alloc_old _ (.cells #[.int .i64 0] 3) (Array.getElem?_eq_some_iff.1 n5).1).trans n5
        clear hS
        refine hK.out _ _ hS2 (fun hS => ?_)
        clear hK K hS2
        obtain ⟨a4, hV⟩ : ∃ V, World.alloc a3 (.cells #[.int .i64 0] 3) = V := ⟨_, rfl⟩
        rw [hV] at hS n6 n5 ⊢
        clear hV
        obtain ⟨g6, hg⟩ : ∃ g, a3.heap.size = g := ⟨_, rfl⟩
        rw [hg] at n6 l6 lb ne ⊢
        clear hg
        replace l6 := lb
        clear lb
        replace ne : g5 ≠ g6 := by omega
        have f5 := frozen_of_row _ _ 0 _ _ n5
        have c5 : a4.cell? ⟨g5, 0, none⟩ = some (.int .i64 0) := cell_of_row _ _ 0 _ _ _ n5
        have f6 := frozen_of_row _ _ 0 _ _ n6
        have c6 : a4.cell? ⟨g6, 0, none⟩ = some (.int .i64 0) := cell_of_row _ _ 0 _ _ _ n6
        have HZ := Lib.hid (And.intro hS (And.intro l5 (And.intro l6 ne)))
        clear n5 n6
        refine wpAnyH_ready (rs := [7]) (by kernel_rfl) (by simp) ?_
        refine AllReadyH.cons (o := { dst := none, op := .store 3 (.tmp 5) (.tmp 8), type := 0, pos := "beacon.go:35", after := #[⟨5, .data⟩, ⟨1, .data⟩, ⟨4, .chain⟩, ⟨0, .phase⟩, ⟨1, .phase⟩, { on := 2, ground := Ground.textOnly Departure.lateStores }, { on := 3, ground := Ground.textOnly Departure.lateStores }, { on := 4, ground := Ground.textOnly Departure.lateStoresUnsure }, ⟨5, .phase⟩, ⟨6, .phase⟩], guard := none }) rfl (fun K hK => ?_) AllReadyH.nil
        go_simp
        have hS2 := (HZ.out.1).set g5 0 (.int .i64 b) (by have := HZ.out.2.1; exact Nat.le_of_lt this) (by have := HZ.out.2.1; intro x hx; simp only [List.mem_cons, List.not_mem_nil, or_false] at hx; rcases hx with rfl | rfl <;> exact Nat.ne_of_lt this)
        have c6 := (World.cell?_setCell_other a4 ⟨g5, 0, none⟩ ⟨g6, 0, none⟩ (.int .i64 b) (by intro e; injection e with e1; have := HZ.out.2.2.2; first | exact this e1 | exact this e1.symm)).trans c6
        have f6 : (World.setCell a4 ⟨g5, 0, none⟩ (.int .i64 b)).frozen? ⟨g6, 0, none⟩ = false := by rw [World.frozen?_setCell]; exact f6
        have d5 := World.cell?_setCell_same a4 ⟨g5, 0, none⟩ (.int .i64 b) c5
        clear c5 f5 hS
        refine hK.out _ _ hS2 (fun hS => ?_)
        clear hK K hS2
        have HY := Lib.hid HZ.out.2; clear HZ
        generalize World.setCell a4 ⟨g5, 0, none⟩ (.int .i64 b) = z5 at *
        refine wpAnyH_ready (rs := [8]) (by kernel_rfl) (by simp) ?_
        refine AllReadyH.cons (o := { dst := none, op := .store 3 (.tmp 6) (.tmp 11), type := 0, pos := "beacon.go:35", after := #[⟨6, .data⟩, ⟨4, .data⟩, ⟨7, .chain⟩, ⟨0, .phase⟩, ⟨1, .phase⟩, ⟨2, .phase⟩, ⟨3, .phase⟩, ⟨4, .phase⟩, ⟨5, .phase⟩, ⟨6, .phase⟩, ⟨7, .phase⟩], guard := none }) rfl (fun K hK => ?_) AllReadyH.nil
        go_simp
        have hS2 := hS.set g6 0 (.int .i64 N) (by have := HY.out.2.1; exact Nat.le_of_lt this) (by have := HY.out.2.1; intro x hx; simp only [List.mem_cons, List.not_mem_nil, or_false] at hx; rcases hx with rfl | rfl <;> exact Nat.ne_of_lt this)
        have d5 := (World.cell?_setCell_other z5 ⟨g6, 0, none⟩ ⟨g5, 0, none⟩ (.int .i64 N) (by intro e; injection e with e1; have := HY.out.2.2; first | exact this e1 | exact this e1.symm)).trans d5
        have d6 := World.cell?_setCell_same z5 ⟨g6, 0, none⟩ (.int .i64 N) c6
        clear c6 f6 hS
        refine hK.out _ _ hS2 (fun hS => ?_)
        clear hK K hS2
        refine wpAnyH_done (by kernel_rfl) ?_ _
        go_wp2
        go_ret
        exact ⟨⟨g6, w.heap.size, g5, rfl, ⟨d6, hS.get ⟨w.heap.size, 0, none⟩ (.slice p n c) (by simp), d5⟩⟩, hS.b⟩
      · go_simp
        have n6 := heap_alloc_new a2 (.cells #[.int .i64 0] 3)
        have l6 := hS.b.size
        have lb := World.block_lt_of_cell? _ _ (hS.get ⟨w.heap.size, 0, none⟩ (.slice p n c) (by simp))
        have hS2 := hS.next ((Below.refl _ a2).alloc (Nat.le_refl _) (.cells #[.int .i64 0] 3))
        clear hS
        refine hK.out _ _ hS2 (fun hS => ?_)
        clear hK K hS2
        obtain ⟨a3, hV⟩ : ∃ V, World.alloc a2 (.cells #[.int .i64 0] 3) = V := ⟨_, rfl⟩
        rw [hV] at hS n6 ⊢
        clear hV
        obtain ⟨g6, hg⟩ : ∃ g, a2.heap.size = g := ⟨_, rfl⟩
        rw [hg] at n6 l6 lb ⊢
        clear hg
        replace l6 := lb
        clear lb
        refine wpAnyH_ready (rs := [5]) (by kernel_rfl) (by simp) ?_
        refine (AllReadyH.cons (o := { dst := some 5, op := .alloc 3, type := 0, pos := "beacon.go:35", after := #[], guard := none }) rfl (fun K hK => ?_) AllReadyH.nil)
        go_simp
        have n5 := heap_alloc_new a3 (.cells #[.int .i64 0] 3)
        have l5 := hS.b.size
        have lb := World.block_lt_of_cell? _ _ (hS.get ⟨w.heap.size, 0, none⟩ (.slice p n c) (by simp))
        have hS2 := hS.next ((Below.refl _ a3).alloc (Nat.le_refl _) (.cells #[.int .i64 0] 3))
        have ne := (Array.getElem?_eq_some_iff.1 n6).1
        replace n6 := (heap_alloc_old _ (.cells #[.int .i64 0] 3) (Array.getElem?_eq_some_iff.1 n6).1).trans n6
        clear hS
        refine hK.out _ _ hS2 (fun hS => ?_)
        clear hK K hS2
        obtain ⟨a4, hV⟩ : ∃ V, World.alloc a3 (.cells #[.int .i64 0] 3) = V := ⟨_, rfl⟩
        rw [hV] at hS n5 n6 ⊢
        clear hV
        obtain ⟨g5, hg⟩ : ∃ g, a3.heap.size = g := ⟨_, rfl⟩
        rw [hg] at n5 l5 lb ne ⊢
        clear hg
        replace l5 := lb
        clear lb
        replace ne : g5 ≠ g6 := by omega
        have f5 := frozen_of_row _ _ 0 _ _ n5
        have c5 : a4.cell? ⟨g5, 0, none⟩ = some (.int .i64 0) := cell_of_row _ _ 0 _ _ _ n5
        have f6 := frozen_of_row _ _ 0 _ _ n6
        have c6 : a4.cell? ⟨g6, 0, none⟩ = some (.int .i64 0) := cell_of_row _ _ 0 _ _ _ n6
        have HZ := Lib.hid (And.intro hS (And.intro l5 (And.intro l6 ne)))
        clear n5 n6
        refine wpAnyH_ready (rs := [7]) (by kernel_rfl) (by simp) ?_
        refine AllReadyH.cons (o := { dst := none, op := .store 3 (.tmp 5) (.tmp 8), type := 0, pos := "beacon.go:35", after := #[⟨5, .data⟩, ⟨1, .data⟩, ⟨4, .chain⟩, ⟨0, .phase⟩, ⟨1, .phase⟩, { on := 2, ground := Ground.textOnly Departure.lateStores }, { on := 3, ground := Ground.textOnly Departure.lateStores }, { on := 4, ground := Ground.textOnly Departure.lateStoresUnsure }, ⟨5, .phase⟩, ⟨6, .phase⟩], guard := none }) rfl (fun K hK => ?_) AllReadyH.nil
        go_simp
        have hS2 := (HZ.out.1).set g5 0 (.int .i64 b) (by have := HZ.out.2.1; exact Nat.le_of_lt this) (by have := HZ.out.2.1; intro x hx; simp only [List.mem_cons, List.not_mem_nil, or_false] at hx; rcases hx with rfl | rfl <;> exact Nat.ne_of_lt this)
        have c6 := (World.cell?_setCell_other a4 ⟨g5, 0, none⟩ ⟨g6, 0, none⟩ (.int .i64 b) (by intro e; injection e with e1; have := HZ.out.2.2.2; first | exact this e1 | exact this e1.symm)).trans c6
        have f6 : (World.setCell a4 ⟨g5, 0, none⟩ (.int .i64 b)).frozen? ⟨g6, 0, none⟩ = false := by rw [World.frozen?_setCell]; exact f6
        have d5 := World.cell?_setCell_same a4 ⟨g5, 0, none⟩ (.int .i64 b) c5
        clear c5 f5 hS
        refine hK.out _ _ hS2 (fun hS => ?_)
        clear hK K hS2
        have HY := Lib.hid HZ.out.2; clear HZ
        generalize World.setCell a4 ⟨g5, 0, none⟩ (.int .i64 b) = z5 at *
        refine wpAnyH_ready (rs := [8]) (by kernel_rfl) (by simp) ?_
        refine AllReadyH.cons (o := { dst := none, op := .store 3 (.tmp 6) (.tmp 11), type := 0, pos := "beacon.go:35", after := #[⟨6, .data⟩, ⟨4, .data⟩, ⟨7, .chain⟩, ⟨0, .phase⟩, ⟨1, .phase⟩, ⟨2, .phase⟩, ⟨3, .phase⟩, ⟨4, .phase⟩, ⟨5, .phase⟩, ⟨6, .phase⟩, ⟨7, .phase⟩], guard := none }) rfl (fun K hK => ?_) AllReadyH.nil
        go_simp
        have hS2 := hS.set g6 0 (.int .i64 N) (by have := HY.out.2.1; exact Nat.le_of_lt this) (by have := HY.out.2.1; intro x hx; simp only [List.mem_cons, List.not_mem_nil, or_false] at hx; rcases hx with rfl | rfl <;> exact Nat.ne_of_lt this)
        have d5 := (World.cell?_setCell_other z5 ⟨g6, 0, none⟩ ⟨g5, 0, none⟩ (.int .i64 N) (by intro e; injection e with e1; have := HY.out.2.2; first | exact this e1 | exact this e1.symm)).trans d5
        have d6 := World.cell?_setCell_same z5 ⟨g6, 0, none⟩ (.int .i64 N) c6
        clear c6 f6 hS
        refine hK.out _ _ hS2 (fun hS => ?_)
        clear hK K hS2
        refine wpAnyH_done (by kernel_rfl) ?_ _
        go_wp2
        go_ret
        exact ⟨⟨g6, w.heap.size, g5, rfl, ⟨d6, hS.get ⟨w.heap.size, 0, none⟩ (.slice p n c) (by simp), d5⟩⟩, hS.b⟩
    · go_simp
      have n5 := heap_alloc_new a1 (.cells #[.int .i64 0] 3)
      have l5 := hS.b.size
      have lb := World.block_lt_of_cell? _ _ (hS.get ⟨w.heap.size, 0, none⟩ (.slice p n c) (by simp))
      have hS2 := hS.next ((Below.refl _ a1).alloc (Nat.le_refl _) (.cells #[.int .i64 0] 3))
      clear hS
      refine hK.out _ _ hS2 (fun hS => ?_)
      clear hK K hS2
      obtain ⟨a2, hV⟩ : ∃ V, World.alloc a1 (.cells #[.int .i64 0] 3) = V := ⟨_, rfl⟩
      rw [hV] at hS n5 ⊢
      clear hV
      obtain ⟨g5, hg⟩ : ∃ g, a1.heap.size = g := ⟨_, rfl⟩
      rw [hg] at n5 l5 lb ⊢
      clear hg
      replace l5 := lb
      clear lb
      refine wpAnyH_ready (rs := [4, 6]) (by kernel_rfl) (by simp) ?_
      refine (AllReadyH.cons (o := { dst := some 11, op := .call { callee := .value (.func 85), args := #[.tmp 10], argTypes := #[39] }, type := 3, pos := "beacon.go:35", after := #[⟨3, .data⟩, ⟨1, .chain⟩], guard := none }) rfl (fun K hK => ?_) (AllReadyH.cons (o := { dst := some 6, op := .alloc 3, type := 0, pos := "beacon.go:35", after := #[], guard := none }) rfl (fun K hK => ?_) AllReadyH.nil))
      · go_simp
        go_at_call 85
        refine (CT.out _ hS.b).mono ?_
        rintro e a3 ⟨rfl, b⟩
        have hS2 := hS.next b
        replace n5 := (b.block _ (Array.getElem?_eq_some_iff.1 n5).1).trans n5
        clear b hS
        try go_simp
        refine hK.out _ _ hS2 (fun hS => ?_)
        clear hK K hS2
        refine wpAnyH_ready (rs := [6]) (by kernel_rfl) (by simp) ?_
        refine (AllReadyH.cons (o := { dst := some 6, op := .alloc 3, type := 0, pos := "beacon.go:35", after := #[], guard := none }) rfl (fun K hK => ?_) AllReadyH.nil)
        go_simp
        have n6 := heap_alloc_new a3 (.cells #[.int .i64 0] 3)
        have l6 := hS.b.size
        have lb := World.block_lt_of_cell? _ _ (hS.get ⟨w.heap.size, 0, none⟩ (.slice p n c) (by simp))
        have hS2 := hS.next ((Below.refl _ a3).alloc (Nat.le_refl _) (.cells #[.int .i64 0] 3))
        have ne := (Array.getElem?_eq_some_iff.1 n5).1
        replace n5 := (heap_alloc_old _ (.cells #[.int .i64 0] 3) (Array.getElem?_eq_some_iff.1 n5).1).trans n5
        clear hS
        refine hK.out _ _ hS2 (fun hS => ?_)
        clear hK K hS2
        obtain ⟨a4, hV⟩ : ∃ V, World.alloc a3 (.cells #[.int .i64 0] 3) = V := ⟨_, rfl⟩
        rw [hV] at hS n6 n5 ⊢
        clear hV
        obtain ⟨g6, hg⟩ : ∃ g, a3.heap.size = g := ⟨_, rfl⟩
        rw [hg] at n6 l6 lb ne ⊢
        clear hg
        replace l6 := lb
        clear lb
        replace ne : g5 ≠ g6 := by omega
        have f5 := frozen_of_row _ _ 0 _ _ n5
        have c5 : a4.cell? ⟨g5, 0, none⟩ = some (.int .i64 0) := cell_of_row _ _ 0 _ _ _ n5
        have f6 := frozen_of_row _ _ 0 _ _ n6
        have c6 : a4.cell? ⟨g6, 0, none⟩ = some (.int .i64 0) := cell_of_row _ _ 0 _ _ _ n6
        have HZ := Lib.hid (And.intro hS (And.intro l5 (And.intro l6 ne)))
        clear n5 n6
        refine wpAnyH_ready (rs := [7]) (by kernel_rfl) (by simp) ?_
        refine AllReadyH.cons (o := { dst := none, op := .store 3 (.tmp 5) (.tmp 8), type := 0, pos := "beacon.go:35", after := #[⟨5, .data⟩, ⟨1, .data⟩, ⟨4, .chain⟩, ⟨0, .phase⟩, ⟨1, .phase⟩, { on := 2, ground := Ground.textOnly Departure.lateStores }, { on := 3, ground := Ground.textOnly Departure.lateStores }, { on := 4, ground := Ground.textOnly Departure.lateStoresUnsure }, ⟨5, .phase⟩, ⟨6, .phase⟩], guard := none }) rfl (fun K hK => ?_) AllReadyH.nil
        go_simp
        have hS2 := (HZ.out.1).set g5 0 (.int .i64 b) (by have := HZ.out.2.1; exact Nat.le_of_lt this) (by have := HZ.out.2.1; intro x hx; simp only [List.mem_cons, List.not_mem_nil, or_false] at hx; rcases hx with rfl | rfl <;> exact Nat.ne_of_lt this)
        have c6 := (World.cell?_setCell_other a4 ⟨g5, 0, none⟩ ⟨g6, 0, none⟩ (.int .i64 b) (by intro e; injection e with e1; have := HZ.out.2.2.2; first | exact this e1 | exact this e1.symm)).trans c6
        have f6 : (World.setCell a4 ⟨g5, 0, none⟩ (.int .i64 b)).frozen? ⟨g6, 0, none⟩ = false := by rw [World.frozen?_setCell]; exact f6
        have d5 := World.cell?_setCell_same a4 ⟨g5, 0, none⟩ (.int .i64 b) c5
        clear c5 f5 hS
        refine hK.out _ _ hS2 (fun hS => ?_)
        clear hK K hS2
        have HY := Lib.hid HZ.out.2; clear HZ
        generalize World.setCell a4 ⟨g5, 0, none⟩ (.int .i64 b) = z5 at *
        refine wpAnyH_ready (rs := [8]) (by kernel_rfl) (by simp) ?_
        refine AllReadyH.cons (o := { dst := none, op := .store 3 (.tmp 6) (.tmp 11), type := 0, pos := "beacon.go:35", after := #[⟨6, .data⟩, ⟨4, .data⟩, ⟨7, .chain⟩, ⟨0, .phase⟩, ⟨1, .phase⟩, ⟨2, .phase⟩, ⟨3, .phase⟩, ⟨4, .phase⟩, ⟨5, .phase⟩, ⟨6, .phase⟩, ⟨7, .phase⟩], guard := none }) rfl (fun K hK => ?_) AllReadyH.nil
        go_simp
        have hS2 := hS.set g6 0 (.int .i64 N) (by have := HY.out.2.1; exact Nat.le_of_lt this) (by have := HY.out.2.1; intro x hx; simp only [List.mem_cons, List.not_mem_nil, or_false] at hx; rcases hx with rfl | rfl <;> exact Nat.ne_of_lt this)
        have d5 := (World.cell?_setCell_other z5 ⟨g6, 0, none⟩ ⟨g5, 0, none⟩ (.int .i64 N) (by intro e; injection e with e1; have := HY.out.2.2; first | exact this e1 | exact this e1.symm)).trans d5
        have d6 := World.cell?_setCell_same z5 ⟨g6, 0, none⟩ (.int .i64 N) c6
        clear c6 f6 hS
        refine hK.out _ _ hS2 (fun hS => ?_)
        clear hK K hS2
        refine wpAnyH_done (by kernel_rfl) ?_ _
        go_wp2
        go_ret
        exact ⟨⟨g6, w.heap.size, g5, rfl, ⟨d6, hS.get ⟨w.heap.size, 0, none⟩ (.slice p n c) (by simp), d5⟩⟩, hS.b⟩
      · go_simp
        have n6 := heap_alloc_new a2 (.cells #[.int .i64 0] 3)
        have l6 := hS.b.size
        have lb := World.block_lt_of_cell? _ _ (hS.get ⟨w.heap.size, 0, none⟩ (.slice p n c) (by simp))
        have hS2 := hS.next ((Below.refl _ a2).alloc (Nat.le_refl _) (.cells #[.int .i64 0] 3))
        have ne := (Array.getElem?_eq_some_iff.1 n5).1
        replace n5 := (heap_alloc_old _ (.cells #[.int .i64 0] 3) (Array.getElem?_eq_some_iff.1 n5).1).trans n5
        clear hS
        refine hK.out _ _ hS2 (fun hS => ?_)
        clear hK K hS2
        obtain ⟨a3, hV⟩ : ∃ V, World.alloc a2 (.cells #[.int .i64 0] 3) = V := ⟨_, rfl⟩
        rw [hV] at hS n6 n5 ⊢
        clear hV
        obtain ⟨g6, hg⟩ : ∃ g, a2.heap.size = g := ⟨_, rfl⟩
        rw [hg] at n6 l6 lb ne ⊢
        clear hg
        replace l6 := lb
        clear lb
        replace ne : g5 ≠ g6 := by omega
        refine wpAnyH_ready (rs := [4]) (by kernel_rfl) (by simp) ?_
        refine (AllReadyH.cons (o := { dst := some 11, op := .call { callee := .value (.func 85), args := #[.tmp 10], argTypes := #[39] }, type := 3, pos := "beacon.go:35", after := #[⟨3, .data⟩, ⟨1, .chain⟩], guard := none }) rfl (fun K hK => ?_) AllReadyH.nil)
        go_simp
        go_at_call 85
        refine (CT.out _ hS.b).mono ?_
        rintro e a4 ⟨rfl, b⟩
        have hS2 := hS.next b
        replace n5 := (b.block _ (Array.getElem?_eq_some_iff.1 n5).1).trans n5
        replace n6 := (b.block _ (Array.getElem?_eq_some_iff.1 n6).1).trans n6
        clear b hS
        try go_simp
        refine hK.out _ _ hS2 (fun hS => ?_)
        clear hK K hS2
        have f5 := frozen_of_row _ _ 0 _ _ n5
        have c5 : a4.cell? ⟨g5, 0, none⟩ = some (.int .i64 0) := cell_of_row _ _ 0 _ _ _ n5
        have f6 := frozen_of_row _ _ 0 _ _ n6
        have c6 : a4.cell? ⟨g6, 0, none⟩ = some (.int .i64 0) := cell_of_row _ _ 0 _ _ _ n6
        have HZ := Lib.hid (And.intro hS (And.intro l5 (And.intro l6 ne)))
        clear n5 n6
        refine wpAnyH_ready (rs := [7]) (by kernel_rfl) (by simp) ?_
        refine AllReadyH.cons (o := { dst := none, op := .store 3 (.tmp 5) (.tmp 8), type := 0, pos := "beacon.go:35", after := #[⟨5, .data⟩, ⟨1, .data⟩, ⟨4, .chain⟩, ⟨0, .phase⟩, ⟨1, .phase⟩, { on := 2, ground := Ground.textOnly Departure.lateStores }, { on := 3, ground := Ground.textOnly Departure.lateStores }, { on := 4, ground := Ground.textOnly Departure.lateStoresUnsure }, ⟨5, .phase⟩, ⟨6, .phase⟩], guard := none }) rfl (fun K hK => ?_) AllReadyH.nil
        go_simp
        have hS2 := (HZ.out.1).set g5 0 (.int .i64 b) (by have := HZ.out.2.1; exact Nat.le_of_lt this) (by have := HZ.out.2.1; intro x hx; simp only [List.mem_cons, List.not_mem_nil, or_false] at hx; rcases hx with rfl | rfl <;> exact Nat.ne_of_lt this)
        have c6 := (World.cell?_setCell_other a4 ⟨g5, 0, none⟩ ⟨g6, 0, none⟩ (.int .i64 b) (by intro e; injection e with e1; have := HZ.out.2.2.2; first | exact this e1 | exact this e1.symm)).trans c6
        have f6 : (World.setCell a4 ⟨g5, 0, none⟩ (.int .i64 b)).frozen? ⟨g6, 0, none⟩ = false := by rw [World.frozen?_setCell]; exact f6
        have d5 := World.cell?_setCell_same a4 ⟨g5, 0, none⟩ (.int .i64 b) c5
        clear c5 f5 hS
        refine hK.out _ _ hS2 (fun hS => ?_)
        clear hK K hS2
        have HY := Lib.hid HZ.out.2; clear HZ
        generalize World.setCell a4 ⟨g5, 0, none⟩ (.int .i64 b) = z5 at *
        refine wpAnyH_ready (rs := [8]) (by kernel_rfl) (by simp) ?_
        refine AllReadyH.cons (o := { dst := none, op := .store 3 (.tmp 6) (.tmp 11), type := 0, pos := "beacon.go:35", after := #[⟨6, .data⟩, ⟨4, .data⟩, ⟨7, .chain⟩, ⟨0, .phase⟩, ⟨1, .phase⟩, ⟨2, .phase⟩, ⟨3, .phase⟩, ⟨4, .phase⟩, ⟨5, .phase⟩, ⟨6, .phase⟩, ⟨7, .phase⟩], guard := none }) rfl (fun K hK => ?_) AllReadyH.nil
        go_simp
        have hS2 := hS.set g6 0 (.int .i64 N) (by have := HY.out.2.1; exact Nat.le_of_lt this) (by have := HY.out.2.1; intro x hx; simp only [List.mem_cons, List.not_mem_nil, or_false] at hx; rcases hx with rfl | rfl <;> exact Nat.ne_of_lt this)
        have d5 := (World.cell?_setCell_other z5 ⟨g6, 0, none⟩ ⟨g5, 0, none⟩ (.int .i64 N) (by intro e; injection e with e1; have := HY.out.2.2; first | exact this e1 | exact this e1.symm)).trans d5
        have d6 := World.cell?_setCell_same z5 ⟨g6, 0, none⟩ (.int .i64 N) c6
        clear c6 f6 hS
        refine hK.out _ _ hS2 (fun hS => ?_)
        clear hK K hS2
        refine wpAnyH_done (by kernel_rfl) ?_ _
        go_wp2
        go_ret
        exact ⟨⟨g6, w.heap.size, g5, rfl, ⟨d6, hS.get ⟨w.heap.size, 0, none⟩ (.slice p n c) (by simp), d5⟩⟩, hS.b⟩
    · go_simp
      have n6 := heap_alloc_new a1 (.cells #[.int .i64 0] 3)
      have l6 := hS.b.size
      have lb := World.block_lt_of_cell? _ _ (hS.get ⟨w.heap.size, 0, none⟩ (.slice p n c) (by simp))
      have hS2 := hS.next ((Below.refl _ a1).alloc (Nat.le_refl _) (.cells #[.int .i64 0] 3))
      clear hS
      refine hK.out _ _ hS2 (fun hS => ?_)
      clear hK K hS2
      obtain ⟨a2, hV⟩ : ∃ V, World.alloc a1 (.cells #[.int .i64 0] 3) = V := ⟨_, rfl⟩
      rw [hV] at hS n6 ⊢
      clear hV
      obtain ⟨g6, hg⟩ : ∃ g, a1.heap.size = g := ⟨_, rfl⟩
      rw [hg] at n6 l6 lb ⊢
      clear hg
      replace l6 := lb
      clear lb
      refine wpAnyH_ready (rs := [4, 5]) (by kernel_rfl) (by simp) ?_
      refine (AllReadyH.cons (o := { dst := some 11, op := .call { callee := .value (.func 85), args := #[.tmp 10], argTypes := #[39] }, type := 3, pos := "beacon.go:35", after := #[⟨3, .data⟩, ⟨1, .chain⟩], guard := none }) rfl (fun K hK => ?_) (AllReadyH.cons (o := { dst := some 5, op := .alloc 3, type := 0, pos := "beacon.go:35", after := #[], guard := none }) rfl (fun K hK => ?_) AllReadyH.nil))
      · go_simp
        go_at_call 85
        refine (CT.out _ hS.b).mono ?_
        rintro e a3 ⟨rfl, b⟩
        have hS2 := hS.next b
        replace n6 := (b.block _ (Array.getElem?_eq_some_iff.1 n6).1).trans n6
        clear b hS
        try go_simp
        refine hK.out _ _ hS2 (fun hS => ?_)
        clear hK K hS2
        refine wpAnyH_ready (rs := [5]) (by kernel_rfl) (by simp) ?_
        refine (AllReadyH.cons (o := { dst := some 5, op := .alloc 3, type := 0, pos := "beacon.go:35", after := #[], guard := none }) rfl (fun K hK => ?_) AllReadyH.nil)
        go_simp
        have n5 := heap_alloc_new a3 (.cells #[.int .i64 0] 3)
        have l5 := hS.b.size
        have lb := World.block_lt_of_cell? _ _ (hS.get ⟨w.heap.size, 0, none⟩ (.slice p n c) (by simp))
        have hS2 := hS.next ((Below.refl _ a3).alloc (Nat.le_refl _) (.cells #[.int .i64 0] 3))
        have ne := (Array.getElem?_eq_some_iff.1 n6).1
        replace n6 := (heap_alloc_old _ (.cells #[.int .i64 0] 3) (Array.getElem?_eq_some_iff.1 n6).1).trans n6
        clear hS
        refine hK.out _ _ hS2 (fun hS => ?_)
        clear hK K hS2
        obtain ⟨a4, hV⟩ : ∃ V, World.alloc a3 (.cells #[.int .i64 0] 3) = V := ⟨_, rfl⟩
        rw [hV] at hS n5 n6 ⊢
        clear hV
        obtain ⟨g5, hg⟩ : ∃ g, a3.heap.size = g := ⟨_, rfl⟩
        rw [hg] at n5 l5 lb ne ⊢
        clear hg
        replace l5 := lb
        clear lb
        replace ne : g5 ≠ g6 := by omega
        have f5 := frozen_of_row _ _ 0 _ _ n5
        have c5 : a4.cell? ⟨g5, 0, none⟩ = some (.int .i64 0) := cell_of_row _ _ 0 _ _ _ n5
        have f6 := frozen_of_row _ _ 0 _ _ n6
        have c6 : a4.cell? ⟨g6, 0, none⟩ = some (.int .i64 0) := cell_of_row _ _ 0 _ _ _ n6
        have HZ := Lib.hid (And.intro hS (And.intro l5 (And.intro l6 ne)))
        clear n5 n6
        refine wpAnyH_ready (rs := [7]) (by kernel_rfl) (by simp) ?_
        refine AllReadyH.cons (o := { dst := none, op := .store 3 (.tmp 5) (.tmp 8), type := 0, pos := "beacon.go:35", after := #[⟨5, .data⟩, ⟨1, .data⟩, ⟨4, .chain⟩, ⟨0, .phase⟩, ⟨1, .phase⟩, { on := 2, ground := Ground.textOnly Departure.lateStores }, { on := 3, ground := Ground.textOnly Departure.lateStores }, { on := 4, ground := Ground.textOnly Departure.lateStoresUnsure }, ⟨5, .phase⟩, ⟨6, .phase⟩], guard := none }) rfl (fun K hK => ?_) AllReadyH.nil
        go_simp
        have hS2 := (HZ.out.1).set g5 0 (.int .i64 b) (by have := HZ.out.2.1; exact Nat.le_of_lt this) (by have := HZ.out.2.1; intro x hx; simp only [List.mem_cons, List.not_mem_nil, or_false] at hx; rcases hx with rfl | rfl <;> exact Nat.ne_of_lt this)
        have c6 := (World.cell?_setCell_other a4 ⟨g5, 0, none⟩ ⟨g6, 0, none⟩ (.int .i64 b) (by intro e; injection e with e1; have := HZ.out.2.2.2; first | exact this e1 | exact this e1.symm)).trans c6
        have f6 : (World.setCell a4 ⟨g5, 0, none⟩ (.int .i64 b)).frozen? ⟨g6, 0, none⟩ = false := by rw [World.frozen?_setCell]; exact f6
        have d5 := World.cell?_setCell_same a4 ⟨g5, 0, none⟩ (.int .i64 b) c5
        clear c5 f5 hS
        refine hK.out _ _ hS2 (fun hS => ?_)
        clear hK K hS2
        have HY := Lib.hid HZ.out.2; clear HZ
        generalize World.setCell a4 ⟨g5, 0, none⟩ (.int .i64 b) = z5 at *
        refine wpAnyH_ready (rs := [8]) (by kernel_rfl) (by simp) ?_
        refine AllReadyH.cons (o := { dst := none, op := .store 3 (.tmp 6) (.tmp 11), type := 0, pos := "beacon.go:35", after := #[⟨6, .data⟩, ⟨4, .data⟩, ⟨7, .chain⟩, ⟨0, .phase⟩, ⟨1, .phase⟩, ⟨2, .phase⟩, ⟨3, .phase⟩, ⟨4, .phase⟩, ⟨5, .phase⟩, ⟨6, .phase⟩, ⟨7, .phase⟩], guard := none }) rfl (fun K hK => ?_) AllReadyH.nil
        go_simp
        have hS2 := hS.set g6 0 (.int .i64 N) (by have := HY.out.2.1; exact Nat.le_of_lt this) (by have := HY.out.2.1; intro x hx; simp only [List.mem_cons, List.not_mem_nil, or_false] at hx; rcases hx with rfl | rfl <;> exact Nat.ne_of_lt this)
        have d5 := (World.cell?_setCell_other z5 ⟨g6, 0, none⟩ ⟨g5, 0, none⟩ (.int .i64 N) (by intro e; injection e with e1; have := HY.out.2.2; first | exact this e1 | exact this e1.symm)).trans d5
        have d6 := World.cell?_setCell_same z5 ⟨g6, 0, none⟩ (.int .i64 N) c6
        clear c6 f6 hS
        refine hK.out _ _ hS2 (fun hS => ?_)
        clear hK K hS2
        refine wpAnyH_done (by kernel_rfl) ?_ _
        go_wp2
        go_ret
        exact ⟨⟨g6, w.heap.size, g5, rfl, ⟨d6, hS.get ⟨w.heap.size, 0, none⟩ (.slice p n c) (by simp), d5⟩⟩, hS.b⟩
      · go_simp
        have n5 := heap_alloc_new a2 (.cells #[.int .i64 0] 3)
        have l5 := hS.b.size
        have lb := World.block_lt_of_cell? _ _ (hS.get ⟨w.heap.size, 0, none⟩ (.slice p n c) (by simp))
        have hS2 := hS.next ((Below.refl _ a2).alloc (Nat.le_refl _) (.cells #[.int .i64 0] 3))
        have ne := (Array.getElem?_eq_some_iff.1 n6).1
        replace n6 := (heap_alloc_old _ (.cells #[.int .i64 0] 3) (Array.getElem?_eq_some_iff.1 n6).1).trans n6
        clear hS
        refine hK.out _ _ hS2 (fun hS => ?_)
        clear hK K hS2
        obtain ⟨a3, hV⟩ : ∃ V, World.alloc a2 (.cells #[.int .i64 0] 3) = V := ⟨_, rfl⟩
        rw [hV] at hS n5 n6 ⊢
        clear hV
        obtain ⟨g5, hg⟩ : ∃ g, a2.heap.size = g := ⟨_, rfl⟩
        rw [hg] at n5 l5 lb ne ⊢
        clear hg
        replace l5 := lb
        clear lb
        replace ne : g5 ≠ g6 := by omega
        refine wpAnyH_ready (rs := [4]) (by kernel_rfl) (by simp) ?_
        refine (AllReadyH.cons (o := { dst := some 11, op := .call { callee := .value (.func 85), args := #[.tmp 10], argTypes := #[39] }, type := 3, pos := "beacon.go:35", after := #[⟨3, .data⟩, ⟨1, .chain⟩], guard := none }) rfl (fun K hK => ?_) AllReadyH.nil)
        go_simp
        go_at_call 85
        refine (CT.out _ hS.b).mono ?_
        rintro e a4 ⟨rfl, b⟩
        have hS2 := hS.next b
        replace n6 := (b.block _ (Array.getElem?_eq_some_iff.1 n6).1).trans n6
        replace n5 := (b.block _ (Array.getElem?_eq_some_iff.1 n5).1).trans n5
        clear b hS
        try go_simp
        refine hK.out _ _ hS2 (fun hS => ?_)
        clear hK K hS2
        have f5 := frozen_of_row _ _ 0 _ _ n5
        have c5 : a4.cell? ⟨g5, 0, none⟩ = some (.int .i64 0) := cell_of_row _ _ 0 _ _ _ n5
        have f6 := frozen_of_row _ _ 0 _ _ n6
        have c6 : a4.cell? ⟨g6, 0, none⟩ = some (.int .i64 0) := cell_of_row _ _ 0 _ _ _ n6
        have HZ := Lib.hid (And.intro hS (And.intro l5 (And.intro l6 ne)))
        clear n5 n6
        refine wpAnyH_ready (rs := [7]) (by kernel_rfl) (by simp) ?_
        refine AllReadyH.cons (o := { dst := none, op := .store 3 (.tmp 5) (.tmp 8), type := 0, pos := "beacon.go:35", after := #[⟨5, .data⟩, ⟨1, .data⟩, ⟨4, .chain⟩, ⟨0, .phase⟩, ⟨1, .phase⟩, { on := 2, ground := Ground.textOnly Departure.lateStores }, { on := 3, ground := Ground.textOnly Departure.lateStores }, { on := 4, ground := Ground.textOnly Departure.lateStoresUnsure }, ⟨5, .phase⟩, ⟨6, .phase⟩], guard := none }) rfl (fun K hK => ?_) AllReadyH.nil
        go_simp
        have hS2 := (HZ.out.1).set g5 0 (.int .i64 b) (by have := HZ.out.2.1; exact Nat.le_of_lt this) (by have := HZ.out.2.1; intro x hx; simp only [List.mem_cons, List.not_mem_nil, or_false] at hx; rcases hx with rfl | rfl <;> exact Nat.ne_of_lt this)
        have c6 := (World.cell?_setCell_other a4 ⟨g5, 0, none⟩ ⟨g6, 0, none⟩ (.int .i64 b) (by intro e; injection e with e1; have := HZ.out.2.2.2; first | exact this e1 | exact this e1.symm)).trans c6
        have f6 : (World.setCell a4 ⟨g5, 0, none⟩ (.int .i64 b)).frozen? ⟨g6, 0, none⟩ = false := by rw [World.frozen?_setCell]; exact f6
        have d5 := World.cell?_setCell_same a4 ⟨g5, 0, none⟩ (.int .i64 b) c5
        clear c5 f5 hS
        refine hK.out _ _ hS2 (fun hS => ?_)
        clear hK K hS2
        have HY := Lib.hid HZ.out.2; clear HZ
        generalize World.setCell a4 ⟨g5, 0, none⟩ (.int .i64 b) = z5 at *
        refine wpAnyH_ready (rs := [8]) (by kernel_rfl) (by simp) ?_
        refine AllReadyH.cons (o := { dst := none, op := .store 3 (.tmp 6) (.tmp 11), type := 0, pos := "beacon.go:35", after := #[⟨6, .data⟩, ⟨4, .data⟩, ⟨7, .chain⟩, ⟨0, .phase⟩, ⟨1, .phase⟩, ⟨2, .phase⟩, ⟨3, .phase⟩, ⟨4, .phase⟩, ⟨5, .phase⟩, ⟨6, .phase⟩, ⟨7, .phase⟩], guard := none }) rfl (fun K hK => ?_) AllReadyH.nil
        go_simp
        have hS2 := hS.set g6 0 (.int .i64 N) (by have := HY.out.2.1; exact Nat.le_of_lt this) (by have := HY.out.2.1; intro x hx; simp only [List.mem_cons, List.not_mem_nil, or_false] at hx; rcases hx with rfl | rfl <;> exact Nat.ne_of_lt this)
        have d5 := (World.cell?_setCell_other z5 ⟨g6, 0, none⟩ ⟨g5, 0, none⟩ (.int .i64 N) (by intro e; injection e with e1; have := HY.out.2.2; first | exact this e1 | exact this e1.symm)).trans d5
        have d6 := World.cell?_setCell_same z5 ⟨g6, 0, none⟩ (.int .i64 N) c6
        clear c6 f6 hS
        refine hK.out _ _ hS2 (fun hS => ?_)
        clear hK K hS2
        refine wpAnyH_done (by kernel_rfl) ?_ _
        go_wp2
        go_ret
        exact ⟨⟨g6, w.heap.size, g5, rfl, ⟨d6, hS.get ⟨w.heap.size, 0, none⟩ (.slice p n c) (by simp), d5⟩⟩, hS.b⟩
  · go_simp
    have n5 := heap_alloc_new a0 (.cells #[.int .i64 0] 3)
    have l5 := hS.b.size
    have lb := World.block_lt_of_cell? _ _ (hS.get ⟨w.heap.size, 0, none⟩ (.slice p n c) (by simp))
    have hS2 := hS.next ((Below.refl _ a0).alloc (Nat.le_refl _) (.cells #[.int .i64 0] 3))
    clear hS
    refine hK.out _ _ hS2 (fun hS => ?_)
    clear hK K hS2
    obtain ⟨a1, hV⟩ : ∃ V, World.alloc a0 (.cells #[.int .i64 0] 3) = V := ⟨_, rfl⟩
    rw [hV] at hS n5 ⊢
    clear hV
    obtain ⟨g5, hg⟩ : ∃ g, a0.heap.size = g := ⟨_, rfl⟩
    rw [hg] at n5 l5 lb ⊢
    clear hg
    replace l5 := lb
    clear lb
    refine wpAnyH_ready (rs := [1, 6]) (by kernel_rfl) (by simp) ?_
    refine (AllReadyH.cons (o := { dst := some 8, op := .call { callee := .value (.func 12), args := #[.tmp 7], argTypes := #[3] }, type := 3, pos := "beacon.go:35", after := #[⟨0, .data⟩], guard := none }) rfl (fun K hK => ?_) (AllReadyH.cons (o := { dst := some 6, op := .alloc 3, type := 0, pos := "beacon.go:35", after := #[], guard := none }) rfl (fun K hK => ?_) AllReadyH.nil))
    · go_simp
      go_at_call 12
      refine (BS.out _ hS.b).mono ?_
      rintro e a2 ⟨rfl, b⟩
      have hS2 := hS.next b
      replace n5 := (b.block _ (Array.getElem?_eq_some_iff.1 n5).1).trans n5
      clear b hS
      try go_simp
      refine hK.out _ _ hS2 (fun hS => ?_)
      clear hK K hS2
      refine wpAnyH_ready (rs := [4, 6]) (by kernel_rfl) (by simp) ?_
      refine (AllReadyH.cons (o := { dst := some 11, op := .call { callee := .value (.func 85), args := #[.tmp 10], argTypes := #[39] }, type := 3, pos := "beacon.go:35", after := #[⟨3, .data⟩, ⟨1, .chain⟩], guard := none }) rfl (fun K hK => ?_) (AllReadyH.cons (o := { dst := some 6, op := .alloc 3, type := 0, pos := "beacon.go:35", after := #[], guard := none }) rfl (fun K hK => ?_) AllReadyH.nil))
      · go_simp
        go_at_call 85
        refine (CT.out _ hS.b).mono ?_
        rintro e a3 ⟨rfl, b⟩
        have hS2 := hS.next b
        replace n5 := (b.block _ (Array.getElem?_eq_some_iff.1 n5).1).trans n5
        clear b hS
        try go_simp
        refine hK.out _ _ hS2 (fun hS => ?_)
        clear hK K hS2
        refine wpAnyH_ready (rs := [6]) (by kernel_rfl) (by simp) ?_
        refine (AllReadyH.cons (o := { dst := some 6, op := .alloc 3, type := 0, pos := "beacon.go:35", after := #[], guard := none }) rfl (fun K hK => ?_) AllReadyH.nil)
        go_simp
        have n6 := heap_alloc_new a3 (.cells #[.int .i64 0] 3)
        have l6 := hS.b.size
        have lb := World.block_lt_of_cell? _ _ (hS.get ⟨w.heap.size, 0, none⟩ (.slice p n c) (by simp))
        have hS2 := hS.next ((Below.refl _ a3).alloc (Nat.le_refl _) (.cells #[.int .i64 0] 3))
        have ne := (Array.getElem?_eq_some_iff.1 n5).1
        replace n5 := (heap_alloc_old _ (.cells #[.int .i64 0] 3) (Array.getElem?_eq_some_iff.1 n5).1).trans n5
        clear hS
        refine hK.out _ _ hS2 (fun hS => ?_)
        clear hK K hS2
        obtain ⟨a4, hV⟩ : ∃ V, World.alloc a3 (.cells #[.int .i64 0] 3) = V := ⟨_, rfl⟩
        rw [hV] at hS n6 n5 ⊢
        clear hV
        obtain ⟨g6, hg⟩ : ∃ g, a3.heap.size = g := ⟨_, rfl⟩
        rw [hg] at n6 l6 lb ne ⊢
        clear hg
        replace l6 := lb
        clear lb
        replace ne : g5 ≠ g6 := by omega
        have f5 := frozen_of_row _ _ 0 _ _ n5
        have c5 : a4.cell? ⟨g5, 0, none⟩ = some (.int .i64 0) := cell_of_row _ _ 0 _ _ _ n5
        have f6 := frozen_of_row _ _ 0 _ _ n6
        have c6 : a4.cell? ⟨g6, 0, none⟩ = some (.int .i64 0) := cell_of_row _ _ 0 _ _ _ n6
        have HZ := Lib.hid (And.intro hS (And.intro l5 (And.intro l6 ne)))
        clear n5 n6
        refine wpAnyH_ready (rs := [7]) (by kernel_rfl) (by simp) ?_
        refine AllReadyH.cons (o := { dst := none, op := .store 3 (.tmp 5) (.tmp 8), type := 0, pos := "beacon.go:35", after := #[⟨5, .data⟩, ⟨1, .data⟩, ⟨4, .chain⟩, ⟨0, .phase⟩, ⟨1, .phase⟩, { on := 2, ground := Ground.textOnly Departure.lateStores }, { on := 3, ground := Ground.textOnly Departure.lateStores }, { on := 4, ground := Ground.textOnly Departure.lateStoresUnsure }, ⟨5, .phase⟩, ⟨6, .phase⟩], guard := none }) rfl (fun K hK => ?_) AllReadyH.nil
        go_simp
        have hS2 := (HZ.out.1).set g5 0 (.int .i64 b) (by have := HZ.out.2.1; exact Nat.le_of_lt this) (by have := HZ.out.2.1; intro x hx; simp only [List.mem_cons, List.not_mem_nil, or_false] at hx; rcases hx with rfl | rfl <;> exact Nat.ne_of_lt this)
        have c6 := (World.cell?_setCell_other a4 ⟨g5, 0, none⟩ ⟨g6, 0, none⟩ (.int .i64 b) (by intro e; injection e with e1; have := HZ.out.2.2.2; first | exact this e1 | exact this e1.symm)).trans c6
        have f6 : (World.setCell a4 ⟨g5, 0, none⟩ (.int .i64 b)).frozen? ⟨g6, 0, none⟩ = false := by rw [World.frozen?_setCell]; exact f6
        have d5 := World.cell?_setCell_same a4 ⟨g5, 0, none⟩ (.int .i64 b) c5
        clear c5 f5 hS
        refine hK.out _ _ hS2 (fun hS => ?_)
        clear hK K hS2
        have HY := Lib.hid HZ.out.2; clear HZ
        generalize World.setCell a4 ⟨g5, 0, none⟩ (.int .i64 b) = z5 at *
        refine wpAnyH_ready (rs := [8]) (by kernel_rfl) (by simp) ?_
        refine AllReadyH.cons (o := { dst := none, op := .store 3 (.tmp 6) (.tmp 11), type := 0, pos := "beacon.go:35", after := #[⟨6, .data⟩, ⟨4, .data⟩, ⟨7, .chain⟩, ⟨0, .phase⟩, ⟨1, .phase⟩, ⟨2, .phase⟩, ⟨3, .phase⟩, ⟨4, .phase⟩, ⟨5, .phase⟩, ⟨6, .phase⟩, ⟨7, .phase⟩], guard := none }) rfl (fun K hK => ?_) AllReadyH.nil
        go_simp
        have hS2 := hS.set g6 0 (.int .i64 N) (by have := HY.out.2.1; exact Nat.le_of_lt this) (by have := HY.out.2.1; intro x hx; simp only [List.mem_cons, List.not_mem_nil, or_false] at hx; rcases hx with rfl | rfl <;> exact Nat.ne_of_lt this)
        have d5 := (World.cell?_setCell_other z5 ⟨g6, 0, none⟩ ⟨g5, 0, none⟩ (.int .i64 N) (by intro e; injection e with e1; have := HY.out.2.2; first | exact this e1 | exact this e1.symm)).trans d5
        have d6 := World.cell?_setCell_same z5 ⟨g6, 0, none⟩ (.int .i64 N) c6
        clear c6 f6 hS
        refine hK.out _ _ hS2 (fun hS => ?_)
        clear hK K hS2
        refine wpAnyH_done (by kernel_rfl) ?_ _
        go_wp2
        go_ret
        exact ⟨⟨g6, w.heap.size, g5, rfl, ⟨d6, hS.get ⟨w.heap.size, 0, none⟩ (.slice p n c) (by simp), d5⟩⟩, hS.b⟩
      · go_simp
        have n6 := heap_alloc_new a2 (.cells #[.int .i64 0] 3)
        have l6 := hS.b.size
        have lb := World.block_lt_of_cell? _ _ (hS.get ⟨w.heap.size, 0, none⟩ (.slice p n c) (by simp))
        have hS2 := hS.next ((Below.refl _ a2).alloc (Nat.le_refl _) (.cells #[.int .i64 0] 3))
        have ne := (Array.getElem?_eq_some_iff.1 n5).1
        replace n5 := (heap_alloc_old _ (.cells #[.int .i64 0] 3) (Array.getElem?_eq_some_iff.1 n5).1).trans n5
        clear hS
        refine hK.out _ _ hS2 (fun hS => ?_)
        clear hK K hS2
        obtain ⟨a3, hV⟩ : ∃ V, World.alloc a2 (.cells #[.int .i64 0] 3) = V := ⟨_, rfl⟩
        rw [hV] at hS n6 n5 ⊢
        clear hV
        obtain ⟨g6, hg⟩ : ∃ g, a2.heap.size = g := ⟨_, rfl⟩
        rw [hg] at n6 l6 lb ne ⊢
        clear hg
        replace l6 := lb
        clear lb
        replace ne : g5 ≠ g6 := by omega
        refine wpAnyH_ready (rs := [4]) (by kernel_rfl) (by simp) ?_
        refine (AllReadyH.cons (o := { dst := some 11, op := .call { callee := .value (.func 85), args := #[.tmp 10], argTypes := #[39] }, type := 3, pos := "beacon.go:35", after := #[⟨3, .data⟩, ⟨1, .chain⟩], guard := none }) rfl (fun K hK => ?_) AllReadyH.nil)
        go_simp
        go_at_call 85
        refine (CT.out _ hS.b).mono ?_
        rintro e a4 ⟨rfl, b⟩
        have hS2 := hS.next b
        replace n5 := (b.block _ (Array.getElem?_eq_some_iff.1 n5).1).trans n5
        replace n6 := (b.block _ (Array.getElem?_eq_some_iff.1 n6).1).trans n6
        clear b hS
        try go_simp
        refine hK.out _ _ hS2 (fun hS => ?_)
        clear hK K hS2
        have f5 := frozen_of_row _ _ 0 _ _ n5
        have c5 : a4.cell? ⟨g5, 0, none⟩ = some (.int .i64 0) := cell_of_row _ _ 0 _ _ _ n5
        have f6 := frozen_of_row _ _ 0 _ _ n6
        have c6 : a4.cell? ⟨g6, 0, none⟩ = some (.int .i64 0) := cell_of_row _ _ 0 _ _ _ n6
        have HZ := Lib.hid (And.intro hS (And.intro l5 (And.intro l6 ne)))
        clear n5 n6
        refine wpAnyH_ready (rs := [7]) (by kernel_rfl) (by simp) ?_
        refine AllReadyH.cons (o := { dst := none, op := .store 3 (.tmp 5) (.tmp 8), type := 0, pos := "beacon.go:35", after := #[⟨5, .data⟩, ⟨1, .data⟩, ⟨4, .chain⟩, ⟨0, .phase⟩, ⟨1, .phase⟩, { on := 2, ground := Ground.textOnly Departure.lateStores }, { on := 3, ground := Ground.textOnly Departure.lateStores }, { on := 4, ground := Ground.textOnly Departure.lateStoresUnsure }, ⟨5, .phase⟩, ⟨6, .phase⟩], guard := none }) rfl (fun K hK => ?_) AllReadyH.nil
        go_simp
        have hS2 := (HZ.out.1).set g5 0 (.int .i64 b) (by have := HZ.out.2.1; exact Nat.le_of_lt this) (by have := HZ.out.2.1; intro x hx; simp only [List.mem_cons, List.not_mem_nil, or_false] at hx; rcases hx with rfl | rfl <;> exact Nat.ne_of_lt this)
        have c6 := (World.cell?_setCell_other a4 ⟨g5, 0, none⟩ ⟨g6, 0, none⟩ (.int .i64 b) (by intro e; injection e with e1; have := HZ.out.2.2.2; first | exact this e1 | exact this e1.symm)).trans c6
        have f6 : (World.setCell a4 ⟨g5, 0, none⟩ (.int .i64 b)).frozen? ⟨g6, 0, none⟩ = false := by rw [World.frozen?_setCell]; exact f6
        have d5 := World.cell?_setCell_same a4 ⟨g5, 0, none⟩ (.int .i64 b) c5
        clear c5 f5 hS
        refine hK.out _ _ hS2 (fun hS => ?_)
        clear hK K hS2
        have HY := Lib.hid HZ.out.2; clear HZ
        generalize World.setCell a4 ⟨g5, 0, none⟩ (.int .i64 b) = z5 at *
        refine wpAnyH_ready (rs := [8]) (by kernel_rfl) (by simp) ?_
        refine AllReadyH.cons (o := { dst := none, op := .store 3 (.tmp 6) (.tmp 11), type := 0, pos := "beacon.go:35", after := #[⟨6, .data⟩, ⟨4, .data⟩, ⟨7, .chain⟩, ⟨0, .phase⟩, ⟨1, .phase⟩, ⟨2, .phase⟩, ⟨3, .phase⟩, ⟨4, .phase⟩, ⟨5, .phase⟩, ⟨6, .phase⟩, ⟨7, .phase⟩], guard := none }) rfl (fun K hK => ?_) AllReadyH.nil
        go_simp
        have hS2 := hS.set g6 0 (.int .i64 N) (by have := HY.out.2.1; exact Nat.le_of_lt this) (by have := HY.out.2.1; intro x hx; simp only [List.mem_cons, List.not_mem_nil, or_false] at hx; rcases hx with rfl | rfl <;> exact Nat.ne_of_lt this)
        have d5 := (World.cell?_setCell_other z5 ⟨g6, 0, none⟩ ⟨g5, 0, none⟩ (.int .i64 N) (by intro e; injection e with e1; have := HY.out.2.2; first | exact this e1 | exact this e1.symm)).trans d5
        have d6 := World.cell?_setCell_same z5 ⟨g6, 0, none⟩ (.int .i64 N) c6
        clear c6 f6 hS
        refine hK.out _ _ hS2 (fun hS => ?_)
        clear hK K hS2
        refine wpAnyH_done (by kernel_rfl) ?_ _
        go_wp2
        go_ret
        exact ⟨⟨g6, w.heap.size, g5, rfl, ⟨d6, hS.get ⟨w.heap.size, 0, none⟩ (.slice p n c) (by simp), d5⟩⟩, hS.b⟩
    · go_simp
      have n6 := heap_alloc_new a1 (.cells #[.int .i64 0] 3)
      have l6 := hS.b.size
      have lb := World.block_lt_of_cell? _ _ (hS.get ⟨w.heap.size, 0, none⟩ (.slice p n c) (by simp))
      have hS2 := hS.next ((Below.refl _ a1).alloc (Nat.le_refl _) (.cells #[.int .i64 0] 3))
      have ne := (Array.getElem?_eq_some_iff.1 n5).1
      replace n5 := (heap_alloc_old _ (.cells #[.int .i64 0] 3) (Array.getElem?_eq_some_iff.1 n5).1).trans n5
      clear hS
      refine hK.out _ _ hS2 (fun hS => ?_)
      clear hK K hS2
      obtain ⟨a2, hV⟩ : ∃ V, World.alloc a1 (.cells #[.int .i64 0] 3) = V := ⟨_, rfl⟩
      rw [hV] at hS n6 n5 ⊢
      clear hV
      obtain ⟨g6, hg⟩ : ∃ g, a1.heap.size = g := ⟨_, rfl⟩
      rw [hg] at n6 l6 lb ne ⊢
      clear hg
      replace l6 := lb
      clear lb
      replace ne : g5 ≠ g6 := by omega
      refine wpAnyH_ready (rs := [1]) (by kernel_rfl) (by simp) ?_
      refine (AllReadyH.cons (o := { dst := some 8, op := .call { callee := .value (.func 12), args := #[.tmp 7], argTypes := #[3] }, type := 3, pos := "beacon.go:35", after := #[⟨0, .data⟩], guard := none }) rfl (fun K hK => ?_) AllReadyH.nil)
      go_simp
      go_at_call 12
      refine (BS.out _ hS.b).mono ?_
      rintro e a3 ⟨rfl, b⟩
      have hS2 := hS.next b
      replace n5 := (b.block _ (Array.getElem?_eq_some_iff.1 n5).1).trans n5
      replace n6 := (b.block _ (Array.getElem?_eq_some_iff.1 n6).1).trans n6
      clear b hS
      try go_simp
      refine hK.out _ _ hS2 (fun hS => ?_)
      clear hK K hS2
      refine wpAnyH_ready (rs := [4]) (by kernel_rfl) (by simp) ?_
      refine (AllReadyH.cons (o := { dst := some 11, op := .call { callee := .value (.func 85), args := #[.tmp 10], argTypes := #[39] }, type := 3, pos := "beacon.go:35", after := #[⟨3, .data⟩, ⟨1, .chain⟩], guard := none }) rfl (fun K hK => ?_) AllReadyH.nil)
      go_simp
      go_at_call 85
      refine (CT.out _ hS.b).mono ?_
      rintro e a4 ⟨rfl, b⟩
      have hS2 := hS.next b
      replace n5 := (b.block _ (Array.getElem?_eq_some_iff.1 n5).1).trans n5
      replace n6 := (b.block _ (Array.getElem?_eq_some_iff.1 n6).1).trans n6
      clear b hS
      try go_simp
      refine hK.out _ _ hS2 (fun hS => ?_)
      clear hK K hS2
      have f5 := frozen_of_row _ _ 0 _ _ n5
      have c5 : a4.cell? ⟨g5, 0, none⟩ = some (.int .i64 0) := cell_of_row _ _ 0 _ _ _ n5
      have f6 := frozen_of_row _ _ 0 _ _ n6
      have c6 : a4.cell? ⟨g6, 0, none⟩ = some (.int .i64 0) := cell_of_row _ _ 0 _ _ _ n6
      have HZ := Lib.hid (And.intro hS (And.intro l5 (And.intro l6 ne)))
      clear n5 n6
      refine wpAnyH_ready (rs := [7]) (by kernel_rfl) (by simp) ?_
      refine AllReadyH.cons (o := { dst := none, op := .store 3 (.tmp 5) (.tmp 8), type := 0, pos := "beacon.go:35", after := #[⟨5, .data⟩, ⟨1, .data⟩, ⟨4, .chain⟩, ⟨0, .phase⟩, ⟨1, .phase⟩, { on := 2, ground := Ground.textOnly Departure.lateStores }, { on := 3, ground := Ground.textOnly Departure.lateStores }, { on := 4, ground := Ground.textOnly Departure.lateStoresUnsure }, ⟨5, .phase⟩, ⟨6, .phase⟩], guard := none }) rfl (fun K hK => ?_) AllReadyH.nil
      go_simp
      have hS2 := (HZ.out.1).set g5 0 (.int .i64 b) (by have := HZ.out.2.1; exact Nat.le_of_lt this) (by have := HZ.out.2.1; intro x hx; simp only [List.mem_cons, List.not_mem_nil, or_false] at hx; rcases hx with rfl | rfl <;> exact Nat.ne_of_lt this)
      have c6 := (World.cell?_setCell_other a4 ⟨g5, 0, none⟩ ⟨g6, 0, none⟩ (.int .i64 b) (by intro e; injection e with e1; have := HZ.out.2.2.2; first | exact this e1 | exact this e1.symm)).trans c6
      have f6 : (World.setCell a4 ⟨g5, 0, none⟩ (.int .i64 b)).frozen? ⟨g6, 0, none⟩ = false := by rw [World.frozen?_setCell]; exact f6
      have d5 := World.cell?_setCell_same a4 ⟨g5, 0, none⟩ (.int .i64 b) c5
      clear c5 f5 hS
      refine hK.out _ _ hS2 (fun hS => ?_)
      clear hK K hS2
      have HY := Lib.hid HZ.out.2; clear HZ
      generalize World.setCell a4 ⟨g5, 0, none⟩ (.int .i64 b) = z5 at *
      refine wpAnyH_ready (rs := [8]) (by kernel_rfl) (by simp) ?_
      refine AllReadyH.cons (o := { dst := none, op := .store 3 (.tmp 6) (.tmp 11), type := 0, pos := "beacon.go:35", after := #[⟨6, .data⟩, ⟨4, .data⟩, ⟨7, .chain⟩, ⟨0, .phase⟩, ⟨1, .phase⟩, ⟨2, .phase⟩, ⟨3, .phase⟩, ⟨4, .phase⟩, ⟨5, .phase⟩, ⟨6, .phase⟩, ⟨7, .phase⟩], guard := none }) rfl (fun K hK => ?_) AllReadyH.nil
      go_simp
      have hS2 := hS.set g6 0 (.int .i64 N) (by have := HY.out.2.1; exact Nat.le_of_lt this) (by have := HY.out.2.1; intro x hx; simp only [List.mem_cons, List.not_mem_nil, or_false] at hx; rcases hx with rfl | rfl <;> exact Nat.ne_of_lt this)
      have d5 := (World.cell?_setCell_other z5 ⟨g6, 0, none⟩ ⟨g5, 0, none⟩ (.int .i64 N) (by intro e; injection e with e1; have := HY.out.2.2; first | exact this e1 | exact this e1.symm)).trans d5
      have d6 := World.cell?_setCell_same z5 ⟨g6, 0, none⟩ (.int .i64 N) c6
      clear c6 f6 hS
      refine hK.out _ _ hS2 (fun hS => ?_)
      clear hK K hS2
      refine wpAnyH_done (by kernel_rfl) ?_ _
      go_wp2
      go_ret
      exact ⟨⟨g6, w.heap.size, g5, rfl, ⟨d6, hS.get ⟨w.heap.size, 0, none⟩ (.slice p n c) (by simp), d5⟩⟩, hS.b⟩
  · go_simp
    have n6 := heap_alloc_new a0 (.cells #[.int .i64 0] 3)
    have l6 := hS.b.size
    have lb := World.block_lt_of_cell? _ _ (hS.get ⟨w.heap.size, 0, none⟩ (.slice p n c) (by simp))
    have hS2 := hS.next ((Below.refl _ a0).alloc (Nat.le_refl _) (.cells #[.int .i64 0] 3))
    clear hS
    refine hK.out _ _ hS2 (fun hS => ?_)
    clear hK K hS2
    obtain ⟨a1, hV⟩ : ∃ V, World.alloc a0 (.cells #[.int .i64 0] 3) = V := ⟨_, rfl⟩
    rw [hV] at hS n6 ⊢
    clear hV
    obtain ⟨g6, hg⟩ : ∃ g, a0.heap.size = g := ⟨_, rfl⟩
    rw [hg] at n6 l6 lb ⊢
    clear hg
    replace l6 := lb
    clear lb
    refine wpAnyH_ready (rs := [1, 5]) (by kernel_rfl) (by simp) ?_
    refine (AllReadyH.cons (o := { dst := some 8, op := .call { callee := .value (.func 12), args := #[.tmp 7], argTypes := #[3] }, type := 3, pos := "beacon.go:35", after := #[⟨0, .data⟩], guard := none }) rfl (fun K hK => ?_) (AllReadyH.cons (o := { dst := some 5, op := .alloc 3, type := 0, pos := "beacon.go:35", after := #[], guard := none }) rfl (fun K hK => ?_) AllReadyH.nil))
    · go_simp
      go_at_call 12
      refine (BS.out _ hS.b).mono ?_
      rintro e a2 ⟨rfl, b⟩
      have hS2 := hS.next b
      replace n6 := (b.block _ (Array.getElem?_eq_some_iff.1 n6).1).trans n6
      clear b hS
      try go_simp
      refine hK.out _ _ hS2 (fun hS => ?_)
      clear hK K hS2
      refine wpAnyH_ready (rs := [4, 5]) (by kernel_rfl) (by simp) ?_
      refine (AllReadyH.cons (o := { dst := some 11, op := .call { callee := .value (.func 85), args := #[.tmp 10], argTypes := #[39] }, type := 3, pos := "beacon.go:35", after := #[⟨3, .data⟩, ⟨1, .chain⟩], guard := none }) rfl (fun K hK => ?_) (AllReadyH.cons (o := { dst := some 5, op := .alloc 3, type := 0, pos := "beacon.go:35", after := #[], guard := none }) rfl (fun K hK => ?_) AllReadyH.nil))
      · go_simp
        go_at_call 85
        refine (CT.out _ hS.b).mono ?_
        rintro e a3 ⟨rfl, b⟩
        have hS2 := hS.next b
        replace n6 := (b.block _ (Array.getElem?_eq_some_iff.1 n6).1).trans n6
        clear b hS
        try go_simp
        refine hK.out _ _ hS2 (fun hS => ?_)
        clear hK K hS2
        refine wpAnyH_ready (rs := [5]) (by kernel_rfl) (by simp) ?_
        refine (AllReadyH.cons (o := { dst := some 5, op := .alloc 3, type := 0, pos := "beacon.go:35", after := #[], guard := none }) rfl (fun K hK => ?_) AllReadyH.nil)
        go_simp
        have n5 := heap_alloc_new a3 (.cells #[.int .i64 0] 3)
        have l5 := hS.b.size
        have lb := World.block_lt_of_cell? _ _ (hS.get ⟨w.heap.size, 0, none⟩ (.slice p n c) (by simp))
        have hS2 := hS.next ((Below.refl _ a3).alloc (Nat.le_refl _) (.cells #[.int .i64 0] 3))
        have ne := (Array.getElem?_eq_some_iff.1 n6).1
        replace n6 := (heap_alloc_old _ (.cells #[.int .i64 0] 3) (Array.getElem?_eq_some_iff.1 n6).1).trans n6
        clear hS
        refine hK.out _ _ hS2 (fun hS => ?_)
        clear hK K hS2
        obtain ⟨a4, hV⟩ : ∃ V, World.alloc a3 (.cells #[.int .i64 0] 3) = V := ⟨_, rfl⟩
        rw [hV] at hS n5 n6 ⊢
        clear hV
        obtain ⟨g5, hg⟩ : ∃ g, a3.heap.size = g := ⟨_, rfl⟩
        rw [hg] at n5 l5 lb ne ⊢
        clear hg
        replace l5 := lb
        clear lb
        replace ne : g5 ≠ g6 := by omega
        have f5 := frozen_of_row _ _ 0 _ _ n5
        have c5 : a4.cell? ⟨g5, 0, none⟩ = some (.int .i64 0) := cell_of_row _ _ 0 _ _ _ n5
        have f6 := frozen_of_row _ _ 0 _ _ n6
        have c6 : a4.cell? ⟨g6, 0, none⟩ = some (.int .i64 0) := cell_of_row _ _ 0 _ _ _ n6
        have HZ := Lib.hid (And.intro hS (And.intro l5 (And.intro l6 ne)))
        clear n5 n6
        refine wpAnyH_ready (rs := [7]) (by kernel_rfl) (by simp) ?_
        refine AllReadyH.cons (o := { dst := none, op := .store 3 (.tmp 5) (.tmp 8), type := 0, pos := "beacon.go:35", after := #[⟨5, .data⟩, ⟨1, .data⟩, ⟨4, .chain⟩, ⟨0, .phase⟩, ⟨1, .phase⟩, { on := 2, ground := Ground.textOnly Departure.lateStores }, { on := 3, ground := Ground.textOnly Departure.lateStores }, { on := 4, ground := Ground.textOnly Departure.lateStoresUnsure }, ⟨5, .phase⟩, ⟨6, .phase⟩], guard := none }) rfl (fun K hK => ?_) AllReadyH.nil
        go_simp
        have hS2 := (HZ.out.1).set g5 0 (.int .i64 b) (by have := HZ.out.2.1; exact Nat.le_of_lt this) (by have := HZ.out.2.1; intro x hx; simp only [List.mem_cons, List.not_mem_nil, or_false] at hx; rcases hx with rfl | rfl <;> exact Nat.ne_of_lt this)
        have c6 := (World.cell?_setCell_other a4 ⟨g5, 0, none⟩ ⟨g6, 0, none⟩ (.int .i64 b) (by intro e; injection e with e1; have := HZ.out.2.2.2; first | exact this e1 | exact this e1.symm)).trans c6
        have f6 : (World.setCell a4 ⟨g5, 0, none⟩ (.int .i64 b)).frozen? ⟨g6, 0, none⟩ = false := by rw [World.frozen?_setCell]; exact f6
        have d5 := World.cell?_setCell_same a4 ⟨g5, 0, none⟩ (.int .i64 b) c5
        clear c5 f5 hS
        refine hK.out _ _ hS2 (fun hS => ?_)
        clear hK K hS2
        have HY := Lib.hid HZ.out.2; clear HZ
        generalize World.setCell a4 ⟨g5, 0, none⟩ (.int .i64 b) = z5 at *
        refine wpAnyH_ready (rs := [8]) (by kernel_rfl) (by simp) ?_
        refine AllReadyH.cons (o := { dst := none, op := .store 3 (.tmp 6) (.tmp 11), type := 0, pos := "beacon.go:35", after := #[⟨6, .data⟩, ⟨4, .data⟩, ⟨7, .chain⟩, ⟨0, .phase⟩, ⟨1, .phase⟩, ⟨2, .phase⟩, ⟨3, .phase⟩, ⟨4, .phase⟩, ⟨5, .phase⟩, ⟨6, .phase⟩, ⟨7, .phase⟩], guard := none }) rfl (fun K hK => ?_) AllReadyH.nil
        go_simp
        have hS2 := hS.set g6 0 (.int .i64 N) (by have := HY.out.2.1; exact Nat.le_of_lt this) (by have := HY.out.2.1; intro x hx; simp only [List.mem_cons, List.not_mem_nil, or_false] at hx; rcases hx with rfl | rfl <;> exact Nat.ne_of_lt this)
        have d5 := (World.cell?_setCell_other z5 ⟨g6, 0, none⟩ ⟨g5, 0, none⟩ (.int .i64 N) (by intro e; injection e with e1; have := HY.out.2.2; first | exact this e1 | exact this e1.symm)).trans d5
        have d6 := World.cell?_setCell_same z5 ⟨g6, 0, none⟩ (.int .i64 N) c6
        clear c6 f6 hS
        refine hK.out _ _ hS2 (fun hS => ?_)
        clear hK K hS2
        refine wpAnyH_done (by kernel_rfl) ?_ _
        go_wp2
        go_ret
        exact ⟨⟨g6, w.heap.size, g5, rfl, ⟨d6, hS.get ⟨w.heap.size, 0, none⟩ (.slice p n c) (by simp), d5⟩⟩, hS.b⟩
      · go_simp
        have n5 := heap_alloc_new a2 (.cells #[.int .i64 0] 3)
        have l5 := hS.b.size
        have lb := World.block_lt_of_cell? _ _ (hS.get ⟨w.heap.size, 0, none⟩ (.slice p n c) (by simp))
        have hS2 := hS.next ((Below.refl _ a2).alloc (Nat.le_refl _) (.cells #[.int .i64 0] 3))
        have ne := (Array.getElem?_eq_some_iff.1 n6).1
        replace n6 := (heap_alloc_old _ (.cells #[.int .i64 0] 3) (Array.getElem?_eq_some_iff.1 n6).1).trans n6
        clear hS
        refine hK.out _ _ hS2 (fun hS => ?_)
        clear hK K hS2
        obtain ⟨a3, hV⟩ : ∃ V, World.alloc a2 (.cells #[.int .i64 0] 3) = V := ⟨_, rfl⟩
        rw [hV] at hS n5 n6 ⊢
        clear hV
        obtain ⟨g5, hg⟩ : ∃ g, a2.heap.size = g := ⟨_, rfl⟩
        rw [hg] at n5 l5 lb ne ⊢
        clear hg
        replace l5 := lb
        clear lb
        replace ne : g5 ≠ g6 := by omega
        refine wpAnyH_ready (rs := [4]) (by kernel_rfl) (by simp) ?_
        refine (AllReadyH.cons (o := { dst := some 11, op := .call { callee := .value (.func 85), args := #[.tmp 10], argTypes := #[39] }, type := 3, pos := "beacon.go:35", after := #[⟨3, .data⟩, ⟨1, .chain⟩], guard := none }) rfl (fun K hK => ?_) AllReadyH.nil)
        go_simp
        go_at_call 85
        refine (CT.out _ hS.b).mono ?_
        rintro e a4 ⟨rfl, b⟩
        have hS2 := hS.next b
        replace n6 := (b.block _ (Array.getElem?_eq_some_iff.1 n6).1).trans n6
        replace n5 := (b.block _ (Array.getElem?_eq_some_iff.1 n5).1).trans n5
        clear b hS
        try go_simp
        refine hK.out _ _ hS2 (fun hS => ?_)
        clear hK K hS2
        have f5 := frozen_of_row _ _ 0 _ _ n5
        have c5 : a4.cell? ⟨g5, 0, none⟩ = some (.int .i64 0) := cell_of_row _ _ 0 _ _ _ n5
        have f6 := frozen_of_row _ _ 0 _ _ n6
        have c6 : a4.cell? ⟨g6, 0, none⟩ = some (.int .i64 0) := cell_of_row _ _ 0 _ _ _ n6
        have HZ := Lib.hid (And.intro hS (And.intro l5 (And.intro l6 ne)))
        clear n5 n6
        refine wpAnyH_ready (rs := [7]) (by kernel_rfl) (by simp) ?_
        refine AllReadyH.cons (o := { dst := none, op := .store 3 (.tmp 5) (.tmp 8), type := 0, pos := "beacon.go:35", after := #[⟨5, .data⟩, ⟨1, .data⟩, ⟨4, .chain⟩, ⟨0, .phase⟩, ⟨1, .phase⟩, { on := 2, ground := Ground.textOnly Departure.lateStores }, { on := 3, ground := Ground.textOnly Departure.lateStores }, { on := 4, ground := Ground.textOnly Departure.lateStoresUnsure }, ⟨5, .phase⟩, ⟨6, .phase⟩], guard := none }) rfl (fun K hK => ?_) AllReadyH.nil
        go_simp
        have hS2 := (HZ.out.1).set g5 0 (.int .i64 b) (by have := HZ.out.2.1; exact Nat.le_of_lt this) (by have := HZ.out.2.1; intro x hx; simp only [List.mem_cons, List.not_mem_nil, or_false] at hx; rcases hx with rfl | rfl <;> exact Nat.ne_of_lt this)
        have c6 := (World.cell?_setCell_other a4 ⟨g5, 0, none⟩ ⟨g6, 0, none⟩ (.int .i64 b) (by intro e; injection e with e1; have := HZ.out.2.2.2; first | exact this e1 | exact this e1.symm)).trans c6
        have f6 : (World.setCell a4 ⟨g5, 0, none⟩ (.int .i64 b)).frozen? ⟨g6, 0, none⟩ = false := by rw [World.frozen?_setCell]; exact f6
        have d5 := World.cell?_setCell_same a4 ⟨g5, 0, none⟩ (.int .i64 b) c5
        clear c5 f5 hS
        refine hK.out _ _ hS2 (fun hS => ?_)
        clear hK K hS2
        have HY := Lib.hid HZ.out.2; clear HZ
        generalize World.setCell a4 ⟨g5, 0, none⟩ (.int .i64 b) = z5 at *
        refine wpAnyH_ready (rs := [8]) (by kernel_rfl) (by simp) ?_
        refine AllReadyH.cons (o := { dst := none, op := .store 3 (.tmp 6) (.tmp 11), type := 0, pos := "beacon.go:35", after := #[⟨6, .data⟩, ⟨4, .data⟩, ⟨7, .chain⟩, ⟨0, .phase⟩, ⟨1, .phase⟩, ⟨2, .phase⟩, ⟨3, .phase⟩, ⟨4, .phase⟩, ⟨5, .phase⟩, ⟨6, .phase⟩, ⟨7, .phase⟩], guard := none }) rfl (fun K hK => ?_) AllReadyH.nil
        go_simp
        have hS2 := hS.set g6 0 (.int .i64 N) (by have := HY.out.2.1; exact Nat.le_of_lt this) (by have := HY.out.2.1; intro x hx; simp only [List.mem_cons, List.not_mem_nil, or_false] at hx; rcases hx with rfl | rfl <;> exact Nat.ne_of_lt this)
        have d5 := (World.cell?_setCell_other z5 ⟨g6, 0, none⟩ ⟨g5, 0, none⟩ (.int .i64 N) (by intro e; injection e with e1; have := HY.out.2.2; first | exact this e1 | exact this e1.symm)).trans d5
        have d6 := World.cell?_setCell_same z5 ⟨g6, 0, none⟩ (.int .i64 N) c6
        clear c6 f6 hS
        refine hK.out _ _ hS2 (fun hS => ?_)
        clear hK K hS2
        refine wpAnyH_done (by kernel_rfl) ?_ _
        go_wp2
        go_ret
        exact ⟨⟨g6, w.heap.size, g5, rfl, ⟨d6, hS.get ⟨w.heap.size, 0, none⟩ (.slice p n c) (by simp), d5⟩⟩, hS.b⟩
    · go_simp
      have n5 := heap_alloc_new a1 (.cells #[.int .i64 0] 3)
      have l5 := hS.b.size
      have lb := World.block_lt_of_cell? _ _ (hS.get ⟨w.heap.size, 0, none⟩ (.slice p n c) (by simp))
      have hS2 := hS.next ((Below.refl _ a1).alloc (Nat.le_refl _) (.cells #[.int .i64 0] 3))
      have ne := (Array.getElem?_eq_some_iff.1 n6).1
      replace n6 := (heap_alloc_old _ (.cells #[.int .i64 0] 3) (Array.getElem?_eq_some_iff.1 n6).1).trans n6
      clear hS
      refine hK.out _ _ hS2 (fun hS => ?_)
      clear hK K hS2
      obtain ⟨a2, hV⟩ : ∃ V, World.alloc a1 (.cells #[.int .i64 0] 3) = V := ⟨_, rfl⟩
      rw [hV] at hS n5 n6 ⊢
      clear hV
      obtain ⟨g5, hg⟩ : ∃ g, a1.heap.size = g := ⟨_, rfl⟩
      rw [hg] at n5 l5 lb ne ⊢
      clear hg
      replace l5 := lb
      clear lb
      replace ne : g5 ≠ g6 := by omega
      refine wpAnyH_ready (rs := [1]) (by kernel_rfl) (by simp) ?_
      refine (AllReadyH.cons (o := { dst := some 8, op := .call { callee := .value (.func 12), args := #[.tmp 7], argTypes := #[3] }, type := 3, pos := "beacon.go:35", after := #[⟨0, .data⟩], guard := none }) rfl (fun K hK => ?_) AllReadyH.nil)
      go_simp
      go_at_call 12
      refine (BS.out _ hS.b).mono ?_
      rintro e a3 ⟨rfl, b⟩
      have hS2 := hS.next b
      replace n6 := (b.block _ (Array.getElem?_eq_some_iff.1 n6).1).trans n6
      replace n5 := (b.block _ (Array.getElem?_eq_some_iff.1 n5).1).trans n5
      clear b hS
      try go_simp
      refine hK.out _ _ hS2 (fun hS => ?_)
      clear hK K hS2
      refine wpAnyH_ready (rs := [4]) (by kernel_rfl) (by simp) ?_
      refine (AllReadyH.cons (o := { dst := some 11, op := .call { callee := .value (.func 85), args := #[.tmp 10], argTypes := #[39] }, type := 3, pos := "beacon.go:35", after := #[⟨3, .data⟩, ⟨1, .chain⟩], guard := none }) rfl (fun K hK => ?_) AllReadyH.nil)
      go_simp
      go_at_call 85
      refine (CT.out _ hS.b).mono ?_
      rintro e a4 ⟨rfl, b⟩
      have hS2 := hS.next b
      replace n6 := (b.block _ (Array.getElem?_eq_some_iff.1 n6).1).trans n6
      replace n5 := (b.block _ (Array.getElem?_eq_some_iff.1 n5).1).trans n5
      clear b hS
      try go_simp
      refine hK.out _ _ hS2 (fun hS => ?_)
      clear hK K hS2
      have f5 := frozen_of_row _ _ 0 _ _ n5
      have c5 : a4.cell? ⟨g5, 0, none⟩ = some (.int .i64 0) := cell_of_row _ _ 0 _ _ _ n5
      have f6 := frozen_of_row _ _ 0 _ _ n6
      have c6 : a4.cell? ⟨g6, 0, none⟩ = some (.int .i64 0) := cell_of_row _ _ 0 _ _ _ n6
      have HZ := Lib.hid (And.intro hS (And.intro l5 (And.intro l6 ne)))
      clear n5 n6
      refine wpAnyH_ready (rs := [7]) (by kernel_rfl) (by simp) ?_
      refine AllReadyH.cons (o := { dst := none, op := .store 3 (.tmp 5) (.tmp 8), type := 0, pos := "beacon.go:35", after := #[⟨5, .data⟩, ⟨1, .data⟩, ⟨4, .chain⟩, ⟨0, .phase⟩, ⟨1, .phase⟩, { on := 2, ground := Ground.textOnly Departure.lateStores }, { on := 3, ground := Ground.textOnly Departure.lateStores }, { on := 4, ground := Ground.textOnly Departure.lateStoresUnsure }, ⟨5, .phase⟩, ⟨6, .phase⟩], guard := none }) rfl (fun K hK => ?_) AllReadyH.nil
      go_simp
      have hS2 := (HZ.out.1).set g5 0 (.int .i64 b) (by have := HZ.out.2.1; exact Nat.le_of_lt this) (by have := HZ.out.2.1; intro x hx; simp only [List.mem_cons, List.not_mem_nil, or_false] at hx; rcases hx with rfl | rfl <;> exact Nat.ne_of_lt this)
      have c6 := (World.cell?_setCell_other a4 ⟨g5, 0, none⟩ ⟨g6, 0, none⟩ (.int .i64 b) (by intro e; injection e with e1; have := HZ.out.2.2.2; first | exact this e1 | exact this e1.symm)).trans c6
      have f6 : (World.setCell a4 ⟨g5, 0, none⟩ (.int .i64 b)).frozen? ⟨g6, 0, none⟩ = false := by rw [World.frozen?_setCell]; exact f6
      have d5 := World.cell?_setCell_same a4 ⟨g5, 0, none⟩ (.int .i64 b) c5
      clear c5 f5 hS
      refine hK.out _ _ hS2 (fun hS => ?_)
      clear hK K hS2
      have HY := Lib.hid HZ.out.2; clear HZ
      generalize World.setCell a4 ⟨g5, 0, none⟩ (.int .i64 b) = z5 at *
      refine wpAnyH_ready (rs := [8]) (by kernel_rfl) (by simp) ?_
      refine AllReadyH.cons (o := { dst := none, op := .store 3 (.tmp 6) (.tmp 11), type := 0, pos := "beacon.go:35", after := #[⟨6, .data⟩, ⟨4, .data⟩, ⟨7, .chain⟩, ⟨0, .phase⟩, ⟨1, .phase⟩, ⟨2, .phase⟩, ⟨3, .phase⟩, ⟨4, .phase⟩, ⟨5, .phase⟩, ⟨6, .phase⟩, ⟨7, .phase⟩], guard := none }) rfl (fun K hK => ?_) AllReadyH.nil
      go_simp
      have hS2 := hS.set g6 0 (.int .i64 N) (by have := HY.out.2.1; exact Nat.le_of_lt this) (by have := HY.out.2.1; intro x hx; simp only [List.mem_cons, List.not_mem_nil, or_false] at hx; rcases hx with rfl | rfl <;> exact Nat.ne_of_lt this)
      have d5 := (World.cell?_setCell_other z5 ⟨g6, 0, none⟩ ⟨g5, 0, none⟩ (.int .i64 N) (by intro e; injection e with e1; have := HY.out.2.2; first | exact this e1 | exact this e1.symm)).trans d5
      have d6 := World.cell?_setCell_same z5 ⟨g6, 0, none⟩ (.int .i64 N) c6
      clear c6 f6 hS
      refine hK.out _ _ hS2 (fun hS => ?_)
      clear hK K hS2
      refine wpAnyH_done (by kernel_rfl) ?_ _
      go_wp2
      go_ret
      exact ⟨⟨g6, w.heap.size, g5, rfl, ⟨d6, hS.get ⟨w.heap.size, 0, none⟩ (.slice p n c) (by simp), d5⟩⟩, hS.b⟩

end Go.Proofs.YtbfplapjjeeceaaGreatDoor.B9
namespace Go.Proofs.YtbfplapjjeeceaaGreatDoor.B9
open Go.RowKit GM SH G4 E6 D7P
open W8 hiding i64 jn
set_option maxRecDepth 100000 in
set_option maxHeartbeats 4000000 in
theorem vfn_low (w : World) (gn gk gb : Nat) (p : Option Addr) (n k : Nat) (N b x v c z : Int) (hV : VC w gn gk gb p n k N b) (h : x < 1) :
    Calls Tryz.prog 86 #[.agg #[.int .i64 x, .int .i64 v, .int .i64 c, .int .i64 z], .pointer (some ⟨gn, 0, none⟩), .pointer (some ⟨gk, 0, none⟩), .pointer (some ⟨gb, 0, none⟩)] w fun e w' => e = .returned (.bool false) ∧ Below w.heap.size w w' := by
  have h1 : ¬ (1 ≤ x) := by omega
  obtain ⟨W, hW⟩ : ∃ W, w.alloc (.cells #[.int .i64 x, .int .i64 v, .int .i64 c, .int .i64 z] 30) = W := ⟨_, rfl⟩
  have K0 : CK w [(⟨w.heap.size, 0, none⟩, .int .i64 x), (⟨w.heap.size, 1, none⟩, .int .i64 v), (⟨w.heap.size, 2, none⟩, .int .i64 c), (⟨w.heap.size, 3, none⟩, .int .i64 z), (⟨gn, 0, none⟩, .int .i64 N), (⟨gk, 0, none⟩, .slice p n k), (⟨gb, 0, none⟩, .int .i64 b)] [] W := by
    have := ((((CK.start w).cells #[.int .i64 x, .int .i64 v, .int .i64 c, .int .i64 z] 30 _ rfl).old ⟨gb, 0, none⟩ _ hV.fb).old ⟨gk, 0, none⟩ _ hV.fk).old ⟨gn, 0, none⟩ _ hV.fn
    rw [hW] at this
    exact this.sub (by simp) (by simp)
  clear hV
  go_enter Tryz.func86, Tryz.ntmps86
  go_upto_region 1 with fail
  clear hW
  have HK := Lib.hid K0; clear K0
  refine wp_region_held_drew (S := CK w [(⟨w.heap.size, 0, none⟩, .int .i64 x), (⟨w.heap.size, 1, none⟩, .int .i64 v), (⟨w.heap.size, 2, none⟩, .int .i64 c), (⟨w.heap.size, 3, none⟩, .int .i64 z), (⟨gn, 0, none⟩, .int .i64 N), (⟨gk, 0, none⟩, .slice p n k), (⟨gb, 0, none⟩, .int .i64 b)] []) (by kernel_rfl) HK.out.drew (fun hS => ?_)
  clear HK
  refine wpAnyH_take (i := 0) (v := ?vca0) rfl (by kernel_rfl) (by kernel_rfl) (by kernel_rfl) (fun _ _ _ h => h) (Or.inl ⟨by rfl, ?yca0⟩) hS ?rca0
  case yca0 => (intro w hS; go_simp; try with_reducible rfl)
  go_simp
  refine wpAnyH_take (i := 1) (v := .int .i64 x) rfl (by kernel_rfl) (by kernel_rfl) (by kernel_rfl) (fun _ _ _ h => h) (Or.inl ⟨by rfl, ?yca1⟩) hS ?rca1
  case yca1 => (intro w' hS; have cf := hS.get ⟨w.heap.size, 0, none⟩ (.int .i64 x) (by simp); go_simp; try with_reducible rfl)
  go_simp
  refine wpAnyH_take (i := 2) (v := .bool false) rfl (by kernel_rfl) (by kernel_rfl) (by kernel_rfl) (fun _ _ _ h => h) (Or.inl ⟨by rfl, ?yca2⟩) hS ?rca2
  case yca2 => (intro w hS; go_simp; try with_reducible rfl)
  go_simp
  refine wpAnyH_take (i := 3) (v := ?vca3) rfl (by kernel_rfl) (by kernel_rfl) (by kernel_rfl) (fun _ _ _ h => h) (Or.inl ⟨by rfl, ?yca3⟩) hS ?rca3
  case yca3 => (intro w hS; go_simp; try with_reducible rfl)
  go_simp
  refine wpAnyH_take (i := 4) (v := undef) rfl (by kernel_rfl) (by kernel_rfl) (by kernel_rfl) (fun _ _ _ h => h) (Or.inr ⟨by rfl, rfl⟩) hS ?rca4
  refine wpAnyH_take (i := 6) (v := undef) rfl (by kernel_rfl) (by kernel_rfl) (by kernel_rfl) (fun _ _ _ h => h) (Or.inr ⟨by rfl, rfl⟩) hS ?rca6
  go_simp
  refine wpAnyH_take (i := 5) (v := undef) rfl (by kernel_rfl) (by kernel_rfl) (by kernel_rfl) (fun _ _ _ h => h) (Or.inr ⟨by rfl, rfl⟩) hS ?rca5
  go_simp
  refine wpAnyH_take (i := 7) (v := undef) rfl (by kernel_rfl) (by kernel_rfl) (by kernel_rfl) (fun _ _ _ h => h) (Or.inr ⟨by rfl, rfl⟩) hS ?rca7
  go_simp
  refine wpAnyH_take (i := 8) (v := ?vca8) rfl (by kernel_rfl) (by kernel_rfl) (by kernel_rfl) (fun _ _ _ h => h) (Or.inl ⟨by rfl, ?yca8⟩) hS ?rca8
  case yca8 => (intro w hS; go_simp; try with_reducible rfl)
  go_simp
  refine wpAnyH_take (i := 9) (v := ?vca9) rfl (by kernel_rfl) (by kernel_rfl) (by kernel_rfl) (fun _ _ _ h => h) (Or.inl ⟨by rfl, ?yca9⟩) hS ?rca9
  case yca9 => (intro w hS; go_simp; try with_reducible rfl)
  go_simp
  refine wpAnyH_take (i := 10) (v := undef) rfl (by kernel_rfl) (by kernel_rfl) (by kernel_rfl) (fun _ _ _ h => h) (Or.inr ⟨by rfl, rfl⟩) hS ?rca10
  refine wpAnyH_take (i := 12) (v := undef) rfl (by kernel_rfl) (by kernel_rfl) (by kernel_rfl) (fun _ _ _ h => h) (Or.inr ⟨by rfl, rfl⟩) hS ?rca12
  refine wpAnyH_take (i := 15) (v := undef) rfl (by kernel_rfl) (by kernel_rfl) (by kernel_rfl) (fun _ _ _ h => h) (Or.inr ⟨by rfl, rfl⟩) hS ?rca15
  refine wpAnyH_take (i := 16) (v := undef) rfl (by kernel_rfl) (by kernel_rfl) (by kernel_rfl) (fun _ _ _ h => h) (Or.inr ⟨by rfl, rfl⟩) hS ?rca16
  refine wpAnyH_take (i := 18) (v := undef) rfl (by kernel_rfl) (by kernel_rfl) (by kernel_rfl) (fun _ _ _ h => h) (Or.inr ⟨by rfl, rfl⟩) hS ?rca18
  go_simp
  refine wpAnyH_take (i := 11) (v := undef) rfl (by kernel_rfl) (by kernel_rfl) (by kernel_rfl) (fun _ _ _ h => h) (Or.inr ⟨by rfl, rfl⟩) hS ?rca11
  refine wpAnyH_take (i := 13) (v := undef) rfl (by kernel_rfl) (by kernel_rfl) (by kernel_rfl) (fun _ _ _ h => h) (Or.inr ⟨by rfl, rfl⟩) hS ?rca13
  refine wpAnyH_take (i := 17) (v := undef) rfl (by kernel_rfl) (by kernel_rfl) (by kernel_rfl) (fun _ _ _ h => h) (Or.inr ⟨by rfl, rfl⟩) hS ?rca17
  refine wpAnyH_take (i := 19) (v := undef) rfl (by kernel_rfl) (by kernel_rfl) (by kernel_rfl) (fun _ _ _ h => h) (Or.inr ⟨by rfl, rfl⟩) hS ?rca19
  go_simp
  refine wpAnyH_take (i := 14) (v := undef) rfl (by kernel_rfl) (by kernel_rfl) (by kernel_rfl) (fun _ _ _ h => h) (Or.inr ⟨by rfl, rfl⟩) hS ?rca14
  go_simp
  refine wpAnyH_take (i := 20) (v := undef) rfl (by kernel_rfl) (by kernel_rfl) (by kernel_rfl) (fun _ _ _ h => h) (Or.inr ⟨by rfl, rfl⟩) hS ?rca20
  go_simp
  refine wpAnyH_take (i := 21) (v := ?vca21) rfl (by kernel_rfl) (by kernel_rfl) (by kernel_rfl) (fun _ _ _ h => h) (Or.inl ⟨by rfl, ?yca21⟩) hS ?rca21
  case yca21 => (intro w hS; go_simp; try with_reducible rfl)
  go_simp
  refine wpAnyH_take (i := 22) (v := ?vca22) rfl (by kernel_rfl) (by kernel_rfl) (by kernel_rfl) (fun _ _ _ h => h) (Or.inl ⟨by rfl, ?yca22⟩) hS ?rca22
  case yca22 => (intro w hS; go_simp; try with_reducible rfl)
  refine wpAnyH_done (by kernel_rfl) ?_ _
  go_wp2
  go_ret
  exact ⟨rfl, hS.b⟩
set_option maxRecDepth 100000 in
set_option maxHeartbeats 4000000 in
theorem vfn_high (w : World) (gn gk gb : Nat) (p : Option Addr) (n k : Nat) (N b x v c z : Int) (hV : VC w gn gk gb p n k N b) (h1 : 1 ≤ x) (h : N < x) :
    Calls Tryz.prog 86 #[.agg #[.int .i64 x, .int .i64 v, .int .i64 c, .int .i64 z], .pointer (some ⟨gn, 0, none⟩), .pointer (some ⟨gk, 0, none⟩), .pointer (some ⟨gb, 0, none⟩)] w fun e w' => e = .returned (.bool false) ∧ Below w.heap.size w w' := by
  have h2 : ¬ (x ≤ N) := by omega
  obtain ⟨W, hW⟩ : ∃ W, w.alloc (.cells #[.int .i64 x, .int .i64 v, .int .i64 c, .int .i64 z] 30) = W := ⟨_, rfl⟩
  have K0 : CK w [(⟨w.heap.size, 0, none⟩, .int .i64 x), (⟨w.heap.size, 1, none⟩, .int .i64 v), (⟨w.heap.size, 2, none⟩, .int .i64 c), (⟨w.heap.size, 3, none⟩, .int .i64 z), (⟨gn, 0, none⟩, .int .i64 N), (⟨gk, 0, none⟩, .slice p n k), (⟨gb, 0, none⟩, .int .i64 b)] [] W := by
    have := ((((CK.start w).cells #[.int .i64 x, .int .i64 v, .int .i64 c, .int .i64 z] 30 _ rfl).old ⟨gb, 0, none⟩ _ hV.fb).old ⟨gk, 0, none⟩ _ hV.fk).old ⟨gn, 0, none⟩ _ hV.fn
    rw [hW] at this
    exact this.sub (by simp) (by simp)
  clear hV
  go_enter Tryz.func86, Tryz.ntmps86
  go_upto_region 1 with fail
  clear hW
  have HK := Lib.hid K0; clear K0
  refine wp_region_held_drew (S := CK w [(⟨w.heap.size, 0, none⟩, .int .i64 x), (⟨w.heap.size, 1, none⟩, .int .i64 v), (⟨w.heap.size, 2, none⟩, .int .i64 c), (⟨w.heap.size, 3, none⟩, .int .i64 z), (⟨gn, 0, none⟩, .int .i64 N), (⟨gk, 0, none⟩, .slice p n k), (⟨gb, 0, none⟩, .int .i64 b)] []) (by kernel_rfl) HK.out.drew (fun hS => ?_)
  clear HK
  refine wpAnyH_take (i := 0) (v := ?vcb0) rfl (by kernel_rfl) (by kernel_rfl) (by kernel_rfl) (fun _ _ _ h => h) (Or.inl ⟨by rfl, ?ycb0⟩) hS ?rcb0
  case ycb0 => (intro w hS; go_simp; try with_reducible rfl)
  go_simp
  refine wpAnyH_take (i := 1) (v := .int .i64 x) rfl (by kernel_rfl) (by kernel_rfl) (by kernel_rfl) (fun _ _ _ h => h) (Or.inl ⟨by rfl, ?ycb1⟩) hS ?rcb1
  case ycb1 => (intro w' hS; have cf := hS.get ⟨w.heap.size, 0, none⟩ (.int .i64 x) (by simp); go_simp; try with_reducible rfl)
  go_simp
  refine wpAnyH_take (i := 2) (v := .bool true) rfl (by kernel_rfl) (by kernel_rfl) (by kernel_rfl) (fun _ _ _ h => h) (Or.inl ⟨by rfl, ?ycb2⟩) hS ?rcb2
  case ycb2 => (intro w hS; go_simp; try with_reducible rfl)
  go_simp
  refine wpAnyH_take (i := 3) (v := ?vcb3) rfl (by kernel_rfl) (by kernel_rfl) (by kernel_rfl) (fun _ _ _ h => h) (Or.inl ⟨by rfl, ?ycb3⟩) hS ?rcb3
  case ycb3 => (intro w hS; go_simp; try with_reducible rfl)
  go_simp
  refine wpAnyH_take (i := 4) (v := ?vcb4) rfl (by kernel_rfl) (by kernel_rfl) (by kernel_rfl) (fun _ _ _ h => h) (Or.inl ⟨by rfl, ?ycb4⟩) hS ?rcb4
  case ycb4 => (intro w hS; go_simp; try with_reducible rfl)
  refine wpAnyH_take (i := 6) (v := .int .i64 N) rfl (by kernel_rfl) (by kernel_rfl) (by kernel_rfl) (fun _ _ _ h => h) (Or.inl ⟨by rfl, ?ycb6⟩) hS ?rcb6
  case ycb6 => (intro w' hS; have cf := hS.get ⟨gn, 0, none⟩ (.int .i64 N) (by simp); go_simp; try with_reducible rfl)
  go_simp
  refine wpAnyH_take (i := 5) (v := .int .i64 x) rfl (by kernel_rfl) (by kernel_rfl) (by kernel_rfl) (fun _ _ _ h => h) (Or.inl ⟨by rfl, ?ycb5⟩) hS ?rcb5
  case ycb5 => (intro w' hS; have cf := hS.get ⟨w.heap.size, 0, none⟩ (.int .i64 x) (by simp); go_simp; try with_reducible rfl)
  go_simp
  refine wpAnyH_take (i := 7) (v := .bool false) rfl (by kernel_rfl) (by kernel_rfl) (by kernel_rfl) (fun _ _ _ h => h) (Or.inl ⟨by rfl, ?ycb7⟩) hS ?rcb7
  case ycb7 => (intro w hS; go_simp; try with_reducible rfl)
  go_simp
  refine wpAnyH_take (i := 8) (v := ?vcb8) rfl (by kernel_rfl) (by kernel_rfl) (by kernel_rfl) (fun _ _ _ h => h) (Or.inl ⟨by rfl, ?ycb8⟩) hS ?rcb8
  case ycb8 => (intro w hS; go_simp; try with_reducible rfl)
  go_simp
  refine wpAnyH_take (i := 9) (v := ?vcb9) rfl (by kernel_rfl) (by kernel_rfl) (by kernel_rfl) (fun _ _ _ h => h) (Or.inl ⟨by rfl, ?ycb9⟩) hS ?rcb9
  case ycb9 => (intro w hS; go_simp; try with_reducible rfl)
  go_simp
  refine wpAnyH_take (i := 10) (v := undef) rfl (by kernel_rfl) (by kernel_rfl) (by kernel_rfl) (fun _ _ _ h => h) (Or.inr ⟨by rfl, rfl⟩) hS ?rcb10
  refine wpAnyH_take (i := 12) (v := undef) rfl (by kernel_rfl) (by kernel_rfl) (by kernel_rfl) (fun _ _ _ h => h) (Or.inr ⟨by rfl, rfl⟩) hS ?rcb12
  refine wpAnyH_take (i := 15) (v := undef) rfl (by kernel_rfl) (by kernel_rfl) (by kernel_rfl) (fun _ _ _ h => h) (Or.inr ⟨by rfl, rfl⟩) hS ?rcb15
  refine wpAnyH_take (i := 16) (v := undef) rfl (by kernel_rfl) (by kernel_rfl) (by kernel_rfl) (fun _ _ _ h => h) (Or.inr ⟨by rfl, rfl⟩) hS ?rcb16
  refine wpAnyH_take (i := 18) (v := undef) rfl (by kernel_rfl) (by kernel_rfl) (by kernel_rfl) (fun _ _ _ h => h) (Or.inr ⟨by rfl, rfl⟩) hS ?rcb18
  go_simp
  refine wpAnyH_take (i := 11) (v := undef) rfl (by kernel_rfl) (by kernel_rfl) (by kernel_rfl) (fun _ _ _ h => h) (Or.inr ⟨by rfl, rfl⟩) hS ?rcb11
  refine wpAnyH_take (i := 13) (v := undef) rfl (by kernel_rfl) (by kernel_rfl) (by kernel_rfl) (fun _ _ _ h => h) (Or.inr ⟨by rfl, rfl⟩) hS ?rcb13
  refine wpAnyH_take (i := 17) (v := undef) rfl (by kernel_rfl) (by kernel_rfl) (by kernel_rfl) (fun _ _ _ h => h) (Or.inr ⟨by rfl, rfl⟩) hS ?rcb17
  refine wpAnyH_take (i := 19) (v := undef) rfl (by kernel_rfl) (by kernel_rfl) (by kernel_rfl) (fun _ _ _ h => h) (Or.inr ⟨by rfl, rfl⟩) hS ?rcb19
  go_simp
  refine wpAnyH_take (i := 14) (v := undef) rfl (by kernel_rfl) (by kernel_rfl) (by kernel_rfl) (fun _ _ _ h => h) (Or.inr ⟨by rfl, rfl⟩) hS ?rcb14
  go_simp
  refine wpAnyH_take (i := 20) (v := undef) rfl (by kernel_rfl) (by kernel_rfl) (by kernel_rfl) (fun _ _ _ h => h) (Or.inr ⟨by rfl, rfl⟩) hS ?rcb20
  go_simp
  refine wpAnyH_take (i := 21) (v := ?vcb21) rfl (by kernel_rfl) (by kernel_rfl) (by kernel_rfl) (fun _ _ _ h => h) (Or.inl ⟨by rfl, ?ycb21⟩) hS ?rcb21
  case ycb21 => (intro w hS; go_simp; try with_reducible rfl)
  go_simp
  refine wpAnyH_take (i := 22) (v := ?vcb22) rfl (by kernel_rfl) (by kernel_rfl) (by kernel_rfl) (fun _ _ _ h => h) (Or.inl ⟨by rfl, ?ycb22⟩) hS ?rcb22
  case ycb22 => (intro w hS; go_simp; try with_reducible rfl)
  refine wpAnyH_done (by kernel_rfl) ?_ _
  go_wp2
  go_ret
  exact ⟨rfl, hS.b⟩
set_option maxRecDepth 100000 in
set_option maxHeartbeats 4000000 in
theorem vfn_core (w : World) (gn gk gb : Nat) (p : Option Addr) (n k : Nat) (N b x v c z a : Int) (r : Bool) (hV : VC w gn gk gb p n k N b) (h1 : 1 ≤ x) (h2 : x ≤ N)
    (AT : Hid (∀ W, Below w.heap.size w W → Calls Tryz.prog 88 #[.slice p n k, .int .i64 x] W fun e w' => e = .returned (.int .i64 a) ∧ Below W.heap.size W w'))
    (VF : Hid (∀ W, Below w.heap.size w W → Calls Tryz.prog 87 #[.int .i64 4, .int .i64 a, .int .i64 b, .int .i64 v, .agg #[.int .i64 c, .int .i64 z]] W fun e w' => e = .returned (.bool r) ∧ Below W.heap.size W w')) :
    Calls Tryz.prog 86 #[.agg #[.int .i64 x, .int .i64 v, .int .i64 c, .int .i64 z], .pointer (some ⟨gn, 0, none⟩), .pointer (some ⟨gk, 0, none⟩), .pointer (some ⟨gb, 0, none⟩)] w fun e w' => e = .returned (.bool r) ∧ Below w.heap.size w w' := by
  obtain ⟨W, hW⟩ : ∃ W, w.alloc (.cells #[.int .i64 x, .int .i64 v, .int .i64 c, .int .i64 z] 30) = W := ⟨_, rfl⟩
  have K0 : CK w [(⟨w.heap.size, 0, none⟩, .int .i64 x), (⟨w.heap.size, 1, none⟩, .int .i64 v), (⟨w.heap.size, 2, none⟩, .int .i64 c), (⟨w.heap.size, 3, none⟩, .int .i64 z), (⟨gn, 0, none⟩, .int .i64 N), (⟨gk, 0, none⟩, .slice p n k), (⟨gb, 0, none⟩, .int .i64 b)] [] W := by
    have := ((((CK.start w).cells #[.int .i64 x, .int .i64 v, .int .i64 c, .int .i64 z] 30 _ rfl).old ⟨gb, 0, none⟩ _ hV.fb).old ⟨gk, 0, none⟩ _ hV.fk).old ⟨gn, 0, none⟩ _ hV.fn
    rw [hW] at this
    exact this.sub (by simp) (by simp)
  clear hV
  go_enter Tryz.func86, Tryz.ntmps86
  go_upto_region 1 with fail
  clear hW
  have HK := Lib.hid K0; clear K0
  refine wp_region_held_drew (S := CK w [(⟨w.heap.size, 0, none⟩, .int .i64 x), (⟨w.heap.size, 1, none⟩, .int .i64 v), (⟨w.heap.size, 2, none⟩, .int .i64 c), (⟨w.heap.size, 3, none⟩, .int .i64 z), (⟨gn, 0, none⟩, .int .i64 N), (⟨gk, 0, none⟩, .slice p n k), (⟨gb, 0, none⟩, .int .i64 b)] []) (by kernel_rfl) HK.out.drew (fun hS => ?_)
  clear HK
  refine wpAnyH_take (i := 0) (v := ?vcc0) rfl (by kernel_rfl) (by kernel_rfl) (by kernel_rfl) (fun _ _ _ h => h) (Or.inl ⟨by rfl, ?ycc0⟩) hS ?rcc0
  case ycc0 => (intro w hS; go_simp; try with_reducible rfl)
  go_simp
  refine wpAnyH_take (i := 1) (v := .int .i64 x) rfl (by kernel_rfl) (by kernel_rfl) (by kernel_rfl) (fun _ _ _ h => h) (Or.inl ⟨by rfl, ?ycc1⟩) hS ?rcc1
  case ycc1 => (intro w' hS; have cf := hS.get ⟨w.heap.size, 0, none⟩ (.int .i64 x) (by simp); go_simp; try with_reducible rfl)
  go_simp
  refine wpAnyH_take (i := 2) (v := .bool true) rfl (by kernel_rfl) (by kernel_rfl) (by kernel_rfl) (fun _ _ _ h => h) (Or.inl ⟨by rfl, ?ycc2⟩) hS ?rcc2
  case ycc2 => (intro w hS; go_simp; try with_reducible rfl)
  go_simp
  refine wpAnyH_take (i := 3) (v := ?vcc3) rfl (by kernel_rfl) (by kernel_rfl) (by kernel_rfl) (fun _ _ _ h => h) (Or.inl ⟨by rfl, ?ycc3⟩) hS ?rcc3
  case ycc3 => (intro w hS; go_simp; try with_reducible rfl)
  go_simp
  refine wpAnyH_take (i := 4) (v := ?vcc4) rfl (by kernel_rfl) (by kernel_rfl) (by kernel_rfl) (fun _ _ _ h => h) (Or.inl ⟨by rfl, ?ycc4⟩) hS ?rcc4
  case ycc4 => (intro w hS; go_simp; try with_reducible rfl)
  refine wpAnyH_take (i := 6) (v := .int .i64 N) rfl (by kernel_rfl) (by kernel_rfl) (by kernel_rfl) (fun _ _ _ h => h) (Or.inl ⟨by rfl, ?ycc6⟩) hS ?rcc6
  case ycc6 => (intro w' hS; have cf := hS.get ⟨gn, 0, none⟩ (.int .i64 N) (by simp); go_simp; try with_reducible rfl)
  go_simp
  refine wpAnyH_take (i := 5) (v := .int .i64 x) rfl (by kernel_rfl) (by kernel_rfl) (by kernel_rfl) (fun _ _ _ h => h) (Or.inl ⟨by rfl, ?ycc5⟩) hS ?rcc5
  case ycc5 => (intro w' hS; have cf := hS.get ⟨w.heap.size, 0, none⟩ (.int .i64 x) (by simp); go_simp; try with_reducible rfl)
  go_simp
  refine wpAnyH_take (i := 7) (v := .bool true) rfl (by kernel_rfl) (by kernel_rfl) (by kernel_rfl) (fun _ _ _ h => h) (Or.inl ⟨by rfl, ?ycc7⟩) hS ?rcc7
  case ycc7 => (intro w hS; go_simp; try with_reducible rfl)
  go_simp
  refine wpAnyH_take (i := 8) (v := ?vcc8) rfl (by kernel_rfl) (by kernel_rfl) (by kernel_rfl) (fun _ _ _ h => h) (Or.inl ⟨by rfl, ?ycc8⟩) hS ?rcc8
  case ycc8 => (intro w hS; go_simp; try with_reducible rfl)
  go_simp
  refine wpAnyH_take (i := 9) (v := ?vcc9) rfl (by kernel_rfl) (by kernel_rfl) (by kernel_rfl) (fun _ _ _ h => h) (Or.inl ⟨by rfl, ?ycc9⟩) hS ?rcc9
  case ycc9 => (intro w hS; go_simp; try with_reducible rfl)
  go_simp
  refine wpAnyH_take (i := 10) (v := ?vcc10) rfl (by kernel_rfl) (by kernel_rfl) (by kernel_rfl) (fun _ _ _ h => h) (Or.inl ⟨by rfl, ?ycc10⟩) hS ?rcc10
  case ycc10 => (intro w hS; go_simp; try with_reducible rfl)
  refine wpAnyH_take (i := 12) (v := ?vcc12) rfl (by kernel_rfl) (by kernel_rfl) (by kernel_rfl) (fun _ _ _ h => h) (Or.inl ⟨by rfl, ?ycc12⟩) hS ?rcc12
  case ycc12 => (intro w hS; go_simp; try with_reducible rfl)
  refine wpAnyH_take (i := 15) (v := .int .i64 b) rfl (by kernel_rfl) (by kernel_rfl) (by kernel_rfl) (fun _ _ _ h => h) (Or.inl ⟨by rfl, ?ycc15⟩) hS ?rcc15
  case ycc15 => (intro w' hS; have cf := hS.get ⟨gb, 0, none⟩ (.int .i64 b) (by simp); go_simp; try with_reducible rfl)
  refine wpAnyH_take (i := 16) (v := ?vcc16) rfl (by kernel_rfl) (by kernel_rfl) (by kernel_rfl) (fun _ _ _ h => h) (Or.inl ⟨by rfl, ?ycc16⟩) hS ?rcc16
  case ycc16 => (intro w hS; go_simp; try with_reducible rfl)
  refine wpAnyH_take (i := 18) (v := ?vcc18) rfl (by kernel_rfl) (by kernel_rfl) (by kernel_rfl) (fun _ _ _ h => h) (Or.inl ⟨by rfl, ?ycc18⟩) hS ?rcc18
  case ycc18 => (intro w hS; go_simp; try with_reducible rfl)
  go_simp
  refine wpAnyH_take (i := 11) (v := .slice p n k) rfl (by kernel_rfl) (by kernel_rfl) (by kernel_rfl) (fun _ _ _ h => h) (Or.inl ⟨by rfl, ?ycc11⟩) hS ?rcc11
  case ycc11 => (intro w' hS; have cf := hS.get ⟨gk, 0, none⟩ (.slice p n k) (by simp); go_simp; try with_reducible rfl)
  refine wpAnyH_take (i := 13) (v := .int .i64 x) rfl (by kernel_rfl) (by kernel_rfl) (by kernel_rfl) (fun _ _ _ h => h) (Or.inl ⟨by rfl, ?ycc13⟩) hS ?rcc13
  case ycc13 => (intro w' hS; have cf := hS.get ⟨w.heap.size, 0, none⟩ (.int .i64 x) (by simp); go_simp; try with_reducible rfl)
  refine wpAnyH_take (i := 17) (v := .int .i64 v) rfl (by kernel_rfl) (by kernel_rfl) (by kernel_rfl) (fun _ _ _ h => h) (Or.inl ⟨by rfl, ?ycc17⟩) hS ?rcc17
  case ycc17 => (intro w' hS; have cf := hS.get ⟨w.heap.size, 1, none⟩ (.int .i64 v) (by simp); go_simp; try with_reducible rfl)
  refine wpAnyH_take (i := 19) (v := .agg #[.int .i64 c, .int .i64 z]) rfl (by kernel_rfl) (by kernel_rfl) (by kernel_rfl) (fun _ _ _ h => h) (Or.inl ⟨by rfl, ?ycc19⟩) hS ?rcc19
  case ycc19 => (intro w' hS; have cf := hS.get ⟨w.heap.size, 2, none⟩ (.int .i64 c) (by simp); have cg1 := hS.get ⟨w.heap.size, 3, none⟩ (.int .i64 z) (by simp); go_simp; try with_reducible rfl)
  go_simp
  refine wpAnyH_ready (rs := [14]) (by kernel_rfl) (by simp) ?_
  refine AllReadyH.cons (o := { dst := some 20, op := .call { callee := .value (.func 88), args := #[.tmp 17, .tmp 19], argTypes := #[34, 3] }, type := 3, pos := "beacon.go:38", after := #[⟨11, .data⟩, ⟨13, .data⟩, ⟨9, .chain⟩, ⟨9, .guard⟩], guard := some (9, true) }) rfl (fun K hK => ?_) AllReadyH.nil
  go_simp
  go_at_call 88
  refine (AT.out _ hS.b).mono ?_
  rintro e w' ⟨rfl, b⟩
  have hS2 := hS.next b
  clear b hS
  try go_simp
  refine hK.out _ _ hS2 (fun hS => ?_)
  clear hK K hS2
  refine wpAnyH_ready (rs := [20]) (by kernel_rfl) (by simp) ?_
  refine AllReadyH.cons (o := { dst := some 26, op := .call { callee := .value (.func 87), args := #[.const (.int .i64 4), .tmp 20, .tmp 21, .tmp 23, .tmp 25], argTypes := #[3, 3, 3, 3, 28] }, type := 4, pos := "beacon.go:38", after := #[⟨14, .data⟩, ⟨15, .data⟩, ⟨17, .data⟩, ⟨19, .data⟩, ⟨14, .chain⟩, ⟨9, .guard⟩], guard := some (9, true) }) rfl (fun K hK => ?_) AllReadyH.nil
  go_simp
  go_at_call 87
  refine (VF.out _ hS.b).mono ?_
  rintro e w' ⟨rfl, b⟩
  have hS2 := hS.next b
  clear b hS
  try go_simp
  refine hK.out _ _ hS2 (fun hS => ?_)
  clear hK K hS2
  refine wpAnyH_take (i := 21) (v := ?vcc21) rfl (by kernel_rfl) (by kernel_rfl) (by kernel_rfl) (fun _ _ _ h => h) (Or.inl ⟨by rfl, ?ycc21⟩) hS ?rcc21
  case ycc21 => (intro w hS; go_simp; try with_reducible rfl)
  go_simp
  refine wpAnyH_take (i := 22) (v := ?vcc22) rfl (by kernel_rfl) (by kernel_rfl) (by kernel_rfl) (fun _ _ _ h => h) (Or.inl ⟨by rfl, ?ycc22⟩) hS ?rcc22
  case ycc22 => (intro w hS; go_simp; try with_reducible rfl)
  refine wpAnyH_done (by kernel_rfl) ?_ _
  go_wp2
  go_ret
  exact ⟨rfl, hS.b⟩
/-- the numbers of a partial are ints -/
def pi64 (s : Pa) : Prop := i64 s.1 ∧ i64 s.2.1 ∧ i64 s.2.2.1 ∧ i64 s.2.2.2
theorem vfn_any (w : World) (gn gk gb : Nat) (p : Option Addr) (n k : Nat) (N R : Int) (C : List Int) (s : Pa) (r : Bool) (hr : acc C N R s = r) (hV : VC w gn gk gb p n k N (bs R)) (hC : SLi w (.slice p n k) C) (hT : TS w) (hs : pi64 s) :
    Calls Tryz.prog 86 #[pav s, .pointer (some ⟨gn, 0, none⟩), .pointer (some ⟨gk, 0, none⟩), .pointer (some ⟨gb, 0, none⟩)] w fun e w' => e = .returned (.bool r) ∧ Below w.heap.size w w' := by
  obtain ⟨x, v, c, z⟩ := s
  obtain ⟨hx, hv, hc, hz⟩ := hs
  have hb := bs_rng R
  have hbi : i64 (bs R) := ⟨by omega, by omega⟩
  have ha := D7.av_rng C x
  have hai : i64 (D7.av C x) := ⟨by omega, by omega⟩
  unfold acc at hr
  dsimp only at hx hv hc hz hr ⊢
  by_cases h1 : x < 1
  · rw [decide_eq_false (show ¬ 1 ≤ x by omega)] at hr
    simp only [Bool.false_and] at hr
    subst hr
    exact vfn_low w gn gk gb p n k N (bs R) x v c z hV h1
  · by_cases h2 : N < x
    · rw [decide_eq_false (show ¬ x ≤ N by omega)] at hr
      simp only [Bool.false_and, Bool.and_false] at hr
      subst hr
      exact vfn_high w gn gk gb p n k N (bs R) x v c z hV (by omega) h2
    · rw [decide_eq_true (show 1 ≤ x by omega), decide_eq_true (show x ≤ N by omega)] at hr
      simp only [Bool.true_and] at hr
      have A1 : ∀ W, Below w.heap.size w W → Calls Tryz.prog 88 #[.slice p n k, .int .i64 x] W fun e w' => e = .returned (.int .i64 (D7.av C x)) ∧ Below W.heap.size W w' := fun W b => D7.At_any W _ C x (slD (hC.next b)) hC.r hx hC.n
      have V1 : ∀ W, Below w.heap.size w W → Calls Tryz.prog 87 #[.int .i64 4, .int .i64 (D7.av C x), .int .i64 (bs R), .int .i64 v, pfv c z] W fun e w' => e = .returned (.bool (vf 4 (D7.av C x) (bs R) v c z)) ∧ Below W.heap.size W w' := fun W b => Verify_any W 4 (D7.av C x) (bs R) v c z ⟨by decide, by decide⟩ hai hbi hv hc hz (hT.below b)
      rw [hr] at V1
      exact vfn_core w gn gk gb p n k N (bs R) x v c z (D7.av C x) r hV (by omega) (by omega) (Lib.hid A1) (Lib.hid V1)
set_option maxRecDepth 100000 in
set_option maxHeartbeats 4000000 in
theorem Verify_no (w : World) (p q : Option Addr) (n k m e : Nat) (r x v c z : Int)
    (RI : Hid (∀ W, Below w.heap.size w W → Calls Tryz.prog 45 #[.agg #[.slice p n k, .slice q m e]] W fun e w' => e = .returned (.bool false) ∧ Below W.heap.size W w')) :
    Calls Tryz.prog 18 #[.agg #[.slice p n k, .slice q m e], .int .i64 r, .agg #[.int .i64 x, .int .i64 v, .int .i64 c, .int .i64 z]] w fun e w' => e = .returned (.bool false) ∧ Below w.heap.size w w' := by
  obtain ⟨W, hW⟩ : ∃ W, (w.alloc (.cells #[.slice p n k, .slice q m e] 41)).alloc (.cells #[.int .i64 x, .int .i64 v, .int .i64 c, .int .i64 z] 30) = W := ⟨_, rfl⟩
  have K0 : CK w [(⟨w.heap.size, 0, none⟩, .slice p n k), (⟨w.heap.size, 1, none⟩, .slice q m e), (⟨w.heap.size + 1, 0, none⟩, .int .i64 x), (⟨w.heap.size + 1, 1, none⟩, .int .i64 v), (⟨w.heap.size + 1, 2, none⟩, .int .i64 c), (⟨w.heap.size + 1, 3, none⟩, .int .i64 z)] [] W := by
    have := ((CK.start w).cells #[.slice p n k, .slice q m e] 41 _ rfl).cells #[.int .i64 x, .int .i64 v, .int .i64 c, .int .i64 z] 30 _ rfl
    rw [hW, World.size_alloc] at this
    exact this.sub (by simp) (by simp)
  go_enter Tryz.func18, Tryz.ntmps18
  go_upto_region 1 with fail
  clear hW
  have HK := Lib.hid K0; clear K0
  refine wp_region_held_drew (S := CK w [(⟨w.heap.size, 0, none⟩, .slice p n k), (⟨w.heap.size, 1, none⟩, .slice q m e), (⟨w.heap.size + 1, 0, none⟩, .int .i64 x), (⟨w.heap.size + 1, 1, none⟩, .int .i64 v), (⟨w.heap.size + 1, 2, none⟩, .int .i64 c), (⟨w.heap.size + 1, 3, none⟩, .int .i64 z)] []) (by kernel_rfl) HK.out.drew (fun hS => ?_)
  clear HK
  refine wpAnyH_take (i := 0) (v := .agg #[.slice p n k, .slice q m e]) rfl (by kernel_rfl) (by kernel_rfl) (by kernel_rfl) (fun _ _ _ h => h) (Or.inl ⟨by rfl, ?yva0⟩) hS ?rva0
  case yva0 => (intro w' hS; have cf := hS.get ⟨w.heap.size, 0, none⟩ (.slice p n k) (by simp); have cg1 := hS.get ⟨w.heap.size, 1, none⟩ (.slice q m e) (by simp); go_simp; try with_reducible rfl)
  go_simp
  refine wpAnyH_ready (rs := [1]) (by kernel_rfl) (by simp) ?_
  refine AllReadyH.cons (o := { dst := some 8, op := .call { callee := .value (.func 45), args := #[.tmp 7], argTypes := #[41] }, type := 4, pos := "beacon.go:30", after := #[⟨0, .data⟩], guard := none }) rfl (fun K hK => ?_) AllReadyH.nil
  go_simp
  go_at_call 45
  refine (RI.out _ hS.b).mono ?_
  rintro e w' ⟨rfl, b⟩
  have hS2 := hS.next b
  clear b hS
  try go_simp
  refine hK.out _ _ hS2 (fun hS => ?_)
  clear hK K hS2
  refine wpAnyH_take (i := 2) (v := ?vva2) rfl (by kernel_rfl) (by kernel_rfl) (by kernel_rfl) (fun _ _ _ h => h) (Or.inl ⟨by rfl, ?yva2⟩) hS ?rva2
  case yva2 => (intro w hS; go_simp; try with_reducible rfl)
  go_simp
  refine wpAnyH_take (i := 3) (v := undef) rfl (by kernel_rfl) (by kernel_rfl) (by kernel_rfl) (fun _ _ _ h => h) (Or.inr ⟨by rfl, rfl⟩) hS ?rva3
  refine wpAnyH_take (i := 4) (v := undef) rfl (by kernel_rfl) (by kernel_rfl) (by kernel_rfl) (fun _ _ _ h => h) (Or.inr ⟨by rfl, rfl⟩) hS ?rva4
  refine wpAnyH_take (i := 6) (v := undef) rfl (by kernel_rfl) (by kernel_rfl) (by kernel_rfl) (fun _ _ _ h => h) (Or.inr ⟨by rfl, rfl⟩) hS ?rva6
  go_simp
  refine wpAnyH_take (i := 5) (v := undef) rfl (by kernel_rfl) (by kernel_rfl) (by kernel_rfl) (fun _ _ _ h => h) (Or.inr ⟨by rfl, rfl⟩) hS ?rva5
  go_simp
  refine wpAnyH_take (i := 7) (v := undef) rfl (by kernel_rfl) (by kernel_rfl) (by kernel_rfl) (fun _ _ _ h => h) (Or.inr ⟨by rfl, rfl⟩) hS ?rva7
  go_simp
  refine wpAnyH_take (i := 8) (v := ?vva8) rfl (by kernel_rfl) (by kernel_rfl) (by kernel_rfl) (fun _ _ _ h => h) (Or.inl ⟨by rfl, ?yva8⟩) hS ?rva8
  case yva8 => (intro w hS; go_simp; try with_reducible rfl)
  go_simp
  refine wpAnyH_take (i := 9) (v := ?vva9) rfl (by kernel_rfl) (by kernel_rfl) (by kernel_rfl) (fun _ _ _ h => h) (Or.inl ⟨by rfl, ?yva9⟩) hS ?rva9
  case yva9 => (intro w hS; go_simp; try with_reducible rfl)
  refine wpAnyH_done (by kernel_rfl) ?_ _
  go_wp2
  go_ret
  exact ⟨rfl, hS.b⟩
set_option maxRecDepth 100000 in
set_option maxHeartbeats 4000000 in
theorem Verify_yes (w : World) (p q : Option Addr) (n k m e : Nat) (r N b x v c z : Int) (ok : Bool)
    (RI : Hid (∀ W, Below w.heap.size w W → Calls Tryz.prog 45 #[.agg #[.slice p n k, .slice q m e]] W fun e w' => e = .returned (.bool true) ∧ Below W.heap.size W w'))
    (VR : Hid (∀ W, Below w.heap.size w W → Calls Tryz.prog 46 #[.agg #[.slice p n k, .slice q m e], .int .i64 r] W fun e w' => (∃ gn gk gb, e = .returned (vfn gn gk gb) ∧ VC w' gn gk gb p n k N b) ∧ Below W.heap.size W w'))
    (CL : Hid (∀ W gn gk gb, VC W gn gk gb p n k N b → Below w.heap.size w W → Calls Tryz.prog 86 #[.agg #[.int .i64 x, .int .i64 v, .int .i64 c, .int .i64 z], .pointer (some ⟨gn, 0, none⟩), .pointer (some ⟨gk, 0, none⟩), .pointer (some ⟨gb, 0, none⟩)] W fun e w' => e = .returned (.bool ok) ∧ Below W.heap.size W w')) :
    Calls Tryz.prog 18 #[.agg #[.slice p n k, .slice q m e], .int .i64 r, .agg #[.int .i64 x, .int .i64 v, .int .i64 c, .int .i64 z]] w fun e w' => e = .returned (.bool ok) ∧ Below w.heap.size w w' := by
  obtain ⟨W, hW⟩ : ∃ W, (w.alloc (.cells #[.slice p n k, .slice q m e] 41)).alloc (.cells #[.int .i64 x, .int .i64 v, .int .i64 c, .int .i64 z] 30) = W := ⟨_, rfl⟩
  have K0 : CK w [(⟨w.heap.size, 0, none⟩, .slice p n k), (⟨w.heap.size, 1, none⟩, .slice q m e), (⟨w.heap.size + 1, 0, none⟩, .int .i64 x), (⟨w.heap.size + 1, 1, none⟩, .int .i64 v), (⟨w.heap.size + 1, 2, none⟩, .int .i64 c), (⟨w.heap.size + 1, 3, none⟩, .int .i64 z)] [] W := by
    have := ((CK.start w).cells #[.slice p n k, .slice q m e] 41 _ rfl).cells #[.int .i64 x, .int .i64 v, .int .i64 c, .int .i64 z] 30 _ rfl
    rw [hW, World.size_alloc] at this
    exact this.sub (by simp) (by simp)
  go_enter Tryz.func18, Tryz.ntmps18
  go_upto_region 1 with fail
  clear hW
  have HK := Lib.hid K0; clear K0
  refine wp_region_held_drew (S := CK w [(⟨w.heap.size, 0, none⟩, .slice p n k), (⟨w.heap.size, 1, none⟩, .slice q m e), (⟨w.heap.size + 1, 0, none⟩, .int .i64 x), (⟨w.heap.size + 1, 1, none⟩, .int .i64 v), (⟨w.heap.size + 1, 2, none⟩, .int .i64 c), (⟨w.heap.size + 1, 3, none⟩, .int .i64 z)] []) (by kernel_rfl) HK.out.drew (fun hS => ?_)
  clear HK
  refine wpAnyH_take (i := 0) (v := .agg #[.slice p n k, .slice q m e]) rfl (by kernel_rfl) (by kernel_rfl) (by kernel_rfl) (fun _ _ _ h => h) (Or.inl ⟨by rfl, ?yvb0⟩) hS ?rvb0
  case yvb0 => (intro w' hS; have cf := hS.get ⟨w.heap.size, 0, none⟩ (.slice p n k) (by simp); have cg1 := hS.get ⟨w.heap.size, 1, none⟩ (.slice q m e) (by simp); go_simp; try with_reducible rfl)
  go_simp
  refine wpAnyH_ready (rs := [1]) (by kernel_rfl) (by simp) ?_
  refine AllReadyH.cons (o := { dst := some 8, op := .call { callee := .value (.func 45), args := #[.tmp 7], argTypes := #[41] }, type := 4, pos := "beacon.go:30", after := #[⟨0, .data⟩], guard := none }) rfl (fun K hK => ?_) AllReadyH.nil
  go_simp
  go_at_call 45
  refine (RI.out _ hS.b).mono ?_
  rintro e w' ⟨rfl, b⟩
  have hS2 := hS.next b
  clear b hS
  try go_simp
  refine hK.out _ _ hS2 (fun hS => ?_)
  clear hK K hS2
  refine wpAnyH_take (i := 2) (v := ?vvb2) rfl (by kernel_rfl) (by kernel_rfl) (by kernel_rfl) (fun _ _ _ h => h) (Or.inl ⟨by rfl, ?yvb2⟩) hS ?rvb2
  case yvb2 => (intro w hS; go_simp; try with_reducible rfl)
  go_simp
  refine wpAnyH_take (i := 3) (v := .agg #[.slice p n k, .slice q m e]) rfl (by kernel_rfl) (by kernel_rfl) (by kernel_rfl) (fun _ _ _ h => h) (Or.inl ⟨by rfl, ?yvb3⟩) hS ?rvb3
  case yvb3 => (intro w' hS; have cf := hS.get ⟨w.heap.size, 0, none⟩ (.slice p n k) (by simp); have cg1 := hS.get ⟨w.heap.size, 1, none⟩ (.slice q m e) (by simp); go_simp; try with_reducible rfl)
  refine wpAnyH_take (i := 4) (v := ?vvb4) rfl (by kernel_rfl) (by kernel_rfl) (by kernel_rfl) (fun _ _ _ h => h) (Or.inl ⟨by rfl, ?yvb4⟩) hS ?rvb4
  case yvb4 => (intro w hS; go_simp; try with_reducible rfl)
  refine wpAnyH_take (i := 6) (v := .agg #[.int .i64 x, .int .i64 v, .int .i64 c, .int .i64 z]) rfl (by kernel_rfl) (by kernel_rfl) (by kernel_rfl) (fun _ _ _ h => h) (Or.inl ⟨by rfl, ?yvb6⟩) hS ?rvb6
  case yvb6 => (intro w' hS; have cf := hS.get ⟨w.heap.size + 1, 0, none⟩ (.int .i64 x) (by simp); have cg1 := hS.get ⟨w.heap.size + 1, 1, none⟩ (.int .i64 v) (by simp); have cg2 := hS.get ⟨w.heap.size + 1, 2, none⟩ (.int .i64 c) (by simp); have cg3 := hS.get ⟨w.heap.size + 1, 3, none⟩ (.int .i64 z) (by simp); go_simp; try with_reducible rfl)
  go_simp
  refine wpAnyH_ready (rs := [5]) (by kernel_rfl) (by simp) ?_
  refine AllReadyH.cons (o := { dst := some 12, op := .call { callee := .value (.func 46), args := #[.tmp 10, .tmp 11], argTypes := #[41, 3] }, type := 84, pos := "beacon.go:30", after := #[⟨3, .data⟩, ⟨4, .data⟩, ⟨2, .chain⟩, ⟨2, .guard⟩], guard := some (2, true) }) rfl (fun K hK => ?_) AllReadyH.nil
  go_simp
  go_at_call 46
  refine (VR.out _ hS.b).mono ?_
  rintro e w' ⟨⟨gn, gk, gb, rfl, hv⟩, b⟩
  have HV := Lib.hid hv; clear hv
  have hS2 := hS.next b
  clear b hS
  try go_simp
  refine hK.out _ _ hS2 (fun hS => ?_)
  clear hK K hS2
  refine wpAnyH_ready (rs := [7]) (by kernel_rfl) (by simp) ?_
  refine AllReadyH.cons (o := { dst := some 14, op := .call { callee := .value (.tmp 12), args := #[.tmp 13], argTypes := #[30] }, type := 4, pos := "beacon.go:30", after := #[⟨5, .data⟩, ⟨6, .data⟩, ⟨5, .chain⟩, ⟨2, .guard⟩], guard := some (2, true) }) rfl (fun K hK => ?_) AllReadyH.nil
  go_simp
  go_at_call 86
  refine (CL.out _ gn gk gb HV.out hS.b).mono ?_
  rintro e w' ⟨rfl, b⟩
  have hS2 := hS.next b
  clear b hS
  try go_simp
  refine hK.out _ _ hS2 (fun hS => ?_)
  clear hK K hS2
  refine wpAnyH_take (i := 8) (v := ?vvb8) rfl (by kernel_rfl) (by kernel_rfl) (by kernel_rfl) (fun _ _ _ h => h) (Or.inl ⟨by rfl, ?yvb8⟩) hS ?rvb8
  case yvb8 => (intro w hS; go_simp; try with_reducible rfl)
  go_simp
  refine wpAnyH_take (i := 9) (v := ?vvb9) rfl (by kernel_rfl) (by kernel_rfl) (by kernel_rfl) (fun _ _ _ h => h) (Or.inl ⟨by rfl, ?yvb9⟩) hS ?rvb9
  case yvb9 => (intro w hS; go_simp; try with_reducible rfl)
  refine wpAnyH_done (by kernel_rfl) ?_ _
  go_wp2
  go_ret
  exact ⟨rfl, hS.b⟩
/-- what came in as keys -/
structure KY (w : World) (p q : Option Addr) (n k m e : Nat) (C : List Int) (L : List (List Int)) : Prop where
  c : SLi w (.slice p n k) C
  l : LLi w (.slice q m e) L
  m9 : m ≤ 1000000000
theorem KY.next {w w' : World} {p q : Option Addr} {n k m e : Nat} {C : List Int} {L : List (List Int)} (h : KY w p q n k m e C L) (b : Below w.heap.size w w') : KY w' p q n k m e C L := ⟨h.c.next b, h.l.next b, h.m9⟩
open Classical in
/-- whether a partial is accepted for keys -/
noncomputable def ver (C : List Int) (L : List (List Int)) (R : Int) (s : Pa) : Bool := decide (rgt C L) && acc C (many L : Nat) R s
open Classical in
theorem ver_yes {C : List Int} {L : List (List Int)} (h : rgt C L) (R : Int) (s : Pa) : ver C L R s = acc C (many L : Nat) R s := by unfold ver; rw [decide_eq_true h, Bool.true_and]
open Classical in
theorem ver_no {C : List Int} {L : List (List Int)} (h : ¬ rgt C L) (R : Int) (s : Pa) : ver C L R s = false := by unfold ver; rw [decide_eq_false h, Bool.false_and]
open Classical in
theorem Right_t (w : World) (p q : Option Addr) (n k m e : Nat) (C : List Int) (L : List (List Int)) (h : KY w p q n k m e C L) (r : Bool) (hr : rgt C L ↔ r = true) :
    Calls Tryz.prog 45 #[.agg #[.slice p n k, .slice q m e]] w fun e w' => e = .returned (.bool r) ∧ Below w.heap.size w w' := by
  refine (Right_any w p q n k m e C L h.c h.l h.m9).mono fun e w' h2 => ⟨?_, h2.2⟩
  rw [h2.1]
  congr 2
  cases r
  · exact decide_eq_false fun x => Bool.false_ne_true (hr.1 x)
  · exact decide_eq_true (hr.2 rfl)
theorem verifier_any (w : World) (p q : Option Addr) (n k m e : Nat) (R : Int) (C : List Int) (L : List (List Int)) (h : KY w p q n k m e C L) (hR : i64 R) (hg : rgt C L) (hT : TS w) :
    Calls Tryz.prog 46 #[.agg #[.slice p n k, .slice q m e], .int .i64 R] w fun e w' => (∃ gn gk gb, e = .returned (vfn gn gk gb) ∧ VC w' gn gk gb p n k (many L : Nat) (bs R)) ∧ Below w.heap.size w w' :=
  verifier_core w p q n k m e R (bs R) (many L : Nat) (Lib.hid fun W b => Base_any W R _ rfl hR (hT.below b)) (Lib.hid fun W b => (count_any W q m e L (h.l.next b) (by have := hg.2.2.1; omega) h.m9).mono fun _ _ x => ⟨x.1, by rw [x.2]; exact Below.refl _ _⟩)
theorem Verify9 (w : World) (p q : Option Addr) (n k m e : Nat) (R : Int) (C : List Int) (L : List (List Int)) (s : Pa) (r : Bool) (hr : ver C L R s = r) (h : KY w p q n k m e C L) (hR : i64 R) (hs : pi64 s) (hT : TS w) :
    Calls Tryz.prog 18 #[.agg #[.slice p n k, .slice q m e], .int .i64 R, pav s] w fun e w' => e = .returned (.bool r) ∧ Below w.heap.size w w' := by
  by_cases hg : rgt C L
  · rw [ver_yes hg] at hr
    obtain ⟨x, v, c, z⟩ := s
    exact Verify_yes w p q n k m e R (many L : Nat) (bs R) x v c z r (Lib.hid fun W b => Right_t W p q n k m e C L (h.next b) true ⟨fun _ => rfl, fun _ => hg⟩) (Lib.hid fun W b => verifier_any W p q n k m e R C L (h.next b) hR hg (hT.below b))
      (Lib.hid fun W gn gk gb hV b => vfn_any W gn gk gb p n k (many L : Nat) R C (x, v, c, z) r hr hV (h.c.next b) (hT.below b) hs)
  · rw [ver_no hg] at hr
    subst hr
    obtain ⟨x, v, c, z⟩ := s
    exact Verify_no w p q n k m e R x v c z (Lib.hid fun W b => Right_t W p q n k m e C L (h.next b) false ⟨fun x => absurd x hg, fun x => (by cases x)⟩)
end Go.Proofs.YtbfplapjjeeceaaGreatDoor.B9
