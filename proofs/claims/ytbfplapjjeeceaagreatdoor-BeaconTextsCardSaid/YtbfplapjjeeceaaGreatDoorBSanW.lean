/-
  The walk of the law's sanity.
-/
import Derived.Test.YtbfplapjjeeceaaGreatDoorBSan
namespace Go.Proofs.YtbfplapjjeeceaaGreatDoor.B9
open Go.RowKit GM SH G4 E6 D7P Go.Maps
open W8 hiding i64 jn pX pY
theorem SLi.new9 (w : World) (l : List Int) (hr : ∀ y ∈ l, i64 y) (hn : l.length ≤ 1000000000) (cs : Array Value) (hc : cs.toList = l.map (Value.int .i64)) (t : TypeId) (n c : Nat) (hl : l.length = n) : SLi (w.alloc (.cells cs t)) (.slice (some ⟨w.heap.size, 0, none⟩) n c) l := by
  subst hl
  refine ⟨⟨_, c, rfl, fun j y hj => ⟨_, 0, rfl, ?_⟩⟩, hr, hn⟩
  rw [World.cell?_alloc_at _ _ _ _ rfl, Nat.zero_add, ← Array.getElem?_toList, hc, List.getElem?_map, hj]; rfl
theorem PaL.new (w : World) (l : List Pa) (hr : ∀ s ∈ l, pi64 s) (hn : l.length ≤ 1000000000) (cs : Array Value) (hc : cs.toList = fl4 l) (t : TypeId) (n c : Nat) (hl : l.length = n) : PaL (w.alloc (.cells cs t)) (.slice (some ⟨w.heap.size, 0, none⟩) n c) l := by
  subst hl
  have rd : ∀ i u, (fl4 l)[i]? = some u → (w.alloc (.cells cs t)).cell? ⟨w.heap.size, 0 + i, none⟩ = some u := fun i u hi => by
    rw [World.cell?_alloc_at _ _ _ _ rfl, Nat.zero_add, ← Array.getElem?_toList, hc]; exact hi
  refine ⟨⟨_, c, rfl, fun j s hj => ?_⟩, hr, hn⟩
  obtain ⟨k0, k1, k2, k3⟩ := fl4_get l j s hj
  exact ⟨_, 0, rfl, rd _ _ k0, by rw [Nat.add_assoc]; exact rd _ _ k1, by rw [Nat.add_assoc]; exact rd _ _ k2, by rw [Nat.add_assoc]; exact rd _ _ k3⟩
theorem pi_two {a b : Pa} (h1 : pi64 a) (h2 : pi64 b) : ∀ s ∈ [a, b], pi64 s := fun s hs => by
  rcases List.mem_cons.1 hs with rfl | hs
  · exact h1
  rcases List.mem_cons.1 hs with rfl | hs
  · exact h2
  cases hs
theorem pi_three {a b c : Pa} (h1 : pi64 a) (h2 : pi64 b) (h3 : pi64 c) : ∀ s ∈ [a, b, c], pi64 s := fun s hs => by
  rcases List.mem_cons.1 hs with rfl | hs
  · exact h1
  exact pi_two h2 h3 s hs
/-- what the walk keeps: the keys, a list -/
structure SN (w : World) (g c p : Nat) (v : Value) (l : List Int) (W : World) : Prop where
  b : Below w.heap.size w W
  c0 : W.cell? ⟨g, 0, none⟩ = some (.slice (some ⟨c, 0, none⟩) 2 2)
  c1 : W.cell? ⟨g, 1, none⟩ = some (.slice (some ⟨p, 0, none⟩) 2 2)
  y : KY W (some ⟨c, 0, none⟩) (some ⟨p, 0, none⟩) 2 2 2 2 CX LX
  s : SLi W v l
theorem SN.next {w W V : World} {g c p : Nat} {v : Value} {l : List Int} (h : SN w g c p v l W) (k : Below W.heap.size W V) : SN w g c p v l V :=
  ⟨h.b.trans (k.mono h.b.size), (k.cell (p := ⟨g, 0, none⟩) (World.block_lt_of_cell? _ _ h.c0)).trans h.c0, (k.cell (p := ⟨g, 1, none⟩) (World.block_lt_of_cell? _ _ h.c1)).trans h.c1, h.y.next k, h.s.next k⟩
theorem SN.drew {w W : World} {g c p : Nat} {v : Value} {l : List Int} (h : SN w g c p v l W) : SN w g c p v l W.drew := h.next (Below.refl _ W).drew
theorem nil9 (w : World) : SLi w (.slice none 0 0) [] := ⟨⟨none, 0, rfl, fun j y h => by simp at h⟩, by simp, by simp⟩
theorem two_LLi (w : World) : LLi (((w.alloc (.cells #[.int .i64 1, .int .i64 2] 3)).alloc (.cells #[.int .i64 3, .int .i64 4, .int .i64 5] 3)).alloc
    (.cells #[.slice (some ⟨w.heap.size, 0, none⟩) 2 2, .slice (some ⟨w.heap.size + 1, 0, none⟩) 3 3] 34))
    (.slice (some ⟨w.heap.size + 1 + 1, 0, none⟩) 2 2) LX := by
  have s1 := SLi.new9 w [1, 2] (by decide) (by decide) #[.int .i64 1, .int .i64 2] rfl 3 2 2 rfl
  have s2 := SLi.new9 (w.alloc (.cells #[.int .i64 1, .int .i64 2] 3)) [3, 4, 5] (by decide) (by decide) #[.int .i64 3, .int .i64 4, .int .i64 5] rfl 3 3 3 rfl
  have al := fun (W : World) (o : Obj) => (Below.refl W.heap.size W).alloc (Nat.le_refl _) o
  have t1 := (s1.next (al _ (.cells #[.int .i64 3, .int .i64 4, .int .i64 5] 3))).next (al _ (.cells #[.slice (some ⟨w.heap.size, 0, none⟩) 2 2, .slice (some ⟨w.heap.size + 1, 0, none⟩) 3 3] 34))
  have t2 := s2.next (al _ (.cells #[.slice (some ⟨w.heap.size, 0, none⟩) 2 2, .slice (some ⟨w.heap.size + 1, 0, none⟩) 3 3] 34))
  simp only [World.size_alloc] at t2
  refine ⟨_, 2, rfl, fun j l hj => ?_⟩
  have cl : ∀ (i : Nat) (v : Value), #[Value.slice (some ⟨w.heap.size, 0, none⟩) 2 2, .slice (some ⟨w.heap.size + 1, 0, none⟩) 3 3][i]? = some v → (((w.alloc (.cells #[.int .i64 1, .int .i64 2] 3)).alloc (.cells #[.int .i64 3, .int .i64 4, .int .i64 5] 3)).alloc (.cells #[Value.slice (some ⟨w.heap.size, 0, none⟩) 2 2, .slice (some ⟨w.heap.size + 1, 0, none⟩) 3 3] 34)).cell? ⟨w.heap.size + 1 + 1, 0 + i, none⟩ = some v := fun i v hi => by
    rw [World.cell?_alloc_at _ _ _ _ (by simp only [World.size_alloc]), Nat.zero_add]; exact hi
  match j, hj with
  | 0, hj =>
    have : [1, 2] = l := by simpa [LX] using hj
    subst this
    exact ⟨_, 0, _, rfl, cl 0 _ rfl, t1⟩
  | 1, hj =>
    have : [3, 4, 5] = l := by simpa [LX] using hj
    subst this
    exact ⟨_, 0, _, rfl, cl 1 _ rfl, t2⟩
  | k+2, hj => simp [LX] at hj
theorem sn_start (w w1 : World) (b : Below w.heap.size w w1) : SN w (w1.heap.size + 1 + 1 + 1 + 1) w1.heap.size (w1.heap.size + 1 + 1 + 1) (.slice none 0 0) []
    (((((w1.alloc (.cells #[.int .i64 1024, .int .i64 16] 3)).alloc (.cells #[.int .i64 1, .int .i64 2] 3)).alloc (.cells #[.int .i64 3, .int .i64 4, .int .i64 5] 3)).alloc (.cells #[.slice (some ⟨w1.heap.size + 1, 0, none⟩) 2 2, .slice (some ⟨w1.heap.size + 1 + 1, 0, none⟩) 3 3] 34)).alloc (.cells #[.slice (some ⟨w1.heap.size, 0, none⟩) 2 2, .slice (some ⟨w1.heap.size + 1 + 1 + 1, 0, none⟩) 2 2] 41)) := by
  have al := fun (W : World) (o : Obj) => (Below.refl W.heap.size W).alloc (Nat.le_refl _) o
  have s1 := SLi.new9 w1 CX (by decide) (by decide) #[.int .i64 1024, .int .i64 16] rfl 3 2 2 rfl
  have l1 := two_LLi (w1.alloc (.cells #[.int .i64 1024, .int .i64 16] 3))
  simp only [World.size_alloc] at l1
  have a1 := al w1 (.cells #[.int .i64 1024, .int .i64 16] 3)
  generalize hA : w1.alloc (.cells #[.int .i64 1024, .int .i64 16] 3) = A at *
  have a2 := al A (.cells #[.int .i64 1, .int .i64 2] 3)
  generalize hB : A.alloc (.cells #[.int .i64 1, .int .i64 2] 3) = B at *
  have a3 := al B (.cells #[.int .i64 3, .int .i64 4, .int .i64 5] 3)
  generalize hC : B.alloc (.cells #[.int .i64 3, .int .i64 4, .int .i64 5] 3) = C at *
  have a4 := al C (.cells #[.slice (some ⟨w1.heap.size + 1, 0, none⟩) 2 2, .slice (some ⟨w1.heap.size + 1 + 1, 0, none⟩) 3 3] 34)
  generalize hD : C.alloc (.cells #[.slice (some ⟨w1.heap.size + 1, 0, none⟩) 2 2, .slice (some ⟨w1.heap.size + 1 + 1, 0, none⟩) 3 3] 34) = D at *
  have a5 := al D (.cells #[.slice (some ⟨w1.heap.size, 0, none⟩) 2 2, .slice (some ⟨w1.heap.size + 1 + 1 + 1, 0, none⟩) 2 2] 41)
  have hs : D.heap.size = w1.heap.size + 1 + 1 + 1 + 1 := by rw [← hD, World.size_alloc, ← hC, World.size_alloc, ← hB, World.size_alloc, ← hA, World.size_alloc]
  refine ⟨b.trans (((a1.trans (a2.mono a1.size)).trans (((a3.trans (a4.mono a3.size)).trans (a5.mono (a3.trans (a4.mono a3.size)).size)).mono (a1.trans (a2.mono a1.size)).size)).mono b.size), ?_, ?_, ⟨(((s1.next a2).next a3).next a4).next a5, l1.next a5, by decide⟩, nil9 _⟩
  · rw [World.cell?_alloc_at _ _ _ _ hs.symm]; rfl
  · rw [World.cell?_alloc_at _ _ _ _ hs.symm]; rfl
set_option maxRecDepth 100000 in
theorem ev3_core (w : World) (x y a b c d : Int)
    (EV : Hid (∀ W, Below w.heap.size w W → Calls Tryz.prog 14 #[.agg #[.int .i64 x, .int .i64 y], .int .i64 3] W fun e w' => e = .returned (.agg #[.int .i64 a, .int .i64 b, .int .i64 c, .int .i64 d]) ∧ Below W.heap.size W w')) :
    Calls Tryz.prog 33 #[.int .i64 x, .int .i64 y] w fun e w' => e = .returned (.agg #[.int .i64 a, .int .i64 b, .int .i64 c, .int .i64 d]) ∧ Below w.heap.size w w' := by
  obtain ⟨W, hW⟩ : ∃ W, w.alloc (.cells #[.int .i64 0, .int .i64 0, .int .i64 0, .int .i64 0] 30) = W := ⟨_, rfl⟩
  have hm : W.heap[w.heap.size]? = some (.cells #[.int .i64 0, .int .i64 0, .int .i64 0, .int .i64 0] 30 (0, 0)) := by rw [← hW]; exact heap_alloc_new _ _
  have hb : Below w.heap.size w W := by rw [← hW]; exact (Below.refl _ _).alloc (Nat.le_refl _) _
  have HM := Lib.hid (And.intro hm hb); clear hm hb
  go_enter Tryz.func33, Tryz.ntmps33
  go_upto_region 1 with fail
  clear hW
  go_wp2_with fail
  refine (EV.out _ HM.out.2).mono ?_
  rintro e w1 ⟨rfl, b1⟩
  have hm1 := (b1.block _ (Array.getElem?_eq_some_iff.1 HM.out.1).1).trans HM.out.1
  have HB := Lib.hid (HM.out.2.trans (b1.mono HM.out.2.size)); clear b1 HM
  go_wp2_with (refine wpList_store_row rfl 30 (.tmp 4) (.tmp 8) rfl w.heap.size #[.int .i64 a, .int .i64 b, .int .i64 c, .int .i64 d] rfl rfl 30 _ hm1 (infoPa a b c d).out (pa_size _ _ _ _ _ _ _ _) (pa_one _ _ _ _) ?_)
  refine bodyPost_ret (results_cell_row rfl _ _ w.heap.size _ #[.int .i64 a, .int .i64 b, .int .i64 c, .int .i64 d] _ _ rfl (setRow_heap _ _ _ _ _ _ hm1) Tryz.underlying30 rfl (infoPa a b c d).out) rfl ?_
  exact ⟨rfl, Below.setRow' HB.out (Nat.le_refl _) _⟩
set_option maxRecDepth 100000 in
set_option maxHeartbeats 8000000 in
theorem sanity_core (w : World) (bb want : Int) (a0 a1 a2 a3 b0 b1 b2 b3 c0 c1 c2 c3 d0 d1 d2 d3 f0 f1 f2 f3 : Int)
    (ha : pi64 (a0, a1, a2, a3)) (hb : pi64 (b0, b1, b2, b3)) (hc : pi64 (c0, c1, c2, c3)) (hd : pi64 (d0, d1, d2, d3))
    (BT : Hid (∀ W, Below w.heap.size w W → TS W))
    (PW1 : Hid (∀ W, Calls Tryz.prog 21 #[.int .i64 4, .int .i64 5, .int .i64 2305843009213691579] W fun e w' => e = .returned (.int .i64 1024) ∧ Below W.heap.size W w'))
    (BA : Hid (∀ W, Below w.heap.size w W → Calls Tryz.prog 12 #[.int .i64 3] W fun e w' => e = .returned (.int .i64 bb) ∧ Below W.heap.size W w'))
    (PW2 : Hid (∀ W, Calls Tryz.prog 21 #[.int .i64 bb, .int .i64 5, .int .i64 2305843009213691579] W fun e w' => e = .returned (.int .i64 want) ∧ Below W.heap.size W w'))
    (EVa : Hid (∀ W, Below w.heap.size w W → Calls Tryz.prog 33 #[.int .i64 1, .int .i64 7] W fun e w' => e = .returned (.agg #[.int .i64 a0, .int .i64 a1, .int .i64 a2, .int .i64 a3]) ∧ Below W.heap.size W w'))
    (EVb : Hid (∀ W, Below w.heap.size w W → Calls Tryz.prog 33 #[.int .i64 4, .int .i64 13] W fun e w' => e = .returned (.agg #[.int .i64 b0, .int .i64 b1, .int .i64 b2, .int .i64 b3]) ∧ Below W.heap.size W w'))
    (EVc : Hid (∀ W, Below w.heap.size w W → Calls Tryz.prog 33 #[.int .i64 2, .int .i64 10] W fun e w' => e = .returned (.agg #[.int .i64 c0, .int .i64 c1, .int .i64 c2, .int .i64 c3]) ∧ Below W.heap.size W w'))
    (EVd : Hid (∀ W, Below w.heap.size w W → Calls Tryz.prog 33 #[.int .i64 2, .int .i64 9] W fun e w' => e = .returned (.agg #[.int .i64 d0, .int .i64 d1, .int .i64 d2, .int .i64 d3]) ∧ Below W.heap.size W w'))
    (EVf : Hid (∀ W, Below w.heap.size w W → Calls Tryz.prog 33 #[.int .i64 1, .int .i64 8] W fun e w' => e = .returned (.agg #[.int .i64 f0, .int .i64 f1, .int .i64 f2, .int .i64 f3]) ∧ Below W.heap.size W w'))
    (EVz : Hid (∀ W, Below w.heap.size w W → Calls Tryz.prog 33 #[.int .i64 0, .int .i64 1] W fun e w' => e = .returned (.agg #[.int .i64 0, .int .i64 0, .int .i64 0, .int .i64 0]) ∧ Below W.heap.size W w'))
    (CO1 : Hid (∀ (c p : Nat) W v, PaL W v [(a0, a1, a2, a3), (b0, b1, b2, b3)] → KY W (some ⟨c, 0, none⟩) (some ⟨p, 0, none⟩) 2 2 2 2 CX LX → TS W → Calls Tryz.prog 23 #[.agg #[.slice (some ⟨c, 0, none⟩) 2 2, .slice (some ⟨p, 0, none⟩) 2 2], .int .i64 3, v] W fun e w' => (∃ bv, e = .returned (.tuple #[.int .i64 want, bv, .int .i64 0]) ∧ SLi w' bv []) ∧ Below W.heap.size W w'))
    (CO2 : Hid (∀ (c p : Nat) W v, PaL W v [(a0, a1, a2, a3), (c0, c1, c2, c3), (d0, d1, d2, d3)] → KY W (some ⟨c, 0, none⟩) (some ⟨p, 0, none⟩) 2 2 2 2 CX LX → TS W → Calls Tryz.prog 23 #[.agg #[.slice (some ⟨c, 0, none⟩) 2 2, .slice (some ⟨p, 0, none⟩) 2 2], .int .i64 3, v] W fun e w' => (∃ bv, e = .returned (.tuple #[.int .i64 want, bv, .int .i64 0]) ∧ SLi w' bv [2]) ∧ Below W.heap.size W w'))
    (CO3 : Hid (∀ (c p : Nat) W v, PaL W v [(a0, a1, a2, a3), (a0, a1, a2, a3)] → KY W (some ⟨c, 0, none⟩) (some ⟨p, 0, none⟩) 2 2 2 2 CX LX → TS W → Calls Tryz.prog 23 #[.agg #[.slice (some ⟨c, 0, none⟩) 2 2, .slice (some ⟨p, 0, none⟩) 2 2], .int .i64 3, v] W fun e w' => (∃ bv, e = .returned (.tuple #[.int .i64 0, bv, .int .i64 24]) ∧ SLi w' bv []) ∧ Below W.heap.size W w'))
    (VE1 : Hid (∀ (c p : Nat) W, KY W (some ⟨c, 0, none⟩) (some ⟨p, 0, none⟩) 2 2 2 2 CX LX → TS W → Calls Tryz.prog 18 #[.agg #[.slice (some ⟨c, 0, none⟩) 2 2, .slice (some ⟨p, 0, none⟩) 2 2], .int .i64 3, .agg #[.int .i64 a0, .int .i64 a1, .int .i64 a2, .int .i64 a3]] W fun e w' => e = .returned (.bool true) ∧ Below W.heap.size W w'))
    (VE2 : Hid (∀ (c p : Nat) W, KY W (some ⟨c, 0, none⟩) (some ⟨p, 0, none⟩) 2 2 2 2 CX LX → TS W → Calls Tryz.prog 18 #[.agg #[.slice (some ⟨c, 0, none⟩) 2 2, .slice (some ⟨p, 0, none⟩) 2 2], .int .i64 3, .agg #[.int .i64 f0, .int .i64 f1, .int .i64 f2, .int .i64 f3]] W fun e w' => e = .returned (.bool false) ∧ Below W.heap.size W w'))
    (IN : Hid (∀ W v u, SLi W v [2] → SLi W u [2] → Calls Tryz.prog 27 #[v, u] W fun e w' => e = .returned (.bool true) ∧ Below W.heap.size W w'))
    (TX : Hid (∀ W, Below w.heap.size w W → Calls Tryz.prog 28 #[.agg #[.int .i64 0, .int .i64 0, .int .i64 0, .int .i64 0]] W fun e w' => e = .returned (.string ⟨#[48, 32, 48, 32, 48, 32, 48]⟩) ∧ Below W.heap.size W w')) :
    Calls Tryz.prog 10 #[] w fun e w' => e = .returned (.bool true) ∧ Below w.heap.size w w' := by
  have HB := Lib.hid (Below.refl w.heap.size w)
  go_enter Tryz.func10, Tryz.ntmps10
  go_wp2_with fail
  refine (PW1.out _).mono ?_
  rintro e w1 ⟨rfl, b1⟩
  have HS := Lib.hid (sn_start w w1 b1)
  clear b1 HB
  go_upto_region 2 with fail
  obtain ⟨W2, hW2⟩ : ∃ V, (((((w1.alloc (.cells #[.int .i64 1024, .int .i64 16] 3)).alloc (.cells #[.int .i64 1, .int .i64 2] 3)).alloc (.cells #[.int .i64 3, .int .i64 4, .int .i64 5] 3)).alloc (.cells #[.slice (some ⟨w1.heap.size + 1, 0, none⟩) 2 2, .slice (some ⟨w1.heap.size + 1 + 1, 0, none⟩) 3 3] 34)).alloc (.cells #[.slice (some ⟨w1.heap.size, 0, none⟩) 2 2, .slice (some ⟨w1.heap.size + 1 + 1 + 1, 0, none⟩) 2 2] 41)) = V := ⟨_, rfl⟩
  rw [hW2] at HS ⊢
  obtain ⟨g, hg⟩ : ∃ g, w1.heap.size + 1 + 1 + 1 + 1 = g := ⟨_, rfl⟩
  obtain ⟨p, hp⟩ : ∃ p, w1.heap.size + 1 + 1 + 1 = p := ⟨_, rfl⟩
  obtain ⟨c, hc9⟩ : ∃ c, w1.heap.size = c := ⟨_, rfl⟩
  rw [hg, hp, hc9] at HS
  try rw [hg]
  clear hW2 hg hp hc9
  go_wp2_with fail
  refine (BA.out _ HS.out.b).mono ?_
  rintro e w2 ⟨rfl, b2⟩
  replace HS := Lib.hid (HS.out.next b2); clear b2
  go_wp2_with fail
  refine (PW2.out _).mono ?_
  rintro e w3 ⟨rfl, b3⟩
  replace HS := Lib.hid (HS.out.next b3); clear b3
  go_upto_region 4 with fail
  refine wp_region_held_drew (S := SN w g c p (.slice none 0 0) []) (by kernel_rfl) HS.out.drew (fun hS => ?_)
  clear HS
  generalize World.drew w3 = w' at hS ⊢
  refine wpAnyH_take (i := 0) (v := .agg #[.slice (some ⟨c, 0, none⟩) 2 2, .slice (some ⟨p, 0, none⟩) 2 2]) rfl (by kernel_rfl) (by kernel_rfl) (by kernel_rfl) (fun _ _ _ h => h) (Or.inl ⟨by rfl, ?yqa0⟩) hS ?rqa0
  case yqa0 => (intro w' hS; have cf := hS.c0; have cg1 := hS.c1; go_simp; try with_reducible rfl)
  refine wpAnyH_take (i := 1) (v := ?vqa1) rfl (by kernel_rfl) (by kernel_rfl) (by kernel_rfl) (fun _ _ _ h => h) (Or.inl ⟨by rfl, ?yqa1⟩) hS ?rqa1
  case yqa1 => (intro w hS; go_simp; try with_reducible rfl)
  refine wpAnyH_take (i := 3) (v := ?vqa3) rfl (by kernel_rfl) (by kernel_rfl) (by kernel_rfl) (fun _ _ _ h => h) (Or.inl ⟨by rfl, ?yqa3⟩) hS ?rqa3
  case yqa3 => (intro w hS; go_simp; try with_reducible rfl)
  go_simp
  refine wpAnyH_ready (rs := [2]) (by kernel_rfl) (by simp) ?_
  refine AllReadyH.cons (o := { dst := some 25, op := .call { callee := .value (.tmp 24), args := #[.const (.int .i64 1), .const (.int .i64 7)], argTypes := #[3, 3] }, type := 30, pos := "law.go:18", after := #[⟨1, .data⟩], guard := none }) rfl (fun K hK => ?_) AllReadyH.nil
  go_simp
  go_at_call 33
  refine (EVa.out _ hS.b).mono ?_
  rintro e w' ⟨rfl, b⟩
  have hS2 := hS.next b
  clear b hS
  try go_simp
  refine hK.out _ _ hS2 (fun hS => ?_)
  clear hK K hS2
  refine wpAnyH_ready (rs := [4]) (by kernel_rfl) (by simp) ?_
  refine AllReadyH.cons (o := { dst := some 27, op := .call { callee := .value (.tmp 26), args := #[.const (.int .i64 4), .const (.int .i64 13)], argTypes := #[3, 3] }, type := 30, pos := "law.go:18", after := #[⟨3, .data⟩, ⟨2, .chain⟩], guard := none }) rfl (fun K hK => ?_) AllReadyH.nil
  go_simp
  go_at_call 33
  refine (EVb.out _ hS.b).mono ?_
  rintro e w' ⟨rfl, b⟩
  have hS2 := hS.next b
  clear b hS
  try go_simp
  refine hK.out _ _ hS2 (fun hS => ?_)
  clear hK K hS2
  refine wpAnyH_ready (rs := [5]) (by kernel_rfl) (by simp) ?_
  refine AllReadyH.cons (o := { dst := some 28, op := .buildSlice 44 2 #[(0, .tmp 25), (1, .tmp 27)], type := 44, pos := "law.go:18", after := #[⟨2, .data⟩, ⟨4, .data⟩], guard := none }) rfl (fun K hK => ?_) AllReadyH.nil
  go_simp
  have hP := PaL.new w' [(a0, a1, a2, a3), (b0, b1, b2, b3)] (pi_two ha hb) (by simp) #[.int .i64 a0, .int .i64 a1, .int .i64 a2, .int .i64 a3, .int .i64 b0, .int .i64 b1, .int .i64 b2, .int .i64 b3] rfl 30 2 2 rfl
  have hS2 := hS.next ((Below.refl _ w').alloc (Nat.le_refl _) (.cells #[.int .i64 a0, .int .i64 a1, .int .i64 a2, .int .i64 a3, .int .i64 b0, .int .i64 b1, .int .i64 b2, .int .i64 b3] 30))
  clear hS
  refine hK.out _ _ hS2 (fun hS => ?_)
  clear hK K hS2
  obtain ⟨g9, hg9⟩ : ∃ g, w'.heap.size = g := ⟨_, rfl⟩
  rw [hg9] at hP ⊢
  clear hg9
  obtain ⟨w', hV9⟩ : ∃ V, w'.alloc (.cells #[.int .i64 a0, .int .i64 a1, .int .i64 a2, .int .i64 a3, .int .i64 b0, .int .i64 b1, .int .i64 b2, .int .i64 b3] 30) = V := ⟨_, rfl⟩
  rw [hV9] at hS hP ⊢
  clear hV9
  have HP := Lib.hid hP; clear hP
  refine wpAnyH_ready (rs := [6]) (by kernel_rfl) (by simp) ?_
  refine AllReadyH.cons (o := { dst := some 29, op := .call { callee := .value (.func 23), args := #[.tmp 23, .const (.int .i64 3), .tmp 28], argTypes := #[41, 3, 44] }, type := 54, pos := "law.go:18", after := #[⟨0, .data⟩, ⟨5, .data⟩, ⟨4, .chain⟩], guard := none }) rfl (fun K hK => ?_) AllReadyH.nil
  go_simp
  go_at_call 23
  refine (CO1.out c p _ _ HP.out hS.y (BT.out _ hS.b)).mono ?_
  rintro e w' ⟨⟨bv1, rfl, hb1⟩, b⟩
  obtain ⟨⟨p1, k1, rfl, _⟩, _, _⟩ := hb1
  have hS2 := hS.next b
  clear b hS
  try go_simp
  refine hK.out _ _ hS2 (fun hS => ?_)
  clear hK K hS2
  refine wpAnyH_take (i := 7) (v := ?vqa7) rfl (by kernel_rfl) (by kernel_rfl) (by kernel_rfl) (fun _ _ _ h => h) (Or.inl ⟨by rfl, ?yqa7⟩) hS ?rqa7
  case yqa7 => (intro w hS; go_simp; try with_reducible rfl)
  go_simp
  refine wpAnyH_take (i := 8) (v := ?vqa8) rfl (by kernel_rfl) (by kernel_rfl) (by kernel_rfl) (fun _ _ _ h => h) (Or.inl ⟨by rfl, ?yqa8⟩) hS ?rqa8
  case yqa8 => (intro w hS; go_simp; try with_reducible rfl)
  refine wpAnyH_take (i := 9) (v := ?vqa9) rfl (by kernel_rfl) (by kernel_rfl) (by kernel_rfl) (fun _ _ _ h => h) (Or.inl ⟨by rfl, ?yqa9⟩) hS ?rqa9
  case yqa9 => (intro w hS; go_simp; try with_reducible rfl)
  refine wpAnyH_take (i := 10) (v := ?vqa10) rfl (by kernel_rfl) (by kernel_rfl) (by kernel_rfl) (fun _ _ _ h => h) (Or.inl ⟨by rfl, ?yqa10⟩) hS ?rqa10
  case yqa10 => (intro w hS; go_simp; try with_reducible rfl)
  go_simp
  refine wpAnyH_take (i := 11) (v := ?vqa11) rfl (by kernel_rfl) (by kernel_rfl) (by kernel_rfl) (fun _ _ _ h => h) (Or.inl ⟨by rfl, ?yqa11⟩) hS ?rqa11
  case yqa11 => (intro w hS; go_simp; try with_reducible rfl)
  go_simp
  refine wpAnyH_take (i := 12) (v := ?vqa12) rfl (by kernel_rfl) (by kernel_rfl) (by kernel_rfl) (fun _ _ _ h => h) (Or.inl ⟨by rfl, ?yqa12⟩) hS ?rqa12
  case yqa12 => (intro w hS; go_simp; try with_reducible rfl)
  go_simp
  refine wpAnyH_take (i := 13) (v := ?vqa13) rfl (by kernel_rfl) (by kernel_rfl) (by kernel_rfl) (fun _ _ _ h => h) (Or.inl ⟨by rfl, ?yqa13⟩) hS ?rqa13
  case yqa13 => (intro w hS; go_simp; try with_reducible rfl)
  refine wpAnyH_done (by kernel_rfl) ?_ _
  have HS := Lib.hid hS; clear hS
  go_upto_region 5 with fail
  refine wp_region_held_drew (S := SN w g c p (.slice none 0 0) []) (by kernel_rfl) HS.out.drew (fun hS => ?_)
  clear HS
  generalize World.drew w' = w' at hS ⊢
  refine wpAnyH_take (i := 0) (v := .agg #[.slice (some ⟨c, 0, none⟩) 2 2, .slice (some ⟨p, 0, none⟩) 2 2]) rfl (by kernel_rfl) (by kernel_rfl) (by kernel_rfl) (fun _ _ _ h => h) (Or.inl ⟨by rfl, ?yqb0⟩) hS ?rqb0
  case yqb0 => (intro w' hS; have cf := hS.c0; have cg1 := hS.c1; go_simp; try with_reducible rfl)
  refine wpAnyH_take (i := 1) (v := ?vqb1) rfl (by kernel_rfl) (by kernel_rfl) (by kernel_rfl) (fun _ _ _ h => h) (Or.inl ⟨by rfl, ?yqb1⟩) hS ?rqb1
  case yqb1 => (intro w hS; go_simp; try with_reducible rfl)
  refine wpAnyH_take (i := 3) (v := ?vqb3) rfl (by kernel_rfl) (by kernel_rfl) (by kernel_rfl) (fun _ _ _ h => h) (Or.inl ⟨by rfl, ?yqb3⟩) hS ?rqb3
  case yqb3 => (intro w hS; go_simp; try with_reducible rfl)
  refine wpAnyH_take (i := 5) (v := ?vqb5) rfl (by kernel_rfl) (by kernel_rfl) (by kernel_rfl) (fun _ _ _ h => h) (Or.inl ⟨by rfl, ?yqb5⟩) hS ?rqb5
  case yqb5 => (intro w hS; go_simp; try with_reducible rfl)
  go_simp
  refine wpAnyH_ready (rs := [2]) (by kernel_rfl) (by simp) ?_
  refine AllReadyH.cons (o := { dst := some 36, op := .call { callee := .value (.tmp 35), args := #[.const (.int .i64 1), .const (.int .i64 7)], argTypes := #[3, 3] }, type := 30, pos := "law.go:19", after := #[⟨1, .data⟩], guard := none }) rfl (fun K hK => ?_) AllReadyH.nil
  go_simp
  go_at_call 33
  refine (EVa.out _ hS.b).mono ?_
  rintro e w' ⟨rfl, b⟩
  have hS2 := hS.next b
  clear b hS
  try go_simp
  refine hK.out _ _ hS2 (fun hS => ?_)
  clear hK K hS2
  refine wpAnyH_ready (rs := [4]) (by kernel_rfl) (by simp) ?_
  refine AllReadyH.cons (o := { dst := some 38, op := .call { callee := .value (.tmp 37), args := #[.const (.int .i64 2), .const (.int .i64 10)], argTypes := #[3, 3] }, type := 30, pos := "law.go:19", after := #[⟨3, .data⟩, ⟨2, .chain⟩], guard := none }) rfl (fun K hK => ?_) AllReadyH.nil
  go_simp
  go_at_call 33
  refine (EVc.out _ hS.b).mono ?_
  rintro e w' ⟨rfl, b⟩
  have hS2 := hS.next b
  clear b hS
  try go_simp
  refine hK.out _ _ hS2 (fun hS => ?_)
  clear hK K hS2
  refine wpAnyH_ready (rs := [6]) (by kernel_rfl) (by simp) ?_
  refine AllReadyH.cons (o := { dst := some 40, op := .call { callee := .value (.tmp 39), args := #[.const (.int .i64 2), .const (.int .i64 9)], argTypes := #[3, 3] }, type := 30, pos := "law.go:19", after := #[⟨5, .data⟩, ⟨4, .chain⟩], guard := none }) rfl (fun K hK => ?_) AllReadyH.nil
  go_simp
  go_at_call 33
  refine (EVd.out _ hS.b).mono ?_
  rintro e w' ⟨rfl, b⟩
  have hS2 := hS.next b
  clear b hS
  try go_simp
  refine hK.out _ _ hS2 (fun hS => ?_)
  clear hK K hS2
  refine wpAnyH_ready (rs := [7]) (by kernel_rfl) (by simp) ?_
  refine AllReadyH.cons (o := { dst := some 41, op := .buildSlice 44 3 #[(0, .tmp 36), (1, .tmp 38), (2, .tmp 40)], type := 44, pos := "law.go:19", after := #[⟨2, .data⟩, ⟨4, .data⟩, ⟨6, .data⟩], guard := none }) rfl (fun K hK => ?_) AllReadyH.nil
  go_simp
  have hP := PaL.new w' [(a0, a1, a2, a3), (c0, c1, c2, c3), (d0, d1, d2, d3)] (pi_three ha hc hd) (by simp) #[.int .i64 a0, .int .i64 a1, .int .i64 a2, .int .i64 a3, .int .i64 c0, .int .i64 c1, .int .i64 c2, .int .i64 c3, .int .i64 d0, .int .i64 d1, .int .i64 d2, .int .i64 d3] rfl 30 3 3 rfl
  have hS2 := hS.next ((Below.refl _ w').alloc (Nat.le_refl _) (.cells #[.int .i64 a0, .int .i64 a1, .int .i64 a2, .int .i64 a3, .int .i64 c0, .int .i64 c1, .int .i64 c2, .int .i64 c3, .int .i64 d0, .int .i64 d1, .int .i64 d2, .int .i64 d3] 30))
  clear hS
  refine hK.out _ _ hS2 (fun hS => ?_)
  clear hK K hS2
  obtain ⟨g9, hg9⟩ : ∃ g, w'.heap.size = g := ⟨_, rfl⟩
  rw [hg9] at hP ⊢
  clear hg9
  obtain ⟨w', hV9⟩ : ∃ V, w'.alloc (.cells #[.int .i64 a0, .int .i64 a1, .int .i64 a2, .int .i64 a3, .int .i64 c0, .int .i64 c1, .int .i64 c2, .int .i64 c3, .int .i64 d0, .int .i64 d1, .int .i64 d2, .int .i64 d3] 30) = V := ⟨_, rfl⟩
  rw [hV9] at hS hP ⊢
  clear hV9
  have HP := Lib.hid hP; clear hP
  refine wpAnyH_ready (rs := [8]) (by kernel_rfl) (by simp) ?_
  refine AllReadyH.cons (o := { dst := some 42, op := .call { callee := .value (.func 23), args := #[.tmp 34, .const (.int .i64 3), .tmp 41], argTypes := #[41, 3, 44] }, type := 54, pos := "law.go:19", after := #[⟨0, .data⟩, ⟨7, .data⟩, ⟨6, .chain⟩], guard := none }) rfl (fun K hK => ?_) AllReadyH.nil
  go_simp
  go_at_call 23
  refine (CO2.out c p _ _ HP.out hS.y (BT.out _ hS.b)).mono ?_
  rintro e w' ⟨⟨bv2, rfl, hb2⟩, b⟩
  have HB2 := Lib.hid hb2; clear hb2
  have hS2 := hS.next b
  clear b hS
  try go_simp
  refine hK.out _ _ hS2 (fun hS => ?_)
  clear hK K hS2
  refine wpAnyH_take (i := 9) (v := ?vqb9) rfl (by kernel_rfl) (by kernel_rfl) (by kernel_rfl) (fun _ _ _ h => h) (Or.inl ⟨by rfl, ?yqb9⟩) hS ?rqb9
  case yqb9 => (intro w hS; go_simp; try with_reducible rfl)
  go_simp
  refine wpAnyH_take (i := 10) (v := ?vqb10) rfl (by kernel_rfl) (by kernel_rfl) (by kernel_rfl) (fun _ _ _ h => h) (Or.inl ⟨by rfl, ?yqb10⟩) hS ?rqb10
  case yqb10 => (intro w hS; go_simp; try with_reducible rfl)
  refine wpAnyH_take (i := 11) (v := ?vqb11) rfl (by kernel_rfl) (by kernel_rfl) (by kernel_rfl) (fun _ _ _ h => h) (Or.inl ⟨by rfl, ?yqb11⟩) hS ?rqb11
  case yqb11 => (intro w hS; go_simp; try with_reducible rfl)
  refine wpAnyH_take (i := 12) (v := ?vqb12) rfl (by kernel_rfl) (by kernel_rfl) (by kernel_rfl) (fun _ _ _ h => h) (Or.inl ⟨by rfl, ?yqb12⟩) hS ?rqb12
  case yqb12 => (intro w hS; go_simp; try with_reducible rfl)
  go_simp
  refine wpAnyH_take (i := 13) (v := ?vqb13) rfl (by kernel_rfl) (by kernel_rfl) (by kernel_rfl) (fun _ _ _ h => h) (Or.inl ⟨by rfl, ?yqb13⟩) hS ?rqb13
  case yqb13 => (intro w hS; go_simp; try with_reducible rfl)
  go_simp
  refine wpAnyH_take (i := 14) (v := ?vqb14) rfl (by kernel_rfl) (by kernel_rfl) (by kernel_rfl) (fun _ _ _ h => h) (Or.inl ⟨by rfl, ?yqb14⟩) hS ?rqb14
  case yqb14 => (intro w hS; go_simp; try with_reducible rfl)
  go_simp
  refine wpAnyH_take (i := 15) (v := ?vqb15) rfl (by kernel_rfl) (by kernel_rfl) (by kernel_rfl) (fun _ _ _ h => h) (Or.inl ⟨by rfl, ?yqb15⟩) hS ?rqb15
  case yqb15 => (intro w hS; go_simp; try with_reducible rfl)
  refine wpAnyH_done (by kernel_rfl) ?_ _
  have HS : Hid (SN w g c p bv2 [2] w') := Lib.hid ⟨hS.b, hS.c0, hS.c1, hS.y, HB2.out⟩
  clear hS HB2
  go_upto_region 6 with fail
  refine wp_region_held_drew (S := SN w g c p (bv2) [2]) (by kernel_rfl) HS.out.drew (fun hS => ?_)
  clear HS
  generalize World.drew w' = w' at hS ⊢
  refine wpAnyH_take (i := 0) (v := .agg #[.slice (some ⟨c, 0, none⟩) 2 2, .slice (some ⟨p, 0, none⟩) 2 2]) rfl (by kernel_rfl) (by kernel_rfl) (by kernel_rfl) (fun _ _ _ h => h) (Or.inl ⟨by rfl, ?yqc0⟩) hS ?rqc0
  case yqc0 => (intro w' hS; have cf := hS.c0; have cg1 := hS.c1; go_simp; try with_reducible rfl)
  refine wpAnyH_take (i := 1) (v := ?vqc1) rfl (by kernel_rfl) (by kernel_rfl) (by kernel_rfl) (fun _ _ _ h => h) (Or.inl ⟨by rfl, ?yqc1⟩) hS ?rqc1
  case yqc1 => (intro w hS; go_simp; try with_reducible rfl)
  refine wpAnyH_take (i := 3) (v := ?vqc3) rfl (by kernel_rfl) (by kernel_rfl) (by kernel_rfl) (fun _ _ _ h => h) (Or.inl ⟨by rfl, ?yqc3⟩) hS ?rqc3
  case yqc3 => (intro w hS; go_simp; try with_reducible rfl)
  go_simp
  refine wpAnyH_ready (rs := [2]) (by kernel_rfl) (by simp) ?_
  refine AllReadyH.cons (o := { dst := some 49, op := .call { callee := .value (.tmp 48), args := #[.const (.int .i64 1), .const (.int .i64 7)], argTypes := #[3, 3] }, type := 30, pos := "law.go:20", after := #[⟨1, .data⟩], guard := none }) rfl (fun K hK => ?_) AllReadyH.nil
  go_simp
  go_at_call 33
  refine (EVa.out _ hS.b).mono ?_
  rintro e w' ⟨rfl, b⟩
  have hS2 := hS.next b
  clear b hS
  try go_simp
  refine hK.out _ _ hS2 (fun hS => ?_)
  clear hK K hS2
  refine wpAnyH_ready (rs := [4]) (by kernel_rfl) (by simp) ?_
  refine AllReadyH.cons (o := { dst := some 51, op := .call { callee := .value (.tmp 50), args := #[.const (.int .i64 1), .const (.int .i64 7)], argTypes := #[3, 3] }, type := 30, pos := "law.go:20", after := #[⟨3, .data⟩, ⟨2, .chain⟩], guard := none }) rfl (fun K hK => ?_) AllReadyH.nil
  go_simp
  go_at_call 33
  refine (EVa.out _ hS.b).mono ?_
  rintro e w' ⟨rfl, b⟩
  have hS2 := hS.next b
  clear b hS
  try go_simp
  refine hK.out _ _ hS2 (fun hS => ?_)
  clear hK K hS2
  refine wpAnyH_ready (rs := [5]) (by kernel_rfl) (by simp) ?_
  refine AllReadyH.cons (o := { dst := some 52, op := .buildSlice 44 2 #[(0, .tmp 49), (1, .tmp 51)], type := 44, pos := "law.go:20", after := #[⟨2, .data⟩, ⟨4, .data⟩], guard := none }) rfl (fun K hK => ?_) AllReadyH.nil
  go_simp
  have hP := PaL.new w' [(a0, a1, a2, a3), (a0, a1, a2, a3)] (pi_two ha ha) (by simp) #[.int .i64 a0, .int .i64 a1, .int .i64 a2, .int .i64 a3, .int .i64 a0, .int .i64 a1, .int .i64 a2, .int .i64 a3] rfl 30 2 2 rfl
  have hS2 := hS.next ((Below.refl _ w').alloc (Nat.le_refl _) (.cells #[.int .i64 a0, .int .i64 a1, .int .i64 a2, .int .i64 a3, .int .i64 a0, .int .i64 a1, .int .i64 a2, .int .i64 a3] 30))
  clear hS
  refine hK.out _ _ hS2 (fun hS => ?_)
  clear hK K hS2
  obtain ⟨g9, hg9⟩ : ∃ g, w'.heap.size = g := ⟨_, rfl⟩
  rw [hg9] at hP ⊢
  clear hg9
  obtain ⟨w', hV9⟩ : ∃ V, w'.alloc (.cells #[.int .i64 a0, .int .i64 a1, .int .i64 a2, .int .i64 a3, .int .i64 a0, .int .i64 a1, .int .i64 a2, .int .i64 a3] 30) = V := ⟨_, rfl⟩
  rw [hV9] at hS hP ⊢
  clear hV9
  have HP := Lib.hid hP; clear hP
  refine wpAnyH_ready (rs := [6]) (by kernel_rfl) (by simp) ?_
  refine AllReadyH.cons (o := { dst := some 53, op := .call { callee := .value (.func 23), args := #[.tmp 47, .const (.int .i64 3), .tmp 52], argTypes := #[41, 3, 44] }, type := 54, pos := "law.go:20", after := #[⟨0, .data⟩, ⟨5, .data⟩, ⟨4, .chain⟩], guard := none }) rfl (fun K hK => ?_) AllReadyH.nil
  go_simp
  go_at_call 23
  refine (CO3.out c p _ _ HP.out hS.y (BT.out _ hS.b)).mono ?_
  rintro e w' ⟨⟨bv3, rfl, hb3⟩, b⟩
  clear hb3
  have hS2 := hS.next b
  clear b hS
  try go_simp
  refine hK.out _ _ hS2 (fun hS => ?_)
  clear hK K hS2
  refine wpAnyH_take (i := 7) (v := ?vqc7) rfl (by kernel_rfl) (by kernel_rfl) (by kernel_rfl) (fun _ _ _ h => h) (Or.inl ⟨by rfl, ?yqc7⟩) hS ?rqc7
  case yqc7 => (intro w hS; go_simp; try with_reducible rfl)
  go_simp
  refine wpAnyH_take (i := 8) (v := ?vqc8) rfl (by kernel_rfl) (by kernel_rfl) (by kernel_rfl) (fun _ _ _ h => h) (Or.inl ⟨by rfl, ?yqc8⟩) hS ?rqc8
  case yqc8 => (intro w hS; go_simp; try with_reducible rfl)
  refine wpAnyH_take (i := 9) (v := ?vqc9) rfl (by kernel_rfl) (by kernel_rfl) (by kernel_rfl) (fun _ _ _ h => h) (Or.inl ⟨by rfl, ?yqc9⟩) hS ?rqc9
  case yqc9 => (intro w hS; go_simp; try with_reducible rfl)
  refine wpAnyH_take (i := 10) (v := ?vqc10) rfl (by kernel_rfl) (by kernel_rfl) (by kernel_rfl) (fun _ _ _ h => h) (Or.inl ⟨by rfl, ?yqc10⟩) hS ?rqc10
  case yqc10 => (intro w hS; go_simp; try with_reducible rfl)
  go_simp
  refine wpAnyH_take (i := 11) (v := ?vqc11) rfl (by kernel_rfl) (by kernel_rfl) (by kernel_rfl) (fun _ _ _ h => h) (Or.inl ⟨by rfl, ?yqc11⟩) hS ?rqc11
  case yqc11 => (intro w hS; go_simp; try with_reducible rfl)
  go_simp
  refine wpAnyH_take (i := 12) (v := ?vqc12) rfl (by kernel_rfl) (by kernel_rfl) (by kernel_rfl) (fun _ _ _ h => h) (Or.inl ⟨by rfl, ?yqc12⟩) hS ?rqc12
  case yqc12 => (intro w hS; go_simp; try with_reducible rfl)
  go_simp
  refine wpAnyH_take (i := 13) (v := ?vqc13) rfl (by kernel_rfl) (by kernel_rfl) (by kernel_rfl) (fun _ _ _ h => h) (Or.inl ⟨by rfl, ?yqc13⟩) hS ?rqc13
  case yqc13 => (intro w hS; go_simp; try with_reducible rfl)
  refine wpAnyH_done (by kernel_rfl) ?_ _
  have HS := Lib.hid hS; clear hS
  go_upto_region 7 with fail
  refine wp_region_held_drew (S := SN w g c p (bv2) [2]) (by kernel_rfl) HS.out.drew (fun hS => ?_)
  clear HS
  generalize World.drew w' = w' at hS ⊢
  refine wpAnyH_take (i := 0) (v := .agg #[.slice (some ⟨c, 0, none⟩) 2 2, .slice (some ⟨p, 0, none⟩) 2 2]) rfl (by kernel_rfl) (by kernel_rfl) (by kernel_rfl) (fun _ _ _ h => h) (Or.inl ⟨by rfl, ?yqd0⟩) hS ?rqd0
  case yqd0 => (intro w' hS; have cf := hS.c0; have cg1 := hS.c1; go_simp; try with_reducible rfl)
  refine wpAnyH_take (i := 1) (v := ?vqd1) rfl (by kernel_rfl) (by kernel_rfl) (by kernel_rfl) (fun _ _ _ h => h) (Or.inl ⟨by rfl, ?yqd1⟩) hS ?rqd1
  case yqd1 => (intro w hS; go_simp; try with_reducible rfl)
  go_simp
  refine wpAnyH_ready (rs := [2]) (by kernel_rfl) (by simp) ?_
  refine AllReadyH.cons (o := { dst := some 59, op := .call { callee := .value (.tmp 58), args := #[.const (.int .i64 1), .const (.int .i64 7)], argTypes := #[3, 3] }, type := 30, pos := "law.go:21", after := #[⟨1, .data⟩], guard := none }) rfl (fun K hK => ?_) AllReadyH.nil
  go_simp
  go_at_call 33
  refine (EVa.out _ hS.b).mono ?_
  rintro e w' ⟨rfl, b⟩
  have hS2 := hS.next b
  clear b hS
  try go_simp
  refine hK.out _ _ hS2 (fun hS => ?_)
  clear hK K hS2
  refine wpAnyH_ready (rs := [3]) (by kernel_rfl) (by simp) ?_
  refine AllReadyH.cons (o := { dst := some 60, op := .call { callee := .value (.func 18), args := #[.tmp 57, .const (.int .i64 3), .tmp 59], argTypes := #[41, 3, 30] }, type := 4, pos := "law.go:21", after := #[⟨0, .data⟩, ⟨2, .data⟩, ⟨2, .chain⟩], guard := none }) rfl (fun K hK => ?_) AllReadyH.nil
  go_simp
  go_at_call 18
  refine (VE1.out c p _ hS.y (BT.out _ hS.b)).mono ?_
  rintro e w' ⟨rfl, b⟩
  have hS2 := hS.next b
  clear b hS
  try go_simp
  refine hK.out _ _ hS2 (fun hS => ?_)
  clear hK K hS2
  refine wpAnyH_take (i := 4) (v := ?vqd4) rfl (by kernel_rfl) (by kernel_rfl) (by kernel_rfl) (fun _ _ _ h => h) (Or.inl ⟨by rfl, ?yqd4⟩) hS ?rqd4
  case yqd4 => (intro w hS; go_simp; try with_reducible rfl)
  go_simp
  refine wpAnyH_take (i := 5) (v := .agg #[.slice (some ⟨c, 0, none⟩) 2 2, .slice (some ⟨p, 0, none⟩) 2 2]) rfl (by kernel_rfl) (by kernel_rfl) (by kernel_rfl) (fun _ _ _ h => h) (Or.inl ⟨by rfl, ?yqd5⟩) hS ?rqd5
  case yqd5 => (intro w' hS; have cf := hS.c0; have cg1 := hS.c1; go_simp; try with_reducible rfl)
  refine wpAnyH_take (i := 6) (v := ?vqd6) rfl (by kernel_rfl) (by kernel_rfl) (by kernel_rfl) (fun _ _ _ h => h) (Or.inl ⟨by rfl, ?yqd6⟩) hS ?rqd6
  case yqd6 => (intro w hS; go_simp; try with_reducible rfl)
  go_simp
  refine wpAnyH_ready (rs := [7]) (by kernel_rfl) (by simp) ?_
  refine AllReadyH.cons (o := { dst := some 64, op := .call { callee := .value (.tmp 63), args := #[.const (.int .i64 1), .const (.int .i64 8)], argTypes := #[3, 3] }, type := 30, pos := "law.go:21", after := #[⟨6, .data⟩, ⟨4, .chain⟩, ⟨4, .guard⟩], guard := some (4, true) }) rfl (fun K hK => ?_) AllReadyH.nil
  go_simp
  go_at_call 33
  refine (EVf.out _ hS.b).mono ?_
  rintro e w' ⟨rfl, b⟩
  have hS2 := hS.next b
  clear b hS
  try go_simp
  refine hK.out _ _ hS2 (fun hS => ?_)
  clear hK K hS2
  refine wpAnyH_ready (rs := [8]) (by kernel_rfl) (by simp) ?_
  refine AllReadyH.cons (o := { dst := some 65, op := .call { callee := .value (.func 18), args := #[.tmp 62, .const (.int .i64 3), .tmp 64], argTypes := #[41, 3, 30] }, type := 4, pos := "law.go:21", after := #[⟨5, .data⟩, ⟨7, .data⟩, ⟨7, .chain⟩, ⟨4, .guard⟩], guard := some (4, true) }) rfl (fun K hK => ?_) AllReadyH.nil
  go_simp
  go_at_call 18
  refine (VE2.out c p _ hS.y (BT.out _ hS.b)).mono ?_
  rintro e w' ⟨rfl, b⟩
  have hS2 := hS.next b
  clear b hS
  try go_simp
  refine hK.out _ _ hS2 (fun hS => ?_)
  clear hK K hS2
  refine wpAnyH_take (i := 9) (v := .bool true) rfl (by kernel_rfl) (by kernel_rfl) (by kernel_rfl) (fun _ _ _ h => h) (Or.inl ⟨by rfl, ?yqd9⟩) hS ?rqd9
  case yqd9 => (intro w hS; go_simp; try with_reducible rfl)
  go_simp
  refine wpAnyH_take (i := 10) (v := ?vqd10) rfl (by kernel_rfl) (by kernel_rfl) (by kernel_rfl) (fun _ _ _ h => h) (Or.inl ⟨by rfl, ?yqd10⟩) hS ?rqd10
  case yqd10 => (intro w hS; go_simp; try with_reducible rfl)
  go_simp
  refine wpAnyH_take (i := 11) (v := ?vqd11) rfl (by kernel_rfl) (by kernel_rfl) (by kernel_rfl) (fun _ _ _ h => h) (Or.inl ⟨by rfl, ?yqd11⟩) hS ?rqd11
  case yqd11 => (intro w hS; go_simp; try with_reducible rfl)
  go_simp
  refine wpAnyH_take (i := 12) (v := ?vqd12) rfl (by kernel_rfl) (by kernel_rfl) (by kernel_rfl) (fun _ _ _ h => h) (Or.inl ⟨by rfl, ?yqd12⟩) hS ?rqd12
  case yqd12 => (intro w hS; go_simp; try with_reducible rfl)
  refine wpAnyH_take (i := 13) (v := ?vqd13) rfl (by kernel_rfl) (by kernel_rfl) (by kernel_rfl) (fun _ _ _ h => h) (Or.inl ⟨by rfl, ?yqd13⟩) hS ?rqd13
  case yqd13 => (intro w hS; go_simp; try with_reducible rfl)
  go_simp
  refine wpAnyH_take (i := 14) (v := .bool true) rfl (by kernel_rfl) (by kernel_rfl) (by kernel_rfl) (fun _ _ _ h => h) (Or.inl ⟨by rfl, ?yqd14⟩) hS ?rqd14
  case yqd14 => (intro w hS; go_simp; try with_reducible rfl)
  go_simp
  refine wpAnyH_take (i := 15) (v := ?vqd15) rfl (by kernel_rfl) (by kernel_rfl) (by kernel_rfl) (fun _ _ _ h => h) (Or.inl ⟨by rfl, ?yqd15⟩) hS ?rqd15
  case yqd15 => (intro w hS; go_simp; try with_reducible rfl)
  go_simp
  refine wpAnyH_take (i := 16) (v := ?vqd16) rfl (by kernel_rfl) (by kernel_rfl) (by kernel_rfl) (fun _ _ _ h => h) (Or.inl ⟨by rfl, ?yqd16⟩) hS ?rqd16
  case yqd16 => (intro w hS; go_simp; try with_reducible rfl)
  go_simp
  refine wpAnyH_take (i := 17) (v := ?vqd17) rfl (by kernel_rfl) (by kernel_rfl) (by kernel_rfl) (fun _ _ _ h => h) (Or.inl ⟨by rfl, ?yqd17⟩) hS ?rqd17
  case yqd17 => (intro w hS; go_simp; try with_reducible rfl)
  go_simp
  refine wpAnyH_take (i := 18) (v := ?vqd18) rfl (by kernel_rfl) (by kernel_rfl) (by kernel_rfl) (fun _ _ _ h => h) (Or.inl ⟨by rfl, ?yqd18⟩) hS ?rqd18
  case yqd18 => (intro w hS; go_simp; try with_reducible rfl)
  go_simp
  refine wpAnyH_take (i := 19) (v := .bool true) rfl (by kernel_rfl) (by kernel_rfl) (by kernel_rfl) (fun _ _ _ h => h) (Or.inl ⟨by rfl, ?yqd19⟩) hS ?rqd19
  case yqd19 => (intro w hS; go_simp; try with_reducible rfl)
  go_simp
  refine wpAnyH_take (i := 20) (v := ?vqd20) rfl (by kernel_rfl) (by kernel_rfl) (by kernel_rfl) (fun _ _ _ h => h) (Or.inl ⟨by rfl, ?yqd20⟩) hS ?rqd20
  case yqd20 => (intro w hS; go_simp; try with_reducible rfl)
  go_simp
  refine wpAnyH_take (i := 21) (v := ?vqd21) rfl (by kernel_rfl) (by kernel_rfl) (by kernel_rfl) (fun _ _ _ h => h) (Or.inl ⟨by rfl, ?yqd21⟩) hS ?rqd21
  case yqd21 => (intro w hS; go_simp; try with_reducible rfl)
  go_simp
  refine wpAnyH_take (i := 22) (v := ?vqd22) rfl (by kernel_rfl) (by kernel_rfl) (by kernel_rfl) (fun _ _ _ h => h) (Or.inl ⟨by rfl, ?yqd22⟩) hS ?rqd22
  case yqd22 => (intro w hS; go_simp; try with_reducible rfl)
  go_simp
  refine wpAnyH_take (i := 23) (v := .bool true) rfl (by kernel_rfl) (by kernel_rfl) (by kernel_rfl) (fun _ _ _ h => h) (Or.inl ⟨by rfl, ?yqd23⟩) hS ?rqd23
  case yqd23 => (intro w hS; go_simp; try with_reducible rfl)
  go_simp
  refine wpAnyH_take (i := 24) (v := ?vqd24) rfl (by kernel_rfl) (by kernel_rfl) (by kernel_rfl) (fun _ _ _ h => h) (Or.inl ⟨by rfl, ?yqd24⟩) hS ?rqd24
  case yqd24 => (intro w hS; go_simp; try with_reducible rfl)
  go_simp
  refine wpAnyH_take (i := 25) (v := ?vqd25) rfl (by kernel_rfl) (by kernel_rfl) (by kernel_rfl) (fun _ _ _ h => h) (Or.inl ⟨by rfl, ?yqd25⟩) hS ?rqd25
  case yqd25 => (intro w hS; go_simp; try with_reducible rfl)
  refine wpAnyH_done (by kernel_rfl) ?_ _
  have HS := Lib.hid hS; clear hS
  go_wp2_with fail
  have s2 := SLi.new9 w' [2] (by decide) (by decide) #[.int .i64 2] rfl 3 1 1 rfl
  have hS1 := HS.out.next ((Below.refl _ w').alloc (Nat.le_refl _) (.cells #[.int .i64 2] 3))
  refine (IN.out _ _ _ hS1.s s2).mono ?_
  rintro e w5 ⟨rfl, b5⟩
  replace HS := Lib.hid (hS1.next b5); clear b5 hS1 s2
  generalize w'.heap.size = g5 at *
  go_wp2_with fail
  refine (EVz.out _ HS.out.b).mono ?_
  rintro e w6 ⟨rfl, b6⟩
  replace HS := Lib.hid (HS.out.next b6); clear b6
  go_wp2_with fail
  refine (TX.out _ HS.out.b).mono ?_
  rintro e w7 ⟨rfl, b7⟩
  replace HS := Lib.hid (HS.out.next b7); clear b7
  go_wp2
  go_ret
  exact ⟨rfl, HS.out.b⟩
theorem pX_i64 (x y : Int) (hx : i64 x) : pi64 (pX x y) := by
  unfold pX pi64
  dsimp only
  exact ⟨hx, i64_of (pp_rng _ _) (by decide), i64_of (prC_rng _ _ _) (by decide), i64_of (prZ_rng _ _ _) (by decide)⟩
theorem ev3_any (w : World) (x y : Int) (s : Pa) (h : evl x y 3 = s) (hx : i64 x) (hy : i64 y) (hT : TS w) :
    Calls Tryz.prog 33 #[.int .i64 x, .int .i64 y] w fun e w' => e = .returned (pav s) ∧ Below w.heap.size w w' := by
  obtain ⟨a, b, c, d⟩ := s
  exact ev3_core w x y a b c d (Lib.hid fun W k => Eval_any W x y 3 _ h hx hy ⟨by decide, by decide⟩ (hT.below k))
theorem co_yes (c p : Nat) (W : World) (v : Value) (l U : List Pa) (B : List Int) (val : Int) (hV : PaL W v l) (hK : KY W (some ⟨c, 0, none⟩) (some ⟨p, 0, none⟩) 2 2 2 2 CX LX) (hT : TS W)
    (hG : cG CX (many LX : Nat) 3 l = U) (hR : cR CX (many LX : Nat) 3 l = B) (hU : ¬ U.length < 2) (hv : lf 2 (prs U) = val) :
    Calls Tryz.prog 23 #[.agg #[.slice (some ⟨c, 0, none⟩) 2 2, .slice (some ⟨p, 0, none⟩) 2 2], .int .i64 3, v] W fun e w' => (∃ bv, e = .returned (.tuple #[.int .i64 val, bv, .int .i64 0]) ∧ SLi w' bv B) ∧ Below W.heap.size W w' := by
  refine (Combine_any W _ _ 2 2 2 2 3 CX LX hK ⟨by decide, by decide⟩ v l hV hT).mono ?_
  rintro e w' ⟨b, h⟩
  refine ⟨?_, b⟩
  rcases h with ⟨h, _⟩ | ⟨_, bv, hb, h⟩
  · exact absurd rgX h
  · rw [hR] at hb
    rw [hG] at h
    rcases h with ⟨h, _⟩ | ⟨_, h⟩
    · exact absurd h hU
    · rw [show ((CX.length : Nat) : Int) = 2 from rfl, hv] at h
      exact ⟨bv, h, hb⟩
theorem co_few (c p : Nat) (W : World) (v : Value) (l U : List Pa) (B : List Int) (hV : PaL W v l) (hK : KY W (some ⟨c, 0, none⟩) (some ⟨p, 0, none⟩) 2 2 2 2 CX LX) (hT : TS W)
    (hG : cG CX (many LX : Nat) 3 l = U) (hR : cR CX (many LX : Nat) 3 l = B) (hU : U.length < 2) :
    Calls Tryz.prog 23 #[.agg #[.slice (some ⟨c, 0, none⟩) 2 2, .slice (some ⟨p, 0, none⟩) 2 2], .int .i64 3, v] W fun e w' => (∃ bv, e = .returned (.tuple #[.int .i64 0, bv, .int .i64 24]) ∧ SLi w' bv B) ∧ Below W.heap.size W w' := by
  refine (Combine_any W _ _ 2 2 2 2 3 CX LX hK ⟨by decide, by decide⟩ v l hV hT).mono ?_
  rintro e w' ⟨b, h⟩
  refine ⟨?_, b⟩
  rcases h with ⟨h, _⟩ | ⟨_, bv, hb, h⟩
  · exact absurd rgX h
  · rw [hR] at hb
    rw [hG] at h
    rcases h with ⟨_, h⟩ | ⟨h, _⟩
    · exact ⟨bv, h, hb⟩
    · exact absurd hU h
theorem ve_b (c p : Nat) (W : World) (s : Pa) (r : Bool) (h : acc CX (many LX : Nat) 3 s = r) (hs : pi64 s) (hK : KY W (some ⟨c, 0, none⟩) (some ⟨p, 0, none⟩) 2 2 2 2 CX LX) (hT : TS W) :
    Calls Tryz.prog 18 #[.agg #[.slice (some ⟨c, 0, none⟩) 2 2, .slice (some ⟨p, 0, none⟩) 2 2], .int .i64 3, pav s] W fun e w' => e = .returned (.bool r) ∧ Below W.heap.size W w' :=
  Verify9 W _ _ 2 2 2 2 3 CX LX s r (by rw [ver_yes rgX]; exact h) hK ⟨by decide, by decide⟩ hs hT
theorem in_two (W : World) (v u : Value) (h1 : SLi W v [2]) (h2 : SLi W u [2]) : Calls Tryz.prog 27 #[v, u] W fun e w' => e = .returned (.bool true) ∧ Below W.heap.size W w' := by
  refine (Ints9 W v u [2] [2] h1 h2).mono ?_
  rintro e w' ⟨rfl, b⟩
  exact ⟨by rw [decide_eq_true rfl], b⟩
theorem flt_two {f : Pa → Bool} {a b : Pa} (h1 : f a = true) (h2 : f b = true) : [a, b].filter f = [a, b] := by rw [flt_yes h1, flt_yes h2, flt_nil]
theorem flt_three {f : Pa → Bool} {a b c : Pa} (h1 : f a = true) (h2 : f b = false) (h3 : f c = true) : [a, b, c].filter f = [a, c] := by rw [flt_yes h1, flt_no h2, flt_yes h3, flt_nil]
theorem nfl_two {f : Pa → Bool} {a b : Pa} (h1 : f a = true) (h2 : f b = true) : [a, b].filter (fun s => !f s) = [] := by rw [flt_no (neg_f h1), flt_no (neg_f h2), flt_nil]
theorem nfl_three {f : Pa → Bool} {a b c : Pa} (h1 : f a = true) (h2 : f b = false) (h3 : f c = true) : [a, b, c].filter (fun s => !f s) = [b] := by rw [flt_no (neg_f h1), flt_yes (neg_f h2), flt_no (neg_f h3), flt_nil]
theorem cR_nil {C : List Int} {N R : Int} {l : List Pa} (h : l.filter (fun s => !acc C N R s) = []) : cR C N R l = [] := by unfold cR; rw [h]; rfl
theorem cR_one {C : List Int} {N R : Int} {l : List Pa} {s : Pa} (h : l.filter (fun s => !acc C N R s) = [s]) : cR C N R l = [s.1] := by unfold cR; rw [h]; rfl
theorem cG_two {C : List Int} {N R : Int} {l : List Pa} {a b : Pa} (h : l.filter (acc C N R) = [a, b]) (hne : a.1 ≠ b.1) : cG C N R l = [a, b] := by
  unfold cG; rw [h]; exact und_self _ (by simp [hne])
theorem cG_same {C : List Int} {N R : Int} {l : List Pa} {a : Pa} (h : l.filter (acc C N R) = [a, a]) : cG C N R l = [a] := by unfold cG; rw [h]; exact und_two _
theorem text_zero (W : World) (hT : TS W) : Calls Tryz.prog 28 #[.agg #[.int .i64 0, .int .i64 0, .int .i64 0, .int .i64 0]] W fun e w' => e = .returned (.string ⟨#[48, 32, 48, 32, 48, 32, 48]⟩) ∧ Below W.heap.size W w' :=
  Text_any W (0, 0, 0, 0) _ txp_0 ⟨⟨by decide, by decide⟩, ⟨by decide, by decide⟩, ⟨by decide, by decide⟩, ⟨by decide, by decide⟩⟩ hT
theorem sanity_any (w : World) (hT : TS w) : Calls Tryz.prog 10 #[] w fun e w' => e = .returned (.bool true) ∧ Below w.heap.size w w' := by
  have i1 : ∀ x : Int, 0 ≤ x → x ≤ 60 → i64 x := fun x h1 h2 => ⟨by omega, by omega⟩
  have hb := bs_rng 3
  have hbi : i64 (bs 3) := ⟨by omega, by omega⟩
  have A1 := flt_two acc_17 acc_413
  have A2 := flt_three acc_17 acc_210 acc_29
  have A3 := flt_two acc_17 acc_17
  have R1 := cR_nil (nfl_two acc_17 acc_413)
  have R2 := cR_one (nfl_three acc_17 acc_210 acc_29)
  have R3 := cR_nil (nfl_two acc_17 acc_17)
  have G1 := cG_two A1 (by show (1 : Int) ≠ 4; decide)
  have G2 := cG_two A2 (by show (1 : Int) ≠ 2; decide)
  have G3 := cG_same A3
  have R2x : (pX 2 10).1 = 2 := rfl
  rw [R2x] at R2
  have E17 := evX 1 7 (by decide)
  have E413 := evX 4 13 (by decide)
  have E210 := evX 2 10 (by decide)
  have E29 := evX 2 9 (by decide)
  have E18 := evX 1 8 (by decide)
  have E0 : evl 0 1 3 = (0, 0, 0, 0) := evl_no 0 1 3 (by decide)
  have I17 := pX_i64 1 7 (i1 1 (by decide) (by decide))
  have I413 := pX_i64 4 13 (i1 4 (by decide) (by decide))
  have I210 := pX_i64 2 10 (i1 2 (by decide) (by decide))
  have I29 := pX_i64 2 9 (i1 2 (by decide) (by decide))
  have I18 := pX_i64 1 8 (i1 1 (by decide) (by decide))
  have L1 : lf 2 (prs [pX 1 7, pX 4 13]) = pp (bs 3) 5 := lfX 1 7 4 13 (by decide) (by decide) (by decide) vl1 vl4
  have L2 : lf 2 (prs [pX 1 7, pX 2 9]) = pp (bs 3) 5 := lfX 1 7 2 9 (by decide) (by decide) (by decide) vl1 vl2
  have V1 := acc_17
  have V2 := acc_18
  clear A1 A2 A3 R2x
  generalize pX 1 7 = a at *
  generalize pX 4 13 = b at *
  generalize pX 2 10 = c at *
  generalize pX 2 9 = d at *
  generalize pX 1 8 = f at *
  obtain ⟨a0, a1, a2, a3⟩ := a
  obtain ⟨b0, b1, b2, b3⟩ := b
  obtain ⟨c0, c1, c2, c3⟩ := c
  obtain ⟨d0, d1, d2, d3⟩ := d
  obtain ⟨f0, f1, f2, f3⟩ := f
  refine sanity_core w (bs 3) (pp (bs 3) 5) a0 a1 a2 a3 b0 b1 b2 b3 c0 c1 c2 c3 d0 d1 d2 d3 f0 f1 f2 f3 I17 I413 I210 I29 (Lib.hid fun W k => hT.below k)
    (Lib.hid fun W => pow_k W 4 5 2305843009213691579 1024 ((pp_def 4 5).trans pw5) (by decide) (by decide) (by decide) (by decide))
    (Lib.hid fun W k => Base_any W 3 _ rfl ⟨by decide, by decide⟩ (hT.below k))
    (Lib.hid fun W => pow_k W (bs 3) 5 2305843009213691579 _ (pp_def _ _) hbi.1 hbi.2 (by decide) (by decide))
    (Lib.hid fun W k => ev3_any W 1 7 _ E17 (i1 1 (by decide) (by decide)) (i1 7 (by decide) (by decide)) (hT.below k))
    (Lib.hid fun W k => ev3_any W 4 13 _ E413 (i1 4 (by decide) (by decide)) (i1 13 (by decide) (by decide)) (hT.below k))
    (Lib.hid fun W k => ev3_any W 2 10 _ E210 (i1 2 (by decide) (by decide)) (i1 10 (by decide) (by decide)) (hT.below k))
    (Lib.hid fun W k => ev3_any W 2 9 _ E29 (i1 2 (by decide) (by decide)) (i1 9 (by decide) (by decide)) (hT.below k))
    (Lib.hid fun W k => ev3_any W 1 8 _ E18 (i1 1 (by decide) (by decide)) (i1 8 (by decide) (by decide)) (hT.below k))
    (Lib.hid fun W k => ev3_any W 0 1 _ E0 (i1 0 (by decide) (by decide)) (i1 1 (by decide) (by decide)) (hT.below k))
    (Lib.hid fun c p W v hV hK hT => co_yes c p W v _ _ [] _ hV hK hT G1 R1 (by simp) L1)
    (Lib.hid fun c p W v hV hK hT => co_yes c p W v _ _ [2] _ hV hK hT G2 R2 (by simp) L2)
    (Lib.hid fun c p W v hV hK hT => co_few c p W v _ _ [] hV hK hT G3 R3 (by simp))
    (Lib.hid fun c p W hK hT => ve_b c p W (a0, a1, a2, a3) true V1 I17 hK hT)
    (Lib.hid fun c p W hK hT => ve_b c p W (f0, f1, f2, f3) false V2 I18 hK hT)
    (Lib.hid fun W v u h1 h2 => in_two W v u h1 h2)
    (Lib.hid fun W k => text_zero W (hT.below k))
end Go.Proofs.YtbfplapjjeeceaaGreatDoor.B9
