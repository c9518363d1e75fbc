/-
  The walk of the law's sanity.
-/
import Derived.Test.YtihplnomhfpajaaWSan
namespace Go.Proofs.Ytihplnomhfpajaa.W8
open Go.RowKit GM G4 D7P Go.Maps
theorem SLi.new (w : World) (l : List Int) (hr : ∀ y ∈ l, i64 y) (hn : l.length ≤ 1000000000) (cs : Array Value) (hc : cs.toList = l.map (Value.int .i64)) (t : TypeId) (n c : Nat) (hl : l.length = n) : SLi (w.alloc (.cells cs t)) (.slice (some ⟨w.heap.size, 0, none⟩) n c) l := by
  subst hl
  refine ⟨⟨_, c, rfl, fun j y hj => ⟨_, 0, rfl, ?_⟩⟩, hr, hn⟩
  rw [World.cell?_alloc_at _ _ _ _ rfl, Nat.zero_add, ← Array.getElem?_toList, hc, List.getElem?_map, hj]; rfl
theorem three_LLi (w : World) : LLi ((((w.alloc (.cells #[.int .i64 1, .int .i64 2] 3)).alloc (.cells #[.int .i64 3] 3)).alloc (.cells #[.int .i64 4, .int .i64 5, .int .i64 6] 3)).alloc
    (.cells #[.slice (some ⟨w.heap.size, 0, none⟩) 2 2, .slice (some ⟨w.heap.size + 1, 0, none⟩) 1 1, .slice (some ⟨w.heap.size + 1 + 1, 0, none⟩) 3 3] 38))
    (.slice (some ⟨w.heap.size + 1 + 1 + 1, 0, none⟩) 3 3) [[1, 2], [3], [4, 5, 6]] := by
  have s1 := SLi.new w [1, 2] (by decide) (by decide) #[.int .i64 1, .int .i64 2] rfl 3 2 2 rfl
  have s2 := SLi.new (w.alloc (.cells #[.int .i64 1, .int .i64 2] 3)) [3] (by decide) (by decide) #[.int .i64 3] rfl 3 1 1 rfl
  have s3 := SLi.new ((w.alloc (.cells #[.int .i64 1, .int .i64 2] 3)).alloc (.cells #[.int .i64 3] 3)) [4, 5, 6] (by decide) (by decide) #[.int .i64 4, .int .i64 5, .int .i64 6] rfl 3 3 3 rfl
  have al := fun (W : World) (o : Obj) => (Below.refl W.heap.size W).alloc (Nat.le_refl _) o
  have t1 := ((s1.next (al _ (.cells #[.int .i64 3] 3))).next (al _ (.cells #[.int .i64 4, .int .i64 5, .int .i64 6] 3))).next (al _ (.cells #[.slice (some ⟨w.heap.size, 0, none⟩) 2 2, .slice (some ⟨w.heap.size + 1, 0, none⟩) 1 1, .slice (some ⟨w.heap.size + 1 + 1, 0, none⟩) 3 3] 38))
  have t2 := (s2.next (al _ (.cells #[.int .i64 4, .int .i64 5, .int .i64 6] 3))).next (al _ (.cells #[.slice (some ⟨w.heap.size, 0, none⟩) 2 2, .slice (some ⟨w.heap.size + 1, 0, none⟩) 1 1, .slice (some ⟨w.heap.size + 1 + 1, 0, none⟩) 3 3] 38))
  have t3 := s3.next (al _ (.cells #[.slice (some ⟨w.heap.size, 0, none⟩) 2 2, .slice (some ⟨w.heap.size + 1, 0, none⟩) 1 1, .slice (some ⟨w.heap.size + 1 + 1, 0, none⟩) 3 3] 38))
  simp only [World.size_alloc] at t2 t3
  refine ⟨_, 3, rfl, fun j l hj => ?_⟩
  have cl : ∀ (i : Nat) (v : Value), #[Value.slice (some ⟨w.heap.size, 0, none⟩) 2 2, .slice (some ⟨w.heap.size + 1, 0, none⟩) 1 1, .slice (some ⟨w.heap.size + 1 + 1, 0, none⟩) 3 3][i]? = some v → ((((w.alloc (.cells #[.int .i64 1, .int .i64 2] 3)).alloc (.cells #[.int .i64 3] 3)).alloc (.cells #[.int .i64 4, .int .i64 5, .int .i64 6] 3)).alloc (.cells #[Value.slice (some ⟨w.heap.size, 0, none⟩) 2 2, .slice (some ⟨w.heap.size + 1, 0, none⟩) 1 1, .slice (some ⟨w.heap.size + 1 + 1, 0, none⟩) 3 3] 38)).cell? ⟨w.heap.size + 1 + 1 + 1, 0 + i, none⟩ = some v := fun i v hi => by
    rw [World.cell?_alloc_at _ _ _ _ (by simp only [World.size_alloc]), Nat.zero_add]; exact hi
  match j, hj with
  | 0, hj =>
    have : [1, 2] = l := by simpa using hj
    subst this
    exact ⟨_, 0, _, rfl, cl 0 _ rfl, t1⟩
  | 1, hj =>
    have : [3] = l := by simpa using hj
    subst this
    exact ⟨_, 0, _, rfl, cl 1 _ rfl, t2⟩
  | 2, hj =>
    have : [4, 5, 6] = l := by simpa using hj
    subst this
    exact ⟨_, 0, _, rfl, cl 2 _ rfl, t3⟩
  | k+3, hj => simp at hj
def fl2 : List (Int × Int) → List Value
  | [] => []
  | s :: l => .int .i64 s.1 :: .int .i64 s.2 :: fl2 l
theorem fl2_get : ∀ (l : List (Int × Int)) (j : Nat) (s : Int × Int), l[j]? = some s → (fl2 l)[j * 2]? = some (.int .i64 s.1) ∧ (fl2 l)[j * 2 + 1]? = some (.int .i64 s.2)
  | [], _, _, h => by simp at h
  | t :: l, 0, s, h => by
    have : t = s := by simpa using h
    subst this
    exact ⟨rfl, rfl⟩
  | t :: l, j+1, s, h => by
    have ih := fl2_get l j s (by simpa using h)
    have e : ∀ i, (fl2 (t :: l))[(j + 1) * 2 + i]? = (fl2 l)[j * 2 + i]? := fun i => by
      rw [show (j + 1) * 2 + i = j * 2 + i + 1 + 1 by omega]; rfl
    exact ⟨(e 0).trans ih.1, (e 1).trans ih.2⟩
theorem ShL.new (w : World) (l : List (Int × Int)) (hr : ∀ s ∈ l, i64 s.1 ∧ i64 s.2) (hn : l.length ≤ 1000000000) (cs : Array Value) (hc : cs.toList = fl2 l) (t : TypeId) (n c : Nat) (hl : l.length = n) : ShL (w.alloc (.cells cs t)) (.slice (some ⟨w.heap.size, 0, none⟩) n c) l := by
  subst hl
  refine ⟨⟨_, c, rfl, fun j s hj => ⟨_, 0, rfl, ?_, ?_⟩⟩, hr, hn⟩
  · rw [World.cell?_alloc_at _ _ _ _ rfl, Nat.zero_add, ← Array.getElem?_toList, hc]; exact (fl2_get l j s hj).1
  · rw [World.cell?_alloc_at _ _ _ _ rfl, Nat.zero_add, ← Array.getElem?_toList, hc]; exact (fl2_get l j s hj).2
set_option maxRecDepth 100000 in
set_option maxHeartbeats 4000000 in
theorem sanity_any (w : World) : Calls Try.prog 6 #[] w fun e w' => e = .returned (.bool true) ∧ Below w.heap.size w w' := by
  have hB := Lib.hid (Below.refl w.heap.size w)
  go_enter Try.func6, Try.ntmps6
  go_wp2_with fail
  refine (weights_any _ _ [2, 1, 3] (SLi.new w [2, 1, 3] (by decide) (by decide) _ rfl _ 3 3 rfl)).mono ?_
  rintro e w1 ⟨u, rfl, hM, b⟩
  replace hB := Lib.hid ((hB.out.alloc hB.out.size _).trans (b.mono (by rw [World.size_alloc]; exact Nat.le_succ_of_le hB.out.size))); clear b
  obtain ⟨⟨p1, c1, rfl, _⟩, _, _⟩ := id hM
  have P := Lib.hid (Points_any w1 _ _ hM)
  clear hM
  go_wp2_with fail
  refine P.out.mono ?_
  rintro e w2 ⟨b, h⟩
  obtain ⟨hR, av, rfl, hPS⟩ : Rgt (mbs 0 [2, 1, 3]) ∧ ∃ av, e = .returned (.tuple #[av, .bool true]) ∧ PS w1 av (ptl 1 (mbs 0 [2, 1, 3])) w2 := by
    rcases h with h | h
    · exact h
    · exact absurd rg1 h.1
  have hL := hPS.LLi (by decide)
  have e1 : ptl 1 (mbs 0 [2, 1, 3]) = [[1, 2], [3], [4, 5, 6]] := by decide
  rw [e1] at hL
  obtain ⟨p2, c2, rfl, _⟩ := id hL
  replace hB := Lib.hid (hB.out.trans (b.mono hB.out.size)); clear b hPS h e1 P hR
  have hL := Lib.hid hL
  go_wp2_with fail
  have hL3 := Lib.hid (three_LLi w2)
  have hB2 := Lib.hid ((((hB.out.alloc hB.out.size (.cells #[.int .i64 1, .int .i64 2] 3)).alloc (by simp; exact Nat.le_succ_of_le hB.out.size) (.cells #[.int .i64 3] 3)).alloc (by simp; have := hB.out.size; omega) (.cells #[.int .i64 4, .int .i64 5, .int .i64 6] 3)).alloc (by simp; have := hB.out.size; omega)
    (.cells #[.slice (some ⟨w2.heap.size, 0, none⟩) 2 2, .slice (some ⟨w2.heap.size + 1, 0, none⟩) 1 1, .slice (some ⟨w2.heap.size + 1 + 1, 0, none⟩) 3 3] 38))
  have hL2 := Lib.hid (show LLi ((((w2.alloc (.cells #[.int .i64 1, .int .i64 2] 3)).alloc (.cells #[.int .i64 3] 3)).alloc (.cells #[.int .i64 4, .int .i64 5, .int .i64 6] 3)).alloc
    (.cells #[.slice (some ⟨w2.heap.size, 0, none⟩) 2 2, .slice (some ⟨w2.heap.size + 1, 0, none⟩) 1 1, .slice (some ⟨w2.heap.size + 1 + 1, 0, none⟩) 3 3] 38)) _ _ from (((hL.out.next ((Below.refl _ _).alloc (Nat.le_refl _) _)).next ((Below.refl _ _).alloc (Nat.le_refl _) _)).next ((Below.refl _ _).alloc (Nat.le_refl _) _)).next ((Below.refl _ _).alloc (Nat.le_refl _) _))
  generalize (((w2.alloc (.cells #[.int .i64 1, .int .i64 2] 3)).alloc (.cells #[.int .i64 3] 3)).alloc (.cells #[.int .i64 4, .int .i64 5, .int .i64 6] 3)).alloc
    (.cells #[.slice (some ⟨w2.heap.size, 0, none⟩) 2 2, .slice (some ⟨w2.heap.size + 1, 0, none⟩) 1 1, .slice (some ⟨w2.heap.size + 1 + 1, 0, none⟩) 3 3] 38) = w3 at *
  clear hL hB
  refine (lists_any w3 _ _ [[1, 2], [3], [4, 5, 6]] [[1, 2], [3], [4, 5, 6]] hL2.out hL3.out (by decide)).mono ?_
  rintro e w4 ⟨rfl, b⟩
  have hB := Lib.hid (hB2.out.trans (b.mono hB2.out.size))
  clear b hB2 hL2 hL3
  rw [decide_eq_true rfl]
  go_wp2_with fail
  refine (Most_any _ 9 2 (by decide) (by decide)).mono ?_
  rintro e w5 ⟨rfl, rfl⟩
  go_wp2_with fail
  refine (Need_any _ 9 3 (by decide) (by decide)).mono ?_
  rintro e w5 ⟨rfl, rfl⟩
  go_wp2_with fail
  refine (Most_any _ 10 3 (by decide) (by decide)).mono ?_
  rintro e w5 ⟨rfl, rfl⟩
  go_wp2_with fail
  refine (Need_any _ 10 4 (by decide) (by decide)).mono ?_
  rintro e w5 ⟨rfl, rfl⟩
  go_wp2_with fail
  refine (Need_any _ 3 1 (by decide) (by decide)).mono ?_
  rintro e w5 ⟨rfl, rfl⟩
  go_wp2_with fail
  refine (Need_any _ 1 1 (by decide) (by decide)).mono ?_
  rintro e w5 ⟨rfl, rfl⟩
  go_wp2_with fail
  refine (Need_any _ 0 0 (by decide) (by decide)).mono ?_
  rintro e w5 ⟨rfl, rfl⟩
  go_wp2_with fail
  have hS := Lib.hid (ShL.new w5 [(1, 7), (2, 9)] (by decide) (by decide) #[.int .i64 1, .int .i64 7, .int .i64 2, .int .i64 9] rfl 40 2 2 rfl)
  have hB2 := Lib.hid (hB.out.alloc hB.out.size (.cells #[.int .i64 1, .int .i64 7, .int .i64 2, .int .i64 9] 40))
  refine (Join_any _ 2 _ [(1, 7), (2, 9)] hS.out (by decide) 5 true jn1.1 jn1.2).mono ?_
  rintro e w6 ⟨rfl, b⟩
  have hB := Lib.hid (hB2.out.trans (b.mono hB2.out.size))
  have hS6 := Lib.hid (hS.out.next b)
  clear b hB2 hS
  generalize w5.heap.size = g5 at *
  go_wp2_with fail
  have hS2 := Lib.hid (ShL.new w6 [(1, 7), (1, 9)] (by decide) (by decide) #[.int .i64 1, .int .i64 7, .int .i64 1, .int .i64 9] rfl 40 2 2 rfl)
  have hB2 := Lib.hid (hB.out.alloc hB.out.size (.cells #[.int .i64 1, .int .i64 7, .int .i64 1, .int .i64 9] 40))
  have hS7 := Lib.hid (hS6.out.next ((Below.refl _ w6).alloc (Nat.le_refl _) (.cells #[.int .i64 1, .int .i64 7, .int .i64 1, .int .i64 9] 40)))
  refine (Join_any _ 2 _ [(1, 7), (1, 9)] hS2.out (by decide) 0 false jn2.1 jn2.2).mono ?_
  rintro e w7 ⟨rfl, b⟩
  have hB := Lib.hid (hB2.out.trans (b.mono hB2.out.size))
  have hS8 := Lib.hid (hS7.out.next b)
  clear b hB2 hS6 hS7 hS2
  generalize w6.heap.size = g6 at *
  go_wp2_with fail
  refine (Join_any _ 0 _ [(1, 7), (2, 9)] hS8.out (by decide) 0 false jn3.1 jn3.2).mono ?_
  rintro e w8 ⟨rfl, b⟩
  replace hB := Lib.hid (hB.out.trans (b.mono hB.out.size))
  clear b hS8
  go_wp2_with fail
  refine (Public_any _ 7 16384 p7 (by decide)).mono ?_
  rintro e w9 ⟨rfl, rfl⟩
  go_wp2_with fail
  refine (Public_any _ 9 262144 p9 (by decide)).mono ?_
  rintro e w9 ⟨rfl, rfl⟩
  go_wp2_with fail
  have hS := Lib.hid (ShL.new w9 [(1, 16384), (2, 262144)] (by decide) (by decide) #[.int .i64 1, .int .i64 16384, .int .i64 2, .int .i64 262144] rfl 40 2 2 rfl)
  have hB2 := Lib.hid (hB.out.alloc hB.out.size (.cells #[.int .i64 1, .int .i64 16384, .int .i64 2, .int .i64 262144] 40))
  refine (Lift_any _ 2 _ [(1, 16384), (2, 262144)] hS.out (by decide) 1024 true lf1.1 lf1.2).mono ?_
  rintro e w10 ⟨rfl, b⟩
  have hB := Lib.hid (hB2.out.trans (b.mono hB2.out.size))
  clear b hB2 hS
  generalize w9.heap.size = g9 at *
  go_wp2_with fail
  have s1 := SLi.new w10 [1, 2] (by decide) (by decide) #[.int .i64 1, .int .i64 2] rfl 3 2 2 rfl
  have s2 := Lib.hid (SLi.new (w10.alloc (.cells #[.int .i64 1, .int .i64 2] 3)) [7, 9] (by decide) (by decide) #[.int .i64 7, .int .i64 9] rfl 3 2 2 rfl)
  have s1 := Lib.hid (s1.next ((Below.refl _ _).alloc (Nat.le_refl _) (.cells #[.int .i64 7, .int .i64 9] 3)))
  have hB2 := Lib.hid ((hB.out.alloc hB.out.size (.cells #[.int .i64 1, .int .i64 2] 3)).alloc (by simp; exact Nat.le_succ_of_le hB.out.size) (.cells #[.int .i64 7, .int .i64 9] 3))
  simp only [World.size_alloc] at s2
  refine (Share_any _ _ _ [1, 2] [7, 9] s1.out s2.out 5 true sh1.1 sh1.2).mono ?_
  rintro e w11 ⟨rfl, b⟩
  have hB := Lib.hid (hB2.out.trans (b.mono hB2.out.size))
  clear b hB2 s1 s2
  generalize w10.heap.size = g10 at *
  go_wp2_with fail
  refine (Public_any _ 5 1024 p5 (by decide)).mono ?_
  rintro e w12 ⟨rfl, rfl⟩
  go_wp2
  go_ret
  exact ⟨rfl, hB.out⟩
end Go.Proofs.Ytihplnomhfpajaa.W8
