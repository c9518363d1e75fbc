/-
  The walk of weight.first: the first shares that count.
  The walks of weight.Join, weight.Lift and weight.Share.
-/
import Derived.Test.YtbfplapjjeeceaaGreatDoorWSum
import Derived.Deep.RegionHeld3
import Derived.Deep.Cut
namespace Go.Proofs.YtbfplapjjeeceaaGreatDoor.W8
open Go.RowKit GM G4 D7P Go.Maps
/-- a slice shows these shares -/
def ShL (w : World) (v : Value) (l : List (Int × Int)) : Prop := (∃ (p : Option Addr) (c : Nat), v = .slice p l.length c ∧ ∀ (j : Nat) (s : Int × Int), l[j]? = some s → ∃ b o, p = some ⟨b, o, none⟩ ∧ w.cell? ⟨b, o + j * 2, none⟩ = some (.int .i64 s.1) ∧ w.cell? ⟨b, o + j * 2 + 1, none⟩ = some (.int .i64 s.2)) ∧ (∀ s ∈ l, i64 s.1 ∧ i64 s.2) ∧ l.length ≤ 1000000000
theorem ShL.next {w w' : World} {v : Value} {l : List (Int × Int)} (h : ShL w v l) (k : Below w.heap.size w w') : ShL w' v l := by
  obtain ⟨⟨p, c, e, hc⟩, hr, hn⟩ := h
  exact ⟨⟨p, c, e, fun j y hj => by
    obtain ⟨b, o, e, h1, h2⟩ := hc j y hj
    exact ⟨b, o, e, (k.cell (p := ⟨b, o + j * 2, none⟩) (World.block_lt_of_cell? _ _ h1)).trans h1, (k.cell (p := ⟨b, o + j * 2 + 1, none⟩) (World.block_lt_of_cell? _ _ h2)).trans h2⟩⟩, hr, hn⟩
/-- the shares that count -/
def cst (fit : Int → Bool) (A : List (Int × Int)) (s : Int × Int) : List (Int × Int) :=
  if 1 ≤ s.1 ∧ s.1 < 1152921504606845789 ∧ (A.map Prod.fst).contains s.1 = false ∧ fit s.2 = true then A ++ [s] else A
def cnt (fit : Int → Bool) (l : List (Int × Int)) : List (Int × Int) := l.foldl (cst fit) []
theorem cnt_snoc (fit : Int → Bool) (l : List (Int × Int)) (s : Int × Int) : cnt fit (l ++ [s]) = cst fit (cnt fit l) s := by unfold cnt; rw [List.foldl_append]; rfl
theorem cst_pre (fit : Int → Bool) : ∀ (l A : List (Int × Int)), ∃ B, l.foldl (cst fit) A = A ++ B
  | [], A => ⟨[], by simp⟩
  | s :: l, A => by
    obtain ⟨B, h⟩ := cst_pre fit l (cst fit A s)
    rw [List.foldl_cons, h]
    unfold cst
    split
    · exact ⟨s :: B, by simp⟩
    · exact ⟨B, rfl⟩
theorem cnt_pre (fit : Int → Bool) (l : List (Int × Int)) (k : Nat) : ∃ B, cnt fit l = cnt fit (l.take k) ++ B := by
  obtain ⟨B, h⟩ := cst_pre fit (l.drop k) (cnt fit (l.take k))
  refine ⟨B, ?_⟩
  rw [← h]
  unfold cnt
  rw [← List.foldl_append, List.take_append_drop]
theorem cnt_take (fit : Int → Bool) (l : List (Int × Int)) (k : Nat) (s : Int × Int) (h : l[k]? = some s) : cnt fit (l.take (k+1)) = cst fit (cnt fit (l.take k)) s := by
  rw [List.take_add_one, h]; exact cnt_snoc fit _ _
theorem cst_no (fit : Int → Bool) (A : List (Int × Int)) (s : Int × Int) (h : s.1 < 1 ∨ 1152921504606845789 ≤ s.1 ∨ (A.map Prod.fst).contains s.1 = true ∨ fit s.2 = false) : cst fit A s = A := by
  unfold cst
  rw [if_neg]
  rintro ⟨h1, h2, h3, h4⟩
  rcases h with h | h | h | h
  · omega
  · omega
  · rw [h] at h3; cases h3
  · rw [h] at h4; cases h4
theorem cst_yes (fit : Int → Bool) (A : List (Int × Int)) (s : Int × Int) (h1 : 1 ≤ s.1) (h2 : s.1 < 1152921504606845789) (h3 : (A.map Prod.fst).contains s.1 = false) (h4 : fit s.2 = true) : cst fit A s = A ++ [s] := by
  unfold cst
  rw [if_pos ⟨h1, h2, h3, h4⟩]
theorem own_below' {w w' : World} {base : Nat} {e : TypeId} {size : Nat} {v : Value} {n : Nat} {xs : List Value} (h : w.ownsRow base e size v n xs) (k : Below w.heap.size w w') : w'.ownsRow base e size v n xs := by
  refine ⟨h.1, ?_⟩
  rcases h.2 with h2 | ⟨g, cap, cur, h1, h2, h3, h4⟩
  · exact .inl h2
  · exact .inr ⟨g, cap, cur, h1, h2, (k.block g (Array.getElem?_eq_some_iff.1 h3).1).trans h3, h4⟩
theorem own_SLi {w : World} {base : Nat} {v : Value} {l : List Int} (h : w.ownsRow base 3 1 v l.length (l.map (Value.int .i64))) (hr : ∀ y ∈ l, i64 y) (hn : l.length ≤ 1000000000) : SLi w v l := by
  refine ⟨?_, hr, hn⟩
  rcases h.2 with ⟨rfl, h0⟩ | ⟨g, cap, cur, rfl, h2, h3, h4, h5, h6, h7⟩
  · have : l = [] := List.length_eq_zero_iff.1 h0
    subst this
    exact ⟨none, 0, rfl, fun j y hj => by simp at hj⟩
  · refine ⟨_, cap, rfl, fun j y hj => ⟨g, 0, rfl, ?_⟩⟩
    rw [Nat.zero_add, cell_of_row w g j _ _ _ h3, ← Array.getElem?_toList]
    have hj2 : (l.map (Value.int .i64))[j]? = some (.int .i64 y) := by rw [List.getElem?_map, hj]; rfl
    rw [← h7] at hj2
    have hlt := (List.getElem?_eq_some_iff.1 hj2).1
    rw [List.getElem?_take_of_lt (by rw [List.length_take] at hlt; omega)] at hj2
    exact hj2
/-- what holds while the rows grow: the map of what was seen, the points and the numbers, the share's own block -/
structure GR (w : World) (g0 : Nat) (x y : Int) (n : Nat) (p : Int → Bool) (pv yv : Value) (X Y : List Int) (W : World) : Prop where
  b : Below w.heap.size w W
  s : SetD W w.heap.size n p
  ox : W.ownsRow (w.heap.size + 1) 3 1 pv X.length (X.map (Value.int .i64))
  oy : W.ownsRow (w.heap.size + 1) 3 1 yv Y.length (Y.map (Value.int .i64))
  ne : ∀ g, pv.ownBlock = some g → yv.ownBlock ≠ some g
  nx : pv.ownBlock ≠ some g0
  ny : yv.ownBlock ≠ some g0
  c0 : W.cell? ⟨g0, 0, none⟩ = some (.int .i64 x)
  c1 : W.cell? ⟨g0, 1, none⟩ = some (.int .i64 y)
theorem GR.lt {w W : World} {g0 n : Nat} {x y : Int} {p : Int → Bool} {pv yv : Value} {X Y : List Int} (h : GR w g0 x y n p pv yv X Y W) : w.heap.size + 1 ≤ W.heap.size := h.s.lt
theorem GR.next {w W V : World} {g0 n : Nat} {x y : Int} {p : Int → Bool} {pv yv : Value} {X Y : List Int} (h : GR w g0 x y n p pv yv X Y W) (k : Below W.heap.size W V) : GR w g0 x y n p pv yv X Y V :=
  ⟨h.b.trans (k.mono h.b.size), h.s.next k, own_below' h.ox k, own_below' h.oy k, h.ne, h.nx, h.ny, (k.cell (p := ⟨g0, 0, none⟩) (World.block_lt_of_cell? _ _ h.c0)).trans h.c0, (k.cell (p := ⟨g0, 1, none⟩) (World.block_lt_of_cell? _ _ h.c1)).trans h.c1⟩
theorem GR.appX {w V w9 : World} {g0 n : Nat} {x y : Int} {p : Int → Bool} {pv yv : Value} {X Y : List Int} (h : GR w g0 x y n p pv yv X Y V) (z : Int) {g cap H : Nat} (hH : V.heap.size = H)
    (h1 : w9.ownsRow (w.heap.size + 1) 3 1 (.slice (some ⟨g, 0, none⟩) (X.length + 1) cap) (X.length + 1) (X.map (Value.int .i64) ++ [.int .i64 z])) (h2 : V.grownBy w9 pv.ownBlock) (h3 : pv.ownBlock = some g ∨ g = H) :
    GR w g0 x y n p (.slice (some ⟨g, 0, none⟩) (X.length + 1) cap) yv (X ++ [z]) Y w9 := by
  have hg0 : g0 < V.heap.size := World.block_lt_of_cell? _ _ h.c0
  have kc := fun j => World.cell?_of_block (w := V) (w' := w9) (a := ⟨g0, j, none⟩) (h2.block g0 hg0 (fun e => h.nx e.symm))
  refine ⟨h.b.grown h2 h.b.size (fun k hk => by have := (h.ox.lt k hk).1; omega), h.s.kept h2 (fun e => by have := (h.ox.lt _ e.symm).1; omega), ?_, h.oy.kept h2 ?_, ?_, ?_, h.ny, (kc 0).trans h.c0, (kc 1).trans h.c1⟩
  · rw [List.length_append, List.map_append]; exact h1
  · cases hb : yv.ownBlock with
    | none => exact .inl rfl
    | some k => exact .inr fun e => h.ne k e.symm hb
  · intro k hk
    have hk : g = k := by simpa [Value.ownBlock] using hk
    subst hk
    rcases h3 with h3 | h3
    · exact h.ne g h3
    · intro e; have := (h.oy.lt g e).2; omega
  · intro e
    have e : g = g0 := by simpa [Value.ownBlock] using e
    rcases h3 with h3 | h3
    · exact h.nx (by rw [h3, e])
    · omega
theorem GR.appY {w V w9 : World} {g0 n : Nat} {x y : Int} {p : Int → Bool} {pv yv : Value} {X Y : List Int} (h : GR w g0 x y n p pv yv X Y V) (z : Int) {g cap H : Nat} (hH : V.heap.size = H)
    (h1 : w9.ownsRow (w.heap.size + 1) 3 1 (.slice (some ⟨g, 0, none⟩) (Y.length + 1) cap) (Y.length + 1) (Y.map (Value.int .i64) ++ [.int .i64 z])) (h2 : V.grownBy w9 yv.ownBlock) (h3 : yv.ownBlock = some g ∨ g = H) :
    GR w g0 x y n p pv (.slice (some ⟨g, 0, none⟩) (Y.length + 1) cap) X (Y ++ [z]) w9 := by
  have hg0 : g0 < V.heap.size := World.block_lt_of_cell? _ _ h.c0
  have kc := fun j => World.cell?_of_block (w := V) (w' := w9) (a := ⟨g0, j, none⟩) (h2.block g0 hg0 (fun e => h.ny e.symm))
  refine ⟨h.b.grown h2 h.b.size (fun k hk => by have := (h.oy.lt k hk).1; omega), h.s.kept h2 (fun e => by have := (h.oy.lt _ e.symm).1; omega), h.ox.kept h2 ?_, ?_, ?_, h.nx, ?_, (kc 0).trans h.c0, (kc 1).trans h.c1⟩
  · cases hb : pv.ownBlock with
    | none => exact .inl rfl
    | some k => exact .inr fun e => h.ne k hb e.symm
  · rw [List.length_append, List.map_append]; exact h1
  · intro k hk e
    have e : g = k := by simpa [Value.ownBlock] using e
    subst e
    rcases h3 with h3 | h3
    · exact h.ne g hk h3
    · have := (h.ox.lt g hk).2; omega
  · intro e
    have e : g = g0 := by simpa [Value.ownBlock] using e
    rcases h3 with h3 | h3
    · exact h.ny (by rw [h3, e])
    · omega
/-- what holds between two rounds -/
structure FS (w : World) (pv yv : Value) (A : List (Int × Int)) (W : World) : Prop where
  b : Below w.heap.size w W
  s : SetD W w.heap.size A.length fun x => (A.map Prod.fst).contains x
  ox : W.ownsRow (w.heap.size + 1) 3 1 pv A.length ((A.map Prod.fst).map (Value.int .i64))
  oy : W.ownsRow (w.heap.size + 1) 3 1 yv A.length ((A.map Prod.snd).map (Value.int .i64))
  ne : ∀ g, pv.ownBlock = some g → yv.ownBlock ≠ some g
theorem FS.next {w W V : World} {pv yv : Value} {A : List (Int × Int)} (h : FS w pv yv A W) (k : Below W.heap.size W V) : FS w pv yv A V :=
  ⟨h.b.trans (k.mono h.b.size), h.s.next k, own_below' h.ox k, own_below' h.oy k, h.ne⟩
theorem FS.lt {w W : World} {pv yv : Value} {A : List (Int × Int)} (h : FS w pv yv A W) : w.heap.size + 1 ≤ W.heap.size := h.s.lt
/-- the share's block, and the number that was seen now -/
theorem FS.opened {w W V : World} {pv yv : Value} {A : List (Int × Int)} (h : FS w pv yv A W) (g0 : Nat) (hg : g0 = W.heap.size) (k : Below W.heap.size W V) (x y : Int) (c0 : V.cell? ⟨g0, 0, none⟩ = some (.int .i64 x)) (c1 : V.cell? ⟨g0, 1, none⟩ = some (.int .i64 y))
    {w1 : World} (hS : SetD w1 w.heap.size (A.length + 1) (fun z => (A.map Prod.fst).contains z || z == x)) (hg1 : V.grownBy w1 (some w.heap.size)) :
    GR w g0 x y (A.length + 1) (fun z => (A.map Prod.fst).contains z || z == x) pv yv (A.map Prod.fst) (A.map Prod.snd) w1 := by
  have hV := h.next k
  have hlt := h.lt
  have kc := fun j => World.cell?_of_block (w := V) (w' := w1) (a := ⟨g0, j, none⟩) (hg1.block g0 (World.block_lt_of_cell? _ _ c0) (fun e => by injection e with e; omega))
  have no : ∀ {v : Value} {n : Nat} {xs : List Value}, W.ownsRow (w.heap.size + 1) 3 1 v n xs → v.ownBlock = none ∨ v.ownBlock ≠ some w.heap.size := fun ho => .inr fun e => by have := (ho.lt _ e).1; omega
  refine ⟨hV.b.grown hg1 hV.b.size (fun j hj => by cases hj; exact Nat.le_refl _), hS, ?_, ?_, h.ne, fun e => by have := (h.ox.lt _ e).2; omega, fun e => by have := (h.oy.lt _ e).2; omega, (kc 0).trans c0, (kc 1).trans c1⟩
  · rw [List.length_map]; exact hV.ox.kept hg1 (no h.ox)
  · rw [List.length_map]; exact hV.oy.kept hg1 (no h.oy)
theorem GR.shut {w W : World} {g0 : Nat} {x y : Int} {pv yv : Value} {A : List (Int × Int)} (h : GR w g0 x y (A.length + 1) (fun z => (A.map Prod.fst).contains z || z == x) pv yv (A.map Prod.fst ++ [x]) (A.map Prod.snd ++ [y]) W) : FS w pv yv (A ++ [(x, y)]) W := by
  have e1 : A.map Prod.fst ++ [x] = (A ++ [(x, y)]).map Prod.fst := by simp
  have e2 : A.map Prod.snd ++ [y] = (A ++ [(x, y)]).map Prod.snd := by simp
  have hl : (A ++ [(x, y)]).length = A.length + 1 := by simp
  have ox := h.ox
  have oy := h.oy
  rw [e1, List.length_map] at ox
  rw [e2, List.length_map] at oy
  refine ⟨h.b, ?_, ox, oy, h.ne⟩
  rw [hl]
  exact h.s.congr fun z => by rw [← e1, List.contains_append]; congr 1; simp; by_cases e : z = x <;> simp [e]
/-- what first answers -/
def FQ (w : World) (need : Int) (A : List (Int × Int)) (e : Ending) (w' : World) : Prop :=
  Below w.heap.size w w' ∧ ((1 ≤ need ∧ need ≤ A.length ∧ ∃ pv yv, e = .returned (.tuple #[pv, yv, .bool true]) ∧ SLi w' pv ((A.take need.toNat).map Prod.fst) ∧ SLi w' yv ((A.take need.toNat).map Prod.snd)) ∨
    ((need < 1 ∨ (A.length : Int) < need) ∧ e = .returned (.tuple #[.slice none 0 0, .slice none 0 0, .bool false])))
theorem cst_len (fit : Int → Bool) (A : List (Int × Int)) (s : Int × Int) : (cst fit A s).length ≤ A.length + 1 := by
  unfold cst; split <;> simp
theorem cnt_len' (fit : Int → Bool) : ∀ (l A : List (Int × Int)), (l.foldl (cst fit) A).length ≤ A.length + l.length
  | [], A => by simp
  | s :: l, A => by
    have h1 := cnt_len' fit l (cst fit A s)
    have h2 := cst_len fit A s
    rw [List.foldl_cons, List.length_cons]
    omega
theorem cnt_len (fit : Int → Bool) (l : List (Int × Int)) : (cnt fit l).length ≤ l.length := by
  have := cnt_len' fit l []
  simpa [cnt] using this
theorem cnt_mem (fit : Int → Bool) : ∀ (l A : List (Int × Int)) (s : Int × Int), s ∈ l.foldl (cst fit) A → s ∈ A ∨ s ∈ l
  | [], A, s, h => .inl h
  | t :: l, A, s, h => by
    rcases cnt_mem fit l (cst fit A t) s h with h | h
    · unfold cst at h
      split at h
      · rcases List.mem_append.1 h with h | h
        · exact .inl h
        · simp at h; subst h; exact .inr (by simp)
      · exact .inl h
    · exact .inr (by simp [h])
theorem fq_yes (fit : Int → Bool) (w : World) (need : Int) (l : List (Int × Int)) (k : Nat) (A : List (Int × Int)) (s : Int × Int) (h : cnt fit (l.take (k+1)) = A ++ [s]) (hn1 : 1 ≤ need) (hn : ((A ++ [s]).length : Int) = need)
    {pv yv : Value} {W : World} (hF : FS w pv yv (A ++ [s]) W) (hr : ∀ s ∈ l, i64 s.1 ∧ i64 s.2) (hl : l.length ≤ 1000000000) : FQ w need (cnt fit l) (.returned (.tuple #[pv, yv, .bool true])) W := by
  obtain ⟨B, hB⟩ := cnt_pre fit l (k+1)
  rw [h] at hB
  have hlen := cnt_len fit l
  have ht : (cnt fit l).take need.toNat = A ++ [s] := by
    rw [hB, List.take_append_of_le_length (by omega), List.take_of_length_le (by omega)]
  have hm : ∀ t ∈ A ++ [s], i64 t.1 ∧ i64 t.2 := fun t ht => by
    rcases cnt_mem fit l [] t (by show t ∈ cnt fit l; rw [hB]; exact List.mem_append_left _ ht) with h | h
    · simp at h
    · exact hr t h
  have hle : (A ++ [s]).length ≤ (cnt fit l).length := by have := congrArg List.length hB; rw [List.length_append] at this; omega
  refine ⟨hF.b, .inl ⟨hn1, by omega, pv, yv, rfl, ?_, ?_⟩⟩
  · rw [ht]
    refine own_SLi (base := w.heap.size + 1) (by rw [List.length_map]; exact hF.ox) (fun y hy => ?_) (by rw [List.length_map]; omega)
    obtain ⟨t, h1, rfl⟩ := List.mem_map.1 hy
    exact (hm t h1).1
  · rw [ht]
    refine own_SLi (base := w.heap.size + 1) (by rw [List.length_map]; exact hF.oy) (fun y hy => ?_) (by rw [List.length_map]; omega)
    obtain ⟨t, h1, rfl⟩ := List.mem_map.1 hy
    exact (hm t h1).2
theorem infoI : (Tryz.prog.info? 3).map (fun i => (i.zero, i.size, i.bytes)) = some (some (.int .i64 0), 1, 8) := by kernel_rfl
set_option maxRecDepth 100000 in
set_option maxHeartbeats 4000000 in
theorem first_m (w : World) (need : Int) (v : Value) (l : List (Int × Int)) (hV : ShL w v l) (hn : i64 need) :
    Calls Tryz.prog 93 #[.int .i64 need, v, .func (.func 32) #[] #[]] w (FQ w need (cnt mem l)) := by
  have hmm := @run_makeMap Tryz.prog
  obtain ⟨⟨p, c, rfl, hc⟩, hr, hln⟩ := hV
  by_cases hn1 : need < 1
  · clear hc hr
    generalize l.length = N at *
    go_enter Tryz.func93, Tryz.ntmps93
    go_wp2
    go_ret3
    exact ⟨Below.refl _ _, .inr ⟨.inl hn1, rfl⟩⟩
  have HI := Lib.hid (And.intro hc hr); clear hc hr
  obtain ⟨N, hN⟩ : ∃ N, l.length = N := ⟨_, rfl⟩
  rw [hN] at hln
  rw [hN]
  have HN := Lib.hid hN; clear hN
  go_enter Tryz.func93, Tryz.ntmps93
  go_wp2_with fail
  go_loopw [6, 7, 17] (fun o1 o2 i wr => ∃ (k : Nat) (pv yv : Value), k ≤ N ∧ o1 = pv ∧ o2 = yv ∧ i = .int .i64 (k : Int) ∧ Hid (FS w pv yv (cnt mem (l.take k)) wr ∧ ((cnt mem (l.take k)).length : Int) < need)) (fun _ _ i _ => N - (match i with | .int _ i => i.toNat | _ => 0))
  case atStart => exact ⟨0, _, _, Nat.zero_le _, rfl, rfl, rfl, Lib.hid ⟨⟨(Below.refl _ _).alloc (Nat.le_refl _) _, SetD.made w, World.ownsRow_nil _ _ _ _, World.ownsRow_nil _ _ _ _, fun g h => by cases h⟩, by show (0 : Int) < need; omega⟩⟩
  case round =>
    obtain ⟨k, pv, yv, hk, rfl, rfl, rfl, hF⟩ := hrel
    by_cases hlt : k < N
    · obtain ⟨⟨x, y⟩, hx⟩ : ∃ s, l[k]? = some s := ⟨l[k]'(by rw [HN.out]; exact hlt), List.getElem?_eq_getElem _⟩
      obtain ⟨b, o, hp, hcx, hcy⟩ := HI.out.1 k _ hx
      subst hp
      have c0 := (hF.out.1.b.cell (p := ⟨b, o + k * 2, none⟩) (World.block_lt_of_cell? _ _ hcx)).trans hcx
      have c1 := (hF.out.1.b.cell (p := ⟨b, o + k * 2 + 1, none⟩) (World.block_lt_of_cell? _ _ hcy)).trans hcy
      dsimp only at c0 c1
      have hixy := HI.out.2 _ (List.mem_of_getElem? hx)
      have hix : i64 x := hixy.1
      have hiy : i64 y := hixy.2
      have HC := Lib.hid (cnt_take mem l k (x, y) hx)
      clear hx hcx hcy hixy
      obtain ⟨A, hA⟩ : ∃ A, cnt mem (l.take k) = A := ⟨_, rfl⟩
      rw [hA] at hF HC
      have hAk : A.length ≤ k := by rw [← hA]; exact Nat.le_trans (cnt_len _ _) (by rw [List.length_take]; omega)
      clear hA
      go_upto_region 7 with fail
      obtain ⟨V, hV⟩ : ∃ V, wr.alloc (.cells #[.int .i64 x, .int .i64 y] 23) = V := ⟨_, rfl⟩
      rw [hV]
      have bV : Below wr.heap.size wr V := by rw [← hV]; exact (Below.refl _ wr).alloc (Nat.le_refl _) _
      have d0 : V.cell? ⟨wr.heap.size, 0, none⟩ = some (.int .i64 x) := by rw [← hV, World.cell?_alloc_at _ _ _ _ rfl]; rfl
      have d1 : V.cell? ⟨wr.heap.size, 1, none⟩ = some (.int .i64 y) := by rw [← hV, World.cell?_alloc_at _ _ _ _ rfl]; rfl
      clear hV c0 c1
      have hFV := Lib.hid (hF.out.1.next bV)
      have HB := Lib.hid bV
      clear bV
      obtain ⟨g0, hg0⟩ : ∃ g0, g0 = wr.heap.size := ⟨_, rfl⟩
      have HG := Lib.hid hg0
      rw [← hg0] at d0 d1 ⊢
      clear hg0
      have stay : Hid (cst mem A (x, y) = A → ∀ U, Below V.heap.size V U → Hid (FS w u6 u7 (cnt mem (l.take (k+1))) U ∧ ((cnt mem (l.take (k+1))).length : Int) < need)) := Lib.hid fun e U hU => Lib.hid (by rw [HC.out, e]; exact ⟨hFV.out.next hU, hF.out.2⟩)
      by_cases h1 : x < 1
      · have ST := stay.out (cst_no mem A (x, y) (.inl h1)) V (Below.refl _ _)
        clear stay
        go_wp2
        exact ⟨⟨k + 1, _, _, by omega, rfl, rfl, by go_num, ST⟩, by simp; omega⟩
      by_cases h2 : 1152921504606845789 ≤ x
      · have ST := stay.out (cst_no mem A (x, y) (.inr (.inl h2))) V (Below.refl _ _)
        clear stay
        go_wp2
        exact ⟨⟨k + 1, _, _, by omega, rfl, rfl, by go_num, ST⟩, by simp; omega⟩
      have hl := hFV.out.s.look x hix
      cases h3 : (A.map Prod.fst).contains x with
      | true =>
        rw [h3] at hl
        have ST := stay.out (cst_no mem A (x, y) (.inr (.inr (.inl h3)))) V (Below.refl _ _)
        clear stay h3
        go_wp2
        exact ⟨⟨k + 1, _, _, by omega, rfl, rfl, by go_num, ST⟩, by simp; omega⟩
      | false =>
        rw [h3] at hl
        have H3 := Lib.hid h3; clear h3
        have M := Lib.hid fun W => member_k W y _ rfl hiy.1 hiy.2
        cases h4 : mem y with
        | false =>
          rw [h4] at M
          have ST := stay.out (cst_no mem A (x, y) (.inr (.inr (.inr h4))))
          have ST := Lib.hid ST
          clear stay h4
          go_wp2_with fail
          refine (M.out _).mono ?_
          rintro e w1 ⟨rfl, b1⟩
          have ST := ST.out _ b1
          clear b1
          go_wp2
          exact ⟨⟨k + 1, _, _, by omega, rfl, rfl, by go_num, ST⟩, by simp; omega⟩
        | true =>
          rw [h4] at M
          have HY := Lib.hid (cst_yes mem A (x, y) (by show 1 ≤ x; omega) (by show x < _; omega) H3.out h4)
          rw [← HC.out] at HY
          clear stay h4
          go_wp2_with fail
          refine (M.out _).mono ?_
          rintro e w1 ⟨rfl, b1⟩
          have hF1 := Lib.hid (hFV.out.next b1)
          have d0 := (b1.cell (p := ⟨g0, 0, none⟩) (World.block_lt_of_cell? _ _ d0)).trans d0
          have d1 := (b1.cell (p := ⟨g0, 1, none⟩) (World.block_lt_of_cell? _ _ d1)).trans d1
          have HB1 := Lib.hid (HB.out.trans (b1.mono HB.out.size))
          clear b1
          go_wp2_with (first | (at_mapUpdate; refine wpList_set_add _ rfl _ _ _ rfl w.heap.size A.length _ rfl hF1.out.s (by unfold maxLen; omega) x hix rfl rfl ?_; intro w2 hS2 hg2))
          have hG := hF.out.1.opened g0 HG.out HB1.out x y d0 d1 hS2 hg2
          clear hS2 hg2 d0 d1 HB1 hF1
          go_upto_region 9 with fail
          obtain ⟨i0, hi, hz0, hz1, hz2⟩ := info_parts infoI
          have HIR := Lib.hid HI.out.2
          have HN9 := Lib.hid (show l.length ≤ 1000000000 by rw [HN.out]; exact hln)
          clear HC HI
          refine wp_region_held_drew (S := fun W => W.cell? ⟨g0, 0, none⟩ = some (.int .i64 x) ∧ W.cell? ⟨g0, 1, none⟩ = some (.int .i64 y)) (by kernel_rfl) ⟨hG.c0, hG.c1⟩ (fun hS => ?_)
          replace hG := hG.next (Below.refl _ _).drew
          refine wpAnyH_take (i := 0) (v := ?vf00) rfl (by kernel_rfl) (by kernel_rfl) (by kernel_rfl) (fun _ _ _ h => h) (Or.inl ⟨by rfl, ?yf00⟩) hS ?rf00
          case yf00 => (intro w hS; go_simp; try with_reducible rfl)
          refine wpAnyH_take (i := 1) (v := ?vf01) rfl (by kernel_rfl) (by kernel_rfl) (by kernel_rfl) (fun _ _ _ h => h) (Or.inl ⟨by rfl, ?yf01⟩) hS ?rf01
          case yf01 => (intro w hS; go_simp; try with_reducible rfl)
          refine wpAnyH_take (i := 5) (v := ?vf05) rfl (by kernel_rfl) (by kernel_rfl) (by kernel_rfl) (fun _ _ _ h => h) (Or.inl ⟨by rfl, ?yf05⟩) hS ?rf05
          case yf05 => (intro w hS; go_simp; try with_reducible rfl)
          refine wpAnyH_take (i := 6) (v := ?vf06) rfl (by kernel_rfl) (by kernel_rfl) (by kernel_rfl) (fun _ _ _ h => h) (Or.inl ⟨by rfl, ?yf06⟩) hS ?rf06
          case yf06 => (intro w hS; go_simp; try with_reducible rfl)
          go_simp
          refine wpAnyH_take (i := 2) (v := .int .i64 x) rfl (by kernel_rfl) (by kernel_rfl) (by kernel_rfl) (fun _ _ _ h => h) (Or.inl ⟨by rfl, ?yf02⟩) hS ?rf02
          case yf02 => (intro w' hS; have cf := hS.1; go_simp; try with_reducible rfl)
          refine wpAnyH_take (i := 7) (v := .int .i64 y) rfl (by kernel_rfl) (by kernel_rfl) (by kernel_rfl) (fun _ _ _ h => h) (Or.inl ⟨by rfl, ?yf07⟩) hS ?rf07
          case yf07 => (intro w' hS; have cf := hS.2; go_simp; try with_reducible rfl)
          go_simp
          obtain ⟨u0, hu0⟩ : ∃ u, w2.drew = u := ⟨_, rfl⟩
          rw [hu0] at hG hS ⊢
          clear hu0
          refine wpAnyH_ready (rs := [3, 8]) (by kernel_rfl) (by simp) ?_
          refine (AllReadyH.cons (o := { dst := some 48, op := .buildSlice 34 1 #[(0, .tmp 47)], type := 34, pos := "shares.go:50", after := #[⟨2, .data⟩], guard := none }) rfl (fun K hK => ?_) (AllReadyH.cons (o := { dst := some 53, op := .buildSlice 34 1 #[(0, .tmp 52)], type := 34, pos := "shares.go:50", after := #[⟨7, .data⟩], guard := none }) rfl (fun K hK => ?_) AllReadyH.nil))
          · go_simp
            have hNx := heap_alloc_new u0 (.cells #[.int .i64 x] 3)
            have kb := (Below.refl u0.heap.size u0).alloc (Nat.le_refl _) (.cells #[.int .i64 x] 3)
            have hG2 := hG.next kb
            clear hG hS kb
            refine hK.out _ _ ⟨hG2.c0, hG2.c1⟩ (fun hS => ?_)
            clear hK K
            have hG := hG2
            clear hG2
            obtain ⟨kx, hkx⟩ : ∃ b, u0.heap.size = b := ⟨_, rfl⟩
            obtain ⟨u1, hu1⟩ : ∃ V, u0.alloc (.cells #[.int .i64 x] 3) = V := ⟨_, rfl⟩
            rw [hu1] at hG hS hNx ⊢
            rw [hkx] at hNx ⊢
            clear hkx hu1
            refine wpAnyH_ready (rs := [4, 8]) (by kernel_rfl) (by simp) ?_
            refine (AllReadyH.cons (o := { dst := some 49, op := .call { callee := .builtin .append, args := #[.tmp 45, .tmp 48], argTypes := #[34, 34] }, type := 34, pos := "shares.go:50", after := #[⟨0, .data⟩, ⟨3, .data⟩], guard := none }) rfl (fun K hK => ?_) (AllReadyH.cons (o := { dst := some 53, op := .buildSlice 34 1 #[(0, .tmp 52)], type := 34, pos := "shares.go:50", after := #[⟨7, .data⟩], guard := none }) rfl (fun K hK => ?_) AllReadyH.nil))
            · refine step_append_lies _ rfl _ _ 34 rfl (w.heap.size + 1) 3 i0 (.int .i64 0) 1 8 Tryz.underlying34 hi hz0 hz1 hz2 rfl (by decide) _ (A.map Prod.fst).length ((A.map Prod.fst).map (Value.int .i64)) rfl hG.ox ⟨kx, 0, none⟩ 1 1 [.int .i64 x] rfl rfl (World.news_of_block hNx) (by simp [Value.oneCell']) Nat.zero_lt_one (by rw [List.length_map]; unfold maxLen; omega) (by rw [List.length_map]; omega) hG.lt _ rfl ?_
              intro gx cx wx hown9 hgrow9 hat9 hlt9
              have hG2 := hG.appX x rfl hown9 hgrow9 hat9
              clear hG hS hown9 hgrow9 hat9 hlt9 hNx
              refine hK.out _ _ ⟨hG2.c0, hG2.c1⟩ (fun hS => ?_)
              clear hK K
              have hG := hG2
              clear hG2
              refine wpAnyH_ready (rs := [8]) (by kernel_rfl) (by simp) ?_
              refine (AllReadyH.cons (o := { dst := some 53, op := .buildSlice 34 1 #[(0, .tmp 52)], type := 34, pos := "shares.go:50", after := #[⟨7, .data⟩], guard := none }) rfl (fun K hK => ?_) AllReadyH.nil)
              go_simp
              have hNy := heap_alloc_new wx (.cells #[.int .i64 y] 3)
              have kb := (Below.refl wx.heap.size wx).alloc (Nat.le_refl _) (.cells #[.int .i64 y] 3)
              have hG2 := hG.next kb
              clear hG hS kb
              refine hK.out _ _ ⟨hG2.c0, hG2.c1⟩ (fun hS => ?_)
              clear hK K
              have hG := hG2
              clear hG2
              obtain ⟨ky, hky⟩ : ∃ b, wx.heap.size = b := ⟨_, rfl⟩
              obtain ⟨u2, hu2⟩ : ∃ V, wx.alloc (.cells #[.int .i64 y] 3) = V := ⟨_, rfl⟩
              rw [hu2] at hG hS hNy ⊢
              rw [hky] at hNy ⊢
              clear hky hu2
              refine wpAnyH_ready (rs := [9]) (by kernel_rfl) (by simp) ?_
              refine (AllReadyH.cons (o := { dst := some 54, op := .call { callee := .builtin .append, args := #[.tmp 50, .tmp 53], argTypes := #[34, 34] }, type := 34, pos := "shares.go:50", after := #[⟨5, .data⟩, ⟨8, .data⟩, ⟨4, .chain⟩], guard := none }) rfl (fun K hK => ?_) AllReadyH.nil)
              refine step_append_lies _ rfl _ _ 34 rfl (w.heap.size + 1) 3 i0 (.int .i64 0) 1 8 Tryz.underlying34 hi hz0 hz1 hz2 rfl (by decide) _ (A.map Prod.snd).length ((A.map Prod.snd).map (Value.int .i64)) rfl hG.oy ⟨ky, 0, none⟩ 1 1 [.int .i64 y] rfl rfl (World.news_of_block hNy) (by simp [Value.oneCell']) Nat.zero_lt_one (by rw [List.length_map]; unfold maxLen; omega) (by rw [List.length_map]; omega) hG.lt _ rfl ?_
              intro gy cy wy hown9 hgrow9 hat9 hlt9
              have hG2 := hG.appY y rfl hown9 hgrow9 hat9
              clear hG hS hown9 hgrow9 hat9 hlt9 hNy
              refine hK.out _ _ ⟨hG2.c0, hG2.c1⟩ (fun hS => ?_)
              clear hK K
              have hG := hG2
              clear hG2
              refine wpAnyH_take (i := 10) (v := ?vf110) rfl (by kernel_rfl) (by kernel_rfl) (by kernel_rfl) (fun _ _ _ h => h) (Or.inl ⟨by rfl, ?yf110⟩) hS ?rf110
              case yf110 => (intro w hS; go_simp; try with_reducible rfl)
              go_simp
              refine wpAnyH_take (i := 11) (v := ?vf111) rfl (by kernel_rfl) (by kernel_rfl) (by kernel_rfl) (fun _ _ _ h => h) (Or.inl ⟨by rfl, ?yf111⟩) hS ?rf111
              case yf111 => (intro w hS; go_simp; try with_reducible rfl)
              go_simp
              refine wpAnyH_done (by kernel_rfl) ?_ _
              have hF3 := hG.shut
              simp only [List.length_map] at hF3
              have hF3 := Lib.hid hF3
              clear hG hS
              have hAl := Lib.hid (show ((A ++ [(x, y)]).length : Int) = A.length + 1 by simp)
              by_cases he : (A.length : Int) + 1 = need
              · have HQ := Lib.hid (fq_yes mem w need l k A (x, y) HY.out (by omega) (by have := hAl.out; omega) hF3.out (fun s hs => HIR.out s hs) HN9.out)
                clear hF3
                go_wp2
                go_ret3
                exact HQ.out
              · have ST := Lib.hid (show FS w _ _ (cnt mem (l.take (k+1))) wy ∧ ((cnt mem (l.take (k+1))).length : Int) < need from by rw [HY.out]; exact ⟨hF3.out, by have := hAl.out; have := hF.out.2; omega⟩)
                clear hF3
                go_wp2
                exact ⟨⟨k + 1, _, _, by omega, rfl, rfl, by go_num, ST⟩, by simp; omega⟩
            · go_simp
              have hNy := heap_alloc_new u1 (.cells #[.int .i64 y] 3)
              have kb := (Below.refl u1.heap.size u1).alloc (Nat.le_refl _) (.cells #[.int .i64 y] 3)
              have hyp : u6.ownBlock ≠ some u1.heap.size := fun e => Nat.lt_irrefl _ (hG.ox.lt _ e).2
              replace hNx := (kb.block _ (Array.getElem?_eq_some_iff.1 hNx).1).trans hNx
              have hG2 := hG.next kb
              clear hG hS kb
              refine hK.out _ _ ⟨hG2.c0, hG2.c1⟩ (fun hS => ?_)
              clear hK K
              have hG := hG2
              clear hG2
              obtain ⟨ky, hky⟩ : ∃ b, u1.heap.size = b := ⟨_, rfl⟩
              obtain ⟨u2, hu2⟩ : ∃ V, u1.alloc (.cells #[.int .i64 y] 3) = V := ⟨_, rfl⟩
              rw [hu2] at hG hS hNy ⊢
              rw [hky] at hNy ⊢
              rw [hky] at hyp
              rw [hu2] at hNx
              clear hky hu2
              refine wpAnyH_ready (rs := [4]) (by kernel_rfl) (by simp) ?_
              refine (AllReadyH.cons (o := { dst := some 49, op := .call { callee := .builtin .append, args := #[.tmp 45, .tmp 48], argTypes := #[34, 34] }, type := 34, pos := "shares.go:50", after := #[⟨0, .data⟩, ⟨3, .data⟩], guard := none }) rfl (fun K hK => ?_) AllReadyH.nil)
              refine step_append_lies _ rfl _ _ 34 rfl (w.heap.size + 1) 3 i0 (.int .i64 0) 1 8 Tryz.underlying34 hi hz0 hz1 hz2 rfl (by decide) _ (A.map Prod.fst).length ((A.map Prod.fst).map (Value.int .i64)) rfl hG.ox ⟨kx, 0, none⟩ 1 1 [.int .i64 x] rfl rfl (World.news_of_block hNx) (by simp [Value.oneCell']) Nat.zero_lt_one (by rw [List.length_map]; unfold maxLen; omega) (by rw [List.length_map]; omega) hG.lt _ rfl ?_
              intro gx cx wx hown9 hgrow9 hat9 hlt9
              replace hNy := (hgrow9.block _ (Array.getElem?_eq_some_iff.1 hNy).1 (fun e => hyp e.symm)).trans hNy
              clear hyp
              have hG2 := hG.appX x rfl hown9 hgrow9 hat9
              clear hG hS hown9 hgrow9 hat9 hlt9 hNx
              refine hK.out _ _ ⟨hG2.c0, hG2.c1⟩ (fun hS => ?_)
              clear hK K
              have hG := hG2
              clear hG2
              refine wpAnyH_ready (rs := [9]) (by kernel_rfl) (by simp) ?_
              refine (AllReadyH.cons (o := { dst := some 54, op := .call { callee := .builtin .append, args := #[.tmp 50, .tmp 53], argTypes := #[34, 34] }, type := 34, pos := "shares.go:50", after := #[⟨5, .data⟩, ⟨8, .data⟩, ⟨4, .chain⟩], guard := none }) rfl (fun K hK => ?_) AllReadyH.nil)
              refine step_append_lies _ rfl _ _ 34 rfl (w.heap.size + 1) 3 i0 (.int .i64 0) 1 8 Tryz.underlying34 hi hz0 hz1 hz2 rfl (by decide) _ (A.map Prod.snd).length ((A.map Prod.snd).map (Value.int .i64)) rfl hG.oy ⟨ky, 0, none⟩ 1 1 [.int .i64 y] rfl rfl (World.news_of_block hNy) (by simp [Value.oneCell']) Nat.zero_lt_one (by rw [List.length_map]; unfold maxLen; omega) (by rw [List.length_map]; omega) hG.lt _ rfl ?_
              intro gy cy wy hown9 hgrow9 hat9 hlt9
              have hG2 := hG.appY y rfl hown9 hgrow9 hat9
              clear hG hS hown9 hgrow9 hat9 hlt9 hNy
              refine hK.out _ _ ⟨hG2.c0, hG2.c1⟩ (fun hS => ?_)
              clear hK K
              have hG := hG2
              clear hG2
              refine wpAnyH_take (i := 10) (v := ?vf210) rfl (by kernel_rfl) (by kernel_rfl) (by kernel_rfl) (fun _ _ _ h => h) (Or.inl ⟨by rfl, ?yf210⟩) hS ?rf210
              case yf210 => (intro w hS; go_simp; try with_reducible rfl)
              go_simp
              refine wpAnyH_take (i := 11) (v := ?vf211) rfl (by kernel_rfl) (by kernel_rfl) (by kernel_rfl) (fun _ _ _ h => h) (Or.inl ⟨by rfl, ?yf211⟩) hS ?rf211
              case yf211 => (intro w hS; go_simp; try with_reducible rfl)
              go_simp
              refine wpAnyH_done (by kernel_rfl) ?_ _
              have hF3 := hG.shut
              simp only [List.length_map] at hF3
              have hF3 := Lib.hid hF3
              clear hG hS
              have hAl := Lib.hid (show ((A ++ [(x, y)]).length : Int) = A.length + 1 by simp)
              by_cases he : (A.length : Int) + 1 = need
              · have HQ := Lib.hid (fq_yes mem w need l k A (x, y) HY.out (by omega) (by have := hAl.out; omega) hF3.out (fun s hs => HIR.out s hs) HN9.out)
                clear hF3
                go_wp2
                go_ret3
                exact HQ.out
              · have ST := Lib.hid (show FS w _ _ (cnt mem (l.take (k+1))) wy ∧ ((cnt mem (l.take (k+1))).length : Int) < need from by rw [HY.out]; exact ⟨hF3.out, by have := hAl.out; have := hF.out.2; omega⟩)
                clear hF3
                go_wp2
                exact ⟨⟨k + 1, _, _, by omega, rfl, rfl, by go_num, ST⟩, by simp; omega⟩
          · go_simp
            have hNy := heap_alloc_new u0 (.cells #[.int .i64 y] 3)
            have kb := (Below.refl u0.heap.size u0).alloc (Nat.le_refl _) (.cells #[.int .i64 y] 3)
            have hyp : u6.ownBlock ≠ some u0.heap.size := fun e => Nat.lt_irrefl _ (hG.ox.lt _ e).2
            have hG2 := hG.next kb
            clear hG hS kb
            refine hK.out _ _ ⟨hG2.c0, hG2.c1⟩ (fun hS => ?_)
            clear hK K
            have hG := hG2
            clear hG2
            obtain ⟨ky, hky⟩ : ∃ b, u0.heap.size = b := ⟨_, rfl⟩
            obtain ⟨u1, hu1⟩ : ∃ V, u0.alloc (.cells #[.int .i64 y] 3) = V := ⟨_, rfl⟩
            rw [hu1] at hG hS hNy ⊢
            rw [hky] at hNy ⊢
            rw [hky] at hyp
            clear hky hu1
            refine wpAnyH_ready (rs := [3]) (by kernel_rfl) (by simp) ?_
            refine (AllReadyH.cons (o := { dst := some 48, op := .buildSlice 34 1 #[(0, .tmp 47)], type := 34, pos := "shares.go:50", after := #[⟨2, .data⟩], guard := none }) rfl (fun K hK => ?_) AllReadyH.nil)
            go_simp
            have hNx := heap_alloc_new u1 (.cells #[.int .i64 x] 3)
            have kb := (Below.refl u1.heap.size u1).alloc (Nat.le_refl _) (.cells #[.int .i64 x] 3)
            replace hNy := (kb.block _ (Array.getElem?_eq_some_iff.1 hNy).1).trans hNy
            have hG2 := hG.next kb
            clear hG hS kb
            refine hK.out _ _ ⟨hG2.c0, hG2.c1⟩ (fun hS => ?_)
            clear hK K
            have hG := hG2
            clear hG2
            obtain ⟨kx, hkx⟩ : ∃ b, u1.heap.size = b := ⟨_, rfl⟩
            obtain ⟨u2, hu2⟩ : ∃ V, u1.alloc (.cells #[.int .i64 x] 3) = V := ⟨_, rfl⟩
            rw [hu2] at hG hS hNx ⊢
            rw [hkx] at hNx ⊢
            rw [hu2] at hNy
            clear hkx hu2
            refine wpAnyH_ready (rs := [4]) (by kernel_rfl) (by simp) ?_
            refine (AllReadyH.cons (o := { dst := some 49, op := .call { callee := .builtin .append, args := #[.tmp 45, .tmp 48], argTypes := #[34, 34] }, type := 34, pos := "shares.go:50", after := #[⟨0, .data⟩, ⟨3, .data⟩], guard := none }) rfl (fun K hK => ?_) AllReadyH.nil)
            refine step_append_lies _ rfl _ _ 34 rfl (w.heap.size + 1) 3 i0 (.int .i64 0) 1 8 Tryz.underlying34 hi hz0 hz1 hz2 rfl (by decide) _ (A.map Prod.fst).length ((A.map Prod.fst).map (Value.int .i64)) rfl hG.ox ⟨kx, 0, none⟩ 1 1 [.int .i64 x] rfl rfl (World.news_of_block hNx) (by simp [Value.oneCell']) Nat.zero_lt_one (by rw [List.length_map]; unfold maxLen; omega) (by rw [List.length_map]; omega) hG.lt _ rfl ?_
            intro gx cx wx hown9 hgrow9 hat9 hlt9
            replace hNy := (hgrow9.block _ (Array.getElem?_eq_some_iff.1 hNy).1 (fun e => hyp e.symm)).trans hNy
            clear hyp
            have hG2 := hG.appX x rfl hown9 hgrow9 hat9
            clear hG hS hown9 hgrow9 hat9 hlt9 hNx
            refine hK.out _ _ ⟨hG2.c0, hG2.c1⟩ (fun hS => ?_)
            clear hK K
            have hG := hG2
            clear hG2
            refine wpAnyH_ready (rs := [9]) (by kernel_rfl) (by simp) ?_
            refine (AllReadyH.cons (o := { dst := some 54, op := .call { callee := .builtin .append, args := #[.tmp 50, .tmp 53], argTypes := #[34, 34] }, type := 34, pos := "shares.go:50", after := #[⟨5, .data⟩, ⟨8, .data⟩, ⟨4, .chain⟩], guard := none }) rfl (fun K hK => ?_) AllReadyH.nil)
            refine step_append_lies _ rfl _ _ 34 rfl (w.heap.size + 1) 3 i0 (.int .i64 0) 1 8 Tryz.underlying34 hi hz0 hz1 hz2 rfl (by decide) _ (A.map Prod.snd).length ((A.map Prod.snd).map (Value.int .i64)) rfl hG.oy ⟨ky, 0, none⟩ 1 1 [.int .i64 y] rfl rfl (World.news_of_block hNy) (by simp [Value.oneCell']) Nat.zero_lt_one (by rw [List.length_map]; unfold maxLen; omega) (by rw [List.length_map]; omega) hG.lt _ rfl ?_
            intro gy cy wy hown9 hgrow9 hat9 hlt9
            have hG2 := hG.appY y rfl hown9 hgrow9 hat9
            clear hG hS hown9 hgrow9 hat9 hlt9 hNy
            refine hK.out _ _ ⟨hG2.c0, hG2.c1⟩ (fun hS => ?_)
            clear hK K
            have hG := hG2
            clear hG2
            refine wpAnyH_take (i := 10) (v := ?vf310) rfl (by kernel_rfl) (by kernel_rfl) (by kernel_rfl) (fun _ _ _ h => h) (Or.inl ⟨by rfl, ?yf310⟩) hS ?rf310
            case yf310 => (intro w hS; go_simp; try with_reducible rfl)
            go_simp
            refine wpAnyH_take (i := 11) (v := ?vf311) rfl (by kernel_rfl) (by kernel_rfl) (by kernel_rfl) (fun _ _ _ h => h) (Or.inl ⟨by rfl, ?yf311⟩) hS ?rf311
            case yf311 => (intro w hS; go_simp; try with_reducible rfl)
            go_simp
            refine wpAnyH_done (by kernel_rfl) ?_ _
            have hF3 := hG.shut
            simp only [List.length_map] at hF3
            have hF3 := Lib.hid hF3
            clear hG hS
            have hAl := Lib.hid (show ((A ++ [(x, y)]).length : Int) = A.length + 1 by simp)
            by_cases he : (A.length : Int) + 1 = need
            · have HQ := Lib.hid (fq_yes mem w need l k A (x, y) HY.out (by omega) (by have := hAl.out; omega) hF3.out (fun s hs => HIR.out s hs) HN9.out)
              clear hF3
              go_wp2
              go_ret3
              exact HQ.out
            · have ST := Lib.hid (show FS w _ _ (cnt mem (l.take (k+1))) wy ∧ ((cnt mem (l.take (k+1))).length : Int) < need from by rw [HY.out]; exact ⟨hF3.out, by have := hAl.out; have := hF.out.2; omega⟩)
              clear hF3
              go_wp2
              exact ⟨⟨k + 1, _, _, by omega, rfl, rfl, by go_num, ST⟩, by simp; omega⟩
    · obtain rfl : k = N := by omega
      have hE : l.take k = l := List.take_of_length_le (by rw [HN.out]; exact Nat.le_refl _)
      rw [hE] at hF
      have HQ := Lib.hid (show FQ w need (cnt mem l) (.returned (.tuple #[.slice none 0 0, .slice none 0 0, .bool false])) wr from ⟨hF.out.1.b, .inr ⟨.inr hF.out.2, rfl⟩⟩)
      clear hF hE
      go_wp2
      go_ret3
      exact HQ.out

end Go.Proofs.YtbfplapjjeeceaaGreatDoor.W8
namespace Go.Proofs.YtbfplapjjeeceaaGreatDoor.W8
open Go.RowKit GM G4 D7P Go.Maps
theorem cst_pts (fit : Int → Bool) (A : List (Int × Int)) (s : Int × Int) (h : Pts (A.map Prod.fst)) : Pts ((cst fit A s).map Prod.fst) := by
  unfold cst
  split
  · rename_i hc
    rw [List.map_append]
    refine ⟨fun x hx => ?_, ?_⟩
    · rcases List.mem_append.1 hx with hx | hx
      · exact h.r x hx
      · simp at hx; subst hx; exact ⟨hc.1, hc.2.1⟩
    · rw [List.nodup_append]
      refine ⟨h.d, by simp, fun a ha b hb e => ?_⟩
      simp at hb
      subst hb
      subst e
      have := hc.2.2.1
      rw [List.contains_eq_mem, decide_eq_false_iff_not] at this
      exact this ha
  · exact h
theorem cnt_pts' (fit : Int → Bool) : ∀ (l A : List (Int × Int)), Pts (A.map Prod.fst) → Pts ((l.foldl (cst fit) A).map Prod.fst)
  | [], _, h => h
  | s :: l, A, h => cnt_pts' fit l (cst fit A s) (cst_pts fit A s h)
theorem cnt_pts (fit : Int → Bool) (l : List (Int × Int)) (n : Nat) : Pts (((cnt fit l).take n).map Prod.fst) := by
  have h := cnt_pts' fit l [] ⟨by simp, by simp⟩
  rw [List.map_take]
  exact ⟨fun x hx => h.r x (List.mem_of_mem_take hx), h.d.sublist (List.take_sublist _ _)⟩
/-- points and numbers of the first shares that count -/
def pX (fit : Int → Bool) (need : Int) (l : List (Int × Int)) : List Int := ((cnt fit l).take need.toNat).map Prod.fst
def pY (fit : Int → Bool) (need : Int) (l : List (Int × Int)) : List Int := ((cnt fit l).take need.toNat).map Prod.snd
def enough (fit : Int → Bool) (need : Int) (l : List (Int × Int)) : Bool := decide (1 ≤ need) && decide (need ≤ ((cnt fit l).length : Int))
noncomputable def jn (need : Int) (l : List (Int × Int)) : Int := if enough rq need l then js (pX rq need l) 0 ((pX rq need l).zip (pY rq need l)) else 0
noncomputable def lf (need : Int) (l : List (Int × Int)) : Int := if enough mem need l then jl (pX mem need l) 1 ((pX mem need l).zip (pY mem need l)) else 0
theorem enough_yes {fit : Int → Bool} {need : Int} {l : List (Int × Int)} (h1 : 1 ≤ need) (h2 : need ≤ ((cnt fit l).length : Int)) : enough fit need l = true := by
  unfold enough; simp [h1, h2]
theorem enough_no {fit : Int → Bool} {need : Int} {l : List (Int × Int)} (h : need < 1 ∨ ((cnt fit l).length : Int) < need) : enough fit need l = false := by
  unfold enough
  rcases h with h | h
  · rw [decide_eq_false (show ¬ 1 ≤ need by omega)]; rfl
  · rw [decide_eq_false (show ¬ need ≤ ((cnt fit l).length : Int) by omega), Bool.and_false]
set_option maxRecDepth 100000 in
theorem Lift_any (w : World) (need : Int) (v : Value) (l : List (Int × Int)) (hV : ShL w v l) (hn : i64 need) (r : Int) (ok : Bool) (hr : lf need l = r) (hok : enough mem need l = ok) :
    Calls Tryz.prog 57 #[.int .i64 need, v] w fun e w' => e = .returned (.tuple #[.int .i64 r, .bool ok]) ∧ Below w.heap.size w w' := by
  have F := Lib.hid (first_m w need v l hV hn)
  have HR := Lib.hid (And.intro hr hok)
  clear hV hr hok
  go_enter Tryz.func57, Tryz.ntmps57
  go_wp2_with fail
  refine F.out.mono ?_
  rintro e w1 ⟨hb, h⟩
  rcases h with ⟨h1, h2, pv, yv, rfl, hp, hy⟩ | ⟨h, rfl⟩
  · have he := enough_yes h1 h2
    have hj : jl (pX mem need l) 1 ((pX mem need l).zip (pY mem need l)) = r := by rw [← HR.out.1]; unfold lf; rw [he]; rfl
    obtain rfl : ok = true := by rw [← HR.out.2]; exact he
    have hlen : (pX mem need l).length = (pY mem need l).length := by unfold pX pY; rw [List.length_map, List.length_map]
    have hP : Pts (pX mem need l) := cnt_pts mem l _
    have hp' : SLi w1 pv (pX mem need l) := hp
    have hy' : SLi w1 yv (pY mem need l) := hy
    clear hp hy
    generalize pX mem need l = ps at *
    generalize pY mem need l = ys at *
    obtain ⟨p, c, rfl, bp⟩ := hp'.form
    obtain ⟨q, m, rfl, by'⟩ := hy'.form
    have hB1 := (Below.refl w1.heap.size w1).alloc (Nat.le_refl _) (.cells #[.slice q ys.length m] 34)
    have B1 := by' w1 (Below.refl _ _)
    have B2 := bp (w1.alloc (.cells #[.slice q ys.length m] 34)) hB1
    have B3 := B1.next ((Below.refl _ _).alloc (Nat.le_refl _) (.cells #[.slice p ps.length c] 34))
    have hB2 := hB1.alloc hB1.size (.cells #[.slice p ps.length c] 34)
    rw [World.size_alloc] at B2
    have F2 := Lib.hid (fold_lift _ 1 _ _ p q c m ps ys B2 B3 hP hlen (by decide))
    rw [hj] at F2
    have HB := Lib.hid (hb.trans (hB2.mono hb.size))
    clear hB1 B1 B2 B3 hB2 hp' hy' bp by' hP hlen hj hb he h1 h2
    generalize ps.length = n at *
    generalize ys.length = n2 at *
    go_wp2_with fail
    refine (factors_any _ _ _ _).mono ?_
    rintro e w' ⟨rfl, rfl⟩
    go_wp2_with fail
    refine F2.out.mono ?_
    rintro e w3 ⟨rfl, b⟩
    have hb := Lib.hid (HB.out.trans (b.mono HB.out.size)); clear b
    go_wp2
    go_ret2
    exact ⟨rfl, hb.out⟩
  · have he := enough_no h
    obtain rfl : r = 0 := by rw [← HR.out.1]; unfold lf; rw [he]; rfl
    obtain rfl : ok = false := by rw [← HR.out.2]; exact he
    have HB := Lib.hid (hb.alloc hb.size (.cells #[.slice none 0 0] 34))
    clear hb he h
    go_wp2
    go_ret2
    exact ⟨rfl, HB.out⟩

open Classical in
noncomputable def shk (from_ ys : List Int) : Bool := decide (from_.length ≠ 0 ∧ from_.length = ys.length ∧ DF 1152921504606845788 from_)
noncomputable def sh (from_ ys : List Int) : Int := if shk from_ ys then js from_ 0 (from_.zip ys) else 0
end Go.Proofs.YtbfplapjjeeceaaGreatDoor.W8
