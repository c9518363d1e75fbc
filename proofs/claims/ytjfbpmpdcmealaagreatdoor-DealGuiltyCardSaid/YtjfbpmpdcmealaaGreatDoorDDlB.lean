/-
  What the walk of the law DealDeals keeps.
  Numbers appended to a slice literal of none; what the walk of DealDeals keeps behind it.
-/
import Derived.Test.YtjfbpmpdcmealaaGreatDoorDRefI
import Derived.Test.YtjfbpmpdcmealaaGreatDoorDSanW
import Derived.Test.YtjfbpmpdcmealaaGreatDoorDRefC
import Derived.Test.YtjfbpmpdcmealaaGreatDoorDPlan
namespace Go.Proofs.YtjfbpmpdcmealaaGreatDoor.D7
open Go.RowKit GM SH G4 E6 D7P
/-- cells that stay, and the size of the heap -/
structure QB (w : World) (L : List (Addr × Value)) (W : World) : Prop where
  b : Below w.heap.size w W
  s : w.heap.size + 2 ≤ W.heap.size
  c : ∀ p ∈ L, p.1.block < w.heap.size + 2 ∧ W.cell? p.1 = some p.2
theorem QB.next {w W V : World} {L : List (Addr × Value)} (h : QB w L W) (k : Below W.heap.size W V) : QB w L V :=
  ⟨h.b.trans (k.mono h.b.size), Nat.le_trans h.s k.size, fun p hp => ⟨(h.c p hp).1, (k.cell (p := p.1) (World.block_lt_of_cell? _ _ (h.c p hp).2)).trans (h.c p hp).2⟩⟩
theorem QB.drew {w W : World} {L : List (Addr × Value)} (h : QB w L W) : QB w L W.drew := ⟨h.b.drew, h.s, h.c⟩
theorem QB.get {w W : World} {L : List (Addr × Value)} (h : QB w L W) (p : Addr) (v : Value) (hp : (p, v) ∈ L) : W.cell? p = some v := (h.c _ hp).2
theorem QB.setCell {w W : World} {L : List (Addr × Value)} (h : QB w L W) (g j : Nat) (u : Value) (hg : w.heap.size + 2 ≤ g) : QB w L (W.setCell ⟨g, j, none⟩ u) :=
  ⟨h.b.setCell (p := ⟨g, j, none⟩) (show w.heap.size ≤ g by omega) u, by simpa using h.s, fun p hp => by
    have := h.c p hp
    exact ⟨this.1, by rw [World.cell?_of_block (heap_setCell_other W ⟨g, j, none⟩ p.1.block _ (by show p.1.block ≠ g; omega))]; exact this.2⟩⟩
theorem QB.setRow {w W : World} {L : List (Addr × Value)} (h : QB w L W) (g : Nat) (cs : Array Value) (hg : w.heap.size + 2 ≤ g) : QB w L (W.setRow g cs) :=
  ⟨Below.setRow' h.b (by omega) _, by simpa using h.s, fun p hp => by
    have := h.c p hp
    exact ⟨this.1, by rw [World.cell?_of_block (setRow_other W g p.1.block cs (by omega))]; exact this.2⟩⟩
/-- two rows of the call's own, made one after the other, lie apart -/
theorem own_ne {w w' : World} {b1 : Nat} {e1 e2 : TypeId} {s1 s2 n1 n2 : Nat} {v1 v2 : Value} {xs ys : List Value} (h1 : w.ownsRow b1 e1 s1 v1 n1 xs) (h2 : w'.ownsRow w.heap.size e2 s2 v2 n2 ys) : ∀ g, v1.ownBlock = some g → v2.ownBlock ≠ some g := fun g h e => by
  have := (h1.lt g h).2
  have := (h2.lt g e).1
  omega
/-- a row of numbers isn't a dealing -/
theorem own_setRow {w : World} {base : Nat} {v : Value} {n : Nat} {xs : List Value} (h : w.ownsRow base 3 1 v n xs) (d : Nat) (old cs : Array Value) (hd : w.heap[d]? = some (.cells old 34 (0, 0))) : (w.setRow d cs).ownsRow base 3 1 v n xs := by
  refine ⟨h.1, ?_⟩
  rcases h.2 with h2 | ⟨g, cap, cur, h1, h2, h3, h4⟩
  · exact .inl h2
  · refine .inr ⟨g, cap, cur, h1, h2, ?_, h4⟩
    rw [setRow_other w d g cs (fun e => ?_)]
    · exact h3
    · subst e
      rw [h3] at hd
      injection hd with hd
      injection hd with _ hd _
      exact absurd hd (by decide)
/-- rows of numbers, dealings, rows of slices -/
structure Q3 (w : World) (L : List (Addr × Value)) (kv cv mv : Value) (K C M : List Int) (R : List Nat) (G : List (Nat × Array Value)) (W : World) : Prop where
  q : QB w L W
  hK : W.ownsRow (w.heap.size + 2) 3 1 kv K.length (K.map (Value.int .i64))
  hC : W.ownsRow (w.heap.size + 2) 3 1 cv C.length (C.map (Value.int .i64))
  hM : W.ownsRow (w.heap.size + 2) 3 1 mv M.length (M.map (Value.int .i64))
  n1 : ∀ g, kv.ownBlock = some g → cv.ownBlock ≠ some g
  n2 : ∀ g, kv.ownBlock = some g → mv.ownBlock ≠ some g
  n3 : ∀ g, cv.ownBlock = some g → mv.ownBlock ≠ some g
  r : ∀ d ∈ R, w.heap.size + 2 ≤ d ∧ ∃ cs : Array Value, cs.size = 3 ∧ W.heap[d]? = some (.cells cs 34 (0, 0))
  g : ∀ p ∈ G, W.heap[p.1]? = some (.cells p.2 22 (0, 0))
section
variable {w W V : World} {L : List (Addr × Value)} {kv cv mv : Value} {K C M : List Int} {R : List Nat} {G : List (Nat × Array Value)}
theorem Q3.next (h : Q3 w L kv cv mv K C M R G W) (k : Below W.heap.size W V) : Q3 w L kv cv mv K C M R G V :=
  ⟨h.q.next k, own_below h.hK k, own_below h.hC k, own_below h.hM k, h.n1, h.n2, h.n3, fun d hd => by
    obtain ⟨h0, cs, h1, h2⟩ := h.r d hd
    exact ⟨h0, cs, h1, (k.block _ (Array.getElem?_eq_some_iff.1 h2).1).trans h2⟩, fun p hp => (k.block _ (Array.getElem?_eq_some_iff.1 (h.g p hp)).1).trans (h.g p hp)⟩
theorem Q3.drew (h : Q3 w L kv cv mv K C M R G W) : Q3 w L kv cv mv K C M R G W.drew := ⟨h.q.drew, h.hK, h.hC, h.hM, h.n1, h.n2, h.n3, h.r, h.g⟩
theorem Q3.b (h : Q3 w L kv cv mv K C M R G W) : Below w.heap.size w W := h.q.b
theorem Q3.get (h : Q3 w L kv cv mv K C M R G W) (p : Addr) (v : Value) (hp : (p, v) ∈ L) : W.cell? p = some v := h.q.get p v hp
/-- a dealing is laid -/
theorem Q3.newD (h : Q3 w L kv cv mv K C M R G W) (cs : Array Value) (hs : cs.size = 3) : Q3 w L kv cv mv K C M (W.heap.size :: R) G (W.alloc (.cells cs 34)) := by
  have k := h.next ((Below.refl _ W).alloc (Nat.le_refl _) (.cells cs 34))
  refine ⟨k.q, k.hK, k.hC, k.hM, k.n1, k.n2, k.n3, fun d hd => ?_, k.g⟩
  rcases List.mem_cons.1 hd with rfl | hd
  · exact ⟨h.q.s, cs, hs, heap_alloc_new _ _⟩
  · exact k.r d hd
/-- a row of slices is laid -/
theorem Q3.newG (h : Q3 w L kv cv mv K C M R G W) (cs : Array Value) : Q3 w L kv cv mv K C M R ((W.heap.size, cs) :: G) (W.alloc (.cells cs 22)) := by
  have k := h.next ((Below.refl _ W).alloc (Nat.le_refl _) (.cells cs 22))
  refine ⟨k.q, k.hK, k.hC, k.hM, k.n1, k.n2, k.n3, k.r, fun p hp => ?_⟩
  rcases List.mem_cons.1 hp with rfl | hp
  · exact heap_alloc_new _ _
  · exact k.g p hp
/-- a dealing is written -/
theorem Q3.store (h : Q3 w L kv cv mv K C M R G W) (d : Nat) (hd : d ∈ R) (cs : Array Value) (hs : cs.size = 3) : Q3 w L kv cv mv K C M R G (W.setRow d cs) := by
  obtain ⟨h0, old, h1, h2⟩ := h.r d hd
  refine ⟨h.q.setRow d cs h0, own_setRow h.hK d old cs h2, own_setRow h.hC d old cs h2, own_setRow h.hM d old cs h2, h.n1, h.n2, h.n3, fun d' hd' => ?_, fun p hp => ?_⟩
  · obtain ⟨k0, cs2, k1, k2⟩ := h.r d' hd'
    by_cases e : d' = d
    · subst e
      exact ⟨k0, cs, hs, setRow_heap _ _ _ _ _ _ h2⟩
    · exact ⟨k0, cs2, k1, (setRow_other W d d' cs e).trans k2⟩
  · rw [setRow_other W d p.1 cs (fun e => ?_)]
    · exact h.g p hp
    · have := h.g p hp
      rw [e, h2] at this
      injection this with this
      injection this with _ this _
      exact absurd this (by decide)
/-- what a write into a row of numbers keeps -/
theorem kept_r {e : TypeId} {cur : Array Value} {x : Value} {g j : Nat} (hg : W.heap[g]? = some (.cells cur 3 (0, 0))) (he : 3 ≠ e) (d : Nat) (cs : Array Value) (hd : W.heap[d]? = some (.cells cs e (0, 0))) : (W.setCell ⟨g, j, none⟩ x).heap[d]? = some (.cells cs e (0, 0)) := by
  rw [heap_setCell_other W ⟨g, j, none⟩ d x (fun e' => ?_)]
  · exact hd
  · have e' : d = g := e'
    subst e'
    rw [hg] at hd
    injection hd with hd
    injection hd with _ hd _
    exact absurd hd he
theorem own_cur {base cap n g : Nat} {xs : List Value} (h : W.ownsRow base 3 1 (.slice (some ⟨g, 0, none⟩) n cap) n xs) : base ≤ g ∧ ∃ cur, W.heap[g]? = some (.cells cur 3 (0, 0)) := by
  rcases h.2 with ⟨h', _⟩ | ⟨g', cap', cur, h', hb, hg, _⟩
  · simp at h'
  · simp only [Value.slice.injEq, Option.some.injEq, Addr.mk.injEq, and_true, true_and] at h'
    obtain ⟨rfl, rfl⟩ := h'
    exact ⟨hb, cur, hg⟩
theorem map_set (l : List Int) (j : Nat) (x : Int) : (l.map (Value.int .i64)).set j (.int .i64 x) = (l.set j x).map (Value.int .i64) := by rw [List.map_set]
/-- a key is written -/
theorem Q3.setK (h : Q3 w L kv cv mv K C M R G W) (j : Nat) (x : Int) (hj : j < K.length) : ∃ g cap y, kv = .slice (some ⟨g, 0, none⟩) K.length cap ∧ W.cell? ⟨g, j, none⟩ = some (.int .i64 y) ∧ W.frozen? ⟨g, j, none⟩ = false ∧ Q3 w L kv cv mv (K.set j x) C M R G (W.setCell ⟨g, j, none⟩ (.int .i64 x)) := by
  obtain ⟨g, cap, hv, _, _⟩ := h.hK.form (by omega)
  have hK := h.hK
  have n1 := h.n1
  have n2 := h.n2
  subst hv
  obtain ⟨hb, cur, hg⟩ := own_cur hK
  have hs := hK.stored j (.int .i64 x)
  refine ⟨g, cap, K[j], rfl, ?_, hK.frozenAt j, h.q.setCell g j _ hb, ?_, h.hC.kept hs.2 ?_, h.hM.kept hs.2 ?_, n1, n2, h.n3, fun d hd => ?_, fun p hp => kept_r hg (by decide) _ _ (h.g p hp)⟩
  · rw [hK.cellAt j (by omega), List.getElem?_map, List.getElem?_eq_getElem hj]; rfl
  · have := hs.1
    rw [map_set] at this
    rw [List.length_set]
    exact this
  · exact .inr (fun e => n1 g rfl e)
  · exact .inr (fun e => n2 g rfl e)
  · obtain ⟨h0, cs, h1, h2⟩ := h.r d hd
    exact ⟨h0, cs, h1, kept_r hg (by decide) _ _ h2⟩
/-- a number is written -/
theorem Q3.setC (h : Q3 w L kv cv mv K C M R G W) (j : Nat) (x : Int) (hj : j < C.length) : ∃ g cap y, cv = .slice (some ⟨g, 0, none⟩) C.length cap ∧ W.cell? ⟨g, j, none⟩ = some (.int .i64 y) ∧ W.frozen? ⟨g, j, none⟩ = false ∧ Q3 w L kv cv mv K (C.set j x) M R G (W.setCell ⟨g, j, none⟩ (.int .i64 x)) := by
  obtain ⟨g, cap, hv, _, _⟩ := h.hC.form (by omega)
  have hC := h.hC
  have n1 := h.n1
  have n3 := h.n3
  subst hv
  obtain ⟨hb, cur, hg⟩ := own_cur hC
  have hs := hC.stored j (.int .i64 x)
  refine ⟨g, cap, C[j], rfl, ?_, hC.frozenAt j, h.q.setCell g j _ hb, h.hK.kept hs.2 ?_, ?_, h.hM.kept hs.2 ?_, n1, h.n2, n3, fun d hd => ?_, fun p hp => kept_r hg (by decide) _ _ (h.g p hp)⟩
  · rw [hC.cellAt j (by omega), List.getElem?_map, List.getElem?_eq_getElem hj]; rfl
  · exact .inr (fun e => n1 g e rfl)
  · have := hs.1
    rw [map_set] at this
    rw [List.length_set]
    exact this
  · exact .inr (fun e => n3 g rfl e)
  · obtain ⟨h0, cs, h1, h2⟩ := h.r d hd
    exact ⟨h0, cs, h1, kept_r hg (by decide) _ _ h2⟩
end
theorem infoDl (a b c : Value) : Hid ((Tryz.prog.info? 34).map (·.size) = some (#[a, b, c]).size) := Lib.hid (by show _ = some 3; kernel_rfl)
theorem dl_sz (a b c : Value) {cs : Array Value} (h : cs.size = 3) : cs.size = (#[a, b, c]).size := h
theorem dl_one (p q : Option Addr) (n m c d : Nat) (x : Int) : (#[Value.slice p n c, .int .i64 x, .slice q m d]).all (·.oneCell') = true := by simp [Value.oneCell']
end Go.Proofs.YtjfbpmpdcmealaaGreatDoor.D7
namespace Go.Proofs.YtjfbpmpdcmealaaGreatDoor.D7
open Go.RowKit GM SH G4 E6 D7P
theorem app_lit {ops : Array Oper} {rest : List Oper} {o : Oper} {a : Act} {w : World} {Q : Exit → Act → World → Prop} (hgd : o.guard = none) (s x : Operand)
    (ho : o.op = .call { callee := .builtin .append, args := #[s, x], argTypes := #[22, 22] }) (g : Nat) (hs : a.eval s = .slice (some ⟨g, 0, none⟩) 0 0)
    (hg : w.heap[g]? = some (.cells #[] 3 (0, 0))) (bx : Nat) (xv : Value) (C : List Int) (hx : a.eval x = xv) (hC : w.ownsRow bx 3 1 xv C.length (C.map (Value.int .i64))) (hl : C.length ≤ 1000) (base : Nat) (hb : base ≤ g)
    (h : ∀ v' w', w'.ownsRow base 3 1 v' C.length (C.map (Value.int .i64)) → w.grownBy w' (some g) → (v'.ownBlock = some g ∨ v'.ownBlock = some w.heap.size) → base ≤ w'.heap.size → wpList Tryz.prog ops Q rest (a.put o.dst v') w') :
    wpList Tryz.prog ops Q (o :: rest) a w := by
  obtain ⟨i0, hi, hz0, hz1, hz2⟩ := info_parts infoI
  have hgl : g < w.heap.size := (Array.getElem?_eq_some_iff.1 hg).1
  have own0 : w.ownsRow base 3 1 (.slice (some ⟨g, 0, none⟩) 0 0) 0 [] := ⟨rfl, .inr ⟨g, 0, #[], rfl, hb, hg, Nat.le_refl _, by decide, rfl, rfl⟩⟩
  refine wpList_plain hgd fun K hK => ?_
  rcases hC.2 with ⟨e1, e2⟩ | ⟨gc, cap, cur, e1, _, _, _⟩
  · have hr : (Builtin.append_ #[22, 22] o.type #[.slice (some ⟨g, 0, none⟩) 0 0, .slice none 0 0]).run Tryz.prog w = .ok (.slice (some ⟨g, 0, none⟩) 0 0) w := by
      simp [Builtin.append_, run_underlying Tryz.underlying22, sizeOf, typeInfo, hi, Builtin.lenOf, Builtin.firstCells, loadCells, loadCellsFrom, storeCells]
    have hC0 : C = [] := List.length_eq_zero_iff.1 e2
    subst hC0 e1
    unfold Oper.wp execOp
    simp only [ho, resolve, invoke, builtin, Sem.run_bind, Sem.run_pure, Result.andThen_ok, List.map_toArray, List.map_cons, List.map_nil, hs, hx, hr]
    exact hK _ _ (h _ w own0 ⟨rfl, rfl, rfl, Nat.le_refl _, fun _ _ _ => rfl⟩ (.inl rfl) (by omega))
  · subst e1
    obtain ⟨v', w', hr, h2, h3, _, h5⟩ := run_append_own_at (P := Tryz.prog) w base 22 o.type 3 i0 (.int .i64 0) 1 8 Tryz.underlying22 hi hz0 hz1 hz2 rfl (by decide) _ 0 [] own0 ⟨gc, 0, none⟩ C.length cap (C.map (Value.int .i64)) (by simp) (hC.cells rfl) (by simp [Value.oneCell']) (by unfold maxLen; omega) (by omega) (by omega)
    unfold Oper.wp execOp
    simp only [ho, resolve, invoke, builtin, Sem.run_bind, Sem.run_pure, Result.andThen_ok, List.map_toArray, List.map_cons, List.map_nil, hs, hx, hr]
    rw [Nat.zero_add, List.nil_append] at h2
    exact hK _ _ (h v' w' h2 h3 h5 (by have := h3.size; omega))
/-- more numbers are laid -/
theorem Q3.more {w W V : World} {L : List (Addr × Value)} {kv cv mv v : Value} {K C M M0 : List Int} {R : List Nat} {G : List (Nat × Array Value)} (h : Q3 w L kv cv mv K C M0 R G W) (k : Below W.heap.size W V) (hM : V.ownsRow W.heap.size 3 1 v M.length (M.map (Value.int .i64))) : Q3 w L kv cv v K C M R G V := by
  have h' := h.next k
  refine ⟨h'.q, h'.hK, h'.hC, own_base hM h.q.s, h.n1, fun g e e' => ?_, fun g e e' => ?_, h'.r, h'.g⟩
  · have := (h.hK.lt g e).2
    have := (hM.lt g e').1
    omega
  · have := (h.hC.lt g e).2
    have := (hM.lt g e').1
    omega
/-- the answer's form, with what it owns -/
def PairO (w : World) (r : Bool) (C : List Int) (pt : Int) (B : List ByteArray) (e : Ending) (w' : World) : Prop :=
  ∃ p c q m, e = .returned (.tuple #[.agg #[.slice p C.length c, .int .i64 pt, .slice q B.length m], .bool r]) ∧ Below w.heap.size w w' ∧ w'.ownsRow w.heap.size 3 1 (.slice p C.length c) C.length (C.map (Value.int .i64)) ∧ w'.ownsRow w.heap.size 9 1 (.slice q B.length m) B.length (B.map Value.string)
theorem pairO_no {w w' : World} {e : Ending} (h : NoQ w e w') : PairO w false [] 0 [] e w' := ⟨none, 0, none, 0, h.1, h.2, World.ownsRow_nil _ _ _ _, World.ownsRow_nil _ _ _ _⟩
theorem pairO_yes {w w' : World} {e : Ending} {C : List Int} {pt : Int} {B : List ByteArray} (h : DealtQ w C pt B e w') : PairO w true C pt B e w' := by
  obtain ⟨p, c, q, m, he, b, _, _, h1, h2, _⟩ := dealt_forms h
  exact ⟨p, c, q, m, he, b, h1, h2⟩
/-- the two of them deal one dealing -/
theorem both (c K : List Int) (s : ByteArray) (hrc : ∀ x ∈ c, i64 x) (hrk : ∀ x ∈ K, i64 x) (hlc : c.length ≤ 1000) (hlk : K.length ≤ 1000) (hs : s.size ≤ 140737488355300) : ∃ r C pt B, C.length ≤ 1000000000 ∧ B.length ≤ 1000000000 ∧
    (∀ W cv kv, TS W → SL W cv c → SL W kv K → Calls Tryz.prog 11 #[cv, kv, .string s] W (PairO W r C pt B)) ∧
    (∀ W cv kv, SL W cv c → SL W kv K → Calls Tryz.prog 27 #[cv, kv, .string s] W (PairO W r C pt B)) := by
  cases h : gd c K with
  | false =>
    exact ⟨false, [], 0, [], by simp, by simp, fun W cv kv hT h1 h2 => (Deal_no W cv kv c K s h1 h2 hrc hrk (by omega) (by omega) h).mono fun e w' hh => pairO_no hh,
      fun W cv kv h1 h2 => (refDeal_no W cv kv c K s h1 h2 hrc hrk (by omega) h).mono fun e w' hh => pairO_no hh⟩
  | true =>
    obtain ⟨g1, g2, g3, g4, g5⟩ := gd_parts h
    exact ⟨true, c.map (pp 4), pp 4 (dk s), dbs c K (dk s) K.length, by rw [List.length_map]; omega, by rw [dbs_len]; omega,
      fun W cv kv hT h1 h2 => (Deal_yes W cv kv c K s h1 h2 hrc hrk hs g1 g2 g3 g4 g5 hT).mono fun e w' hh => pairO_yes hh,
      fun W cv kv h1 h2 => (refDeal_yes W cv kv c K s h1 h2 hrc hrk hs g1 g2 g3 (fun x hx => inQ_iff.1 (List.all_eq_true.1 g4 x hx)) g5).mono fun e w' hh => pairO_yes hh⟩
/-- the rows of keys and numbers, whatever they hold by now -/
structure QV (w : World) (L : List (Addr × Value)) (kv cv mv : Value) (nK nC : Nat) (M : List Int) (R : List Nat) (G : List (Nat × Array Value)) (W : World) : Prop where
  ex : ∃ K C, K.length = nK ∧ C.length = nC ∧ (∀ x ∈ K, i64 x) ∧ (∀ x ∈ C, i64 x) ∧ Q3 w L kv cv mv K C M R G W
theorem set_i {l : List Int} {j : Nat} {x : Int} (h : ∀ y ∈ l, i64 y) (hx : i64 x) : ∀ y ∈ l.set j x, i64 y := fun y hy => by
  rcases List.mem_or_eq_of_mem_set hy with h1 | h1
  · exact h y h1
  · rw [h1]; exact hx
theorem more_i {l : List Int} (h : ∀ y ∈ l, i64 y) : ∀ y ∈ l ++ [1], i64 y := fun y hy => by
  rcases List.mem_append.1 hy with h1 | h1
  · exact h y h1
  · rw [List.mem_singleton.1 h1]; exact ⟨by omega, by omega⟩
section
variable {w W V : World} {L : List (Addr × Value)} {kv cv mv : Value} {M : List Int} {R : List Nat} {G : List (Nat × Array Value)} {nK nC g cap : Nat}
theorem QV.next (h : QV w L kv cv mv nK nC M R G W) (k : Below W.heap.size W V) : QV w L kv cv mv nK nC M R G V := by
  obtain ⟨K, C, h1, h2, h3, h4, h5⟩ := h.ex
  exact ⟨K, C, h1, h2, h3, h4, h5.next k⟩
theorem QV.drew (h : QV w L kv cv mv nK nC M R G W) : QV w L kv cv mv nK nC M R G W.drew := by
  obtain ⟨K, C, h1, h2, h3, h4, h5⟩ := h.ex
  exact ⟨K, C, h1, h2, h3, h4, h5.drew⟩
theorem QV.get (h : QV w L kv cv mv nK nC M R G W) (p : Addr) (v : Value) (hp : (p, v) ∈ L) : W.cell? p = some v := by
  obtain ⟨K, C, h1, h2, h3, h4, h5⟩ := h.ex
  exact h5.get p v hp
theorem QV.shapeK (h : QV w L kv cv mv nK nC M R G W) (hn : 0 < nK) : ∃ g cap, kv = .slice (some ⟨g, 0, none⟩) nK cap := by
  obtain ⟨K, C, h1, h2, h3, h4, h5⟩ := h.ex
  obtain ⟨g, cap, hv, _⟩ := h5.hK.form (by omega)
  exact ⟨g, cap, by rw [hv, h1]⟩
theorem QV.shapeC (h : QV w L kv cv mv nK nC M R G W) (hn : 0 < nC) : ∃ g cap, cv = .slice (some ⟨g, 0, none⟩) nC cap := by
  obtain ⟨K, C, h1, h2, h3, h4, h5⟩ := h.ex
  obtain ⟨g, cap, hv, _⟩ := h5.hC.form (by omega)
  exact ⟨g, cap, by rw [hv, h2]⟩
theorem QV.setK (h : QV w L (.slice (some ⟨g, 0, none⟩) nK cap) cv mv nK nC M R G W) (j : Nat) (x : Int) (hx : i64 x) (hj : j < nK) : ∃ y, W.cell? ⟨g, j, none⟩ = some (.int .i64 y) ∧ W.frozen? ⟨g, j, none⟩ = false ∧ QV w L (.slice (some ⟨g, 0, none⟩) nK cap) cv mv nK nC M R G (W.setCell ⟨g, j, none⟩ (.int .i64 x)) := by
  obtain ⟨K, C, h1, h2, h3, h4, h5⟩ := h.ex
  obtain ⟨g', cap', y, hv, k1, k2, k3⟩ := h5.setK j x (by omega)
  injection hv with e1 _ _
  injection e1 with e1
  injection e1 with e1 _ _
  subst e1
  exact ⟨y, k1, k2, K.set j x, C, by rw [List.length_set]; exact h1, h2, set_i h3 hx, h4, k3⟩
theorem QV.setC (h : QV w L kv (.slice (some ⟨g, 0, none⟩) nC cap) mv nK nC M R G W) (j : Nat) (x : Int) (hx : i64 x) (hj : j < nC) : ∃ y, W.cell? ⟨g, j, none⟩ = some (.int .i64 y) ∧ W.frozen? ⟨g, j, none⟩ = false ∧ QV w L kv (.slice (some ⟨g, 0, none⟩) nC cap) mv nK nC M R G (W.setCell ⟨g, j, none⟩ (.int .i64 x)) := by
  obtain ⟨K, C, h1, h2, h3, h4, h5⟩ := h.ex
  obtain ⟨g', cap', y, hv, k1, k2, k3⟩ := h5.setC j x (by omega)
  injection hv with e1 _ _
  injection e1 with e1
  injection e1 with e1 _ _
  subst e1
  exact ⟨y, k1, k2, K, C.set j x, h1, by rw [List.length_set]; exact h2, h3, set_i h4 hx, k3⟩
end
end Go.Proofs.YtjfbpmpdcmealaaGreatDoor.D7
