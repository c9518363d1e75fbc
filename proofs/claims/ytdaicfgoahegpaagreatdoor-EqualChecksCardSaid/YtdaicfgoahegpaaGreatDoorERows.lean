/-
  Rows of numbers in blocks of a walk's own.
-/
import Derived.Test.YtdaicfgoahegpaaGreatDoorEMany
namespace Go.Proofs.YtdaicfgoahegpaaGreatDoor.E6
open Go.RowKit GM SH G4
/-- numbers lie in block b as a whole row -/
def AR (w : World) (b : Nat) (l : List Int) (t : TypeId) : Prop := w.heap[b]? = some (.cells (l.map (Value.int .i64)).toArray t (0, 0))
theorem AR.lt {w : World} {b : Nat} {l : List Int} {t : TypeId} (h : AR w b l t) : b < w.heap.size := (Array.getElem?_eq_some_iff.1 h).1
theorem AR.c {w : World} {b : Nat} {l : List Int} {t : TypeId} (h : AR w b l t) (j : Nat) (x : Int) (hj : l[j]? = some x) : w.cell? ⟨b, j, none⟩ = some (.int .i64 x) := by
  rw [cell_of_row w b j _ _ _ h]; simp [hj]
theorem AR.f {w : World} {b : Nat} {l : List Int} {t : TypeId} (h : AR w b l t) (j : Nat) : w.frozen? ⟨b, j, none⟩ = false := frozen_of_row w b j _ _ h
theorem AR.next {w w' : World} {b : Nat} {l : List Int} {t : TypeId} (h : AR w b l t) (k : Below w.heap.size w w') : AR w' b l t := (k.block b h.lt).trans h
theorem AR.new (w : World) (l : List Int) (t : TypeId) : AR (w.alloc (.cells (l.map (Value.int .i64)).toArray t)) w.heap.size l t := heap_alloc_new _ _
theorem AR.set {w : World} {b : Nat} {l : List Int} {t : TypeId} (h : AR w b l t) (j : Nat) (v : Int) : AR (w.setCell ⟨b, j, none⟩ (.int .i64 v)) b (l.set j v) t := by
  unfold AR; rw [heap_setCell_same w b j _ _ _ h]; simp
theorem AR.other {w : World} {b c : Nat} {l : List Int} {t : TypeId} (h : AR w b l t) (hc : b ≠ c) (j : Nat) (v : Value) : AR (w.setCell ⟨c, j, none⟩ v) b l t := by
  unfold AR; rw [heap_setCell_other w _ b _ hc]; exact h
theorem AR.row {w : World} {b : Nat} {l : List Int} {t : TypeId} (h : AR w b l t) (m : List Int) : AR (w.setRow b (m.map (Value.int .i64)).toArray) b m t := setRow_heap _ _ _ _ _ _ h
/-- what the walk of a law keeps: the tables, the frame, rows in blocks of its own -/
structure LK (w0 W : World) (L : List (Nat × List Int × TypeId)) : Prop where
  t : TS W
  b : Below w0.heap.size w0 W
  s : ∀ p ∈ L, AR W p.1 p.2.1 p.2.2
  h : ∀ p ∈ L, w0.heap.size ≤ p.1
theorem LK.next {w0 u v : World} {L : List (Nat × List Int × TypeId)} (h : LK w0 u L) (k : Below u.heap.size u v) : LK w0 v L :=
  ⟨h.t.below k, h.b.trans (k.mono h.b.size), fun p hp => (h.s p hp).next k, h.h⟩
theorem LK.get {w0 W : World} {L : List (Nat × List Int × TypeId)} (h : LK w0 W L) (p : Nat) (l : List Int) (t : TypeId) (hp : (p, l, t) ∈ L) : AR W p l t := h.s _ hp
theorem LK.new {w0 u : World} {L : List (Nat × List Int × TypeId)} (h : LK w0 u L) (l : List Int) (t : TypeId) : LK w0 (u.alloc (.cells (l.map (Value.int .i64)).toArray t)) ((u.heap.size, l, t) :: L) := by
  have h2 := h.next ((Below.refl _ u).alloc (Nat.le_refl _) (.cells (l.map (Value.int .i64)).toArray t))
  exact ⟨h2.t, h2.b, fun p hp => by
    rcases List.mem_cons.1 hp with rfl | hp
    · exact AR.new u l t
    · exact h2.s p hp, fun p hp => by
    rcases List.mem_cons.1 hp with rfl | hp
    · exact h.b.size
    · exact h.h p hp⟩
theorem LK.push {w0 u : World} {L : List (Nat × List Int × TypeId)} (h : LK w0 u L) (z l : List Int) (t : TypeId) : LK w0 ((u.alloc (.cells (z.map (Value.int .i64)).toArray t)).setRow u.heap.size (l.map (Value.int .i64)).toArray) ((u.heap.size, l, t) :: L) := by
  have hb : Below u.heap.size u ((u.alloc (.cells (z.map (Value.int .i64)).toArray t)).setRow u.heap.size (l.map (Value.int .i64)).toArray) := Below.setRow' ((Below.refl u.heap.size u).alloc (Nat.le_refl _) _) (Nat.le_refl _) _
  have h2 := h.next hb
  exact ⟨h2.t, h2.b, fun p hp => by
    rcases List.mem_cons.1 hp with rfl | hp
    · exact (AR.new u z t).row l
    · exact h2.s p hp, fun p hp => by
    rcases List.mem_cons.1 hp with rfl | hp
    · exact h.b.size
    · exact h.h p hp⟩
theorem LK.start {w : World} (h : TS w) : LK w w [] := ⟨h, Below.refl _ _, fun p hp => (by cases hp), fun p hp => (by cases hp)⟩
/-- a cell of the newest row is written -/
theorem LK.set {w0 W : World} {L : List (Nat × List Int × TypeId)} {b : Nat} {l : List Int} {t : TypeId} (h : LK w0 W ((b, l, t) :: L)) (h0 : TS w0) (hL : ∀ p ∈ L, p.1 ≠ b) (j : Nat) (v : Int) : LK w0 (W.setCell ⟨b, j, none⟩ (.int .i64 v)) ((b, l.set j v, t) :: L) := by
  have hb := h.b.setCell (p := ⟨b, j, none⟩) (h.h (b, l, t) (by simp)) (.int .i64 v)
  exact ⟨h0.below hb, hb, fun p hp => by
    rcases List.mem_cons.1 hp with rfl | hp
    · exact (h.s (b, l, t) (by simp)).set j v
    · exact (h.s p (by simp [hp])).other (hL p hp) _ _, fun p hp => by
    rcases List.mem_cons.1 hp with rfl | hp
    · exact h.h (b, l, t) (by simp)
    · exact h.h p (by simp [hp])⟩
theorem LK.mem {w0 W : World} {L M : List (Nat × List Int × TypeId)} (h : LK w0 W L) (k : ∀ p ∈ M, p ∈ L) : LK w0 W M := ⟨h.t, h.b, fun p hp => h.s p (k p hp), fun p hp => h.h p (k p hp)⟩
theorem six_keep {w u v : World} {L : List (Nat × List Int × TypeId)} {p0 p1 p2 p3 p4 p5 : Addr} {y0 y1 y2 y3 y4 y5 : Value} (h : LK w u L ∧ u.cell? p0 = some y0 ∧ u.cell? p1 = some y1 ∧ u.cell? p2 = some y2 ∧ u.cell? p3 = some y3 ∧ u.cell? p4 = some y4 ∧ u.cell? p5 = some y5) (b : Below u.heap.size u v) :
    LK w v L ∧ v.cell? p0 = some y0 ∧ v.cell? p1 = some y1 ∧ v.cell? p2 = some y2 ∧ v.cell? p3 = some y3 ∧ v.cell? p4 = some y4 ∧ v.cell? p5 = some y5 := by
  obtain ⟨k, h0, h1, h2, h3, h4, h5⟩ := h
  have st : ∀ (p : Addr) (x : Value), u.cell? p = some x → v.cell? p = some x := fun p x hx => (b.cell (p := p) (World.block_lt_of_cell? _ _ hx)).trans hx
  exact ⟨k.next b, st _ _ h0, st _ _ h1, st _ _ h2, st _ _ h3, st _ _ h4, st _ _ h5⟩
theorem wrap_i64 (x : Int) : i64 (wrap64 x) := ⟨by unfold wrap64; omega, by unfold wrap64; omega⟩
theorem set_six (a b c d e f v : Int) (n : Nat) (hn : n < 6) (ha : i64 a) (hb : i64 b) (hc : i64 c) (hd : i64 d) (he : i64 e) (hf : i64 f) (hv : i64 v) :
    ∃ y0 y1 y2 y3 y4 y5, [a, b, c, d, e, f].set n v = [y0, y1, y2, y3, y4, y5] ∧ i64 y0 ∧ i64 y1 ∧ i64 y2 ∧ i64 y3 ∧ i64 y4 ∧ i64 y5 :=
  match n, hn with
  | 0, _ => ⟨v, b, c, d, e, f, rfl, hv, hb, hc, hd, he, hf⟩
  | 1, _ => ⟨a, v, c, d, e, f, rfl, ha, hv, hc, hd, he, hf⟩
  | 2, _ => ⟨a, b, v, d, e, f, rfl, ha, hb, hv, hd, he, hf⟩
  | 3, _ => ⟨a, b, c, v, e, f, rfl, ha, hb, hc, hv, he, hf⟩
  | 4, _ => ⟨a, b, c, d, v, f, rfl, ha, hb, hc, hd, hv, hf⟩
  | 5, _ => ⟨a, b, c, d, e, v, rfl, ha, hb, hc, hd, he, hv⟩
theorem info6 (a b c d e f : Int) : Hid ((Tryz.prog.info? 34).map (·.size) = some (#[Value.int .i64 a, .int .i64 b, .int .i64 c, .int .i64 d, .int .i64 e, .int .i64 f]).size) := Lib.hid (by show _ = some 6; kernel_rfl)
theorem six_size (a b c d e f x y z p q r : Value) : (#[a, b, c, d, e, f]).size = (#[x, y, z, p, q, r]).size := by simp
theorem six_one (a b c d e f : Int) : (#[Value.int .i64 a, .int .i64 b, .int .i64 c, .int .i64 d, .int .i64 e, .int .i64 f]).all (·.oneCell') = true := by simp [Value.oneCell']
end Go.Proofs.YtdaicfgoahegpaaGreatDoor.E6
