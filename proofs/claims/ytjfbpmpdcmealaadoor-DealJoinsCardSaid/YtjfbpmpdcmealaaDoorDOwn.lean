/-
  Slices of the call's own that grow in a dealing's fields.
-/
import Derived.Test.YtjfbpmpdcmealaaDoorDOpn
import Derived.Deep.AppendLies
import Derived.Laws.OwnMore
import Derived.OwnWalk
namespace Go.Proofs.YtjfbpmpdcmealaaDoor.D7
open Go.RowKit GM SH G4 E6 D7P
theorem own_below {w w' : World} {base : Nat} {e : TypeId} {size : Nat} {v : Value} {n : Nat} {xs : List Value} (h : w.ownsRow base e size v n xs) (k : Below w.heap.size w w') : w'.ownsRow base e size v n xs := by
  refine ⟨h.1, ?_⟩
  rcases h.2 with h2 | ⟨g, cap, cur, h1, h2, h3, h4⟩
  · exact .inl h2
  · exact .inr ⟨g, cap, cur, h1, h2, (k.block g (Array.getElem?_eq_some_iff.1 h3).1).trans h3, h4⟩
theorem own_base {w : World} {base base' : Nat} {e : TypeId} {size : Nat} {v : Value} {n : Nat} {xs : List Value} (h : w.ownsRow base e size v n xs) (k : base' ≤ base) : w.ownsRow base' e size v n xs := by
  refine ⟨h.1, ?_⟩
  rcases h.2 with h2 | ⟨g, cap, cur, h1, h2, h3, h4⟩
  · exact .inl h2
  · exact .inr ⟨g, cap, cur, h1, by omega, h3, h4⟩
theorem own_set {w : World} {base : Nat} {e : TypeId} {size : Nat} {v : Value} {n : Nat} {xs : List Value} (h : w.ownsRow base e size v n xs) (d j : Nat) (u : Value) (hd : d < base) : (w.setCell ⟨d, j, none⟩ u).ownsRow base e size v n xs := by
  refine ⟨h.1, ?_⟩
  rcases h.2 with h2 | ⟨g, cap, cur, h1, h2, h3, h4⟩
  · exact .inl h2
  · exact .inr ⟨g, cap, cur, h1, h2, by rw [heap_setCell_other w _ g _ (by show g ≠ d; omega)]; exact h3, h4⟩
theorem own_VL {w : World} {base : Nat} {e : TypeId} {v : Value} {n : Nat} {xs : List Value} (h : w.ownsRow base e 1 v n xs) : VL w v xs := by
  have hl := h.1
  rcases h.2 with ⟨rfl, rfl⟩ | ⟨g, cap, cur, rfl, h2, h3, h4, h5, h6, h7⟩
  · have : xs = [] := List.length_eq_zero_iff.1 (by omega)
    subst this; exact VL.nil _ _ _
  · refine VL.at w g n cap xs (by omega) (fun j x hj => ?_)
    rw [cell_of_row w g j _ _ _ h3, ← Array.getElem?_toList]
    rw [← h7] at hj
    have hlt := (List.getElem?_eq_some_iff.1 hj).1
    rw [List.getElem?_take_of_lt (by rw [List.length_take] at hlt; omega)] at hj
    exact hj
theorem own_nil (v : Value) {w : World} {base : Nat} {e : TypeId} {size n : Nat} {xs : List Value} (h : w.ownsRow base e size v n xs) : ∃ p c, v = .slice p n c := by
  rcases h.2 with ⟨rfl, rfl⟩ | ⟨g, cap, cur, rfl, _⟩
  · exact ⟨_, _, rfl⟩
  · exact ⟨_, _, rfl⟩
/-- a dealing that is made: its fields lie in block d, the slices in blocks of the call's own -/
structure DS (w : World) (d : Nat) (pt : Int) (cv bv : Value) (C : List Int) (B : List ByteArray) (W : World) : Prop where
  row : W.heap[d]? = some (.cells #[cv, .int .i64 pt, bv] 29 (0, 0))
  hd : w.heap.size < d
  z : W.heap[w.heap.size]? = some (.cells #[.slice none 0 0, .int .i64 0, .slice none 0 0] 29 (0, 0))
  oc : W.ownsRow (d+1) 3 1 cv C.length (C.map (Value.int .i64))
  ob : W.ownsRow (d+1) 9 1 bv B.length (B.map Value.string)
  ne : ∀ g, cv.ownBlock = some g → bv.ownBlock ≠ some g
  b : Below w.heap.size w W
theorem DS.lt {w W : World} {d : Nat} {pt : Int} {cv bv : Value} {C : List Int} {B : List ByteArray} (h : DS w d pt cv bv C B W) : d < W.heap.size := (Array.getElem?_eq_some_iff.1 h.row).1
theorem DS.next {w W V : World} {d : Nat} {pt : Int} {cv bv : Value} {C : List Int} {B : List ByteArray} (h : DS w d pt cv bv C B W) (k : Below W.heap.size W V) : DS w d pt cv bv C B V :=
  ⟨(k.block d h.lt).trans h.row, h.hd, (k.block _ (Array.getElem?_eq_some_iff.1 h.z).1).trans h.z, own_below h.oc k, own_below h.ob k, h.ne, h.b.trans (k.mono h.b.size)⟩
theorem DS.drew {w W : World} {d : Nat} {pt : Int} {cv bv : Value} {C : List Int} {B : List ByteArray} (h : DS w d pt cv bv C B W) : DS w d pt cv bv C B W.drew := h.next (Below.refl _ W).drew
theorem DS.alloc {w W : World} {d : Nat} {pt : Int} {cv bv : Value} {C : List Int} {B : List ByteArray} (h : DS w d pt cv bv C B W) (o : Obj) : DS w d pt cv bv C B (W.alloc o) := h.next ((Below.refl _ W).alloc (Nat.le_refl _) o)
theorem DS.c0 {w W : World} {d : Nat} {pt : Int} {cv bv : Value} {C : List Int} {B : List ByteArray} (h : DS w d pt cv bv C B W) : W.cell? ⟨d, 0, none⟩ = some cv := cell_of_row _ _ 0 _ _ _ h.row
theorem DS.c1 {w W : World} {d : Nat} {pt : Int} {cv bv : Value} {C : List Int} {B : List ByteArray} (h : DS w d pt cv bv C B W) : W.cell? ⟨d, 1, none⟩ = some (.int .i64 pt) := cell_of_row _ _ 1 _ _ _ h.row
theorem DS.c2 {w W : World} {d : Nat} {pt : Int} {cv bv : Value} {C : List Int} {B : List ByteArray} (h : DS w d pt cv bv C B W) : W.cell? ⟨d, 2, none⟩ = some bv := cell_of_row _ _ 2 _ _ _ h.row
theorem DS.f {w W : World} {d : Nat} {pt : Int} {cv bv : Value} {C : List Int} {B : List ByteArray} (h : DS w d pt cv bv C B W) (j : Nat) : W.frozen? ⟨d, j, none⟩ = false := frozen_of_row _ _ j _ _ h.row
theorem DS.appC {w V w9 : World} {d : Nat} {pt : Int} {cv bv : Value} {C : List Int} {B : List ByteArray} (h : DS w d pt cv bv C B V) (x : Int) {g cap H : Nat} (hH : V.heap.size = H)
    (h1 : w9.ownsRow (d+1) 3 1 (.slice (some ⟨g, 0, none⟩) (C.length + 1) cap) (C.length + 1) (C.map (Value.int .i64) ++ [.int .i64 x])) (h2 : V.grownBy w9 cv.ownBlock) (h3 : cv.ownBlock = some g ∨ g = H) :
    w9.cell? ⟨d, 0, none⟩ = some cv ∧ w9.frozen? ⟨d, 0, none⟩ = false ∧ DS w d pt (.slice (some ⟨g, 0, none⟩) (C.length + 1) cap) bv (C ++ [x]) B (w9.setCell ⟨d, 0, none⟩ (.slice (some ⟨g, 0, none⟩) (C.length + 1) cap)) := by
  have hlt := h.lt
  have hdb : cv.ownBlock ≠ some d := fun e => by have := (h.oc.lt d e).1; omega
  have hrow : w9.heap[d]? = some (.cells #[cv, .int .i64 pt, bv] 29 (0, 0)) := (h2.block d hlt (fun e => hdb e.symm)).trans h.row
  refine ⟨cell_of_row _ _ 0 _ _ _ hrow, frozen_of_row _ _ 0 _ _ hrow, ?_, h.hd, ?_, ?_, ?_, ?_, ?_⟩
  · rw [heap_setCell_same w9 d 0 _ _ _ hrow]; rfl
  · rw [heap_setCell_other w9 _ _ _ (by show w.heap.size ≠ d; have := h.hd; omega)]; exact (h2.block _ (Array.getElem?_eq_some_iff.1 h.z).1 (fun e => by have := (h.oc.lt _ e.symm).1; have := h.hd; omega)).trans h.z
  · have := own_set h1 d 0 (.slice (some ⟨g, 0, none⟩) (C.length + 1) cap) (Nat.lt_succ_self d)
    rw [List.length_append, List.map_append]; exact this
  · refine own_set (h.ob.kept h2 ?_) d 0 _ (Nat.lt_succ_self d)
    cases hb : bv.ownBlock with
    | none => exact .inl rfl
    | some k => exact .inr fun e => h.ne k e.symm hb
  · intro k hk
    have hk : g = k := by simpa [Value.ownBlock] using hk
    subst hk
    rcases h3 with h3 | h3
    · exact h.ne g h3
    · intro e; have := (h.ob.lt g e).2; omega
  · exact (h.b.grown h2 h.b.size (fun k hk => by have := (h.oc.lt k hk).1; have := h.hd; omega)).setCell (p := ⟨d, 0, none⟩) (Nat.le_of_lt h.hd) _
theorem DS.appB {w V w9 : World} {d : Nat} {pt : Int} {cv bv : Value} {C : List Int} {B : List ByteArray} (h : DS w d pt cv bv C B V) (x : ByteArray) {g cap H : Nat} (hH : V.heap.size = H)
    (h1 : w9.ownsRow (d+1) 9 1 (.slice (some ⟨g, 0, none⟩) (B.length + 1) cap) (B.length + 1) (B.map Value.string ++ [.string x])) (h2 : V.grownBy w9 bv.ownBlock) (h3 : bv.ownBlock = some g ∨ g = H) :
    w9.cell? ⟨d, 2, none⟩ = some bv ∧ w9.frozen? ⟨d, 2, none⟩ = false ∧ DS w d pt cv (.slice (some ⟨g, 0, none⟩) (B.length + 1) cap) C (B ++ [x]) (w9.setCell ⟨d, 2, none⟩ (.slice (some ⟨g, 0, none⟩) (B.length + 1) cap)) := by
  have hlt := h.lt
  have hdb : bv.ownBlock ≠ some d := fun e => by have := (h.ob.lt d e).1; omega
  have hrow : w9.heap[d]? = some (.cells #[cv, .int .i64 pt, bv] 29 (0, 0)) := (h2.block d hlt (fun e => hdb e.symm)).trans h.row
  refine ⟨cell_of_row _ _ 2 _ _ _ hrow, frozen_of_row _ _ 2 _ _ hrow, ?_, h.hd, ?_, ?_, ?_, ?_, ?_⟩
  · rw [heap_setCell_same w9 d 2 _ _ _ hrow]; rfl
  · rw [heap_setCell_other w9 _ _ _ (by show w.heap.size ≠ d; have := h.hd; omega)]; exact (h2.block _ (Array.getElem?_eq_some_iff.1 h.z).1 (fun e => by have := (h.ob.lt _ e.symm).1; have := h.hd; omega)).trans h.z
  · refine own_set (h.oc.kept h2 ?_) d 2 _ (Nat.lt_succ_self d)
    cases hb : cv.ownBlock with
    | none => exact .inl rfl
    | some k => exact .inr fun e => h.ne k hb e.symm
  · have := own_set h1 d 2 (.slice (some ⟨g, 0, none⟩) (B.length + 1) cap) (Nat.lt_succ_self d)
    rw [List.length_append, List.map_append]; exact this
  · intro k hk
    rcases h3 with h3 | h3
    · intro e
      have e : g = k := by simpa [Value.ownBlock] using e
      exact h.ne k hk (by rw [← e]; exact h3)
    · intro e
      have e : g = k := by simpa [Value.ownBlock] using e
      have := (h.oc.lt k hk).2; omega
  · exact (h.b.grown h2 h.b.size (fun k hk => by have := (h.ob.lt k hk).1; have := h.hd; omega)).setCell (p := ⟨d, 2, none⟩) (Nat.le_of_lt h.hd) _
end Go.Proofs.YtjfbpmpdcmealaaDoor.D7
