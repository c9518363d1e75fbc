/-
  Slices of the call's own that grow in a dealing's fields.
  The walk of deal.Text: a builder's writes through a method value, bytes in hexadecimal.
-/
import Derived.Test.YtjfbpmpdcmealaaGreatDoorDOpn
import Derived.Deep.AppendLies
import Derived.Laws.OwnMore
import Derived.OwnWalk
import Derived.Lib.Builder
import Derived.Lib.AppendStr
import Derived.Lib.UnsafeStr
import Derived.WalkKit
import Derived.Deep.RegionLaw
namespace Go.Proofs.YtjfbpmpdcmealaaGreatDoor.D7
open Go.RowKit GM SH G4 E6 D7P
theorem own_below {w w' : World} {base : Nat} {e : TypeId} {size : Nat} {v : Value} {n : Nat} {xs : List Value} (h : w.ownsRow base e size v n xs) (k : Below w.heap.size w w') : w'.ownsRow base e size v n xs := by
  refine ⟨h.1, ?_⟩
  rcases h.2 with h2 | ⟨g, cap, cur, h1, h2, h3, h4⟩
  · exact .inl h2
  · exact .inr ⟨g, cap, cur, h1, h2, (k.block g (Array.getElem?_eq_some_iff.1 h3).1).trans h3, h4⟩
theorem own_base {w : World} {base base' : Nat} {e : TypeId} {size : Nat} {v : Value} {n : Nat} {xs : List Value} (h : w.ownsRow base e size v n xs) (k : base' ≤ base) : w.ownsRow base' e size v n xs := by
  refine ⟨h.1, ?_⟩
  rcases h.2 with h2 | ⟨g, cap, cur, h1, h2, h3, h4⟩
  · exact .inl h2
  · exact .inr ⟨g, cap, cur, h1, by omega, h3, h4⟩
theorem own_set {w : World} {base : Nat} {e : TypeId} {size : Nat} {v : Value} {n : Nat} {xs : List Value} (h : w.ownsRow base e size v n xs) (d j : Nat) (u : Value) (hd : d < base) : (w.setCell ⟨d, j, none⟩ u).ownsRow base e size v n xs := by
  refine ⟨h.1, ?_⟩
  rcases h.2 with h2 | ⟨g, cap, cur, h1, h2, h3, h4⟩
  · exact .inl h2
  · exact .inr ⟨g, cap, cur, h1, h2, by rw [heap_setCell_other w _ g _ (by show g ≠ d; omega)]; exact h3, h4⟩
theorem own_VL {w : World} {base : Nat} {e : TypeId} {v : Value} {n : Nat} {xs : List Value} (h : w.ownsRow base e 1 v n xs) : VL w v xs := by
  have hl := h.1
  rcases h.2 with ⟨rfl, rfl⟩ | ⟨g, cap, cur, rfl, h2, h3, h4, h5, h6, h7⟩
  · have : xs = [] := List.length_eq_zero_iff.1 (by omega)
    subst this; exact VL.nil _ _ _
  · refine VL.at w g n cap xs (by omega) (fun j x hj => ?_)
    rw [cell_of_row w g j _ _ _ h3, ← Array.getElem?_toList]
    rw [← h7] at hj
    have hlt := (List.getElem?_eq_some_iff.1 hj).1
    rw [List.getElem?_take_of_lt (by rw [List.length_take] at hlt; omega)] at hj
    exact hj
theorem own_nil (v : Value) {w : World} {base : Nat} {e : TypeId} {size n : Nat} {xs : List Value} (h : w.ownsRow base e size v n xs) : ∃ p c, v = .slice p n c := by
  rcases h.2 with ⟨rfl, rfl⟩ | ⟨g, cap, cur, rfl, _⟩
  · exact ⟨_, _, rfl⟩
  · exact ⟨_, _, rfl⟩
/-- a dealing that is made: its fields lie in block d, the slices in blocks of the call's own -/
structure DS (w : World) (d : Nat) (pt : Int) (cv bv : Value) (C : List Int) (B : List ByteArray) (W : World) : Prop where
  row : W.heap[d]? = some (.cells #[cv, .int .i64 pt, bv] 34 (0, 0))
  hd : w.heap.size < d
  z : W.heap[w.heap.size]? = some (.cells #[.slice none 0 0, .int .i64 0, .slice none 0 0] 34 (0, 0))
  oc : W.ownsRow (d+1) 3 1 cv C.length (C.map (Value.int .i64))
  ob : W.ownsRow (d+1) 9 1 bv B.length (B.map Value.string)
  ne : ∀ g, cv.ownBlock = some g → bv.ownBlock ≠ some g
  b : Below w.heap.size w W
theorem DS.lt {w W : World} {d : Nat} {pt : Int} {cv bv : Value} {C : List Int} {B : List ByteArray} (h : DS w d pt cv bv C B W) : d < W.heap.size := (Array.getElem?_eq_some_iff.1 h.row).1
theorem DS.next {w W V : World} {d : Nat} {pt : Int} {cv bv : Value} {C : List Int} {B : List ByteArray} (h : DS w d pt cv bv C B W) (k : Below W.heap.size W V) : DS w d pt cv bv C B V :=
  ⟨(k.block d h.lt).trans h.row, h.hd, (k.block _ (Array.getElem?_eq_some_iff.1 h.z).1).trans h.z, own_below h.oc k, own_below h.ob k, h.ne, h.b.trans (k.mono h.b.size)⟩
theorem DS.drew {w W : World} {d : Nat} {pt : Int} {cv bv : Value} {C : List Int} {B : List ByteArray} (h : DS w d pt cv bv C B W) : DS w d pt cv bv C B W.drew := h.next (Below.refl _ W).drew
theorem DS.alloc {w W : World} {d : Nat} {pt : Int} {cv bv : Value} {C : List Int} {B : List ByteArray} (h : DS w d pt cv bv C B W) (o : Obj) : DS w d pt cv bv C B (W.alloc o) := h.next ((Below.refl _ W).alloc (Nat.le_refl _) o)
theorem DS.c0 {w W : World} {d : Nat} {pt : Int} {cv bv : Value} {C : List Int} {B : List ByteArray} (h : DS w d pt cv bv C B W) : W.cell? ⟨d, 0, none⟩ = some cv := cell_of_row _ _ 0 _ _ _ h.row
theorem DS.c1 {w W : World} {d : Nat} {pt : Int} {cv bv : Value} {C : List Int} {B : List ByteArray} (h : DS w d pt cv bv C B W) : W.cell? ⟨d, 1, none⟩ = some (.int .i64 pt) := cell_of_row _ _ 1 _ _ _ h.row
theorem DS.c2 {w W : World} {d : Nat} {pt : Int} {cv bv : Value} {C : List Int} {B : List ByteArray} (h : DS w d pt cv bv C B W) : W.cell? ⟨d, 2, none⟩ = some bv := cell_of_row _ _ 2 _ _ _ h.row
theorem DS.f {w W : World} {d : Nat} {pt : Int} {cv bv : Value} {C : List Int} {B : List ByteArray} (h : DS w d pt cv bv C B W) (j : Nat) : W.frozen? ⟨d, j, none⟩ = false := frozen_of_row _ _ j _ _ h.row
theorem DS.appC {w V w9 : World} {d : Nat} {pt : Int} {cv bv : Value} {C : List Int} {B : List ByteArray} (h : DS w d pt cv bv C B V) (x : Int) {g cap H : Nat} (hH : V.heap.size = H)
    (h1 : w9.ownsRow (d+1) 3 1 (.slice (some ⟨g, 0, none⟩) (C.length + 1) cap) (C.length + 1) (C.map (Value.int .i64) ++ [.int .i64 x])) (h2 : V.grownBy w9 cv.ownBlock) (h3 : cv.ownBlock = some g ∨ g = H) :
    w9.cell? ⟨d, 0, none⟩ = some cv ∧ w9.frozen? ⟨d, 0, none⟩ = false ∧ DS w d pt (.slice (some ⟨g, 0, none⟩) (C.length + 1) cap) bv (C ++ [x]) B (w9.setCell ⟨d, 0, none⟩ (.slice (some ⟨g, 0, none⟩) (C.length + 1) cap)) := by
  have hlt := h.lt
  have hdb : cv.ownBlock ≠ some d := fun e => by have := (h.oc.lt d e).1; omega
  have hrow : w9.heap[d]? = some (.cells #[cv, .int .i64 pt, bv] 34 (0, 0)) := (h2.block d hlt (fun e => hdb e.symm)).trans h.row
  refine ⟨cell_of_row _ _ 0 _ _ _ hrow, frozen_of_row _ _ 0 _ _ hrow, ?_, h.hd, ?_, ?_, ?_, ?_, ?_⟩
  · rw [heap_setCell_same w9 d 0 _ _ _ hrow]; rfl
  · rw [heap_setCell_other w9 _ _ _ (by show w.heap.size ≠ d; have := h.hd; omega)]; exact (h2.block _ (Array.getElem?_eq_some_iff.1 h.z).1 (fun e => by have := (h.oc.lt _ e.symm).1; have := h.hd; omega)).trans h.z
  · have := own_set h1 d 0 (.slice (some ⟨g, 0, none⟩) (C.length + 1) cap) (Nat.lt_succ_self d)
    rw [List.length_append, List.map_append]; exact this
  · refine own_set (h.ob.kept h2 ?_) d 0 _ (Nat.lt_succ_self d)
    cases hb : bv.ownBlock with
    | none => exact .inl rfl
    | some k => exact .inr fun e => h.ne k e.symm hb
  · intro k hk
    have hk : g = k := by simpa [Value.ownBlock] using hk
    subst hk
    rcases h3 with h3 | h3
    · exact h.ne g h3
    · intro e; have := (h.ob.lt g e).2; omega
  · exact (h.b.grown h2 h.b.size (fun k hk => by have := (h.oc.lt k hk).1; have := h.hd; omega)).setCell (p := ⟨d, 0, none⟩) (Nat.le_of_lt h.hd) _
theorem DS.appB {w V w9 : World} {d : Nat} {pt : Int} {cv bv : Value} {C : List Int} {B : List ByteArray} (h : DS w d pt cv bv C B V) (x : ByteArray) {g cap H : Nat} (hH : V.heap.size = H)
    (h1 : w9.ownsRow (d+1) 9 1 (.slice (some ⟨g, 0, none⟩) (B.length + 1) cap) (B.length + 1) (B.map Value.string ++ [.string x])) (h2 : V.grownBy w9 bv.ownBlock) (h3 : bv.ownBlock = some g ∨ g = H) :
    w9.cell? ⟨d, 2, none⟩ = some bv ∧ w9.frozen? ⟨d, 2, none⟩ = false ∧ DS w d pt cv (.slice (some ⟨g, 0, none⟩) (B.length + 1) cap) C (B ++ [x]) (w9.setCell ⟨d, 2, none⟩ (.slice (some ⟨g, 0, none⟩) (B.length + 1) cap)) := by
  have hlt := h.lt
  have hdb : bv.ownBlock ≠ some d := fun e => by have := (h.ob.lt d e).1; omega
  have hrow : w9.heap[d]? = some (.cells #[cv, .int .i64 pt, bv] 34 (0, 0)) := (h2.block d hlt (fun e => hdb e.symm)).trans h.row
  refine ⟨cell_of_row _ _ 2 _ _ _ hrow, frozen_of_row _ _ 2 _ _ hrow, ?_, h.hd, ?_, ?_, ?_, ?_, ?_⟩
  · rw [heap_setCell_same w9 d 2 _ _ _ hrow]; rfl
  · rw [heap_setCell_other w9 _ _ _ (by show w.heap.size ≠ d; have := h.hd; omega)]; exact (h2.block _ (Array.getElem?_eq_some_iff.1 h.z).1 (fun e => by have := (h.ob.lt _ e.symm).1; have := h.hd; omega)).trans h.z
  · refine own_set (h.oc.kept h2 ?_) d 2 _ (Nat.lt_succ_self d)
    cases hb : cv.ownBlock with
    | none => exact .inl rfl
    | some k => exact .inr fun e => h.ne k hb e.symm
  · have := own_set h1 d 2 (.slice (some ⟨g, 0, none⟩) (B.length + 1) cap) (Nat.lt_succ_self d)
    rw [List.length_append, List.map_append]; exact this
  · intro k hk
    rcases h3 with h3 | h3
    · intro e
      have e : g = k := by simpa [Value.ownBlock] using e
      exact h.ne k hk (by rw [← e]; exact h3)
    · intro e
      have e : g = k := by simpa [Value.ownBlock] using e
      have := (h.oc.lt k hk).2; omega
  · exact (h.b.grown h2 h.b.size (fun k hk => by have := (h.ob.lt k hk).1; have := h.hd; omega)).setCell (p := ⟨d, 2, none⟩) (Nat.le_of_lt h.hd) _
end Go.Proofs.YtjfbpmpdcmealaaGreatDoor.D7
namespace Go.Proofs.YtjfbpmpdcmealaaGreatDoor.D7
open Go.RowKit GM SH G4 E6 D7P
abbrev tB : TypeId := 76
abbrev t8 : TypeId := 5
theorem sizeB : (Tryz.prog.info? tB).map (·.size) = some 2 := by kernel_rfl
theorem liesB : liesAt Tryz.prog Tryz.prog.depth tB (2 / Tryz.prog.cellsOf tB) 0 tB 1 = true := by kernel_rfl
theorem info8 : (Tryz.prog.info? t8).map (fun i => (i.zero, i.size, i.bytes)) = some (some (.int .u8 0), 1, 1) := by kernel_rfl
def digs : List UInt8 := [48, 49, 50, 51, 52, 53, 54, 55, 56, 57, 97, 98, 99, 100, 101, 102]
def dB : ByteArray := ⟨#[48, 49, 50, 51, 52, 53, 54, 55, 56, 57, 97, 98, 99, 100, 101, 102]⟩
/-- the digits of bytes -/
def hex : List UInt8 → List UInt8
  | [] => []
  | b :: l => digs.getD (b.toNat / 16) 0 :: digs.getD (b.toNat % 16) 0 :: hex l
theorem hex_length : ∀ l, (hex l).length = 2 * l.length
  | [] => rfl
  | b :: l => by simp [hex, hex_length l]; omega
theorem hex_append : ∀ a b, hex (a ++ b) = hex a ++ hex b
  | [], b => rfl
  | x :: a, b => by simp [hex, hex_append a b]
theorem index_dig (W : World) (m : Nat) (h : m < 16) : (Instr.index 9 (.string ⟨#[48, 49, 50, 51, 52, 53, 54, 55, 56, 57, 97, 98, 99, 100, 101, 102]⟩) (.int .u8 (m : Int))).run Tryz.prog W = .ok (.int .u8 ((digs.getD m 0).toNat : Nat)) W := by
  rw [run_index_string _ _ _ _ _ Tryz.underlying9]
  have h1 : (0 : Int) ≤ (m : Int) := by omega
  have h2 : (m : Int) < ((ByteArray.mk #[48, 49, 50, 51, 52, 53, 54, 55, 56, 57, 97, 98, 99, 100, 101, 102]).size : Int) := by show (m : Int) < 16; omega
  rw [dif_pos ⟨h1, h2⟩]
  match m, h with
  | 0, _ => rfl
  | 1, _ => rfl
  | 2, _ => rfl
  | 3, _ => rfl
  | 4, _ => rfl
  | 5, _ => rfl
  | 6, _ => rfl
  | 7, _ => rfl
  | 8, _ => rfl
  | 9, _ => rfl
  | 10, _ => rfl
  | 11, _ => rfl
  | 12, _ => rfl
  | 13, _ => rfl
  | 14, _ => rfl
  | 15, _ => rfl
/-- bytes that the call owns, as a string -/
theorem conv_own {wr : World} {B : Nat} {v : Value} {bs : List UInt8} (h : wr.ownsRow B t8 1 v bs.length (Lib.byteCells bs)) :
    (convert 50 9 v).run Tryz.prog wr = .ok (.string ⟨bs.toArray⟩) wr := by
  rcases h.2 with ⟨hv, h0⟩ | ⟨g, cap, cur, hv, _⟩
  · subst hv
    have hb : bs = [] := List.length_eq_zero_iff.1 h0
    subst hb
    exact run_convert_bytes_nil (P := Tryz.prog) wr 50 5 Tryz.underlying50 Tryz.underlying5 0 0 9 Tryz.underlying9
  · subst hv
    exact run_convert_bytes_back (P := Tryz.prog) wr 50 9 5 ⟨g, 0, none⟩ cap bs Tryz.underlying50 Tryz.underlying5 Tryz.underlying9 (fun j hj => World.ownsRow.cells h (g := g) rfl j (.int .u8 (bs[j].toNat : Int)) (by simp [Lib.byteCells, hj]))
set_option maxRecDepth 100000 in
set_option maxHeartbeats 1000000 in
theorem copyCheck_used (b : Nat) (w : World) (h0 : w.cell? ⟨b, 0, none⟩ = some (.pointer (some ⟨b, 0, none⟩))) :
    Calls Tryz.prog 80 #[.pointer (some ⟨b, 0, none⟩)] w fun e w' => e = .returned (.tuple #[]) ∧ w' = w := by
  obtain ⟨j, hj, _⟩ := Option.map_eq_some_iff.1 sizeB
  go_enter Tryz.func80, Tryz.ntmps80
  go_wp2
  rw [Lib.run_neq_ptr_same w _ Tryz.underlying74 hj]
  go_wp2
  go_end0
  exact ⟨rfl, rfl⟩
set_option maxRecDepth 100000 in
set_option maxHeartbeats 1000000 in
theorem copyCheck_fresh (b : Nat) (w : World) (h0 : w.cell? ⟨b, 0, none⟩ = some (.pointer none)) (hsh : w.shape? b = some (tB, 2)) (hfz : w.frozen? ⟨b, 0, none⟩ = false) :
    Calls Tryz.prog 80 #[.pointer (some ⟨b, 0, none⟩)] w fun e w' => e = .returned (.tuple #[]) ∧ w' = w.setCell ⟨b, 0, none⟩ (.pointer (some ⟨b, 0, none⟩)) := by
  obtain ⟨j, hj, hjs⟩ := Option.map_eq_some_iff.1 sizeB
  go_enter Tryz.func80, Tryz.ntmps80
  go_wp2
  rw [Lib.run_to_unsafe w ⟨b, 0, none⟩ Tryz.underlying74 Tryz.underlying125 hj (by rw [hjs]; decide) hsh (Nat.zero_lt_succ 1)]
  simp only [Result.andThen]
  rw [Oper.upon_value]
  go_wp2
  rw [run_callFunc_extern Tryz.func102 (by kernel_rfl) (by kernel_rfl) (by kernel_rfl) (e := Extern.AbiNoEscape.same) (by kernel_rfl), Lib.run_noEscape]
  simp only [Result.andThen]
  rw [Oper.upon_value]
  go_wp2
  rw [Lib.run_from_unsafe w ⟨b, 0, none⟩ Tryz.underlying125 Tryz.underlying74 hj hsh liesB]
  simp only [Result.andThen]
  rw [Oper.upon_value]
  go_wp2
  go_end0
  exact ⟨rfl, rfl⟩

/-- the method value -/
abbrev wsv (b : Nat) : Value := .func (.func 48) #[.pointer (some ⟨b, 0, none⟩)] #[]
/-- what the walk of Text keeps: the argument, the builder with the bytes so far, the method value in a variable -/
structure TI (w : World) (dc : Array Value) (T : List UInt8) (W : World) : Prop where
  b : Below w.heap.size w W
  d : W.heap[w.heap.size]? = some (.cells dc 34 (0, 0))
  m : W.heap[w.heap.size + 1 + 1]? = some (.cells #[wsv (w.heap.size + 1)] 77 (0, 0))
  l : ∃ p v, (p = .pointer none ∨ p = .pointer (some ⟨w.heap.size + 1, 0, none⟩)) ∧ W.heap[w.heap.size + 1]? = some (.cells #[p, v] tB (0, 0)) ∧ W.ownsRow (w.heap.size + 3) t8 1 v T.length (Lib.byteCells T)
theorem TI.lt {w W : World} {dc : Array Value} {T : List UInt8} (h : TI w dc T W) : w.heap.size + 3 ≤ W.heap.size := (Array.getElem?_eq_some_iff.1 h.m).1
theorem TI.next {w W V : World} {dc : Array Value} {T : List UInt8} (h : TI w dc T W) (k : Below W.heap.size W V) : TI w dc T V := by
  obtain ⟨p, v, h1, h2, h3⟩ := h.l
  have hl := h.lt
  exact ⟨h.b.trans (k.mono h.b.size), (k.block _ (by omega)).trans h.d, (k.block _ (by omega)).trans h.m, p, v, h1, (k.block _ (by omega)).trans h2, own_below h3 k⟩
theorem TI.mc {w W : World} {dc : Array Value} {T : List UInt8} (h : TI w dc T W) : W.cell? ⟨w.heap.size + 1 + 1, 0, none⟩ = some (wsv (w.heap.size + 1)) := cell_of_row _ _ 0 _ _ _ h.m
theorem TI.builder {w W : World} {dc : Array Value} {T : List UInt8} (h : TI w dc T W) : Lib.IsBuilder tB t8 (w.heap.size + 1) (w.heap.size + 1) (Lib.byteCells T) W := by
  obtain ⟨p, v, h1, h2, h3⟩ := h.l
  have hl : (Lib.byteCells T).length = T.length := by simp [Lib.byteCells]
  have h4 : W.ownsRow (w.heap.size + 1) t8 1 v (Lib.byteCells T).length (Lib.byteCells T) := by rw [hl]; exact own_base h3 (by omega)
  have h5 : v.ownBlock ≠ some (w.heap.size + 1) := fun e => by have := (h3.lt _ e).1; omega
  rcases h1 with rfl | rfl
  · exact .inl ⟨Nat.le_refl _, v, h2, h4, h5⟩
  · exact .inr ⟨Nat.le_refl _, v, h2, h4, h5⟩
theorem check_ti (w W : World) (dc : Array Value) (T : List UInt8) (h : TI w dc T W) :
    Calls Tryz.prog 80 #[.pointer (some ⟨w.heap.size + 1, 0, none⟩)] W fun e w' => e = .returned (.tuple #[]) ∧ TI w dc T w' ∧ ∃ v, w'.heap[w.heap.size + 1]? = some (.cells #[.pointer (some ⟨w.heap.size + 1, 0, none⟩), v] tB (0, 0)) ∧ w'.ownsRow (w.heap.size + 3) t8 1 v T.length (Lib.byteCells T) := by
  obtain ⟨p, v, h1, h2, h3⟩ := h.l
  rcases h1 with rfl | rfl
  · refine (copyCheck_fresh (w.heap.size + 1) W (cell_of_row _ _ 0 _ _ _ h2) (by rw [World.shape?, h2]; rfl) (frozen_of_row _ _ 0 _ _ h2)).mono ?_
    rintro e w' ⟨rfl, rfl⟩
    have hr : (W.setCell ⟨w.heap.size + 1, 0, none⟩ (.pointer (some ⟨w.heap.size + 1, 0, none⟩))).heap[w.heap.size + 1]? = some (.cells #[.pointer (some ⟨w.heap.size + 1, 0, none⟩), v] tB (0, 0)) := by rw [heap_setCell_same W _ 0 _ _ _ h2]; rfl
    have ho := own_set h3 (w.heap.size + 1) 0 (.pointer (some ⟨w.heap.size + 1, 0, none⟩)) (by omega)
    refine ⟨rfl, ⟨h.b.setCell (p := ⟨w.heap.size + 1, 0, none⟩) (by show _ ≤ w.heap.size + 1; omega) _, ?_, ?_, _, v, .inr rfl, hr, ho⟩, v, hr, ho⟩
    · rw [heap_setCell_other W _ _ _ (by show w.heap.size ≠ w.heap.size + 1; omega)]; exact h.d
    · rw [heap_setCell_other W _ _ _ (by show w.heap.size + 1 + 1 ≠ w.heap.size + 1; omega)]; exact h.m
  · refine (copyCheck_used (w.heap.size + 1) W (cell_of_row _ _ 0 _ _ _ h2)).mono ?_
    rintro e w' ⟨rfl, rfl⟩
    exact ⟨rfl, h, v, h2, h3⟩
set_option maxRecDepth 100000 in
set_option maxHeartbeats 2000000 in
theorem write_ti (w W : World) (dc : Array Value) (T : List UInt8) (s : ByteArray) (h : TI w dc T W) (hlen : T.length + s.size ≤ 140737488355328) :
    Calls Tryz.prog 48 #[.pointer (some ⟨w.heap.size + 1, 0, none⟩), .string s] W fun e w' => e = .returned (.tuple #[.int .i64 s.size, .nilIface]) ∧ TI w dc (T ++ s.data.toList) w' := by
  obtain ⟨i0, hi, hz0, hz1, hz2⟩ := info_parts info8
  have C1 := Lib.hid (check_ti w W dc T h); clear h
  go_enter Tryz.func48, Tryz.ntmps48
  go_wp2_with fail
  refine C1.out.mono ?_
  rintro e w1 ⟨rfl, hT, v, hr, ho⟩
  have c1 : w1.cell? ⟨w.heap.size + 1, 1, none⟩ = some v := cell_of_row _ _ 1 _ _ _ hr
  have hlt := hT.lt
  have HT := Lib.hid (And.intro hT hr); clear hT hr
  go_wp2_with (at_builtin; refine Lib.wpList_append_own_string _ rfl _ _ 50 9 rfl (w.heap.size + 3) t8 i0 Tryz.underlying50 Tryz.underlying9 hi hz0 hz1 hz2 _ _ _ rfl ho s rfl ?c3 ?c4 ?c5 ?_)
  case c3 => unfold maxLen; omega
  case c4 => omega
  case c5 => omega
  intro v' w2 ho2 hg _
  obtain ⟨hT, hr⟩ := HT.out
  have hn : ∀ k, k < w.heap.size + 3 → v.ownBlock ≠ some k := fun k hk e => by have := (ho.lt k e).1; omega
  have st : ∀ (k : Nat) (ob : Obj), k < w.heap.size + 3 → w1.heap[k]? = some ob → w2.heap[k]? = some ob := fun k ob hk hb => (hg.block k (by omega) (fun e => hn k hk e.symm)).trans hb
  have r2 := st _ _ (by omega) hr
  have d2 := st _ _ (by omega) hT.d
  have m2 := st _ _ (by omega) hT.m
  have b2 : Below w.heap.size w w2 := hT.b.grown hg (by omega) (fun k hk => by have := (ho.lt k hk).1; omega)
  have c2 : w2.cell? ⟨w.heap.size + 1, 1, none⟩ = some v := cell_of_row _ _ 1 _ _ _ r2
  have f2 : w2.frozen? ⟨w.heap.size + 1, 1, none⟩ = false := frozen_of_row _ _ 1 _ _ r2
  obtain ⟨ao, cap, rfl⟩ := own_nil v' ho2
  have HZ := Lib.hid (And.intro r2 (And.intro d2 (And.intro m2 (And.intro b2 ho2)))); clear r2 d2 m2 b2 ho2 st hn hr hT ho hg
  go_wp2
  go_ret2
  obtain ⟨r2, d2, m2, b2, ho2⟩ := HZ.out
  refine ⟨rfl, b2.setCell (p := ⟨w.heap.size + 1, 1, none⟩) (by show _ ≤ w.heap.size + 1; omega) _, ?_, ?_, _, _, .inr rfl, (by rw [heap_setCell_same w2 _ 1 _ _ _ r2]; rfl : (w2.setCell ⟨w.heap.size + 1, 1, none⟩ (.slice ao (T.length + s.size) cap)).heap[w.heap.size + 1]? = some (.cells #[.pointer (some ⟨w.heap.size + 1, 0, none⟩), .slice ao (T.length + s.size) cap] tB (0, 0))), ?_⟩
  · rw [heap_setCell_other w2 _ _ _ (by show w.heap.size ≠ w.heap.size + 1; omega)]; exact d2
  · rw [heap_setCell_other w2 _ _ _ (by show w.heap.size + 1 + 1 ≠ w.heap.size + 1; omega)]; exact m2
  · have := own_set ho2 (w.heap.size + 1) 1 (.slice ao (T.length + s.size) cap) (by omega)
    rw [List.length_append, Lib.byteCells_append]
    exact this
set_option maxRecDepth 100000 in
set_option maxHeartbeats 2000000 in
/-- a part, with a blank in front -/
theorem part_ti (w W : World) (dc : Array Value) (T : List UInt8) (s : ByteArray) (h : TI w dc T W) (hlen : T.length + 1 + s.size ≤ 140737488355328) :
    Calls Tryz.prog 49 #[.string s, .pointer (some ⟨w.heap.size + 1 + 1, 0, none⟩)] W fun e w' => e = .returned (.tuple #[]) ∧ TI w dc (T ++ 32 :: s.data.toList) w' := by
  have c0 := h.mc
  have W1 := Lib.hid (write_ti w W dc T ⟨#[32]⟩ h (by show T.length + 1 ≤ _; omega))
  clear h
  go_enter Tryz.func49, Tryz.ntmps49
  go_wp2_with fail
  refine W1.out.mono ?_
  rintro e w1 ⟨rfl, h1⟩
  clear c0
  have c1 := h1.mc
  have W2 := Lib.hid (write_ti w w1 dc _ s h1 (by rw [List.length_append]; exact hlen))
  clear h1 W1
  go_wp2_with fail
  refine W2.out.mono ?_
  rintro e w2 ⟨rfl, h2⟩
  have H2 := Lib.hid h2; clear h2 c1
  go_wp2
  go_end0
  exact ⟨rfl, by have := H2.out; simpa using this⟩
end Go.Proofs.YtjfbpmpdcmealaaGreatDoor.D7
