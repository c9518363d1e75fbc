/-
  The reference of natural numbers: texts of numbers.
-/
import Derived.Test.YtbfplapjjeeceaaGreatDoorChecked
import Derived.Test.YtbfplapjjeeceaaGreatDoorGFermat
import Derived.Test.YtbfplapjjeeceaaGreatDoorShelf
import Derived.WalkKit
import Derived.WalkSpells
import Derived.WalkLawsBesides
import Derived.Handy
import Derived.Outline
import Derived.Lib.Hide
import Derived.Laws.Externs
import Derived.Lib.TrimByte
import Derived.BigQuiet
import Derived.Laws.CopyOwn
import Derived.Lib.IndexBytes
import Derived.Lib.ItoaMem
import Derived.Lib.UnsafeStr
import Derived.Lib.AppendStr
import Derived.Lib.Builder
import Derived.OwnWalk
import Derived.Laws.AppendOwn
namespace Go.Proofs.YtbfplapjjeeceaaGreatDoor
open Go.RowKit NM
def lenOf : Value → Nat | .slice _ n _ => n | _ => 0
/-- word j of a list -/
def gd (X : List Nat) (j : Nat) : Nat := X.getD j 0
theorem gd_set_same (X : List Nat) (k v : Nat) (h : k < X.length) : gd (X.set k v) k = v := by
  simp [gd, h]
theorem gd_set_other (X : List Nat) (k j v : Nat) (h : j ≠ k) : gd (X.set k v) j = gd X j := by
  unfold gd; rw [List.getD_eq_getElem?_getD, List.getElem?_set_ne (Ne.symm h), ← List.getD_eq_getElem?_getD]
/-- the words X lie in block b from place o on -/
structure Row (w : World) (b o : Nat) (X : List Nat) : Prop where
  cell : ∀ j, j < X.length → w.cell? ⟨b, o+j, none⟩ = some (.int .u64 (gd X j : Nat))
  free : ∀ j, j < X.length → w.frozen? ⟨b, o+j, none⟩ = false
theorem Row.nil (w : World) (b o : Nat) : Row w b o [] := ⟨fun j h => by simp at h, fun j h => by simp at h⟩
theorem Row.set {w : World} {b o : Nat} {X : List Nat} (h : Row w b o X) (k v : Nat) (hk : k < X.length) : Row (w.setCell ⟨b, o+k, none⟩ (.int .u64 (v : Nat))) b o (X.set k v) where
  cell j hj := by
    rw [List.length_set] at hj
    by_cases e : j = k
    · subst e; rw [gd_set_same X j v hj]; exact World.cell?_setCell_same _ _ _ (h.cell j hj)
    · rw [gd_set_other X k j v e, World.cell?_setCell_other]
      · exact h.cell j hj
      · intro e2; simp at e2; try omega
  free j hj := by
    rw [List.length_set] at hj; rw [World.frozen?_setCell]; exact h.free j hj
theorem Row.drew {w : World} {b o : Nat} {X : List Nat} (h : Row w b o X) : Row w.drew b o X := ⟨h.cell, h.free⟩
theorem Row.alloc {w : World} {b o : Nat} {X : List Nat} (h : Row w b o X) (hb : b < w.heap.size) (ob : Obj) : Row (w.alloc ob) b o X :=
  ⟨fun j hj => (World.cell?_alloc_past _ _ _ hb).trans (h.cell j hj), fun j hj => (World.frozen?_alloc_past _ _ _ hb).trans (h.free j hj)⟩
theorem Row.take {w : World} {b o : Nat} {X : List Nat} (h : Row w b o X) (k : Nat) : Row w b o (X.take k) where
  cell j hj := by
    have hj' : j < k ∧ j < X.length := by rw [List.length_take] at hj; omega
    have e : gd (X.take k) j = gd X j := by unfold gd; rw [List.getD_eq_getElem?_getD, List.getElem?_take_of_lt hj'.1, ← List.getD_eq_getElem?_getD]
    rw [e]; exact h.cell j hj'.2
  free j hj := h.free j (by rw [List.length_take] at hj; omega)
theorem Row.drop {w : World} {b o : Nat} {X : List Nat} (h : Row w b o X) (k : Nat) : Row w b (o+k) (X.drop k) where
  cell j hj := by
    have hj' : k + j < X.length := by rw [List.length_drop] at hj; omega
    have e : gd (X.drop k) j = gd X (k+j) := by unfold gd; rw [List.getD_eq_getElem?_getD, List.getElem?_drop, ← List.getD_eq_getElem?_getD]
    rw [e, Nat.add_assoc]; exact h.cell (k+j) hj'
  free j hj := by rw [List.length_drop] at hj; rw [Nat.add_assoc]; exact h.free (k+j) (by omega)
theorem Row.append {w : World} {b o : Nat} {X Y : List Nat} (h : Row w b o X) (h2 : Row w b (o + X.length) Y) : Row w b o (X ++ Y) where
  cell j hj := by
    by_cases hl : j < X.length
    · have e : gd (X ++ Y) j = gd X j := by unfold gd; rw [List.getD_eq_getElem?_getD, List.getElem?_append_left hl, ← List.getD_eq_getElem?_getD]
      rw [e]; exact h.cell j hl
    · have e : gd (X ++ Y) j = gd Y (j - X.length) := by unfold gd; rw [List.getD_eq_getElem?_getD, List.getElem?_append_right (by omega), ← List.getD_eq_getElem?_getD]
      have := h2.cell (j - X.length) (by rw [List.length_append] at hj; omega)
      rw [e, ← this]; congr 2; omega
  free j hj := by
    by_cases hl : j < X.length
    · exact h.free j hl
    · have := h2.free (j - X.length) (by rw [List.length_append] at hj; omega)
      rw [← this]; congr 2; omega
/-- nothing changes but cells lo to hi - 1 of block b, and blocks that are made -/
structure Only (b lo hi : Nat) (w w' : World) : Prop where
  os : w'.os = w.os
  tape : w'.tape = w.tape
  output : w'.output = w.output
  size : w.heap.size ≤ w'.heap.size
  blk : ∀ k, k ≠ b → k < w.heap.size → w'.heap[k]? = w.heap[k]?
  cel : ∀ i, ¬(lo ≤ i ∧ i < hi) → w'.cell? ⟨b, i, none⟩ = w.cell? ⟨b, i, none⟩
  frz : ∀ i, w'.frozen? ⟨b, i, none⟩ = w.frozen? ⟨b, i, none⟩
theorem Only.refl (b lo hi : Nat) (w : World) : Only b lo hi w w := ⟨rfl, rfl, rfl, Nat.le_refl _, fun _ _ _ => rfl, fun _ _ => rfl, fun _ => rfl⟩
theorem Only.trans {b lo hi : Nat} {u v w : World} (h : Only b lo hi u v) (k : Only b lo hi v w) : Only b lo hi u w :=
  ⟨k.os.trans h.os, k.tape.trans h.tape, k.output.trans h.output, Nat.le_trans h.size k.size, fun i hi hlt => (k.blk i hi (Nat.lt_of_lt_of_le hlt h.size)).trans (h.blk i hi hlt),
    fun i hi => (k.cel i hi).trans (h.cel i hi), fun i => (k.frz i).trans (h.frz i)⟩
theorem Only.set {b lo hi : Nat} {u w : World} (h : Only b lo hi u w) (i : Nat) (v : Value) (h1 : lo ≤ i) (h2 : i < hi) : Only b lo hi u (w.setCell ⟨b, i, none⟩ v) :=
  h.trans ⟨rfl, rfl, rfl, by simp, fun k hk _ => Below.heap_setCell _ _ _ _ hk, fun j hj => World.cell?_setCell_other _ _ _ _ (by intro e; simp at e; try omega), fun j => World.frozen?_setCell _ _ _ _⟩
theorem Only.drew {b lo hi : Nat} {u w : World} (h : Only b lo hi u w) : Only b lo hi u w.drew := ⟨h.os, h.tape, h.output, h.size, h.blk, h.cel, h.frz⟩
theorem Only.alloc {b lo hi : Nat} {u w : World} (h : Only b lo hi u w) (hb : b < u.heap.size) (o : Obj) : Only b lo hi u (w.alloc o) :=
  ⟨h.os, h.tape, h.output, by have := h.size; simp; omega, fun k hk hlt => by rw [Below.heap_alloc _ _ _ (by have := h.size; omega)]; exact h.blk k hk hlt,
    fun i hi => by rw [World.cell?_alloc_past _ _ _ (by have := h.size; omega)]; exact h.cel i hi, fun i => by rw [World.frozen?_alloc_past _ _ _ (by have := h.size; omega)]; exact h.frz i⟩
theorem Only.wide {b lo hi lo' hi' : Nat} {u w : World} (h : Only b lo hi u w) (h1 : lo' ≤ lo) (h2 : hi ≤ hi') : Only b lo' hi' u w :=
  ⟨h.os, h.tape, h.output, h.size, h.blk, fun i hn => h.cel i (by omega), h.frz⟩
theorem Only.below {b lo hi B : Nat} {u w : World} (h : Only b lo hi u w) (hB : B ≤ b) (hs : B ≤ u.heap.size) : Below B u w :=
  ⟨h.os, h.tape, h.output, h.size, fun k hk => h.blk k (by omega) (by omega)⟩
theorem Only.row {b lo hi b' o : Nat} {u w : World} {X : List Nat} (h : Only b lo hi u w) (r : Row u b' o X) (hne : b' ≠ b) (hlt : b' < u.heap.size) : Row w b' o X :=
  ⟨fun j hj => (World.cell?_of_block (h.blk b' hne hlt)).trans (r.cell j hj), fun j hj => (World.frozen?_of_block (h.blk b' hne hlt)).trans (r.free j hj)⟩
theorem Row.below {b B o : Nat} {u w : World} {X : List Nat} (r : Row u b o X) (h : Below B u w) (hb : b < B) : Row w b o X :=
  ⟨fun j hj => (World.cell?_of_block (h.block b hb)).trans (r.cell j hj), fun j hj => (World.frozen?_of_block (h.block b hb)).trans (r.free j hj)⟩
theorem ret_int {k : IntKind} {a b : Int} (h : a = b) : Ending.returned (.int k a) = .returned (.int k b) := by rw [h]
/-! What trim does. -/
end Go.Proofs.YtbfplapjjeeceaaGreatDoor
namespace Go.Proofs.YtbfplapjjeeceaaGreatDoor
open Go.RowKit NM
/-- nothing changes but the count of draws -/
structure Quiet (w w' : World) : Prop where
  os : w'.os = w.os
  tape : w'.tape = w.tape
  output : w'.output = w.output
  heap : w'.heap = w.heap
theorem Quiet.refl (w : World) : Quiet w w := ⟨rfl, rfl, rfl, rfl⟩
theorem Quiet.drew {u w : World} (h : Quiet u w) : Quiet u w.drew := ⟨h.os, h.tape, h.output, h.heap⟩
theorem Quiet.drewN {u w : World} (h : Quiet u w) (n : Nat) : Quiet u (w.drewN n) := ⟨h.os, h.tape, h.output, h.heap⟩
theorem Quiet.trans {u v w : World} (h : Quiet u v) (k : Quiet v w) : Quiet u w := ⟨k.os.trans h.os, k.tape.trans h.tape, k.output.trans h.output, k.heap.trans h.heap⟩
theorem Quiet.row {u w : World} (h : Quiet u w) {b o : Nat} {X : List Nat} (r : Row u b o X) : Row w b o X :=
  ⟨fun j hj => (World.cell?_of_block (by rw [h.heap])).trans (r.cell j hj), fun j hj => (World.frozen?_of_block (by rw [h.heap])).trans (r.free j hj)⟩
theorem Quiet.below {u w : World} (h : Quiet u w) (B : Nat) : Below B u w := ⟨h.os, h.tape, h.output, by rw [h.heap]; exact Nat.le_refl _, fun k _ => by rw [h.heap]⟩
theorem Quiet.only {u w : World} (h : Quiet u w) (b lo hi : Nat) : Only b lo hi u w :=
  ⟨h.os, h.tape, h.output, by rw [h.heap]; exact Nat.le_refl _, fun k _ _ => by rw [h.heap], fun i _ => World.cell?_of_block (by rw [h.heap]), fun i => World.frozen?_of_block (by rw [h.heap])⟩
end Go.Proofs.YtbfplapjjeeceaaGreatDoor
namespace Go.Proofs.YtbfplapjjeeceaaGreatDoor
open Go.RowKit NM
/-! math/bits.Add64, Sub64: the model's entries, as laws of the call. -/
/-! subtract -/
/-- words Z at their place, of the old length, nothing else turned -/
structure At (n b o : Nat) (w : World) (Z : List Nat) (wr : World) : Prop where
  len : Z.length = n
  wd : Wd Z
  row : Row wr b o Z
  only : Only b o (o+n) w wr
theorem At.set {n b o : Nat} {w wr : World} {Z : List Nat} (h : At n b o w Z wr) (k v : Nat) (hk : k < n) (hv : v < B64) : At n b o w (Z.set k v) (wr.setCell ⟨b, o+k, none⟩ (.int .u64 (v : Nat))) :=
  ⟨by rw [List.length_set]; exact h.len, Wd_set h.wd k v hv, h.row.set k v (by rw [h.len]; exact hk), h.only.set _ _ (by omega) (by omega)⟩
theorem At.start {b o : Nat} {w : World} {X : List Nat} (hX : Wd X) (hR : Row w b o X) : At X.length b o w X w := ⟨rfl, hX, hR, Only.refl _ _ _ _⟩
end Go.Proofs.YtbfplapjjeeceaaGreatDoor
namespace Go.Proofs.YtbfplapjjeeceaaGreatDoor
open Go.RowKit NM
end Go.Proofs.YtbfplapjjeeceaaGreatDoor
namespace Go.Proofs.YtbfplapjjeeceaaGreatDoor
open Go.RowKit NM
end Go.Proofs.YtbfplapjjeeceaaGreatDoor
namespace Go.Proofs.YtbfplapjjeeceaaGreatDoor
open Go.RowKit NM
theorem row_made (n t : Nat) (u : World) : Row (u.alloc (.cells (madeCells #[.int .u64 0] n) t)) u.heap.size 0 (List.replicate n 0) where
  cell j hj := by
    rw [List.length_replicate] at hj
    rw [Nat.zero_add, World.cell?_alloc_at _ _ _ _ rfl, ← Array.getElem?_toList, toList_madeCells_one, List.getElem?_replicate, if_pos hj]
    simp [gd, hj]
  free j hj := by rw [World.frozen?_alloc_at _ _ _ _ rfl]
theorem Wd_zeros (n : Nat) : Wd (List.replicate n 0) := fun x hx => by rw [(List.mem_replicate.1 hx).2]; exact B64_pos
theorem At.made (n t : Nat) (u : World) : At n u.heap.size 0 (u.alloc (.cells (madeCells #[.int .u64 0] n) t)) (List.replicate n 0) (u.alloc (.cells (madeCells #[.int .u64 0] n) t)) :=
  ⟨List.length_replicate, Wd_zeros n, row_made n t u, Only.refl _ _ _ _⟩
/-- a row of words that the call owns -/
structure Own (B : Nat) (w : World) (b o cap : Nat) (Z : List Nat) : Prop where
  lo : B ≤ b
  lt : b < w.heap.size
  row : Row w b o Z
  wd : Wd Z
  cap : Z.length ≤ cap
def PQ (X Y : List Nat) (w : World) (e : Ending) (w' : World) : Prop :=
  ∃ Z, Own w.heap.size w' w.heap.size 0 (X.length + Y.length) Z ∧ wv Z = wv X * wv Y ∧ Tr Z ∧ Below w.heap.size w w' ∧ e = .returned (.slice (some ⟨w.heap.size, 0, none⟩) Z.length (X.length + Y.length))
end Go.Proofs.YtbfplapjjeeceaaGreatDoor
namespace Go.Proofs.YtbfplapjjeeceaaGreatDoor
open Go.RowKit NM
theorem len_size (s : ByteArray) : s.data.toList.length = s.size := by rw [Array.length_toList]; rfl
/-- the bytes of a string without zeros in front -/
def tz (s : ByteArray) : ByteArray := ⟨(dz s.data.toList).toArray⟩
theorem tz_list (s : ByteArray) : (tz s).data.toList = dz s.data.toList := rfl
theorem dz_length_le (l : List UInt8) : (dz l).length ≤ l.length := by
  induction l with
  | nil => simp [dz]
  | cons x xs ih => unfold dz; by_cases h : x = 0 <;> simp [h] <;> omega
theorem tz_size (s : ByteArray) : (tz s).size = (dz s.data.toList).length := by rw [← len_size, tz_list]
theorem tz_size_le (s : ByteArray) : (tz s).size ≤ s.size := by
  rw [tz_size, ← len_size]; exact dz_length_le _
theorem At.drew {n b o : Nat} {w wr : World} {Z : List Nat} (h : At n b o w Z wr) : At n b o w Z wr.drew := ⟨h.len, h.wd, h.row.drew, h.only.drew⟩
end Go.Proofs.YtbfplapjjeeceaaGreatDoor
namespace Go.Proofs.YtbfplapjjeeceaaGreatDoor
open Go.RowKit NM
/-- bytes in memory -/
structure BRow (w : World) (b o : Nat) (X : List Nat) : Prop where
  cell : ∀ j, j < X.length → w.cell? ⟨b, o+j, none⟩ = some (.int .u8 (gd X j : Nat))
  free : ∀ j, j < X.length → w.frozen? ⟨b, o+j, none⟩ = false
theorem BRow.set {w : World} {b o : Nat} {X : List Nat} (h : BRow w b o X) (k v : Nat) (hk : k < X.length) : BRow (w.setCell ⟨b, o+k, none⟩ (.int .u8 (v : Nat))) b o (X.set k v) where
  cell j hj := by
    rw [List.length_set] at hj
    by_cases e : j = k
    · subst e; rw [gd_set_same X j v hj]; exact World.cell?_setCell_same _ _ _ (h.cell j hj)
    · rw [gd_set_other X k j v e, World.cell?_setCell_other]
      · exact h.cell j hj
      · intro e2; simp at e2; try omega
  free j hj := by
    rw [List.length_set] at hj; rw [World.frozen?_setCell]; exact h.free j hj
structure BAt (n b : Nat) (w : World) (N k : Nat) (T : List Nat) (wr : World) : Prop where
  len : T.length = n
  row : BRow wr b 0 T
  only : Only b 0 n w wr
  val : ∀ p, p < k → gd T (n - 1 - p) = byteAt N p
theorem BAt.set {n b N k : Nat} {w wr : World} {T : List Nat} (h : BAt n b w N k T wr) (hk : k < n) : BAt n b w N (k+1) (T.set (n-1-k) (byteAt N k)) (wr.setCell ⟨b, n-1-k, none⟩ (.int .u8 (byteAt N k : Nat))) :=
  ⟨by rw [List.length_set]; exact h.len, by have := h.row.set (n-1-k) (byteAt N k) (by rw [h.len]; omega); rwa [Nat.zero_add] at this, h.only.set _ _ (by omega) (by omega), fun p hp => by
    by_cases e : p = k
    · subst e; rw [gd_set_same _ _ _ (by rw [h.len]; omega)]
    · rw [gd_set_other _ _ _ _ (by omega)]; exact h.val p (by omega)⟩
theorem BAt.list {n b N : Nat} {w wr : World} {T : List Nat} (h : BAt n b w N n T wr) : T.map UInt8.ofNat = bytesN n N := by
  apply List.ext_getElem?
  intro j
  by_cases hj : j < n
  · rw [bytesN_get _ _ _ hj, List.getElem?_map, List.getElem?_eq_getElem (by rw [h.len]; exact hj)]
    have := h.val (n-1-j) (by omega)
    rw [show n - 1 - (n - 1 - j) = j by omega] at this
    simp only [Option.map_some, Option.some.injEq]
    rw [← this]; unfold gd; rw [List.getD_eq_getElem?_getD, List.getElem?_eq_getElem (by rw [h.len]; exact hj)]; rfl
  · rw [List.getElem?_eq_none (by rw [List.length_map, h.len]; omega), List.getElem?_eq_none (by rw [bytesN_length]; omega)]
/-- the right number of a value, as a string -/
def NB (n : Nat) : ByteArray := ⟨(nb n).toArray⟩
theorem NB_list (n : Nat) : (NB n).data.toList = nb n := rfl
end Go.Proofs.YtbfplapjjeeceaaGreatDoor
namespace Go.Proofs.YtbfplapjjeeceaaGreatDoor
open Go.RowKit NM
end Go.Proofs.YtbfplapjjeeceaaGreatDoor
namespace Go.Proofs.YtbfplapjjeeceaaGreatDoor
open Go.RowKit NM
theorem Own.lift {B B' : Nat} {u w : World} {b o cap : Nat} {Z : List Nat} (h : Own B u b o cap Z) (hb : Below B' u w) (hlt : b < B') : Own B w b o cap Z :=
  ⟨h.lo, Nat.lt_of_lt_of_le h.lt hb.size, h.row.below hb hlt, h.wd, h.cap⟩
/-- the value of a string's bytes -/
def sv (s : ByteArray) : Nat := bv s.data.toList
end Go.Proofs.YtbfplapjjeeceaaGreatDoor
namespace Go.Proofs.YtbfplapjjeeceaaGreatDoor
open Go.RowKit NM
/-- the number of binary digits -/
def bl (n : Nat) : Nat := if n = 0 then 0 else n.log2 + 1
/-- what Int answers -/
def IntV (a : ByteArray) : Value := if sv a < 9223372036854775808 then .tuple #[.int .i64 (sv a : Nat), .bool true] else .tuple #[.int .i64 0, .bool false]
end Go.Proofs.YtbfplapjjeeceaaGreatDoor
namespace Go.Proofs.YtbfplapjjeeceaaGreatDoor
open Go.RowKit NM
/-- no zeros in front -/
def rgt (s : ByteArray) : Bool := s.data.toList.head? != some 0
theorem byte_at (s : ByteArray) (k : Nat) (h : k < s.size) : s.data.toList[k]? = some (s[k]'h) := by
  rw [List.getElem?_eq_getElem (by rw [len_size]; exact h)]; rfl
theorem dz_drop (l : List UInt8) (k : Nat) (hz : ∀ j, j < k → l[j]? = some 0) (he : l.length = k ∨ (∃ x, l[k]? = some x ∧ x ≠ 0)) : l.drop k = dz l := by
  induction l generalizing k with
  | nil => simp [dz]
  | cons x xs ih =>
    cases k with
    | zero =>
      rcases he with he | ⟨y, hy, hy0⟩
      · simp at he
      · have : x = y := by simpa using hy
        subst this
        rw [dz, if_neg hy0]; rfl
    | succ k =>
      have hx : x = 0 := by have := hz 0 (by omega); simpa using this
      rw [dz, if_pos hx, List.drop_succ_cons]
      exact ih k (fun j hj => by have := hz (j+1) (by omega); simpa using this) (by simpa using he)
theorem extract_dz (s : ByteArray) (k : Nat) (_hk : k ≤ s.size) (hz : ∀ j, j < k → s.data.toList[j]? = some 0) (he : s.size = k ∨ (∃ x, s.data.toList[k]? = some x ∧ x ≠ 0)) : s.extract k s.size = tz s := by
  have h1 := dz_drop s.data.toList k hz (by rw [len_size]; exact he)
  have h2 : (s.extract k s.size).data.toList = s.data.toList.drop k := by
    rw [Lib.extract_data]
    rw [List.take_of_length_le (by rw [List.length_drop, len_size]; omega)]
  rw [h1, ← tz_list] at h2
  cases hs : s.extract k s.size with
  | mk d => cases ht : tz s with
    | mk d' => rw [hs, ht] at h2; congr 1; exact Array.toList_inj.1 h2
set_option maxHeartbeats 400000 in
theorem Canon_any (w : World) (s : ByteArray) (hs : s.size ≤ 4294967296) :
    Calls Tryz.prog 141 #[.string s] w fun e w' => e = .returned (.string (tz s)) ∧ w = w' := by
  go_enter Tryz.func141, Tryz.ntmps141
  go_wp2
  go_loop [3] (fun i => ∃ k : Nat, k ≤ s.size ∧ i = .int .i64 (k : Nat) ∧ Hid (∀ j, j < k → s.data.toList[j]? = some 0)) (fun i => s.size - (intOf i).toNat)
  case atStart => exact ⟨0, Nat.zero_le _, rfl, fun j hj => by omega⟩
  case round =>
    obtain ⟨k, hk, rfl, hz⟩ := hrel
    by_cases hlt : k < s.size
    · have hd : decide ((k : Int) < (s.size : Int)) = true := by simp; omega
      have hb := byte_at s k hlt
      by_cases h0 : (s[k]'hlt) = 0
      · have hb0 : (((s[k]'hlt).toNat : Int) == 0) = true := by rw [h0]; rfl
        rw [h0] at hb
        have HB := Lib.hid hb; have H0 := Lib.hid h0; clear hb h0
        go_wp2
        go_round
        case rel => exact ⟨k + 1, hlt, by go_num, fun j hj => by
          by_cases e : j = k
          · rw [e]; exact HB.out
          · exact hz.out j (by omega)⟩
        case measure => (simp [intOf]; try omega)
      · have hb0 : (((s[k]'hlt).toNat : Int) == 0) = false := by
          have : (s[k]'hlt).toNat ≠ 0 := fun h2 => h0 (UInt8.toNat_inj.1 (by simpa using h2))
          simp; omega
        have hx := extract_dz s k hk hz.out (.inr ⟨_, hb, h0⟩)
        have HX := Lib.hid hx; have HB := Lib.hid hb; have H0 := Lib.hid h0
        clear hx hb h0
        go_wp2
        go_ret
        exact ⟨by rw [← HX.out]; rfl, rfl⟩
    · obtain rfl : k = s.size := by omega
      have hx := extract_dz s s.size hk hz.out (.inl rfl)
      have hE : tz s = ByteArray.empty := by rw [← hx]; simp
      have HX := Lib.hid hE; clear hx hE
      go_wp2
      go_ret
      exact ⟨by rw [HX.out]; rfl, rfl⟩
end Go.Proofs.YtbfplapjjeeceaaGreatDoor
namespace Go.Proofs.YtbfplapjjeeceaaGreatDoor
open Go.RowKit Go.Sort NM
abbrev P10 (w : World) : Prop := Lib.TabIs Tryz.prog w "internal/strconv.uint64pow10" .u64 Lib.pow10Tab
end Go.Proofs.YtbfplapjjeeceaaGreatDoor
namespace Go.Proofs.YtbfplapjjeeceaaGreatDoor
open Go.RowKit NM
abbrev t8n : TypeId := 5
theorem info8n : (Tryz.prog.info? t8n).map (fun i => (i.zero, i.size, i.bytes)) = some (some (.int .u8 0), 1, 1) := by kernel_rfl
end Go.Proofs.YtbfplapjjeeceaaGreatDoor
namespace Go.Proofs.YtbfplapjjeeceaaGreatDoor
open Go.RowKit NM
theorem P10.below {B : Nat} {u w : World} (h : P10 u) (hb : Below B u w) (hB : 5 < B) : P10 w := by
  unfold P10 Lib.TabIs World.var? at *
  rw [show Tryz.prog.globalNamed "internal/strconv.uint64pow10" = some 5 by kernel_rfl] at h ⊢
  simp only [Option.bind_some] at h ⊢
  rw [hb.block _ hB]
  exact h
end Go.Proofs.YtbfplapjjeeceaaGreatDoor
namespace Go.Proofs.YtbfplapjjeeceaaGreatDoor
open Go.RowKit NM
end Go.Proofs.YtbfplapjjeeceaaGreatDoor
namespace Go.Proofs.YtbfplapjjeeceaaGreatDoor
open Go.RowKit NM
theorem sv_NB (n : Nat) : sv (NB n) = n := bv_nb n
theorem tz_NB (s : ByteArray) : tz s = NB (sv s) := by
  have h : (tz s).data.toList = (NB (sv s)).data.toList := by rw [tz_list, dz_eq]; rfl
  cases h1 : tz s with
  | mk d =>
    cases h2 : NB (sv s) with
    | mk d2 =>
      rw [h1, h2] at h
      have e : d = d2 := Array.toList_inj.1 h
      rw [e]
theorem NB_size {n k : Nat} (h : n < 256^k) : (NB n).size ≤ k := by
  rw [← len_size, NB_list]; exact nb_length_le n k h
/-- the byte of the number at place i, the highest first -/
def ob (n i : Nat) : Nat := n / 2^(56 - 8*i) % 256
def obs (n j : Nat) : List UInt8 := (List.range j).map fun i => UInt8.ofNat (ob n i)
theorem obs_succ (n j : Nat) : obs n (j+1) = obs n j ++ [UInt8.ofNat (ob n j)] := by
  unfold obs; rw [List.range_succ, List.map_append]; rfl
theorem bc_succ (n j : Nat) : Lib.byteCells (obs n (j+1)) = Lib.byteCells (obs n j) ++ [.int .u8 ((ob n j : Nat) : Int)] := by
  have : ob n j < 256 := Nat.mod_lt _ (by omega)
  rw [obs_succ]
  simp [Lib.byteCells]
  omega
theorem bv_obs (n : Nat) (h : n < 9223372036854775808) : bv (obs n 8) = n := by
  have e : ∀ i, (UInt8.ofNat (ob n i)).toNat = ob n i := fun i => by
    have : ob n i < 256 := Nat.mod_lt _ (by omega)
    simp; omega
  simp only [obs_succ, bv_snoc, e]
  simp [obs, ob]
  omega
set_option maxRecDepth 100000 in
set_option maxHeartbeats 2000000 in
theorem RefOf_any (w : World) (n : Int) (h1 : -9223372036854775808 ≤ n) (h2 : n < 9223372036854775808) :
    Calls Tryz.prog 124 #[.int .i64 n] w fun e w' => e = .returned (.string (NB n.toNat)) ∧ Below w.heap.size w w' := by
  obtain ⟨i0, hi, hz0, hz1, hz2⟩ := info_parts info8n
  by_cases h0 : n ≤ 0
  · have hcv := run_convert_bytes_nil (P := Tryz.prog) w 33 5 Tryz.underlying33 Tryz.underlying5 0 0 147 Tryz.underlying147
    have hd : decide (0 < n) = false := by simp; omega
    have hn : n.toNat = 0 := by omega
    rw [hn]
    go_enter Tryz.func124, Tryz.ntmps124
    go_wp2_with fail
    go_loop [3, 4] (fun b k => b = .slice none 0 0 ∧ k = .int .i64 56) (fun _ _ => 0)
    case atStart => exact ⟨rfl, rfl⟩
    case round =>
      obtain ⟨rfl, rfl⟩ := hrel
      go_wp2_with fail
      refine (Canon_any _ ByteArray.empty (by decide)).mono ?_
      rintro e w1 ⟨rfl, rfl⟩
      go_wp2
      go_ret
      exact ⟨by rw [tz_NB]; rfl, Below.refl _ _⟩
  · obtain ⟨N, rfl⟩ : ∃ N : Nat, n = (N : Int) := ⟨n.toNat, by omega⟩
    have hd : decide (0 < (N : Int)) = true := by simp; omega
    rw [Int.toNat_natCast]
    have HN := Lib.hid (And.intro h2 (And.intro h1 h0)); clear h2 h1 h0
    go_enter Tryz.func124, Tryz.ntmps124
    go_wp2_with fail
    go_loopw [3, 4] (fun b k wr => ∃ (j : Nat) (v : Value) (kk : Int), b = v ∧ j ≤ 8 ∧ kk = 56 - 8 * (j : Int) ∧ k = .int .i64 kk ∧ wr.ownsRow w.heap.size t8n 1 v j (Lib.byteCells (obs N j)) ∧ Below w.heap.size w wr) (fun _ k _ => (intOf k + 8).toNat)
    case atStart => exact ⟨0, _, 56, rfl, by omega, rfl, rfl, World.ownsRow_nil _ _ _ _, Below.refl _ _⟩
    case round =>
      obtain ⟨j, b, kk, rfl, hj, hkk, rfl, hown, hB⟩ := hrel
      by_cases hlt : j < 8
      · have hsz := hB.size
        have hj8 : j = 0 ∨ j = 1 ∨ j = 2 ∨ j = 3 ∨ j = 4 ∨ j = 5 ∨ j = 6 ∨ j = 7 := by omega
        clear hlt hj
        have hN0 : 0 < N := by have := HN.out.2.2; omega
        rcases hj8 with rfl | rfl | rfl | rfl | rfl | rfl | rfl | rfl
        · obtain rfl : kk = 56 := by simpa using hkk
          clear hkk
          go_wp2_with (at_builtin; refine wpList_append_own _ rfl _ _ 33 rfl w.heap.size t8n i0 (.int .u8 0) 1 1 Tryz.underlying33 hi hz0 hz1 hz2 rfl (by decide) _ _ _ rfl (hown.alloc _) ⟨wr.heap.size, 0, none⟩ 1 1 [.int .u8 ((ob N 0 : Nat) : Int)] rfl rfl ?c1 ?c2 ?c3 ?c4 ?c5 ?_)
          case c1 =>
            intro j u hj
            match j, hj with
            | 0, hj => simp at hj; subst hj; simp [Addr.add, ob]
          case c2 => intro u hu; simp at hu; subst hu; rfl
          case c3 => unfold maxLen; omega
          case c4 => omega
          case c5 => simp; omega
          intro v' w2 hown' hgrow _
          rw [← bc_succ] at hown'
          go_wp2
          exact ⟨⟨0 + 1, v', 56 - 8, rfl, by omega, by omega, rfl, hown', (hB.alloc hsz _).grown hgrow (by simp; omega) (fun k hk => (hown.lt k hk).1)⟩, by simp [intOf]⟩
        · obtain rfl : kk = 48 := by simpa using hkk
          clear hkk
          go_wp2_with (at_builtin; refine wpList_append_own _ rfl _ _ 33 rfl w.heap.size t8n i0 (.int .u8 0) 1 1 Tryz.underlying33 hi hz0 hz1 hz2 rfl (by decide) _ _ _ rfl (hown.alloc _) ⟨wr.heap.size, 0, none⟩ 1 1 [.int .u8 ((ob N 1 : Nat) : Int)] rfl rfl ?c1 ?c2 ?c3 ?c4 ?c5 ?_)
          case c1 =>
            intro j u hj
            match j, hj with
            | 0, hj => simp at hj; subst hj; simp [Addr.add, ob]
          case c2 => intro u hu; simp at hu; subst hu; rfl
          case c3 => unfold maxLen; omega
          case c4 => omega
          case c5 => simp; omega
          intro v' w2 hown' hgrow _
          rw [← bc_succ] at hown'
          go_wp2
          exact ⟨⟨1 + 1, v', 48 - 8, rfl, by omega, by omega, rfl, hown', (hB.alloc hsz _).grown hgrow (by simp; omega) (fun k hk => (hown.lt k hk).1)⟩, by simp [intOf]⟩
        · obtain rfl : kk = 40 := by simpa using hkk
          clear hkk
          go_wp2_with (at_builtin; refine wpList_append_own _ rfl _ _ 33 rfl w.heap.size t8n i0 (.int .u8 0) 1 1 Tryz.underlying33 hi hz0 hz1 hz2 rfl (by decide) _ _ _ rfl (hown.alloc _) ⟨wr.heap.size, 0, none⟩ 1 1 [.int .u8 ((ob N 2 : Nat) : Int)] rfl rfl ?c1 ?c2 ?c3 ?c4 ?c5 ?_)
          case c1 =>
            intro j u hj
            match j, hj with
            | 0, hj => simp at hj; subst hj; simp [Addr.add, ob]
          case c2 => intro u hu; simp at hu; subst hu; rfl
          case c3 => unfold maxLen; omega
          case c4 => omega
          case c5 => simp; omega
          intro v' w2 hown' hgrow _
          rw [← bc_succ] at hown'
          go_wp2
          exact ⟨⟨2 + 1, v', 40 - 8, rfl, by omega, by omega, rfl, hown', (hB.alloc hsz _).grown hgrow (by simp; omega) (fun k hk => (hown.lt k hk).1)⟩, by simp [intOf]⟩
        · obtain rfl : kk = 32 := by simpa using hkk
          clear hkk
          go_wp2_with (at_builtin; refine wpList_append_own _ rfl _ _ 33 rfl w.heap.size t8n i0 (.int .u8 0) 1 1 Tryz.underlying33 hi hz0 hz1 hz2 rfl (by decide) _ _ _ rfl (hown.alloc _) ⟨wr.heap.size, 0, none⟩ 1 1 [.int .u8 ((ob N 3 : Nat) : Int)] rfl rfl ?c1 ?c2 ?c3 ?c4 ?c5 ?_)
          case c1 =>
            intro j u hj
            match j, hj with
            | 0, hj => simp at hj; subst hj; simp [Addr.add, ob]
          case c2 => intro u hu; simp at hu; subst hu; rfl
          case c3 => unfold maxLen; omega
          case c4 => omega
          case c5 => simp; omega
          intro v' w2 hown' hgrow _
          rw [← bc_succ] at hown'
          go_wp2
          exact ⟨⟨3 + 1, v', 32 - 8, rfl, by omega, by omega, rfl, hown', (hB.alloc hsz _).grown hgrow (by simp; omega) (fun k hk => (hown.lt k hk).1)⟩, by simp [intOf]⟩
        · obtain rfl : kk = 24 := by simpa using hkk
          clear hkk
          go_wp2_with (at_builtin; refine wpList_append_own _ rfl _ _ 33 rfl w.heap.size t8n i0 (.int .u8 0) 1 1 Tryz.underlying33 hi hz0 hz1 hz2 rfl (by decide) _ _ _ rfl (hown.alloc _) ⟨wr.heap.size, 0, none⟩ 1 1 [.int .u8 ((ob N 4 : Nat) : Int)] rfl rfl ?c1 ?c2 ?c3 ?c4 ?c5 ?_)
          case c1 =>
            intro j u hj
            match j, hj with
            | 0, hj => simp at hj; subst hj; simp [Addr.add, ob]
          case c2 => intro u hu; simp at hu; subst hu; rfl
          case c3 => unfold maxLen; omega
          case c4 => omega
          case c5 => simp; omega
          intro v' w2 hown' hgrow _
          rw [← bc_succ] at hown'
          go_wp2
          exact ⟨⟨4 + 1, v', 24 - 8, rfl, by omega, by omega, rfl, hown', (hB.alloc hsz _).grown hgrow (by simp; omega) (fun k hk => (hown.lt k hk).1)⟩, by simp [intOf]⟩
        · obtain rfl : kk = 16 := by simpa using hkk
          clear hkk
          go_wp2_with (at_builtin; refine wpList_append_own _ rfl _ _ 33 rfl w.heap.size t8n i0 (.int .u8 0) 1 1 Tryz.underlying33 hi hz0 hz1 hz2 rfl (by decide) _ _ _ rfl (hown.alloc _) ⟨wr.heap.size, 0, none⟩ 1 1 [.int .u8 ((ob N 5 : Nat) : Int)] rfl rfl ?c1 ?c2 ?c3 ?c4 ?c5 ?_)
          case c1 =>
            intro j u hj
            match j, hj with
            | 0, hj => simp at hj; subst hj; simp [Addr.add, ob]
          case c2 => intro u hu; simp at hu; subst hu; rfl
          case c3 => unfold maxLen; omega
          case c4 => omega
          case c5 => simp; omega
          intro v' w2 hown' hgrow _
          rw [← bc_succ] at hown'
          go_wp2
          exact ⟨⟨5 + 1, v', 16 - 8, rfl, by omega, by omega, rfl, hown', (hB.alloc hsz _).grown hgrow (by simp; omega) (fun k hk => (hown.lt k hk).1)⟩, by simp [intOf]⟩
        · obtain rfl : kk = 8 := by simpa using hkk
          clear hkk
          go_wp2_with (at_builtin; refine wpList_append_own _ rfl _ _ 33 rfl w.heap.size t8n i0 (.int .u8 0) 1 1 Tryz.underlying33 hi hz0 hz1 hz2 rfl (by decide) _ _ _ rfl (hown.alloc _) ⟨wr.heap.size, 0, none⟩ 1 1 [.int .u8 ((ob N 6 : Nat) : Int)] rfl rfl ?c1 ?c2 ?c3 ?c4 ?c5 ?_)
          case c1 =>
            intro j u hj
            match j, hj with
            | 0, hj => simp at hj; subst hj; simp [Addr.add, ob]
          case c2 => intro u hu; simp at hu; subst hu; rfl
          case c3 => unfold maxLen; omega
          case c4 => omega
          case c5 => simp; omega
          intro v' w2 hown' hgrow _
          rw [← bc_succ] at hown'
          go_wp2
          exact ⟨⟨6 + 1, v', 8 - 8, rfl, by omega, by omega, rfl, hown', (hB.alloc hsz _).grown hgrow (by simp; omega) (fun k hk => (hown.lt k hk).1)⟩, by simp [intOf]⟩
        · obtain rfl : kk = 0 := by simpa using hkk
          clear hkk
          go_wp2_with (at_builtin; refine wpList_append_own _ rfl _ _ 33 rfl w.heap.size t8n i0 (.int .u8 0) 1 1 Tryz.underlying33 hi hz0 hz1 hz2 rfl (by decide) _ _ _ rfl (hown.alloc _) ⟨wr.heap.size, 0, none⟩ 1 1 [.int .u8 ((ob N 7 : Nat) : Int)] rfl rfl ?c1 ?c2 ?c3 ?c4 ?c5 ?_)
          case c1 =>
            intro j u hj
            match j, hj with
            | 0, hj => simp at hj; subst hj; simp [Addr.add, ob]
          case c2 => intro u hu; simp at hu; subst hu; rfl
          case c3 => unfold maxLen; omega
          case c4 => omega
          case c5 => simp; omega
          intro v' w2 hown' hgrow _
          rw [← bc_succ] at hown'
          go_wp2
          exact ⟨⟨7 + 1, v', 0 - 8, rfl, by omega, by omega, rfl, hown', (hB.alloc hsz _).grown hgrow (by simp; omega) (fun k hk => (hown.lt k hk).1)⟩, by simp [intOf]⟩
      · obtain rfl : j = 8 := by omega
        obtain rfl : kk = -8 := by simpa using hkk
        clear hkk
        obtain ⟨g, cap, cur, rfl, hg1, hg2, hg3, hg4, hg5, hg6⟩ : ∃ g cap cur, u3 = .slice (some ⟨g, 0, none⟩) 8 cap ∧ w.heap.size ≤ g ∧ wr.heap[g]? = some (.cells cur t8n (0, 0)) ∧ 8 ≤ cap ∧ cap ≤ maxLen ∧ cur.size = cap * 1 ∧ cur.toList.take (8 * 1) = Lib.byteCells (obs N 8) := by
          rcases hown.2 with ⟨_, h⟩ | h
          · omega
          · exact h
        have hcv := run_convert_bytes_back (P := Tryz.prog) wr 33 147 5 ⟨g, 0, none⟩ cap (obs N 8) Tryz.underlying33 Tryz.underlying5 Tryz.underlying147 (fun j hj => by
          have := World.ownsRow.cells hown (g := g) rfl j (.int .u8 ((obs N 8)[j].toNat : Int)) (by simp [Lib.byteCells, hj])
          exact this)
        rw [show (obs N 8).length = 8 by simp [obs]] at hcv
        have hsv : sv ⟨(obs N 8).toArray⟩ = N := bv_obs N (by have := HN.out.1; omega)
        have hsz8 : (ByteArray.mk (obs N 8).toArray).size ≤ 4294967296 := by
          show (obs N 8).toArray.size ≤ _
          rw [List.size_toArray, show (obs N 8).length = 8 by simp [obs]]; omega
        have HC := Lib.hid (Canon_any wr ⟨(obs N 8).toArray⟩ hsz8)
        have HS := Lib.hid hsv
        clear hsv hsz8 hown hg2 hg4 hg5 hg6 hg3
        go_wp2_with fail
        refine HC.out.mono ?_
        rintro e w1 ⟨rfl, rfl⟩
        go_wp2
        go_ret
        exact ⟨by rw [← HS.out, ← tz_NB, HS.out]; rfl, hB⟩
end Go.Proofs.YtbfplapjjeeceaaGreatDoor
namespace Go.Proofs.YtbfplapjjeeceaaGreatDoor
open Go.RowKit NM
theorem bv_take_succ (l : List UInt8) (k : Nat) (x : UInt8) (h : l[k]? = some x) : bv (l.take (k+1)) = 256 * bv (l.take k) + x.toNat := by
  rw [List.take_add_one, h]
  simp [bv]
theorem sv_tz (a : ByteArray) : bv (tz a).data.toList = sv a := by rw [tz_list, bv_dz]; rfl
theorem tz_pow (a : ByteArray) (h : (tz a).size ≠ 0) : 256^((tz a).size - 1) ≤ sv a := by
  rw [tz_size, dz_eq] at *
  exact nb_length_lt _ _ (by show _ < (nb (bv a.data.toList)).length; omega)
theorem tz_lt (a : ByteArray) : sv a < 256^(tz a).size := by
  have := bv_lt (tz a).data.toList
  rw [sv_tz, len_size] at this
  exact this
theorem w64_id (n : Int) (h : -9223372036854775808 ≤ n ∧ n ≤ 9223372036854775807) : wrap64 n = n := by unfold wrap64; omega
theorem w64_step (N c : Nat) (h : 256 * N + c < 9223372036854775808) : wrap64 (wrap64 ((N : Int) * 256) + wrap64 (c : Int)) = ((256 * N + c : Nat) : Int) := by
  rw [w64_id ((N : Int) * 256) (by omega), w64_id (c : Int) (by omega), w64_id _ (by omega)]
  omega
theorem bv_take_le (l : List UInt8) (k : Nat) : bv (l.take k) ≤ bv l := by
  have h := bv_append (l.take k) (l.drop k)
  rw [List.take_append_drop] at h
  rw [h]
  have h1 : 1 ≤ 256^(l.drop k).length := Nat.pow_pos (by omega)
  have h2 : bv (l.take k) * 1 ≤ bv (l.take k) * 256^(l.drop k).length := Nat.mul_le_mul_left _ h1
  omega
set_option maxRecDepth 100000 in
set_option maxHeartbeats 1000000 in
theorem RefInt_any (w : World) (a : ByteArray) (ha : a.size ≤ 4294967296) :
    Calls Tryz.prog 143 #[.string a] w fun e w' => e = .returned (IntV a) ∧ w = w' := by
  have hc := Canon_any w a ha
  have hv := sv_tz a
  have hp := tz_pow a
  have hl := tz_lt a
  have hIV : IntV a = if sv a < 9223372036854775808 then .tuple #[.int .i64 (sv a : Nat), .bool true] else .tuple #[.int .i64 0, .bool false] := rfl
  generalize IntV a = R at *
  generalize sv a = x at *
  generalize tz a = t at *
  have HC := Lib.hid hc; have HV := Lib.hid hv; have HP := Lib.hid hp; have HL := Lib.hid hl; have HI := Lib.hid hIV
  clear hc hv hp hl ha hIV
  go_enter Tryz.func143, Tryz.ntmps143
  go_wp2_with fail
  refine HC.out.mono ?_
  rintro e w1 ⟨rfl, rfl⟩
  by_cases h8 : 8 < t.size
  · have hd : decide ((8 : Int) < (t.size : Int)) = true := by simp; omega
    have hx : ¬ x < 9223372036854775808 := by
      have h1 := HP.out (by omega)
      have h2 : 256^8 ≤ 256^(t.size - 1) := Nat.pow_le_pow_right (by omega) (by omega)
      omega
    have HX := Lib.hid hx; clear hx
    go_wp2
    go_ret2
    refine ⟨?_, rfl⟩
    rw [HI.out, if_neg HX.out]
    rfl
  · have hd : decide ((8 : Int) < (t.size : Int)) = false := by simp; omega
    by_cases hbig : x < 9223372036854775808
    · have hok : t.size = 8 → ∀ h : 0 < t.size, (t[0]'h).toNat ≤ 127 := by
        intro h8' h
        have hb := byte_at t 0 h
        have h1 := HV.out
        have hlen := len_size t
        cases hh : t.data.toList with
        | nil => rw [hh] at hlen; simp at hlen; omega
        | cons y l =>
          rw [hh] at hb h1 hlen
          have e1 : y = t[0] := by simpa using hb
          rw [bv_cons] at h1
          have h3 : l.length = 7 := by simp at hlen; omega
          rw [h3] at h1
          rw [← e1]
          omega
      have HB := Lib.hid hbig; clear hbig
      have hsz : t.size ≤ 8 := by omega
      by_cases h8' : t.size = 8
      · have hgt : decide ((127 : Int) < ((t[0]'(by omega)).toNat : Int)) = false := by have := hok h8' (by omega); simp; omega
        go_wp2_with fail
        go_loop [4, 5] (fun n k => ∃ j : Nat, j ≤ t.size ∧ n = .int .i64 (bv (t.data.toList.take j) : Nat) ∧ k = .int .i64 (j : Nat)) (fun _ k => t.size - (intOf k).toNat)
        case atStart => exact ⟨0, Nat.zero_le _, by simp, rfl⟩
        case round =>
          obtain ⟨j, hj, rfl, rfl⟩ := hrel
          by_cases hlt : j < t.size
          · have hdj : decide ((j : Int) < (t.size : Int)) = true := by simp; omega
            have hbj := byte_at t j hlt
            have hs := bv_take_succ t.data.toList j _ hbj
            have hle := bv_take_le t.data.toList (j+1)
            rw [HV.out] at hle
            have hx := HB.out
            generalize bv (t.data.toList.take j) = N at *
            generalize hM : bv (t.data.toList.take (j+1)) = M at *
            have hw : IntKind.i64.wrap (((N : Nat) : Int) * 2^8) = ((N * 256 : Nat) : Int) := by rw [IntKind.wrap_i64]; omega
            have HS := Lib.hid (And.intro hs (And.intro hle (And.intro hx hM))); clear hs hle hx hM
            go_wp2
            refine ⟨⟨j + 1, hlt, ?_, by go_num⟩, by simp [intOf]; omega⟩
            obtain ⟨k1, k2, k3, k4⟩ := HS.out
            rw [k4, k1]
            generalize (t[j]'hlt).toNat = c at *
            rw [w64_step N c (by omega)]
          · obtain rfl : j = t.size := by omega
            have hf : bv (t.data.toList.take t.size) = x := by rw [List.take_of_length_le (by rw [len_size]; exact Nat.le_refl _)]; exact HV.out
            rw [hf]
            clear hf
            go_wp2
            go_ret2
            refine ⟨?_, rfl⟩
            rw [HI.out, if_pos HB.out]
            rfl
      · have he : ((t.size : Int) == 8) = false := by simp; omega
        clear hok
        go_wp2_with fail
        go_loop [4, 5] (fun n k => ∃ j : Nat, j ≤ t.size ∧ n = .int .i64 (bv (t.data.toList.take j) : Nat) ∧ k = .int .i64 (j : Nat)) (fun _ k => t.size - (intOf k).toNat)
        case atStart => exact ⟨0, Nat.zero_le _, by simp, rfl⟩
        case round =>
          obtain ⟨j, hj, rfl, rfl⟩ := hrel
          by_cases hlt : j < t.size
          · have hdj : decide ((j : Int) < (t.size : Int)) = true := by simp; omega
            have hbj := byte_at t j hlt
            have hs := bv_take_succ t.data.toList j _ hbj
            have hle := bv_take_le t.data.toList (j+1)
            rw [HV.out] at hle
            have hx := HB.out
            generalize bv (t.data.toList.take j) = N at *
            generalize hM : bv (t.data.toList.take (j+1)) = M at *
            have hw : IntKind.i64.wrap (((N : Nat) : Int) * 2^8) = ((N * 256 : Nat) : Int) := by rw [IntKind.wrap_i64]; omega
            have HS := Lib.hid (And.intro hs (And.intro hle (And.intro hx hM))); clear hs hle hx hM
            go_wp2
            refine ⟨⟨j + 1, hlt, ?_, by go_num⟩, by simp [intOf]; omega⟩
            obtain ⟨k1, k2, k3, k4⟩ := HS.out
            rw [k4, k1]
            generalize (t[j]'hlt).toNat = c at *
            rw [w64_step N c (by omega)]
          · obtain rfl : j = t.size := by omega
            have hf : bv (t.data.toList.take t.size) = x := by rw [List.take_of_length_le (by rw [len_size]; exact Nat.le_refl _)]; exact HV.out
            rw [hf]
            clear hf
            go_wp2
            go_ret2
            refine ⟨?_, rfl⟩
            rw [HI.out, if_pos HB.out]
            rfl
    · have HB := Lib.hid hbig; clear hbig
      have h8' : t.size = 8 := by
        have h1 := HL.out
        have h2 := HB.out
        rcases Nat.lt_or_ge t.size 8 with h | h
        · have h3 : 256^t.size ≤ 256^7 := Nat.pow_le_pow_right (by omega) (by omega)
          omega
        · omega
      have hgt : decide ((127 : Int) < ((t[0]'(by omega)).toNat : Int)) = true := by
        have hb := byte_at t 0 (by omega)
        have h1 := HV.out
        have h2 := HB.out
        have hlen := len_size t
        cases hh : t.data.toList with
        | nil => rw [hh] at hlen; simp at hlen; omega
        | cons y l =>
          rw [hh] at hb h1 hlen
          have e1 : y = t[0] := by simpa using hb
          rw [bv_cons] at h1
          have h3 : l.length = 7 := by simp at hlen; omega
          have h4 := bv_lt l
          rw [h3] at h1 h4
          rw [← e1]
          simp
          omega
      go_wp2
      go_ret2
      refine ⟨?_, rfl⟩
      rw [HI.out, if_neg HB.out]
      rfl
end Go.Proofs.YtbfplapjjeeceaaGreatDoor
namespace Go.Proofs.YtbfplapjjeeceaaGreatDoor
open Go.RowKit NM
end Go.Proofs.YtbfplapjjeeceaaGreatDoor
