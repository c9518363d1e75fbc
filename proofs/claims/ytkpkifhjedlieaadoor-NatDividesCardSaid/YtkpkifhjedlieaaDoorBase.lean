/-
  What the walks of this program share: words in memory, what a call may change, small facts for the walk.
-/
import Derived.Test.YtkpkifhjedlieaaDoorChecked
import Derived.Test.YtkpkifhjedlieaaDoorMath2
import Derived.WalkKit
import Derived.WalkSpells
import Derived.WalkLawsBesides
import Derived.Handy
import Derived.Outline
import Derived.Lib.Hide
namespace Go.Proofs.YtkpkifhjedlieaaDoor
open Go.RowKit NM
def lenOf : Value → Nat | .slice _ n _ => n | _ => 0
/-- word j of a list -/
def gd (X : List Nat) (j : Nat) : Nat := X.getD j 0
theorem gd_eq (X : List Nat) (j : Nat) : gd X j = X.getD j 0 := rfl
theorem gd_lt {X : List Nat} (h : Wd X) (j : Nat) : gd X j < 18446744073709551616 := Wd_getD h j
theorem gd_set_same (X : List Nat) (k v : Nat) (h : k < X.length) : gd (X.set k v) k = v := by
  simp [gd, h]
theorem gd_set_other (X : List Nat) (k j v : Nat) (h : j ≠ k) : gd (X.set k v) j = gd X j := by
  unfold gd; rw [List.getD_eq_getElem?_getD, List.getElem?_set_ne (Ne.symm h), ← List.getD_eq_getElem?_getD]
/-- the words X lie in block b from place o on -/
structure Row (w : World) (b o : Nat) (X : List Nat) : Prop where
  cell : ∀ j, j < X.length → w.cell? ⟨b, o+j, none⟩ = some (.int .u64 (gd X j : Nat))
  free : ∀ j, j < X.length → w.frozen? ⟨b, o+j, none⟩ = false
theorem Row.nil (w : World) (b o : Nat) : Row w b o [] := ⟨fun j h => by simp at h, fun j h => by simp at h⟩
theorem Row.set {w : World} {b o : Nat} {X : List Nat} (h : Row w b o X) (k v : Nat) (hk : k < X.length) : Row (w.setCell ⟨b, o+k, none⟩ (.int .u64 (v : Nat))) b o (X.set k v) where
  cell j hj := by
    rw [List.length_set] at hj
    by_cases e : j = k
    · subst e; rw [gd_set_same X j v hj]; exact World.cell?_setCell_same _ _ _ (h.cell j hj)
    · rw [gd_set_other X k j v e, World.cell?_setCell_other]
      · exact h.cell j hj
      · intro e2; simp at e2; try omega
  free j hj := by
    rw [List.length_set] at hj; rw [World.frozen?_setCell]; exact h.free j hj
theorem Row.drew {w : World} {b o : Nat} {X : List Nat} (h : Row w b o X) : Row w.drew b o X := ⟨h.cell, h.free⟩
theorem Row.alloc {w : World} {b o : Nat} {X : List Nat} (h : Row w b o X) (hb : b < w.heap.size) (ob : Obj) : Row (w.alloc ob) b o X :=
  ⟨fun j hj => (World.cell?_alloc_past _ _ _ hb).trans (h.cell j hj), fun j hj => (World.frozen?_alloc_past _ _ _ hb).trans (h.free j hj)⟩
theorem Row.take {w : World} {b o : Nat} {X : List Nat} (h : Row w b o X) (k : Nat) : Row w b o (X.take k) where
  cell j hj := by
    have hj' : j < k ∧ j < X.length := by rw [List.length_take] at hj; omega
    have e : gd (X.take k) j = gd X j := by unfold gd; rw [List.getD_eq_getElem?_getD, List.getElem?_take_of_lt hj'.1, ← List.getD_eq_getElem?_getD]
    rw [e]; exact h.cell j hj'.2
  free j hj := h.free j (by rw [List.length_take] at hj; omega)
theorem Row.drop {w : World} {b o : Nat} {X : List Nat} (h : Row w b o X) (k : Nat) : Row w b (o+k) (X.drop k) where
  cell j hj := by
    have hj' : k + j < X.length := by rw [List.length_drop] at hj; omega
    have e : gd (X.drop k) j = gd X (k+j) := by unfold gd; rw [List.getD_eq_getElem?_getD, List.getElem?_drop, ← List.getD_eq_getElem?_getD]
    rw [e, Nat.add_assoc]; exact h.cell (k+j) hj'
  free j hj := by rw [List.length_drop] at hj; rw [Nat.add_assoc]; exact h.free (k+j) (by omega)
theorem Row.append {w : World} {b o : Nat} {X Y : List Nat} (h : Row w b o X) (h2 : Row w b (o + X.length) Y) : Row w b o (X ++ Y) where
  cell j hj := by
    by_cases hl : j < X.length
    · have e : gd (X ++ Y) j = gd X j := by unfold gd; rw [List.getD_eq_getElem?_getD, List.getElem?_append_left hl, ← List.getD_eq_getElem?_getD]
      rw [e]; exact h.cell j hl
    · have e : gd (X ++ Y) j = gd Y (j - X.length) := by unfold gd; rw [List.getD_eq_getElem?_getD, List.getElem?_append_right (by omega), ← List.getD_eq_getElem?_getD]
      have := h2.cell (j - X.length) (by rw [List.length_append] at hj; omega)
      rw [e, ← this]; congr 2; omega
  free j hj := by
    by_cases hl : j < X.length
    · exact h.free j hl
    · have := h2.free (j - X.length) (by rw [List.length_append] at hj; omega)
      rw [← this]; congr 2; omega
/-- nothing changes but cells lo to hi - 1 of block b, and blocks that are made -/
structure Only (b lo hi : Nat) (w w' : World) : Prop where
  os : w'.os = w.os
  tape : w'.tape = w.tape
  output : w'.output = w.output
  size : w.heap.size ≤ w'.heap.size
  blk : ∀ k, k ≠ b → k < w.heap.size → w'.heap[k]? = w.heap[k]?
  cel : ∀ i, ¬(lo ≤ i ∧ i < hi) → w'.cell? ⟨b, i, none⟩ = w.cell? ⟨b, i, none⟩
  frz : ∀ i, w'.frozen? ⟨b, i, none⟩ = w.frozen? ⟨b, i, none⟩
theorem Only.refl (b lo hi : Nat) (w : World) : Only b lo hi w w := ⟨rfl, rfl, rfl, Nat.le_refl _, fun _ _ _ => rfl, fun _ _ => rfl, fun _ => rfl⟩
theorem Only.trans {b lo hi : Nat} {u v w : World} (h : Only b lo hi u v) (k : Only b lo hi v w) : Only b lo hi u w :=
  ⟨k.os.trans h.os, k.tape.trans h.tape, k.output.trans h.output, Nat.le_trans h.size k.size, fun i hi hlt => (k.blk i hi (Nat.lt_of_lt_of_le hlt h.size)).trans (h.blk i hi hlt),
    fun i hi => (k.cel i hi).trans (h.cel i hi), fun i => (k.frz i).trans (h.frz i)⟩
theorem Only.set {b lo hi : Nat} {u w : World} (h : Only b lo hi u w) (i : Nat) (v : Value) (h1 : lo ≤ i) (h2 : i < hi) : Only b lo hi u (w.setCell ⟨b, i, none⟩ v) :=
  h.trans ⟨rfl, rfl, rfl, by simp, fun k hk _ => Below.heap_setCell _ _ _ _ hk, fun j hj => World.cell?_setCell_other _ _ _ _ (by intro e; simp at e; try omega), fun j => World.frozen?_setCell _ _ _ _⟩
theorem Only.drew {b lo hi : Nat} {u w : World} (h : Only b lo hi u w) : Only b lo hi u w.drew := ⟨h.os, h.tape, h.output, h.size, h.blk, h.cel, h.frz⟩
theorem Only.alloc {b lo hi : Nat} {u w : World} (h : Only b lo hi u w) (hb : b < u.heap.size) (o : Obj) : Only b lo hi u (w.alloc o) :=
  ⟨h.os, h.tape, h.output, by have := h.size; simp; omega, fun k hk hlt => by rw [Below.heap_alloc _ _ _ (by have := h.size; omega)]; exact h.blk k hk hlt,
    fun i hi => by rw [World.cell?_alloc_past _ _ _ (by have := h.size; omega)]; exact h.cel i hi, fun i => by rw [World.frozen?_alloc_past _ _ _ (by have := h.size; omega)]; exact h.frz i⟩
theorem Only.wide {b lo hi lo' hi' : Nat} {u w : World} (h : Only b lo hi u w) (h1 : lo' ≤ lo) (h2 : hi ≤ hi') : Only b lo' hi' u w :=
  ⟨h.os, h.tape, h.output, h.size, h.blk, fun i hn => h.cel i (by omega), h.frz⟩
theorem Only.below {b lo hi B : Nat} {u w : World} (h : Only b lo hi u w) (hB : B ≤ b) (hs : B ≤ u.heap.size) : Below B u w :=
  ⟨h.os, h.tape, h.output, h.size, fun k hk => h.blk k (by omega) (by omega)⟩
theorem Only.row {b lo hi b' o : Nat} {u w : World} {X : List Nat} (h : Only b lo hi u w) (r : Row u b' o X) (hne : b' ≠ b) (hlt : b' < u.heap.size) : Row w b' o X :=
  ⟨fun j hj => (World.cell?_of_block (h.blk b' hne hlt)).trans (r.cell j hj), fun j hj => (World.frozen?_of_block (h.blk b' hne hlt)).trans (r.free j hj)⟩
theorem Only.rowIn {b lo hi o : Nat} {u w : World} {X : List Nat} (h : Only b lo hi u w) (r : Row u b o X) (hd : o + X.length ≤ lo ∨ hi ≤ o) : Row w b o X :=
  ⟨fun j hj => (h.cel (o+j) (by omega)).trans (r.cell j hj), fun j hj => (h.frz (o+j)).trans (r.free j hj)⟩
theorem Row.below {b B o : Nat} {u w : World} {X : List Nat} (r : Row u b o X) (h : Below B u w) (hb : b < B) : Row w b o X :=
  ⟨fun j hj => (World.cell?_of_block (h.block b hb)).trans (r.cell j hj), fun j hj => (World.frozen?_of_block (h.block b hb)).trans (r.free j hj)⟩
theorem ret_eq {v v' : Value} (h : v = v') : Ending.returned v = .returned v' := by rw [h]
theorem ret_u64 {a b : Nat} (h : a = b) : Ending.returned (.int .u64 (a : Nat)) = .returned (.int .u64 (b : Nat)) := by rw [h]
theorem ret_int {k : IntKind} {a b : Int} (h : a = b) : Ending.returned (.int k a) = .returned (.int k b) := by rw [h]
/-! What trim does. -/
def TrimQ (X : List Nat) (b o cap : Nat) (w : World) (e : Ending) (w' : World) : Prop :=
  ∃ k, k ≤ X.length ∧ wv (X.take k) = wv X ∧ Tr (X.take k) ∧ e = .returned (.slice (some ⟨b, o, none⟩) k cap) ∧ w = w'
theorem trimQ_mk {X : List Nat} {b o cap k : Nat} {w : World} (hk : k ≤ X.length) (hz : ∀ j, k ≤ j → j < X.length → gd X j = 0) (h : k = 0 ∨ gd X (k-1) ≠ 0) :
    TrimQ X b o cap w (.returned (.slice (some ⟨b, o, none⟩) k cap)) w :=
  ⟨k, hk, wv_take_zeros X k hk hz, Tr_take X k hk h, rfl, rfl⟩
set_option maxHeartbeats 400000 in
theorem trim_any (w : World) (b o cap : Nat) (X : List Nat) (hR : Row w b o X) (hn : X.length ≤ 9223372036854775807) (hc : X.length ≤ cap) :
    Calls Tryd.prog 49 #[.slice (some ⟨b, o, none⟩) X.length cap] w (TrimQ X b o cap w) := by
  go_enter Tryd.func49, Tryd.ntmps49
  go_wp2
  go_loop [0] (fun v => ∃ k : Nat, k ≤ X.length ∧ (∀ j, k ≤ j → j < X.length → gd X j = 0) ∧ v = .slice (some ⟨b, o, none⟩) k cap) (fun v => lenOf v)
  case atStart => exact ⟨X.length, Nat.le_refl _, fun j h1 h2 => by omega, rfl⟩
  case round =>
    obtain ⟨k, hk, hz, rfl⟩ := hrel
    have HZ := Lib.hid hz; clear hz
    by_cases h0 : 0 < k
    · have hcell := hR.cell (k-1) (by omega)
      have HR := Lib.hid hR; clear hR
      by_cases hx : gd X (k-1) = 0
      · rw [hx] at hcell
        have HX := Lib.hid hx; clear hx
        go_wp2
        go_round
        case rel => exact ⟨k - 1, by omega, fun j h1 h2 => by by_cases e : j = k - 1; · rw [e]; exact HX.out
                                                              · exact HZ.out j (by omega) h2, rfl⟩
        case measure => simp [lenOf]; omega
      · have hb : ((gd X (k-1) : Int) == 0) = false := by simp; omega
        go_wp2
        go_ret
        exact trimQ_mk hk HZ.out (.inr hx)
    · obtain rfl : k = 0 := by omega
      go_wp2
      go_ret
      exact trimQ_mk hk HZ.out (.inl rfl)
end Go.Proofs.YtkpkifhjedlieaaDoor
