/-
  What the walks of this program share: words in memory, what a call may change, small facts for the walk.
  The walk of nat.compare: it orders two trimmed numbers by their values.
  The walks of nat.subtract and nat.add: they work on words in place.
  The walk of nat.add: it adds words in place and drops a carry out of them.
-/
import Derived.Test.YteccbedmpjeamaaGreatDoorChecked
import Derived.Test.YteccbedmpjeamaaGreatDoorMath
import Derived.WalkKit
import Derived.WalkSpells
import Derived.WalkLawsBesides
import Derived.Handy
import Derived.Outline
import Derived.Lib.Hide
import Derived.Laws.Externs
namespace Go.Proofs.YteccbedmpjeamaaGreatDoor
open Go.RowKit NM
def lenOf : Value → Nat | .slice _ n _ => n | _ => 0
/-- word j of a list -/
def gd (X : List Nat) (j : Nat) : Nat := X.getD j 0
theorem gd_eq (X : List Nat) (j : Nat) : gd X j = X.getD j 0 := rfl
theorem gd_lt {X : List Nat} (h : Wd X) (j : Nat) : gd X j < 18446744073709551616 := Wd_getD h j
theorem gd_set_same (X : List Nat) (k v : Nat) (h : k < X.length) : gd (X.set k v) k = v := by
  simp [gd, h]
theorem gd_set_other (X : List Nat) (k j v : Nat) (h : j ≠ k) : gd (X.set k v) j = gd X j := by
  unfold gd; rw [List.getD_eq_getElem?_getD, List.getElem?_set_ne (Ne.symm h), ← List.getD_eq_getElem?_getD]
/-- the words X lie in block b from place o on -/
structure Row (w : World) (b o : Nat) (X : List Nat) : Prop where
  cell : ∀ j, j < X.length → w.cell? ⟨b, o+j, none⟩ = some (.int .u64 (gd X j : Nat))
  free : ∀ j, j < X.length → w.frozen? ⟨b, o+j, none⟩ = false
theorem Row.nil (w : World) (b o : Nat) : Row w b o [] := ⟨fun j h => by simp at h, fun j h => by simp at h⟩
theorem Row.set {w : World} {b o : Nat} {X : List Nat} (h : Row w b o X) (k v : Nat) (hk : k < X.length) : Row (w.setCell ⟨b, o+k, none⟩ (.int .u64 (v : Nat))) b o (X.set k v) where
  cell j hj := by
    rw [List.length_set] at hj
    by_cases e : j = k
    · subst e; rw [gd_set_same X j v hj]; exact World.cell?_setCell_same _ _ _ (h.cell j hj)
    · rw [gd_set_other X k j v e, World.cell?_setCell_other]
      · exact h.cell j hj
      · intro e2; simp at e2; try omega
  free j hj := by
    rw [List.length_set] at hj; rw [World.frozen?_setCell]; exact h.free j hj
theorem Row.drew {w : World} {b o : Nat} {X : List Nat} (h : Row w b o X) : Row w.drew b o X := ⟨h.cell, h.free⟩
theorem Row.alloc {w : World} {b o : Nat} {X : List Nat} (h : Row w b o X) (hb : b < w.heap.size) (ob : Obj) : Row (w.alloc ob) b o X :=
  ⟨fun j hj => (World.cell?_alloc_past _ _ _ hb).trans (h.cell j hj), fun j hj => (World.frozen?_alloc_past _ _ _ hb).trans (h.free j hj)⟩
theorem Row.take {w : World} {b o : Nat} {X : List Nat} (h : Row w b o X) (k : Nat) : Row w b o (X.take k) where
  cell j hj := by
    have hj' : j < k ∧ j < X.length := by rw [List.length_take] at hj; omega
    have e : gd (X.take k) j = gd X j := by unfold gd; rw [List.getD_eq_getElem?_getD, List.getElem?_take_of_lt hj'.1, ← List.getD_eq_getElem?_getD]
    rw [e]; exact h.cell j hj'.2
  free j hj := h.free j (by rw [List.length_take] at hj; omega)
theorem Row.drop {w : World} {b o : Nat} {X : List Nat} (h : Row w b o X) (k : Nat) : Row w b (o+k) (X.drop k) where
  cell j hj := by
    have hj' : k + j < X.length := by rw [List.length_drop] at hj; omega
    have e : gd (X.drop k) j = gd X (k+j) := by unfold gd; rw [List.getD_eq_getElem?_getD, List.getElem?_drop, ← List.getD_eq_getElem?_getD]
    rw [e, Nat.add_assoc]; exact h.cell (k+j) hj'
  free j hj := by rw [List.length_drop] at hj; rw [Nat.add_assoc]; exact h.free (k+j) (by omega)
theorem Row.append {w : World} {b o : Nat} {X Y : List Nat} (h : Row w b o X) (h2 : Row w b (o + X.length) Y) : Row w b o (X ++ Y) where
  cell j hj := by
    by_cases hl : j < X.length
    · have e : gd (X ++ Y) j = gd X j := by unfold gd; rw [List.getD_eq_getElem?_getD, List.getElem?_append_left hl, ← List.getD_eq_getElem?_getD]
      rw [e]; exact h.cell j hl
    · have e : gd (X ++ Y) j = gd Y (j - X.length) := by unfold gd; rw [List.getD_eq_getElem?_getD, List.getElem?_append_right (by omega), ← List.getD_eq_getElem?_getD]
      have := h2.cell (j - X.length) (by rw [List.length_append] at hj; omega)
      rw [e, ← this]; congr 2; omega
  free j hj := by
    by_cases hl : j < X.length
    · exact h.free j hl
    · have := h2.free (j - X.length) (by rw [List.length_append] at hj; omega)
      rw [← this]; congr 2; omega
/-- nothing changes but cells lo to hi - 1 of block b, and blocks that are made -/
structure Only (b lo hi : Nat) (w w' : World) : Prop where
  os : w'.os = w.os
  tape : w'.tape = w.tape
  output : w'.output = w.output
  size : w.heap.size ≤ w'.heap.size
  blk : ∀ k, k ≠ b → k < w.heap.size → w'.heap[k]? = w.heap[k]?
  cel : ∀ i, ¬(lo ≤ i ∧ i < hi) → w'.cell? ⟨b, i, none⟩ = w.cell? ⟨b, i, none⟩
  frz : ∀ i, w'.frozen? ⟨b, i, none⟩ = w.frozen? ⟨b, i, none⟩
theorem Only.refl (b lo hi : Nat) (w : World) : Only b lo hi w w := ⟨rfl, rfl, rfl, Nat.le_refl _, fun _ _ _ => rfl, fun _ _ => rfl, fun _ => rfl⟩
theorem Only.trans {b lo hi : Nat} {u v w : World} (h : Only b lo hi u v) (k : Only b lo hi v w) : Only b lo hi u w :=
  ⟨k.os.trans h.os, k.tape.trans h.tape, k.output.trans h.output, Nat.le_trans h.size k.size, fun i hi hlt => (k.blk i hi (Nat.lt_of_lt_of_le hlt h.size)).trans (h.blk i hi hlt),
    fun i hi => (k.cel i hi).trans (h.cel i hi), fun i => (k.frz i).trans (h.frz i)⟩
theorem Only.set {b lo hi : Nat} {u w : World} (h : Only b lo hi u w) (i : Nat) (v : Value) (h1 : lo ≤ i) (h2 : i < hi) : Only b lo hi u (w.setCell ⟨b, i, none⟩ v) :=
  h.trans ⟨rfl, rfl, rfl, by simp, fun k hk _ => Below.heap_setCell _ _ _ _ hk, fun j hj => World.cell?_setCell_other _ _ _ _ (by intro e; simp at e; try omega), fun j => World.frozen?_setCell _ _ _ _⟩
theorem Only.drew {b lo hi : Nat} {u w : World} (h : Only b lo hi u w) : Only b lo hi u w.drew := ⟨h.os, h.tape, h.output, h.size, h.blk, h.cel, h.frz⟩
theorem Only.alloc {b lo hi : Nat} {u w : World} (h : Only b lo hi u w) (hb : b < u.heap.size) (o : Obj) : Only b lo hi u (w.alloc o) :=
  ⟨h.os, h.tape, h.output, by have := h.size; simp; omega, fun k hk hlt => by rw [Below.heap_alloc _ _ _ (by have := h.size; omega)]; exact h.blk k hk hlt,
    fun i hi => by rw [World.cell?_alloc_past _ _ _ (by have := h.size; omega)]; exact h.cel i hi, fun i => by rw [World.frozen?_alloc_past _ _ _ (by have := h.size; omega)]; exact h.frz i⟩
theorem Only.wide {b lo hi lo' hi' : Nat} {u w : World} (h : Only b lo hi u w) (h1 : lo' ≤ lo) (h2 : hi ≤ hi') : Only b lo' hi' u w :=
  ⟨h.os, h.tape, h.output, h.size, h.blk, fun i hn => h.cel i (by omega), h.frz⟩
theorem Only.below {b lo hi B : Nat} {u w : World} (h : Only b lo hi u w) (hB : B ≤ b) (hs : B ≤ u.heap.size) : Below B u w :=
  ⟨h.os, h.tape, h.output, h.size, fun k hk => h.blk k (by omega) (by omega)⟩
theorem Only.row {b lo hi b' o : Nat} {u w : World} {X : List Nat} (h : Only b lo hi u w) (r : Row u b' o X) (hne : b' ≠ b) (hlt : b' < u.heap.size) : Row w b' o X :=
  ⟨fun j hj => (World.cell?_of_block (h.blk b' hne hlt)).trans (r.cell j hj), fun j hj => (World.frozen?_of_block (h.blk b' hne hlt)).trans (r.free j hj)⟩
theorem Only.rowIn {b lo hi o : Nat} {u w : World} {X : List Nat} (h : Only b lo hi u w) (r : Row u b o X) (hd : o + X.length ≤ lo ∨ hi ≤ o) : Row w b o X :=
  ⟨fun j hj => (h.cel (o+j) (by omega)).trans (r.cell j hj), fun j hj => (h.frz (o+j)).trans (r.free j hj)⟩
theorem Row.below {b B o : Nat} {u w : World} {X : List Nat} (r : Row u b o X) (h : Below B u w) (hb : b < B) : Row w b o X :=
  ⟨fun j hj => (World.cell?_of_block (h.block b hb)).trans (r.cell j hj), fun j hj => (World.frozen?_of_block (h.block b hb)).trans (r.free j hj)⟩
theorem ret_eq {v v' : Value} (h : v = v') : Ending.returned v = .returned v' := by rw [h]
theorem ret_u64 {a b : Nat} (h : a = b) : Ending.returned (.int .u64 (a : Nat)) = .returned (.int .u64 (b : Nat)) := by rw [h]
theorem ret_int {k : IntKind} {a b : Int} (h : a = b) : Ending.returned (.int k a) = .returned (.int k b) := by rw [h]
/-! What trim does. -/
def TrimQ (X : List Nat) (b o cap : Nat) (w : World) (e : Ending) (w' : World) : Prop :=
  ∃ k, k ≤ X.length ∧ wv (X.take k) = wv X ∧ Tr (X.take k) ∧ e = .returned (.slice (some ⟨b, o, none⟩) k cap) ∧ w = w'
theorem trimQ_mk {X : List Nat} {b o cap k : Nat} {w : World} (hk : k ≤ X.length) (hz : ∀ j, k ≤ j → j < X.length → gd X j = 0) (h : k = 0 ∨ gd X (k-1) ≠ 0) :
    TrimQ X b o cap w (.returned (.slice (some ⟨b, o, none⟩) k cap)) w :=
  ⟨k, hk, wv_take_zeros X k hk hz, Tr_take X k hk h, rfl, rfl⟩
set_option maxHeartbeats 400000 in
theorem trim_any (w : World) (b o cap : Nat) (X : List Nat) (hR : Row w b o X) (hn : X.length ≤ 9223372036854775807) (hc : X.length ≤ cap) :
    Calls Tryz.prog 112 #[.slice (some ⟨b, o, none⟩) X.length cap] w (TrimQ X b o cap w) := by
  go_enter Tryz.func112, Tryz.ntmps112
  go_wp2
  go_loop [0] (fun v => ∃ k : Nat, k ≤ X.length ∧ (∀ j, k ≤ j → j < X.length → gd X j = 0) ∧ v = .slice (some ⟨b, o, none⟩) k cap) (fun v => lenOf v)
  case atStart => exact ⟨X.length, Nat.le_refl _, fun j h1 h2 => by omega, rfl⟩
  case round =>
    obtain ⟨k, hk, hz, rfl⟩ := hrel
    have HZ := Lib.hid hz; clear hz
    by_cases h0 : 0 < k
    · have hcell := hR.cell (k-1) (by omega)
      have HR := Lib.hid hR; clear hR
      by_cases hx : gd X (k-1) = 0
      · rw [hx] at hcell
        have HX := Lib.hid hx; clear hx
        go_wp2
        go_round
        case rel => exact ⟨k - 1, by omega, fun j h1 h2 => by by_cases e : j = k - 1; · rw [e]; exact HX.out
                                                              · exact HZ.out j (by omega) h2, rfl⟩
        case measure => simp [lenOf]; omega
      · have hb : ((gd X (k-1) : Int) == 0) = false := by simp; omega
        go_wp2
        go_ret
        exact trimQ_mk hk HZ.out (.inr hx)
    · obtain rfl : k = 0 := by omega
      go_wp2
      go_ret
      exact trimQ_mk hk HZ.out (.inl rfl)
end Go.Proofs.YteccbedmpjeamaaGreatDoor
namespace Go.Proofs.YteccbedmpjeamaaGreatDoor
open Go.RowKit NM
/-- nothing changes but the count of draws -/
structure Quiet (w w' : World) : Prop where
  os : w'.os = w.os
  tape : w'.tape = w.tape
  output : w'.output = w.output
  heap : w'.heap = w.heap
theorem Quiet.refl (w : World) : Quiet w w := ⟨rfl, rfl, rfl, rfl⟩
theorem Quiet.drew {u w : World} (h : Quiet u w) : Quiet u w.drew := ⟨h.os, h.tape, h.output, h.heap⟩
theorem Quiet.drewN {u w : World} (h : Quiet u w) (n : Nat) : Quiet u (w.drewN n) := ⟨h.os, h.tape, h.output, h.heap⟩
theorem Quiet.trans {u v w : World} (h : Quiet u v) (k : Quiet v w) : Quiet u w := ⟨k.os.trans h.os, k.tape.trans h.tape, k.output.trans h.output, k.heap.trans h.heap⟩
theorem Quiet.row {u w : World} (h : Quiet u w) {b o : Nat} {X : List Nat} (r : Row u b o X) : Row w b o X :=
  ⟨fun j hj => (World.cell?_of_block (by rw [h.heap])).trans (r.cell j hj), fun j hj => (World.frozen?_of_block (by rw [h.heap])).trans (r.free j hj)⟩
theorem Quiet.below {u w : World} (h : Quiet u w) (B : Nat) : Below B u w := ⟨h.os, h.tape, h.output, by rw [h.heap]; exact Nat.le_refl _, fun k _ => by rw [h.heap]⟩
theorem Quiet.only {u w : World} (h : Quiet u w) (b lo hi : Nat) : Only b lo hi u w :=
  ⟨h.os, h.tape, h.output, by rw [h.heap]; exact Nat.le_refl _, fun k _ _ => by rw [h.heap], fun i _ => World.cell?_of_block (by rw [h.heap]), fun i => World.frozen?_of_block (by rw [h.heap])⟩
/-- the order of two numbers -/
def cmpv (x y : Nat) : Int := if x < y then -1 else if y < x then 1 else 0
theorem cmpv_lt {x y : Nat} (h : x < y) : cmpv x y = -1 := by simp [cmpv, h]
theorem cmpv_gt {x y : Nat} (h : y < x) : cmpv x y = 1 := by unfold cmpv; rw [if_neg (by omega), if_pos h]
theorem cmpv_eq {x y : Nat} (h : x = y) : cmpv x y = 0 := by unfold cmpv; rw [if_neg (by omega), if_neg (by omega)]
def CmpQ (X Y : List Nat) (w : World) (e : Ending) (w' : World) : Prop := e = .returned (.int .i64 (cmpv (wv X) (wv Y))) ∧ Quiet w w'
set_option maxHeartbeats 1000000 in
theorem compare_any (w : World) (b o cap b2 o2 cap2 : Nat) (X Y : List Nat) (hR : Row w b o X) (hS : Row w b2 o2 Y) (hX : Wd X) (hY : Wd Y) (tX : Tr X) (tY : Tr Y)
    (hn : X.length ≤ 9223372036854775807) (_hn2 : Y.length ≤ 9223372036854775807) (hc : X.length ≤ cap) (hc2 : Y.length ≤ cap2) :
    Calls Tryz.prog 84 #[.slice (some ⟨b, o, none⟩) X.length cap, .slice (some ⟨b2, o2, none⟩) Y.length cap2] w (CmpQ X Y w) := by
  by_cases hl : X.length = Y.length
  · obtain ⟨n, hXn⟩ : ∃ n, n = X.length := ⟨_, rfl⟩
    have hYn : n = Y.length := by omega
    rw [← hXn, ← hYn]
    have hcn : n ≤ cap := by omega
    have hcn2 : n ≤ cap2 := by omega
    have hnn : n ≤ 9223372036854775807 := by omega
    have HX := Lib.hid hXn; have HY := Lib.hid hYn; clear hXn hYn hl
    go_enter Tryz.func84, Tryz.ntmps84
    go_wp2
    go_loopw [5] (fun i wr => ∃ k : Nat, k ≤ n ∧ i = .int .i64 ((k : Int) - 1) ∧ wv (X.drop k) = wv (Y.drop k) ∧ Quiet w wr) (fun i _ => (intOf i + 1).toNat)
    case atStart => exact ⟨n, Nat.le_refl _, rfl, by rw [List.drop_eq_nil_of_le (by rw [← HX.out]; exact Nat.le_refl _), List.drop_eq_nil_of_le (by rw [← HY.out]; exact Nat.le_refl _)], Quiet.refl _⟩
    case round =>
      obtain ⟨k, hk, rfl, hd, hq⟩ := hrel
      have HD := Lib.hid hd; clear hd
      by_cases h0 : k = 0
      · subst h0
        go_wp2
        go_ret
        have := HD.out
        simp only [List.drop_zero] at this
        exact ⟨ret_int (cmpv_eq this).symm, hq⟩
      · obtain ⟨m, rfl⟩ : ∃ m, k = m + 1 := ⟨k - 1, by omega⟩
        rw [show (((m + 1 : Nat) : Int) - 1) = (m : Int) by omega]
        have hx := (hq.row hR).cell m (by have := HX.out; omega)
        have hy := (hq.row hS).cell m (by have := HY.out; omega)
        have HQ := Lib.hid hq; clear hq
        have HR := Lib.hid hR; clear hR
        have HS := Lib.hid hS; clear hS
        rcases Nat.lt_trichotomy (gd X m) (gd Y m) with h | h | h
        · go_wp2
          go_region
          all_goals go_wp2
          all_goals go_ret
          all_goals exact ⟨ret_int (cmpv_lt (cmp_lt X Y m (HX.out.symm.trans HY.out) (by have := HX.out; omega) hX HD.out h)).symm, HQ.out.drew⟩
        · rw [h] at hx
          have HE := Lib.hid h; clear h
          go_wp2
          go_region
          all_goals go_wp2
          all_goals go_region
          all_goals go_wp2
          all_goals go_roundw
          case rel => exact ⟨m, by omega, rfl, cmp_step X Y m (HX.out.symm.trans HY.out) (by have := HX.out; omega) HD.out HE.out, HQ.out.drew.drew⟩
          case measure => (simp [intOf]; try omega)
        · go_wp2
          go_region
          all_goals go_wp2
          all_goals go_region
          all_goals go_wp2
          all_goals go_ret
          all_goals exact ⟨ret_int (cmpv_gt (cmp_lt Y X m (HY.out.symm.trans HX.out) (by have := HY.out; omega) hY HD.out.symm h)).symm, HQ.out.drew.drew⟩
  · have hne : ((X.length : Int) == (Y.length : Int)) = false := by simp; omega
    rcases Nat.lt_or_gt_of_ne hl with h | h
    · have hv := Tr_len_lt hX tY h
      go_enter Tryz.func84, Tryz.ntmps84
      go_wp2
      go_ret
      exact ⟨ret_int (cmpv_lt hv).symm, Quiet.refl _⟩
    · have hv := Tr_len_lt hY tX h
      go_enter Tryz.func84, Tryz.ntmps84
      go_wp2
      go_ret
      exact ⟨ret_int (cmpv_gt hv).symm, Quiet.refl _⟩
end Go.Proofs.YteccbedmpjeamaaGreatDoor
namespace Go.Proofs.YteccbedmpjeamaaGreatDoor
open Go.RowKit NM
/-! math/bits.Add64, Sub64: the model's entries, as laws of the call. -/
def lo64 (x y c : Nat) : Nat := (x + y + c) % B64
def hi64 (x y c : Nat) : Nat := (x + y + c) / B64
def df64 (x y c : Nat) : Nat := (x + B64 - y - c) % B64
def br64 (x y c : Nat) : Nat := if x < y + c then 1 else 0
theorem hi64_le {x y c : Nat} (hx : x < B64) (hy : y < B64) (hc : c ≤ 1) : hi64 x y c ≤ 1 := by
  unfold hi64
  have : (x + y + c) < 2 * B64 := by omega
  have := (Nat.div_lt_iff_lt_mul B64_pos).2 this
  omega
theorem lo64_lt (x y c : Nat) : lo64 x y c < B64 := Nat.mod_lt _ B64_pos
theorem df64_lt (x y c : Nat) : df64 x y c < B64 := Nat.mod_lt _ B64_pos
theorem br64_le (x y c : Nat) : br64 x y c ≤ 1 := by unfold br64; split <;> omega
def addE : Array Value → Sem Value := fun args => do
  let (x, y, c) ← Extern.MathBitsCarry.three "Add64" args
  pure (Extern.MathBitsCarry.pair ((x + y + c) % Extern.MathBitsCarry.m64) ((x + y + c) / Extern.MathBitsCarry.m64))
def subE : Array Value → Sem Value := fun args => do
  let (x, y, b) ← Extern.MathBitsCarry.three "Sub64" args
  pure (Extern.MathBitsCarry.pair ((x + Extern.MathBitsCarry.m64 - y - b) % Extern.MathBitsCarry.m64) (if x < y + b then 1 else 0))
theorem run_addE (x y c : Nat) (hc : c ≤ 1) (P : Program) (w : World) :
    (addE #[.int .u64 x, .int .u64 y, .int .u64 c]).run P w = .ok (.tuple #[.int .u64 (lo64 x y c : Nat), .int .u64 (hi64 x y c : Nat)]) w := by
  have : c = 0 ∨ c = 1 := by omega
  rcases this with rfl | rfl <;> rfl
theorem run_subE (x y c : Nat) (hc : c ≤ 1) (P : Program) (w : World) :
    (subE #[.int .u64 x, .int .u64 y, .int .u64 c]).run P w = .ok (.tuple #[.int .u64 (df64 x y c : Nat), .int .u64 (br64 x y c : Nat)]) w := by
  have : c = 0 ∨ c = 1 := by omega
  rcases this with rfl | rfl <;> rfl
theorem add64 (x y c : Nat) (hc : c ≤ 1) (w : World) :
    (callFunc 126 #[.int .u64 x, .int .u64 y, .int .u64 c]).run Tryz.prog w = .ok (.value (.tuple #[.int .u64 (lo64 x y c : Nat), .int .u64 (hi64 x y c : Nat)])) w := by
  rw [run_callFunc_extern Tryz.func126 (by kernel_rfl) (by kernel_rfl) (by kernel_rfl) (e := addE) (by kernel_rfl), run_addE x y c hc]; rfl
theorem sub64 (x y c : Nat) (hc : c ≤ 1) (w : World) :
    (callFunc 142 #[.int .u64 x, .int .u64 y, .int .u64 c]).run Tryz.prog w = .ok (.value (.tuple #[.int .u64 (df64 x y c : Nat), .int .u64 (br64 x y c : Nat)])) w := by
  rw [run_callFunc_extern Tryz.func142 (by kernel_rfl) (by kernel_rfl) (by kernel_rfl) (e := subE) (by kernel_rfl), run_subE x y c hc]; rfl
theorem add64_y0 (x c : Nat) (hc : c ≤ 1) (w : World) :
    (callFunc 126 #[.int .u64 x, .int .u64 0, .int .u64 c]).run Tryz.prog w = .ok (.value (.tuple #[.int .u64 (lo64 x 0 c : Nat), .int .u64 (hi64 x 0 c : Nat)])) w := add64 x 0 c hc w
theorem add64_c0 (x y : Nat) (w : World) :
    (callFunc 126 #[.int .u64 x, .int .u64 y, .int .u64 0]).run Tryz.prog w = .ok (.value (.tuple #[.int .u64 (lo64 x y 0 : Nat), .int .u64 (hi64 x y 0 : Nat)])) w := add64 x y 0 (by omega) w
theorem sub64_y0 (x c : Nat) (hc : c ≤ 1) (w : World) :
    (callFunc 142 #[.int .u64 x, .int .u64 0, .int .u64 c]).run Tryz.prog w = .ok (.value (.tuple #[.int .u64 (df64 x 0 c : Nat), .int .u64 (br64 x 0 c : Nat)])) w := sub64 x 0 c hc w
/-! subtract -/
/-- words Z at their place, of the old length, nothing else turned -/
structure At (n b o : Nat) (w : World) (Z : List Nat) (wr : World) : Prop where
  len : Z.length = n
  wd : Wd Z
  row : Row wr b o Z
  only : Only b o (o+n) w wr
theorem At.set {n b o : Nat} {w wr : World} {Z : List Nat} (h : At n b o w Z wr) (k v : Nat) (hk : k < n) (hv : v < B64) : At n b o w (Z.set k v) (wr.setCell ⟨b, o+k, none⟩ (.int .u64 (v : Nat))) :=
  ⟨by rw [List.length_set]; exact h.len, Wd_set h.wd k v hv, h.row.set k v (by rw [h.len]; exact hk), h.only.set _ _ (by omega) (by omega)⟩
theorem At.start {b o : Nat} {w : World} {X : List Nat} (hX : Wd X) (hR : Row w b o X) : At X.length b o w X w := ⟨rfl, hX, hR, Only.refl _ _ _ _⟩
def SubQ (X Y : List Nat) (b o : Nat) (w : World) (e : Ending) (w' : World) : Prop :=
  ∃ Z, At X.length b o w Z w' ∧ wv Z + wv Y = wv X ∧ e = .returned (.tuple #[])
theorem sub_room {X Z : List Nat} {U k c : Nat} (hZ : Wd Z) (hl : Z.length = X.length) (hU : U ≤ wv X) (hv : wv Z + U = wv X + c * B64^k) (hc : c ≠ 0) : k < X.length := by
  apply Nat.lt_of_not_le; intro h
  have h1 := wv_lt Z hZ
  have h2 : B64^Z.length ≤ B64^k := Nat.pow_le_pow_right B64_pos (by omega)
  have h3 : B64^k ≤ c * B64^k := Nat.le_mul_of_pos_left _ (by omega)
  omega
set_option maxHeartbeats 1000000 in
theorem subtract_any (w : World) (b o cap b2 o2 cap2 : Nat) (X Y : List Nat) (hR : Row w b o X) (hS : Row w b2 o2 Y) (hX : Wd X) (hY : Wd Y) (hne : b2 ≠ b) (hb2 : b2 < w.heap.size)
    (hn : X.length ≤ 9223372036854775806) (_hc : X.length ≤ cap) (_hc2 : Y.length ≤ cap2) (hm : Y.length ≤ X.length) (hle : wv Y ≤ wv X) :
    Calls Tryz.prog 124 #[.slice (some ⟨b, o, none⟩) X.length cap, .slice (some ⟨b2, o2, none⟩) Y.length cap2] w (SubQ X Y b o w) := by
  go_enter Tryz.func124, Tryz.ntmps124
  go_wp2
  go_loopw [4, 10] (fun c i wr => ∃ (k cc : Nat) (Z : List Nat), k ≤ Y.length ∧ cc ≤ 1 ∧ c = .int .u64 (cc : Nat) ∧ i = .int .i64 (k : Nat) ∧ At X.length b o w Z wr ∧ Hid (wv Z + wv (Y.take k) = wv X + cc * B64^k)) (fun _ i _ => Y.length - (intOf i).toNat)
  case atStart => exact ⟨0, 0, X, Nat.zero_le _, Nat.zero_le _, rfl, rfl, At.start hX hR, by show _ = _; simp [wv]⟩
  case round =>
    obtain ⟨k, cc, Z, hk, hcc, rfl, rfl, hA, hv⟩ := hrel
    by_cases hlt : k < Y.length
    · have hx := hA.row.cell k (by rw [hA.len]; omega)
      have hf := hA.row.free k (by rw [hA.len]; omega)
      have hy := (hA.only.row hS hne hb2).cell k hlt
      have HR := Lib.hid hR; clear hR
      have HS := Lib.hid hS; clear hS
      go_wp2_with (simp only [sub64 (gd Z k) (gd Y k) cc hcc])
      go_roundw
      case rel => exact ⟨k + 1, br64 (gd Z k) (gd Y k) cc, Z.set k (df64 (gd Z k) (gd Y k) cc), hlt, br64_le _ _ _, rfl, by go_num, hA.set k _ (by omega) (df64_lt _ _ _), by
        show _ = _
        rw [wv_take_succ Y k hlt]
        exact sub_step Z k cc (gd Y k) (wv X) _ (by rw [hA.len]; omega) hA.wd (Wd_getD hY k) hcc hv.out⟩
      case measure => (simp [intOf]; try omega)
    · obtain rfl : k = Y.length := by omega
      have hv2 : Hid (wv Z + wv Y = wv X + cc * B64^Y.length) := by have := hv.out; rwa [List.take_length] at this
      have HR := Lib.hid hR; clear hR
      have HS := Lib.hid hS; clear hS
      clear hv hlt hk
      go_wp2
      go_loopw [4, 7] (fun c i wr => ∃ (k cc : Nat) (Z : List Nat), Y.length ≤ k ∧ k ≤ X.length ∧ cc ≤ 1 ∧ c = .int .u64 (cc : Nat) ∧ i = .int .i64 (k : Nat) ∧ At X.length b o w Z wr ∧ Hid (wv Z + wv Y = wv X + cc * B64^k)) (fun _ i _ => X.length - (intOf i).toNat)
      case atStart => exact ⟨Y.length, cc, Z, Nat.le_refl _, hm, hcc, rfl, rfl, hA, hv2⟩
      case round =>
        clear hv2 hA hcc
        obtain ⟨k, cc, Z, hk, hkn, hcc, rfl, rfl, hA, hv⟩ := hrel
        by_cases h0 : cc = 0
        · subst h0
          go_wp2
          go_end0
          exact ⟨Z, hA, by have := hv.out; omega, rfl⟩
        · have hlt : k < X.length := sub_room hA.wd hA.len hle hv.out h0
          have hx := hA.row.cell k (by rw [hA.len]; omega)
          have hf := hA.row.free k (by rw [hA.len]; omega)
          have hb0 : ((cc : Int) != 0) = true := by simp; omega
          go_wp2_with (simp only [sub64_y0 (gd Z k) cc hcc])
          go_roundw
          case rel => exact ⟨k + 1, br64 (gd Z k) 0 cc, Z.set k (df64 (gd Z k) 0 cc), by omega, by omega, br64_le _ _ _, rfl, by go_num, hA.set k _ (by omega) (df64_lt _ _ _), by
            show _ = _
            have := sub_step Z k cc 0 (wv X) _ (by rw [hA.len]; omega) hA.wd B64_pos hcc hv.out
            simpa [br64, df64, gd] using this⟩
          case measure => (simp [intOf]; try omega)
end Go.Proofs.YteccbedmpjeamaaGreatDoor
namespace Go.Proofs.YteccbedmpjeamaaGreatDoor
open Go.RowKit NM
def AddQ (X Y : List Nat) (b o : Nat) (w : World) (e : Ending) (w' : World) : Prop :=
  ∃ (Z : List Nat) (c : Nat), At X.length b o w Z w' ∧ wv Z + c * B64^X.length = wv X + wv Y ∧ c ≤ 1 ∧ e = .returned (.tuple #[])
set_option maxHeartbeats 1000000 in
theorem add_any (w : World) (b o cap b2 o2 cap2 : Nat) (X Y : List Nat) (hR : Row w b o X) (hS : Row w b2 o2 Y) (hX : Wd X) (hY : Wd Y) (hne : b2 ≠ b) (hb2 : b2 < w.heap.size)
    (hn : X.length ≤ 9223372036854775806) (_hc : X.length ≤ cap) (_hc2 : Y.length ≤ cap2) (hm : Y.length ≤ X.length) :
    Calls Tryz.prog 98 #[.slice (some ⟨b, o, none⟩) X.length cap, .slice (some ⟨b2, o2, none⟩) Y.length cap2] w (AddQ X Y b o w) := by
  go_enter Tryz.func98, Tryz.ntmps98
  go_wp2
  go_loopw [4, 10] (fun c i wr => ∃ (k cc : Nat) (Z : List Nat), k ≤ Y.length ∧ cc ≤ 1 ∧ c = .int .u64 (cc : Nat) ∧ i = .int .i64 (k : Nat) ∧ At X.length b o w Z wr ∧ Hid (wv Z + cc * B64^k = wv X + wv (Y.take k))) (fun _ i _ => Y.length - (intOf i).toNat)
  case atStart => exact ⟨0, 0, X, Nat.zero_le _, Nat.zero_le _, rfl, rfl, At.start hX hR, by show _ = _; simp [wv]⟩
  case round =>
    obtain ⟨k, cc, Z, hk, hcc, rfl, rfl, hA, hv⟩ := hrel
    by_cases hlt : k < Y.length
    · have hx := hA.row.cell k (by rw [hA.len]; omega)
      have hf := hA.row.free k (by rw [hA.len]; omega)
      have hy := (hA.only.row hS hne hb2).cell k hlt
      have HR := Lib.hid hR; clear hR
      have HS := Lib.hid hS; clear hS
      go_wp2_with (simp only [add64 (gd Z k) (gd Y k) cc hcc])
      go_roundw
      case rel => exact ⟨k + 1, hi64 (gd Z k) (gd Y k) cc, Z.set k (lo64 (gd Z k) (gd Y k) cc), hlt, hi64_le (Wd_getD hA.wd k) (Wd_getD hY k) hcc, rfl, by go_num, hA.set k _ (by omega) (lo64_lt _ _ _), by
        show _ = _
        exact (add_step Z X Y k cc (by rw [hA.len]; omega) hlt hA.wd hY hcc hv.out).1⟩
      case measure => (simp [intOf]; try omega)
    · obtain rfl : k = Y.length := by omega
      have hv2 : Hid (wv Z + cc * B64^Y.length = wv X + wv Y) := by have := hv.out; rwa [List.take_length] at this
      have HR := Lib.hid hR; clear hR
      have HS := Lib.hid hS; clear hS
      clear hv hlt hk
      go_wp2
      go_loopw [4, 7] (fun c i wr => ∃ (k cc : Nat) (Z : List Nat), Y.length ≤ k ∧ k ≤ X.length ∧ cc ≤ 1 ∧ c = .int .u64 (cc : Nat) ∧ i = .int .i64 (k : Nat) ∧ At X.length b o w Z wr ∧ Hid (wv Z + cc * B64^k = wv X + wv Y)) (fun _ i _ => X.length - (intOf i).toNat)
      case atStart => exact ⟨Y.length, cc, Z, Nat.le_refl _, hm, hcc, rfl, rfl, hA, hv2⟩
      case round =>
        clear hv2 hA hcc
        obtain ⟨k, cc, Z, hk, hkn, hcc, rfl, rfl, hA, hv⟩ := hrel
        by_cases h0 : cc = 0
        · subst h0
          go_wp2
          go_end0
          exact ⟨Z, 0, hA, by have := hv.out; omega, by omega, rfl⟩
        · have hb0 : ((cc : Int) != 0) = true := by simp; omega
          by_cases hlt : k < X.length
          · have hx := hA.row.cell k (by rw [hA.len]; omega)
            have hf := hA.row.free k (by rw [hA.len]; omega)
            have hd : decide ((k : Int) < (X.length : Int)) = true := by simp; omega
            go_wp2_with (simp only [add64_y0 (gd Z k) cc hcc])
            go_roundw
            case rel => exact ⟨k + 1, hi64 (gd Z k) 0 cc, Z.set k (lo64 (gd Z k) 0 cc), by omega, by omega, hi64_le (Wd_getD hA.wd k) B64_pos hcc, rfl, by go_num, hA.set k _ (by omega) (lo64_lt _ _ _), by
              show _ = _
              have := (carry_step Z k cc (wv X + wv Y) (by rw [hA.len]; omega) hA.wd (by have := B64_pos; unfold B64; omega) hv.out).1
              simpa [hi64, lo64, gd] using this⟩
            case measure => (simp [intOf]; try omega)
          · obtain rfl : k = X.length := by omega
            go_wp2
            go_end0
            exact ⟨Z, cc, hA, hv.out, hcc, rfl⟩
end Go.Proofs.YteccbedmpjeamaaGreatDoor
