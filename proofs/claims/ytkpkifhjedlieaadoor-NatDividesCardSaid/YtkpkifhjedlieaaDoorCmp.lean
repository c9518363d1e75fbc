/-
  The walk of nat.compare: it orders two trimmed numbers by their values.
-/
import Derived.Test.YtkpkifhjedlieaaDoorBase
namespace Go.Proofs.YtkpkifhjedlieaaDoor
open Go.RowKit NM
/-- nothing changes but the count of draws -/
structure Quiet (w w' : World) : Prop where
  os : w'.os = w.os
  tape : w'.tape = w.tape
  output : w'.output = w.output
  heap : w'.heap = w.heap
theorem Quiet.refl (w : World) : Quiet w w := ⟨rfl, rfl, rfl, rfl⟩
theorem Quiet.drew {u w : World} (h : Quiet u w) : Quiet u w.drew := ⟨h.os, h.tape, h.output, h.heap⟩
theorem Quiet.drewN {u w : World} (h : Quiet u w) (n : Nat) : Quiet u (w.drewN n) := ⟨h.os, h.tape, h.output, h.heap⟩
theorem Quiet.trans {u v w : World} (h : Quiet u v) (k : Quiet v w) : Quiet u w := ⟨k.os.trans h.os, k.tape.trans h.tape, k.output.trans h.output, k.heap.trans h.heap⟩
theorem Quiet.row {u w : World} (h : Quiet u w) {b o : Nat} {X : List Nat} (r : Row u b o X) : Row w b o X :=
  ⟨fun j hj => (World.cell?_of_block (by rw [h.heap])).trans (r.cell j hj), fun j hj => (World.frozen?_of_block (by rw [h.heap])).trans (r.free j hj)⟩
theorem Quiet.below {u w : World} (h : Quiet u w) (B : Nat) : Below B u w := ⟨h.os, h.tape, h.output, by rw [h.heap]; exact Nat.le_refl _, fun k _ => by rw [h.heap]⟩
theorem Quiet.only {u w : World} (h : Quiet u w) (b lo hi : Nat) : Only b lo hi u w :=
  ⟨h.os, h.tape, h.output, by rw [h.heap]; exact Nat.le_refl _, fun k _ _ => by rw [h.heap], fun i _ => World.cell?_of_block (by rw [h.heap]), fun i => World.frozen?_of_block (by rw [h.heap])⟩
/-- the order of two numbers -/
def cmpv (x y : Nat) : Int := if x < y then -1 else if y < x then 1 else 0
theorem cmpv_lt {x y : Nat} (h : x < y) : cmpv x y = -1 := by simp [cmpv, h]
theorem cmpv_gt {x y : Nat} (h : y < x) : cmpv x y = 1 := by unfold cmpv; rw [if_neg (by omega), if_pos h]
theorem cmpv_eq {x y : Nat} (h : x = y) : cmpv x y = 0 := by unfold cmpv; rw [if_neg (by omega), if_neg (by omega)]
def CmpQ (X Y : List Nat) (w : World) (e : Ending) (w' : World) : Prop := e = .returned (.int .i64 (cmpv (wv X) (wv Y))) ∧ Quiet w w'
set_option maxHeartbeats 1000000 in
theorem compare_any (w : World) (b o cap b2 o2 cap2 : Nat) (X Y : List Nat) (hR : Row w b o X) (hS : Row w b2 o2 Y) (hX : Wd X) (hY : Wd Y) (tX : Tr X) (tY : Tr Y)
    (hn : X.length ≤ 9223372036854775807) (hn2 : Y.length ≤ 9223372036854775807) (hc : X.length ≤ cap) (hc2 : Y.length ≤ cap2) :
    Calls Tryd.prog 24 #[.slice (some ⟨b, o, none⟩) X.length cap, .slice (some ⟨b2, o2, none⟩) Y.length cap2] w (CmpQ X Y w) := by
  by_cases hl : X.length = Y.length
  · obtain ⟨n, hXn⟩ : ∃ n, n = X.length := ⟨_, rfl⟩
    have hYn : n = Y.length := by omega
    rw [← hXn, ← hYn]
    have hcn : n ≤ cap := by omega
    have hcn2 : n ≤ cap2 := by omega
    have hnn : n ≤ 9223372036854775807 := by omega
    have HX := Lib.hid hXn; have HY := Lib.hid hYn; clear hXn hYn hl
    go_enter Tryd.func24, Tryd.ntmps24
    go_wp2
    go_loopw [5] (fun i wr => ∃ k : Nat, k ≤ n ∧ i = .int .i64 ((k : Int) - 1) ∧ wv (X.drop k) = wv (Y.drop k) ∧ Quiet w wr) (fun i _ => (intOf i + 1).toNat)
    case atStart => exact ⟨n, Nat.le_refl _, rfl, by rw [List.drop_eq_nil_of_le (by rw [← HX.out]; exact Nat.le_refl _), List.drop_eq_nil_of_le (by rw [← HY.out]; exact Nat.le_refl _)], Quiet.refl _⟩
    case round =>
      obtain ⟨k, hk, rfl, hd, hq⟩ := hrel
      have HD := Lib.hid hd; clear hd
      by_cases h0 : k = 0
      · subst h0
        go_wp2
        go_ret
        have := HD.out
        simp only [List.drop_zero] at this
        exact ⟨ret_int (cmpv_eq this).symm, hq⟩
      · obtain ⟨m, rfl⟩ : ∃ m, k = m + 1 := ⟨k - 1, by omega⟩
        rw [show (((m + 1 : Nat) : Int) - 1) = (m : Int) by omega]
        have hx := (hq.row hR).cell m (by have := HX.out; omega)
        have hy := (hq.row hS).cell m (by have := HY.out; omega)
        have HQ := Lib.hid hq; clear hq
        have HR := Lib.hid hR; clear hR
        have HS := Lib.hid hS; clear hS
        rcases Nat.lt_trichotomy (gd X m) (gd Y m) with h | h | h
        · go_wp2
          go_region
          all_goals go_wp2
          all_goals go_ret
          all_goals exact ⟨ret_int (cmpv_lt (cmp_lt X Y m (HX.out.symm.trans HY.out) (by have := HX.out; omega) hX HD.out h)).symm, HQ.out.drew⟩
        · rw [h] at hx
          have HE := Lib.hid h; clear h
          go_wp2
          go_region
          all_goals go_wp2
          all_goals go_region
          all_goals go_wp2
          all_goals go_roundw
          case rel => exact ⟨m, by omega, rfl, cmp_step X Y m (HX.out.symm.trans HY.out) (by have := HX.out; omega) HD.out HE.out, HQ.out.drew.drew⟩
          case measure => (simp [intOf]; try omega)
        · go_wp2
          go_region
          all_goals go_wp2
          all_goals go_region
          all_goals go_wp2
          all_goals go_ret
          all_goals exact ⟨ret_int (cmpv_gt (cmp_lt Y X m (HY.out.symm.trans HX.out) (by have := HY.out; omega) hY HD.out.symm h)).symm, HQ.out.drew.drew⟩
  · have hne : ((X.length : Int) == (Y.length : Int)) = false := by simp; omega
    rcases Nat.lt_or_gt_of_ne hl with h | h
    · have hv := Tr_len_lt hX tY h
      go_enter Tryd.func24, Tryd.ntmps24
      go_wp2
      go_ret
      exact ⟨ret_int (cmpv_lt hv).symm, Quiet.refl _⟩
    · have hv := Tr_len_lt hY tX h
      go_enter Tryd.func24, Tryd.ntmps24
      go_wp2
      go_ret
      exact ⟨ret_int (cmpv_gt hv).symm, Quiet.refl _⟩
end Go.Proofs.YtkpkifhjedlieaaDoor
