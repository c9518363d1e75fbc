/-
  The walks of the reference's Value and At.
-/
import Derived.Test.YtbfplapjjeeceaaGreatDoorDValue
import Derived.Test.YtbfplapjjeeceaaGreatDoorGRefB
import Derived.Deep.RegionHeld3
import Derived.Deep.RegionWith
namespace Go.Proofs.YtbfplapjjeeceaaGreatDoor.D7
open Go.RowKit GM SH G4 E6 D7P
theorem refMul_c (W : World) (a b m r : Int) (h : gm a b m = r) (ha : i64 a) (hb : i64 b) (hm2 : m ≤ 9223372036854775807) :
    Calls Tryz.prog 44 #[.int .i64 a, .int .i64 b, .int .i64 m] W fun e w' => e = .returned (.int .i64 r) ∧ w' = W := by
  subst h; exact refMul_any W a b m ha.1 ha.2 hb.1 hb.2 hm2
theorem refAdd_c (W : World) (a b m r : Int) (h : ga a b m = r) (ha : i64 a) (hb : i64 b) (hm2 : m ≤ 9223372036854775807) :
    Calls Tryz.prog 54 #[.int .i64 a, .int .i64 b, .int .i64 m] W fun e w' => e = .returned (.int .i64 r) ∧ w' = W := by
  subst h; exact refAdd_any W a b m ha.1 ha.2 hb.1 hb.2 hm2
theorem refPow_w (W : World) (a n m r : Int) (h : gp a n m = r) (ha : i64 a) (hn : n ≤ 9223372036854775807) (hm2 : m ≤ 9223372036854775807) :
    Calls Tryz.prog 39 #[.int .i64 a, .int .i64 n, .int .i64 m] W fun e w' => e = .returned (.int .i64 r) ∧ w' = W := by
  subst h; exact refPow_any W a n m ha.1 ha.2 hn hm2
theorem mQ_i64 (x : Int) : i64 (x % 1152921504606845789) := ⟨by omega, by omega⟩
set_option maxRecDepth 100000 in
set_option maxHeartbeats 4000000 in
theorem refValue_any (w : World) (v : Value) (l : List Int) (x : Int) (hV : SL w v l) (hr : ∀ y ∈ l, i64 y) (hx : i64 x) (hln : l.length ≤ 1000000000) :
    Calls Tryz.prog 22 #[v, .int .i64 x] w fun e w' => e = .returned (.int .i64 (vl l x)) ∧ Below w.heap.size w w' := by
  obtain ⟨p, c, rfl, hc⟩ := hV.form
  obtain ⟨N, hN⟩ : ∃ N, l.length = N := ⟨_, rfl⟩
  have HC := Lib.hid (And.intro hc (And.intro hr hN)); clear hc hr hV
  rw [hN] at hln
  rw [hN]
  clear hN
  go_enter Tryz.func22, Tryz.ntmps22
  go_wp2_with fail
  go_loopw [5, 6] (fun o i wr => ∃ (k : Nat) (z kk : Int), k ≤ N ∧ kk = (k : Int) - 1 ∧ o = .int .i64 z ∧ i = .int .i64 kk ∧ Hid (z = ev (l.drop k) x % 1152921504606845789) ∧ Hid (Below w.heap.size w wr)) (fun _ i _ => (match i with | .int _ i => (i + 1).toNat | _ => 0))
  case atStart => exact ⟨N, 0, (N : Int) - 1, Nat.le_refl _, rfl, rfl, rfl, Lib.hid (by rw [← HC.out.2.2, List.drop_length]; rfl), Lib.hid (Below.refl _ _)⟩
  case round =>
    obtain ⟨k, z, kk, hk, hkk, rfl, rfl, hz, hb⟩ := hrel
    by_cases h0 : 0 < k
    · obtain ⟨j, rfl⟩ : ∃ j, k = j + 1 := ⟨k - 1, by omega⟩
      obtain rfl : kk = (j : Int) := by omega
      obtain ⟨y, hy⟩ : ∃ y, l[j]? = some y := ⟨l[j]'(by rw [HC.out.2.2]; omega), List.getElem?_eq_getElem _⟩
      obtain ⟨b, o, hp, hcy⟩ := HC.out.1 j y hy
      subst hp
      have hcell := (hb.out.cell (p := ⟨b, o + j, none⟩) (World.block_lt_of_cell? _ _ hcy)).trans hcy
      have hiy := HC.out.2.1 y (List.mem_of_getElem? hy)
      have hzi : i64 z := by rw [hz.out]; exact mQ_i64 _
      have X1 := Lib.hid fun W => refMul_c W z x 1152921504606845789 (gm z x 1152921504606845789) rfl hzi hx (by decide)
      have hst := Lib.hid (show ga (gm z x 1152921504606845789) y 1152921504606845789 = ev (l.drop j) x % 1152921504606845789 by rw [hz.out]; exact horner l x j y hy)
      have X2 := Lib.hid fun W => refAdd_c W (gm z x 1152921504606845789) y 1152921504606845789 (ga (gm z x 1152921504606845789) y 1152921504606845789) rfl (gmQ_i64 _ _) hiy (by decide)
      generalize ga (gm z x 1152921504606845789) y 1152921504606845789 = z2 at *
      generalize gm z x 1152921504606845789 = z1 at *
      clear hy hcy hiy hzi hkk
      have hlt : j < N := by omega
      clear hk
      go_wp2_with fail
      go_region_with (first
        | (go_at_call 44; refine (X1.out _).mono ?_; rintro e w' ⟨rfl, rfl⟩)
        | (go_at_call 54; refine (X2.out _).mono ?_; rintro e w' ⟨rfl, rfl⟩))
      all_goals
        go_wp2
        exact ⟨⟨j, z2, (j : Int) - 1, by omega, rfl, rfl, rfl, hst, Lib.hid hb.out.drew⟩, by simp <;> omega⟩
    · obtain rfl : k = 0 := by omega
      have hneg : kk < 0 := by omega
      clear hkk h0
      have E := Lib.hid (show z = vl l x by rw [hz.out, vl_ev]; rfl)
      go_wp2
      go_ret
      exact ⟨by rw [← E.out]; rfl, hb.out⟩
set_option maxRecDepth 100000 in
set_option maxHeartbeats 4000000 in
theorem refAt_any (w : World) (v : Value) (l : List Int) (x : Int) (hV : SL w v l) (hr : ∀ y ∈ l, i64 y) (hx : i64 x) (hln : l.length ≤ 1000000000) :
    Calls Tryz.prog 25 #[v, .int .i64 x] w fun e w' => e = .returned (.int .i64 (av l x)) ∧ Below w.heap.size w w' := by
  obtain ⟨p, c, rfl, hc⟩ := hV.form
  obtain ⟨N, hN⟩ : ∃ N, l.length = N := ⟨_, rfl⟩
  have HC := Lib.hid (And.intro hc (And.intro hr hN)); clear hc hr hV
  rw [hN] at hln
  rw [hN]
  clear hN
  go_enter Tryz.func25, Tryz.ntmps25
  go_wp2_with fail
  go_loopw [5, 6, 7] (fun o q i wr => ∃ (k : Nat) (z t : Int), k ≤ N ∧ o = .int .i64 z ∧ q = .int .i64 t ∧ i = .int .i64 (k : Int) ∧ i64 z ∧ i64 t ∧ Hid (af z (pws (l.drop k) x t) = av l x) ∧ Hid (Below w.heap.size w wr)) (fun _ _ i _ => N - (match i with | .int _ i => i.toNat | _ => 0))
  case atStart => exact ⟨0, 1, 1, Nat.zero_le _, rfl, rfl, rfl, by decide, by decide, Lib.hid rfl, Lib.hid (Below.refl _ _)⟩
  case round =>
    obtain ⟨k, z, t, hk, rfl, rfl, rfl, hzi, hti, hz, hb⟩ := hrel
    by_cases hlt : k < N
    · obtain ⟨y, hy⟩ : ∃ y, l[k]? = some y := ⟨l[k]'(by rw [HC.out.2.2]; exact hlt), List.getElem?_eq_getElem _⟩
      obtain ⟨b, o, hp, hcy⟩ := HC.out.1 k y hy
      subst hp
      have hcell := (hb.out.cell (p := ⟨b, o + k, none⟩) (World.block_lt_of_cell? _ _ hcy)).trans hcy
      have hiy := HC.out.2.1 y (List.mem_of_getElem? hy)
      have X1 := Lib.hid fun W => refPow_w W y t 2305843009213691579 (pp y t) rfl hiy hti.2 (by decide)
      have X2 := Lib.hid fun W => refMul_c W z (pp y t) 2305843009213691579 (gm z (pp y t) 2305843009213691579) rfl hzi (pp_i _ _) (by decide)
      have X3 := Lib.hid fun W => refMul_c W t x 1152921504606845789 (gm t x 1152921504606845789) rfl hti hx (by decide)
      have hst := Lib.hid (show af (gm z (pp y t) 2305843009213691579) (pws (l.drop (k+1)) x (gm t x 1152921504606845789)) = av l x by
        rw [← hz.out]
        obtain ⟨hk2, rfl⟩ := List.getElem?_eq_some_iff.1 hy
        rw [List.drop_eq_getElem_cons hk2]; rfl)
      have i2 := gmP_i64 z (pp y t)
      have i3 := gmQ_i64 t x
      generalize gm z (pp y t) 2305843009213691579 = z2 at *
      generalize gm t x 1152921504606845789 = t2 at *
      generalize pp y t = u at *
      clear hy hcy hiy hz
      go_wp2_with fail
      refine (X1.out _).mono ?_
      rintro e w' ⟨rfl, rfl⟩
      go_wp2_with fail
      refine (X2.out _).mono ?_
      rintro e w' ⟨rfl, rfl⟩
      go_wp2_with fail
      refine (X3.out _).mono ?_
      rintro e w' ⟨rfl, rfl⟩
      go_wp2
      exact ⟨⟨k + 1, z2, t2, by omega, rfl, rfl, by go_num, i2, i3, hst, hb⟩, by simp; omega⟩
    · obtain rfl : k = N := by omega
      have E := Lib.hid (show z = av l x by have := hz.out; rwa [← HC.out.2.2, List.drop_length] at this)
      go_wp2
      go_ret
      exact ⟨by rw [← E.out]; rfl, hb.out⟩
end Go.Proofs.YtbfplapjjeeceaaGreatDoor.D7
