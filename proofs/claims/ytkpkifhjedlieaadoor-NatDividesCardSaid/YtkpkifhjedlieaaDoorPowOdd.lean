/-
  The walk of nat.powOdd.
-/
import Derived.Test.YtkpkifhjedlieaaDoorRaiseO
import Derived.Test.YtkpkifhjedlieaaDoorFactor
import Derived.Deep.DeepFit
import Derived.Deep.DeepMust
namespace Go.Proofs.YtkpkifhjedlieaaDoor
open Go.RowKit NM
set_option maxHeartbeats 2000000 in
theorem timesO_one (w : World) (u : Value) (x b' o' c' Bm bm om cap Bf f : Nat) (Z' Y : List Nat) (hu : NumR Y w u x) (h2' : b' < w.heap.size) (h3' : Row w b' o' Z') (h4' : Wd Z') (h5' : Z'.length = Y.length) (h6' : Y.length ≤ c') (h8' : wv Z' = 1)
    (hm : ModF w Bm bm om cap Bf f Y) (hodd : wv Y % 2 = 1) (hfc : (gd Y 0 * f + 1) % B64 = 0) (hf64 : f < 18446744073709551616) :
    Calls Tryd.prog 58 #[u, .slice (some ⟨b', o', none⟩) Y.length c', .pointer (some ⟨Bm, 0, none⟩), .pointer (some ⟨Bf, 0, none⟩)] w fun e w' => ∃ r, e = .returned r ∧ NumO Y.length (wv Y) w' r (x % wv Y) ∧ Below w.heap.size w w' := by
  obtain ⟨b, o, c, Z, rfl, h2, h3, h4, h5, h6, h7, h8⟩ := hu
  have hM := Lib.hid (montgomery_any w b o c b' o' c' bm om cap f Y.length Z Z' Y h3 h3' hm.mod.row h4 h4' hm.mod.wd hm.mod.tr h2 h2' hm.mod.bm rfl h5 h5' hm.mod.len h6 h6' hm.mod.cap h7 hfc hf64)
  have hbx := hm.mod.box
  have hfx := hm.fac
  obtain ⟨n, hn⟩ : ∃ n, n = Y.length := ⟨_, rfl⟩
  rw [← hn] at hM hbx ⊢
  have HX := Lib.hid (And.intro h5 (And.intro h5' (And.intro h8 (And.intro h8' hn)))); clear h5 h5' h8 h8' hn
  go_enter Tryd.func58, Tryd.ntmps58
  go_wp2_with (refine hM.out.mono ?_; rintro e w' ⟨T, bt, ot, rfl, r1, r2, r3, r4, r5, r6, r7⟩)
  go_ret
  obtain ⟨g5, g5', g8, g8', gn⟩ := HX.out
  rw [gn]
  refine ⟨_, rfl, ⟨bt, ot, _, T, rfl, r1, r2, r3, r4, Nat.le_succ _, r5, ?_⟩, r7⟩
  rw [g8, g8', Nat.mul_one, Nat.mod_mod] at r6
  apply mod_cancel _ _ _ _ hodd r5 (Nat.mod_lt _ (by omega))
  rw [r6, mm]
set_option maxRecDepth 100000 in
set_option maxHeartbeats 4000000 in
theorem powOdd_any (w : World) (b o cp bm om cap : Nat) (X Y : List Nat) (s : ByteArray) (hs : s.size ≤ 4294967296) (hR : Row w b o X) (hX : Wd X) (hb : b < w.heap.size) (hl : X.length ≤ 536870914) (hc : X.length ≤ cp)
    (rY : Row w bm om Y) (wY : Wd Y) (tY : Tr Y) (hbm : bm < w.heap.size) (lY : Y.length ≤ 536870914) (hcap : Y.length ≤ cap) (hodd : wv Y % 2 = 1) (hD : DivOK Y) :
    Calls Tryd.prog 33 #[.slice (some ⟨b, o, none⟩) X.length cp, .slice (some ⟨bm, om, none⟩) Y.length cap, .string s] w fun e w' => ∃ r, e = .returned r ∧ NumO Y.length (wv Y) w' r (wv X ^ sv s % wv Y) ∧ Below w.heap.size w w' := by
  have hpos : 0 < wv Y := by omega
  have hlen0 : 0 < Y.length := by
    cases Y with
    | nil => simp [wv] at hpos
    | cons a l => simp
  have hy0 := rY.cell 0 hlen0
  have godd : gd Y 0 % 2 = 1 := by
    have h := wv_mod Y wY
    rw [← h]
    have : wv Y % B64 % 2 = wv Y % 2 := Nat.mod_mod_of_dvd _ ⟨9223372036854775808, rfl⟩
    rw [this]; exact hodd
  rw [Nat.add_zero] at hy0
  have hfo := factorOf_any (w.alloc (.cells #[.slice (some ⟨bm, om, none⟩) Y.length cap] 46) |>.alloc (.cells #[.int .i64 (Y.length : Nat)] 3)) (gd Y 0) godd (gd_lt wY 0)
  have HFO := Lib.hid hfo; clear hfo
  have HG := Lib.hid godd; clear godd
  go_enter Tryd.func33, Tryd.ntmps33
  go_wp2_with fail
  go_fit HFO.out
  rintro e w2 ⟨f, hf64, hfc, rfl, rfl⟩
  have HFC := Lib.hid hfc; clear hfc
  go_wp2_with fail
  have hB4 : Below w.heap.size w ((((w.alloc (.cells #[.slice (some ⟨bm, om, none⟩) Y.length cap] 46)).alloc (.cells #[.int .i64 (Y.length : Nat)] 3)).alloc (.cells #[.int .u64 (f : Nat)] 56)).alloc (.cells #[.int .u64 1] 56)) := ((((Below.refl _ w).alloc (Nat.le_refl _) _).alloc (by simp) _).alloc (by simp; omega) _).alloc (by simp; omega) _
  have hbx4 : ((((w.alloc (.cells #[.slice (some ⟨bm, om, none⟩) Y.length cap] 46)).alloc (.cells #[.int .i64 (Y.length : Nat)] 3)).alloc (.cells #[.int .u64 (f : Nat)] 56)).alloc (.cells #[.int .u64 1] 56)).cell? ⟨w.heap.size, 0, none⟩ = some (.slice (some ⟨bm, om, none⟩) Y.length cap) := by
    rw [World.cell?_alloc_past _ _ _ (by simp; omega), World.cell?_alloc_past _ _ _ (by simp; omega), World.cell?_alloc_past _ _ _ (by simp), World.cell?_alloc_at _ _ _ _ rfl]; rfl
  have hnx4 : ((((w.alloc (.cells #[.slice (some ⟨bm, om, none⟩) Y.length cap] 46)).alloc (.cells #[.int .i64 (Y.length : Nat)] 3)).alloc (.cells #[.int .u64 (f : Nat)] 56)).alloc (.cells #[.int .u64 1] 56)).cell? ⟨w.heap.size + 1, 0, none⟩ = some (.int .i64 (Y.length : Nat)) := by
    rw [World.cell?_alloc_past _ _ _ (by simp), World.cell?_alloc_past _ _ _ (by simp), World.cell?_alloc_at _ _ _ _ (by simp)]; rfl
  have hfx4 : ((((w.alloc (.cells #[.slice (some ⟨bm, om, none⟩) Y.length cap] 46)).alloc (.cells #[.int .i64 (Y.length : Nat)] 3)).alloc (.cells #[.int .u64 (f : Nat)] 56)).alloc (.cells #[.int .u64 1] 56)).cell? ⟨w.heap.size + 1 + 1, 0, none⟩ = some (.int .u64 (f : Nat)) := by
    rw [World.cell?_alloc_past _ _ _ (by simp), World.cell?_alloc_at _ _ _ _ (by simp)]; rfl
  have hs4 : ((((w.alloc (.cells #[.slice (some ⟨bm, om, none⟩) Y.length cap] 46)).alloc (.cells #[.int .i64 (Y.length : Nat)] 3)).alloc (.cells #[.int .u64 (f : Nat)] 56)).alloc (.cells #[.int .u64 1] 56)).heap.size = w.heap.size + 1 + 1 + 1 + 1 := by simp
  have hone4 : Row ((((w.alloc (.cells #[.slice (some ⟨bm, om, none⟩) Y.length cap] 46)).alloc (.cells #[.int .i64 (Y.length : Nat)] 3)).alloc (.cells #[.int .u64 (f : Nat)] 56)).alloc (.cells #[.int .u64 1] 56)) (w.heap.size + 1 + 1 + 1) 0 [1] := by
    have := row_one (((w.alloc (.cells #[.slice (some ⟨bm, om, none⟩) Y.length cap] 46)).alloc (.cells #[.int .i64 (Y.length : Nat)] 3)).alloc (.cells #[.int .u64 (f : Nat)] 56)) 1 56
    have e : (((w.alloc (.cells #[.slice (some ⟨bm, om, none⟩) Y.length cap] 46)).alloc (.cells #[.int .i64 (Y.length : Nat)] 3)).alloc (.cells #[.int .u64 (f : Nat)] 56)).heap.size = w.heap.size + 1 + 1 + 1 := by simp
    rw [e] at this
    exact this
  generalize ((((w.alloc (.cells #[.slice (some ⟨bm, om, none⟩) Y.length cap] 46)).alloc (.cells #[.int .i64 (Y.length : Nat)] 3)).alloc (.cells #[.int .u64 (f : Nat)] 56)).alloc (.cells #[.int .u64 1] 56)) = w4 at *
  have hR4 := hR.below hB4 hb
  have hm4 : ModF w4 w.heap.size bm om cap (w.heap.size + 1 + 1) f Y := ⟨⟨hbx4, rY.below hB4 hbm, wY, tY, by omega, by omega, lY, hcap⟩, hfx4, by omega⟩
  have w1d : Wd [1] := fun x hx => by rw [List.mem_singleton.1 hx]; decide
  have hS4 := Lib.hid hs4; clear hs4
  have hl1 := lift_any w4 (w.heap.size + 1 + 1 + 1) 0 1 (w.heap.size + 1) w.heap.size bm om cap [1] Y hone4 w1d (by rw [hS4.out]; omega) (by simp) (by simp) hnx4 (by rw [hS4.out]; omega) hm4.mod hD hpos
  go_fit hl1
  clear hl1
  rintro e w5 ⟨r1, rfl, n1, b5⟩
  have hm5 := hm4.below b5
  have hs5 := b5.size
  have hnx5 := (b5.cell (p := ⟨w.heap.size + 1, 0, none⟩) (by show w.heap.size + 1 < _; rw [hS4.out]; omega)).trans hnx4
  have hR5 := hR4.below b5 (by rw [hS4.out]; omega)
  have hone5 := hone4.below b5 (by rw [hS4.out]; omega)
  go_wp2_with fail
  have hl2 := lift_any w5 b o cp (w.heap.size + 1) w.heap.size bm om cap X Y hR5 hX (by rw [hS4.out] at hs5; omega) hl hc hnx5 (by rw [hS4.out] at hs5; omega) hm5.mod hD hpos
  go_fit hl2
  clear hl2
  rintro e w6 ⟨r2, rfl, n2, b6⟩
  have hm6 := hm5.below b6
  have hs6 := b6.size
  have n1' := n1.below b6
  have hnx6 := (b6.cell (p := ⟨w.heap.size + 1, 0, none⟩) (by show w.heap.size + 1 < _; rw [hS4.out] at hs5; omega)).trans hnx5
  have hone6 := hone5.below b6 (by rw [hS4.out] at hs5; omega)
  have hv1 : wv [1] = 1 := by simp [wv]
  rw [hv1] at n1'
  have q1 : NumR Y w6 r1 (1 % wv Y) := by unfold NumR; rw [mm]; exact n1'
  have q2 : NumR Y w6 r2 (wv X % wv Y) := by unfold NumR; rw [mm]; exact n2
  obtain ⟨bb1, oo1, ll1, cc1, rfl⟩ := q1.form
  obtain ⟨bb2, oo2, ll2, cc2, rfl⟩ := q2.form
  go_wp2_with fail
  have hr := raiseO_any w6 bb1 oo1 ll1 cc1 bb2 oo2 ll2 cc2 s hs (wv X) w.heap.size bm om cap (w.heap.size + 1 + 1) f Y q1 q2 hpos hodd HFC.out hf64 hm6
  go_fit hr
  clear hr
  rintro e w7 ⟨r3, rfl, n3, b7⟩
  have hm7 := hm6.below b7
  have hs7 := b7.size
  have hnx7 := (b7.cell (p := ⟨w.heap.size + 1, 0, none⟩) (by show w.heap.size + 1 < _; rw [hS4.out] at hs5; omega)).trans hnx6
  have hone7 := hone6.below b7 (by rw [hS4.out] at hs5; omega)
  go_wp2_with fail
  have hw := widen_any w7 (w.heap.size + 1 + 1 + 1) 0 1 Y.length [1] hone7 w1d (by rw [hS4.out] at hs5; omega) (by omega) (by simp; omega)
  go_fit hw
  clear hw
  rintro e w8 ⟨T, oT, lT, vT, b8, rfl⟩
  have hm8 := hm7.below b8
  have n3' := n3.below b8
  have HT := Lib.hid (And.intro lT vT); clear lT vT
  go_wp2_with fail
  have hlast := timesO_one w8 r3 _ _ 0 _ w.heap.size bm om cap (w.heap.size + 1 + 1) f T Y n3' oT.lt oT.row oT.wd HT.out.1 (Nat.le_refl _) (by rw [HT.out.2, hv1]) hm8 hodd HFC.out hf64
  go_fit hlast
  clear hlast
  rintro e w9 ⟨r4, rfl, n4, b9⟩
  go_wp2
  go_ret
  rw [Nat.mod_mod] at n4
  have z4 := hS4.out
  have s8 := b8.size
  refine ⟨_, rfl, n4, hB4.trans ((b5.mono (by omega)).trans ((b6.mono (by omega)).trans ((b7.mono (by omega)).trans ((b8.mono (by omega)).trans (b9.mono (by omega))))))⟩
end Go.Proofs.YtkpkifhjedlieaaDoor
