/-
  The walks of beacon.Read and of the function in it that reads the next number.
  The walk of the reference's Read of partials.
  The walk of the law BeaconTexts.
-/
import Derived.Test.YtbfplapjjeeceaaGreatDoorTSpec
import Derived.Test.YtbfplapjjeeceaaGreatDoorBCom
import Derived.Test.YtbfplapjjeeceaaGreatDoorBSanW
import Derived.Deep.DeepCutAuto
import Derived.OwnWalk
import Derived.Lib.UnsafeStr
namespace Go.Proofs.YtbfplapjjeeceaaGreatDoor.B9
open Go.RowKit GM SH G4 E6 D7P DM
open W8 hiding i64 jn
theorem kx_setCell9 (W : World) (g j : Nat) (v : Value) : KX (some g) W (W.setCell ⟨g, j, none⟩ v) := by
  have h := (Below.refl g W).setCell (p := ⟨g, j, none⟩) (Nat.le_refl _) v
  exact ⟨h.os, h.tape, h.output, h.size, fun k _ hM => heap_setCell_other W _ k _ (fun e => hM (by rw [e]))⟩
set_option maxRecDepth 100000 in
theorem next_any (u w : World) (g : Nat) (s : ByteArray) (hg : u.heap.size ≤ g) (hu : Below u.heap.size u w) (hp : w.heap[g]? = some (.cells #[.string s] 9 (0, 0))) (hs : s.size ≤ 281474976710656) (hT : TX u) :
    Calls Tryz.prog 61 #[.pointer (some ⟨g, 0, none⟩)] w fun e w' => e = .returned (.int .i64 (nm (spA s).data.toList)) ∧ w'.heap[g]? = some (.cells #[.string (spB s)] 9 (0, 0)) ∧ Below u.heap.size u w' ∧ KX (some g) w w' := by
  have hz := sp_size s
  have C1 := Lib.hid fun W => cutb_any W s hs
  have A1 := Lib.hid fun W (h : TX W) => atoi_any W (spA s) (by omega) h
  have hn := nm_rng (spA s).data.toList
  generalize nm (spA s).data.toList = x at *
  generalize spA s = A at *
  generalize spB s = B at *
  have HU := Lib.hid (And.intro hu (And.intro hT (And.intro hg hp)))
  have c0 : w.cell? ⟨g, 0, none⟩ = some (.string s) := cell_of_row _ g 0 _ _ _ hp
  clear hz hu hT hg hp
  have HN := Lib.hid hn; clear hn
  go_enter Tryz.func61, Tryz.ntmps61
  go_wp2_with fail
  refine (C1.out _).mono ?_
  rintro e w1 ⟨bb, rfl, b1⟩
  have hp1 := (b1.block g (Array.getElem?_eq_some_iff.1 HU.out.2.2.2).1).trans HU.out.2.2.2
  have H1 := Lib.hid (And.intro (HU.out.1.trans (b1.mono HU.out.1.size)) (And.intro hp1 (KX.below (some g) b1)))
  have c1 : w1.cell? ⟨g, 0, none⟩ = some (.string s) := cell_of_row _ g 0 _ _ _ hp1
  have f1 := frozen_of_row _ _ 0 _ _ hp1
  clear b1 hp1 c0
  go_upto_region 3 with fail
  have H2 := Lib.hid (show Below u.heap.size u (w1.setCell ⟨g, 0, none⟩ (.string B)) ∧ (w1.setCell ⟨g, 0, none⟩ (.string B)).heap[g]? = some (.cells #[.string B] 9 (0, 0)) ∧ KX (some g) w (w1.setCell ⟨g, 0, none⟩ (.string B)) from ⟨H1.out.1.setCell (p := ⟨g, 0, none⟩) HU.out.2.2.1 _, heap_setCell_same w1 g 0 _ _ _ H1.out.2.1, H1.out.2.2.trans (kx_setCell9 _ _ _ _)⟩)
  clear c1 f1 H1
  generalize w1.setCell ⟨g, 0, none⟩ (.string B) = w2 at *
  go_wp2_with fail
  refine (A1.out _ (HU.out.2.1.below (H2.out.1.mono (Nat.le_refl _)))).mono ?_
  rintro e w3 ⟨V, rfl, b3⟩
  have H3 := Lib.hid (And.intro (H2.out.1.trans (b3.mono H2.out.1.size)) (And.intro ((b3.block g (Array.getElem?_eq_some_iff.1 H2.out.2.1).1).trans H2.out.2.1) (H2.out.2.2.trans (KX.below (some g) b3))))
  clear b3 H2
  go_wp2
  go_ret
  exact ⟨rfl, H3.out.2.1, H3.out.1, H3.out.2.2⟩
/-- what Read keeps: the answer's block, the rest of the text, the numbers so far -/
structure RK (w : World) (g1 g2 : Nat) (r : ByteArray) (x v c z : Int) (W : World) : Prop where
  b : Below w.heap.size w W
  o1 : w.heap.size < g1
  o2 : g1 < g2
  z0 : W.heap[w.heap.size]? = some (.cells #[.int .i64 0, .int .i64 0, .int .i64 0, .int .i64 0] 30 (0, 0))
  zs : W.heap[g1]? = some (.cells #[.string r] 9 (0, 0))
  zp : W.heap[g2]? = some (.cells #[.int .i64 x, .int .i64 v, .int .i64 c, .int .i64 z] 30 (0, 0))
theorem RK.call {w : World} {g1 g2 : Nat} {r q : ByteArray} {x v c z : Int} {W V : World} (h : RK w g1 g2 r x v c z W) (hs : V.heap[g1]? = some (.cells #[.string q] 9 (0, 0))) (hb : Below w.heap.size w V) (k : KX (some g1) W V) : RK w g1 g2 q x v c z V :=
  ⟨hb, h.o1, h.o2, (k.block _ (Array.getElem?_eq_some_iff.1 h.z0).1 (by intro e; injection e with e; have := h.o1; omega)).trans h.z0, hs, (k.block _ (Array.getElem?_eq_some_iff.1 h.zp).1 (by intro e; injection e with e; have := h.o2; omega)).trans h.zp⟩
theorem RK.next {w : World} {g1 g2 : Nat} {r : ByteArray} {x v c z : Int} {W V : World} (h : RK w g1 g2 r x v c z W) (k : Below W.heap.size W V) : RK w g1 g2 r x v c z V :=
  ⟨h.b.trans (k.mono h.b.size), h.o1, h.o2, (k.block _ (Array.getElem?_eq_some_iff.1 h.z0).1).trans h.z0, (k.block _ (Array.getElem?_eq_some_iff.1 h.zs).1).trans h.zs, (k.block _ (Array.getElem?_eq_some_iff.1 h.zp).1).trans h.zp⟩
theorem RK.set {w : World} {g1 g2 : Nat} {r : ByteArray} {x v c z x' v' c' z' : Int} {W : World} (h : RK w g1 g2 r x v c z W) (j : Nat) (u : Value) (e : (#[Value.int .i64 x, .int .i64 v, .int .i64 c, .int .i64 z]).setIfInBounds j u = #[.int .i64 x', .int .i64 v', .int .i64 c', .int .i64 z']) : RK w g1 g2 r x' v' c' z' (W.setCell ⟨g2, j, none⟩ u) :=
  ⟨h.b.setCell (p := ⟨g2, j, none⟩) (by have := h.o1; have := h.o2; show _ ≤ g2; omega) _, h.o1, h.o2,
    (heap_setCell_other W _ _ _ (by have := h.o1; have := h.o2; show _ ≠ g2; omega)).trans h.z0, (heap_setCell_other W _ _ _ (by have := h.o2; show _ ≠ g2; omega)).trans h.zs, by rw [← e]; exact heap_setCell_same W g2 j _ _ u h.zp⟩
set_option maxRecDepth 100000 in
set_option maxHeartbeats 4000000 in
theorem read_core (w : World) (s r1 r2 r3 r4 T : ByteArray) (x v c z : Int)
    (N1 : Hid (∀ W g, w.heap.size ≤ g → Below w.heap.size w W → W.heap[g]? = some (.cells #[.string s] 9 (0, 0)) → Calls Tryz.prog 61 #[.pointer (some ⟨g, 0, none⟩)] W fun e w' => e = .returned (.int .i64 x) ∧ w'.heap[g]? = some (.cells #[.string r1] 9 (0, 0)) ∧ Below w.heap.size w w' ∧ KX (some g) W w'))
    (N2 : Hid (∀ W g, w.heap.size ≤ g → Below w.heap.size w W → W.heap[g]? = some (.cells #[.string r1] 9 (0, 0)) → Calls Tryz.prog 61 #[.pointer (some ⟨g, 0, none⟩)] W fun e w' => e = .returned (.int .i64 v) ∧ w'.heap[g]? = some (.cells #[.string r2] 9 (0, 0)) ∧ Below w.heap.size w w' ∧ KX (some g) W w'))
    (N3 : Hid (∀ W g, w.heap.size ≤ g → Below w.heap.size w W → W.heap[g]? = some (.cells #[.string r2] 9 (0, 0)) → Calls Tryz.prog 61 #[.pointer (some ⟨g, 0, none⟩)] W fun e w' => e = .returned (.int .i64 c) ∧ w'.heap[g]? = some (.cells #[.string r3] 9 (0, 0)) ∧ Below w.heap.size w w' ∧ KX (some g) W w'))
    (N4 : Hid (∀ W g, w.heap.size ≤ g → Below w.heap.size w W → W.heap[g]? = some (.cells #[.string r3] 9 (0, 0)) → Calls Tryz.prog 61 #[.pointer (some ⟨g, 0, none⟩)] W fun e w' => e = .returned (.int .i64 z) ∧ w'.heap[g]? = some (.cells #[.string r4] 9 (0, 0)) ∧ Below w.heap.size w w' ∧ KX (some g) W w'))
    (T1 : Hid (∀ W, Below w.heap.size w W → Calls Tryz.prog 28 #[.agg #[.int .i64 x, .int .i64 v, .int .i64 c, .int .i64 z]] W fun e w' => e = .returned (.string T) ∧ Below W.heap.size W w'))
    (a : Value) (ok : Bool) (E : Hid ((T = s → a = .agg #[.int .i64 x, .int .i64 v, .int .i64 c, .int .i64 z] ∧ ok = true) ∧ (¬ T = s → a = .agg #[.int .i64 0, .int .i64 0, .int .i64 0, .int .i64 0] ∧ ok = false))) :
    Calls Tryz.prog 29 #[.string s] w fun e w' => e = .returned (.tuple #[a, .bool ok]) ∧ Below w.heap.size w w' := by
  obtain ⟨W1, hW1⟩ : ∃ W, w.alloc (.cells #[.int .i64 0, .int .i64 0, .int .i64 0, .int .i64 0] 30) = W := ⟨_, rfl⟩
  have b1 : Below w.heap.size w W1 := by rw [← hW1]; exact (Below.refl _ _).alloc (Nat.le_refl _) _
  have z1 : W1.heap[w.heap.size]? = some (.cells #[.int .i64 0, .int .i64 0, .int .i64 0, .int .i64 0] 30 (0, 0)) := by rw [← hW1]; exact heap_alloc_new _ _
  have s1 : W1.heap.size = w.heap.size + 1 := by rw [← hW1]; simp
  have hi := infoPa x v c z
  have h0 := infoPa 0 0 0 0
  obtain ⟨W2, hW2⟩ : ∃ W, W1.alloc (.cells #[.string ⟨#[]⟩] 9) = W := ⟨_, rfl⟩
  have k2 : Below W1.heap.size W1 W2 := by rw [← hW2]; exact (Below.refl _ _).alloc (Nat.le_refl _) _
  have z2 : W2.heap[W1.heap.size]? = some (.cells #[.string ⟨#[]⟩] 9 (0, 0)) := by rw [← hW2]; exact heap_alloc_new _ _
  have s2 : W2.heap.size = W1.heap.size + 1 := by rw [← hW2]; simp
  have c2 : W2.cell? ⟨W1.heap.size, 0, none⟩ = some (.string ⟨#[]⟩) := cell_of_row _ _ 0 _ _ _ z2
  have f2 := frozen_of_row _ _ 0 _ _ z2
  have HA := Lib.hid (And.intro b1 (And.intro z1 (And.intro s1 (And.intro k2 (And.intro z2 s2)))))
  clear b1 z1 s1 k2 z2 s2
  go_enter Tryz.func29, Tryz.ntmps29
  go_upto_region 2 with fail
  have z3 := heap_setCell_same W2 W1.heap.size 0 _ _ (.string s) HA.out.2.2.2.2.1
  have b3 : Below w.heap.size w (W2.setCell ⟨W1.heap.size, 0, none⟩ (.string s)) := ((HA.out.1.trans (HA.out.2.2.2.1.mono HA.out.1.size))).setCell (p := ⟨W1.heap.size, 0, none⟩) (by have := HA.out.2.2.1; show _ ≤ W1.heap.size; omega) _
  have z4 : (W2.setCell ⟨W1.heap.size, 0, none⟩ (.string s)).heap[w.heap.size]? = some (.cells #[.int .i64 0, .int .i64 0, .int .i64 0, .int .i64 0] 30 (0, 0)) := by
    rw [heap_setCell_other _ _ _ _ (by have := HA.out.2.2.1; show _ ≠ W1.heap.size; omega), HA.out.2.2.2.1.block _ (by have := HA.out.2.2.1; omega)]; exact HA.out.2.1
  have s3 : (W2.setCell ⟨W1.heap.size, 0, none⟩ (.string s)).heap.size = w.heap.size + 2 := by have := HA.out; simp; omega
  have hg1 : W1.heap.size = w.heap.size + 1 := HA.out.2.2.1
  clear hW1 hW2 c2 f2 HA
  generalize W2.setCell ⟨W1.heap.size, 0, none⟩ (.string s) = W3 at *
  generalize W1.heap.size = g1 at *
  obtain ⟨W4, hW4⟩ : ∃ W, W3.alloc (.cells #[.int .i64 0, .int .i64 0, .int .i64 0, .int .i64 0] 30) = W := ⟨_, rfl⟩
  have k4 : Below W3.heap.size W3 W4 := by rw [← hW4]; exact (Below.refl _ _).alloc (Nat.le_refl _) _
  have K0 : Hid (RK w g1 W3.heap.size s 0 0 0 0 W4) := Lib.hid ⟨b3.trans (k4.mono b3.size), by omega, by omega, (k4.block _ (by omega)).trans z4, (k4.block _ (by omega)).trans z3, by rw [← hW4]; exact heap_alloc_new _ _⟩
  clear b3 z3 z4 k4 hg1 s3
  go_upto_region 4 with fail
  clear hW4
  generalize W3.heap.size = g2 at *
  go_wp2_with fail
  refine (N1.out _ _ (Nat.le_of_lt K0.out.o1) K0.out.b K0.out.zs).mono ?_
  rintro e w1 ⟨rfl, h1, h2, h3⟩
  have K1 := Lib.hid (K0.out.call h1 h2 h3)
  clear h1 h2 h3 K0
  have d := cell_of_row _ g2 0 _ _ _ K1.out.zp
  have f := frozen_of_row _ g2 0 _ _ K1.out.zp
  try dsimp only at d
  have K2 := Lib.hid (K1.out.set (x' := x) (v' := 0) (c' := 0) (z' := 0) 0 (.int .i64 x) rfl)
  go_upto_region 5 with fail
  clear d f K1
  generalize w1.setCell ⟨g2, 0, none⟩ (.int .i64 x) = w2 at *
  go_wp2_with fail
  refine (N2.out _ _ (Nat.le_of_lt K2.out.o1) K2.out.b K2.out.zs).mono ?_
  rintro e w1 ⟨rfl, h1, h2, h3⟩
  have K1 := Lib.hid (K2.out.call h1 h2 h3)
  clear h1 h2 h3 K2
  have d := cell_of_row _ g2 1 _ _ _ K1.out.zp
  have f := frozen_of_row _ g2 1 _ _ K1.out.zp
  try dsimp only at d
  have K2 := Lib.hid (K1.out.set (x' := x) (v' := v) (c' := 0) (z' := 0) 1 (.int .i64 v) rfl)
  go_upto_region 6 with fail
  clear d f K1
  generalize w1.setCell ⟨g2, 1, none⟩ (.int .i64 v) = w2 at *
  go_wp2_with fail
  refine (N3.out _ _ (Nat.le_of_lt K2.out.o1) K2.out.b K2.out.zs).mono ?_
  rintro e w1 ⟨rfl, h1, h2, h3⟩
  have K1 := Lib.hid (K2.out.call h1 h2 h3)
  clear h1 h2 h3 K2
  have d := cell_of_row _ g2 2 _ _ _ K1.out.zp
  have f := frozen_of_row _ g2 2 _ _ K1.out.zp
  try dsimp only at d
  have K2 := Lib.hid (K1.out.set (x' := x) (v' := v) (c' := c) (z' := 0) 2 (.int .i64 c) rfl)
  go_upto_region 7 with fail
  clear d f K1
  generalize w1.setCell ⟨g2, 2, none⟩ (.int .i64 c) = w2 at *
  go_wp2_with fail
  refine (N4.out _ _ (Nat.le_of_lt K2.out.o1) K2.out.b K2.out.zs).mono ?_
  rintro e w1 ⟨rfl, h1, h2, h3⟩
  have K1 := Lib.hid (K2.out.call h1 h2 h3)
  clear h1 h2 h3 K2
  have d := cell_of_row _ g2 3 _ _ _ K1.out.zp
  have f := frozen_of_row _ g2 3 _ _ K1.out.zp
  try dsimp only at d
  have K2 := Lib.hid (K1.out.set (x' := x) (v' := v) (c' := c) (z' := z) 3 (.int .i64 z) rfl)
  go_upto_region 8 with fail
  clear d f K1 N1 N2 N3 N4
  generalize w1.setCell ⟨g2, 3, none⟩ (.int .i64 z) = w2 at *
  have zp := K2.out.zp
  go_wp2_with (refine wpList_load_row rfl 30 (.tmp 6) rfl g2 rfl 30 #[.int .i64 x, .int .i64 v, .int .i64 c, .int .i64 z] (0, 0) _ zp Tryz.underlying30 rfl hi.out ?_)
  refine (T1.out _ K2.out.b).mono ?_
  rintro e w6 ⟨rfl, b6⟩
  have K6 := Lib.hid (K2.out.next b6)
  clear b6 K2 zp T1
  have z6 := K6.out.z0
  have zp := K6.out.zp
  by_cases hts : T = s
  · have E1 := Lib.hid (E.out.1 hts)
    clear E
    subst hts
    go_wp2_with (first | (refine wpList_load_row rfl 30 (.tmp 6) rfl g2 rfl 30 #[.int .i64 x, .int .i64 v, .int .i64 c, .int .i64 z] (0, 0) _ zp Tryz.underlying30 rfl hi.out ?_) | (refine wpList_store_row rfl 30 (.tmp 2) (.tmp 27) rfl w.heap.size #[.int .i64 x, .int .i64 v, .int .i64 c, .int .i64 z] rfl rfl 30 _ z6 hi.out (pa_size _ _ _ _ _ _ _ _) (pa_one _ _ _ _) ?_))
    refine bodyPost_ret (results_row_tmp rfl _ _ w.heap.size _ #[.int .i64 x, .int .i64 v, .int .i64 c, .int .i64 z] _ _ rfl (setRow_heap _ _ _ _ _ _ z6) Tryz.underlying30 rfl hi.out) rfl ?_
    exact ⟨by rw [E1.out.1, E1.out.2]; rfl, Below.setRow' K6.out.b (Nat.le_refl _) _⟩
  · have E1 := Lib.hid (E.out.2 hts)
    have hne2 : (T.toList == s.toList) = false := beq_eq_false_iff_ne.2 fun h => hts (ba_ext (by rw [← Lib.toList_data, ← Lib.toList_data]; exact h))
    clear E hts
    go_wp2_with (refine wpList_store_row rfl 30 (.tmp 2) (.tmp 28) rfl w.heap.size #[.int .i64 0, .int .i64 0, .int .i64 0, .int .i64 0] rfl rfl 30 _ z6 h0.out (pa_size _ _ _ _ _ _ _ _) (pa_one _ _ _ _) ?_)
    refine bodyPost_ret (results_row_tmp rfl _ _ w.heap.size _ #[.int .i64 0, .int .i64 0, .int .i64 0, .int .i64 0] _ _ rfl (setRow_heap _ _ _ _ _ _ z6) Tryz.underlying30 rfl h0.out) rfl ?_
    exact ⟨by rw [E1.out.1, E1.out.2]; rfl, Below.setRow' K6.out.b (Nat.le_refl _) _⟩
theorem Read9 (w : World) (s : ByteArray) (hs : s.size ≤ 281474976710656) (hT : TX w) :
    Calls Tryz.prog 29 #[.string s] w fun e w' => e = .returned (.tuple #[pav (pa9 s), .bool (okp s)]) ∧ Below w.heap.size w w' := by
  have q1 := (sp_size s).2
  have q2 := (sp_size (spB s)).2
  have q3 := (sp_size (spB (spB s))).2
  refine read_core w s (spB s) (spB (spB s)) (spB (spB (spB s))) (spB (spB (spB (spB s)))) (txp (rdp s)) (rdp s).1 (rdp s).2.1 (rdp s).2.2.1 (rdp s).2.2.2
    (Lib.hid fun W g hg hb hp => next_any w W g s hg hb hp hs hT) (Lib.hid fun W g hg hb hp => next_any w W g _ hg hb hp (by omega) hT) (Lib.hid fun W g hg hb hp => next_any w W g _ hg hb hp (by omega) hT) (Lib.hid fun W g hg hb hp => next_any w W g _ hg hb hp (by omega) hT)
    (Lib.hid fun W b => Text_any W (rdp s) _ rfl (rdp_i64 s) (hT.ts.below b)) _ _ (Lib.hid ⟨fun h => ?_, fun h => ?_⟩)
  · have k := okp_yes h
    exact ⟨by rw [pa9_yes k], k⟩
  · have k := okp_no h
    exact ⟨by rw [pa9_no k], k⟩
end Go.Proofs.YtbfplapjjeeceaaGreatDoor.B9
namespace Go.Proofs.YtbfplapjjeeceaaGreatDoor.B9
open Go.RowKit GM SH G4 E6 D7P DM
open W8 hiding i64 jn
/-- four numbers' cells, zero where none is yet -/
def ar4 (l : List Int) : Array Value := #[.int .i64 (l.getD 0 0), .int .i64 (l.getD 1 0), .int .i64 (l.getD 2 0), .int .i64 (l.getD 3 0)]
theorem ar4_set (l : List Int) (h : ¬ 3 < l.length) (x : Int) : (ar4 l).setIfInBounds l.length (.int .i64 x) = ar4 (l ++ [x]) := by
  match l, h with
  | [], _ => rfl
  | [_], _ => rfl
  | [_, _], _ => rfl
  | [_, _, _], _ => rfl
  | _ :: _ :: _ :: _ :: _, h => exact absurd (by simp) h
theorem ar4_get (l : List Int) (n : Nat) (h : n < 4) : ∃ u, (ar4 l)[n]? = some u := ⟨_, Array.getElem?_eq_getElem (by show n < 4; exact h)⟩
/-- a word ends at the text's end and at a blank -/
def wend (s : ByteArray) (k : Nat) : Prop := k = s.size ∨ s.data.toList[k]? = some 32
/-- where the loop stands: the words before are read, the rest of the text gives what the whole gives -/
structure WK (w : World) (s : ByteArray) (R : Option (List Int)) (g1 k : Nat) (wd : ByteArray) (l : List Int) (W : World) : Prop where
  b : Below w.heap.size w W
  o : w.heap.size < g1
  z0 : W.heap[w.heap.size]? = some (.cells #[.int .i64 0, .int .i64 0, .int .i64 0, .int .i64 0] 30 (0, 0))
  za : W.heap[g1]? = some (.cells (ar4 l) 104 (0, 0))
  n : l.length ≤ 4
  r : ∀ x ∈ l, i64 x
  z : wd.size ≤ k
  h : k ≤ s.size ∧ wds (s.data.toList.drop k) wd l = R ∨ k = s.size + 1 ∧ some l = R
theorem WK.next {w : World} {s : ByteArray} {R : Option (List Int)} {g1 k : Nat} {wd : ByteArray} {l : List Int} {W V : World} (h : WK w s R g1 k wd l W) (b : Below W.heap.size W V) : WK w s R g1 k wd l V :=
  ⟨h.b.trans (b.mono h.b.size), h.o, (b.block _ (Array.getElem?_eq_some_iff.1 h.z0).1).trans h.z0, (b.block _ (Array.getElem?_eq_some_iff.1 h.za).1).trans h.za, h.n, h.r, h.z, h.h⟩
theorem drop_at {s : ByteArray} {k : Nat} {c : UInt8} (hc : s.data.toList[k]? = some c) : s.data.toList.drop k = c :: s.data.toList.drop (k+1) := by
  obtain ⟨h1, h2⟩ := List.getElem?_eq_some_iff.1 hc
  rw [List.drop_eq_getElem_cons h1, h2]
theorem WK.byte {w : World} {s : ByteArray} {R : Option (List Int)} {g1 k : Nat} {wd : ByteArray} {l : List Int} {W : World} (h : WK w s R g1 k wd l W) (hk : k < s.size) (c : UInt8) (hc : s.data.toList[k]? = some c) (h32 : c ≠ 32) : WK w s R g1 (k+1) (wd ++ ⟨#[c]⟩) l W :=
  ⟨h.b, h.o, h.z0, h.za, h.n, h.r, by have := h.z; rw [ByteArray.size_append]; show _ + 1 ≤ _; omega, .inl ⟨hk, by
    rcases h.h with ⟨_, e⟩ | ⟨e, _⟩
    · rw [drop_at hc, wds_byte _ _ _ _ h32] at e; exact e
    · omega⟩⟩
theorem WK.stop {w : World} {s : ByteArray} {R : Option (List Int)} {g1 k : Nat} {wd : ByteArray} {l : List Int} {W : World} (h : WK w s R g1 k wd l W) (hk : k ≤ s.size) (he : wend s k) (hf : fin9 wd l = none) : R = none := by
  rcases h.h with ⟨_, e⟩ | ⟨e, _⟩
  · rw [← e]
    rcases he with rfl | he
    · rw [List.drop_eq_nil_of_le (by rw [size_list]; exact Nat.le_refl _), wds_end]; exact hf
    · rw [drop_at he]; exact wds_none _ _ _ hf
  · omega
theorem WK.word {w : World} {s : ByteArray} {R : Option (List Int)} {g1 k : Nat} {wd : ByteArray} {l m : List Int} {W : World} (h : WK w s R g1 k wd l W) (hk : k ≤ s.size) (he : wend s k) (hf : fin9 wd l = some m) : k + 1 ≤ s.size ∧ wds (s.data.toList.drop (k+1)) ⟨#[]⟩ m = R ∨ k + 1 = s.size + 1 ∧ some m = R := by
  rcases h.h with ⟨_, e⟩ | ⟨e, _⟩
  · rcases he with rfl | he
    · rw [List.drop_eq_nil_of_le (by rw [size_list]; exact Nat.le_refl _), wds_end] at e
      exact .inr ⟨rfl, hf.symm.trans e⟩
    · rw [drop_at he, wds_some _ _ _ _ hf] at e
      have := (List.getElem?_eq_some_iff.1 he).1
      rw [size_list] at this
      exact .inl ⟨this, e⟩
  · omega
/-- a number more -/
theorem WK.store {w : World} {s : ByteArray} {R : Option (List Int)} {g1 k : Nat} {wd : ByteArray} {l : List Int} {W : World} (h : WK w s R g1 k wd l W) (hl : ¬ 3 < l.length) (hx : i64 (wvl wd)) (e : k + 1 ≤ s.size ∧ wds (s.data.toList.drop (k+1)) ⟨#[]⟩ (l ++ [wvl wd]) = R ∨ k + 1 = s.size + 1 ∧ some (l ++ [wvl wd]) = R) :
    WK w s R g1 (k+1) ⟨#[]⟩ (l ++ [wvl wd]) (W.setCell ⟨g1, l.length, none⟩ (.int .i64 (wvl wd))) :=
  ⟨h.b.setCell (p := ⟨g1, l.length, none⟩) (Nat.le_of_lt h.o) _, h.o, (heap_setCell_other W _ _ _ (by have := h.o; show _ ≠ g1; omega)).trans h.z0, by rw [← ar4_set l hl]; exact heap_setCell_same W g1 _ _ _ _ h.za,
    by rw [List.length_append]; show _ + 1 ≤ _; omega, fun x hm => by
      rcases List.mem_append.1 hm with hm | hm
      · exact h.r x hm
      · rw [List.mem_singleton.1 hm]; exact hx, Nat.zero_le _, e⟩
theorem rdv_form (t : ByteArray) : ∃ a b, rdv t = pfv a b ∧ (rdOk t = true → a = nmA t) := by
  unfold rdv
  by_cases h : rdOk t = true
  · rw [if_pos h]; exact ⟨_, _, rfl, fun _ => rfl⟩
  · rw [if_neg h]; exact ⟨_, _, rfl, fun k => absurd k h⟩
set_option maxRecDepth 100000 in
set_option maxHeartbeats 8000000 in
theorem rread_core (w : World) (s : ByteArray) (hs : s.size ≤ 281474976710000) (a : Value) (ok : Bool) (R : Option (List Int)) (hR : wds s.data.toList ⟨#[]⟩ [] = R)
    (RD : Hid (∀ W t, t.size ≤ 281474976710656 → Calls Tryz.prog 64 #[.string t] W fun e w' => e = .returned (.tuple #[rdv t, .bool (rdOk t)]) ∧ Below W.heap.size W w'))
    (T9 : Hid (∀ W x v c z, i64 x → i64 v → i64 c → i64 z → Below w.heap.size w W → Calls Tryz.prog 30 #[.agg #[.int .i64 x, .int .i64 v, .int .i64 c, .int .i64 z]] W fun e w' => e = .returned (.string (txp (x, v, c, z))) ∧ Below W.heap.size W w'))
    (E0 : Hid ((R = none ∨ (∃ l, R = some l ∧ l.length ≠ 4) ∨ ∃ x v c z, R = some [x, v, c, z] ∧ ¬ txp (x, v, c, z) = s) → a = .agg #[.int .i64 0, .int .i64 0, .int .i64 0, .int .i64 0] ∧ ok = false))
    (E1 : Hid (∀ x v c z, i64 x → i64 v → i64 c → i64 z → R = some [x, v, c, z] → txp (x, v, c, z) = s → a = .agg #[.int .i64 x, .int .i64 v, .int .i64 c, .int .i64 z] ∧ ok = true)) :
    Calls Tryz.prog 31 #[.string s] w fun e w' => e = .returned (.tuple #[a, .bool ok]) ∧ Below w.heap.size w w' := by
  obtain ⟨W1, hW1⟩ : ∃ W, w.alloc (.cells #[.int .i64 0, .int .i64 0, .int .i64 0, .int .i64 0] 30) = W := ⟨_, rfl⟩
  have b1 : Below w.heap.size w W1 := by rw [← hW1]; exact (Below.refl _ _).alloc (Nat.le_refl _) _
  have z1 : W1.heap[w.heap.size]? = some (.cells #[.int .i64 0, .int .i64 0, .int .i64 0, .int .i64 0] 30 (0, 0)) := by rw [← hW1]; exact heap_alloc_new _ _
  have s1 : W1.heap.size = w.heap.size + 1 := by rw [← hW1]; simp
  obtain ⟨W2, hW2⟩ : ∃ W, W1.alloc (.cells #[.int .i64 0, .int .i64 0, .int .i64 0, .int .i64 0] 104) = W := ⟨_, rfl⟩
  have k2 : Below W1.heap.size W1 W2 := by rw [← hW2]; exact (Below.refl _ _).alloc (Nat.le_refl _) _
  have K0 : Hid (WK w s R W1.heap.size 0 ⟨#[]⟩ [] W2) := Lib.hid ⟨b1.trans (k2.mono b1.size), by omega, (k2.block _ (by omega)).trans z1, by rw [← hW2]; exact heap_alloc_new _ _, Nat.zero_le _, fun x h => (by cases h), Nat.zero_le _, .inl ⟨Nat.zero_le _, by rw [List.drop_zero]; exact hR⟩⟩
  have h0 := infoPa 0 0 0 0
  have HS := Lib.hid (And.intro hs hR)
  clear b1 z1 s1 k2 hs hR
  go_enter Tryz.func31, Tryz.ntmps31
  go_upto_region 2 with fail
  clear hW1 hW2
  generalize W1.heap.size = g1 at *
  go_wp2_with fail
  go_loopw [5, 6, 7] (fun n d i wr => ∃ (k : Nat) (wd : ByteArray) (l : List Int), k ≤ s.size + 1 ∧ n = .int .i64 (l.length : Int) ∧ d = .string wd ∧ i = .int .i64 (k : Int) ∧ Hid (WK w s R g1 k wd l wr)) (fun _ _ i _ => s.size + 1 - (match i with | .int _ i => i.toNat | _ => 0))
  case atStart => exact ⟨0, ⟨#[]⟩, [], Nat.zero_le _, rfl, rfl, rfl, K0⟩
  case round =>
    obtain ⟨k, wd, l, hk, rfl, rfl, rfl, hK⟩ := hrel
    obtain ⟨N, hN⟩ : ∃ n, l.length = n := ⟨_, rfl⟩
    by_cases hle : k ≤ s.size
    · by_cases hby : ∃ c, s.data.toList[k]? = some c ∧ c ≠ 32
      · obtain ⟨c, hg, h32⟩ := hby
        have hlt : k < s.size := by have := (List.getElem?_eq_some_iff.1 hg).1; rwa [size_list] at this
        have hc : s[k]'hlt = c := by
          have h := (List.getElem?_eq_some_iff.1 hg).2
          rw [← h]; rfl
        have e1 : ((c.toNat : Int) != 32) = true := bne_iff_ne.2 fun h => h32 (UInt8.toNat_inj.1 (by
          show c.toNat = 32
          omega))
        have hE : s.extract k (k + 1) = ⟨#[c]⟩ := ba_ext (by
          rw [ext_list, drop_at hg]; simp)
        have hL : (9223372036854775807 < wd.size + 1) = False := eq_false (by have := hK.out.z; have := HS.out.1; omega)
        have hbk : (k : Int) + 1 ≤ 281474976710656 := by have := HS.out.1; omega
        have HK := Lib.hid (hK.out.byte hlt c hg h32)
        have HE := Lib.hid e1
        clear hg h32 e1
        rw [hN]
        go_upto_region 7 with fail
        go_cut [26] from 17 to 27 (fun b wx => b = .bool true ∧ wx = wr)
        case first =>
          go_wp2_with fail
          go_meet
          exact ⟨by rw [HE.out], rfl⟩
        case rest =>
        obtain ⟨rfl, rfl⟩ := hcut
        go_wp2
        exact ⟨⟨k + 1, _, l, by omega, by rw [hN], rfl, by simp, HK⟩, by simp; omega⟩
      · have hee : wend s k := by
          by_cases h : k = s.size
          · exact .inl h
          · have hlt : k < s.data.toList.length := by rw [size_list]; omega
            by_cases h2 : s.data.toList[k]'hlt = 32
            · exact .inr (by rw [List.getElem?_eq_getElem hlt, h2])
            · exact absurd ⟨_, List.getElem?_eq_getElem hlt, h2⟩ hby
        clear hby
        have RDk := fun W => RD.out W (wd ++ ⟨#[46, 48]⟩) (by rw [ByteArray.size_append]; have := hK.out.z; have := HS.out.1; show _ + 2 ≤ _; omega)
        obtain ⟨pa, pb, hpv, hpa⟩ := rdv_form (wd ++ ⟨#[46, 48]⟩)
        obtain ⟨q, hq⟩ : ∃ q, rdOk (wd ++ ⟨#[46, 48]⟩) = q := ⟨_, rfl⟩
        rw [hpv, hq] at RDk
        replace RDk := Lib.hid RDk
        replace hq := Lib.hid hq
        replace hpa := Lib.hid hpa
        clear hpv
        have hL2 : (9223372036854775807 < wd.size + 2) = False := eq_false (by have := hK.out.z; have := HS.out.1; omega)
        have hbk : (k : Int) + 1 ≤ 281474976710656 := by have := HS.out.1; omega
        rw [hN]
        have he := Lib.hid hee
        rcases hee with hes | he32
        · have e1 : ¬ k < s.size := by omega
          clear hes
          go_wp2_with fail
          clear e1
          refine (RDk.out _).mono ?_
          rintro e w5 ⟨rfl, b5⟩
          have K5 := Lib.hid (hK.out.next b5)
          clear b5 hK RDk
          have m7 := PM.new w5 0 0
          have hi7 := infoP pa pb
          go_upto_region 10 with (refine wpList_store_row rfl 28 (.tmp 8) (.tmp 38) rfl w5.heap.size #[.int .i64 pa, .int .i64 pb] rfl rfl 28 _ m7 hi7.out (two_size _ _ _ _) (pf_one _ _) ?_)
          have b6 : Below w5.heap.size w5 ((w5.alloc (.cells #[.int .i64 0, .int .i64 0] 28)).setRow w5.heap.size #[.int .i64 pa, .int .i64 pb]) := Below.setRow' ((Below.refl w5.heap.size w5).alloc (Nat.le_refl _) _) (Nat.le_refl _) _
          have m6 : PM ((w5.alloc (.cells #[.int .i64 0, .int .i64 0] 28)).setRow w5.heap.size #[.int .i64 pa, .int .i64 pb]) w5.heap.size pa pb := setRow_heap _ _ _ _ _ _ m7
          have K6 := Lib.hid (K5.out.next b6)
          clear b6 K5 m7 hi7
          try change Code.wp _ _ _ _ ((w5.alloc (.cells #[.int .i64 0, .int .i64 0] 28)).setRow w5.heap.size #[.int .i64 pa, .int .i64 pb])
          generalize (w5.alloc (.cells #[.int .i64 0, .int .i64 0] 28)).setRow w5.heap.size #[.int .i64 pa, .int .i64 pb] = w6 at *
          generalize w5.heap.size = g5 at *
          have z8 := K6.out.z0
          cases q with
          | false =>
            have F := Lib.hid (E0.out (.inl (K6.out.stop hle he.out (fin9_bad l (show wok wd = false from hq.out)))))
            clear E0 E1
            go_wp2_with (refine wpList_store_row rfl 30 (.tmp 2) (.tmp 46) rfl w.heap.size #[.int .i64 0, .int .i64 0, .int .i64 0, .int .i64 0] rfl rfl 30 _ z8 h0.out (pa_size _ _ _ _ _ _ _ _) (pa_one _ _ _ _) ?_)
            refine bodyPost_ret (results_row_tmp rfl _ _ w.heap.size _ #[.int .i64 0, .int .i64 0, .int .i64 0, .int .i64 0] _ _ rfl (setRow_heap _ _ _ _ _ _ z8) Tryz.underlying30 rfl h0.out) rfl ?_
            exact ⟨by rw [F.out.1, F.out.2]; rfl, Below.setRow' K6.out.b (Nat.le_refl _) _⟩
          | true =>
            by_cases hl : 3 < N
            · have F := Lib.hid (E0.out (.inl (K6.out.stop hle he.out (fin9_full wd (by rw [hN]; exact hl)))))
              have e2 : decide ((3 : Int) < (N : Int)) = true := decide_eq_true (by omega)
              clear E0 E1
              go_wp2_with (refine wpList_store_row rfl 30 (.tmp 2) (.tmp 46) rfl w.heap.size #[.int .i64 0, .int .i64 0, .int .i64 0, .int .i64 0] rfl rfl 30 _ z8 h0.out (pa_size _ _ _ _ _ _ _ _) (pa_one _ _ _ _) ?_)
              refine bodyPost_ret (results_row_tmp rfl _ _ w.heap.size _ #[.int .i64 0, .int .i64 0, .int .i64 0, .int .i64 0] _ _ rfl (setRow_heap _ _ _ _ _ _ z8) Tryz.underlying30 rfl h0.out) rfl ?_
              exact ⟨by rw [F.out.1, F.out.2]; rfl, Below.setRow' K6.out.b (Nat.le_refl _) _⟩
            · have e2 : decide ((3 : Int) < (N : Int)) = false := decide_eq_false (by omega)
              have hl' : ¬ 3 < l.length := by rw [hN]; exact hl
              have hx : wvl wd = pa := (hpa.out hq.out).symm
              have K7 := K6.out.store hl' (wvl_i64 wd) (K6.out.word hle he.out (fin9_yes (show wok wd = true from hq.out) hl'))
              rw [hN, hx] at K7
              replace K7 := Lib.hid K7
              obtain ⟨u4, hu4⟩ := ar4_get l N (by omega)
              have d := (cell_of_row _ g1 N _ _ _ K6.out.za).trans hu4
              have f := frozen_of_row _ g1 N _ _ K6.out.za
              have dm := m6.c0
              have n0 : (0 : Int) ≤ (N : Int) := by omega
              have n1 : (N : Int) < 4 := by omega
              have HN := Lib.hid hN
              clear hl hl' hx hu4 z8 m6 K6 hN
              go_upto_region 13 with fail
              clear d f dm
              generalize w6.setCell ⟨g1, N, none⟩ (.int .i64 pa) = w8 at *
              go_wp2
              exact ⟨⟨k + 1, ⟨#[]⟩, l ++ [pa], by omega, by rw [List.length_append, HN.out]; rfl, rfl, by simp, K7⟩, by simp; omega⟩
        · have hlt : k < s.size := by have := (List.getElem?_eq_some_iff.1 he32).1; rwa [size_list] at this
          have hc : s[k]'hlt = 32 := by
            have h := (List.getElem?_eq_some_iff.1 he32).2
            rw [← h]; rfl
          clear he32
          go_wp2_with fail
          clear hc
          refine (RDk.out _).mono ?_
          rintro e w5 ⟨rfl, b5⟩
          have K5 := Lib.hid (hK.out.next b5)
          clear b5 hK RDk
          have m7 := PM.new w5 0 0
          have hi7 := infoP pa pb
          go_upto_region 10 with (refine wpList_store_row rfl 28 (.tmp 8) (.tmp 38) rfl w5.heap.size #[.int .i64 pa, .int .i64 pb] rfl rfl 28 _ m7 hi7.out (two_size _ _ _ _) (pf_one _ _) ?_)
          have b6 : Below w5.heap.size w5 ((w5.alloc (.cells #[.int .i64 0, .int .i64 0] 28)).setRow w5.heap.size #[.int .i64 pa, .int .i64 pb]) := Below.setRow' ((Below.refl w5.heap.size w5).alloc (Nat.le_refl _) _) (Nat.le_refl _) _
          have m6 : PM ((w5.alloc (.cells #[.int .i64 0, .int .i64 0] 28)).setRow w5.heap.size #[.int .i64 pa, .int .i64 pb]) w5.heap.size pa pb := setRow_heap _ _ _ _ _ _ m7
          have K6 := Lib.hid (K5.out.next b6)
          clear b6 K5 m7 hi7
          try change Code.wp _ _ _ _ ((w5.alloc (.cells #[.int .i64 0, .int .i64 0] 28)).setRow w5.heap.size #[.int .i64 pa, .int .i64 pb])
          generalize (w5.alloc (.cells #[.int .i64 0, .int .i64 0] 28)).setRow w5.heap.size #[.int .i64 pa, .int .i64 pb] = w6 at *
          generalize w5.heap.size = g5 at *
          have z8 := K6.out.z0
          cases q with
          | false =>
            have F := Lib.hid (E0.out (.inl (K6.out.stop hle he.out (fin9_bad l (show wok wd = false from hq.out)))))
            clear E0 E1
            go_wp2_with (refine wpList_store_row rfl 30 (.tmp 2) (.tmp 46) rfl w.heap.size #[.int .i64 0, .int .i64 0, .int .i64 0, .int .i64 0] rfl rfl 30 _ z8 h0.out (pa_size _ _ _ _ _ _ _ _) (pa_one _ _ _ _) ?_)
            refine bodyPost_ret (results_row_tmp rfl _ _ w.heap.size _ #[.int .i64 0, .int .i64 0, .int .i64 0, .int .i64 0] _ _ rfl (setRow_heap _ _ _ _ _ _ z8) Tryz.underlying30 rfl h0.out) rfl ?_
            exact ⟨by rw [F.out.1, F.out.2]; rfl, Below.setRow' K6.out.b (Nat.le_refl _) _⟩
          | true =>
            by_cases hl : 3 < N
            · have F := Lib.hid (E0.out (.inl (K6.out.stop hle he.out (fin9_full wd (by rw [hN]; exact hl)))))
              have e2 : decide ((3 : Int) < (N : Int)) = true := decide_eq_true (by omega)
              clear E0 E1
              go_wp2_with (refine wpList_store_row rfl 30 (.tmp 2) (.tmp 46) rfl w.heap.size #[.int .i64 0, .int .i64 0, .int .i64 0, .int .i64 0] rfl rfl 30 _ z8 h0.out (pa_size _ _ _ _ _ _ _ _) (pa_one _ _ _ _) ?_)
              refine bodyPost_ret (results_row_tmp rfl _ _ w.heap.size _ #[.int .i64 0, .int .i64 0, .int .i64 0, .int .i64 0] _ _ rfl (setRow_heap _ _ _ _ _ _ z8) Tryz.underlying30 rfl h0.out) rfl ?_
              exact ⟨by rw [F.out.1, F.out.2]; rfl, Below.setRow' K6.out.b (Nat.le_refl _) _⟩
            · have e2 : decide ((3 : Int) < (N : Int)) = false := decide_eq_false (by omega)
              have hl' : ¬ 3 < l.length := by rw [hN]; exact hl
              have hx : wvl wd = pa := (hpa.out hq.out).symm
              have K7 := K6.out.store hl' (wvl_i64 wd) (K6.out.word hle he.out (fin9_yes (show wok wd = true from hq.out) hl'))
              rw [hN, hx] at K7
              replace K7 := Lib.hid K7
              obtain ⟨u4, hu4⟩ := ar4_get l N (by omega)
              have d := (cell_of_row _ g1 N _ _ _ K6.out.za).trans hu4
              have f := frozen_of_row _ g1 N _ _ K6.out.za
              have dm := m6.c0
              have n0 : (0 : Int) ≤ (N : Int) := by omega
              have n1 : (N : Int) < 4 := by omega
              have HN := Lib.hid hN
              clear hl hl' hx hu4 z8 m6 K6 hN
              go_upto_region 13 with fail
              clear d f dm
              generalize w6.setCell ⟨g1, N, none⟩ (.int .i64 pa) = w8 at *
              go_wp2
              exact ⟨⟨k + 1, ⟨#[]⟩, l ++ [pa], by omega, by rw [List.length_append, HN.out]; rfl, rfl, by simp, K7⟩, by simp; omega⟩
    · have hRl : R = some l := by
        rcases hK.out.h with ⟨h, _⟩ | ⟨_, h⟩
        · exact absurd h hle
        · exact h.symm
      have H4 : l.length = 4 → l = [l.getD 0 0, l.getD 1 0, l.getD 2 0, l.getD 3 0] := fun h => by
        match l, h with
        | [_, _, _, _], _ => rfl
      have d0 : wr.cell? ⟨g1, 0, none⟩ = some (.int .i64 (l.getD 0 0)) := cell_of_row _ g1 0 _ _ _ hK.out.za
      have d1 : wr.cell? ⟨g1, 1, none⟩ = some (.int .i64 (l.getD 1 0)) := cell_of_row _ g1 1 _ _ _ hK.out.za
      have d2 : wr.cell? ⟨g1, 2, none⟩ = some (.int .i64 (l.getD 2 0)) := cell_of_row _ g1 2 _ _ _ hK.out.za
      have d3 : wr.cell? ⟨g1, 3, none⟩ = some (.int .i64 (l.getD 3 0)) := cell_of_row _ g1 3 _ _ _ hK.out.za
      have HX := Lib.hid (And.intro H4 (And.intro hRl (And.intro hK.out.r hN)))
      have HB := Lib.hid (And.intro hK.out.b hK.out.z0)
      rw [hN]
      clear H4 hRl hK hN
      generalize l.getD 0 0 = x at *
      generalize l.getD 1 0 = v at *
      generalize l.getD 2 0 = c at *
      generalize l.getD 3 0 = z at *
      have hi := infoPa x v c z
      have m7 : (wr.alloc (.cells #[.int .i64 0, .int .i64 0, .int .i64 0, .int .i64 0] 30)).heap[wr.heap.size]? = some (.cells #[.int .i64 0, .int .i64 0, .int .i64 0, .int .i64 0] 30 (0, 0)) := heap_alloc_new _ _
      go_upto_region 16 with (refine wpList_store_row rfl 30 (.tmp 10) (.tmp 62) rfl wr.heap.size #[.int .i64 x, .int .i64 v, .int .i64 c, .int .i64 z] rfl rfl 30 _ m7 hi.out (pa_size _ _ _ _ _ _ _ _) (pa_one _ _ _ _) ?_)
      clear d0 d1 d2 d3
      have b6 : Below wr.heap.size wr ((wr.alloc (.cells #[.int .i64 0, .int .i64 0, .int .i64 0, .int .i64 0] 30)).setRow wr.heap.size #[.int .i64 x, .int .i64 v, .int .i64 c, .int .i64 z]) := Below.setRow' ((Below.refl wr.heap.size wr).alloc (Nat.le_refl _) _) (Nat.le_refl _) _
      have m6 : ((wr.alloc (.cells #[.int .i64 0, .int .i64 0, .int .i64 0, .int .i64 0] 30)).setRow wr.heap.size #[.int .i64 x, .int .i64 v, .int .i64 c, .int .i64 z]).heap[wr.heap.size]? = some (.cells #[.int .i64 x, .int .i64 v, .int .i64 c, .int .i64 z] 30 (0, 0)) := setRow_heap _ _ _ _ _ _ m7
      have KB := Lib.hid (And.intro (HB.out.1.trans (b6.mono HB.out.1.size)) ((b6.block _ (Array.getElem?_eq_some_iff.1 HB.out.2).1).trans HB.out.2))
      clear m7 b6 HB
      try change Code.wp _ _ _ _ ((wr.alloc (.cells #[.int .i64 0, .int .i64 0, .int .i64 0, .int .i64 0] 30)).setRow wr.heap.size #[.int .i64 x, .int .i64 v, .int .i64 c, .int .i64 z])
      generalize ((wr.alloc (.cells #[.int .i64 0, .int .i64 0, .int .i64 0, .int .i64 0] 30)).setRow wr.heap.size #[.int .i64 x, .int .i64 v, .int .i64 c, .int .i64 z]) = w6 at *
      generalize wr.heap.size = g5 at *
      have z8 := KB.out.2
      by_cases h4 : N = 4
      · obtain rfl := h4
        have hl := HX.out.1 HX.out.2.2.2
        have hx : i64 x := HX.out.2.2.1 x (by rw [hl]; simp)
        have hv : i64 v := HX.out.2.2.1 v (by rw [hl]; simp)
        have hc : i64 c := HX.out.2.2.1 c (by rw [hl]; simp)
        have hz : i64 z := HX.out.2.2.1 z (by rw [hl]; simp)
        have hRv : R = some [x, v, c, z] := HX.out.2.1.trans (by rw [← hl])
        have T1 := Lib.hid fun W => T9.out W x v c z hx hv hc hz
        have F0 := Lib.hid fun h => E0.out (.inr (.inr ⟨x, v, c, z, hRv, h⟩))
        have F1 := Lib.hid (E1.out x v c z hx hv hc hz hRv)
        clear hl hx hv hc hz hRv E0 E1 T9 HX
        generalize txp (x, v, c, z) = T at *
        have y0 : w6.cell? ⟨g5, 0, none⟩ = some (.int .i64 x) := cell_of_row _ g5 0 _ _ _ m6
        have y1 : w6.cell? ⟨g5, 1, none⟩ = some (.int .i64 v) := cell_of_row _ g5 1 _ _ _ m6
        have y2 : w6.cell? ⟨g5, 2, none⟩ = some (.int .i64 c) := cell_of_row _ g5 2 _ _ _ m6
        have y3 : w6.cell? ⟨g5, 3, none⟩ = some (.int .i64 z) := cell_of_row _ g5 3 _ _ _ m6
        go_wp2_with fail
        clear y0 y1 y2 y3
        refine (T1.out _ KB.out.1).mono ?_
        rintro e w7 ⟨rfl, b7⟩
        have z9 := (b7.block _ (Array.getElem?_eq_some_iff.1 z8).1).trans z8
        have m9 := (b7.block _ (Array.getElem?_eq_some_iff.1 m6).1).trans m6
        have KD := Lib.hid (KB.out.1.trans (b7.mono KB.out.1.size))
        clear b7 KB z8 m6 T1
        by_cases hts : T = s
        · have F := Lib.hid (F1.out hts)
          clear F0 F1
          subst hts
          go_wp2_with (first | (refine wpList_load_row rfl 30 (.tmp 10) rfl g5 rfl 30 #[.int .i64 x, .int .i64 v, .int .i64 c, .int .i64 z] (0, 0) _ m9 Tryz.underlying30 rfl hi.out ?_) | (refine wpList_store_row rfl 30 (.tmp 2) (.tmp 72) rfl w.heap.size #[.int .i64 x, .int .i64 v, .int .i64 c, .int .i64 z] rfl rfl 30 _ z9 hi.out (pa_size _ _ _ _ _ _ _ _) (pa_one _ _ _ _) ?_))
          refine bodyPost_ret (results_row_tmp rfl _ _ w.heap.size _ #[.int .i64 x, .int .i64 v, .int .i64 c, .int .i64 z] _ _ rfl (setRow_heap _ _ _ _ _ _ z9) Tryz.underlying30 rfl hi.out) rfl ?_
          exact ⟨by rw [F.out.1, F.out.2]; rfl, Below.setRow' KD.out (Nat.le_refl _) _⟩
        · have F := Lib.hid (F0.out hts)
          have hne2 : (T.toList == s.toList) = false := beq_eq_false_iff_ne.2 fun h => hts (ba_ext (by rw [← Lib.toList_data, ← Lib.toList_data]; exact h))
          clear F0 F1 hts
          go_wp2_with (refine wpList_store_row rfl 30 (.tmp 2) (.tmp 71) rfl w.heap.size #[.int .i64 0, .int .i64 0, .int .i64 0, .int .i64 0] rfl rfl 30 _ z9 h0.out (pa_size _ _ _ _ _ _ _ _) (pa_one _ _ _ _) ?_)
          refine bodyPost_ret (results_row_tmp rfl _ _ w.heap.size _ #[.int .i64 0, .int .i64 0, .int .i64 0, .int .i64 0] _ _ rfl (setRow_heap _ _ _ _ _ _ z9) Tryz.underlying30 rfl h0.out) rfl ?_
          exact ⟨by rw [F.out.1, F.out.2]; rfl, Below.setRow' KD.out (Nat.le_refl _) _⟩
      · have F := Lib.hid (E0.out (.inr (.inl ⟨l, HX.out.2.1, by rw [HX.out.2.2.2]; exact h4⟩)))
        have e4 : ((N : Int) != 4) = true := bne_iff_ne.2 (by omega)
        clear E0 E1 T9 h4
        go_wp2_with (refine wpList_store_row rfl 30 (.tmp 2) (.tmp 71) rfl w.heap.size #[.int .i64 0, .int .i64 0, .int .i64 0, .int .i64 0] rfl rfl 30 _ z8 h0.out (pa_size _ _ _ _ _ _ _ _) (pa_one _ _ _ _) ?_)
        refine bodyPost_ret (results_row_tmp rfl _ _ w.heap.size _ #[.int .i64 0, .int .i64 0, .int .i64 0, .int .i64 0] _ _ rfl (setRow_heap _ _ _ _ _ _ z8) Tryz.underlying30 rfl h0.out) rfl ?_
        exact ⟨by rw [F.out.1, F.out.2]; rfl, Below.setRow' KB.out.1 (Nat.le_refl _) _⟩
theorem refRead9 (w : World) (s : ByteArray) (hs : s.size ≤ 281474976710000) (hT : TS w) :
    Calls Tryz.prog 31 #[.string s] w fun e w' => e = .returned (.tuple #[pav (pa9 s), .bool (okp s)]) ∧ Below w.heap.size w w' := by
  have no : okp s = false → pav (pa9 s) = .agg #[.int .i64 0, .int .i64 0, .int .i64 0, .int .i64 0] ∧ okp s = false := fun h => ⟨by rw [pa9_no h], h⟩
  refine rread_core w s hs _ _ _ rfl (Lib.hid fun W t ht => refRead_any W t ht) (Lib.hid fun W x v c z hx hv hc hz b => refText9_any W (x, v, c, z) _ rfl ⟨hx, hv, hc, hz⟩ (hT.below b)) (Lib.hid ?_) (Lib.hid ?_)
  · rintro (h | ⟨l, h, hl⟩ | ⟨x, v, c, z, h, ht⟩)
    · exact no (ref_none h)
    · exact no (ref_few h hl)
    · exact no (ref_other h ht)
  · intro x v c z hx hv hc hz h ht
    obtain ⟨k, e⟩ := okp_txp s (x, v, c, z) ⟨hx, hv, hc, hz⟩ ht
    exact ⟨by rw [e], k⟩
end Go.Proofs.YtbfplapjjeeceaaGreatDoor.B9
namespace Go.Proofs.YtbfplapjjeeceaaGreatDoor.B9
open Go.RowKit GM SH G4 E6 D7P DM
open W8 hiding i64 jn
/-- a partial lies in a block of its own -/
def P4 (w : World) (p : Nat) (a b c d : Int) : Prop := w.heap[p]? = some (.cells #[.int .i64 a, .int .i64 b, .int .i64 c, .int .i64 d] 30 (0, 0))
theorem P4.new (w : World) (a b c d : Int) : P4 (w.alloc (.cells #[.int .i64 a, .int .i64 b, .int .i64 c, .int .i64 d] 30)) w.heap.size a b c d := heap_alloc_new _ _
theorem P4.next {w w' : World} {p : Nat} {a b c d : Int} (h : P4 w p a b c d) (k : Below w.heap.size w w') : P4 w' p a b c d := (k.block _ (Array.getElem?_eq_some_iff.1 h).1).trans h
theorem P4.alloc {w : World} {p : Nat} {a b c d : Int} (h : P4 w p a b c d) (o : Obj) : P4 (w.alloc o) p a b c d := h.next ((Below.refl _ w).alloc (Nat.le_refl _) o)
theorem P4.c0 {w : World} {p : Nat} {a b c d : Int} (h : P4 w p a b c d) : w.cell? ⟨p, 0, none⟩ = some (.int .i64 a) := cell_of_row _ p 0 _ _ _ h
theorem P4.c1 {w : World} {p : Nat} {a b c d : Int} (h : P4 w p a b c d) : w.cell? ⟨p, 1, none⟩ = some (.int .i64 b) := cell_of_row _ p 1 _ _ _ h
theorem P4.c2 {w : World} {p : Nat} {a b c d : Int} (h : P4 w p a b c d) : w.cell? ⟨p, 2, none⟩ = some (.int .i64 c) := cell_of_row _ p 2 _ _ _ h
theorem P4.c3 {w : World} {p : Nat} {a b c d : Int} (h : P4 w p a b c d) : w.cell? ⟨p, 3, none⟩ = some (.int .i64 d) := cell_of_row _ p 3 _ _ _ h
theorem bytes_free (w : World) (s : ByteArray) : ∃ cap w1, (convert 9 33 (.string s)).run Tryz.prog w = .ok (.slice (some ⟨w.heap.size, 0, none⟩) s.size cap) w1 ∧ Below w.heap.size w w1 ∧ w1.heap.size = w.heap.size + 1 ∧ s.size ≤ cap ∧
    (∀ j (h : j < s.size), w1.cell? ⟨w.heap.size, j, none⟩ = some (.int .u8 ((s[j]'h).toNat : Nat))) ∧ (∀ j, j < s.size → w1.frozen? ⟨w.heap.size, j, none⟩ = false) := by
  have h := run_bytes_of_string w 9 33 5 s Tryz.underlying9 Tryz.underlying33 Tryz.underlying5
  obtain ⟨cap, hcap⟩ : ∃ cap, cap = grownCap w s.size 0 5 := ⟨_, rfl⟩
  rw [← hcap] at h
  have hh : (w.drew.alloc (.cells (bytesRow s cap) 5 ((bytesRow s cap).size, (bytesRow s cap).size + 1))).heap[w.heap.size]? = some (.cells (bytesRow s cap) 5 ((bytesRow s cap).size, (bytesRow s cap).size + 1)) := by
    show (w.heap.push _)[w.heap.size]? = _
    simp
  refine ⟨cap, _, h, (Below.refl _ w).drew.alloc (Nat.le_refl _) _, ?_, by rw [hcap]; exact grownCap_ge _ _ _ _, fun j hj => ?_, fun j hj => ?_⟩
  · show (w.heap.push _).size = _
    simp
  · rw [Lib.cell_of_heap hh, bytesRow_at _ _ _ hj]; rfl
  · have hsz : s.size ≤ (bytesRow s cap).size := by
      apply Nat.le_of_not_lt; intro h2
      have h3 := bytesRow_at s cap (bytesRow s cap).size h2
      rw [Array.getElem?_eq_none (Nat.le_refl _)] at h3; cases h3
    unfold World.frozen?
    rw [hh]
    simp
    omega
/-- bytes that lie in a row, as a string again -/
theorem bytes_back (W : World) (p n cap : Nat) (hc : ∀ j, j < n → ∃ b : UInt8, W.cell? ⟨p, j, none⟩ = some (.int .u8 (b.toNat : Nat))) (hp : p < W.heap.size) :
    ∃ S2 : ByteArray, S2.size = n ∧ ∀ W', Below (p+1) W W' → (convert 33 9 (.slice (some ⟨p, 0, none⟩) n cap)).run Tryz.prog W' = .ok (.string S2) W' := by
  have hc2 : ∀ j, ∃ b : UInt8, j < n → W.cell? ⟨p, j, none⟩ = some (.int .u8 (b.toNat : Nat)) := fun j => by
    by_cases h : j < n
    · obtain ⟨b, hb⟩ := hc j h; exact ⟨b, fun _ => hb⟩
    · exact ⟨0, fun h2 => absurd h2 h⟩
  obtain ⟨f, hf⟩ := Classical.axiomOfChoice hc2
  refine ⟨⟨((List.range n).map f).toArray⟩, by show ((List.range n).map f).toArray.size = n; simp, fun W' hB => ?_⟩
  have h := run_convert_bytes_back (P := Tryz.prog) W' 33 9 5 ⟨p, 0, none⟩ cap ((List.range n).map f) Tryz.underlying33 Tryz.underlying5 Tryz.underlying9 (fun j hj => by
    have hj2 : j < n := by simpa using hj
    rw [Lib.add_plain, Nat.zero_add, hB.cell (p := ⟨p, j, none⟩) (Nat.lt_succ_self p), hf j hj2]
    simp)
  rwa [show ((List.range n).map f).length = n by simp] at h
theorem txp_size (p : Pa) (h : pi64 p) : (txp p).size ≤ 87 ∧ 0 < (txp p).size := by
  have h1 := dcm_size p.1 h.1
  have h2 := dcm_size p.2.1 h.2.1
  have h3 := dcm_size p.2.2.1 h.2.2.1
  have h4 := dcm_size p.2.2.2 h.2.2.2
  have h5 : (txp p).size = (dcm p.1).size + 1 + (dcm p.2.1).size + 1 + (dcm p.2.2.1).size + 1 + (dcm p.2.2.2).size := by
    unfold txp; simp only [ByteArray.size_append]; rfl
  omega
theorem cells8s (w : World) (t : TypeId) (N : Nat) (A B C D E F G H : ByteArray) (a : A.size ≤ N) (b : B.size ≤ N) (c : C.size ≤ N) (d : D.size ≤ N) (e : E.size ≤ N) (f : F.size ≤ N) (g : G.size ≤ N) (h : H.size ≤ N) : ∀ j, j < 8 → ∃ X : ByteArray, X.size ≤ N ∧
    (w.alloc (.cells #[.string A, .string B, .string C, .string D, .string E, .string F, .string G, .string H] t)).cell? ⟨w.heap.size, j, none⟩ = some (.string X) := by
  intro j hj
  rw [World.cell?_alloc_at _ _ _ _ rfl]
  match j, hj with
  | 0, _ => exact ⟨A, a, rfl⟩
  | 1, _ => exact ⟨B, b, rfl⟩
  | 2, _ => exact ⟨C, c, rfl⟩
  | 3, _ => exact ⟨D, d, rfl⟩
  | 4, _ => exact ⟨E, e, rfl⟩
  | 5, _ => exact ⟨F, f, rfl⟩
  | 6, _ => exact ⟨G, g, rfl⟩
  | 7, _ => exact ⟨H, h, rfl⟩
/-- what the walk keeps: the tables, the frame, the two boxes -/
structure TK (w W : World) (p : Nat) (A0 A1 A2 A3 q0 q1 : Int) : Prop where
  t : TX W
  b : Below w.heap.size w W
  m : P4 W p A0 A1 A2 A3
  c0 : W.cell? ⟨p + 1, 0, none⟩ = some (.int .u16 q0)
  c1 : W.cell? ⟨p + 1, 1, none⟩ = some (.int .u16 q1)
theorem TK.next {w u v : World} {p : Nat} {A0 A1 A2 A3 q0 q1 : Int} (h : TK w u p A0 A1 A2 A3 q0 q1) (k : Below u.heap.size u v) : TK w v p A0 A1 A2 A3 q0 q1 :=
  ⟨h.t.below k, h.b.trans (k.mono h.b.size), h.m.next k, (k.cell (p := ⟨p + 1, 0, none⟩) (World.block_lt_of_cell? _ _ h.c0)).trans h.c0, (k.cell (p := ⟨p + 1, 1, none⟩) (World.block_lt_of_cell? _ _ h.c1)).trans h.c1⟩
theorem tk_start {w : World} (hT : TX w) (A0 A1 A2 A3 q0 q1 : Int) : TK w ((w.alloc (.cells #[.int .i64 A0, .int .i64 A1, .int .i64 A2, .int .i64 A3] 30)).alloc (.cells #[.int .u16 q0, .int .u16 q1] 63)) w.heap.size A0 A1 A2 A3 q0 q1 := by
  have b1 : Below w.heap.size w (w.alloc (.cells #[.int .i64 A0, .int .i64 A1, .int .i64 A2, .int .i64 A3] 30)) := (Below.refl _ w).alloc (Nat.le_refl _) _
  have m1 := P4.new w A0 A1 A2 A3
  have z1 : (w.alloc (.cells #[.int .i64 A0, .int .i64 A1, .int .i64 A2, .int .i64 A3] 30)).heap.size = w.heap.size + 1 := by simp
  generalize w.alloc (.cells #[.int .i64 A0, .int .i64 A1, .int .i64 A2, .int .i64 A3] 30) = u at *
  have b2 := b1.alloc (by omega) (.cells #[.int .u16 q0, .int .u16 q1] 63)
  refine ⟨hT.below b2, b2, m1.alloc _, ?_, ?_⟩
  · rw [← z1]; exact World.cell?_alloc_at _ _ _ _ rfl
  · rw [← z1]; exact World.cell?_alloc_at _ _ _ _ rfl
set_option maxRecDepth 100000 in
set_option maxHeartbeats 8000000 in
theorem texts_core (w : World) (A0 A1 A2 A3 q0 q1 : Int) (raw T : ByteArray) (hq0 : 0 ≤ q0 ∧ q0 ≤ 65535) (hq1 : 0 ≤ q1 ∧ q1 ≤ 65535) (hraw : raw.size ≤ 140737488355300) (hT1 : T.size ≤ 87) (hT0 : 0 < T.size)
    (S0 : Hid (∀ W, TX W → Calls Tryz.prog 10 #[] W fun e w' => e = .returned (.bool true) ∧ Below W.heap.size W w'))
    (X1 : Hid (∀ W, TX W → Calls Tryz.prog 28 #[.agg #[.int .i64 A0, .int .i64 A1, .int .i64 A2, .int .i64 A3]] W fun e w' => e = .returned (.string T) ∧ Below W.heap.size W w'))
    (X2 : Hid (∀ W, TX W → Calls Tryz.prog 30 #[.agg #[.int .i64 A0, .int .i64 A1, .int .i64 A2, .int .i64 A3]] W fun e w' => e = .returned (.string T) ∧ Below W.heap.size W w'))
    (R0 : Hid (∀ W, TX W → Calls Tryz.prog 29 #[.string T] W fun e w' => e = .returned (.tuple #[.agg #[.int .i64 A0, .int .i64 A1, .int .i64 A2, .int .i64 A3], .bool true]) ∧ Below W.heap.size W w'))
    (RR : Hid (∀ t : ByteArray, t.size ≤ 281474976710000 → ∃ (x y x2 x3 : Int) (o : Bool), ∀ W, TX W → Calls Tryz.prog 29 #[.string t] W (fun e w' => e = .returned (.tuple #[.agg #[.int .i64 x, .int .i64 y, .int .i64 x2, .int .i64 x3], .bool o]) ∧ Below W.heap.size W w') ∧ Calls Tryz.prog 31 #[.string t] W (fun e w' => e = .returned (.tuple #[.agg #[.int .i64 x, .int .i64 y, .int .i64 x2, .int .i64 x3], .bool o]) ∧ Below W.heap.size W w')))
    (hT : TX w) :
    Calls Tryz.prog 8 #[.agg #[.int .i64 A0, .int .i64 A1, .int .i64 A2, .int .i64 A3], .string raw, .agg #[.int .u16 q0, .int .u16 q1]] w fun e w' => e = .returned (.bool true) ∧ Below w.heap.size w w' := by
  have HT := tk_start hT A0 A1 A2 A3 q0 q1
  obtain ⟨W, hW⟩ : ∃ W, (w.alloc (.cells #[.int .i64 A0, .int .i64 A1, .int .i64 A2, .int .i64 A3] 30)).alloc (.cells #[.int .u16 q0, .int .u16 q1] 63) = W := ⟨_, rfl⟩
  rw [hW] at HT
  obtain ⟨p, hp⟩ : ∃ p, w.heap.size = p := ⟨_, rfl⟩
  rw [hp] at HT
  have HT := Lib.hid HT
  clear hT
  go_enter Tryz.func8, Tryz.ntmps8
  go_upto_region 1 with fail
  clear hW
  go_wp2_with fail
  refine (S0.out _ HT.out.t).mono ?_
  rintro r w1 ⟨rfl, b1⟩
  have K1 := Lib.hid (HT.out.next b1); clear b1 HT
  have e0 := K1.out.m.c0
  have e1 := K1.out.m.c1
  have e2 := K1.out.m.c2
  have e3 := K1.out.m.c3
  go_wp2_with fail
  clear e0 e1 e2 e3
  refine (X1.out _ K1.out.t).mono ?_
  rintro r w2 ⟨rfl, b1⟩
  have K2 := Lib.hid (K1.out.next b1); clear b1 K1
  go_wp2_with fail
  refine (R0.out _ K2.out.t).mono ?_
  rintro r w3 ⟨rfl, b1⟩
  have K3 := Lib.hid (K2.out.next b1); clear b1 K2
  have m7 := P4.new w3 0 0 0 0
  have hi7 := infoPa A0 A1 A2 A3
  go_upto_region 4 with (refine wpList_store_row rfl 30 (.tmp 9) (.tmp 24) rfl w3.heap.size #[.int .i64 A0, .int .i64 A1, .int .i64 A2, .int .i64 A3] rfl rfl 30 _ m7 hi7.out (pa_size _ _ _ _ _ _ _ _) (pa_one _ _ _ _) ?_)
  have b3 : Below w3.heap.size w3 ((w3.alloc (.cells #[.int .i64 0, .int .i64 0, .int .i64 0, .int .i64 0] 30)).setRow w3.heap.size #[.int .i64 A0, .int .i64 A1, .int .i64 A2, .int .i64 A3]) := Below.setRow' ((Below.refl w3.heap.size w3).alloc (Nat.le_refl _) _) (Nat.le_refl _) _
  have m3 : P4 ((w3.alloc (.cells #[.int .i64 0, .int .i64 0, .int .i64 0, .int .i64 0] 30)).setRow w3.heap.size #[.int .i64 A0, .int .i64 A1, .int .i64 A2, .int .i64 A3]) w3.heap.size A0 A1 A2 A3 := setRow_heap _ _ _ _ _ _ m7
  clear m7 hi7
  have K4 := Lib.hid (And.intro (K3.out.next b3) m3); clear b3 m3 K3
  try change Code.wp _ _ _ _ ((w3.alloc (.cells #[.int .i64 0, .int .i64 0, .int .i64 0, .int .i64 0] 30)).setRow w3.heap.size #[.int .i64 A0, .int .i64 A1, .int .i64 A2, .int .i64 A3])
  generalize hq5 : (w3.alloc (.cells #[.int .i64 0, .int .i64 0, .int .i64 0, .int .i64 0] 30)).setRow w3.heap.size #[.int .i64 A0, .int .i64 A1, .int .i64 A2, .int .i64 A3] = v3 at *
  clear hq5
  generalize w3.heap.size = m0 at *
  have e0 := K4.out.1.m.c0
  have e1 := K4.out.1.m.c1
  have e2 := K4.out.1.m.c2
  have e3 := K4.out.1.m.c3
  go_wp2_with fail
  clear e0 e1 e2 e3
  refine (X2.out _ K4.out.1.t).mono ?_
  rintro r w4 ⟨rfl, b1⟩
  have K5 := Lib.hid (And.intro (K4.out.1.next b1) (K4.out.2.next b1)); clear b1 K4
  have e0 := K5.out.1.m.c0
  have e1 := K5.out.1.m.c1
  have e2 := K5.out.1.m.c2
  have e3 := K5.out.1.m.c3
  have f0 := K5.out.2.c0
  have f1 := K5.out.2.c1
  have f2 := K5.out.2.c2
  have f3 := K5.out.2.c3
  obtain ⟨cap, W5, hcv, hB5, hs5, hcap, hcell, hfree⟩ := bytes_free w4 T
  have K6 := Lib.hid (K5.out.1.next (hB5.mono (Nat.le_refl _)))
  have HC := Lib.hid (And.intro hcell hfree)
  clear hcell hfree
  go_wp2_with fail
  clear e0 e1 e2 e3 f0 f1 f2 f3
  obtain ⟨i, hi⟩ : ∃ i : Nat, i = q0.toNat % T.size := ⟨_, rfl⟩
  have hiS : i < T.size := by rw [hi]; exact Nat.mod_lt _ hT0
  have hci := HC.out.1 i hiS
  have hfi := HC.out.2 i hiS
  have c0 := K6.out.c0
  have c1 := K6.out.c1
  have x0 : IntKind.i64.wrap q0 = q0 := IntWalk.i64_in _ ⟨by omega, by omega⟩
  have x8 : IntKind.u8.wrap q1 = q1 % 256 := IntKind.wrap_u8 _
  have xr2 : Int.tmod q0 (T.size : Int) = (i : Int) := by
    rw [hi, Int.tmod_eq_emod_of_nonneg hq0.1, Int.natCast_emod, Int.toNat_of_nonneg hq0.1]
  have hzn : ¬ T.size = 0 := by omega
  have hzn2 : (T.size == 0) = false := beq_eq_false_iff_ne.2 hzn
  have hz0 : ((T.size : Int) == 0) = false := beq_eq_false_iff_ne.2 (by omega)
  have hi0 : (0 : Int) ≤ (i : Int) := by omega
  have hi1 : (i : Int) < (T.size : Int) := by omega
  have HI := Lib.hid (And.intro hi (And.intro hq0 hq1)); clear hi hq0 hq1
  go_cut [42] from 41 to 52 (fun _ wx => wx = (W5.setCell ⟨w4.heap.size, i, none⟩ (.int .u8 (q1 % 256))).drew)
  case first => go_region; all_goals (go_wp2_with fail; go_meet; exact rfl)
  case rest =>
  obtain rfl := hcut
  have hB7 : Below w4.heap.size w4 (W5.setCell ⟨w4.heap.size, i, none⟩ (.int .u8 (q1 % 256))).drew := (hB5.setCell (p := ⟨w4.heap.size, i, none⟩) (Nat.le_refl _) _).drew
  have K7 := Lib.hid (K5.out.1.next hB7)
  obtain ⟨S2, hz2, hS2⟩ := bytes_back (W5.setCell ⟨w4.heap.size, i, none⟩ (.int .u8 (q1 % 256))).drew w4.heap.size T.size cap (fun j hj => by
    show ∃ b : UInt8, (W5.setCell ⟨w4.heap.size, i, none⟩ (.int .u8 (q1 % 256))).cell? ⟨w4.heap.size, j, none⟩ = some (.int .u8 (b.toNat : Nat))
    by_cases e : j = i
    · subst e
      refine ⟨UInt8.ofNat (q1 % 256).toNat, ?_⟩
      rw [World.cell?_setCell_same _ _ _ hci]
      congr 2
      simp
      omega
    · exact ⟨_, by rw [World.cell?_setCell_other _ _ _ _ (by intro h; injection h with h1 h2; exact e h2.symm)]; exact HC.out.1 j hj⟩) (by show w4.heap.size < (W5.setCell _ _).heap.size; simp; omega)
  have hl7 : w4.heap.size + 1 ≤ (W5.setCell ⟨w4.heap.size, i, none⟩ (.int .u8 (q1 % 256))).drew.heap.size := by show _ ≤ (W5.setCell _ _).heap.size; simp; omega
  clear hci hfi c0 c1 x0 x8 xr2 hzn hzn2 hz0 hi0 hi1 hB5 hB7 hs5 hcap HC hcv K5 K6
  generalize (W5.setCell ⟨w4.heap.size, i, none⟩ (.int .u8 (q1 % 256))).drew = W7 at *
  generalize w4.heap.size = m4 at *
  have hs1 : (1 : Int) ≤ (T.size : Int) := by omega
  have hL1 : (9223372036854775807 < 1 + T.size) = False := eq_false (by omega)
  have hL2 : (9223372036854775807 < T.size + 1) = False := eq_false (by omega)
  have hL3 : (9223372036854775807 < T.size + raw.size) = False := eq_false (by omega)
  have hL4 : (9223372036854775807 < T.size + 2) = False := eq_false (by omega)
  have HZ := Lib.hid (And.intro hz2 (And.intro hT1 hraw)); clear hz2 hT1 hraw
  go_wp2_with fail
  go_region_held3 (fun W => (convert 33 9 (.slice (some ⟨m4, 0, none⟩) T.size cap)).run Tryz.prog W = .ok (.string S2) W) (first | exact hS2 _ ((Below.refl _ _).drew) | exact hS2 _ (((Below.refl _ _).drew).alloc hl7 _)) (fail)
  have hc8 := cells8s W7 9 281474976710000 S2 raw (T ++ raw) (⟨#[48]⟩ ++ T) (T ++ ⟨#[32]⟩) (T ++ ⟨#[32, 49]⟩) (T.extract 1 T.size) (⟨#[32]⟩ ++ T)
    (by have := HZ.out; omega) (by have := HZ.out; omega) (by have := HZ.out; rw [ByteArray.size_append]; omega) (by have := HZ.out; rw [ByteArray.size_append]; show 1 + T.size ≤ _; omega) (by have := HZ.out; rw [ByteArray.size_append]; show T.size + 1 ≤ _; omega) (by have := HZ.out; rw [ByteArray.size_append]; show T.size + 2 ≤ _; omega) (by have := HZ.out; have := ext_size T 1 T.size; omega) (by have := HZ.out; rw [ByteArray.size_append]; show 1 + T.size ≤ _; omega)
  replace hc8 := fun j hj => (show ∃ X : ByteArray, X.size ≤ 281474976710000 ∧ (W7.alloc (.cells #[.string S2, .string raw, .string (T ++ raw), .string (⟨#[48]⟩ ++ T), .string (T ++ ⟨#[32]⟩), .string (T ++ ⟨#[32, 49]⟩), .string (T.extract 1 T.size), .string (⟨#[32]⟩ ++ T)] 9)).drew.cell? ⟨W7.heap.size, j, none⟩ = some (.string X) from hc8 j hj)
  have K8 := Lib.hid (K7.out.next (((Below.refl _ W7).alloc (Nat.le_refl _) (.cells #[.string S2, .string raw, .string (T ++ raw), .string (⟨#[48]⟩ ++ T), .string (T ++ ⟨#[32]⟩), .string (T ++ ⟨#[32, 49]⟩), .string (T.extract 1 T.size), .string (⟨#[32]⟩ ++ T)] 9)).drew))
  have HC8 := Lib.hid hc8
  clear hc8 hs1 hL1 hL2 hL3 hL4 hS2 hl7 K7 hiS hT0
  generalize (W7.alloc (.cells #[.string S2, .string raw, .string (T ++ raw), .string (⟨#[48]⟩ ++ T), .string (T ++ ⟨#[32]⟩), .string (T ++ ⟨#[32, 49]⟩), .string (T.extract 1 T.size), .string (⟨#[32]⟩ ++ T)] 9)).drew = W8 at *
  generalize W7.heap.size = g at *
  go_wp2_with fail
  go_loopw [70] (fun i wr => ∃ (j : Nat), j ≤ 8 ∧ i = .int .i64 (j : Int) ∧ Hid (TK w wr p A0 A1 A2 A3 q0 q1 ∧ Below W8.heap.size W8 wr)) (fun i _ => 8 - (match i with | .int _ i => i.toNat | _ => 0))
  case atStart => exact ⟨0, by omega, rfl, Lib.hid ⟨K8.out, Below.refl _ _⟩⟩
  case round =>
    obtain ⟨j, hj, rfl, hK⟩ := hrel
    by_cases hlj : j < 8
    · obtain ⟨X, sX, c0⟩ := HC8.out j hlj
      have d0 := (hK.out.2.cell (p := ⟨g, j, none⟩) (World.block_lt_of_cell? _ _ c0)).trans c0
      clear c0
      obtain ⟨x, y, x2, x3, o, hxy⟩ := RR.out X sX
      have N1 := Lib.hid fun W t => (hxy W t).1
      have N2 := Lib.hid fun W t => (hxy W t).2
      clear hxy sX
      go_wp2_with fail
      clear d0
      refine (N1.out _ hK.out.1.t).mono ?_
      rintro e w5 ⟨rfl, b5⟩
      have K9 := Lib.hid (And.intro (hK.out.1.next b5) (hK.out.2.trans (b5.mono hK.out.2.size))); clear b5
      have m7 := P4.new w5 0 0 0 0
      have hi7 := infoPa x y x2 x3
      go_upto_region 12 with (refine wpList_store_row rfl 30 (.tmp 14) (.tmp 77) rfl w5.heap.size #[.int .i64 x, .int .i64 y, .int .i64 x2, .int .i64 x3] rfl rfl 30 _ m7 hi7.out (pa_size _ _ _ _ _ _ _ _) (pa_one _ _ _ _) ?_)
      have b3 : Below w5.heap.size w5 ((w5.alloc (.cells #[.int .i64 0, .int .i64 0, .int .i64 0, .int .i64 0] 30)).setRow w5.heap.size #[.int .i64 x, .int .i64 y, .int .i64 x2, .int .i64 x3]) := Below.setRow' ((Below.refl w5.heap.size w5).alloc (Nat.le_refl _) _) (Nat.le_refl _) _
      have m3 : P4 ((w5.alloc (.cells #[.int .i64 0, .int .i64 0, .int .i64 0, .int .i64 0] 30)).setRow w5.heap.size #[.int .i64 x, .int .i64 y, .int .i64 x2, .int .i64 x3]) w5.heap.size x y x2 x3 := setRow_heap _ _ _ _ _ _ m7
      have KA := Lib.hid (And.intro (K9.out.1.next b3) (And.intro (K9.out.2.trans (b3.mono K9.out.2.size)) m3)); clear b3 m3 K9 m7
      try change Code.wp _ _ _ _ ((w5.alloc (.cells #[.int .i64 0, .int .i64 0, .int .i64 0, .int .i64 0] 30)).setRow w5.heap.size #[.int .i64 x, .int .i64 y, .int .i64 x2, .int .i64 x3])
      generalize hq5 : (w5.alloc (.cells #[.int .i64 0, .int .i64 0, .int .i64 0, .int .i64 0] 30)).setRow w5.heap.size #[.int .i64 x, .int .i64 y, .int .i64 x2, .int .i64 x3] = v5 at *
      clear hq5
      generalize w5.heap.size = a1 at *
      go_wp2_with fail
      refine (N2.out _ KA.out.1.t).mono ?_
      rintro e w6 ⟨rfl, b5⟩
      have KB := Lib.hid (And.intro (KA.out.1.next b5) (And.intro (KA.out.2.1.trans (b5.mono KA.out.2.1.size)) (KA.out.2.2.next b5))); clear b5 KA
      have m7 := P4.new w6 0 0 0 0
      go_upto_region 13 with (refine wpList_store_row rfl 30 (.tmp 16) (.tmp 82) rfl w6.heap.size #[.int .i64 x, .int .i64 y, .int .i64 x2, .int .i64 x3] rfl rfl 30 _ m7 hi7.out (pa_size _ _ _ _ _ _ _ _) (pa_one _ _ _ _) ?_)
      have b3 : Below w6.heap.size w6 ((w6.alloc (.cells #[.int .i64 0, .int .i64 0, .int .i64 0, .int .i64 0] 30)).setRow w6.heap.size #[.int .i64 x, .int .i64 y, .int .i64 x2, .int .i64 x3]) := Below.setRow' ((Below.refl w6.heap.size w6).alloc (Nat.le_refl _) _) (Nat.le_refl _) _
      have m3 : P4 ((w6.alloc (.cells #[.int .i64 0, .int .i64 0, .int .i64 0, .int .i64 0] 30)).setRow w6.heap.size #[.int .i64 x, .int .i64 y, .int .i64 x2, .int .i64 x3]) w6.heap.size x y x2 x3 := setRow_heap _ _ _ _ _ _ m7
      have KC := Lib.hid (And.intro (KB.out.1.next b3) (And.intro (KB.out.2.1.trans (b3.mono KB.out.2.1.size)) (And.intro (KB.out.2.2.next b3) m3))); clear b3 m3 KB m7 hi7
      try change Code.wp _ _ _ _ ((w6.alloc (.cells #[.int .i64 0, .int .i64 0, .int .i64 0, .int .i64 0] 30)).setRow w6.heap.size #[.int .i64 x, .int .i64 y, .int .i64 x2, .int .i64 x3])
      generalize hq5 : (w6.alloc (.cells #[.int .i64 0, .int .i64 0, .int .i64 0, .int .i64 0] 30)).setRow w6.heap.size #[.int .i64 x, .int .i64 y, .int .i64 x2, .int .i64 x3] = v6 at *
      clear hq5
      generalize w6.heap.size = a2 at *
      have e0 := KC.out.2.2.1.c0
      have e1 := KC.out.2.2.1.c1
      have e2 := KC.out.2.2.1.c2
      have e3 := KC.out.2.2.1.c3
      have f0 := KC.out.2.2.2.c0
      have f1 := KC.out.2.2.2.c1
      have f2 := KC.out.2.2.2.c2
      have f3 := KC.out.2.2.2.c3
      have KD := Lib.hid (And.intro KC.out.1 KC.out.2.1); clear KC
      go_wp2
      exact ⟨⟨j + 1, by omega, by simp, KD⟩, by simp; omega⟩
    · obtain rfl : j = 8 := by omega
      have hF := Lib.hid hK.out.1.b
      go_wp2
      go_ret
      exact ⟨rfl, hF.out⟩
theorem texts_walk (w : World) (A0 A1 A2 A3 : Int) (raw : ByteArray) (q0 q1 : Int) (h0 : i64 A0) (h1 : i64 A1) (h2 : i64 A2) (h3 : i64 A3) (hraw : raw.size ≤ 140737488355300) (hq0 : 0 ≤ q0 ∧ q0 ≤ 65535) (hq1 : 0 ≤ q1 ∧ q1 ≤ 65535) (hT : TX w) :
    Calls Tryz.prog 8 #[.agg #[.int .i64 A0, .int .i64 A1, .int .i64 A2, .int .i64 A3], .string raw, .agg #[.int .u16 q0, .int .u16 q1]] w fun e w' => e = .returned (.bool true) ∧ Below w.heap.size w w' := by
  have hp : pi64 (A0, A1, A2, A3) := ⟨h0, h1, h2, h3⟩
  have hz := txp_size _ hp
  have hr := okp_txp (txp (A0, A1, A2, A3)) (A0, A1, A2, A3) hp rfl
  exact texts_core w A0 A1 A2 A3 q0 q1 raw (txp (A0, A1, A2, A3)) hq0 hq1 hraw hz.1 hz.2 (Lib.hid fun W t => sanity_any W t.ts) (Lib.hid fun W t => Text_any W (A0, A1, A2, A3) _ rfl hp t.ts) (Lib.hid fun W t => refText9_any W (A0, A1, A2, A3) _ rfl hp t.ts)
    (Lib.hid fun W t => by
      have := Read9 W (txp (A0, A1, A2, A3)) (by omega) t
      rw [hr.1, hr.2] at this
      exact this)
    (Lib.hid fun t ht => ⟨(pa9 t).1, (pa9 t).2.1, (pa9 t).2.2.1, (pa9 t).2.2.2, okp t, fun W k => ⟨Read9 W t (by omega) k, refRead9 W t ht k.ts⟩⟩) hT
end Go.Proofs.YtbfplapjjeeceaaGreatDoor.B9
