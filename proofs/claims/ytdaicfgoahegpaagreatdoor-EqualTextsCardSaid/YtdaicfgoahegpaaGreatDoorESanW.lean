/-
  The walk of the laws' sanity.
-/
import Derived.Test.YtdaicfgoahegpaaGreatDoorESan
namespace Go.Proofs.YtdaicfgoahegpaaGreatDoor.E6
open Go.RowKit GM SH G4
/-- what the walk of a law keeps: the tables, the frame, proofs in blocks of its own -/
structure SK (w0 W : World) (l : List (Nat × Int × Int)) : Prop where
  t : TS W
  b : Below w0.heap.size w0 W
  s : ∀ p ∈ l, PM W p.1 p.2.1 p.2.2
theorem SK.next {w0 u v : World} {l : List (Nat × Int × Int)} (h : SK w0 u l) (k : Below u.heap.size u v) : SK w0 v l :=
  ⟨h.t.below k, h.b.trans (k.mono h.b.size), fun p hp => (h.s p hp).next k⟩
theorem SK.get {w0 W : World} {l : List (Nat × Int × Int)} (h : SK w0 W l) (p : Nat) (R S : Int) (hp : (p, R, S) ∈ l) : PM W p R S := h.s _ hp
theorem SK.push {w0 u : World} {l : List (Nat × Int × Int)} (h : SK w0 u l) (R S : Int) :
    SK w0 ((u.alloc (.cells #[.int .i64 0, .int .i64 0] 25)).setRow u.heap.size #[.int .i64 R, .int .i64 S]) ((u.heap.size, R, S) :: l) := by
  have hb : Below u.heap.size u ((u.alloc (.cells #[.int .i64 0, .int .i64 0] 25)).setRow u.heap.size #[.int .i64 R, .int .i64 S]) := Below.setRow' ((Below.refl u.heap.size u).alloc (Nat.le_refl _) _) (Nat.le_refl _) _
  have h2 := h.next hb
  refine ⟨h2.t, h2.b, fun p hp => ?_⟩
  rcases List.mem_cons.1 hp with rfl | hp
  · exact setRow_heap _ _ _ _ _ _ (PM.new u 0 0)
  · exact h2.s p hp
theorem sk_start {w : World} (h : TS w) : SK w w [] := ⟨h, Below.refl _ _, fun p hp => by cases hp⟩
set_option maxRecDepth 100000 in
set_option maxHeartbeats 4000000 in
theorem sanity_core (w : World) (c z : Int)
    (C1 : Hid (∀ W, TS W → Calls Tryz.prog 10 #[.int .i64 3, .int .i64 4, .int .i64 16] W fun e w' => e = .returned (pfv c z) ∧ Below W.heap.size W w'))
    (D1 : Hid (∀ W, TS W → Calls Tryz.prog 20 #[.string ⟨#[49, 50, 46, 51]⟩] W fun e w' => e = .returned (.tuple #[pfv 12 3, .bool true]) ∧ Below W.heap.size W w'))
    (D2 : Hid (∀ W, TS W → Calls Tryz.prog 20 #[.string ⟨#[48, 49, 50, 46, 51]⟩] W fun e w' => e = .returned (.tuple #[pfv 0 0, .bool false]) ∧ Below W.heap.size W w'))
    (V1 : Hid (∀ W, TS W → Calls Tryz.prog 14 #[.int .i64 4, .int .i64 64, .int .i64 16, .int .i64 4096, pfv c z] W fun e w' => e = .returned (.bool true) ∧ Below W.heap.size W w'))
    (V2 : Hid (∀ W, TS W → Calls Tryz.prog 14 #[.int .i64 4, .int .i64 64, .int .i64 16, .int .i64 256, pfv c z] W fun e w' => e = .returned (.bool false) ∧ Below W.heap.size W w'))
    (C2 : Hid (∀ W, TS W → Calls Tryz.prog 10 #[.int .i64 3, .int .i64 0, .int .i64 16] W fun e w' => e = .returned (pfv 0 0) ∧ Below W.heap.size W w'))
    (X1 : Hid (∀ W, TS W → Calls Tryz.prog 19 #[pfv 12 3] W fun e w' => e = .returned (.string ⟨#[49, 50, 46, 51]⟩) ∧ Below W.heap.size W w'))
    (hT : TS w) : Calls Tryz.prog 8 #[] w fun e w' => e = .returned (.bool true) ∧ Below w.heap.size w w' := by
  have HT := Lib.hid (sk_start hT); clear hT
  go_enter Tryz.func8, Tryz.ntmps8
  go_wp2_with fail
  refine (C1.out _ HT.out.t).mono ?_
  rintro e w1 ⟨rfl, b⟩
  have K1 := Lib.hid (HT.out.next b); clear b HT
  have z1 := PM.new w1 0 0
  have hiz1 := infoP (c) (z)
  go_upto_region 2 with (refine wpList_store_row rfl 25 (.tmp 1) (.tmp 6) rfl w1.heap.size #[.int .i64 (c), .int .i64 (z)] rfl rfl 25 _ z1 hiz1.out (two_size _ _ _ _) (pf_one _ _) ?_)
  clear z1 hiz1
  have Hv1 := Lib.hid (K1.out.push (c) (z)); clear K1
  try change Code.wp _ _ _ _ ((w1.alloc (.cells #[.int .i64 0, .int .i64 0] 25)).setRow w1.heap.size #[.int .i64 (c), .int .i64 (z)])
  generalize hq : (w1.alloc (.cells #[.int .i64 0, .int .i64 0] 25)).setRow w1.heap.size #[.int .i64 (c), .int .i64 (z)] = v1 at *
  clear hq
  go_wp2_with fail
  refine (D1.out _ Hv1.out.t).mono ?_
  rintro e w2 ⟨rfl, b⟩
  have K2 := Lib.hid (Hv1.out.next b); clear b Hv1
  have z2 := PM.new w2 0 0
  have hiz2 := infoP (12) (3)
  go_upto_region 3 with (refine wpList_store_row rfl 25 (.tmp 2) (.tmp 9) rfl w2.heap.size #[.int .i64 (12), .int .i64 (3)] rfl rfl 25 _ z2 hiz2.out (two_size _ _ _ _) (pf_one _ _) ?_)
  clear z2 hiz2
  have Hv2 := Lib.hid (K2.out.push (12) (3)); clear K2
  try change Code.wp _ _ _ _ ((w2.alloc (.cells #[.int .i64 0, .int .i64 0] 25)).setRow w2.heap.size #[.int .i64 (12), .int .i64 (3)])
  generalize hq : (w2.alloc (.cells #[.int .i64 0, .int .i64 0] 25)).setRow w2.heap.size #[.int .i64 (12), .int .i64 (3)] = v2 at *
  clear hq
  go_wp2_with fail
  refine (D2.out _ Hv2.out.t).mono ?_
  rintro e w3 ⟨rfl, b⟩
  have K3 := Lib.hid (Hv2.out.next b); clear b Hv2
  have z3 := PM.new w3 0 0
  have hiz3 := infoP (0) (0)
  go_upto_region 4 with (refine wpList_store_row rfl 25 (.tmp 4) (.tmp 13) rfl w3.heap.size #[.int .i64 (0), .int .i64 (0)] rfl rfl 25 _ z3 hiz3.out (two_size _ _ _ _) (pf_one _ _) ?_)
  clear z3 hiz3
  have Hv3 := Lib.hid (K3.out.push (0) (0)); clear K3
  try change Code.wp _ _ _ _ ((w3.alloc (.cells #[.int .i64 0, .int .i64 0] 25)).setRow w3.heap.size #[.int .i64 (0), .int .i64 (0)])
  generalize hq : (w3.alloc (.cells #[.int .i64 0, .int .i64 0] 25)).setRow w3.heap.size #[.int .i64 (0), .int .i64 (0)] = v3 at *
  clear hq
  have q0 := (Hv3.out.get w1.heap.size (c) (z) (by simp)).c0
  have q1 := (Hv3.out.get w1.heap.size (c) (z) (by simp)).c1
  go_wp2_with fail
  clear q0 q1
  refine (V1.out _ Hv3.out.t).mono ?_
  rintro e x1 ⟨rfl, b⟩
  have L1 := Lib.hid (Hv3.out.next b); clear b Hv3
  have q0 := (L1.out.get w1.heap.size (c) (z) (by simp)).c0
  have q1 := (L1.out.get w1.heap.size (c) (z) (by simp)).c1
  go_wp2_with fail
  clear q0 q1
  refine (V2.out _ L1.out.t).mono ?_
  rintro e x2 ⟨rfl, b⟩
  have L2 := Lib.hid (L1.out.next b); clear b L1
  go_wp2_with fail
  refine (C2.out _ L2.out.t).mono ?_
  rintro e x3 ⟨rfl, b⟩
  have L3 := Lib.hid (L2.out.next b); clear b L2
  go_wp2_with fail
  refine (X1.out _ L3.out.t).mono ?_
  rintro e x4 ⟨rfl, b⟩
  have L4 := Lib.hid (L3.out.next b); clear b L3
  have q0 := (L4.out.get w2.heap.size 12 3 (by simp)).c0
  have q1 := (L4.out.get w2.heap.size 12 3 (by simp)).c1
  go_wp2
  go_ret
  exact ⟨rfl, L4.out.b⟩
theorem sanity_any (w : World) (hT : TS w) : Calls Tryz.prog 8 #[] w fun e w' => e = .returned (.bool true) ∧ Below w.heap.size w w' :=
  sanity_core w (prC 3 4 16) (prZ 3 4 16)
    (Lib.hid fun W h => Prove_any W 3 4 16 (by decide) (by decide) (by decide) h)
    (Lib.hid fun W h => by have := Read_any W ⟨#[49, 50, 46, 51]⟩ (by decide) h; rwa [ok_a, rdv_a] at this)
    (Lib.hid fun W h => by have := Read_any W ⟨#[48, 49, 50, 46, 51]⟩ (by decide) h; rwa [ok_c, rdv_c] at this)
    (Lib.hid fun W h => by have := Verify_any W 4 64 16 4096 (prC 3 4 16) (prZ 3 4 16) (by decide) (by decide) (by decide) (by decide) (i64_of (prC_rng _ _ _) (by decide)) (i64_of (prZ_rng _ _ _) (by decide)) h; rwa [show vf 4 64 16 4096 (prC 3 4 16) (prZ 3 4 16) = true by rw [prC_is, prZ_is]; exact vf_a] at this)
    (Lib.hid fun W h => by have := Verify_any W 4 64 16 256 (prC 3 4 16) (prZ 3 4 16) (by decide) (by decide) (by decide) (by decide) (i64_of (prC_rng _ _ _) (by decide)) (i64_of (prZ_rng _ _ _) (by decide)) h; rwa [show vf 4 64 16 256 (prC 3 4 16) (prZ 3 4 16) = false by rw [prC_is, prZ_is]; exact vf_b] at this)
    (Lib.hid fun W h => by have := Prove_any W 3 0 16 (by decide) (by decide) (by decide) h; rwa [pr_zero.1, pr_zero.2] at this)
    (Lib.hid fun W h => by have := Text_any W 12 3 (by decide) (by decide) h; rwa [txt_b] at this) hT
end Go.Proofs.YtdaicfgoahegpaaGreatDoor.E6
