/-
  The walk of the law EqualChecks.
-/
import Derived.Test.YtdaicfgoahegpaaGreatDoorERows
import Derived.Deep.DeepCutAuto
import Derived.Deep.RegionWith
namespace Go.Proofs.YtdaicfgoahegpaaGreatDoor.E6
open Go.RowKit GM SH G4
set_option maxRecDepth 100000 in
set_option maxHeartbeats 8000000 in
theorem checks_core (w : World) (s0 s1 s2 dC dZ q0 q1 g h e a b C Z k : Int) (n : Nat) (hn6 : n < 6) (hn : Int.tmod (Int.tmod q0 6 + 6) 6 = (n : Int))
    (hq : wrap64 (Int.tmod q0 6 + 6) = Int.tmod q0 6 + 6)
    (S0 : Hid (∀ W, TS W → Calls Tryz.prog 8 #[] W fun e w' => e = .returned (.bool true) ∧ Below W.heap.size W w'))
    (E1 : Hid (∀ W, Calls Tryz.prog 9 #[.int .i64 s1] W fun ve w' => ve = .returned (.int .i64 g) ∧ w' = W))
    (E2 : Hid (∀ W, Calls Tryz.prog 9 #[.int .i64 s2] W fun ve w' => ve = .returned (.int .i64 h) ∧ w' = W))
    (X1 : Hid (∀ W, Calls Tryz.prog 12 #[.int .i64 s0] W fun ve w' => ve = .returned (.int .i64 e) ∧ w' = W))
    (P1 : Hid (∀ W, Calls Tryz.prog 15 #[.int .i64 g, .int .i64 e, .int .i64 2305843009213691579] W fun ve w' => ve = .returned (.int .i64 a) ∧ Below W.heap.size W w'))
    (P2 : Hid (∀ W, Calls Tryz.prog 15 #[.int .i64 h, .int .i64 e, .int .i64 2305843009213691579] W fun ve w' => ve = .returned (.int .i64 b) ∧ Below W.heap.size W w'))
    (PR : Hid (∀ W, Calls Tryz.prog 11 #[.int .i64 s0, .int .i64 g, .int .i64 h] W fun ve w' => ve = .returned (pfv C Z) ∧ Below W.heap.size W w'))
    (E3 : Hid (∀ W, Calls Tryz.prog 9 #[.int .i64 q1] W fun ve w' => ve = .returned (.int .i64 k) ∧ w' = W))
    (MU : Hid (∀ (x : Int), i64 x → ∀ W, Calls Tryz.prog 16 #[.int .i64 x, .int .i64 k, .int .i64 2305843009213691579] W fun ve w' => ve = .returned (.int .i64 (gm x k 2305843009213691579)) ∧ w' = W))
    (VV : Hid (∀ (g a h b C Z : Int), i64 g → i64 a → i64 h → i64 b → i64 C → i64 Z → ∃ r : Bool, ∀ W, TS W → Calls Tryz.prog 14 #[.int .i64 g, .int .i64 a, .int .i64 h, .int .i64 b, pfv C Z] W (fun ve w' => ve = .returned (.bool r) ∧ Below W.heap.size W w') ∧ Calls Tryz.prog 17 #[.int .i64 g, .int .i64 a, .int .i64 h, .int .i64 b, pfv C Z] W (fun ve w' => ve = .returned (.bool r) ∧ Below W.heap.size W w')))
    (hI : Hid (i64 s0 ∧ i64 s1 ∧ i64 s2 ∧ i64 dC ∧ i64 dZ ∧ i64 q0 ∧ i64 q1 ∧ i64 g ∧ i64 h ∧ i64 a ∧ i64 b ∧ i64 C ∧ i64 Z))
    (hT : TS w) : Calls Tryz.prog 5 #[.agg #[.int .i64 s0, .int .i64 s1, .int .i64 s2], pfv dC dZ, .agg #[.int .i64 q0, .int .i64 q1]] w fun e w' => e = .returned (.bool true) ∧ Below w.heap.size w w' := by
  have H0 := Lib.hid hT
  have HT := (((LK.start hT).new [s0, s1, s2] 33).new [dC, dZ] 25).new [q0, q1] 28
  clear hT
  have z1 : (w.alloc (.cells ([s0, s1, s2].map (Value.int .i64)).toArray 33)).heap.size = w.heap.size + 1 := by simp
  have z2 : ((w.alloc (.cells ([s0, s1, s2].map (Value.int .i64)).toArray 33)).alloc (.cells ([dC, dZ].map (Value.int .i64)).toArray 25)).heap.size = w.heap.size + 1 + 1 := by simp
  rw [z1, z2] at HT
  clear z1 z2
  obtain ⟨W, hW⟩ : ∃ W, ((w.alloc (.cells #[.int .i64 s0, .int .i64 s1, .int .i64 s2] 33)).alloc (.cells #[.int .i64 dC, .int .i64 dZ] 25)).alloc (.cells #[.int .i64 q0, .int .i64 q1] 28) = W := ⟨_, rfl⟩
  rw [show ((w.alloc (.cells ([s0, s1, s2].map (Value.int .i64)).toArray 33)).alloc (.cells ([dC, dZ].map (Value.int .i64)).toArray 25)).alloc (.cells ([q0, q1].map (Value.int .i64)).toArray 28) = W from hW] at HT
  obtain ⟨p, hp⟩ : ∃ p, w.heap.size = p := ⟨_, rfl⟩
  rw [hp] at HT
  have HT := Lib.hid HT
  have HN := Lib.hid (And.intro hn6 hn)
  go_enter Tryz.func5, Tryz.ntmps5
  go_upto_region 1 with fail
  clear hW
  go_wp2_with fail
  refine (S0.out _ HT.out.t).mono ?_
  rintro r w1 ⟨rfl, b1⟩
  have K1 := Lib.hid (HT.out.next b1); clear b1 HT
  have k0 := K1.out
  have d1 := (K1.out.get p [s0, s1, s2] 33 (by simp)).c 1 s1 rfl
  have d2 := (K1.out.get p [s0, s1, s2] 33 (by simp)).c 2 s2 rfl
  go_wp2_with fail
  go_region_held3 (fun w' => LK w w' [(p + 1 + 1, [q0, q1], 28), (p + 1, [dC, dZ], 25), (p, [s0, s1, s2], 33)] ∧ w'.cell? ⟨p, 1, none⟩ = some (.int .i64 s1) ∧ w'.cell? ⟨p, 2, none⟩ = some (.int .i64 s2))
    (first | assumption | exact ⟨k0.next (Below.drew (Below.refl _ _)), d1, d2⟩ | exact ⟨k0, d1, d2⟩)
    (first
      | (go_at_call_of 9 (Value.int .i64 s1); refine (E1.out _).mono ?_; rintro e w' ⟨rfl, rfl⟩)
      | (go_at_call_of 9 (Value.int .i64 s2); refine (E2.out _).mono ?_; rintro e w' ⟨rfl, rfl⟩))
  have K2 := Lib.hid (k0.next (Below.drew (Below.refl _ w1)))
  clear k0 d1 d2 E1 E2 K1
  generalize w1.drew = w2 at *
  have d0 := (K2.out.get p [s0, s1, s2] 33 (by simp)).c 0 s0 rfl
  go_wp2_with fail
  refine (X1.out _).mono ?_
  rintro r w9 ⟨rfl, rfl⟩
  go_wp2_with fail
  refine (P1.out _).mono ?_
  rintro r w9 ⟨rfl, b9⟩
  have K3 := Lib.hid (K2.out.next b9); clear b9 K2
  go_wp2_with fail
  refine (P2.out _).mono ?_
  rintro r w4 ⟨rfl, b9⟩
  have K4 := Lib.hid (K3.out.next b9); clear b9 K3
  clear d0
  have hm0 := Lib.hid (K4.out.get (p + 1 + 1) [q0, q1] 28 (by simp)).lt
  have m7 := AR.new w4 [0, 0, 0, 0, 0, 0] 34
  have hi7 := info6 g a h b 0 0
  go_upto_region 5 with (refine wpList_store_row rfl 34 (.tmp 11) (.tmp 37) rfl w4.heap.size #[.int .i64 g, .int .i64 a, .int .i64 h, .int .i64 b, .int .i64 0, .int .i64 0] rfl rfl 34 _ m7 hi7.out (six_size _ _ _ _ _ _ _ _ _ _ _ _) (six_one _ _ _ _ _ _) ?_)
  clear m7 hi7
  have K5 := Lib.hid (K4.out.push [0, 0, 0, 0, 0, 0] [g, a, h, b, 0, 0] 34); clear K4
  have K5 := Lib.hid (show LK w ((w4.alloc (.cells #[.int .i64 0, .int .i64 0, .int .i64 0, .int .i64 0, .int .i64 0, .int .i64 0] 34)).setRow w4.heap.size #[.int .i64 g, .int .i64 a, .int .i64 h, .int .i64 b, .int .i64 0, .int .i64 0]) _ from K5.out)
  try change Code.wp _ _ _ _ ((w4.alloc (.cells #[.int .i64 0, .int .i64 0, .int .i64 0, .int .i64 0, .int .i64 0, .int .i64 0] 34)).setRow w4.heap.size #[.int .i64 g, .int .i64 a, .int .i64 h, .int .i64 b, .int .i64 0, .int .i64 0])
  generalize hq5 : (w4.alloc (.cells #[.int .i64 0, .int .i64 0, .int .i64 0, .int .i64 0, .int .i64 0, .int .i64 0] 34)).setRow w4.heap.size #[.int .i64 g, .int .i64 a, .int .i64 h, .int .i64 b, .int .i64 0, .int .i64 0] = v4 at *
  clear hq5
  have d0 := (K5.out.get p [s0, s1, s2] 33 (by simp)).c 0 s0 rfl
  go_wp2_with fail
  clear d0
  refine (PR.out _).mono ?_
  rintro r w6 ⟨rfl, b9⟩
  have K6 := Lib.hid (K5.out.next b9); clear b9
  have hm1 := Lib.hid (K6.out.get w4.heap.size [g, a, h, b, 0, 0] 34 (by simp)).lt
  have m7 := PM.new w6 0 0
  have hi7 := infoP C Z
  go_upto_region 6 with (refine wpList_store_row rfl 25 (.tmp 12) (.tmp 42) rfl w6.heap.size #[.int .i64 C, .int .i64 Z] rfl rfl 25 _ m7 hi7.out (two_size _ _ _ _) (pf_one _ _) ?_)
  clear m7 hi7
  have K7 := Lib.hid (show LK w ((w6.alloc (.cells #[.int .i64 0, .int .i64 0] 25)).setRow w6.heap.size #[.int .i64 C, .int .i64 Z]) _ from K6.out.push [0, 0] [C, Z] 25); clear K6
  try change Code.wp _ _ _ _ ((w6.alloc (.cells #[.int .i64 0, .int .i64 0] 25)).setRow w6.heap.size #[.int .i64 C, .int .i64 Z])
  generalize hq5 : (w6.alloc (.cells #[.int .i64 0, .int .i64 0] 25)).setRow w6.heap.size #[.int .i64 C, .int .i64 Z] = v6 at *
  clear hq5
  clear K5
  generalize w4.heap.size = m0 at *
  generalize w6.heap.size = m1 at *
  have c0 := (K7.out.get m1 [C, Z] 25 (by simp)).c 0 C rfl
  have c1 := (K7.out.get m1 [C, Z] 25 (by simp)).c 1 Z rfl
  have e4 := (K7.out.get m0 [g, a, h, b, 0, 0] 34 (by simp)).c 4 0 rfl
  have e5 := (K7.out.get m0 [g, a, h, b, 0, 0] 34 (by simp)).c 5 0 rfl
  have f4 := (K7.out.get m0 [g, a, h, b, 0, 0] 34 (by simp)).f 4
  have f5 := (K7.out.get m0 [g, a, h, b, 0, 0] 34 (by simp)).f 5
  dsimp only [Act.put]
  go_cut [44] from 43 to 49 (fun _ wx => wx = ((v6.setCell ⟨m0, 4, none⟩ (.int .i64 C)).setCell ⟨m0, 5, none⟩ (.int .i64 Z)).drew)
  case first => go_region; all_goals (go_wp2_with fail; go_meet; exact rfl)
  case rest =>
  obtain rfl := hcut
  have K8 : Hid (LK w ((v6.setCell ⟨m0, 4, none⟩ (.int .i64 C)).setCell ⟨m0, 5, none⟩ (.int .i64 Z)).drew [(m0, [g, a, h, b, C, Z], 34), (m1, [C, Z], 25), (p + 1 + 1, [q0, q1], 28), (p + 1, [dC, dZ], 25), (p, [s0, s1, s2], 33)]) := Lib.hid (by
    have A := K7.out.mem (M := [(m0, [g, a, h, b, 0, 0], 34), (m1, [C, Z], 25), (p + 1 + 1, [q0, q1], 28), (p + 1, [dC, dZ], 25), (p, [s0, s1, s2], 33)]) (by
      intro x hx
      simp only [List.mem_cons, List.not_mem_nil, or_false] at hx ⊢
      rcases hx with h | h | h | h | h <;> simp [h])
    have hL : ∀ x ∈ [(m1, [C, Z], 25), (p + 1 + 1, [q0, q1], 28), (p + 1, [dC, dZ], 25), (p, [s0, s1, s2], 33)], x.1 ≠ m0 := by
      have h1 := hm0.out
      have h2 := hm1.out
      intro x hx
      simp only [List.mem_cons, List.not_mem_nil, or_false] at hx
      rcases hx with rfl | rfl | rfl | rfl
      · show m1 ≠ m0; omega
      · show p + 1 + 1 ≠ m0; omega
      · show p + 1 ≠ m0; omega
      · show p ≠ m0; omega
    exact ((A.set H0.out hL 4 C).set H0.out hL 5 Z).next (Below.drew (Below.refl _ _)))
  clear c0 c1 e4 e5 f4 f5 K7
  generalize ((v6.setCell ⟨m0, 4, none⟩ (.int .i64 C)).setCell ⟨m0, 5, none⟩ (.int .i64 Z)).drew = v7 at *
  have hl7 := K8.out.get m0 [g, a, h, b, C, Z] 34 (by simp)
  have hi7 := info6 g a h b C Z
  have m7 := AR.new v7 [0, 0, 0, 0, 0, 0] 34
  go_upto_region 8 with (first | (refine wpList_load_row rfl 34 (.tmp 11) rfl m0 rfl 34 #[.int .i64 g, .int .i64 a, .int .i64 h, .int .i64 b, .int .i64 C, .int .i64 Z] (0, 0) _ hl7 Tryz.underlying34 rfl hi7.out ?_) | (refine wpList_store_row rfl 34 (.tmp 13) (.tmp 49) rfl v7.heap.size #[.int .i64 g, .int .i64 a, .int .i64 h, .int .i64 b, .int .i64 C, .int .i64 Z] rfl rfl 34 _ m7 hi7.out (six_size _ _ _ _ _ _ _ _ _ _ _ _) (six_one _ _ _ _ _ _) ?_))
  clear hl7 m7
  have hm2 := Lib.hid (K8.out.get m0 [g, a, h, b, C, Z] 34 (by simp)).lt
  have hm2' := Lib.hid (K8.out.get m1 [C, Z] 25 (by simp)).lt
  have K9 := Lib.hid (show LK w ((v7.alloc (.cells #[.int .i64 0, .int .i64 0, .int .i64 0, .int .i64 0, .int .i64 0, .int .i64 0] 34)).setRow v7.heap.size #[.int .i64 g, .int .i64 a, .int .i64 h, .int .i64 b, .int .i64 C, .int .i64 Z]) _ from K8.out.push [0, 0, 0, 0, 0, 0] [g, a, h, b, C, Z] 34); clear K8
  try change Code.wp _ _ _ _ ((v7.alloc (.cells #[.int .i64 0, .int .i64 0, .int .i64 0, .int .i64 0, .int .i64 0, .int .i64 0] 34)).setRow v7.heap.size #[.int .i64 g, .int .i64 a, .int .i64 h, .int .i64 b, .int .i64 C, .int .i64 Z])
  generalize hq5 : (v7.alloc (.cells #[.int .i64 0, .int .i64 0, .int .i64 0, .int .i64 0, .int .i64 0, .int .i64 0] 34)).setRow v7.heap.size #[.int .i64 g, .int .i64 a, .int .i64 h, .int .i64 b, .int .i64 C, .int .i64 Z] = v8 at *
  clear hq5
  generalize v7.heap.size = m2 at *
  have c0 := (K9.out.get (p + 1 + 1) [q0, q1] 28 (by simp)).c 0 q0 rfl
  go_upto_region 9 with fail
  clear c0
  obtain ⟨x, hx⟩ : ∃ x, [g, a, h, b, C, Z][n]? = some x := ⟨[g, a, h, b, C, Z][n]'(by simp; omega), List.getElem?_eq_getElem _⟩
  have ix : Hid (i64 x) := Lib.hid (by
    have hm := List.mem_of_getElem? hx
    obtain ⟨_, _, _, _, _, _, _, ig, ih, ia, ib, iC, iZ⟩ := hI.out
    simp only [List.mem_cons, List.not_mem_nil, or_false] at hm
    rcases hm with rfl | rfl | rfl | rfl | rfl | rfl <;> assumption)
  have HX := Lib.hid hx; clear hx
  have cx := (K9.out.get m2 [g, a, h, b, C, Z] 34 (by simp)).c n x HX.out
  have fx := (K9.out.get m2 [g, a, h, b, C, Z] 34 (by simp)).f n
  have cq := (K9.out.get (p + 1 + 1) [q0, q1] 28 (by simp)).c 1 q1 rfl
  go_cut [55] from 55 to 62 (fun _ wx => wx = (v8.setCell ⟨m2, n, none⟩ (.int .i64 (wrap64 (x + q1)))).drew)
  case first => go_region; all_goals (go_wp2_with fail; go_meet; exact rfl)
  case rest =>
  obtain rfl := hcut
  clear cx fx cq
  have KA : Hid (LK w (v8.setCell ⟨m2, n, none⟩ (.int .i64 (wrap64 (x + q1)))).drew [(m2, [g, a, h, b, C, Z].set n (wrap64 (x + q1)), 34), (m0, [g, a, h, b, C, Z], 34), (m1, [C, Z], 25), (p + 1 + 1, [q0, q1], 28), (p + 1, [dC, dZ], 25), (p, [s0, s1, s2], 33)]) := Lib.hid (by
    have hL : ∀ x ∈ [(m0, [g, a, h, b, C, Z], 34), (m1, [C, Z], 25), (p + 1 + 1, [q0, q1], 28), (p + 1, [dC, dZ], 25), (p, [s0, s1, s2], 33)], x.1 ≠ m2 := by
      have h1 := hm0.out
      have h2 := hm2.out
      have h3 := hm2'.out
      intro x hx
      simp only [List.mem_cons, List.not_mem_nil, or_false] at hx
      rcases hx with rfl | rfl | rfl | rfl | rfl
      · show m0 ≠ m2; omega
      · show m1 ≠ m2; omega
      · show p + 1 + 1 ≠ m2; omega
      · show p + 1 ≠ m2; omega
      · show p ≠ m2; omega
    exact (K9.out.set H0.out hL n _).next (Below.drew (Below.refl _ _)))
  clear K9
  generalize (v8.setCell ⟨m2, n, none⟩ (.int .i64 (wrap64 (x + q1)))).drew = v9 at *
  have hl7 := KA.out.get m0 [g, a, h, b, C, Z] 34 (by simp)
  have m7 := AR.new v9 [0, 0, 0, 0, 0, 0] 34
  go_upto_region 11 with (first | (refine wpList_load_row rfl 34 (.tmp 11) rfl m0 rfl 34 #[.int .i64 g, .int .i64 a, .int .i64 h, .int .i64 b, .int .i64 C, .int .i64 Z] (0, 0) _ hl7 Tryz.underlying34 rfl hi7.out ?_) | (refine wpList_store_row rfl 34 (.tmp 15) (.tmp 62) rfl v9.heap.size #[.int .i64 g, .int .i64 a, .int .i64 h, .int .i64 b, .int .i64 C, .int .i64 Z] rfl rfl 34 _ m7 hi7.out (six_size _ _ _ _ _ _ _ _ _ _ _ _) (six_one _ _ _ _ _ _) ?_))
  clear hl7 m7
  have hm3 := Lib.hid (KA.out.get m2 ([g, a, h, b, C, Z].set n (wrap64 (x + q1))) 34 List.mem_cons_self).lt
  have hm3' := Lib.hid (KA.out.get m0 [g, a, h, b, C, Z] 34 (by simp)).lt
  have hm3'' := Lib.hid (KA.out.get m1 [C, Z] 25 (by simp)).lt
  have KB := Lib.hid (show LK w ((v9.alloc (.cells #[.int .i64 0, .int .i64 0, .int .i64 0, .int .i64 0, .int .i64 0, .int .i64 0] 34)).setRow v9.heap.size #[.int .i64 g, .int .i64 a, .int .i64 h, .int .i64 b, .int .i64 C, .int .i64 Z]) _ from KA.out.push [0, 0, 0, 0, 0, 0] [g, a, h, b, C, Z] 34); clear KA
  try change Code.wp _ _ _ _ ((v9.alloc (.cells #[.int .i64 0, .int .i64 0, .int .i64 0, .int .i64 0, .int .i64 0, .int .i64 0] 34)).setRow v9.heap.size #[.int .i64 g, .int .i64 a, .int .i64 h, .int .i64 b, .int .i64 C, .int .i64 Z])
  generalize hq5 : (v9.alloc (.cells #[.int .i64 0, .int .i64 0, .int .i64 0, .int .i64 0, .int .i64 0, .int .i64 0] 34)).setRow v9.heap.size #[.int .i64 g, .int .i64 a, .int .i64 h, .int .i64 b, .int .i64 C, .int .i64 Z] = va at *
  clear hq5
  generalize v9.heap.size = m3 at *
  have cx := (KB.out.get m3 [g, a, h, b, C, Z] 34 (by simp)).c n x HX.out
  have fx := (KB.out.get m3 [g, a, h, b, C, Z] 34 (by simp)).f n
  have cq := (KB.out.get (p + 1 + 1) [q0, q1] 28 (by simp)).c 1 q1 rfl
  have MX := Lib.hid (MU.out x ix.out)
  have iz := Lib.hid (gm_i64 x k 2305843009213691579 (by decide) (by decide))
  generalize gm x k 2305843009213691579 = z at *
  dsimp only [Act.put]
  go_cut [63] from 63 to 72 (fun _ wx => wx = (va.setCell ⟨m3, n, none⟩ (.int .i64 z)).drew)
  case first =>
    go_region_with (first
      | (go_at_call 9; refine (E3.out _).mono ?_; rintro e w' ⟨rfl, rfl⟩)
      | (go_at_call 16; refine (MX.out _).mono ?_; rintro e w' ⟨rfl, rfl⟩))
    all_goals (go_wp2_with fail; go_meet; exact rfl)
  case rest =>
  obtain rfl := hcut
  clear cx fx cq
  have KC : Hid (LK w (va.setCell ⟨m3, n, none⟩ (.int .i64 z)).drew [(m3, [g, a, h, b, C, Z].set n z, 34), (m2, [g, a, h, b, C, Z].set n (wrap64 (x + q1)), 34), (m0, [g, a, h, b, C, Z], 34), (m1, [C, Z], 25), (p + 1 + 1, [q0, q1], 28), (p + 1, [dC, dZ], 25), (p, [s0, s1, s2], 33)]) := Lib.hid (by
    have hL : ∀ x' ∈ [(m2, [g, a, h, b, C, Z].set n (wrap64 (x + q1)), 34), (m0, [g, a, h, b, C, Z], 34), (m1, [C, Z], 25), (p + 1 + 1, [q0, q1], 28), (p + 1, [dC, dZ], 25), (p, [s0, s1, s2], 33)], x'.1 ≠ m3 := by
      have h1 := hm0.out
      have h2 := hm3.out
      have h3 := hm3'.out
      have h4 := hm3''.out
      intro x' hx'
      simp only [List.mem_cons, List.not_mem_nil, or_false] at hx'
      rcases hx' with rfl | rfl | rfl | rfl | rfl | rfl
      · show m2 ≠ m3; omega
      · show m0 ≠ m3; omega
      · show m1 ≠ m3; omega
      · show p + 1 + 1 ≠ m3; omega
      · show p + 1 ≠ m3; omega
      · show p ≠ m3; omega
    exact (KB.out.set H0.out hL n z).next (Below.drew (Below.refl _ _)))
  clear KB
  generalize (va.setCell ⟨m3, n, none⟩ (.int .i64 z)).drew = vb at *
  obtain ⟨is0, is1, is2, idC, idZ, iq0, iq1, ig, ih, ia, ib, iC, iZ⟩ := hI.out
  obtain ⟨y0, y1, y2, y3, y4, y5, ey, iy0, iy1, iy2, iy3, iy4, iy5⟩ := set_six g a h b C Z (wrap64 (x + q1)) n hn6 ig ia ih ib iC iZ (wrap_i64 _)
  obtain ⟨t0, t1, t2, t3, t4, t5, et, it0, it1, it2, it3, it4, it5⟩ := set_six g a h b C Z z n hn6 ig ia ih ib iC iZ iz.out
  rw [ey, et] at KC
  have IY := Lib.hid (And.intro iy0 (And.intro iy1 (And.intro iy2 (And.intro iy3 (And.intro iy4 iy5)))))
  have IT := Lib.hid (And.intro it0 (And.intro it1 (And.intro it2 (And.intro it3 (And.intro it4 it5)))))
  clear ey et iy0 iy1 iy2 iy3 iy4 iy5 it0 it1 it2 it3 it4 it5 is0 is1 is2 idC idZ iq0 iq1 ig ih ia ib iC iZ hm0 hm1 hm2 hm2' hm3 hm3' hm3'' HN hn hn6 hq ix HX MX iz MU S0 E3 X1 P1 P2 PR
  have A0 := KC.out.get m0 [g, a, h, b, C, Z] 34 (by simp)
  have A2 := KC.out.get m2 [y0, y1, y2, y3, y4, y5] 34 (by simp)
  have A3 := KC.out.get m3 [t0, t1, t2, t3, t4, t5] 34 (by simp)
  have cl1 := A0.c 1 a rfl
  have cl3 := A0.c 3 b rfl
  have cp0 := (KC.out.get (p + 1) [dC, dZ] 25 (by simp)).c 0 dC rfl
  have cp1 := (KC.out.get (p + 1) [dC, dZ] 25 (by simp)).c 1 dZ rfl
  have cs0 := (KC.out.get p [s0, s1, s2] 33 (by simp)).c 0 s0 rfl
  have cs1 := (KC.out.get p [s0, s1, s2] 33 (by simp)).c 1 s1 rfl
  have cs2 := (KC.out.get p [s0, s1, s2] 33 (by simp)).c 2 s2 rfl
  have cq1 := (KC.out.get (p + 1 + 1) [q0, q1] 28 (by simp)).c 1 q1 rfl
  have hj2 := info6 y0 y1 y2 y3 y4 y5
  have hj3 := info6 t0 t1 t2 t3 t4 t5
  go_wp2_with (first | (refine wpList_load_row rfl 34 (.tmp 11) rfl m0 rfl 34 #[.int .i64 g, .int .i64 a, .int .i64 h, .int .i64 b, .int .i64 C, .int .i64 Z] (0, 0) _ A0 Tryz.underlying34 rfl hi7.out ?_) | (refine wpList_load_row rfl 34 (.tmp 13) rfl m2 rfl 34 #[.int .i64 y0, .int .i64 y1, .int .i64 y2, .int .i64 y3, .int .i64 y4, .int .i64 y5] (0, 0) _ A2 Tryz.underlying34 rfl hj2.out ?_) | (refine wpList_load_row rfl 34 (.tmp 15) rfl m3 rfl 34 #[.int .i64 t0, .int .i64 t1, .int .i64 t2, .int .i64 t3, .int .i64 t4, .int .i64 t5] (0, 0) _ A3 Tryz.underlying34 rfl hj3.out ?_))
  clear cl1 cl3 cp0 cp1 cs0 cs1 cs2 cq1 hj2 hj3 A0 A2 A3 hi7
  have KD : Hid (LK w (vb.alloc (.cells ([g, a, h, b, C, Z, y0, y1, y2, y3, y4, y5, t0, t1, t2, t3, t4, t5, g, a, h, b, dC, dZ, s0, s1, s2, q1, dC, dZ].map (Value.int .i64)).toArray 34)) [(vb.heap.size, [g, a, h, b, C, Z, y0, y1, y2, y3, y4, y5, t0, t1, t2, t3, t4, t5, g, a, h, b, dC, dZ, s0, s1, s2, q1, dC, dZ], 34)]) := Lib.hid ((KC.out.new [g, a, h, b, C, Z, y0, y1, y2, y3, y4, y5, t0, t1, t2, t3, t4, t5, g, a, h, b, dC, dZ, s0, s1, s2, q1, dC, dZ] 34).mem (by intro x hx; simp only [List.mem_cons, List.not_mem_nil, or_false] at hx ⊢; exact .inl hx))
  have hI5 : Hid (∀ k, k < 5 → ∃ x0 x1 x2 x3 x4 x5, [g, a, h, b, C, Z, y0, y1, y2, y3, y4, y5, t0, t1, t2, t3, t4, t5, g, a, h, b, dC, dZ, s0, s1, s2, q1, dC, dZ][k * 6]? = some x0 ∧ [g, a, h, b, C, Z, y0, y1, y2, y3, y4, y5, t0, t1, t2, t3, t4, t5, g, a, h, b, dC, dZ, s0, s1, s2, q1, dC, dZ][k * 6 + 1]? = some x1 ∧ [g, a, h, b, C, Z, y0, y1, y2, y3, y4, y5, t0, t1, t2, t3, t4, t5, g, a, h, b, dC, dZ, s0, s1, s2, q1, dC, dZ][k * 6 + 2]? = some x2 ∧ [g, a, h, b, C, Z, y0, y1, y2, y3, y4, y5, t0, t1, t2, t3, t4, t5, g, a, h, b, dC, dZ, s0, s1, s2, q1, dC, dZ][k * 6 + 3]? = some x3 ∧ [g, a, h, b, C, Z, y0, y1, y2, y3, y4, y5, t0, t1, t2, t3, t4, t5, g, a, h, b, dC, dZ, s0, s1, s2, q1, dC, dZ][k * 6 + 4]? = some x4 ∧ [g, a, h, b, C, Z, y0, y1, y2, y3, y4, y5, t0, t1, t2, t3, t4, t5, g, a, h, b, dC, dZ, s0, s1, s2, q1, dC, dZ][k * 6 + 5]? = some x5 ∧ i64 x0 ∧ i64 x1 ∧ i64 x2 ∧ i64 x3 ∧ i64 x4 ∧ i64 x5) := Lib.hid (by
    obtain ⟨is0, is1, is2, idC, idZ, iq0, iq1, ig, ih, ia, ib, iC, iZ⟩ := hI.out
    obtain ⟨iy0, iy1, iy2, iy3, iy4, iy5⟩ := IY.out
    obtain ⟨it0, it1, it2, it3, it4, it5⟩ := IT.out
    intro k hk
    match k, hk with
    | 0, _ => exact ⟨_, _, _, _, _, _, rfl, rfl, rfl, rfl, rfl, rfl, ig, ia, ih, ib, iC, iZ⟩
    | 1, _ => exact ⟨_, _, _, _, _, _, rfl, rfl, rfl, rfl, rfl, rfl, iy0, iy1, iy2, iy3, iy4, iy5⟩
    | 2, _ => exact ⟨_, _, _, _, _, _, rfl, rfl, rfl, rfl, rfl, rfl, it0, it1, it2, it3, it4, it5⟩
    | 3, _ => exact ⟨_, _, _, _, _, _, rfl, rfl, rfl, rfl, rfl, rfl, ig, ia, ih, ib, idC, idZ⟩
    | 4, _ => exact ⟨_, _, _, _, _, _, rfl, rfl, rfl, rfl, rfl, rfl, is0, is1, is2, iq1, idC, idZ⟩)
  have KD : Hid (LK w (vb.alloc (.cells #[.int .i64 g, .int .i64 a, .int .i64 h, .int .i64 b, .int .i64 C, .int .i64 Z, .int .i64 y0, .int .i64 y1, .int .i64 y2, .int .i64 y3, .int .i64 y4, .int .i64 y5, .int .i64 t0, .int .i64 t1, .int .i64 t2, .int .i64 t3, .int .i64 t4, .int .i64 t5, .int .i64 g, .int .i64 a, .int .i64 h, .int .i64 b, .int .i64 dC, .int .i64 dZ, .int .i64 s0, .int .i64 s1, .int .i64 s2, .int .i64 q1, .int .i64 dC, .int .i64 dZ] 34)) [(vb.heap.size, [g, a, h, b, C, Z, y0, y1, y2, y3, y4, y5, t0, t1, t2, t3, t4, t5, g, a, h, b, dC, dZ, s0, s1, s2, q1, dC, dZ], 34)]) := KD
  clear KC IY IT hI
  generalize vb.alloc (.cells #[.int .i64 g, .int .i64 a, .int .i64 h, .int .i64 b, .int .i64 C, .int .i64 Z, .int .i64 y0, .int .i64 y1, .int .i64 y2, .int .i64 y3, .int .i64 y4, .int .i64 y5, .int .i64 t0, .int .i64 t1, .int .i64 t2, .int .i64 t3, .int .i64 t4, .int .i64 t5, .int .i64 g, .int .i64 a, .int .i64 h, .int .i64 b, .int .i64 dC, .int .i64 dZ, .int .i64 s0, .int .i64 s1, .int .i64 s2, .int .i64 q1, .int .i64 dC, .int .i64 dZ] 34) = vc at *
  generalize vb.heap.size = bS at *
  generalize [g, a, h, b, C, Z, y0, y1, y2, y3, y4, y5, t0, t1, t2, t3, t4, t5, g, a, h, b, dC, dZ, s0, s1, s2, q1, dC, dZ] = L at *
  go_loopw [101] (fun i wr => ∃ (k : Nat), k ≤ 5 ∧ i = .int .i64 (k : Int) ∧ Hid (LK w wr [(bS, L, 34)])) (fun i _ => 5 - (match i with | .int _ i => i.toNat | _ => 0))
  case atStart => exact ⟨0, Nat.zero_le _, rfl, KD⟩
  case round =>
    obtain ⟨k, hk, rfl, hK⟩ := hrel
    by_cases hlt : k < 5
    · obtain ⟨x0, x1, x2, x3, x4, x5, e0, e1, e2, e3, e4, e5, i0, i1, i2, i3, i4, i5⟩ := hI5.out k hlt
      have AL := hK.out.get bS L 34 (by simp)
      have c0 := AL.c _ _ e0
      have c1 := AL.c _ _ e1
      have c2 := AL.c _ _ e2
      have c3 := AL.c _ _ e3
      have c4 := AL.c _ _ e4
      have c5 := AL.c _ _ e5
      have II := Lib.hid (And.intro i0 (And.intro i1 (And.intro i2 (And.intro i3 (And.intro i4 i5)))))
      clear e0 e1 e2 e3 e4 e5 i0 i1 i2 i3 i4 i5 AL
      have hi8 := info6 x0 x1 x2 x3 x4 x5
      have m8 := AR.new wr [0, 0, 0, 0, 0, 0] 34
      go_upto_region 15 with (refine wpList_store_row rfl 34 (.tmp 17) (.tmp 104) rfl wr.heap.size #[.int .i64 x0, .int .i64 x1, .int .i64 x2, .int .i64 x3, .int .i64 x4, .int .i64 x5] rfl rfl 34 _ m8 hi8.out (six_size _ _ _ _ _ _ _ _ _ _ _ _) (six_one _ _ _ _ _ _) ?_)
      clear m8 hi8 c0 c1 c2 c3 c4 c5
      have N1 := Lib.hid (show LK w ((wr.alloc (.cells #[.int .i64 0, .int .i64 0, .int .i64 0, .int .i64 0, .int .i64 0, .int .i64 0] 34)).setRow wr.heap.size #[.int .i64 x0, .int .i64 x1, .int .i64 x2, .int .i64 x3, .int .i64 x4, .int .i64 x5]) _ from hK.out.push [0, 0, 0, 0, 0, 0] [x0, x1, x2, x3, x4, x5] 34)
      try change Code.wp _ _ _ _ ((wr.alloc (.cells #[.int .i64 0, .int .i64 0, .int .i64 0, .int .i64 0, .int .i64 0, .int .i64 0] 34)).setRow wr.heap.size #[.int .i64 x0, .int .i64 x1, .int .i64 x2, .int .i64 x3, .int .i64 x4, .int .i64 x5])
      generalize hq5 : (wr.alloc (.cells #[.int .i64 0, .int .i64 0, .int .i64 0, .int .i64 0, .int .i64 0, .int .i64 0] 34)).setRow wr.heap.size #[.int .i64 x0, .int .i64 x1, .int .i64 x2, .int .i64 x3, .int .i64 x4, .int .i64 x5] = v1 at *
      clear hq5
      generalize wr.heap.size = b1 at *
      have c4 := (N1.out.get b1 [x0, x1, x2, x3, x4, x5] 34 (by simp)).c 4 x4 rfl
      have c5 := (N1.out.get b1 [x0, x1, x2, x3, x4, x5] 34 (by simp)).c 5 x5 rfl
      have m9 := PM.new v1 0 0
      have hi9 := infoP x4 x5
      go_upto_region 16 with (refine wpList_store_row rfl 25 (.tmp 18) (.tmp 109) rfl v1.heap.size #[.int .i64 x4, .int .i64 x5] rfl rfl 25 _ m9 hi9.out (two_size _ _ _ _) (pf_one _ _) ?_)
      clear m9 hi9 c4 c5
      have N2 := Lib.hid (show LK w ((v1.alloc (.cells #[.int .i64 0, .int .i64 0] 25)).setRow v1.heap.size #[.int .i64 x4, .int .i64 x5]) _ from N1.out.push [0, 0] [x4, x5] 25); clear N1
      try change Code.wp _ _ _ _ ((v1.alloc (.cells #[.int .i64 0, .int .i64 0] 25)).setRow v1.heap.size #[.int .i64 x4, .int .i64 x5])
      generalize hq5 : (v1.alloc (.cells #[.int .i64 0, .int .i64 0] 25)).setRow v1.heap.size #[.int .i64 x4, .int .i64 x5] = v2 at *
      clear hq5
      generalize v1.heap.size = b2 at *
      obtain ⟨i0, i1, i2, i3, i4, i5⟩ := II.out
      obtain ⟨r, hr⟩ := VV.out x0 x1 x2 x3 x4 x5 i0 i1 i2 i3 i4 i5
      have R1 := Lib.hid fun W t => (hr W t).1
      have R2 := Lib.hid fun W t => (hr W t).2
      clear hr i0 i1 i2 i3 i4 i5 II
      have N3 := Lib.hid (N2.out.mem (M := [(bS, L, 34)]) (by intro x hx; simp only [List.mem_cons, List.not_mem_nil, or_false] at hx ⊢; exact .inr (.inr hx)))
      have k0 := N3.out
      have c0 := (N2.out.get b1 [x0, x1, x2, x3, x4, x5] 34 (by simp)).c 0 x0 rfl
      have c1 := (N2.out.get b1 [x0, x1, x2, x3, x4, x5] 34 (by simp)).c 1 x1 rfl
      have c2 := (N2.out.get b1 [x0, x1, x2, x3, x4, x5] 34 (by simp)).c 2 x2 rfl
      have c3 := (N2.out.get b1 [x0, x1, x2, x3, x4, x5] 34 (by simp)).c 3 x3 rfl
      have d0 := (N2.out.get b2 [x4, x5] 25 (by simp)).c 0 x4 rfl
      have d1 := (N2.out.get b2 [x4, x5] 25 (by simp)).c 1 x5 rfl
      clear N2
      go_region_held3 (fun w' => LK w w' [(bS, L, 34)] ∧ w'.cell? ⟨b1, 0, none⟩ = some (.int .i64 x0) ∧ w'.cell? ⟨b1, 1, none⟩ = some (.int .i64 x1) ∧ w'.cell? ⟨b1, 2, none⟩ = some (.int .i64 x2) ∧ w'.cell? ⟨b1, 3, none⟩ = some (.int .i64 x3) ∧ w'.cell? ⟨b2, 0, none⟩ = some (.int .i64 x4) ∧ w'.cell? ⟨b2, 1, none⟩ = some (.int .i64 x5))
        (first | assumption | exact ⟨k0.next (Below.drew (Below.refl _ _)), c0, c1, c2, c3, d0, d1⟩ | exact ⟨k0, c0, c1, c2, c3, d0, d1⟩ | exact six_keep (by assumption) b)
        (first
          | (go_at_call 14; refine (R1.out _ (LK.t (And.left (by assumption)))).mono ?_; rintro e w' ⟨rfl, b⟩)
          | (go_at_call 17; refine (R2.out _ (LK.t (And.left (by assumption)))).mono ?_; rintro e w' ⟨rfl, b⟩))
      all_goals (rename_i hH; have K9 := Lib.hid (And.left hH); clear hH k0 c0 c1 c2 c3 d0 d1)
      all_goals go_wp2
      all_goals exact ⟨⟨k + 1, by omega, by simp, K9⟩, by simp; omega⟩
    · obtain rfl : k = 5 := by omega
      go_wp2
      go_ret
      exact ⟨rfl, hK.out.b⟩
end Go.Proofs.YtdaicfgoahegpaaGreatDoor.E6
