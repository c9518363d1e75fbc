/-
  The walk of the law EqualFalse.
-/
import Derived.Test.YtdaicfgoahegpaaGreatDoorEMany
namespace Go.Proofs.YtdaicfgoahegpaaGreatDoor.E6
open Go.RowKit GM SH G4
set_option maxRecDepth 100000 in
set_option maxHeartbeats 8000000 in
theorem false_core (w : World) (x y q0 q1 g h i j a bb c C Z D u1 u2 u3 u4 u5 r s t e1 e2 : Int) (hD : 1152921504606845789 - C = D) (hC0 : 0 ≤ C) (hC1 : C < 1152921504606845789)
    (S0 : Hid (∀ W, TS W → Calls Tryz.prog 8 #[] W fun e w' => e = .returned (.bool true) ∧ Below W.heap.size W w'))
    (E1 : Hid (∀ W, Calls Tryz.prog 9 #[.int .i64 q0] W fun ve w' => ve = .returned (.int .i64 g) ∧ w' = W))
    (E2 : Hid (∀ W, Calls Tryz.prog 9 #[.int .i64 q1] W fun ve w' => ve = .returned (.int .i64 h) ∧ w' = W))
    (X1 : Hid (∀ W, Calls Tryz.prog 12 #[.int .i64 x] W fun ve w' => ve = .returned (.int .i64 i) ∧ w' = W))
    (X2 : Hid (∀ W, Calls Tryz.prog 12 #[.int .i64 y] W fun ve w' => ve = .returned (.int .i64 j) ∧ w' = W))
    (P1 : Hid (∀ W, Calls Tryz.prog 15 #[.int .i64 g, .int .i64 i, .int .i64 2305843009213691579] W fun ve w' => ve = .returned (.int .i64 a) ∧ Below W.heap.size W w'))
    (P2 : Hid (∀ W, Calls Tryz.prog 15 #[.int .i64 h, .int .i64 j, .int .i64 2305843009213691579] W fun ve w' => ve = .returned (.int .i64 bb) ∧ Below W.heap.size W w'))
    (P3 : Hid (∀ W, Calls Tryz.prog 15 #[.int .i64 h, .int .i64 i, .int .i64 2305843009213691579] W fun ve w' => ve = .returned (.int .i64 c) ∧ Below W.heap.size W w'))
    (PR : Hid (∀ W, TS W → Calls Tryz.prog 10 #[.int .i64 x, .int .i64 g, .int .i64 h] W fun ve w' => ve = .returned (pfv C Z) ∧ Below W.heap.size W w'))
    (V0 : Hid (bb = c → ∀ W, TS W → Calls Tryz.prog 14 #[.int .i64 g, .int .i64 a, .int .i64 h, .int .i64 bb, pfv C Z] W fun ve w' => ve = .returned (.bool (true)) ∧ Below W.heap.size W w'))
    (R1 : Hid (∀ W, Calls Tryz.prog 15 #[.int .i64 g, .int .i64 Z, .int .i64 2305843009213691579] W fun ve w' => ve = .returned (.int .i64 u1) ∧ Below W.heap.size W w'))
    (R2 : Hid (∀ W, Calls Tryz.prog 15 #[.int .i64 a, .int .i64 D, .int .i64 2305843009213691579] W fun ve w' => ve = .returned (.int .i64 u2) ∧ Below W.heap.size W w'))
    (R3 : Hid (∀ W, Calls Tryz.prog 16 #[.int .i64 u1, .int .i64 u2, .int .i64 2305843009213691579] W fun ve w' => ve = .returned (.int .i64 r) ∧ w' = W))
    (R4 : Hid (∀ W, Calls Tryz.prog 15 #[.int .i64 h, .int .i64 Z, .int .i64 2305843009213691579] W fun ve w' => ve = .returned (.int .i64 u3) ∧ Below W.heap.size W w'))
    (R5 : Hid (∀ W, Calls Tryz.prog 15 #[.int .i64 bb, .int .i64 D, .int .i64 2305843009213691579] W fun ve w' => ve = .returned (.int .i64 u4) ∧ Below W.heap.size W w'))
    (R6 : Hid (∀ W, Calls Tryz.prog 16 #[.int .i64 u3, .int .i64 u4, .int .i64 2305843009213691579] W fun ve w' => ve = .returned (.int .i64 s) ∧ w' = W))
    (R7 : Hid (∀ W, Calls Tryz.prog 15 #[.int .i64 c, .int .i64 D, .int .i64 2305843009213691579] W fun ve w' => ve = .returned (.int .i64 u5) ∧ Below W.heap.size W w'))
    (R8 : Hid (∀ W, Calls Tryz.prog 16 #[.int .i64 u3, .int .i64 u5, .int .i64 2305843009213691579] W fun ve w' => ve = .returned (.int .i64 t) ∧ w' = W))
    (H1 : Hid (∀ W : World, Calls Tryz.prog 18 #[.slice (some ⟨W.heap.size, 0, none⟩) 6 6] (W.alloc (.cells #[.int .i64 g, .int .i64 a, .int .i64 h, .int .i64 bb, .int .i64 r, .int .i64 s] 3)) fun e w' => e = .returned (.int .i64 e1) ∧ Below W.heap.size W w'))
    (H2 : Hid (∀ W : World, Calls Tryz.prog 18 #[.slice (some ⟨W.heap.size, 0, none⟩) 6 6] (W.alloc (.cells #[.int .i64 g, .int .i64 a, .int .i64 h, .int .i64 c, .int .i64 r, .int .i64 t] 3)) fun e w' => e = .returned (.int .i64 e2) ∧ Below W.heap.size W w'))
    (V1 : Hid (∀ W, TS W → Calls Tryz.prog 14 #[.int .i64 g, .int .i64 a, .int .i64 h, .int .i64 bb, pfv C Z] W fun ve w' => ve = .returned (.bool (e1 == e2)) ∧ Below W.heap.size W w'))
    (hT : TS w) : Calls Tryz.prog 6 #[.int .i64 x, .int .i64 y, .agg #[.int .i64 q0, .int .i64 q1]] w fun e w' => e = .returned (.bool true) ∧ Below w.heap.size w w' := by
  have x1 : IntKind.i64.wrap D = D := IntWalk.i64_in _ ⟨by omega, by omega⟩
  have x2 : wrap64 D = D := by unfold wrap64; omega
  have HT := sk_start hT; clear hT
  obtain ⟨W, hW⟩ : ∃ W, w.alloc (.cells #[.int .i64 q0, .int .i64 q1] 28) = W := ⟨_, rfl⟩
  have HT := HT.next (show Below w.heap.size w W by rw [← hW]; exact (Below.refl _ w).alloc (Nat.le_refl _) _)
  have d0 : W.cell? ⟨w.heap.size, 0, none⟩ = some (.int .i64 q0) := by rw [← hW]; exact World.cell?_alloc_at _ _ _ _ rfl
  have d1 : W.cell? ⟨w.heap.size, 1, none⟩ = some (.int .i64 q1) := by rw [← hW]; exact World.cell?_alloc_at _ _ _ _ rfl
  obtain ⟨p, hp⟩ : ∃ p, w.heap.size = p := ⟨_, rfl⟩
  rw [hp] at d0 d1
  have HT := Lib.hid (And.intro HT (And.intro d0 d1)); clear d0 d1
  go_enter Tryz.func6, Tryz.ntmps6
  go_upto_region 1 with fail
  clear hW
  go_wp2_with fail
  refine (S0.out _ HT.out.1.t).mono ?_
  rintro r w1 ⟨rfl, b1⟩
  have K1 := Lib.hid (two_keep HT.out b1); clear b1 HT
  obtain ⟨k0, d0, d1⟩ := K1.out
  go_wp2_with fail
  go_region_held3 (fun w' => SK w w' [] ∧ w'.cell? ⟨p, 0, none⟩ = some (.int .i64 q0) ∧ w'.cell? ⟨p, 1, none⟩ = some (.int .i64 q1))
    (first | assumption | exact ⟨k0.next (Below.drew (Below.refl _ _)), d0, d1⟩ | exact ⟨k0, d0, d1⟩)
    (first
      | (go_at_call_of 9 (Value.int .i64 q0); refine (E1.out _).mono ?_; rintro e w' ⟨rfl, rfl⟩)
      | (go_at_call_of 9 (Value.int .i64 q1); refine (E2.out _).mono ?_; rintro e w' ⟨rfl, rfl⟩))
  have K2 : Hid (SK w w1.drew []) := Lib.hid (k0.next (Below.drew (Below.refl _ _)))
  clear k0 d0 d1 E1 E2 K1
  generalize w1.drew = w2 at *
  go_wp2_with fail
  refine (X1.out _).mono ?_
  rintro r w9 ⟨rfl, rfl⟩
  go_wp2_with fail
  refine (X2.out _).mono ?_
  rintro r w9 ⟨rfl, rfl⟩
  go_wp2_with fail
  refine (P1.out _).mono ?_
  rintro r w9 ⟨rfl, b9⟩
  have K3 := Lib.hid (K2.out.next b9); clear b9 K2
  go_wp2_with fail
  refine (P2.out _).mono ?_
  rintro r w9 ⟨rfl, b9⟩
  have K4 := Lib.hid (K3.out.next b9); clear b9 K3
  go_wp2_with fail
  refine (P3.out _).mono ?_
  rintro r w9 ⟨rfl, b9⟩
  have K5 := Lib.hid (K4.out.next b9); clear b9 K4
  go_wp2_with fail
  refine (PR.out _ K5.out.t).mono ?_
  rintro r5 w5 ⟨rfl, b9⟩
  have K6 := Lib.hid (K5.out.next b9); clear b9 K5
  have m7 := PM.new w5 0 0
  have hi7 := infoP (C) (Z)
  go_upto_region 6 with (refine wpList_store_row rfl 25 (.tmp 15) (.tmp 43) rfl w5.heap.size #[.int .i64 (C), .int .i64 (Z)] rfl rfl 25 _ m7 hi7.out (two_size _ _ _ _) (pf_one _ _) ?_)
  clear m7 hi7
  have K7 := Lib.hid (K6.out.push (C) (Z)); clear K6
  try change Code.wp _ _ _ _ ((w5.alloc (.cells #[.int .i64 0, .int .i64 0] 25)).setRow w5.heap.size #[.int .i64 (C), .int .i64 (Z)])
  generalize hq : (w5.alloc (.cells #[.int .i64 0, .int .i64 0] 25)).setRow w5.heap.size #[.int .i64 (C), .int .i64 (Z)] = v5 at *
  clear hq
  have k0 := K7.out
  have c0 := (K7.out.get w5.heap.size C Z (by simp)).c0
  have c1 := (K7.out.get w5.heap.size C Z (by simp)).c1
  generalize w5.heap.size = m at *
  clear K7
  by_cases hbc : bb = c
  · have V0 := Lib.hid (V0.out hbc)
    have ebc : (bb == c) = true := beq_iff_eq.2 hbc
    have K7 := Lib.hid k0
    clear hbc k0 V1
    go_wp2_with fail
    refine (V0.out _ K7.out.t).mono ?_
    rintro r w9 ⟨rfl, b9⟩
    have K8 := Lib.hid (K7.out.next b9); clear b9 K7
    go_wp2
    go_ret
    exact ⟨rfl, K8.out.b⟩
  have ebc : (bb == c) = false := beq_eq_false_iff_ne.2 hbc
  clear hbc V0
  go_wp2_with fail
  go_region_held3 (fun w' => SK w w' [(m, C, Z)] ∧ w'.cell? ⟨m, 0, none⟩ = some (.int .i64 C) ∧ w'.cell? ⟨m, 1, none⟩ = some (.int .i64 Z))
    (first | assumption | exact ⟨k0.next (Below.drew (Below.refl _ _)), c0, c1⟩ | exact ⟨k0, c0, c1⟩ | exact two_keep (by assumption) b)
    (first
      | (go_at_call_of 15 (Value.int .i64 g); refine (R1.out _).mono ?_; rintro e w' ⟨rfl, b⟩)
      | (go_at_call_of 15 (Value.int .i64 a); refine (R2.out _).mono ?_; rintro e w' ⟨rfl, b⟩)
      | (go_at_call 16; refine (R3.out _).mono ?_; rintro e w' ⟨rfl, rfl⟩))
  rename_i hH
  have M1 := Lib.hid hH
  clear k0 c0 c1 hH
  obtain ⟨k0, c0, c1⟩ := M1.out
  go_wp2_with fail
  go_region_held3 (fun w' => SK w w' [(m, C, Z)] ∧ w'.cell? ⟨m, 0, none⟩ = some (.int .i64 C) ∧ w'.cell? ⟨m, 1, none⟩ = some (.int .i64 Z))
    (first | assumption | exact ⟨k0.next (Below.drew (Below.refl _ _)), c0, c1⟩ | exact ⟨k0, c0, c1⟩ | exact two_keep (by assumption) b)
    (first
      | (go_at_call_of 15 (Value.int .i64 h); refine (R4.out _).mono ?_; rintro e w' ⟨rfl, b⟩)
      | (go_at_call_of 15 (Value.int .i64 bb); refine (R5.out _).mono ?_; rintro e w' ⟨rfl, b⟩)
      | (go_at_call 16; refine (R6.out _).mono ?_; rintro e w' ⟨rfl, rfl⟩))
  rename_i hH
  have M2 := Lib.hid hH
  clear k0 c0 c1 hH
  obtain ⟨k0, c0, c1⟩ := M2.out
  go_wp2_with fail
  go_region_held3 (fun w' => SK w w' [(m, C, Z)] ∧ w'.cell? ⟨m, 0, none⟩ = some (.int .i64 C) ∧ w'.cell? ⟨m, 1, none⟩ = some (.int .i64 Z))
    (first | assumption | exact ⟨k0.next (Below.drew (Below.refl _ _)), c0, c1⟩ | exact ⟨k0, c0, c1⟩ | exact two_keep (by assumption) b)
    (first
      | (go_at_call_of 15 (Value.int .i64 h); refine (R4.out _).mono ?_; rintro e w' ⟨rfl, b⟩)
      | (go_at_call_of 15 (Value.int .i64 c); refine (R7.out _).mono ?_; rintro e w' ⟨rfl, b⟩)
      | (go_at_call 16; refine (R8.out _).mono ?_; rintro e w' ⟨rfl, rfl⟩))
  rename_i hH
  have M3 := Lib.hid hH
  clear k0 c0 c1 hH
  obtain ⟨k0, c0, c1⟩ := M3.out
  clear c0 c1
  have K8 := Lib.hid k0
  clear k0 M1 M2 M3
  go_wp2_with fail
  refine (H1.out _).mono ?_
  rintro r w9 ⟨rfl, b9⟩
  have K9 := Lib.hid (K8.out.next b9); clear b9 K8
  go_wp2_with fail
  refine (H2.out _).mono ?_
  rintro r w9 ⟨rfl, b9⟩
  have KA := Lib.hid (K9.out.next b9); clear b9 K9
  have c0 := (KA.out.get m C Z (by simp)).c0
  have c1 := (KA.out.get m C Z (by simp)).c1
  go_wp2_with fail
  clear c0 c1
  refine (V1.out _ KA.out.t).mono ?_
  rintro r w9 ⟨rfl, b9⟩
  have KB := Lib.hid (KA.out.next b9); clear b9 KA
  go_wp2
  go_ret
  exact ⟨rfl, KB.out.b⟩
theorem false_walk (w : World) (x y q0 q1 : Int) (hx : i64 x) (hy : i64 y) (h0 : i64 q0) (h1 : i64 q1) (hT : TS w) :
    Calls Tryz.prog 6 #[.int .i64 x, .int .i64 y, .agg #[.int .i64 q0, .int .i64 q1]] w fun e w' => e = .returned (.bool true) ∧ Below w.heap.size w w' := by
  have mg := em_mem q0
  have mh := em_mem q1
  have rc := prC_rng x (em q0) (em q1)
  have rz := prZ_rng x (em q0) (em q1)
  have hv := vf_holds x (em q0) (em q1) mg mh
  have hs := vf_same x (em q0) (em q1) (pp (em q1) (ex y)) mg mh (pp_mem mh _ (ex_rng y).1)
  have L6 : ∀ a b c d e f : Int, i64 a → i64 b → i64 c → i64 d → i64 e → i64 f → ∀ z ∈ [a, b, c, d, e, f], i64 z := by
    intro a b c d e f ha hb hc hd he hf
    simp only [List.mem_cons, List.not_mem_nil, or_false, forall_eq_or_imp, forall_eq]
    exact ⟨ha, hb, hc, hd, he, hf⟩
  have hD : i64 (1152921504606845789 - prC x (em q0) (em q1)) := ⟨by omega, by omega⟩
  exact false_core w x y q0 q1 (em q0) (em q1) (ex x) (ex y) (pp (em q0) (ex x)) (pp (em q1) (ex y)) (pp (em q1) (ex x)) (prC x (em q0) (em q1)) (prZ x (em q0) (em q1)) _ _ _ _ _ _
    (sd (em q0) (pp (em q0) (ex x)) (prC x (em q0) (em q1)) (prZ x (em q0) (em q1))) (sd (em q1) (pp (em q1) (ex y)) (prC x (em q0) (em q1)) (prZ x (em q0) (em q1))) (sd (em q1) (pp (em q1) (ex x)) (prC x (em q0) (em q1)) (prZ x (em q0) (em q1))) _ _ rfl rc.1 rc.2
    (Lib.hid fun W t => sanity_any W t) (Lib.hid fun W => refElement_any W q0 h0) (Lib.hid fun W => refElement_any W q1 h1) (Lib.hid fun W => refExponent_any W x hx) (Lib.hid fun W => refExponent_any W y hy)
    (Lib.hid fun W => pow_k W _ _ _ _ (pp_def _ _) (em_i64 _).1 (em_i64 _).2 (ex_i64 _).2 (by decide))
    (Lib.hid fun W => pow_k W _ _ _ _ (pp_def _ _) (em_i64 _).1 (em_i64 _).2 (ex_i64 _).2 (by decide))
    (Lib.hid fun W => pow_k W _ _ _ _ (pp_def _ _) (em_i64 _).1 (em_i64 _).2 (ex_i64 _).2 (by decide))
    (Lib.hid fun W t => Prove_any W x _ _ hx (em_i64 _) (em_i64 _) t)
    (Lib.hid fun hbc W t => by
      have := Verify_any W (em q0) (pp (em q0) (ex x)) (em q1) (pp (em q1) (ex y)) (prC x (em q0) (em q1)) (prZ x (em q0) (em q1)) (em_i64 _) (pp_i64 _ _) (em_i64 _) (pp_i64 _ _) (prC_i64 _ _ _) (prZ_i64 _ _ _) t
      rw [hbc, hv] at this
      rw [hbc]
      exact this)
    (Lib.hid fun W => pow_k W _ _ _ _ (pp_def _ _) (em_i64 _).1 (em_i64 _).2 (prZ_i64 _ _ _).2 (by decide))
    (Lib.hid fun W => pow_k W _ _ _ _ (pp_def _ _) (pp_i64 _ _).1 (pp_i64 _ _).2 hD.2 (by decide))
    (Lib.hid fun W => mul_k W _ _ _ _ (sd_eq _ _ _ _) (pp_i64 _ _).1 (pp_i64 _ _).2 (pp_i64 _ _).1 (pp_i64 _ _).2 (by decide))
    (Lib.hid fun W => pow_k W _ _ _ _ (pp_def _ _) (em_i64 _).1 (em_i64 _).2 (prZ_i64 _ _ _).2 (by decide))
    (Lib.hid fun W => pow_k W _ _ _ _ (pp_def _ _) (pp_i64 _ _).1 (pp_i64 _ _).2 hD.2 (by decide))
    (Lib.hid fun W => mul_k W _ _ _ _ (sd_eq _ _ _ _) (pp_i64 _ _).1 (pp_i64 _ _).2 (pp_i64 _ _).1 (pp_i64 _ _).2 (by decide))
    (Lib.hid fun W => pow_k W _ _ _ _ (pp_def _ _) (pp_i64 _ _).1 (pp_i64 _ _).2 hD.2 (by decide))
    (Lib.hid fun W => mul_k W _ _ _ _ (sd_eq _ _ _ _) (pp_i64 _ _).1 (pp_i64 _ _).2 (pp_i64 _ _).1 (pp_i64 _ _).2 (by decide))
    (Lib.hid fun W => refChallenge_new W 6 _ [_, _, _, _, _] _ rfl rfl (L6 _ _ _ _ _ _ (em_i64 _) (pp_i64 _ _) (em_i64 _) (pp_i64 _ _) (sd_i64 _ _ _ _) (sd_i64 _ _ _ _)) (by decide))
    (Lib.hid fun W => refChallenge_new W 6 _ [_, _, _, _, _] _ rfl rfl (L6 _ _ _ _ _ _ (em_i64 _) (pp_i64 _ _) (em_i64 _) (pp_i64 _ _) (sd_i64 _ _ _ _) (sd_i64 _ _ _ _)) (by decide))
    (Lib.hid fun W t => by
      rw [← hs]
      exact Verify_any W (em q0) (pp (em q0) (ex x)) (em q1) (pp (em q1) (ex y)) (prC x (em q0) (em q1)) (prZ x (em q0) (em q1)) (em_i64 _) (pp_i64 _ _) (em_i64 _) (pp_i64 _ _) (prC_i64 _ _ _) (prZ_i64 _ _ _) t) hT
end Go.Proofs.YtdaicfgoahegpaaGreatDoor.E6
