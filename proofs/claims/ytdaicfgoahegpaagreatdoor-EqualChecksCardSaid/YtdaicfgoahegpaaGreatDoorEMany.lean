/-
  The walks of the laws EqualProves and EqualMany.
-/
import Derived.Test.YtdaicfgoahegpaaGreatDoorESanW
import Derived.Test.YtdaicfgoahegpaaGreatDoorERefV
namespace Go.Proofs.YtdaicfgoahegpaaGreatDoor.E6
open Go.RowKit GM SH G4
set_option maxRecDepth 100000 in
set_option maxHeartbeats 8000000 in
theorem proves_core (w : World) (s g h x y c0 z0 c1 z1 c2 z2 : Int)
    (S0 : Hid (∀ W, TS W → Calls Tryz.prog 8 #[] W fun e w' => e = .returned (.bool true) ∧ Below W.heap.size W w'))
    (E1 : Hid (∀ W, Calls Tryz.prog 9 #[.int .i64 g] W fun ve w' => ve = .returned (.int .i64 x) ∧ w' = W))
    (E2 : Hid (∀ W, Calls Tryz.prog 9 #[.int .i64 h] W fun ve w' => ve = .returned (.int .i64 y) ∧ w' = W))
    (A1 : Hid (∀ W, TS W → Calls Tryz.prog 10 #[.int .i64 s, .int .i64 x, .int .i64 y] W fun ve w' => ve = .returned (pfv c0 z0) ∧ Below W.heap.size W w'))
    (A2 : Hid (∀ W, Calls Tryz.prog 11 #[.int .i64 s, .int .i64 x, .int .i64 y] W fun ve w' => ve = .returned (pfv c0 z0) ∧ Below W.heap.size W w'))
    (B1 : Hid (∀ W, TS W → Calls Tryz.prog 10 #[.int .i64 s, .int .i64 g, .int .i64 y] W fun ve w' => ve = .returned (pfv c1 z1) ∧ Below W.heap.size W w'))
    (B2 : Hid (∀ W, Calls Tryz.prog 11 #[.int .i64 s, .int .i64 g, .int .i64 y] W fun ve w' => ve = .returned (pfv c1 z1) ∧ Below W.heap.size W w'))
    (C1 : Hid (∀ W, TS W → Calls Tryz.prog 10 #[.int .i64 s, .int .i64 x, .int .i64 h] W fun ve w' => ve = .returned (pfv c2 z2) ∧ Below W.heap.size W w'))
    (C2 : Hid (∀ W, Calls Tryz.prog 11 #[.int .i64 s, .int .i64 x, .int .i64 h] W fun ve w' => ve = .returned (pfv c2 z2) ∧ Below W.heap.size W w'))
    (hT : TS w) : Calls Tryz.prog 3 #[.int .i64 s, .int .i64 g, .int .i64 h] w fun e w' => e = .returned (.bool true) ∧ Below w.heap.size w w' := by
  have HT := Lib.hid (sk_start hT); clear hT
  go_enter Tryz.func3, Tryz.ntmps3
  go_wp2_with fail
  refine (S0.out _ HT.out.t).mono ?_
  rintro r w9 ⟨rfl, b9⟩
  have K1 := Lib.hid (HT.out.next b9); clear b9 HT
  go_wp2_with fail
  refine (E1.out _).mono ?_
  rintro r w9 ⟨rfl, rfl⟩
  go_wp2_with fail
  refine (E2.out _).mono ?_
  rintro r w9 ⟨rfl, rfl⟩
  go_wp2_with fail
  refine (A1.out _ K1.out.t).mono ?_
  rintro r w9 ⟨rfl, b9⟩
  have AK := Lib.hid (K1.out.next b9); clear b9 K1
  go_wp2_with fail
  refine (A2.out _).mono ?_
  rintro r w9 ⟨rfl, b9⟩
  have AL := Lib.hid (AK.out.next b9); clear b9 AK
  go_wp2_with fail
  refine (B1.out _ AL.out.t).mono ?_
  rintro r w9 ⟨rfl, b9⟩
  have BK := Lib.hid (AL.out.next b9); clear b9 AL
  go_wp2_with fail
  refine (B2.out _).mono ?_
  rintro r w9 ⟨rfl, b9⟩
  have BL := Lib.hid (BK.out.next b9); clear b9 BK
  go_wp2_with fail
  refine (C1.out _ BL.out.t).mono ?_
  rintro r w9 ⟨rfl, b9⟩
  have CK := Lib.hid (BL.out.next b9); clear b9 BL
  go_wp2_with fail
  refine (C2.out _).mono ?_
  rintro r w9 ⟨rfl, b9⟩
  have CL := Lib.hid (CK.out.next b9); clear b9 CK
  go_wp2
  go_ret
  exact ⟨rfl, CL.out.b⟩
theorem proves_walk (w : World) (s g h : Int) (hs : i64 s) (hg : i64 g) (hh : i64 h) (hT : TS w) :
    Calls Tryz.prog 3 #[.int .i64 s, .int .i64 g, .int .i64 h] w fun e w' => e = .returned (.bool true) ∧ Below w.heap.size w w' :=
  proves_core w s g h (em g) (em h) _ _ _ _ _ _ (Lib.hid fun W t => sanity_any W t) (Lib.hid fun W => refElement_any W g hg) (Lib.hid fun W => refElement_any W h hh)
    (Lib.hid fun W t => Prove_any W s _ _ hs (em_i64 _) (em_i64 _) t) (Lib.hid fun W => refProve_any W s _ _ hs (em_i64 _) (em_i64 _))
    (Lib.hid fun W t => Prove_any W s _ _ hs hg (em_i64 _) t) (Lib.hid fun W => refProve_any W s _ _ hs hg (em_i64 _))
    (Lib.hid fun W t => Prove_any W s _ _ hs (em_i64 _) hh t) (Lib.hid fun W => refProve_any W s _ _ hs (em_i64 _) hh) hT
theorem two_keep {w u v : World} {l : List (Nat × Int × Int)} {p q : Addr} {x y : Value} (h : SK w u l ∧ u.cell? p = some x ∧ u.cell? q = some y) (b : Below u.heap.size u v) : SK w v l ∧ v.cell? p = some x ∧ v.cell? q = some y :=
  ⟨h.1.next b, (b.cell (p := p) (World.block_lt_of_cell? _ _ h.2.1)).trans h.2.1, (b.cell (p := q) (World.block_lt_of_cell? _ _ h.2.2)).trans h.2.2⟩
set_option maxRecDepth 100000 in
set_option maxHeartbeats 8000000 in
theorem many_core (w : World) (s q0 q1 k x y e n a b C Z : Int)
    (S0 : Hid (∀ W, TS W → Calls Tryz.prog 8 #[] W fun e w' => e = .returned (.bool true) ∧ Below W.heap.size W w'))
    (E1 : Hid (∀ W, Calls Tryz.prog 9 #[.int .i64 q0] W fun ve w' => ve = .returned (.int .i64 x) ∧ w' = W))
    (E2 : Hid (∀ W, Calls Tryz.prog 9 #[.int .i64 q1] W fun ve w' => ve = .returned (.int .i64 y) ∧ w' = W))
    (X1 : Hid (∀ W, Calls Tryz.prog 12 #[.int .i64 s] W fun ve w' => ve = .returned (.int .i64 e) ∧ w' = W))
    (X2 : Hid (∀ W, Calls Tryz.prog 12 #[.int .i64 k] W fun ve w' => ve = .returned (.int .i64 n) ∧ w' = W))
    (PW : Hid (∀ W, Calls Tryz.prog 13 #[.int .i64 s, .int .i64 x, .int .i64 y, .int .i64 n] W fun ve w' => ve = .returned (pfv C Z) ∧ Below W.heap.size W w'))
    (P1 : Hid (∀ W, Calls Tryz.prog 15 #[.int .i64 x, .int .i64 e, .int .i64 2305843009213691579] W fun ve w' => ve = .returned (.int .i64 a) ∧ Below W.heap.size W w'))
    (P2 : Hid (∀ W, Calls Tryz.prog 15 #[.int .i64 y, .int .i64 e, .int .i64 2305843009213691579] W fun ve w' => ve = .returned (.int .i64 b) ∧ Below W.heap.size W w'))
    (V1 : Hid (∀ W, TS W → Calls Tryz.prog 14 #[.int .i64 x, .int .i64 a, .int .i64 y, .int .i64 b, pfv C Z] W fun ve w' => ve = .returned (.bool (true)) ∧ Below W.heap.size W w'))
    (hT : TS w) : Calls Tryz.prog 4 #[.int .i64 s, .agg #[.int .i64 q0, .int .i64 q1], .int .i64 k] w fun e w' => e = .returned (.bool true) ∧ Below w.heap.size w w' := by
  have HT := sk_start hT; clear hT
  obtain ⟨W, hW⟩ : ∃ W, w.alloc (.cells #[.int .i64 q0, .int .i64 q1] 28) = W := ⟨_, rfl⟩
  have HT := HT.next (show Below w.heap.size w W by rw [← hW]; exact (Below.refl _ w).alloc (Nat.le_refl _) _)
  have d0 : W.cell? ⟨w.heap.size, 0, none⟩ = some (.int .i64 q0) := by rw [← hW]; exact World.cell?_alloc_at _ _ _ _ rfl
  have d1 : W.cell? ⟨w.heap.size, 1, none⟩ = some (.int .i64 q1) := by rw [← hW]; exact World.cell?_alloc_at _ _ _ _ rfl
  obtain ⟨p, hp⟩ : ∃ p, w.heap.size = p := ⟨_, rfl⟩
  rw [hp] at d0 d1
  have HT := Lib.hid (And.intro HT (And.intro d0 d1)); clear d0 d1
  go_enter Tryz.func4, Tryz.ntmps4
  go_upto_region 1 with fail
  clear hW
  go_wp2_with fail
  refine (S0.out _ HT.out.1.t).mono ?_
  rintro r w1 ⟨rfl, b1⟩
  have K1 := Lib.hid (two_keep HT.out b1); clear b1 HT
  obtain ⟨k0, d0, d1⟩ := K1.out
  go_wp2_with fail
  go_region_held3 (fun w' => SK w w' [] ∧ w'.cell? ⟨p, 0, none⟩ = some (.int .i64 q0) ∧ w'.cell? ⟨p, 1, none⟩ = some (.int .i64 q1))
    (first | assumption | exact ⟨k0.next (Below.drew (Below.refl _ _)), d0, d1⟩ | exact ⟨k0, d0, d1⟩)
    (first
      | (go_at_call_of 9 (Value.int .i64 q0); refine (E1.out _).mono ?_; rintro e w' ⟨rfl, rfl⟩)
      | (go_at_call_of 9 (Value.int .i64 q1); refine (E2.out _).mono ?_; rintro e w' ⟨rfl, rfl⟩))
  have K2 : Hid (SK w w1.drew []) := Lib.hid (k0.next (Below.drew (Below.refl _ _)))
  clear k0 d0 d1 E1 E2 K1
  generalize w1.drew = w2 at *
  go_wp2_with fail
  refine (X1.out _).mono ?_
  rintro r w9 ⟨rfl, rfl⟩
  go_wp2_with fail
  refine (X2.out _).mono ?_
  rintro r w9 ⟨rfl, rfl⟩
  go_wp2_with fail
  refine (PW.out _).mono ?_
  rintro r w5 ⟨rfl, b9⟩
  have K3 := Lib.hid (K2.out.next b9); clear b9 K2
  have m7 := PM.new w5 0 0
  have hi7 := infoP (C) (Z)
  go_upto_region 5 with (refine wpList_store_row rfl 25 (.tmp 11) (.tmp 26) rfl w5.heap.size #[.int .i64 (C), .int .i64 (Z)] rfl rfl 25 _ m7 hi7.out (two_size _ _ _ _) (pf_one _ _) ?_)
  clear m7 hi7
  have K4 := Lib.hid (K3.out.push (C) (Z)); clear K3
  try change Code.wp _ _ _ _ ((w5.alloc (.cells #[.int .i64 0, .int .i64 0] 25)).setRow w5.heap.size #[.int .i64 (C), .int .i64 (Z)])
  generalize hq : (w5.alloc (.cells #[.int .i64 0, .int .i64 0] 25)).setRow w5.heap.size #[.int .i64 (C), .int .i64 (Z)] = v5 at *
  clear hq
  have k0 := K4.out
  have c0 := (K4.out.get w5.heap.size C Z (by simp)).c0
  have c1 := (K4.out.get w5.heap.size C Z (by simp)).c1
  generalize w5.heap.size = t at *
  go_region_held3 (fun w' => SK w w' [(t, C, Z)] ∧ w'.cell? ⟨t, 0, none⟩ = some (.int .i64 C) ∧ w'.cell? ⟨t, 1, none⟩ = some (.int .i64 Z))
    (first | assumption | exact ⟨k0.next (Below.drew (Below.refl _ _)), c0, c1⟩ | exact ⟨k0, c0, c1⟩ | exact two_keep (by assumption) b)
    (first
      | (go_at_call_of 15 (Value.int .i64 x); refine (P1.out _).mono ?_; rintro e w' ⟨rfl, b⟩)
      | (go_at_call_of 15 (Value.int .i64 y); refine (P2.out _).mono ?_; rintro e w' ⟨rfl, b⟩)
      | (go_at_call 14; refine (V1.out _ (SK.t (And.left (by assumption)))).mono ?_; rintro e w' ⟨rfl, b⟩))
  all_goals go_wp2
  all_goals go_ret
  all_goals exact ⟨rfl, (SK.b (And.left (by assumption)) : Below w.heap.size w _)⟩
theorem many_walk (w : World) (s q0 q1 k : Int) (hs : i64 s) (h0 : i64 q0) (h1 : i64 q1) (hk : i64 k) (hT : TS w) :
    Calls Tryz.prog 4 #[.int .i64 s, .agg #[.int .i64 q0, .int .i64 q1], .int .i64 k] w fun e w' => e = .returned (.bool true) ∧ Below w.heap.size w w' :=
  many_core w s q0 q1 k (em q0) (em q1) (ex s) (ex k) (pp (em q0) (ex s)) (pp (em q1) (ex s)) (pvC (ex s) (em q0) (em q1) (ex k)) (pvZ (ex s) (em q0) (em q1) (ex k))
    (Lib.hid fun W t => sanity_any W t) (Lib.hid fun W => refElement_any W q0 h0) (Lib.hid fun W => refElement_any W q1 h1) (Lib.hid fun W => refExponent_any W s hs) (Lib.hid fun W => refExponent_any W k hk)
    (Lib.hid fun W => refWith_any W s _ _ _ hs (em_i64 _) (em_i64 _) (ex_i64 _))
    (Lib.hid fun W => pow_k W _ _ 2305843009213691579 _ (pp_def _ _) (em_i64 _).1 (em_i64 _).2 (ex_i64 _).2 (by decide))
    (Lib.hid fun W => pow_k W _ _ 2305843009213691579 _ (pp_def _ _) (em_i64 _).1 (em_i64 _).2 (ex_i64 _).2 (by decide))
    (Lib.hid fun W t => by
      have := Verify_any W (em q0) (pp (em q0) (ex s)) (em q1) (pp (em q1) (ex s)) (pvC (ex s) (em q0) (em q1) (ex k)) (pvZ (ex s) (em q0) (em q1) (ex k)) (em_i64 _) (pp_i64 _ _) (em_i64 _) (pp_i64 _ _) (pvC_i64 _ _ _ _) (i64_of (zz_rng _ _ _) (by decide)) t
      rwa [vf_any (em q0) (em q1) (ex s) (ex k) (em_mem _) (em_mem _) (ex_rng _).1 (ex_rng _)] at this) hT
end Go.Proofs.YtdaicfgoahegpaaGreatDoor.E6
