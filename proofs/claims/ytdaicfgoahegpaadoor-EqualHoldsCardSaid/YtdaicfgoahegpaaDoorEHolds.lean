/-
  The walks of the laws EqualHolds and EqualOnly.
-/
import Derived.Test.YtdaicfgoahegpaaDoorESanW
import Derived.Test.YtdaicfgoahegpaaDoorEElem
namespace Go.Proofs.YtdaicfgoahegpaaDoor.E6
open Go.RowKit GM SH G4
set_option maxRecDepth 100000 in
set_option maxHeartbeats 4000000 in
theorem holds_core (w : World) (s g h x y e a b c z : Int)
    (S0 : Hid (∀ W, TS W → Calls Tryd.prog 6 #[] W fun e w' => e = .returned (.bool true) ∧ Below W.heap.size W w'))
    (E1 : Hid (∀ W, Calls Tryd.prog 7 #[.int .i64 g] W fun e w' => e = .returned (.int .i64 x) ∧ w' = W))
    (E2 : Hid (∀ W, Calls Tryd.prog 7 #[.int .i64 h] W fun e w' => e = .returned (.int .i64 y) ∧ w' = W))
    (A1 : Hid (∀ W, Calls Tryd.prog 8 #[.int .i64 s, .int .i64 0, .int .i64 1152921504606845789] W fun r w' => r = .returned (.int .i64 e) ∧ w' = W))
    (P1 : Hid (∀ W, Calls Tryd.prog 10 #[.int .i64 x, .int .i64 e, .int .i64 2305843009213691579] W fun e w' => e = .returned (.int .i64 a) ∧ Below W.heap.size W w'))
    (P2 : Hid (∀ W, Calls Tryd.prog 10 #[.int .i64 y, .int .i64 e, .int .i64 2305843009213691579] W fun e w' => e = .returned (.int .i64 b) ∧ Below W.heap.size W w'))
    (C1 : Hid (∀ W, TS W → Calls Tryd.prog 11 #[.int .i64 s, .int .i64 x, .int .i64 y] W fun e w' => e = .returned (pfv c z) ∧ Below W.heap.size W w'))
    (V1 : Hid (∀ W, TS W → Calls Tryd.prog 9 #[.int .i64 x, .int .i64 a, .int .i64 y, .int .i64 b, pfv c z] W fun e w' => e = .returned (.bool true) ∧ Below W.heap.size W w'))
    (hT : TS w) : Calls Tryd.prog 3 #[.int .i64 s, .int .i64 g, .int .i64 h] w fun e w' => e = .returned (.bool true) ∧ Below w.heap.size w w' := by
  have HT := Lib.hid (sk_start hT); clear hT
  go_enter Tryd.func3, Tryd.ntmps3
  go_wp2_with fail
  refine (S0.out _ HT.out.t).mono ?_
  rintro r w1 ⟨rfl, b1⟩
  have K1 := Lib.hid (HT.out.next b1); clear b1 HT
  go_wp2_with fail
  refine (E1.out _).mono ?_
  rintro r w2 ⟨rfl, rfl⟩
  go_wp2_with fail
  refine (E2.out _).mono ?_
  rintro r w3 ⟨rfl, rfl⟩
  go_wp2_with fail
  refine (A1.out _).mono ?_
  rintro r w4 ⟨rfl, rfl⟩
  go_wp2_with fail
  refine (P1.out _).mono ?_
  rintro r w5 ⟨rfl, b1⟩
  have K2 := Lib.hid (K1.out.next b1); clear b1 K1
  go_wp2_with fail
  refine (P2.out _).mono ?_
  rintro r w6 ⟨rfl, b1⟩
  have K3 := Lib.hid (K2.out.next b1); clear b1 K2
  go_wp2_with fail
  refine (C1.out _ K3.out.t).mono ?_
  rintro r w7 ⟨rfl, b1⟩
  have K4 := Lib.hid (K3.out.next b1); clear b1 K3
  go_wp2_with fail
  refine (V1.out _ K4.out.t).mono ?_
  rintro r w8 ⟨rfl, b1⟩
  have K5 := Lib.hid (K4.out.next b1); clear b1 K4
  go_wp2
  go_ret
  exact ⟨rfl, K5.out.b⟩
theorem em_i64 (n : Int) : i64 (em n) := ⟨by have := em_rng n; omega, by have := em_rng n; omega⟩
theorem ex_i64 (n : Int) : i64 (ex n) := i64_of (ex_rng n) (by decide)
theorem prC_i64 (s g h : Int) : i64 (prC s g h) := i64_of (prC_rng s g h) (by decide)
theorem prZ_i64 (s g h : Int) : i64 (prZ s g h) := i64_of (prZ_rng s g h) (by decide)
theorem holds_walk (w : World) (s g h : Int) (hs : i64 s) (hg : i64 g) (hh : i64 h) (hT : TS w) :
    Calls Tryd.prog 3 #[.int .i64 s, .int .i64 g, .int .i64 h] w fun e w' => e = .returned (.bool true) ∧ Below w.heap.size w w' :=
  holds_core w s g h (em g) (em h) (ex s) (pp (em g) (ex s)) (pp (em h) (ex s)) (prC s (em g) (em h)) (prZ s (em g) (em h))
    (Lib.hid fun W t => sanity_any W t) (Lib.hid fun W => refElement_any W g hg) (Lib.hid fun W => refElement_any W h hh)
    (Lib.hid fun W => add_k W s 0 1152921504606845789 _ (ex_def s) hs.1 hs.2 (by decide) (by decide) (by decide))
    (Lib.hid fun W => pow_k W _ _ 2305843009213691579 _ (pp_def _ _) (em_i64 g).1 (em_i64 g).2 (ex_i64 s).2 (by decide))
    (Lib.hid fun W => pow_k W _ _ 2305843009213691579 _ (pp_def _ _) (em_i64 h).1 (em_i64 h).2 (ex_i64 s).2 (by decide))
    (Lib.hid fun W t => Prove_any W s _ _ hs (em_i64 g) (em_i64 h) t)
    (Lib.hid fun W t => by
      have := Verify_any W (em g) (pp (em g) (ex s)) (em h) (pp (em h) (ex s)) (prC s (em g) (em h)) (prZ s (em g) (em h)) (em_i64 g) (pp_i64 _ _) (em_i64 h) (pp_i64 _ _) (prC_i64 _ _ _) (prZ_i64 _ _ _) t
      rwa [vf_holds s (em g) (em h) (em_mem g) (em_mem h)] at this) hT
/-- numbers in an array of the walk's own block -/
def A4 (w : World) (b : Nat) (p q r t : Int) : Prop := w.cell? ⟨b, 0, none⟩ = some (.int .i64 p) ∧ w.cell? ⟨b, 1, none⟩ = some (.int .i64 q) ∧ w.cell? ⟨b, 2, none⟩ = some (.int .i64 r) ∧ w.cell? ⟨b, 3, none⟩ = some (.int .i64 t)
theorem A4.next {w w' : World} {b : Nat} {p q r t : Int} (h : A4 w b p q r t) (k : Below w.heap.size w w') : A4 w' b p q r t :=
  ⟨(k.cell (p := ⟨b, 0, none⟩) (World.block_lt_of_cell? _ _ h.1)).trans h.1, (k.cell (p := ⟨b, 1, none⟩) (World.block_lt_of_cell? _ _ h.2.1)).trans h.2.1, (k.cell (p := ⟨b, 2, none⟩) (World.block_lt_of_cell? _ _ h.2.2.1)).trans h.2.2.1, (k.cell (p := ⟨b, 3, none⟩) (World.block_lt_of_cell? _ _ h.2.2.2)).trans h.2.2.2⟩
set_option maxRecDepth 100000 in
set_option maxHeartbeats 4000000 in
theorem only_core (w : World) (x y q0 q1 q2 q3 g h i j k c m z p1 p2 p3 p4 r1 r2 r3 r4 r5 : Int) (B : Bool)
    (S0 : Hid (∀ W, TS W → Calls Tryd.prog 6 #[] W fun e w' => e = .returned (.bool true) ∧ Below W.heap.size W w'))
    (E1 : Hid (∀ W, Calls Tryd.prog 7 #[.int .i64 q0] W fun e w' => e = .returned (.int .i64 g) ∧ w' = W))
    (E2 : Hid (∀ W, Calls Tryd.prog 7 #[.int .i64 q1] W fun e w' => e = .returned (.int .i64 h) ∧ w' = W))
    (X1 : Hid (∀ W, Calls Tryd.prog 12 #[.int .i64 x] W fun e w' => e = .returned (.int .i64 i) ∧ w' = W))
    (X2 : Hid (∀ W, Calls Tryd.prog 12 #[.int .i64 y] W fun e w' => e = .returned (.int .i64 j) ∧ w' = W))
    (X3 : Hid (∀ W, Calls Tryd.prog 12 #[.int .i64 q2] W fun e w' => e = .returned (.int .i64 k) ∧ w' = W))
    (X4 : Hid (∀ W, Calls Tryd.prog 12 #[.int .i64 q3] W fun e w' => e = .returned (.int .i64 c) ∧ w' = W))
    (MU : Hid (∀ W, Calls Tryd.prog 13 #[.int .i64 c, .int .i64 i, .int .i64 1152921504606845789] W fun e w' => e = .returned (.int .i64 m) ∧ w' = W))
    (AD : Hid (∀ W, Calls Tryd.prog 8 #[.int .i64 k, .int .i64 m, .int .i64 1152921504606845789] W fun e w' => e = .returned (.int .i64 z) ∧ w' = W))
    (P1 : Hid (∀ W, Calls Tryd.prog 10 #[.int .i64 g, .int .i64 z, .int .i64 2305843009213691579] W fun e w' => e = .returned (.int .i64 p1) ∧ Below W.heap.size W w'))
    (P2 : Hid (∀ W, Calls Tryd.prog 10 #[.int .i64 g, .int .i64 k, .int .i64 2305843009213691579] W fun e w' => e = .returned (.int .i64 p2) ∧ Below W.heap.size W w'))
    (P3 : Hid (∀ W, Calls Tryd.prog 10 #[.int .i64 g, .int .i64 i, .int .i64 2305843009213691579] W fun e w' => e = .returned (.int .i64 p3) ∧ Below W.heap.size W w'))
    (P4 : Hid (∀ W, Calls Tryd.prog 10 #[.int .i64 p3, .int .i64 c, .int .i64 2305843009213691579] W fun e w' => e = .returned (.int .i64 p4) ∧ Below W.heap.size W w'))
    (P5 : Hid (∀ W, Calls Tryd.prog 13 #[.int .i64 p2, .int .i64 p4, .int .i64 2305843009213691579] W fun e w' => e = .returned (.int .i64 p1) ∧ w' = W))
    (R1 : Hid (∀ W, Calls Tryd.prog 10 #[.int .i64 h, .int .i64 z, .int .i64 2305843009213691579] W fun e w' => e = .returned (.int .i64 r1) ∧ Below W.heap.size W w'))
    (R2 : Hid (∀ W, Calls Tryd.prog 10 #[.int .i64 h, .int .i64 k, .int .i64 2305843009213691579] W fun e w' => e = .returned (.int .i64 r2) ∧ Below W.heap.size W w'))
    (R3 : Hid (∀ W, Calls Tryd.prog 10 #[.int .i64 h, .int .i64 j, .int .i64 2305843009213691579] W fun e w' => e = .returned (.int .i64 r3) ∧ Below W.heap.size W w'))
    (R4 : Hid (∀ W, Calls Tryd.prog 10 #[.int .i64 r3, .int .i64 c, .int .i64 2305843009213691579] W fun e w' => e = .returned (.int .i64 r4) ∧ Below W.heap.size W w'))
    (R5 : Hid (∀ W, Calls Tryd.prog 13 #[.int .i64 r2, .int .i64 r4, .int .i64 2305843009213691579] W fun e w' => e = .returned (.int .i64 r5) ∧ w' = W))
    (HB : Hid (¬ g = 1 → ¬ h = 1 → ¬ i = j → (r1 == r5) = B ∧ (c == 0) = B))
    (hT : TS w) : Calls Tryd.prog 4 #[.int .i64 x, .int .i64 y, .agg #[.int .i64 q0, .int .i64 q1, .int .i64 q2, .int .i64 q3]] w fun e w' => e = .returned (.bool true) ∧ Below w.heap.size w w' := by
  have HT := sk_start hT; clear hT
  obtain ⟨W, hW⟩ : ∃ W, w.alloc (.cells #[.int .i64 q0, .int .i64 q1, .int .i64 q2, .int .i64 q3] 30) = W := ⟨_, rfl⟩
  have HT := HT.next (show Below w.heap.size w W by rw [← hW]; exact (Below.refl _ w).alloc (Nat.le_refl _) _)
  have a4 : A4 W w.heap.size q0 q1 q2 q3 := by
    rw [← hW]
    exact ⟨World.cell?_alloc_at _ _ _ _ rfl, World.cell?_alloc_at _ _ _ _ rfl, World.cell?_alloc_at _ _ _ _ rfl, World.cell?_alloc_at _ _ _ _ rfl⟩
  obtain ⟨p, hp⟩ : ∃ p, w.heap.size = p := ⟨_, rfl⟩
  rw [hp] at a4
  have HT := Lib.hid (And.intro HT a4); clear a4
  go_enter Tryd.func4, Tryd.ntmps4
  go_upto_region 1 with fail
  clear hW
  go_wp2_with fail
  refine (S0.out _ HT.out.1.t).mono ?_
  rintro r w1 ⟨rfl, b1⟩
  have K1 := Lib.hid (And.intro (HT.out.1.next b1) (HT.out.2.next b1)); clear b1 HT
  obtain ⟨k0, d0, d1, d2, d3⟩ := K1.out
  go_wp2_with fail
  go_region_held3 (fun w' => SK w w' [] ∧ w'.cell? ⟨p, 0, none⟩ = some (.int .i64 q0) ∧ w'.cell? ⟨p, 1, none⟩ = some (.int .i64 q1) ∧ w'.cell? ⟨p, 2, none⟩ = some (.int .i64 q2) ∧ w'.cell? ⟨p, 3, none⟩ = some (.int .i64 q3))
    (first | assumption | exact ⟨k0.next (Below.drew (Below.refl _ _)), d0, d1, d2, d3⟩ | exact ⟨k0, d0, d1, d2, d3⟩)
    (first
      | (go_at_call_of 7 (Value.int .i64 q0); refine (E1.out _).mono ?_; rintro e w' ⟨rfl, rfl⟩)
      | (go_at_call_of 7 (Value.int .i64 q1); refine (E2.out _).mono ?_; rintro e w' ⟨rfl, rfl⟩))
  have K2 : Hid (SK w w1.drew [] ∧ A4 w1.drew p q0 q1 q2 q3) := Lib.hid ⟨k0.next (Below.drew (Below.refl _ _)), d0, d1, d2, d3⟩
  clear k0 d0 d1 d2 d3 E1 E2 K1
  generalize w1.drew = w2 at *
  obtain ⟨k0, d0, d1, d2, d3⟩ := K2.out
  go_wp2_with fail
  go_region_held3 (fun w' => SK w w' [] ∧ w'.cell? ⟨p, 0, none⟩ = some (.int .i64 q0) ∧ w'.cell? ⟨p, 1, none⟩ = some (.int .i64 q1) ∧ w'.cell? ⟨p, 2, none⟩ = some (.int .i64 q2) ∧ w'.cell? ⟨p, 3, none⟩ = some (.int .i64 q3))
    (first | assumption | exact ⟨k0.next (Below.drew (Below.refl _ _)), d0, d1, d2, d3⟩ | exact ⟨k0, d0, d1, d2, d3⟩)
    (first
      | (go_at_call_of 12 (Value.int .i64 x); refine (X1.out _).mono ?_; rintro e w' ⟨rfl, rfl⟩)
      | (go_at_call_of 12 (Value.int .i64 y); refine (X2.out _).mono ?_; rintro e w' ⟨rfl, rfl⟩)
      | (go_at_call_of 12 (Value.int .i64 q2); refine (X3.out _).mono ?_; rintro e w' ⟨rfl, rfl⟩)
      | (go_at_call_of 12 (Value.int .i64 q3); refine (X4.out _).mono ?_; rintro e w' ⟨rfl, rfl⟩))
  have K3 : Hid (SK w w2.drew []) := Lib.hid (k0.next (Below.drew (Below.refl _ _)))
  clear k0 d0 d1 d2 d3 X1 X2 X3 X4 K2
  generalize w2.drew = w3 at *
  by_cases hg : g = 1
  · have eg : (g == 1) = true := beq_iff_eq.2 hg
    clear hg HB
    go_wp2
    go_ret
    exact ⟨rfl, K3.out.b⟩
  by_cases hh : h = 1
  · have eh : (h == 1) = true := beq_iff_eq.2 hh
    have eg : (g == 1) = false := beq_eq_false_iff_ne.2 hg
    clear hg hh HB
    go_wp2
    go_ret
    exact ⟨rfl, K3.out.b⟩
  by_cases hij : i = j
  · have eh : (h == 1) = false := beq_eq_false_iff_ne.2 hh
    have eg : (g == 1) = false := beq_eq_false_iff_ne.2 hg
    have ei : (i == j) = true := beq_iff_eq.2 hij
    clear hg hh HB hij
    go_wp2
    go_ret
    exact ⟨rfl, K3.out.b⟩
  have eh : (h == 1) = false := beq_eq_false_iff_ne.2 hh
  have eg : (g == 1) = false := beq_eq_false_iff_ne.2 hg
  have ei : (i == j) = false := beq_eq_false_iff_ne.2 hij
  obtain ⟨b1, b2⟩ := HB.out hg hh hij
  clear hg hh HB hij
  go_wp2_with fail
  refine (MU.out _).mono ?_
  rintro r w4 ⟨rfl, rfl⟩
  go_wp2_with fail
  refine (AD.out _).mono ?_
  rintro r w5 ⟨rfl, rfl⟩
  clear eg eh ei
  go_wp2_with fail
  refine (P1.out _).mono ?_
  rintro r w9 ⟨rfl, b9⟩
  have K4 := Lib.hid (K3.out.next b9); clear b9 K3
  go_wp2_with fail
  refine (P2.out _).mono ?_
  rintro r w9 ⟨rfl, b9⟩
  have K5 := Lib.hid (K4.out.next b9); clear b9 K4
  go_wp2_with fail
  refine (P3.out _).mono ?_
  rintro r w9 ⟨rfl, b9⟩
  have K6 := Lib.hid (K5.out.next b9); clear b9 K5
  go_wp2_with fail
  refine (P4.out _).mono ?_
  rintro r w9 ⟨rfl, b9⟩
  have K7 := Lib.hid (K6.out.next b9); clear b9 K6
  go_wp2_with fail
  refine (P5.out _).mono ?_
  rintro r w9 ⟨rfl, rfl⟩
  go_wp2_with fail
  refine (R1.out _).mono ?_
  rintro r w9 ⟨rfl, b9⟩
  have K8 := Lib.hid (K7.out.next b9); clear b9 K7
  go_wp2_with fail
  refine (R2.out _).mono ?_
  rintro r w9 ⟨rfl, b9⟩
  have K9 := Lib.hid (K8.out.next b9); clear b9 K8
  go_wp2_with fail
  refine (R3.out _).mono ?_
  rintro r w9 ⟨rfl, b9⟩
  have KA := Lib.hid (K9.out.next b9); clear b9 K9
  go_wp2_with fail
  refine (R4.out _).mono ?_
  rintro r w9 ⟨rfl, b9⟩
  have KB := Lib.hid (KA.out.next b9); clear b9 KA
  go_wp2_with fail
  refine (R5.out _).mono ?_
  rintro r w9 ⟨rfl, rfl⟩
  go_wp2
  go_ret
  exact ⟨rfl, KB.out.b⟩
theorem gm_i64 (a b m : Int) (h : 1 ≤ m) (h2 : m ≤ 9223372036854775807) : i64 (gm a b m) := by
  have := gm_rng a b m
  exact i64_of (m := m) ⟨this.1, this.2.2 h⟩ h2
theorem zz_i64 (k c x : Int) : i64 (zz k c x) := i64_of (zz_rng k c x) (by decide)
theorem only_walk (w : World) (x y q0 q1 q2 q3 : Int) (hx : i64 x) (hy : i64 y) (h0 : i64 q0) (h1 : i64 q1) (h2 : i64 q2) (h3 : i64 q3) (hT : TS w) :
    Calls Tryd.prog 4 #[.int .i64 x, .int .i64 y, .agg #[.int .i64 q0, .int .i64 q1, .int .i64 q2, .int .i64 q3]] w fun e w' => e = .returned (.bool true) ∧ Below w.heap.size w w' :=
  only_core w x y q0 q1 q2 q3 (em q0) (em q1) (ex x) (ex y) (ex q2) (ex q3) (gm (ex q3) (ex x) 1152921504606845789) (zz (ex q2) (ex q3) (ex x)) (pp (em q0) (zz (ex q2) (ex q3) (ex x))) (pp (em q0) (ex q2)) (pp (em q0) (ex x)) (pp (pp (em q0) (ex x)) (ex q3))
    (pp (em q1) (zz (ex q2) (ex q3) (ex x))) (pp (em q1) (ex q2)) (pp (em q1) (ex y)) (pp (pp (em q1) (ex y)) (ex q3)) (gm (pp (em q1) (ex q2)) (pp (pp (em q1) (ex y)) (ex q3)) 2305843009213691579) (ex q3 == 0)
    (Lib.hid fun W t => sanity_any W t) (Lib.hid fun W => refElement_any W q0 h0) (Lib.hid fun W => refElement_any W q1 h1)
    (Lib.hid fun W => refExponent_any W x hx) (Lib.hid fun W => refExponent_any W y hy) (Lib.hid fun W => refExponent_any W q2 h2) (Lib.hid fun W => refExponent_any W q3 h3)
    (Lib.hid fun W => mul_k W _ _ _ _ rfl (ex_i64 _).1 (ex_i64 _).2 (ex_i64 _).1 (ex_i64 _).2 (by decide))
    (Lib.hid fun W => add_k W _ _ _ _ (zz_def _ _ _) (ex_i64 _).1 (ex_i64 _).2 (gm_i64 _ _ _ (by decide) (by decide)).1 (gm_i64 _ _ _ (by decide) (by decide)).2 (by decide))
    (Lib.hid fun W => pow_k W _ _ _ _ (pp_def _ _) (em_i64 _).1 (em_i64 _).2 (zz_i64 _ _ _).2 (by decide))
    (Lib.hid fun W => pow_k W _ _ _ _ (pp_def _ _) (em_i64 _).1 (em_i64 _).2 (ex_i64 _).2 (by decide))
    (Lib.hid fun W => pow_k W _ _ _ _ (pp_def _ _) (em_i64 _).1 (em_i64 _).2 (ex_i64 _).2 (by decide))
    (Lib.hid fun W => pow_k W _ _ _ _ (pp_def _ _) (pp_i64 _ _).1 (pp_i64 _ _).2 (ex_i64 _).2 (by decide))
    (Lib.hid fun W => mul_k W _ _ _ _ (pp_one (em_mem q0) (ex x) (ex q2) (ex q3) (ex_rng _).1 (ex_rng _).1 (ex_rng _).1).symm (pp_i64 _ _).1 (pp_i64 _ _).2 (pp_i64 _ _).1 (pp_i64 _ _).2 (by decide))
    (Lib.hid fun W => pow_k W _ _ _ _ (pp_def _ _) (em_i64 _).1 (em_i64 _).2 (zz_i64 _ _ _).2 (by decide))
    (Lib.hid fun W => pow_k W _ _ _ _ (pp_def _ _) (em_i64 _).1 (em_i64 _).2 (ex_i64 _).2 (by decide))
    (Lib.hid fun W => pow_k W _ _ _ _ (pp_def _ _) (em_i64 _).1 (em_i64 _).2 (ex_i64 _).2 (by decide))
    (Lib.hid fun W => pow_k W _ _ _ _ (pp_def _ _) (pp_i64 _ _).1 (pp_i64 _ _).2 (ex_i64 _).2 (by decide))
    (Lib.hid fun W => mul_k W _ _ _ _ rfl (pp_i64 _ _).1 (pp_i64 _ _).2 (pp_i64 _ _).1 (pp_i64 _ _).2 (by decide))
    (Lib.hid fun _ hh hij => ⟨pp_eq (em_mem q1) hh (ex x) (ex y) (ex q2) (ex q3) (ex_rng _) (ex_rng _) (ex_rng _).1 (ex_rng _) hij, rfl⟩) hT
end Go.Proofs.YtdaicfgoahegpaaDoor.E6
