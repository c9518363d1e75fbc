/-
  The walks of the reference's ProveWith, Prove, side and Verify.
  The walk of the reference's Verify.
-/
import Derived.Test.YtbfplapjjeeceaaGreatDoorERef
import Derived.Test.YtbfplapjjeeceaaGreatDoorEElem
import Derived.Test.YtbfplapjjeeceaaGreatDoorEVerify
namespace Go.Proofs.YtbfplapjjeeceaaGreatDoor.E6
open Go.RowKit GM SH G4
theorem refChallenge_new (W : World) (n : Nat) (a : Int) (l : List Int) (v : Int) (hn : (a :: l).length = n) (he : ch (a :: l) = v) (hr : ∀ x ∈ a :: l, i64 x) (hN : n ≤ 1000) :
    Calls Tryz.prog 26 #[.slice (some ⟨W.heap.size, 0, none⟩) n n] (W.alloc (.cells ((a :: l).map (Value.int .i64)).toArray 3)) fun e w' => e = .returned (.int .i64 v) ∧ Below W.heap.size W w' := by
  subst he
  exact (refChallenge_any _ W.heap.size n n a l hn (IL.new W (a :: l) _) hr hN).mono fun e w' ⟨he, b⟩ => ⟨he, ((Below.refl _ W).alloc (Nat.le_refl _) _).trans (b.mono (by simp))⟩
theorem joined_new (W : World) (n : Nat) (l : List Int) (hn : l.length = n) (hr : ∀ x ∈ l, i64 x) (hN : n ≤ 1000) :
    Calls Tryz.prog 60 #[.slice (some ⟨W.heap.size, 0, none⟩) n n] (W.alloc (.cells (l.map (Value.int .i64)).toArray 3)) fun e w' => e = .returned (.string (jn l)) ∧ Below W.heap.size W w' :=
  (joined_any _ W.heap.size n n l hn (IL.new W l _) hr hN).mono fun e w' ⟨he, b⟩ => ⟨he, ((Below.refl _ W).alloc (Nat.le_refl _) _).trans (b.mono (by simp))⟩
set_option maxRecDepth 100000 in
set_option maxHeartbeats 4000000 in
theorem with_core (w : World) (s g h k x a b r q c m z : Int)
    (X : Hid (∀ W, Calls Tryz.prog 11 #[.int .i64 s] W fun e w' => e = .returned (.int .i64 x) ∧ w' = W))
    (P1 : Hid (∀ W, Calls Tryz.prog 110 #[.int .i64 g, .int .i64 x] W fun e w' => e = .returned (.int .i64 a) ∧ w' = W))
    (P2 : Hid (∀ W, Calls Tryz.prog 110 #[.int .i64 h, .int .i64 x] W fun e w' => e = .returned (.int .i64 b) ∧ w' = W))
    (P3 : Hid (∀ W, Calls Tryz.prog 110 #[.int .i64 g, .int .i64 k] W fun e w' => e = .returned (.int .i64 r) ∧ w' = W))
    (P4 : Hid (∀ W, Calls Tryz.prog 110 #[.int .i64 h, .int .i64 k] W fun e w' => e = .returned (.int .i64 q) ∧ w' = W))
    (CH : Hid (∀ W : World, Calls Tryz.prog 26 #[.slice (some ⟨W.heap.size, 0, none⟩) 6 6] (W.alloc (.cells #[.int .i64 g, .int .i64 a, .int .i64 h, .int .i64 b, .int .i64 r, .int .i64 q] 3)) fun e w' => e = .returned (.int .i64 c) ∧ Below W.heap.size W w'))
    (MU : Hid (∀ W, Calls Tryz.prog 44 #[.int .i64 c, .int .i64 x, .int .i64 1152921504606845789] W fun e w' => e = .returned (.int .i64 m) ∧ w' = W))
    (AD : Hid (∀ W, Calls Tryz.prog 54 #[.int .i64 k, .int .i64 m, .int .i64 1152921504606845789] W fun e w' => e = .returned (.int .i64 z) ∧ w' = W)) :
    Calls Tryz.prog 78 #[.int .i64 s, .int .i64 g, .int .i64 h, .int .i64 k] w fun e w' => e = .returned (pfv c z) ∧ Below w.heap.size w w' := by
  obtain ⟨W, hW⟩ : ∃ W, w.alloc (.cells #[.int .i64 0, .int .i64 0] 28) = W := ⟨_, rfl⟩
  have h1 : PM W w.heap.size 0 0 := by rw [← hW]; exact PM.new _ _ _
  have hb : Below w.heap.size w W := by rw [← hW]; exact (Below.refl w.heap.size w).alloc (Nat.le_refl _) _
  have HK := Lib.hid (And.intro hb h1)
  clear h1 hb
  have hi := infoP c z
  go_enter Tryz.func78, Tryz.ntmps78
  go_upto_region 1 with fail
  clear hW
  go_wp2_with fail
  refine (X.out _).mono ?_
  rintro e w1 ⟨rfl, rfl⟩
  go_wp2_with fail
  refine (P1.out _).mono ?_
  rintro e w1 ⟨rfl, rfl⟩
  go_wp2_with fail
  refine (P2.out _).mono ?_
  rintro e w1 ⟨rfl, rfl⟩
  go_wp2_with fail
  refine (P3.out _).mono ?_
  rintro e w1 ⟨rfl, rfl⟩
  go_wp2_with fail
  refine (P4.out _).mono ?_
  rintro e w1 ⟨rfl, rfl⟩
  go_wp2_with fail
  refine (CH.out _).mono ?_
  rintro e w2 ⟨rfl, b2⟩
  have K2 := Lib.hid (And.intro (HK.out.1.trans (b2.mono HK.out.1.size)) (HK.out.2.next b2)); clear b2 HK
  go_wp2_with fail
  refine (MU.out _).mono ?_
  rintro e w3 ⟨rfl, rfl⟩
  go_wp2_with fail
  refine (AD.out _).mono ?_
  rintro e w4 ⟨rfl, rfl⟩
  have h8 := K2.out.2
  go_wp2_with (refine wpList_store_row rfl 28 (.tmp 8) (.tmp 35) rfl w.heap.size #[.int .i64 c, .int .i64 z] rfl rfl 28 _ h8 hi.out (two_size _ _ _ _) (pf_one _ _) ?_)
  refine bodyPost_ret (results_cell_row rfl _ _ w.heap.size _ #[.int .i64 c, .int .i64 z] _ _ rfl (setRow_heap _ _ _ _ _ _ h8) Tryz.underlying28 rfl hi.out) rfl ?_
  exact ⟨rfl, Below.setRow' K2.out.1 (Nat.le_refl _) _⟩
theorem ex_i64 (n : Int) : i64 (ex n) := i64_of (ex_rng n) (by decide)
theorem gm_i64 (a b m : Int) (h : 1 ≤ m) (h2 : m ≤ 9223372036854775807) : i64 (gm a b m) := by
  have := gm_rng a b m
  exact i64_of (m := m) ⟨this.1, this.2.2 h⟩ h2
theorem pvC_i64 (x g h k : Int) : i64 (pvC x g h k) := i64_of (ch_rng _) (by decide)
theorem prC_i64 (s g h : Int) : i64 (prC s g h) := i64_of (prC_rng s g h) (by decide)
theorem refMul_k (W : World) (a b m r : Int) (h : gm a b m = r) (ha : i64 a) (hb : i64 b) (hm2 : m ≤ 9223372036854775807) :
    Calls Tryz.prog 44 #[.int .i64 a, .int .i64 b, .int .i64 m] W fun e w' => e = .returned (.int .i64 r) ∧ w' = W := by
  subst h; exact refMul_any W a b m ha.1 ha.2 hb.1 hb.2 hm2
theorem refAdd_k (W : World) (a b m r : Int) (h : ga a b m = r) (ha : i64 a) (hb : i64 b) (hm2 : m ≤ 9223372036854775807) :
    Calls Tryz.prog 54 #[.int .i64 a, .int .i64 b, .int .i64 m] W fun e w' => e = .returned (.int .i64 r) ∧ w' = W := by
  subst h; exact refAdd_any W a b m ha.1 ha.2 hb.1 hb.2 hm2
theorem refMember_k (W : World) (a : Int) (r : Bool) (h : mem a = r) (ha : i64 a) :
    Calls Tryz.prog 77 #[.int .i64 a] W fun e w' => e = .returned (.bool r) ∧ w' = W := by
  subst h; exact refMember_any W a ha.1 ha.2
theorem refWith_any (w : World) (s g h k : Int) (hs : i64 s) (hg : i64 g) (hh : i64 h) (hk : i64 k) :
    Calls Tryz.prog 78 #[.int .i64 s, .int .i64 g, .int .i64 h, .int .i64 k] w fun e w' => e = .returned (pfv (pvC (ex s) g h k) (pvZ (ex s) g h k)) ∧ Below w.heap.size w w' :=
  with_core w s g h k (ex s) (pp g (ex s)) (pp h (ex s)) (pp g k) (pp h k) (pvC (ex s) g h k) (gm (pvC (ex s) g h k) (ex s) 1152921504606845789) (pvZ (ex s) g h k)
    (Lib.hid fun W => refExponent_any W s hs) (Lib.hid fun W => power_any W g (ex s) hg (ex_i64 s)) (Lib.hid fun W => power_any W h (ex s) hh (ex_i64 s))
    (Lib.hid fun W => power_any W g k hg hk) (Lib.hid fun W => power_any W h k hh hk)
    (Lib.hid fun W => refChallenge_new W 6 g [pp g (ex s), h, pp h (ex s), pp g k, pp h k] _ rfl rfl (by simp only [List.mem_cons, List.not_mem_nil, or_false, forall_eq_or_imp, forall_eq]; exact ⟨hg, pp_i64 _ _, hh, pp_i64 _ _, pp_i64 _ _, pp_i64 _ _⟩) (by decide))
    (Lib.hid fun W => refMul_k W _ _ _ _ rfl (pvC_i64 _ _ _ _) (ex_i64 s) (by decide))
    (Lib.hid fun W => refAdd_k W _ _ _ _ (zz_def _ _ _) hk (gm_i64 _ _ _ (by decide) (by decide)) (by decide))
set_option maxRecDepth 100000 in
set_option maxHeartbeats 4000000 in
theorem prove_core (w : World) (s g h x k c z : Int) (m1 m2 : Bool) (J : ByteArray) (hJ : J.size ≤ 30000)
    (M1 : Hid (∀ W, Calls Tryz.prog 77 #[.int .i64 g] W fun e w' => e = .returned (.bool m1) ∧ w' = W))
    (M2 : Hid (∀ W, Calls Tryz.prog 77 #[.int .i64 h] W fun e w' => e = .returned (.bool m2) ∧ w' = W))
    (X : Hid (∀ W, Calls Tryz.prog 11 #[.int .i64 s] W fun e w' => e = .returned (.int .i64 x) ∧ w' = W))
    (JN : Hid (∀ W : World, Calls Tryz.prog 60 #[.slice (some ⟨W.heap.size, 0, none⟩) 3 3] (W.alloc (.cells #[.int .i64 x, .int .i64 g, .int .i64 h] 3)) fun e w' => e = .returned (.string J) ∧ Below W.heap.size W w'))
    (SC : Hid (∀ W : World, Calls Tryz.prog 59 #[.string ((⟨#[110, 111, 110, 99, 101, 47]⟩ : ByteArray) ++ J)] W fun e w' => e = .returned (.int .i64 k) ∧ Below W.heap.size W w'))
    (PW : Hid (∀ W : World, Calls Tryz.prog 78 #[.int .i64 s, .int .i64 g, .int .i64 h, .int .i64 k] W fun e w' => e = .returned (pfv c z) ∧ Below W.heap.size W w')) :
    Calls Tryz.prog 40 #[.int .i64 s, .int .i64 g, .int .i64 h] w fun e w' => e = .returned (if m1 = true ∧ m2 = true then pfv c z else pfv 0 0) ∧ Below w.heap.size w w' := by
  obtain ⟨W, hW⟩ : ∃ W, w.alloc (.cells #[.int .i64 0, .int .i64 0] 28) = W := ⟨_, rfl⟩
  have h1 : PM W w.heap.size 0 0 := by rw [← hW]; exact PM.new _ _ _
  have hb : Below w.heap.size w W := by rw [← hW]; exact (Below.refl w.heap.size w).alloc (Nat.le_refl _) _
  have HK := Lib.hid (And.intro hb h1)
  clear h1 hb
  have hi := infoP c z
  have h0 := infoP 0 0
  have b1 : (9223372036854775807 < 6 + J.size) = False := eq_false (by omega)
  cases m1 with
  | false =>
    rw [if_neg (by simp)]
    go_enter Tryz.func40, Tryz.ntmps40
    go_upto_region 1 with fail
    clear hW
    go_wp2_with fail
    refine (M1.out _).mono ?_
    rintro e w1 ⟨rfl, rfl⟩
    go_wp2_with fail
    refine (M2.out _).mono ?_
    rintro e w1 ⟨rfl, rfl⟩
    have h8 := HK.out.2
    go_wp2_with (refine wpList_store_row rfl 28 (.tmp 6) (.tmp 20) rfl w.heap.size #[.int .i64 0, .int .i64 0] rfl rfl 28 _ h8 h0.out (two_size _ _ _ _) (pf_one _ _) ?_)
    refine bodyPost_ret (results_cell_row rfl _ _ w.heap.size _ #[.int .i64 0, .int .i64 0] _ _ rfl (setRow_heap _ _ _ _ _ _ h8) Tryz.underlying28 rfl h0.out) rfl ?_
    exact ⟨rfl, Below.setRow' HK.out.1 (Nat.le_refl _) _⟩
  | true =>
    cases m2 with
    | false =>
      rw [if_neg (by simp)]
      go_enter Tryz.func40, Tryz.ntmps40
      go_upto_region 1 with fail
      clear hW
      go_wp2_with fail
      refine (M1.out _).mono ?_
      rintro e w1 ⟨rfl, rfl⟩
      go_wp2_with fail
      refine (M2.out _).mono ?_
      rintro e w1 ⟨rfl, rfl⟩
      have h8 := HK.out.2
      go_wp2_with (refine wpList_store_row rfl 28 (.tmp 6) (.tmp 20) rfl w.heap.size #[.int .i64 0, .int .i64 0] rfl rfl 28 _ h8 h0.out (two_size _ _ _ _) (pf_one _ _) ?_)
      refine bodyPost_ret (results_cell_row rfl _ _ w.heap.size _ #[.int .i64 0, .int .i64 0] _ _ rfl (setRow_heap _ _ _ _ _ _ h8) Tryz.underlying28 rfl h0.out) rfl ?_
      exact ⟨rfl, Below.setRow' HK.out.1 (Nat.le_refl _) _⟩
    | true =>
      rw [if_pos ⟨rfl, rfl⟩]
      go_enter Tryz.func40, Tryz.ntmps40
      go_upto_region 1 with fail
      clear hW
      go_wp2_with fail
      refine (M1.out _).mono ?_
      rintro e w1 ⟨rfl, rfl⟩
      go_wp2_with fail
      refine (M2.out _).mono ?_
      rintro e w1 ⟨rfl, rfl⟩
      go_wp2_with fail
      refine (X.out _).mono ?_
      rintro e w1 ⟨rfl, rfl⟩
      go_wp2_with fail
      refine (JN.out _).mono ?_
      rintro e w2 ⟨rfl, b2⟩
      have K2 := Lib.hid (And.intro (HK.out.1.trans (b2.mono HK.out.1.size)) (HK.out.2.next b2)); clear b2 HK
      go_wp2_with fail
      refine (SC.out _).mono ?_
      rintro e w3 ⟨rfl, b3⟩
      have K3 := Lib.hid (And.intro (K2.out.1.trans (b3.mono K2.out.1.size)) (K2.out.2.next b3)); clear b3 K2
      go_wp2_with fail
      refine (PW.out _).mono ?_
      rintro e w4 ⟨rfl, b4⟩
      have K4 := Lib.hid (And.intro (K3.out.1.trans (b4.mono K3.out.1.size)) (K3.out.2.next b4)); clear b4 K3
      have h8 := K4.out.2
      go_wp2_with (refine wpList_store_row rfl 28 (.tmp 6) (.tmp 33) rfl w.heap.size #[.int .i64 c, .int .i64 z] rfl rfl 28 _ h8 hi.out (two_size _ _ _ _) (pf_one _ _) ?_)
      refine bodyPost_ret (results_cell_row rfl _ _ w.heap.size _ #[.int .i64 c, .int .i64 z] _ _ rfl (setRow_heap _ _ _ _ _ _ h8) Tryz.underlying28 rfl hi.out) rfl ?_
      exact ⟨rfl, Below.setRow' K4.out.1 (Nat.le_refl _) _⟩
theorem refProve_any (w : World) (s g h : Int) (hs : i64 s) (hg : i64 g) (hh : i64 h) :
    Calls Tryz.prog 40 #[.int .i64 s, .int .i64 g, .int .i64 h] w fun e w' => e = .returned (pfv (prC s g h) (prZ s g h)) ∧ Below w.heap.size w w' := by
  have three : ∀ x ∈ [ex s, g, h], i64 x := by
    simp only [List.mem_cons, List.not_mem_nil, or_false, forall_eq_or_imp, forall_eq]; exact ⟨ex_i64 s, hg, hh⟩
  have z := jn_size [ex s, g, h] three 3 (show 3 ≤ 1000 by decide)
  have z' : (jn [ex s, g, h]).size ≤ 30000 := z
  have e : tw wN [ex s, g, h] = (⟨#[110, 111, 110, 99, 101, 47]⟩ : ByteArray) ++ jn [ex s, g, h] := by rw [← jn_tw]; rfl
  refine (prove_core w s g h (ex s) (nk (ex s) g h) (pvC (ex s) g h (nk (ex s) g h)) (pvZ (ex s) g h (nk (ex s) g h)) (mem g) (mem h) (jn [ex s, g, h]) z'
    (Lib.hid fun W => refMember_k W g _ rfl hg) (Lib.hid fun W => refMember_k W h _ rfl hh) (Lib.hid fun W => refExponent_any W s hs)
    (Lib.hid fun W => joined_new W 3 [ex s, g, h] rfl three (by decide))
    (Lib.hid fun W => by
      rw [← e]
      exact refScalar_any W (tw wN [ex s, g, h]) (by rw [e, ByteArray.size_append]; have : (⟨#[110, 111, 110, 99, 101, 47]⟩ : ByteArray).size = 6 := rfl; omega))
    (Lib.hid fun W => refWith_any W s g h _ hs hg hh (i64_of (nk_rng _ _ _) (by decide)))).mono fun e w' ⟨he, b⟩ => ⟨?_, b⟩
  rw [he]
  unfold prC prZ
  split <;> rfl
set_option maxRecDepth 100000 in
set_option maxHeartbeats 2000000 in
theorem refSide_core (w : World) (g a C Z x y v : Int) (hC : 0 ≤ C ∧ C < 1152921504606845789)
    (P1 : Hid (∀ W, Calls Tryz.prog 110 #[.int .i64 g, .int .i64 Z] W fun e w' => e = .returned (.int .i64 x) ∧ w' = W))
    (P2 : Hid (∀ W, Calls Tryz.prog 110 #[.int .i64 a, .int .i64 (1152921504606845789 - C)] W fun e w' => e = .returned (.int .i64 y) ∧ w' = W))
    (X1 : Hid (∀ W, Calls Tryz.prog 44 #[.int .i64 x, .int .i64 y, .int .i64 2305843009213691579] W fun e w' => e = .returned (.int .i64 v) ∧ w' = W)) :
    Calls Tryz.prog 89 #[.int .i64 g, .int .i64 a, pfv C Z] w fun e w' => e = .returned (.int .i64 v) ∧ Below w.heap.size w w' := by
  obtain ⟨W, hW⟩ : ∃ W, w.alloc (.cells #[.int .i64 C, .int .i64 Z] 28) = W := ⟨_, rfl⟩
  have h1 : PM W w.heap.size C Z := by rw [← hW]; exact PM.new _ _ _
  have B0 : Below w.heap.size w W := by rw [← hW]; exact (Below.refl w.heap.size w).alloc (Nat.le_refl _) _
  have c0 := h1.c0
  have c1 := h1.c1
  clear h1
  obtain ⟨hC0, hC1⟩ := hC
  have x1 : IntKind.i64.wrap (1152921504606845789 - C) = 1152921504606845789 - C := IntWalk.i64_in _ ⟨by omega, by omega⟩
  have x2 : wrap64 (1152921504606845789 - C) = 1152921504606845789 - C := by unfold wrap64; omega
  obtain ⟨D, hD⟩ : ∃ D, 1152921504606845789 - C = D := ⟨_, rfl⟩
  rw [hD] at x1 x2 P2
  go_enter Tryz.func89, Tryz.ntmps89
  go_upto_region 1 with fail
  clear hW
  go_region_held3 (fun w' => Below w.heap.size w w' ∧ w'.cell? ⟨w.heap.size, 0, none⟩ = some (.int .i64 C) ∧ w'.cell? ⟨w.heap.size, 1, none⟩ = some (.int .i64 Z))
    (first | assumption | exact ⟨B0.drew, c0, c1⟩ | exact ⟨B0, c0, c1⟩)
    (first
      | (go_at_call_of 110 (Value.int .i64 g); refine (P1.out _).mono ?_; rintro e w' ⟨rfl, rfl⟩)
      | (go_at_call_of 110 (Value.int .i64 a); refine (P2.out _).mono ?_; rintro e w' ⟨rfl, rfl⟩)
      | (go_at_call 44; refine (X1.out _).mono ?_; rintro e w' ⟨rfl, rfl⟩))
  all_goals go_wp2
  all_goals go_ret
  all_goals exact ⟨rfl, (And.left (by assumption) : Below w.heap.size w _)⟩
theorem refSide_any (w : World) (g a C Z : Int) (hg : i64 g) (ha : i64 a) (hC : 0 ≤ C ∧ C < 1152921504606845789) (hZ : i64 Z) :
    Calls Tryz.prog 89 #[.int .i64 g, .int .i64 a, pfv C Z] w fun e w' => e = .returned (.int .i64 (sd g a C Z)) ∧ Below w.heap.size w w' :=
  refSide_core w g a C Z (pp g Z) (pp a (1152921504606845789 - C)) (sd g a C Z) hC (Lib.hid fun W => power_any W g Z hg hZ) (Lib.hid fun W => power_any W a _ ha ⟨by omega, by omega⟩)
    (Lib.hid fun W => refMul_k W _ _ _ _ (sd_eq g a C Z) (pp_i64 _ _) (pp_i64 _ _) (by decide))
end Go.Proofs.YtbfplapjjeeceaaGreatDoor.E6
namespace Go.Proofs.YtbfplapjjeeceaaGreatDoor.E6
open Go.RowKit GM SH G4
/-- what the walk keeps: the proof's box, the list of numbers -/
structure RK (w W : World) (p : Nat) (C Z : Int) (l : List Int) : Prop where
  b : Below w.heap.size w W
  m : PM W p C Z
  i : IL W (p + 1) l
theorem rk_start (w : World) (C Z : Int) (l : List Int) : RK w ((w.alloc (.cells #[.int .i64 C, .int .i64 Z] 28)).alloc (.cells (l.map (Value.int .i64)).toArray 3)) w.heap.size C Z l := by
  have b1 : Below w.heap.size w (w.alloc (.cells #[.int .i64 C, .int .i64 Z] 28)) := (Below.refl _ w).alloc (Nat.le_refl _) _
  have m1 := PM.new w C Z
  have z1 : (w.alloc (.cells #[.int .i64 C, .int .i64 Z] 28)).heap.size = w.heap.size + 1 := by simp
  generalize w.alloc (.cells #[.int .i64 C, .int .i64 Z] 28) = u at *
  refine ⟨b1.alloc (by omega) _, m1.alloc _, ?_⟩
  rw [← z1]; exact IL.new u l _
theorem rk_two {w u v : World} {p q : Addr} {x y : Value} (h : Below w.heap.size w u ∧ u.cell? p = some x ∧ u.cell? q = some y) (b : Below u.heap.size u v) : Below w.heap.size w v ∧ v.cell? p = some x ∧ v.cell? q = some y := two_next h b
theorem rk_two_alloc {w u : World} {p q : Addr} {x y : Value} (h : Below w.heap.size w u ∧ u.cell? p = some x ∧ u.cell? q = some y) (o : Obj) : Below w.heap.size w (u.alloc o) ∧ (u.alloc o).cell? p = some x ∧ (u.alloc o).cell? q = some y :=
  two_next h ((Below.refl _ u).alloc (Nat.le_refl _) _)
set_option maxRecDepth 100000 in
set_option maxHeartbeats 8000000 in
theorem refVerify_core (w : World) (g a h b C Z u v c : Int) (hg : i64 g) (ha : i64 a) (hh : i64 h) (hb : i64 b)
    (S1 : Hid (inQ C = true → ∀ (W : World), Calls Tryz.prog 89 #[.int .i64 g, .int .i64 a, pfv C Z] W fun e w' => e = .returned (.int .i64 u) ∧ Below W.heap.size W w'))
    (S2 : Hid (inQ C = true → ∀ (W : World), Calls Tryz.prog 89 #[.int .i64 h, .int .i64 b, pfv C Z] W fun e w' => e = .returned (.int .i64 v) ∧ Below W.heap.size W w'))
    (CH : Hid (∀ (W : World), Calls Tryz.prog 26 #[.slice (some ⟨W.heap.size, 0, none⟩) 6 6] (W.alloc (.cells #[.int .i64 g, .int .i64 a, .int .i64 h, .int .i64 b, .int .i64 u, .int .i64 v] 3)) fun e w' => e = .returned (.int .i64 c) ∧ Below (W.alloc (.cells #[.int .i64 g, .int .i64 a, .int .i64 h, .int .i64 b, .int .i64 u, .int .i64 v] 3)).heap.size (W.alloc (.cells #[.int .i64 g, .int .i64 a, .int .i64 h, .int .i64 b, .int .i64 u, .int .i64 v] 3)) w')) :
    Calls Tryz.prog 49 #[.int .i64 g, .int .i64 a, .int .i64 h, .int .i64 b, pfv C Z] w fun e w' => e = .returned (.bool ([g, a, h, b].all mem && (inQ C && inQ Z) && (C == c))) ∧ Below w.heap.size w w' := by
  have HK := rk_start w C Z [g, a, h, b]
  obtain ⟨W, hW⟩ : ∃ W, (w.alloc (.cells #[.int .i64 C, .int .i64 Z] 28)).alloc (.cells #[.int .i64 g, .int .i64 a, .int .i64 h, .int .i64 b] 3) = W := ⟨_, rfl⟩
  rw [show (w.alloc (.cells #[.int .i64 C, .int .i64 Z] 28)).alloc (.cells ([g, a, h, b].map (Value.int .i64)).toArray 3) = W from hW] at HK
  obtain ⟨p, hp⟩ : ∃ p, w.heap.size = p := ⟨_, rfl⟩
  rw [hp] at HK
  have hr : Hid (∀ x ∈ [g, a, h, b], i64 x) := Lib.hid (by simp only [List.mem_cons, List.not_mem_nil, or_false, forall_eq_or_imp, forall_eq]; exact ⟨hg, ha, hh, hb⟩)
  clear hg ha hh hb
  obtain ⟨l, hl⟩ : ∃ l, [g, a, h, b] = l := ⟨_, rfl⟩
  have hl4 : l.length = 4 := by rw [← hl]; rfl
  rw [hl] at HK hr ⊢
  have HK := Lib.hid HK
  have HL := Lib.hid hl; clear hl
  go_enter Tryz.func49, Tryz.ntmps49
  go_upto_region 2 with fail
  clear hW
  go_wp2_with fail
  go_loop [12] (fun i => ∃ (k : Nat), k ≤ 4 ∧ i = .int .i64 (k : Int) ∧ Hid ((l.take k).all mem = true)) (fun i => 4 - (match i with | .int _ i => i.toNat | _ => 0))
  case atStart => exact ⟨0, Nat.zero_le _, rfl, Lib.hid (by simp)⟩
  case round =>
    obtain ⟨k, hk, rfl, ht⟩ := hrel
    by_cases hlt : k < 4
    · obtain ⟨x, hx⟩ : ∃ x, l[k]? = some x := ⟨l[k], List.getElem?_eq_getElem (by omega)⟩
      have hc := HK.out.i k x hx
      have hix := Lib.hid (hr.out x (List.mem_of_getElem? hx))
      have HX := Lib.hid hx; clear hx
      have H4 := Lib.hid hl4; clear hl4
      by_cases hm : mem x = true
      · have M := Lib.hid fun W => refMember_k W x true hm hix.out
        have ht2 := Lib.hid (all_yes mem l k x HX.out ht.out hm)
        clear hm
        go_wp2_with fail
        refine (M.out _).mono ?_
        rintro e w1 ⟨rfl, rfl⟩
        go_wp2
        exact ⟨⟨k + 1, by omega, by simp, ht2⟩, by simp; omega⟩
      · have hm2 : mem x = false := by simpa using hm
        have M := Lib.hid fun W => refMember_k W x false hm2 hix.out
        have E := Lib.hid (all_no mem l k x HX.out hm2)
        clear hm hm2
        go_wp2_with fail
        refine (M.out _).mono ?_
        rintro e w1 ⟨rfl, rfl⟩
        go_wp2
        go_ret
        exact ⟨by rw [E.out]; rfl, HK.out.b⟩
    · obtain rfl : k = 4 := by omega
      have E := Lib.hid (show l.all mem = true by have := ht.out; rwa [← hl4, List.take_length] at this)
      have H4 := Lib.hid hl4; clear hl4 hlt ht
      have c0 := HK.out.m.c0
      have c1 := HK.out.m.c1
      have hB := Lib.hid HK.out.b
      clear HK
      by_cases q0 : C < 0
      · have F := Lib.hid (show inQ C = false by unfold inQ; rw [decide_eq_true q0]; rfl)
        go_wp2
        go_ret
        exact ⟨by rw [E.out, F.out]; rfl, by first | exact hB.out | exact hp ▸ hB.out⟩
      by_cases q1 : 1152921504606845789 ≤ C
      · have F := Lib.hid (show inQ C = false by unfold inQ; rw [decide_eq_true q1]; simp)
        go_wp2
        go_ret
        exact ⟨by rw [E.out, F.out]; rfl, by first | exact hB.out | exact hp ▸ hB.out⟩
      have F := Lib.hid (inQ_t (n := C) (by omega))
      by_cases q2 : Z < 0
      · have G := Lib.hid (show inQ Z = false by unfold inQ; rw [decide_eq_true q2]; rfl)
        go_wp2
        go_ret
        exact ⟨by rw [E.out, F.out, G.out]; rfl, by first | exact hB.out | exact hp ▸ hB.out⟩
      by_cases q3 : 1152921504606845789 ≤ Z
      · have G := Lib.hid (show inQ Z = false by unfold inQ; rw [decide_eq_true q3]; simp)
        go_wp2
        go_ret
        exact ⟨by rw [E.out, F.out, G.out]; rfl, by first | exact hB.out | exact hp ▸ hB.out⟩
      have G := Lib.hid (inQ_t (n := Z) (by omega))
      have T1 := Lib.hid (S1.out F.out)
      have T2 := Lib.hid (S2.out F.out)
      clear S1 S2
      go_wp2_with fail
      have hb0 := hB.out
      go_region_held3 (fun w' => Below w.heap.size w w' ∧ w'.cell? ⟨p, 0, none⟩ = some (.int .i64 C) ∧ w'.cell? ⟨p, 1, none⟩ = some (.int .i64 Z))
        (first | assumption | exact ⟨hb0.drew, c0, c1⟩ | exact ⟨hb0, c0, c1⟩ | exact rk_two (by assumption) b | exact rk_two_alloc (by assumption) _)
        (first
          | (go_at_call_of 89 (Value.int .i64 g); refine (T1.out _).mono ?_; rintro e w' ⟨rfl, b⟩)
          | (go_at_call_of 89 (Value.int .i64 h); refine (T2.out _).mono ?_; rintro e w' ⟨rfl, b⟩)
          | (go_at_call 26; refine (CH.out _).mono ?_; rintro e w' ⟨rfl, b⟩))
      all_goals go_wp2
      all_goals go_ret
      all_goals exact ⟨by rw [E.out, F.out, G.out]; rfl, (And.left (by assumption) : Below w.heap.size w _)⟩
theorem sd_i64' (g a C Z : Int) : i64 (sd g a C Z) := i64_of (sd_rng _ _ _ _) (by decide)
theorem refVerify_any (w : World) (g a h b C Z : Int) (hg : i64 g) (ha : i64 a) (hh : i64 h) (hb : i64 b) (hZ : i64 Z) :
    Calls Tryz.prog 49 #[.int .i64 g, .int .i64 a, .int .i64 h, .int .i64 b, pfv C Z] w fun e w' => e = .returned (.bool (vf g a h b C Z)) ∧ Below w.heap.size w w' := by
  have e : vf g a h b C Z = ([g, a, h, b].all mem && (inQ C && inQ Z) && (C == ch [g, a, h, b, sd g a C Z, sd h b C Z])) := by
    unfold vf
    simp only [List.all_cons, List.all_nil, Bool.and_true]
    cases mem g <;> cases mem a <;> cases mem h <;> cases mem b <;> simp
  rw [e]
  exact refVerify_core w g a h b C Z (sd g a C Z) (sd h b C Z) _ hg ha hh hb
    (Lib.hid fun k W => refSide_any W g a C Z hg ha (inQ_iff.1 k) hZ) (Lib.hid fun k W => refSide_any W h b C Z hh hb (inQ_iff.1 k) hZ)
    (Lib.hid fun W => refChallenge_any _ W.heap.size 6 6 g [a, h, b, sd g a C Z, sd h b C Z] rfl (IL.new W [g, a, h, b, sd g a C Z, sd h b C Z] _) (by simp only [List.mem_cons, List.not_mem_nil, or_false, forall_eq_or_imp, forall_eq]; exact ⟨hg, ha, hh, hb, sd_i64' _ _ _ _, sd_i64' _ _ _ _⟩) (by decide))
end Go.Proofs.YtbfplapjjeeceaaGreatDoor.E6
