/-
  The walk of equal.Verify.
-/
import Derived.Test.YtbfplapjjeeceaaGreatDoorEProve
namespace Go.Proofs.YtbfplapjjeeceaaGreatDoor.E6
open Go.RowKit GM SH G4
/-- what Verify's walk keeps -/
def VS (w W : World) (p : Nat) (C Z : Int) : Prop := TS W ∧ Below w.heap.size w W ∧ W.cell? ⟨p, 0, none⟩ = some (.int .i64 C) ∧ W.cell? ⟨p, 1, none⟩ = some (.int .i64 Z)
theorem vs_next {w u v : World} {p q : Addr} {x y : Value} (h : TS u ∧ Below w.heap.size w u ∧ u.cell? p = some x ∧ u.cell? q = some y) (b : Below u.heap.size u v) : TS v ∧ Below w.heap.size w v ∧ v.cell? p = some x ∧ v.cell? q = some y :=
  ⟨h.1.below b, two_next h.2 b⟩
theorem vs_alloc {w u : World} {p q : Addr} {x y : Value} (h : TS u ∧ Below w.heap.size w u ∧ u.cell? p = some x ∧ u.cell? q = some y) (o : Obj) : TS (u.alloc o) ∧ Below w.heap.size w (u.alloc o) ∧ (u.alloc o).cell? p = some x ∧ (u.alloc o).cell? q = some y :=
  vs_next h ((Below.refl _ u).alloc (Nat.le_refl _) _)
theorem exponents_new (W : World) (n : Nat) (l : List Int) (r : Bool) (hn : l.length = n) (he : l.all inQ = r) (hr : ∀ x ∈ l, i64 x) (hN : n ≤ 1000) :
    Calls Tryz.prog 113 #[.slice (some ⟨W.heap.size, 0, none⟩) n n] (W.alloc (.cells (l.map (Value.int .i64)).toArray 3)) fun e w' => e = .returned (.bool r) ∧ Below W.heap.size W w' := by
  subst he
  exact (exponents_any _ W.heap.size n n l hn (IL.new W l _) hr hN).mono fun e w' ⟨he, b⟩ => ⟨he, by subst b; exact (Below.refl _ W).alloc (Nat.le_refl _) _⟩
theorem vs_start {w : World} (hT : TS w) (C Z : Int) : VS w (w.alloc (.cells #[.int .i64 C, .int .i64 Z] 28)) w.heap.size C Z := by
  have b : Below w.heap.size w (w.alloc (.cells #[.int .i64 C, .int .i64 Z] 28)) := (Below.refl _ w).alloc (Nat.le_refl _) _
  exact ⟨hT.below b, b, (PM.new w C Z).c0, (PM.new w C Z).c1⟩
set_option maxRecDepth 100000 in
set_option maxHeartbeats 4000000 in
theorem Verify_e (w : World) (g a h b C Z : Int)
    (X : Hid (∀ W : World, Calls Tryz.prog 113 #[.slice (some ⟨W.heap.size, 0, none⟩) 2 2] (W.alloc (.cells #[.int .i64 C, .int .i64 Z] 3)) fun e w' => e = .returned (.bool false) ∧ Below W.heap.size W w')) (hT : TS w) :
    Calls Tryz.prog 87 #[.int .i64 g, .int .i64 a, .int .i64 h, .int .i64 b, pfv C Z] w fun e w' => e = .returned (.bool false) ∧ Below w.heap.size w w' := by
  have HK := vs_start hT C Z
  obtain ⟨W, hW⟩ : ∃ W, w.alloc (.cells #[.int .i64 C, .int .i64 Z] 28) = W := ⟨_, rfl⟩
  rw [hW] at HK
  obtain ⟨p, hp⟩ : ∃ p, w.heap.size = p := ⟨_, rfl⟩
  rw [hp] at HK
  obtain ⟨t, hb, c0, c1⟩ := HK
  have HB := Lib.hid (And.intro t hb); clear t hb hT
  go_enter Tryz.func87, Tryz.ntmps87
  go_upto_region 1 with fail
  clear hW
  go_wp2_with fail
  refine (X.out _).mono ?_
  rintro e w1 ⟨rfl, b1⟩
  have hb := Lib.hid (HB.out.2.trans (b1.mono HB.out.2.size)); clear b1 HB c0 c1
  go_wp2
  go_ret
  exact ⟨rfl, hb.out⟩
set_option maxRecDepth 100000 in
set_option maxHeartbeats 4000000 in
theorem Verify_m (w : World) (g a h b C Z : Int)
    (X : Hid (∀ W : World, Calls Tryz.prog 113 #[.slice (some ⟨W.heap.size, 0, none⟩) 2 2] (W.alloc (.cells #[.int .i64 C, .int .i64 Z] 3)) fun e w' => e = .returned (.bool true) ∧ Below W.heap.size W w'))
    (M : Hid (∀ W : World, Calls Tryz.prog 71 #[.slice (some ⟨W.heap.size, 0, none⟩) 4 4] (W.alloc (.cells #[.int .i64 g, .int .i64 a, .int .i64 h, .int .i64 b] 3)) fun e w' => e = .returned (.bool false) ∧ Below W.heap.size W w')) (hT : TS w) :
    Calls Tryz.prog 87 #[.int .i64 g, .int .i64 a, .int .i64 h, .int .i64 b, pfv C Z] w fun e w' => e = .returned (.bool false) ∧ Below w.heap.size w w' := by
  have HK := vs_start hT C Z
  obtain ⟨W, hW⟩ : ∃ W, w.alloc (.cells #[.int .i64 C, .int .i64 Z] 28) = W := ⟨_, rfl⟩
  rw [hW] at HK
  obtain ⟨p, hp⟩ : ∃ p, w.heap.size = p := ⟨_, rfl⟩
  rw [hp] at HK
  obtain ⟨t, hb, c0, c1⟩ := HK
  have HB := Lib.hid (And.intro t hb); clear t hb hT
  go_enter Tryz.func87, Tryz.ntmps87
  go_upto_region 1 with fail
  clear hW
  go_wp2_with fail
  refine (X.out _).mono ?_
  rintro e w1 ⟨rfl, b1⟩
  have hb := Lib.hid (HB.out.2.trans (b1.mono HB.out.2.size)); clear b1 HB c0 c1
  go_wp2_with fail
  refine (M.out _).mono ?_
  rintro e w2 ⟨rfl, b2⟩
  have hb2 := Lib.hid (hb.out.trans (b2.mono hb.out.size)); clear b2 hb
  go_wp2
  go_ret
  exact ⟨rfl, hb2.out⟩
set_option maxRecDepth 100000 in
set_option maxHeartbeats 4000000 in
theorem Verify_y (w : World) (g a h b C Z u v c : Int)
    (X : Hid (∀ W : World, Calls Tryz.prog 113 #[.slice (some ⟨W.heap.size, 0, none⟩) 2 2] (W.alloc (.cells #[.int .i64 C, .int .i64 Z] 3)) fun e w' => e = .returned (.bool true) ∧ Below W.heap.size W w'))
    (M : Hid (∀ W : World, Calls Tryz.prog 71 #[.slice (some ⟨W.heap.size, 0, none⟩) 4 4] (W.alloc (.cells #[.int .i64 g, .int .i64 a, .int .i64 h, .int .i64 b] 3)) fun e w' => e = .returned (.bool true) ∧ Below W.heap.size W w'))
    (S1 : Hid (∀ (W : World) (p : Nat), TS W ∧ Below w.heap.size w W ∧ W.cell? ⟨p, 0, none⟩ = some (.int .i64 C) ∧ W.cell? ⟨p, 1, none⟩ = some (.int .i64 Z) → Calls Tryz.prog 114 #[.int .i64 g, .int .i64 a, .pointer (some ⟨p, 0, none⟩)] W fun e w' => e = .returned (.int .i64 u) ∧ Below W.heap.size W w'))
    (S2 : Hid (∀ (W : World) (p : Nat), TS W ∧ Below w.heap.size w W ∧ W.cell? ⟨p, 0, none⟩ = some (.int .i64 C) ∧ W.cell? ⟨p, 1, none⟩ = some (.int .i64 Z) → Calls Tryz.prog 114 #[.int .i64 h, .int .i64 b, .pointer (some ⟨p, 0, none⟩)] W fun e w' => e = .returned (.int .i64 v) ∧ Below W.heap.size W w'))
    (CH : Hid (∀ (W : World), TS (W.alloc (.cells #[.int .i64 g, .int .i64 a, .int .i64 h, .int .i64 b, .int .i64 u, .int .i64 v] 3)) → Calls Tryz.prog 75 #[.slice (some ⟨W.heap.size, 0, none⟩) 6 6] (W.alloc (.cells #[.int .i64 g, .int .i64 a, .int .i64 h, .int .i64 b, .int .i64 u, .int .i64 v] 3)) fun e w' => e = .returned (.int .i64 c) ∧ Below (W.alloc (.cells #[.int .i64 g, .int .i64 a, .int .i64 h, .int .i64 b, .int .i64 u, .int .i64 v] 3)).heap.size (W.alloc (.cells #[.int .i64 g, .int .i64 a, .int .i64 h, .int .i64 b, .int .i64 u, .int .i64 v] 3)) w')) (hT : TS w) :
    Calls Tryz.prog 87 #[.int .i64 g, .int .i64 a, .int .i64 h, .int .i64 b, pfv C Z] w fun e w' => e = .returned (.bool (C == c)) ∧ Below w.heap.size w w' := by
  have HK := vs_start hT C Z
  obtain ⟨W, hW⟩ : ∃ W, w.alloc (.cells #[.int .i64 C, .int .i64 Z] 28) = W := ⟨_, rfl⟩
  rw [hW] at HK
  obtain ⟨p, hp⟩ : ∃ p, w.heap.size = p := ⟨_, rfl⟩
  rw [hp] at HK
  have HK := Lib.hid (show TS W ∧ Below w.heap.size w W ∧ W.cell? ⟨p, 0, none⟩ = some (.int .i64 C) ∧ W.cell? ⟨p, 1, none⟩ = some (.int .i64 Z) from HK)
  clear hT
  go_enter Tryz.func87, Tryz.ntmps87
  go_upto_region 1 with fail
  clear hW
  have c0 := HK.out.2.2.1
  have c1 := HK.out.2.2.2
  go_wp2_with fail
  refine (X.out _).mono ?_
  rintro e w1 ⟨rfl, b1⟩
  have K1 := Lib.hid (vs_next HK.out b1); clear b1 HK c0 c1
  go_wp2_with fail
  refine (M.out _).mono ?_
  rintro e w2 ⟨rfl, b2⟩
  have K2 := Lib.hid (vs_next K1.out b2); clear b2 K1
  go_wp2_with fail
  obtain ⟨t0, hb, c0, c1⟩ := K2.out
  go_region_held3 (fun w' => TS w' ∧ Below w.heap.size w w' ∧ w'.cell? ⟨p, 0, none⟩ = some (.int .i64 C) ∧ w'.cell? ⟨p, 1, none⟩ = some (.int .i64 Z))
    (first | assumption | exact ⟨t0.below (Below.drew (Below.refl _ _)), hb.drew, c0, c1⟩ | exact ⟨t0, hb, c0, c1⟩ | exact vs_next (by assumption) b | exact vs_alloc (by assumption) _)
    (first
      | (go_at_call_of 114 (Value.int .i64 g); refine (S1.out _ p (by assumption)).mono ?_; rintro e w' ⟨rfl, b⟩)
      | (go_at_call_of 114 (Value.int .i64 h); refine (S2.out _ p (by assumption)).mono ?_; rintro e w' ⟨rfl, b⟩)
      | (go_at_call 75; refine (CH.out _ (And.left (by assumption))).mono ?_; rintro e w' ⟨rfl, b⟩))
  all_goals go_wp2
  all_goals go_ret
  all_goals exact ⟨rfl, (And.left (And.right (by assumption)) : Below w.heap.size w _)⟩
theorem sd_i64 (g a C Z : Int) : i64 (sd g a C Z) := i64_of (sd_rng _ _ _ _) (by decide)
theorem Verify_any (w : World) (g a h b C Z : Int) (hg : i64 g) (ha : i64 a) (hh : i64 h) (hb : i64 b) (hC : i64 C) (hZ : i64 Z) (hT : TS w) :
    Calls Tryz.prog 87 #[.int .i64 g, .int .i64 a, .int .i64 h, .int .i64 b, pfv C Z] w fun e w' => e = .returned (.bool (vf g a h b C Z)) ∧ Below w.heap.size w w' := by
  have two : ∀ x ∈ [C, Z], i64 x := by simp; exact ⟨hC, hZ⟩
  have four : ∀ x ∈ [g, a, h, b], i64 x := by simp; exact ⟨hg, ha, hh, hb⟩
  cases e1 : inQ C && inQ Z with
  | false =>
    have : vf g a h b C Z = false := by unfold vf; rw [e1]; rfl
    rw [this]
    exact Verify_e w g a h b C Z (Lib.hid fun W => exponents_new W 2 [C, Z] false rfl (by simpa using e1) two (by decide)) hT
  | true =>
    have x1 : [C, Z].all inQ = true := by simpa using e1
    cases e2 : mem g && mem a && mem h && mem b with
    | false =>
      have : vf g a h b C Z = false := by unfold vf; rw [e2, Bool.and_false]; rfl
      rw [this]
      exact Verify_m w g a h b C Z (Lib.hid fun W => exponents_new W 2 [C, Z] true rfl x1 two (by decide)) (Lib.hid fun W => members_new W 4 [g, a, h, b] false rfl (by simp only [List.all_cons, List.all_nil, Bool.and_true]; rw [← e2]; simp only [Bool.and_assoc]) four (by decide)) hT
    | true =>
      have : vf g a h b C Z = (C == ch [g, a, h, b, sd g a C Z, sd h b C Z]) := by unfold vf; rw [e1, e2]; rfl
      rw [this]
      have hc : 0 ≤ C ∧ C < 1152921504606845789 := inQ_iff.1 (by rw [Bool.and_eq_true] at e1; exact e1.1)
      exact Verify_y w g a h b C Z (sd g a C Z) (sd h b C Z) _ (Lib.hid fun W => exponents_new W 2 [C, Z] true rfl x1 two (by decide))
        (Lib.hid fun W => members_new W 4 [g, a, h, b] true rfl (by simp only [List.all_cons, List.all_nil, Bool.and_true]; rw [← e2]; simp only [Bool.and_assoc]) four (by decide))
        (Lib.hid fun W p k => side_any W p g a C Z hg ha hc hZ k.2.2.1 k.2.2.2)
        (Lib.hid fun W p k => side_any W p h b C Z hh hb hc hZ k.2.2.1 k.2.2.2)
        (Lib.hid fun W t => challenge_any _ W.heap.size 6 6 [g, a, h, b, sd g a C Z, sd h b C Z] rfl (IL.new W [g, a, h, b, sd g a C Z, sd h b C Z] _) (by simp only [List.mem_cons, List.not_mem_nil, or_false, forall_eq_or_imp, forall_eq]; exact ⟨hg, ha, hh, hb, sd_i64 _ _ _ _, sd_i64 _ _ _ _⟩) (by decide) t) hT
end Go.Proofs.YtbfplapjjeeceaaGreatDoor.E6
