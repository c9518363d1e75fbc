/-
  The walk of equal.Prove.
-/
import Derived.Test.YtbfplapjjeeceaaGreatDoorEVer
namespace Go.Proofs.YtbfplapjjeeceaaGreatDoor.E6
open Go.RowKit GM SH G4
/-- a proof as a value -/
abbrev pfv (C Z : Int) : Value := .agg #[.int .i64 C, .int .i64 Z]
/-- a proof lies in block b -/
def PM (w : World) (b : Nat) (C Z : Int) : Prop := w.heap[b]? = some (.cells #[.int .i64 C, .int .i64 Z] 28 (0, 0))
theorem PM.lt {w : World} {b : Nat} {C Z : Int} (h : PM w b C Z) : b < w.heap.size := (Array.getElem?_eq_some_iff.1 h).1
theorem PM.c0 {w : World} {b : Nat} {C Z : Int} (h : PM w b C Z) : w.cell? ⟨b, 0, none⟩ = some (.int .i64 C) := cell_of_row w b 0 _ _ _ h
theorem PM.c1 {w : World} {b : Nat} {C Z : Int} (h : PM w b C Z) : w.cell? ⟨b, 1, none⟩ = some (.int .i64 Z) := cell_of_row w b 1 _ _ _ h
theorem PM.below {w w' : World} {b B : Nat} {C Z : Int} (h : PM w b C Z) (k : Below B w w') (hb : b < B) : PM w' b C Z := (k.block b hb).trans h
theorem PM.next {w w' : World} {b : Nat} {C Z : Int} (h : PM w b C Z) (k : Below w.heap.size w w') : PM w' b C Z := h.below k h.lt
theorem PM.alloc {w : World} {b : Nat} {C Z : Int} (h : PM w b C Z) (o : Obj) : PM (w.alloc o) b C Z := by
  have hl := h.lt
  unfold PM at h ⊢; rw [heap_alloc_old _ _ hl]; exact h
theorem PM.new (w : World) (C Z : Int) : PM (w.alloc (.cells #[.int .i64 C, .int .i64 Z] 28)) w.heap.size C Z := heap_alloc_new _ _
theorem infoP (C Z : Int) : Hid ((Tryz.prog.info? 28).map (·.size) = some (#[Value.int .i64 C, .int .i64 Z]).size) := Lib.hid (by show _ = some 2; kernel_rfl)
theorem two_size (a b c d : Value) : (#[a, b]).size = (#[c, d]).size := by simp
theorem pf_one (C Z : Int) : (#[Value.int .i64 C, .int .i64 Z]).all (·.oneCell') = true := by simp [Value.oneCell']
/-- what Prove's walk keeps: the bases in their boxes, the result's block -/
structure PK (w W : World) (p q r : Nat) (g h : Int) : Prop where
  t : TS W
  b : Below w.heap.size w W
  c0 : W.cell? ⟨p, 0, none⟩ = some (.int .i64 g)
  c1 : W.cell? ⟨q, 0, none⟩ = some (.int .i64 h)
  m : PM W r 0 0
  hr : w.heap.size ≤ r
theorem PK.next {w u v : World} {p q r : Nat} {g h : Int} (k : PK w u p q r g h) (b : Below u.heap.size u v) : PK w v p q r g h :=
  ⟨k.t.below b, k.b.trans (b.mono k.b.size), (b.cell (p := ⟨p, 0, none⟩) (World.block_lt_of_cell? _ _ k.c0)).trans k.c0, (b.cell (p := ⟨q, 0, none⟩) (World.block_lt_of_cell? _ _ k.c1)).trans k.c1, k.m.next b, k.hr⟩
theorem PK.alloc {w u : World} {p q r : Nat} {g h : Int} (k : PK w u p q r g h) (o : Obj) : PK w (u.alloc o) p q r g h := k.next ((Below.refl _ u).alloc (Nat.le_refl _) _)
theorem PK.start {w : World} (hT : TS w) (g h : Int) : PK w (((w.alloc (.cells #[.int .i64 g] 3)).alloc (.cells #[.int .i64 h] 3)).alloc (.cells #[.int .i64 0, .int .i64 0] 28)) w.heap.size (w.heap.size + 1) (w.heap.size + 1 + 1) g h := by
  have b1 : Below w.heap.size w (w.alloc (.cells #[.int .i64 g] 3)) := (Below.refl _ w).alloc (Nat.le_refl _) _
  have z1 : (w.alloc (.cells #[.int .i64 g] 3)).heap.size = w.heap.size + 1 := by simp
  have d0 : (w.alloc (.cells #[.int .i64 g] 3)).cell? ⟨w.heap.size, 0, none⟩ = some (.int .i64 g) := World.cell?_alloc_at _ _ _ _ rfl
  generalize w.alloc (.cells #[.int .i64 g] 3) = u at *
  have b2 : Below u.heap.size u (u.alloc (.cells #[.int .i64 h] 3)) := (Below.refl _ u).alloc (Nat.le_refl _) _
  have z2 : (u.alloc (.cells #[.int .i64 h] 3)).heap.size = u.heap.size + 1 := by simp
  have d1 : (u.alloc (.cells #[.int .i64 h] 3)).cell? ⟨u.heap.size, 0, none⟩ = some (.int .i64 h) := World.cell?_alloc_at _ _ _ _ rfl
  have d2 := (b2.cell (p := ⟨w.heap.size, 0, none⟩) (by show w.heap.size < _; omega)).trans d0
  generalize u.alloc (.cells #[.int .i64 h] 3) = v at *
  have b3 : Below v.heap.size v (v.alloc (.cells #[.int .i64 0, .int .i64 0] 28)) := (Below.refl _ v).alloc (Nat.le_refl _) _
  have m := PM.new v 0 0
  have B : Below w.heap.size w (v.alloc (.cells #[.int .i64 0, .int .i64 0] 28)) := (b1.trans (b2.mono (by omega))).trans (b3.mono (by omega))
  refine ⟨hT.below B, B, (b3.cell (p := ⟨w.heap.size, 0, none⟩) (by show w.heap.size < _; omega)).trans d2, ?_, ?_, by omega⟩
  · rw [← z1]; exact (b3.cell (p := ⟨u.heap.size, 0, none⟩) (by show u.heap.size < _; omega)).trans d1
  · rw [show w.heap.size + 1 + 1 = v.heap.size by omega]; exact m
/-- a list of numbers laid into a new block and handed over -/
theorem members_new (W : World) (n : Nat) (l : List Int) (r : Bool) (hn : l.length = n) (he : l.all mem = r) (hr : ∀ x ∈ l, i64 x) (hN : n ≤ 1000) :
    Calls Tryz.prog 71 #[.slice (some ⟨W.heap.size, 0, none⟩) n n] (W.alloc (.cells (l.map (Value.int .i64)).toArray 3)) fun e w' => e = .returned (.bool r) ∧ Below W.heap.size W w' := by
  subst he
  exact (members_any _ W.heap.size n n l hn (IL.new W l _) hr hN).mono fun e w' ⟨he, b⟩ => ⟨he, ((Below.refl _ W).alloc (Nat.le_refl _) _).trans (b.mono (by simp))⟩
theorem scalar_new (W : World) (s : ByteArray) (n : Nat) (l : List Int) (v : Int) (hn : l.length = n) (he : sc (tw s l) = v) (hr : ∀ x ∈ l, i64 x) (hN : n ≤ 1000) (hs : s.size ≤ 1000) (hT : TS W) :
    Calls Tryz.prog 73 #[.string s, .slice (some ⟨W.heap.size, 0, none⟩) n n] (W.alloc (.cells (l.map (Value.int .i64)).toArray 3)) fun e w' => e = .returned (.int .i64 v) ∧ Below W.heap.size W w' := by
  subst he
  exact (scalar_any _ s W.heap.size n n l hn (IL.new W l _) hr hN hs (hT.below ((Below.refl _ W).alloc (Nat.le_refl _) _))).mono fun e w' ⟨he, b⟩ => ⟨he, ((Below.refl _ W).alloc (Nat.le_refl _) _).trans (b.mono (by simp))⟩
theorem challenge_new (W : World) (n : Nat) (l : List Int) (v : Int) (hn : l.length = n) (he : ch l = v) (hr : ∀ x ∈ l, i64 x) (hN : n ≤ 1000) (hT : TS W) :
    Calls Tryz.prog 75 #[.slice (some ⟨W.heap.size, 0, none⟩) n n] (W.alloc (.cells (l.map (Value.int .i64)).toArray 3)) fun e w' => e = .returned (.int .i64 v) ∧ Below W.heap.size W w' := by
  subst he
  exact (challenge_any _ W.heap.size n n l hn (IL.new W l _) hr hN (hT.below ((Below.refl _ W).alloc (Nat.le_refl _) _))).mono fun e w' ⟨he, b⟩ => ⟨he, ((Below.refl _ W).alloc (Nat.le_refl _) _).trans (b.mono (by simp))⟩
set_option maxRecDepth 100000 in
set_option maxHeartbeats 4000000 in
theorem Prove_no (w : World) (s g h : Int)
    (M : Hid (∀ W : World, Calls Tryz.prog 71 #[.slice (some ⟨W.heap.size, 0, none⟩) 2 2] (W.alloc (.cells #[.int .i64 g, .int .i64 h] 3)) fun e w' => e = .returned (.bool false) ∧ Below W.heap.size W w')) (hT : TS w) :
    Calls Tryz.prog 38 #[.int .i64 s, .int .i64 g, .int .i64 h] w fun e w' => e = .returned (pfv 0 0) ∧ Below w.heap.size w w' := by
  obtain ⟨W, hW⟩ : ∃ W, ((w.alloc (.cells #[.int .i64 g] 3)).alloc (.cells #[.int .i64 h] 3)).alloc (.cells #[.int .i64 0, .int .i64 0] 28) = W := ⟨_, rfl⟩
  have HK := PK.start hT g h
  rw [hW] at HK
  obtain ⟨p, hp⟩ : ∃ p, w.heap.size = p := ⟨_, rfl⟩
  rw [hp] at HK
  have HK := Lib.hid HK; clear hT
  have hi := infoP 0 0
  go_enter Tryz.func38, Tryz.ntmps38
  go_upto_region 1 with fail
  clear hW
  have c0 := HK.out.c0
  have c1 := HK.out.c1
  go_wp2_with fail
  refine (M.out _).mono ?_
  rintro e w1 ⟨rfl, b⟩
  have K1 := Lib.hid (HK.out.next b); clear b HK c0 c1
  have m1 := K1.out.m
  have hr1 := K1.out.hr
  go_wp2_with (refine wpList_store_row rfl 28 (.tmp 6) (.tmp 20) rfl (p + 1 + 1) #[.int .i64 0, .int .i64 0] rfl rfl 28 _ m1 hi.out (two_size _ _ _ _) (pf_one _ _) ?_)
  refine bodyPost_ret (results_cell_row rfl _ _ (p + 1 + 1) _ #[.int .i64 0, .int .i64 0] _ _ rfl (setRow_heap _ _ _ _ _ _ m1) Tryz.underlying28 rfl hi.out) rfl ?_
  exact ⟨rfl, Below.setRow' K1.out.b K1.out.hr _⟩
set_option maxRecDepth 100000 in
set_option maxHeartbeats 4000000 in
theorem Prove_yes (w : World) (s g h x k a b r q c m z : Int)
    (M : Hid (∀ W : World, Calls Tryz.prog 71 #[.slice (some ⟨W.heap.size, 0, none⟩) 2 2] (W.alloc (.cells #[.int .i64 g, .int .i64 h] 3)) fun e w' => e = .returned (.bool true) ∧ Below W.heap.size W w'))
    (A1 : Hid (∀ W : World, Calls Tryz.prog 72 #[.int .i64 s, .int .i64 0, .int .i64 1152921504606845789] W fun e w' => e = .returned (.int .i64 x) ∧ w' = W))
    (SC : Hid (∀ W : World, TS W → Calls Tryz.prog 73 #[.string ⟨#[110, 111, 110, 99, 101]⟩, .slice (some ⟨W.heap.size, 0, none⟩) 3 3] (W.alloc (.cells #[.int .i64 x, .int .i64 g, .int .i64 h] 3)) fun e w' => e = .returned (.int .i64 k) ∧ Below W.heap.size W w'))
    (P1 : Hid (∀ (W : World) (p : Nat), W.cell? ⟨p, 0, none⟩ = some (.int .i64 g) → W.cell? ⟨p + 1, 0, none⟩ = some (.int .i64 h) → Calls Tryz.prog 74 #[.int .i64 x, .pointer (some ⟨p, 0, none⟩), .pointer (some ⟨p + 1, 0, none⟩)] W fun e w' => e = .returned (.tuple #[.int .i64 a, .int .i64 b]) ∧ Below W.heap.size W w'))
    (P2 : Hid (∀ (W : World) (p : Nat), W.cell? ⟨p, 0, none⟩ = some (.int .i64 g) → W.cell? ⟨p + 1, 0, none⟩ = some (.int .i64 h) → Calls Tryz.prog 74 #[.int .i64 k, .pointer (some ⟨p, 0, none⟩), .pointer (some ⟨p + 1, 0, none⟩)] W fun e w' => e = .returned (.tuple #[.int .i64 r, .int .i64 q]) ∧ Below W.heap.size W w'))
    (CH : Hid (∀ W : World, TS W → Calls Tryz.prog 75 #[.slice (some ⟨W.heap.size, 0, none⟩) 6 6] (W.alloc (.cells #[.int .i64 g, .int .i64 a, .int .i64 h, .int .i64 b, .int .i64 r, .int .i64 q] 3)) fun e w' => e = .returned (.int .i64 c) ∧ Below W.heap.size W w'))
    (MU : Hid (∀ W : World, Calls Tryz.prog 24 #[.int .i64 c, .int .i64 x, .int .i64 1152921504606845789] W fun e w' => e = .returned (.int .i64 m) ∧ w' = W))
    (A2 : Hid (∀ W : World, Calls Tryz.prog 72 #[.int .i64 k, .int .i64 m, .int .i64 1152921504606845789] W fun e w' => e = .returned (.int .i64 z) ∧ w' = W)) (hT : TS w) :
    Calls Tryz.prog 38 #[.int .i64 s, .int .i64 g, .int .i64 h] w fun e w' => e = .returned (pfv c z) ∧ Below w.heap.size w w' := by
  obtain ⟨W, hW⟩ : ∃ W, ((w.alloc (.cells #[.int .i64 g] 3)).alloc (.cells #[.int .i64 h] 3)).alloc (.cells #[.int .i64 0, .int .i64 0] 28) = W := ⟨_, rfl⟩
  have HK := PK.start hT g h
  rw [hW] at HK
  obtain ⟨p, hp⟩ : ∃ p, w.heap.size = p := ⟨_, rfl⟩
  rw [hp] at HK
  have HK := Lib.hid HK; clear hT
  have hi := infoP c z
  have hs2 : Hid ((#[Value.int .i64 0, Value.int .i64 0]).size = (#[Value.int .i64 c, .int .i64 z]).size) := Lib.hid (two_size _ _ _ _)
  go_enter Tryz.func38, Tryz.ntmps38
  go_upto_region 1 with fail
  clear hW
  have c0 := HK.out.c0
  have c1 := HK.out.c1
  go_wp2_with fail
  refine (M.out _).mono ?_
  rintro e w1 ⟨rfl, b1⟩
  have K1 := Lib.hid (HK.out.next b1); clear b1 HK c0 c1
  go_wp2_with fail
  refine (A1.out _).mono ?_
  rintro e w2 ⟨rfl, rfl⟩
  have c0 := K1.out.c0
  have c1 := K1.out.c1
  go_wp2_with fail
  refine (SC.out _ K1.out.t).mono ?_
  rintro e w3 ⟨rfl, b3⟩
  have K3 := Lib.hid (K1.out.next b3); clear b3 K1 c0 c1
  go_wp2_with fail
  refine (P1.out _ p K3.out.c0 K3.out.c1).mono ?_
  rintro e w4 ⟨rfl, b4⟩
  have K4 := Lib.hid (K3.out.next b4); clear b4 K3
  go_wp2_with fail
  refine (P2.out _ p K4.out.c0 K4.out.c1).mono ?_
  rintro e w5 ⟨rfl, b5⟩
  have K5 := Lib.hid (K4.out.next b5); clear b5 K4
  have c0 := K5.out.c0
  have c1 := K5.out.c1
  go_wp2_with fail
  refine (CH.out _ K5.out.t).mono ?_
  rintro e w6 ⟨rfl, b6⟩
  have K6 := Lib.hid (K5.out.next b6); clear b6 K5 c0 c1
  go_wp2_with fail
  refine (MU.out _).mono ?_
  rintro e w7 ⟨rfl, rfl⟩
  go_wp2_with fail
  refine (A2.out _).mono ?_
  rintro e w8 ⟨rfl, rfl⟩
  have m1 := K6.out.m
  go_wp2_with (refine wpList_store_row rfl 28 (.tmp 6) (.tmp 55) rfl (p + 1 + 1) #[.int .i64 c, .int .i64 z] rfl rfl 28 _ m1 hi.out hs2.out (pf_one _ _) ?_)
  refine bodyPost_ret (results_cell_row rfl _ _ (p + 1 + 1) _ #[.int .i64 c, .int .i64 z] _ _ rfl (setRow_heap _ _ _ _ _ _ m1) Tryz.underlying28 rfl hi.out) rfl ?_
  exact ⟨rfl, Below.setRow' K6.out.b K6.out.hr _⟩
theorem zz_def (k c x : Int) : ga k (gm c x 1152921504606845789) 1152921504606845789 = zz k c x := by unfold zz; rfl
theorem ex_def (s : Int) : ga s 0 1152921504606845789 = ex s := by unfold ex; rfl
theorem Prove_any (w : World) (s g h : Int) (hs : i64 s) (hg : i64 g) (hh : i64 h) (hT : TS w) :
    Calls Tryz.prog 38 #[.int .i64 s, .int .i64 g, .int .i64 h] w fun e w' => e = .returned (pfv (prC s g h) (prZ s g h)) ∧ Below w.heap.size w w' := by
  by_cases hm : mem g = true ∧ mem h = true
  · have e0 : prC s g h = pvC (ex s) g h (nk (ex s) g h) := if_pos hm
    have e1 : prZ s g h = zz (nk (ex s) g h) (pvC (ex s) g h (nk (ex s) g h)) (ex s) := if_pos hm
    rw [e0, e1]
    have hx := i64_of (ex_rng s) (by decide)
    have hk := i64_of (nk_rng (ex s) g h) (by decide)
    have hc := i64_of (ch_rng [g, pp g (ex s), h, pp h (ex s), pp g (nk (ex s) g h), pp h (nk (ex s) g h)]) (by decide)
    have hm2 : i64 (gm (pvC (ex s) g h (nk (ex s) g h)) (ex s) 1152921504606845789) := by
      have := gm_rng (pvC (ex s) g h (nk (ex s) g h)) (ex s) 1152921504606845789
      exact i64_of (m := 1152921504606845789) ⟨this.1, this.2.2 (by decide)⟩ (by decide)
    exact Prove_yes w s g h (ex s) (nk (ex s) g h) (pp g (ex s)) (pp h (ex s)) (pp g (nk (ex s) g h)) (pp h (nk (ex s) g h)) (pvC (ex s) g h (nk (ex s) g h)) _ (zz (nk (ex s) g h) (pvC (ex s) g h (nk (ex s) g h)) (ex s))
      (Lib.hid fun W => members_new W 2 [g, h] true rfl (by simp [hm.1, hm.2]) (by simp; exact ⟨hg, hh⟩) (by decide))
      (Lib.hid fun W => add_k W s 0 1152921504606845789 _ (ex_def s) hs.1 hs.2 (by decide) (by decide) (by decide))
      (Lib.hid fun W t => scalar_new W wN 3 [ex s, g, h] _ rfl rfl (by simp only [List.mem_cons, List.not_mem_nil, or_false, forall_eq_or_imp, forall_eq]; exact ⟨hx, hg, hh⟩) (by decide) (by decide) t)
      (Lib.hid fun W p c0 c1 => powers_any W p (p + 1) g h (ex s) hg hh hx c0 c1)
      (Lib.hid fun W p c0 c1 => powers_any W p (p + 1) g h _ hg hh hk c0 c1)
      (Lib.hid fun W t => challenge_new W 6 [g, pp g (ex s), h, pp h (ex s), pp g (nk (ex s) g h), pp h (nk (ex s) g h)] _ rfl rfl (by simp only [List.mem_cons, List.not_mem_nil, or_false, forall_eq_or_imp, forall_eq]; exact ⟨hg, pp_i64 _ _, hh, pp_i64 _ _, pp_i64 _ _, pp_i64 _ _⟩) (by decide) t)
      (Lib.hid fun W => mul_k W _ _ 1152921504606845789 _ rfl hc.1 hc.2 hx.1 hx.2 (by decide))
      (Lib.hid fun W => add_k W _ _ 1152921504606845789 _ (zz_def _ _ _) hk.1 hk.2 hm2.1 hm2.2 (by decide)) hT
  · have e0 : prC s g h = 0 := if_neg hm
    have e1 : prZ s g h = 0 := if_neg hm
    have em : [g, h].all mem = false := by
      rcases Bool.eq_false_or_eq_true (mem g) with a | a
      · rcases Bool.eq_false_or_eq_true (mem h) with b | b
        · exact absurd ⟨a, b⟩ hm
        · simp [b]
      · simp [a]
    rw [e0, e1]
    exact Prove_no w s g h (Lib.hid fun W => members_new W 2 [g, h] false rfl em (by simp; exact ⟨hg, hh⟩) (by decide)) hT
end Go.Proofs.YtbfplapjjeeceaaGreatDoor.E6
