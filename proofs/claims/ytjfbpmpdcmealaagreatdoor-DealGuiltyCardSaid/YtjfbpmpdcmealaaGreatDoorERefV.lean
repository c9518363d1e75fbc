/-
  The walks of the reference's ProveWith, Prove, side and Verify.
  The walk of the reference's Verify.
-/
import Derived.Test.YtjfbpmpdcmealaaGreatDoorERef
import Derived.Test.YtjfbpmpdcmealaaGreatDoorEVer
import Derived.Test.YtjfbpmpdcmealaaGreatDoorEVerify
namespace Go.Proofs.YtjfbpmpdcmealaaGreatDoor.E6
open Go.RowKit GM SH G4
theorem refChallenge_new (W : World) (n : Nat) (a : Int) (l : List Int) (v : Int) (hn : (a :: l).length = n) (he : ch (a :: l) = v) (hr : ∀ x ∈ a :: l, i64 x) (hN : n ≤ 1000) :
    Calls Tryz.prog 46 #[.slice (some ⟨W.heap.size, 0, none⟩) n n] (W.alloc (.cells ((a :: l).map (Value.int .i64)).toArray 3)) fun e w' => e = .returned (.int .i64 v) ∧ Below W.heap.size W w' := by
  subst he
  exact (refChallenge_any _ W.heap.size n n a l hn (IL.new W (a :: l) _) hr hN).mono fun e w' ⟨he, b⟩ => ⟨he, ((Below.refl _ W).alloc (Nat.le_refl _) _).trans (b.mono (by simp))⟩
theorem joined_new (W : World) (n : Nat) (l : List Int) (hn : l.length = n) (hr : ∀ x ∈ l, i64 x) (hN : n ≤ 1000) :
    Calls Tryz.prog 78 #[.slice (some ⟨W.heap.size, 0, none⟩) n n] (W.alloc (.cells (l.map (Value.int .i64)).toArray 3)) fun e w' => e = .returned (.string (jn l)) ∧ Below W.heap.size W w' :=
  (joined_any _ W.heap.size n n l hn (IL.new W l _) hr hN).mono fun e w' ⟨he, b⟩ => ⟨he, ((Below.refl _ W).alloc (Nat.le_refl _) _).trans (b.mono (by simp))⟩
theorem ex_i64 (n : Int) : i64 (ex n) := i64_of (ex_rng n) (by decide)
theorem em_i64 (n : Int) : i64 (em n) := ⟨by have := em_rng n; omega, by have := em_rng n; omega⟩
theorem gm_i64 (a b m : Int) (h : 1 ≤ m) (h2 : m ≤ 9223372036854775807) : i64 (gm a b m) := by
  have := gm_rng a b m
  exact i64_of (m := m) ⟨this.1, this.2.2 h⟩ h2
theorem zz_i64 (k c x : Int) : i64 (zz k c x) := i64_of (zz_rng k c x) (by decide)
theorem pvC_i64 (x g h k : Int) : i64 (pvC x g h k) := i64_of (ch_rng _) (by decide)
theorem prC_i64 (s g h : Int) : i64 (prC s g h) := i64_of (prC_rng s g h) (by decide)
theorem prZ_i64 (s g h : Int) : i64 (prZ s g h) := i64_of (prZ_rng s g h) (by decide)
theorem refMul_k (W : World) (a b m r : Int) (h : gm a b m = r) (ha : i64 a) (hb : i64 b) (hm2 : m ≤ 9223372036854775807) :
    Calls Tryz.prog 15 #[.int .i64 a, .int .i64 b, .int .i64 m] W fun e w' => e = .returned (.int .i64 r) ∧ w' = W := by
  subst h; exact refMul_any W a b m ha.1 ha.2 hb.1 hb.2 hm2
theorem refAdd_k (W : World) (a b m r : Int) (h : ga a b m = r) (ha : i64 a) (hb : i64 b) (hm2 : m ≤ 9223372036854775807) :
    Calls Tryz.prog 91 #[.int .i64 a, .int .i64 b, .int .i64 m] W fun e w' => e = .returned (.int .i64 r) ∧ w' = W := by
  subst h; exact refAdd_any W a b m ha.1 ha.2 hb.1 hb.2 hm2
theorem refMember_k (W : World) (a : Int) (r : Bool) (h : mem a = r) (ha : i64 a) :
    Calls Tryz.prog 45 #[.int .i64 a] W fun e w' => e = .returned (.bool r) ∧ w' = W := by
  subst h; exact refMember_any W a ha.1 ha.2
set_option maxRecDepth 100000 in
set_option maxHeartbeats 2000000 in
theorem refSide_core (w : World) (g a C Z x y v : Int) (hC : 0 ≤ C ∧ C < 1152921504606845789)
    (P1 : Hid (∀ W, Calls Tryz.prog 79 #[.int .i64 g, .int .i64 Z] W fun e w' => e = .returned (.int .i64 x) ∧ w' = W))
    (P2 : Hid (∀ W, Calls Tryz.prog 79 #[.int .i64 a, .int .i64 (1152921504606845789 - C)] W fun e w' => e = .returned (.int .i64 y) ∧ w' = W))
    (X1 : Hid (∀ W, Calls Tryz.prog 15 #[.int .i64 x, .int .i64 y, .int .i64 2305843009213691579] W fun e w' => e = .returned (.int .i64 v) ∧ w' = W)) :
    Calls Tryz.prog 47 #[.int .i64 g, .int .i64 a, pfv C Z] w fun e w' => e = .returned (.int .i64 v) ∧ Below w.heap.size w w' := by
  obtain ⟨W, hW⟩ : ∃ W, w.alloc (.cells #[.int .i64 C, .int .i64 Z] 26) = W := ⟨_, rfl⟩
  have h1 : PM W w.heap.size C Z := by rw [← hW]; exact PM.new _ _ _
  have B0 : Below w.heap.size w W := by rw [← hW]; exact (Below.refl w.heap.size w).alloc (Nat.le_refl _) _
  have c0 := h1.c0
  have c1 := h1.c1
  clear h1
  obtain ⟨hC0, hC1⟩ := hC
  have x1 : IntKind.i64.wrap (1152921504606845789 - C) = 1152921504606845789 - C := IntWalk.i64_in _ ⟨by omega, by omega⟩
  have x2 : wrap64 (1152921504606845789 - C) = 1152921504606845789 - C := by unfold wrap64; omega
  obtain ⟨D, hD⟩ : ∃ D, 1152921504606845789 - C = D := ⟨_, rfl⟩
  rw [hD] at x1 x2 P2
  go_enter Tryz.func47, Tryz.ntmps47
  go_upto_region 1 with fail
  clear hW
  go_region_held3 (fun w' => Below w.heap.size w w' ∧ w'.cell? ⟨w.heap.size, 0, none⟩ = some (.int .i64 C) ∧ w'.cell? ⟨w.heap.size, 1, none⟩ = some (.int .i64 Z))
    (first | assumption | exact ⟨B0.drew, c0, c1⟩ | exact ⟨B0, c0, c1⟩)
    (first
      | (go_at_call_of 79 (Value.int .i64 g); refine (P1.out _).mono ?_; rintro e w' ⟨rfl, rfl⟩)
      | (go_at_call_of 79 (Value.int .i64 a); refine (P2.out _).mono ?_; rintro e w' ⟨rfl, rfl⟩)
      | (go_at_call 15; refine (X1.out _).mono ?_; rintro e w' ⟨rfl, rfl⟩))
  all_goals go_wp2
  all_goals go_ret
  all_goals exact ⟨rfl, (And.left (by assumption) : Below w.heap.size w _)⟩
theorem refSide_any (w : World) (g a C Z : Int) (hg : i64 g) (ha : i64 a) (hC : 0 ≤ C ∧ C < 1152921504606845789) (hZ : i64 Z) :
    Calls Tryz.prog 47 #[.int .i64 g, .int .i64 a, pfv C Z] w fun e w' => e = .returned (.int .i64 (sd g a C Z)) ∧ Below w.heap.size w w' :=
  refSide_core w g a C Z (pp g Z) (pp a (1152921504606845789 - C)) (sd g a C Z) hC (Lib.hid fun W => power_any W g Z hg hZ) (Lib.hid fun W => power_any W a _ ha ⟨by omega, by omega⟩)
    (Lib.hid fun W => refMul_k W _ _ _ _ (sd_eq g a C Z) (pp_i64 _ _) (pp_i64 _ _) (by decide))
end Go.Proofs.YtjfbpmpdcmealaaGreatDoor.E6
namespace Go.Proofs.YtjfbpmpdcmealaaGreatDoor.E6
open Go.RowKit GM SH G4
theorem IL.alloc2 (w : World) (l : List Int) (t : TypeId) {b : Nat} {C Z : Int} (h : PM w b C Z) : PM (w.alloc (.cells (l.map (Value.int .i64)).toArray t)) b C Z := h.alloc _
/-- what the walk keeps: the proof's box, the list of numbers -/
structure RK (w W : World) (p : Nat) (C Z : Int) (l : List Int) : Prop where
  b : Below w.heap.size w W
  m : PM W p C Z
  i : IL W (p + 1) l
theorem rk_start (w : World) (C Z : Int) (l : List Int) : RK w ((w.alloc (.cells #[.int .i64 C, .int .i64 Z] 26)).alloc (.cells (l.map (Value.int .i64)).toArray 3)) w.heap.size C Z l := by
  have b1 : Below w.heap.size w (w.alloc (.cells #[.int .i64 C, .int .i64 Z] 26)) := (Below.refl _ w).alloc (Nat.le_refl _) _
  have m1 := PM.new w C Z
  have z1 : (w.alloc (.cells #[.int .i64 C, .int .i64 Z] 26)).heap.size = w.heap.size + 1 := by simp
  generalize w.alloc (.cells #[.int .i64 C, .int .i64 Z] 26) = u at *
  refine ⟨b1.alloc (by omega) _, m1.alloc _, ?_⟩
  rw [← z1]; exact IL.new u l _
theorem rk_two {w u v : World} {p q : Addr} {x y : Value} (h : Below w.heap.size w u ∧ u.cell? p = some x ∧ u.cell? q = some y) (b : Below u.heap.size u v) : Below w.heap.size w v ∧ v.cell? p = some x ∧ v.cell? q = some y := two_next h b
theorem rk_two_alloc {w u : World} {p q : Addr} {x y : Value} (h : Below w.heap.size w u ∧ u.cell? p = some x ∧ u.cell? q = some y) (o : Obj) : Below w.heap.size w (u.alloc o) ∧ (u.alloc o).cell? p = some x ∧ (u.alloc o).cell? q = some y :=
  two_next h ((Below.refl _ u).alloc (Nat.le_refl _) _)
set_option maxRecDepth 100000 in
set_option maxHeartbeats 8000000 in
theorem refVerify_core (w : World) (g a h b C Z u v c : Int) (hg : i64 g) (ha : i64 a) (hh : i64 h) (hb : i64 b)
    (S1 : Hid (inQ C = true → ∀ (W : World), Calls Tryz.prog 47 #[.int .i64 g, .int .i64 a, pfv C Z] W fun e w' => e = .returned (.int .i64 u) ∧ Below W.heap.size W w'))
    (S2 : Hid (inQ C = true → ∀ (W : World), Calls Tryz.prog 47 #[.int .i64 h, .int .i64 b, pfv C Z] W fun e w' => e = .returned (.int .i64 v) ∧ Below W.heap.size W w'))
    (CH : Hid (∀ (W : World), Calls Tryz.prog 46 #[.slice (some ⟨W.heap.size, 0, none⟩) 6 6] (W.alloc (.cells #[.int .i64 g, .int .i64 a, .int .i64 h, .int .i64 b, .int .i64 u, .int .i64 v] 3)) fun e w' => e = .returned (.int .i64 c) ∧ Below (W.alloc (.cells #[.int .i64 g, .int .i64 a, .int .i64 h, .int .i64 b, .int .i64 u, .int .i64 v] 3)).heap.size (W.alloc (.cells #[.int .i64 g, .int .i64 a, .int .i64 h, .int .i64 b, .int .i64 u, .int .i64 v] 3)) w')) :
    Calls Tryz.prog 18 #[.int .i64 g, .int .i64 a, .int .i64 h, .int .i64 b, pfv C Z] w fun e w' => e = .returned (.bool ([g, a, h, b].all mem && (inQ C && inQ Z) && (C == c))) ∧ Below w.heap.size w w' := by
  have HK := rk_start w C Z [g, a, h, b]
  obtain ⟨W, hW⟩ : ∃ W, (w.alloc (.cells #[.int .i64 C, .int .i64 Z] 26)).alloc (.cells #[.int .i64 g, .int .i64 a, .int .i64 h, .int .i64 b] 3) = W := ⟨_, rfl⟩
  rw [show (w.alloc (.cells #[.int .i64 C, .int .i64 Z] 26)).alloc (.cells ([g, a, h, b].map (Value.int .i64)).toArray 3) = W from hW] at HK
  obtain ⟨p, hp⟩ : ∃ p, w.heap.size = p := ⟨_, rfl⟩
  rw [hp] at HK
  have hr : Hid (∀ x ∈ [g, a, h, b], i64 x) := Lib.hid (by simp only [List.mem_cons, List.not_mem_nil, or_false, forall_eq_or_imp, forall_eq]; exact ⟨hg, ha, hh, hb⟩)
  clear hg ha hh hb
  obtain ⟨l, hl⟩ : ∃ l, [g, a, h, b] = l := ⟨_, rfl⟩
  have hl4 : l.length = 4 := by rw [← hl]; rfl
  rw [hl] at HK hr ⊢
  have HK := Lib.hid HK
  have HL := Lib.hid hl; clear hl
  go_enter Tryz.func18, Tryz.ntmps18
  go_upto_region 2 with fail
  clear hW
  go_wp2_with fail
  go_loop [12] (fun i => ∃ (k : Nat), k ≤ 4 ∧ i = .int .i64 (k : Int) ∧ Hid ((l.take k).all mem = true)) (fun i => 4 - (match i with | .int _ i => i.toNat | _ => 0))
  case atStart => exact ⟨0, Nat.zero_le _, rfl, Lib.hid (by simp)⟩
  case round =>
    obtain ⟨k, hk, rfl, ht⟩ := hrel
    by_cases hlt : k < 4
    · obtain ⟨x, hx⟩ : ∃ x, l[k]? = some x := ⟨l[k], List.getElem?_eq_getElem (by omega)⟩
      have hc := HK.out.i k x hx
      have hix := Lib.hid (hr.out x (List.mem_of_getElem? hx))
      have HX := Lib.hid hx; clear hx
      have H4 := Lib.hid hl4; clear hl4
      by_cases hm : mem x = true
      · have M := Lib.hid fun W => refMember_k W x true hm hix.out
        have ht2 := Lib.hid (all_yes mem l k x HX.out ht.out hm)
        clear hm
        go_wp2_with fail
        refine (M.out _).mono ?_
        rintro e w1 ⟨rfl, rfl⟩
        go_wp2
        exact ⟨⟨k + 1, by omega, by simp, ht2⟩, by simp; omega⟩
      · have hm2 : mem x = false := by simpa using hm
        have M := Lib.hid fun W => refMember_k W x false hm2 hix.out
        have E := Lib.hid (all_no mem l k x HX.out hm2)
        clear hm hm2
        go_wp2_with fail
        refine (M.out _).mono ?_
        rintro e w1 ⟨rfl, rfl⟩
        go_wp2
        go_ret
        exact ⟨by rw [E.out]; rfl, HK.out.b⟩
    · obtain rfl : k = 4 := by omega
      have E := Lib.hid (show l.all mem = true by have := ht.out; rwa [← hl4, List.take_length] at this)
      have H4 := Lib.hid hl4; clear hl4 hlt ht
      have c0 := HK.out.m.c0
      have c1 := HK.out.m.c1
      have hB := Lib.hid HK.out.b
      clear HK
      by_cases q0 : C < 0
      · have F := Lib.hid (show inQ C = false by unfold inQ; rw [decide_eq_true q0]; rfl)
        go_wp2
        go_ret
        exact ⟨by rw [E.out, F.out]; rfl, by first | exact hB.out | exact hp ▸ hB.out⟩
      by_cases q1 : 1152921504606845789 ≤ C
      · have F := Lib.hid (show inQ C = false by unfold inQ; rw [decide_eq_true q1]; simp)
        go_wp2
        go_ret
        exact ⟨by rw [E.out, F.out]; rfl, by first | exact hB.out | exact hp ▸ hB.out⟩
      have F := Lib.hid (inQ_t (n := C) (by omega))
      by_cases q2 : Z < 0
      · have G := Lib.hid (show inQ Z = false by unfold inQ; rw [decide_eq_true q2]; rfl)
        go_wp2
        go_ret
        exact ⟨by rw [E.out, F.out, G.out]; rfl, by first | exact hB.out | exact hp ▸ hB.out⟩
      by_cases q3 : 1152921504606845789 ≤ Z
      · have G := Lib.hid (show inQ Z = false by unfold inQ; rw [decide_eq_true q3]; simp)
        go_wp2
        go_ret
        exact ⟨by rw [E.out, F.out, G.out]; rfl, by first | exact hB.out | exact hp ▸ hB.out⟩
      have G := Lib.hid (inQ_t (n := Z) (by omega))
      have T1 := Lib.hid (S1.out F.out)
      have T2 := Lib.hid (S2.out F.out)
      clear S1 S2
      go_wp2_with fail
      have hb0 := hB.out
      go_region_held3 (fun w' => Below w.heap.size w w' ∧ w'.cell? ⟨p, 0, none⟩ = some (.int .i64 C) ∧ w'.cell? ⟨p, 1, none⟩ = some (.int .i64 Z))
        (first | assumption | exact ⟨hb0.drew, c0, c1⟩ | exact ⟨hb0, c0, c1⟩ | exact rk_two (by assumption) b | exact rk_two_alloc (by assumption) _)
        (first
          | (go_at_call_of 47 (Value.int .i64 g); refine (T1.out _).mono ?_; rintro e w' ⟨rfl, b⟩)
          | (go_at_call_of 47 (Value.int .i64 h); refine (T2.out _).mono ?_; rintro e w' ⟨rfl, b⟩)
          | (go_at_call 46; refine (CH.out _).mono ?_; rintro e w' ⟨rfl, b⟩))
      all_goals go_wp2
      all_goals go_ret
      all_goals exact ⟨by rw [E.out, F.out, G.out]; rfl, (And.left (by assumption) : Below w.heap.size w _)⟩
theorem sd_i64' (g a C Z : Int) : i64 (sd g a C Z) := i64_of (sd_rng _ _ _ _) (by decide)
theorem refVerify_any (w : World) (g a h b C Z : Int) (hg : i64 g) (ha : i64 a) (hh : i64 h) (hb : i64 b) (hZ : i64 Z) :
    Calls Tryz.prog 18 #[.int .i64 g, .int .i64 a, .int .i64 h, .int .i64 b, pfv C Z] w fun e w' => e = .returned (.bool (vf g a h b C Z)) ∧ Below w.heap.size w w' := by
  have e : vf g a h b C Z = ([g, a, h, b].all mem && (inQ C && inQ Z) && (C == ch [g, a, h, b, sd g a C Z, sd h b C Z])) := by
    unfold vf
    simp only [List.all_cons, List.all_nil, Bool.and_true]
    cases mem g <;> cases mem a <;> cases mem h <;> cases mem b <;> simp
  rw [e]
  exact refVerify_core w g a h b C Z (sd g a C Z) (sd h b C Z) _ hg ha hh hb
    (Lib.hid fun k W => refSide_any W g a C Z hg ha (inQ_iff.1 k) hZ) (Lib.hid fun k W => refSide_any W h b C Z hh hb (inQ_iff.1 k) hZ)
    (Lib.hid fun W => refChallenge_any _ W.heap.size 6 6 g [a, h, b, sd g a C Z, sd h b C Z] rfl (IL.new W [g, a, h, b, sd g a C Z, sd h b C Z] _) (by simp only [List.mem_cons, List.not_mem_nil, or_false, forall_eq_or_imp, forall_eq]; exact ⟨hg, ha, hh, hb, sd_i64' _ _ _ _, sd_i64' _ _ _ _⟩) (by decide))
end Go.Proofs.YtjfbpmpdcmealaaGreatDoor.E6
