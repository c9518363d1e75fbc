/-
  The walks of the laws SignMany and SignChallenge.
-/
import Derived.Test.YtiojcmfckmjoaaaGreatDoorSKeys
namespace Go.Proofs.YtiojcmfckmjoaaaGreatDoor.S5
open Go.RowKit GM SH G4
theorem tx_of {w0 W : World} {l : List (Nat × Int × Int)} (h : SK w0 W l) (p : Nat) (R S : Int) (hp : (p, R, S) ∈ l) :
    TS W ∧ Below w0.heap.size w0 W ∧ W.cell? ⟨p, 0, none⟩ = some (.int .i64 R) ∧ W.cell? ⟨p, 1, none⟩ = some (.int .i64 S) := ⟨h.t, h.b, (h.s _ hp).c0, (h.s _ hp).c1⟩
theorem tx_drew {w u : World} {p : Nat} {R S : Int} (h : TS u ∧ Below w.heap.size w u ∧ u.cell? ⟨p, 0, none⟩ = some (.int .i64 R) ∧ u.cell? ⟨p, 1, none⟩ = some (.int .i64 S)) :
    TS u.drew ∧ Below w.heap.size w u.drew ∧ u.drew.cell? ⟨p, 0, none⟩ = some (.int .i64 R) ∧ u.drew.cell? ⟨p, 1, none⟩ = some (.int .i64 S) := ⟨h.1.below (Below.drew (Below.refl _ _)), h.2.1.drew, h.2.2.1, h.2.2.2⟩
set_option maxRecDepth 100000 in
set_option maxHeartbeats 2000000 in
theorem many_core (w : World) (s n r v x y : Int) (t u : ByteArray) (m : Nat) (m1 : min (t.size : Int) 300 = (m : Int)) (m2 : (m : Int) ≤ (t.size : Int)) (m3 : (0 : Int) ≤ (m : Int)) (hu : t.extract 0 m = u)
    (C0 : Hid (∀ W (_ : TS W), Calls Tryz.prog 9 #[] W fun e w' => e = .returned (.bool true) ∧ Below W.heap.size W w'))
    (C1 : Hid (∀ W, Calls Tryz.prog 23 #[.int .i64 n] W fun e w' => e = .returned (.int .i64 x) ∧ w' = W))
    (C2 : Hid (∀ W, Calls Tryz.prog 22 #[.int .i64 s, .string u, .int .i64 x] W fun e w' => e = .returned (sgv r v) ∧ Below W.heap.size W w'))
    (P1 : Hid (∀ W, Calls Tryz.prog 19 #[.int .i64 s] W fun e w' => e = .returned (.int .i64 y) ∧ Below W.heap.size W w'))
    (V1 : Hid (∀ W (_ : TB W), Calls Tryz.prog 20 #[.int .i64 y, .string u, sgv r v] W fun e w' => e = .returned (.bool true) ∧ Below W.heap.size W w'))
    (hT : TS w) :
    Calls Tryz.prog 7 #[.int .i64 s, .string t, .int .i64 n] w fun e w' => e = .returned (.bool true) ∧ Below w.heap.size w w' := by
  have HT := Lib.hid (sk_start hT); clear hT
  go_enter Tryz.func7, Tryz.ntmps7
  go_wp2_with fail
  refine (C0.out _ HT.out.t).mono ?_
  rintro e w1 ⟨rfl, b⟩
  have K1 := Lib.hid (HT.out.next b); clear b HT
  go_wp2_with fail
  refine (C1.out _).mono ?_
  rintro e w2 ⟨rfl, rfl⟩
  go_wp2_with fail
  refine (C2.out _).mono ?_
  rintro e w3 ⟨rfl, b⟩
  have K3 := Lib.hid (K1.out.next b); clear b K1
  have z3 := SM.new w3 0 0
  have hi := infoS r v
  go_upto_region 4 with (refine wpList_store_row rfl 30 (.tmp 8) (.tmp 19) rfl w3.heap.size #[.int .i64 r, .int .i64 v] rfl rfl 30 _ z3 hi.out (two_size _ _ _ _) (sg_one _ _) ?_)
  clear z3
  have H3 := Lib.hid (K3.out.push r v); clear K3
  try change Code.wp _ _ _ _ ((w3.alloc (.cells #[.int .i64 0, .int .i64 0] 30)).setRow w3.heap.size #[.int .i64 r, .int .i64 v])
  generalize hq : (w3.alloc (.cells #[.int .i64 0, .int .i64 0] 30)).setRow w3.heap.size #[.int .i64 r, .int .i64 v] = v3 at *
  clear hq
  have hS := tx_of H3.out w3.heap.size r v (by simp)
  clear H3 hi
  go_region_held3 (fun w' => TS w' ∧ Below w.heap.size w w' ∧ w'.cell? ⟨w3.heap.size, 0, none⟩ = some (.int .i64 r) ∧ w'.cell? ⟨w3.heap.size, 1, none⟩ = some (.int .i64 v))
    (first | assumption | exact tx_drew hS | exact hS | exact tx_next (by assumption) b)
    (first
      | (go_at_call 19; refine (P1.out _).mono ?_; rintro e w' ⟨rfl, b⟩)
      | (go_at_call 20; refine (V1.out _ (And.left (by assumption) : TS _).tb).mono ?_; rintro e w' ⟨rfl, b⟩))
  all_goals go_wp2
  all_goals go_ret
  all_goals exact ⟨rfl, (And.left (And.right (by assumption)) : Below w.heap.size w _)⟩
theorem many_walk (w : World) (s : Int) (hs : -9223372036854775808 ≤ s ∧ s ≤ 9223372036854775807) (t : ByteArray) (_ht : t.size ≤ 140737488355300) (n : Int) (hn : -9223372036854775808 ≤ n ∧ n ≤ 9223372036854775807) (hT : TS w) :
    Calls Tryz.prog 7 #[.int .i64 s, .string t, .int .i64 n] w fun e w' => e = .returned (.bool true) ∧ Below w.heap.size w w' := by
  obtain ⟨m, m1, m4, hxs⟩ := cut300 t
  have x0 := ex_rng n
  have x1 := ex_rng s
  have e1 := vf_sig (ex s) (ex n) (t.extract 0 m) x1.1 x0.1
  have p1 := pk_rng (ex n)
  have p2 := pk_rng (ex s)
  have p3 := sS_rng (ex s) (ex n) (t.extract 0 m)
  exact many_core w s n (pk (ex n)) (sS (ex s) (ex n) (t.extract 0 m)) (ex n) (pk (ex s)) t (t.extract 0 m) m m1 (by omega) (by omega) rfl (Lib.hid fun W h => sanity_any W h)
    (Lib.hid fun W => refExponent_any W n hn) (Lib.hid fun W => refSignWith_any W s _ (ex n) hs (by omega) x0) (Lib.hid fun W => refPublic_any W s hs)
    (Lib.hid fun W h => by
      have := Verify_any W (pk (ex s)) (t.extract 0 m) (pk (ex n)) (sS (ex s) (ex n) (t.extract 0 m)) (by omega) (by omega) (by omega) (by omega) h
      rwa [e1] at this) hT
/-- if a signature is accepted for two texts with different challenges, the key is 1 -/
theorem vf_two (k : Int) (a b : ByteArray) (R S : Int) (ha : vf k a R S = true) (hb : vf k b R S = true) (hne : cc R k a ≠ cc R k b) : k = 1 := by
  unfold vf at ha hb
  simp only [Bool.and_eq_true, Bool.not_eq_true', decide_eq_false_iff_not, beq_iff_eq] at ha hb
  obtain ⟨⟨⟨_, mk⟩, mr⟩, ea⟩ := ha
  obtain ⟨_, eb⟩ := hb
  have hk := (mem_iff k).1 mk
  have hr := (mem_iff R).1 mr
  have c1 := cc_rng R k a
  have c2 := cc_rng R k b
  rw [ea] at eb
  generalize cc R k a = x at *
  generalize cc R k b = y at *
  obtain ⟨x', rfl⟩ : ∃ v : Nat, x = v := ⟨x.toNat, by omega⟩
  obtain ⟨y', rfl⟩ : ∃ v : Nat, y = v := ⟨y.toNat, by omega⟩
  rw [gpP, gpP, gmP, gmP] at eb
  have h2 := cancel hr _ _ eb
  rw [Int.emod_emod_of_dvd _ (Int.dvd_refl _), Int.emod_emod_of_dvd _ (Int.dvd_refl _)] at h2
  have hq : gQ = 1152921504606845789 := rfl
  rcases Classical.em (k = 1) with h | h
  · exact h
  · have := pow_inj hk h x' y' (by omega) (by omega) h2
    omega
theorem vf_cc (k : Int) (a b : ByteArray) (R S : Int) (h : cc R k a = cc R k b) : vf k a R S = vf k b R S := by
  unfold vf; rw [h]
set_option maxRecDepth 100000 in
set_option maxHeartbeats 4000000 in
theorem challenge_core (w : World) (s r v y c1 c2 : Int) (ta tb ua ub : ByteArray) (m n : Nat) (sm q : Bool)
    (m1 : min (ta.size : Int) 300 = (m : Int)) (m2 : (m : Int) ≤ (ta.size : Int)) (m3 : (0 : Int) ≤ (m : Int)) (hu : ta.extract 0 m = ua)
    (n1 : min (tb.size : Int) 300 = (n : Int)) (n2 : (n : Int) ≤ (tb.size : Int)) (n3 : (0 : Int) ≤ (n : Int)) (hv : tb.extract 0 n = ub)
    (hsm : (c1 == c2) = sm) (HL : Hid ((sm = true ∧ q = true) ∨ (sm = false ∧ q = false) ∨ (sm = false ∧ q = true ∧ y = 1)))
    (C0 : Hid (∀ W (_ : TS W), Calls Tryz.prog 9 #[] W fun e w' => e = .returned (.bool true) ∧ Below W.heap.size W w'))
    (P1 : Hid (∀ W, Calls Tryz.prog 19 #[.int .i64 s] W fun e w' => e = .returned (.int .i64 y) ∧ Below W.heap.size W w'))
    (C2 : Hid (∀ W (_ : TB W), Calls Tryz.prog 17 #[.int .i64 s, .string ua] W fun e w' => e = .returned (sgv r v) ∧ Below W.heap.size W w'))
    (D1 : Hid (∀ W, Calls Tryz.prog 24 #[.int .i64 r, .int .i64 y, .string ua] W fun e w' => e = .returned (.int .i64 c1) ∧ Below W.heap.size W w'))
    (D2 : Hid (∀ W, Calls Tryz.prog 24 #[.int .i64 r, .int .i64 y, .string ub] W fun e w' => e = .returned (.int .i64 c2) ∧ Below W.heap.size W w'))
    (V1 : Hid (∀ W (_ : TB W), Calls Tryz.prog 20 #[.int .i64 y, .string ua, sgv r v] W fun e w' => e = .returned (.bool true) ∧ Below W.heap.size W w'))
    (V2 : Hid (∀ W (_ : TB W), Calls Tryz.prog 20 #[.int .i64 y, .string ub, sgv r v] W fun e w' => e = .returned (.bool q) ∧ Below W.heap.size W w'))
    (hT : TS w) :
    Calls Tryz.prog 8 #[.int .i64 s, .string ta, .string tb] w fun e w' => e = .returned (.bool true) ∧ Below w.heap.size w w' := by
  have HT := Lib.hid (sk_start hT); clear hT
  go_enter Tryz.func8, Tryz.ntmps8
  go_wp2_with fail
  refine (C0.out _ HT.out.t).mono ?_
  rintro e w1 ⟨rfl, b⟩
  have K1 := Lib.hid (HT.out.next b); clear b HT
  go_wp2_with fail
  go_region
  have K1 := Lib.hid (K1.out.next (Below.drew (Below.refl _ _)))
  generalize w1.drew = w1 at *
  go_wp2_with fail
  refine (P1.out _).mono ?_
  rintro e w2 ⟨rfl, b⟩
  have K2 := Lib.hid (K1.out.next b); clear b K1
  go_wp2_with fail
  refine (C2.out _ K2.out.t.tb).mono ?_
  rintro e w3 ⟨rfl, b⟩
  have K3 := Lib.hid (K2.out.next b); clear b K2
  have z3 := SM.new w3 0 0
  have hi := infoS r v
  go_upto_region 5 with (refine wpList_store_row rfl 30 (.tmp 9) (.tmp 28) rfl w3.heap.size #[.int .i64 r, .int .i64 v] rfl rfl 30 _ z3 hi.out (two_size _ _ _ _) (sg_one _ _) ?_)
  clear z3
  have H3 := Lib.hid (K3.out.push r v); clear K3
  try change Code.wp _ _ _ _ ((w3.alloc (.cells #[.int .i64 0, .int .i64 0] 30)).setRow w3.heap.size #[.int .i64 r, .int .i64 v])
  generalize hq : (w3.alloc (.cells #[.int .i64 0, .int .i64 0] 30)).setRow w3.heap.size #[.int .i64 r, .int .i64 v] = v3 at *
  clear hq
  have hS := tx_of H3.out w3.heap.size r v (by simp)
  clear H3 hi
  go_region_held3 (fun w' => TS w' ∧ Below w.heap.size w w' ∧ w'.cell? ⟨w3.heap.size, 0, none⟩ = some (.int .i64 r) ∧ w'.cell? ⟨w3.heap.size, 1, none⟩ = some (.int .i64 v))
    (first | assumption | exact tx_drew hS | exact hS | exact tx_next (by assumption) b)
    (first
      | (go_at_call_of 24 (Value.string ua); refine (D1.out _).mono ?_; rintro e w' ⟨rfl, b⟩)
      | (go_at_call_of 24 (Value.string ub); refine (D2.out _).mono ?_; rintro e w' ⟨rfl, b⟩))
  go_upto_region 6 with fail
  have hX : TS w' ∧ Below w.heap.size w w' ∧ w'.cell? ⟨w3.heap.size, 0, none⟩ = some (.int .i64 r) ∧ w'.cell? ⟨w3.heap.size, 1, none⟩ = some (.int .i64 v) := by assumption
  clear hS
  generalize w' = x3 at *
  go_region_held3 (fun w' => TS w' ∧ Below w.heap.size w w' ∧ w'.cell? ⟨w3.heap.size, 0, none⟩ = some (.int .i64 r) ∧ w'.cell? ⟨w3.heap.size, 1, none⟩ = some (.int .i64 v))
    (first | assumption | exact tx_drew hX | exact hX | exact tx_next (by assumption) b)
    (first
      | (go_at_call_of 20 (Value.string ua); refine (V1.out _ (And.left (by assumption) : TS _).tb).mono ?_; rintro e w' ⟨rfl, b⟩)
      | (go_at_call_of 20 (Value.string ub); refine (V2.out _ (And.left (by assumption) : TS _).tb).mono ?_; rintro e w' ⟨rfl, b⟩))
  all_goals
    have hY : Below w.heap.size w w' := And.left (And.right (by assumption))
    rcases HL.out with ⟨rfl, rfl⟩ | ⟨rfl, rfl⟩ | ⟨rfl, rfl, rfl⟩
    all_goals go_wp2
    all_goals go_ret
    all_goals exact ⟨rfl, hY⟩
theorem challenge_mid (w : World) (s r v y : Int) (ta tb ua ub : ByteArray) (m n : Nat)
    (m1 : min (ta.size : Int) 300 = (m : Int)) (m2 : (m : Int) ≤ (ta.size : Int)) (m3 : (0 : Int) ≤ (m : Int)) (hu : ta.extract 0 m = ua)
    (n1 : min (tb.size : Int) 300 = (n : Int)) (n2 : (n : Int) ≤ (tb.size : Int)) (n3 : (0 : Int) ≤ (n : Int)) (hv : tb.extract 0 n = ub)
    (su : ua.size ≤ 300) (sb : ub.size ≤ 300) (hr : 0 ≤ r ∧ r < 2305843009213691579) (hy : 0 ≤ y ∧ y < 2305843009213691579) (hS : 0 ≤ v ∧ v < 1152921504606845789) (e1 : vf y ua r v = true)
    (P1 : Hid (∀ W, Calls Tryz.prog 19 #[.int .i64 s] W fun e w' => e = .returned (.int .i64 y) ∧ Below W.heap.size W w'))
    (C2 : Hid (∀ W (_ : TB W), Calls Tryz.prog 17 #[.int .i64 s, .string ua] W fun e w' => e = .returned (sgv r v) ∧ Below W.heap.size W w'))
    (hT : TS w) :
    Calls Tryz.prog 8 #[.int .i64 s, .string ta, .string tb] w fun e w' => e = .returned (.bool true) ∧ Below w.heap.size w w' := by
  obtain ⟨rn, rfl⟩ : ∃ x : Nat, r = x := ⟨r.toNat, by omega⟩
  obtain ⟨yn, rfl⟩ : ∃ x : Nat, y = x := ⟨y.toNat, by omega⟩
  have V1 := fun W (h : TB W) => Verify_any W yn ua rn v (by omega) (by omega) (by omega) (by omega) h
  rw [e1] at V1
  refine challenge_core w s rn v yn (cc rn yn ua) (cc rn yn ub) ta tb ua ub m n (cc rn yn ua == cc rn yn ub) (vf yn ub rn v) m1 m2 m3 hu n1 n2 n3 hv rfl (Lib.hid ?_) (Lib.hid fun W h => sanity_any W h) P1 C2
    (Lib.hid fun W => refChallenge_any W rn yn ua (by omega) (by omega) (by omega)) (Lib.hid fun W => refChallenge_any W rn yn ub (by omega) (by omega) (by omega))
    (Lib.hid V1) (Lib.hid fun W (h : TB W) => Verify_any W yn ub rn v (by omega) (by omega) (by omega) (by omega) h) hT
  by_cases hc : cc rn yn ua = cc rn yn ub
  · left
    exact ⟨beq_iff_eq.2 hc, by rw [← vf_cc _ _ _ _ _ hc]; exact e1⟩
  · right
    cases hq : vf yn ub rn v
    · left; exact ⟨beq_eq_false_iff_ne.2 hc, rfl⟩
    · right; exact ⟨beq_eq_false_iff_ne.2 hc, rfl, vf_two _ _ _ _ _ e1 hq hc⟩
theorem challenge_walk (w : World) (s : Int) (hs : -9223372036854775808 ≤ s ∧ s ≤ 9223372036854775807) (ta : ByteArray) (_hta : ta.size ≤ 140737488355300) (tb : ByteArray) (_htb : tb.size ≤ 140737488355300) (hT : TS w) :
    Calls Tryz.prog 8 #[.int .i64 s, .string ta, .string tb] w fun e w' => e = .returned (.bool true) ∧ Below w.heap.size w w' := by
  obtain ⟨m, m1, m4, hxs⟩ := cut300 ta
  obtain ⟨n, n1, n4, hys⟩ := cut300 tb
  have x1 := ex_rng s
  have q0 := nn_rng (ex s) (ta.extract 0 m)
  exact challenge_mid w s _ _ _ ta tb (ta.extract 0 m) (tb.extract 0 n) m n m1 (by omega) (by omega) rfl n1 (by omega) (by omega) rfl hxs hys (pk_rng _) (pk_rng _) (sS_rng _ _ _)
    (vf_sig (ex s) (nn (ex s) (ta.extract 0 m)) (ta.extract 0 m) x1.1 (Int.le_of_lt q0.1)) (Lib.hid fun W => refPublic_any W s hs) (Lib.hid fun W h => Sign_any W s (ta.extract 0 m) hs (by omega) h) hT
end Go.Proofs.YtiojcmfckmjoaaaGreatDoor.S5
