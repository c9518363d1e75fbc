/-
  The walks of the reference's SignWith, Sign, Verify.
-/
import Derived.Test.YtiojcmfckmjoaaaGreatDoorSRef
namespace Go.Proofs.YtiojcmfckmjoaaaGreatDoor.S5
open Go.RowKit GM SH G4
theorem refPow_b (W : World) (a n m r : Int) (h : gp a n m = r) (ha : -9223372036854775808 ≤ a) (ha2 : a ≤ 9223372036854775807) (hn : n ≤ 9223372036854775807) (hm2 : m ≤ 9223372036854775807) :
    Calls Tryz.prog 16 #[.int .i64 a, .int .i64 n, .int .i64 m] W fun e w' => e = .returned (.int .i64 r) ∧ Below W.heap.size W w' := by
  subst h
  exact (refPow_any W a n m ha ha2 hn hm2).mono fun e w' ⟨he, hw⟩ => ⟨he, hw ▸ Below.refl _ _⟩
theorem refMember_b (W : World) (a : Int) (r : Bool) (h : mem a = r) (ha : -9223372036854775808 ≤ a) (ha2 : a ≤ 9223372036854775807) :
    Calls Tryz.prog 44 #[.int .i64 a] W fun e w' => e = .returned (.bool r) ∧ w' = W := by
  subst h
  exact refMember_any W a ha ha2
set_option maxRecDepth 100000 in
set_option maxHeartbeats 2000000 in
theorem refSignWith_any (w : World) (s : Int) (t : ByteArray) (n : Int) (hs : -9223372036854775808 ≤ s ∧ s ≤ 9223372036854775807) (ht : t.size ≤ 999990000) (hn : 0 ≤ n ∧ n < 1152921504606845789) :
    Calls Tryz.prog 22 #[.int .i64 s, .string t, .int .i64 n] w fun e w' => e = .returned (sgv (pk n) (sS (ex s) n t)) ∧ Below w.heap.size w w' := by
  have x0 := ex_rng s
  have R1 := Lib.hid fun W => refExponent_any W s hs
  have R5 := Lib.hid fun W => refPublic_any W s hs
  generalize ex s = x at *
  have p0 := pk_rng n
  have p1 := pk_rng x
  have R4 := Lib.hid fun W => refPow_b W 4 n 2305843009213691579 (pk n) rfl (by decide) (by decide) (by omega) (by decide)
  have c0 := cc_rng (pk n) (pk x) t
  have E := Lib.hid (show sS x n t = ga n (gm x (cc (pk n) (pk x) t) 1152921504606845789) 1152921504606845789 from rfl)
  have R6 := Lib.hid (show ∀ W, Calls Tryz.prog 24 #[.int .i64 (pk n), .int .i64 (pk x), .string t] W fun e w' => e = .returned (.int .i64 (cc (pk n) (pk x) t)) ∧ Below W.heap.size W w' from fun W => by
    have := refChallenge_any W (pk n).toNat (pk x).toNat t (by omega) (by omega) ht
    rwa [Int.toNat_of_nonneg p0.1, Int.toNat_of_nonneg p1.1] at this)
  generalize cc (pk n) (pk x) t = c at *
  generalize pk n = r at *
  generalize pk x = k at *
  have m0 := gm_rng x c 1152921504606845789
  have R7 := Lib.hid fun W => refMul_any W x c 1152921504606845789 (by omega) (by omega) (by omega) (by omega) (by decide)
  have R8 := Lib.hid fun W => refAdd_any W n (gm x c 1152921504606845789) 1152921504606845789 (by omega) (by omega) (by omega) (by omega) (by decide)
  generalize ga n (gm x c 1152921504606845789) 1152921504606845789 = v at *
  generalize gm x c 1152921504606845789 = m at *
  rw [E.out]
  clear E ht hs x0 p0 p1 c0 m0 hn
  obtain ⟨W, hW⟩ : ∃ W, w.alloc (.cells #[.int .i64 0, .int .i64 0] 30) = W := ⟨_, rfl⟩
  have h1 : SM W w.heap.size 0 0 := by rw [← hW]; exact SM.new _ _ _
  have hb : Below w.heap.size w W := by rw [← hW]; exact (Below.refl w.heap.size w).alloc (Nat.le_refl _) _
  have HK := Lib.hid (And.intro hb h1)
  clear h1 hb
  have hi := infoS r v
  have hs2 : Hid ((#[Value.int .i64 0, Value.int .i64 0]).size = (#[Value.int .i64 r, .int .i64 v]).size) := Lib.hid (two_size _ _ _ _)
  go_enter Tryz.func22, Tryz.ntmps22
  go_upto_region 1 with fail
  clear hW
  go_wp2_with fail
  refine (R1.out _).mono ?_
  rintro e w1 ⟨rfl, rfl⟩
  go_wp2_with fail
  refine (R4.out _).mono ?_
  rintro e w4 ⟨rfl, b4⟩
  have K4 := Lib.hid (And.intro (HK.out.1.trans (b4.mono HK.out.1.size)) (HK.out.2.next b4)); clear b4 HK
  go_wp2_with fail
  refine (R5.out _).mono ?_
  rintro e w5 ⟨rfl, b5⟩
  have K5 := Lib.hid (And.intro (K4.out.1.trans (b5.mono K4.out.1.size)) (K4.out.2.next b5)); clear b5 K4
  go_wp2_with fail
  refine (R6.out _).mono ?_
  rintro e w6 ⟨rfl, b6⟩
  have K6 := Lib.hid (And.intro (K5.out.1.trans (b6.mono K5.out.1.size)) (K5.out.2.next b6)); clear b6 K5
  go_wp2_with fail
  refine (R7.out _).mono ?_
  rintro e w7 ⟨rfl, rfl⟩
  go_wp2_with fail
  refine (R8.out _).mono ?_
  rintro e w8 ⟨rfl, rfl⟩
  have h8 := K6.out.2
  go_wp2_with (refine wpList_store_row rfl 30 (.tmp 6) (.tmp 25) rfl w.heap.size #[.int .i64 r, .int .i64 v] rfl rfl 30 _ h8 hi.out hs2.out (sg_one _ _) ?_)
  refine bodyPost_ret (results_cell_row rfl _ _ w.heap.size _ #[.int .i64 r, .int .i64 v] _ _ rfl (setRow_heap _ _ _ _ _ _ h8) Tryz.underlying30 rfl hi.out) rfl ?_
  exact ⟨rfl, Below.setRow' K6.out.1 (Nat.le_refl _) _⟩
set_option maxRecDepth 100000 in
set_option maxHeartbeats 2000000 in
theorem refSign_any (w : World) (s : Int) (t : ByteArray) (hs : -9223372036854775808 ≤ s ∧ s ≤ 9223372036854775807) (ht : t.size ≤ 999990000) :
    Calls Tryz.prog 18 #[.int .i64 s, .string t] w fun e w' => e = .returned (sgv (pk (nn (ex s) t)) (sS (ex s) (nn (ex s) t) t)) ∧ Below w.heap.size w w' := by
  have x0 := ex_rng s
  have R1 := Lib.hid fun W => refExponent_any W s hs
  have n0 := nn_rng (ex s) t
  have R4 := Lib.hid fun W => refSignWith_any W s t (nn (ex s) t) hs ht (by omega)
  generalize sS (ex s) (nn (ex s) t) t = v at *
  generalize hr : pk (nn (ex s) t) = r at *
  clear hr
  generalize ex s = xi at *
  obtain ⟨x, rfl⟩ : ∃ v : Nat, xi = v := ⟨xi.toNat, by omega⟩
  have R2 := Lib.hid fun W => refBytes_any W x (by omega)
  have R3 := Lib.hid (show ∀ W, Calls Tryz.prog 33 #[.string ((⟨#[110]⟩ : ByteArray) ++ bx x ++ t)] W fun e w' => e = .returned (.int .i64 (nn x t)) ∧ Below W.heap.size W w' from fun W => refPositive_any W (ns x t) (by rw [ns_size]; omega))
  have p8 : (bx x).size = 8 := rfl
  generalize nn x t = n at *
  generalize bx x = p at *
  have b1 : (9223372036854775807 < 1 + p.size) = False := eq_false (by omega)
  have b2 : (9223372036854775807 < 1 + p.size + t.size) = False := eq_false (by omega)
  clear ht hs x0 n0 p8
  obtain ⟨W, hW⟩ : ∃ W, w.alloc (.cells #[.int .i64 0, .int .i64 0] 30) = W := ⟨_, rfl⟩
  have h1 : SM W w.heap.size 0 0 := by rw [← hW]; exact SM.new _ _ _
  have hb : Below w.heap.size w W := by rw [← hW]; exact (Below.refl w.heap.size w).alloc (Nat.le_refl _) _
  have HK := Lib.hid (And.intro hb h1)
  clear h1 hb
  have hi := infoS r v
  have hs2 : Hid ((#[Value.int .i64 0, Value.int .i64 0]).size = (#[Value.int .i64 r, .int .i64 v]).size) := Lib.hid (two_size _ _ _ _)
  go_enter Tryz.func18, Tryz.ntmps18
  go_upto_region 1 with fail
  clear hW
  go_wp2_with fail
  refine (R1.out _).mono ?_
  rintro e w1 ⟨rfl, rfl⟩
  go_wp2_with fail
  refine (R2.out _).mono ?_
  rintro e w4 ⟨rfl, b4⟩
  have K4 := Lib.hid (And.intro (HK.out.1.trans (b4.mono HK.out.1.size)) (HK.out.2.next b4)); clear b4 HK
  go_wp2_with fail
  refine (R3.out _).mono ?_
  rintro e w5 ⟨rfl, b5⟩
  have K5 := Lib.hid (And.intro (K4.out.1.trans (b5.mono K4.out.1.size)) (K4.out.2.next b5)); clear b5 K4
  go_wp2_with fail
  refine (R4.out _).mono ?_
  rintro e w6 ⟨rfl, b6⟩
  have K6 := Lib.hid (And.intro (K5.out.1.trans (b6.mono K5.out.1.size)) (K5.out.2.next b6)); clear b6 K5
  have h8 := K6.out.2
  go_wp2_with (refine wpList_store_row rfl 30 (.tmp 4) (.tmp 18) rfl w.heap.size #[.int .i64 r, .int .i64 v] rfl rfl 30 _ h8 hi.out hs2.out (sg_one _ _) ?_)
  refine bodyPost_ret (results_cell_row rfl _ _ w.heap.size _ #[.int .i64 r, .int .i64 v] _ _ rfl (setRow_heap _ _ _ _ _ _ h8) Tryz.underlying30 rfl hi.out) rfl ?_
  exact ⟨rfl, Below.setRow' K6.out.1 (Nat.le_refl _) _⟩
set_option maxRecDepth 100000 in
set_option maxHeartbeats 2000000 in
theorem refVerify_any (w : World) (k : Int) (t : ByteArray) (R S : Int) (hk : -9223372036854775808 ≤ k ∧ k ≤ 9223372036854775807) (hR : -9223372036854775808 ≤ R ∧ R ≤ 9223372036854775807) (hS : -9223372036854775808 ≤ S ∧ S ≤ 9223372036854775807) (ht : t.size ≤ 999990000) :
    Calls Tryz.prog 21 #[.int .i64 k, .string t, sgv R S] w fun e w' => e = .returned (.bool (vf k t R S)) ∧ Below w.heap.size w w' := by
  obtain ⟨W, hW⟩ : ∃ W, w.alloc (.cells #[.int .i64 R, .int .i64 S] 30) = W := ⟨_, rfl⟩
  have h1 : SM W w.heap.size R S := by rw [← hW]; exact SM.new _ _ _
  have hb : Below w.heap.size w W := by rw [← hW]; exact (Below.refl w.heap.size w).alloc (Nat.le_refl _) _
  have c0 := h1.c0
  have c1 := h1.c1
  clear h1
  by_cases hg : (mem k && mem R && !decide (S < 0) && !decide (1152921504606845789 ≤ S)) = true
  · simp only [Bool.and_eq_true, Bool.not_eq_true', decide_eq_false_iff_not] at hg
    obtain ⟨⟨⟨m0, m1⟩, s0⟩, s1⟩ := hg
    have k0 := mem_rng m0
    have r0 := mem_rng m1
    obtain ⟨kn, rfl⟩ : ∃ v : Nat, k = v := ⟨k.toNat, by omega⟩
    obtain ⟨rn, rfl⟩ : ∃ v : Nat, R = v := ⟨R.toNat, by omega⟩
    have hc := cc_rng rn kn t
    have M1 := Lib.hid fun W => refMember_b W kn true m0 hk.1 hk.2
    have M2 := Lib.hid fun W => refMember_b W rn true m1 hR.1 hR.2
    have C1 := Lib.hid (show ∀ W, Calls Tryz.prog 24 #[.int .i64 (rn : Int), .int .i64 (kn : Int), .string t] W fun e w' => e = .returned (.int .i64 (cc rn kn t)) ∧ Below W.heap.size W w' from fun W => refChallenge_any W rn kn t (by omega) (by omega) ht)
    have E := Lib.hid (show vf kn t rn S = (gp 4 S 2305843009213691579 == gm rn (gp kn (cc rn kn t) 2305843009213691579) 2305843009213691579) by unfold vf; rw [m0, m1, decide_eq_false s0, decide_eq_false s1]; rfl)
    generalize cc rn kn t = c at *
    have q0 := gp_rng kn c 2305843009213691579
    have P1 := Lib.hid fun W => refPow_b W 4 S 2305843009213691579 _ rfl (by decide) (by decide) (by omega) (by decide)
    have P2 := Lib.hid fun W => refPow_b W kn c 2305843009213691579 _ rfl (by omega) (by omega) (by omega) (by decide)
    have X1 := Lib.hid fun W => refMul_any W rn (gp kn c 2305843009213691579) 2305843009213691579 (by omega) (by omega) (by omega) (by omega) (by decide)
    generalize gm rn (gp kn c 2305843009213691579) 2305843009213691579 = z at *
    generalize gp kn c 2305843009213691579 = y at *
    generalize gp 4 S 2305843009213691579 = u at *
    generalize vf kn t rn S = V at *
    clear m0 m1 k0 r0 hc q0 hk hR ht
    have HS := Lib.hid hS; clear hS
    go_enter Tryz.func21, Tryz.ntmps21
    go_upto_region 1 with fail
    clear hW
    go_wp2_with fail
    refine (M1.out _).mono ?_
    rintro e w1 ⟨rfl, rfl⟩
    go_wp2_with fail
    refine (M2.out _).mono ?_
    rintro e w2 ⟨rfl, rfl⟩
    go_wp2_with fail
    refine (C1.out _).mono ?_
    rintro e w3 ⟨rfl, b3⟩
    obtain ⟨hb3, d0, d1⟩ := vk_next ⟨hb, c0, c1⟩ b3
    clear b3 hb c0 c1
    go_wp2_with fail
    go_region_held3 (fun w' => Below w.heap.size w w' ∧ w'.cell? ⟨w.heap.size, 0, none⟩ = some (.int .i64 (rn : Int)) ∧ w'.cell? ⟨w.heap.size, 1, none⟩ = some (.int .i64 S))
      (first | assumption | exact ⟨hb3.drew, d0, d1⟩ | exact ⟨hb3, d0, d1⟩ | exact vk_next (by assumption) b)
      (first
        | (go_at_call_of 16 (Value.int .i64 (4 : Int)); refine (P1.out _).mono ?_; rintro e w' ⟨rfl, b⟩)
        | (go_at_call_of 16 (Value.int .i64 (kn : Int)); refine (P2.out _).mono ?_; rintro e w' ⟨rfl, b⟩)
        | (go_at_call 35; refine (X1.out _).mono ?_; rintro e w' ⟨rfl, b⟩))
    all_goals go_wp2
    all_goals go_ret
    all_goals exact ⟨by rw [E.out]; rfl, (And.left (by assumption) : Below w.heap.size w _)⟩
  · have E : vf k t R S = false := by
      unfold vf
      rw [Bool.not_eq_true] at hg
      generalize (gp 4 S 2305843009213691579 == gm R (gp k (cc R k t) 2305843009213691579) 2305843009213691579) = z
      revert hg
      cases mem k <;> cases mem R <;> cases decide (S < 0) <;> cases decide (1152921504606845789 ≤ S) <;> simp
    rw [E]
    have M1 := Lib.hid fun W => refMember_b W k (mem k) rfl hk.1 hk.2
    have M2 := Lib.hid fun W => refMember_b W R (mem R) rfl hR.1 hR.2
    have HB := Lib.hid hb
    clear E hb
    cases hm : mem k
    · rw [hm] at M1
      clear hg
      generalize mem R = mr at *
      go_enter Tryz.func21, Tryz.ntmps21
      go_upto_region 1 with fail
      clear hW
      go_wp2_with fail
      refine (M1.out _).mono ?_
      rintro e w1 ⟨rfl, rfl⟩
      go_wp2_with fail
      refine (M2.out _).mono ?_
      rintro e w2 ⟨rfl, rfl⟩
      go_wp2
      go_ret
      exact ⟨rfl, HB.out⟩
    · rw [hm] at M1 hg
      cases hr : mem R
      · rw [hr] at M2
        clear hg
        go_enter Tryz.func21, Tryz.ntmps21
        go_upto_region 1 with fail
        clear hW
        go_wp2_with fail
        refine (M1.out _).mono ?_
        rintro e w1 ⟨rfl, rfl⟩
        go_wp2_with fail
        refine (M2.out _).mono ?_
        rintro e w2 ⟨rfl, rfl⟩
        go_wp2
        go_ret
        exact ⟨rfl, HB.out⟩
      · rw [hr] at M2 hg
        by_cases s0 : S < 0
        · clear hg
          go_enter Tryz.func21, Tryz.ntmps21
          go_upto_region 1 with fail
          clear hW
          go_wp2_with fail
          refine (M1.out _).mono ?_
          rintro e w1 ⟨rfl, rfl⟩
          go_wp2_with fail
          refine (M2.out _).mono ?_
          rintro e w2 ⟨rfl, rfl⟩
          go_wp2
          go_ret
          exact ⟨rfl, HB.out⟩
        · have s1 : 1152921504606845789 ≤ S := by
            rw [decide_eq_false s0] at hg
            simpa using hg
          clear hg
          go_enter Tryz.func21, Tryz.ntmps21
          go_upto_region 1 with fail
          clear hW
          go_wp2_with fail
          refine (M1.out _).mono ?_
          rintro e w1 ⟨rfl, rfl⟩
          go_wp2_with fail
          refine (M2.out _).mono ?_
          rintro e w2 ⟨rfl, rfl⟩
          go_wp2
          go_ret
          exact ⟨rfl, HB.out⟩
end Go.Proofs.YtiojcmfckmjoaaaGreatDoor.S5
