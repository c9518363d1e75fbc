/-
  The walks of the reference's Pow, Inv and Member.
-/
import Derived.Test.YtihplnomhfpajaaGRefA
namespace Go.Proofs.Ytihplnomhfpajaa.G4
open Go.RowKit GM
/-- what the halvings of the exponent keep -/
structure KI (a m : Int) (n : Nat) (U T : Int) (V : Nat) : Prop where
  h : (T * U^V) % m = a^n % m
theorem KI.one {a m : Int} {n : Nat} {U T : Int} {V : Nat} (h : KI a m n U T V) (hd : V % 2 = 1) : KI a m n (U * U % m) (T * U % m) (V / 2) := by
  refine ⟨?_⟩
  rw [← h.h, mul_l, ← mul_r, pow_emod, mul_r]
  congr 1
  rw [show U^V = U^(1 + 2 * (V / 2)) by congr 1; omega, Int.pow_add, Int.pow_mul, show U^2 = U * U by rw [Int.pow_succ, Int.pow_succ, Int.pow_zero, Int.one_mul], Int.pow_succ, Int.pow_zero, Int.one_mul, Int.mul_assoc]
theorem KI.zero {a m : Int} {n : Nat} {U T : Int} {V : Nat} (h : KI a m n U T V) (hd : ¬ V % 2 = 1) : KI a m n (U * U % m) T (V / 2) := by
  refine ⟨?_⟩
  rw [← h.h, ← mul_r, pow_emod, mul_r]
  congr 1
  rw [show U^V = U^(2 * (V / 2)) by congr 1; omega, Int.pow_mul, show U^2 = U * U by rw [Int.pow_succ, Int.pow_succ, Int.pow_zero, Int.one_mul]]
theorem gm_in {a b m : Int} (h : ¬ m < 1) : gm a b m = a * b % m := by unfold gm; rw [if_neg h]
theorem gs_in {a b m : Int} (h : ¬ m < 1) : gs a b m = (a - b) % m := by unfold gs; rw [if_neg h]
theorem refMul_in (w : World) (a b m : Int) (ha : 0 ≤ a) (ha2 : a < m) (hb : 0 ≤ b) (hb2 : b ≤ m) (hm2 : m ≤ 9223372036854775807) :
    Calls Try.prog 34 #[.int .i64 a, .int .i64 b, .int .i64 m] w fun e w' => e = .returned (.int .i64 (a * b % m)) ∧ w' = w := by
  rw [← gm_in (show ¬ m < 1 by omega)]
  exact refMul_any w a b m (by omega) (by omega) (by omega) (by omega) hm2
set_option maxRecDepth 100000 in
set_option maxHeartbeats 2000000 in
theorem refPow_any (w : World) (a n m : Int) (ha : -9223372036854775808 ≤ a) (ha2 : a ≤ 9223372036854775807) (hn : n ≤ 9223372036854775807) (hm2 : m ≤ 9223372036854775807) :
    Calls Try.prog 35 #[.int .i64 a, .int .i64 n, .int .i64 m] w fun e w' => e = .returned (.int .i64 (gp a n m)) ∧ w' = w := by
  by_cases h : m < 1
  · rw [show gp a n m = 0 by unfold gp; rw [if_pos (.inl h)]]
    go_enter Try.func35, Try.ntmps35
    go_wp2
    go_ret
    exact ⟨rfl, rfl⟩
  · by_cases h2 : n < 0
    · rw [show gp a n m = 0 by unfold gp; rw [if_pos (.inr h2)]]
      go_enter Try.func35, Try.ntmps35
      go_wp2
      go_ret
      exact ⟨rfl, rfl⟩
    · obtain ⟨k, rfl⟩ : ∃ k : Nat, n = k := ⟨n.toNat, by omega⟩
      have hr := rng (f := a) (m := m) (by omega)
      have h1 := rng (f := 1) (m := m) (by omega)
      have E := Lib.hid (show a ^ k % m = gp a k m by unfold gp; rw [if_neg (by omega), Int.toNat_natCast])
      have R1 := Lib.hid (refResidue_any w 1 m (by omega) (by omega) (by omega) hm2)
      have R2 := Lib.hid (refResidue_any w a m ha ha2 (by omega) hm2)
      have hP0 := Lib.hid (show KI a m k (a % m) (1 % m) k from ⟨by rw [mul_l, Int.one_mul, pow_emod]⟩)
      generalize gp a k m = V at *
      generalize a % m = x at *
      generalize 1 % m = y at *
      go_enter Try.func35, Try.ntmps35
      go_wp2_with fail
      refine R1.out.mono ?_
      rintro e w' ⟨rfl, rfl⟩
      go_wp2_with fail
      refine R2.out.mono ?_
      rintro e w' ⟨rfl, rfl⟩
      clear R1 R2
      go_wp2_with fail
      go_loop [1, 7, 8] (fun v t u => ∃ (U T : Int) (W : Nat), 0 ≤ U ∧ U < m ∧ 0 ≤ T ∧ T < m ∧ W ≤ k ∧ Hid (KI a m k U T W) ∧ v = .int .i64 W ∧ t = .int .i64 T ∧ u = .int .i64 U) (fun v _ _ => (intOf v).toNat)
      case atStart => exact ⟨x, y, k, hr.1, hr.2, h1.1, h1.2, Nat.le_refl _, hP0, rfl, rfl, rfl⟩
      case round =>
        obtain ⟨U, T, W, hU, hUm, hT, hTm, hW, hP, rfl, rfl, rfl⟩ := hrel
        by_cases h0 : W = 0
        · subst h0
          have hp := Lib.hid (show T = V by have := hP.out.h; rwa [Int.pow_zero, Int.mul_one, Int.emod_eq_of_lt hT hTm, E.out] at this)
          go_wp2
          go_ret
          exact ⟨ret_int hp.out, rfl⟩
        · have hdv : Int.tdiv (W : Int) 2 = ((W / 2 : Nat) : Int) := by rw [Int.tdiv_eq_ediv_of_nonneg (by omega)]; omega
          have S2 := Lib.hid (refMul_in w' U U m hU hUm hU (by omega) hm2)
          have r2 := rng (f := U * U) (m := m) (by omega)
          have hV2 : W / 2 ≤ k := by omega
          have hV3 : W / 2 < W := by omega
          by_cases hd : W % 2 = 1
          · have hmd : Int.tmod (W : Int) 2 = 1 := by rw [Int.tmod_eq_emod_of_nonneg (by omega)]; omega
            have S1 := Lib.hid (refMul_in w' T U m hT hTm hU (by omega) hm2)
            have r1 := rng (f := T * U) (m := m) (by omega)
            have hQ := Lib.hid (hP.out.one hd)
            clear hd
            generalize (U * U) % m = U' at *
            generalize (T * U) % m = T' at *
            generalize W / 2 = V' at *
            go_wp2_with fail
            refine S1.out.mono ?_
            rintro e w1 ⟨rfl, rfl⟩
            go_wp2_with fail
            refine S2.out.mono ?_
            rintro e w2 ⟨rfl, rfl⟩
            go_wp2_with fail
            go_round
            case rel => exact ⟨U', T', V', r2.1, r2.2, r1.1, r1.2, hV2, hQ, rfl, rfl, rfl⟩
            case measure => (simp [intOf]; omega)
          · have hmd : Int.tmod (W : Int) 2 = 0 := by rw [Int.tmod_eq_emod_of_nonneg (by omega)]; omega
            have hQ := Lib.hid (hP.out.zero hd)
            clear hd
            generalize (U * U) % m = U' at *
            generalize W / 2 = V' at *
            go_wp2_with fail
            refine S2.out.mono ?_
            rintro e w2 ⟨rfl, rfl⟩
            go_wp2_with fail
            go_round
            case rel => exact ⟨U', T, V', r2.1, r2.2, hT, hTm, hV2, hQ, rfl, rfl, rfl⟩
            case measure => (simp [intOf]; omega)
theorem refMember_any (w : World) (a : Int) (ha : -9223372036854775808 ≤ a) (ha2 : a ≤ 9223372036854775807) :
    Calls Try.prog 43 #[.int .i64 a] w fun e w' => e = .returned (.bool (mem a)) ∧ w' = w := by
  have R := Lib.hid (refPow_any w a 1152921504606845789 2305843009213691579 ha ha2 (by omega) (by omega))
  by_cases h1 : 0 < a
  · by_cases h2 : a < 2305843009213691579
    · have E := Lib.hid (show mem a = (gp a 1152921504606845789 2305843009213691579 == 1) by unfold mem; simp [h1, h2])
      generalize gp a 1152921504606845789 2305843009213691579 = p at *
      generalize mem a = b at *
      go_enter Try.func43, Try.ntmps43
      go_wp2_with fail
      refine R.out.mono ?_
      rintro e w1 ⟨rfl, rfl⟩
      go_wp2
      go_ret
      exact ⟨by rw [E.out]; rfl, rfl⟩
    · have E := Lib.hid (show mem a = false by unfold mem; simp [h2])
      go_enter Try.func43, Try.ntmps43
      go_wp2
      go_ret
      exact ⟨by rw [E.out]; rfl, rfl⟩
  · have E := Lib.hid (show mem a = false by unfold mem; simp [h1])
    go_enter Try.func43, Try.ntmps43
    go_wp2
    go_ret
    exact ⟨by rw [E.out]; rfl, rfl⟩
set_option maxRecDepth 100000 in
set_option maxHeartbeats 2000000 in
theorem refInv_any (w : World) (a m : Int) (ha : -9223372036854775808 ≤ a) (ha2 : a ≤ 9223372036854775807) (hm2 : m ≤ 9223372036854775807) :
    Calls Try.prog 51 #[.int .i64 a, .int .i64 m] w (InvQ a m w) := by
  by_cases h : m < 2
  · go_enter Try.func51, Try.ntmps51
    go_wp2
    go_ret2
    exact ⟨0, false, .inr ⟨rfl, rfl, .inl h⟩, rfl, rfl⟩
  · have hr := rng (f := a) (m := m) (by omega)
    have R1 := Lib.hid (refResidue_any w a m ha ha2 (by omega) hm2)
    have hS := Lib.hid (EI.start (a % m) m (by omega) hr.1 hr.2)
    have hI : Hid (∀ i ok, IsInv (a % m) m i ok → IsInv a m i ok) := Lib.hid (fun i ok h => h.res)
    generalize a % m = x at *
    have z0 := Lib.hid (show (0 : Int) = 0 % m by simp)
    have z1 := Lib.hid (show (1 : Int) = 1 % m from (Int.emod_eq_of_lt (by omega) (by omega)).symm)
    go_enter Try.func51, Try.ntmps51
    go_wp2_with fail
    refine R1.out.mono ?_
    rintro e w' ⟨rfl, rfl⟩
    clear R1
    go_wp2_with fail
    go_loop [6, 7, 8, 9] (fun r s f g => ∃ (R S F G X Y : Int), Hid (EI x m R S F G) ∧ Hid (X = F % m) ∧ Hid (Y = G % m) ∧ 0 ≤ X ∧ X < m ∧ 0 ≤ Y ∧ Y < m ∧ r = .int .i64 R ∧ s = .int .i64 S ∧ f = .int .i64 X ∧ g = .int .i64 Y) (fun _ s _ _ => (intOf s).toNat)
    case atStart => exact ⟨m, x, 0, 1, 0, 1, hS, z0, z1, by omega, by omega, by omega, by omega, rfl, rfl, rfl, rfl⟩
    case round =>
      obtain ⟨R, S, F, G, X, Y, hE, hX, hY, hX0, hXm, hY0, hYm, rfl, rfl, rfl, rfl⟩ := hrel
      have hs0 := hE.out.s0
      have hsm := hE.out.sm
      have hr1 := hE.out.r1
      have hrm := hE.out.rm
      by_cases hs : S = 0
      · subst hs
        obtain ⟨e1, e2⟩ := hE.out.stop (by omega)
        by_cases hR : R = 1
        · have hb : (R == 1) = true := by simp [hR]
          have e3 := Lib.hid (hI.out _ _ (e1 hR))
          rw [← hX.out] at e3
          clear e1 e2
          go_wp2
          go_ret2
          exact ⟨X, true, e3.out, rfl, rfl⟩
        · have hb : (R == 1) = false := by simp [hR]
          have e3 := Lib.hid (hI.out _ _ (e2 hR))
          clear e1 e2
          go_wp2
          go_ret2
          exact ⟨0, false, e3.out, rfl, rfl⟩
      · have hsp : 0 < S := by omega
        have hsb : (S == 0) = false := beq_eq_false_iff_ne.2 hs
        have hp := hE.out.prods hsp
        have hN := Lib.hid (hE.out.step hsp)
        have hdiv : Int.tdiv R S = R / S := Int.tdiv_eq_ediv_of_nonneg (by omega)
        obtain ⟨q, hq0⟩ : ∃ q, R / S = q := ⟨_, rfl⟩
        rw [hq0] at hp hN hdiv
        have hq2 := hp.2.1
        have hq1 := hp.1
        have hp1' := hp.2.2.1
        have hp1'' := hp.2.2.2.1
        have hp9 := hp.2.2.2.2.2.2.2.2
        clear hp
        have hZ := Lib.hid (show (X - q * Y % m) % m = (F - q * G) % m by rw [hX.out, hY.out, sub_l, sub_r, ← sub_r, mul_r, sub_r])
        have M := Lib.hid fun W => refMul_any W q Y m (by omega) (by omega) (by omega) (by omega) hm2
        rw [gm_in (show ¬ m < 1 by omega)] at M
        have r3 := rng (f := q * Y) (m := m) (by omega)
        obtain ⟨p3, hp3⟩ : ∃ p, q * Y % m = p := ⟨_, rfl⟩
        rw [hp3] at M r3 hZ
        have D := Lib.hid fun W => refSub_any W X p3 m (by omega) (by omega) (by omega) (by omega) hm2
        rw [gs_in (show ¬ m < 1 by omega)] at D
        have r4 := rng (f := X - p3) (m := m) (by omega)
        obtain ⟨p4, hp4⟩ : ∃ p, (X - p3) % m = p := ⟨_, rfl⟩
        rw [hp4] at D r4 hZ
        obtain ⟨p1, hp1⟩ : ∃ p, q * S = p := ⟨_, rfl⟩
        rw [hp1] at hp1' hp1'' hp9 hN
        have H3 := Lib.hid hp3
        have H4 := Lib.hid hp4
        clear hp3 hp4 hq0 hs
        go_wp2_with fail
        refine (M.out _).mono ?_
        rintro e w1 ⟨rfl, rfl⟩
        go_wp2_with fail
        refine (D.out _).mono ?_
        rintro e w2 ⟨rfl, rfl⟩
        go_wp2
        exact ⟨⟨S, R - p1, G, F - q * G, Y, p4, hN, hY, hZ, hY0, hYm, r4.1, r4.2, rfl, rfl, rfl, rfl⟩, by simp only [intOf]; omega⟩
end Go.Proofs.Ytihplnomhfpajaa.G4
