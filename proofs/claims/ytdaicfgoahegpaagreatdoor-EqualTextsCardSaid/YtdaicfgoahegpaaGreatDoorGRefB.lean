/-
  The walks of the reference's Pow, Inv and Member.
-/
import Derived.Test.YtdaicfgoahegpaaGreatDoorGRefA
namespace Go.Proofs.YtdaicfgoahegpaaGreatDoor.G4
open Go.RowKit GM
/-- what the halvings of the exponent keep -/
structure KI (a m : Int) (n : Nat) (U T : Int) (V : Nat) : Prop where
  h : (T * U^V) % m = a^n % m
theorem KI.one {a m : Int} {n : Nat} {U T : Int} {V : Nat} (h : KI a m n U T V) (hd : V % 2 = 1) : KI a m n (U * U % m) (T * U % m) (V / 2) := by
  refine ⟨?_⟩
  rw [← h.h, mul_l, ← mul_r, pow_emod, mul_r]
  congr 1
  rw [show U^V = U^(1 + 2 * (V / 2)) by congr 1; omega, Int.pow_add, Int.pow_mul, show U^2 = U * U by rw [Int.pow_succ, Int.pow_succ, Int.pow_zero, Int.one_mul], Int.pow_succ, Int.pow_zero, Int.one_mul, Int.mul_assoc]
theorem KI.zero {a m : Int} {n : Nat} {U T : Int} {V : Nat} (h : KI a m n U T V) (hd : ¬ V % 2 = 1) : KI a m n (U * U % m) T (V / 2) := by
  refine ⟨?_⟩
  rw [← h.h, ← mul_r, pow_emod, mul_r]
  congr 1
  rw [show U^V = U^(2 * (V / 2)) by congr 1; omega, Int.pow_mul, show U^2 = U * U by rw [Int.pow_succ, Int.pow_succ, Int.pow_zero, Int.one_mul]]
theorem gm_in {a b m : Int} (h : ¬ m < 1) : gm a b m = a * b % m := by unfold gm; rw [if_neg h]
theorem gs_in {a b m : Int} (h : ¬ m < 1) : gs a b m = (a - b) % m := by unfold gs; rw [if_neg h]
theorem refMul_in (w : World) (a b m : Int) (ha : 0 ≤ a) (ha2 : a < m) (hb : 0 ≤ b) (hb2 : b ≤ m) (hm2 : m ≤ 9223372036854775807) :
    Calls Tryz.prog 23 #[.int .i64 a, .int .i64 b, .int .i64 m] w fun e w' => e = .returned (.int .i64 (a * b % m)) ∧ w' = w := by
  rw [← gm_in (show ¬ m < 1 by omega)]
  exact refMul_any w a b m (by omega) (by omega) (by omega) (by omega) hm2
set_option maxRecDepth 100000 in
set_option maxHeartbeats 2000000 in
theorem refPow_any (w : World) (a n m : Int) (ha : -9223372036854775808 ≤ a) (ha2 : a ≤ 9223372036854775807) (hn : n ≤ 9223372036854775807) (hm2 : m ≤ 9223372036854775807) :
    Calls Tryz.prog 51 #[.int .i64 a, .int .i64 n, .int .i64 m] w fun e w' => e = .returned (.int .i64 (gp a n m)) ∧ w' = w := by
  by_cases h : m < 1
  · rw [show gp a n m = 0 by unfold gp; rw [if_pos (.inl h)]]
    go_enter Tryz.func51, Tryz.ntmps51
    go_wp2
    go_ret
    exact ⟨rfl, rfl⟩
  · by_cases h2 : n < 0
    · rw [show gp a n m = 0 by unfold gp; rw [if_pos (.inr h2)]]
      go_enter Tryz.func51, Tryz.ntmps51
      go_wp2
      go_ret
      exact ⟨rfl, rfl⟩
    · obtain ⟨k, rfl⟩ : ∃ k : Nat, n = k := ⟨n.toNat, by omega⟩
      have hr := rng (f := a) (m := m) (by omega)
      have h1 := rng (f := 1) (m := m) (by omega)
      have E := Lib.hid (show a ^ k % m = gp a k m by unfold gp; rw [if_neg (by omega), Int.toNat_natCast])
      have R1 := Lib.hid (refResidue_any w 1 m (by omega) (by omega) (by omega) hm2)
      have R2 := Lib.hid (refResidue_any w a m ha ha2 (by omega) hm2)
      have hP0 := Lib.hid (show KI a m k (a % m) (1 % m) k from ⟨by rw [mul_l, Int.one_mul, pow_emod]⟩)
      generalize gp a k m = V at *
      generalize a % m = x at *
      generalize 1 % m = y at *
      go_enter Tryz.func51, Tryz.ntmps51
      go_wp2_with fail
      refine R1.out.mono ?_
      rintro e w' ⟨rfl, rfl⟩
      go_wp2_with fail
      refine R2.out.mono ?_
      rintro e w' ⟨rfl, rfl⟩
      clear R1 R2
      go_wp2_with fail
      go_loop [1, 7, 8] (fun v t u => ∃ (U T : Int) (W : Nat), 0 ≤ U ∧ U < m ∧ 0 ≤ T ∧ T < m ∧ W ≤ k ∧ Hid (KI a m k U T W) ∧ v = .int .i64 W ∧ t = .int .i64 T ∧ u = .int .i64 U) (fun v _ _ => (intOf v).toNat)
      case atStart => exact ⟨x, y, k, hr.1, hr.2, h1.1, h1.2, Nat.le_refl _, hP0, rfl, rfl, rfl⟩
      case round =>
        obtain ⟨U, T, W, hU, hUm, hT, hTm, hW, hP, rfl, rfl, rfl⟩ := hrel
        by_cases h0 : W = 0
        · subst h0
          have hp := Lib.hid (show T = V by have := hP.out.h; rwa [Int.pow_zero, Int.mul_one, Int.emod_eq_of_lt hT hTm, E.out] at this)
          go_wp2
          go_ret
          exact ⟨ret_int hp.out, rfl⟩
        · have hdv : Int.tdiv (W : Int) 2 = ((W / 2 : Nat) : Int) := by rw [Int.tdiv_eq_ediv_of_nonneg (by omega)]; omega
          have S2 := Lib.hid (refMul_in w' U U m hU hUm hU (by omega) hm2)
          have r2 := rng (f := U * U) (m := m) (by omega)
          have hV2 : W / 2 ≤ k := by omega
          have hV3 : W / 2 < W := by omega
          by_cases hd : W % 2 = 1
          · have hmd : Int.tmod (W : Int) 2 = 1 := by rw [Int.tmod_eq_emod_of_nonneg (by omega)]; omega
            have S1 := Lib.hid (refMul_in w' T U m hT hTm hU (by omega) hm2)
            have r1 := rng (f := T * U) (m := m) (by omega)
            have hQ := Lib.hid (hP.out.one hd)
            clear hd
            generalize (U * U) % m = U' at *
            generalize (T * U) % m = T' at *
            generalize W / 2 = V' at *
            go_wp2_with fail
            refine S1.out.mono ?_
            rintro e w1 ⟨rfl, rfl⟩
            go_wp2_with fail
            refine S2.out.mono ?_
            rintro e w2 ⟨rfl, rfl⟩
            go_wp2_with fail
            go_round
            case rel => exact ⟨U', T', V', r2.1, r2.2, r1.1, r1.2, hV2, hQ, rfl, rfl, rfl⟩
            case measure => (simp [intOf]; omega)
          · have hmd : Int.tmod (W : Int) 2 = 0 := by rw [Int.tmod_eq_emod_of_nonneg (by omega)]; omega
            have hQ := Lib.hid (hP.out.zero hd)
            clear hd
            generalize (U * U) % m = U' at *
            generalize W / 2 = V' at *
            go_wp2_with fail
            refine S2.out.mono ?_
            rintro e w2 ⟨rfl, rfl⟩
            go_wp2_with fail
            go_round
            case rel => exact ⟨U', T, V', r2.1, r2.2, hT, hTm, hV2, hQ, rfl, rfl, rfl⟩
            case measure => (simp [intOf]; omega)
theorem refMember_any (w : World) (a : Int) (ha : -9223372036854775808 ≤ a) (ha2 : a ≤ 9223372036854775807) :
    Calls Tryz.prog 29 #[.int .i64 a] w fun e w' => e = .returned (.bool (mem a)) ∧ w' = w := by
  have R := Lib.hid (refPow_any w a 1152921504606845789 2305843009213691579 ha ha2 (by omega) (by omega))
  by_cases h1 : 0 < a
  · by_cases h2 : a < 2305843009213691579
    · have E := Lib.hid (show mem a = (gp a 1152921504606845789 2305843009213691579 == 1) by unfold mem; simp [h1, h2])
      generalize gp a 1152921504606845789 2305843009213691579 = p at *
      generalize mem a = b at *
      go_enter Tryz.func29, Tryz.ntmps29
      go_wp2_with fail
      refine R.out.mono ?_
      rintro e w1 ⟨rfl, rfl⟩
      go_wp2
      go_ret
      exact ⟨by rw [E.out]; rfl, rfl⟩
    · have E := Lib.hid (show mem a = false by unfold mem; simp [h2])
      go_enter Tryz.func29, Tryz.ntmps29
      go_wp2
      go_ret
      exact ⟨by rw [E.out]; rfl, rfl⟩
  · have E := Lib.hid (show mem a = false by unfold mem; simp [h1])
    go_enter Tryz.func29, Tryz.ntmps29
    go_wp2
    go_ret
    exact ⟨by rw [E.out]; rfl, rfl⟩
end Go.Proofs.YtdaicfgoahegpaaGreatDoor.G4
