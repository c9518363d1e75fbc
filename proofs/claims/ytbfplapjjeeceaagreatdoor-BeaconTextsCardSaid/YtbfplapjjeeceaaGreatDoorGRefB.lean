/-
  The walks of the reference's Residue, plus, Add, Sub and Mul.
  The walks of the reference's Pow, Inv and Member.
-/
import Derived.Test.YtbfplapjjeeceaaGreatDoorGSan
namespace Go.Proofs.YtbfplapjjeeceaaGreatDoor.G4
open Go.RowKit GM
theorem refResidue_any (w : World) (a m : Int) (_ha : -9223372036854775808 ≤ a) (_hb : a ≤ 9223372036854775807) (hm : 1 ≤ m) (hm2 : m ≤ 9223372036854775807) :
    Calls Tryz.prog 76 #[.int .i64 a, .int .i64 m] w fun e w' => e = .returned (.int .i64 (a % m)) ∧ w' = w := by
  have hm0 : (m == 0) = false := beq_eq_false_iff_ne.2 (by omega)
  have h1 : -m < Int.tmod a m := by
    have := Int.lt_tmod_of_pos a (show 0 < m by omega); omega
  have h2 : Int.tmod a m < m := Int.tmod_lt_of_pos a (by omega)
  by_cases h : Int.tmod a m < 0
  · have e := res_lo a m (by omega) h
    obtain ⟨r, hr⟩ : ∃ r, Int.tmod a m = r := ⟨_, rfl⟩
    rw [hr] at e
    have E := Lib.hid e; clear e
    rw [hr] at h h1 h2
    go_enter Tryz.func76, Tryz.ntmps76
    go_wp2
    go_ret
    exact ⟨ret_int E.out, rfl⟩
  · have e := res_hi a m (by omega) h
    obtain ⟨r, hr⟩ : ∃ r, Int.tmod a m = r := ⟨_, rfl⟩
    rw [hr] at e
    have E := Lib.hid e; clear e
    rw [hr] at h h1 h2
    go_enter Tryz.func76, Tryz.ntmps76
    go_wp2
    go_ret
    exact ⟨ret_int E.out, rfl⟩
theorem plus_hi (x y m : Int) (hxm : x < m) (hym : y < m) (h : m - y ≤ x) : x - (m - y) = (x + y) % m := by
  have : (x + y) % m = (x + y - m) % m := (Int.sub_emod_right (x + y) m).symm
  rw [this, Int.emod_eq_of_lt (by omega) (by omega)]; omega
theorem plus_lo (x y m : Int) (hx : 0 ≤ x) (hy : 0 ≤ y) (h : ¬ m - y ≤ x) : x + y = (x + y) % m := by
  rw [Int.emod_eq_of_lt (by omega) (by omega)]
theorem plus_any (w : World) (x y m : Int) (hx : 0 ≤ x) (hxm : x < m) (hy : 0 ≤ y) (hym : y < m) (hm2 : m ≤ 9223372036854775807) :
    Calls Tryz.prog 81 #[.int .i64 x, .int .i64 y, .int .i64 m] w fun e w' => e = .returned (.int .i64 ((x + y) % m)) ∧ w' = w := by
  by_cases h : m - y ≤ x
  · have E := Lib.hid (plus_hi x y m hxm hym h)
    go_enter Tryz.func81, Tryz.ntmps81
    go_wp2
    go_ret
    exact ⟨ret_int E.out, rfl⟩
  · have E := Lib.hid (plus_lo x y m hx hy h)
    go_enter Tryz.func81, Tryz.ntmps81
    go_wp2
    go_ret
    exact ⟨ret_int E.out, rfl⟩
theorem refAdd_any (w : World) (a b m : Int) (ha : -9223372036854775808 ≤ a) (ha2 : a ≤ 9223372036854775807) (hb : -9223372036854775808 ≤ b) (hb2 : b ≤ 9223372036854775807) (hm2 : m ≤ 9223372036854775807) :
    Calls Tryz.prog 54 #[.int .i64 a, .int .i64 b, .int .i64 m] w fun e w' => e = .returned (.int .i64 (ga a b m)) ∧ w' = w := by
  by_cases h : m < 1
  · rw [show ga a b m = 0 by unfold ga; rw [if_pos h]]
    go_enter Tryz.func54, Tryz.ntmps54
    go_wp2
    go_ret
    exact ⟨rfl, rfl⟩
  · have hr := rng (f := a) h
    have hs := rng (f := b) h
    have E := Lib.hid (show (a % m + b % m) % m = ga a b m by unfold ga; rw [if_neg h, add_l, add_r])
    have R1 := Lib.hid (refResidue_any w a m ha ha2 (by omega) hm2)
    have R2 := Lib.hid (refResidue_any w b m hb hb2 (by omega) hm2)
    have R3 := Lib.hid (plus_any w (a % m) (b % m) m hr.1 hr.2 hs.1 hs.2 hm2)
    generalize a % m = x at *
    generalize b % m = y at *
    go_enter Tryz.func54, Tryz.ntmps54
    go_wp2_with fail
    refine R1.out.mono ?_
    rintro e w' ⟨rfl, rfl⟩
    go_wp2_with fail
    refine R2.out.mono ?_
    rintro e w' ⟨rfl, rfl⟩
    go_wp2_with fail
    refine R3.out.mono ?_
    rintro e w' ⟨rfl, rfl⟩
    go_wp2
    go_ret
    exact ⟨ret_int E.out, rfl⟩
/-- what the halvings of y keep -/
structure HI (x m : Int) (y : Nat) (U T : Int) (V : Nat) : Prop where
  h : (T + U * V) % m = x * y % m
theorem HI.one {x m : Int} {y : Nat} {U T : Int} {V : Nat} (h : HI x m y U T V) (hd : V % 2 = 1) : HI x m y ((U + U) % m) ((T + U) % m) (V / 2) := by
  refine ⟨?_⟩
  rw [← h.h, add_l, ← add_r, mul_l, add_r]
  congr 1
  have : (V : Int) = 2 * ((V / 2 : Nat) : Int) + 1 := by omega
  generalize ((V / 2 : Nat) : Int) = k at *
  rw [this]; grind
theorem HI.zero {x m : Int} {y : Nat} {U T : Int} {V : Nat} (h : HI x m y U T V) (hd : ¬ V % 2 = 1) : HI x m y ((U + U) % m) T (V / 2) := by
  refine ⟨?_⟩
  rw [← h.h, ← add_r, mul_l, add_r]
  congr 1
  have : (V : Int) = 2 * ((V / 2 : Nat) : Int) := by omega
  generalize ((V / 2 : Nat) : Int) = k at *
  rw [this]; grind
set_option maxRecDepth 100000 in
set_option maxHeartbeats 2000000 in
theorem refMul_any (w : World) (a b m : Int) (ha : -9223372036854775808 ≤ a) (ha2 : a ≤ 9223372036854775807) (hb : -9223372036854775808 ≤ b) (hb2 : b ≤ 9223372036854775807) (hm2 : m ≤ 9223372036854775807) :
    Calls Tryz.prog 44 #[.int .i64 a, .int .i64 b, .int .i64 m] w fun e w' => e = .returned (.int .i64 (gm a b m)) ∧ w' = w := by
  by_cases h : m < 1
  · rw [show gm a b m = 0 by unfold gm; rw [if_pos h]]
    go_enter Tryz.func44, Tryz.ntmps44
    go_wp2
    go_ret
    exact ⟨rfl, rfl⟩
  · have hr := rng (f := a) h
    have hs := rng (f := b) h
    have hm0 : (m == 0) = false := beq_eq_false_iff_ne.2 (by omega)
    have E := Lib.hid (show (a % m) * (b % m) % m = gm a b m by unfold gm; rw [if_neg h, mul_l, mul_r])
    have R1 := Lib.hid (refResidue_any w a m ha ha2 (by omega) hm2)
    have R2 := Lib.hid (refResidue_any w b m hb hb2 (by omega) hm2)
    generalize a % m = x at *
    generalize b % m = z at *
    obtain ⟨y, rfl⟩ : ∃ v : Nat, z = v := ⟨z.toNat, by omega⟩
    by_cases hs1 : x < 2147483648 ∧ (y : Int) < 2147483648
    · obtain ⟨hx, hy⟩ := hs1
      have hp : x * y ≤ 2147483647 * 2147483647 := by
        have e1 : x * y ≤ 2147483647 * y := Int.mul_le_mul_of_nonneg_right (by omega) (by omega)
        omega
      have hp0 : 0 ≤ x * y := Int.mul_nonneg hr.1 (by omega)
      have hmod : Int.tmod (x * y) m = x * y % m := Int.tmod_eq_emod_of_nonneg hp0
      have hq := rng (f := x * y) h
      obtain ⟨v, hv⟩ : ∃ v, x * (y : Int) = v := ⟨_, rfl⟩
      rw [hv] at hp hp0 hmod hq E
      obtain ⟨u, hu⟩ : ∃ u, v % m = u := ⟨_, rfl⟩
      rw [hu] at hmod hq E
      have HU := Lib.hid hu
      clear hu
      go_enter Tryz.func44, Tryz.ntmps44
      go_wp2_with fail
      refine R1.out.mono ?_
      rintro e w' ⟨rfl, rfl⟩
      go_wp2_with fail
      refine R2.out.mono ?_
      rintro e w' ⟨rfl, rfl⟩
      go_wp2
      go_ret
      exact ⟨ret_int E.out, rfl⟩
    · rcases (show 2147483648 ≤ x ∨ (x < 2147483648 ∧ ¬ (y : Int) < 2147483648) by omega) with hx | ⟨hx, hy⟩
      · have hH := Lib.hid (show HI x m y x 0 y from ⟨by rw [Int.zero_add]⟩)
        go_enter Tryz.func44, Tryz.ntmps44
        go_wp2_with fail
        refine R1.out.mono ?_
        rintro e w' ⟨rfl, rfl⟩
        go_wp2_with fail
        refine R2.out.mono ?_
        rintro e w' ⟨rfl, rfl⟩
        go_wp2_with fail
        clear R1 R2
        go_loop [7, 8, 9] (fun u v t => ∃ (U T : Int) (V : Nat), 0 ≤ U ∧ U < m ∧ 0 ≤ T ∧ T < m ∧ V ≤ y ∧ Hid (HI x m y U T V) ∧ u = .int .i64 U ∧ v = .int .i64 V ∧ t = .int .i64 T) (fun _ v _ => (intOf v).toNat)
        case atStart => exact ⟨x, 0, y, hr.1, hr.2, by omega, by omega, Nat.le_refl _, hH, rfl, rfl, rfl⟩
        case round =>
          obtain ⟨U, T, V, hU, hUm, hT, hTm, hV, hP, rfl, rfl, rfl⟩ := hrel
          by_cases h0 : V = 0
          · subst h0
            have hp := Lib.hid (show T = x * y % m by have := hP.out.h; rwa [show U * ((0 : Nat) : Int) = 0 from Int.mul_zero U, Int.add_zero, Int.emod_eq_of_lt hT hTm] at this)
            go_wp2
            go_ret
            exact ⟨ret_int (hp.out.trans E.out), rfl⟩
          · have hdv : Int.tdiv (V : Int) 2 = ((V / 2 : Nat) : Int) := by rw [Int.tdiv_eq_ediv_of_nonneg (by omega)]; omega
            have S2 := Lib.hid (plus_any w' U U m hU hUm hU hUm hm2)
            have r2 := rng (f := U + U) (m := m) (by omega)
            have hV2 : V / 2 ≤ y := by omega
            have hV3 : V / 2 < V := by omega
            by_cases hd : V % 2 = 1
            · have hmd : Int.tmod (V : Int) 2 = 1 := by rw [Int.tmod_eq_emod_of_nonneg (by omega)]; omega
              have S1 := Lib.hid (plus_any w' T U m hT hTm hU hUm hm2)
              have r1 := rng (f := T + U) (m := m) (by omega)
              have hQ := Lib.hid (hP.out.one hd)
              clear hd
              generalize (U + U) % m = U' at *
              generalize (T + U) % m = T' at *
              generalize V / 2 = V' at *
              go_wp2_with fail
              refine S1.out.mono ?_
              rintro e w1 ⟨rfl, rfl⟩
              go_wp2_with fail
              refine S2.out.mono ?_
              rintro e w2 ⟨rfl, rfl⟩
              go_wp2_with fail
              go_round
              case rel => exact ⟨U', T', V', r2.1, r2.2, r1.1, r1.2, hV2, hQ, rfl, rfl, rfl⟩
              case measure => (simp [intOf]; omega)
            · have hmd : Int.tmod (V : Int) 2 = 0 := by rw [Int.tmod_eq_emod_of_nonneg (by omega)]; omega
              have hQ := Lib.hid (hP.out.zero hd)
              clear hd
              generalize (U + U) % m = U' at *
              generalize V / 2 = V' at *
              go_wp2_with fail
              refine S2.out.mono ?_
              rintro e w2 ⟨rfl, rfl⟩
              go_wp2_with fail
              go_round
              case rel => exact ⟨U', T, V', r2.1, r2.2, hT, hTm, hV2, hQ, rfl, rfl, rfl⟩
              case measure => (simp [intOf]; omega)
      · have dx : (x < 2147483648) = True := eq_true hx
        have dy : ((y : Int) < 2147483648) = False := eq_false hy
        clear hx hy hs1
        have hH := Lib.hid (show HI x m y x 0 y from ⟨by rw [Int.zero_add]⟩)
        go_enter Tryz.func44, Tryz.ntmps44
        go_wp2_with fail
        refine R1.out.mono ?_
        rintro e w' ⟨rfl, rfl⟩
        go_wp2_with fail
        refine R2.out.mono ?_
        rintro e w' ⟨rfl, rfl⟩
        go_wp2_with fail
        clear R1 R2
        go_loop [7, 8, 9] (fun u v t => ∃ (U T : Int) (V : Nat), 0 ≤ U ∧ U < m ∧ 0 ≤ T ∧ T < m ∧ V ≤ y ∧ Hid (HI x m y U T V) ∧ u = .int .i64 U ∧ v = .int .i64 V ∧ t = .int .i64 T) (fun _ v _ => (intOf v).toNat)
        case atStart => exact ⟨x, 0, y, hr.1, hr.2, by omega, by omega, Nat.le_refl _, hH, rfl, rfl, rfl⟩
        case round =>
          obtain ⟨U, T, V, hU, hUm, hT, hTm, hV, hP, rfl, rfl, rfl⟩ := hrel
          by_cases h0 : V = 0
          · subst h0
            have hp := Lib.hid (show T = x * y % m by have := hP.out.h; rwa [show U * ((0 : Nat) : Int) = 0 from Int.mul_zero U, Int.add_zero, Int.emod_eq_of_lt hT hTm] at this)
            go_wp2
            go_ret
            exact ⟨ret_int (hp.out.trans E.out), rfl⟩
          · have hdv : Int.tdiv (V : Int) 2 = ((V / 2 : Nat) : Int) := by rw [Int.tdiv_eq_ediv_of_nonneg (by omega)]; omega
            have S2 := Lib.hid (plus_any w' U U m hU hUm hU hUm hm2)
            have r2 := rng (f := U + U) (m := m) (by omega)
            have hV2 : V / 2 ≤ y := by omega
            have hV3 : V / 2 < V := by omega
            by_cases hd : V % 2 = 1
            · have hmd : Int.tmod (V : Int) 2 = 1 := by rw [Int.tmod_eq_emod_of_nonneg (by omega)]; omega
              have S1 := Lib.hid (plus_any w' T U m hT hTm hU hUm hm2)
              have r1 := rng (f := T + U) (m := m) (by omega)
              have hQ := Lib.hid (hP.out.one hd)
              clear hd
              generalize (U + U) % m = U' at *
              generalize (T + U) % m = T' at *
              generalize V / 2 = V' at *
              go_wp2_with fail
              refine S1.out.mono ?_
              rintro e w1 ⟨rfl, rfl⟩
              go_wp2_with fail
              refine S2.out.mono ?_
              rintro e w2 ⟨rfl, rfl⟩
              go_wp2_with fail
              go_round
              case rel => exact ⟨U', T', V', r2.1, r2.2, r1.1, r1.2, hV2, hQ, rfl, rfl, rfl⟩
              case measure => (simp [intOf]; omega)
            · have hmd : Int.tmod (V : Int) 2 = 0 := by rw [Int.tmod_eq_emod_of_nonneg (by omega)]; omega
              have hQ := Lib.hid (hP.out.zero hd)
              clear hd
              generalize (U + U) % m = U' at *
              generalize V / 2 = V' at *
              go_wp2_with fail
              refine S2.out.mono ?_
              rintro e w2 ⟨rfl, rfl⟩
              go_wp2_with fail
              go_round
              case rel => exact ⟨U', T, V', r2.1, r2.2, hT, hTm, hV2, hQ, rfl, rfl, rfl⟩
              case measure => (simp [intOf]; omega)
end Go.Proofs.YtbfplapjjeeceaaGreatDoor.G4
namespace Go.Proofs.YtbfplapjjeeceaaGreatDoor.G4
open Go.RowKit GM
/-- what the halvings of the exponent keep -/
structure KI (a m : Int) (n : Nat) (U T : Int) (V : Nat) : Prop where
  h : (T * U^V) % m = a^n % m
theorem KI.one {a m : Int} {n : Nat} {U T : Int} {V : Nat} (h : KI a m n U T V) (hd : V % 2 = 1) : KI a m n (U * U % m) (T * U % m) (V / 2) := by
  refine ⟨?_⟩
  rw [← h.h, mul_l, ← mul_r, pow_emod, mul_r]
  congr 1
  rw [show U^V = U^(1 + 2 * (V / 2)) by congr 1; omega, Int.pow_add, Int.pow_mul, show U^2 = U * U by rw [Int.pow_succ, Int.pow_succ, Int.pow_zero, Int.one_mul], Int.pow_succ, Int.pow_zero, Int.one_mul, Int.mul_assoc]
theorem KI.zero {a m : Int} {n : Nat} {U T : Int} {V : Nat} (h : KI a m n U T V) (hd : ¬ V % 2 = 1) : KI a m n (U * U % m) T (V / 2) := by
  refine ⟨?_⟩
  rw [← h.h, ← mul_r, pow_emod, mul_r]
  congr 1
  rw [show U^V = U^(2 * (V / 2)) by congr 1; omega, Int.pow_mul, show U^2 = U * U by rw [Int.pow_succ, Int.pow_succ, Int.pow_zero, Int.one_mul]]
theorem gm_in {a b m : Int} (h : ¬ m < 1) : gm a b m = a * b % m := by unfold gm; rw [if_neg h]
theorem refMul_in (w : World) (a b m : Int) (ha : 0 ≤ a) (ha2 : a < m) (hb : 0 ≤ b) (hb2 : b ≤ m) (hm2 : m ≤ 9223372036854775807) :
    Calls Tryz.prog 44 #[.int .i64 a, .int .i64 b, .int .i64 m] w fun e w' => e = .returned (.int .i64 (a * b % m)) ∧ w' = w := by
  rw [← gm_in (show ¬ m < 1 by omega)]
  exact refMul_any w a b m (by omega) (by omega) (by omega) (by omega) hm2
set_option maxRecDepth 100000 in
set_option maxHeartbeats 2000000 in
theorem refPow_any (w : World) (a n m : Int) (ha : -9223372036854775808 ≤ a) (ha2 : a ≤ 9223372036854775807) (hn : n ≤ 9223372036854775807) (hm2 : m ≤ 9223372036854775807) :
    Calls Tryz.prog 39 #[.int .i64 a, .int .i64 n, .int .i64 m] w fun e w' => e = .returned (.int .i64 (gp a n m)) ∧ w' = w := by
  by_cases h : m < 1
  · rw [show gp a n m = 0 by unfold gp; rw [if_pos (.inl h)]]
    go_enter Tryz.func39, Tryz.ntmps39
    go_wp2
    go_ret
    exact ⟨rfl, rfl⟩
  · by_cases h2 : n < 0
    · rw [show gp a n m = 0 by unfold gp; rw [if_pos (.inr h2)]]
      go_enter Tryz.func39, Tryz.ntmps39
      go_wp2
      go_ret
      exact ⟨rfl, rfl⟩
    · obtain ⟨k, rfl⟩ : ∃ k : Nat, n = k := ⟨n.toNat, by omega⟩
      have hr := rng (f := a) (m := m) (by omega)
      have h1 := rng (f := 1) (m := m) (by omega)
      have E := Lib.hid (show a ^ k % m = gp a k m by unfold gp; rw [if_neg (by omega), Int.toNat_natCast])
      have R1 := Lib.hid (refResidue_any w 1 m (by omega) (by omega) (by omega) hm2)
      have R2 := Lib.hid (refResidue_any w a m ha ha2 (by omega) hm2)
      have hP0 := Lib.hid (show KI a m k (a % m) (1 % m) k from ⟨by rw [mul_l, Int.one_mul, pow_emod]⟩)
      generalize gp a k m = V at *
      generalize a % m = x at *
      generalize 1 % m = y at *
      go_enter Tryz.func39, Tryz.ntmps39
      go_wp2_with fail
      refine R1.out.mono ?_
      rintro e w' ⟨rfl, rfl⟩
      go_wp2_with fail
      refine R2.out.mono ?_
      rintro e w' ⟨rfl, rfl⟩
      clear R1 R2
      go_wp2_with fail
      go_loop [1, 7, 8] (fun v t u => ∃ (U T : Int) (W : Nat), 0 ≤ U ∧ U < m ∧ 0 ≤ T ∧ T < m ∧ W ≤ k ∧ Hid (KI a m k U T W) ∧ v = .int .i64 W ∧ t = .int .i64 T ∧ u = .int .i64 U) (fun v _ _ => (intOf v).toNat)
      case atStart => exact ⟨x, y, k, hr.1, hr.2, h1.1, h1.2, Nat.le_refl _, hP0, rfl, rfl, rfl⟩
      case round =>
        obtain ⟨U, T, W, hU, hUm, hT, hTm, hW, hP, rfl, rfl, rfl⟩ := hrel
        by_cases h0 : W = 0
        · subst h0
          have hp := Lib.hid (show T = V by have := hP.out.h; rwa [Int.pow_zero, Int.mul_one, Int.emod_eq_of_lt hT hTm, E.out] at this)
          go_wp2
          go_ret
          exact ⟨ret_int hp.out, rfl⟩
        · have hdv : Int.tdiv (W : Int) 2 = ((W / 2 : Nat) : Int) := by rw [Int.tdiv_eq_ediv_of_nonneg (by omega)]; omega
          have S2 := Lib.hid (refMul_in w' U U m hU hUm hU (by omega) hm2)
          have r2 := rng (f := U * U) (m := m) (by omega)
          have hV2 : W / 2 ≤ k := by omega
          have hV3 : W / 2 < W := by omega
          by_cases hd : W % 2 = 1
          · have hmd : Int.tmod (W : Int) 2 = 1 := by rw [Int.tmod_eq_emod_of_nonneg (by omega)]; omega
            have S1 := Lib.hid (refMul_in w' T U m hT hTm hU (by omega) hm2)
            have r1 := rng (f := T * U) (m := m) (by omega)
            have hQ := Lib.hid (hP.out.one hd)
            clear hd
            generalize (U * U) % m = U' at *
            generalize (T * U) % m = T' at *
            generalize W / 2 = V' at *
            go_wp2_with fail
            refine S1.out.mono ?_
            rintro e w1 ⟨rfl, rfl⟩
            go_wp2_with fail
            refine S2.out.mono ?_
            rintro e w2 ⟨rfl, rfl⟩
            go_wp2_with fail
            go_round
            case rel => exact ⟨U', T', V', r2.1, r2.2, r1.1, r1.2, hV2, hQ, rfl, rfl, rfl⟩
            case measure => (simp [intOf]; omega)
          · have hmd : Int.tmod (W : Int) 2 = 0 := by rw [Int.tmod_eq_emod_of_nonneg (by omega)]; omega
            have hQ := Lib.hid (hP.out.zero hd)
            clear hd
            generalize (U * U) % m = U' at *
            generalize W / 2 = V' at *
            go_wp2_with fail
            refine S2.out.mono ?_
            rintro e w2 ⟨rfl, rfl⟩
            go_wp2_with fail
            go_round
            case rel => exact ⟨U', T, V', r2.1, r2.2, hT, hTm, hV2, hQ, rfl, rfl, rfl⟩
            case measure => (simp [intOf]; omega)
theorem refMember_any (w : World) (a : Int) (ha : -9223372036854775808 ≤ a) (ha2 : a ≤ 9223372036854775807) :
    Calls Tryz.prog 77 #[.int .i64 a] w fun e w' => e = .returned (.bool (mem a)) ∧ w' = w := by
  have R := Lib.hid (refPow_any w a 1152921504606845789 2305843009213691579 ha ha2 (by omega) (by omega))
  by_cases h1 : 0 < a
  · by_cases h2 : a < 2305843009213691579
    · have E := Lib.hid (show mem a = (gp a 1152921504606845789 2305843009213691579 == 1) by unfold mem; simp [h1, h2])
      generalize gp a 1152921504606845789 2305843009213691579 = p at *
      generalize mem a = b at *
      go_enter Tryz.func77, Tryz.ntmps77
      go_wp2_with fail
      refine R.out.mono ?_
      rintro e w1 ⟨rfl, rfl⟩
      go_wp2
      go_ret
      exact ⟨by rw [E.out]; rfl, rfl⟩
    · have E := Lib.hid (show mem a = false by unfold mem; simp [h2])
      go_enter Tryz.func77, Tryz.ntmps77
      go_wp2
      go_ret
      exact ⟨by rw [E.out]; rfl, rfl⟩
  · have E := Lib.hid (show mem a = false by unfold mem; simp [h1])
    go_enter Tryz.func77, Tryz.ntmps77
    go_wp2
    go_ret
    exact ⟨by rw [E.out]; rfl, rfl⟩
end Go.Proofs.YtbfplapjjeeceaaGreatDoor.G4
