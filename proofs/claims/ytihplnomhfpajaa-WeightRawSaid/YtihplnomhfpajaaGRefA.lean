/-
  The walks of the reference's Residue, plus, Add, Sub and Mul.
-/
import Derived.Test.YtihplnomhfpajaaGSan
namespace Go.Proofs.Ytihplnomhfpajaa.G4
open Go.RowKit GM
theorem refResidue_any (w : World) (a m : Int) (_ha : -9223372036854775808 ≤ a) (_hb : a ≤ 9223372036854775807) (hm : 1 ≤ m) (hm2 : m ≤ 9223372036854775807) :
    Calls Try.prog 53 #[.int .i64 a, .int .i64 m] w fun e w' => e = .returned (.int .i64 (a % m)) ∧ w' = w := by
  have hm0 : (m == 0) = false := beq_eq_false_iff_ne.2 (by omega)
  have h1 : -m < Int.tmod a m := by
    have := Int.lt_tmod_of_pos a (show 0 < m by omega); omega
  have h2 : Int.tmod a m < m := Int.tmod_lt_of_pos a (by omega)
  by_cases h : Int.tmod a m < 0
  · have e := res_lo a m (by omega) h
    obtain ⟨r, hr⟩ : ∃ r, Int.tmod a m = r := ⟨_, rfl⟩
    rw [hr] at e
    have E := Lib.hid e; clear e
    rw [hr] at h h1 h2
    go_enter Try.func53, Try.ntmps53
    go_wp2
    go_ret
    exact ⟨ret_int E.out, rfl⟩
  · have e := res_hi a m (by omega) h
    obtain ⟨r, hr⟩ : ∃ r, Int.tmod a m = r := ⟨_, rfl⟩
    rw [hr] at e
    have E := Lib.hid e; clear e
    rw [hr] at h h1 h2
    go_enter Try.func53, Try.ntmps53
    go_wp2
    go_ret
    exact ⟨ret_int E.out, rfl⟩
theorem plus_hi (x y m : Int) (hxm : x < m) (hym : y < m) (h : m - y ≤ x) : x - (m - y) = (x + y) % m := by
  have : (x + y) % m = (x + y - m) % m := (Int.sub_emod_right (x + y) m).symm
  rw [this, Int.emod_eq_of_lt (by omega) (by omega)]; omega
theorem plus_lo (x y m : Int) (hx : 0 ≤ x) (hy : 0 ≤ y) (h : ¬ m - y ≤ x) : x + y = (x + y) % m := by
  rw [Int.emod_eq_of_lt (by omega) (by omega)]
theorem plus_any (w : World) (x y m : Int) (hx : 0 ≤ x) (hxm : x < m) (hy : 0 ≤ y) (hym : y < m) (hm2 : m ≤ 9223372036854775807) :
    Calls Try.prog 54 #[.int .i64 x, .int .i64 y, .int .i64 m] w fun e w' => e = .returned (.int .i64 ((x + y) % m)) ∧ w' = w := by
  by_cases h : m - y ≤ x
  · have E := Lib.hid (plus_hi x y m hxm hym h)
    go_enter Try.func54, Try.ntmps54
    go_wp2
    go_ret
    exact ⟨ret_int E.out, rfl⟩
  · have E := Lib.hid (plus_lo x y m hx hy h)
    go_enter Try.func54, Try.ntmps54
    go_wp2
    go_ret
    exact ⟨ret_int E.out, rfl⟩
theorem refAdd_any (w : World) (a b m : Int) (ha : -9223372036854775808 ≤ a) (ha2 : a ≤ 9223372036854775807) (hb : -9223372036854775808 ≤ b) (hb2 : b ≤ 9223372036854775807) (hm2 : m ≤ 9223372036854775807) :
    Calls Try.prog 38 #[.int .i64 a, .int .i64 b, .int .i64 m] w fun e w' => e = .returned (.int .i64 (ga a b m)) ∧ w' = w := by
  by_cases h : m < 1
  · rw [show ga a b m = 0 by unfold ga; rw [if_pos h]]
    go_enter Try.func38, Try.ntmps38
    go_wp2
    go_ret
    exact ⟨rfl, rfl⟩
  · have hr := rng (f := a) h
    have hs := rng (f := b) h
    have E := Lib.hid (show (a % m + b % m) % m = ga a b m by unfold ga; rw [if_neg h, add_l, add_r])
    have R1 := Lib.hid (refResidue_any w a m ha ha2 (by omega) hm2)
    have R2 := Lib.hid (refResidue_any w b m hb hb2 (by omega) hm2)
    have R3 := Lib.hid (plus_any w (a % m) (b % m) m hr.1 hr.2 hs.1 hs.2 hm2)
    generalize a % m = x at *
    generalize b % m = y at *
    go_enter Try.func38, Try.ntmps38
    go_wp2_with fail
    refine R1.out.mono ?_
    rintro e w' ⟨rfl, rfl⟩
    go_wp2_with fail
    refine R2.out.mono ?_
    rintro e w' ⟨rfl, rfl⟩
    go_wp2_with fail
    refine R3.out.mono ?_
    rintro e w' ⟨rfl, rfl⟩
    go_wp2
    go_ret
    exact ⟨ret_int E.out, rfl⟩
theorem minus_lo (x y m : Int) (hx : 0 ≤ x) (hym : y < m) (h : x < y) : x + (m - y) = (x - y) % m := by
  have : (x - y) % m = (x - y + m) % m := (Int.add_emod_right (x - y) m).symm
  rw [this, Int.emod_eq_of_lt (by omega) (by omega)]; omega
theorem minus_hi (x y m : Int) (hxm : x < m) (hy : 0 ≤ y) (h : ¬ x < y) : x - y = (x - y) % m := by
  rw [Int.emod_eq_of_lt (by omega) (by omega)]
theorem refSub_any (w : World) (a b m : Int) (ha : -9223372036854775808 ≤ a) (ha2 : a ≤ 9223372036854775807) (hb : -9223372036854775808 ≤ b) (hb2 : b ≤ 9223372036854775807) (hm2 : m ≤ 9223372036854775807) :
    Calls Try.prog 52 #[.int .i64 a, .int .i64 b, .int .i64 m] w fun e w' => e = .returned (.int .i64 (gs a b m)) ∧ w' = w := by
  by_cases h : m < 1
  · rw [show gs a b m = 0 by unfold gs; rw [if_pos h]]
    go_enter Try.func52, Try.ntmps52
    go_wp2
    go_ret
    exact ⟨rfl, rfl⟩
  · have hr := rng (f := a) h
    have hs := rng (f := b) h
    have E := Lib.hid (show (a % m - b % m) % m = gs a b m by unfold gs; rw [if_neg h, sub_l, sub_r])
    have R1 := Lib.hid (refResidue_any w a m ha ha2 (by omega) hm2)
    have R2 := Lib.hid (refResidue_any w b m hb hb2 (by omega) hm2)
    generalize a % m = x at *
    generalize b % m = y at *
    by_cases hxy : x < y
    · have E2 := Lib.hid (minus_lo x y m hr.1 hs.2 hxy)
      go_enter Try.func52, Try.ntmps52
      go_wp2_with fail
      refine R1.out.mono ?_
      rintro e w' ⟨rfl, rfl⟩
      go_wp2_with fail
      refine R2.out.mono ?_
      rintro e w' ⟨rfl, rfl⟩
      go_wp2
      go_ret
      exact ⟨ret_int (E2.out.trans E.out), rfl⟩
    · have E2 := Lib.hid (minus_hi x y m hr.2 hs.1 hxy)
      go_enter Try.func52, Try.ntmps52
      go_wp2_with fail
      refine R1.out.mono ?_
      rintro e w' ⟨rfl, rfl⟩
      go_wp2_with fail
      refine R2.out.mono ?_
      rintro e w' ⟨rfl, rfl⟩
      go_wp2
      go_ret
      exact ⟨ret_int (E2.out.trans E.out), rfl⟩
/-- what the halvings of y keep -/
structure HI (x m : Int) (y : Nat) (U T : Int) (V : Nat) : Prop where
  h : (T + U * V) % m = x * y % m
theorem HI.one {x m : Int} {y : Nat} {U T : Int} {V : Nat} (h : HI x m y U T V) (hd : V % 2 = 1) : HI x m y ((U + U) % m) ((T + U) % m) (V / 2) := by
  refine ⟨?_⟩
  rw [← h.h, add_l, ← add_r, mul_l, add_r]
  congr 1
  have : (V : Int) = 2 * ((V / 2 : Nat) : Int) + 1 := by omega
  generalize ((V / 2 : Nat) : Int) = k at *
  rw [this]; grind
theorem HI.zero {x m : Int} {y : Nat} {U T : Int} {V : Nat} (h : HI x m y U T V) (hd : ¬ V % 2 = 1) : HI x m y ((U + U) % m) T (V / 2) := by
  refine ⟨?_⟩
  rw [← h.h, ← add_r, mul_l, add_r]
  congr 1
  have : (V : Int) = 2 * ((V / 2 : Nat) : Int) := by omega
  generalize ((V / 2 : Nat) : Int) = k at *
  rw [this]; grind
set_option maxRecDepth 100000 in
set_option maxHeartbeats 2000000 in
theorem refMul_any (w : World) (a b m : Int) (ha : -9223372036854775808 ≤ a) (ha2 : a ≤ 9223372036854775807) (hb : -9223372036854775808 ≤ b) (hb2 : b ≤ 9223372036854775807) (hm2 : m ≤ 9223372036854775807) :
    Calls Try.prog 34 #[.int .i64 a, .int .i64 b, .int .i64 m] w fun e w' => e = .returned (.int .i64 (gm a b m)) ∧ w' = w := by
  by_cases h : m < 1
  · rw [show gm a b m = 0 by unfold gm; rw [if_pos h]]
    go_enter Try.func34, Try.ntmps34
    go_wp2
    go_ret
    exact ⟨rfl, rfl⟩
  · have hr := rng (f := a) h
    have hs := rng (f := b) h
    have hm0 : (m == 0) = false := beq_eq_false_iff_ne.2 (by omega)
    have E := Lib.hid (show (a % m) * (b % m) % m = gm a b m by unfold gm; rw [if_neg h, mul_l, mul_r])
    have R1 := Lib.hid (refResidue_any w a m ha ha2 (by omega) hm2)
    have R2 := Lib.hid (refResidue_any w b m hb hb2 (by omega) hm2)
    generalize a % m = x at *
    generalize b % m = z at *
    obtain ⟨y, rfl⟩ : ∃ v : Nat, z = v := ⟨z.toNat, by omega⟩
    by_cases hs1 : x < 2147483648 ∧ (y : Int) < 2147483648
    · obtain ⟨hx, hy⟩ := hs1
      have hp : x * y ≤ 2147483647 * 2147483647 := by
        have e1 : x * y ≤ 2147483647 * y := Int.mul_le_mul_of_nonneg_right (by omega) (by omega)
        omega
      have hp0 : 0 ≤ x * y := Int.mul_nonneg hr.1 (by omega)
      have hmod : Int.tmod (x * y) m = x * y % m := Int.tmod_eq_emod_of_nonneg hp0
      have hq := rng (f := x * y) h
      obtain ⟨v, hv⟩ : ∃ v, x * (y : Int) = v := ⟨_, rfl⟩
      rw [hv] at hp hp0 hmod hq E
      obtain ⟨u, hu⟩ : ∃ u, v % m = u := ⟨_, rfl⟩
      rw [hu] at hmod hq E
      have HU := Lib.hid hu
      clear hu
      go_enter Try.func34, Try.ntmps34
      go_wp2_with fail
      refine R1.out.mono ?_
      rintro e w' ⟨rfl, rfl⟩
      go_wp2_with fail
      refine R2.out.mono ?_
      rintro e w' ⟨rfl, rfl⟩
      go_wp2
      go_ret
      exact ⟨ret_int E.out, rfl⟩
    · rcases (show 2147483648 ≤ x ∨ (x < 2147483648 ∧ ¬ (y : Int) < 2147483648) by omega) with hx | ⟨hx, hy⟩
      · have hH := Lib.hid (show HI x m y x 0 y from ⟨by rw [Int.zero_add]⟩)
        go_enter Try.func34, Try.ntmps34
        go_wp2_with fail
        refine R1.out.mono ?_
        rintro e w' ⟨rfl, rfl⟩
        go_wp2_with fail
        refine R2.out.mono ?_
        rintro e w' ⟨rfl, rfl⟩
        go_wp2_with fail
        clear R1 R2
        go_loop [7, 8, 9] (fun u v t => ∃ (U T : Int) (V : Nat), 0 ≤ U ∧ U < m ∧ 0 ≤ T ∧ T < m ∧ V ≤ y ∧ Hid (HI x m y U T V) ∧ u = .int .i64 U ∧ v = .int .i64 V ∧ t = .int .i64 T) (fun _ v _ => (intOf v).toNat)
        case atStart => exact ⟨x, 0, y, hr.1, hr.2, by omega, by omega, Nat.le_refl _, hH, rfl, rfl, rfl⟩
        case round =>
          obtain ⟨U, T, V, hU, hUm, hT, hTm, hV, hP, rfl, rfl, rfl⟩ := hrel
          by_cases h0 : V = 0
          · subst h0
            have hp := Lib.hid (show T = x * y % m by have := hP.out.h; rwa [show U * ((0 : Nat) : Int) = 0 from Int.mul_zero U, Int.add_zero, Int.emod_eq_of_lt hT hTm] at this)
            go_wp2
            go_ret
            exact ⟨ret_int (hp.out.trans E.out), rfl⟩
          · have hdv : Int.tdiv (V : Int) 2 = ((V / 2 : Nat) : Int) := by rw [Int.tdiv_eq_ediv_of_nonneg (by omega)]; omega
            have S2 := Lib.hid (plus_any w' U U m hU hUm hU hUm hm2)
            have r2 := rng (f := U + U) (m := m) (by omega)
            have hV2 : V / 2 ≤ y := by omega
            have hV3 : V / 2 < V := by omega
            by_cases hd : V % 2 = 1
            · have hmd : Int.tmod (V : Int) 2 = 1 := by rw [Int.tmod_eq_emod_of_nonneg (by omega)]; omega
              have S1 := Lib.hid (plus_any w' T U m hT hTm hU hUm hm2)
              have r1 := rng (f := T + U) (m := m) (by omega)
              have hQ := Lib.hid (hP.out.one hd)
              clear hd
              generalize (U + U) % m = U' at *
              generalize (T + U) % m = T' at *
              generalize V / 2 = V' at *
              go_wp2_with fail
              refine S1.out.mono ?_
              rintro e w1 ⟨rfl, rfl⟩
              go_wp2_with fail
              refine S2.out.mono ?_
              rintro e w2 ⟨rfl, rfl⟩
              go_wp2_with fail
              go_round
              case rel => exact ⟨U', T', V', r2.1, r2.2, r1.1, r1.2, hV2, hQ, rfl, rfl, rfl⟩
              case measure => (simp [intOf]; omega)
            · have hmd : Int.tmod (V : Int) 2 = 0 := by rw [Int.tmod_eq_emod_of_nonneg (by omega)]; omega
              have hQ := Lib.hid (hP.out.zero hd)
              clear hd
              generalize (U + U) % m = U' at *
              generalize V / 2 = V' at *
              go_wp2_with fail
              refine S2.out.mono ?_
              rintro e w2 ⟨rfl, rfl⟩
              go_wp2_with fail
              go_round
              case rel => exact ⟨U', T, V', r2.1, r2.2, hT, hTm, hV2, hQ, rfl, rfl, rfl⟩
              case measure => (simp [intOf]; omega)
      · have dx : (x < 2147483648) = True := eq_true hx
        have dy : ((y : Int) < 2147483648) = False := eq_false hy
        clear hx hy hs1
        have hH := Lib.hid (show HI x m y x 0 y from ⟨by rw [Int.zero_add]⟩)
        go_enter Try.func34, Try.ntmps34
        go_wp2_with fail
        refine R1.out.mono ?_
        rintro e w' ⟨rfl, rfl⟩
        go_wp2_with fail
        refine R2.out.mono ?_
        rintro e w' ⟨rfl, rfl⟩
        go_wp2_with fail
        clear R1 R2
        go_loop [7, 8, 9] (fun u v t => ∃ (U T : Int) (V : Nat), 0 ≤ U ∧ U < m ∧ 0 ≤ T ∧ T < m ∧ V ≤ y ∧ Hid (HI x m y U T V) ∧ u = .int .i64 U ∧ v = .int .i64 V ∧ t = .int .i64 T) (fun _ v _ => (intOf v).toNat)
        case atStart => exact ⟨x, 0, y, hr.1, hr.2, by omega, by omega, Nat.le_refl _, hH, rfl, rfl, rfl⟩
        case round =>
          obtain ⟨U, T, V, hU, hUm, hT, hTm, hV, hP, rfl, rfl, rfl⟩ := hrel
          by_cases h0 : V = 0
          · subst h0
            have hp := Lib.hid (show T = x * y % m by have := hP.out.h; rwa [show U * ((0 : Nat) : Int) = 0 from Int.mul_zero U, Int.add_zero, Int.emod_eq_of_lt hT hTm] at this)
            go_wp2
            go_ret
            exact ⟨ret_int (hp.out.trans E.out), rfl⟩
          · have hdv : Int.tdiv (V : Int) 2 = ((V / 2 : Nat) : Int) := by rw [Int.tdiv_eq_ediv_of_nonneg (by omega)]; omega
            have S2 := Lib.hid (plus_any w' U U m hU hUm hU hUm hm2)
            have r2 := rng (f := U + U) (m := m) (by omega)
            have hV2 : V / 2 ≤ y := by omega
            have hV3 : V / 2 < V := by omega
            by_cases hd : V % 2 = 1
            · have hmd : Int.tmod (V : Int) 2 = 1 := by rw [Int.tmod_eq_emod_of_nonneg (by omega)]; omega
              have S1 := Lib.hid (plus_any w' T U m hT hTm hU hUm hm2)
              have r1 := rng (f := T + U) (m := m) (by omega)
              have hQ := Lib.hid (hP.out.one hd)
              clear hd
              generalize (U + U) % m = U' at *
              generalize (T + U) % m = T' at *
              generalize V / 2 = V' at *
              go_wp2_with fail
              refine S1.out.mono ?_
              rintro e w1 ⟨rfl, rfl⟩
              go_wp2_with fail
              refine S2.out.mono ?_
              rintro e w2 ⟨rfl, rfl⟩
              go_wp2_with fail
              go_round
              case rel => exact ⟨U', T', V', r2.1, r2.2, r1.1, r1.2, hV2, hQ, rfl, rfl, rfl⟩
              case measure => (simp [intOf]; omega)
            · have hmd : Int.tmod (V : Int) 2 = 0 := by rw [Int.tmod_eq_emod_of_nonneg (by omega)]; omega
              have hQ := Lib.hid (hP.out.zero hd)
              clear hd
              generalize (U + U) % m = U' at *
              generalize V / 2 = V' at *
              go_wp2_with fail
              refine S2.out.mono ?_
              rintro e w2 ⟨rfl, rfl⟩
              go_wp2_with fail
              go_round
              case rel => exact ⟨U', T, V', r2.1, r2.2, hT, hTm, hV2, hQ, rfl, rfl, rfl⟩
              case measure => (simp [intOf]; omega)
end Go.Proofs.Ytihplnomhfpajaa.G4
