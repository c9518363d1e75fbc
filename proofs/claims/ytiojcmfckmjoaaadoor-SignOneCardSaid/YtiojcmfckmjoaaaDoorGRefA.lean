/-
  The walks of the reference's Residue, plus, Add, Sub and Mul.
-/
import Derived.Test.YtiojcmfckmjoaaaDoorGSan
namespace Go.Proofs.YtiojcmfckmjoaaaDoor.G4
open Go.RowKit GM
theorem refResidue_any (w : World) (a m : Int) (_ha : -9223372036854775808 ≤ a) (_hb : a ≤ 9223372036854775807) (hm : 1 ≤ m) (hm2 : m ≤ 9223372036854775807) :
    Calls Tryd.prog 25 #[.int .i64 a, .int .i64 m] w fun e w' => e = .returned (.int .i64 (a % m)) ∧ w' = w := by
  have hm0 : (m == 0) = false := beq_eq_false_iff_ne.2 (by omega)
  have h1 : -m < Int.tmod a m := by
    have := Int.lt_tmod_of_pos a (show 0 < m by omega); omega
  have h2 : Int.tmod a m < m := Int.tmod_lt_of_pos a (by omega)
  by_cases h : Int.tmod a m < 0
  · have e := res_lo a m (by omega) h
    obtain ⟨r, hr⟩ : ∃ r, Int.tmod a m = r := ⟨_, rfl⟩
    rw [hr] at e
    have E := Lib.hid e; clear e
    rw [hr] at h h1 h2
    go_enter Tryd.func25, Tryd.ntmps25
    go_wp2
    go_ret
    exact ⟨ret_int E.out, rfl⟩
  · have e := res_hi a m (by omega) h
    obtain ⟨r, hr⟩ : ∃ r, Int.tmod a m = r := ⟨_, rfl⟩
    rw [hr] at e
    have E := Lib.hid e; clear e
    rw [hr] at h h1 h2
    go_enter Tryd.func25, Tryd.ntmps25
    go_wp2
    go_ret
    exact ⟨ret_int E.out, rfl⟩
theorem plus_hi (x y m : Int) (hxm : x < m) (hym : y < m) (h : m - y ≤ x) : x - (m - y) = (x + y) % m := by
  have : (x + y) % m = (x + y - m) % m := (Int.sub_emod_right (x + y) m).symm
  rw [this, Int.emod_eq_of_lt (by omega) (by omega)]; omega
theorem plus_lo (x y m : Int) (hx : 0 ≤ x) (hy : 0 ≤ y) (h : ¬ m - y ≤ x) : x + y = (x + y) % m := by
  rw [Int.emod_eq_of_lt (by omega) (by omega)]
theorem plus_any (w : World) (x y m : Int) (hx : 0 ≤ x) (hxm : x < m) (hy : 0 ≤ y) (hym : y < m) (hm2 : m ≤ 9223372036854775807) :
    Calls Tryd.prog 24 #[.int .i64 x, .int .i64 y, .int .i64 m] w fun e w' => e = .returned (.int .i64 ((x + y) % m)) ∧ w' = w := by
  by_cases h : m - y ≤ x
  · have E := Lib.hid (plus_hi x y m hxm hym h)
    go_enter Tryd.func24, Tryd.ntmps24
    go_wp2
    go_ret
    exact ⟨ret_int E.out, rfl⟩
  · have E := Lib.hid (plus_lo x y m hx hy h)
    go_enter Tryd.func24, Tryd.ntmps24
    go_wp2
    go_ret
    exact ⟨ret_int E.out, rfl⟩
theorem refAdd_any (w : World) (a b m : Int) (ha : -9223372036854775808 ≤ a) (ha2 : a ≤ 9223372036854775807) (hb : -9223372036854775808 ≤ b) (hb2 : b ≤ 9223372036854775807) (hm2 : m ≤ 9223372036854775807) :
    Calls Tryd.prog 10 #[.int .i64 a, .int .i64 b, .int .i64 m] w fun e w' => e = .returned (.int .i64 (ga a b m)) ∧ w' = w := by
  by_cases h : m < 1
  · rw [show ga a b m = 0 by unfold ga; rw [if_pos h]]
    go_enter Tryd.func10, Tryd.ntmps10
    go_wp2
    go_ret
    exact ⟨rfl, rfl⟩
  · have hr := rng (f := a) h
    have hs := rng (f := b) h
    have E := Lib.hid (show (a % m + b % m) % m = ga a b m by unfold ga; rw [if_neg h, add_l, add_r])
    have R1 := Lib.hid (refResidue_any w a m ha ha2 (by omega) hm2)
    have R2 := Lib.hid (refResidue_any w b m hb hb2 (by omega) hm2)
    have R3 := Lib.hid (plus_any w (a % m) (b % m) m hr.1 hr.2 hs.1 hs.2 hm2)
    generalize a % m = x at *
    generalize b % m = y at *
    go_enter Tryd.func10, Tryd.ntmps10
    go_wp2_with fail
    refine R1.out.mono ?_
    rintro e w' ⟨rfl, rfl⟩
    go_wp2_with fail
    refine R2.out.mono ?_
    rintro e w' ⟨rfl, rfl⟩
    go_wp2_with fail
    refine R3.out.mono ?_
    rintro e w' ⟨rfl, rfl⟩
    go_wp2
    go_ret
    exact ⟨ret_int E.out, rfl⟩
theorem minus_lo (x y m : Int) (hx : 0 ≤ x) (hym : y < m) (h : x < y) : x + (m - y) = (x - y) % m := by
  have : (x - y) % m = (x - y + m) % m := (Int.add_emod_right (x - y) m).symm
  rw [this, Int.emod_eq_of_lt (by omega) (by omega)]; omega
theorem minus_hi (x y m : Int) (hxm : x < m) (hy : 0 ≤ y) (h : ¬ x < y) : x - y = (x - y) % m := by
  rw [Int.emod_eq_of_lt (by omega) (by omega)]
/-- what the halvings of y keep -/
structure HI (x m : Int) (y : Nat) (U T : Int) (V : Nat) : Prop where
  h : (T + U * V) % m = x * y % m
theorem HI.one {x m : Int} {y : Nat} {U T : Int} {V : Nat} (h : HI x m y U T V) (hd : V % 2 = 1) : HI x m y ((U + U) % m) ((T + U) % m) (V / 2) := by
  refine ⟨?_⟩
  rw [← h.h, add_l, ← add_r, mul_l, add_r]
  congr 1
  have : (V : Int) = 2 * ((V / 2 : Nat) : Int) + 1 := by omega
  generalize ((V / 2 : Nat) : Int) = k at *
  rw [this]; grind
theorem HI.zero {x m : Int} {y : Nat} {U T : Int} {V : Nat} (h : HI x m y U T V) (hd : ¬ V % 2 = 1) : HI x m y ((U + U) % m) T (V / 2) := by
  refine ⟨?_⟩
  rw [← h.h, ← add_r, mul_l, add_r]
  congr 1
  have : (V : Int) = 2 * ((V / 2 : Nat) : Int) := by omega
  generalize ((V / 2 : Nat) : Int) = k at *
  rw [this]; grind
end Go.Proofs.YtiojcmfckmjoaaaDoor.G4
