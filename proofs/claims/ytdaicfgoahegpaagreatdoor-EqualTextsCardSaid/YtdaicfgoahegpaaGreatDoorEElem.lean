/-
  The walks of the reference's Exponent and Element.
-/
import Derived.Test.YtdaicfgoahegpaaGreatDoorEVer
import Derived.Test.YtdaicfgoahegpaaGreatDoorGRefA
namespace Go.Proofs.YtdaicfgoahegpaaGreatDoor.E6
open Go.RowKit GM SH G4
theorem refExponent_any (w : World) (s : Int) (_h : i64 s) :
    Calls Tryz.prog 12 #[.int .i64 s] w fun e w' => e = .returned (.int .i64 (ex s)) ∧ w' = w := by
  have E0 := ex_mod s
  have h1 : -1152921504606845789 < Int.tmod s 1152921504606845789 := by
    have := Int.lt_tmod_of_pos s (show (0 : Int) < 1152921504606845789 by decide); omega
  have h2 : Int.tmod s 1152921504606845789 < 1152921504606845789 := Int.tmod_lt_of_pos s (by decide)
  by_cases h : Int.tmod s 1152921504606845789 < 0
  · have e := res_lo s 1152921504606845789 (by decide) h
    obtain ⟨r, hr⟩ : ∃ r, Int.tmod s 1152921504606845789 = r := ⟨_, rfl⟩
    rw [hr] at e
    have E := Lib.hid (e.trans E0.symm); clear e E0
    rw [hr] at h h1 h2
    go_enter Tryz.func12, Tryz.ntmps12
    go_wp2
    go_ret
    exact ⟨ret_int E.out, rfl⟩
  · have e := res_hi s 1152921504606845789 (by decide) h
    obtain ⟨r, hr⟩ : ∃ r, Int.tmod s 1152921504606845789 = r := ⟨_, rfl⟩
    rw [hr] at e
    have E := Lib.hid (e.trans E0.symm); clear e E0
    rw [hr] at h h1 h2
    go_enter Tryz.func12, Tryz.ntmps12
    go_wp2
    go_ret
    exact ⟨ret_int E.out, rfl⟩
theorem refElement_any (w : World) (n : Int) (h : i64 n) :
    Calls Tryz.prog 9 #[.int .i64 n] w fun e w' => e = .returned (.int .i64 (em n)) ∧ w' = w := by
  have x0 := ex_rng n
  have R1 := Lib.hid (refExponent_any w n h)
  have R2 := Lib.hid (refMul_any w (ex n + 1) (ex n + 1) 2305843009213691579 (by omega) (by omega) (by omega) (by omega) (by decide))
  have E := Lib.hid (show em n = gm (ex n + 1) (ex n + 1) 2305843009213691579 from rfl)
  rw [← E.out] at R2
  generalize em n = v at *
  clear E
  generalize ex n = x at *
  have hmod : Int.tmod x 2305843009213691578 = x := by rw [Int.tmod_eq_emod_of_nonneg x0.1, Int.emod_eq_of_lt x0.1 (by omega)]
  go_enter Tryz.func9, Tryz.ntmps9
  go_wp2_with fail
  refine R1.out.mono ?_
  rintro e w1 ⟨rfl, rfl⟩
  go_wp2_with fail
  refine R2.out.mono ?_
  rintro e w2 ⟨rfl, rfl⟩
  go_wp2
  go_ret
  exact ⟨rfl, rfl⟩
end Go.Proofs.YtdaicfgoahegpaaGreatDoor.E6
