/-
  The walks of the reference's Exponent and Element.
-/
import Derived.Test.YtbfplapjjeeceaaGreatDoorEVer
import Derived.Test.YtbfplapjjeeceaaGreatDoorGRefB
namespace Go.Proofs.YtbfplapjjeeceaaGreatDoor.E6
open Go.RowKit GM SH G4
theorem refExponent_any (w : World) (s : Int) (_h : i64 s) :
    Calls Tryz.prog 11 #[.int .i64 s] w fun e w' => e = .returned (.int .i64 (ex s)) ∧ w' = w := by
  have E0 := ex_mod s
  have h1 : -1152921504606845789 < Int.tmod s 1152921504606845789 := by
    have := Int.lt_tmod_of_pos s (show (0 : Int) < 1152921504606845789 by decide); omega
  have h2 : Int.tmod s 1152921504606845789 < 1152921504606845789 := Int.tmod_lt_of_pos s (by decide)
  by_cases h : Int.tmod s 1152921504606845789 < 0
  · have e := res_lo s 1152921504606845789 (by decide) h
    obtain ⟨r, hr⟩ : ∃ r, Int.tmod s 1152921504606845789 = r := ⟨_, rfl⟩
    rw [hr] at e
    have E := Lib.hid (e.trans E0.symm); clear e E0
    rw [hr] at h h1 h2
    go_enter Tryz.func11, Tryz.ntmps11
    go_wp2
    go_ret
    exact ⟨ret_int E.out, rfl⟩
  · have e := res_hi s 1152921504606845789 (by decide) h
    obtain ⟨r, hr⟩ : ∃ r, Int.tmod s 1152921504606845789 = r := ⟨_, rfl⟩
    rw [hr] at e
    have E := Lib.hid (e.trans E0.symm); clear e E0
    rw [hr] at h h1 h2
    go_enter Tryz.func11, Tryz.ntmps11
    go_wp2
    go_ret
    exact ⟨ret_int E.out, rfl⟩
end Go.Proofs.YtbfplapjjeeceaaGreatDoor.E6
