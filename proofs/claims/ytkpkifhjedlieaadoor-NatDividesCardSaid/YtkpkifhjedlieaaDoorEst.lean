/-
  What nat.estimate compares with, and what its loop keeps.
-/
import Derived.Test.YtkpkifhjedlieaaDoorEstM
import Derived.Test.YtkpkifhjedlieaaDoorCmp
namespace Go.Proofs.YtkpkifhjedlieaaDoor
open Go.RowKit NM
/-- where the loop begins: the quotient of the highest two words by the highest one is not below the digit -/
theorem est_start (u2 u1 u0 t nx : Nat) (ht : 0 < t) (h0 : u0 < B64) : (u2 * B64 + u1) * B64 + u0 < ((u2 * B64 + u1) / t + 1) * (t * B64 + nx) := by
  have h1 := Nat.div_add_mod (u2 * B64 + u1) t
  have h2 := Nat.mod_lt (u2 * B64 + u1) ht
  generalize (u2 * B64 + u1) / t = d at *
  generalize (u2 * B64 + u1) % t = r at *
  generalize u2 * B64 + u1 = U at *
  have h3 : U + 1 ≤ (d + 1) * t := by rw [Nat.add_mul, Nat.one_mul, Nat.mul_comm d]; omega
  have h4 : (U + 1) * B64 ≤ (d + 1) * t * B64 := Nat.mul_le_mul_right _ h3
  rw [Nat.mul_add, ← Nat.mul_assoc]
  rw [Nat.add_mul, Nat.one_mul] at h4
  omega
/-- the test of the next word -/
theorem est_test (U u0 t nx d l : Nat) (hU : U = d * t + l) : d * (t * B64 + nx) ≤ U * B64 + u0 ↔ d * nx ≤ l * B64 + u0 := by
  rw [hU, Nat.mul_add, Nat.add_mul, ← Nat.mul_assoc]
  omega
def cmp64 (x y : Nat) : Int := if x < y then -1 else if y < x then 1 else 0
set_option maxHeartbeats 1000000 in
theorem Compare_any (x y : Nat) (w : World) :
    Calls Tryd.prog 72 #[.int .u64 x, .int .u64 y] w fun e w' => e = .returned (.int .i64 (cmp64 x y)) ∧ w = w' := by
  rcases Nat.lt_trichotomy x y with h | h | h
  · have hr : cmp64 x y = -1 := by unfold cmp64; rw [if_pos h]
    have HR := Lib.hid hr; clear hr
    go_enter Tryd.func72, Tryd.ntmps72
    go_wp2
    go_ret
    exact ⟨by rw [HR.out]; rfl, rfl⟩
  · subst h
    have hr : cmp64 x x = 0 := by unfold cmp64; rw [if_neg (by omega), if_neg (by omega)]
    have HR := Lib.hid hr; clear hr
    go_enter Tryd.func72, Tryd.ntmps72
    go_wp2
    go_ret
    exact ⟨by rw [HR.out]; rfl, rfl⟩
  · have hn : ¬ x < y := by omega
    have hr : cmp64 x y = 1 := by unfold cmp64; rw [if_neg (by omega), if_pos h]
    have HR := Lib.hid hr; clear hr
    go_enter Tryd.func72, Tryd.ntmps72
    go_wp2
    go_ret
    exact ⟨by rw [HR.out]; rfl, rfl⟩
/-- what estimate answers: u2, u1, u0 the highest words of the part, t, nx those of the divisor -/
def EstQ (u2 u1 u0 t nx : Nat) (w : World) (e : Ending) (w' : World) : Prop :=
  ∃ d : Nat, e = .returned (.int .u64 (d : Nat)) ∧ Quiet w w' ∧ d < B64 ∧ (t ≤ u2 → d = B64 - 1) ∧ (u2 < t → d * (t * B64 + nx) ≤ (u2 * B64 + u1) * B64 + u0 ∧ (u2 * B64 + u1) * B64 + u0 < (d + 1) * (t * B64 + nx))
end Go.Proofs.YtkpkifhjedlieaaDoor
