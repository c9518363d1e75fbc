/-
  The walks of bits.RotateLeft32 and of both packages' rot.
-/
import Derived.Test.YtjfbpmpdcmealaaDoorChecked
import Derived.Test.YtjfbpmpdcmealaaDoorShaMath
import Derived.WalkKit
import Derived.WalkSpells
import Derived.WalkLawsBesides
import Derived.Handy
import Derived.Outline
import Derived.Lib.Hide
import Derived.Laws.Rows
import Derived.Laws.Tables
import Derived.Laws.Externs
import Derived.Laws.BitsAllLaws
namespace Go.Proofs.YtjfbpmpdcmealaaDoor
open Go.RowKit SH
abbrev wd (x : Nat) : Value := .int .u32 (x : Nat)
theorem and31 : ∀ n : Nat, n < 32 → 1 ≤ n → bits .and .u64 (IntKind.u64.wrap (-(n : Int))) 31 = ((32 - n : Nat) : Int) := by decide
theorem ret_rot {x n s : Nat} (hx : x < M) (hs : 32 - n = s) (h2 : n ≤ 31) : Ending.returned (.int .u32 (bits .or .u32 ((x : Int) * 2 ^ s % 4294967296) ((x : Int) / 2 ^ (32 - s)))) = .returned (wd (rr x n)) := by
  have e1 : (x : Int) * 2 ^ s % 4294967296 = ((x * 2 ^ s % M : Nat) : Int) := by unfold M; simp
  have e2 : (x : Int) / 2 ^ (32 - s) = ((x / 2 ^ (32 - s) : Nat) : Int) := by simp
  rw [e1, e2, u32_or_nat _ _ (Nat.mod_lt _ (by decide)) (Nat.lt_of_le_of_lt (Nat.div_le_self _ _) hx), Nat.or_comm]
  unfold rr wd
  rw [hs, show 32 - s = n by omega]
theorem ret_rot2 {x n s : Nat} (hx : x < M) (hs : 32 - n = s) (_h2 : n ≤ 31) : Ending.returned (.int .u32 (bits .or .u32 ((x : Int) / 2 ^ n) ((x : Int) * 2 ^ s % 4294967296))) = .returned (wd (rr x n)) := by
  have e1 : (x : Int) * 2 ^ s % 4294967296 = ((x * 2 ^ s % M : Nat) : Int) := by unfold M; simp
  have e2 : (x : Int) / 2 ^ n = ((x / 2 ^ n : Nat) : Int) := by simp
  rw [e1, e2, u32_or_nat _ _ (Nat.lt_of_le_of_lt (Nat.div_le_self _ _) hx) (Nat.mod_lt _ (by decide))]
  unfold rr wd
  rw [hs]
theorem RotateLeft32_any (w : World) (x : Nat) (n : Nat) (hx : x < M) (h1 : 1 ≤ n) (h2 : n ≤ 31) :
    Calls Tryd.prog 73 #[.int .u32 (x : Nat), .int .i64 (-(n : Int))] w fun e w' => e = .returned (wd (rr x n)) ∧ w' = w := by
  have ha := and31 n (by omega) h1
  obtain ⟨s, hs⟩ : ∃ s, 32 - n = s := ⟨_, rfl⟩
  rw [hs] at ha
  have hs1 : s ≤ 31 := by omega
  have HX := Lib.hid hx; clear hx
  have HS := Lib.hid hs; clear hs
  have hw : IntKind.u64.wrap (32 - (s : Int)) = ((32 - s : Nat) : Int) := by rw [IntKind.wrap_u64]; omega
  go_enter Tryd.func73, Tryd.ntmps73
  go_wp2
  go_ret
  exact ⟨ret_rot HX.out HS.out h2, rfl⟩
theorem rot_any (w : World) (x : Nat) (n : Nat) (i : Int) (hi : i = (n : Nat)) (hx : x < M) (h1 : 1 ≤ n) (h2 : n ≤ 31) :
    Calls Tryd.prog 67 #[.int .u32 (x : Nat), .int .i64 i] w fun e w' => e = .returned (wd (rr x n)) ∧ w' = w := by
  subst hi
  have hc := RotateLeft32_any w x n hx h1 h2
  have hw : IntKind.i64.wrap (-(n : Int)) = -(n : Int) := by simp [IntKind.wrap, IntKind.bits, IntKind.signed]; omega
  go_enter Tryd.func67, Tryd.ntmps67
  go_wp2_with fail
  go_must (go_fit hc)
  rintro e w' ⟨rfl, rfl⟩
  go_wp2
  go_ret
  exact ⟨rfl, rfl⟩
end Go.Proofs.YtjfbpmpdcmealaaDoor
