/-
  The walks of group.residue, group.sum, group.product, group.Add, group.Sub and group.Mul.
-/
import Derived.Test.YtjfbpmpdcmealaaGreatDoorChecked
import Derived.Test.YtjfbpmpdcmealaaGreatDoorGMath
import Derived.WalkKit
import Derived.WalkSpells
import Derived.WalkLawsBesides
import Derived.Handy
import Derived.Outline
import Derived.Lib.Hide
import Derived.Laws.Externs
import Derived.Lib.BitFns
import Derived.Lib.RabinKarpLaws
import Derived.Test.YtjfbpmpdcmealaaGreatDoorShelf
namespace Go.Proofs.YtjfbpmpdcmealaaGreatDoor.G4
open Go.RowKit GM
/-- nothing changes but the count of draws -/
structure Quiet (w w' : World) : Prop where
  os : w'.os = w.os
  tape : w'.tape = w.tape
  output : w'.output = w.output
  heap : w'.heap = w.heap
theorem Quiet.refl (w : World) : Quiet w w := ⟨rfl, rfl, rfl, rfl⟩
theorem Quiet.drew {u w : World} (h : Quiet u w) : Quiet u w.drew := ⟨h.os, h.tape, h.output, h.heap⟩
theorem Quiet.trans {u v w : World} (h : Quiet u v) (k : Quiet v w) : Quiet u w := ⟨k.os.trans h.os, k.tape.trans h.tape, k.output.trans h.output, k.heap.trans h.heap⟩
theorem ret_int {k : IntKind} {a b : Int} (h : a = b) : Ending.returned (.int k a) = .returned (.int k b) := by rw [h]
theorem residue_any (w : World) (a m : Int) (_ha : -9223372036854775808 ≤ a) (_hb : a ≤ 9223372036854775807) (hm : 1 ≤ m) (hm2 : m ≤ 9223372036854775807) :
    Calls Tryz.prog 94 #[.int .i64 a, .int .i64 m] w fun e w' => e = .returned (.int .i64 (a % m)) ∧ w' = w := by
  have hm0 : (m == 0) = false := beq_eq_false_iff_ne.2 (by omega)
  have h1 : -m < Int.tmod a m := by
    have := Int.lt_tmod_of_pos a (show 0 < m by omega); omega
  have h2 : Int.tmod a m < m := Int.tmod_lt_of_pos a (by omega)
  by_cases h : Int.tmod a m < 0
  · have e := res_lo a m (by omega) h
    obtain ⟨r, hr⟩ : ∃ r, Int.tmod a m = r := ⟨_, rfl⟩
    rw [hr] at e
    have E := Lib.hid e; clear e
    rw [hr] at h h1 h2
    go_enter Tryz.func94, Tryz.ntmps94
    go_wp2
    go_ret
    exact ⟨ret_int E.out, rfl⟩
  · have e := res_hi a m (by omega) h
    obtain ⟨r, hr⟩ : ∃ r, Int.tmod a m = r := ⟨_, rfl⟩
    rw [hr] at e
    have E := Lib.hid e; clear e
    rw [hr] at h h1 h2
    go_enter Tryz.func94, Tryz.ntmps94
    go_wp2
    go_ret
    exact ⟨ret_int E.out, rfl⟩
theorem sum_any (w : World) (x y m : Int) (hx : 0 ≤ x) (hxm : x < m) (hy : 0 ≤ y) (hym : y < m) (hm2 : m ≤ 9223372036854775807) :
    Calls Tryz.prog 93 #[.int .i64 x, .int .i64 y, .int .i64 m] w fun e w' => e = .returned (.int .i64 ((x + y) % m)) ∧ w' = w := by
  by_cases h : x - m + y < 0
  · have E := Lib.hid (sum_lo x y m hx hy h)
    go_enter Tryz.func93, Tryz.ntmps93
    go_wp2
    go_ret
    exact ⟨ret_int E.out, rfl⟩
  · have E := Lib.hid (sum_hi x y m hxm hym h)
    go_enter Tryz.func93, Tryz.ntmps93
    go_wp2
    go_ret
    exact ⟨ret_int E.out, rfl⟩
theorem Add_any (w : World) (a b m : Int) (ha : -9223372036854775808 ≤ a) (ha2 : a ≤ 9223372036854775807) (hb : -9223372036854775808 ≤ b) (hb2 : b ≤ 9223372036854775807) (hm2 : m ≤ 9223372036854775807) :
    Calls Tryz.prog 65 #[.int .i64 a, .int .i64 b, .int .i64 m] w fun e w' => e = .returned (.int .i64 (ga a b m)) ∧ w' = w := by
  by_cases h : m < 1
  · rw [show ga a b m = 0 by unfold ga; rw [if_pos h]]
    go_enter Tryz.func65, Tryz.ntmps65
    go_wp2
    go_ret
    exact ⟨rfl, rfl⟩
  · have hr := rng (f := a) h
    have hs := rng (f := b) h
    have E := Lib.hid (show (a % m + b % m) % m = ga a b m by unfold ga; rw [if_neg h, add_l, add_r])
    have R1 := Lib.hid (residue_any w a m ha ha2 (by omega) hm2)
    have R2 := Lib.hid (residue_any w b m hb hb2 (by omega) hm2)
    have R3 := Lib.hid (sum_any w (a % m) (b % m) m hr.1 hr.2 hs.1 hs.2 hm2)
    generalize a % m = x at *
    generalize b % m = y at *
    go_enter Tryz.func65, Tryz.ntmps65
    go_wp2_with fail
    refine R1.out.mono ?_
    rintro e w' ⟨rfl, rfl⟩
    go_wp2_with fail
    refine R2.out.mono ?_
    rintro e w' ⟨rfl, rfl⟩
    go_wp2_with fail
    refine R3.out.mono ?_
    rintro e w' ⟨rfl, rfl⟩
    go_wp2
    go_ret
    exact ⟨ret_int E.out, rfl⟩
theorem lt_bitLen (f : Nat) : ∀ x, x < 2^f → x < 2^(Lib.bitLenAux f x) := by
  induction f with
  | zero => intro x h; simpa [Lib.bitLenAux] using h
  | succ f ih =>
    intro x h
    unfold Lib.bitLenAux
    split
    · simp; omega
    · have := ih (x / 2) (by rw [Nat.pow_succ] at h; omega)
      rw [Nat.add_comm, Nat.pow_succ]; omega
theorem mod_bitLen (x : Nat) (h : x < 2^64) : x % 2^(Lib.bitLen x) = x := Nat.mod_eq_of_lt (lt_bitLen 64 x h)
def intOf : Value → Int | .int _ i => i | _ => 0
theorem dig_int (y k : Nat) (hy : y < 9223372036854775808) : (bits BinOp.and IntKind.i64 ((y : Int) / 2^k) 1 == 1) = decide (y / 2^k % 2 = 1) := by
  have e : (y : Int) / 2^k = ((y / 2^k : Nat) : Int) := by rw [Int.natCast_ediv, Int.natCast_pow]; rfl
  have h : y / 2^k < 9223372036854775808 := Nat.lt_of_le_of_lt (Nat.div_le_self _ _) hy
  rw [e, Go.Proofs.and_one _ h]
  rcases Nat.mod_two_eq_zero_or_one (y / 2^k) with h | h <;> rw [h] <;> decide
structure PI (x m : Int) (y k : Nat) (U T : Int) : Prop where
  u : U = x * ((2^k : Nat) : Int) % m
  t : T = x * ((y % 2^k : Nat) : Int) % m
theorem PI.one {x m : Int} {y k : Nat} {U T : Int} (h : PI x m y k U T) (hd : y / 2^k % 2 = 1) : PI x m y (k+1) ((U + U) % m) ((T + U) % m) :=
  ⟨by rw [h.u, double_step], by rw [h.u, h.t, total_step x m y k hd]⟩
theorem PI.zero {x m : Int} {y k : Nat} {U T : Int} (h : PI x m y k U T) (hd : ¬ y / 2^k % 2 = 1) : PI x m y (k+1) ((U + U) % m) ((T + 0) % m) :=
  ⟨by rw [h.u, double_step], by rw [h.t, total_stay x m y k hd]⟩
set_option maxHeartbeats 1000000 in
theorem product_any (w : World) (x m : Int) (y : Nat) (hx : 0 ≤ x) (hxm : x < m) (hym : (y : Int) < m) (hm2 : m ≤ 9223372036854775807) :
    Calls Tryz.prog 95 #[.int .i64 x, .int .i64 (y : Int), .int .i64 m] w fun e w' => e = .returned (.int .i64 (x * y % m)) ∧ w' = w := by
  have hB := Lib.hid (mod_bitLen y (by omega))
  have hL := Lib.bitLen_le y 64 (by omega) (by omega)
  have R1 := Tryz.bits_Len (y : Int) w (by omega) (by omega)
  rw [Int.toNat_natCast] at R1
  generalize Lib.bitLen y = n at *
  replace R1 := Lib.hid R1
  go_enter Tryz.func95, Tryz.ntmps95
  go_wp2_with fail
  refine R1.out.mono ?_
  rintro e w' ⟨rfl, rfl⟩
  clear R1
  go_wp2_with fail
  go_loop [0, 7, 13] (fun u t i => ∃ (k : Nat) (U T : Int), k ≤ n ∧ 0 ≤ U ∧ U < m ∧ 0 ≤ T ∧ T < m ∧ Hid (PI x m y k U T) ∧ u = .int .i64 U ∧ t = .int .i64 T ∧ i = .int .i64 k) (fun _ _ i => n - (intOf i).toNat)
  case atStart => exact ⟨0, x, 0, Nat.zero_le _, hx, hxm, by omega, by omega, Lib.hid ⟨by simp [Int.emod_eq_of_lt hx hxm], by simp [Nat.mod_one]⟩, rfl, rfl, rfl⟩
  case round =>
    obtain ⟨k, U, T, hk, hU, hUm, hT, hTm, hP, rfl, rfl, rfl⟩ := hrel
    by_cases hkn : k < n
    · have S2 := Lib.hid (sum_any w' U U m hU hUm hU hUm hm2)
      have r2 := rng (f := U + U) (m := m) (by omega)
      by_cases hd : y / 2^k % 2 = 1
      · have hb := (dig_int y k (by omega)).trans (decide_eq_true hd)
        have S1 := Lib.hid (sum_any w' T U m hT hTm hU hUm hm2)
        have r1 := rng (f := T + U) (m := m) (by omega)
        have hQ := Lib.hid (hP.out.one hd)
        clear hd
        generalize (U + U) % m = U' at *
        generalize (T + U) % m = T' at *
        go_wp2_with fail
        refine S1.out.mono ?_
        rintro e w1 ⟨rfl, rfl⟩
        go_wp2_with fail
        refine S2.out.mono ?_
        rintro e w2 ⟨rfl, rfl⟩
        go_wp2_with fail
        go_round
        case rel => exact ⟨k + 1, U', T', by omega, r2.1, r2.2, r1.1, r1.2, hQ, rfl, rfl, by go_num⟩
        case measure => (simp [intOf]; omega)
      · have hb := (dig_int y k (by omega)).trans (decide_eq_false hd)
        have S1 := Lib.hid (sum_any w' T 0 m hT hTm (by omega) (by omega) hm2)
        have r1 := rng (f := T + 0) (m := m) (by omega)
        have hQ := Lib.hid (hP.out.zero hd)
        clear hd
        generalize (U + U) % m = U' at *
        generalize (T + 0) % m = T' at *
        go_wp2_with fail
        refine S1.out.mono ?_
        rintro e w1 ⟨rfl, rfl⟩
        go_wp2_with fail
        refine S2.out.mono ?_
        rintro e w2 ⟨rfl, rfl⟩
        go_wp2_with fail
        go_round
        case rel => exact ⟨k + 1, U', T', by omega, r2.1, r2.2, r1.1, r1.2, hQ, rfl, rfl, by go_num⟩
        case measure => (simp [intOf]; omega)
    · obtain rfl : k = n := by omega
      go_wp2
      go_ret
      exact ⟨ret_int (by rw [hP.out.t, hB.out]), rfl⟩
theorem Mul_any (w : World) (a b m : Int) (ha : -9223372036854775808 ≤ a) (ha2 : a ≤ 9223372036854775807) (hb : -9223372036854775808 ≤ b) (hb2 : b ≤ 9223372036854775807) (hm2 : m ≤ 9223372036854775807) :
    Calls Tryz.prog 66 #[.int .i64 a, .int .i64 b, .int .i64 m] w fun e w' => e = .returned (.int .i64 (gm a b m)) ∧ w' = w := by
  by_cases h : m < 1
  · rw [show gm a b m = 0 by unfold gm; rw [if_pos h]]
    go_enter Tryz.func66, Tryz.ntmps66
    go_wp2
    go_ret
    exact ⟨rfl, rfl⟩
  · have hr := rng (f := a) h
    have hs := rng (f := b) h
    have E := Lib.hid (show (a % m) * (b % m) % m = gm a b m by unfold gm; rw [if_neg h, mul_l, mul_r])
    have R1 := Lib.hid (residue_any w a m ha ha2 (by omega) hm2)
    have R2 := Lib.hid (residue_any w b m hb hb2 (by omega) hm2)
    generalize a % m = x at *
    generalize b % m = y at *
    obtain ⟨v, rfl⟩ : ∃ v : Nat, y = v := ⟨y.toNat, by omega⟩
    have R3 := Lib.hid (product_any w x m v hr.1 hr.2 hs.2 hm2)
    go_enter Tryz.func66, Tryz.ntmps66
    go_wp2_with fail
    refine R1.out.mono ?_
    rintro e w' ⟨rfl, rfl⟩
    go_wp2_with fail
    refine R2.out.mono ?_
    rintro e w' ⟨rfl, rfl⟩
    go_wp2_with fail
    refine R3.out.mono ?_
    rintro e w' ⟨rfl, rfl⟩
    go_wp2
    go_ret
    exact ⟨ret_int E.out, rfl⟩
end Go.Proofs.YtjfbpmpdcmealaaGreatDoor.G4
