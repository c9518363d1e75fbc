/-
  The walks of group.residue, group.sum, group.product, group.Add, group.Sub and group.Mul.
  The walk of group.Inv.
  The walks of group.Pow and of its closure, and of group.Member.
-/
import Derived.Test.YtbfplapjjeeceaaGreatDoorChecked
import Derived.Test.YtbfplapjjeeceaaGreatDoorGMath
import Derived.WalkKit
import Derived.WalkSpells
import Derived.WalkLawsBesides
import Derived.Handy
import Derived.Outline
import Derived.Lib.Hide
import Derived.Laws.Externs
import Derived.Lib.BitFns
import Derived.Lib.RabinKarpLaws
import Derived.Test.YtbfplapjjeeceaaGreatDoorShelf
import Derived.Deep.RegionHeld3
namespace Go.Proofs.YtbfplapjjeeceaaGreatDoor.G4
open Go.RowKit GM
/-- nothing changes but the count of draws -/
structure Quiet (w w' : World) : Prop where
  os : w'.os = w.os
  tape : w'.tape = w.tape
  output : w'.output = w.output
  heap : w'.heap = w.heap
theorem Quiet.refl (w : World) : Quiet w w := ⟨rfl, rfl, rfl, rfl⟩
theorem Quiet.drew {u w : World} (h : Quiet u w) : Quiet u w.drew := ⟨h.os, h.tape, h.output, h.heap⟩
theorem Quiet.trans {u v w : World} (h : Quiet u v) (k : Quiet v w) : Quiet u w := ⟨k.os.trans h.os, k.tape.trans h.tape, k.output.trans h.output, k.heap.trans h.heap⟩
theorem ret_int {k : IntKind} {a b : Int} (h : a = b) : Ending.returned (.int k a) = .returned (.int k b) := by rw [h]
theorem residue_any (w : World) (a m : Int) (_ha : -9223372036854775808 ≤ a) (_hb : a ≤ 9223372036854775807) (hm : 1 ≤ m) (hm2 : m ≤ 9223372036854775807) :
    Calls Tryz.prog 52 #[.int .i64 a, .int .i64 m] w fun e w' => e = .returned (.int .i64 (a % m)) ∧ w' = w := by
  have hm0 : (m == 0) = false := beq_eq_false_iff_ne.2 (by omega)
  have h1 : -m < Int.tmod a m := by
    have := Int.lt_tmod_of_pos a (show 0 < m by omega); omega
  have h2 : Int.tmod a m < m := Int.tmod_lt_of_pos a (by omega)
  by_cases h : Int.tmod a m < 0
  · have e := res_lo a m (by omega) h
    obtain ⟨r, hr⟩ : ∃ r, Int.tmod a m = r := ⟨_, rfl⟩
    rw [hr] at e
    have E := Lib.hid e; clear e
    rw [hr] at h h1 h2
    go_enter Tryz.func52, Tryz.ntmps52
    go_wp2
    go_ret
    exact ⟨ret_int E.out, rfl⟩
  · have e := res_hi a m (by omega) h
    obtain ⟨r, hr⟩ : ∃ r, Int.tmod a m = r := ⟨_, rfl⟩
    rw [hr] at e
    have E := Lib.hid e; clear e
    rw [hr] at h h1 h2
    go_enter Tryz.func52, Tryz.ntmps52
    go_wp2
    go_ret
    exact ⟨ret_int E.out, rfl⟩
theorem sum_any (w : World) (x y m : Int) (hx : 0 ≤ x) (hxm : x < m) (hy : 0 ≤ y) (hym : y < m) (hm2 : m ≤ 9223372036854775807) :
    Calls Tryz.prog 90 #[.int .i64 x, .int .i64 y, .int .i64 m] w fun e w' => e = .returned (.int .i64 ((x + y) % m)) ∧ w' = w := by
  by_cases h : x - m + y < 0
  · have E := Lib.hid (sum_lo x y m hx hy h)
    go_enter Tryz.func90, Tryz.ntmps90
    go_wp2
    go_ret
    exact ⟨ret_int E.out, rfl⟩
  · have E := Lib.hid (sum_hi x y m hxm hym h)
    go_enter Tryz.func90, Tryz.ntmps90
    go_wp2
    go_ret
    exact ⟨ret_int E.out, rfl⟩
theorem Add_any (w : World) (a b m : Int) (ha : -9223372036854775808 ≤ a) (ha2 : a ≤ 9223372036854775807) (hb : -9223372036854775808 ≤ b) (hb2 : b ≤ 9223372036854775807) (hm2 : m ≤ 9223372036854775807) :
    Calls Tryz.prog 72 #[.int .i64 a, .int .i64 b, .int .i64 m] w fun e w' => e = .returned (.int .i64 (ga a b m)) ∧ w' = w := by
  by_cases h : m < 1
  · rw [show ga a b m = 0 by unfold ga; rw [if_pos h]]
    go_enter Tryz.func72, Tryz.ntmps72
    go_wp2
    go_ret
    exact ⟨rfl, rfl⟩
  · have hr := rng (f := a) h
    have hs := rng (f := b) h
    have E := Lib.hid (show (a % m + b % m) % m = ga a b m by unfold ga; rw [if_neg h, add_l, add_r])
    have R1 := Lib.hid (residue_any w a m ha ha2 (by omega) hm2)
    have R2 := Lib.hid (residue_any w b m hb hb2 (by omega) hm2)
    have R3 := Lib.hid (sum_any w (a % m) (b % m) m hr.1 hr.2 hs.1 hs.2 hm2)
    generalize a % m = x at *
    generalize b % m = y at *
    go_enter Tryz.func72, Tryz.ntmps72
    go_wp2_with fail
    refine R1.out.mono ?_
    rintro e w' ⟨rfl, rfl⟩
    go_wp2_with fail
    refine R2.out.mono ?_
    rintro e w' ⟨rfl, rfl⟩
    go_wp2_with fail
    refine R3.out.mono ?_
    rintro e w' ⟨rfl, rfl⟩
    go_wp2
    go_ret
    exact ⟨ret_int E.out, rfl⟩
theorem Sub_any (w : World) (a b m : Int) (ha : -9223372036854775808 ≤ a) (ha2 : a ≤ 9223372036854775807) (hb : -9223372036854775808 ≤ b) (hb2 : b ≤ 9223372036854775807) (hm2 : m ≤ 9223372036854775807) :
    Calls Tryz.prog 121 #[.int .i64 a, .int .i64 b, .int .i64 m] w fun e w' => e = .returned (.int .i64 (gs a b m)) ∧ w' = w := by
  by_cases h : m < 1
  · rw [show gs a b m = 0 by unfold gs; rw [if_pos h]]
    go_enter Tryz.func121, Tryz.ntmps121
    go_wp2
    go_ret
    exact ⟨rfl, rfl⟩
  · have hr := rng (f := a) h
    have hs := rng (f := b) h
    have E := Lib.hid (show (a % m - b % m) % m = gs a b m by unfold gs; rw [if_neg h, sub_l, sub_r])
    have R1 := Lib.hid (residue_any w a m ha ha2 (by omega) hm2)
    have R2 := Lib.hid (residue_any w b m hb hb2 (by omega) hm2)
    have R3 := Lib.hid (residue_any w (a % m - b % m) m (by omega) (by omega) (by omega) hm2)
    generalize a % m = x at *
    generalize b % m = y at *
    go_enter Tryz.func121, Tryz.ntmps121
    go_wp2_with fail
    refine R1.out.mono ?_
    rintro e w' ⟨rfl, rfl⟩
    go_wp2_with fail
    refine R2.out.mono ?_
    rintro e w' ⟨rfl, rfl⟩
    go_wp2_with fail
    refine R3.out.mono ?_
    rintro e w' ⟨rfl, rfl⟩
    go_wp2
    go_ret
    exact ⟨ret_int E.out, rfl⟩
theorem lt_bitLen (f : Nat) : ∀ x, x < 2^f → x < 2^(Lib.bitLenAux f x) := by
  induction f with
  | zero => intro x h; simpa [Lib.bitLenAux] using h
  | succ f ih =>
    intro x h
    unfold Lib.bitLenAux
    split
    · simp; omega
    · have := ih (x / 2) (by rw [Nat.pow_succ] at h; omega)
      rw [Nat.add_comm, Nat.pow_succ]; omega
theorem mod_bitLen (x : Nat) (h : x < 2^64) : x % 2^(Lib.bitLen x) = x := Nat.mod_eq_of_lt (lt_bitLen 64 x h)
def intOf : Value → Int | .int _ i => i | _ => 0
theorem dig_int (y k : Nat) (hy : y < 9223372036854775808) : (bits BinOp.and IntKind.i64 ((y : Int) / 2^k) 1 == 1) = decide (y / 2^k % 2 = 1) := by
  have e : (y : Int) / 2^k = ((y / 2^k : Nat) : Int) := by rw [Int.natCast_ediv, Int.natCast_pow]; rfl
  have h : y / 2^k < 9223372036854775808 := Nat.lt_of_le_of_lt (Nat.div_le_self _ _) hy
  rw [e, Go.Proofs.and_one _ h]
  rcases Nat.mod_two_eq_zero_or_one (y / 2^k) with h | h <;> rw [h] <;> decide
structure PI (x m : Int) (y k : Nat) (U T : Int) : Prop where
  u : U = x * ((2^k : Nat) : Int) % m
  t : T = x * ((y % 2^k : Nat) : Int) % m
theorem PI.one {x m : Int} {y k : Nat} {U T : Int} (h : PI x m y k U T) (hd : y / 2^k % 2 = 1) : PI x m y (k+1) ((U + U) % m) ((T + U) % m) :=
  ⟨by rw [h.u, double_step], by rw [h.u, h.t, total_step x m y k hd]⟩
theorem PI.zero {x m : Int} {y k : Nat} {U T : Int} (h : PI x m y k U T) (hd : ¬ y / 2^k % 2 = 1) : PI x m y (k+1) ((U + U) % m) ((T + 0) % m) :=
  ⟨by rw [h.u, double_step], by rw [h.t, total_stay x m y k hd]⟩
set_option maxHeartbeats 1000000 in
theorem product_any (w : World) (x m : Int) (y : Nat) (hx : 0 ≤ x) (hxm : x < m) (hym : (y : Int) < m) (hm2 : m ≤ 9223372036854775807) :
    Calls Tryz.prog 51 #[.int .i64 x, .int .i64 (y : Int), .int .i64 m] w fun e w' => e = .returned (.int .i64 (x * y % m)) ∧ w' = w := by
  have hB := Lib.hid (mod_bitLen y (by omega))
  have hL := Lib.bitLen_le y 64 (by omega) (by omega)
  have R1 := Tryz.bits_Len (y : Int) w (by omega) (by omega)
  rw [Int.toNat_natCast] at R1
  generalize Lib.bitLen y = n at *
  replace R1 := Lib.hid R1
  go_enter Tryz.func51, Tryz.ntmps51
  go_wp2_with fail
  refine R1.out.mono ?_
  rintro e w' ⟨rfl, rfl⟩
  clear R1
  go_wp2_with fail
  go_loop [0, 7, 13] (fun u t i => ∃ (k : Nat) (U T : Int), k ≤ n ∧ 0 ≤ U ∧ U < m ∧ 0 ≤ T ∧ T < m ∧ Hid (PI x m y k U T) ∧ u = .int .i64 U ∧ t = .int .i64 T ∧ i = .int .i64 k) (fun _ _ i => n - (intOf i).toNat)
  case atStart => exact ⟨0, x, 0, Nat.zero_le _, hx, hxm, by omega, by omega, Lib.hid ⟨by simp [Int.emod_eq_of_lt hx hxm], by simp [Nat.mod_one]⟩, rfl, rfl, rfl⟩
  case round =>
    obtain ⟨k, U, T, hk, hU, hUm, hT, hTm, hP, rfl, rfl, rfl⟩ := hrel
    by_cases hkn : k < n
    · have S2 := Lib.hid (sum_any w' U U m hU hUm hU hUm hm2)
      have r2 := rng (f := U + U) (m := m) (by omega)
      by_cases hd : y / 2^k % 2 = 1
      · have hb := (dig_int y k (by omega)).trans (decide_eq_true hd)
        have S1 := Lib.hid (sum_any w' T U m hT hTm hU hUm hm2)
        have r1 := rng (f := T + U) (m := m) (by omega)
        have hQ := Lib.hid (hP.out.one hd)
        clear hd
        generalize (U + U) % m = U' at *
        generalize (T + U) % m = T' at *
        go_wp2_with fail
        refine S1.out.mono ?_
        rintro e w1 ⟨rfl, rfl⟩
        go_wp2_with fail
        refine S2.out.mono ?_
        rintro e w2 ⟨rfl, rfl⟩
        go_wp2_with fail
        go_round
        case rel => exact ⟨k + 1, U', T', by omega, r2.1, r2.2, r1.1, r1.2, hQ, rfl, rfl, by go_num⟩
        case measure => (simp [intOf]; omega)
      · have hb := (dig_int y k (by omega)).trans (decide_eq_false hd)
        have S1 := Lib.hid (sum_any w' T 0 m hT hTm (by omega) (by omega) hm2)
        have r1 := rng (f := T + 0) (m := m) (by omega)
        have hQ := Lib.hid (hP.out.zero hd)
        clear hd
        generalize (U + U) % m = U' at *
        generalize (T + 0) % m = T' at *
        go_wp2_with fail
        refine S1.out.mono ?_
        rintro e w1 ⟨rfl, rfl⟩
        go_wp2_with fail
        refine S2.out.mono ?_
        rintro e w2 ⟨rfl, rfl⟩
        go_wp2_with fail
        go_round
        case rel => exact ⟨k + 1, U', T', by omega, r2.1, r2.2, r1.1, r1.2, hQ, rfl, rfl, by go_num⟩
        case measure => (simp [intOf]; omega)
    · obtain rfl : k = n := by omega
      go_wp2
      go_ret
      exact ⟨ret_int (by rw [hP.out.t, hB.out]), rfl⟩
theorem Mul_any (w : World) (a b m : Int) (ha : -9223372036854775808 ≤ a) (ha2 : a ≤ 9223372036854775807) (hb : -9223372036854775808 ≤ b) (hb2 : b ≤ 9223372036854775807) (hm2 : m ≤ 9223372036854775807) :
    Calls Tryz.prog 24 #[.int .i64 a, .int .i64 b, .int .i64 m] w fun e w' => e = .returned (.int .i64 (gm a b m)) ∧ w' = w := by
  by_cases h : m < 1
  · rw [show gm a b m = 0 by unfold gm; rw [if_pos h]]
    go_enter Tryz.func24, Tryz.ntmps24
    go_wp2
    go_ret
    exact ⟨rfl, rfl⟩
  · have hr := rng (f := a) h
    have hs := rng (f := b) h
    have E := Lib.hid (show (a % m) * (b % m) % m = gm a b m by unfold gm; rw [if_neg h, mul_l, mul_r])
    have R1 := Lib.hid (residue_any w a m ha ha2 (by omega) hm2)
    have R2 := Lib.hid (residue_any w b m hb hb2 (by omega) hm2)
    generalize a % m = x at *
    generalize b % m = y at *
    obtain ⟨v, rfl⟩ : ∃ v : Nat, y = v := ⟨y.toNat, by omega⟩
    have R3 := Lib.hid (product_any w x m v hr.1 hr.2 hs.2 hm2)
    go_enter Tryz.func24, Tryz.ntmps24
    go_wp2_with fail
    refine R1.out.mono ?_
    rintro e w' ⟨rfl, rfl⟩
    go_wp2_with fail
    refine R2.out.mono ?_
    rintro e w' ⟨rfl, rfl⟩
    go_wp2_with fail
    refine R3.out.mono ?_
    rintro e w' ⟨rfl, rfl⟩
    go_wp2
    go_ret
    exact ⟨ret_int E.out, rfl⟩
end Go.Proofs.YtbfplapjjeeceaaGreatDoor.G4
namespace Go.Proofs.YtbfplapjjeeceaaGreatDoor.G4
open Go.RowKit GM
def InvQ (a m : Int) (w : World) (e : Ending) (w' : World) : Prop := ∃ (i : Int) (ok : Bool), IsInv a m i ok ∧ e = .returned (.tuple #[.int .i64 i, .bool ok]) ∧ w' = w
set_option maxHeartbeats 1000000 in
theorem Inv_any (w : World) (a m : Int) (ha : -9223372036854775808 ≤ a) (ha2 : a ≤ 9223372036854775807) (hm2 : m ≤ 9223372036854775807) :
    Calls Tryz.prog 122 #[.int .i64 a, .int .i64 m] w (InvQ a m w) := by
  by_cases h : m < 2
  · go_enter Tryz.func122, Tryz.ntmps122
    go_wp2
    go_ret2
    exact ⟨0, false, .inr ⟨rfl, rfl, .inl h⟩, rfl, rfl⟩
  · have hr := rng (f := a) (m := m) (by omega)
    have R1 := Lib.hid (residue_any w a m ha ha2 (by omega) hm2)
    have hS := Lib.hid (EI.start (a % m) m (by omega) hr.1 hr.2)
    have hI : Hid (∀ i ok, IsInv (a % m) m i ok → IsInv a m i ok) := Lib.hid (fun i ok h => h.res)
    generalize a % m = x at *
    go_enter Tryz.func122, Tryz.ntmps122
    go_wp2_with fail
    refine R1.out.mono ?_
    rintro e w' ⟨rfl, rfl⟩
    clear R1
    go_wp2_with fail
    go_loop [6, 7, 8, 9] (fun r s f g => ∃ (R S F G : Int), Hid (EI x m R S F G) ∧ r = .int .i64 R ∧ s = .int .i64 S ∧ f = .int .i64 F ∧ g = .int .i64 G) (fun _ s _ _ => (intOf s).toNat)
    case atStart => exact ⟨m, x, 0, 1, hS, rfl, rfl, rfl, rfl⟩
    case round =>
      obtain ⟨R, S, F, G, hE, rfl, rfl, rfl, rfl⟩ := hrel
      have hs0 := hE.out.s0
      have hsm := hE.out.sm
      have hr1 := hE.out.r1
      have hrm := hE.out.rm
      by_cases hs : S = 0
      · subst hs
        obtain ⟨e1, e2⟩ := hE.out.stop (by omega)
        by_cases hR : R = 1
        · have hb : (R == 1) = true := by simp [hR]
          have hf := hE.out.fb
          have e3 := Lib.hid (hI.out _ _ (e1 hR))
          have R2 := Lib.hid (residue_any w' F m (by omega) (by omega) (by omega) hm2)
          clear e1 e2
          generalize F % m = i at *
          go_wp2_with fail
          refine R2.out.mono ?_
          rintro e w2 ⟨rfl, rfl⟩
          go_wp2
          go_ret2
          exact ⟨i, true, e3.out, rfl, rfl⟩
        · have hb : (R == 1) = false := by simp [hR]
          have e3 := Lib.hid (hI.out _ _ (e2 hR))
          clear e1 e2
          go_wp2
          go_ret2
          exact ⟨0, false, e3.out, rfl, rfl⟩
      · have hsp : 0 < S := by omega
        have hsb : (S == 0) = false := beq_eq_false_iff_ne.2 hs
        have hp := hE.out.prods hsp
        have hN := Lib.hid (hE.out.step hsp)
        have hf := hE.out.fb
        have hg := hE.out.gb
        have hdiv : Int.tdiv R S = R / S := Int.tdiv_eq_ediv_of_nonneg (by omega)
        obtain ⟨q, hq0⟩ : ∃ q, R / S = q := ⟨_, rfl⟩
        rw [hq0] at hp hN hdiv
        obtain ⟨p1, hp1⟩ : ∃ p, q * S = p := ⟨_, rfl⟩
        obtain ⟨p2, hp2⟩ : ∃ p, q * G = p := ⟨_, rfl⟩
        rw [hp1, hp2] at hp
        rw [hp1, hp2] at hN
        clear hq0 hs
        go_wp2
        exact ⟨⟨S, R - p1, G, F - p2, hN, rfl, rfl, rfl, rfl⟩, by simp only [intOf]; omega⟩
end Go.Proofs.YtbfplapjjeeceaaGreatDoor.G4
namespace Go.Proofs.YtbfplapjjeeceaaGreatDoor.G4
open Go.RowKit GM
theorem product_i (w : World) (x y m : Int) (hx : 0 ≤ x) (hxm : x < m) (hy : 0 ≤ y) (hym : y < m) (hm2 : m ≤ 9223372036854775807) :
    Calls Tryz.prog 51 #[.int .i64 x, .int .i64 y, .int .i64 m] w fun e w' => e = .returned (.int .i64 (x * y % m)) ∧ w' = w := by
  obtain ⟨v, rfl⟩ : ∃ v : Nat, y = v := ⟨y.toNat, by omega⟩
  exact product_any w x m v hx hxm hym hm2
theorem times_any (w : World) (b : Nat) (x y m : Int) (hx : 0 ≤ x) (hxm : x < m) (hy : 0 ≤ y) (hym : y < m) (hm2 : m ≤ 9223372036854775807) (hc : w.cell? ⟨b, 0, none⟩ = some (.int .i64 m)) :
    Calls Tryz.prog 50 #[.int .i64 x, .int .i64 y, .pointer (some ⟨b, 0, none⟩)] w fun e w' => e = .returned (.int .i64 (x * y % m)) ∧ w' = w := by
  have R1 := Lib.hid (product_i w x y m hx hxm hy hym hm2)
  go_enter Tryz.func50, Tryz.ntmps50
  go_wp2_with fail
  refine R1.out.mono ?_
  rintro e w' ⟨rfl, rfl⟩
  go_wp2
  go_ret
  exact ⟨rfl, rfl⟩
/-- what the squarings keep -/
structure QI (a m : Int) (n k : Nat) (U T : Int) : Prop where
  u : U = a^(2^k) % m
  t : T = a^(n % 2^k) % m
theorem QI.one {a m : Int} {n k : Nat} {U T : Int} (h : QI a m n k U T) (hd : n / 2^k % 2 = 1) : QI a m n (k+1) (U * U % m) (T * U % m) :=
  ⟨by rw [h.u, square_step], by rw [h.u, h.t, power_step a m n k hd]⟩
theorem QI.zero {a m : Int} {n k : Nat} {U T : Int} (h : QI a m n k U T) (hd : ¬ n / 2^k % 2 = 1) : QI a m n (k+1) (U * U % m) T :=
  ⟨by rw [h.u, square_step], by rw [h.t, power_stay a m n k hd]⟩
set_option maxHeartbeats 1000000 in
theorem Pow_any (w : World) (a n m : Int) (ha : -9223372036854775808 ≤ a) (ha2 : a ≤ 9223372036854775807) (hn : n ≤ 9223372036854775807) (hm2 : m ≤ 9223372036854775807) :
    Calls Tryz.prog 21 #[.int .i64 a, .int .i64 n, .int .i64 m] w fun e w' => e = .returned (.int .i64 (gp a n m)) ∧ Below w.heap.size w w' := by
  by_cases h : m < 1
  · rw [show gp a n m = 0 by unfold gp; rw [if_pos (.inl h)]]
    go_enter Tryz.func21, Tryz.ntmps21
    go_wp2
    go_ret
    exact ⟨rfl, (Below.refl _ w).alloc (Nat.le_refl _) _⟩
  · by_cases h2 : n < 0
    · rw [show gp a n m = 0 by unfold gp; rw [if_pos (.inr h2)]]
      go_enter Tryz.func21, Tryz.ntmps21
      go_wp2
      go_ret
      exact ⟨rfl, (Below.refl _ w).alloc (Nat.le_refl _) _⟩
    · obtain ⟨k, rfl⟩ : ∃ k : Nat, n = k := ⟨n.toNat, by omega⟩
      have hr := rng (f := a) (m := m) (by omega)
      have h1 := rng (f := 1) (m := m) (by omega)
      have hB := Lib.hid (mod_bitLen k (by omega))
      have hL := Lib.bitLen_le k 64 (by omega) (by omega)
      have RL := Lib.hid fun W => Tryz.bits_Len (k : Int) W (by omega) (by omega)
      rw [Int.toNat_natCast] at RL
      have E := Lib.hid (show a ^ k % m = gp a k m by unfold gp; rw [if_neg (by omega), Int.toNat_natCast])
      have R1 := Lib.hid fun W => residue_any W 1 m (by omega) (by omega) (by omega) hm2
      have R2 := Lib.hid fun W => residue_any W a m ha ha2 (by omega) hm2
      have hP0 := Lib.hid (show QI a m k 0 (a % m) (1 % m) from ⟨by rw [Nat.pow_zero, Int.pow_succ, Int.pow_zero, Int.one_mul], by simp [Nat.mod_one]⟩)
      generalize Lib.bitLen k = N at *
      generalize gp a k m = V at *
      generalize a % m = x at *
      generalize 1 % m = y at *
      have hc0 : (w.alloc (.cells #[.int .i64 m] 3)).cell? ⟨w.heap.size, 0, none⟩ = some (.int .i64 m) := World.cell?_alloc_at _ _ _ _ rfl
      have B0 : Below w.heap.size w (w.alloc (.cells #[.int .i64 m] 3)) := (Below.refl _ w).alloc (Nat.le_refl _) _
      go_enter Tryz.func21, Tryz.ntmps21
      go_wp2_with fail
      generalize w.alloc (.cells #[.int .i64 m] 3) = w0 at *
      go_region_held3 (fun w' => w'.cell? ⟨w.heap.size, 0, none⟩ = some (.int .i64 m)) (first | assumption | exact hc0)
        (first
          | (go_at_call_of 52 (Value.int .i64 1); go_must (refine (R1.out _).mono ?_); rintro e w1 ⟨rfl, rfl⟩)
          | (go_at_call 52; go_must (refine (R2.out _).mono ?_); rintro e w1 ⟨rfl, rfl⟩))
      have B1 := B0.drew
      clear B0 hc0 R1 R2
      generalize w0.drew = w1 at *
      go_wp2_with fail
      refine (RL.out _).mono ?_
      rintro e w2 ⟨rfl, rfl⟩
      clear RL
      go_wp2_with fail
      have hw2 : w2.cell? ⟨w.heap.size, 0, none⟩ = some (.int .i64 m) := by assumption
      go_loop [8, 9, 26] (fun t u i => ∃ (j : Nat) (U T : Int), j ≤ N ∧ 0 ≤ U ∧ U < m ∧ 0 ≤ T ∧ T < m ∧ Hid (QI a m k j U T) ∧ t = .int .i64 T ∧ u = .int .i64 U ∧ i = .int .i64 j) (fun _ _ i => N - (intOf i).toNat)
      case atStart => exact ⟨0, x, y, Nat.zero_le _, hr.1, hr.2, h1.1, h1.2, hP0, rfl, rfl, rfl⟩
      case round =>
        obtain ⟨j, U, T, hj, hU, hUm, hT, hTm, hP, rfl, rfl, rfl⟩ := hrel
        by_cases hjn : j < N
        · have S2 := Lib.hid (times_any w2 w.heap.size U U m hU hUm hU hUm hm2 hw2)
          have r2 := rng (f := U * U) (m := m) (by omega)
          by_cases hd : k / 2^j % 2 = 1
          · have hb := (dig_int k j (by omega)).trans (decide_eq_true hd)
            have S1 := Lib.hid (times_any w2 w.heap.size T U m hT hTm hU hUm hm2 hw2)
            have r1 := rng (f := T * U) (m := m) (by omega)
            have hQ := Lib.hid (hP.out.one hd)
            clear hd
            generalize (U * U) % m = U' at *
            generalize (T * U) % m = T' at *
            go_wp2_with fail
            refine S1.out.mono ?_
            rintro e w3 ⟨rfl, rfl⟩
            go_wp2_with fail
            refine S2.out.mono ?_
            rintro e w4 ⟨rfl, rfl⟩
            go_wp2_with fail
            go_round
            case rel => exact ⟨j + 1, U', T', by omega, r2.1, r2.2, r1.1, r1.2, hQ, rfl, rfl, by go_num⟩
            case measure => (simp [intOf]; omega)
          · have hb := (dig_int k j (by omega)).trans (decide_eq_false hd)
            have hQ := Lib.hid (hP.out.zero hd)
            clear hd
            generalize (U * U) % m = U' at *
            go_wp2_with fail
            refine S2.out.mono ?_
            rintro e w4 ⟨rfl, rfl⟩
            go_wp2_with fail
            go_round
            case rel => exact ⟨j + 1, U', T, by omega, r2.1, r2.2, hT, hTm, hQ, rfl, rfl, by go_num⟩
            case measure => (simp [intOf]; omega)
        · obtain rfl : j = N := by omega
          go_wp2
          go_ret
          exact ⟨ret_int (by rw [← E.out, hP.out.t, hB.out]), B1⟩
/-- a member of the group -/
def mem (a : Int) : Bool := decide (0 < a) && decide (a < 2305843009213691579) && (gp a 1152921504606845789 2305843009213691579 == 1)
theorem Member_any (w : World) (a : Int) (ha : -9223372036854775808 ≤ a) (ha2 : a ≤ 9223372036854775807) :
    Calls Tryz.prog 32 #[.int .i64 a] w fun e w' => e = .returned (.bool (mem a)) ∧ Below w.heap.size w w' := by
  have R := Lib.hid (Pow_any w a 1152921504606845789 2305843009213691579 ha ha2 (by omega) (by omega))
  by_cases h1 : 0 < a
  · by_cases h2 : a < 2305843009213691579
    · have E := Lib.hid (show mem a = (gp a 1152921504606845789 2305843009213691579 == 1) by unfold mem; simp [h1, h2])
      generalize gp a 1152921504606845789 2305843009213691579 = p at *
      generalize mem a = b at *
      go_enter Tryz.func32, Tryz.ntmps32
      go_wp2_with fail
      refine R.out.mono ?_
      rintro e w1 ⟨rfl, b1⟩
      go_wp2
      go_ret
      exact ⟨by rw [E.out]; rfl, b1⟩
    · have E := Lib.hid (show mem a = false by unfold mem; simp [h2])
      go_enter Tryz.func32, Tryz.ntmps32
      go_wp2
      go_ret
      exact ⟨by rw [E.out]; rfl, Below.refl _ _⟩
  · have E := Lib.hid (show mem a = false by unfold mem; simp [h1])
    go_enter Tryz.func32, Tryz.ntmps32
    go_wp2
    go_ret
    exact ⟨by rw [E.out]; rfl, Below.refl _ _⟩
end Go.Proofs.YtbfplapjjeeceaaGreatDoor.G4
