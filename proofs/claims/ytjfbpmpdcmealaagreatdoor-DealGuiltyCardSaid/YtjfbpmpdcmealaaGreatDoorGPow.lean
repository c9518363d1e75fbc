/-
  The walks of group.Pow and of its closure, and of group.Member.
-/
import Derived.Test.YtjfbpmpdcmealaaGreatDoorGBase
import Derived.Deep.RegionHeld3
namespace Go.Proofs.YtjfbpmpdcmealaaGreatDoor.G4
open Go.RowKit GM
theorem product_i (w : World) (x y m : Int) (hx : 0 ≤ x) (hxm : x < m) (hy : 0 ≤ y) (hym : y < m) (hm2 : m ≤ 9223372036854775807) :
    Calls Tryz.prog 95 #[.int .i64 x, .int .i64 y, .int .i64 m] w fun e w' => e = .returned (.int .i64 (x * y % m)) ∧ w' = w := by
  obtain ⟨v, rfl⟩ : ∃ v : Nat, y = v := ⟨y.toNat, by omega⟩
  exact product_any w x m v hx hxm hym hm2
theorem times_any (w : World) (b : Nat) (x y m : Int) (hx : 0 ≤ x) (hxm : x < m) (hy : 0 ≤ y) (hym : y < m) (hm2 : m ≤ 9223372036854775807) (hc : w.cell? ⟨b, 0, none⟩ = some (.int .i64 m)) :
    Calls Tryz.prog 96 #[.int .i64 x, .int .i64 y, .pointer (some ⟨b, 0, none⟩)] w fun e w' => e = .returned (.int .i64 (x * y % m)) ∧ w' = w := by
  have R1 := Lib.hid (product_i w x y m hx hxm hy hym hm2)
  go_enter Tryz.func96, Tryz.ntmps96
  go_wp2_with fail
  refine R1.out.mono ?_
  rintro e w' ⟨rfl, rfl⟩
  go_wp2
  go_ret
  exact ⟨rfl, rfl⟩
/-- what the squarings keep -/
structure QI (a m : Int) (n k : Nat) (U T : Int) : Prop where
  u : U = a^(2^k) % m
  t : T = a^(n % 2^k) % m
theorem QI.one {a m : Int} {n k : Nat} {U T : Int} (h : QI a m n k U T) (hd : n / 2^k % 2 = 1) : QI a m n (k+1) (U * U % m) (T * U % m) :=
  ⟨by rw [h.u, square_step], by rw [h.u, h.t, power_step a m n k hd]⟩
theorem QI.zero {a m : Int} {n k : Nat} {U T : Int} (h : QI a m n k U T) (hd : ¬ n / 2^k % 2 = 1) : QI a m n (k+1) (U * U % m) T :=
  ⟨by rw [h.u, square_step], by rw [h.t, power_stay a m n k hd]⟩
set_option maxHeartbeats 1000000 in
theorem Pow_any (w : World) (a n m : Int) (ha : -9223372036854775808 ≤ a) (ha2 : a ≤ 9223372036854775807) (hn : n ≤ 9223372036854775807) (hm2 : m ≤ 9223372036854775807) :
    Calls Tryz.prog 67 #[.int .i64 a, .int .i64 n, .int .i64 m] w fun e w' => e = .returned (.int .i64 (gp a n m)) ∧ Below w.heap.size w w' := by
  by_cases h : m < 1
  · rw [show gp a n m = 0 by unfold gp; rw [if_pos (.inl h)]]
    go_enter Tryz.func67, Tryz.ntmps67
    go_wp2
    go_ret
    exact ⟨rfl, (Below.refl _ w).alloc (Nat.le_refl _) _⟩
  · by_cases h2 : n < 0
    · rw [show gp a n m = 0 by unfold gp; rw [if_pos (.inr h2)]]
      go_enter Tryz.func67, Tryz.ntmps67
      go_wp2
      go_ret
      exact ⟨rfl, (Below.refl _ w).alloc (Nat.le_refl _) _⟩
    · obtain ⟨k, rfl⟩ : ∃ k : Nat, n = k := ⟨n.toNat, by omega⟩
      have hr := rng (f := a) (m := m) (by omega)
      have h1 := rng (f := 1) (m := m) (by omega)
      have hB := Lib.hid (mod_bitLen k (by omega))
      have hL := Lib.bitLen_le k 64 (by omega) (by omega)
      have RL := Lib.hid fun W => Tryz.bits_Len (k : Int) W (by omega) (by omega)
      rw [Int.toNat_natCast] at RL
      have E := Lib.hid (show a ^ k % m = gp a k m by unfold gp; rw [if_neg (by omega), Int.toNat_natCast])
      have R1 := Lib.hid fun W => residue_any W 1 m (by omega) (by omega) (by omega) hm2
      have R2 := Lib.hid fun W => residue_any W a m ha ha2 (by omega) hm2
      have hP0 := Lib.hid (show QI a m k 0 (a % m) (1 % m) from ⟨by rw [Nat.pow_zero, Int.pow_succ, Int.pow_zero, Int.one_mul], by simp [Nat.mod_one]⟩)
      generalize Lib.bitLen k = N at *
      generalize gp a k m = V at *
      generalize a % m = x at *
      generalize 1 % m = y at *
      have hc0 : (w.alloc (.cells #[.int .i64 m] 3)).cell? ⟨w.heap.size, 0, none⟩ = some (.int .i64 m) := World.cell?_alloc_at _ _ _ _ rfl
      have B0 : Below w.heap.size w (w.alloc (.cells #[.int .i64 m] 3)) := (Below.refl _ w).alloc (Nat.le_refl _) _
      go_enter Tryz.func67, Tryz.ntmps67
      go_wp2_with fail
      generalize w.alloc (.cells #[.int .i64 m] 3) = w0 at *
      go_region_held3 (fun w' => w'.cell? ⟨w.heap.size, 0, none⟩ = some (.int .i64 m)) (first | assumption | exact hc0)
        (first
          | (go_at_call_of 94 (Value.int .i64 1); go_must (refine (R1.out _).mono ?_); rintro e w1 ⟨rfl, rfl⟩)
          | (go_at_call 94; go_must (refine (R2.out _).mono ?_); rintro e w1 ⟨rfl, rfl⟩))
      have B1 := B0.drew
      clear B0 hc0 R1 R2
      generalize w0.drew = w1 at *
      go_wp2_with fail
      refine (RL.out _).mono ?_
      rintro e w2 ⟨rfl, rfl⟩
      clear RL
      go_wp2_with fail
      have hw2 : w2.cell? ⟨w.heap.size, 0, none⟩ = some (.int .i64 m) := by assumption
      go_loop [8, 9, 26] (fun t u i => ∃ (j : Nat) (U T : Int), j ≤ N ∧ 0 ≤ U ∧ U < m ∧ 0 ≤ T ∧ T < m ∧ Hid (QI a m k j U T) ∧ t = .int .i64 T ∧ u = .int .i64 U ∧ i = .int .i64 j) (fun _ _ i => N - (intOf i).toNat)
      case atStart => exact ⟨0, x, y, Nat.zero_le _, hr.1, hr.2, h1.1, h1.2, hP0, rfl, rfl, rfl⟩
      case round =>
        obtain ⟨j, U, T, hj, hU, hUm, hT, hTm, hP, rfl, rfl, rfl⟩ := hrel
        by_cases hjn : j < N
        · have S2 := Lib.hid (times_any w2 w.heap.size U U m hU hUm hU hUm hm2 hw2)
          have r2 := rng (f := U * U) (m := m) (by omega)
          by_cases hd : k / 2^j % 2 = 1
          · have hb := (dig_int k j (by omega)).trans (decide_eq_true hd)
            have S1 := Lib.hid (times_any w2 w.heap.size T U m hT hTm hU hUm hm2 hw2)
            have r1 := rng (f := T * U) (m := m) (by omega)
            have hQ := Lib.hid (hP.out.one hd)
            clear hd
            generalize (U * U) % m = U' at *
            generalize (T * U) % m = T' at *
            go_wp2_with fail
            refine S1.out.mono ?_
            rintro e w3 ⟨rfl, rfl⟩
            go_wp2_with fail
            refine S2.out.mono ?_
            rintro e w4 ⟨rfl, rfl⟩
            go_wp2_with fail
            go_round
            case rel => exact ⟨j + 1, U', T', by omega, r2.1, r2.2, r1.1, r1.2, hQ, rfl, rfl, by go_num⟩
            case measure => (simp [intOf]; omega)
          · have hb := (dig_int k j (by omega)).trans (decide_eq_false hd)
            have hQ := Lib.hid (hP.out.zero hd)
            clear hd
            generalize (U * U) % m = U' at *
            go_wp2_with fail
            refine S2.out.mono ?_
            rintro e w4 ⟨rfl, rfl⟩
            go_wp2_with fail
            go_round
            case rel => exact ⟨j + 1, U', T, by omega, r2.1, r2.2, hT, hTm, hQ, rfl, rfl, by go_num⟩
            case measure => (simp [intOf]; omega)
        · obtain rfl : j = N := by omega
          go_wp2
          go_ret
          exact ⟨ret_int (by rw [← E.out, hP.out.t, hB.out]), B1⟩
/-- a member of the group -/
def mem (a : Int) : Bool := decide (0 < a) && decide (a < 2305843009213691579) && (gp a 1152921504606845789 2305843009213691579 == 1)
theorem Member_any (w : World) (a : Int) (ha : -9223372036854775808 ≤ a) (ha2 : a ≤ 9223372036854775807) :
    Calls Tryz.prog 34 #[.int .i64 a] w fun e w' => e = .returned (.bool (mem a)) ∧ Below w.heap.size w w' := by
  have R := Lib.hid (Pow_any w a 1152921504606845789 2305843009213691579 ha ha2 (by omega) (by omega))
  by_cases h1 : 0 < a
  · by_cases h2 : a < 2305843009213691579
    · have E := Lib.hid (show mem a = (gp a 1152921504606845789 2305843009213691579 == 1) by unfold mem; simp [h1, h2])
      generalize gp a 1152921504606845789 2305843009213691579 = p at *
      generalize mem a = b at *
      go_enter Tryz.func34, Tryz.ntmps34
      go_wp2_with fail
      refine R.out.mono ?_
      rintro e w1 ⟨rfl, b1⟩
      go_wp2
      go_ret
      exact ⟨by rw [E.out]; rfl, b1⟩
    · have E := Lib.hid (show mem a = false by unfold mem; simp [h2])
      go_enter Tryz.func34, Tryz.ntmps34
      go_wp2
      go_ret
      exact ⟨by rw [E.out]; rfl, Below.refl _ _⟩
  · have E := Lib.hid (show mem a = false by unfold mem; simp [h1])
    go_enter Tryz.func34, Tryz.ntmps34
    go_wp2
    go_ret
    exact ⟨by rw [E.out]; rfl, Below.refl _ _⟩
end Go.Proofs.YtjfbpmpdcmealaaGreatDoor.G4
