/-
  The walk of the law GroupNats.
-/
import Derived.Test.YtipmoklmolhffaaGCells
import Derived.Test.YtipmoklmolhffaaRefPow
namespace Go.Proofs.Ytipmoklmolhffaa.G4
open Go.RowKit GM NM
theorem nb8 (n : Nat) (h : n < 18446744073709551616) : (NB n).size ≤ 8 := NB_size (k := 8) (by rw [show 256^8 = 18446744073709551616 by decide]; exact h)
theorem of_n (w : World) (n : Nat) (h : n < 9223372036854775808) : Calls Try.prog 19 #[.int .i64 (n : Int)] w fun e w' => e = .returned (.string (NB n)) ∧ Below w.heap.size w w' := by
  have h1 := RefOf_any w (n : Int) (by omega) (by omega)
  rwa [Int.toNat_natCast] at h1
theorem mul_n (w : World) (x y : Nat) (hx : x < 9223372036854775808) (hy : y < 9223372036854775808) : Calls Try.prog 21 #[.string (NB x), .string (NB y)] w fun e w' => e = .returned (.string (NB (x * y))) ∧ Below w.heap.size w w' := by
  have h1 := RefMul_any w (NB x) (NB y) (by have := nb8 x (by omega); omega) (by have := nb8 y (by omega); omega)
  rwa [sv_NB, sv_NB] at h1
theorem nb16 (x y : Nat) (hx : x < 9223372036854775808) (hy : y < 9223372036854775808) : (NB (x * y)).size ≤ 16 :=
  NB_size (k := 16) (by
    have := Nat.mul_lt_mul'' hx hy
    exact Nat.lt_of_lt_of_le this (by decide))
theorem quo_n (w : World) (x y z : Nat) (hx : x < 9223372036854775808) (hy : y < 9223372036854775808) (hz : z < 9223372036854775808) (hz0 : z ≠ 0) : Calls Try.prog 20 #[.string (NB (x * y)), .string (NB z)] w fun e w' => e = .returned (.tuple #[.string (NB (x * y / z)), .string (NB (x * y % z)), .bool true]) ∧ Below w.heap.size w w' := by
  have h1 := RefQuo_any w (NB (x * y)) (NB z) (by have := nb16 x y hx hy; omega) (by have := nb8 z (by omega); omega)
  rw [show QuoV (NB (x * y)) (NB z) = .tuple #[.string (NB (x * y / z)), .string (NB (x * y % z)), .bool true] by unfold QuoV; rw [sv_NB, sv_NB, if_neg hz0]] at h1
  exact h1
theorem pow_n (w : World) (x y z : Nat) (hx : x < 9223372036854775808) (hy : y < 9223372036854775808) (hz : z < 9223372036854775808) (hz0 : z ≠ 0) : Calls Try.prog 22 #[.string (NB x), .string (NB y), .string (NB z)] w fun e w' => e = .returned (.tuple #[.string (NB (x ^ y % z)), .bool true]) ∧ Below w.heap.size w w' := by
  have h1 := RefPow_any w (NB x) (NB y) (NB z) (by have := nb8 x (by omega); omega) (by have := nb8 y (by omega); omega) (by have := nb8 z (by omega); omega)
  rw [show PowV (NB x) (NB y) (NB z) = .tuple #[.string (NB (x ^ y % z)), .bool true] by unfold PowV; rw [sv_NB, sv_NB, sv_NB, if_neg hz0]] at h1
  exact h1
theorem int_n (w : World) (n : Nat) (h : n < 9223372036854775808) : Calls Try.prog 23 #[.string (NB n)] w fun e w' => e = .returned (.tuple #[.int .i64 (n : Int), .bool true]) ∧ w' = w := by
  have h1 := RefInt_any w (NB n) (by have := nb8 n (by omega); omega)
  rw [show IntV (NB n) = .tuple #[.int .i64 (n : Int), .bool true] by unfold IntV; rw [sv_NB, if_pos h]] at h1
  exact h1.mono fun e w' ⟨p, q⟩ => ⟨p, q.symm⟩
theorem gm_nat (x y z : Nat) (hz0 : z ≠ 0) : gm (x : Int) (y : Int) (z : Int) = ((x * y % z : Nat) : Int) := by
  unfold gm; rw [if_neg (by omega), Int.natCast_emod, Int.natCast_mul]
theorem gp_nat' (x y z : Nat) (hz0 : z ≠ 0) : gp (x : Int) (y : Int) (z : Int) = ((x ^ y % z : Nat) : Int) := by
  unfold gp; rw [if_neg (by omega), Int.natCast_emod, Int.natCast_pow, Int.toNat_natCast]
set_option maxRecDepth 100000 in
set_option maxHeartbeats 8000000 in
theorem nats_walk (w : World) (a b m : Int) (_ha : -9223372036854775808 ≤ a) (_ha2 : a ≤ 9223372036854775807) (_hb : -9223372036854775808 ≤ b) (_hb2 : b ≤ 9223372036854775807) (_hm : -9223372036854775808 ≤ m) (_hm2 : m ≤ 9223372036854775807) :
    Calls Try.prog 5 #[.int .i64 a, .int .i64 b, .int .i64 m] w fun e w' => e = .returned (.bool true) ∧ Below w.heap.size w w' := by
  obtain ⟨x, hx, hx2⟩ : ∃ x : Nat, bits .and .i64 a 4611686018427387903 = (x : Int) ∧ x < 4611686018427387904 := ⟨(a % 4611686018427387904).toNat, by rw [and62]; omega, by omega⟩
  obtain ⟨y, hy, hy2⟩ : ∃ x : Nat, bits .and .i64 b 4611686018427387903 = (x : Int) ∧ x < 4611686018427387904 := ⟨(b % 4611686018427387904).toNat, by rw [and62]; omega, by omega⟩
  obtain ⟨z, hz, hz2⟩ : ∃ x : Nat, bits .and .i64 m 4611686018427387903 = (x : Int) ∧ x < 4611686018427387904 := ⟨(m % 4611686018427387904).toNat, by rw [and62]; omega, by omega⟩
  obtain ⟨z', hz'⟩ : ∃ z' : Nat, z' = 1 + z := ⟨_, rfl⟩
  have ez : (1 : Int) + (z : Int) = (z' : Int) := by omega
  have O1 := Lib.hid fun W => of_n W x (by omega)
  have O2 := Lib.hid fun W => of_n W y (by omega)
  have O3 := Lib.hid fun W => of_n W z' (by omega)
  have X1 := Lib.hid fun W => mul_n W x y (by omega) (by omega)
  have X2 := Lib.hid fun W => quo_n W x y z' (by omega) (by omega) (by omega) (by omega)
  have X3 := Lib.hid fun W => pow_n W x y z' (by omega) (by omega) (by omega) (by omega)
  have l1 : x * y % z' < z' := Nat.mod_lt _ (by omega)
  have l2 : x ^ y % z' < z' := Nat.mod_lt _ (by omega)
  have I1 := Lib.hid fun W => int_n W (x * y % z') (by omega)
  have I2 := Lib.hid fun W => int_n W (x ^ y % z') (by omega)
  have M := Lib.hid fun W => mul_k W x y z' _ (gm_nat x y z' (by omega)) (by omega) (by omega) (by omega) (by omega) (by omega)
  have P := Lib.hid fun W => pow_k W x y z' _ (gp_nat' x y z' (by omega)) (by omega) (by omega) (by omega) (by omega)
  clear l1 l2
  generalize x ^ y % z' = s at *
  generalize x * y % z' = r at *
  generalize x * y / z' = t at *
  generalize NB (x * y) = B1 at *
  generalize NB x = BX at *
  generalize NB y = BY at *
  generalize NB z' = BZ at *
  generalize NB r = BR at *
  generalize NB s = BS at *
  generalize NB t = BT at *
  have hB := Below.refl w.heap.size w
  have HH := Lib.hid hz'
  clear hz'
  go_enter Try.func5, Try.ntmps5
  go_wp2_with fail
  refine (sanity_any _).mono ?_
  rintro e w' ⟨rfl, b0⟩
  replace hB := hB.trans (b0.mono hB.size); clear b0
  go_wp2_with fail
  refine (O1.out _).mono ?_
  rintro e w' ⟨rfl, b0⟩
  replace hB := hB.trans (b0.mono hB.size); clear b0
  go_wp2_with fail
  refine (O2.out _).mono ?_
  rintro e w' ⟨rfl, b0⟩
  replace hB := hB.trans (b0.mono hB.size); clear b0
  go_wp2_with fail
  refine (O3.out _).mono ?_
  rintro e w' ⟨rfl, b0⟩
  replace hB := hB.trans (b0.mono hB.size); clear b0
  go_wp2_with fail
  refine (X1.out _).mono ?_
  rintro e w' ⟨rfl, b0⟩
  replace hB := hB.trans (b0.mono hB.size); clear b0
  go_wp2_with fail
  refine (X2.out _).mono ?_
  rintro e w' ⟨rfl, b0⟩
  replace hB := hB.trans (b0.mono hB.size); clear b0
  go_wp2_with fail
  refine (X3.out _).mono ?_
  rintro e w' ⟨rfl, b0⟩
  replace hB := hB.trans (b0.mono hB.size); clear b0
  go_wp2_with fail
  refine (I1.out _).mono ?_
  rintro e w' ⟨rfl, rfl⟩
  go_wp2_with fail
  refine (I2.out _).mono ?_
  rintro e w' ⟨rfl, rfl⟩
  go_wp2_with fail
  refine (M.out _).mono ?_
  rintro e w' ⟨rfl, rfl⟩
  go_wp2_with fail
  refine (P.out _).mono ?_
  rintro e w' ⟨rfl, b0⟩
  replace hB := hB.trans (b0.mono hB.size); clear b0
  go_wp2
  go_ret
  exact ⟨rfl, hB⟩
end Go.Proofs.Ytipmoklmolhffaa.G4
