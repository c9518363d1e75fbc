/-
  The walk of the law GroupRanges.
-/
import Derived.Test.YtipmoklmolhffabGSan
import Derived.OpenShut
import Derived.Laws.Bits128
namespace Go.Proofs.Ytipmoklmolhffab.G4
open Go.RowKit GM
theorem and20 (n : Int) : bits .and .i64 n 1048575 = n % 1048576 := by
  have h127 : (BitVec.ofInt 64 1048575).toNat = 2 ^ 20 - 1 := by decide
  have key : (BitVec.ofInt 64 n &&& BitVec.ofInt 64 1048575).toNat = (n % ((2 ^ 64 : Nat) : Int)).toNat % 2 ^ 20 := by
    rw [BitVec.toNat_and, BitVec.toNat_ofInt, h127, Nat.and_two_pow_sub_one_eq_mod]
  show IntKind.i64.wrap ((BitVec.ofInt 64 n &&& BitVec.ofInt 64 1048575).toNat : Nat) = n % 1048576
  rw [key, IntKind.wrap_i64]
  omega
theorem and10 (n : Int) : bits .and .i64 n 1023 = n % 1024 := by
  have h127 : (BitVec.ofInt 64 1023).toNat = 2 ^ 10 - 1 := by decide
  have key : (BitVec.ofInt 64 n &&& BitVec.ofInt 64 1023).toNat = (n % ((2 ^ 64 : Nat) : Int)).toNat % 2 ^ 10 := by
    rw [BitVec.toNat_and, BitVec.toNat_ofInt, h127, Nat.and_two_pow_sub_one_eq_mod]
  show IntKind.i64.wrap ((BitVec.ofInt 64 n &&& BitVec.ofInt 64 1023).toNat : Nat) = n % 1024
  rw [key, IntKind.wrap_i64]
  omega
theorem and6 (n : Int) : bits .and .i64 n 63 = n % 64 := by
  have h127 : (BitVec.ofInt 64 63).toNat = 2 ^ 6 - 1 := by decide
  have key : (BitVec.ofInt 64 n &&& BitVec.ofInt 64 63).toNat = (n % ((2 ^ 64 : Nat) : Int)).toNat % 2 ^ 6 := by
    rw [BitVec.toNat_and, BitVec.toNat_ofInt, h127, Nat.and_two_pow_sub_one_eq_mod]
  show IntKind.i64.wrap ((BitVec.ofInt 64 n &&& BitVec.ofInt 64 63).toNat : Nat) = n % 64
  rw [key, IntKind.wrap_i64]
  omega
theorem ga_more (x y m c : Int) : ga (x + m * c) y m = ga x y m := by
  unfold ga; split
  · rfl
  · rw [show x + m * c + y = x + y + m * c by omega, Int.add_mul_emod_self_left]
theorem ga_less (x y m c : Int) : ga x (y - m * c) m = ga x y m := by
  unfold ga; split
  · rfl
  · rw [show x + (y - m * c) = x + y - m * c by omega, Int.sub_mul_emod_self_left]
theorem gs_more (x y m c : Int) : gs (x + m * c) y m = gs x y m := by
  unfold gs; split
  · rfl
  · rw [show x + m * c - y = x - y + m * c by omega, Int.add_mul_emod_self_left]
theorem gs_less (x y m c : Int) : gs x (y - m * c) m = gs x y m := by
  unfold gs; split
  · rfl
  · rw [show x - (y - m * c) = x - y + m * c by omega, Int.add_mul_emod_self_left]
theorem gm_more (x y m c : Int) : gm (x + m * c) y m = gm x y m := by
  unfold gm; split
  · rfl
  · rw [← mul_l, Int.add_mul_emod_self_left, mul_l]
theorem gm_less (x y m c : Int) : gm x (y - m * c) m = gm x y m := by
  unfold gm; split
  · rfl
  · rw [← mul_r, Int.sub_mul_emod_self_left, mul_r]
theorem gp_less (x e m c : Int) : gp (x - m * c) e m = gp x e m := by
  unfold gp; split
  · rfl
  · rw [← pow_emod, Int.sub_mul_emod_self_left, pow_emod]
theorem ga_no (x y m : Int) (h : m < 1) : ga x y m = 0 := by unfold ga; rw [if_pos h]
theorem gs_no (x y m : Int) (h : m < 1) : gs x y m = 0 := by unfold gs; rw [if_pos h]
theorem gm_no (x y m : Int) (h : m < 1) : gm x y m = 0 := by unfold gm; rw [if_pos h]
theorem gp_no (x y m : Int) (h : m < 1) : gp x y m = 0 := by unfold gp; rw [if_pos (.inl h)]
set_option maxRecDepth 100000 in
set_option maxHeartbeats 8000000 in
theorem ranges_walk (w : World) (x y q0 q1 : Int) (hx : -2147483648 ≤ x) (hx2 : x ≤ 2147483647) (hy : -2147483648 ≤ y) (hy2 : y ≤ 2147483647) (hq0 : -2147483648 ≤ q0) (hq02 : q0 ≤ 2147483647) (hq1 : -2147483648 ≤ q1) (hq12 : q1 ≤ 2147483647) :
    Calls Try.prog 3 #[.int .i32 x, .int .i32 y, .agg #[.int .i32 q0, .int .i32 q1]] w fun e w' => e = .returned (.bool true) ∧ Below w.heap.size w w' := by
  obtain ⟨z, hz⟩ : ∃ z, bits .and .i64 q0 1048575 = z := ⟨_, rfl⟩
  have hz1 : 0 ≤ z ∧ z < 1048576 := by rw [← hz, and20]; omega
  obtain ⟨c, hc⟩ : ∃ z, bits .and .i64 q1 1023 = z := ⟨_, rfl⟩
  have hc1 : 0 ≤ c ∧ c < 1024 := by rw [← hc, and10]; omega
  obtain ⟨n, hn⟩ : ∃ z, bits .and .i64 y 63 = z := ⟨_, rfl⟩
  have hn1 : 0 ≤ n ∧ n < 64 := by rw [← hn, and6]; omega
  obtain ⟨k, hk⟩ : ∃ k, (1 + z) * c = k := ⟨_, rfl⟩
  have hk1 : 0 ≤ k ∧ k ≤ 1073741824 := by
    have h1 := Int.mul_nonneg (show 0 ≤ 1 + z by omega) hc1.1
    have h2 : (1 + z) * c ≤ (1 + z) * 1024 := Int.mul_le_mul_of_nonneg_left (by omega) (by omega)
    omega
  have hB : Below w.heap.size w (w.alloc (.cells #[.int .i32 q0, .int .i32 q1] 22)) := (Below.refl _ w).alloc (Nat.le_refl _) _
  have hs : w.heap.size < (w.alloc (.cells #[.int .i32 q0, .int .i32 q1] 22)).heap.size := by simp
  have h0 : (w.alloc (.cells #[.int .i32 q0, .int .i32 q1] 22)).cell? ⟨w.heap.size, 0, none⟩ = some (.int .i32 q0) := World.cell?_alloc_at _ _ _ _ rfl
  have h1 : (w.alloc (.cells #[.int .i32 q0, .int .i32 q1] 22)).cell? ⟨w.heap.size, 1, none⟩ = some (.int .i32 q1) := World.cell?_alloc_at _ _ _ _ rfl
  go_enter Try.func3, Try.ntmps3
  go_wp2_with fail
  generalize w.alloc (.cells #[.int .i32 q0, .int .i32 q1] 22) = w0 at *
  refine (sanity_any _).mono ?_
  rintro e w' ⟨rfl, b0⟩
  replace h0 := (b0.cell (p := ⟨w.heap.size, 0, none⟩) hs).trans h0
  replace h1 := (b0.cell (p := ⟨w.heap.size, 1, none⟩) hs).trans h1
  replace hB := hB.trans (b0.mono hB.size); clear b0 hs
  go_wp2_with fail
  go_region
  go_wp2_with fail
  have hB1 : Below w.heap.size w (w'.alloc (.cells #[.func (.func 5) #[] #[], .func (.func 6) #[] #[], .func (.func 7) #[] #[]] 24)).drew := (hB.alloc hB.size _).drew
  have g0 : (w'.alloc (.cells #[.func (.func 5) #[] #[], .func (.func 6) #[] #[], .func (.func 7) #[] #[]] 24)).drew.cell? ⟨w'.heap.size, 0, none⟩ = some (.func (.func 5) #[] #[]) := World.cell?_alloc_at _ _ _ _ rfl
  have g1 : (w'.alloc (.cells #[.func (.func 5) #[] #[], .func (.func 6) #[] #[], .func (.func 7) #[] #[]] 24)).drew.cell? ⟨w'.heap.size, 1, none⟩ = some (.func (.func 6) #[] #[]) := World.cell?_alloc_at _ _ _ _ rfl
  have g2 : (w'.alloc (.cells #[.func (.func 5) #[] #[], .func (.func 6) #[] #[], .func (.func 7) #[] #[]] 24)).drew.cell? ⟨w'.heap.size, 2, none⟩ = some (.func (.func 7) #[] #[]) := World.cell?_alloc_at _ _ _ _ rfl
  clear hB h0 h1
  generalize (w'.alloc (.cells #[.func (.func 5) #[] #[], .func (.func 6) #[] #[], .func (.func 7) #[] #[]] 24)).drew = w1 at *
  generalize w'.heap.size = p at *
  obtain ⟨s, hs⟩ : ∃ s, gp x n (1 + z) = s := ⟨_, rfl⟩
  have hs1 := gp_rng x n (1 + z)
  rw [hs] at hs1
  have hs2 : 0 ≤ s := hs1.1
  have hs3 : s < 1 + z := hs1.2.2 (by omega)
  have P1 := Lib.hid fun W => pow_k W x n (1 + z) s hs (by omega) (by omega) (by omega) (by omega)
  have P2 := Lib.hid fun W => pow_k W (x - k) n (1 + z) s (by rw [← hk, gp_less, hs]) (by omega) (by omega) (by omega) (by omega)
  have P3 := Lib.hid fun W => pow_k W x n (-(1 + z)) 0 (gp_no _ _ _ (by omega)) (by omega) (by omega) (by omega) (by omega)
  have HS := Lib.hid hs
  clear hs hs1
  go_loop [34] (fun i => ∃ j : Nat, j ≤ 3 ∧ i = .int .i64 j) (fun i => 3 - (intOf i).toNat)
  case atStart => exact ⟨0, Nat.zero_le _, rfl⟩
  case round =>
    obtain ⟨j, hj, rfl⟩ := hrel
    by_cases hj3 : j < 3
    · rcases (show j = 0 ∨ j = 1 ∨ j = 2 by omega) with rfl | rfl | rfl
      · obtain ⟨r, hr⟩ : ∃ r, ga x y (1 + z) = r := ⟨_, rfl⟩
        have hr1 := ga_rng x y (1 + z)
        rw [hr] at hr1
        have hr2 : 0 ≤ r := hr1.1
        have hr3 : r < 1 + z := hr1.2.2 (by omega)
        have C1 := Lib.hid fun W => add_k W x y (1 + z) r hr (by omega) (by omega) (by omega) (by omega) (by omega)
        have C2 := Lib.hid fun W => add_k W (x + k) y (1 + z) r (by rw [← hk, ga_more, hr]) (by omega) (by omega) (by omega) (by omega) (by omega)
        have C3 := Lib.hid fun W => add_k W x (y - k) (1 + z) r (by rw [← hk, ga_less, hr]) (by omega) (by omega) (by omega) (by omega) (by omega)
        have C4 := Lib.hid fun W => add_k W x y (-(1 + z)) 0 (ga_no _ _ _ (by omega)) (by omega) (by omega) (by omega) (by omega) (by omega)
        have C5 := Lib.hid fun W => add_k W x y 0 0 (ga_no _ _ _ (by omega)) (by omega) (by omega) (by omega) (by omega) (by omega)
        have HR := Lib.hid hr
        clear hr hr1
        go_wp2_with fail
        refine (C1.out _).mono ?_
        rintro e w2 ⟨rfl, rfl⟩
        go_wp2_with fail
        refine (C2.out _).mono ?_
        rintro e w2 ⟨rfl, rfl⟩
        go_wp2_with fail
        refine (C3.out _).mono ?_
        rintro e w2 ⟨rfl, rfl⟩
        go_wp2_with fail
        refine (C4.out _).mono ?_
        rintro e w2 ⟨rfl, rfl⟩
        go_wp2_with fail
        refine (C5.out _).mono ?_
        rintro e w2 ⟨rfl, rfl⟩
        go_wp2_with fail
        go_round
        case rel => exact ⟨1, by omega, rfl⟩
        case measure => (simp [intOf]; try omega)
      · obtain ⟨r, hr⟩ : ∃ r, gs x y (1 + z) = r := ⟨_, rfl⟩
        have hr1 := gs_rng x y (1 + z)
        rw [hr] at hr1
        have hr2 : 0 ≤ r := hr1.1
        have hr3 : r < 1 + z := hr1.2.2 (by omega)
        have C1 := Lib.hid fun W => sub_k W x y (1 + z) r hr (by omega) (by omega) (by omega) (by omega) (by omega)
        have C2 := Lib.hid fun W => sub_k W (x + k) y (1 + z) r (by rw [← hk, gs_more, hr]) (by omega) (by omega) (by omega) (by omega) (by omega)
        have C3 := Lib.hid fun W => sub_k W x (y - k) (1 + z) r (by rw [← hk, gs_less, hr]) (by omega) (by omega) (by omega) (by omega) (by omega)
        have C4 := Lib.hid fun W => sub_k W x y (-(1 + z)) 0 (gs_no _ _ _ (by omega)) (by omega) (by omega) (by omega) (by omega) (by omega)
        have C5 := Lib.hid fun W => sub_k W x y 0 0 (gs_no _ _ _ (by omega)) (by omega) (by omega) (by omega) (by omega) (by omega)
        have HR := Lib.hid hr
        clear hr hr1
        go_wp2_with fail
        refine (C1.out _).mono ?_
        rintro e w2 ⟨rfl, rfl⟩
        go_wp2_with fail
        refine (C2.out _).mono ?_
        rintro e w2 ⟨rfl, rfl⟩
        go_wp2_with fail
        refine (C3.out _).mono ?_
        rintro e w2 ⟨rfl, rfl⟩
        go_wp2_with fail
        refine (C4.out _).mono ?_
        rintro e w2 ⟨rfl, rfl⟩
        go_wp2_with fail
        refine (C5.out _).mono ?_
        rintro e w2 ⟨rfl, rfl⟩
        go_wp2_with fail
        go_round
        case rel => exact ⟨2, by omega, rfl⟩
        case measure => (simp [intOf]; try omega)
      · obtain ⟨r, hr⟩ : ∃ r, gm x y (1 + z) = r := ⟨_, rfl⟩
        have hr1 := gm_rng x y (1 + z)
        rw [hr] at hr1
        have hr2 : 0 ≤ r := hr1.1
        have hr3 : r < 1 + z := hr1.2.2 (by omega)
        have C1 := Lib.hid fun W => mul_k W x y (1 + z) r hr (by omega) (by omega) (by omega) (by omega) (by omega)
        have C2 := Lib.hid fun W => mul_k W (x + k) y (1 + z) r (by rw [← hk, gm_more, hr]) (by omega) (by omega) (by omega) (by omega) (by omega)
        have C3 := Lib.hid fun W => mul_k W x (y - k) (1 + z) r (by rw [← hk, gm_less, hr]) (by omega) (by omega) (by omega) (by omega) (by omega)
        have C4 := Lib.hid fun W => mul_k W x y (-(1 + z)) 0 (gm_no _ _ _ (by omega)) (by omega) (by omega) (by omega) (by omega) (by omega)
        have C5 := Lib.hid fun W => mul_k W x y 0 0 (gm_no _ _ _ (by omega)) (by omega) (by omega) (by omega) (by omega) (by omega)
        have HR := Lib.hid hr
        clear hr hr1
        go_wp2_with fail
        refine (C1.out _).mono ?_
        rintro e w2 ⟨rfl, rfl⟩
        go_wp2_with fail
        refine (C2.out _).mono ?_
        rintro e w2 ⟨rfl, rfl⟩
        go_wp2_with fail
        refine (C3.out _).mono ?_
        rintro e w2 ⟨rfl, rfl⟩
        go_wp2_with fail
        refine (C4.out _).mono ?_
        rintro e w2 ⟨rfl, rfl⟩
        go_wp2_with fail
        refine (C5.out _).mono ?_
        rintro e w2 ⟨rfl, rfl⟩
        go_wp2_with fail
        go_round
        case rel => exact ⟨3, by omega, rfl⟩
        case measure => (simp [intOf]; try omega)
    · obtain rfl : j = 3 := by omega
      go_wp2_with fail
      refine (P1.out _).mono ?_
      rintro e w3 ⟨rfl, b3⟩
      have hB3 := hB1.trans (b3.mono hB1.size)
      go_wp2_with fail
      refine (P2.out _).mono ?_
      rintro e w4 ⟨rfl, b4⟩
      have hB4 := hB3.trans (b4.mono hB3.size)
      go_wp2_with fail
      refine (P3.out _).mono ?_
      rintro e w5 ⟨rfl, b5⟩
      have hB5 := hB4.trans (b5.mono hB4.size)
      go_wp2
      go_ret
      exact ⟨rfl, hB5⟩
end Go.Proofs.Ytipmoklmolhffab.G4
