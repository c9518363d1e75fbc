/-
  The walk of the law WeightNeeds.
-/
import Derived.Test.YtihplnomhfpajaaWSanW
namespace Go.Proofs.Ytihplnomhfpajaa.W8
open Go.RowKit GM G4 D7P Go.Maps
theorem tmod_u (t : Int) (h0 : 0 ≤ t) : 0 ≤ Int.tmod t 2000 ∧ Int.tmod t 2000 < 2000 := by
  rw [Int.tmod_eq_emod_of_nonneg h0]; omega
set_option maxRecDepth 100000 in
set_option maxHeartbeats 4000000 in
theorem needs_walk (w : World) (t k raw : Int) (ht0 : 0 ≤ t) (ht1 : t ≤ 65535) (hk0 : 0 ≤ k) (hk1 : k ≤ 65535) (hr : i64 raw) :
    Calls Try.prog 4 #[.int .u16 t, .int .u16 k, .int .i64 raw] w fun e w' => e = .returned (.bool true) ∧ Below w.heap.size w w' := by
  have tn := tmod_u t ht0
  have tk := tmod_u k hk0
  obtain ⟨n, hn⟩ : ∃ n, Int.tmod t 2000 = n := ⟨_, rfl⟩
  obtain ⟨m, hm⟩ : ∃ m, Int.tmod k 2000 = m := ⟨_, rfl⟩
  rw [hn] at tn
  rw [hm] at tk
  go_enter Try.func4, Try.ntmps4
  go_wp2_with fail
  refine (sanity_any _).mono ?_
  rintro e w1 ⟨rfl, b⟩
  have HB := Lib.hid b; clear b
  by_cases h0 : n = 0
  · subst h0
    by_cases h1 : 1 ≤ raw
    · go_wp2_with fail
      refine (Most_any _ 0 0 (by decide) (by decide)).mono ?_
      rintro e w2 ⟨rfl, rfl⟩
      go_wp2_with fail
      refine (Need_any _ 0 0 (by decide) (by decide)).mono ?_
      rintro e w2 ⟨rfl, rfl⟩
      go_wp2
      go_ret
      exact ⟨rfl, HB.out⟩
    · have e1 : mst raw = 0 := by unfold mst; rw [if_pos (by omega)]
      have e2 : ned raw = 0 := by unfold ned; rw [if_pos (by omega)]
      go_wp2_with fail
      refine (Most_any _ 0 0 (by decide) (by decide)).mono ?_
      rintro e w2 ⟨rfl, rfl⟩
      go_wp2_with fail
      refine (Need_any _ 0 0 (by decide) (by decide)).mono ?_
      rintro e w2 ⟨rfl, rfl⟩
      go_wp2_with fail
      refine (Most_any _ raw 0 e1 hr).mono ?_
      rintro e w2 ⟨rfl, rfl⟩
      go_wp2_with fail
      refine (Need_any _ raw 0 e2 hr).mono ?_
      rintro e w2 ⟨rfl, rfl⟩
      go_wp2
      go_ret
      exact ⟨rfl, HB.out⟩
  · have hn1 : 1 ≤ n := by omega
    have hin : i64 n := ⟨by omega, by omega⟩
    have e1 : mst n = (n - 1) / 3 := by unfold mst; rw [if_neg (by omega), tdiv3 n hn1]
    have e2 : ned n = mst n + 1 := by unfold ned mst; rw [if_neg (by omega), if_neg (by omega)]
    have M := Lib.hid fun W => Most_any W n _ rfl hin
    have N := Lib.hid fun W => Need_any W n _ e2 hin
    generalize mst n = d at *
    have hd : 0 ≤ d ∧ d < 667 ∧ 3 * d < n ∧ n ≤ 3 * d + 3 := by omega
    have HD := Lib.hid hd
    have hE : decide (3 * m < n) = decide (m ≤ d) := by
      by_cases h : m ≤ d
      · rw [decide_eq_true h, decide_eq_true (by omega)]
      · rw [decide_eq_false h, decide_eq_false (by omega)]
    have hd0 : 0 ≤ d := hd.1
    have hd1 : d < 667 := hd.2.1
    have h3 : 2 * n < 3 * (n - d) := by omega
    have h4 : d + 1 ≤ n - d := by omega
    clear e1 e2 hd
    cases hc : decide (m ≤ d) with
    | true =>
      rw [hc] at hE
      have a1 : 3 * m < n := of_decide_eq_true hE
      have a2 : m ≤ d := of_decide_eq_true hc
      clear hE hc
      go_wp2_with fail
      refine (M.out _).mono ?_
      rintro e w2 ⟨rfl, rfl⟩
      go_wp2_with fail
      refine (N.out _).mono ?_
      rintro e w2 ⟨rfl, rfl⟩
      go_wp2_with fail
      refine (N.out _).mono ?_
      rintro e w2 ⟨rfl, rfl⟩
      go_wp2
      go_ret
      exact ⟨rfl, HB.out⟩
    | false =>
      rw [hc] at hE
      have a1 : ¬ 3 * m < n := of_decide_eq_false hE
      have a2 : ¬ m ≤ d := of_decide_eq_false hc
      clear hE hc
      go_wp2_with fail
      refine (M.out _).mono ?_
      rintro e w2 ⟨rfl, rfl⟩
      go_wp2_with fail
      refine (N.out _).mono ?_
      rintro e w2 ⟨rfl, rfl⟩
      go_wp2_with fail
      refine (N.out _).mono ?_
      rintro e w2 ⟨rfl, rfl⟩
      go_wp2
      go_ret
      exact ⟨rfl, HB.out⟩
end Go.Proofs.Ytihplnomhfpajaa.W8
