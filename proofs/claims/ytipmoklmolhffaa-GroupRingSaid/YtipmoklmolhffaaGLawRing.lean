/-
  The walk of the law GroupRing.
-/
import Derived.Test.YtipmoklmolhffaaGSan
import Derived.OpenShut
namespace Go.Proofs.Ytipmoklmolhffaa
open Go.RowKit GM
theorem cells4 (w : World) (t : TypeId) (m : Int) (hm : -9223372036854775808 ≤ m) (hm2 : m ≤ 9223372036854775807) (y : Int) (hy : -9223372036854775808 ≤ y ∧ y ≤ 9223372036854775807) : ∀ k, k < 4 → ∃ n : Int, (-9223372036854775808 ≤ n ∧ n ≤ 9223372036854775807) ∧
    (w.alloc (.cells #[.int .i64 m, .int .i64 2305843009213691579, .int .i64 1152921504606845789, .int .i64 y] t)).cell? ⟨w.heap.size, k, none⟩ = some (.int .i64 n) := by
  intro k hk
  rw [World.cell?_alloc_at _ _ _ _ rfl]
  match k, hk with
  | 0, _ => exact ⟨m, ⟨hm, hm2⟩, rfl⟩
  | 1, _ => exact ⟨_, by omega, rfl⟩
  | 2, _ => exact ⟨_, by omega, rfl⟩
  | 3, _ => exact ⟨y, hy, rfl⟩
theorem inv_w (w : World) (a m i : Int) (ok : Bool) (h : IsInv a m i ok) (ha : -9223372036854775808 ≤ a) (ha2 : a ≤ 9223372036854775807) (hm2 : m ≤ 9223372036854775807) :
    Calls Try.prog 15 #[.int .i64 a, .int .i64 m] w fun e w' => e = .returned (.tuple #[.int .i64 i, .bool ok]) ∧ w' = w :=
  (Inv_any w a m ha ha2 hm2).mono fun e w' ⟨j, is, h1, h2, q⟩ => by
    obtain ⟨rfl, rfl⟩ := h.unique h1
    exact ⟨h2, q⟩
theorem fits {x n : Int} (h : 0 ≤ x ∧ (n < 1 → x = 0) ∧ (1 ≤ n → x < n)) (hn : n ≤ 9223372036854775807) : -9223372036854775808 ≤ x ∧ x ≤ 9223372036854775807 := by omega
set_option maxRecDepth 100000 in
set_option maxHeartbeats 8000000 in
theorem ring_walk (w : World) (a b c m : Int) (ha : -9223372036854775808 ≤ a) (ha2 : a ≤ 9223372036854775807) (hb : -9223372036854775808 ≤ b) (hb2 : b ≤ 9223372036854775807) (hc : -9223372036854775808 ≤ c) (hc2 : c ≤ 9223372036854775807) (hm : -9223372036854775808 ≤ m) (hm2 : m ≤ 9223372036854775807) :
    Calls Try.prog 6 #[.agg #[.int .i64 a, .int .i64 b, .int .i64 c], .int .i64 m] w fun e w' => e = .returned (.bool true) ∧ Below w.heap.size w w' := by
  have hB : Below w.heap.size w (w.alloc (.cells #[.int .i64 a, .int .i64 b, .int .i64 c] 36)) := (Below.refl _ w).alloc (Nat.le_refl _) _
  have hs : w.heap.size < (w.alloc (.cells #[.int .i64 a, .int .i64 b, .int .i64 c] 36)).heap.size := by simp
  have h0 : (w.alloc (.cells #[.int .i64 a, .int .i64 b, .int .i64 c] 36)).cell? ⟨w.heap.size, 0, none⟩ = some (.int .i64 a) := World.cell?_alloc_at _ _ _ _ rfl
  have h1 : (w.alloc (.cells #[.int .i64 a, .int .i64 b, .int .i64 c] 36)).cell? ⟨w.heap.size, 1, none⟩ = some (.int .i64 b) := World.cell?_alloc_at _ _ _ _ rfl
  have h2 : (w.alloc (.cells #[.int .i64 a, .int .i64 b, .int .i64 c] 36)).cell? ⟨w.heap.size, 2, none⟩ = some (.int .i64 c) := World.cell?_alloc_at _ _ _ _ rfl
  go_enter Try.func6, Try.ntmps6
  go_wp2_with fail
  generalize w.alloc (.cells #[.int .i64 a, .int .i64 b, .int .i64 c] 36) = w0 at *
  refine (sanity_any _).mono ?_
  rintro e w' ⟨rfl, b0⟩
  replace h0 := (b0.cell (p := ⟨w.heap.size, 0, none⟩) hs).trans h0
  replace h1 := (b0.cell (p := ⟨w.heap.size, 1, none⟩) hs).trans h1
  replace h2 := (b0.cell (p := ⟨w.heap.size, 2, none⟩) hs).trans h2
  replace hB := hB.trans (b0.mono hB.size); clear b0 hs
  go_wp2_with fail
  go_region
  go_wp2_with fail
  have hy := bounds_i64 (wf_bits BinOp.and IntKind.i64 m 63)
  generalize bits BinOp.and IntKind.i64 m 63 = y at *
  have hcells := cells4 w' 3 m hm hm2 y hy
  have hB1 : Below w.heap.size w (w'.alloc (.cells #[.int .i64 m, .int .i64 2305843009213691579, .int .i64 1152921504606845789, .int .i64 y] 3)).drew := (hB.alloc hB.size _).drew
  have hcells1 : Hid (∀ k, k < 4 → ∃ n : Int, (-9223372036854775808 ≤ n ∧ n ≤ 9223372036854775807) ∧ (w'.alloc (.cells #[.int .i64 m, .int .i64 2305843009213691579, .int .i64 1152921504606845789, .int .i64 y] 3)).drew.cell? ⟨w'.heap.size, k, none⟩ = some (.int .i64 n)) := Lib.hid hcells
  clear hcells hB h0 h1 h2
  generalize (w'.alloc (.cells #[.int .i64 m, .int .i64 2305843009213691579, .int .i64 1152921504606845789, .int .i64 y] 3)).drew = w1 at *
  generalize w'.heap.size = p at *
  go_loop [25] (fun i => ∃ k : Nat, k ≤ 4 ∧ i = .int .i64 k) (fun i => 4 - (intOf i).toNat)
  case atStart => exact ⟨0, Nat.zero_le _, rfl⟩
  case round =>
    obtain ⟨k, hk, rfl⟩ := hrel
    by_cases hk4 : k < 4
    · obtain ⟨n, hn, hcell⟩ := hcells1.out k hk4
      obtain ⟨s, hs⟩ : ∃ s, ga a b n = s := ⟨_, rfl⟩
      obtain ⟨p1, hp1⟩ : ∃ s, gm a b n = s := ⟨_, rfl⟩
      obtain ⟨q1, hq1⟩ : ∃ s, gm p1 c n = s := ⟨_, rfl⟩
      obtain ⟨r1, hr1⟩ : ∃ s, gm b c n = s := ⟨_, rfl⟩
      obtain ⟨t1, ht1⟩ : ∃ s, ga b c n = s := ⟨_, rfl⟩
      obtain ⟨u1, hu1⟩ : ∃ s, gm a t1 n = s := ⟨_, rfl⟩
      obtain ⟨v1, hv1⟩ : ∃ s, gm a c n = s := ⟨_, rfl⟩
      obtain ⟨z1, hz1⟩ : ∃ s, ga a 0 n = s := ⟨_, rfl⟩
      have fs := fits (ga_rng a b n) hn.2
      have fp := fits (gm_rng a b n) hn.2
      have fr := fits (gm_rng b c n) hn.2
      have ft := fits (ga_rng b c n) hn.2
      have fv := fits (gm_rng a c n) hn.2
      rw [hs] at fs; rw [hp1] at fp; rw [hr1] at fr; rw [ht1] at ft; rw [hv1] at fv
      have A1 := Lib.hid fun W => add_k W a b n s hs ha ha2 hb hb2 hn.2
      have A2 := Lib.hid fun W => add_k W b a n s (by rw [ga_comm, hs]) hb hb2 ha ha2 hn.2
      have M1 := Lib.hid fun W => mul_k W a b n p1 hp1 ha ha2 hb hb2 hn.2
      have M2 := Lib.hid fun W => mul_k W b a n p1 (by rw [gm_comm, hp1]) hb hb2 ha ha2 hn.2
      have M3 := Lib.hid fun W => mul_k W p1 c n q1 hq1 fp.1 fp.2 hc hc2 hn.2
      have M4 := Lib.hid fun W => mul_k W b c n r1 hr1 hb hb2 hc hc2 hn.2
      have M5 := Lib.hid fun W => mul_k W a r1 n q1 (by rw [← hr1, ← gm_assoc, hp1, hq1]) ha ha2 fr.1 fr.2 hn.2
      have A3 := Lib.hid fun W => add_k W b c n t1 ht1 hb hb2 hc hc2 hn.2
      have M6 := Lib.hid fun W => mul_k W a t1 n u1 hu1 ha ha2 ft.1 ft.2 hn.2
      have M7 := Lib.hid fun W => mul_k W a c n v1 hv1 ha ha2 hc hc2 hn.2
      have A4 := Lib.hid fun W => add_k W p1 v1 n u1 (by rw [← hp1, ← hv1, ← gm_dist, ht1, hu1]) fp.1 fp.2 fv.1 fv.2 hn.2
      have S1 := Lib.hid fun W => sub_k W s b n z1 (by rw [← hs, gs_ga, hz1]) fs.1 fs.2 hb hb2 hn.2
      have A5 := Lib.hid fun W => add_k W a 0 n z1 hz1 ha ha2 (by decide) (by decide) hn.2
      have HZ := Lib.hid hz1
      clear hs hp1 hq1 hr1 ht1 hu1 hv1 hz1 fs fp fr ft fv
      go_wp2_with fail
      refine (A1.out _).mono ?_
      rintro e w2 ⟨rfl, rfl⟩
      go_wp2_with fail
      refine (A2.out _).mono ?_
      rintro e w2 ⟨rfl, rfl⟩
      go_wp2_with fail
      refine (M1.out _).mono ?_
      rintro e w2 ⟨rfl, rfl⟩
      go_wp2_with fail
      refine (M2.out _).mono ?_
      rintro e w2 ⟨rfl, rfl⟩
      go_wp2_with fail
      refine (M1.out _).mono ?_
      rintro e w2 ⟨rfl, rfl⟩
      go_wp2_with fail
      refine (M3.out _).mono ?_
      rintro e w2 ⟨rfl, rfl⟩
      go_wp2_with fail
      refine (M4.out _).mono ?_
      rintro e w2 ⟨rfl, rfl⟩
      go_wp2_with fail
      refine (M5.out _).mono ?_
      rintro e w2 ⟨rfl, rfl⟩
      go_wp2_with fail
      refine (A3.out _).mono ?_
      rintro e w2 ⟨rfl, rfl⟩
      go_wp2_with fail
      refine (M6.out _).mono ?_
      rintro e w2 ⟨rfl, rfl⟩
      go_wp2_with fail
      refine (M1.out _).mono ?_
      rintro e w2 ⟨rfl, rfl⟩
      go_wp2_with fail
      refine (M7.out _).mono ?_
      rintro e w2 ⟨rfl, rfl⟩
      go_wp2_with fail
      refine (A4.out _).mono ?_
      rintro e w2 ⟨rfl, rfl⟩
      go_wp2_with fail
      refine (A1.out _).mono ?_
      rintro e w2 ⟨rfl, rfl⟩
      go_wp2_with fail
      refine (S1.out _).mono ?_
      rintro e w2 ⟨rfl, rfl⟩
      go_wp2_with fail
      refine (A5.out _).mono ?_
      rintro e w2 ⟨rfl, rfl⟩
      go_wp2_with fail
      refine (Inv_any _ a n ha ha2 hn.2).mono ?_
      rintro e w2 ⟨i, ok, hI, rfl, rfl⟩
      clear A1 A2 M1 M2 M3 M4 M5 A3 M6 M7 A4 S1
      have HI := Lib.hid hI
      clear hI
      cases ok with
      | true =>
        have h1 := HI.out.one
        have M8 := Lib.hid fun W => mul_k W a i n 1 h1.1 ha ha2 (by omega) (by omega) hn.2
        have h2 := h1.2
        clear h1
        by_cases hP : n = 2305843009213691579
        · have hz : (z1 != 0) = true := by
              have h := IsInv.ofP (show IsInv a (gP : Int) i true by rw [← show n = (gP : Int) from hP]; exact HI.out)
              rw [← show n = (gP : Int) from hP, HZ.out] at h
              simpa using h
          subst hP
          go_wp2_with fail
          refine (M8.out _).mono ?_
          rintro e w3 ⟨rfl, rfl⟩
          go_wp2_with fail
          refine (A5.out _).mono ?_
          rintro e w4 ⟨rfl, rfl⟩
          go_wp2_with fail
          go_round
          case rel => exact ⟨k + 1, by omega, by go_num⟩
          case measure => (simp [intOf]; omega)
        · by_cases hQ : n = 1152921504606845789
          · have hz : (z1 != 0) = true := by
              have h := IsInv.ofQ (show IsInv a (gQ : Int) i true by rw [← show n = (gQ : Int) from hQ]; exact HI.out)
              rw [← show n = (gQ : Int) from hQ, HZ.out] at h
              simpa using h
            subst hQ
            go_wp2_with fail
            refine (M8.out _).mono ?_
            rintro e w3 ⟨rfl, rfl⟩
            go_wp2_with fail
            refine (A5.out _).mono ?_
            rintro e w4 ⟨rfl, rfl⟩
            go_wp2_with fail
            go_round
            case rel => exact ⟨k + 1, by omega, by go_num⟩
            case measure => (simp [intOf]; omega)
          · have e1 : (n == 2305843009213691579) = false := beq_eq_false_iff_ne.2 hP
            have e2 : (n == 1152921504606845789) = false := beq_eq_false_iff_ne.2 hQ
            go_wp2_with fail
            refine (M8.out _).mono ?_
            rintro e w3 ⟨rfl, rfl⟩
            go_wp2_with fail
            go_round
            case rel => exact ⟨k + 1, by omega, by go_num⟩
            case measure => (simp [intOf]; omega)
      | false =>
        obtain rfl := HI.out.none
        by_cases hP : n = 2305843009213691579
        · have hz : (z1 != 0) = false := by
              have h := IsInv.ofP (show IsInv a (gP : Int) 0 false by rw [← show n = (gP : Int) from hP]; exact HI.out)
              rw [← show n = (gP : Int) from hP, HZ.out] at h
              simpa using h
          subst hP
          go_wp2_with fail
          refine (A5.out _).mono ?_
          rintro e w4 ⟨rfl, rfl⟩
          go_wp2_with fail
          go_round
          case rel => exact ⟨k + 1, by omega, by go_num⟩
          case measure => (simp [intOf]; omega)
        · by_cases hQ : n = 1152921504606845789
          · have hz : (z1 != 0) = false := by
              have h := IsInv.ofQ (show IsInv a (gQ : Int) 0 false by rw [← show n = (gQ : Int) from hQ]; exact HI.out)
              rw [← show n = (gQ : Int) from hQ, HZ.out] at h
              simpa using h
            subst hQ
            go_wp2_with fail
            refine (A5.out _).mono ?_
            rintro e w4 ⟨rfl, rfl⟩
            go_wp2_with fail
            go_round
            case rel => exact ⟨k + 1, by omega, by go_num⟩
            case measure => (simp [intOf]; omega)
          · have e1 : (n == 2305843009213691579) = false := beq_eq_false_iff_ne.2 hP
            have e2 : (n == 1152921504606845789) = false := beq_eq_false_iff_ne.2 hQ
            go_wp2_with fail
            go_round
            case rel => exact ⟨k + 1, by omega, by go_num⟩
            case measure => (simp [intOf]; omega)
    · obtain rfl : k = 4 := by omega
      go_wp2
      go_ret
      exact ⟨rfl, hB1⟩
end Go.Proofs.Ytipmoklmolhffaa
