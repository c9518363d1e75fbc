/-
  The walk of nat.estimate: the walk itself.
-/
import Derived.Test.YtkpkifhjedlieaaDoorEst2
import Derived.WalkMore
import Derived.Deep.QuietTactic
namespace Go.Proofs.YtkpkifhjedlieaaDoor
open Go.RowKit NM
theorem Quiet.cellAt {u w : World} (h : Quiet u w) (b i : Nat) : w.cell? ⟨b, i, none⟩ = u.cell? ⟨b, i, none⟩ := World.cell?_of_block (by rw [h.heap])
set_option maxRecDepth 100000 in
set_option maxHeartbeats 4000000 in
theorem estimate_walk (w : World) (b o cap b2 o2 cap2 n N u2 u1 u0 t nx : Nat) (hn : 2 ≤ n) (hN : n < N) (hn2 : N ≤ 9223372036854775806)
    (hc : N ≤ cap) (hc2 : n ≤ cap2)
    (hp2 : w.cell? ⟨b, o+n, none⟩ = some (.int .u64 (u2 : Nat))) (hp1 : w.cell? ⟨b, o+(n-1), none⟩ = some (.int .u64 (u1 : Nat))) (hp0 : w.cell? ⟨b, o+(n-2), none⟩ = some (.int .u64 (u0 : Nat)))
    (hy1 : w.cell? ⟨b2, o2+(n-1), none⟩ = some (.int .u64 (t : Nat))) (hy0 : w.cell? ⟨b2, o2+(n-2), none⟩ = some (.int .u64 (nx : Nat)))
    (l2 : u2 < 18446744073709551616) (l1 : u1 < 18446744073709551616) (l0 : u0 < 18446744073709551616) (lt : t < 18446744073709551616) (ln : nx < 18446744073709551616) :
    Calls Tryd.prog 52 #[.slice (some ⟨b, o, none⟩) N cap, .slice (some ⟨b2, o2, none⟩) n cap2] w (EstQ u2 u1 u0 t nx w) := by
  by_cases hge : t ≤ u2
  · have hd : decide ((t : Int) ≤ (u2 : Int)) = true := by simp; omega
    have HG := Lib.hid hge; clear hge
    have HL := Lib.hid (And.intro l2 (And.intro l1 (And.intro l0 (And.intro lt ln)))); clear l2 l1 l0 lt ln
    go_enter Tryd.func52, Tryd.ntmps52
    go_wp2
    go_step3
    go_wp2
    go_region
    all_goals go_wp2
    all_goals (rw [Exit.noGoto_ret])
    all_goals go_ret
    all_goals exact ⟨B64 - 1, rfl, (Quiet.refl _).drew, by decide, fun _ => rfl, fun h => absurd h (Nat.not_lt.2 HG.out)⟩
  · have hlt : u2 < t := by omega
    have hd : decide (t ≤ u2) = false := by simp; omega
    clear hge
    have x1 : n - 1 < N := by omega
    have x2 : (n : Int) - 1 < (N : Int) := by omega
    have x3 : IntKind.i64.wrap ((n : Int) - 1) = (n : Int) - 1 := IntWalk.i64_in _ ⟨by omega, by omega⟩
    have x7 : (1 : Int) ≤ (n : Int) := by omega
    have hI0 := Lib.hid (EstI.start u2 u1 u0 t nx hlt l1 l0 lt)
    have hdv : ∀ a, Calls Tryd.prog 64 #[.int .u64 u2, .int .u64 u1, .int .u64 t] (w.drewN (1 + a)) fun e w'' => e = .returned (.tuple #[.int .u64 (dq u2 u1 t : Nat), .int .u64 (dr u2 u1 t : Nat)]) ∧ ∃ m, w'' = w.drewN (1 + m) :=
      fun a => (Div64_d u2 u1 t l1 hlt lt _).mono fun _ _ ⟨he, m, hm⟩ => ⟨he, a + m, by rw [hm, World.drewN_drewN, Nat.add_assoc]⟩
    have HDV := Lib.hid hdv; clear hdv
    have HLT := Lib.hid hlt; clear hlt
    go_enter Tryd.func52, Tryd.ntmps52
    go_wp2
    go_step3
    go_wp2
    go_region
    all_goals go_wp2
    go_quiet ((go_at_call 64; exact HDV.out _))
    go_wp2
    go_step3
    go_wp2
    clear x2 x3 x7 hd
    have x8 : (2 : Int) ≤ (n : Int) := by omega
    have hq0 : Quiet w ((w.drew).drewN nq) := ((Quiet.refl _).drew).drewN nq
    generalize (w.drew).drewN nq = w1 at *
    have hp0' := (hq0.cellAt _ _).trans hp0
    have HQ0 := Lib.hid hq0; clear hq0
    have HP := Lib.hid (And.intro hp2 (And.intro hp1 (And.intro hp0 (And.intro hy1 hy0)))); clear hp2 hp1 hp0 hy1 hy0
    go_loop [8, 9, 10] (fun d l v => ∃ dd ll vv : Nat, d = .int .u64 (dd : Nat) ∧ l = .int .u64 (ll : Nat) ∧ v = .int .u64 (vv : Nat) ∧ Hid (EstI u2 u1 u0 t nx dd ll vv)) (fun d _ _ => (intOf d).toNat)
    case atStart => exact ⟨_, _, 0, rfl, rfl, rfl, hI0⟩
    case round =>
      obtain ⟨dd, ll, vv, rfl, rfl, rfl, hI⟩ := hrel
      have d64 : dd < 18446744073709551616 := hI.out.d64
      have l64 : ll < 18446744073709551616 := hI.out.l64
      by_cases hv0 : vv = 0
      · subst hv0
        have HC := Lib.hid (fun W => Compare_any (mh64 dd nx) ll W)
        have HM := Lib.hid (fun W => mul64_any dd nx d64 ln W)
        have HA := Lib.hid (fun W => add64_c0 ll t W)
        rcases Nat.lt_trichotomy (mh64 dd nx) ll with h | h | h
        · have hcm : cmp64 (mh64 dd nx) ll = -1 := by unfold cmp64; rw [if_pos h]
          have hg := hI.out.good (hI.out.lt h)
          rw [hcm] at HC
          have HG := Lib.hid (And.intro h (And.intro hcm hg)); clear h hcm hg
          go_wp2_with (first | (go_at_call 63; refine (HM.out _).mono ?_; rintro e w' ⟨rfl, rfl⟩) | (go_at_call 72; refine (HC.out _).mono ?_; rintro e w' ⟨rfl, rfl⟩))
          try rw [Exit.noGoto_ret]
          go_ret
          exact ⟨dd, rfl, HQ0.out, d64, fun h => absurd HLT.out (Nat.not_lt.2 h), fun _ => HG.out.2.2⟩
        · have hcm : cmp64 (mh64 dd nx) ll = 0 := by unfold cmp64; rw [if_neg (by omega), if_neg (by omega)]
          rw [hcm] at HC
          by_cases hu : ml64 dd nx ≤ u0
          · have hg := hI.out.good (hI.out.eql h hu)
            have HG := Lib.hid (And.intro h (And.intro hcm hg)); clear h hcm hg
            go_wp2_with (first | (go_at_call 63; refine (HM.out _).mono ?_; rintro e w' ⟨rfl, rfl⟩) | (go_at_call 72; refine (HC.out _).mono ?_; rintro e w' ⟨rfl, rfl⟩) | (simp only [add64_c0 ll t]))
            try rw [Exit.noGoto_ret]
            go_ret
            exact ⟨dd, rfl, HQ0.out, d64, fun h => absurd HLT.out (Nat.not_lt.2 h), fun _ => HG.out.2.2⟩
          · obtain ⟨hd1, hnx⟩ := hI.out.next lt (est_bad2 h (by omega))
            have hd2 : decide (ml64 dd nx ≤ u0) = false := by simp; omega
            have HG := Lib.hid (And.intro h (And.intro hcm (And.intro hu hnx))); clear h hcm hu hnx
            go_wp2_with (first | (go_at_call 63; refine (HM.out _).mono ?_; rintro e w' ⟨rfl, rfl⟩) | (go_at_call 72; refine (HC.out _).mono ?_; rintro e w' ⟨rfl, rfl⟩) | (simp only [add64_c0 ll t]))
            go_round
            case rel => exact ⟨dd - 1, lo64 ll t 0, hi64 ll t 0, by go_num, rfl, rfl, Lib.hid HG.out.2.2.2⟩
            case measure => (simp [intOf]; try omega)
        · have hcm : cmp64 (mh64 dd nx) ll = 1 := by unfold cmp64; rw [if_neg (by omega), if_pos h]
          rw [hcm] at HC
          obtain ⟨hd1, hnx⟩ := hI.out.next lt (est_bad1 l0 h)
          have HG := Lib.hid (And.intro h (And.intro hcm (And.intro h hnx))); clear h hcm hnx
          go_wp2_with (first | (go_at_call 63; refine (HM.out _).mono ?_; rintro e w' ⟨rfl, rfl⟩) | (go_at_call 72; refine (HC.out _).mono ?_; rintro e w' ⟨rfl, rfl⟩) | (simp only [add64_c0 ll t]))
          go_round
          case rel => exact ⟨dd - 1, lo64 ll t 0, hi64 ll t 0, by go_num, rfl, rfl, Lib.hid HG.out.2.2.2⟩
          case measure => (simp [intOf]; try omega)
      · have hvv := hI.out.v1
        obtain rfl : vv = 1 := by omega
        have hg := hI.out.good (hI.out.over ln)
        have HG := Lib.hid (And.intro hv0 (And.intro hv0 hg)); clear hv0 hg hvv
        go_wp2
        try rw [Exit.noGoto_ret]
        go_ret
        exact ⟨dd, rfl, HQ0.out, d64, fun h => absurd HLT.out (Nat.not_lt.2 h), fun _ => HG.out.2.2⟩
end Go.Proofs.YtkpkifhjedlieaaDoor
