/-
  The walk of group.Inv.
-/
import Derived.Test.YtihplnomhfpajaaGBase
namespace Go.Proofs.Ytihplnomhfpajaa.G4
open Go.RowKit GM
def InvQ (a m : Int) (w : World) (e : Ending) (w' : World) : Prop := ∃ (i : Int) (ok : Bool), IsInv a m i ok ∧ e = .returned (.tuple #[.int .i64 i, .bool ok]) ∧ w' = w
set_option maxHeartbeats 1000000 in
theorem Inv_any (w : World) (a m : Int) (ha : -9223372036854775808 ≤ a) (ha2 : a ≤ 9223372036854775807) (hm2 : m ≤ 9223372036854775807) :
    Calls Try.prog 50 #[.int .i64 a, .int .i64 m] w (InvQ a m w) := by
  by_cases h : m < 2
  · go_enter Try.func50, Try.ntmps50
    go_wp2
    go_ret2
    exact ⟨0, false, .inr ⟨rfl, rfl, .inl h⟩, rfl, rfl⟩
  · have hr := rng (f := a) (m := m) (by omega)
    have R1 := Lib.hid (residue_any w a m ha ha2 (by omega) hm2)
    have hS := Lib.hid (EI.start (a % m) m (by omega) hr.1 hr.2)
    have hI : Hid (∀ i ok, IsInv (a % m) m i ok → IsInv a m i ok) := Lib.hid (fun i ok h => h.res)
    generalize a % m = x at *
    go_enter Try.func50, Try.ntmps50
    go_wp2_with fail
    refine R1.out.mono ?_
    rintro e w' ⟨rfl, rfl⟩
    clear R1
    go_wp2_with fail
    go_loop [6, 7, 8, 9] (fun r s f g => ∃ (R S F G : Int), Hid (EI x m R S F G) ∧ r = .int .i64 R ∧ s = .int .i64 S ∧ f = .int .i64 F ∧ g = .int .i64 G) (fun _ s _ _ => (intOf s).toNat)
    case atStart => exact ⟨m, x, 0, 1, hS, rfl, rfl, rfl, rfl⟩
    case round =>
      obtain ⟨R, S, F, G, hE, rfl, rfl, rfl, rfl⟩ := hrel
      have hs0 := hE.out.s0
      have hsm := hE.out.sm
      have hr1 := hE.out.r1
      have hrm := hE.out.rm
      by_cases hs : S = 0
      · subst hs
        obtain ⟨e1, e2⟩ := hE.out.stop (by omega)
        by_cases hR : R = 1
        · have hb : (R == 1) = true := by simp [hR]
          have hf := hE.out.fb
          have e3 := Lib.hid (hI.out _ _ (e1 hR))
          have R2 := Lib.hid (residue_any w' F m (by omega) (by omega) (by omega) hm2)
          clear e1 e2
          generalize F % m = i at *
          go_wp2_with fail
          refine R2.out.mono ?_
          rintro e w2 ⟨rfl, rfl⟩
          go_wp2
          go_ret2
          exact ⟨i, true, e3.out, rfl, rfl⟩
        · have hb : (R == 1) = false := by simp [hR]
          have e3 := Lib.hid (hI.out _ _ (e2 hR))
          clear e1 e2
          go_wp2
          go_ret2
          exact ⟨0, false, e3.out, rfl, rfl⟩
      · have hsp : 0 < S := by omega
        have hsb : (S == 0) = false := beq_eq_false_iff_ne.2 hs
        have hp := hE.out.prods hsp
        have hN := Lib.hid (hE.out.step hsp)
        have hf := hE.out.fb
        have hg := hE.out.gb
        have hdiv : Int.tdiv R S = R / S := Int.tdiv_eq_ediv_of_nonneg (by omega)
        obtain ⟨q, hq0⟩ : ∃ q, R / S = q := ⟨_, rfl⟩
        rw [hq0] at hp hN hdiv
        obtain ⟨p1, hp1⟩ : ∃ p, q * S = p := ⟨_, rfl⟩
        obtain ⟨p2, hp2⟩ : ∃ p, q * G = p := ⟨_, rfl⟩
        rw [hp1, hp2] at hp
        rw [hp1, hp2] at hN
        clear hq0 hs
        go_wp2
        exact ⟨⟨S, R - p1, G, F - p2, hN, rfl, rfl, rfl, rfl⟩, by simp only [intOf]; omega⟩
end Go.Proofs.Ytihplnomhfpajaa.G4
