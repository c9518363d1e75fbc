/-
  The walks of the reference's Bits and Right.
-/
import Derived.Test.YtfamhaklfclcfaaGreatDoorRefInt
namespace Go.Proofs.YtfamhaklfclcfaaGreatDoor
open Go.RowKit NM
theorem bl_half : ∀ n, n < 256 → 0 < n → bl n = bl (n / 2) + 1 := by decide +kernel
theorem bl_small : ∀ n, n < 256 → bl n ≤ 8 := by decide +kernel
set_option maxRecDepth 100000 in
set_option maxHeartbeats 1000000 in
theorem RefBits_any (w : World) (a : ByteArray) (ha : a.size ≤ 4294967296) :
    Calls Tryz.prog 38 #[.string a] w fun e w' => e = .returned (.int .i64 (bl (sv a) : Nat)) ∧ w = w' := by
  have hc := Canon_any w a ha
  have hts := tz_size_le a
  have hz := @tz_zero a
  have hb := @tz_bits a
  obtain ⟨t, ht⟩ : ∃ t, t = tz a := ⟨_, rfl⟩
  rw [← ht] at hc hts hz hb
  have HC := Lib.hid hc; clear hc
  clear ht
  by_cases h0 : t.size = 0
  · have HZ := Lib.hid (hz h0); clear hz hb
    have e1 : ((t.size : Int) == 0) = true := by rw [h0]; rfl
    go_enter Tryz.func38, Tryz.ntmps38
    go_wp2_with fail
    refine HC.out.mono ?_
    rintro e w1 ⟨rfl, rfl⟩
    go_wp2
    go_ret
    exact ⟨by rw [HZ.out]; rfl, rfl⟩
  · have hp : 0 < t.size := by omega
    have e1 : ((t.size : Int) == 0) = false := beq_eq_false_iff_ne.2 (by omega)
    have hbb := hb hp
    rw [bitLen_bl _ (t[0]'hp).toNat_lt] at hbb
    have HB := Lib.hid hbb
    clear hz hb hbb
    have hlt : (t[0]'hp).toNat < 256 := (t[0]'hp).toNat_lt
    have hs : t.size ≤ 4294967296 := by omega
    go_enter Tryz.func38, Tryz.ntmps38
    go_wp2_with fail
    refine HC.out.mono ?_
    rintro e w1 ⟨rfl, rfl⟩
    go_wp2_with fail
    go_loop [3, 4] (fun B v => ∃ bb V : Nat, V < 256 ∧ bb ≤ 34359738400 ∧ B = .int .i64 (bb : Nat) ∧ v = .int .i64 (V : Nat) ∧ Hid (bb + bl V = bl (sv a))) (fun _ v => (intOf v).toNat)
    case atStart => exact ⟨8 * (t.size - 1), (t[0]'hp).toNat, hlt, by omega, by go_num, rfl, Lib.hid HB.out.symm⟩
    case round =>
      obtain ⟨bb, V, hV, hbb, rfl, rfl, hinv⟩ := hrel
      by_cases hv0 : V = 0
      · subst hv0
        go_wp2
        go_ret
        refine ⟨?_, rfl⟩
        have := hinv.out
        rw [show bl 0 = 0 from rfl, Nat.add_zero] at this
        rw [← this]
        rfl
      · have hd : decide ((0 : Int) < (V : Int)) = true := by simp; omega
        have hb2 : bb + 1 + bl (V / 2) = bl (sv a) := by have := hinv.out; rw [bl_half V hV (by omega)] at this; omega
        have HB2 := Lib.hid hb2; clear hb2
        go_wp2
        go_round
        case rel => exact ⟨bb + 1, V / 2, by omega, by have := HB2.out; have := HB.out; have := bl_small _ hlt; omega, by go_num, by go_num, HB2⟩
        case measure => (simp [intOf]; try omega)
theorem RefRight_any (w : World) (a : ByteArray) :
    Calls Tryz.prog 19 #[.string a] w fun e w' => e = .returned (.bool (rgt a)) ∧ w = w' := by
  by_cases h0 : a.size = 0
  · have er : rgt a = true := by unfold rgt; rw [size_zero_list h0]; rfl
    have ER := Lib.hid er; clear er
    have e1 : ((a.size : Int) == 0) = true := by rw [h0]; rfl
    clear h0
    go_enter Tryz.func19, Tryz.ntmps19
    go_wp2
    go_ret
    exact ⟨by rw [ER.out]; rfl, rfl⟩
  · have hp : 0 < a.size := by omega
    have e1 : ((a.size : Int) == 0) = false := beq_eq_false_iff_ne.2 (by omega)
    have ER := Lib.hid (rgt_get hp)
    go_enter Tryz.func19, Tryz.ntmps19
    go_wp2
    go_ret
    exact ⟨by rw [ER.out]; rfl, rfl⟩
end Go.Proofs.YtfamhaklfclcfaaGreatDoor
