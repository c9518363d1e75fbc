/-
  The walk of math/bits.Div64: the quotient and the rest of two words and one, where the quotient fits into a word.
  The walk of nat.divideWord: a number is divided by a word, in place.
  The walk of nat.takeProduct.
-/
import Derived.Test.YteccbedmpjeamaaGreatDoorProd
import Derived.Test.YteccbedmpjeamaaGreatDoorMath
import Derived.BigQuiet
import Derived.Deep.CutBlock
import Derived.Deep.DeepCutAuto
import Derived.Lib.ItoaNum
namespace Go.Proofs.YteccbedmpjeamaaGreatDoor
open Go.RowKit NM
def DivQ (hi lo y : Nat) (w : World) (e : Ending) (w' : World) : Prop :=
  e = .returned (.tuple #[.int .u64 (((hi * 18446744073709551616 + lo) / y : Nat) : Int), .int .u64 (((hi * 18446744073709551616 + lo) % y : Nat) : Int)]) ∧ ∃ m, w' = w.drewN m
set_option maxHeartbeats 400000 in
theorem Div64_small (lo y : Nat) (hy : 0 < y) (hlo : lo < 18446744073709551616) (hy64 : y < 18446744073709551616) (w : World) :
    Calls Tryz.prog 113 #[.int .u64 0, .int .u64 lo, .int .u64 y] w (DivQ 0 lo y w) := by
  have hb : ((y : Int) == 0) = false := by simp; omega
  go_enter Tryz.func113, Tryz.ntmps113
  go_wp2
  go_region
  all_goals go_wp2
  all_goals go_ret2
  have hd : IntKind.u64.wrap ((lo : Int) / (y : Int)) = (lo : Int) / (y : Int) := by
    have e : (lo : Int) / (y : Int) = ((lo / y : Nat) : Int) := by rw [Int.natCast_ediv]
    have h := Nat.div_le_self lo y
    rw [e]
    generalize lo / y = q at h
    exact IntWalk.u64_in _ ⟨by omega, by omega⟩
  all_goals exact ⟨by simp [hd], 1, rfl⟩
set_option maxRecDepth 100000 in
set_option maxHeartbeats 4000000 in
theorem Div64_big (hi lo y s : Nat) (hlo : lo < 18446744073709551616) (hhi : hi < y) (hhi0 : 0 < hi) (hs : s ≤ 63) (hy64 : y < 18446744073709551616) (h63 : 9223372036854775808 ≤ y * 2^s) (h64 : y * 2^s < 18446744073709551616)
    (hbl : Lib.bitLen y + s = 64) (w : World) :
    Calls Tryz.prog 113 #[.int .u64 hi, .int .u64 lo, .int .u64 y] w (DivQ hi lo y w) := by
  obtain ⟨Y, y1, y0, u, a, un1, un0, Q1, R1, Q0, R0, D⟩ := dv_exists hi lo y s hlo hhi hs h63 h64
  have b0 : ((y : Int) == 0) = false := by simp; omega
  have b1 : decide ((y : Int) ≤ (hi : Int)) = false := by simp; omega
  have b2 : ((hi : Int) == 0) = false := by simp; omega
  have hlz := Tryz.bits_LeadingZeros64 (y : Int) w (by omega) (by omega)
  rw [Int.toNat_natCast, show (64 - (Lib.bitLen y : Int)) = (s : Int) by omega] at hlz
  have HLZ := Lib.hid hlz; clear hlz
  have e1 : IntKind.u64.wrap ((y : Int) * 2^s) = (Y : Int) := by
    rw [show ((y : Int) * 2^s) = ((y * 2^s : Nat) : Int) by rw [Int.natCast_mul, Int.natCast_pow]; rfl, ← D.hY]
    exact IntWalk.u64_in _ ⟨by omega, by have := D.Ylt; omega⟩
  have HE1 := Lib.hid e1; clear e1
  have hY := D.Ylt
  have y1lo := D.y1lo
  have y1hi := D.y1hi
  have y0hi := D.y0hi
  have un1lt := D.un1lt
  have un0lt := D.un0lt
  have hula : u < 18446744073709551616 := by have := D.uY; omega
  have hala : a < 18446744073709551616 := by rw [D.ha]; exact Nat.mod_lt _ (by decide)
  have e2 : ((Y : Int) / 4294967296) = (y1 : Int) := by have := D.h1; omega
  have e3 : bits .and .u64 (Y : Int) 4294967295 = (y0 : Int) := by
    rw [show (4294967295 : Int) = ((4294967295 : Nat) : Int) from rfl, bits_and_u64_nat Y 4294967295 hY (by decide), D.h0, show (4294967295 : Nat) = 2^32 - 1 from rfl, Nat.and_two_pow_sub_one_eq_mod]
  have e6 : bits .or .u64 (IntKind.u64.wrap ((hi : Int) * 2^s)) ((lo : Int) / 2^(64 - s)) = (u : Int) := by
    rw [show ((hi : Int) * 2^s) = ((hi * 2^s : Nat) : Int) by rw [Int.natCast_mul, Int.natCast_pow]; rfl, IntWalk.u64_in _ ⟨by omega, by have := D.his; omega⟩,
      show ((lo : Int) / 2^(64-s)) = ((lo / 2^(64-s) : Nat) : Int) by rw [Int.natCast_ediv, Int.natCast_pow]; rfl]
    rw [bits_or_u64_nat _ _ D.his (Nat.lt_of_le_of_lt (Nat.div_le_self _ _) hlo), D.hor]
  have e7 : IntKind.u64.wrap ((lo : Int) * 2^s) = (a : Int) := by
    rw [show ((lo : Int) * 2^s) = ((lo * 2^s : Nat) : Int) by rw [Int.natCast_mul, Int.natCast_pow]; rfl, IntKind.wrap_u64, D.ha]; omega
  have e8 : ((a : Int) / 4294967296) = (un1 : Int) := by have := D.hun1; omega
  have e9 : bits .and .u64 (a : Int) 4294967295 = (un0 : Int) := by
    rw [show (4294967295 : Int) = ((4294967295 : Nat) : Int) from rfl, bits_and_u64_nat a 4294967295 hala (by decide), D.hun0, show (4294967295 : Nat) = 2^32 - 1 from rfl, Nat.and_two_pow_sub_one_eq_mod]
  obtain ⟨qa, hqa⟩ : ∃ qa, qa = u / y1 := ⟨_, rfl⟩
  obtain ⟨ra, hra⟩ : ∃ ra, ra = u % y1 := ⟨_, rfl⟩
  obtain ⟨ma, hma⟩ : ∃ ma, ma = qa * y1 := ⟨_, rfl⟩
  have hqu : qa ≤ u := by rw [hqa]; exact Nat.div_le_self _ _
  have hsum : ma + ra = u := by rw [hma, hqa, hra]; have := Nat.div_add_mod u y1; rw [Nat.mul_comm] at this; exact this
  have e10 : IntKind.u64.wrap ((u : Int) / (y1 : Int)) = (qa : Int) := by
    rw [show ((u : Int) / (y1 : Int)) = ((u / y1 : Nat) : Int) by rw [Int.natCast_ediv], ← hqa]; exact IntWalk.u64_in _ ⟨by omega, by omega⟩
  have e11 : IntKind.u64.wrap ((qa : Int) * (y1 : Int)) = (ma : Int) := by
    rw [show ((qa : Int) * (y1 : Int)) = ((qa * y1 : Nat) : Int) by rw [Int.natCast_mul], ← hma]; exact IntWalk.u64_in _ ⟨by omega, by omega⟩
  have e12 : ((u : Int) - (ma : Int)) = (ra : Int) := by omega
  have hmu : ma ≤ u := by omega
  have hrlt : ra < 4294967296 := by have : ra < y1 := by rw [hra]; exact Nat.mod_lt _ (by omega)
                                    omega
  have hst : Q1 ≤ qa := by rw [D.q1, hqa]; exact dd_start _ _ _ _ _ (by omega) (by omega) un1lt
  have inv0 : Hid (qa * y1 + ra = u) := by show _ = _; omega
  have HD := Lib.hid D; clear D
  have HH := Lib.hid (And.intro hqa (And.intro hra (And.intro hma hsum))); clear hqa hra hma hsum
  have e1 := HE1.out; clear HE1
  go_enter Tryz.func113, Tryz.ntmps113
  go_upto_block 0 with (first | (go_at_call 131; refine HLZ.out.mono ?_; rintro e w' ⟨rfl, rfl⟩))
  clear e1 e2 e3 e6 e7 e8 e9 e10 e11 e12
  go_cut [15] (fun q wc => q = .int .u64 (Q1 : Nat) ∧ wc = w')
  case first =>
    go_wp2_with fail
    go_loop [15, 16] (fun q r => ∃ qn rn : Nat, q = .int .u64 (qn : Nat) ∧ r = .int .u64 (rn : Nat) ∧ Hid (qn * y1 + rn = u) ∧ Q1 ≤ qn ∧ rn < 4294967296) (fun q _ => (intOf q).toNat)
    case atStart => exact ⟨qa, ra, rfl, rfl, inv0, hst, hrlt⟩
    case round =>
      obtain ⟨q, r, rfl, rfl, hi', hQ, hr⟩ := hrel
      have hcap : q ≤ 4294967297 := dd_cap 4294967296 y1 y0 u q r hi'.out (by rw [← HD.out.YY]; exact HD.out.uY) y0hi (by omega)
      by_cases hA : 4294967296 ≤ q
      · have hd : decide ((4294967296 : Int) ≤ (q : Int)) = true := by simp; omega
        have hlt : Q1 < q := by rw [HD.out.q1]; exact dd_bad _ _ _ _ _ _ _ hi'.out (.inl hA) (by rw [← HD.out.YY]; exact HD.out.uY) un1lt
        have hi2 : Hid ((q - 1) * y1 + (r + y1) = u) := by
          show _ = _; have := hi'.out; obtain ⟨m, rfl⟩ : ∃ m, q = m + 1 := ⟨q - 1, by omega⟩
          rw [Nat.add_mul] at this; simp only [Nat.add_sub_cancel]; omega
        by_cases hB : 4294967296 ≤ r + y1
        · have hbr := dd_break 4294967296 y1 y0 u un1 (q-1) (r+y1) hi2.out (by omega) hB y0hi (by omega)
          rw [← HD.out.q1] at hbr
          have hq1 : q - 1 = Q1 := by omega
          have HQ1 := Lib.hid hq1; clear hq1
          have hd3 : decide ((4294967296 : Int) ≤ (r : Int) + (y1 : Int)) = true := by simp; omega
          have q1 : 1 ≤ q := by omega
          have q2 : q < 18446744073709551615 := by omega
          have HF := Lib.hid (And.intro hA (And.intro hB (And.intro hcap (And.intro hlt hbr)))); clear hA hB hcap hlt hbr
          go_wp2
          go_meet
          exact ⟨by have := HQ1.out; go_num, rfl⟩
        · have hd3 : decide ((4294967296 : Int) ≤ (r : Int) + (y1 : Int)) = false := by simp; omega
          have q1 : 1 ≤ q := by omega
          have q2 : q < 18446744073709551615 := by omega
          have HF := Lib.hid (And.intro hA (And.intro hB (And.intro hcap hlt))); clear hA hB hcap hlt
          go_wp2
          go_round
          case rel => exact ⟨q - 1, r + y1, by go_num, by go_num, hi2, by have := HF.out; omega, by have := HF.out; omega⟩
          case measure => simp [intOf]; omega
      · have hd : decide ((4294967296 : Int) ≤ (q : Int)) = false := by simp; omega
        obtain ⟨m, hm⟩ : ∃ m, m = q * y0 := ⟨_, rfl⟩
        have hmlt : m < 18446744073709551616 := by
          have h1 : q * y0 ≤ 4294967295 * y0 := Nat.mul_le_mul_right _ (by omega)
          omega
        have em : IntKind.u64.wrap ((q : Int) * (y0 : Int)) = (m : Int) := by
          rw [show ((q : Int) * (y0 : Int)) = ((q * y0 : Nat) : Int) by rw [Int.natCast_mul], ← hm]; exact IntWalk.u64_in _ ⟨by omega, by omega⟩
        have HM := Lib.hid hm; clear hm
        by_cases hC : 4294967296 * r + un1 < m
        · have hlt : Q1 < q := by rw [HD.out.q1]; exact dd_bad _ _ _ _ _ _ _ hi'.out (.inr (by have := HM.out; omega)) (by rw [← HD.out.YY]; exact HD.out.uY) un1lt
          have hi2 : Hid ((q - 1) * y1 + (r + y1) = u) := by
            show _ = _; have := hi'.out; obtain ⟨m, rfl⟩ : ∃ m, q = m + 1 := ⟨q - 1, by omega⟩
            rw [Nat.add_mul] at this; simp only [Nat.add_sub_cancel]; omega
          have hd2 : decide ((4294967296 : Int) * (r : Int) + (un1 : Int) < (m : Int)) = true := by simp; omega
          by_cases hB : 4294967296 ≤ r + y1
          · have hbr := dd_break 4294967296 y1 y0 u un1 (q-1) (r+y1) hi2.out (by omega) hB y0hi (by omega)
            rw [← HD.out.q1] at hbr
            have hq1 : q - 1 = Q1 := by omega
            have HQ1 := Lib.hid hq1; clear hq1
            have hd3 : decide ((4294967296 : Int) ≤ (r : Int) + (y1 : Int)) = true := by simp; omega
            have q1 : 1 ≤ q := by omega
            have q2 : q < 18446744073709551615 := by omega
            have HF := Lib.hid (And.intro hA (And.intro hB (And.intro hcap (And.intro hlt (And.intro hC hbr))))); clear hA hB hcap hlt hbr hC
            go_wp2
            go_meet
            exact ⟨by have := HQ1.out; go_num, rfl⟩
          · have hd3 : decide ((4294967296 : Int) ≤ (r : Int) + (y1 : Int)) = false := by simp; omega
            have q1 : 1 ≤ q := by omega
            have q2 : q < 18446744073709551615 := by omega
            have HF := Lib.hid (And.intro hA (And.intro hB (And.intro hcap (And.intro hC hlt)))); clear hA hB hcap hlt hC
            go_wp2
            go_round
            case rel => exact ⟨q - 1, r + y1, by go_num, by go_num, hi2, by have := HF.out; omega, by have := HF.out; omega⟩
            case measure => simp [intOf]; omega
        · have hgd := dd_good 4294967296 y1 y0 u un1 q r hi'.out (by have := HM.out; omega) (by omega)
          rw [← HD.out.q1] at hgd
          have hq1 : q = Q1 := by omega
          have HQ1 := Lib.hid hq1; clear hq1
          have hd2 : decide ((4294967296 : Int) * (r : Int) + (un1 : Int) < (m : Int)) = false := by simp; omega
          go_wp2
          go_meet
          exact ⟨by rw [HQ1.out], rfl⟩
  case rest =>
    obtain ⟨rfl, rfl⟩ := hcut
    have D := HD.out
    have Q1lt := D.Q1lt
    have Q0lt := D.Q0lt
    have hR1 : R1 < 18446744073709551616 := by have := D.R1Y; omega
    have hR0 : R0 < 18446744073709551616 := by have := D.R0Y; omega
    obtain ⟨uu, huu⟩ : ∃ uu, uu = u * 4294967296 % 18446744073709551616 := ⟨_, rfl⟩
    obtain ⟨u2, hu2⟩ : ∃ u2, u2 = (u * 4294967296 + un1) % 18446744073709551616 := ⟨_, rfl⟩
    obtain ⟨qq, hqq⟩ : ∃ qq, qq = Q1 * Y % 18446744073709551616 := ⟨_, rfl⟩
    have f1 : IntKind.u64.wrap ((u : Int) * 4294967296) = (uu : Int) := by rw [IntKind.wrap_u64]; omega
    have f2 : IntKind.u64.wrap ((uu : Int) + (un1 : Int)) = (u2 : Int) := by rw [IntKind.wrap_u64]; omega
    have f3 : IntKind.u64.wrap ((Q1 : Int) * (Y : Int)) = (qq : Int) := by
      rw [show ((Q1 : Int) * (Y : Int)) = ((Q1 * Y : Nat) : Int) by rw [Int.natCast_mul], IntKind.wrap_u64]; omega
    have f4 : IntKind.u64.wrap ((u2 : Int) - (qq : Int)) = (R1 : Int) := by
      have h := D.r1
      generalize Q1 * Y = P at h hqq
      rw [IntKind.wrap_u64]; omega
    obtain ⟨qb, hqb⟩ : ∃ qb, qb = R1 / y1 := ⟨_, rfl⟩
    obtain ⟨rb, hrb⟩ : ∃ rb, rb = R1 % y1 := ⟨_, rfl⟩
    obtain ⟨mb, hmb⟩ : ∃ mb, mb = qb * y1 := ⟨_, rfl⟩
    have hqu1 : qb ≤ R1 := by rw [hqb]; exact Nat.div_le_self _ _
    have hsum1 : mb + rb = R1 := by rw [hmb, hqb, hrb]; have := Nat.div_add_mod R1 y1; rw [Nat.mul_comm] at this; exact this
    have f10 : IntKind.u64.wrap ((R1 : Int) / (y1 : Int)) = (qb : Int) := by
      rw [show ((R1 : Int) / (y1 : Int)) = ((R1 / y1 : Nat) : Int) by rw [Int.natCast_ediv], ← hqb]; exact IntWalk.u64_in _ ⟨by omega, by omega⟩
    have f11 : IntKind.u64.wrap ((qb : Int) * (y1 : Int)) = (mb : Int) := by
      rw [show ((qb : Int) * (y1 : Int)) = ((qb * y1 : Nat) : Int) by rw [Int.natCast_mul], ← hmb]; exact IntWalk.u64_in _ ⟨by omega, by omega⟩
    have f12 : ((R1 : Int) - (mb : Int)) = (rb : Int) := by omega
    have hmu1 : mb ≤ R1 := by omega
    have hrlt1 : rb < 4294967296 := by
      have : rb < y1 := by rw [hrb]; exact Nat.mod_lt _ (by omega)
      omega
    have hst1 : Q0 ≤ qb := by rw [D.q0, hqb]; exact dd_start _ _ _ _ _ (by omega) (by omega) un0lt
    have inv1 : Hid (qb * y1 + rb = R1) := by show _ = _; omega
    have HH1 := Lib.hid (And.intro hqb (And.intro hrb (And.intro hmb (And.intro hsum1 (And.intro huu (And.intro hu2 hqq)))))); clear hqb hrb hmb hsum1 huu hu2 hqq D
    go_upto_block 2 with fail
    clear f1 f2 f3 f4 f10 f11 f12
    go_cut [18] (fun q wd => q = .int .u64 (Q0 : Nat) ∧ wd = wc)
    case first =>
      go_wp2_with fail
      go_loop [18, 16] (fun q r => ∃ qn rn : Nat, q = .int .u64 (qn : Nat) ∧ r = .int .u64 (rn : Nat) ∧ Hid (qn * y1 + rn = R1) ∧ Q0 ≤ qn ∧ rn < 4294967296) (fun q _ => (intOf q).toNat)
      case atStart => exact ⟨qb, rb, rfl, rfl, inv1, hst1, hrlt1⟩
      case round =>
        obtain ⟨q, r, rfl, rfl, hi', hQ, hr⟩ := hrel
        have hcap : q ≤ 4294967297 := dd_cap 4294967296 y1 y0 R1 q r hi'.out (by rw [← HD.out.YY]; exact HD.out.R1Y) y0hi (by omega)
        by_cases hA : 4294967296 ≤ q
        · have hd : decide ((4294967296 : Int) ≤ (q : Int)) = true := by simp; omega
          have hlt : Q0 < q := by rw [HD.out.q0]; exact dd_bad _ _ _ _ _ _ _ hi'.out (.inl hA) (by rw [← HD.out.YY]; exact HD.out.R1Y) un0lt
          have hi2 : Hid ((q - 1) * y1 + (r + y1) = R1) := by
            show _ = _; have := hi'.out; obtain ⟨m, rfl⟩ : ∃ m, q = m + 1 := ⟨q - 1, by omega⟩
            rw [Nat.add_mul] at this; simp only [Nat.add_sub_cancel]; omega
          by_cases hB : 4294967296 ≤ r + y1
          · have hbr := dd_break 4294967296 y1 y0 R1 un0 (q-1) (r+y1) hi2.out (by omega) hB y0hi (by omega)
            rw [← HD.out.q0] at hbr
            have hq0 : q - 1 = Q0 := by omega
            have HQ0 := Lib.hid hq0; clear hq0
            have hd3 : decide ((4294967296 : Int) ≤ (r : Int) + (y1 : Int)) = true := by simp; omega
            have q1 : 1 ≤ q := by omega
            have q2 : q < 18446744073709551615 := by omega
            have HF := Lib.hid (And.intro hA (And.intro hB (And.intro hcap (And.intro hlt hbr)))); clear hA hB hcap hlt hbr
            go_wp2
            go_meet
            exact ⟨by have := HQ0.out; go_num, rfl⟩
          · have hd3 : decide ((4294967296 : Int) ≤ (r : Int) + (y1 : Int)) = false := by simp; omega
            have q1 : 1 ≤ q := by omega
            have q2 : q < 18446744073709551615 := by omega
            have HF := Lib.hid (And.intro hA (And.intro hB (And.intro hcap hlt))); clear hA hB hcap hlt
            go_wp2
            go_round
            case rel => exact ⟨q - 1, r + y1, by go_num, by go_num, hi2, by have := HF.out; omega, by have := HF.out; omega⟩
            case measure => simp [intOf]; omega
        · have hd : decide ((4294967296 : Int) ≤ (q : Int)) = false := by simp; omega
          obtain ⟨m, hm⟩ : ∃ m, m = q * y0 := ⟨_, rfl⟩
          have hmlt : m < 18446744073709551616 := by
            have h1 : q * y0 ≤ 4294967295 * y0 := Nat.mul_le_mul_right _ (by omega)
            omega
          have em : IntKind.u64.wrap ((q : Int) * (y0 : Int)) = (m : Int) := by
            rw [show ((q : Int) * (y0 : Int)) = ((q * y0 : Nat) : Int) by rw [Int.natCast_mul], ← hm]; exact IntWalk.u64_in _ ⟨by omega, by omega⟩
          have HM := Lib.hid hm; clear hm
          by_cases hC : 4294967296 * r + un0 < m
          · have hlt : Q0 < q := by rw [HD.out.q0]; exact dd_bad _ _ _ _ _ _ _ hi'.out (.inr (by have := HM.out; omega)) (by rw [← HD.out.YY]; exact HD.out.R1Y) un0lt
            have hi2 : Hid ((q - 1) * y1 + (r + y1) = R1) := by
              show _ = _; have := hi'.out; obtain ⟨m, rfl⟩ : ∃ m, q = m + 1 := ⟨q - 1, by omega⟩
              rw [Nat.add_mul] at this; simp only [Nat.add_sub_cancel]; omega
            have hd2 : decide ((4294967296 : Int) * (r : Int) + (un0 : Int) < (m : Int)) = true := by simp; omega
            by_cases hB : 4294967296 ≤ r + y1
            · have hbr := dd_break 4294967296 y1 y0 R1 un0 (q-1) (r+y1) hi2.out (by omega) hB y0hi (by omega)
              rw [← HD.out.q0] at hbr
              have hq0 : q - 1 = Q0 := by omega
              have HQ0 := Lib.hid hq0; clear hq0
              have hd3 : decide ((4294967296 : Int) ≤ (r : Int) + (y1 : Int)) = true := by simp; omega
              have q1 : 1 ≤ q := by omega
              have q2 : q < 18446744073709551615 := by omega
              have HF := Lib.hid (And.intro hA (And.intro hB (And.intro hcap (And.intro hlt (And.intro hC hbr))))); clear hA hB hcap hlt hbr hC
              go_wp2
              go_meet
              exact ⟨by have := HQ0.out; go_num, rfl⟩
            · have hd3 : decide ((4294967296 : Int) ≤ (r : Int) + (y1 : Int)) = false := by simp; omega
              have q1 : 1 ≤ q := by omega
              have q2 : q < 18446744073709551615 := by omega
              have HF := Lib.hid (And.intro hA (And.intro hB (And.intro hcap (And.intro hC hlt)))); clear hA hB hcap hlt hC
              go_wp2
              go_round
              case rel => exact ⟨q - 1, r + y1, by go_num, by go_num, hi2, by have := HF.out; omega, by have := HF.out; omega⟩
              case measure => simp [intOf]; omega
          · have hgd := dd_good 4294967296 y1 y0 R1 un0 q r hi'.out (by have := HM.out; omega) (by omega)
            rw [← HD.out.q0] at hgd
            have hq0 : q = Q0 := by omega
            have HQ0 := Lib.hid hq0; clear hq0
            have hd2 : decide ((4294967296 : Int) * (r : Int) + (un0 : Int) < (m : Int)) = false := by simp; omega
            go_wp2
            go_meet
            exact ⟨by rw [HQ0.out], rfl⟩

    case rest =>
      obtain ⟨rfl, rfl⟩ := hcut
      have D := HD.out
      obtain ⟨vv, hvv⟩ : ∃ vv, vv = R1 * 4294967296 % 18446744073709551616 := ⟨_, rfl⟩
      obtain ⟨v2, hv2⟩ : ∃ v2, v2 = (R1 * 4294967296 + un0) % 18446744073709551616 := ⟨_, rfl⟩
      obtain ⟨pp, hpp⟩ : ∃ pp, pp = Q0 * Y % 18446744073709551616 := ⟨_, rfl⟩
      have g1 : IntKind.u64.wrap ((R1 : Int) * 4294967296) = (vv : Int) := by rw [IntKind.wrap_u64]; omega
      have g2 : IntKind.u64.wrap ((vv : Int) + (un0 : Int)) = (v2 : Int) := by rw [IntKind.wrap_u64]; omega
      have g3 : IntKind.u64.wrap ((Q0 : Int) * (Y : Int)) = (pp : Int) := by
        rw [show ((Q0 : Int) * (Y : Int)) = ((Q0 * Y : Nat) : Int) by rw [Int.natCast_mul], IntKind.wrap_u64]; omega
      have g4 : IntKind.u64.wrap ((v2 : Int) - (pp : Int)) = (R0 : Int) := by
        have h := D.r0
        generalize Q0 * Y = P at h hpp
        rw [IntKind.wrap_u64]; omega
      have HV := Lib.hid (And.intro hvv (And.intro hv2 hpp)); clear hvv hv2 hpp D
      go_wp2
      go_ret2
      refine ⟨?_, 0, rfl⟩
      rw [← HD.out.quo, ← HD.out.rem]
      have k1 : ((Q1 * 4294967296 + Q0 : Nat) : Int) = (Q1 : Int) * 4294967296 + (Q0 : Int) := by omega
      have k2 : ((R0 / 2^s : Nat) : Int) = (R0 : Int) / 2^s := by rw [Int.natCast_ediv, Int.natCast_pow]; rfl
      rw [k1, k2]
      rfl
theorem Div64_any (hi lo y : Nat) (hlo : lo < 18446744073709551616) (hhi : hi < y) (hy64 : y < 18446744073709551616) (w : World) :
    Calls Tryz.prog 113 #[.int .u64 hi, .int .u64 lo, .int .u64 y] w (DivQ hi lo y w) := by
  by_cases h0 : hi = 0
  · subst h0; exact Div64_small lo y (by omega) hlo hy64 w
  · obtain ⟨b1, b2, b3⟩ := Lib.bitLenAux_bounds 64 y hy64 (by omega)
    have b4 : Lib.bitLen y ≤ 64 := Lib.bitLen_le y 64 (Nat.le_refl _) hy64
    have e : Lib.bitLenAux 64 y = Lib.bitLen y := rfl
    rw [e] at b1 b2 b3
    refine Div64_big hi lo y (64 - Lib.bitLen y) hlo hhi (by omega) (by omega) hy64 ?_ ?_ (by omega) w
    · have h1 : 2^(Lib.bitLen y - 1) * 2^(64 - Lib.bitLen y) ≤ y * 2^(64 - Lib.bitLen y) := Nat.mul_le_mul_right _ b2
      rw [← Nat.pow_add, show Lib.bitLen y - 1 + (64 - Lib.bitLen y) = 63 by omega] at h1
      exact h1
    · have h1 : y * 2^(64 - Lib.bitLen y) < 2^(Lib.bitLen y) * 2^(64 - Lib.bitLen y) := Nat.mul_lt_mul_of_pos_right b3 (Nat.pow_pos (by omega))
      rw [← Nat.pow_add, show Lib.bitLen y + (64 - Lib.bitLen y) = 64 by omega] at h1
      exact h1
end Go.Proofs.YteccbedmpjeamaaGreatDoor
namespace Go.Proofs.YteccbedmpjeamaaGreatDoor
open Go.RowKit NM
def dq (hi lo y : Nat) : Nat := (hi * B64 + lo) / y
def dr (hi lo y : Nat) : Nat := (hi * B64 + lo) % y
theorem dq_lt {hi lo y : Nat} (h : hi < y) (hl : lo < B64) : dq hi lo y < B64 := by
  unfold dq
  apply (Nat.div_lt_iff_lt_mul (by omega)).2
  have h1 : (hi + 1) * B64 ≤ y * B64 := Nat.mul_le_mul_right _ h
  rw [Nat.add_mul] at h1
  rw [Nat.mul_comm B64]; omega
theorem dr_lt {hi lo y : Nat} (h : hi < y) : dr hi lo y < y := Nat.mod_lt _ (by omega)
theorem Div64_q (hi lo y : Nat) (hlo : lo < 18446744073709551616) (hhi : hi < y) (hy64 : y < 18446744073709551616) (w : World) :
    Calls Tryz.prog 113 #[.int .u64 hi, .int .u64 lo, .int .u64 y] w fun e w' => e = .returned (.tuple #[.int .u64 (dq hi lo y : Nat), .int .u64 (dr hi lo y : Nat)]) ∧ Quiet w w' :=
  (Div64_any hi lo y hlo hhi hy64 w).mono fun _ _ ⟨h1, m, h2⟩ => ⟨h1, h2 ▸ (Quiet.refl _).drewN m⟩
theorem Div64_d (hi lo y : Nat) (hlo : lo < 18446744073709551616) (hhi : hi < y) (hy64 : y < 18446744073709551616) (w : World) :
    Calls Tryz.prog 113 #[.int .u64 hi, .int .u64 lo, .int .u64 y] w fun e w' => e = .returned (.tuple #[.int .u64 (dq hi lo y : Nat), .int .u64 (dr hi lo y : Nat)]) ∧ ∃ m, w' = w.drewN m :=
  Div64_any hi lo y hlo hhi hy64 w
theorem dw_step (X Z : List Nat) (m left y : Nat) (hl : Z.length = X.length) (hm : m < X.length)
    (hv : y * wv (Z.drop (m+1)) + left = wv (X.drop (m+1))) :
    y * wv ((Z.set m (dq left (gd X m) y)).drop m) + dr left (gd X m) y = wv (X.drop m) := by
  rw [wv_drop_cons X m hm, wv_drop_cons _ m (by rw [List.length_set, hl]; exact hm), ← hv]
  have e1 : (Z.set m (dq left (gd X m) y)).getD m 0 = dq left (gd X m) y := gd_set_same _ _ _ (by omega)
  have e2 : (Z.set m (dq left (gd X m) y)).drop (m+1) = Z.drop (m+1) := by rw [List.drop_set_of_lt (by omega)]
  rw [e1, e2]
  have d := Nat.div_add_mod (left * B64 + gd X m) y
  unfold dq dr gd at *
  rw [Nat.mul_add, Nat.mul_add, Nat.mul_left_comm y B64, Nat.mul_comm left] at *
  omega
def DWQ (X : List Nat) (y b o cap : Nat) (w : World) (e : Ending) (w' : World) : Prop :=
  ∃ (Z : List Nat) (k : Nat), At X.length b o w Z w' ∧ k ≤ X.length ∧ Tr (Z.take k) ∧ wv (Z.take k) = wv X / y ∧ e = .returned (.tuple #[.slice (some ⟨b, o, none⟩) k cap, .int .u64 (wv X % y : Nat)])
theorem At.quiet {n b o : Nat} {w wr w' : World} {Z : List Nat} (h : At n b o w Z wr) (q : Quiet wr w') : At n b o w Z w' := ⟨h.len, h.wd, q.row h.row, h.only.trans (q.only _ _ _)⟩
set_option maxHeartbeats 1000000 in
theorem divideWord_any (w : World) (b o cap y : Nat) (X : List Nat) (hR : Row w b o X) (hX : Wd X) (hn : X.length ≤ 9223372036854775807) (hc : X.length ≤ cap) (hy0 : 0 < y) (hy : y < 18446744073709551616) :
    Calls Tryz.prog 88 #[.slice (some ⟨b, o, none⟩) X.length cap, .int .u64 (y : Nat)] w (DWQ X y b o cap w) := by
  obtain ⟨n, hXn⟩ : ∃ n, n = X.length := ⟨_, rfl⟩
  have hA0 := At.start hX hR
  rw [← hXn] at hn hc hA0
  rw [← hXn]
  have HX := Lib.hid hXn; clear hXn
  go_enter Tryz.func88, Tryz.ntmps88
  go_wp2
  go_loopw [6, 7] (fun l i wr => ∃ (k left : Nat) (Z : List Nat), k ≤ n ∧ left < y ∧ i = .int .i64 ((k : Int) - 1) ∧ l = .int .u64 (left : Nat) ∧ At n b o w Z wr ∧ Hid (y * wv (Z.drop k) + left = wv (X.drop k)) ∧ Hid (∀ j, j < k → gd Z j = gd X j)) (fun _ i _ => (intOf i + 1).toNat)
  case atStart => exact ⟨n, 0, X, Nat.le_refl _, hy0, rfl, rfl, hA0, by
    show _ = _
    rw [List.drop_eq_nil_of_le (by rw [← HX.out]; exact Nat.le_refl _)]; rfl, fun _ _ => rfl⟩
  case round =>
    obtain ⟨k, left, Z, hk, hleft, rfl, rfl, hA, hv, hg⟩ := hrel
    clear hA0 hR
    by_cases h0 : k = 0
    · subst h0
      have ht := trim_any wr b o cap Z hA.row (by rw [hA.len]; exact hn) (by rw [hA.len]; exact hc)
      rw [hA.len] at ht
      have HT := Lib.hid ht; clear ht
      go_wp2_with (refine HT.out.mono ?_; rintro e w' ⟨j, hj, hw, htr, rfl, rfl⟩)
      go_ret2
      have hv' := hv.out
      simp only [List.drop_zero] at hv'
      have q1 : wv X / y = wv Z := by rw [← hv', Nat.mul_add_div hy0, Nat.div_eq_of_lt hleft, Nat.add_zero]
      have q2 : wv X % y = left := by rw [← hv', Nat.mul_add_mod, Nat.mod_eq_of_lt hleft]
      refine ⟨Z, j, by rw [← HX.out]; exact hA, by rw [← HX.out, ← hA.len]; exact hj, htr, by rw [hw, q1], by rw [q2]; rfl⟩
    · obtain ⟨m, rfl⟩ : ∃ m, k = m + 1 := ⟨k - 1, by omega⟩
      rw [show (((m + 1 : Nat) : Int) - 1) = (m : Int) by omega]
      have hx := hA.row.cell m (by rw [hA.len]; omega)
      rw [hg.out m (by omega)] at hx
      have hdv := Div64_q left (gd X m) y (gd_lt hX m) hleft hy wr
      have HDV := Lib.hid hdv; clear hdv
      go_wp2_with (refine HDV.out.mono ?_; rintro e w1 ⟨rfl, hq⟩; have hA1 := hA.quiet hq; have hf1 := hA1.row.free m (by rw [hA1.len]; omega); have hx1 := hA1.row.cell m (by rw [hA1.len]; omega))
      go_roundw
      case rel =>
        have hA1 := hA.quiet ‹Quiet wr _›
        refine ⟨m, dr left (gd X m) y, Z.set m (dq left (gd X m) y), by omega, dr_lt hleft, by go_num, rfl, hA1.set m _ (by omega) (dq_lt hleft (gd_lt hX m)), ?_, ?_⟩
        · show _ = _
          exact dw_step X Z m left y (by rw [hA.len, HX.out]) (by rw [← HX.out]; omega) hv.out
        · intro j hj
          rw [gd_set_other _ _ _ _ (by omega)]; exact hg.out j (by omega)
      case measure => (simp [intOf]; try omega)
end Go.Proofs.YteccbedmpjeamaaGreatDoor
namespace Go.Proofs.YteccbedmpjeamaaGreatDoor
open Go.RowKit NM
theorem take_digit (y d c : Nat) (hy : y < B64) (hd : d < B64) (hc : c < B64) :
    y * d + c = (mh64 y d + hi64 (ml64 y d) c 0) * B64 + lo64 (ml64 y d) c 0 ∧ mh64 y d + hi64 (ml64 y d) c 0 < B64 := by
  have e1 := Nat.div_add_mod (y * d) B64
  have e2 := Nat.div_add_mod (y * d % B64 + c + 0) B64
  have hp : y * d ≤ (B64 - 1) * (B64 - 1) := Nat.mul_le_mul (by omega) (by omega)
  have hq : (B64 - 1) * (B64 - 1) + B64 ≤ B64 * B64 := by decide
  unfold lo64 hi64 mh64 ml64
  generalize y * d % B64 = a' at *
  generalize y * d / B64 = a at *
  generalize (a' + c + 0) / B64 = f at *
  generalize (a' + c + 0) % B64 = f' at *
  have tot : y * d + c = (a + f) * B64 + f' := by rw [← e1, Nat.add_mul, Nat.mul_comm a, Nat.mul_comm f]; omega
  refine ⟨tot, ?_⟩
  have h1 : (a + f) * B64 < B64 * B64 := by omega
  exact Nat.lt_of_mul_lt_mul_right h1
theorem df_eq (x y c : Nat) (hx : x < B64) (hy : y < B64) (hc : c ≤ 1) : df64 x y c + y + c = x + br64 x y c * B64 := by
  unfold df64 br64
  have h64 : B64 = 18446744073709551616 := rfl
  rw [h64] at hx hy ⊢
  split <;> omega
theorem take_step (Z X Y : List Nat) (k d cc bb : Nat) (hk : k < Z.length) (hy : k < Y.length) (hZ : Wd Z) (hY : Wd Y) (hd : d < B64) (hc : cc < B64) (hb : bb ≤ 1)
    (hv : wv Z + d * wv (Y.take k) = wv X + (cc + bb) * B64^k) :
    wv (Z.set k (df64 (gd Z k) (lo64 (ml64 (gd Y k) d) cc 0) bb)) + d * wv (Y.take (k+1)) = wv X + (mh64 (gd Y k) d + hi64 (ml64 (gd Y k) d) cc 0 + br64 (gd Z k) (lo64 (ml64 (gd Y k) d) cc 0) bb) * B64^(k+1) := by
  have h1 := (take_digit (gd Y k) d cc (gd_lt hY k) hd hc).1
  have h2 := df_eq (gd Z k) (lo64 (ml64 (gd Y k) d) cc 0) bb (gd_lt hZ k) (lo64_lt _ _ _) hb
  have h3 := wv_set Z k (df64 (gd Z k) (lo64 (ml64 (gd Y k) d) cc 0) bb) hk
  have h4 := wv_take_succ Y k hy
  rw [← gd_eq] at h3 h4
  rw [h4, Nat.pow_succ]
  generalize df64 (gd Z k) (lo64 (ml64 (gd Y k) d) cc 0) bb = z' at *
  generalize br64 (gd Z k) (lo64 (ml64 (gd Y k) d) cc 0) bb = b' at *
  generalize lo64 (ml64 (gd Y k) d) cc 0 = l' at *
  generalize mh64 (gd Y k) d + hi64 (ml64 (gd Y k) d) cc 0 = c' at *
  generalize wv (Z.set k z') = S at *
  generalize wv (Y.take k) = T at *
  generalize gd Y k = y at *
  generalize gd Z k = z at *
  generalize wv Z = V at *
  generalize wv X = U at *
  generalize B64^k = P at *
  clear hk hy hZ hY hd hc hb h4
  grind
theorem last_step (Z X Y : List Nat) (n d cc bb : Nat) (hk : n < Z.length) (hZ : Wd Z) (hc : cc < B64) (hb : bb ≤ 1)
    (hv : wv Z + d * wv Y = wv X + (cc + bb) * B64^n) :
    wv (Z.set n (df64 (gd Z n) cc bb)) + d * wv Y = wv X + br64 (gd Z n) cc bb * B64^(n+1) := by
  have h2 := df_eq (gd Z n) cc bb (gd_lt hZ n) hc hb
  have h3 := wv_set Z n (df64 (gd Z n) cc bb) hk
  rw [← gd_eq] at h3
  rw [Nat.pow_succ]
  generalize df64 (gd Z n) cc bb = z' at *
  generalize br64 (gd Z n) cc bb = b' at *
  generalize wv (Z.set n z') = S at *
  generalize gd Z n = z at *
  generalize wv Z = V at *
  generalize wv X = U at *
  generalize wv Y = T at *
  generalize B64^n = P at *
  clear hk hZ hc hb
  grind
def TakeQ (X Y : List Nat) (d b o : Nat) (w : World) (e : Ending) (w' : World) : Prop :=
  ∃ (Z : List Nat) (bb : Nat), At X.length b o w Z w' ∧ bb ≤ 1 ∧ wv Z + d * wv Y = wv X + bb * B64^(Y.length + 1) ∧ e = .returned (.bool ((bb : Int) != 0))
set_option maxHeartbeats 1000000 in
theorem takeProduct_any (w : World) (b o cap b2 o2 cap2 d : Nat) (X Y : List Nat) (hR : Row w b o X) (hS : Row w b2 o2 Y) (hX : Wd X) (hY : Wd Y) (hne : b2 ≠ b) (hb2 : b2 < w.heap.size)
    (hd : d < 18446744073709551616) (hn : X.length ≤ 9223372036854775806) (_hc : X.length ≤ cap) (_hc2 : Y.length ≤ cap2) (hm : Y.length + 1 = X.length) :
    Calls Tryz.prog 140 #[.slice (some ⟨b, o, none⟩) X.length cap, .slice (some ⟨b2, o2, none⟩) Y.length cap2, .int .u64 (d : Nat)] w (TakeQ X Y d b o w) := by
  go_enter Tryz.func140, Tryz.ntmps140
  go_wp2
  go_loopw [7, 8, 17] (fun c r i wr => ∃ (k cc bb : Nat) (Z : List Nat), k ≤ Y.length ∧ cc < 18446744073709551616 ∧ bb ≤ 1 ∧ c = .int .u64 (cc : Nat) ∧ r = .int .u64 (bb : Nat) ∧ i = .int .i64 (k : Nat) ∧ At X.length b o w Z wr ∧ Hid (wv Z + d * wv (Y.take k) = wv X + (cc + bb) * B64^k)) (fun _ _ i _ => Y.length - (intOf i).toNat)
  case atStart => exact ⟨0, 0, 0, X, Nat.zero_le _, by omega, by omega, rfl, rfl, rfl, At.start hX hR, by show _ = _; simp [wv]⟩
  case round =>
    obtain ⟨k, cc, bb, Z, hk, hcc, hbb, rfl, rfl, rfl, hA, hv⟩ := hrel
    by_cases hlt : k < Y.length
    · have hx := hA.row.cell k (by rw [hA.len]; omega)
      have hf := hA.row.free k (by rw [hA.len]; omega)
      have hy := (hA.only.row hS hne hb2).cell k hlt
      have hstep := take_step Z X Y k d cc bb (by rw [hA.len]; omega) hlt hA.wd hY hd hcc hbb hv.out
      have b3 : mh64 (gd Y k) d + hi64 (ml64 (gd Y k) d) cc 0 < 18446744073709551616 := (take_digit (gd Y k) d cc (gd_lt hY k) hd hcc).2
      have HP := Lib.hid hstep; clear hstep
      have HR := Lib.hid hR; clear hR
      have HS := Lib.hid hS; clear hS
      have gy := gd_lt hY k
      go_wp2_with (first | (go_at_call 129; refine (mul64_any (gd Y k) d gy hd _).mono ?_; rintro e w' ⟨rfl, rfl⟩) | (simp only [add64_c0 (ml64 (gd Y k) d) cc]) | (simp only [sub64 (gd Z k) (lo64 (ml64 (gd Y k) d) cc 0) bb hbb]))
      go_roundw
      case rel => exact ⟨k + 1, mh64 (gd Y k) d + hi64 (ml64 (gd Y k) d) cc 0, br64 (gd Z k) (lo64 (ml64 (gd Y k) d) cc 0) bb, Z.set k (df64 (gd Z k) (lo64 (ml64 (gd Y k) d) cc 0) bb), hlt, b3, br64_le _ _ _, by go_num, rfl, by go_num, hA.set k _ (by omega) (df64_lt _ _ _), HP⟩
      case measure => (simp [intOf]; try omega)
    · obtain rfl : k = Y.length := by omega
      have hv2 : wv Z + d * wv Y = wv X + (cc + bb) * B64^Y.length := by have := hv.out; rwa [List.take_length] at this
      have hx := hA.row.cell Y.length (by rw [hA.len]; omega)
      have hf := hA.row.free Y.length (by rw [hA.len]; omega)
      have HP := Lib.hid (last_step Z X Y Y.length d cc bb (by rw [hA.len]; omega) hA.wd hcc hbb hv2)
      have HR := Lib.hid hR; clear hR
      have HS := Lib.hid hS; clear hS
      clear hv hlt hk hv2
      go_wp2_with (simp only [sub64 (gd Z Y.length) cc bb hbb])
      go_ret
      exact ⟨Z.set Y.length (df64 (gd Z Y.length) cc bb), br64 (gd Z Y.length) cc bb, hA.set _ _ (by omega) (df64_lt _ _ _), br64_le _ _ _, HP.out, rfl⟩
end Go.Proofs.YteccbedmpjeamaaGreatDoor
