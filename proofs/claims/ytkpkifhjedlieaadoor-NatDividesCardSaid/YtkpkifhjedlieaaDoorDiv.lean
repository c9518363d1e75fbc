/-
  The walk of math/bits.Div64: the quotient and the rest of two words and one, where the quotient fits into a word.
-/
import Derived.Test.YtkpkifhjedlieaaDoorProd
import Derived.Test.YtkpkifhjedlieaaDoorMath3
import Derived.BigQuiet
import Derived.Deep.CutBlock
import Derived.Deep.DeepCutAuto
import Derived.Lib.ItoaNum
namespace Go.Proofs.YtkpkifhjedlieaaDoor
open Go.RowKit NM
def DivQ (hi lo y : Nat) (w : World) (e : Ending) (w' : World) : Prop :=
  e = .returned (.tuple #[.int .u64 (((hi * 18446744073709551616 + lo) / y : Nat) : Int), .int .u64 (((hi * 18446744073709551616 + lo) % y : Nat) : Int)]) ∧ ∃ m, w' = w.drewN m
set_option maxHeartbeats 400000 in
theorem Div64_small (lo y : Nat) (hy : 0 < y) (hlo : lo < 18446744073709551616) (hy64 : y < 18446744073709551616) (w : World) :
    Calls Tryd.prog 64 #[.int .u64 0, .int .u64 lo, .int .u64 y] w (DivQ 0 lo y w) := by
  have hb : ((y : Int) == 0) = false := by simp; omega
  go_enter Tryd.func64, Tryd.ntmps64
  go_wp2
  go_region
  all_goals go_wp2
  all_goals go_ret2
  have hd : IntKind.u64.wrap ((lo : Int) / (y : Int)) = (lo : Int) / (y : Int) := by
    have e : (lo : Int) / (y : Int) = ((lo / y : Nat) : Int) := by rw [Int.natCast_ediv]
    have h := Nat.div_le_self lo y
    rw [e]
    generalize lo / y = q at h
    exact IntWalk.u64_in _ ⟨by omega, by omega⟩
  all_goals exact ⟨by simp [hd], 1, rfl⟩
set_option maxRecDepth 100000 in
set_option maxHeartbeats 4000000 in
theorem Div64_big (hi lo y s : Nat) (hlo : lo < 18446744073709551616) (hhi : hi < y) (hhi0 : 0 < hi) (hs : s ≤ 63) (hy64 : y < 18446744073709551616) (h63 : 9223372036854775808 ≤ y * 2^s) (h64 : y * 2^s < 18446744073709551616)
    (hbl : Lib.bitLen y + s = 64) (w : World) :
    Calls Tryd.prog 64 #[.int .u64 hi, .int .u64 lo, .int .u64 y] w (DivQ hi lo y w) := by
  obtain ⟨Y, y1, y0, u, a, un1, un0, Q1, R1, Q0, R0, D⟩ := dv_exists hi lo y s hlo hhi hs h63 h64
  have b0 : ((y : Int) == 0) = false := by simp; omega
  have b1 : decide ((y : Int) ≤ (hi : Int)) = false := by simp; omega
  have b2 : ((hi : Int) == 0) = false := by simp; omega
  have hlz := Tryd.bits_LeadingZeros64 (y : Int) w (by omega) (by omega)
  rw [Int.toNat_natCast, show (64 - (Lib.bitLen y : Int)) = (s : Int) by omega] at hlz
  have HLZ := Lib.hid hlz; clear hlz
  have e1 : IntKind.u64.wrap ((y : Int) * 2^s) = (Y : Int) := by
    rw [show ((y : Int) * 2^s) = ((y * 2^s : Nat) : Int) by rw [Int.natCast_mul, Int.natCast_pow]; rfl, ← D.hY]
    exact IntWalk.u64_in _ ⟨by omega, by have := D.Ylt; omega⟩
  have HE1 := Lib.hid e1; clear e1
  have hY := D.Ylt
  have y1lo := D.y1lo
  have y1hi := D.y1hi
  have y0hi := D.y0hi
  have un1lt := D.un1lt
  have un0lt := D.un0lt
  have hula : u < 18446744073709551616 := by have := D.uY; omega
  have hala : a < 18446744073709551616 := by rw [D.ha]; exact Nat.mod_lt _ (by decide)
  have e2 : ((Y : Int) / 4294967296) = (y1 : Int) := by have := D.h1; omega
  have e3 : bits .and .u64 (Y : Int) 4294967295 = (y0 : Int) := by
    rw [show (4294967295 : Int) = ((4294967295 : Nat) : Int) from rfl, bits_and_u64_nat Y 4294967295 hY (by decide), D.h0, show (4294967295 : Nat) = 2^32 - 1 from rfl, Nat.and_two_pow_sub_one_eq_mod]
  have e6 : bits .or .u64 (IntKind.u64.wrap ((hi : Int) * 2^s)) ((lo : Int) / 2^(64 - s)) = (u : Int) := by
    rw [show ((hi : Int) * 2^s) = ((hi * 2^s : Nat) : Int) by rw [Int.natCast_mul, Int.natCast_pow]; rfl, IntWalk.u64_in _ ⟨by omega, by have := D.his; omega⟩,
      show ((lo : Int) / 2^(64-s)) = ((lo / 2^(64-s) : Nat) : Int) by rw [Int.natCast_ediv, Int.natCast_pow]; rfl]
    rw [bits_or_u64_nat _ _ D.his (Nat.lt_of_le_of_lt (Nat.div_le_self _ _) hlo), D.hor]
  have e7 : IntKind.u64.wrap ((lo : Int) * 2^s) = (a : Int) := by
    rw [show ((lo : Int) * 2^s) = ((lo * 2^s : Nat) : Int) by rw [Int.natCast_mul, Int.natCast_pow]; rfl, IntKind.wrap_u64, D.ha]; omega
  have e8 : ((a : Int) / 4294967296) = (un1 : Int) := by have := D.hun1; omega
  have e9 : bits .and .u64 (a : Int) 4294967295 = (un0 : Int) := by
    rw [show (4294967295 : Int) = ((4294967295 : Nat) : Int) from rfl, bits_and_u64_nat a 4294967295 hala (by decide), D.hun0, show (4294967295 : Nat) = 2^32 - 1 from rfl, Nat.and_two_pow_sub_one_eq_mod]
  obtain ⟨qa, hqa⟩ : ∃ qa, qa = u / y1 := ⟨_, rfl⟩
  obtain ⟨ra, hra⟩ : ∃ ra, ra = u % y1 := ⟨_, rfl⟩
  obtain ⟨ma, hma⟩ : ∃ ma, ma = qa * y1 := ⟨_, rfl⟩
  have hqu : qa ≤ u := by rw [hqa]; exact Nat.div_le_self _ _
  have hsum : ma + ra = u := by rw [hma, hqa, hra]; have := Nat.div_add_mod u y1; rw [Nat.mul_comm] at this; exact this
  have e10 : IntKind.u64.wrap ((u : Int) / (y1 : Int)) = (qa : Int) := by
    rw [show ((u : Int) / (y1 : Int)) = ((u / y1 : Nat) : Int) by rw [Int.natCast_ediv], ← hqa]; exact IntWalk.u64_in _ ⟨by omega, by omega⟩
  have e11 : IntKind.u64.wrap ((qa : Int) * (y1 : Int)) = (ma : Int) := by
    rw [show ((qa : Int) * (y1 : Int)) = ((qa * y1 : Nat) : Int) by rw [Int.natCast_mul], ← hma]; exact IntWalk.u64_in _ ⟨by omega, by omega⟩
  have e12 : ((u : Int) - (ma : Int)) = (ra : Int) := by omega
  have hmu : ma ≤ u := by omega
  have hrlt : ra < 4294967296 := by have : ra < y1 := by rw [hra]; exact Nat.mod_lt _ (by omega)
                                    omega
  have hst : Q1 ≤ qa := by rw [D.q1, hqa]; exact dd_start _ _ _ _ _ (by omega) (by omega) un1lt
  have inv0 : Hid (qa * y1 + ra = u) := by show _ = _; omega
  have HD := Lib.hid D; clear D
  have HH := Lib.hid (And.intro hqa (And.intro hra (And.intro hma hsum))); clear hqa hra hma hsum
  have e1 := HE1.out; clear HE1
  go_enter Tryd.func64, Tryd.ntmps64
  go_upto_block 0 with (first | (go_at_call 50; refine HLZ.out.mono ?_; rintro e w' ⟨rfl, rfl⟩))
  clear e1 e2 e3 e6 e7 e8 e9 e10 e11 e12
  go_cut [15] (fun q wc => q = .int .u64 (Q1 : Nat) ∧ wc = w')
  case first =>
    go_wp2_with fail
    go_loop [15, 16] (fun q r => ∃ qn rn : Nat, q = .int .u64 (qn : Nat) ∧ r = .int .u64 (rn : Nat) ∧ Hid (qn * y1 + rn = u) ∧ Q1 ≤ qn ∧ rn < 4294967296) (fun q _ => (intOf q).toNat)
    case atStart => exact ⟨qa, ra, rfl, rfl, inv0, hst, hrlt⟩
    case round =>
      obtain ⟨q, r, rfl, rfl, hi', hQ, hr⟩ := hrel
      have hcap : q ≤ 4294967297 := dd_cap 4294967296 y1 y0 u q r hi'.out (by rw [← HD.out.YY]; exact HD.out.uY) y0hi (by omega)
      by_cases hA : 4294967296 ≤ q
      · have hd : decide ((4294967296 : Int) ≤ (q : Int)) = true := by simp; omega
        have hlt : Q1 < q := by rw [HD.out.q1]; exact dd_bad _ _ _ _ _ _ _ hi'.out (.inl hA) (by rw [← HD.out.YY]; exact HD.out.uY) un1lt
        have hi2 : Hid ((q - 1) * y1 + (r + y1) = u) := by
          show _ = _; have := hi'.out; obtain ⟨m, rfl⟩ : ∃ m, q = m + 1 := ⟨q - 1, by omega⟩
          rw [Nat.add_mul] at this; simp only [Nat.add_sub_cancel]; omega
        by_cases hB : 4294967296 ≤ r + y1
        · have hbr := dd_break 4294967296 y1 y0 u un1 (q-1) (r+y1) hi2.out (by omega) hB y0hi (by omega)
          rw [← HD.out.q1] at hbr
          have hq1 : q - 1 = Q1 := by omega
          have HQ1 := Lib.hid hq1; clear hq1
          have hd3 : decide ((4294967296 : Int) ≤ (r : Int) + (y1 : Int)) = true := by simp; omega
          have q1 : 1 ≤ q := by omega
          have q2 : q < 18446744073709551615 := by omega
          have HF := Lib.hid (And.intro hA (And.intro hB (And.intro hcap (And.intro hlt hbr)))); clear hA hB hcap hlt hbr
          go_wp2
          go_meet
          exact ⟨by have := HQ1.out; go_num, rfl⟩
        · have hd3 : decide ((4294967296 : Int) ≤ (r : Int) + (y1 : Int)) = false := by simp; omega
          have q1 : 1 ≤ q := by omega
          have q2 : q < 18446744073709551615 := by omega
          have HF := Lib.hid (And.intro hA (And.intro hB (And.intro hcap hlt))); clear hA hB hcap hlt
          go_wp2
          go_round
          case rel => exact ⟨q - 1, r + y1, by go_num, by go_num, hi2, by have := HF.out; omega, by have := HF.out; omega⟩
          case measure => simp [intOf]; omega
      · have hd : decide ((4294967296 : Int) ≤ (q : Int)) = false := by simp; omega
        obtain ⟨m, hm⟩ : ∃ m, m = q * y0 := ⟨_, rfl⟩
        have hmlt : m < 18446744073709551616 := by
          have h1 : q * y0 ≤ 4294967295 * y0 := Nat.mul_le_mul_right _ (by omega)
          omega
        have em : IntKind.u64.wrap ((q : Int) * (y0 : Int)) = (m : Int) := by
          rw [show ((q : Int) * (y0 : Int)) = ((q * y0 : Nat) : Int) by rw [Int.natCast_mul], ← hm]; exact IntWalk.u64_in _ ⟨by omega, by omega⟩
        have HM := Lib.hid hm; clear hm
        by_cases hC : 4294967296 * r + un1 < m
        · have hlt : Q1 < q := by rw [HD.out.q1]; exact dd_bad _ _ _ _ _ _ _ hi'.out (.inr (by have := HM.out; omega)) (by rw [← HD.out.YY]; exact HD.out.uY) un1lt
          have hi2 : Hid ((q - 1) * y1 + (r + y1) = u) := by
            show _ = _; have := hi'.out; obtain ⟨m, rfl⟩ : ∃ m, q = m + 1 := ⟨q - 1, by omega⟩
            rw [Nat.add_mul] at this; simp only [Nat.add_sub_cancel]; omega
          have hd2 : decide ((4294967296 : Int) * (r : Int) + (un1 : Int) < (m : Int)) = true := by simp; omega
          by_cases hB : 4294967296 ≤ r + y1
          · have hbr := dd_break 4294967296 y1 y0 u un1 (q-1) (r+y1) hi2.out (by omega) hB y0hi (by omega)
            rw [← HD.out.q1] at hbr
            have hq1 : q - 1 = Q1 := by omega
            have HQ1 := Lib.hid hq1; clear hq1
            have hd3 : decide ((4294967296 : Int) ≤ (r : Int) + (y1 : Int)) = true := by simp; omega
            have q1 : 1 ≤ q := by omega
            have q2 : q < 18446744073709551615 := by omega
            have HF := Lib.hid (And.intro hA (And.intro hB (And.intro hcap (And.intro hlt (And.intro hC hbr))))); clear hA hB hcap hlt hbr hC
            go_wp2
            go_meet
            exact ⟨by have := HQ1.out; go_num, rfl⟩
          · have hd3 : decide ((4294967296 : Int) ≤ (r : Int) + (y1 : Int)) = false := by simp; omega
            have q1 : 1 ≤ q := by omega
            have q2 : q < 18446744073709551615 := by omega
            have HF := Lib.hid (And.intro hA (And.intro hB (And.intro hcap (And.intro hC hlt)))); clear hA hB hcap hlt hC
            go_wp2
            go_round
            case rel => exact ⟨q - 1, r + y1, by go_num, by go_num, hi2, by have := HF.out; omega, by have := HF.out; omega⟩
            case measure => simp [intOf]; omega
        · have hgd := dd_good 4294967296 y1 y0 u un1 q r hi'.out (by have := HM.out; omega) (by omega)
          rw [← HD.out.q1] at hgd
          have hq1 : q = Q1 := by omega
          have HQ1 := Lib.hid hq1; clear hq1
          have hd2 : decide ((4294967296 : Int) * (r : Int) + (un1 : Int) < (m : Int)) = false := by simp; omega
          go_wp2
          go_meet
          exact ⟨by rw [HQ1.out], rfl⟩
  case rest =>
    obtain ⟨rfl, rfl⟩ := hcut
    have D := HD.out
    have Q1lt := D.Q1lt
    have Q0lt := D.Q0lt
    have hR1 : R1 < 18446744073709551616 := by have := D.R1Y; omega
    have hR0 : R0 < 18446744073709551616 := by have := D.R0Y; omega
    obtain ⟨uu, huu⟩ : ∃ uu, uu = u * 4294967296 % 18446744073709551616 := ⟨_, rfl⟩
    obtain ⟨u2, hu2⟩ : ∃ u2, u2 = (u * 4294967296 + un1) % 18446744073709551616 := ⟨_, rfl⟩
    obtain ⟨qq, hqq⟩ : ∃ qq, qq = Q1 * Y % 18446744073709551616 := ⟨_, rfl⟩
    have f1 : IntKind.u64.wrap ((u : Int) * 4294967296) = (uu : Int) := by rw [IntKind.wrap_u64]; omega
    have f2 : IntKind.u64.wrap ((uu : Int) + (un1 : Int)) = (u2 : Int) := by rw [IntKind.wrap_u64]; omega
    have f3 : IntKind.u64.wrap ((Q1 : Int) * (Y : Int)) = (qq : Int) := by
      rw [show ((Q1 : Int) * (Y : Int)) = ((Q1 * Y : Nat) : Int) by rw [Int.natCast_mul], IntKind.wrap_u64]; omega
    have f4 : IntKind.u64.wrap ((u2 : Int) - (qq : Int)) = (R1 : Int) := by
      have h := D.r1
      generalize Q1 * Y = P at h hqq
      rw [IntKind.wrap_u64]; omega
    obtain ⟨qb, hqb⟩ : ∃ qb, qb = R1 / y1 := ⟨_, rfl⟩
    obtain ⟨rb, hrb⟩ : ∃ rb, rb = R1 % y1 := ⟨_, rfl⟩
    obtain ⟨mb, hmb⟩ : ∃ mb, mb = qb * y1 := ⟨_, rfl⟩
    have hqu1 : qb ≤ R1 := by rw [hqb]; exact Nat.div_le_self _ _
    have hsum1 : mb + rb = R1 := by rw [hmb, hqb, hrb]; have := Nat.div_add_mod R1 y1; rw [Nat.mul_comm] at this; exact this
    have f10 : IntKind.u64.wrap ((R1 : Int) / (y1 : Int)) = (qb : Int) := by
      rw [show ((R1 : Int) / (y1 : Int)) = ((R1 / y1 : Nat) : Int) by rw [Int.natCast_ediv], ← hqb]; exact IntWalk.u64_in _ ⟨by omega, by omega⟩
    have f11 : IntKind.u64.wrap ((qb : Int) * (y1 : Int)) = (mb : Int) := by
      rw [show ((qb : Int) * (y1 : Int)) = ((qb * y1 : Nat) : Int) by rw [Int.natCast_mul], ← hmb]; exact IntWalk.u64_in _ ⟨by omega, by omega⟩
    have f12 : ((R1 : Int) - (mb : Int)) = (rb : Int) := by omega
    have hmu1 : mb ≤ R1 := by omega
    have hrlt1 : rb < 4294967296 := by
      have : rb < y1 := by rw [hrb]; exact Nat.mod_lt _ (by omega)
      omega
    have hst1 : Q0 ≤ qb := by rw [D.q0, hqb]; exact dd_start _ _ _ _ _ (by omega) (by omega) un0lt
    have inv1 : Hid (qb * y1 + rb = R1) := by show _ = _; omega
    have HH1 := Lib.hid (And.intro hqb (And.intro hrb (And.intro hmb (And.intro hsum1 (And.intro huu (And.intro hu2 hqq)))))); clear hqb hrb hmb hsum1 huu hu2 hqq D
    go_upto_block 2 with fail
    clear f1 f2 f3 f4 f10 f11 f12
    go_cut [18] (fun q wd => q = .int .u64 (Q0 : Nat) ∧ wd = wc)
    case first =>
      go_wp2_with fail
      go_loop [18, 16] (fun q r => ∃ qn rn : Nat, q = .int .u64 (qn : Nat) ∧ r = .int .u64 (rn : Nat) ∧ Hid (qn * y1 + rn = R1) ∧ Q0 ≤ qn ∧ rn < 4294967296) (fun q _ => (intOf q).toNat)
      case atStart => exact ⟨qb, rb, rfl, rfl, inv1, hst1, hrlt1⟩
      case round =>
        obtain ⟨q, r, rfl, rfl, hi', hQ, hr⟩ := hrel
        have hcap : q ≤ 4294967297 := dd_cap 4294967296 y1 y0 R1 q r hi'.out (by rw [← HD.out.YY]; exact HD.out.R1Y) y0hi (by omega)
        by_cases hA : 4294967296 ≤ q
        · have hd : decide ((4294967296 : Int) ≤ (q : Int)) = true := by simp; omega
          have hlt : Q0 < q := by rw [HD.out.q0]; exact dd_bad _ _ _ _ _ _ _ hi'.out (.inl hA) (by rw [← HD.out.YY]; exact HD.out.R1Y) un0lt
          have hi2 : Hid ((q - 1) * y1 + (r + y1) = R1) := by
            show _ = _; have := hi'.out; obtain ⟨m, rfl⟩ : ∃ m, q = m + 1 := ⟨q - 1, by omega⟩
            rw [Nat.add_mul] at this; simp only [Nat.add_sub_cancel]; omega
          by_cases hB : 4294967296 ≤ r + y1
          · have hbr := dd_break 4294967296 y1 y0 R1 un0 (q-1) (r+y1) hi2.out (by omega) hB y0hi (by omega)
            rw [← HD.out.q0] at hbr
            have hq0 : q - 1 = Q0 := by omega
            have HQ0 := Lib.hid hq0; clear hq0
            have hd3 : decide ((4294967296 : Int) ≤ (r : Int) + (y1 : Int)) = true := by simp; omega
            have q1 : 1 ≤ q := by omega
            have q2 : q < 18446744073709551615 := by omega
            have HF := Lib.hid (And.intro hA (And.intro hB (And.intro hcap (And.intro hlt hbr)))); clear hA hB hcap hlt hbr
            go_wp2
            go_meet
            exact ⟨by have := HQ0.out; go_num, rfl⟩
          · have hd3 : decide ((4294967296 : Int) ≤ (r : Int) + (y1 : Int)) = false := by simp; omega
            have q1 : 1 ≤ q := by omega
            have q2 : q < 18446744073709551615 := by omega
            have HF := Lib.hid (And.intro hA (And.intro hB (And.intro hcap hlt))); clear hA hB hcap hlt
            go_wp2
            go_round
            case rel => exact ⟨q - 1, r + y1, by go_num, by go_num, hi2, by have := HF.out; omega, by have := HF.out; omega⟩
            case measure => simp [intOf]; omega
        · have hd : decide ((4294967296 : Int) ≤ (q : Int)) = false := by simp; omega
          obtain ⟨m, hm⟩ : ∃ m, m = q * y0 := ⟨_, rfl⟩
          have hmlt : m < 18446744073709551616 := by
            have h1 : q * y0 ≤ 4294967295 * y0 := Nat.mul_le_mul_right _ (by omega)
            omega
          have em : IntKind.u64.wrap ((q : Int) * (y0 : Int)) = (m : Int) := by
            rw [show ((q : Int) * (y0 : Int)) = ((q * y0 : Nat) : Int) by rw [Int.natCast_mul], ← hm]; exact IntWalk.u64_in _ ⟨by omega, by omega⟩
          have HM := Lib.hid hm; clear hm
          by_cases hC : 4294967296 * r + un0 < m
          · have hlt : Q0 < q := by rw [HD.out.q0]; exact dd_bad _ _ _ _ _ _ _ hi'.out (.inr (by have := HM.out; omega)) (by rw [← HD.out.YY]; exact HD.out.R1Y) un0lt
            have hi2 : Hid ((q - 1) * y1 + (r + y1) = R1) := by
              show _ = _; have := hi'.out; obtain ⟨m, rfl⟩ : ∃ m, q = m + 1 := ⟨q - 1, by omega⟩
              rw [Nat.add_mul] at this; simp only [Nat.add_sub_cancel]; omega
            have hd2 : decide ((4294967296 : Int) * (r : Int) + (un0 : Int) < (m : Int)) = true := by simp; omega
            by_cases hB : 4294967296 ≤ r + y1
            · have hbr := dd_break 4294967296 y1 y0 R1 un0 (q-1) (r+y1) hi2.out (by omega) hB y0hi (by omega)
              rw [← HD.out.q0] at hbr
              have hq0 : q - 1 = Q0 := by omega
              have HQ0 := Lib.hid hq0; clear hq0
              have hd3 : decide ((4294967296 : Int) ≤ (r : Int) + (y1 : Int)) = true := by simp; omega
              have q1 : 1 ≤ q := by omega
              have q2 : q < 18446744073709551615 := by omega
              have HF := Lib.hid (And.intro hA (And.intro hB (And.intro hcap (And.intro hlt (And.intro hC hbr))))); clear hA hB hcap hlt hbr hC
              go_wp2
              go_meet
              exact ⟨by have := HQ0.out; go_num, rfl⟩
            · have hd3 : decide ((4294967296 : Int) ≤ (r : Int) + (y1 : Int)) = false := by simp; omega
              have q1 : 1 ≤ q := by omega
              have q2 : q < 18446744073709551615 := by omega
              have HF := Lib.hid (And.intro hA (And.intro hB (And.intro hcap (And.intro hC hlt)))); clear hA hB hcap hlt hC
              go_wp2
              go_round
              case rel => exact ⟨q - 1, r + y1, by go_num, by go_num, hi2, by have := HF.out; omega, by have := HF.out; omega⟩
              case measure => simp [intOf]; omega
          · have hgd := dd_good 4294967296 y1 y0 R1 un0 q r hi'.out (by have := HM.out; omega) (by omega)
            rw [← HD.out.q0] at hgd
            have hq0 : q = Q0 := by omega
            have HQ0 := Lib.hid hq0; clear hq0
            have hd2 : decide ((4294967296 : Int) * (r : Int) + (un0 : Int) < (m : Int)) = false := by simp; omega
            go_wp2
            go_meet
            exact ⟨by rw [HQ0.out], rfl⟩

    case rest =>
      obtain ⟨rfl, rfl⟩ := hcut
      have D := HD.out
      obtain ⟨vv, hvv⟩ : ∃ vv, vv = R1 * 4294967296 % 18446744073709551616 := ⟨_, rfl⟩
      obtain ⟨v2, hv2⟩ : ∃ v2, v2 = (R1 * 4294967296 + un0) % 18446744073709551616 := ⟨_, rfl⟩
      obtain ⟨pp, hpp⟩ : ∃ pp, pp = Q0 * Y % 18446744073709551616 := ⟨_, rfl⟩
      have g1 : IntKind.u64.wrap ((R1 : Int) * 4294967296) = (vv : Int) := by rw [IntKind.wrap_u64]; omega
      have g2 : IntKind.u64.wrap ((vv : Int) + (un0 : Int)) = (v2 : Int) := by rw [IntKind.wrap_u64]; omega
      have g3 : IntKind.u64.wrap ((Q0 : Int) * (Y : Int)) = (pp : Int) := by
        rw [show ((Q0 : Int) * (Y : Int)) = ((Q0 * Y : Nat) : Int) by rw [Int.natCast_mul], IntKind.wrap_u64]; omega
      have g4 : IntKind.u64.wrap ((v2 : Int) - (pp : Int)) = (R0 : Int) := by
        have h := D.r0
        generalize Q0 * Y = P at h hpp
        rw [IntKind.wrap_u64]; omega
      have HV := Lib.hid (And.intro hvv (And.intro hv2 hpp)); clear hvv hv2 hpp D
      go_wp2
      go_ret2
      refine ⟨?_, 0, rfl⟩
      rw [← HD.out.quo, ← HD.out.rem]
      have k1 : ((Q1 * 4294967296 + Q0 : Nat) : Int) = (Q1 : Int) * 4294967296 + (Q0 : Int) := by omega
      have k2 : ((R0 / 2^s : Nat) : Int) = (R0 : Int) / 2^s := by rw [Int.natCast_ediv, Int.natCast_pow]; rfl
      rw [k1, k2]
      rfl
theorem Div64_any (hi lo y : Nat) (hlo : lo < 18446744073709551616) (hhi : hi < y) (hy64 : y < 18446744073709551616) (w : World) :
    Calls Tryd.prog 64 #[.int .u64 hi, .int .u64 lo, .int .u64 y] w (DivQ hi lo y w) := by
  by_cases h0 : hi = 0
  · subst h0; exact Div64_small lo y (by omega) hlo hy64 w
  · obtain ⟨b1, b2, b3⟩ := Lib.bitLenAux_bounds 64 y hy64 (by omega)
    have b4 : Lib.bitLen y ≤ 64 := Lib.bitLen_le y 64 (Nat.le_refl _) hy64
    have e : Lib.bitLenAux 64 y = Lib.bitLen y := rfl
    rw [e] at b1 b2 b3
    refine Div64_big hi lo y (64 - Lib.bitLen y) hlo hhi (by omega) (by omega) hy64 ?_ ?_ (by omega) w
    · have h1 : 2^(Lib.bitLen y - 1) * 2^(64 - Lib.bitLen y) ≤ y * 2^(64 - Lib.bitLen y) := Nat.mul_le_mul_right _ b2
      rw [← Nat.pow_add, show Lib.bitLen y - 1 + (64 - Lib.bitLen y) = 63 by omega] at h1
      exact h1
    · have h1 : y * 2^(64 - Lib.bitLen y) < 2^(Lib.bitLen y) * 2^(64 - Lib.bitLen y) := Nat.mul_lt_mul_of_pos_right b3 (Nat.pow_pos (by omega))
      rw [← Nat.pow_add, show Lib.bitLen y + (64 - Lib.bitLen y) = 64 by omega] at h1
      exact h1
end Go.Proofs.YtkpkifhjedlieaaDoor
