/-
  The walk of the reference's Pow.
-/
import Derived.Test.YtipmoklmolhffaaRefQuo
namespace Go.Proofs.Ytipmoklmolhffaa
open Go.RowKit NM
/-- the exponent's bytes up to k, and the bits of byte c above the lowest b -/
theorem pow_bit (a m E c i : Nat) : (a ^ (E * 2^(8-(i+1)) + c / 2^(i+1)) % m) * (a ^ (E * 2^(8-(i+1)) + c / 2^(i+1)) % m) % m = a ^ (2 * (E * 2^(8-(i+1)) + c / 2^(i+1))) % m := by
  rw [← Nat.mul_mod, ← Nat.pow_add, Nat.two_mul]
theorem half_bit (c i : Nat) : c / 2^i = 2 * (c / 2^(i+1)) + c / 2^i % 2 := by
  rw [Nat.pow_succ, ← Nat.div_div_eq_div_mul]; omega
theorem and1_u8 : ∀ x : Nat, x < 256 → bits .and .u8 ((x : Nat) : Int) 1 = ((x % 2 : Nat) : Int) := by decide +kernel
theorem quoR_c (w : World) (a b : ByteArray) (q r : Nat) (hq : q = sv a / sv b) (hr : r = sv a % sv b) (ha : a.size ≤ 1000000000) (hb : b.size ≤ 1000000000) (h : sv b ≠ 0) :
    Calls Try.prog 20 #[.string a, .string b] w fun e w' => e = .returned (.tuple #[.string (NB q), .string (NB r), .bool true]) ∧ Below w.heap.size w w' := by
  have := RefQuo_any w a b ha hb
  rwa [show QuoV a b = .tuple #[.string (NB q), .string (NB r), .bool true] by unfold QuoV; rw [if_neg h, hq, hr]] at this
theorem mulR_c (w : World) (a b : ByteArray) (n : Nat) (h : sv a * sv b = n) (ha : a.size ≤ 1000000000) (hb : b.size ≤ 1000000000) :
    Calls Try.prog 21 #[.string a, .string b] w fun e w' => e = .returned (.string (NB n)) ∧ Below w.heap.size w w' := by rw [← h]; exact RefMul_any w a b ha hb
theorem NB_sz {x m : Nat} (s : ByteArray) (hm : m = sv s) (h : x < m) : (NB x).size ≤ s.size := NB_size (Nat.lt_trans (by rw [hm] at h; exact h) (sv_lt_size s))
theorem NB_sz2 {x y m : Nat} (s : ByteArray) (hm : m = sv s) (h : x < m) (h2 : y < m) : (NB (x * y)).size ≤ s.size + s.size := by
  apply NB_size
  rw [Nat.pow_add]
  have := sv_lt_size s
  exact Nat.mul_lt_mul'' (by omega) (by omega)
set_option maxRecDepth 100000 in
set_option maxHeartbeats 8000000 in
theorem RefPow_any (w : World) (a e m : ByteArray) (ha : a.size ≤ 400000000) (he : e.size ≤ 400000000) (hm : m.size ≤ 400000000) :
    Calls Try.prog 22 #[.string a, .string e, .string m] w fun e' w' => e' = .returned (PowV a e m) ∧ Below w.heap.size w w' := by
  by_cases h0 : sv m = 0
  · have hQ := RefQuo_any w a m (by omega) (by omega)
    rw [show QuoV a m = .tuple #[.string ⟨#[]⟩, .string ⟨#[]⟩, .bool false] by unfold QuoV; rw [if_pos h0]] at hQ
    rw [show PowV a e m = .tuple #[.string ⟨#[]⟩, .bool false] by unfold PowV; rw [if_pos h0]]
    have HQ := Lib.hid hQ; clear hQ
    go_enter Try.func22, Try.ntmps22
    go_wp2_with fail
    refine HQ.out.mono ?_
    rintro e' w1 ⟨rfl, hB⟩
    go_wp2
    go_ret2
    exact ⟨rfl, hB⟩
  · obtain ⟨M, hM⟩ : ∃ M, M = sv m := ⟨_, rfl⟩
    obtain ⟨X, hX⟩ : ∃ X, X = sv a % sv m := ⟨_, rfl⟩
    obtain ⟨one, hone⟩ : ∃ one, one = sv (NB 1) % sv m := ⟨_, rfl⟩
    have hM0 : 0 < M := by omega
    have hXM : X < M := by rw [hX, ← hM]; exact Nat.mod_lt _ hM0
    have hoM : one < M := by rw [hone, ← hM]; exact Nat.mod_lt _ hM0
    have ho1 : one = sv a ^ 0 % M := by rw [hone, sv_NB, Nat.pow_zero, hM]
    rw [show PowV a e m = .tuple #[.string (NB (sv a ^ sv e % M)), .bool true] by unfold PowV; rw [if_neg h0, hM]]
    obtain ⟨l, hl⟩ : ∃ l, l = e.data.toList := ⟨_, rfl⟩
    have hll : l.length = e.size := by rw [hl]; exact Array.length_toList
    have HL := Lib.hid (And.intro hl hll); clear hl hll
    have hXa : X = sv a % M := by rw [hX, hM]
    have H := Lib.hid (And.intro h0 (And.intro hM (And.intro hX (And.intro hone (And.intro hXM (And.intro hoM hXa)))))); clear h0 hM hX hone hXM hoM hXa
    have hn := he
    have HO1 := Lib.hid ho1; clear ho1
    go_enter Try.func22, Try.ntmps22
    go_wp2_with fail
    refine (quoR_c _ a m _ X rfl H.out.2.2.1 (by omega) (by omega) H.out.1).mono ?_
    rintro e' w1 ⟨rfl, B1⟩
    go_wp2_with fail
    refine (RefOf_any _ 1 (by omega) (by omega)).mono ?_
    rintro e' w2 ⟨rfl, B2⟩
    go_wp2_with fail
    refine (quoR_c _ (NB 1) m _ one rfl H.out.2.2.2.1 (by rw [show NB 1 = ⟨#[1]⟩ by unfold NB; simp [nb]]; decide) (by omega) H.out.1).mono ?_
    rintro e' w3 ⟨rfl, B3⟩
    have hB := (B1.trans (B2.mono B1.size)).trans (B3.mono (Nat.le_trans B1.size B2.size))
    clear B1 B2 B3
    go_wp2_with fail
    go_loopw [12, 14] (fun ov kv wr => ∃ (k y : Nat), ov = .string (NB y) ∧ kv = .int .i64 (k : Nat) ∧ k ≤ e.size ∧ Hid (y = sv a ^ bv (l.take k) % M) ∧ Below w.heap.size w wr) (fun _ kv _ => e.size - (intOf kv).toNat)
    case atStart => exact ⟨0, one, rfl, rfl, Nat.zero_le _, Lib.hid (by rw [List.take_zero]; exact HO1.out), hB⟩
    case round =>
      clear hB
      obtain ⟨k, y, rfl, rfl, hk, hy, hB⟩ := hrel
      by_cases hlt : k < e.size
      · have hbj := byte_at e k hlt
        rw [← HL.out.1] at hbj
        have hts := bv_take_succ l k _ hbj
        obtain ⟨c, hc⟩ : ∃ c, c = (e[k]'hlt).toNat := ⟨_, rfl⟩
        have hcb : c < 256 := by rw [hc]; exact UInt8.toNat_lt _
        rw [← hc] at hts
        have HT := Lib.hid hts; clear hts hbj
        go_wp2_with fail
        obtain ⟨E, hE⟩ : ∃ E, E = bv (l.take k) := ⟨_, rfl⟩
        rw [← hE] at hy HT
        go_loopw [12, 15] (fun ov bw wr2 => ∃ (i y2 : Nat), ov = .string (NB y2) ∧ bw = .int .i64 ((i : Int) - 1) ∧ i ≤ 8 ∧ Hid (y2 = sv a ^ (E * 2^(8-i) + c / 2^i) % M) ∧ Below w.heap.size w wr2) (fun _ bw _ => (intOf bw + 1).toNat)
        case atStart => exact ⟨8, y, rfl, rfl, Nat.le_refl _, Lib.hid (by rw [hy.out, show c / 2^8 = 0 by omega]; simp), hB⟩
        case round =>
          clear hB hy
          obtain ⟨i, y2, rfl, rfl, hi, hy, hB⟩ := hrel
          by_cases hi0 : i = 0
          · subst hi0
            go_wp2
            refine ⟨⟨k + 1, y2, rfl, by go_num, by omega, Lib.hid ?_, hB⟩, by (simp [intOf]; try omega)⟩
            rw [hy.out, HT.out]
            congr 2
            simp
            omega
          · obtain ⟨t, rfl⟩ : ∃ t, i = t + 1 := ⟨i - 1, by omega⟩
            rw [show (((t + 1 : Nat) : Int) - 1) = (t : Int) by omega]
            have hy2M : y2 < M := by rw [hy.out]; exact Nat.mod_lt _ (by have := H.out.2.2.2.2.1; omega)
            obtain ⟨y3, hy3⟩ : ∃ y3, y3 = y2 * y2 % M := ⟨_, rfl⟩
            have hy3M : y3 < M := by rw [hy3]; exact Nat.mod_lt _ (by omega)
            have e3 : y3 = sv a ^ (2 * (E * 2^(8-(t+1)) + c / 2^(t+1))) % M := by rw [hy3, hy.out]; exact pow_bit _ _ _ _ _
            have hp2 : 2 * (E * 2^(8-(t+1))) = E * 2^(8-t) := by
              rw [show 8 - t = (8 - (t+1)) + 1 by omega, Nat.pow_succ, Nat.mul_comm 2, Nat.mul_assoc]
            rw [Nat.mul_add, hp2] at e3
            have hhalf := half_bit c t
            have hq3 := fun W => quoR_c W (NB (y2 * y2)) m _ y3 rfl (by rw [sv_NB, hy3, H.out.2.1]) (Nat.le_trans (NB_sz2 m H.out.2.1 hy2M hy2M) (by omega)) (by omega) H.out.1
            have hm2 := fun W => mulR_c W (NB y2) (NB y2) (y2 * y2) (by rw [sv_NB]) (Nat.le_trans (NB_sz m H.out.2.1 hy2M) (by omega)) (Nat.le_trans (NB_sz m H.out.2.1 hy2M) (by omega))
            have HQ3 := Lib.hid hq3; have HM2 := Lib.hid hm2; have HE3 := Lib.hid (And.intro e3 hhalf); have HY3 := Lib.hid (And.intro hy3M hy3); clear hq3 hm2 e3 hhalf hp2 hy3M hy3 hy2M hy
            go_wp2_with fail
            refine (HM2.out _).mono ?_
            rintro e' w4 ⟨rfl, B4⟩
            go_wp2_with fail
            refine (HQ3.out _).mono ?_
            rintro e' w5 ⟨rfl, B5⟩
            replace hB := (hB.trans (B4.mono hB.size)).trans (B5.mono (Nat.le_trans hB.size B4.size))
            clear B4 B5 HM2 HQ3
            have hdm : c / 2^t < 256 := Nat.lt_of_le_of_lt (Nat.div_le_self _ _) hcb
            have hbit : bits .and .u8 (((e[k]'hlt).toNat : Int) / 2^t) 1 = ((c / 2^t % 2 : Nat) : Int) := by
              rw [← hc, show ((c : Int) / 2^t) = ((c / 2^t : Nat) : Int) by rw [Int.natCast_ediv, Int.natCast_pow]; rfl]
              exact and1_u8 _ hdm
            have hd2 : c / 2^t % 2 = 0 ∨ c / 2^t % 2 = 1 := by omega
            rcases hd2 with hd | hd
            · rw [hd] at hbit
              have HD := Lib.hid hd; clear hd hdm
              go_wp2
              refine ⟨⟨t, y3, rfl, by go_num, by omega, Lib.hid ?_, hB⟩, by (simp [intOf]; try omega)⟩
              have h1 := HE3.out.2
              rw [HD.out, Nat.add_zero] at h1
              rw [h1]; exact HE3.out.1
            · rw [hd] at hbit
              have HD := Lib.hid hd; clear hd hdm
              obtain ⟨y4, hy4⟩ : ∃ y4, y4 = y3 * X % M := ⟨_, rfl⟩
              have e4 : y4 = sv a ^ (E * 2^(8-t) + c / 2^t) % M := by
                have h1 := HE3.out.2
                rw [HD.out] at h1
                rw [h1, ← Nat.add_assoc, Nat.pow_succ, hy4, HE3.out.1, H.out.2.2.2.2.2.2, ← Nat.mul_mod]
              have hXM := H.out.2.2.2.2.1
              have hq3 := fun W => quoR_c W (NB (y3 * X)) m _ y4 rfl (by rw [sv_NB, hy4, H.out.2.1]) (Nat.le_trans (NB_sz2 m H.out.2.1 HY3.out.1 hXM) (by omega)) (by omega) H.out.1
              have hm2 := fun W => mulR_c W (NB y3) (NB X) (y3 * X) (by rw [sv_NB, sv_NB]) (Nat.le_trans (NB_sz m H.out.2.1 HY3.out.1) (by omega)) (Nat.le_trans (NB_sz m H.out.2.1 hXM) (by omega))
              have HQ3 := Lib.hid hq3; have HM2 := Lib.hid hm2; have HE4 := Lib.hid (And.intro e4 hy4); clear hq3 hm2 e4 hy4 hXM
              go_wp2_with fail
              refine (HM2.out _).mono ?_
              rintro e' w6 ⟨rfl, B6⟩
              go_wp2_with fail
              refine (HQ3.out _).mono ?_
              rintro e' w7 ⟨rfl, B7⟩
              replace hB := (hB.trans (B6.mono hB.size)).trans (B7.mono (Nat.le_trans hB.size B6.size))
              clear B6 B7 HM2 HQ3
              go_wp2
              refine ⟨⟨t, y4, rfl, by go_num, by omega, Lib.hid HE4.out.1, hB⟩, by (simp [intOf]; try omega)⟩
      · obtain rfl : k = e.size := by omega
        have hfin : y = sv a ^ sv e % M := by rw [hy.out, List.take_of_length_le (by rw [HL.out.2]; exact Nat.le_refl _), HL.out.1]; rfl
        clear hy
        subst hfin
        go_wp2
        go_ret2
        exact ⟨rfl, hB⟩
end Go.Proofs.Ytipmoklmolhffaa
