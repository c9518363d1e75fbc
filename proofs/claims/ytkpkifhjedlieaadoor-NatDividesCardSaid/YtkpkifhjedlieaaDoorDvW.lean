/-
  The walk of nat.divide for divisors of two words or more.
-/
import Derived.Test.YtkpkifhjedlieaaDoorDvE
import Derived.Test.YtkpkifhjedlieaaDoorShr
namespace Go.Proofs.YtkpkifhjedlieaaDoor
open Go.RowKit NM
/-- what the shift of the divisor gives -/
theorem top_shift (Y D : List Nat) (n s : Nat) (hY : Wd Y) (tY : Tr Y) (lY : Y.length = n) (hn : 2 ≤ n) (hs : s + Lib.bitLen (gd Y (n-1)) = 64) (hD : Wd D) (tD : Tr D) (hv : wv D = wv Y * 2^s) :
    D.length = n ∧ 9223372036854775808 ≤ gd D (n-1) ∧ 9223372036854775808 * B64^(n-1) ≤ wv D := by
  have ht64 := gd_lt hY (n-1)
  have htop : gd Y (n-1) ≠ 0 := by
    have h := tY
    unfold Tr at h
    rw [lY] at h
    intro h2
    apply h
    rw [List.getD_eq_getElem?_getD, List.getElem?_eq_getElem (by omega)]
    rw [gd_eq, List.getD_eq_getElem?_getD, List.getElem?_eq_getElem (by omega)] at h2
    exact h2
  obtain ⟨b1, b2, b3⟩ := Lib.bitLenAux_bounds 64 (gd Y (n-1)) ht64 htop
  have e : Lib.bitLenAux 64 (gd Y (n-1)) = Lib.bitLen (gd Y (n-1)) := rfl
  rw [e] at b1 b2 b3
  have hsp := wv_split Y (n-1) (by omega)
  rw [wv_drop_cons Y (n-1) (by omega), List.drop_eq_nil_of_le (by omega), show wv [] = 0 from rfl, Nat.mul_zero, Nat.add_zero] at hsp
  have hA := take_lt Y hY (n-1) (by omega)
  have et : Y.getD (n-1) 0 = gd Y (n-1) := rfl
  rw [et] at hsp
  generalize gd Y (n-1) = t at *
  generalize wv (Y.take (n-1)) = A at *
  have k1 : 2^(Lib.bitLen t - 1) * 2^s ≤ t * 2^s := Nat.mul_le_mul_right _ b2
  rw [← Nat.pow_add, show Lib.bitLen t - 1 + s = 63 by omega] at k1
  have k2 : (t + 1) * 2^s ≤ 2^(Lib.bitLen t) * 2^s := Nat.mul_le_mul_right _ b3
  rw [← Nat.pow_add, show Lib.bitLen t + s = 64 by omega] at k2
  have lo : 9223372036854775808 * B64^(n-1) ≤ wv D := by
    rw [hv, hsp, Nat.add_mul]
    have e1 : B64^(n-1) * t * 2^s = t * 2^s * B64^(n-1) := by rw [Nat.mul_assoc, Nat.mul_comm]
    have e0 : (2:Nat)^63 = 9223372036854775808 := by decide
    have e2 : 9223372036854775808 * B64^(n-1) ≤ t * 2^s * B64^(n-1) := Nat.mul_le_mul_right _ (by omega)
    omega
  have hi : wv D < B64^n := by
    rw [hv, hsp]
    have e1 : (A + B64^(n-1) * t) * 2^s < (B64^(n-1) * (t + 1)) * 2^s := Nat.mul_lt_mul_of_pos_right (by rw [Nat.mul_add]; omega) (Nat.pow_pos (by omega))
    have e2 : (B64^(n-1) * (t + 1)) * 2^s ≤ B64^(n-1) * 2^64 := by rw [Nat.mul_assoc]; exact Nat.mul_le_mul_left _ k2
    have e3 : B64^(n-1) * 2^64 = B64^n := by
      obtain ⟨m, rfl⟩ : ∃ m, n = m + 1 := ⟨n - 1, by omega⟩
      rw [Nat.pow_succ]; rfl
    omega
  have hlen : D.length = n := by
    have hne : D ≠ [] := by
      intro h; rw [h] at lo
      have : 0 < B64^(n-1) := Nat.pow_pos B64_pos
      have : wv [] = 0 := rfl
      omega
    have h1 := Tr_lt tD hne
    have h2 := wv_lt D hD
    have h3 : B64^(D.length - 1) < B64^n := by omega
    have h4 := (Nat.pow_lt_pow_iff_right (by decide : 1 < B64)).1 h3
    have h5 : B64^(n-1) < B64^D.length := by
      have : 0 < B64^(n-1) := Nat.pow_pos B64_pos
      omega
    have h6 := (Nat.pow_lt_pow_iff_right (by decide : 1 < B64)).1 h5
    omega
  refine ⟨hlen, ?_, lo⟩
  have hsD := wv_split D (n-1) (by omega)
  rw [wv_drop_cons D (n-1) (by omega), List.drop_eq_nil_of_le (by omega), show wv [] = 0 from rfl, Nat.mul_zero, Nat.add_zero] at hsD
  have hAD := take_lt D hD (n-1) (by omega)
  have eD : D.getD (n-1) 0 = gd D (n-1) := rfl
  rw [eD] at hsD
  have h7 : B64^(n-1) * 9223372036854775808 < B64^(n-1) * (gd D (n-1) + 1) := by rw [Nat.mul_comm]; rw [Nat.mul_add]; omega
  have := Nat.lt_of_mul_lt_mul_left h7
  omega
set_option maxRecDepth 100000 in
set_option maxHeartbeats 4000000 in
theorem divide_big (w : World) (b o cap b2 o2 cap2 : Nat) (X Y : List Nat) (hR : Row w b o X) (hS : Row w b2 o2 Y) (hX : Wd X) (hY : Wd Y) (tX : Tr X) (tY : Tr Y) (hb : b < w.heap.size) (hb2 : b2 < w.heap.size)
    (hc : X.length ≤ cap) (hc2 : Y.length ≤ cap2) (hYb : Y.length ≤ 9223372036854775807) (hcap : cap ≤ 1099511627776) (hXl : X.length ≤ 274877906943) (h1 : 2 ≤ Y.length) :
    Calls Tryd.prog 30 #[.slice (some ⟨b, o, none⟩) X.length cap, .slice (some ⟨b2, o2, none⟩) Y.length cap2] w (DivideQ X Y b o w) := by
  have hcmp := compare_any w b o cap b2 o2 cap2 X Y hR hS hX hY tX tY (by omega) hYb hc hc2
  have HC := Lib.hid hcmp; clear hcmp
  by_cases hlt : wv X < wv Y
  · have hn1 := cmpv_lt hlt
    have H1 := Lib.hid h1; clear h1
    go_enter Tryd.func30, Tryd.ntmps30
    go_wp2_with fail
    refine HC.out.mono ?_
    rintro e w1 ⟨rfl, hq⟩
    rw [hn1]
    have HN := Lib.hid hn1; clear hn1
    go_wp2
    go_ret2
    have hb1 := hq.below (w.heap.size)
    exact ⟨_, _, rfl, .inr ⟨rfl, Nat.div_eq_of_lt hlt⟩, ⟨b, o, cap, X, rfl, Nat.lt_of_lt_of_le hb hb1.size, hq.row hR, hX, hc, by omega, tX, (Nat.mod_eq_of_lt hlt).symm⟩, hq.only _ _ _⟩
  · have hge : (decide (cmpv (wv X) (wv Y) < 0)) = false := by unfold cmpv; rw [if_neg hlt]; split <;> simp
    have hlen := Tr_len_le hX tY (Nat.le_of_not_lt hlt)
    obtain ⟨n, hn⟩ : ∃ n, n = Y.length := ⟨_, rfl⟩
    obtain ⟨l, hl⟩ : ∃ l, l = X.length := ⟨_, rfl⟩
    have ht64 := gd_lt hY (n-1)
    obtain ⟨s, hs⟩ : ∃ s, s = 64 - Lib.bitLen (gd Y (n-1)) := ⟨_, rfl⟩
    have hbl : Lib.bitLen (gd Y (n-1)) ≤ 64 := Lib.bitLen_le _ 64 (Nat.le_refl _) ht64
    have htop : gd Y (n-1) ≠ 0 := by
      have h := tY
      unfold Tr at h
      rw [← hn] at h
      intro h2
      apply h
      rw [List.getD_eq_getElem?_getD, List.getElem?_eq_getElem (by omega)]
      rw [gd_eq, List.getD_eq_getElem?_getD, List.getElem?_eq_getElem (by omega)] at h2
      exact h2
    have hbl1 : 1 ≤ Lib.bitLen (gd Y (n-1)) := by
      have := (Lib.bitLenAux_bounds 64 (gd Y (n-1)) ht64 htop).1
      exact this
    have hs2 : s + Lib.bitLen (gd Y (n-1)) = 64 := by omega
    have hs63 : s ≤ 63 := by omega
    have hlz : ∀ W, Calls Tryd.prog 50 #[.int .u64 ((gd Y (n-1) : Nat) : Int)] W fun e w' => e = .returned (.int .i64 (s : Nat)) ∧ W = w' := fun W => by
      have := Tryd.bits_LeadingZeros64 ((gd Y (n-1) : Nat) : Int) W (by omega) (by omega)
      rw [Int.toNat_natCast, show (64 - (Lib.bitLen (gd Y (n-1)) : Int)) = (s : Int) by omega] at this
      exact this.mono fun _ _ ⟨a, b⟩ => ⟨a, b.symm⟩
    have HLZ := Lib.hid hlz; clear hlz
    have HT := Lib.hid (And.intro hs2 (And.intro htop (And.intro ht64 (And.intro hbl1 hbl)))); clear hs2 htop hbl1 hs hbl
    have hnb : ((n : Int) == 1) = false := beq_eq_false_iff_ne.2 (by omega)
    have hln : n ≤ l := by omega
    rw [← hn] at hc2 h1 HC ⊢
    rw [← hl] at hc hXl HC ⊢
    have HL := Lib.hid (And.intro hn (And.intro hl hlen)); clear hn hl hlen
    go_enter Tryd.func30, Tryd.ntmps30
    go_wp2_with fail
    refine HC.out.mono ?_
    rintro e w1 ⟨rfl, hq⟩
    have hb1 := hq.below w.heap.size
    have hy := (hq.row hS).cell (n-1) (by have := HL.out; omega)
    have HQ := Lib.hid hq; clear hq
    go_wp2_with (go_at_call 50; refine (HLZ.out _).mono ?_; rintro e w2 ⟨rfl, rfl⟩)
    have hSL := shiftLeft_any w1 b o cap s X (HQ.out.row hR) hX (Nat.lt_of_lt_of_le hb hb1.size) (by omega) (by have := HL.out; omega) (by have := HL.out; omega)
    have hSL2 := fun W (hbw : Below w1.heap.size w1 W) => shiftLeft_any W b2 o2 cap2 s Y ((HQ.out.row hS).below hbw (Nat.lt_of_lt_of_le hb2 hb1.size)) hY (Nat.lt_of_lt_of_le (Nat.lt_of_lt_of_le hb2 hb1.size) hbw.size) (by omega) (by have := HL.out; omega) (by have := HL.out; omega)
    rw [← HL.out.2.1] at hSL
    rw [← HL.out.1] at hSL2
    have HS1 := Lib.hid hSL; have HS2 := Lib.hid hSL2; clear hSL hSL2
    refine HS1.out.mono ?_
    rintro e w2 ⟨L, N, oL, lL, mN, vL, bL, rfl⟩
    replace mN : N = l + 1 := by have := HL.out; omega
    have HNL := Lib.hid (And.intro lL (And.intro mN vL)); clear lL mN vL
    go_wp2_with fail
    refine (HS2.out w2 bL).mono ?_
    rintro e w3 ⟨V, M, oV, lV, mM, vV, bV, rfl⟩
    have HMV := Lib.hid (And.intro lV (And.intro mM vV)); clear lV mM vV
    have ht := trim_any w3 w2.heap.size 0 M V oV.row (by have := HMV.out; have := HL.out; omega) (by rw [HMV.out.1]; exact Nat.le_refl _)
    rw [HMV.out.1] at ht
    have HTR := Lib.hid ht; clear ht
    go_wp2_with fail
    refine HTR.out.mono ?_
    rintro e w4 ⟨k, hk, wk, tk, rfl, rfl⟩
    have hts := top_shift Y (V.take k) n s hY tY HL.out.1.symm h1 HT.out.1 (Wd_take oV.wd k) tk (wk.trans HMV.out.2.2)
    have hkn : k = n := by have := hts.1; rw [List.length_take] at this; omega
    clear hk
    subst hkn
    have rD : Row w3 w2.heap.size 0 (V.take k) := oV.row.take k
    have wD : Wd (V.take k) := Wd_take oV.wd k
    have hcM : k ≤ M := by have := HMV.out; have := HL.out; omega
    have HW := Lib.hid (wk.trans HMV.out.2.2); clear wk tk
    have HM1 := Lib.hid (HMV.out.1)
    have rL : Row w3 w1.heap.size 0 L := oL.row.below bV oL.lt
    have s1 : w1.heap.size < w2.heap.size := oL.lt
    have s2 : w2.heap.size < w3.heap.size := oV.lt
    have s0 : w.heap.size ≤ w1.heap.size := hb1.size
    have wL := oL.wd
    have hbel : Below w.heap.size w w3 := (hb1.trans (bL.mono s0)).trans (bV.mono (by omega))
    clear oL oV HS1 HS2 HTR hy bL bV
    generalize V.take k = D at *
    generalize w1.heap.size = bl at *
    generalize w2.heap.size = bd at *
    obtain ⟨Mq, hMq⟩ : ∃ Mq, Mq = N - k := ⟨_, rfl⟩
    have hsub : ((N : Int) - (k : Int)) = (Mq : Int) := by have := HNL.out.2.1; omega
    have hMqb : Mq ≤ 1099511627776 := by have := HNL.out.2.1; omega
    have hmk : ∀ u : World, (Instr.makeSlice 46 (.int .i64 (Mq : Int)) (.int .i64 (Mq : Int))).run Tryd.prog u =
      .ok (.slice (some ⟨u.heap.size, 0, none⟩) Mq Mq) (u.alloc (.cells (madeCells #[.int .u64 0] Mq) 56)) := fun u => make_words Mq hMqb u
    have HMq := Lib.hid hMq; clear hMq
    have hN38 := Lib.hid (show N ≤ 274877906944 by have := HNL.out; omega)
    have hQ0 := row_made Mq 56 w3
    have rL0 := rL.alloc (by omega) (.cells (madeCells #[.int .u64 0] Mq) 56)
    have rD0 := rD.alloc (by omega) (.cells (madeCells #[.int .u64 0] Mq) 56)
    have hB0 := hbel.alloc (by omega) (.cells (madeCells #[.int .u64 0] Mq) 56)
    have hz : (w3.alloc (.cells (madeCells #[.int .u64 0] Mq) 56)).heap.size = w3.heap.size + 1 := by simp
    have hI0 : DvI w.heap.size bl w3.heap.size bd N Mq (wv D) (wv L) D w Mq L (List.replicate Mq 0) (w3.alloc (.cells (madeCells #[.int .u64 0] Mq) 56)) :=
      ⟨rL0, wL, HNL.out.1, hQ0, Wd_zeros Mq, List.length_replicate, rD0, hB0, by rw [hz]; omega, by
        rw [List.drop_eq_nil_of_le (by rw [List.length_replicate]; exact Nat.le_refl _)]; simp [wv], by
        rw [HNL.out.2.2, HMq.out, HNL.out.2.1]
        have hxl := wv_lt X hX
        rw [← HL.out.2.1] at hxl
        exact dv_begin (wv X) (wv D) k l s hxl hs63 hln (by omega) hts.2.2⟩
    clear rL rD hbel rL0 rD0 hB0 hQ0 hz
    have hv0 : 0 < wv D := by
      have h5 : 0 < B64^(k-1) := Nat.pow_pos B64_pos
      have := hts.2.2
      omega
    have hvn : wv D < B64^k := by have := wv_lt D wD; rwa [hts.1] at this
    have HV0 := Lib.hid (And.intro hv0 hvn); clear hv0 hvn
    have HTS := Lib.hid hts; clear hts
    go_wp2
    generalize w3.alloc (.cells (madeCells #[.int .u64 0] Mq) 56) = w4 at *
    have h30 := s2
    generalize w3.heap.size = bq at *
    clear hmk
    go_loopw [10] (fun i wr => ∃ (j : Nat) (L Q : List Nat), j ≤ Mq ∧ i = .int .i64 ((j : Int) - 1) ∧ DvI w.heap.size bl bq bd N Mq (wv D) (wv X * 2^s) D w j L Q wr) (fun i _ => (intOf i + 1).toNat)
    case atStart => exact ⟨Mq, L, _, Nat.le_refl _, rfl, by rw [← HNL.out.2.2]; exact hI0⟩
    case round =>
      obtain ⟨j, L', Q, hj, rfl, hI⟩ := hrel
      clear hI0
      by_cases h0 : j = 0
      · subst h0
        have hN64 : N ≤ 274877906945 := by have := HNL.out; omega
        have ht := trim_any wr bq 0 Mq Q hI.rQ (by rw [hI.lQ]; omega) (by rw [hI.lQ]; exact Nat.le_refl _)
        rw [hI.lQ] at ht
        have hsr := shiftRight_any wr bl 0 N s L' hI.rL hI.wL (by omega) (by rw [hI.lL]; exact hN38.out) (by rw [hI.lL]; exact Nat.le_refl _)
        rw [hI.lL] at hsr
        have HTR := Lib.hid ht; have HSR := Lib.hid hsr; clear ht hsr
        have hen := dv_end (wv Q) (wv D) (wv L') (wv X) (wv Y) s (by have := hI.val; rw [List.drop_zero, Nat.pow_zero, Nat.mul_one] at this; exact this) (by have := hI.lt; rwa [Nat.pow_zero, Nat.mul_one] at this) HW.out
        have HEN := Lib.hid hen; clear hen
        have HI := Lib.hid hI; clear hI
        go_wp2_with fail
        refine HTR.out.mono ?_
        rintro e w5 ⟨z, hz, wz, tz, rfl, rfl⟩
        go_wp2_with fail
        refine HSR.out.mono ?_
        rintro e w6 ⟨Z, c, aZ, hcz, tZ, vZ, rfl⟩
        rw [HI.out.lL] at aZ hcz
        go_wp2
        go_ret2
        have hsz := aZ.only.size
        have hI := HI.out
        refine ⟨_, _, rfl, .inl (NumA.of (Nat.lt_of_lt_of_le hI.sz.2.1 hsz) (aZ.only.row hI.rQ (by omega) hI.sz.2.1) hI.wQ hz (by rw [hI.lQ]; exact Nat.le_refl _) hMqb tz (wz.trans HEN.out.1)),
          NumA.of (Nat.lt_of_lt_of_le hI.sz.1 hsz) aZ.row aZ.wd (by rw [aZ.len]; exact hcz) (by rw [aZ.len]; exact Nat.le_refl _) (by omega) tZ (vZ.trans HEN.out.2), ?_⟩
        exact only_of_below (hI.bel.trans (aZ.only.below s0 (by have := hI.bel.size; exact this))) (Nat.le_refl _) hb
      · obtain ⟨m, rfl⟩ : ∃ m, j = m + 1 := ⟨j - 1, by omega⟩
        rw [show (((m + 1 : Nat) : Int) - 1) = (m : Int) by omega]
        have hmN : m + k + 1 ≤ N := by have := HMq.out; omega
        have hN64 : N ≤ 274877906945 := by have := HNL.out; omega
        have lP : (pt L' m k).length = k + 1 := pt_len L' m k (by rw [hI.lL]; exact hmN)
        have hu : wv (pt L' m k) < wv D * B64 := pt_lt L' m k (wv D) (by rw [hI.lL]; exact hmN) hI.lt
        have hqB : wv (pt L' m k) / wv D < B64 := (Nat.div_lt_iff_lt_mul HV0.out.1).2 (by rw [Nat.mul_comm]; exact hu)
        have HE := Lib.hid (estimate_any wr bl m (N-m) bd 0 M k (k+1) (pt L' m k) D hI.rL.pt hI.rD (Wd_pt hI.wL m k) wD lP HTS.out.1 rfl h1 (by omega) (by omega) hcM HTS.out.2.1 hu)
        have HI := Lib.hid hI; clear hI
        have HU := Lib.hid (And.intro lP (And.intro hu hqB)); clear lP hu hqB
        go_wp2_with fail
        rw [show m + k + 1 - m = k + 1 by omega]
        refine HE.out.mono ?_
        rintro e w5 ⟨d, rfl, hq5, d64, e1, e2⟩
        have HI5 := Lib.hid (HI.out.quiet hq5)
        have HTP := Lib.hid (takeP_n w5 bl m (N-m) bd 0 M d k (k+1) (pt L' m k) D HI5.out.rL.pt HI5.out.rD (Wd_pt HI5.out.wL m k) wD HU.out.1 HTS.out.1 rfl (by omega) HI5.out.sz.2.2 d64 (by omega) (by omega) hcM)
        have HE12 := Lib.hid (And.intro e1 e2); clear e1 e2 hq5
        go_wp2_with fail
        refine HTP.out.mono ?_
        rintro e w6 ⟨Z, bb, aZ, hbb, vZ, rfl⟩
        rw [HU.out.1] at aZ
        rw [HTS.out.1] at vZ
        have HVZ := Lib.hid vZ; clear vZ
        by_cases hb0 : bb = 0
        · subst hb0
          obtain ⟨hd, hZ⟩ := take_none (wv (pt L' m k)) (wv D) d (wv Z) (by have := HVZ.out; omega) HE12.out.1 HV0.out.1
          have rQ6 := aZ.only.row HI5.out.rQ (by omega) HI5.out.sz.2.1
          have hc6 := rQ6.cell m (by rw [HI5.out.lQ]; omega)
          have hf6 := rQ6.free m (by rw [HI5.out.lQ]; omega)
          rw [Nat.zero_add] at hc6 hf6
          have HS := Lib.hid (HI5.out.step hmN (by omega) aZ HV0.out.2 HV0.out.1 hZ (by omega) (by omega) (by omega) (by omega) s0 (by omega) HU.out.2.2)
          rw [← hd] at HS
          have HH := Lib.hid (And.intro hd hZ); clear hd hZ rQ6
          have hlt6 : m < Mq := by omega
          go_wp2
          go_roundw
          case rel => exact ⟨m, _, _, by omega, by go_num, HS.out⟩
          case measure => (simp [intOf]; try omega)
        · obtain rfl : bb = 1 := by omega
          have d1 : 1 ≤ d := by
            rcases Nat.eq_zero_or_pos d with h | h
            · exfalso
              have h2 := HVZ.out
              have h3 := wv_lt Z aZ.wd
              rw [aZ.len] at h3
              rw [h] at h2
              omega
            · exact h
          have HA := Lib.hid (addP_n w6 bl m (N-m) bd 0 M k (k+1) Z D aZ.row (aZ.only.row HI5.out.rD (by omega) HI5.out.sz.2.2) aZ.wd wD aZ.len HTS.out.1 rfl (by omega) (Nat.lt_of_lt_of_le HI5.out.sz.2.2 aZ.only.size) (by omega) (by omega) hcM)
          go_wp2_with fail
          refine HA.out.mono ?_
          rintro e w7 ⟨Z2, c, aZ2, vZ2, hcc, rfl⟩
          rw [aZ.len] at aZ2 vZ2
          have hZl := wv_lt Z aZ.wd
          rw [aZ.len] at hZl
          have hZ2l := wv_lt Z2 aZ2.wd
          rw [aZ2.len] at hZ2l
          obtain ⟨hd, hZ⟩ := take_one (wv (pt L' m k)) (wv D) d (wv Z) (B64^(k+1)) (wv Z2) c (by have := HVZ.out; omega) hZl HE12.out.2 HV0.out.1 (by
            have h7 : B64^k ≤ B64^(k+1) := Nat.pow_le_pow_right B64_pos (by omega)
            have := HV0.out.2; omega) vZ2 hZ2l
          have a2 : At (k+1) bl m w5 Z2 w7 := ⟨aZ2.len, aZ2.wd, aZ2.row, aZ.only.trans aZ2.only⟩
          have rQ6 := a2.only.row HI5.out.rQ (by omega) HI5.out.sz.2.1
          have hc6 := rQ6.cell m (by rw [HI5.out.lQ]; omega)
          have hf6 := rQ6.free m (by rw [HI5.out.lQ]; omega)
          rw [Nat.zero_add] at hc6 hf6
          have HS := Lib.hid (HI5.out.step hmN (by omega) a2 HV0.out.2 HV0.out.1 hZ (by omega) (by omega) (by omega) (by omega) s0 (by omega) HU.out.2.2)
          obtain ⟨q, rfl⟩ : ∃ q, d = q + 1 := ⟨d - 1, by omega⟩
          have hqq : wv (pt L' m k) / wv D = q := by omega
          rw [hqq] at HS
          have HH := Lib.hid (And.intro hd (And.intro hZ (And.intro hqq (And.intro vZ2 (And.intro hZl hZ2l))))); clear hd hZ hqq vZ2 hZl hZ2l rQ6
          have hlt6 : m < Mq := by omega
          go_wp2
          go_roundw
          case rel => exact ⟨m, _, _, by omega, by go_num, HS.out⟩
          case measure => (simp [intOf]; try omega)
end Go.Proofs.YtkpkifhjedlieaaDoor
