/-
  The walk of nat.gcd and of nat.Gcd, for all numbers.
  nat.Gcd, all numbers.
-/
import Derived.Test.YteccbedmpjeamaaGreatDoorGcd
import Derived.Deep.RegionHeld
import Derived.Lib.ItoaMem
namespace Go.Proofs.YteccbedmpjeamaaGreatDoor
open Go.RowKit NM
theorem DB.only {b lo hi : Nat} {u w : World} (h : DB u) (k : Only b lo hi u w) (hne : 5 ≠ b) (hlt : 5 < u.heap.size) : DB w :=
  fun j hj => (World.cell?_of_block (k.blk _ hne hlt)).trans (h j hj)
/-- the value of the words that a slice shows -/
def rvl (W : World) : Value → Nat
  | .slice (some a) n _ => wv ((List.range n).map fun j => match W.cell? (a.add j) with | some (.int _ z) => z.toNat | _ => 0)
  | _ => 0
theorem rvl_row {W : World} {p op n c : Nat} {X : List Nat} (h : Row W p op X) (hn : n = X.length) : rvl W (.slice (some ⟨p, op, none⟩) n c) = wv X := by
  subst hn
  show wv _ = wv X
  congr 1
  apply List.ext_getElem
  · simp
  · intro j h1 h2
    simp only [List.getElem_map, List.getElem_range]
    rw [Lib.add_plain, h.cell j h2]
    show (Int.toNat ((gd X j : Nat) : Int)) = _
    rw [Int.toNat_natCast]
    unfold gd
    rw [List.getD_eq_getElem?_getD, List.getElem?_eq_getElem h2]; rfl
theorem gcd_round (x y z t v c : Nat) (hy : y = 2 * c + 1) (h : z + y = x) (hz : z = 2^t * (2 * v + 1)) : Nat.gcd (2 * v + 1) y = Nat.gcd x y := by
  have hco : Nat.Coprime (2^t) y := by rw [hy]; exact Nat.Coprime.pow_left t (odd_co c)
  rw [← h, hz]
  have : Nat.gcd (2^t * (2 * v + 1) + y) y = Nat.gcd (2^t * (2 * v + 1)) y := by simp
  rw [this]
  exact (Nat.Coprime.gcd_mul_left_cancel _ hco).symm
theorem gcd_two (t1 t2 u1 u2 : Nat) : Nat.gcd (2^t1 * (2 * u1 + 1)) (2^t2 * (2 * u2 + 1)) = Nat.gcd (2 * u1 + 1) (2 * u2 + 1) * 2^(min t1 t2) := by
  rcases Nat.le_total t1 t2 with h | h
  · rw [Nat.min_eq_left h]; exact gcd_le _ _ _ _ (odd_co _) h
  · rw [Nat.min_eq_right h, Nat.gcd_comm, Nat.gcd_comm (2 * u1 + 1)]; exact gcd_le _ _ _ _ (odd_co _) h
theorem pow_mul_le (t v : Nat) : 2 * v + 1 ≤ 2^t * (2 * v + 1) := Nat.le_mul_of_pos_left _ (Nat.pow_pos (by omega))
theorem Tr_le_len {X Y : List Nat} (hX : Wd X) (hY : Wd Y) (tX : Tr X) (tY : Tr Y) (h : wv Y ≤ wv X) : Y.length ≤ X.length := by
  apply Nat.le_of_not_lt; intro hlt
  have := Tr_len_lt hX tY hlt
  omega
theorem div_pow (t v : Nat) : 2^t * (2 * v + 1) / 2^t = 2 * v + 1 := Nat.mul_div_cancel_left _ (Nat.pow_pos (by omega))
structure GSt (B G : Nat) (w wr : World) (p op cp q oq cq : Nat) (X Y : List Nat) : Prop where
  ne : p ≠ q
  bp : B ≤ p
  bq : B ≤ q
  lp : p < wr.heap.size
  lq : q < wr.heap.size
  rx : Row wr p op X
  ry : Row wr q oq Y
  wx : Wd X
  wy : Wd Y
  tx : Tr X
  ty : Tr Y
  nx : X.length ≤ 536870914
  ny : Y.length ≤ 536870914
  cx : X.length ≤ cp
  cy : Y.length ≤ cq
  ox : ∃ a, wv X = 2 * a + 1
  oy : ∃ a, wv Y = 2 * a + 1
  g : Nat.gcd (wv X) (wv Y) = G
  bl : Below B w wr
  db : DB wr
def GcdAQ (x y B : Nat) (w : World) (e : Ending) (w' : World) : Prop :=
  ∃ bz m Z, w.heap.size ≤ bz ∧ bz < w'.heap.size ∧ Row w' bz 0 Z ∧ Wd Z ∧ Z.length = m ∧ m ≤ 1073741830 ∧ wv Z = Nat.gcd x y ∧ Below B w w' ∧ e = .returned (.slice (some ⟨bz, 0, none⟩) m m)
set_option maxRecDepth 100000 in
set_option maxHeartbeats 8000000 in
theorem gcd_any (w : World) (B b o cap b2 o2 cap2 : Nat) (X Y : List Nat) (hR : Row w b o X) (hS : Row w b2 o2 Y) (hX : Wd X) (hY : Wd Y) (hX0 : wv X ≠ 0) (hY0 : wv Y ≠ 0)
    (hb : b < w.heap.size) (hb2 : b2 < w.heap.size) (hne : b2 ≠ b) (hc : X.length ≤ cap) (hc2 : Y.length ≤ cap2) (hn : X.length ≤ 536870914) (hm : Y.length ≤ 536870914)
    (hB1 : B ≤ b) (hB2 : B ≤ b2) (hB3 : B ≤ w.heap.size) (hT : DB w) (hg : 5 < B) :
    Calls Tryz.prog 95 #[.slice (some ⟨b, o, none⟩) X.length cap, .slice (some ⟨b2, o2, none⟩) Y.length cap2] w (GcdAQ (wv X) (wv Y) B w) := by
  have T1 := twos_any w b o cap X hR hX hX0 (by omega) hc hT
  have T2 := fun (W : World) (q : Quiet w W) => twos_any W b2 o2 cap2 Y (q.row hS) hY hY0 (by omega) hc2 (hT.quiet q)
  obtain ⟨nx, hnx⟩ : ∃ n, n = X.length := ⟨_, rfl⟩
  obtain ⟨ny, hny⟩ : ∃ n, n = Y.length := ⟨_, rfl⟩
  rw [← hnx] at hc hn T1 ⊢
  rw [← hny] at hc2 hm T2 ⊢
  have HT1 := Lib.hid T1; have HT2 := Lib.hid T2; clear T1 T2
  have HL := Lib.hid (And.intro hnx hny); clear hnx hny
  go_enter Tryz.func95, Tryz.ntmps95
  go_wp2_with fail
  refine HT1.out.mono ?_
  rintro e w1 ⟨t1, u1, rfl, hx1, ht1, q1⟩
  go_wp2_with fail
  refine (HT2.out w1 q1).mono ?_
  rintro e w2 ⟨t2, u2, rfl, hy1, ht2, q2⟩
  have q12 := q1.trans q2
  have hs2 : w2.heap.size = w.heap.size := by rw [q12.heap]
  have S1 := shiftRight_any w2 b o cap t1 X (q12.row hR) hX (by omega) (by have := HL.out.1; omega) (by rw [← HL.out.1]; exact hc)
  rw [← HL.out.1] at S1
  have HS1 := Lib.hid S1; clear S1 HT1 HT2
  have hmin : min (t1 : Int) (t2 : Int) = ((min t1 t2 : Nat) : Int) := by omega
  go_wp2_with fail
  refine HS1.out.mono ?_
  rintro e w3 ⟨Z1, k1, hA1, hk1, htr1, hv1, rfl⟩
  have S2 := shiftRight_any w3 b2 o2 cap2 t2 Y (hA1.only.row (q12.row hS) hne (by omega)) hY (by omega) (by have := HL.out.2; omega) (by rw [← HL.out.2]; exact hc2)
  rw [← HL.out.2] at S2
  have HS2 := Lib.hid S2; clear S2 HS1
  go_wp2_with fail
  refine HS2.out.mono ?_
  rintro e w4 ⟨Z2, k2, hA2, hk2, htr2, hv2, rfl⟩
  clear HS2 hmin
  have hmnb : min t1 t2 ≤ 35184372088832 := by omega
  have hmnb2 : min t1 t2 / 64 ≤ 536870914 := by omega
  generalize hmn : min t1 t2 = mn at *
  rw [hx1, div_pow] at hv1
  rw [hy1, div_pow] at hv2
  have hs3 := hA1.only.size
  have hs4 := hA2.only.size
  have hl1 : (Z1.take k1).length = k1 := by rw [List.length_take, hA1.len]; have := HL.out.1; omega
  have hl2 : (Z2.take k2).length = k2 := by rw [List.length_take, hA2.len]; have := HL.out.2; omega
  obtain ⟨G, hG⟩ : ∃ G, G = Nat.gcd (2 * u1 + 1) (2 * u2 + 1) := ⟨_, rfl⟩
  have hst : GSt B G w w4 b o cap b2 o2 cap2 (Z1.take k1) (Z2.take k2) := {
    ne := Ne.symm hne
    bp := hB1
    bq := hB2
    lp := by omega
    lq := by omega
    rx := hA2.only.row (hA1.row.take k1) (Ne.symm hne) (by omega)
    ry := hA2.row.take k2
    wx := Wd_take hA1.wd k1
    wy := Wd_take hA2.wd k2
    tx := htr1
    ty := htr2
    nx := by have := HL.out.1; omega
    ny := by have := HL.out.2; omega
    cx := by have := HL.out.1; omega
    cy := by have := HL.out.2; omega
    ox := ⟨u1, hv1⟩
    oy := ⟨u2, hv2⟩
    g := by rw [hv1, hv2, hG]
    bl := ((q12.below B).trans (hA1.only.below hB1 (by omega))).trans (hA2.only.below hB2 (by omega))
    db := ((hT.quiet q12).only hA1.only (by omega) (by omega)).only hA2.only (by omega) (by omega) }
  have hgcd : Nat.gcd (wv X) (wv Y) = G * 2^mn := by rw [hx1, hy1, gcd_two, hmn, hG]
  have HGC := Lib.hid hgcd
  have HST := Lib.hid (And.intro hst (And.intro hl1 hl2))
  clear hst hgcd hl1 hl2 hx1 hy1 hv1 hv2 htr1 htr2 hA1 hA2 q1 q2 q12 ht1 ht2 hk1 hk2 hmn hG hR hS hX0 hY0 hT
  go_wp2_with fail
  go_loopw [0, 1] (fun xs ys wr => ∃ (p op cp q oq cq kx ky : Nat) (X Y : List Nat), xs = .slice (some ⟨p, op, none⟩) kx cp ∧ ys = .slice (some ⟨q, oq, none⟩) ky cq ∧ Hid (kx = X.length) ∧ Hid (ky = Y.length) ∧ Hid (w.heap.size ≤ wr.heap.size) ∧ Hid (GSt B G w wr p op cp q oq cq X Y)) (fun xs ys wr => rvl wr xs + rvl wr ys)
  case atStart => exact ⟨b, o, cap, b2, o2, cap2, k1, k2, _, _, rfl, rfl, Lib.hid HST.out.2.1.symm, Lib.hid HST.out.2.2.symm, Lib.hid (by omega), Lib.hid HST.out.1⟩
  case round =>
    clear HST
    obtain ⟨p, op, cp, q, oq, cq, kx, ky, X, Y, rfl, rfl, hkx, hky, hsw, hS⟩ := hrel
    have hxp : 1 ≤ kx := by
      obtain ⟨a, ha⟩ := hS.out.ox
      rw [hkx.out]
      apply Nat.pos_of_ne_zero; intro h
      rw [List.length_eq_zero_iff.1 h] at ha; simp [wv] at ha
    have hyp : 1 ≤ ky := by
      obtain ⟨a, ha⟩ := hS.out.oy
      rw [hky.out]
      apply Nat.pos_of_ne_zero; intro h
      rw [List.length_eq_zero_iff.1 h] at ha; simp [wv] at ha
    have hkxb : kx ≤ 536870914 := by rw [hkx.out]; exact hS.out.nx
    have hkyb : ky ≤ 536870914 := by rw [hky.out]; exact hS.out.ny
    have hcx : kx ≤ cp := by rw [hkx.out]; exact hS.out.cx
    have hcy : ky ≤ cq := by rw [hky.out]; exact hS.out.cy
    by_cases h1 : 1 < kx ∨ 1 < ky
    · have hC := compare_any wr p op cp q oq cq X Y hS.out.rx hS.out.ry hS.out.wx hS.out.wy hS.out.tx hS.out.ty (by have := hS.out.nx; omega) (by have := hS.out.ny; omega) hS.out.cx hS.out.cy
      rw [← hkx.out, ← hky.out] at hC
      have e1 : (decide ((1 : Int) < (kx : Int)) || decide ((1 : Int) < (ky : Int))) = true := by simp; omega
      have e2 : (decide (1 < kx) || decide (1 < ky)) = true := by simp; omega
      have hcond : (decide ((1 : Int) < (kx : Int)) = true) ∨ (decide ((1 : Int) < (kx : Int)) = false ∧ decide ((1 : Int) < (ky : Int)) = true) := by
        by_cases h : 1 < kx
        · left; simp; omega
        · right; constructor <;> simp <;> omega
      clear e1 e2 h1
      rcases Nat.lt_trichotomy (wv X) (wv Y) with hlt | heq | hgt
      · have hC1 : Calls Tryz.prog 84 #[.slice (some ⟨p, op, none⟩) kx cp, .slice (some ⟨q, oq, none⟩) ky cq] wr fun e w' => e = .returned (.int .i64 (-1)) ∧ Quiet wr w' :=
          hC.mono fun e w' ⟨h1, h2⟩ => ⟨by rw [h1, cmpv_lt hlt], h2⟩
        have HC1 := Lib.hid hC1; clear hC hC1
        have hle : wv X ≤ wv Y := Nat.le_of_lt hlt
        have hll : kx ≤ ky := by rw [hkx.out, hky.out]; exact Tr_le_len hS.out.wy hS.out.wx hS.out.ty hS.out.tx hle
        have hSB := fun (W : World) (qq : Quiet wr W) => subtract_any W q oq cq p op cp Y X (qq.row hS.out.ry) (qq.row hS.out.rx) hS.out.wy hS.out.wx hS.out.ne (by rw [qq.heap]; exact hS.out.lp) (by have := hS.out.ny; omega) hS.out.cy hS.out.cx (by rw [← hkx.out, ← hky.out]; exact hll) hle
        rw [← hky.out, ← hkx.out] at hSB
        have HSB := Lib.hid hSB; clear hSB
        have HH := Lib.hid (And.intro hlt hll); clear hlt hll hle
        rcases hcond with hcd | ⟨hcd, hcd2⟩
        all_goals
          go_wp2_with fail
          refine HC1.out.mono ?_
          rintro e w5 ⟨rfl, q5⟩
          go_wp2_with fail
          refine (HSB.out w5 q5).mono ?_
          rintro e w6 ⟨Z, hA, hz, rfl⟩
          have hs5 : w5.heap.size = wr.heap.size := by rw [q5.heap]
          have hs6 := hA.only.size
          have hwr := hsw.out
          have lgp := hS.out.bp
          have lgq := hS.out.bq
          have llp := hS.out.lp
          have llq := hS.out.lq
          have db6 : DB w6 := (hS.out.db.quiet q5).only hA.only (by omega) (by omega)
          have hz0 : wv Z ≠ 0 := by have := HH.out.1; omega
          have hT6 := twos_any w6 q oq cq Z hA.row hA.wd hz0 (by rw [hA.len, ← hky.out]; omega) (by rw [hA.len, ← hky.out]; exact hcy) db6
          rw [hA.len, ← hky.out] at hT6
          have HT6 := Lib.hid hT6; clear hT6
          go_wp2_with fail
          refine HT6.out.mono ?_
          rintro e w7 ⟨t, v, rfl, hzt, htl, q7⟩
          have hs7 : w7.heap.size = w6.heap.size := by rw [q7.heap]
          have hS7 := shiftRight_any w7 q oq cq t Z (q7.row hA.row) hA.wd (by omega) (by rw [hA.len, ← hky.out]; omega) (by rw [hA.len, ← hky.out]; exact hcy)
          rw [hA.len, ← hky.out] at hS7
          have HS7 := Lib.hid hS7; clear hS7 HT6
          go_wp2_with fail
          refine HS7.out.mono ?_
          rintro e w8 ⟨Z8, k8, hA8, hk8, htr8, hv8, rfl⟩
          clear HS7
          have hlz : Z.length = ky := by rw [hA.len]; exact hky.out.symm
          rw [hzt, div_pow] at hv8
          have hs8 := hA8.only.size
          have hl8 : (Z8.take k8).length = k8 := by rw [List.length_take, hA8.len]; omega
          have rq8 : Row w8 p op X := hA8.only.row (q7.row (hA.only.row (q5.row hS.out.rx) hS.out.ne (by omega))) hS.out.ne (by omega)
          have hgr : Nat.gcd (2 * v + 1) (wv X) = Nat.gcd (wv Y) (wv X) := by
            obtain ⟨c, hcc⟩ := hS.out.ox
            exact gcd_round (wv Y) (wv X) (wv Z) t v c hcc hz hzt
          have hst : GSt B G w w8 q oq cq p op cp (Z8.take k8) X := {
            ne := (Ne.symm hS.out.ne)
            bp := lgq
            bq := lgp
            lp := by omega
            lq := by omega
            rx := hA8.row.take k8
            ry := rq8
            wx := Wd_take hA8.wd k8
            wy := hS.out.wx
            tx := htr8
            ty := hS.out.tx
            nx := by omega
            ny := hS.out.nx
            cx := by omega
            cy := hS.out.cx
            ox := ⟨v, hv8⟩
            oy := hS.out.ox
            g := by rw [hv8, hgr, Nat.gcd_comm]; exact hS.out.g
            bl := (((hS.out.bl.trans (q5.below B)).trans (hA.only.below lgq (by omega))).trans (q7.below B)).trans (hA8.only.below lgq (by omega))
            db := (db6.quiet q7).only hA8.only (by omega) (by omega) }
          have hm1 : rvl w8 (.slice (some ⟨q, oq, none⟩) k8 cq) = 2 * v + 1 := by rw [rvl_row (hA8.row.take k8) hl8.symm]; exact hv8
          have hm2 : rvl w8 (.slice (some ⟨p, op, none⟩) kx cp) = wv X := rvl_row rq8 hkx.out
          have hm3 : rvl wr (.slice (some ⟨p, op, none⟩) kx cp) = wv X := rvl_row hS.out.rx hkx.out
          have hm4 : rvl wr (.slice (some ⟨q, oq, none⟩) ky cq) = wv Y := rvl_row hS.out.ry hky.out
          have hdec := pow_mul_le t v
          have hyp0 : 0 < wv X := by obtain ⟨c, hcc⟩ := hS.out.ox; omega
          have HFin := Lib.hid (And.intro hst (And.intro hl8 (And.intro hm1 (And.intro hm2 (And.intro hm3 (And.intro hm4 (And.intro hdec (And.intro hyp0 (And.intro hzt hz)))))))))
          clear hst hl8 hm1 hm2 hm3 hm4 hdec hyp0 hzt hz hgr hv8 htr8 hA8 hA rq8 db6 hz0
          go_wp2
          refine ⟨⟨q, oq, cq, p, op, cp, k8, kx, Z8.take k8, X, rfl, rfl, Lib.hid HFin.out.2.1.symm, hkx, Lib.hid (by omega), Lib.hid HFin.out.1⟩, ?_⟩
          obtain ⟨f1, f2, f3, f4, f5, f6, f7, f8, f9, f10⟩ := HFin.out
          show rvl w8 _ + rvl w8 _ < rvl wr _ + rvl wr _
          rw [f3, f4, f5, f6]
          omega
      · have hC1 : Calls Tryz.prog 84 #[.slice (some ⟨p, op, none⟩) kx cp, .slice (some ⟨q, oq, none⟩) ky cq] wr fun e w' => e = .returned (.int .i64 0) ∧ Quiet wr w' :=
          hC.mono fun e w' ⟨h1, h2⟩ => ⟨by rw [h1, cmpv_eq heq], h2⟩
        have HC1 := Lib.hid hC1; clear hC hC1
        have hGx : wv X = G := by rw [← hS.out.g, ← heq, Nat.gcd_self]
        have HG := Lib.hid hGx; clear hGx heq
        rcases hcond with hcd | ⟨hcd, hcd2⟩
        all_goals
          go_wp2_with fail
          refine HC1.out.mono ?_
          rintro e w5 ⟨rfl, q5⟩
          have hs5 : w5.heap.size = wr.heap.size := by rw [q5.heap]
          have hL5 := shiftLeft_any w5 p op cp mn X (q5.row hS.out.rx) hS.out.wx (by have := hS.out.lp; omega) hmnb (by have := hS.out.nx; omega) hS.out.cx
          rw [← hkx.out] at hL5
          have HL5 := Lib.hid hL5; clear hL5 HC1
          go_wp2_with fail
          refine HL5.out.mono ?_
          rintro e w6 ⟨Z, m6, oZ, lZ, mZ, vZ, bZ, rfl⟩
          have HM := Lib.hid (And.intro mZ (And.intro lZ hs5)); clear mZ lZ hs5
          go_wp2
          go_ret
          exact ⟨w5.heap.size, m6, Z, by have := HM.out.2.2; have := hsw.out; omega, oZ.lt, oZ.row, oZ.wd, HM.out.2.1, by rw [HM.out.1, ← hkx.out]; omega, by rw [vZ, HG.out, HGC.out], (hS.out.bl.trans (q5.below B)).trans (bZ.mono (by have := HM.out.2.2; have := hsw.out; omega)), rfl⟩
      · have hC1 : Calls Tryz.prog 84 #[.slice (some ⟨p, op, none⟩) kx cp, .slice (some ⟨q, oq, none⟩) ky cq] wr fun e w' => e = .returned (.int .i64 (1)) ∧ Quiet wr w' :=
          hC.mono fun e w' ⟨h1, h2⟩ => ⟨by rw [h1, cmpv_gt hgt], h2⟩
        have HC1 := Lib.hid hC1; clear hC hC1
        have hle : wv Y ≤ wv X := Nat.le_of_lt hgt
        have hll : ky ≤ kx := by rw [hky.out, hkx.out]; exact Tr_le_len hS.out.wx hS.out.wy hS.out.tx hS.out.ty hle
        have hSB := fun (W : World) (qq : Quiet wr W) => subtract_any W p op cp q oq cq X Y (qq.row hS.out.rx) (qq.row hS.out.ry) hS.out.wx hS.out.wy (Ne.symm hS.out.ne) (by rw [qq.heap]; exact hS.out.lq) (by have := hS.out.nx; omega) hS.out.cx hS.out.cy (by rw [← hky.out, ← hkx.out]; exact hll) hle
        rw [← hkx.out, ← hky.out] at hSB
        have HSB := Lib.hid hSB; clear hSB
        have HH := Lib.hid (And.intro hgt hll); clear hgt hll hle
        rcases hcond with hcd | ⟨hcd, hcd2⟩
        all_goals
          go_wp2_with fail
          refine HC1.out.mono ?_
          rintro e w5 ⟨rfl, q5⟩
          go_wp2_with fail
          refine (HSB.out w5 q5).mono ?_
          rintro e w6 ⟨Z, hA, hz, rfl⟩
          have hs5 : w5.heap.size = wr.heap.size := by rw [q5.heap]
          have hs6 := hA.only.size
          have hwr := hsw.out
          have lgp := hS.out.bp
          have lgq := hS.out.bq
          have llp := hS.out.lp
          have llq := hS.out.lq
          have db6 : DB w6 := (hS.out.db.quiet q5).only hA.only (by omega) (by omega)
          have hz0 : wv Z ≠ 0 := by have := HH.out.1; omega
          have hT6 := twos_any w6 p op cp Z hA.row hA.wd hz0 (by rw [hA.len, ← hkx.out]; omega) (by rw [hA.len, ← hkx.out]; exact hcx) db6
          rw [hA.len, ← hkx.out] at hT6
          have HT6 := Lib.hid hT6; clear hT6
          go_wp2_with fail
          refine HT6.out.mono ?_
          rintro e w7 ⟨t, v, rfl, hzt, htl, q7⟩
          have hs7 : w7.heap.size = w6.heap.size := by rw [q7.heap]
          have hS7 := shiftRight_any w7 p op cp t Z (q7.row hA.row) hA.wd (by omega) (by rw [hA.len, ← hkx.out]; omega) (by rw [hA.len, ← hkx.out]; exact hcx)
          rw [hA.len, ← hkx.out] at hS7
          have HS7 := Lib.hid hS7; clear hS7 HT6
          go_wp2_with fail
          refine HS7.out.mono ?_
          rintro e w8 ⟨Z8, k8, hA8, hk8, htr8, hv8, rfl⟩
          clear HS7
          have hlz : Z.length = kx := by rw [hA.len]; exact hkx.out.symm
          rw [hzt, div_pow] at hv8
          have hs8 := hA8.only.size
          have hl8 : (Z8.take k8).length = k8 := by rw [List.length_take, hA8.len]; omega
          have rq8 : Row w8 q oq Y := hA8.only.row (q7.row (hA.only.row (q5.row hS.out.ry) (Ne.symm hS.out.ne) (by omega))) (Ne.symm hS.out.ne) (by omega)
          have hgr : Nat.gcd (2 * v + 1) (wv Y) = Nat.gcd (wv X) (wv Y) := by
            obtain ⟨c, hcc⟩ := hS.out.oy
            exact gcd_round (wv X) (wv Y) (wv Z) t v c hcc hz hzt
          have hst : GSt B G w w8 p op cp q oq cq (Z8.take k8) Y := {
            ne := hS.out.ne
            bp := lgp
            bq := lgq
            lp := by omega
            lq := by omega
            rx := hA8.row.take k8
            ry := rq8
            wx := Wd_take hA8.wd k8
            wy := hS.out.wy
            tx := htr8
            ty := hS.out.ty
            nx := by omega
            ny := hS.out.ny
            cx := by omega
            cy := hS.out.cy
            ox := ⟨v, hv8⟩
            oy := hS.out.oy
            g := by rw [hv8, hgr]; exact hS.out.g
            bl := (((hS.out.bl.trans (q5.below B)).trans (hA.only.below lgp (by omega))).trans (q7.below B)).trans (hA8.only.below lgp (by omega))
            db := (db6.quiet q7).only hA8.only (by omega) (by omega) }
          have hm1 : rvl w8 (.slice (some ⟨p, op, none⟩) k8 cp) = 2 * v + 1 := by rw [rvl_row (hA8.row.take k8) hl8.symm]; exact hv8
          have hm2 : rvl w8 (.slice (some ⟨q, oq, none⟩) ky cq) = wv Y := rvl_row rq8 hky.out
          have hm3 : rvl wr (.slice (some ⟨p, op, none⟩) kx cp) = wv X := rvl_row hS.out.rx hkx.out
          have hm4 : rvl wr (.slice (some ⟨q, oq, none⟩) ky cq) = wv Y := rvl_row hS.out.ry hky.out
          have hdec := pow_mul_le t v
          have hyp0 : 0 < wv Y := by obtain ⟨c, hcc⟩ := hS.out.oy; omega
          have HFin := Lib.hid (And.intro hst (And.intro hl8 (And.intro hm1 (And.intro hm2 (And.intro hm3 (And.intro hm4 (And.intro hdec (And.intro hyp0 (And.intro hzt hz)))))))))
          clear hst hl8 hm1 hm2 hm3 hm4 hdec hyp0 hzt hz hgr hv8 htr8 hA8 hA rq8 db6 hz0
          go_wp2
          refine ⟨⟨p, op, cp, q, oq, cq, k8, ky, Z8.take k8, Y, rfl, rfl, Lib.hid HFin.out.2.1.symm, hky, Lib.hid (by omega), Lib.hid HFin.out.1⟩, ?_⟩
          obtain ⟨f1, f2, f3, f4, f5, f6, f7, f8, f9, f10⟩ := HFin.out
          show rvl w8 _ + rvl w8 _ < rvl wr _ + rvl wr _
          rw [f3, f4, f5, f6]
          omega
    · obtain rfl : kx = 1 := by omega
      obtain rfl : ky = 1 := by omega
      obtain ⟨x, hx⟩ := one_of hkx.out.symm
      obtain ⟨y, hy⟩ := one_of hky.out.symm
      subst hx
      subst hy
      have hx64 : x < 18446744073709551616 := hS.out.wx x (by simp)
      have hy64 : y < 18446744073709551616 := hS.out.wy y (by simp)
      have hx0 : 0 < x := by obtain ⟨a, ha⟩ := hS.out.ox; simp [wv] at ha; omega
      have hgg : Nat.gcd x y = G := by have := hS.out.g; simpa [wv] using this
      have c1 : wr.cell? ⟨p, op, none⟩ = some (.int .u64 x) := hS.out.rx.cell 0 (by simp)
      have c2 : wr.cell? ⟨q, oq, none⟩ = some (.int .u64 y) := hS.out.ry.cell 0 (by simp)
      have hgw : Wd [Nat.gcd x y] := fun t ht => by rw [List.mem_singleton.1 ht]; exact Nat.lt_of_le_of_lt (Nat.gcd_le_left _ hx0) hx64
      have llp := hS.out.lp
      have llq := hS.out.lq
      have HGG := Lib.hid hgg; clear hgg
      have HX := Lib.hid (And.intro hx64 hy64); clear hx64 hy64 hx0
      have hmnc := hmnb
      go_wp2_with fail
      go_region_held3 (fun w' => w'.cell? ⟨p, op, none⟩ = some (.int .u64 x) ∧ w'.cell? ⟨q, oq, none⟩ = some (.int .u64 y)) (first | (exact ⟨by assumption, by assumption⟩) | (simp [go_sem]; exact ⟨by assumption, by assumption⟩))
        (first
          | (go_at_call 125; go_must (go_fit (gcdWord_any _ x y HX.out.1 HX.out.2)); go_must (rintro e w5 ⟨rfl, q5⟩); go_must (have h5a := (q5.cell ⟨p, op, none⟩).trans c1; have h5b := (q5.cell ⟨q, oq, none⟩).trans c2; have HZ5 : Hid (w5.heap.size = wr.heap.size) := Lib.hid (congrArg Array.size q5.heap)); go_must (have z6 : p < w5.heap.size := by have := HZ5.out; omega); go_must (have z7 : q < w5.heap.size := by have := HZ5.out; omega); go_must (have h6a : (w5.alloc (.cells #[.int .u64 (Nat.gcd x y : Nat)] 95)).cell? ⟨p, op, none⟩ = some (.int .u64 x) := (World.cell?_alloc_past _ _ _ z6).trans h5a); go_must (have h6b : (w5.alloc (.cells #[.int .u64 (Nat.gcd x y : Nat)] 95)).cell? ⟨q, oq, none⟩ = some (.int .u64 y) := (World.cell?_alloc_past _ _ _ z7).trans h5b))
          | (go_at_call 123; go_must (have hz8 : w5.heap.size < (w5.alloc (.cells #[.int .u64 (Nat.gcd x y : Nat)] 95)).heap.size := by simp); go_must (go_fit (shiftLeft_any (w5.alloc (.cells #[.int .u64 (Nat.gcd x y : Nat)] 95)) w5.heap.size 0 1 mn [Nat.gcd x y] (row_one w5 (Nat.gcd x y) 95) hgw hz8 hmnc (by show 1 ≤ 274877906944; omega) (Nat.le_refl _))); rintro e w6 ⟨Z, m6, oZ, lZ, mZ, vZ, bZ, rfl⟩; have h7a := (bZ.cell (p := ⟨p, op, none⟩) (Nat.lt_trans z6 hz8)).trans h6a; have h7b := (bZ.cell (p := ⟨q, oq, none⟩) (Nat.lt_trans z7 hz8)).trans h6b))
      all_goals go_wp2
      all_goals go_ret
      have hs8 : (w5.alloc (.cells #[.int .u64 (Nat.gcd x y : Nat)] 95)).heap.size = w5.heap.size + 1 := by simp
      have z5 := HZ5.out
      have hwr := hsw.out
      rw [hs8] at oZ
      refine ⟨w5.heap.size + 1, 1 + mn / 64 + 1, Z, ?_, oZ.lt, oZ.row, oZ.wd, lZ.trans mZ, ?_, ?_, ?_, rfl⟩
      · omega
      · omega
      · rw [vZ, HGC.out, ← HGG.out]; simp [wv]
      · exact ((hS.out.bl.trans ((Below.refl B wr).drew.trans (q5.below B))).alloc (by omega) _).trans (bZ.mono (by omega))
end Go.Proofs.YteccbedmpjeamaaGreatDoor
namespace Go.Proofs.YteccbedmpjeamaaGreatDoor
open Go.RowKit NM
theorem gcd_rest (x y : Nat) : Nat.gcd y (x % y) = Nat.gcd x y := gcd_step x y
set_option maxRecDepth 100000 in
set_option maxHeartbeats 4000000 in
theorem Gcd_any (w : World) (a b : ByteArray) (ha : a.size ≤ 4294967296) (hb : b.size ≤ 4294967296) (hT : DB w) (hg : 5 < w.heap.size) :
    Calls Tryz.prog 64 #[.string a, .string b] w fun e w' => e = .returned (GcdV a b) ∧ Below w.heap.size w w' := by
  by_cases h3 : sv a = 0
  · exact Gcd_zero w a b ha hb (.inl h3)
  by_cases h4 : sv b = 0
  · exact Gcd_zero w a b ha hb (.inr h4)
  obtain ⟨g, hgd⟩ : ∃ g, g = Nat.gcd (sv a) (sv b) := ⟨_, rfl⟩
  rw [show GcdV a b = .string (NB g) by unfold GcdV; rw [hgd]]
  have HGD := Lib.hid hgd; clear hgd
  go_enter Tryz.func64, Tryz.ntmps64
  go_wp2_with fail
  refine (words_any _ a (by omega)).mono ?_
  rintro e w1 ⟨X, oX, vX, tX, bX, lX, rfl⟩
  have lenX := words_len lX ha
  clear lX
  have hTB := hT.below bX hg
  go_wp2_with fail
  refine (words_any _ b (by omega)).mono ?_
  rintro e w2 ⟨Y, oY, vY, tY, bY, lY, rfl⟩
  have lenY := words_len lY hb
  clear lY
  replace vX : wv X = sv a := vX
  replace vY : wv Y = sv b := vY
  have hTB2 := hTB.below bY (Nat.lt_of_lt_of_le hg bX.size)
  have hlt := oX.lt
  have hlt2 := oY.lt
  have hs1 := bX.size
  have hs2 := bY.size
  have hx0 : 0 < X.length := by
    apply Nat.pos_of_ne_zero; intro h
    rw [List.length_eq_zero_iff.1 h] at vX
    exact h3 vX.symm
  have hy0 : 0 < Y.length := by
    apply Nat.pos_of_ne_zero; intro h
    rw [List.length_eq_zero_iff.1 h] at vY
    exact h4 vY.symm
  have hX0 : wv X ≠ 0 := by rw [vX]; exact h3
  have hY0 : wv Y ≠ 0 := by rw [vY]; exact h4
  have rX2 := oX.row.below bY oX.lt
  have hBB : Below w.heap.size w w2 := bX.trans (bY.mono bX.size)
  obtain ⟨b1, hb1⟩ : ∃ b1, b1 = w.heap.size := ⟨_, rfl⟩
  obtain ⟨b2, hb2⟩ : ∃ b2, b2 = w1.heap.size := ⟨_, rfl⟩
  have hd1 : DivOK X := DivS.words (b := a) trivial oX.wd tX vX h3
  have hd2 : DivOK Y := DivS.words (b := b) trivial oY.wd tY vY h4
  have hwX := oX.wd
  have hwY := oY.wd
  have rY2 := oY.row
  rw [← hb1] at rX2
  rw [← hb2] at rY2
  have hbl1 : b1 < w2.heap.size := by omega
  have hbl2 : b2 < w2.heap.size := by omega
  have hb12 : b1 < b2 := by omega
  have hBb : w.heap.size ≤ b1 := by omega
  have E1 := fun h => gcd_any w2 w.heap.size b1 0 X.length b2 0 Y.length X Y rX2 rY2 hwX hwY hX0 hY0 hbl1 hbl2 (by omega) (Nat.le_refl _) (Nat.le_refl _) (by omega) (by omega) hBb (by omega) h hTB2 hg
  have R1 := rest_any w2 b1 0 X.length b2 0 Y.length X Y rX2 rY2 hwX hwY tX tY hbl1 hbl2 (by omega) (Nat.le_refl _) (Nat.le_refl _) (by omega) (by omega) hd2
  have R2 := rest_any w2 b2 0 Y.length b1 0 X.length Y X rY2 rX2 hwY hwX tY tX hbl2 hbl1 (by omega) (Nat.le_refl _) (Nat.le_refl _) (by omega) (by omega) hd1
  have HGV : Hid (g = Nat.gcd (wv X) (wv Y)) := Lib.hid (by rw [HGD.out, vX, vY])
  obtain ⟨nx, hnx⟩ : ∃ n, n = X.length := ⟨_, rfl⟩
  obtain ⟨ny, hny⟩ : ∃ n, n = Y.length := ⟨_, rfl⟩
  rw [← hnx, ← hny] at E1 R1 R2
  rw [← hnx] at hx0 lenX
  rw [← hny] at hy0 lenY
  rw [← hnx, ← hny, ← hb1, ← hb2]
  have HE1 := Lib.hid E1; have HR1 := Lib.hid R1; have HR2 := Lib.hid R2
  have HL := Lib.hid (And.intro hnx hny)
  have HH := Lib.hid (And.intro hX0 (And.intro hY0 (And.intro hwX (And.intro hwY (And.intro tX (And.intro tY (And.intro rX2 (And.intro rY2 hTB2))))))))
  have hs12 : w.heap.size ≤ w2.heap.size := by omega
  clear E1 R1 R2 hnx hny hX0 hY0 hwX hwY tX tY rX2 rY2 hTB2 hTB hd1 hd2 oX oY vX vY h3 h4 hlt hlt2 hb1 hb2 hs1 hs2 bX bY
  have i1 : ((nx : Int) == 0) = false := beq_eq_false_iff_ne.2 (by omega)
  have i2 : ((ny : Int) == 0) = false := beq_eq_false_iff_ne.2 (by omega)
  rcases Nat.lt_trichotomy nx ny with h | h | h
  · have j1 : decide ((nx : Int) < (ny : Int)) = true := by simp; omega
    have j2 : decide ((nx : Int) < (ny : Int)) = true := j1
    have j3 : decide ((0 : Int) < (nx : Int)) = true := by simp; omega
    go_wp2_with fail
    refine HR2.out.mono ?_
    rintro e w3 ⟨vr, rfl, hr, ho, hf⟩
    obtain ⟨br, or, cr, R, rfl, h2, rR, wR, lR, cR, tR, vR⟩ := hr
    have hne : br ≠ b1 := by
      have : br = b2 ∨ w2.heap.size ≤ br := hf
      omega
    have hbr : w.heap.size ≤ br := by
      have : br = b2 ∨ w2.heap.size ≤ br := hf
      omega
    have hso := ho.size
    have rQ3 := ho.row HH.out.2.2.2.2.2.2.1 (by omega) hbl1
    have hB3 : Below w.heap.size w2 w3 := ho.below (by omega) hs12
    have db3 := HH.out.2.2.2.2.2.2.2.2.only ho (by omega) (by omega)
    have hgr : Nat.gcd (wv X) (wv Y) = Nat.gcd (wv X) (wv Y % wv X) := by rw [gcd_rest, Nat.gcd_comm]
    have hgz : g = Nat.gcd (wv X) (wv Y % wv X) := HGV.out.trans hgr
    by_cases hR0 : R.length = 0
    · have hvr : wv Y % wv X = 0 := by rw [← vR, List.length_eq_zero_iff.1 hR0]; rfl
      rw [hvr, Nat.gcd_zero_right] at hgz
      have HGZ := Lib.hid hgz; clear hgz
      rw [hR0]
      have hN := number_any w3 b1 0 X.length X rQ3 HH.out.2.2.1 (by omega) (by have := HL.out; omega) (Nat.le_refl _)
      rw [← HL.out.1] at hN
      have HN := Lib.hid hN; clear hN hvr hgr rR wR tR vR rQ3 hf db3 lR cR
      go_wp2_with fail
      refine HN.out.mono ?_
      rintro e w4 ⟨rfl, b4⟩
      go_wp2
      go_ret
      exact ⟨by rw [HGZ.out]; rfl, (hBB.trans hB3).trans (b4.mono (by omega))⟩
    · have hqpos : 0 < wv X := Nat.pos_of_ne_zero HH.out.1
      have hrn : wv R ≠ 0 := by
        intro h0
        exact hR0 (by rw [(wv_zero_iff tR).1 h0]; rfl)
      have hRl : R.length ≤ X.length := Tr_le_len HH.out.2.2.1 wR HH.out.2.2.2.2.1 tR (by rw [vR]; exact Nat.le_of_lt (Nat.mod_lt _ hqpos))
      have hG := gcd_any w3 w.heap.size b1 0 X.length br or cr X R rQ3 rR HH.out.2.2.1 wR HH.out.1 hrn (by omega) h2 hne (Nat.le_refl _) lR (by have := HL.out; omega) (by have := HL.out; omega) (by omega) hbr (by omega) db3 hg
      rw [← HL.out.1, vR] at hG
      have hRi : ((R.length : Int) == 0) = false := beq_eq_false_iff_ne.2 (by omega)
      generalize R.length = nr at *
      have HG := Lib.hid hG; clear hG hgr hR0 rR tR vR rQ3 hf db3 lR cR hRl hrn hqpos
      go_wp2_with fail
      refine HG.out.mono ?_
      rintro e w4 ⟨bz, m, Z, z1, z2, rZ, wZ, lZ, mZ, vZ, BZ, rfl⟩
      subst lZ
      have hN := Lib.hid (number_any _ bz 0 Z.length Z rZ wZ z2 (by omega) (Nat.le_refl _))
      have HV := Lib.hid (hgz.trans vZ.symm); clear vZ rZ wZ hgz
      go_wp2_with fail
      refine hN.out.mono ?_
      rintro e w5 ⟨rfl, b5⟩
      have hsz := BZ.size
      go_wp2
      go_ret
      exact ⟨by rw [HV.out]; rfl, ((hBB.trans hB3).trans BZ).trans (b5.mono (by omega))⟩
  · subst h
    have j1 : decide ((nx : Int) < (nx : Int)) = false := by simp
    go_wp2_with fail
    refine (HE1.out hs12).mono ?_
    rintro e w4 ⟨bz, m, Z, z1, z2, rZ, wZ, lZ, mZ, vZ, BZ, rfl⟩
    subst lZ
    have hN := Lib.hid (number_any _ bz 0 Z.length Z rZ wZ z2 (by omega) (Nat.le_refl _))
    have HV := Lib.hid (HGV.out.trans vZ.symm); clear vZ rZ wZ
    go_wp2_with fail
    refine hN.out.mono ?_
    rintro e w5 ⟨rfl, b5⟩
    have hsz := BZ.size
    go_wp2
    go_ret
    exact ⟨by rw [HV.out]; rfl, (hBB.trans BZ).trans (b5.mono (by omega))⟩
  · have j1 : decide ((nx : Int) < (ny : Int)) = false := by simp; omega
    have j2 : decide ((ny : Int) < (nx : Int)) = true := by simp; omega
    have j3 : decide ((0 : Int) < (ny : Int)) = true := by simp; omega
    go_wp2_with fail
    refine HR1.out.mono ?_
    rintro e w3 ⟨vr, rfl, hr, ho, hf⟩
    obtain ⟨br, or, cr, R, rfl, h2, rR, wR, lR, cR, tR, vR⟩ := hr
    have hne : br ≠ b2 := by
      have : br = b1 ∨ w2.heap.size ≤ br := hf
      omega
    have hbr : w.heap.size ≤ br := by
      have : br = b1 ∨ w2.heap.size ≤ br := hf
      omega
    have hso := ho.size
    have rQ3 := ho.row HH.out.2.2.2.2.2.2.2.1 (by omega) hbl2
    have hB3 : Below w.heap.size w2 w3 := ho.below (by omega) hs12
    have db3 := HH.out.2.2.2.2.2.2.2.2.only ho (by omega) (by omega)
    have hgr : Nat.gcd (wv X) (wv Y) = Nat.gcd (wv Y) (wv X % wv Y) := by rw [gcd_rest]
    have hgz : g = Nat.gcd (wv Y) (wv X % wv Y) := HGV.out.trans hgr
    by_cases hR0 : R.length = 0
    · have hvr : wv X % wv Y = 0 := by rw [← vR, List.length_eq_zero_iff.1 hR0]; rfl
      rw [hvr, Nat.gcd_zero_right] at hgz
      have HGZ := Lib.hid hgz; clear hgz
      rw [hR0]
      have hN := number_any w3 b2 0 Y.length Y rQ3 HH.out.2.2.2.1 (by omega) (by have := HL.out; omega) (Nat.le_refl _)
      rw [← HL.out.2] at hN
      have HN := Lib.hid hN; clear hN hvr hgr rR wR tR vR rQ3 hf db3 lR cR
      go_wp2_with fail
      refine HN.out.mono ?_
      rintro e w4 ⟨rfl, b4⟩
      go_wp2
      go_ret
      exact ⟨by rw [HGZ.out]; rfl, (hBB.trans hB3).trans (b4.mono (by omega))⟩
    · have hqpos : 0 < wv Y := Nat.pos_of_ne_zero HH.out.2.1
      have hrn : wv R ≠ 0 := by
        intro h0
        exact hR0 (by rw [(wv_zero_iff tR).1 h0]; rfl)
      have hRl : R.length ≤ Y.length := Tr_le_len HH.out.2.2.2.1 wR HH.out.2.2.2.2.2.1 tR (by rw [vR]; exact Nat.le_of_lt (Nat.mod_lt _ hqpos))
      have hG := gcd_any w3 w.heap.size b2 0 Y.length br or cr Y R rQ3 rR HH.out.2.2.2.1 wR HH.out.2.1 hrn (by omega) h2 hne (Nat.le_refl _) lR (by have := HL.out; omega) (by have := HL.out; omega) (by omega) hbr (by omega) db3 hg
      rw [← HL.out.2, vR] at hG
      have hRi : ((R.length : Int) == 0) = false := beq_eq_false_iff_ne.2 (by omega)
      generalize R.length = nr at *
      have HG := Lib.hid hG; clear hG hgr hR0 rR tR vR rQ3 hf db3 lR cR hRl hrn hqpos
      go_wp2_with fail
      refine HG.out.mono ?_
      rintro e w4 ⟨bz, m, Z, z1, z2, rZ, wZ, lZ, mZ, vZ, BZ, rfl⟩
      subst lZ
      have hN := Lib.hid (number_any _ bz 0 Z.length Z rZ wZ z2 (by omega) (Nat.le_refl _))
      have HV := Lib.hid (hgz.trans vZ.symm); clear vZ rZ wZ hgz
      go_wp2_with fail
      refine hN.out.mono ?_
      rintro e w5 ⟨rfl, b5⟩
      have hsz := BZ.size
      go_wp2
      go_ret
      exact ⟨by rw [HV.out]; rfl, ((hBB.trans hB3).trans BZ).trans (b5.mono (by omega))⟩
end Go.Proofs.YteccbedmpjeamaaGreatDoor
