/-
  nat.Gcd, all numbers.
-/
import Derived.Test.YteccbedmpjeamaaGreatDoorGcdA
namespace Go.Proofs.YteccbedmpjeamaaGreatDoor
open Go.RowKit NM
theorem gcd_rest (x y : Nat) : Nat.gcd y (x % y) = Nat.gcd x y := gcd_step x y
set_option maxRecDepth 100000 in
set_option maxHeartbeats 4000000 in
theorem Gcd_any (w : World) (a b : ByteArray) (ha : a.size ≤ 4294967296) (hb : b.size ≤ 4294967296) (hT : DB w) (hg : 5 < w.heap.size) :
    Calls Tryz.prog 64 #[.string a, .string b] w fun e w' => e = .returned (GcdV a b) ∧ Below w.heap.size w w' := by
  by_cases h3 : sv a = 0
  · exact Gcd_zero w a b ha hb (.inl h3)
  by_cases h4 : sv b = 0
  · exact Gcd_zero w a b ha hb (.inr h4)
  obtain ⟨g, hgd⟩ : ∃ g, g = Nat.gcd (sv a) (sv b) := ⟨_, rfl⟩
  rw [show GcdV a b = .string (NB g) by unfold GcdV; rw [hgd]]
  have HGD := Lib.hid hgd; clear hgd
  go_enter Tryz.func64, Tryz.ntmps64
  go_wp2_with fail
  refine (words_any _ a (by omega)).mono ?_
  rintro e w1 ⟨X, oX, vX, tX, bX, lX, rfl⟩
  have lenX := words_len lX ha
  clear lX
  have hTB := hT.below bX hg
  go_wp2_with fail
  refine (words_any _ b (by omega)).mono ?_
  rintro e w2 ⟨Y, oY, vY, tY, bY, lY, rfl⟩
  have lenY := words_len lY hb
  clear lY
  replace vX : wv X = sv a := vX
  replace vY : wv Y = sv b := vY
  have hTB2 := hTB.below bY (Nat.lt_of_lt_of_le hg bX.size)
  have hlt := oX.lt
  have hlt2 := oY.lt
  have hs1 := bX.size
  have hs2 := bY.size
  have hx0 : 0 < X.length := by
    apply Nat.pos_of_ne_zero; intro h
    rw [List.length_eq_zero_iff.1 h] at vX
    exact h3 vX.symm
  have hy0 : 0 < Y.length := by
    apply Nat.pos_of_ne_zero; intro h
    rw [List.length_eq_zero_iff.1 h] at vY
    exact h4 vY.symm
  have hX0 : wv X ≠ 0 := by rw [vX]; exact h3
  have hY0 : wv Y ≠ 0 := by rw [vY]; exact h4
  have rX2 := oX.row.below bY oX.lt
  have hBB : Below w.heap.size w w2 := bX.trans (bY.mono bX.size)
  obtain ⟨b1, hb1⟩ : ∃ b1, b1 = w.heap.size := ⟨_, rfl⟩
  obtain ⟨b2, hb2⟩ : ∃ b2, b2 = w1.heap.size := ⟨_, rfl⟩
  have hd1 : DivOK X := DivS.words (b := a) trivial oX.wd tX vX h3
  have hd2 : DivOK Y := DivS.words (b := b) trivial oY.wd tY vY h4
  have hwX := oX.wd
  have hwY := oY.wd
  have rY2 := oY.row
  rw [← hb1] at rX2
  rw [← hb2] at rY2
  have hbl1 : b1 < w2.heap.size := by omega
  have hbl2 : b2 < w2.heap.size := by omega
  have hb12 : b1 < b2 := by omega
  have hBb : w.heap.size ≤ b1 := by omega
  have E1 := fun h => gcd_any w2 w.heap.size b1 0 X.length b2 0 Y.length X Y rX2 rY2 hwX hwY hX0 hY0 hbl1 hbl2 (by omega) (Nat.le_refl _) (Nat.le_refl _) (by omega) (by omega) hBb (by omega) h hTB2 hg
  have R1 := rest_any w2 b1 0 X.length b2 0 Y.length X Y rX2 rY2 hwX hwY tX tY hbl1 hbl2 (by omega) (Nat.le_refl _) (Nat.le_refl _) (by omega) (by omega) hd2
  have R2 := rest_any w2 b2 0 Y.length b1 0 X.length Y X rY2 rX2 hwY hwX tY tX hbl2 hbl1 (by omega) (Nat.le_refl _) (Nat.le_refl _) (by omega) (by omega) hd1
  have HGV : Hid (g = Nat.gcd (wv X) (wv Y)) := Lib.hid (by rw [HGD.out, vX, vY])
  obtain ⟨nx, hnx⟩ : ∃ n, n = X.length := ⟨_, rfl⟩
  obtain ⟨ny, hny⟩ : ∃ n, n = Y.length := ⟨_, rfl⟩
  rw [← hnx, ← hny] at E1 R1 R2
  rw [← hnx] at hx0 lenX
  rw [← hny] at hy0 lenY
  rw [← hnx, ← hny, ← hb1, ← hb2]
  have HE1 := Lib.hid E1; have HR1 := Lib.hid R1; have HR2 := Lib.hid R2
  have HL := Lib.hid (And.intro hnx hny)
  have HH := Lib.hid (And.intro hX0 (And.intro hY0 (And.intro hwX (And.intro hwY (And.intro tX (And.intro tY (And.intro rX2 (And.intro rY2 hTB2))))))))
  have hs12 : w.heap.size ≤ w2.heap.size := by omega
  clear E1 R1 R2 hnx hny hX0 hY0 hwX hwY tX tY rX2 rY2 hTB2 hTB hd1 hd2 oX oY vX vY h3 h4 hlt hlt2 hb1 hb2 hs1 hs2 bX bY
  have i1 : ((nx : Int) == 0) = false := beq_eq_false_iff_ne.2 (by omega)
  have i2 : ((ny : Int) == 0) = false := beq_eq_false_iff_ne.2 (by omega)
  rcases Nat.lt_trichotomy nx ny with h | h | h
  · have j1 : decide ((nx : Int) < (ny : Int)) = true := by simp; omega
    have j2 : decide ((nx : Int) < (ny : Int)) = true := j1
    have j3 : decide ((0 : Int) < (nx : Int)) = true := by simp; omega
    go_wp2_with fail
    refine HR2.out.mono ?_
    rintro e w3 ⟨vr, rfl, hr, ho, hf⟩
    obtain ⟨br, or, cr, R, rfl, h2, rR, wR, lR, cR, tR, vR⟩ := hr
    have hne : br ≠ b1 := by
      have : br = b2 ∨ w2.heap.size ≤ br := hf
      omega
    have hbr : w.heap.size ≤ br := by
      have : br = b2 ∨ w2.heap.size ≤ br := hf
      omega
    have hso := ho.size
    have rQ3 := ho.row HH.out.2.2.2.2.2.2.1 (by omega) hbl1
    have hB3 : Below w.heap.size w2 w3 := ho.below (by omega) hs12
    have db3 := HH.out.2.2.2.2.2.2.2.2.only ho (by omega) (by omega)
    have hgr : Nat.gcd (wv X) (wv Y) = Nat.gcd (wv X) (wv Y % wv X) := by rw [gcd_rest, Nat.gcd_comm]
    have hgz : g = Nat.gcd (wv X) (wv Y % wv X) := HGV.out.trans hgr
    by_cases hR0 : R.length = 0
    · have hvr : wv Y % wv X = 0 := by rw [← vR, List.length_eq_zero_iff.1 hR0]; rfl
      rw [hvr, Nat.gcd_zero_right] at hgz
      have HGZ := Lib.hid hgz; clear hgz
      rw [hR0]
      have hN := number_any w3 b1 0 X.length X rQ3 HH.out.2.2.1 (by omega) (by have := HL.out; omega) (Nat.le_refl _)
      rw [← HL.out.1] at hN
      have HN := Lib.hid hN; clear hN hvr hgr rR wR tR vR rQ3 hf db3 lR cR
      go_wp2_with fail
      refine HN.out.mono ?_
      rintro e w4 ⟨rfl, b4⟩
      go_wp2
      go_ret
      exact ⟨by rw [HGZ.out]; rfl, (hBB.trans hB3).trans (b4.mono (by omega))⟩
    · have hqpos : 0 < wv X := Nat.pos_of_ne_zero HH.out.1
      have hrn : wv R ≠ 0 := by
        intro h0
        exact hR0 (by rw [(wv_zero_iff tR).1 h0]; rfl)
      have hRl : R.length ≤ X.length := Tr_le_len HH.out.2.2.1 wR HH.out.2.2.2.2.1 tR (by rw [vR]; exact Nat.le_of_lt (Nat.mod_lt _ hqpos))
      have hG := gcd_any w3 w.heap.size b1 0 X.length br or cr X R rQ3 rR HH.out.2.2.1 wR HH.out.1 hrn (by omega) h2 hne (Nat.le_refl _) lR (by have := HL.out; omega) (by have := HL.out; omega) (by omega) hbr (by omega) db3 hg
      rw [← HL.out.1, vR] at hG
      have hRi : ((R.length : Int) == 0) = false := beq_eq_false_iff_ne.2 (by omega)
      generalize R.length = nr at *
      have HG := Lib.hid hG; clear hG hgr hR0 rR tR vR rQ3 hf db3 lR cR hRl hrn hqpos
      go_wp2_with fail
      refine HG.out.mono ?_
      rintro e w4 ⟨bz, m, Z, z1, z2, rZ, wZ, lZ, mZ, vZ, BZ, rfl⟩
      subst lZ
      have hN := Lib.hid (number_any _ bz 0 Z.length Z rZ wZ z2 (by omega) (Nat.le_refl _))
      have HV := Lib.hid (hgz.trans vZ.symm); clear vZ rZ wZ hgz
      go_wp2_with fail
      refine hN.out.mono ?_
      rintro e w5 ⟨rfl, b5⟩
      have hsz := BZ.size
      go_wp2
      go_ret
      exact ⟨by rw [HV.out]; rfl, ((hBB.trans hB3).trans BZ).trans (b5.mono (by omega))⟩
  · subst h
    have j1 : decide ((nx : Int) < (nx : Int)) = false := by simp
    go_wp2_with fail
    refine (HE1.out hs12).mono ?_
    rintro e w4 ⟨bz, m, Z, z1, z2, rZ, wZ, lZ, mZ, vZ, BZ, rfl⟩
    subst lZ
    have hN := Lib.hid (number_any _ bz 0 Z.length Z rZ wZ z2 (by omega) (Nat.le_refl _))
    have HV := Lib.hid (HGV.out.trans vZ.symm); clear vZ rZ wZ
    go_wp2_with fail
    refine hN.out.mono ?_
    rintro e w5 ⟨rfl, b5⟩
    have hsz := BZ.size
    go_wp2
    go_ret
    exact ⟨by rw [HV.out]; rfl, (hBB.trans BZ).trans (b5.mono (by omega))⟩
  · have j1 : decide ((nx : Int) < (ny : Int)) = false := by simp; omega
    have j2 : decide ((ny : Int) < (nx : Int)) = true := by simp; omega
    have j3 : decide ((0 : Int) < (ny : Int)) = true := by simp; omega
    go_wp2_with fail
    refine HR1.out.mono ?_
    rintro e w3 ⟨vr, rfl, hr, ho, hf⟩
    obtain ⟨br, or, cr, R, rfl, h2, rR, wR, lR, cR, tR, vR⟩ := hr
    have hne : br ≠ b2 := by
      have : br = b1 ∨ w2.heap.size ≤ br := hf
      omega
    have hbr : w.heap.size ≤ br := by
      have : br = b1 ∨ w2.heap.size ≤ br := hf
      omega
    have hso := ho.size
    have rQ3 := ho.row HH.out.2.2.2.2.2.2.2.1 (by omega) hbl2
    have hB3 : Below w.heap.size w2 w3 := ho.below (by omega) hs12
    have db3 := HH.out.2.2.2.2.2.2.2.2.only ho (by omega) (by omega)
    have hgr : Nat.gcd (wv X) (wv Y) = Nat.gcd (wv Y) (wv X % wv Y) := by rw [gcd_rest]
    have hgz : g = Nat.gcd (wv Y) (wv X % wv Y) := HGV.out.trans hgr
    by_cases hR0 : R.length = 0
    · have hvr : wv X % wv Y = 0 := by rw [← vR, List.length_eq_zero_iff.1 hR0]; rfl
      rw [hvr, Nat.gcd_zero_right] at hgz
      have HGZ := Lib.hid hgz; clear hgz
      rw [hR0]
      have hN := number_any w3 b2 0 Y.length Y rQ3 HH.out.2.2.2.1 (by omega) (by have := HL.out; omega) (Nat.le_refl _)
      rw [← HL.out.2] at hN
      have HN := Lib.hid hN; clear hN hvr hgr rR wR tR vR rQ3 hf db3 lR cR
      go_wp2_with fail
      refine HN.out.mono ?_
      rintro e w4 ⟨rfl, b4⟩
      go_wp2
      go_ret
      exact ⟨by rw [HGZ.out]; rfl, (hBB.trans hB3).trans (b4.mono (by omega))⟩
    · have hqpos : 0 < wv Y := Nat.pos_of_ne_zero HH.out.2.1
      have hrn : wv R ≠ 0 := by
        intro h0
        exact hR0 (by rw [(wv_zero_iff tR).1 h0]; rfl)
      have hRl : R.length ≤ Y.length := Tr_le_len HH.out.2.2.2.1 wR HH.out.2.2.2.2.2.1 tR (by rw [vR]; exact Nat.le_of_lt (Nat.mod_lt _ hqpos))
      have hG := gcd_any w3 w.heap.size b2 0 Y.length br or cr Y R rQ3 rR HH.out.2.2.2.1 wR HH.out.2.1 hrn (by omega) h2 hne (Nat.le_refl _) lR (by have := HL.out; omega) (by have := HL.out; omega) (by omega) hbr (by omega) db3 hg
      rw [← HL.out.2, vR] at hG
      have hRi : ((R.length : Int) == 0) = false := beq_eq_false_iff_ne.2 (by omega)
      generalize R.length = nr at *
      have HG := Lib.hid hG; clear hG hgr hR0 rR tR vR rQ3 hf db3 lR cR hRl hrn hqpos
      go_wp2_with fail
      refine HG.out.mono ?_
      rintro e w4 ⟨bz, m, Z, z1, z2, rZ, wZ, lZ, mZ, vZ, BZ, rfl⟩
      subst lZ
      have hN := Lib.hid (number_any _ bz 0 Z.length Z rZ wZ z2 (by omega) (Nat.le_refl _))
      have HV := Lib.hid (hgz.trans vZ.symm); clear vZ rZ wZ hgz
      go_wp2_with fail
      refine hN.out.mono ?_
      rintro e w5 ⟨rfl, b5⟩
      have hsz := BZ.size
      go_wp2
      go_ret
      exact ⟨by rw [HV.out]; rfl, ((hBB.trans hB3).trans BZ).trans (b5.mono (by omega))⟩
end Go.Proofs.YteccbedmpjeamaaGreatDoor
