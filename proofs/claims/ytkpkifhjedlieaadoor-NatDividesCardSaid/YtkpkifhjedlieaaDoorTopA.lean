/-
  The walks of nat.Add, nat.Mul, nat.Cmp, nat.Sub: what they answer, for every argument.
-/
import Derived.Test.YtkpkifhjedlieaaDoorNumber
import Derived.Test.YtkpkifhjedlieaaDoorWiden
import Derived.Test.YtkpkifhjedlieaaDoorAdd
namespace Go.Proofs.YtkpkifhjedlieaaDoor
open Go.RowKit NM
theorem Own.lift {B B' : Nat} {u w : World} {b o cap : Nat} {Z : List Nat} (h : Own B u b o cap Z) (hb : Below B' u w) (hlt : b < B') : Own B w b o cap Z :=
  ⟨h.lo, Nat.lt_of_lt_of_le h.lt hb.size, h.row.below hb hlt, h.wd, h.cap⟩
/-- the value of a string's bytes -/
def sv (s : ByteArray) : Nat := bv s.data.toList
theorem add_fits {X Y Z : List Nat} {n c a : Nat} (hX : Wd X) (hY : Wd Y) (hn : max X.length Y.length + 1 = n) (ha : a = wv X) (hz : wv Z + c * B64^n = a + wv Y) : wv Z = wv X + wv Y := by
  subst ha
  have h1 := wv_lt X hX
  have h2 := wv_lt Y hY
  have h3 : B64^X.length ≤ B64^(n-1) := Nat.pow_le_pow_right B64_pos (by omega)
  have h4 : B64^Y.length ≤ B64^(n-1) := Nat.pow_le_pow_right B64_pos (by omega)
  have h5 : B64^n = B64^(n-1) * B64 := by rw [← Nat.pow_succ]; congr 1; omega
  have h6 : B64^(n-1) * 2 ≤ B64^(n-1) * B64 := Nat.mul_le_mul_left _ (by decide)
  have hc : c = 0 := by
    apply Classical.byContradiction; intro h
    have : B64^n ≤ c * B64^n := Nat.le_mul_of_pos_left _ (by omega)
    omega
  rw [hc] at hz; omega
theorem words_len {s : ByteArray} {n : Nat} (h : n = ((tz s).size + 7) / 8) (hs : s.size ≤ 4294967296) : n ≤ 536870913 := by have := tz_size_le s; omega
set_option maxHeartbeats 1000000 in
theorem Add_any (w : World) (a b : ByteArray) (ha : a.size ≤ 4294967296) (hb : b.size ≤ 4294967296) :
    Calls Tryd.prog 9 #[.string a, .string b] w fun e w' => e = .returned (.string (NB (sv a + sv b))) ∧ Below w.heap.size w w' := by
  go_enter Tryd.func9, Tryd.ntmps9
  go_wp2_with fail
  refine (words_any _ a (by omega)).mono ?_
  rintro e w1 ⟨X, oX, vX, tX, bX, lX, rfl⟩
  have VX := Lib.hid vX; have LX := Lib.hid lX; have hX := words_len lX ha; clear vX lX
  go_wp2_with fail
  refine (words_any _ b (by omega)).mono ?_
  rintro e w2 ⟨Y, oY, vY, tY, bY, lY, rfl⟩
  have VY := Lib.hid vY; have LY := Lib.hid lY; have hY := words_len lY hb; clear vY lY
  have oX2 := oX.lift bY oX.lt
  go_wp2_with fail
  obtain ⟨n, hn⟩ : ∃ n, n = max X.length Y.length + 1 := ⟨_, rfl⟩
  rw [show (max (X.length : Int) (Y.length : Int) + 1) = (n : Int) by omega]
  have hXn : X.length ≤ n := by omega
  have hYn : Y.length ≤ n := by omega
  have hnb : n ≤ 536870914 := by omega
  have HN := Lib.hid hn; clear hn
  refine (widen_any w2 w.heap.size 0 X.length n X oX2.row oX.wd oX2.lt (by omega) hXn).mono ?_
  rintro e w3 ⟨Z, oZ, lZ, vZ, bZ, rfl⟩
  have VZ := Lib.hid vZ; have LZ := Lib.hid lZ; clear vZ lZ
  have oY3 := oY.lift bZ oY.lt
  go_wp2_with fail
  have hc := add_any w3 w2.heap.size 0 n w1.heap.size 0 Y.length Z Y oZ.row oY3.row oZ.wd oY.wd (by have := oY.lt; omega) oY3.lt (by rw [LZ.out]; omega) oZ.cap (Nat.le_refl _) (by rw [LZ.out]; omega)
  rw [LZ.out] at hc
  refine hc.mono ?_
  clear hc
  rintro e w4 ⟨T, c, aT, vT, cT, rfl⟩
  rw [LZ.out] at aT vT
  have VT := Lib.hid vT; have LT := Lib.hid aT.len; clear vT
  have hT : w2.heap.size < w4.heap.size := by have := aT.only.size; have := oZ.lt; omega
  go_wp2_with fail
  have hc := number_any w4 w2.heap.size 0 n T aT.row aT.wd hT (by rw [LT.out]; omega) (by rw [LT.out]; omega)
  rw [LT.out] at hc
  refine hc.mono ?_
  clear hc
  rintro e w5 ⟨rfl, b5⟩
  go_wp2
  go_ret
  have fin : wv T = sv a + sv b := by
    rw [add_fits oX.wd oY.wd HN.out.symm VZ.out VT.out, VX.out, VY.out]; rfl
  have s1 := bX.size
  have s2 := bY.size
  have s3 := bZ.size
  have s4 := aT.only.size
  have hb34 : Below w2.heap.size w3 w4 := aT.only.below (Nat.le_refl _) (by omega)
  refine ⟨by rw [← fin]; rfl, (bX.trans (bY.mono s1)).trans ((bZ.mono (by omega)).trans ((hb34.mono (by omega)).trans (b5.mono (by omega))))⟩
set_option maxHeartbeats 1000000 in
theorem Mul_any (w : World) (a b : ByteArray) (ha : a.size ≤ 4294967296) (hb : b.size ≤ 4294967296) :
    Calls Tryd.prog 10 #[.string a, .string b] w fun e w' => e = .returned (.string (NB (sv a * sv b))) ∧ Below w.heap.size w w' := by
  go_enter Tryd.func10, Tryd.ntmps10
  go_wp2_with fail
  refine (words_any _ a (by omega)).mono ?_
  rintro e w1 ⟨X, oX, vX, tX, bX, lX, rfl⟩
  have VX := Lib.hid vX; have LX := Lib.hid lX; have hX := words_len lX ha; clear vX lX
  go_wp2_with fail
  refine (words_any _ b (by omega)).mono ?_
  rintro e w2 ⟨Y, oY, vY, tY, bY, lY, rfl⟩
  have VY := Lib.hid vY; have LY := Lib.hid lY; have hY := words_len lY hb; clear vY lY
  have oX2 := oX.lift bY oX.lt
  go_wp2_with fail
  refine (product_any w2 w.heap.size 0 X.length w1.heap.size 0 Y.length X Y oX2.row oY.row oX.wd oY.wd oX2.lt oY.lt (by omega) (Nat.le_refl _) (Nat.le_refl _)).mono ?_
  rintro e w3 ⟨Z, oZ, vZ, tZ, bZ, rfl⟩
  have VZ := Lib.hid vZ; clear vZ
  go_wp2_with fail
  have hlZ := oZ.cap
  refine (number_any w3 w2.heap.size 0 (X.length + Y.length) Z oZ.row oZ.wd oZ.lt (by omega) oZ.cap).mono ?_
  rintro e w5 ⟨rfl, b5⟩
  go_wp2
  go_ret
  have s1 := bX.size
  have s2 := bY.size
  have s3 := bZ.size
  refine ⟨by rw [VZ.out, VX.out, VY.out]; rfl, (bX.trans (bY.mono s1)).trans ((bZ.mono (by omega)).trans (b5.mono (by omega)))⟩
set_option maxHeartbeats 1000000 in
theorem Cmp_any (w : World) (a b : ByteArray) (ha : a.size ≤ 4294967296) (hb : b.size ≤ 4294967296) :
    Calls Tryd.prog 14 #[.string a, .string b] w fun e w' => e = .returned (.int .i64 (cmpv (sv a) (sv b))) ∧ Below w.heap.size w w' := by
  go_enter Tryd.func14, Tryd.ntmps14
  go_wp2_with fail
  refine (words_any _ a (by omega)).mono ?_
  rintro e w1 ⟨X, oX, vX, tX, bX, lX, rfl⟩
  have VX := Lib.hid vX; have LX := Lib.hid lX; have hX := words_len lX ha; clear vX lX
  go_wp2_with fail
  refine (words_any _ b (by omega)).mono ?_
  rintro e w2 ⟨Y, oY, vY, tY, bY, lY, rfl⟩
  have VY := Lib.hid vY; have LY := Lib.hid lY; have hY := words_len lY hb; clear vY lY
  have oX2 := oX.lift bY oX.lt
  go_wp2_with fail
  refine (compare_any w2 w.heap.size 0 X.length w1.heap.size 0 Y.length X Y oX2.row oY.row oX.wd oY.wd tX tY (by omega) (by omega) (Nat.le_refl _) (Nat.le_refl _)).mono ?_
  rintro e w3 ⟨rfl, q⟩
  go_wp2
  go_ret
  have s1 := bX.size
  refine ⟨by rw [VX.out, VY.out]; rfl, (bX.trans (bY.mono s1)).trans (q.below _)⟩
def SubV (a b : ByteArray) : Value := if sv b ≤ sv a then .tuple #[.string (NB (sv a - sv b)), .bool true] else .tuple #[.string ⟨#[]⟩, .bool false]
set_option maxHeartbeats 1000000 in
theorem Sub_any (w : World) (a b : ByteArray) (ha : a.size ≤ 4294967296) (hb : b.size ≤ 4294967296) :
    Calls Tryd.prog 8 #[.string a, .string b] w fun e w' => e = .returned (SubV a b) ∧ Below w.heap.size w w' := by
  go_enter Tryd.func8, Tryd.ntmps8
  go_wp2_with fail
  refine (words_any _ a (by omega)).mono ?_
  rintro e w1 ⟨X, oX, vX, tX, bX, lX, rfl⟩
  have VX := Lib.hid vX; have LX := Lib.hid lX; have hX := words_len lX ha; clear vX lX
  go_wp2_with fail
  refine (words_any _ b (by omega)).mono ?_
  rintro e w2 ⟨Y, oY, vY, tY, bY, lY, rfl⟩
  have VY := Lib.hid vY; have LY := Lib.hid lY; have hY := words_len lY hb; clear vY lY
  have oX2 := oX.lift bY oX.lt
  go_wp2_with fail
  refine (compare_any w2 w.heap.size 0 X.length w1.heap.size 0 Y.length X Y oX2.row oY.row oX.wd oY.wd tX tY (by omega) (by omega) (Nat.le_refl _) (Nat.le_refl _)).mono ?_
  rintro e w3 ⟨rfl, q⟩
  have oX3 := oX2.lift (q.below (w.heap.size + 1)) (by omega)
  have oY3 := oY.lift (q.below (w1.heap.size + 1)) (by omega)
  have s1 := bX.size
  have s2 := bY.size
  have s3 := (q.below 0).size
  have hB3 : Below w.heap.size w w3 := (bX.trans (bY.mono s1)).trans (q.below _)
  by_cases hlt : wv X < wv Y
  · rw [cmpv_lt hlt]
    go_wp2
    go_ret2
    refine ⟨?_, hB3⟩
    unfold SubV
    rw [if_neg (by unfold sv; rw [← VX.out, ← VY.out]; omega)]
    rfl
  · have hge : (decide (cmpv (wv X) (wv Y) < 0)) = false := by
      unfold cmpv; rw [if_neg hlt]; split <;> simp
    have hlen := Tr_len_le oX.wd tY (Nat.le_of_not_lt hlt)
    go_wp2_with fail
    refine (subtract_any w3 w.heap.size 0 X.length w1.heap.size 0 Y.length X Y oX3.row oY3.row oX.wd oY.wd (by have := oX.lt; omega) oY3.lt (by omega) (Nat.le_refl _) (Nat.le_refl _) hlen (Nat.le_of_not_lt hlt)).mono ?_
    rintro e w4 ⟨Z, aZ, vZ, rfl⟩
    have VZ := Lib.hid vZ; clear vZ
    have s4 := aZ.only.size
    have oXlt := oX3.lt
    go_wp2_with fail
    have hc := number_any w4 w.heap.size 0 X.length Z aZ.row aZ.wd (by omega) (by rw [aZ.len]; omega) (by rw [aZ.len]; exact Nat.le_refl _)
    rw [aZ.len] at hc
    refine hc.mono ?_
    clear hc
    rintro e w5 ⟨rfl, b5⟩
    go_wp2
    go_ret2
    refine ⟨?_, hB3.trans ((aZ.only.below (Nat.le_refl _) (by omega)).trans (b5.mono (by omega)))⟩
    unfold SubV
    have e1 : sv a = wv X := VX.out.symm
    have e2 : sv b = wv Y := VY.out.symm
    rw [e1, e2, if_pos (by omega), show wv X - wv Y = wv Z by have := VZ.out; omega]
    rfl
end Go.Proofs.YtkpkifhjedlieaaDoor
