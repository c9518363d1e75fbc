/-
  nat.Gcd where a number is 0, or both have one word.
-/
import Derived.Test.YtkpkifhjedlieaaDoorGcd
namespace Go.Proofs.YtkpkifhjedlieaaDoor
open Go.RowKit NM
theorem one_of {X : List Nat} (h : X.length = 1) : ∃ x, X = [x] := by
  match X, h with
  | [x], _ => exact ⟨x, rfl⟩
def GcdV (a b : ByteArray) : Value := .string (NB (Nat.gcd (sv a) (sv b)))
set_option maxRecDepth 100000 in
set_option maxHeartbeats 2000000 in
theorem Gcd_small (w : World) (a b : ByteArray) (ha : a.size ≤ 4294967296) (hb : b.size ≤ 4294967296) (h1 : OneS a) (h2 : OneS b) (h3 : sv a ≠ 0) (h4 : sv b ≠ 0) (hT : DB w) (hg : 2 < w.heap.size) :
    Calls Tryd.prog 20 #[.string a, .string b] w fun e w' => e = .returned (GcdV a b) ∧ Below w.heap.size w w' := by
  go_enter Tryd.func20, Tryd.ntmps20
  go_wp2_with fail
  refine (words_any _ a (by omega)).mono ?_
  rintro e w1 ⟨X, oX, vX, tX, bX, lX, rfl⟩
  have lenX := words_len lX ha
  have dX := h1.words oX.wd tX vX h3
  obtain ⟨x, rfl⟩ := one_of dX
  have hx : x = sv a := by rw [← show wv [x] = sv a from vX]; simp [wv]
  have hx64 : x < 18446744073709551616 := oX.wd x (by simp)
  clear lX vX dX lenX
  simp only [List.length_singleton] at oX ⊢
  have hTB := hT.below bX hg
  go_wp2_with fail
  refine (words_any _ b (by omega)).mono ?_
  rintro e w2 ⟨Y, oY, vY, tY, bY, lY, rfl⟩
  have dY := h2.words oY.wd tY vY h4
  obtain ⟨y, rfl⟩ := one_of dY
  have hy : y = sv b := by rw [← show wv [y] = sv b from vY]; simp [wv]
  have hy64 : y < 18446744073709551616 := oY.wd y (by simp)
  clear lY vY dY
  simp only [List.length_singleton] at oY ⊢
  have hTB2 := hTB.below bY (Nat.lt_of_lt_of_le hg bX.size)
  have HX := Lib.hid (And.intro hx64 (And.intro hy64 (And.intro hx hy))); clear hx64 hy64 hx hy
  have HH := Lib.hid (And.intro h3 h4); clear h3 h4
  have hlt := oX.lt
  have hxn : x ≠ 0 := by rw [HX.out.2.2.1]; exact HH.out.1
  have hyn : y ≠ 0 := by rw [HX.out.2.2.2]; exact HH.out.2
  have HC := Lib.hid (gcd_one w2 w.heap.size 0 1 w1.heap.size 0 1 x y (oX.row.below bY oX.lt) oY.row HX.out.1 HX.out.2.1 hxn hyn (Nat.lt_of_lt_of_le oX.lt bY.size) oY.lt (by omega) (Nat.le_refl _) (Nat.le_refl _) hTB2)
  clear hxn hyn
  go_wp2_with fail
  refine HC.out.mono ?_
  rintro e w3 ⟨bz, m, Z, z1, z2, rZ, wZ, lZ, mZ, vZ, BZ, rfl⟩
  have b3 := BZ w.heap.size (Nat.le_refl _) (by omega) (Nat.le_trans bX.size bY.size)
  subst lZ
  go_wp2_with fail
  refine (number_any _ bz 0 Z.length Z rZ wZ z2 (by omega) (Nat.le_refl _)).mono ?_
  rintro e w4 ⟨rfl, b4⟩
  go_wp2
  go_ret
  refine ⟨?_, bX.trans ((bY.mono bX.size).trans (b3.trans (b4.mono (by have := bX.size; have := bY.size; have := b3.size; omega))))⟩
  unfold GcdV
  rw [← HX.out.2.2.1, ← HX.out.2.2.2]
  rfl
set_option maxRecDepth 100000 in
set_option maxHeartbeats 2000000 in
theorem Gcd_zero (w : World) (a b : ByteArray) (ha : a.size ≤ 4294967296) (hb : b.size ≤ 4294967296) (h : sv a = 0 ∨ sv b = 0) :
    Calls Tryd.prog 20 #[.string a, .string b] w fun e w' => e = .returned (GcdV a b) ∧ Below w.heap.size w w' := by
  go_enter Tryd.func20, Tryd.ntmps20
  go_wp2_with fail
  refine (words_any _ a (by omega)).mono ?_
  rintro e w1 ⟨X, oX, vX, tX, bX, lX, rfl⟩
  have lenX := words_len lX ha
  clear lX
  go_wp2_with fail
  refine (words_any _ b (by omega)).mono ?_
  rintro e w2 ⟨Y, oY, vY, tY, bY, lY, rfl⟩
  have lenY := words_len lY hb
  clear lY
  replace vX : wv X = sv a := vX
  replace vY : wv Y = sv b := vY
  have HX := Lib.hid (And.intro vX vY)
  have rX := oX.row.below bY oX.lt
  have NX := Lib.hid (number_any w2 w.heap.size 0 X.length X rX oX.wd (Nat.lt_of_lt_of_le oX.lt bY.size) (by omega) (Nat.le_refl _))
  have NY := Lib.hid (number_any w2 w1.heap.size 0 Y.length Y oY.row oY.wd oY.lt (by omega) (Nat.le_refl _))
  have h' : X = [] ∨ Y = [] := h.imp (fun h => words_zero tX (vX.trans h)) (fun h => words_zero tY (vY.trans h))
  clear h vX vY
  by_cases hx : X = []
  · subst hx
    by_cases hy : Y = []
    · subst hy
      simp only [List.length_nil] at *
      go_wp2_with fail
      refine NX.out.mono ?_
      rintro e w3 ⟨rfl, b3⟩
      go_wp2
      go_ret
      refine ⟨?_, bX.trans ((bY.trans (b3.mono bY.size)).mono bX.size)⟩
      unfold GcdV
      rw [← HX.out.1, ← HX.out.2]
      rfl
    · have hy0 : 0 < Y.length := List.length_pos_iff.2 hy
      have i1 : ((Y.length : Int) < 0) = False := by simp
      clear hy h'
      simp only [List.length_nil] at *
      go_wp2_with fail
      refine NY.out.mono ?_
      rintro e w3 ⟨rfl, b3⟩
      go_wp2
      go_ret
      refine ⟨?_, bX.trans ((bY.trans (b3.mono bY.size)).mono bX.size)⟩
      unfold GcdV
      rw [← HX.out.1, ← HX.out.2, show wv [] = 0 from rfl, Nat.gcd_zero_left]
      rfl
  · obtain rfl : Y = [] := h'.resolve_left hx
    have hx0 : 0 < X.length := List.length_pos_iff.2 hx
    have i1 : ((X.length : Int) < 0) = False := by simp
    clear hx h'
    simp only [List.length_nil] at *
    go_wp2_with fail
    refine NX.out.mono ?_
    rintro e w3 ⟨rfl, b3⟩
    go_wp2
    go_ret
    refine ⟨?_, bX.trans ((bY.trans (b3.mono bY.size)).mono bX.size)⟩
    unfold GcdV
    rw [← HX.out.1, ← HX.out.2, show wv [] = 0 from rfl, Nat.gcd_zero_right]
    rfl
end Go.Proofs.YtkpkifhjedlieaaDoor
