/-
  The walks of nat.Add, nat.Mul, nat.Cmp, nat.Sub: what they answer, for every argument.
  The walks of nat.Of, nat.Bits, nat.Int, nat.Right: what they answer, for every argument.
  The walks of nat.Right, and of the reference's Canon and Made.
-/
import Derived.Test.YteccbedmpjeamaaGreatDoorProd
import Derived.Test.YteccbedmpjeamaaGreatDoorBase
import Derived.Lib.IndexBytes
namespace Go.Proofs.YteccbedmpjeamaaGreatDoor
open Go.RowKit NM
theorem Own.lift {B B' : Nat} {u w : World} {b o cap : Nat} {Z : List Nat} (h : Own B u b o cap Z) (hb : Below B' u w) (hlt : b < B') : Own B w b o cap Z :=
  ⟨h.lo, Nat.lt_of_lt_of_le h.lt hb.size, h.row.below hb hlt, h.wd, h.cap⟩
/-- the value of a string's bytes -/
def sv (s : ByteArray) : Nat := bv s.data.toList
theorem add_fits {X Y Z : List Nat} {n c a : Nat} (hX : Wd X) (hY : Wd Y) (hn : max X.length Y.length + 1 = n) (ha : a = wv X) (hz : wv Z + c * B64^n = a + wv Y) : wv Z = wv X + wv Y := by
  subst ha
  have h1 := wv_lt X hX
  have h2 := wv_lt Y hY
  have h3 : B64^X.length ≤ B64^(n-1) := Nat.pow_le_pow_right B64_pos (by omega)
  have h4 : B64^Y.length ≤ B64^(n-1) := Nat.pow_le_pow_right B64_pos (by omega)
  have h5 : B64^n = B64^(n-1) * B64 := by rw [← Nat.pow_succ]; congr 1; omega
  have h6 : B64^(n-1) * 2 ≤ B64^(n-1) * B64 := Nat.mul_le_mul_left _ (by decide)
  have hc : c = 0 := by
    apply Classical.byContradiction; intro h
    have : B64^n ≤ c * B64^n := Nat.le_mul_of_pos_left _ (by omega)
    omega
  rw [hc] at hz; omega
theorem words_len {s : ByteArray} {n : Nat} (h : n = ((tz s).size + 7) / 8) (hs : s.size ≤ 4294967296) : n ≤ 536870913 := by have := tz_size_le s; omega
set_option maxHeartbeats 1000000 in
theorem Add_any (w : World) (a b : ByteArray) (ha : a.size ≤ 4294967296) (hb : b.size ≤ 4294967296) :
    Calls Tryz.prog 68 #[.string a, .string b] w fun e w' => e = .returned (.string (NB (sv a + sv b))) ∧ Below w.heap.size w w' := by
  go_enter Tryz.func68, Tryz.ntmps68
  go_wp2_with fail
  refine (words_any _ a (by omega)).mono ?_
  rintro e w1 ⟨X, oX, vX, tX, bX, lX, rfl⟩
  have VX := Lib.hid vX; have LX := Lib.hid lX; have hX := words_len lX ha; clear vX lX
  go_wp2_with fail
  refine (words_any _ b (by omega)).mono ?_
  rintro e w2 ⟨Y, oY, vY, tY, bY, lY, rfl⟩
  have VY := Lib.hid vY; have LY := Lib.hid lY; have hY := words_len lY hb; clear vY lY
  have oX2 := oX.lift bY oX.lt
  go_wp2_with fail
  obtain ⟨n, hn⟩ : ∃ n, n = max X.length Y.length + 1 := ⟨_, rfl⟩
  rw [show (max (X.length : Int) (Y.length : Int) + 1) = (n : Int) by omega]
  have hXn : X.length ≤ n := by omega
  have hYn : Y.length ≤ n := by omega
  have hnb : n ≤ 536870914 := by omega
  have HN := Lib.hid hn; clear hn
  refine (widen_any w2 w.heap.size 0 X.length n X oX2.row oX.wd oX2.lt (by omega) hXn).mono ?_
  rintro e w3 ⟨Z, oZ, lZ, vZ, bZ, rfl⟩
  have VZ := Lib.hid vZ; have LZ := Lib.hid lZ; clear vZ lZ
  have oY3 := oY.lift bZ oY.lt
  go_wp2_with fail
  have hc := add_any w3 w2.heap.size 0 n w1.heap.size 0 Y.length Z Y oZ.row oY3.row oZ.wd oY.wd (by have := oY.lt; omega) oY3.lt (by rw [LZ.out]; omega) oZ.cap (Nat.le_refl _) (by rw [LZ.out]; omega)
  rw [LZ.out] at hc
  refine hc.mono ?_
  clear hc
  rintro e w4 ⟨T, c, aT, vT, cT, rfl⟩
  rw [LZ.out] at aT vT
  have VT := Lib.hid vT; have LT := Lib.hid aT.len; clear vT
  have hT : w2.heap.size < w4.heap.size := by have := aT.only.size; have := oZ.lt; omega
  go_wp2_with fail
  have hc := number_any w4 w2.heap.size 0 n T aT.row aT.wd hT (by rw [LT.out]; omega) (by rw [LT.out]; omega)
  rw [LT.out] at hc
  refine hc.mono ?_
  clear hc
  rintro e w5 ⟨rfl, b5⟩
  go_wp2
  go_ret
  have fin : wv T = sv a + sv b := by
    rw [add_fits oX.wd oY.wd HN.out.symm VZ.out VT.out, VX.out, VY.out]; rfl
  have s1 := bX.size
  have s2 := bY.size
  have s3 := bZ.size
  have s4 := aT.only.size
  have hb34 : Below w2.heap.size w3 w4 := aT.only.below (Nat.le_refl _) (by omega)
  refine ⟨by rw [← fin]; rfl, (bX.trans (bY.mono s1)).trans ((bZ.mono (by omega)).trans ((hb34.mono (by omega)).trans (b5.mono (by omega))))⟩
set_option maxHeartbeats 1000000 in
theorem Mul_any (w : World) (a b : ByteArray) (ha : a.size ≤ 4294967296) (hb : b.size ≤ 4294967296) :
    Calls Tryz.prog 56 #[.string a, .string b] w fun e w' => e = .returned (.string (NB (sv a * sv b))) ∧ Below w.heap.size w w' := by
  go_enter Tryz.func56, Tryz.ntmps56
  go_wp2_with fail
  refine (words_any _ a (by omega)).mono ?_
  rintro e w1 ⟨X, oX, vX, tX, bX, lX, rfl⟩
  have VX := Lib.hid vX; have LX := Lib.hid lX; have hX := words_len lX ha; clear vX lX
  go_wp2_with fail
  refine (words_any _ b (by omega)).mono ?_
  rintro e w2 ⟨Y, oY, vY, tY, bY, lY, rfl⟩
  have VY := Lib.hid vY; have LY := Lib.hid lY; have hY := words_len lY hb; clear vY lY
  have oX2 := oX.lift bY oX.lt
  go_wp2_with fail
  refine (product_any w2 w.heap.size 0 X.length w1.heap.size 0 Y.length X Y oX2.row oY.row oX.wd oY.wd oX2.lt oY.lt (by omega) (Nat.le_refl _) (Nat.le_refl _)).mono ?_
  rintro e w3 ⟨Z, oZ, vZ, tZ, bZ, rfl⟩
  have VZ := Lib.hid vZ; clear vZ
  go_wp2_with fail
  have hlZ := oZ.cap
  refine (number_any w3 w2.heap.size 0 (X.length + Y.length) Z oZ.row oZ.wd oZ.lt (by omega) oZ.cap).mono ?_
  rintro e w5 ⟨rfl, b5⟩
  go_wp2
  go_ret
  have s1 := bX.size
  have s2 := bY.size
  have s3 := bZ.size
  refine ⟨by rw [VZ.out, VX.out, VY.out]; rfl, (bX.trans (bY.mono s1)).trans ((bZ.mono (by omega)).trans (b5.mono (by omega)))⟩
set_option maxHeartbeats 1000000 in
theorem Cmp_any (w : World) (a b : ByteArray) (ha : a.size ≤ 4294967296) (hb : b.size ≤ 4294967296) :
    Calls Tryz.prog 55 #[.string a, .string b] w fun e w' => e = .returned (.int .i64 (cmpv (sv a) (sv b))) ∧ Below w.heap.size w w' := by
  go_enter Tryz.func55, Tryz.ntmps55
  go_wp2_with fail
  refine (words_any _ a (by omega)).mono ?_
  rintro e w1 ⟨X, oX, vX, tX, bX, lX, rfl⟩
  have VX := Lib.hid vX; have LX := Lib.hid lX; have hX := words_len lX ha; clear vX lX
  go_wp2_with fail
  refine (words_any _ b (by omega)).mono ?_
  rintro e w2 ⟨Y, oY, vY, tY, bY, lY, rfl⟩
  have VY := Lib.hid vY; have LY := Lib.hid lY; have hY := words_len lY hb; clear vY lY
  have oX2 := oX.lift bY oX.lt
  go_wp2_with fail
  refine (compare_any w2 w.heap.size 0 X.length w1.heap.size 0 Y.length X Y oX2.row oY.row oX.wd oY.wd tX tY (by omega) (by omega) (Nat.le_refl _) (Nat.le_refl _)).mono ?_
  rintro e w3 ⟨rfl, q⟩
  go_wp2
  go_ret
  have s1 := bX.size
  refine ⟨by rw [VX.out, VY.out]; rfl, (bX.trans (bY.mono s1)).trans (q.below _)⟩
def SubV (a b : ByteArray) : Value := if sv b ≤ sv a then .tuple #[.string (NB (sv a - sv b)), .bool true] else .tuple #[.string ⟨#[]⟩, .bool false]
set_option maxHeartbeats 1000000 in
theorem Sub_any (w : World) (a b : ByteArray) (ha : a.size ≤ 4294967296) (hb : b.size ≤ 4294967296) :
    Calls Tryz.prog 109 #[.string a, .string b] w fun e w' => e = .returned (SubV a b) ∧ Below w.heap.size w w' := by
  go_enter Tryz.func109, Tryz.ntmps109
  go_wp2_with fail
  refine (words_any _ a (by omega)).mono ?_
  rintro e w1 ⟨X, oX, vX, tX, bX, lX, rfl⟩
  have VX := Lib.hid vX; have LX := Lib.hid lX; have hX := words_len lX ha; clear vX lX
  go_wp2_with fail
  refine (words_any _ b (by omega)).mono ?_
  rintro e w2 ⟨Y, oY, vY, tY, bY, lY, rfl⟩
  have VY := Lib.hid vY; have LY := Lib.hid lY; have hY := words_len lY hb; clear vY lY
  have oX2 := oX.lift bY oX.lt
  go_wp2_with fail
  refine (compare_any w2 w.heap.size 0 X.length w1.heap.size 0 Y.length X Y oX2.row oY.row oX.wd oY.wd tX tY (by omega) (by omega) (Nat.le_refl _) (Nat.le_refl _)).mono ?_
  rintro e w3 ⟨rfl, q⟩
  have oX3 := oX2.lift (q.below (w.heap.size + 1)) (by omega)
  have oY3 := oY.lift (q.below (w1.heap.size + 1)) (by omega)
  have s1 := bX.size
  have s2 := bY.size
  have s3 := (q.below 0).size
  have hB3 : Below w.heap.size w w3 := (bX.trans (bY.mono s1)).trans (q.below _)
  by_cases hlt : wv X < wv Y
  · rw [cmpv_lt hlt]
    go_wp2
    go_ret2
    refine ⟨?_, hB3⟩
    unfold SubV
    rw [if_neg (by unfold sv; rw [← VX.out, ← VY.out]; omega)]
    rfl
  · have hge : (decide (cmpv (wv X) (wv Y) < 0)) = false := by
      unfold cmpv; rw [if_neg hlt]; split <;> simp
    have hlen := Tr_len_le oX.wd tY (Nat.le_of_not_lt hlt)
    go_wp2_with fail
    refine (subtract_any w3 w.heap.size 0 X.length w1.heap.size 0 Y.length X Y oX3.row oY3.row oX.wd oY.wd (by have := oX.lt; omega) oY3.lt (by omega) (Nat.le_refl _) (Nat.le_refl _) hlen (Nat.le_of_not_lt hlt)).mono ?_
    rintro e w4 ⟨Z, aZ, vZ, rfl⟩
    have VZ := Lib.hid vZ; clear vZ
    have s4 := aZ.only.size
    have oXlt := oX3.lt
    go_wp2_with fail
    have hc := number_any w4 w.heap.size 0 X.length Z aZ.row aZ.wd (by omega) (by rw [aZ.len]; omega) (by rw [aZ.len]; exact Nat.le_refl _)
    rw [aZ.len] at hc
    refine hc.mono ?_
    clear hc
    rintro e w5 ⟨rfl, b5⟩
    go_wp2
    go_ret2
    refine ⟨?_, hB3.trans ((aZ.only.below (Nat.le_refl _) (by omega)).trans (b5.mono (by omega)))⟩
    unfold SubV
    have e1 : sv a = wv X := VX.out.symm
    have e2 : sv b = wv Y := VY.out.symm
    rw [e1, e2, if_pos (by omega), show wv X - wv Y = wv Z by have := VZ.out; omega]
    rfl
end Go.Proofs.YteccbedmpjeamaaGreatDoor
namespace Go.Proofs.YteccbedmpjeamaaGreatDoor
open Go.RowKit NM
/-- the number of binary digits -/
def bl (n : Nat) : Nat := if n = 0 then 0 else n.log2 + 1
theorem bl_eq {n k : Nat} (h1 : 2^k ≤ n) (h2 : n < 2^(k+1)) : bl n = k + 1 := by
  have h0 : n ≠ 0 := by have : 0 < 2^k := Nat.pow_pos (by omega); omega
  unfold bl
  rw [if_neg h0, (Nat.log2_eq_iff h0).2 ⟨h1, h2⟩]
theorem bitLen_bl : ∀ n, n < 256 → Lib.bitLen n = bl n := by decide +kernel
theorem row_one (w : World) (x t : Nat) : Row (w.alloc (.cells #[.int .u64 (x : Nat)] t)) w.heap.size 0 [x] where
  cell j hj := by
    have : j = 0 := by simpa using hj
    subst this
    rw [World.cell?_alloc_at _ _ _ _ rfl]; rfl
  free j hj := by rw [World.frozen?_alloc_at _ _ _ _ rfl]
set_option maxHeartbeats 1000000 in
theorem Of_pos (w : World) (n : Nat) (hn : n < 9223372036854775808) :
    Calls Tryz.prog 69 #[.int .i64 (n : Nat)] w fun e w' => e = .returned (.string (NB n)) ∧ Below w.heap.size w w' := by
  have hw : Wd [n] := fun x hx => by rw [List.mem_singleton.1 hx]; show n < 18446744073709551616; omega
  have hc := number_any (w.alloc (.cells #[.int .u64 (n : Nat)] 95)) w.heap.size 0 1 [n] (row_one w n _) hw (by simp) (by show 1 ≤ _; omega) (Nat.le_refl _)
  have hB1 := (Below.refl w.heap.size w).alloc (Nat.le_refl _) (.cells #[.int .u64 (n : Nat)] 95)
  have HC := Lib.hid hc; clear hc
  go_enter Tryz.func69, Tryz.ntmps69
  go_wp2_with (refine HC.out.mono ?_; rintro e w' ⟨rfl, hb⟩)
  go_ret
  have hB2 := hB1.trans (Below.mono ‹Below _ _ _› (by simp))
  exact ⟨by simp [wv], hB2⟩
theorem Of_neg (w : World) (n : Int) (hn : n < 0) (_h2 : -9223372036854775808 ≤ n) :
    Calls Tryz.prog 69 #[.int .i64 n] w fun e w' => e = .returned (.string ⟨#[]⟩) ∧ w = w' := by
  go_enter Tryz.func69, Tryz.ntmps69
  go_wp2
  go_ret
  exact ⟨rfl, rfl⟩
theorem tz_zero {s : ByteArray} (h : (tz s).size = 0) : sv s = 0 := by
  rw [tz_size] at h
  have := List.length_eq_zero_iff.1 h
  unfold sv; rw [← bv_dz, this]; rfl
theorem tz_bits {s : ByteArray} (h : 0 < (tz s).size) : bl (sv s) = 8 * ((tz s).size - 1) + Lib.bitLen ((tz s)[0]'h).toNat := by
  have hne : dz s.data.toList ≠ [] := by intro h2; rw [tz_size, h2] at h; simp at h
  obtain ⟨x, xs, hx⟩ : ∃ x xs, dz s.data.toList = x :: xs := by cases hd : dz s.data.toList with | nil => exact absurd hd hne | cons a b => exact ⟨a, b, rfl⟩
  have hx0 : x ≠ 0 := by have := dz_head s.data.toList; rw [hx] at this; simpa using this
  have hg : (tz s)[0]'h = x := by
    have : (tz s).data.toList[0]? = some x := by rw [tz_list, hx]; rfl
    have e : (tz s)[0]'h = (tz s).data.toList[0]'(by rw [len_size]; exact h) := rfl
    rw [e]; rw [List.getElem?_eq_getElem (by rw [len_size]; exact h)] at this; exact Option.some.inj this
  have hn : x.toNat ≠ 0 := fun h2 => hx0 (UInt8.toNat_inj.1 (by simpa using h2))
  rw [hg, tz_size, hx, bitLen_bl _ x.toNat_lt]
  unfold sv
  rw [← bv_dz, hx, bv_cons, List.length_cons, Nat.add_sub_cancel]
  have hy := bv_lt xs
  obtain ⟨k, hk⟩ : ∃ k, k = x.toNat.log2 := ⟨_, rfl⟩
  have h1 := Nat.log2_self_le hn
  have h2 : x.toNat < 2^(x.toNat.log2+1) := Nat.lt_log2_self
  have e1 : bl x.toNat = k + 1 := by unfold bl; rw [if_neg hn, hk]
  rw [← hk] at h1 h2
  rw [e1, pow256_two] at *
  have p1 : 2^k * 2^(xs.length*8) ≤ x.toNat * 2^(xs.length*8) := Nat.mul_le_mul_right _ h1
  have p2 : (x.toNat + 1) * 2^(xs.length*8) ≤ 2^(k+1) * 2^(xs.length*8) := Nat.mul_le_mul_right _ h2
  rw [← Nat.pow_add] at p1 p2
  rw [Nat.add_mul, Nat.one_mul] at p2
  rw [bl_eq (k := k + xs.length*8) (by omega) (by rw [show k + xs.length * 8 + 1 = k + 1 + xs.length*8 by omega]; omega)]
  omega
theorem sv_Tr_len {s : ByteArray} : bl (sv s) ≤ 63 → (tz s).size ≤ 8 := by
  intro h
  apply Nat.le_of_not_lt; intro h2
  have := tz_bits (s := s) (by omega)
  omega
/-- what Int answers -/
def IntV (a : ByteArray) : Value := if sv a < 9223372036854775808 then .tuple #[.int .i64 (sv a : Nat), .bool true] else .tuple #[.int .i64 0, .bool false]
theorem bl_le63 {n : Nat} : bl n ≤ 63 ↔ n < 9223372036854775808 := by
  unfold bl
  by_cases h : n = 0
  · subst h; simp
  · rw [if_neg h]
    have h1 := Nat.log2_self_le h
    have h2 : n < 2^(n.log2+1) := Nat.lt_log2_self
    constructor
    · intro h3
      have : (2:Nat)^(n.log2+1) ≤ 2^63 := Nat.pow_le_pow_right (by omega) h3
      omega
    · intro h3
      apply Nat.le_of_not_lt; intro h4
      have : (2:Nat)^63 ≤ 2^n.log2 := Nat.pow_le_pow_right (by omega) (by omega)
      omega
end Go.Proofs.YteccbedmpjeamaaGreatDoor
namespace Go.Proofs.YteccbedmpjeamaaGreatDoor
open Go.RowKit NM
/-- no zeros in front -/
def rgt (s : ByteArray) : Bool := s.data.toList.head? != some 0
theorem head_ne (l : List UInt8) (h : 0 < l.length) : (l.head? != some 0) = (((l[0]'h).toNat : Int) != 0) := by
  cases l with
  | nil => simp at h
  | cons x xs =>
    by_cases hx : x = 0
    · subst hx; rfl
    · have : x.toNat ≠ 0 := fun h2 => hx (UInt8.toNat_inj.1 (by simpa using h2))
      have h3 : ((x.toNat : Int) == 0) = false := beq_eq_false_iff_ne.2 (by omega)
      show (some x != some 0) = ((x.toNat : Int) != 0)
      rw [bne, bne, h3]; simp [hx]
theorem rgt_get {s : ByteArray} (h : 0 < s.size) : rgt s = (((s[0]'h).toNat : Int) != 0) := head_ne s.data.toList (by rw [len_size]; exact h)
theorem size_zero_list {s : ByteArray} (h : s.size = 0) : s.data.toList = [] := List.length_eq_zero_iff.1 (by rw [len_size]; exact h)
theorem size_pos_list {s : ByteArray} (h : 0 < s.size) : s.toList.isEmpty = false := by
  rw [ByteArray.toList_eq]
  have := len_size s
  cases hh : s.data.toList with
  | nil => rw [hh] at this; simp at this; omega
  | cons a b => rfl
set_option maxHeartbeats 400000 in
theorem Right_any (w : World) (a : ByteArray) :
    Calls Tryz.prog 63 #[.string a] w fun e w' => e = .returned (.bool (rgt a)) ∧ w = w' := by
  by_cases h0 : a.size = 0
  · have e0 : a.toList = [] := by rw [ByteArray.toList_eq]; exact size_zero_list h0
    have er : rgt a = true := by unfold rgt; rw [size_zero_list h0]; rfl
    have H0 := Lib.hid h0; have ER := Lib.hid er; clear h0 er
    go_enter Tryz.func63, Tryz.ntmps63
    go_wp2
    go_ret
    exact ⟨by rw [ER.out]; rfl, rfl⟩
  · have hp : 0 < a.size := by omega
    have e0 := size_pos_list hp
    have ER := Lib.hid (rgt_get hp)
    go_enter Tryz.func63, Tryz.ntmps63
    go_wp2
    go_ret
    exact ⟨by rw [ER.out]; rfl, rfl⟩
theorem byte_at (s : ByteArray) (k : Nat) (h : k < s.size) : s.data.toList[k]? = some (s[k]'h) := by
  rw [List.getElem?_eq_getElem (by rw [len_size]; exact h)]; rfl
theorem dz_drop (l : List UInt8) (k : Nat) (hz : ∀ j, j < k → l[j]? = some 0) (he : l.length = k ∨ (∃ x, l[k]? = some x ∧ x ≠ 0)) : l.drop k = dz l := by
  induction l generalizing k with
  | nil => simp [dz]
  | cons x xs ih =>
    cases k with
    | zero =>
      rcases he with he | ⟨y, hy, hy0⟩
      · simp at he
      · have : x = y := by simpa using hy
        subst this
        rw [dz, if_neg hy0]; rfl
    | succ k =>
      have hx : x = 0 := by have := hz 0 (by omega); simpa using this
      rw [dz, if_pos hx, List.drop_succ_cons]
      exact ih k (fun j hj => by have := hz (j+1) (by omega); simpa using this) (by simpa using he)
theorem extract_dz (s : ByteArray) (k : Nat) (_hk : k ≤ s.size) (hz : ∀ j, j < k → s.data.toList[j]? = some 0) (he : s.size = k ∨ (∃ x, s.data.toList[k]? = some x ∧ x ≠ 0)) : s.extract k s.size = tz s := by
  have h1 := dz_drop s.data.toList k hz (by rw [len_size]; exact he)
  have h2 : (s.extract k s.size).data.toList = s.data.toList.drop k := by
    rw [Lib.extract_data]
    rw [List.take_of_length_le (by rw [List.length_drop, len_size]; omega)]
  rw [h1, ← tz_list] at h2
  cases hs : s.extract k s.size with
  | mk d => cases ht : tz s with
    | mk d' => rw [hs, ht] at h2; congr 1; exact Array.toList_inj.1 h2
set_option maxHeartbeats 400000 in
theorem Canon_any (w : World) (s : ByteArray) (hs : s.size ≤ 4294967296) :
    Calls Tryz.prog 67 #[.string s] w fun e w' => e = .returned (.string (tz s)) ∧ w = w' := by
  go_enter Tryz.func67, Tryz.ntmps67
  go_wp2
  go_loop [3] (fun i => ∃ k : Nat, k ≤ s.size ∧ i = .int .i64 (k : Nat) ∧ Hid (∀ j, j < k → s.data.toList[j]? = some 0)) (fun i => s.size - (intOf i).toNat)
  case atStart => exact ⟨0, Nat.zero_le _, rfl, fun j hj => by omega⟩
  case round =>
    obtain ⟨k, hk, rfl, hz⟩ := hrel
    by_cases hlt : k < s.size
    · have hd : decide ((k : Int) < (s.size : Int)) = true := by simp; omega
      have hb := byte_at s k hlt
      by_cases h0 : (s[k]'hlt) = 0
      · have hb0 : (((s[k]'hlt).toNat : Int) == 0) = true := by rw [h0]; rfl
        rw [h0] at hb
        have HB := Lib.hid hb; have H0 := Lib.hid h0; clear hb h0
        go_wp2
        go_round
        case rel => exact ⟨k + 1, hlt, by go_num, fun j hj => by
          by_cases e : j = k
          · rw [e]; exact HB.out
          · exact hz.out j (by omega)⟩
        case measure => (simp [intOf]; try omega)
      · have hb0 : (((s[k]'hlt).toNat : Int) == 0) = false := by
          have : (s[k]'hlt).toNat ≠ 0 := fun h2 => h0 (UInt8.toNat_inj.1 (by simpa using h2))
          simp; omega
        have hx := extract_dz s k hk hz.out (.inr ⟨_, hb, h0⟩)
        have HX := Lib.hid hx; have HB := Lib.hid hb; have H0 := Lib.hid h0
        clear hx hb h0
        go_wp2
        go_ret
        exact ⟨by rw [← HX.out]; rfl, rfl⟩
    · obtain rfl : k = s.size := by omega
      have hx := extract_dz s s.size hk hz.out (.inl rfl)
      have hE : tz s = ByteArray.empty := by rw [← hx]; simp
      have HX := Lib.hid hE; clear hx hE
      go_wp2
      go_ret
      exact ⟨by rw [HX.out]; rfl, rfl⟩
def MadeQ (w : World) (e : Ending) (w' : World) : Prop := ∃ s : ByteArray, s.size ≤ 40 ∧ e = .returned (.string s) ∧ w = w'
end Go.Proofs.YteccbedmpjeamaaGreatDoor
