/-
  The walks of nat.Of, nat.Bits, nat.Int, nat.Right: what they answer, for every argument.
-/
import Derived.Test.YtkpkifhjedlieaaDoorTopA
namespace Go.Proofs.YtkpkifhjedlieaaDoor
open Go.RowKit NM
/-- the number of binary digits -/
def bl (n : Nat) : Nat := if n = 0 then 0 else n.log2 + 1
theorem bl_eq {n k : Nat} (h1 : 2^k ≤ n) (h2 : n < 2^(k+1)) : bl n = k + 1 := by
  have h0 : n ≠ 0 := by have : 0 < 2^k := Nat.pow_pos (by omega); omega
  unfold bl
  rw [if_neg h0, (Nat.log2_eq_iff h0).2 ⟨h1, h2⟩]
theorem bitLen_bl : ∀ n, n < 256 → Lib.bitLen n = bl n := by decide +kernel
theorem row_one (w : World) (x t : Nat) : Row (w.alloc (.cells #[.int .u64 (x : Nat)] t)) w.heap.size 0 [x] where
  cell j hj := by
    have : j = 0 := by simpa using hj
    subst this
    rw [World.cell?_alloc_at _ _ _ _ rfl]; rfl
  free j hj := by rw [World.frozen?_alloc_at _ _ _ _ rfl]
set_option maxHeartbeats 1000000 in
theorem Of_pos (w : World) (n : Nat) (hn : n < 9223372036854775808) :
    Calls Tryd.prog 19 #[.int .i64 (n : Nat)] w fun e w' => e = .returned (.string (NB n)) ∧ Below w.heap.size w w' := by
  have hw : Wd [n] := fun x hx => by rw [List.mem_singleton.1 hx]; show n < 18446744073709551616; omega
  have hc := number_any (w.alloc (.cells #[.int .u64 (n : Nat)] 56)) w.heap.size 0 1 [n] (row_one w n _) hw (by simp) (by show 1 ≤ _; omega) (Nat.le_refl _)
  have hB1 := (Below.refl w.heap.size w).alloc (Nat.le_refl _) (.cells #[.int .u64 (n : Nat)] 56)
  have HC := Lib.hid hc; clear hc
  go_enter Tryd.func19, Tryd.ntmps19
  go_wp2_with (refine HC.out.mono ?_; rintro e w' ⟨rfl, hb⟩)
  go_ret
  have hB2 := hB1.trans (Below.mono ‹Below _ _ _› (by simp))
  exact ⟨by simp [wv], hB2⟩
theorem Of_neg (w : World) (n : Int) (hn : n < 0) (h2 : -9223372036854775808 ≤ n) :
    Calls Tryd.prog 19 #[.int .i64 n] w fun e w' => e = .returned (.string ⟨#[]⟩) ∧ w = w' := by
  go_enter Tryd.func19, Tryd.ntmps19
  go_wp2
  go_ret
  exact ⟨rfl, rfl⟩
theorem tz_zero {s : ByteArray} (h : (tz s).size = 0) : sv s = 0 := by
  rw [tz_size] at h
  have := List.length_eq_zero_iff.1 h
  unfold sv; rw [← bv_dz, this]; rfl
theorem tz_bits {s : ByteArray} (h : 0 < (tz s).size) : bl (sv s) = 8 * ((tz s).size - 1) + Lib.bitLen ((tz s)[0]'h).toNat := by
  have hne : dz s.data.toList ≠ [] := by intro h2; rw [tz_size, h2] at h; simp at h
  obtain ⟨x, xs, hx⟩ : ∃ x xs, dz s.data.toList = x :: xs := by cases hd : dz s.data.toList with | nil => exact absurd hd hne | cons a b => exact ⟨a, b, rfl⟩
  have hx0 : x ≠ 0 := by have := dz_head s.data.toList; rw [hx] at this; simpa using this
  have hg : (tz s)[0]'h = x := by
    have : (tz s).data.toList[0]? = some x := by rw [tz_list, hx]; rfl
    have e : (tz s)[0]'h = (tz s).data.toList[0]'(by rw [len_size]; exact h) := rfl
    rw [e]; rw [List.getElem?_eq_getElem (by rw [len_size]; exact h)] at this; exact Option.some.inj this
  have hn : x.toNat ≠ 0 := fun h2 => hx0 (UInt8.toNat_inj.1 (by simpa using h2))
  rw [hg, tz_size, hx, bitLen_bl _ x.toNat_lt]
  unfold sv
  rw [← bv_dz, hx, bv_cons, List.length_cons, Nat.add_sub_cancel]
  have hy := bv_lt xs
  obtain ⟨k, hk⟩ : ∃ k, k = x.toNat.log2 := ⟨_, rfl⟩
  have h1 := Nat.log2_self_le hn
  have h2 : x.toNat < 2^(x.toNat.log2+1) := Nat.lt_log2_self
  have e1 : bl x.toNat = k + 1 := by unfold bl; rw [if_neg hn, hk]
  rw [← hk] at h1 h2
  rw [e1, pow256_two] at *
  have p1 : 2^k * 2^(xs.length*8) ≤ x.toNat * 2^(xs.length*8) := Nat.mul_le_mul_right _ h1
  have p2 : (x.toNat + 1) * 2^(xs.length*8) ≤ 2^(k+1) * 2^(xs.length*8) := Nat.mul_le_mul_right _ h2
  rw [← Nat.pow_add] at p1 p2
  rw [Nat.add_mul, Nat.one_mul] at p2
  rw [bl_eq (k := k + xs.length*8) (by omega) (by rw [show k + xs.length * 8 + 1 = k + 1 + xs.length*8 by omega]; omega)]
  omega
set_option maxHeartbeats 1000000 in
theorem Bits_any (w : World) (a : ByteArray) (ha : a.size ≤ 4294967296) :
    Calls Tryd.prog 13 #[.string a] w fun e w' => e = .returned (.int .i64 (bl (sv a) : Nat)) ∧ w = w' := by
  have htc := trimZeros_any a w
  have hts := tz_size_le a
  have hz := @tz_zero a
  have hb := @tz_bits a
  obtain ⟨t, ht⟩ : ∃ t, t = tz a := ⟨_, rfl⟩
  rw [← ht] at htc hts hz hb
  have HC := Lib.hid htc; clear htc
  have HT := Lib.hid ht; clear ht
  by_cases h0 : t.size = 0
  · have e0 : t.toList = [] := by have := len_size t; rw [h0] at this; rw [ByteArray.toList_eq]; exact List.length_eq_zero_iff.1 this
    have HZ := Lib.hid (hz h0); clear hz hb
    have H0 := Lib.hid h0; clear h0
    go_enter Tryd.func13, Tryd.ntmps13
    go_wp2_with (go_at_call 31; refine HC.out.mono ?_; rintro e w' ⟨rfl, rfl⟩)
    go_ret
    exact ⟨by rw [HZ.out]; rfl, rfl⟩
  · have hp : 0 < t.size := by omega
    have e0 : t.toList.isEmpty = false := by
      rw [ByteArray.toList_eq]
      have := len_size t
      cases hh : t.data.toList with
      | nil => rw [hh] at this; simp at this; omega
      | cons a b => rfl
    have HB := Lib.hid (hb hp); clear hz hb
    have hl := Tryd.bits_Len8 ((t[0]'hp).toNat : Int) w (by omega) (by have := (t[0]'hp).toNat_lt; omega)
    rw [Int.toNat_natCast] at hl
    have HL := Lib.hid hl; clear hl
    have hb8 : Lib.bitLen (t[0]'hp).toNat ≤ 8 := by
      have : ∀ n, n < 256 → Lib.bitLen n ≤ 8 := by decide +kernel
      exact this _ (t[0]'hp).toNat_lt
    obtain ⟨q, hq⟩ : ∃ q, q = Lib.bitLen (t[0]'hp).toNat := ⟨_, rfl⟩
    rw [← hq] at HL HB hb8
    have HQ := Lib.hid hq; clear hq
    go_enter Tryd.func13, Tryd.ntmps13
    go_wp2_with (first | (go_at_call 31; refine HC.out.mono ?_; rintro e w' ⟨rfl, rfl⟩) | (go_at_call 32; refine HL.out.mono ?_; rintro e w' ⟨rfl, rfl⟩))
    go_ret
    exact ⟨ret_int (by rw [HB.out]; omega), rfl⟩
theorem sv_Tr_len {s : ByteArray} : bl (sv s) ≤ 63 → (tz s).size ≤ 8 := by
  intro h
  apply Nat.le_of_not_lt; intro h2
  have := tz_bits (s := s) (by omega)
  omega
/-- what Int answers -/
def IntV (a : ByteArray) : Value := if sv a < 9223372036854775808 then .tuple #[.int .i64 (sv a : Nat), .bool true] else .tuple #[.int .i64 0, .bool false]
theorem bl_le63 {n : Nat} : bl n ≤ 63 ↔ n < 9223372036854775808 := by
  unfold bl
  by_cases h : n = 0
  · subst h; simp
  · rw [if_neg h]
    have h1 := Nat.log2_self_le h
    have h2 : n < 2^(n.log2+1) := Nat.lt_log2_self
    constructor
    · intro h3
      have : (2:Nat)^(n.log2+1) ≤ 2^63 := Nat.pow_le_pow_right (by omega) h3
      omega
    · intro h3
      apply Nat.le_of_not_lt; intro h4
      have : (2:Nat)^63 ≤ 2^n.log2 := Nat.pow_le_pow_right (by omega) (by omega)
      omega
set_option maxHeartbeats 1000000 in
theorem Int_any (w : World) (a : ByteArray) (ha : a.size ≤ 4294967296) :
    Calls Tryd.prog 18 #[.string a] w fun e w' => e = .returned (IntV a) ∧ Below w.heap.size w w' := by
  by_cases h0 : sv a < 9223372036854775808
  · have hbl : bl (sv a) ≤ 63 := bl_le63.2 h0
    have ht8 := sv_Tr_len hbl
    have hd : decide ((63 : Int) < (bl (sv a) : Nat)) = false := by simp; omega
    go_enter Tryd.func18, Tryd.ntmps18
    go_wp2_with fail
    refine (Bits_any w a ha).mono ?_
    rintro e w' ⟨rfl, rfl⟩
    go_wp2_with fail
    refine (words_any w a (by omega)).mono ?_
    rintro e w1 ⟨X, oX, vX, tX, bX, lX, rfl⟩
    have hX : X.length ≤ 1 := by omega
    have VX := Lib.hid vX; clear vX lX
    by_cases hX0 : X.length = 0
    · have hs0 : sv a = 0 := by rw [List.length_eq_zero_iff.1 hX0] at VX; exact VX.out.symm
      rw [hX0]
      have HX := Lib.hid hX0; have HS := Lib.hid hs0; clear hX0 hs0
      go_wp2
      go_rounds 1
      go_ret2
      exact ⟨by unfold IntV; rw [if_pos h0, HS.out]; rfl, bX⟩
    · have hX1 : X.length = 1 := by omega
      have hx := oX.row.cell 0 (by omega)
      have hxe : gd X 0 = sv a := by
        have := VX.out
        cases X with
        | nil => simp at hX1
        | cons x xs => cases xs with | nil => simpa [wv, gd, sv] using this | cons => simp at hX1
      rw [hxe] at hx
      rw [hX1]
      have HX := Lib.hid hX1; have HS := Lib.hid hxe; clear hX1 hxe hX0
      go_wp2
      go_rounds 2
      go_ret2
      exact ⟨by unfold IntV; rw [if_pos h0]; rfl, bX⟩
  · have hbl : ¬ bl (sv a) ≤ 63 := fun h => h0 (bl_le63.1 h)
    have hd : decide ((63 : Int) < (bl (sv a) : Nat)) = true := by simp; omega
    go_enter Tryd.func18, Tryd.ntmps18
    go_wp2_with fail
    refine (Bits_any w a ha).mono ?_
    rintro e w' ⟨rfl, rfl⟩
    go_wp2
    go_ret2
    exact ⟨by unfold IntV; rw [if_neg h0]; rfl, Below.refl _ _⟩
end Go.Proofs.YtkpkifhjedlieaaDoor
