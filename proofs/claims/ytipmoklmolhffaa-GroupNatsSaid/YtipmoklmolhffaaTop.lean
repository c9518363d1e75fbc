/-
  The walks of nat.Add, nat.Mul, nat.Cmp, nat.Sub: what they answer, for every argument.
  The walks of nat.Of, nat.Bits, nat.Int, nat.Right: what they answer, for every argument.
  The walks of nat.Right, and of the reference's Canon and Made.
-/
import Derived.Test.YtipmoklmolhffaaProd
import Derived.Test.YtipmoklmolhffaaBase
import Derived.Lib.IndexBytes
namespace Go.Proofs.Ytipmoklmolhffaa
open Go.RowKit NM
theorem Own.lift {B B' : Nat} {u w : World} {b o cap : Nat} {Z : List Nat} (h : Own B u b o cap Z) (hb : Below B' u w) (hlt : b < B') : Own B w b o cap Z :=
  ⟨h.lo, Nat.lt_of_lt_of_le h.lt hb.size, h.row.below hb hlt, h.wd, h.cap⟩
/-- the value of a string's bytes -/
def sv (s : ByteArray) : Nat := bv s.data.toList
theorem add_fits {X Y Z : List Nat} {n c a : Nat} (hX : Wd X) (hY : Wd Y) (hn : max X.length Y.length + 1 = n) (ha : a = wv X) (hz : wv Z + c * B64^n = a + wv Y) : wv Z = wv X + wv Y := by
  subst ha
  have h1 := wv_lt X hX
  have h2 := wv_lt Y hY
  have h3 : B64^X.length ≤ B64^(n-1) := Nat.pow_le_pow_right B64_pos (by omega)
  have h4 : B64^Y.length ≤ B64^(n-1) := Nat.pow_le_pow_right B64_pos (by omega)
  have h5 : B64^n = B64^(n-1) * B64 := by rw [← Nat.pow_succ]; congr 1; omega
  have h6 : B64^(n-1) * 2 ≤ B64^(n-1) * B64 := Nat.mul_le_mul_left _ (by decide)
  have hc : c = 0 := by
    apply Classical.byContradiction; intro h
    have : B64^n ≤ c * B64^n := Nat.le_mul_of_pos_left _ (by omega)
    omega
  rw [hc] at hz; omega
theorem words_len {s : ByteArray} {n : Nat} (h : n = ((tz s).size + 7) / 8) (hs : s.size ≤ 4294967296) : n ≤ 536870913 := by have := tz_size_le s; omega
def SubV (a b : ByteArray) : Value := if sv b ≤ sv a then .tuple #[.string (NB (sv a - sv b)), .bool true] else .tuple #[.string ⟨#[]⟩, .bool false]
end Go.Proofs.Ytipmoklmolhffaa
namespace Go.Proofs.Ytipmoklmolhffaa
open Go.RowKit NM
/-- the number of binary digits -/
def bl (n : Nat) : Nat := if n = 0 then 0 else n.log2 + 1
theorem bl_eq {n k : Nat} (h1 : 2^k ≤ n) (h2 : n < 2^(k+1)) : bl n = k + 1 := by
  have h0 : n ≠ 0 := by have : 0 < 2^k := Nat.pow_pos (by omega); omega
  unfold bl
  rw [if_neg h0, (Nat.log2_eq_iff h0).2 ⟨h1, h2⟩]
theorem bitLen_bl : ∀ n, n < 256 → Lib.bitLen n = bl n := by decide +kernel
theorem row_one (w : World) (x t : Nat) : Row (w.alloc (.cells #[.int .u64 (x : Nat)] t)) w.heap.size 0 [x] where
  cell j hj := by
    have : j = 0 := by simpa using hj
    subst this
    rw [World.cell?_alloc_at _ _ _ _ rfl]; rfl
  free j hj := by rw [World.frozen?_alloc_at _ _ _ _ rfl]
theorem tz_zero {s : ByteArray} (h : (tz s).size = 0) : sv s = 0 := by
  rw [tz_size] at h
  have := List.length_eq_zero_iff.1 h
  unfold sv; rw [← bv_dz, this]; rfl
theorem tz_bits {s : ByteArray} (h : 0 < (tz s).size) : bl (sv s) = 8 * ((tz s).size - 1) + Lib.bitLen ((tz s)[0]'h).toNat := by
  have hne : dz s.data.toList ≠ [] := by intro h2; rw [tz_size, h2] at h; simp at h
  obtain ⟨x, xs, hx⟩ : ∃ x xs, dz s.data.toList = x :: xs := by cases hd : dz s.data.toList with | nil => exact absurd hd hne | cons a b => exact ⟨a, b, rfl⟩
  have hx0 : x ≠ 0 := by have := dz_head s.data.toList; rw [hx] at this; simpa using this
  have hg : (tz s)[0]'h = x := by
    have : (tz s).data.toList[0]? = some x := by rw [tz_list, hx]; rfl
    have e : (tz s)[0]'h = (tz s).data.toList[0]'(by rw [len_size]; exact h) := rfl
    rw [e]; rw [List.getElem?_eq_getElem (by rw [len_size]; exact h)] at this; exact Option.some.inj this
  have hn : x.toNat ≠ 0 := fun h2 => hx0 (UInt8.toNat_inj.1 (by simpa using h2))
  rw [hg, tz_size, hx, bitLen_bl _ x.toNat_lt]
  unfold sv
  rw [← bv_dz, hx, bv_cons, List.length_cons, Nat.add_sub_cancel]
  have hy := bv_lt xs
  obtain ⟨k, hk⟩ : ∃ k, k = x.toNat.log2 := ⟨_, rfl⟩
  have h1 := Nat.log2_self_le hn
  have h2 : x.toNat < 2^(x.toNat.log2+1) := Nat.lt_log2_self
  have e1 : bl x.toNat = k + 1 := by unfold bl; rw [if_neg hn, hk]
  rw [← hk] at h1 h2
  rw [e1, pow256_two] at *
  have p1 : 2^k * 2^(xs.length*8) ≤ x.toNat * 2^(xs.length*8) := Nat.mul_le_mul_right _ h1
  have p2 : (x.toNat + 1) * 2^(xs.length*8) ≤ 2^(k+1) * 2^(xs.length*8) := Nat.mul_le_mul_right _ h2
  rw [← Nat.pow_add] at p1 p2
  rw [Nat.add_mul, Nat.one_mul] at p2
  rw [bl_eq (k := k + xs.length*8) (by omega) (by rw [show k + xs.length * 8 + 1 = k + 1 + xs.length*8 by omega]; omega)]
  omega
theorem sv_Tr_len {s : ByteArray} : bl (sv s) ≤ 63 → (tz s).size ≤ 8 := by
  intro h
  apply Nat.le_of_not_lt; intro h2
  have := tz_bits (s := s) (by omega)
  omega
/-- what Int answers -/
def IntV (a : ByteArray) : Value := if sv a < 9223372036854775808 then .tuple #[.int .i64 (sv a : Nat), .bool true] else .tuple #[.int .i64 0, .bool false]
theorem bl_le63 {n : Nat} : bl n ≤ 63 ↔ n < 9223372036854775808 := by
  unfold bl
  by_cases h : n = 0
  · subst h; simp
  · rw [if_neg h]
    have h1 := Nat.log2_self_le h
    have h2 : n < 2^(n.log2+1) := Nat.lt_log2_self
    constructor
    · intro h3
      have : (2:Nat)^(n.log2+1) ≤ 2^63 := Nat.pow_le_pow_right (by omega) h3
      omega
    · intro h3
      apply Nat.le_of_not_lt; intro h4
      have : (2:Nat)^63 ≤ 2^n.log2 := Nat.pow_le_pow_right (by omega) (by omega)
      omega
end Go.Proofs.Ytipmoklmolhffaa
namespace Go.Proofs.Ytipmoklmolhffaa
open Go.RowKit NM
/-- no zeros in front -/
def rgt (s : ByteArray) : Bool := s.data.toList.head? != some 0
theorem head_ne (l : List UInt8) (h : 0 < l.length) : (l.head? != some 0) = (((l[0]'h).toNat : Int) != 0) := by
  cases l with
  | nil => simp at h
  | cons x xs =>
    by_cases hx : x = 0
    · subst hx; rfl
    · have : x.toNat ≠ 0 := fun h2 => hx (UInt8.toNat_inj.1 (by simpa using h2))
      have h3 : ((x.toNat : Int) == 0) = false := beq_eq_false_iff_ne.2 (by omega)
      show (some x != some 0) = ((x.toNat : Int) != 0)
      rw [bne, bne, h3]; simp [hx]
theorem rgt_get {s : ByteArray} (h : 0 < s.size) : rgt s = (((s[0]'h).toNat : Int) != 0) := head_ne s.data.toList (by rw [len_size]; exact h)
theorem size_zero_list {s : ByteArray} (h : s.size = 0) : s.data.toList = [] := List.length_eq_zero_iff.1 (by rw [len_size]; exact h)
theorem size_pos_list {s : ByteArray} (h : 0 < s.size) : s.toList.isEmpty = false := by
  rw [ByteArray.toList_eq]
  have := len_size s
  cases hh : s.data.toList with
  | nil => rw [hh] at this; simp at this; omega
  | cons a b => rfl
theorem byte_at (s : ByteArray) (k : Nat) (h : k < s.size) : s.data.toList[k]? = some (s[k]'h) := by
  rw [List.getElem?_eq_getElem (by rw [len_size]; exact h)]; rfl
theorem dz_drop (l : List UInt8) (k : Nat) (hz : ∀ j, j < k → l[j]? = some 0) (he : l.length = k ∨ (∃ x, l[k]? = some x ∧ x ≠ 0)) : l.drop k = dz l := by
  induction l generalizing k with
  | nil => simp [dz]
  | cons x xs ih =>
    cases k with
    | zero =>
      rcases he with he | ⟨y, hy, hy0⟩
      · simp at he
      · have : x = y := by simpa using hy
        subst this
        rw [dz, if_neg hy0]; rfl
    | succ k =>
      have hx : x = 0 := by have := hz 0 (by omega); simpa using this
      rw [dz, if_pos hx, List.drop_succ_cons]
      exact ih k (fun j hj => by have := hz (j+1) (by omega); simpa using this) (by simpa using he)
theorem extract_dz (s : ByteArray) (k : Nat) (_hk : k ≤ s.size) (hz : ∀ j, j < k → s.data.toList[j]? = some 0) (he : s.size = k ∨ (∃ x, s.data.toList[k]? = some x ∧ x ≠ 0)) : s.extract k s.size = tz s := by
  have h1 := dz_drop s.data.toList k hz (by rw [len_size]; exact he)
  have h2 : (s.extract k s.size).data.toList = s.data.toList.drop k := by
    rw [Lib.extract_data]
    rw [List.take_of_length_le (by rw [List.length_drop, len_size]; omega)]
  rw [h1, ← tz_list] at h2
  cases hs : s.extract k s.size with
  | mk d => cases ht : tz s with
    | mk d' => rw [hs, ht] at h2; congr 1; exact Array.toList_inj.1 h2
set_option maxHeartbeats 400000 in
theorem Canon_any (w : World) (s : ByteArray) (hs : s.size ≤ 4294967296) :
    Calls Try.prog 33 #[.string s] w fun e w' => e = .returned (.string (tz s)) ∧ w = w' := by
  go_enter Try.func33, Try.ntmps33
  go_wp2
  go_loop [3] (fun i => ∃ k : Nat, k ≤ s.size ∧ i = .int .i64 (k : Nat) ∧ Hid (∀ j, j < k → s.data.toList[j]? = some 0)) (fun i => s.size - (intOf i).toNat)
  case atStart => exact ⟨0, Nat.zero_le _, rfl, fun j hj => by omega⟩
  case round =>
    obtain ⟨k, hk, rfl, hz⟩ := hrel
    by_cases hlt : k < s.size
    · have hd : decide ((k : Int) < (s.size : Int)) = true := by simp; omega
      have hb := byte_at s k hlt
      by_cases h0 : (s[k]'hlt) = 0
      · have hb0 : (((s[k]'hlt).toNat : Int) == 0) = true := by rw [h0]; rfl
        rw [h0] at hb
        have HB := Lib.hid hb; have H0 := Lib.hid h0; clear hb h0
        go_wp2
        go_round
        case rel => exact ⟨k + 1, hlt, by go_num, fun j hj => by
          by_cases e : j = k
          · rw [e]; exact HB.out
          · exact hz.out j (by omega)⟩
        case measure => (simp [intOf]; try omega)
      · have hb0 : (((s[k]'hlt).toNat : Int) == 0) = false := by
          have : (s[k]'hlt).toNat ≠ 0 := fun h2 => h0 (UInt8.toNat_inj.1 (by simpa using h2))
          simp; omega
        have hx := extract_dz s k hk hz.out (.inr ⟨_, hb, h0⟩)
        have HX := Lib.hid hx; have HB := Lib.hid hb; have H0 := Lib.hid h0
        clear hx hb h0
        go_wp2
        go_ret
        exact ⟨by rw [← HX.out]; rfl, rfl⟩
    · obtain rfl : k = s.size := by omega
      have hx := extract_dz s s.size hk hz.out (.inl rfl)
      have hE : tz s = ByteArray.empty := by rw [← hx]; simp
      have HX := Lib.hid hE; clear hx hE
      go_wp2
      go_ret
      exact ⟨by rw [HX.out]; rfl, rfl⟩
def MadeQ (w : World) (e : Ending) (w' : World) : Prop := ∃ s : ByteArray, s.size ≤ 40 ∧ e = .returned (.string s) ∧ w = w'
end Go.Proofs.Ytipmoklmolhffaa
