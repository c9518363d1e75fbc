/-
  The walks of nat.trimZeros and nat.words.
-/
import Derived.Test.YtkpkifhjedlieaaDoorMul
import Derived.BigQuiet
namespace Go.Proofs.YtkpkifhjedlieaaDoor
open Go.RowKit NM
theorem trimLeftB_dz (l : List UInt8) : Lib.trimLeftB l 0 = dz l := by
  induction l with
  | nil => rfl
  | cons x xs ih =>
    unfold dz
    by_cases h : x = 0
    · subst h; simp [Lib.trimLeftB, ← ih]
    · rw [if_neg h]; simp [Lib.trimLeftB, h]
theorem len_size (s : ByteArray) : s.data.toList.length = s.size := by rw [Array.length_toList]; rfl
/-- the bytes of a string without zeros in front -/
def tz (s : ByteArray) : ByteArray := ⟨(dz s.data.toList).toArray⟩
theorem tz_list (s : ByteArray) : (tz s).data.toList = dz s.data.toList := rfl
theorem dz_length_le (l : List UInt8) : (dz l).length ≤ l.length := by
  induction l with
  | nil => simp [dz]
  | cons x xs ih => unfold dz; by_cases h : x = 0 <;> simp [h] <;> omega
theorem tz_size (s : ByteArray) : (tz s).size = (dz s.data.toList).length := by rw [← len_size, tz_list]
theorem tz_size_le (s : ByteArray) : (tz s).size ≤ s.size := by
  rw [tz_size, ← len_size]; exact dz_length_le _
theorem trimZeros_any (s : ByteArray) (w : World) : Calls Tryd.prog 31 #[.string s] w fun e w' => e = .returned (.string (tz s)) ∧ w = w' := by
  have h := Tryd.strings_TrimLeft_one s 0 (by decide) w
  rw [trimLeftB_dz] at h
  have H := Lib.hid h; clear h
  go_enter Tryd.func31, Tryd.ntmps31
  go_wp2_with (go_at_call 55; refine H.out.mono ?_; rintro e w' ⟨rfl, rfl⟩)
  go_ret
  exact ⟨rfl, rfl⟩
theorem words_store (X : List Nat) (V p c : Nat) (hX : Wd X) (hq : p/8 < X.length) (hv : wv X = V * 256^(p+1)) (hc : c < 256) :
    bits BinOp.or IntKind.u64 ((gd X (p/8) : Nat) : Int) (IntKind.u64.wrap (IntKind.u64.wrap (c : Int) * 2^(p%8*8))) = ((gd X (p/8) + c * 2^(p%8*8) : Nat) : Int) := by
  obtain ⟨h1, h2, _⟩ := words_step X V p c hX hq hv hc
  have hlt : c * 2^(p%8*8) < 18446744073709551616 := by
    have : c * 2^(p%8*8) < B64 := by have := Nat.zero_le (X.getD (p/8) 0); omega
    exact this
  have e1 : IntKind.u64.wrap (c : Int) = (c : Int) := IntWalk.u64_in _ ⟨by omega, by omega⟩
  have e2 : ((c : Int) * 2^(p%8*8)) = ((c * 2^(p%8*8) : Nat) : Int) := by rw [Int.natCast_mul, Int.natCast_pow]; rfl
  rw [e1, e2, IntWalk.u64_in _ ⟨by omega, by omega⟩, bits_or_u64_nat _ _ (gd_lt hX _) hlt]
  unfold gd
  rw [h1]
theorem At.drew {n b o : Nat} {w wr : World} {Z : List Nat} (h : At n b o w Z wr) : At n b o w Z wr.drew := ⟨h.len, h.wd, h.row.drew, h.only.drew⟩
theorem take_bv (t : ByteArray) (k : Nat) (h : k < t.size) : bv (t.data.toList.take (k+1)) = 256 * bv (t.data.toList.take k) + (t[k]'h).toNat := by
  rw [List.take_succ_eq_append_getElem (by rw [len_size]; exact h), bv_snoc]; rfl
/-- the number's highest word is not 0 -/
theorem words_Tr (s : ByteArray) (Z : List Nat) (hZ : Wd Z) (hl : Z.length = ((tz s).size + 7) / 8) (hv : wv Z = bv s.data.toList) : Tr Z := by
  unfold Tr
  by_cases h0 : Z.length = 0
  · rw [List.length_eq_zero_iff.1 h0]; simp
  · intro hd
    have hd' : Z.getD (Z.length - 1) 0 = 0 := by
      rw [List.getD_eq_getElem?_getD, List.getElem?_eq_getElem (by omega)] at hd ⊢; exact hd
    have h1 := wv_split Z (Z.length - 1) (by omega)
    rw [wv_drop_cons Z _ (by omega), hd', List.drop_eq_nil_of_le (by omega)] at h1
    simp only [wv, Nat.mul_zero, Nat.add_zero] at h1
    have h2 := wv_lt _ (Wd_take hZ (Z.length - 1))
    rw [List.length_take, Nat.min_eq_left (by omega), ← h1, hv, ← bv_dz] at h2
    have h3 : dz s.data.toList = nb (bv s.data.toList) := dz_eq _
    have h4 : 8 * (Z.length - 1) < (dz s.data.toList).length := by rw [← tz_size]; omega
    rw [h3] at h4
    have h5 := nb_length_lt _ _ h4
    rw [Nat.pow_mul, ← B64_pow256] at h5
    rw [bv_dz] at h2
    omega
def WQ (s : ByteArray) (w : World) (e : Ending) (w' : World) : Prop :=
  ∃ Z, Own w.heap.size w' w.heap.size 0 Z.length Z ∧ wv Z = bv s.data.toList ∧ Tr Z ∧ Below w.heap.size w w' ∧ Z.length = ((tz s).size + 7) / 8 ∧ e = .returned (.slice (some ⟨w.heap.size, 0, none⟩) Z.length Z.length)
set_option maxHeartbeats 1000000 in
theorem words_any (w : World) (s : ByteArray) (hs : s.size ≤ 1099511627776) : Calls Tryd.prog 23 #[.string s] w (WQ s w) := by
  have hts := tz_size_le s
  obtain ⟨t, ht⟩ : ∃ t, t = tz s := ⟨_, rfl⟩
  have htc := trimZeros_any s w
  rw [← ht] at htc hts
  have HT := Lib.hid ht; clear ht
  have HC := Lib.hid htc; clear htc
  obtain ⟨n, hn⟩ : ∃ n, n = (t.size + 7) / 8 := ⟨_, rfl⟩
  have hmk : ∀ u : World, (Instr.makeSlice 46 (.int .i64 (((t.size : Int) + 7) / 8)) (.int .i64 (((t.size : Int) + 7) / 8))).run Tryd.prog u =
    .ok (.slice (some ⟨u.heap.size, 0, none⟩) n n) (u.alloc (.cells (madeCells #[.int .u64 0] n) 56)) := fun u => by
      have := make_words n (by omega) u
      rw [hn] at this ⊢
      simpa using this
  have hA0 := At.made n 56 w
  have hB1 := (Below.refl w.heap.size w).alloc (Nat.le_refl _) (.cells (madeCells #[.int .u64 0] n) 56)
  have hz : (w.alloc (.cells (madeCells #[.int .u64 0] n) 56)).heap.size = w.heap.size + 1 := by simp
  have HN := Lib.hid hn; clear hn
  go_enter Tryd.func23, Tryd.ntmps23
  go_wp2_with (go_at_call 31; refine HC.out.mono ?_; rintro e w' ⟨rfl, rfl⟩)
  generalize w.alloc (.cells (madeCells #[.int .u64 0] n) 56) = w1 at *
  clear hmk HC
  have HZ := Lib.hid hz; clear hz
  go_loopw [15] (fun i wr => ∃ (k : Nat) (Z : List Nat), k ≤ t.size ∧ i = .int .i64 (k : Nat) ∧ At n w.heap.size 0 w1 Z wr ∧ Hid (wv Z = bv (t.data.toList.take k) * 256^(t.size - k))) (fun i _ => t.size - (intOf i).toNat)
  case atStart => exact ⟨0, _, Nat.zero_le _, rfl, hA0, by show _ = _; simp [wv_replicate, bv]⟩
  case round =>
    obtain ⟨k, Z, hk, rfl, hA, hv⟩ := hrel
    clear hA0
    by_cases hlt : k < t.size
    · obtain ⟨p, hp⟩ : ∃ p, p = t.size - 1 - k := ⟨_, rfl⟩
      have e : ((t.size : Int) - 1 - (k : Int)) = (p : Int) := by omega
      have hpn : p / 8 < n := by have := HN.out; omega
      have hx := hA.row.cell (p/8) (by rw [hA.len]; exact hpn)
      have hf := hA.row.free (p/8) (by rw [hA.len]; exact hpn)
      rw [Nat.zero_add] at hx hf
      have hpl : p < t.size := by omega
      have HP := Lib.hid hp; clear hp
      have hc := (t[k]'hlt).toNat_lt
      have hv2 : wv Z = bv (t.data.toList.take k) * 256^(p+1) := by have := hv.out; rw [this]; congr 2; have := HP.out; omega
      have HS := Lib.hid (words_store Z _ p _ hA.wd (by rw [hA.len]; exact hpn) hv2 hc)
      have HV := Lib.hid (words_step Z _ p _ hA.wd (by rw [hA.len]; exact hpn) hv2 hc)
      have HT2 := Lib.hid (take_bv t k hlt)
      clear hv2 hv hc
      go_wp2
      go_region
      go_wp2
      go_roundw
      case rel =>
        obtain ⟨_, v2, v3⟩ := HV.out
        have hA' := (hA.set (p/8) _ hpn v2).drew
        rw [Nat.zero_add] at hA'
        refine ⟨k + 1, _, hlt, by go_num, by rw [HS.out]; exact hA', ?_⟩
        show _ = _
        rw [v3, HT2.out]
        congr 2; have := HP.out; omega
      case measure => (simp [intOf]; try omega)
    · obtain rfl : k = t.size := by omega
      have hl : Z.length = n := hA.len
      have hv2 : wv Z = bv s.data.toList := by
        have := hv.out
        rw [Nat.sub_self, Nat.pow_zero, Nat.mul_one, List.take_of_length_le (by rw [len_size]; exact Nat.le_refl _)] at this
        rw [this, HT.out, tz_list, bv_dz]
      have HV := Lib.hid hv2; clear hv2 hv
      go_wp2
      go_ret
      have hz2 : w.heap.size < wr.heap.size := by have := hA.only.size; have := HZ.out; omega
      refine ⟨Z, ⟨Nat.le_refl _, hz2, hA.row, hA.wd, Nat.le_refl _⟩, HV.out, ?_, hB1.trans (hA.only.below (Nat.le_refl _) (by have := HZ.out; omega)), by rw [hl, HN.out, HT.out], by rw [hl]; rfl⟩
      exact words_Tr s Z hA.wd (by rw [hl, HN.out, HT.out]) HV.out
end Go.Proofs.YtkpkifhjedlieaaDoor
