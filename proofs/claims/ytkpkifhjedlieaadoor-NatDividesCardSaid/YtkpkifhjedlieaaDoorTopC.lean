/-
  The walks of nat.Right, and of the reference's Canon and Made.
-/
import Derived.Test.YtkpkifhjedlieaaDoorTopB
import Derived.Lib.IndexBytes
namespace Go.Proofs.YtkpkifhjedlieaaDoor
open Go.RowKit NM
/-- no zeros in front -/
def rgt (s : ByteArray) : Bool := s.data.toList.head? != some 0
theorem head_ne (l : List UInt8) (h : 0 < l.length) : (l.head? != some 0) = (((l[0]'h).toNat : Int) != 0) := by
  cases l with
  | nil => simp at h
  | cons x xs =>
    by_cases hx : x = 0
    · subst hx; rfl
    · have : x.toNat ≠ 0 := fun h2 => hx (UInt8.toNat_inj.1 (by simpa using h2))
      have h3 : ((x.toNat : Int) == 0) = false := beq_eq_false_iff_ne.2 (by omega)
      show (some x != some 0) = ((x.toNat : Int) != 0)
      rw [bne, bne, h3]; simp [hx]
theorem rgt_get {s : ByteArray} (h : 0 < s.size) : rgt s = (((s[0]'h).toNat : Int) != 0) := head_ne s.data.toList (by rw [len_size]; exact h)
theorem size_zero_list {s : ByteArray} (h : s.size = 0) : s.data.toList = [] := List.length_eq_zero_iff.1 (by rw [len_size]; exact h)
theorem size_pos_list {s : ByteArray} (h : 0 < s.size) : s.toList.isEmpty = false := by
  rw [ByteArray.toList_eq]
  have := len_size s
  cases hh : s.data.toList with
  | nil => rw [hh] at this; simp at this; omega
  | cons a b => rfl
set_option maxHeartbeats 400000 in
theorem Right_any (w : World) (a : ByteArray) :
    Calls Tryd.prog 15 #[.string a] w fun e w' => e = .returned (.bool (rgt a)) ∧ w = w' := by
  by_cases h0 : a.size = 0
  · have e0 : a.toList = [] := by rw [ByteArray.toList_eq]; exact size_zero_list h0
    have er : rgt a = true := by unfold rgt; rw [size_zero_list h0]; rfl
    have H0 := Lib.hid h0; have ER := Lib.hid er; clear h0 er
    go_enter Tryd.func15, Tryd.ntmps15
    go_wp2
    go_ret
    exact ⟨by rw [ER.out]; rfl, rfl⟩
  · have hp : 0 < a.size := by omega
    have e0 := size_pos_list hp
    have ER := Lib.hid (rgt_get hp)
    go_enter Tryd.func15, Tryd.ntmps15
    go_wp2
    go_ret
    exact ⟨by rw [ER.out]; rfl, rfl⟩
theorem byte_at (s : ByteArray) (k : Nat) (h : k < s.size) : s.data.toList[k]? = some (s[k]'h) := by
  rw [List.getElem?_eq_getElem (by rw [len_size]; exact h)]; rfl
theorem dz_drop (l : List UInt8) (k : Nat) (hz : ∀ j, j < k → l[j]? = some 0) (he : l.length = k ∨ (∃ x, l[k]? = some x ∧ x ≠ 0)) : l.drop k = dz l := by
  induction l generalizing k with
  | nil => simp [dz]
  | cons x xs ih =>
    cases k with
    | zero =>
      rcases he with he | ⟨y, hy, hy0⟩
      · simp at he
      · have : x = y := by simpa using hy
        subst this
        rw [dz, if_neg hy0]; rfl
    | succ k =>
      have hx : x = 0 := by have := hz 0 (by omega); simpa using this
      rw [dz, if_pos hx, List.drop_succ_cons]
      exact ih k (fun j hj => by have := hz (j+1) (by omega); simpa using this) (by simpa using he)
theorem extract_dz (s : ByteArray) (k : Nat) (hk : k ≤ s.size) (hz : ∀ j, j < k → s.data.toList[j]? = some 0) (he : s.size = k ∨ (∃ x, s.data.toList[k]? = some x ∧ x ≠ 0)) : s.extract k s.size = tz s := by
  have h1 := dz_drop s.data.toList k hz (by rw [len_size]; exact he)
  have h2 : (s.extract k s.size).data.toList = s.data.toList.drop k := by
    rw [Lib.extract_data]
    rw [List.take_of_length_le (by rw [List.length_drop, len_size]; omega)]
  rw [h1, ← tz_list] at h2
  cases hs : s.extract k s.size with
  | mk d => cases ht : tz s with
    | mk d' => rw [hs, ht] at h2; congr 1; exact Array.toList_inj.1 h2
set_option maxHeartbeats 400000 in
theorem Canon_any (w : World) (s : ByteArray) (hs : s.size ≤ 4294967296) :
    Calls Tryd.prog 11 #[.string s] w fun e w' => e = .returned (.string (tz s)) ∧ w = w' := by
  go_enter Tryd.func11, Tryd.ntmps11
  go_wp2
  go_loop [3] (fun i => ∃ k : Nat, k ≤ s.size ∧ i = .int .i64 (k : Nat) ∧ Hid (∀ j, j < k → s.data.toList[j]? = some 0)) (fun i => s.size - (intOf i).toNat)
  case atStart => exact ⟨0, Nat.zero_le _, rfl, fun j hj => by omega⟩
  case round =>
    obtain ⟨k, hk, rfl, hz⟩ := hrel
    by_cases hlt : k < s.size
    · have hd : decide ((k : Int) < (s.size : Int)) = true := by simp; omega
      have hb := byte_at s k hlt
      by_cases h0 : (s[k]'hlt) = 0
      · have hb0 : (((s[k]'hlt).toNat : Int) == 0) = true := by rw [h0]; rfl
        rw [h0] at hb
        have HB := Lib.hid hb; have H0 := Lib.hid h0; clear hb h0
        go_wp2
        go_round
        case rel => exact ⟨k + 1, hlt, by go_num, fun j hj => by
          by_cases e : j = k
          · rw [e]; exact HB.out
          · exact hz.out j (by omega)⟩
        case measure => (simp [intOf]; try omega)
      · have hb0 : (((s[k]'hlt).toNat : Int) == 0) = false := by
          have : (s[k]'hlt).toNat ≠ 0 := fun h2 => h0 (UInt8.toNat_inj.1 (by simpa using h2))
          simp; omega
        have hx := extract_dz s k hk hz.out (.inr ⟨_, hb, h0⟩)
        have HX := Lib.hid hx; have HB := Lib.hid hb; have H0 := Lib.hid h0
        clear hx hb h0
        go_wp2
        go_ret
        exact ⟨by rw [← HX.out]; rfl, rfl⟩
    · obtain rfl : k = s.size := by omega
      have hx := extract_dz s s.size hk hz.out (.inl rfl)
      have hE : tz s = ByteArray.empty := by rw [← hx]; simp
      have HX := Lib.hid hE; clear hx hE
      go_wp2
      go_ret
      exact ⟨by rw [HX.out]; rfl, rfl⟩
def MadeQ (w : World) (e : Ending) (w' : World) : Prop := ∃ s : ByteArray, s.size ≤ 40 ∧ e = .returned (.string s) ∧ w = w'
set_option maxHeartbeats 400000 in
theorem Made_any (w : World) (b off len cap : Nat) (xs : List Int) (hlen : len ≤ xs.length) (hc : len ≤ cap) (hm : len ≤ 9223372036854775807) (hcell : ∀ i, i < xs.length → w.cell? ⟨b, off + i, none⟩ = some (.int .u8 (xs.getD i 0))) :
    Calls Tryd.prog 7 #[.slice (some ⟨b, off, none⟩) len cap] w (MadeQ w) := by
  obtain ⟨m, hmm⟩ : ∃ m, m = min len 40 := ⟨_, rfl⟩
  have e0 : min (len : Int) 40 = (m : Int) := by omega
  have hm1 : m ≤ len := by omega
  have hm2 : m ≤ 40 := by omega
  have hcv := run_convert_bytes_arg (P := Tryd.prog) w 22 5 Tryd.underlying22 Tryd.underlying5 b off m cap (xs.take m) (by rw [List.length_take]; omega)
    (fun i hi => by
      rw [hcell i (by omega)]
      congr 2
      rw [List.getD_eq_getElem?_getD, List.getD_eq_getElem?_getD, List.getElem?_take_of_lt hi]) 24 Tryd.underlying24
  obtain ⟨s, hs⟩ : ∃ s, s = strOfNums (xs.take m) := ⟨_, rfl⟩
  have hsz : s.size ≤ 40 := by rw [hs, strOfNums_size, List.length_take]; omega
  rw [← hs] at hcv
  have HM := Lib.hid hmm; have HS := Lib.hid hs; clear hmm hs
  have HX := Lib.hid hcell; clear hcell
  go_enter Tryd.func7, Tryd.ntmps7
  go_wp2
  go_ret
  exact ⟨s, hsz, rfl, rfl⟩
set_option maxHeartbeats 400000 in
theorem Made_nil (w : World) : Calls Tryd.prog 7 #[.slice none 0 0] w (MadeQ w) := by
  have hcv := run_convert_bytes_nil (P := Tryd.prog) w 22 5 Tryd.underlying22 Tryd.underlying5 0 0 24 Tryd.underlying24
  have e0 : min (0 : Int) 40 = 0 := by decide
  go_enter Tryd.func7, Tryd.ntmps7
  set_option maxRecDepth 100000 in
  go_wp2
  go_ret
  exact ⟨_, by decide, rfl, rfl⟩
end Go.Proofs.YtkpkifhjedlieaaDoor
