/-
  The walk of the reference's Text of a hash.
-/
import Derived.Test.YtmanflkiffgphaaDoorTextD
namespace Go.Proofs.YtmanflkiffgphaaDoor
open Go.RowKit SH
theorem slice_dig (W : World) (m : Nat) (h : m < 16) : (Instr.sliceAt 9 (.string ⟨#[48, 49, 50, 51, 52, 53, 54, 55, 56, 57, 97, 98, 99, 100, 101, 102]⟩) (some (.int .u8 (m : Nat))) (some (.int .u8 ((m + 1 : Nat) : Nat))) none).run Tryd.prog W = .ok (.string ⟨#[digs.getD m 0]⟩) W := by
  match m, h with
  | 0, _ => (show Sem.run _ _ _ = _); kernel_rfl
  | 1, _ => (show Sem.run _ _ _ = _); kernel_rfl
  | 2, _ => (show Sem.run _ _ _ = _); kernel_rfl
  | 3, _ => (show Sem.run _ _ _ = _); kernel_rfl
  | 4, _ => (show Sem.run _ _ _ = _); kernel_rfl
  | 5, _ => (show Sem.run _ _ _ = _); kernel_rfl
  | 6, _ => (show Sem.run _ _ _ = _); kernel_rfl
  | 7, _ => (show Sem.run _ _ _ = _); kernel_rfl
  | 8, _ => (show Sem.run _ _ _ = _); kernel_rfl
  | 9, _ => (show Sem.run _ _ _ = _); kernel_rfl
  | 10, _ => (show Sem.run _ _ _ = _); kernel_rfl
  | 11, _ => (show Sem.run _ _ _ = _); kernel_rfl
  | 12, _ => (show Sem.run _ _ _ = _); kernel_rfl
  | 13, _ => (show Sem.run _ _ _ = _); kernel_rfl
  | 14, _ => (show Sem.run _ _ _ = _); kernel_rfl
  | 15, _ => (show Sem.run _ _ _ = _); kernel_rfl
  | n+16, h => exact absurd h (by omega)
set_option maxRecDepth 100000 in
set_option maxHeartbeats 2000000 in
theorem refText_any (w : World) (l : List UInt8) (hl : l.length = 32) :
    Calls Tryd.prog 19 #[hval l] w fun e w' => ∃ T : ByteArray, T.data.toList = hex l ∧ e = .returned (.string T) ∧ Below w.heap.size w w' := by
  have h0 : HM (w.alloc (.cells (hcells l) 24)) w.heap.size l := heap_alloc_new _ _
  have hb : Below w.heap.size w (w.alloc (.cells (hcells l) 24)) := (Below.refl _ w).alloc (Nat.le_refl _) _
  go_enter Tryd.func19, Tryd.ntmps19
  go_wp2_with fail
  have HS := Lib.hid hl; clear hl
  have HB := Lib.hid hb; clear hb
  have HH0 := Lib.hid h0; clear h0
  generalize w.alloc (.cells (hcells l) 24) = W at *
  go_loopw [3, 4] (fun b i wr => ∃ (k : Nat) (T : ByteArray) (kk : Int), b = .string T ∧ k ≤ 32 ∧ kk = (k : Nat) ∧ i = .int .i64 kk ∧ Hid (T.data.toList = hex (l.take k)) ∧ HM wr w.heap.size l ∧ Hid (Below w.heap.size w wr)) (fun _ i _ => 32 - (intOf i).toNat)
  case atStart => exact ⟨0, ⟨#[]⟩, 0, rfl, by omega, rfl, rfl, Lib.hid rfl, HH0.out, HB⟩
  case round =>
    clear HB HH0
    obtain ⟨k, T, kk, rfl, hk, hkk, rfl, hT, hH, hb⟩ := hrel
    by_cases hlt : k < 32
    · subst hkk
      have hc := hH.cell k (by rw [HS.out]; exact hlt)
      have hg := gb_lt l k
      obtain ⟨x, hx⟩ : ∃ x, gb l k = x := ⟨_, rfl⟩
      rw [hx] at hc hg
      obtain ⟨hi4, e1⟩ : ∃ d, x / 16 = d := ⟨_, rfl⟩
      obtain ⟨lo4, e2⟩ : ∃ d, x % 16 = d := ⟨_, rfl⟩
      obtain ⟨hi5, e3⟩ : ∃ d, hi4 + 1 = d := ⟨_, rfl⟩
      obtain ⟨lo5, e4⟩ : ∃ d, lo4 + 1 = d := ⟨_, rfl⟩
      have y1 : (x : Int).tdiv 16 = (hi4 : Int) := by rw [Int.tdiv_eq_ediv_of_nonneg (by omega)]; omega
      have y2 : (x : Int).tmod 16 = (lo4 : Int) := by rw [Int.tmod_eq_emod_of_nonneg (by omega)]; omega
      have y3 : (x : Int) / 16 = (hi4 : Int) := by omega
      have y4 : (x : Int) % 16 = (lo4 : Int) := by omega
      have y5 : (hi4 : Int) + 1 = (hi5 : Int) := by omega
      have y6 : (lo4 : Int) + 1 = (lo5 : Int) := by omega
      have v1 : IntKind.u8.wrap (hi4 : Int) = (hi4 : Int) := by rw [IntKind.wrap_u8']; omega
      have v2 : IntKind.u8.wrap (lo4 : Int) = (lo4 : Int) := by rw [IntKind.wrap_u8']; omega
      have v3 : IntKind.u8.wrap (hi5 : Int) = (hi5 : Int) := by rw [IntKind.wrap_u8']; omega
      have v4 : IntKind.u8.wrap (lo5 : Int) = (lo5 : Int) := by rw [IntKind.wrap_u8']; omega
      have i1 := fun W => slice_dig W hi4 (by omega)
      have i2 := fun W => slice_dig W lo4 (by omega)
      rw [e3] at i1
      rw [e4] at i2
      obtain ⟨da, hda⟩ : ∃ d, digs.getD hi4 0 = d := ⟨_, rfl⟩
      obtain ⟨db, hdb⟩ : ∃ d, digs.getD lo4 0 = d := ⟨_, rfl⟩
      rw [hda] at i1
      rw [hdb] at i2
      have hh : hex (l.take (k+1)) = hex (l.take k) ++ [da, db] := by
        have hl := HS.out
        rw [List.take_add_one, List.getElem?_eq_getElem (by omega), Option.toList_some, hex_append]
        congr 1
        have : (l[k]'(by omega)).toNat = x := by rw [← hx]; unfold gb; rw [List.getD_eq_getElem?_getD, List.getElem?_eq_getElem (by omega)]; rfl
        simp only [hex, this, e1, e2, hda, hdb]
      have hTs : T.size ≤ 64 := by rw [← size_toList, hT.out, hex_length, List.length_take, HS.out]; omega
      have b1 : (9223372036854775807 < T.size + 1) = False := eq_false (by omega)
      have hst : ((T ++ ByteArray.mk #[da]) ++ ByteArray.mk #[db]).data.toList = hex (l.take (k+1)) := by
        rw [cat_toList, cat_toList, hT.out, hh, List.append_assoc]; rfl
      have hTs2 : (T ++ ByteArray.mk #[da]).size = T.size + 1 := by rw [ByteArray.size_append]; rfl
      have b2 : (9223372036854775807 < T.size + 1 + 1) = False := eq_false (by omega)
      have HX := Lib.hid (And.intro hst (And.intro hlt (And.intro hTs hTs2))); clear hst hTs hh hx e1 e2 e3 e4 hda hdb hg hk hTs2
      go_wp2
      go_big_quiet (fail)
      go_wp2
      refine ⟨⟨k + 1, _, _, rfl, HX.out.2.1, by simp, rfl, Lib.hid HX.out.1, hH, Lib.hid (hb.out.trans ⟨rfl, rfl, rfl, Nat.le_refl _, fun _ _ => rfl⟩)⟩, by have := HX.out.2.1; simp [intOf]; omega⟩
    · obtain rfl : k = 32 := by omega
      obtain rfl : kk = 32 := by omega
      have hl : l.take 32 = l := List.take_of_length_le (by rw [HS.out]; exact Nat.le_refl _)
      rw [hl] at hT
      clear hkk hlt hk hl
      go_wp2
      go_ret
      exact ⟨T, hT.out, rfl, hb.out⟩
end Go.Proofs.YtmanflkiffgphaaDoor
