/-
  The walk of the reference's padded.
-/
import Derived.Test.YtkniimhgipdbaaaDoorPad
namespace Go.Proofs.YtkniimhgipdbaaaDoor
open Go.RowKit SH
def sizeOfStr : Value → Nat | .string s => s.size | _ => 0
theorem one_byte (w : World) (x : UInt8) : (convert 27 9 (.slice (some ⟨w.heap.size, 0, none⟩) 1 1)).run Tryd.prog (w.alloc (.cells #[.int .u8 (x.toNat : Nat)] 5)) = .ok (.string ⟨#[x]⟩) (w.alloc (.cells #[.int .u8 (x.toNat : Nat)] 5)) := by
  exact run_convert_bytes_back (P := Tryd.prog) _ 27 9 5 ⟨w.heap.size, 0, none⟩ 1 [x] Tryd.underlying27 Tryd.underlying5 Tryd.underlying9 (fun j hj => by
    obtain rfl : j = 0 := by simp at hj; exact hj
    simp [Addr.add])
set_option maxRecDepth 100000 in
set_option maxHeartbeats 2000000 in
theorem refPadded_any (w : World) (S : ByteArray) (hn : S.size ≤ 1000000000) :
    Calls Tryd.prog 19 #[.string S] w fun e w' => ∃ P : ByteArray, P.data.toList = S.data.toList ++ pad S.size ∧ e = .returned (.string P) ∧ Below w.heap.size w w' := by
  obtain ⟨n, hnn⟩ : ∃ n, S.size = n := ⟨_, rfl⟩
  rw [hnn]
  obtain ⟨T0, hT0⟩ : ∃ T : ByteArray, S ++ ByteArray.mk #[128] = T := ⟨_, rfl⟩
  have hT0l : T0.data.toList = S.data.toList ++ [128] := by rw [← hT0, cat_toList]
  have hbig : (9223372036854775807 < S.size + 1) = False := eq_false (by omega)
  have hz64 : zeros n < 64 := Nat.mod_lt _ (by decide)
  have HS := Lib.hid (And.intro hT0l (And.intro hnn hz64)); clear hT0l
  rw [hnn] at hn
  clear hnn hz64
  go_enter Tryd.func19, Tryd.ntmps19
  go_wp2_with fail
  clear hT0 hbig
  go_loopw [3] (fun x wr => ∃ (j : Nat) (T : ByteArray), x = .string T ∧ j ≤ zeros n ∧ Hid (T.data.toList = S.data.toList ++ (128 :: List.replicate j 0)) ∧ Hid (Below w.heap.size w wr)) (fun x _ => n + 200 - sizeOfStr x)
  case atStart => exact ⟨0, T0, rfl, by omega, HS.out.1, Lib.hid (Below.refl _ _)⟩
  case round =>
    obtain ⟨j, T, rfl, hj, hT, hb0⟩ := hrel
    have hTs : T.size = n + 1 + j := by rw [← size_toList, hT.out, List.length_append, size_toList, HS.out.2.1]; simp; omega
    obtain ⟨m, hm⟩ : ∃ m, T.size % 64 = m := ⟨_, rfl⟩
    have y1 : (T.size : Int).tmod 64 = (m : Int) := by rw [Int.tmod_eq_emod_of_nonneg (by omega)]; omega
    by_cases h56 : m = 56
    · obtain rfl : j = zeros n := by have := HS.out.2.2; unfold zeros at *; omega
      have hb : ((m : Int) != 56) = false := by simp; omega
      obtain ⟨N, hN⟩ : ∃ N, n * 8 = N := ⟨_, rfl⟩
      have n0 : (S.size : Int) = (n : Int) := by rw [HS.out.2.1]
      have n8 : (n : Int) * 8 = (N : Int) := by omega
      have n1 : (n : Int) % 18446744073709551616 = (n : Int) := by omega
      have n2 : (N : Int) % 18446744073709551616 = (N : Int) := by omega
      have HN := Lib.hid hN
      have HM0 := Lib.hid (And.intro hTs (And.intro hm h56)); clear hTs hm h56 hN hj
      go_wp2
      clear y1 hb n8 n1 n2 n0
      go_loopw [3, 5] (fun x i wr => ∃ (j : Nat) (T : ByteArray) (kk : Int), x = .string T ∧ j ≤ 8 ∧ kk = 7 - (j : Int) ∧ i = .int .i64 kk ∧ Hid (T.data.toList = (S.data.toList ++ (128 :: List.replicate (zeros n) 0)) ++ (len8 n).take j) ∧ Hid (Below w.heap.size w wr)) (fun _ i _ => (intOf i + 1).toNat)
      case atStart => exact ⟨0, T, 7, rfl, by omega, by omega, rfl, Lib.hid (by rw [List.take_zero, List.append_nil]; exact hT.out), hb0⟩
      case round =>
        clear hT HM0 hb0
        obtain ⟨j, T, kk, rfl, hj, hkk, rfl, hT, hb⟩ := hrel
        by_cases hlt : j < 8
        · obtain ⟨s, hs⟩ : ∃ s : Nat, 56 - 8 * j = s := ⟨_, rfl⟩
          have hs8 : (8 : Int) * kk = (s : Int) := by omega
          have hs56 : s ≤ 56 := by omega
          have hkk0 : (0 : Int) ≤ kk := by omega
          have hkk7 : kk ≤ 7 := by omega
          have hby := len_byte N s
          obtain ⟨b, hbb⟩ : ∃ b, UInt8.ofNat (N / 2^s) = b := ⟨_, rfl⟩
          rw [hbb] at hby
          have hcv := one_byte wr b
          have hTs : T.size < 9223372036854775806 := by
            have h1 := HS.out.2.2
            rw [← size_toList, hT.out, List.length_append, List.length_append, size_toList, HS.out.2.1]
            simp [len8]; omega
          have hbig : (9223372036854775807 < T.size + 1) = False := eq_false (by omega)
          have hst : (T ++ ByteArray.mk #[b]).data.toList = (S.data.toList ++ (128 :: List.replicate (zeros n) 0)) ++ (len8 n).take (j+1) := by
            rw [cat_toList, hT.out, len8_take n j hlt, HN.out, hs, hbb, List.append_assoc]
          have HH := Lib.hid (And.intro hlt (And.intro hkk hst)); clear hlt hkk hst hTs hs hbb hj
          go_wp2
          exact ⟨⟨j + 1, T ++ ByteArray.mk #[b], kk - 1, rfl, HH.out.1, by have := HH.out.2.1; omega, rfl, Lib.hid HH.out.2.2, Lib.hid (hb.out.alloc hb.out.size _)⟩, by simp [intOf]; omega⟩
        · obtain rfl : j = 8 := by omega
          obtain rfl : kk = -1 := by omega
          have hl : (len8 n).take 8 = len8 n := List.take_of_length_le (by simp [len8])
          rw [hl] at hT
          clear hl hkk hlt hj
          go_wp2
          go_ret
          exact ⟨T, by rw [hT.out]; unfold pad; rw [List.append_assoc]; rfl, rfl, hb.out⟩
    · have hjz : j < zeros n := by have := HS.out.2.2; unfold zeros at *; omega
      have hb : ((m : Int) != 56) = true := by simp; omega
      have hbig : (9223372036854775807 < T.size + 1) = False := eq_false (by have := HS.out.2.2; omega)
      have hst : (T ++ ByteArray.mk #[0]).data.toList = S.data.toList ++ (128 :: List.replicate (j+1) 0) := by
        rw [cat_toList, hT.out, List.replicate_succ', List.append_assoc]; rfl
      have hsz : (T ++ ByteArray.mk #[0]).size = T.size + 1 := by rw [ByteArray.size_append]; rfl
      have HT := Lib.hid (And.intro hst (And.intro hsz (And.intro hTs hm))); clear hst hsz hTs hm h56
      go_wp2
      exact ⟨⟨j + 1, T ++ ByteArray.mk #[0], rfl, hjz, Lib.hid HT.out.1, hb0⟩, by have h1 := HT.out.2.1; have h2 := HT.out.2.2.1; have h3 := HS.out.2.2; show n + 200 - (T ++ ByteArray.mk #[0]).size < n + 200 - T.size; omega⟩
end Go.Proofs.YtkniimhgipdbaaaDoor
