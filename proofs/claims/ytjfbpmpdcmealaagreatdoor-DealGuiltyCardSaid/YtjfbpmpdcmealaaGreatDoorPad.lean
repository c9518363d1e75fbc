/-
  The walk of digest.padding.
-/
import Derived.Test.YtjfbpmpdcmealaaGreatDoorOwnT
import Derived.Test.YtjfbpmpdcmealaaGreatDoorShelf
import Derived.OwnWalk
import Derived.Laws.AppendOwn
namespace Go.Proofs.YtjfbpmpdcmealaaGreatDoor
open Go.RowKit SH
theorem repeatL_zero : ∀ z, Lib.repeatL [0] z = List.replicate z (0 : UInt8)
  | 0 => rfl
  | z+1 => by rw [Lib.repeatL, repeatL_zero z]; rfl
theorem len8_take (n j : Nat) (h : j < 8) : (len8 n).take (j+1) = (len8 n).take j ++ [UInt8.ofNat (n * 8 / 2^(56 - 8*j))] := by
  have hl : (len8 n).length = 8 := by simp [len8]
  rw [List.take_add_one, List.getElem?_eq_getElem (by omega)]
  simp [len8]
theorem len_byte (N s : Nat) : ((N : Int) / 2 ^ s % 256) = (((UInt8.ofNat (N / 2^s)).toNat : Nat) : Int) := by
  rw [show (UInt8.ofNat (N / 2^s)).toNat = N / 2^s % 256 from rfl]
  simp
set_option maxRecDepth 100000 in
set_option maxHeartbeats 2000000 in
theorem padding_any (w : World) (n : Nat) (hn : n ≤ 281474976710656) :
    Calls Tryz.prog 117 #[.int .i64 n] w fun e w' => ∃ P : ByteArray, P.data.toList = pad n ∧ e = .returned (.string P) ∧ Below w.heap.size w w' := by
  obtain ⟨m, hm⟩ : ∃ m, n % 64 = m := ⟨_, rfl⟩
  obtain ⟨z, hz⟩ : ∃ z, (119 - m) % 64 = z := ⟨_, rfl⟩
  have e1 : (n : Int).tmod 64 = (m : Int) := by rw [Int.tmod_eq_emod_of_nonneg (by omega)]; omega
  obtain ⟨y, hy⟩ : ∃ y, 119 - m = y := ⟨_, rfl⟩
  have e3 : wrap64 (119 - (m : Int)) = (y : Int) := by unfold wrap64; omega
  have e2 : (y : Int).tmod 64 = (z : Int) := by rw [Int.tmod_eq_emod_of_nonneg (by omega)]; omega
  have hz64 : z < 64 := by omega
  have hrep := fun W => Tryz.strings_Repeat ⟨#[0]⟩ z W (by omega) (by show 1 * z ≤ _; omega)
  obtain ⟨R, hR⟩ : ∃ R : ByteArray, R = ⟨(Lib.repeatL (ByteArray.mk #[0]).data.toList z).toArray⟩ := ⟨_, rfl⟩
  rw [← hR] at hrep
  have hRl : R.data.toList = List.replicate z 0 := by rw [hR]; exact repeatL_zero z
  have hRs : R.size = z := by rw [← size_toList, hRl, List.length_replicate]
  have hbig : (9223372036854775807 < 1 + R.size) = False := eq_false (by omega)
  have hzz : zeros n = z := by unfold zeros; rw [hm]; exact hz
  obtain ⟨S, hS⟩ : ∃ S : ByteArray, (ByteArray.mk #[128]) ++ R = S := ⟨_, rfl⟩
  have hSl : S.data.toList = 128 :: List.replicate z 0 := by rw [← hS, cat_toList, hRl]; rfl
  have hSs : S.size ≤ maxLen := by rw [← size_toList, hSl]; simp [maxLen]; omega
  have HZ := Lib.hid (And.intro hSl (And.intro hSs hzz))
  obtain ⟨N, hN⟩ : ∃ N, n * 8 = N := ⟨_, rfl⟩
  have n8 : (n : Int) * 8 = (N : Int) := by omega
  have n1 : (n : Int) % 18446744073709551616 = (n : Int) := by omega
  have n2 : (N : Int) % 18446744073709551616 = (N : Int) := by omega
  have HN := Lib.hid hN
  clear hm hz hy hRl hRs hR hzz hSl hSs hN hz64
  go_enter Tryz.func117, Tryz.ntmps117
  go_wp2_with fail
  go_must (go_fit (hrep _))
  rintro e w1 ⟨rfl, b1⟩
  obtain ⟨v, w2, hcv, hown, b2⟩ := conv_bytes w1 S HZ.out.2.1
  go_wp2_with fail
  have hb2 : Below w.heap.size w w2 := b1.trans (b2.mono b1.size)
  have hown2 := hown.mono b1.size
  have HC := Lib.hid (And.intro hb2 hown2); clear hcv hb2 hown2 hown b1 b2 hS hbig e1 e2 e3 n8
  go_loopw [4, 6] (fun b k wr => ∃ (j : Nat) (v : Value) (kk : Int), b = v ∧ j ≤ 8 ∧ kk = 56 - 8 * (j : Int) ∧ k = .int .i64 kk ∧ OwnT wr w.heap.size v (S.data.toList ++ (len8 n).take j) ∧ Hid (Below w.heap.size w wr)) (fun _ k _ => (intOf k + 8).toNat)
  case atStart => exact ⟨0, _, 56, rfl, by omega, rfl, rfl, by rw [List.take_zero, List.append_nil]; exact HC.out.2, Lib.hid HC.out.1⟩
  case round =>
    clear HC
    obtain ⟨j, v, kk, rfl, hj, hkk, rfl, hown, hb⟩ := hrel
    by_cases hlt : j < 8
    · obtain ⟨s, hs⟩ : ∃ s : Nat, 56 - 8 * j = s := ⟨_, rfl⟩
      obtain rfl : kk = (s : Int) := by omega
      have hs56 : s ≤ 56 := by omega
      have hown1 := hown.alloc (.cells #[.int .u8 ((N : Int) / 2 ^ s % 256)] 5)
      have hlen : (S.data.toList ++ (len8 n).take j).length + 1 ≤ 140737488355328 := by
        rw [HZ.out.1]; simp [len8]; have := HZ.out.2.2; unfold zeros at this; omega
      have hnew : (wr.alloc (.cells #[.int .u8 ((N : Int) / 2 ^ s % 256)] 5)).cell? ((⟨wr.heap.size, 0, none⟩ : Addr).add 0) = some (.int .u8 ((UInt8.ofNat (N / 2^s)).toNat : Nat)) := by
        rw [← len_byte]; simp [Addr.add]
      have hbase := hb.out.size
      have hst : S.data.toList ++ (len8 n).take (j+1) = (S.data.toList ++ (len8 n).take j) ++ [UInt8.ofNat (N / 2^s)] := by
        rw [len8_take n j hlt, HN.out, hs, List.append_assoc]
      have HH := Lib.hid (And.intro hs (And.intro hlt (And.intro hkk (And.intro hlen (And.intro hst hbase))))); clear hs hlt hkk hj hlen hst hown hbase
      go_wp2_with (at_builtin; refine wpList_append_byte rfl _ _ rfl rfl w.heap.size _ _ rfl hown1 ⟨wr.heap.size, 0, none⟩ 1 (UInt8.ofNat (N / 2^s)) rfl hnew HH.out.2.2.2.1 (by have := HH.out.2.2.2.2.2; simp; omega) ?_)
      intro v' w3 hown' hb3
      go_wp2
      refine ⟨⟨j + 1, v', (s : Int) - 8, rfl, by have := HH.out.2.1; omega, by have := HH.out.1; have := HH.out.2.1; omega, rfl, ?_, Lib.hid ((hb.out.alloc HH.out.2.2.2.2.2 _).trans hb3)⟩, by simp [intOf]; omega⟩
      rw [HH.out.2.2.2.2.1, List.append_assoc]; exact hown'
    · obtain rfl : j = 8 := by omega
      obtain rfl : kk = -8 := by omega
      have hcv := conv_back hown
      have hl : (len8 n).take 8 = len8 n := List.take_of_length_le (by simp [len8])
      have hp : S.data.toList ++ (len8 n).take 8 = pad n := by
        rw [hl, HZ.out.1]; unfold pad; rw [HZ.out.2.2]; rfl
      rw [hp] at hcv
      clear hp hl hown hkk hlt hj
      go_wp2
      go_ret
      exact ⟨⟨(pad n).toArray⟩, rfl, rfl, hb.out⟩
end Go.Proofs.YtjfbpmpdcmealaaGreatDoor
