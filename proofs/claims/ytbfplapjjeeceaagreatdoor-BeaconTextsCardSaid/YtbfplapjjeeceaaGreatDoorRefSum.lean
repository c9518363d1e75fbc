/-
  The walk of the reference's padded.
  The walk of the reference's rounds: the words of the rounds as an array.
  The walk of the reference's block: the state after a block.
  The walk of the reference's Sum.
-/
import Derived.Test.YtbfplapjjeeceaaGreatDoorSumD
import Derived.Test.YtbfplapjjeeceaaGreatDoorSched
import Derived.Test.YtbfplapjjeeceaaGreatDoorNext
import Derived.StillTailTactics
import Derived.Deep.RegionHeld3
namespace Go.Proofs.YtbfplapjjeeceaaGreatDoor
open Go.RowKit SH
def sizeOfStr : Value → Nat | .string s => s.size | _ => 0
theorem one_byte (w : World) (x : UInt8) : (convert 33 9 (.slice (some ⟨w.heap.size, 0, none⟩) 1 1)).run Tryz.prog (w.alloc (.cells #[.int .u8 (x.toNat : Nat)] 5)) = .ok (.string ⟨#[x]⟩) (w.alloc (.cells #[.int .u8 (x.toNat : Nat)] 5)) := by
  exact run_convert_bytes_back (P := Tryz.prog) _ 33 9 5 ⟨w.heap.size, 0, none⟩ 1 [x] Tryz.underlying33 Tryz.underlying5 Tryz.underlying9 (fun j hj => by
    obtain rfl : j = 0 := by simp at hj; exact hj
    simp [Addr.add])
set_option maxRecDepth 100000 in
set_option maxHeartbeats 2000000 in
theorem refPadded_any (w : World) (S : ByteArray) (hn : S.size ≤ 200000000000000) :
    Calls Tryz.prog 107 #[.string S] w fun e w' => ∃ P : ByteArray, P.data.toList = S.data.toList ++ pad S.size ∧ e = .returned (.string P) ∧ Below w.heap.size w w' := by
  obtain ⟨n, hnn⟩ : ∃ n, S.size = n := ⟨_, rfl⟩
  rw [hnn]
  obtain ⟨T0, hT0⟩ : ∃ T : ByteArray, S ++ ByteArray.mk #[128] = T := ⟨_, rfl⟩
  have hT0l : T0.data.toList = S.data.toList ++ [128] := by rw [← hT0, cat_toList]
  have hbig : (9223372036854775807 < S.size + 1) = False := eq_false (by omega)
  have hz64 : zeros n < 64 := Nat.mod_lt _ (by decide)
  have HS := Lib.hid (And.intro hT0l (And.intro hnn hz64)); clear hT0l
  rw [hnn] at hn
  clear hnn hz64
  go_enter Tryz.func107, Tryz.ntmps107
  go_wp2_with fail
  clear hT0 hbig
  go_loopw [3] (fun x wr => ∃ (j : Nat) (T : ByteArray), x = .string T ∧ j ≤ zeros n ∧ Hid (T.data.toList = S.data.toList ++ (128 :: List.replicate j 0)) ∧ Hid (Below w.heap.size w wr)) (fun x _ => n + 200 - sizeOfStr x)
  case atStart => exact ⟨0, T0, rfl, by omega, HS.out.1, Lib.hid (Below.refl _ _)⟩
  case round =>
    obtain ⟨j, T, rfl, hj, hT, hb0⟩ := hrel
    have hTs : T.size = n + 1 + j := by rw [← size_toList, hT.out, List.length_append, size_toList, HS.out.2.1]; simp; omega
    obtain ⟨m, hm⟩ : ∃ m, T.size % 64 = m := ⟨_, rfl⟩
    have y1 : (T.size : Int).tmod 64 = (m : Int) := by rw [Int.tmod_eq_emod_of_nonneg (by omega)]; omega
    by_cases h56 : m = 56
    · obtain rfl : j = zeros n := by have := HS.out.2.2; unfold zeros at *; omega
      have hb : ((m : Int) != 56) = false := by simp; omega
      obtain ⟨N, hN⟩ : ∃ N, n * 8 = N := ⟨_, rfl⟩
      have n0 : (S.size : Int) = (n : Int) := by rw [HS.out.2.1]
      have n8 : (n : Int) * 8 = (N : Int) := by omega
      have n1 : (n : Int) % 18446744073709551616 = (n : Int) := by omega
      have n2 : (N : Int) % 18446744073709551616 = (N : Int) := by omega
      have HN := Lib.hid hN
      have HM0 := Lib.hid (And.intro hTs (And.intro hm h56)); clear hTs hm h56 hN hj
      go_wp2
      clear y1 hb n8 n1 n2 n0
      go_loopw [3, 5] (fun x i wr => ∃ (j : Nat) (T : ByteArray) (kk : Int), x = .string T ∧ j ≤ 8 ∧ kk = 7 - (j : Int) ∧ i = .int .i64 kk ∧ Hid (T.data.toList = (S.data.toList ++ (128 :: List.replicate (zeros n) 0)) ++ (len8 n).take j) ∧ Hid (Below w.heap.size w wr)) (fun _ i _ => (intOf i + 1).toNat)
      case atStart => exact ⟨0, T, 7, rfl, by omega, by omega, rfl, Lib.hid (by rw [List.take_zero, List.append_nil]; exact hT.out), hb0⟩
      case round =>
        clear hT HM0 hb0
        obtain ⟨j, T, kk, rfl, hj, hkk, rfl, hT, hb⟩ := hrel
        by_cases hlt : j < 8
        · obtain ⟨s, hs⟩ : ∃ s : Nat, 56 - 8 * j = s := ⟨_, rfl⟩
          have hs8 : (8 : Int) * kk = (s : Int) := by omega
          have hs56 : s ≤ 56 := by omega
          have hkk0 : (0 : Int) ≤ kk := by omega
          have hkk7 : kk ≤ 7 := by omega
          have hby := len_byte N s
          obtain ⟨b, hbb⟩ : ∃ b, UInt8.ofNat (N / 2^s) = b := ⟨_, rfl⟩
          rw [hbb] at hby
          have hcv := one_byte wr b
          have hTs : T.size < 9223372036854775806 := by
            have h1 := HS.out.2.2
            rw [← size_toList, hT.out, List.length_append, List.length_append, size_toList, HS.out.2.1]
            simp [len8]; omega
          have hbig : (9223372036854775807 < T.size + 1) = False := eq_false (by omega)
          have hst : (T ++ ByteArray.mk #[b]).data.toList = (S.data.toList ++ (128 :: List.replicate (zeros n) 0)) ++ (len8 n).take (j+1) := by
            rw [cat_toList, hT.out, len8_take n j hlt, HN.out, hs, hbb, List.append_assoc]
          have HH := Lib.hid (And.intro hlt (And.intro hkk hst)); clear hlt hkk hst hTs hs hbb hj
          go_wp2
          exact ⟨⟨j + 1, T ++ ByteArray.mk #[b], kk - 1, rfl, HH.out.1, by have := HH.out.2.1; omega, rfl, Lib.hid HH.out.2.2, Lib.hid (hb.out.alloc hb.out.size _)⟩, by simp [intOf]; omega⟩
        · obtain rfl : j = 8 := by omega
          obtain rfl : kk = -1 := by omega
          have hl : (len8 n).take 8 = len8 n := List.take_of_length_le (by simp [len8])
          rw [hl] at hT
          clear hl hkk hlt hj
          go_wp2
          go_ret
          exact ⟨T, by rw [hT.out]; unfold pad; rw [List.append_assoc]; rfl, rfl, hb.out⟩
    · have hjz : j < zeros n := by have := HS.out.2.2; unfold zeros at *; omega
      have hb : ((m : Int) != 56) = true := by simp; omega
      have hbig : (9223372036854775807 < T.size + 1) = False := eq_false (by have := HS.out.2.2; omega)
      have hst : (T ++ ByteArray.mk #[0]).data.toList = S.data.toList ++ (128 :: List.replicate (j+1) 0) := by
        rw [cat_toList, hT.out, List.replicate_succ', List.append_assoc]; rfl
      have hsz : (T ++ ByteArray.mk #[0]).size = T.size + 1 := by rw [ByteArray.size_append]; rfl
      have HT := Lib.hid (And.intro hst (And.intro hsz (And.intro hTs hm))); clear hst hsz hTs hm h56
      go_wp2
      exact ⟨⟨j + 1, T ++ ByteArray.mk #[0], rfl, hjz, Lib.hid HT.out.1, hb0⟩, by have h1 := HT.out.2.1; have h2 := HT.out.2.2.1; have h3 := HS.out.2.2; show n + 200 - (T ++ ByteArray.mk #[0]).size < n + 200 - T.size; omega⟩
end Go.Proofs.YtbfplapjjeeceaaGreatDoor
namespace Go.Proofs.YtbfplapjjeeceaaGreatDoor
open Go.RowKit SH
set_option maxRecDepth 100000 in
set_option maxHeartbeats 1000000 in
theorem refRounds_any (w : World) :
    Calls Tryz.prog 137 #[] w fun e w' => e = .returned (.agg (cw cube)) ∧ Below w.heap.size w w' := by
  have hn : Has (w.alloc (.cells (Array.replicate 64 (.int .u32 0)) 160)) w.heap.size 160 (List.replicate 64 0) := by
    unfold Has; rw [heap_alloc_new, zeros_cw]
  have hi : Hid ((Tryz.prog.info? 160).map (·.size) = some (cw cube).size) := Lib.hid (by kernel_rfl)
  have hsz : Hid ((cw (List.replicate 64 0)).size = (cw cube).size) := Lib.hid (by kernel_rfl)
  go_enter Tryz.func137, Tryz.ntmps137
  go_wp2_with (first | (refine wpList_build rfl 160 _ rfl (by kernel_rfl) ?_; change wpList _ _ _ _ (Act.put _ _ (.agg (cw cube))) _) | (refine wpList_store_row rfl 160 (.tmp 0) (.tmp 1) rfl w.heap.size (cw cube) rfl rfl 160 _ hn hi.out hsz.out (cw_one _) ?_))
  refine bodyPost_ret (results_cell_row rfl _ _ w.heap.size _ (cw cube) _ _ rfl (setRow_heap _ _ _ _ _ _ hn) Tryz.underlying160 rfl hi.out) rfl ?_
  exact ⟨rfl, Below.setRow' ((Below.refl _ w).alloc (Nat.le_refl _) _) (Nat.le_refl _) _⟩
end Go.Proofs.YtbfplapjjeeceaaGreatDoor
namespace Go.Proofs.YtbfplapjjeeceaaGreatDoor
open Go.RowKit SH
theorem SW.step0 {l : List UInt8} {i : Nat} {X : List Nat} (h : SW l i X) (h2 : i < 16) : SW l (i+1) (X.set i (word l i)) := by
  refine ⟨by rw [List.length_set]; exact h.1, fun j hj => ?_⟩
  rw [gw_set X _ _ j (by rw [h.1]; omega)]
  split
  · rename_i e; subst e
    rw [gw_sch_le l (n := j+1) (by omega) (by omega), gw_sch_new, if_pos h2]
  · exact h.2 j (by omega)
theorem join4 (l : List UInt8) (k : Nat) : bits .or .u32 (bits .or .u32 (bits .or .u32 ((gb l (4*k) : Int) % 4294967296 * 16777216 % 4294967296) ((gb l (4*k+1) : Int) % 4294967296 * 65536 % 4294967296)) ((gb l (4*k+2) : Int) % 4294967296 * 256 % 4294967296)) ((gb l (4*k+3) : Int) % 4294967296) = ((word l k : Nat) : Int) := by
  have b0 := gb_lt l (4*k)
  have b1 := gb_lt l (4*k+1)
  have b2 := gb_lt l (4*k+2)
  have b3 := gb_lt l (4*k+3)
  have e0 : (gb l (4*k) : Int) % 4294967296 * 16777216 % 4294967296 = ((gb l (4*k) * 16777216 % M : Nat) : Int) := by unfold M; omega
  have e1 : (gb l (4*k+1) : Int) % 4294967296 * 65536 % 4294967296 = ((gb l (4*k+1) * 65536 % M : Nat) : Int) := by unfold M; omega
  have e2 : (gb l (4*k+2) : Int) % 4294967296 * 256 % 4294967296 = ((gb l (4*k+2) * 256 % M : Nat) : Int) := by unfold M; omega
  have e3 : (gb l (4*k+3) : Int) % 4294967296 = ((gb l (4*k+3) : Nat) : Int) := by omega
  have m1 : ∀ x : Nat, x % M < 4294967296 := fun x => Nat.mod_lt _ (by decide)
  rw [e0, e1, e2, e3, u32_or_nat _ _ (m1 _) (m1 _), u32_or_nat _ _ (Nat.or_lt_two_pow (n := 32) (m1 _) (m1 _)) (m1 _), u32_or_nat _ _ (Nat.or_lt_two_pow (n := 32) (Nat.or_lt_two_pow (n := 32) (m1 _) (m1 _)) (m1 _)) (by omega), join_word _ _ _ _ b0 b1 b2 b3]
  rfl
theorem join4w (l : List UInt8) (k m0 m1 m2 m3 : Nat) (e0 : 4 * k = m0) (e1 : 4 * k + 1 = m1) (e2 : 4 * k + 2 = m2) (e3 : 4 * k + 3 = m3) :
    bits .or .u32 (bits .or .u32 (bits .or .u32 (IntKind.u32.wrap (IntKind.u32.wrap (gb l m0 : Int) * 16777216)) (IntKind.u32.wrap (IntKind.u32.wrap (gb l m1 : Int) * 65536))) (IntKind.u32.wrap (IntKind.u32.wrap (gb l m2 : Int) * 256))) (IntKind.u32.wrap (gb l m3 : Int)) = ((word l k : Nat) : Int) := by
  subst e0 e1 e2 e3
  simp only [IntKind.wrap_u32']
  exact join4 l k
theorem index_gb (W : World) (B : ByteArray) (m : Nat) (h : m < B.size) : (Instr.index 9 (.string B) (.int .i64 (m : Int))).run Tryz.prog W = .ok (.int .u8 (gb B.data.toList m : Nat)) W := by
  rw [run_index_string _ _ _ _ _ Tryz.underlying9]
  have h1 : (0 : Int) ≤ (m : Int) := by omega
  have h2 : (m : Int) < (B.size : Int) := by omega
  simp [h1, h2, ← byte_gb B m h]
theorem Has.st {w : World} {b : Nat} {T : TypeId} {t : St} (h : Has w b T t.l) :
    w.cell? ⟨b, 0, none⟩ = some (.int .u32 (t.a : Nat)) ∧ w.cell? ⟨b, 1, none⟩ = some (.int .u32 (t.b : Nat)) ∧ w.cell? ⟨b, 2, none⟩ = some (.int .u32 (t.c : Nat)) ∧ w.cell? ⟨b, 3, none⟩ = some (.int .u32 (t.d : Nat)) ∧
    w.cell? ⟨b, 4, none⟩ = some (.int .u32 (t.e : Nat)) ∧ w.cell? ⟨b, 5, none⟩ = some (.int .u32 (t.f : Nat)) ∧ w.cell? ⟨b, 6, none⟩ = some (.int .u32 (t.g : Nat)) ∧ w.cell? ⟨b, 7, none⟩ = some (.int .u32 (t.h : Nat)) :=
  ⟨h.cell 0 (by simp [St.l]), h.cell 1 (by simp [St.l]), h.cell 2 (by simp [St.l]), h.cell 3 (by simp [St.l]), h.cell 4 (by simp [St.l]), h.cell 5 (by simp [St.l]), h.cell 6 (by simp [St.l]), h.cell 7 (by simp [St.l])⟩
theorem refRot_q (w : World) (x : Nat) (n : Nat) (i : Int) (hi : i = (n : Nat)) (hx : x < M) (h1 : 1 ≤ n) (h2 : n ≤ 31) :
    ∀ a, Calls Tryz.prog 138 #[.int .u32 (x : Nat), .int .i64 i] (w.drewN a) fun e w'' => e = .returned (wd (rr x n)) ∧ ∃ m, w'' = w.drewN m :=
  fun a => (refRot_any (w.drewN a) x n i hi hx h1 h2).mono fun _ _ ⟨he, hm⟩ => ⟨he, a + 1, by rw [hm]; rfl⟩
theorem SW.start (l : List UInt8) : SW l 0 (List.replicate 64 0) := ⟨by simp, fun j hj => by omega⟩
set_option maxRecDepth 100000 in
set_option maxHeartbeats 2000000 in
theorem refBlock_any (w : World) (s : St) (hs : s.Ok) (B : ByteArray) (hB : B.size = 64) :
    Calls Tryz.prog 108 #[sv8 s, .string B] w fun e w' => e = .returned (sv8 (block s B.data.toList)) ∧ Below w.heap.size w w' := by
  have hsc := fun W => refRounds_any W
  obtain ⟨Y, hY⟩ : ∃ Y, cube = Y := ⟨_, rfl⟩
  rw [hY] at hsc
  have hYl : Y.length = 64 := by rw [← hY]; rfl
  have hi : Hid ((Tryz.prog.info? 160).map (·.size) = some (cw Y).size) := Lib.hid (by rw [cw_size, hYl]; kernel_rfl)
  have hi8 : Hid ((Tryz.prog.info? 133).map (·.size) = some 8) := Lib.hid (by kernel_rfl)
  go_enter Tryz.func108, Tryz.ntmps108
  go_wp2_with fail
  refine (hsc _).mono ?_
  rintro e w1 ⟨rfl, b1⟩
  have n1 : w.heap.size + 2 ≤ w1.heap.size := by have := b1.size; simpa using this
  have h0 : Has w1 w.heap.size 133 s.l := (b1.block _ (by simp; omega)).trans (heap_alloc2_old _ _ _)
  have h1 : Has w1 (w.heap.size + 1) 133 (List.replicate 8 0) := (b1.block _ (by simp)).trans (heap_alloc2_new _ _ _)
  have hb : Below w.heap.size w w1 := (((Below.refl w.heap.size w).alloc (Nat.le_refl _) _).alloc (by simp) _).trans (b1.mono (by simp; omega))
  clear b1
  have hn : Has (w1.alloc (.cells (Array.replicate 64 (.int .u32 0)) 160)) w1.heap.size 160 (List.replicate 64 0) := by
    unfold Has; rw [heap_alloc_new, zeros_cw]
  have h0a := h0.alloc (.cells (Array.replicate 64 (.int .u32 0)) 160)
  have h1a := h1.alloc (.cells (Array.replicate 64 (.int .u32 0)) 160)
  have hba := hb.alloc (by omega) (.cells (Array.replicate 64 (.int .u32 0)) 160)
  have hsz : Hid ((cw (List.replicate 64 0)).size = (cw Y).size) := Lib.hid (by rw [cw_size, cw_size, hYl, List.length_replicate])
  clear hsc h0 h1 hb
  have HYY := Lib.hid (And.intro hY hYl); clear hY hYl
  have A1 : Has ((w1.alloc (.cells (Array.replicate 64 (.int .u32 0)) 160)).setRow w1.heap.size (cw Y)) w1.heap.size 160 Y := setRow_heap _ _ _ _ _ _ hn
  have A2 : Has ((w1.alloc (.cells (Array.replicate 64 (.int .u32 0)) 160)).setRow w1.heap.size (cw Y)) w.heap.size 133 s.l := (setRow_other _ _ _ _ (by omega)).trans h0a
  have A3 : Has ((w1.alloc (.cells (Array.replicate 64 (.int .u32 0)) 160)).setRow w1.heap.size (cw Y)) (w.heap.size + 1) 133 (List.replicate 8 0) := (setRow_other _ _ _ _ (by omega)).trans h1a
  have A4 : Below w.heap.size w ((w1.alloc (.cells (Array.replicate 64 (.int .u32 0)) 160)).setRow w1.heap.size (cw Y)) := Below.setRow' hba (by omega) _
  have A5 : ((w1.alloc (.cells (Array.replicate 64 (.int .u32 0)) 160)).setRow w1.heap.size (cw Y)).heap.size = w1.heap.size + 1 := by simp
  have HA := Lib.hid (And.intro A1 (And.intro A2 (And.intro A3 (And.intro A4 A5)))); clear A1 A2 A3 A4 A5 h0a h1a hba
  go_wp2_with (refine wpList_store_row rfl 160 (.tmp 5) (.tmp 17) rfl w1.heap.size (cw Y) rfl rfl 160 _ hn hi.out hsz.out (cw_one _) ?_)
  clear hn hsz
  obtain ⟨A1, A2, A3, A4, A5⟩ := HA.out
  clear HA
  go_loopw [7] (fun i wr => ∃ (k : Nat) (kk : Int) (X : List Nat), k ≤ 64 ∧ kk = (k : Nat) ∧ i = .int .i64 kk ∧ SW B.data.toList k X ∧ Has wr (w1.heap.size + 1) 160 X ∧ Hid (Has wr w1.heap.size 160 Y ∧ Has wr w.heap.size 133 s.l ∧ Has wr (w.heap.size + 1) 133 (List.replicate 8 0) ∧ Below w.heap.size w wr)) (fun i _ => 64 - (intOf i).toNat)
  case atStart =>
    refine ⟨0, 0, List.replicate 64 0, by omega, rfl, rfl, SW.start _, ?_, Lib.hid ⟨A1.alloc _, A2.alloc _, A3.alloc _, A4.alloc (by omega) _⟩⟩
    have h := heap_alloc_new ((w1.alloc (.cells (Array.replicate 64 (.int .u32 0)) 160)).setRow w1.heap.size (cw Y)) (.cells (Array.replicate 64 (.int .u32 0)) 160)
    rw [A5] at h
    rw [zeros_cw] at h
    exact h
  case round =>
    clear A1 A2 A3 A4 A5
    obtain ⟨k, kk, X, hk, hkk, rfl, hS, hX, hR⟩ := hrel
    by_cases hlt : k < 64
    · --R1BEGIN
      subst hkk
      have hf := hX.free k
      have c5 := hX.cell k (by rw [hS.1]; omega)
      have HR := Lib.hid (And.intro hX hS)
      by_cases h16 : k < 16
      · clear hX hS
        obtain ⟨m0, e0⟩ : ∃ m, 4 * k = m := ⟨_, rfl⟩
        obtain ⟨m1, e1⟩ : ∃ m, 4 * k + 1 = m := ⟨_, rfl⟩
        obtain ⟨m2, e2⟩ : ∃ m, 4 * k + 2 = m := ⟨_, rfl⟩
        obtain ⟨m3, e3⟩ : ∃ m, 4 * k + 3 = m := ⟨_, rfl⟩
        have z0 : m0 < B.size := by omega
        have z1 : m1 < B.size := by omega
        have z2 : m2 < B.size := by omega
        have z3 : m3 < B.size := by omega
        have y0 : (4 : Int) * (k : Int) = (m0 : Int) := by omega
        have y1 : (m0 : Int) + 1 = (m1 : Int) := by omega
        have y2 : (m0 : Int) + 2 = (m2 : Int) := by omega
        have y3 : (m0 : Int) + 3 = (m3 : Int) := by omega
        have v0 : IntKind.i64.wrap (m0 : Int) = (m0 : Int) := IntWalk.i64_in _ ⟨by omega, by omega⟩
        have v1 : IntKind.i64.wrap (m1 : Int) = (m1 : Int) := IntWalk.i64_in _ ⟨by omega, by omega⟩
        have v2 : IntKind.i64.wrap (m2 : Int) = (m2 : Int) := IntWalk.i64_in _ ⟨by omega, by omega⟩
        have v3 : IntKind.i64.wrap (m3 : Int) = (m3 : Int) := IntWalk.i64_in _ ⟨by omega, by omega⟩
        have i0 := fun W => index_gb W B m0 z0
        have i1 := fun W => index_gb W B m1 z1
        have i2 := fun W => index_gb W B m2 z2
        have i3 := fun W => index_gb W B m3 z3
        have hq := join4w B.data.toList k m0 m1 m2 m3 e0 e1 e2 e3
        clear e0 e1 e2 e3
        go_wp2
        go_still_tail 30, (by kernel_rfl)
        clear hq i0 i1 i2 i3 v0 v1 v2 v3 y0 y1 y2 y3 z0 z1 z2 z3
        have hf' : wr.drew.frozen? ⟨w1.heap.size + 1, k, none⟩ = false := hf
        have c5' : wr.drew.cell? ⟨w1.heap.size + 1, k, none⟩ = some (.int .u32 (gw X k : Nat)) := c5
        clear hf c5
        change wpList _ _ _ _ _ wr.drew
        go_wp2
        go_roundw
        case rel =>
          have hS := HR.out.2.step0 h16
          have hX : Has (wr.drew.setCell ⟨w1.heap.size + 1, k, none⟩ (.int .u32 (word B.data.toList k : Nat))) (w1.heap.size + 1) 160 (X.set k (word B.data.toList k)) := Has.set (w := wr.drew) HR.out.1 k _
          obtain ⟨R1, R2, R3, R4⟩ := hR.out
          exact ⟨k + 1, _, _, by omega, by simp, rfl, hS, hX, Lib.hid ⟨Has.setOther (w := wr.drew) R1 (by omega) _ _, Has.setOther (w := wr.drew) R2 (by omega) _ _, Has.setOther (w := wr.drew) R3 (by omega) _ _, R4.drew.setCell (p := ⟨w1.heap.size + 1, k, none⟩) (by simp; omega) _⟩⟩
        case measure => (simp [intOf]; try omega)
      · obtain ⟨m16, e16⟩ : ∃ m, k - 16 = m := ⟨_, rfl⟩
        obtain ⟨m15, e15⟩ : ∃ m, k - 15 = m := ⟨_, rfl⟩
        obtain ⟨m7, e7⟩ : ∃ m, k - 7 = m := ⟨_, rfl⟩
        obtain ⟨m2, e2⟩ : ∃ m, k - 2 = m := ⟨_, rfl⟩
        have c1 := hX.cell m15 (by rw [hS.1]; omega)
        have c2 := hX.cell m2 (by rw [hS.1]; omega)
        have c3 := hX.cell m16 (by rw [hS.1]; omega)
        have c4 := hX.cell m7 (by rw [hS.1]; omega)
        have hx : gw X m15 < M := by rw [hS.2 _ (by omega)]; exact gw_sch_lt _ _ _
        have hy : gw X m2 < M := by rw [hS.2 _ (by omega)]; exact gw_sch_lt _ _ _
        have hst := hS.step (by omega) hlt
        rw [e16, e15, e7, e2] at hst
        have y16 : (k : Int) - 16 = (m16 : Int) := by omega
        have y15 : (k : Int) - 15 = (m15 : Int) := by omega
        have y7 : (k : Int) - 7 = (m7 : Int) := by omega
        have y2 : (k : Int) - 2 = (m2 : Int) := by omega
        have v16 : IntKind.i64.wrap (m16 : Int) = (m16 : Int) := IntWalk.i64_in _ ⟨by omega, by omega⟩
        have v15 : IntKind.i64.wrap (m15 : Int) = (m15 : Int) := IntWalk.i64_in _ ⟨by omega, by omega⟩
        have v7 : IntKind.i64.wrap (m7 : Int) = (m7 : Int) := IntWalk.i64_in _ ⟨by omega, by omega⟩
        have v2 : IntKind.i64.wrap (m2 : Int) = (m2 : Int) := IntWalk.i64_in _ ⟨by omega, by omega⟩
        have l16 : (m16 : Int) < 64 := by omega
        have l15 : (m15 : Int) < 64 := by omega
        have l7 : (m7 : Int) < 64 := by omega
        have l2 : (m2 : Int) < 64 := by omega
        have x0 := s0I hx
        have x1 := s1I hy
        have a1 := wrapAd (gw X m16) (s0 (gw X m15))
        have a2 := wrapAd (ad (gw X m16) (s0 (gw X m15))) (gw X m7)
        have a3 := wrapAd (ad (ad (gw X m16) (s0 (gw X m15))) (gw X m7)) (s1 (gw X m2))
        have r0 := fun W => refRot_any W _ 7 7 rfl hx (by omega) (by omega)
        have r1 := fun W => refRot_any W _ 18 18 rfl hx (by omega) (by omega)
        have r2 := fun W => refRot_any W _ 17 17 rfl hy (by omega) (by omega)
        have r3 := fun W => refRot_any W _ 19 19 rfl hy (by omega) (by omega)
        have n16 : ∀ v, (wr.setCell ⟨w1.heap.size + 1, k, none⟩ v).cell? ⟨w1.heap.size + 1, m16, none⟩ = some (.int .u32 (gw X m16 : Nat)) := fun v => (World.cell?_setCell_other _ _ _ _ (by intro e; simp at e; try omega)).trans c3
        have n7 : ∀ v, (wr.setCell ⟨w1.heap.size + 1, k, none⟩ v).cell? ⟨w1.heap.size + 1, m7, none⟩ = some (.int .u32 (gw X m7 : Nat)) := fun v => (World.cell?_setCell_other _ _ _ _ (by intro e; simp at e; try omega)).trans c4
        have HE := Lib.hid (And.intro hst (And.intro hx hy))
        clear e16 e15 e7 e2 hX hS hst hx hy
        go_wp2
        go_region_held3 (fun w' => w'.cell? ⟨w1.heap.size + 1, m16, none⟩ = some (.int .u32 (gw X m16 : Nat)) ∧ w'.cell? ⟨w1.heap.size + 1, m7, none⟩ = some (.int .u32 (gw X m7 : Nat)))
          (first | (exact ⟨by assumption, by assumption⟩) | (exact ⟨n16 _, n7 _⟩) | (simp [go_sem]; exact ⟨by assumption, by assumption⟩))
          (first
            | (go_at_call 138; (first | go_fit (r0 _) | go_fit (r1 _) | go_fit (r2 _) | go_fit (r3 _)); rintro e w' ⟨rfl, rfl⟩))
        clear x0 x1 a1 a2 a3 r0 r1 r2 r3 n16 n7 y16 y15 y7 y2 v16 v15 v7 v2 l16 l15 l7 l2 c1 c2 c3 c4 hf c5
        go_wp2
        go_roundw
        case rel =>
          have hX := HR.out.1.set k (ad (ad (ad (gw X m16) (s0 (gw X m15))) (gw X m7)) (s1 (gw X m2)))
          obtain ⟨R1, R2, R3, R4⟩ := hR.out
          exact ⟨k + 1, _, _, by omega, by simp, rfl, HE.out.1, hX, Lib.hid ⟨R1.setOther (by omega) _ _, R2.setOther (by omega) _ _, R3.setOther (by omega) _ _, ((((R4.setCell (p := ⟨w1.heap.size + 1, k, none⟩) (by simp; omega) _).drew).drew).drew).drew.drew⟩⟩
        case measure => (simp [intOf]; try omega)
      --R1END
    · obtain rfl : k = 64 := by omega
      obtain rfl : kk = 64 := by omega
      have e := hS.done
      rw [e] at hX
      clear e hS hkk hlt hk
      obtain ⟨Z, hZ⟩ : ∃ Z, sch B.data.toList 64 = Z := ⟨_, rfl⟩
      rw [hZ] at hX
      have hZl : Z.length = 64 := by rw [← hZ]; exact sch_length _ _
      have HZ := Lib.hid (And.intro hZ hZl); clear hZ hZl
      obtain ⟨R1, R2, R3, R4⟩ := hR.out
      clear hR X
      have hn8 : Has (wr.alloc (.cells (Array.replicate 8 (.int .u32 0)) 133)) wr.heap.size 133 (List.replicate 8 0) := by
        unfold Has; rw [heap_alloc_new, zeros_cw]
      have hb1 : w1.heap.size + 1 < wr.heap.size := hX.lt
      have A0 : Has ((wr.alloc (.cells (Array.replicate 8 (.int .u32 0)) 133)).setRow wr.heap.size (cw s.l)) wr.heap.size 133 s.l := setRow_heap _ _ _ _ _ _ hn8
      have A1 : Has ((wr.alloc (.cells (Array.replicate 8 (.int .u32 0)) 133)).setRow wr.heap.size (cw s.l)) w1.heap.size 160 Y := (setRow_other _ _ _ _ (by omega)).trans (R1.alloc _)
      have A2 : Has ((wr.alloc (.cells (Array.replicate 8 (.int .u32 0)) 133)).setRow wr.heap.size (cw s.l)) w.heap.size 133 s.l := (setRow_other _ _ _ _ (by omega)).trans (R2.alloc _)
      have A3 : Has ((wr.alloc (.cells (Array.replicate 8 (.int .u32 0)) 133)).setRow wr.heap.size (cw s.l)) (w.heap.size + 1) 133 (List.replicate 8 0) := (setRow_other _ _ _ _ (by omega)).trans (R3.alloc _)
      have A4 : Has ((wr.alloc (.cells (Array.replicate 8 (.int .u32 0)) 133)).setRow wr.heap.size (cw s.l)) (w1.heap.size + 1) 160 Z := (setRow_other _ _ _ _ (by omega)).trans (hX.alloc _)
      have A5 : Below w.heap.size w ((wr.alloc (.cells (Array.replicate 8 (.int .u32 0)) 133)).setRow wr.heap.size (cw s.l)) := Below.setRow' (R4.alloc (by omega) _) (by omega) _
      have HA := Lib.hid (And.intro A0 (And.intro A1 (And.intro A2 (And.intro A3 (And.intro A4 A5))))); clear A0 A1 A2 A3 A4 A5 R1 R3 R4 hX
      go_wp2_with (first | (refine wpList_load_row rfl 133 (.tmp 2) rfl w.heap.size rfl 133 (cw s.l) (0, 0) _ R2 Tryz.underlying133 rfl hi8.out ?_) | (refine wpList_store_row rfl 133 (.tmp 10) (.tmp 92) rfl wr.heap.size (cw s.l) rfl rfl 133 _ hn8 hi8.out rfl (cw_one _) ?_))
      obtain ⟨A0, A1, A2, A3, A4, A5⟩ := HA.out
      clear HA R2 hn8
      change Code.wp _ _ _ _ ((wr.alloc (.cells (Array.replicate 8 (.int .u32 0)) 133)).setRow wr.heap.size (cw s.l))
      generalize (wr.alloc (.cells (Array.replicate 8 (.int .u32 0)) 133)).setRow wr.heap.size (cw s.l) = W3 at *
      generalize wr.heap.size = q at *
      clear wr
      go_loopw [11] (fun i w2 => ∃ (k : Nat) (kk : Int) (t : St), k ≤ 64 ∧ kk = (k : Nat) ∧ i = .int .i64 kk ∧ Hid (t = rounds Z s k) ∧ Has w2 q 133 t.l ∧ Has w2 w1.heap.size 160 Y ∧ Has w2 (w1.heap.size + 1) 160 Z ∧ Hid (Has w2 w.heap.size 133 s.l ∧ Has w2 (w.heap.size + 1) 133 (List.replicate 8 0) ∧ Below w.heap.size w w2)) (fun i _ => 64 - (intOf i).toNat)
      case atStart => exact ⟨0, 0, s, by omega, rfl, rfl, Lib.hid rfl, A0, A1, A4, Lib.hid ⟨A2, A3, A5⟩⟩
      case round =>
        clear A0 A1 A2 A3 A4 A5
        obtain ⟨k, kk, t, hk, hkk, rfl, ht, h8, hY, hZ, hR⟩ := hrel
        by_cases hlt : k < 64
        · --R2BEGIN
          subst hkk
          have tok : t.Ok := by rw [ht.out]; exact rounds_ok _ hs _
          have hyk : gw Y k < M := by rw [← HYY.out.1]; exact gw_cube_lt _
          have hzk : gw Z k < M := by rw [← HZ.out.1]; exact gw_sch_lt _ _ _
          have cy := hY.cell k (by rw [HYY.out.2]; exact hlt)
          have cz := hZ.cell k (by rw [HZ.out.2]; exact hlt)
          obtain ⟨c0, c1, c2, c3, c4, c5, c6, c7⟩ := h8.st
          have ⟨q1, q2, q3, q4, q5, q6, q7, q8, q9⟩ := Tq.mk' t.h (gw Y k) (gw Z k) tok.e tok.f tok.g
          have q10 : IntKind.u32.wrap (((ad (ad (ad t.h (S1 t.e)) (ch t.e t.f t.g)) (gw Y k) : Nat) : Int) + ((gw Z k : Nat) : Int)) = ((tt t (gw Y k) (gw Z k) : Nat) : Int) := wrapAd _ _
          have HT := Lib.hid (And.intro tok (And.intro hyk hzk)); clear hyk hzk tok
          have r0 := Lib.hid (refRot_q wr t.e 6 6 rfl HT.out.1.e (by omega) (by omega))
          have r1 := Lib.hid (refRot_q wr t.e 11 11 rfl HT.out.1.e (by omega) (by omega))
          have r2 := Lib.hid (refRot_q wr t.e 25 25 rfl HT.out.1.e (by omega) (by omega))
          go_wp2
          have HQ := Lib.hid (And.intro c0 (And.intro c1 (And.intro c2 (And.intro c3 c4)))); clear c0 c1 c2 c3 c4
          have HN := Lib.hid (And.intro n1 (And.intro hb1 (And.intro hk hlt))); clear n1 hb1 hk hlt
          have H8 := Lib.hid (And.intro h8 (And.intro hY hZ)); clear h8 hY hZ
          clear hi
          go_big_quiet (first | (go_at_call_of 138 (Value.int .i64 6); exact r0.out _) | (go_at_call_of 138 (Value.int .i64 11); exact r1.out _) | (go_at_call_of 138 (Value.int .i64 25); exact r2.out _))
          clear q1 q2 q3 q4 q5 q6 q7 q8 q9 q10 r0 r1 r2 c5 c6 c7 cy cz
          obtain ⟨T, hT⟩ : ∃ T, tt t (gw Y k) (gw Z k) = T := ⟨_, rfl⟩
          rw [hT]
          have h8' : Has (wr.drewN nq) q 133 t.l := H8.out.1
          have hY' : Has (wr.drewN nq) w1.heap.size 160 Y := H8.out.2.1
          have hZ' : Has (wr.drewN nq) (w1.heap.size + 1) 160 Z := H8.out.2.2
          have hR' : Has (wr.drewN nq) w.heap.size 133 s.l ∧ Has (wr.drewN nq) (w.heap.size + 1) 133 (List.replicate 8 0) ∧ Below w.heap.size w (wr.drewN nq) := ⟨hR.out.1, hR.out.2.1, hR.out.2.2.trans ⟨rfl, rfl, rfl, Nat.le_refl _, fun _ _ => rfl⟩⟩
          clear H8 hR HQ
          generalize wr.drewN nq = wr at *
          obtain ⟨c0, c1, c2, c3, c4, c5, c6, c7⟩ := h8'.st
          have HK := Lib.hid (And.intro h8' (And.intro hY' (And.intro hZ' hR'))); clear h8' hY' hZ' hR'
          have HQ := Lib.hid (And.intro c0 (And.intro c3 (And.intro c4 (And.intro c5 (And.intro c6 c7))))); clear c0 c3 c4 c5 c6 c7
          have ⟨p1, p2, p3, p4, p5, p6, p7⟩ := Uq.mk' HT.out.1.a HT.out.1.b HT.out.1.c
          have p8 := wrapAd (S0 t.a) (mj t.a t.b t.c)
          obtain ⟨U, hU⟩ : ∃ U, ad (S0 t.a) (mj t.a t.b t.c) = U := ⟨_, rfl⟩
          rw [hU] at p8
          have HTT := Lib.hid (And.intro hT hU); clear hT hU
          have r0 := Lib.hid (refRot_q wr t.a 2 2 rfl HT.out.1.a (by omega) (by omega))
          have r1 := Lib.hid (refRot_q wr t.a 13 13 rfl HT.out.1.a (by omega) (by omega))
          have r2 := Lib.hid (refRot_q wr t.a 22 22 rfl HT.out.1.a (by omega) (by omega))
          go_wp2
          go_big_quiet (first | (go_at_call_of 138 (Value.int .i64 2); exact r0.out _) | (go_at_call_of 138 (Value.int .i64 13); exact r1.out _) | (go_at_call_of 138 (Value.int .i64 22); exact r2.out _))
          clear p1 p2 p3 p4 p5 p6 p7 p8 r0 r1 r2 c1 c2
          have h8' : Has (wr.drewN nq) q 133 t.l := HK.out.1
          have hY' : Has (wr.drewN nq) w1.heap.size 160 Y := HK.out.2.1
          have hZ' : Has (wr.drewN nq) (w1.heap.size + 1) 160 Z := HK.out.2.2.1
          have hR' : Has (wr.drewN nq) w.heap.size 133 s.l ∧ Has (wr.drewN nq) (w.heap.size + 1) 133 (List.replicate 8 0) ∧ Below w.heap.size w (wr.drewN nq) := ⟨HK.out.2.2.2.1, HK.out.2.2.2.2.1, HK.out.2.2.2.2.2.trans ⟨rfl, rfl, rfl, Nat.le_refl _, fun _ _ => rfl⟩⟩
          clear HK HQ
          generalize wr.drewN nq = wr at *
          obtain ⟨c0, c1, c2, c3, c4, c5, c6, c7⟩ := h8'.st
          have hY2 := Lib.hid hY'; clear hY'
          have hZ2 := Lib.hid hZ'; clear hZ'
          have hR2 := Lib.hid hR'; clear hR'
          have p9 := adI t.d T
          have p10 := adI T U
          go_wp2_with (refine wpList_store_row rfl 133 (.tmp 10) (.tmp 174) rfl q (cw [ad T U, t.a, t.b, t.c, ad t.d T, t.e, t.f, t.g]) rfl rfl 133 _ h8' hi8.out rfl (cw_one _) ?_)
          go_roundw
          case rel =>
            obtain ⟨n1, hb1, hk, hlt⟩ := HN.out
            obtain ⟨R1, R2, R3⟩ := hR2.out
            refine ⟨k + 1, _, ⟨ad T U, t.a, t.b, t.c, ad t.d T, t.e, t.f, t.g⟩, by omega, by simp, rfl, Lib.hid ?_, setRow_heap _ _ _ _ _ _ h8', (setRow_other _ _ _ _ (by omega)).trans hY2.out, (setRow_other _ _ _ _ (by omega)).trans hZ2.out, Lib.hid ⟨(setRow_other _ _ _ _ (by omega)).trans R1, (setRow_other _ _ _ _ (by omega)).trans R2, Below.setRow' R3 (by omega) _⟩⟩
            rw [← HTT.out.1, ← HTT.out.2, ← HYY.out.1]; show St.step t _ _ = _; rw [ht.out]; rfl
          case measure => (simp [intOf]; try omega)
          --R2END
        · obtain rfl : k = 64 := by omega
          obtain rfl : kk = 64 := by omega
          clear hkk hlt hk
          obtain ⟨R1, R2, R3⟩ := hR.out
          have HN := Lib.hid (And.intro n1 hb1); clear n1 hb1
          have hi0 := hi; clear hi hY hZ hR
          go_wp2
          go_loopw [16] (fun i wr => ∃ (k : Nat) (kk : Int) (X : List Nat), k ≤ 8 ∧ kk = (k : Nat) ∧ i = .int .i64 kk ∧ AX s t k X ∧ Has wr w.heap.size 133 X ∧ Has wr q 133 t.l ∧ Hid (Has wr (w.heap.size + 1) 133 (List.replicate 8 0)) ∧ Below w.heap.size w wr) (fun i _ => 8 - (intOf i).toNat)
          case atStart => exact ⟨0, 0, _, by omega, rfl, rfl, AX.start s t, R1, h8, Lib.hid R2, R3⟩
          case round =>
            clear R1 R2 R3 h8
            obtain ⟨k, kk, X, hk, hkk, rfl, hA, h0, h8, h1, hb⟩ := hrel
            by_cases hlt : k < 8
            · have c := h0.cell k (by rw [hA.1]; exact hlt)
              have cx := h8.cell k hlt
              have hf := h0.free k
              have pa := adI (gw X k) (gw t.l k)
              subst hkk
              go_wp2
              go_region
              go_wp2
              go_roundw
              case rel =>
                obtain ⟨n1, hb1⟩ := HN.out
                exact ⟨k + 1, _, _, by omega, by simp, rfl, hA.step hlt, (h0.set k _).drew, (h8.setOther (by omega) _ _).drew, Lib.hid (h1.out.setOther (by omega) _ _).drew, (hb.setCell (p := ⟨w.heap.size, k, none⟩) (Nat.le_refl _) _).drew⟩
              case measure => (simp [intOf]; try omega)
            · obtain rfl : k = 8 := by omega
              obtain rfl : kk = 8 := by omega
              have e := hA.done
              rw [e] at h0
              clear e hA hkk hlt hk
              have h2 := h1.out
              go_wp2_with (first | (refine wpList_load_row rfl 133 (.tmp 2) rfl w.heap.size rfl 133 (cw (s.add t).l) (0, 0) _ h0 Tryz.underlying133 rfl hi8.out ?_) | (refine wpList_store_row rfl 133 (.tmp 4) (.tmp 188) rfl (w.heap.size + 1) (cw (s.add t).l) rfl rfl 133 _ h2 hi8.out rfl (cw_one _) ?_))
              refine bodyPost_ret (results_cell_row rfl _ _ (w.heap.size + 1) _ (cw (s.add t).l) _ _ rfl (setRow_heap _ _ _ _ _ _ h2) Tryz.underlying133 rfl hi8.out) rfl ?_
              refine ⟨?_, Below.setRow' hb (by omega) _⟩
              rw [ht.out, ← HZ.out.1]; rfl
end Go.Proofs.YtbfplapjjeeceaaGreatDoor
namespace Go.Proofs.YtbfplapjjeeceaaGreatDoor
open Go.RowKit SH
theorem Has.word {w : World} {b : Nat} {T : TypeId} {s : St} (h : Has w b T s.l) (j : Nat) (hj : j < 8) : w.cell? ⟨b, j, none⟩ = some (.int .u32 (gw s.l j : Nat)) := h.cell j hj
theorem ext_mid (B : ByteArray) (a c : Nat) (h : a + c ≤ B.size) : (B.extract a (a + c)).data.toList = (B.data.toList.drop a).take c ∧ (B.extract a (a + c)).size = c := by
  constructor
  · rw [ByteArray.data_extract]
    simp [List.take_drop]
  · rw [ByteArray.size_extract]; omega
set_option maxRecDepth 100000 in
set_option maxHeartbeats 2000000 in
theorem refSum_any (w : World) (S : ByteArray) (hn : S.size ≤ 200000000000000) :
    Calls Tryz.prog 69 #[.string S] w fun e w' => e = .returned (hval (sha S.data.toList)) ∧ Below w.heap.size w w' := by
  obtain ⟨L, hL⟩ : ∃ L, S.data.toList = L := ⟨_, rfl⟩
  have hLs : L.length = S.size := by rw [← hL]; rfl
  have hi8 : Hid ((Tryz.prog.info? 133).map (·.size) = some 8) := Lib.hid (by kernel_rfl)
  obtain ⟨W, hW⟩ : ∃ W, ((w.alloc (.cells (hcells (List.replicate 32 0)) 109)).alloc (.cells (cw (List.replicate 8 0)) 133)).setRow (w.heap.size + 1) (cw square.l) = W := ⟨_, rfl⟩
  have hz8 : ((w.alloc (.cells (hcells (List.replicate 32 0)) 109)).alloc (.cells (cw (List.replicate 8 0)) 133)).heap[w.heap.size + 1]? = some (.cells (cw (List.replicate 8 0)) 133 (0, 0)) := heap_alloc2_new _ _ _
  have h0 : HM W w.heap.size (List.replicate 32 0) := by rw [← hW]; exact (setRow_other _ _ _ _ (by omega)).trans (heap_alloc2_old _ _ _)
  have h1 : Has W (w.heap.size + 1) 133 square.l := by rw [← hW]; exact setRow_heap _ _ _ _ _ _ hz8
  have hb : Below w.heap.size w W := by rw [← hW]; exact Below.setRow' (((Below.refl w.heap.size w).alloc (Nat.le_refl _) _).alloc (by simp) _) (by omega) _
  have HK := Lib.hid (And.intro h0 (And.intro h1 (And.intro hb (And.intro hLs (And.intro hn hL))))); clear h0 h1 hb hLs hn hL
  have hpd := Lib.hid (fun W => refPadded_any W S HK.out.2.2.2.2.1)
  go_enter Tryz.func69, Tryz.ntmps69
  go_upto_region 2 with (first | (refine wpList_build rfl 133 _ rfl (by kernel_rfl) ?_; change wpList _ _ _ _ (Act.put _ _ (.agg (cw square.l))) _) | (refine wpList_store_row rfl 133 (.tmp 3) (.tmp 8) rfl (w.heap.size + 1) (cw square.l) rfl rfl 133 _ hz8 hi8.out rfl (cw_one _) ?_))
  change Code.wp _ _ _ _ (((w.alloc (.cells (hcells (List.replicate 32 0)) 109)).alloc (.cells (cw (List.replicate 8 0)) 133)).setRow (w.heap.size + 1) (cw square.l))
  rw [hW]
  clear hW hz8
  go_wp2_with fail
  go_must (go_fit (hpd.out _))
  rintro e w1 ⟨P, hP, rfl, b1⟩
  have hlt1 : w.heap.size + 1 < W.heap.size := HK.out.2.1.lt
  have h0 : HM w1 w.heap.size (List.replicate 32 0) := HM.below HK.out.1 b1 (by omega)
  have h1 : Has w1 (w.heap.size + 1) 133 square.l := HK.out.2.1.below b1 hlt1
  have hb : Below w.heap.size w w1 := HK.out.2.2.1.trans (b1.mono (by omega))
  have hn := HK.out.2.2.2.2.1
  have hL : P.data.toList = L ++ pad L.length := by rw [hP, HK.out.2.2.2.2.2, HK.out.2.2.2.1]
  obtain ⟨nb, hnb⟩ : ∃ nb, (L.length + 72) / 64 = nb := ⟨_, rfl⟩
  have hPs : P.size = 64 * nb := by
    rw [← size_toList, hL, List.length_append]
    have h2 : (pad L.length).length = 9 + zeros L.length := by simp [pad, len8]; omega
    rw [h2]; unfold zeros; omega
  have hnn : nb ≤ 4000000000000 := by have := HK.out.2.2.2.1; omega
  have hsha : out (blocks square P.data.toList nb) = sha L := by rw [hL, ← hnb]; rfl
  have HP := Lib.hid (And.intro hPs (And.intro hsha HK.out.2.2.2.2.2)); clear hP hL hnb hPs hsha hn b1 hlt1 hpd HK
  have H0 := Lib.hid h0; clear h0
  have HB := Lib.hid hb; clear hb
  obtain ⟨PL, hPL⟩ : ∃ PL, P.data.toList = PL := ⟨_, rfl⟩
  rw [hPL] at HP
  have HPL := Lib.hid hPL; clear hPL
  go_upto_region 4 with fail
  go_loopw [5] (fun i wr => ∃ (j a : Nat) (s : St), a = 64 * j ∧ j ≤ nb ∧ i = .int .i64 (a : Nat) ∧ Hid (s = blocks square PL j) ∧ Has wr (w.heap.size + 1) 133 s.l ∧ Hid (HM wr w.heap.size (List.replicate 32 0)) ∧ Hid (Below w.heap.size w wr)) (fun i _ => (64 * nb + 1 : Nat) - (intOf i).toNat)
  case atStart => exact ⟨0, 0, square, rfl, by omega, rfl, Lib.hid rfl, h1, H0, HB⟩
  case round =>
    clear H0 HB h1
    obtain ⟨j, a, s, ha, hj, rfl, hs, h1, h0, hb⟩ := hrel
    have hpsz : (P.size : Int) = ((64 * nb : Nat) : Int) := by rw [HP.out.1]
    by_cases hlt : j < nb
    · obtain ⟨c0, c1, c2, c3, c4, c5, c6, c7⟩ := h1.st
      obtain ⟨a2, ha2⟩ : ∃ a2, a + 64 = a2 := ⟨_, rfl⟩
      have y1 : (a : Int) + 64 = (a2 : Int) := by omega
      have y2 : (a : Int) < (P.size : Int) := by omega
      have y3 : (a2 : Int) ≤ (P.size : Int) := by omega
      have y4 : (a : Int) ≤ (a2 : Int) := by omega
      have y5 : (a2 : Int) ≤ 400000000000000 := by omega
      have y6 : IntKind.i64.wrap (a2 : Int) = (a2 : Int) := IntWalk.i64_in _ ⟨by omega, by omega⟩
      have he := ext_mid P a 64 (by rw [HP.out.1]; omega)
      rw [ha2, HPL.out] at he
      have hok : s.Ok := by rw [hs.out]; exact blocks_ok square_ok _ _
      have hst : block s (P.extract a a2).data.toList = blocks square PL (j+1) := by rw [he.1, hs.out, ha]; rfl
      have hrb := Lib.hid (fun W => refBlock_any W s hok (P.extract a a2) he.2)
      rw [hst] at hrb
      obtain ⟨s2, hs2⟩ : ∃ s2, blocks square PL (j+1) = s2 := ⟨_, rfl⟩
      rw [hs2] at hrb
      have HH := Lib.hid (And.intro ha (And.intro ha2 (And.intro hlt (And.intro hs2 hpsz)))); clear he hok hst hs2 ha ha2 hs hj hpsz
      go_upto_region 6 with fail
      go_still_tail 6, (by kernel_rfl)
      change wpList _ _ _ _ _ wr.drew
      have h1' : Has wr.drew (w.heap.size + 1) 133 s.l := h1
      have h0' : Hid (HM wr.drew w.heap.size (List.replicate 32 0)) := Lib.hid h0.out
      have hb' := Lib.hid hb.out.drew
      clear h1 h0 hb c0 c1 c2 c3 c4 c5 c6 c7 y1 y2 y3 y4 y5 y6
      generalize wr.drew = wr at *
      go_wp2_with fail
      go_must (go_fit (hrb.out _))
      rintro e w2 ⟨rfl, b2⟩
      have hl := h1'.lt
      have h1 := h1'.below b2 hl
      have h0 := Lib.hid (h0'.out.below b2 (by omega))
      have hb := Lib.hid (hb'.out.trans (b2.mono (by omega)))
      clear h1' h0' hb' b2 hl
      have y7 : wrap64 ((a : Int) + 64) = (a2 : Int) := by have := HH.out.1; have := HH.out.2.1; have := HH.out.2.2.1; unfold wrap64; omega
      go_wp2_with (refine wpList_store_row rfl 133 (.tmp 3) (.tmp 23) rfl (w.heap.size + 1) (cw s2.l) rfl rfl 133 _ h1 hi8.out rfl (cw_one _) ?_)
      refine ⟨⟨j + 1, a2, s2, by have := HH.out.1; have := HH.out.2.1; omega, HH.out.2.2.1, by rw [y7], Lib.hid HH.out.2.2.2.1.symm, setRow_heap _ _ _ _ _ _ h1, Lib.hid ((setRow_other _ _ _ _ (by omega)).trans h0.out), Lib.hid (Below.setRow' hb.out (by omega) _)⟩, ?_⟩
      have e1 := HH.out.1; have e2 := HH.out.2.1; have e3 := HH.out.2.2.1
      rw [y7]; simp [intOf]; omega
    · obtain rfl : j = nb := by omega
      have hge : ¬ (a : Int) < (P.size : Int) := by omega
      have hq : w.heap.size + 1 < wr.heap.size := h1.lt
      have hQ : HM (wr.alloc (.cells (hcells (List.replicate 32 0)) 109)) wr.heap.size (List.replicate 32 0) := heap_alloc_new _ _
      have hX2 := h1.alloc (.cells (hcells (List.replicate 32 0)) 109)
      have hY2 := HM.alloc h0.out (.cells (hcells (List.replicate 32 0)) 109)
      have hZ2 := hb.out.alloc (by omega) (.cells (hcells (List.replicate 32 0)) 109)
      have hs2 : Hid (out s = sha L) := Lib.hid (by rw [hs.out]; exact HP.out.2.1)
      have HQ := Lib.hid (And.intro hQ (And.intro hX2 (And.intro hY2 hZ2))); clear hQ hX2 hY2 hZ2 h1 h0 hb hpsz hs ha hj hlt
      have hs32 : ∀ l : List UInt8, l.length = 32 → (hcells l).size = 32 := fun l h => by rw [hcells_size]; exact h
      have HS32 := Lib.hid hs32; clear hs32
      have hi32 : Hid ((Tryz.prog.info? 109).map (·.size) = some 32) := Lib.hid (by kernel_rfl)
      go_wp2
      clear hge
      obtain ⟨q, hqq⟩ : ∃ q, wr.heap.size = q := ⟨_, rfl⟩
      rw [hqq] at hq HQ ⊢
      clear hqq
      go_loopw [7] (fun i w2 => ∃ (k : Nat) (kk : Int) (l : List UInt8), k ≤ 32 ∧ kk = (k : Nat) ∧ i = .int .i64 kk ∧ Hid (BW s k l) ∧ HM w2 q l ∧ Has w2 (w.heap.size + 1) 133 s.l ∧ Hid (HM w2 w.heap.size (List.replicate 32 0)) ∧ Hid (Below w.heap.size w w2)) (fun i _ => 32 - (intOf i).toNat)
      case atStart => exact ⟨0, 0, _, by omega, rfl, rfl, Lib.hid (BW.start s), HQ.out.1, HQ.out.2.1, Lib.hid HQ.out.2.2.1, Lib.hid HQ.out.2.2.2⟩
      case round =>
        clear HQ
        obtain ⟨k, kk, l, hk, hkk, rfl, hB, hH, hM, hR, hb⟩ := hrel
        by_cases hlt : k < 32
        · subst hkk
          obtain ⟨m4, hm4⟩ : ∃ m, k % 4 = m := ⟨_, rfl⟩
          obtain ⟨m3, hm3⟩ : ∃ m, 3 - m4 = m := ⟨_, rfl⟩
          obtain ⟨sh, hsh⟩ : ∃ m, 8 * m3 = m := ⟨_, rfl⟩
          have y1 : (k : Int).tmod 4 = (m4 : Int) := by rw [Int.tmod_eq_emod_of_nonneg (by omega)]; omega
          have m44 : m4 < 4 := by omega
          have y2 : 3 - (m4 : Int) = (m3 : Int) := by omega
          have m34 : m3 ≤ 3 := by omega
          have y3 : 8 * (m3 : Int) = (sh : Int) := by omega
          have sh24 : sh ≤ 24 := by omega
          have cw := hM.word (k/4) (by omega)
          have ch := hH.cell k (by rw [hB.out.1]; exact hlt)
          have fh := hH.free k
          have hv := byteOf_eq s k sh (by omega)
          have hH2 := hH.set k (SH.byteOf s.l k)
          have hM2 := hM.setOther (c := q) (by omega) k (.int .u8 ((SH.byteOf s.l k).toNat : Nat))
          have hR2 := Lib.hid (HM.setOther hR.out (c := q) (by omega) k (.int .u8 ((SH.byteOf s.l k).toNat : Nat)))
          have hb2 := Lib.hid (hb.out.setCell (p := ⟨q, k, none⟩) (by simp; omega) (.int .u8 ((SH.byteOf s.l k).toNat : Nat)))
          have HH := Lib.hid (And.intro hH2 (And.intro hM2 (hB.out.step hlt))); clear hH2 hM2 hH hM hR hb hB hsh hm4 hm3
          go_wp2
          exact ⟨⟨k + 1, _, _, by omega, by simp, rfl, Lib.hid HH.out.2.2, HH.out.1, HH.out.2.1, hR2, hb2⟩, by simp [intOf]; omega⟩
        · obtain rfl : k = 32 := by omega
          obtain rfl : kk = 32 := by omega
          have e := hB.out.done
          rw [hs2.out] at e
          rw [e] at hH
          clear e hB hkk hlt hk
          have hl : (sha L).length = 32 := by simp [sha, out]
          obtain ⟨l2, hl2⟩ : ∃ l2, sha L = l2 := ⟨_, rfl⟩
          rw [hl2] at hH hl
          have HL := Lib.hid hl2
          have hsz : Hid ((Tryz.prog.info? 109).map (·.size) = some (hcells l2).size) := Lib.hid (by rw [HS32.out l2 hl]; exact hi32.out)
          have hsz2 : Hid ((hcells (List.replicate 32 0)).size = (hcells l2).size) := Lib.hid (by rw [HS32.out l2 hl]; rfl)
          have hR2 := hR.out
          clear hl hl2 hs2 hM
          go_wp2_with (first | (refine wpList_load_row rfl 109 (.tmp 6) rfl q rfl 109 (hcells l2) (0, 0) _ hH Tryz.underlying109 rfl hsz.out ?_) | (refine wpList_store_row rfl 109 (.tmp 2) (.tmp 40) rfl w.heap.size (hcells l2) rfl rfl 109 _ hR2 hsz.out hsz2.out (hcells_one _) ?_))
          refine bodyPost_ret (results_cell_row rfl _ _ w.heap.size _ (hcells l2) _ _ rfl (setRow_heap _ _ _ _ _ _ hR2) Tryz.underlying109 rfl hsz.out) rfl ?_
          exact ⟨by rw [HP.out.2.2, HL.out], Below.setRow' hb.out (Nat.le_refl _) _⟩
end Go.Proofs.YtbfplapjjeeceaaGreatDoor
