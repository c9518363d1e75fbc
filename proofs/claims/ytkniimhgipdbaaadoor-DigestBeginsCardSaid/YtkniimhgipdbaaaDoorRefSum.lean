/-
  The walk of the reference's Sum.
-/
import Derived.Test.YtkniimhgipdbaaaDoorRefPad
import Derived.Test.YtkniimhgipdbaaaDoorRefBlock
import Derived.Test.YtkniimhgipdbaaaDoorSumD
namespace Go.Proofs.YtkniimhgipdbaaaDoor
open Go.RowKit SH
theorem Has.word {w : World} {b : Nat} {T : TypeId} {s : St} (h : Has w b T s.l) (j : Nat) (hj : j < 8) : w.cell? ⟨b, j, none⟩ = some (.int .u32 (gw s.l j : Nat)) := h.cell j hj
theorem ext_mid (B : ByteArray) (a c : Nat) (h : a + c ≤ B.size) : (B.extract a (a + c)).data.toList = (B.data.toList.drop a).take c ∧ (B.extract a (a + c)).size = c := by
  constructor
  · rw [ByteArray.data_extract]
    simp [List.take_drop]
  · rw [ByteArray.size_extract]; omega
set_option maxRecDepth 100000 in
set_option maxHeartbeats 2000000 in
theorem refSum_any (w : World) (S : ByteArray) (hn : S.size ≤ 1000000000) :
    Calls Tryd.prog 12 #[.string S] w fun e w' => e = .returned (hval (sha S.data.toList)) ∧ Below w.heap.size w w' := by
  obtain ⟨L, hL⟩ : ∃ L, S.data.toList = L := ⟨_, rfl⟩
  have hLs : L.length = S.size := by rw [← hL]; rfl
  have hi8 : Hid ((Tryd.prog.info? 38).map (·.size) = some 8) := Lib.hid (by kernel_rfl)
  obtain ⟨W, hW⟩ : ∃ W, ((w.alloc (.cells (hcells (List.replicate 32 0)) 29)).alloc (.cells (cw (List.replicate 8 0)) 38)).setRow (w.heap.size + 1) (cw square.l) = W := ⟨_, rfl⟩
  have hz8 : ((w.alloc (.cells (hcells (List.replicate 32 0)) 29)).alloc (.cells (cw (List.replicate 8 0)) 38)).heap[w.heap.size + 1]? = some (.cells (cw (List.replicate 8 0)) 38 (0, 0)) := heap_alloc2_new _ _ _
  have h0 : HM W w.heap.size (List.replicate 32 0) := by rw [← hW]; exact (setRow_other _ _ _ _ (by omega)).trans (heap_alloc2_old _ _ _)
  have h1 : Has W (w.heap.size + 1) 38 square.l := by rw [← hW]; exact setRow_heap _ _ _ _ _ _ hz8
  have hb : Below w.heap.size w W := by rw [← hW]; exact Below.setRow' (((Below.refl w.heap.size w).alloc (Nat.le_refl _) _).alloc (by simp) _) (by omega) _
  have HK := Lib.hid (And.intro h0 (And.intro h1 (And.intro hb (And.intro hLs (And.intro hn hL))))); clear h0 h1 hb hLs hn hL
  have hpd := Lib.hid (fun W => refPadded_any W S HK.out.2.2.2.2.1)
  go_enter Tryd.func12, Tryd.ntmps12
  go_upto_region 2 with (first | (refine wpList_build rfl 38 _ rfl (by kernel_rfl) ?_; change wpList _ _ _ _ (Act.put _ _ (.agg (cw square.l))) _) | (refine wpList_store_row rfl 38 (.tmp 3) (.tmp 8) rfl (w.heap.size + 1) (cw square.l) rfl rfl 38 _ hz8 hi8.out rfl (cw_one _) ?_))
  change Code.wp _ _ _ _ (((w.alloc (.cells (hcells (List.replicate 32 0)) 29)).alloc (.cells (cw (List.replicate 8 0)) 38)).setRow (w.heap.size + 1) (cw square.l))
  rw [hW]
  clear hW hz8
  go_wp2_with fail
  go_must (go_fit (hpd.out _))
  rintro e w1 ⟨P, hP, rfl, b1⟩
  have hlt1 : w.heap.size + 1 < W.heap.size := HK.out.2.1.lt
  have h0 : HM w1 w.heap.size (List.replicate 32 0) := HM.below HK.out.1 b1 (by omega)
  have h1 : Has w1 (w.heap.size + 1) 38 square.l := HK.out.2.1.below b1 hlt1
  have hb : Below w.heap.size w w1 := HK.out.2.2.1.trans (b1.mono (by omega))
  have hn := HK.out.2.2.2.2.1
  have hL : P.data.toList = L ++ pad L.length := by rw [hP, HK.out.2.2.2.2.2, HK.out.2.2.2.1]
  obtain ⟨nb, hnb⟩ : ∃ nb, (L.length + 72) / 64 = nb := ⟨_, rfl⟩
  have hPs : P.size = 64 * nb := by
    rw [← size_toList, hL, List.length_append]
    have h2 : (pad L.length).length = 9 + zeros L.length := by simp [pad, len8]; omega
    rw [h2]; unfold zeros; omega
  have hnn : nb ≤ 20000000 := by have := HK.out.2.2.2.1; omega
  have hsha : out (blocks square P.data.toList nb) = sha L := by rw [hL, ← hnb]; rfl
  have HP := Lib.hid (And.intro hPs (And.intro hsha HK.out.2.2.2.2.2)); clear hP hL hnb hPs hsha hn b1 hlt1 hpd HK
  have H0 := Lib.hid h0; clear h0
  have HB := Lib.hid hb; clear hb
  obtain ⟨PL, hPL⟩ : ∃ PL, P.data.toList = PL := ⟨_, rfl⟩
  rw [hPL] at HP
  have HPL := Lib.hid hPL; clear hPL
  go_upto_region 4 with fail
  go_loopw [5] (fun i wr => ∃ (j a : Nat) (s : St), a = 64 * j ∧ j ≤ nb ∧ i = .int .i64 (a : Nat) ∧ Hid (s = blocks square PL j) ∧ Has wr (w.heap.size + 1) 38 s.l ∧ Hid (HM wr w.heap.size (List.replicate 32 0)) ∧ Hid (Below w.heap.size w wr)) (fun i _ => (64 * nb + 1 : Nat) - (intOf i).toNat)
  case atStart => exact ⟨0, 0, square, rfl, by omega, rfl, Lib.hid rfl, h1, H0, HB⟩
  case round =>
    clear H0 HB h1
    obtain ⟨j, a, s, ha, hj, rfl, hs, h1, h0, hb⟩ := hrel
    have hpsz : (P.size : Int) = ((64 * nb : Nat) : Int) := by rw [HP.out.1]
    by_cases hlt : j < nb
    · obtain ⟨c0, c1, c2, c3, c4, c5, c6, c7⟩ := h1.st
      obtain ⟨a2, ha2⟩ : ∃ a2, a + 64 = a2 := ⟨_, rfl⟩
      have y1 : (a : Int) + 64 = (a2 : Int) := by omega
      have y2 : (a : Int) < (P.size : Int) := by omega
      have y3 : (a2 : Int) ≤ (P.size : Int) := by omega
      have y4 : (a : Int) ≤ (a2 : Int) := by omega
      have y5 : (a2 : Int) ≤ 2000000000 := by omega
      have y6 : IntKind.i64.wrap (a2 : Int) = (a2 : Int) := IntWalk.i64_in _ ⟨by omega, by omega⟩
      have he := ext_mid P a 64 (by rw [HP.out.1]; omega)
      rw [ha2, HPL.out] at he
      have hok : s.Ok := by rw [hs.out]; exact blocks_ok square_ok _ _
      have hst : block s (P.extract a a2).data.toList = blocks square PL (j+1) := by rw [he.1, hs.out, ha]; rfl
      have hrb := Lib.hid (fun W => refBlock_any W s hok (P.extract a a2) he.2)
      rw [hst] at hrb
      obtain ⟨s2, hs2⟩ : ∃ s2, blocks square PL (j+1) = s2 := ⟨_, rfl⟩
      rw [hs2] at hrb
      have HH := Lib.hid (And.intro ha (And.intro ha2 (And.intro hlt (And.intro hs2 hpsz)))); clear he hok hst hs2 ha ha2 hs hj hpsz
      go_upto_region 6 with fail
      go_still_tail 6, (by kernel_rfl)
      change wpList _ _ _ _ _ wr.drew
      have h1' : Has wr.drew (w.heap.size + 1) 38 s.l := h1
      have h0' : Hid (HM wr.drew w.heap.size (List.replicate 32 0)) := Lib.hid h0.out
      have hb' := Lib.hid hb.out.drew
      clear h1 h0 hb c0 c1 c2 c3 c4 c5 c6 c7 y1 y2 y3 y4 y5 y6
      generalize wr.drew = wr at *
      go_wp2_with fail
      go_must (go_fit (hrb.out _))
      rintro e w2 ⟨rfl, b2⟩
      have hl := h1'.lt
      have h1 := h1'.below b2 hl
      have h0 := Lib.hid (h0'.out.below b2 (by omega))
      have hb := Lib.hid (hb'.out.trans (b2.mono (by omega)))
      clear h1' h0' hb' b2 hl
      have y7 : wrap64 ((a : Int) + 64) = (a2 : Int) := by have := HH.out.1; have := HH.out.2.1; have := HH.out.2.2.1; unfold wrap64; omega
      go_wp2_with (refine wpList_store_row rfl 38 (.tmp 3) (.tmp 23) rfl (w.heap.size + 1) (cw s2.l) rfl rfl 38 _ h1 hi8.out rfl (cw_one _) ?_)
      refine ⟨⟨j + 1, a2, s2, by have := HH.out.1; have := HH.out.2.1; omega, HH.out.2.2.1, by rw [y7], Lib.hid HH.out.2.2.2.1.symm, setRow_heap _ _ _ _ _ _ h1, Lib.hid ((setRow_other _ _ _ _ (by omega)).trans h0.out), Lib.hid (Below.setRow' hb.out (by omega) _)⟩, ?_⟩
      have e1 := HH.out.1; have e2 := HH.out.2.1; have e3 := HH.out.2.2.1
      rw [y7]; simp [intOf]; omega
    · obtain rfl : j = nb := by omega
      have hge : ¬ (a : Int) < (P.size : Int) := by omega
      have hq : w.heap.size + 1 < wr.heap.size := h1.lt
      have hQ : HM (wr.alloc (.cells (hcells (List.replicate 32 0)) 29)) wr.heap.size (List.replicate 32 0) := heap_alloc_new _ _
      have hX2 := h1.alloc (.cells (hcells (List.replicate 32 0)) 29)
      have hY2 := HM.alloc h0.out (.cells (hcells (List.replicate 32 0)) 29)
      have hZ2 := hb.out.alloc (by omega) (.cells (hcells (List.replicate 32 0)) 29)
      have hs2 : Hid (out s = sha L) := Lib.hid (by rw [hs.out]; exact HP.out.2.1)
      have HQ := Lib.hid (And.intro hQ (And.intro hX2 (And.intro hY2 hZ2))); clear hQ hX2 hY2 hZ2 h1 h0 hb hpsz hs ha hj hlt
      have hs32 : ∀ l : List UInt8, l.length = 32 → (hcells l).size = 32 := fun l h => by rw [hcells_size]; exact h
      have HS32 := Lib.hid hs32; clear hs32
      have hi32 : Hid ((Tryd.prog.info? 29).map (·.size) = some 32) := Lib.hid (by kernel_rfl)
      go_wp2
      clear hge
      obtain ⟨q, hqq⟩ : ∃ q, wr.heap.size = q := ⟨_, rfl⟩
      rw [hqq] at hq HQ ⊢
      clear hqq
      go_loopw [7] (fun i w2 => ∃ (k : Nat) (kk : Int) (l : List UInt8), k ≤ 32 ∧ kk = (k : Nat) ∧ i = .int .i64 kk ∧ Hid (BW s k l) ∧ HM w2 q l ∧ Has w2 (w.heap.size + 1) 38 s.l ∧ Hid (HM w2 w.heap.size (List.replicate 32 0)) ∧ Hid (Below w.heap.size w w2)) (fun i _ => 32 - (intOf i).toNat)
      case atStart => exact ⟨0, 0, _, by omega, rfl, rfl, Lib.hid (BW.start s), HQ.out.1, HQ.out.2.1, Lib.hid HQ.out.2.2.1, Lib.hid HQ.out.2.2.2⟩
      case round =>
        clear HQ
        obtain ⟨k, kk, l, hk, hkk, rfl, hB, hH, hM, hR, hb⟩ := hrel
        by_cases hlt : k < 32
        · subst hkk
          obtain ⟨m4, hm4⟩ : ∃ m, k % 4 = m := ⟨_, rfl⟩
          obtain ⟨m3, hm3⟩ : ∃ m, 3 - m4 = m := ⟨_, rfl⟩
          obtain ⟨sh, hsh⟩ : ∃ m, 8 * m3 = m := ⟨_, rfl⟩
          have y1 : (k : Int).tmod 4 = (m4 : Int) := by rw [Int.tmod_eq_emod_of_nonneg (by omega)]; omega
          have m44 : m4 < 4 := by omega
          have y2 : 3 - (m4 : Int) = (m3 : Int) := by omega
          have m34 : m3 ≤ 3 := by omega
          have y3 : 8 * (m3 : Int) = (sh : Int) := by omega
          have sh24 : sh ≤ 24 := by omega
          have cw := hM.word (k/4) (by omega)
          have ch := hH.cell k (by rw [hB.out.1]; exact hlt)
          have fh := hH.free k
          have hv := byteOf_eq s k sh (by omega)
          have hH2 := hH.set k (SH.byteOf s.l k)
          have hM2 := hM.setOther (c := q) (by omega) k (.int .u8 ((SH.byteOf s.l k).toNat : Nat))
          have hR2 := Lib.hid (HM.setOther hR.out (c := q) (by omega) k (.int .u8 ((SH.byteOf s.l k).toNat : Nat)))
          have hb2 := Lib.hid (hb.out.setCell (p := ⟨q, k, none⟩) (by simp; omega) (.int .u8 ((SH.byteOf s.l k).toNat : Nat)))
          have HH := Lib.hid (And.intro hH2 (And.intro hM2 (hB.out.step hlt))); clear hH2 hM2 hH hM hR hb hB hsh hm4 hm3
          go_wp2
          exact ⟨⟨k + 1, _, _, by omega, by simp, rfl, Lib.hid HH.out.2.2, HH.out.1, HH.out.2.1, hR2, hb2⟩, by simp [intOf]; omega⟩
        · obtain rfl : k = 32 := by omega
          obtain rfl : kk = 32 := by omega
          have e := hB.out.done
          rw [hs2.out] at e
          rw [e] at hH
          clear e hB hkk hlt hk
          have hl : (sha L).length = 32 := by simp [sha, out]
          obtain ⟨l2, hl2⟩ : ∃ l2, sha L = l2 := ⟨_, rfl⟩
          rw [hl2] at hH hl
          have HL := Lib.hid hl2
          have hsz : Hid ((Tryd.prog.info? 29).map (·.size) = some (hcells l2).size) := Lib.hid (by rw [HS32.out l2 hl]; exact hi32.out)
          have hsz2 : Hid ((hcells (List.replicate 32 0)).size = (hcells l2).size) := Lib.hid (by rw [HS32.out l2 hl]; rfl)
          have hR2 := hR.out
          clear hl hl2 hs2 hM
          go_wp2_with (first | (refine wpList_load_row rfl 29 (.tmp 6) rfl q rfl 29 (hcells l2) (0, 0) _ hH Tryd.underlying29 rfl hsz.out ?_) | (refine wpList_store_row rfl 29 (.tmp 2) (.tmp 40) rfl w.heap.size (hcells l2) rfl rfl 29 _ hR2 hsz.out hsz2.out (hcells_one _) ?_))
          refine bodyPost_ret (results_cell_row rfl _ _ w.heap.size _ (hcells l2) _ _ rfl (setRow_heap _ _ _ _ _ _ hR2) Tryd.underlying29 rfl hsz.out) rfl ?_
          exact ⟨by rw [HP.out.2.2, HL.out], Below.setRow' hb.out (Nat.le_refl _) _⟩
end Go.Proofs.YtkniimhgipdbaaaDoor
