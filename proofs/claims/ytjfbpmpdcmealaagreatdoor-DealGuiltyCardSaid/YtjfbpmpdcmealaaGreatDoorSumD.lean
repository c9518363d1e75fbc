/-
  The walks of digest.message's sum, and of digest.Sum.
-/
import Derived.Test.YtjfbpmpdcmealaaGreatDoorPad
import Derived.Deep.RegionWith
namespace Go.Proofs.YtjfbpmpdcmealaaGreatDoor
open Go.RowKit SH
/-- a hash's bytes as a value -/
def hcells (l : List UInt8) : Array Value := (l.map fun b => Value.int .u8 (b.toNat : Nat)).toArray
abbrev hval (l : List UInt8) : Value := .agg (hcells l)
theorem hcells_size (l : List UInt8) : (hcells l).size = l.length := by simp [hcells]
theorem hcells_one (l : List UInt8) : (hcells l).all (·.oneCell') = true := by
  rw [Array.all_eq_true_iff_forall_mem]
  intro v hv
  simp [hcells] at hv
  obtain ⟨x, _, rfl⟩ := hv
  rfl
theorem hcells_get (l : List UInt8) (j : Nat) (h : j < l.length) : (hcells l)[j]? = some (.int .u8 (gb l j : Nat)) := by
  simp [hcells, gb, List.getD_eq_getElem?_getD, h]
theorem hcells_set (l : List UInt8) (j : Nat) (b : UInt8) : (hcells l).setIfInBounds j (.int .u8 (b.toNat : Nat)) = hcells (l.set j b) := by
  apply Array.ext'
  simp [hcells, List.map_set]
/-- bytes l lie in block b as a hash -/
def HM (w : World) (b : Nat) (l : List UInt8) : Prop := w.heap[b]? = some (.cells (hcells l) 98 (0, 0))
theorem HM.lt {w : World} {b : Nat} {l : List UInt8} (h : HM w b l) : b < w.heap.size := (Array.getElem?_eq_some_iff.1 h).1
theorem HM.cell {w : World} {b : Nat} {l : List UInt8} (h : HM w b l) (j : Nat) (hj : j < l.length) : w.cell? ⟨b, j, none⟩ = some (.int .u8 (gb l j : Nat)) := by
  rw [cell_of_row w b j _ _ _ h, hcells_get l j hj]
theorem HM.free {w : World} {b : Nat} {l : List UInt8} (h : HM w b l) (j : Nat) : w.frozen? ⟨b, j, none⟩ = false := frozen_of_row w b j _ _ h
theorem HM.set {w : World} {b : Nat} {l : List UInt8} (h : HM w b l) (j : Nat) (x : UInt8) : HM (w.setCell ⟨b, j, none⟩ (.int .u8 (x.toNat : Nat))) b (l.set j x) := by
  unfold HM; rw [heap_setCell_same w b j _ _ _ h, hcells_set]
theorem HM.setOther {w : World} {b c : Nat} {l : List UInt8} (h : HM w b l) (hc : b ≠ c) (j : Nat) (v : Value) : HM (w.setCell ⟨c, j, none⟩ v) b l := by
  unfold HM; rw [heap_setCell_other w _ b _ hc]; exact h
theorem HM.alloc {w : World} {b : Nat} {l : List UInt8} (h : HM w b l) (o : Obj) : HM (w.alloc o) b l := by
  have hl := h.lt
  unfold HM at h ⊢; rw [heap_alloc_old _ _ hl]; exact h
theorem HM.below {w w' : World} {b B : Nat} {l : List UInt8} (h : HM w b l) (k : Below B w w') (hb : b < B) : HM w' b l := (k.block b hb).trans h
theorem MH.alloc {w : World} {b : Nat} {s : St} {r : ByteArray} {n : Nat} (h : MH w b s r n) (o : Obj) : MH (w.alloc o) b s r n := by
  have hl := h.lt
  unfold MH at h ⊢; rw [heap_alloc_old _ _ hl]; exact h
theorem zeros_h (n : Nat) : Array.replicate n (Value.int .u8 0) = hcells (List.replicate n 0) := by
  apply Array.ext'
  simp [hcells]
theorem pad_blocks (L : List UInt8) : (L ++ pad L.length).length / 64 = (L.length + 72) / 64 := by
  rw [List.length_append]
  have : (pad L.length).length = 9 + zeros L.length := by simp [pad, len8]; omega
  rw [this]; unfold zeros; omega
/-- i bytes of the hash of a state, then what was there -/
def BW (s : St) (i : Nat) (l : List UInt8) : Prop := l.length = 32 ∧ ∀ j, j < i → l.getD j 0 = SH.byteOf s.l j
theorem BW.start (s : St) : BW s 0 (List.replicate 32 0) := ⟨by simp, fun j hj => by omega⟩
theorem BW.step {s : St} {i : Nat} {l : List UInt8} (h : BW s i l) (hi : i < 32) : BW s (i+1) (l.set i (SH.byteOf s.l i)) := by
  refine ⟨by rw [List.length_set]; exact h.1, fun j hj => ?_⟩
  have hl := h.1
  by_cases e : j = i
  · subst e; simp [hl, hi]
  · rw [List.getD_eq_getElem?_getD, List.getElem?_set_ne (Ne.symm e), ← List.getD_eq_getElem?_getD]
    exact h.2 j (by omega)
theorem BW.done {s : St} {l : List UInt8} (h : BW s 32 l) : l = out s := by
  apply List.ext_getElem
  · rw [h.1]; simp [out]
  · intro j a b
    have := h.2 j (by rw [h.1] at a; exact a)
    rw [List.getD_eq_getElem?_getD, List.getElem?_eq_getElem a] at this
    have hj : j < 32 := by rw [h.1] at a; exact a
    simpa [out, hj] using this
theorem byteOf_eq (s : St) (i sh : Nat) (h : sh = 24 - i % 4 * 8) : ((gw s.l (i/4) : Int) / 2 ^ sh) % 256 = ((SH.byteOf s.l i).toNat : Nat) := by
  subst h
  rw [show (SH.byteOf s.l i).toNat = gw s.l (i/4) / 2 ^ (24 - i%4*8) % 256 from rfl]
  simp
theorem MH.word {w : World} {b : Nat} {s : St} {r : ByteArray} {n : Nat} (h : MH w b s r n) (j : Nat) (hj : j < 8) : w.cell? ⟨b, j, none⟩ = some (.int .u32 (gw s.l j : Nat)) := by
  rw [h.cell j]
  match j, hj with
  | 0, _ => rfl
  | 1, _ => rfl
  | 2, _ => rfl
  | 3, _ => rfl
  | 4, _ => rfl
  | 5, _ => rfl
  | 6, _ => rfl
  | 7, _ => rfl
/-- the ten cells of a message -/
abbrev MS (w : World) (b : Nat) (s : St) (r : ByteArray) (n : Nat) : Prop :=
    w.cell? ⟨b, 0, none⟩ = some (.int .u32 (s.a : Nat)) ∧ w.cell? ⟨b, 1, none⟩ = some (.int .u32 (s.b : Nat)) ∧ w.cell? ⟨b, 2, none⟩ = some (.int .u32 (s.c : Nat)) ∧ w.cell? ⟨b, 3, none⟩ = some (.int .u32 (s.d : Nat)) ∧
    w.cell? ⟨b, 4, none⟩ = some (.int .u32 (s.e : Nat)) ∧ w.cell? ⟨b, 5, none⟩ = some (.int .u32 (s.f : Nat)) ∧ w.cell? ⟨b, 6, none⟩ = some (.int .u32 (s.g : Nat)) ∧ w.cell? ⟨b, 7, none⟩ = some (.int .u32 (s.h : Nat)) ∧
    w.cell? ⟨b, 8, none⟩ = some (.string r) ∧ w.cell? ⟨b, 9, none⟩ = some (.int .i64 n)
theorem HM.set8o {w : World} {b c : Nat} {l : List UInt8} (h : HM w b l) (hc : b ≠ c) (t : St) : HM (Go.Proofs.YtjfbpmpdcmealaaGreatDoor.set8 w c t) b l :=
  ((((((((h.setOther hc _ _).setOther hc _ _).setOther hc _ _).setOther hc _ _).setOther hc _ _).setOther hc _ _).setOther hc _ _).setOther hc _ _)
theorem add_pad (w : World) (L : List UInt8) (r P : ByteArray) (hr : r.data.toList = L.drop (64 * (L.length / 64))) (hP : P.data.toList = pad L.length) (hn : L.length ≤ 140737488355328) (hC : CB w) :
    Calls Tryz.prog 99 #[mval (blocks square L (L.length / 64)) r L.length, .string P] w fun e w' =>
      ∃ (s2 : St) (r2 : ByteArray) (n2 : Nat), Hid (out s2 = sha L) ∧ e = .returned (mval s2 r2 n2) ∧ Below w.heap.size w w' := by
  refine (add_any w L r P hr (by rw [← size_toList, hP]; simp [pad, len8]; have : zeros L.length < 64 := Nat.mod_lt _ (by decide); omega) hC).mono ?_
  rintro e w' ⟨r2, _, rfl, b⟩
  refine ⟨_, r2, _, Lib.hid ?_, rfl, b⟩
  rw [hP, pad_blocks]; rfl
set_option maxRecDepth 100000 in
set_option maxHeartbeats 2000000 in
theorem sum_any (w : World) (L : List UInt8) (r : ByteArray) (hr : r.data.toList = L.drop (64 * (L.length / 64))) (hn : L.length ≤ 140737488355328) (hC : CB w) :
    Calls Tryz.prog 100 #[mval (blocks square L (L.length / 64)) r L.length] w fun e w' => e = .returned (hval (sha L)) ∧ Below w.heap.size w w' := by
  have hg := hC.lt
  have hpad := fun W => padding_any W L.length (by omega)
  have hadd := fun W (P : ByteArray) (hP : P.data.toList = pad L.length) (h : CB W) => add_pad W L r P hr hP hn h
  obtain ⟨s0, hs0⟩ : ∃ s0, blocks square L (L.length / 64) = s0 := ⟨_, rfl⟩
  obtain ⟨n, hnn⟩ : ∃ n, L.length = n := ⟨_, rfl⟩
  rw [hs0] at hadd ⊢
  have HS := Lib.hid (And.intro hnn (And.intro hpad hadd)); clear hpad hadd hs0 hr hn
  rw [hnn] at HS ⊢
  clear hnn
  have hi : Hid ((Tryz.prog.info? 121).map (·.size) = some 10) := Lib.hid (by kernel_rfl)
  have hi32 : Hid ((Tryz.prog.info? 98).map (·.size) = some 32) := Lib.hid (by kernel_rfl)
  obtain ⟨W, hW⟩ : ∃ W, (w.alloc (.cells (mcells s0 r n) 121)).alloc (.cells (hcells (List.replicate 32 0)) 98) = W := ⟨_, rfl⟩
  have h0 : MH W w.heap.size s0 r n := by rw [← hW]; exact heap_alloc2_old _ _ _
  have h1 : HM W (w.heap.size + 1) (List.replicate 32 0) := by rw [← hW]; exact heap_alloc2_new _ _ _
  have hb : Below w.heap.size w W := by rw [← hW]; exact ((Below.refl w.heap.size w).alloc (Nat.le_refl _) _).alloc (by simp) _
  have hcb : CB W := hC.below hb hg
  have HI := Lib.hid (And.intro h0 (And.intro h1 (And.intro hb hcb))); clear h0 h1 hb hcb hC
  go_enter Tryz.func100, Tryz.ntmps100
  go_upto_region 1 with fail
  change Code.wp _ _ _ _ ((w.alloc (.cells (mcells s0 r n) 121)).alloc (.cells (hcells (List.replicate 32 0)) 98))
  rw [hW]
  clear hW
  obtain ⟨h0, h1, hb, hcb⟩ := HI.out
  clear HI
  obtain ⟨c0, c1, c2, c3, c4, c5, c6, c7, c8, c9⟩ := (show MS W.drew w.heap.size s0 r n from h0.st)
  have hsz : w.heap.size + 1 < W.drew.heap.size := h1.lt
  have HK := Lib.hid (And.intro h0 (And.intro h1 (And.intro hb hcb))); clear h0 h1 hb hcb
  have k6 : ∀ w6 w5 : World, Below W.drew.heap.size W.drew w5 → Below w5.heap.size w5 w6 → MH w6 w.heap.size s0 r n ∧ HM w6 (w.heap.size + 1) (List.replicate 32 0) ∧ Below w.heap.size w w6 := fun w6 w5 b5 b6 => by
    have hs := b5.size
    exact ⟨(MH.below (w := W.drew) HK.out.1 b5 (by omega)).below b6 (by omega), (HM.below (w := W.drew) HK.out.2.1 b5 (by omega)).below b6 (by omega), (HK.out.2.2.1.drew.trans (b5.mono (by omega))).trans (b6.mono (by omega))⟩
  have K6 := Lib.hid k6; clear k6
  go_region_with (first
      | (go_at_call 117; go_must (go_fit (HS.out.2.1 _)); rintro e w5 ⟨P, hP, rfl, b5⟩; have h5 : MH w5 w.heap.size s0 r n := MH.below (w := W.drew) HK.out.1 b5 (by omega); obtain ⟨d0, d1, d2, d3, d4, d5, d6, d7, d8, d9⟩ := h5.st)
      | (go_at_call 99; go_must (go_fit (HS.out.2.2 w5 P hP (CB.below (u := W.drew) HK.out.2.2.2 b5 (Nat.lt_trans hg (by omega))))); rintro e w6 ⟨s2, r2, n2, hs2, rfl, b6⟩; obtain ⟨h6, h61, h62⟩ := K6.out w6 w5 b5 b6; obtain ⟨e0, e1, e2, e3, e4, e5, e6, e7, e8, e9⟩ := h6.st; have f0 := h6.free 0; have f1 := h6.free 1; have f2 := h6.free 2; have f3 := h6.free 3; have f4 := h6.free 4; have f5 := h6.free 5; have f6 := h6.free 6; have f7 := h6.free 7; have f8 := h6.free 8; have f9 := h6.free 9; dsimp only [mval, mcells]))
  all_goals
    have hX : MH (((set8 w6 w.heap.size s2).setCell ⟨w.heap.size, 8, none⟩ (.string r2)).setCell ⟨w.heap.size, 9, none⟩ (.int .i64 (n2 : Nat))) w.heap.size s2 r2 n2 := ((h6.set8 s2).rest r2).size n2
    have hY : HM (((set8 w6 w.heap.size s2).setCell ⟨w.heap.size, 8, none⟩ (.string r2)).setCell ⟨w.heap.size, 9, none⟩ (.int .i64 (n2 : Nat))) (w.heap.size + 1) (List.replicate 32 0) := ((HM.set8o h61 (by omega) s2).setOther (by omega) _ _).setOther (by omega) _ _
    have hZ : Below w.heap.size w (((set8 w6 w.heap.size s2).setCell ⟨w.heap.size, 8, none⟩ (.string r2)).setCell ⟨w.heap.size, 9, none⟩ (.int .i64 (n2 : Nat))) := ((h62.trans (set8_below w6 _ s2)).setCell (p := ⟨w.heap.size, 8, none⟩) (Nat.le_refl _) _).setCell (p := ⟨w.heap.size, 9, none⟩) (Nat.le_refl _) _
    change Exit.then _ _ Exit.normal _ (((set8 w6 w.heap.size s2).setCell ⟨w.heap.size, 8, none⟩ (.string r2)).setCell ⟨w.heap.size, 9, none⟩ (.int .i64 (n2 : Nat)))
    generalize ((set8 w6 w.heap.size s2).setCell ⟨w.heap.size, 8, none⟩ (.string r2)).setCell ⟨w.heap.size, 9, none⟩ (.int .i64 (n2 : Nat)) = X at *
    clear c0 c1 c2 c3 c4 c5 c6 c7 c8 c9 d0 d1 d2 d3 d4 d5 d6 d7 d8 d9 e0 e1 e2 e3 e4 e5 e6 e7 e8 e9 f0 f1 f2 f3 f4 f5 f6 f7 f8 f9 h6 h61 h62 h5 b5 b6 K6 HK hsz hP
    have hq : w.heap.size + 1 < X.heap.size := hY.lt
    have hQ : HM (X.alloc (.cells (hcells (List.replicate 32 0)) 98)) X.heap.size (List.replicate 32 0) := heap_alloc_new _ _
    have hX2 := hX.alloc (.cells (hcells (List.replicate 32 0)) 98)
    have hY2 := hY.alloc (.cells (hcells (List.replicate 32 0)) 98)
    have hZ2 := hZ.alloc (by omega) (.cells (hcells (List.replicate 32 0)) 98)
    have HQ := Lib.hid (And.intro hQ (And.intro hX2 (And.intro hY2 hZ2))); clear hQ hX2 hY2 hZ2 hX hY hZ
    have hs32 : ∀ l : List UInt8, l.length = 32 → (hcells l).size = 32 := fun l h => by rw [hcells_size]; exact h
    have HS32 := Lib.hid hs32; clear hs32
    go_wp2
    go_loopw [10] (fun i wr => ∃ (k : Nat) (kk : Int) (l : List UInt8), k ≤ 32 ∧ kk = (k : Nat) ∧ i = .int .i64 kk ∧ Hid (BW s2 k l) ∧ HM wr X.heap.size l ∧ MH wr w.heap.size s2 r2 n2 ∧ Hid (HM wr (w.heap.size + 1) (List.replicate 32 0)) ∧ Hid (Below w.heap.size w wr)) (fun i _ => 32 - (intOf i).toNat)
    case atStart => exact ⟨0, 0, _, by omega, rfl, rfl, Lib.hid (BW.start s2), HQ.out.1, HQ.out.2.1, Lib.hid HQ.out.2.2.1, Lib.hid HQ.out.2.2.2⟩
    case round =>
      clear HQ
      obtain ⟨k, kk, l, hk, hkk, rfl, hB, hH, hM, hR, hb⟩ := hrel
      by_cases hlt : k < 32
      · subst hkk
        obtain ⟨m4, hm4⟩ : ∃ m, k % 4 = m := ⟨_, rfl⟩
        obtain ⟨sh, hsh⟩ : ∃ m, 24 - m4 * 8 = m := ⟨_, rfl⟩
        have y1 : (k : Int).tmod 4 = (m4 : Int) := by rw [Int.tmod_eq_emod_of_nonneg (by omega)]; omega
        have m44 : m4 < 4 := by omega
        have y2 : 24 - (m4 : Int) * 8 = (sh : Int) := by omega
        have sh24 : sh ≤ 24 := by omega
        have cw := hM.word (k/4) (by omega)
        have ch := hH.cell k (by rw [hB.out.1]; exact hlt)
        have fh := hH.free k
        have hv := byteOf_eq s2 k sh (by rw [hm4]; exact hsh.symm)
        have hH2 := hH.set k (SH.byteOf s2.l k)
        have hM2 := hM.setOther (c := X.heap.size) (by omega) k (.int .u8 ((SH.byteOf s2.l k).toNat : Nat))
        have hR2 := Lib.hid (hR.out.setOther (c := X.heap.size) (by omega) k (.int .u8 ((SH.byteOf s2.l k).toNat : Nat)))
        have hb2 := Lib.hid (hb.out.setCell (p := ⟨X.heap.size, k, none⟩) (by simp; omega) (.int .u8 ((SH.byteOf s2.l k).toNat : Nat)))
        have HH := Lib.hid (And.intro hH2 (And.intro hM2 (hB.out.step hlt))); clear hH2 hM2 hH hM hR hb hB hsh hm4
        go_wp2
        exact ⟨⟨k + 1, _, _, by omega, by simp, rfl, Lib.hid HH.out.2.2, HH.out.1, HH.out.2.1, hR2, hb2⟩, by simp [intOf]; omega⟩
      · obtain rfl : k = 32 := by omega
        obtain rfl : kk = 32 := by omega
        have e := hB.out.done
        rw [hs2.out] at e
        rw [e] at hH
        clear e hB hkk hlt hk
        have hl : (sha L).length = 32 := by simp [sha, out]
        obtain ⟨l2, hl2⟩ : ∃ l2, sha L = l2 := ⟨_, rfl⟩
        rw [hl2] at hH hl
        have HL := Lib.hid hl2
        have hsz : Hid ((Tryz.prog.info? 98).map (·.size) = some (hcells l2).size) := Lib.hid (by rw [HS32.out l2 hl]; exact hi32.out)
        have hsz2 : Hid ((hcells (List.replicate 32 0)).size = (hcells l2).size) := Lib.hid (by rw [HS32.out l2 hl]; rfl)
        have hR2 := hR.out
        clear hl hl2 hs2 hM
        go_wp2_with (first | (refine wpList_load_row rfl 98 (.tmp 3) rfl X.heap.size rfl 98 (hcells l2) (0, 0) _ hH Tryz.underlying98 rfl hsz.out ?_) | (refine wpList_store_row rfl 98 (.tmp 2) (.tmp 27) rfl (w.heap.size + 1) (hcells l2) rfl rfl 98 _ hR2 hsz.out hsz2.out (hcells_one _) ?_))
        refine bodyPost_ret (results_cell_row rfl _ _ (w.heap.size + 1) _ (hcells l2) _ _ rfl (setRow_heap _ _ _ _ _ _ hR2) Tryz.underlying98 rfl hsz.out) rfl ?_
        exact ⟨by rw [HL.out], Below.setRow' hb.out (by omega) _⟩
set_option maxRecDepth 100000 in
set_option maxHeartbeats 1000000 in
theorem Sum_any (w : World) (t : ByteArray) (hn : t.size ≤ 140737488355328) (hS : SQ w) (hC : CB w) :
    Calls Tryz.prog 69 #[.string t] w fun e w' => e = .returned (hval (sha t.data.toList)) ∧ Below w.heap.size w w' := by
  have hgC := hC.lt
  have hgS : 0 < w.heap.size := SQ.lt hS
  have hl : (sha t.data.toList).length = 32 := by simp [sha, out]
  obtain ⟨l2, hl2⟩ : ∃ l2, sha t.data.toList = l2 := ⟨_, rfl⟩
  have hi32 : Hid ((Tryz.prog.info? 98).map (·.size) = some (hcells l2).size) := Lib.hid (by rw [hcells_size, ← hl2, hl]; kernel_rfl)
  have hsz2 : Hid ((hcells (List.replicate 32 0)).size = (hcells l2).size) := Lib.hid (by rw [hcells_size, hcells_size, ← hl2, hl]; rfl)
  obtain ⟨W, hW⟩ : ∃ W, w.alloc (.cells (hcells (List.replicate 32 0)) 98) = W := ⟨_, rfl⟩
  have h1 : HM W w.heap.size (List.replicate 32 0) := by rw [← hW]; exact heap_alloc_new _ _
  have hb : Below w.heap.size w W := by rw [← hW]; exact (Below.refl _ w).alloc (Nat.le_refl _) _
  have hsW : W.heap.size = w.heap.size + 1 := by rw [← hW]; simp
  have hSW : SQ W := SQ.below hS hb hgS
  have hCW : CB W := hC.below hb hgC
  have HL := Lib.hid hl2
  have HK := Lib.hid (And.intro h1 (And.intro hb (And.intro hsW (And.intro hSW (And.intro hCW (And.intro hl2 (And.intro hn (And.intro hS hC)))))))); clear h1 hb hsW hSW hCW hl hl2 hn hS hC
  go_enter Tryz.func69, Tryz.ntmps69
  go_upto_region 1 with fail
  change Code.wp _ _ _ _ (w.alloc (.cells (hcells (List.replicate 32 0)) 98))
  rw [hW]
  clear hW
  have hsW := HK.out.2.2.1
  go_wp2_with fail
  go_must (go_fit (begin_any W HK.out.2.2.2.1))
  rintro e w1 ⟨rfl, b1⟩
  have hC1 : CB w1 := CB.below HK.out.2.2.2.2.1 b1 (by omega)
  go_wp2_with fail
  have ha := add_any w1 [] ⟨#[]⟩ t rfl (by have := HK.out.2.2.2.2.2.2.1; simp; omega) hC1
  go_must (go_fit ha)
  clear ha
  rintro e w2 ⟨r2, hr2, rfl, b2⟩
  rw [List.nil_append] at hr2 ⊢
  have hC2 : CB w2 := CB.below hC1 b2 (by have := b1.size; omega)
  go_wp2_with fail
  go_must (go_fit (sum_any w2 t.data.toList r2 hr2 (by rw [size_toList]; exact HK.out.2.2.2.2.2.2.1) hC2))
  rintro e w3 ⟨rfl, b3⟩
  rw [HL.out]
  have h3 : HM w3 w.heap.size (List.replicate 32 0) := ((HM.below HK.out.1 b1 (by omega)).below b2 (by have := b1.size; omega)).below b3 (by have := b1.size; have := b2.size; omega)
  have hb3 : Below w.heap.size w w3 := ((HK.out.2.1.trans (b1.mono (by omega))).trans (b2.mono (by have := b1.size; omega))).trans (b3.mono (by have := b1.size; have := b2.size; omega))
  have HB3 := Lib.hid hb3; clear b1 b2 b3 hr2 hC1 hC2 hb3 hsW HK
  go_wp2_with (refine wpList_store_row rfl 98 (.tmp 2) (.tmp 6) rfl w.heap.size (hcells l2) rfl rfl 98 _ h3 hi32.out hsz2.out (hcells_one _) ?_)
  refine bodyPost_ret (results_cell_row rfl _ _ w.heap.size _ (hcells l2) _ _ rfl (setRow_heap _ _ _ _ _ _ h3) Tryz.underlying98 rfl hi32.out) rfl ?_
  exact ⟨by rw [HL.out], Below.setRow' HB3.out (Nat.le_refl _) _⟩
end Go.Proofs.YtjfbpmpdcmealaaGreatDoor
