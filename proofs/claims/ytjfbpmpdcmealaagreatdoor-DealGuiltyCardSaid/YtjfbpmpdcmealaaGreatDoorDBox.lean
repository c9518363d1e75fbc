/-
  The walks of deal.pad, (box).seal and (box).open.
-/
import Derived.Test.YtjfbpmpdcmealaaGreatDoorDValue
import Derived.Laws.CopyOwn
namespace Go.Proofs.YtjfbpmpdcmealaaGreatDoor.D7
open Go.RowKit GM SH G4 E6 D7P
/-- bytes lie in block b as a box -/
def BM (w : World) (b : Nat) (l : List UInt8) : Prop := w.heap[b]? = some (.cells (hcells l) 67 (0, 0))
theorem BM.lt {w : World} {b : Nat} {l : List UInt8} (h : BM w b l) : b < w.heap.size := (Array.getElem?_eq_some_iff.1 h).1
theorem BM.cell {w : World} {b : Nat} {l : List UInt8} (h : BM w b l) (j : Nat) (hj : j < l.length) : w.cell? ⟨b, j, none⟩ = some (.int .u8 (gb l j : Nat)) := by
  rw [cell_of_row w b j _ _ _ h, hcells_get l j hj]
theorem BM.free {w : World} {b : Nat} {l : List UInt8} (h : BM w b l) (j : Nat) : w.frozen? ⟨b, j, none⟩ = false := frozen_of_row w b j _ _ h
theorem BM.set {w : World} {b : Nat} {l : List UInt8} (h : BM w b l) (j : Nat) (x : UInt8) : BM (w.setCell ⟨b, j, none⟩ (.int .u8 (x.toNat : Nat))) b (l.set j x) := by
  unfold BM; rw [heap_setCell_same w b j _ _ _ h, hcells_set]
theorem BM.drew {w : World} {b : Nat} {l : List UInt8} (h : BM w b l) : BM w.drew b l := h
theorem infoB : (Tryz.prog.info? 67).map (·.size) = some 16 := by kernel_rfl
theorem infoH : (Tryz.prog.info? 98).map (·.size) = some 32 := by kernel_rfl
theorem gb_uint (l : List UInt8) (j : Nat) : gb l j = (l[j]?.getD 0).toNat := by unfold gb; rw [List.getD_eq_getElem?_getD]
/-- a byte combined with a byte of a number -/
theorem xor8 (g : UInt8) (n : Int) : bits .xor .u8 (g.toNat : Nat) (IntKind.u8.wrap n) = ((g ^^^ UInt8.ofNat (n % 256).toNat).toNat : Int) := by
  have e1 : (((g.toNat : Nat) : Int) % ((2 ^ 8 : Nat) : Int)).toNat = g.toNat := by have := g.toNat_lt; omega
  have e2 : (IntKind.u8.wrap n % ((2 ^ 8 : Nat) : Int)).toNat = (n % 256).toNat := by rw [IntKind.wrap_u8']; omega
  have key : (BitVec.ofInt 8 (g.toNat : Nat) ^^^ BitVec.ofInt 8 (IntKind.u8.wrap n)).toNat = g.toNat ^^^ (n % 256).toNat := by
    rw [BitVec.toNat_xor, BitVec.toNat_ofInt, BitVec.toNat_ofInt, e1, e2]
  show IntKind.u8.wrap ((BitVec.ofInt 8 (g.toNat : Nat) ^^^ BitVec.ofInt 8 (IntKind.u8.wrap n)).toNat : Nat) = _
  rw [key, IntKind.wrap_u8', UInt8.toNat_xor]
  have h1 := g.toNat_lt
  have h2 : (n % 256).toNat < 256 := by omega
  have h3 : g.toNat ^^^ (n % 256).toNat < 2 ^ 8 := Nat.xor_lt_two_pow h1 h2
  have h4 : (UInt8.ofNat (n % 256).toNat).toNat = (n % 256).toNat := by simp; omega
  rw [h4]; omega
theorem xor8' (g h : UInt8) : bits .xor .u8 (g.toNat : Nat) (h.toNat : Nat) = ((g ^^^ h).toNat : Int) := by
  have h0 := h.toNat_lt
  have := xor8 g (h.toNat : Nat)
  rw [IntKind.wrap_u8', Int.emod_eq_of_lt (by omega) (by omega)] at this
  rw [this]
  congr 2
  simp
/-- one byte of a box is combined -/
theorem sl_step (w : World) (b : Nat) (y : Int) (p : List UInt8) (k j : Nat) (hj : j = 7 - k) (h : BM w b (sl y p k)) (v : Int) (hv : v = (((sl y p k)[j]?.getD 0 ^^^ yb y k).toNat : Int)) : BM (w.setCell ⟨b, j, none⟩ (.int .u8 v)) b (sl y p (k+1)) := by
  subst hj hv
  exact h.set (7 - k) _
set_option maxRecDepth 100000 in
set_option maxHeartbeats 4000000 in
theorem pad_any (w : World) (k i : Int) (hk : i64 k) (hi : i64 i) (hT : TS w) :
    Calls Tryz.prog 37 #[.int .i64 k, .int .i64 i] w fun e w' => e = .returned (hval (pd k i)) ∧ Below w.heap.size w w' := by
  have I1 := Lib.hid fun W (h : TS W) => itoa_any W k hk h
  have I2 := Lib.hid fun W (h : TS W) => itoa_any W i hi h
  have z1 := dcm_size k hk
  have z2 := dcm_size i hi
  have S1 := Lib.hid fun W (h : TS W) => Sum_any W (padt k i) (by unfold padt; simp only [ByteArray.size_append]; rw [show (⟨#[98, 111, 120, 47]⟩ : ByteArray).size = 4 from rfl, show (⟨#[47]⟩ : ByteArray).size = 1 from rfl]; omega) h.tb.sq h.tb.cb
  have E := Lib.hid (show pd k i = (sha (padt k i).data.toList).take 16 from rfl)
  have hl : (sha (padt k i).data.toList).length = 32 := sha_len _
  have EP : (⟨#[98, 111, 120, 47]⟩ : ByteArray) ++ dcm k ++ (⟨#[47]⟩ : ByteArray) ++ dcm i = padt k i := rfl
  generalize pd k i = R at *
  obtain ⟨T, hT2⟩ : ∃ T, padt k i = T := ⟨_, rfl⟩
  rw [hT2] at S1 EP E hl
  obtain ⟨l, hl2⟩ : ∃ l, sha T.data.toList = l := ⟨_, rfl⟩
  rw [hl2] at S1 E hl
  have HE := Lib.hid (And.intro E.out hl); clear E hl hl2 hT2
  generalize dcm k = D at *
  generalize dcm i = F at *
  have t1 : (9223372036854775807 < 4 + D.size) = False := eq_false (by omega)
  have t2 : (9223372036854775807 < 4 + D.size + 1) = False := eq_false (by omega)
  have t3 : (9223372036854775807 < 4 + D.size + 1 + F.size) = False := eq_false (by omega)
  clear z1 z2
  have B0 := Lib.hid ((Below.refl _ w).alloc (Nat.le_refl _) (.cells (hcells (List.replicate 16 0)) 67))
  have R0 := Lib.hid (show BM (w.alloc (.cells (hcells (List.replicate 16 0)) 67)) w.heap.size (List.replicate 16 0) from heap_alloc_new _ _)
  have T0 := Lib.hid (hT.below B0.out); clear hT
  go_enter Tryz.func37, Tryz.ntmps37
  go_upto_region 1 with fail
  change Code.wp _ _ _ _ (w.alloc (.cells (hcells (List.replicate 16 0)) 67))
  generalize w.alloc (.cells (hcells (List.replicate 16 0)) 67) = W0 at *
  go_wp2_with fail
  refine (I1.out _ T0.out).mono ?_
  rintro e w1 ⟨rfl, b1⟩
  have B1 := Lib.hid (B0.out.trans (b1.mono B0.out.size))
  have R1 := Lib.hid (show BM w1 w.heap.size (List.replicate 16 0) from (b1.block _ R0.out.lt).trans R0.out)
  have T1 := Lib.hid (T0.out.below b1); clear b1 B0 R0 T0
  go_wp2_with fail
  refine (I2.out _ T1.out).mono ?_
  rintro e w2 ⟨rfl, b2⟩
  have B2 := Lib.hid (B1.out.trans (b2.mono B1.out.size))
  have R2 := Lib.hid (show BM w2 w.heap.size (List.replicate 16 0) from (b2.block _ R1.out.lt).trans R1.out)
  have T2 := Lib.hid (T1.out.below b2); clear b2 B1 R1 T1
  go_wp2_with fail
  clear EP
  refine (S1.out _ T2.out).mono ?_
  rintro e w3 ⟨rfl, b3⟩
  have B3 := Lib.hid (B2.out.trans (b3.mono B2.out.size))
  have R3 := Lib.hid (show BM w3 w.heap.size (List.replicate 16 0) from (b3.block _ R2.out.lt).trans R2.out); clear b3 B2 R2 T2 t1 t2 t3
  have hin : Hid ((Tryz.prog.info? 98).map (·.size) = some (hcells l).size) := Lib.hid (by rw [hcells_size, HE.out.2]; exact infoH)
  have hrow : Hid ((w3.alloc (.cells (hcells (List.replicate 32 0)) 98)).heap[w3.heap.size]? = some (.cells (hcells (List.replicate 32 0)) 98 (0, 0))) := Lib.hid (heap_alloc_new _ _)
  have hsz : Hid ((hcells (List.replicate 32 0)).size = (hcells l).size) := Lib.hid (by rw [hcells_size, hcells_size, HE.out.2]; rfl)
  go_upto_region 2 with (refine wpList_store_row rfl 98 (.tmp 5) (.tmp 14) rfl w3.heap.size (hcells l) rfl rfl 98 _ hrow.out hin.out hsz.out (hcells_one _) ?_)
  have b4 : Below w3.heap.size w3 ((w3.alloc (.cells (hcells (List.replicate 32 0)) 98)).setRow w3.heap.size (hcells l)) := Below.setRow' ((Below.refl _ w3).alloc (Nat.le_refl _) _) (Nat.le_refl _) _
  have m4 : HM ((w3.alloc (.cells (hcells (List.replicate 32 0)) 98)).setRow w3.heap.size (hcells l)) w3.heap.size l := setRow_heap _ _ _ _ _ _ hrow.out
  try change Code.wp _ _ _ _ ((w3.alloc (.cells (hcells (List.replicate 32 0)) 98)).setRow w3.heap.size (hcells l))
  generalize (w3.alloc (.cells (hcells (List.replicate 32 0)) 98)).setRow w3.heap.size (hcells l) = W4 at *
  have B4 := Lib.hid (B3.out.trans (b4.mono B3.out.size))
  have R4 := Lib.hid (show BM W4 w.heap.size (List.replicate 16 0) from (b4.block _ R3.out.lt).trans R3.out)
  have M4 := Lib.hid m4
  clear b4 m4 hin hrow hsz B3 R3
  generalize w3.heap.size = h3 at *
  have B5 := Lib.hid (B4.out.alloc B4.out.size (.cells (hcells (List.replicate 16 0)) 67))
  have R5 := Lib.hid (show BM (W4.alloc (.cells (hcells (List.replicate 16 0)) 67)) w.heap.size (List.replicate 16 0) from by unfold BM; rw [heap_alloc_old _ _ R4.out.lt]; exact R4.out)
  have M5 := Lib.hid (show HM (W4.alloc (.cells (hcells (List.replicate 16 0)) 67)) h3 l from M4.out.alloc _)
  have N5 := Lib.hid (show BM (W4.alloc (.cells (hcells (List.replicate 16 0)) 67)) W4.heap.size (List.replicate 16 0) from heap_alloc_new _ _)
  have hne : w.heap.size ≠ W4.heap.size := Nat.ne_of_lt R4.out.lt
  have hle : w.heap.size ≤ W4.heap.size := B4.out.size
  go_upto_region 3 with fail
  change Code.wp _ _ _ _ (W4.alloc (.cells (hcells (List.replicate 16 0)) 67))
  generalize W4.alloc (.cells (hcells (List.replicate 16 0)) 67) = W5 at *
  generalize W4.heap.size = g at *
  clear R4 M4 B4
  obtain ⟨C1, hC1⟩ : ∃ C1, ((l.take 16).map fun b => Value.int .u8 (b.toNat : Nat)) = C1 := ⟨_, rfl⟩
  have c1l : C1.length = 16 := by rw [← hC1, List.length_map, List.length_take, HE.out.2]; rfl
  have src : Hid (∀ (j : Nat) (v : Value), C1[j]? = some v → W5.drew.cell? ((⟨h3, 0, none⟩ : Addr).add j) = some v) := Lib.hid (by
    intro j v hv
    have hj : j < 16 := by have := List.getElem?_eq_some_iff.1 hv; obtain ⟨h, _⟩ := this; omega
    have hl := HE.out.2
    have := M5.out.cell j (by omega)
    rw [show ((⟨h3, 0, none⟩ : Addr).add j) = ⟨h3, j, none⟩ by simp [Addr.add]; omega]
    show W5.cell? ⟨h3, j, none⟩ = _
    rw [this, ← hv, ← hC1]
    simp [gb, List.getD_eq_getElem?_getD, hj, show j < l.length by omega])
  have one : Hid (∀ v ∈ C1, v.oneCell' = true) := Lib.hid (by
    intro v hv
    rw [← hC1] at hv
    obtain ⟨b, _, rfl⟩ := List.mem_map.1 hv
    rfl)
  obtain ⟨C0, hC0⟩ : ∃ C0, ((List.replicate 16 (0 : UInt8)).map fun b => Value.int .u8 (b.toNat : Nat)) = C0 := ⟨_, rfl⟩
  have c0l : C0.length = 16 := by rw [← hC0]; rfl
  have n5 : Hid (W5.drew.heap[g]? = some (.cells C0.toArray 67 (0, 0))) := Lib.hid (by rw [← hC0]; exact N5.out)
  have BL : Hid (Below g W5 W5.drew) := Lib.hid (Below.refl _ W5).drew
  have HC := Lib.hid (And.intro hC1 (And.intro hC0 (And.intro c1l c0l))); clear hC1 hC0 c1l c0l N5
  go_region_law ((refine step_copy_splice rfl (.tmp 15) (.tmp 16) 50 50 rfl 5 Tryz.underlying50 (by kernel_rfl) (some ⟨g, 0, none⟩) (some ⟨h3, 0, none⟩) 16 16 32 32 (by simp [Act.eval, Act.put]) (by simp [Act.eval, Act.put]) g 0 C0 67 n5.out C1 (by rw [HC.out.2.2.1]; rfl) (fun _ => ⟨rfl, _, rfl, src.out⟩) (by have := HC.out.2.2; omega) one.out g W5 BL.out (Nat.le_refl _) ?_; intro w6 G6 B6))
  all_goals
    have hsp : splice C0 0 C1 = (l.take 16).map fun b => Value.int .u8 (b.toNat : Nat) := by
      unfold splice
      obtain ⟨e1, e2, e3, e4⟩ := HC.out
      rw [List.take_zero, List.nil_append, List.drop_of_length_le (by omega), List.append_nil, e1]
    have G7 : Hid (BM w6 g R) := Lib.hid (by have := G6.out; rw [hsp] at this; unfold BM hcells; rw [HE.out.1]; exact this)
    have R7 : Hid (BM w6 w.heap.size (List.replicate 16 0)) := Lib.hid ((B6.block _ (show w.heap.size < g by omega)).trans R5.out)
    have B7 := Lib.hid (B5.out.trans (B6.mono hle))
    have Rl : R.length = 16 := by rw [HE.out.1, List.length_take, HE.out.2]; rfl
    have hi7 : Hid ((Tryz.prog.info? 67).map (·.size) = some (hcells R).size) := Lib.hid (by rw [hcells_size, Rl]; exact infoB)
    have hs7 : Hid ((hcells (List.replicate 16 0)).size = (hcells R).size) := Lib.hid (by rw [hcells_size, hcells_size, Rl]; rfl)
    clear Rl hsp G6 B6 B5 R5 M5 src one n5 BL HC
    have g7 := G7.out
    have r7 := R7.out
    go_wp2_with (first | (refine wpList_load_row rfl 67 (.tmp 6) rfl g rfl 67 (hcells R) (0, 0) _ g7 Tryz.underlying67 rfl hi7.out ?_) | (refine wpList_store_row rfl 67 (.tmp 4) (.tmp 18) rfl w.heap.size (hcells R) rfl rfl 67 _ r7 hi7.out hs7.out (hcells_one _) ?_))
    refine bodyPost_ret (results_cell_row rfl _ _ w.heap.size _ (hcells R) _ _ rfl (setRow_heap _ _ _ _ _ _ r7) Tryz.underlying67 rfl hi7.out) rfl ?_
    exact ⟨rfl, Below.setRow' B7.out (Nat.le_refl _) _⟩
/-- what seal keeps -/
structure SI (w : World) (y : Int) (p : List UInt8) (k : Nat) (W : World) : Prop where
  m : BM W w.heap.size (sl y p k)
  b : Below w.heap.size w W
set_option maxRecDepth 100000 in
set_option maxHeartbeats 4000000 in
theorem seal_any (w : World) (p : List UInt8) (y : Int) (hp : p.length = 16) (hy : i64 y) :
    Calls Tryz.prog 38 #[hval p, .int .i64 y] w fun e w' => e = .returned (.string ⟨(bx y p).toArray⟩) ∧ Below w.heap.size w w' := by
  have S0 : SI w y p 0 (w.alloc (.cells (hcells p) 67)) := ⟨heap_alloc_new _ _, (Below.refl _ w).alloc (Nat.le_refl _) _⟩
  have HP := Lib.hid hp; clear hp
  go_enter Tryz.func38, Tryz.ntmps38
  go_upto_region 1 with fail
  change Code.wp _ _ _ _ (w.alloc (.cells (hcells p) 67))
  generalize w.alloc (.cells (hcells p) 67) = W at *
  go_wp2_with fail
  go_loopw [6] (fun i wr => ∃ (k : Nat) (kk : Int), k ≤ 8 ∧ kk = (k : Int) ∧ i = .int .i64 kk ∧ Hid (SI w y p k wr)) (fun i _ => 8 - (intOf i).toNat)
  case atStart => exact ⟨0, 0, by omega, rfl, rfl, Lib.hid S0⟩
  case round =>
    obtain ⟨k, kk, hk, hkk, rfl, HS⟩ := hrel
    by_cases hlt : k < 8
    · have hk8 : k = 0 ∨ k = 1 ∨ k = 2 ∨ k = 3 ∨ k = 4 ∨ k = 5 ∨ k = 6 ∨ k = 7 := by omega
      clear hlt hk
      rcases hk8 with rfl | rfl | rfl | rfl | rfl | rfl | rfl | rfl
      · obtain rfl : kk = 0 := by simpa using hkk
        clear hkk
        have c0 : wr.cell? ⟨w.heap.size, 7, none⟩ = some (.int .u8 ((((sl y p 0)[7]?.getD 0).toNat : Nat) : Int)) := by
          have := HS.out.m.cell 7 (by rw [sl_len, HP.out]; decide); rwa [gb_uint] at this
        have f0 : wr.frozen? ⟨w.heap.size, 7, none⟩ = false := HS.out.m.free 7
        have X := Lib.hid (by have := xor8 ((sl y p 0)[7]?.getD 0) y; rw [IntKind.wrap_u8'] at this; exact this)
        have E := Lib.hid (show UInt8.ofNat (y % 256).toNat = yb y 0 from by unfold yb; simp)
        obtain ⟨gg, hgg⟩ : ∃ gg, (sl y p 0)[7]?.getD 0 = gg := ⟨_, rfl⟩
        rw [hgg] at c0 X
        have HG := Lib.hid hgg; clear hgg
        go_wp2
        go_region
        all_goals
          go_wp2
          refine ⟨⟨1, _, by omega, rfl, rfl, Lib.hid ⟨?_, ?_⟩⟩, by simp [intOf]⟩
          · refine sl_step _ _ y p 0 7 rfl HS.out.m.drew _ ?_
            rw [HG.out, ← E.out]
            exact X.out
          · exact HS.out.b.drew.setCell (p := ⟨w.heap.size, 7, none⟩) (Nat.le_refl _) _
      · obtain rfl : kk = 1 := by simpa using hkk
        clear hkk
        have c0 : wr.cell? ⟨w.heap.size, 6, none⟩ = some (.int .u8 ((((sl y p 1)[6]?.getD 0).toNat : Nat) : Int)) := by
          have := HS.out.m.cell 6 (by rw [sl_len, HP.out]; decide); rwa [gb_uint] at this
        have f0 : wr.frozen? ⟨w.heap.size, 6, none⟩ = false := HS.out.m.free 6
        have X := Lib.hid (xor8 ((sl y p 1)[6]?.getD 0) (y / 256))
        have E := Lib.hid (show UInt8.ofNat (y / 256 % 256).toNat = yb y 1 from rfl)
        obtain ⟨gg, hgg⟩ : ∃ gg, (sl y p 1)[6]?.getD 0 = gg := ⟨_, rfl⟩
        rw [hgg] at c0 X
        have HG := Lib.hid hgg; clear hgg
        go_wp2
        go_region
        all_goals
          go_wp2
          refine ⟨⟨2, _, by omega, rfl, rfl, Lib.hid ⟨?_, ?_⟩⟩, by simp [intOf]⟩
          · refine sl_step _ _ y p 1 6 rfl HS.out.m.drew _ ?_
            rw [HG.out, ← E.out]
            exact X.out
          · exact HS.out.b.drew.setCell (p := ⟨w.heap.size, 6, none⟩) (Nat.le_refl _) _
      · obtain rfl : kk = 2 := by simpa using hkk
        clear hkk
        have c0 : wr.cell? ⟨w.heap.size, 5, none⟩ = some (.int .u8 ((((sl y p 2)[5]?.getD 0).toNat : Nat) : Int)) := by
          have := HS.out.m.cell 5 (by rw [sl_len, HP.out]; decide); rwa [gb_uint] at this
        have f0 : wr.frozen? ⟨w.heap.size, 5, none⟩ = false := HS.out.m.free 5
        have X := Lib.hid (xor8 ((sl y p 2)[5]?.getD 0) (y / 65536))
        have E := Lib.hid (show UInt8.ofNat (y / 65536 % 256).toNat = yb y 2 from rfl)
        obtain ⟨gg, hgg⟩ : ∃ gg, (sl y p 2)[5]?.getD 0 = gg := ⟨_, rfl⟩
        rw [hgg] at c0 X
        have HG := Lib.hid hgg; clear hgg
        go_wp2
        go_region
        all_goals
          go_wp2
          refine ⟨⟨3, _, by omega, rfl, rfl, Lib.hid ⟨?_, ?_⟩⟩, by simp [intOf]⟩
          · refine sl_step _ _ y p 2 5 rfl HS.out.m.drew _ ?_
            rw [HG.out, ← E.out]
            exact X.out
          · exact HS.out.b.drew.setCell (p := ⟨w.heap.size, 5, none⟩) (Nat.le_refl _) _
      · obtain rfl : kk = 3 := by simpa using hkk
        clear hkk
        have c0 : wr.cell? ⟨w.heap.size, 4, none⟩ = some (.int .u8 ((((sl y p 3)[4]?.getD 0).toNat : Nat) : Int)) := by
          have := HS.out.m.cell 4 (by rw [sl_len, HP.out]; decide); rwa [gb_uint] at this
        have f0 : wr.frozen? ⟨w.heap.size, 4, none⟩ = false := HS.out.m.free 4
        have X := Lib.hid (xor8 ((sl y p 3)[4]?.getD 0) (y / 16777216))
        have E := Lib.hid (show UInt8.ofNat (y / 16777216 % 256).toNat = yb y 3 from rfl)
        obtain ⟨gg, hgg⟩ : ∃ gg, (sl y p 3)[4]?.getD 0 = gg := ⟨_, rfl⟩
        rw [hgg] at c0 X
        have HG := Lib.hid hgg; clear hgg
        go_wp2
        go_region
        all_goals
          go_wp2
          refine ⟨⟨4, _, by omega, rfl, rfl, Lib.hid ⟨?_, ?_⟩⟩, by simp [intOf]⟩
          · refine sl_step _ _ y p 3 4 rfl HS.out.m.drew _ ?_
            rw [HG.out, ← E.out]
            exact X.out
          · exact HS.out.b.drew.setCell (p := ⟨w.heap.size, 4, none⟩) (Nat.le_refl _) _
      · obtain rfl : kk = 4 := by simpa using hkk
        clear hkk
        have c0 : wr.cell? ⟨w.heap.size, 3, none⟩ = some (.int .u8 ((((sl y p 4)[3]?.getD 0).toNat : Nat) : Int)) := by
          have := HS.out.m.cell 3 (by rw [sl_len, HP.out]; decide); rwa [gb_uint] at this
        have f0 : wr.frozen? ⟨w.heap.size, 3, none⟩ = false := HS.out.m.free 3
        have X := Lib.hid (xor8 ((sl y p 4)[3]?.getD 0) (y / 4294967296))
        have E := Lib.hid (show UInt8.ofNat (y / 4294967296 % 256).toNat = yb y 4 from rfl)
        obtain ⟨gg, hgg⟩ : ∃ gg, (sl y p 4)[3]?.getD 0 = gg := ⟨_, rfl⟩
        rw [hgg] at c0 X
        have HG := Lib.hid hgg; clear hgg
        go_wp2
        go_region
        all_goals
          go_wp2
          refine ⟨⟨5, _, by omega, rfl, rfl, Lib.hid ⟨?_, ?_⟩⟩, by simp [intOf]⟩
          · refine sl_step _ _ y p 4 3 rfl HS.out.m.drew _ ?_
            rw [HG.out, ← E.out]
            exact X.out
          · exact HS.out.b.drew.setCell (p := ⟨w.heap.size, 3, none⟩) (Nat.le_refl _) _
      · obtain rfl : kk = 5 := by simpa using hkk
        clear hkk
        have c0 : wr.cell? ⟨w.heap.size, 2, none⟩ = some (.int .u8 ((((sl y p 5)[2]?.getD 0).toNat : Nat) : Int)) := by
          have := HS.out.m.cell 2 (by rw [sl_len, HP.out]; decide); rwa [gb_uint] at this
        have f0 : wr.frozen? ⟨w.heap.size, 2, none⟩ = false := HS.out.m.free 2
        have X := Lib.hid (xor8 ((sl y p 5)[2]?.getD 0) (y / 1099511627776))
        have E := Lib.hid (show UInt8.ofNat (y / 1099511627776 % 256).toNat = yb y 5 from rfl)
        obtain ⟨gg, hgg⟩ : ∃ gg, (sl y p 5)[2]?.getD 0 = gg := ⟨_, rfl⟩
        rw [hgg] at c0 X
        have HG := Lib.hid hgg; clear hgg
        go_wp2
        go_region
        all_goals
          go_wp2
          refine ⟨⟨6, _, by omega, rfl, rfl, Lib.hid ⟨?_, ?_⟩⟩, by simp [intOf]⟩
          · refine sl_step _ _ y p 5 2 rfl HS.out.m.drew _ ?_
            rw [HG.out, ← E.out]
            exact X.out
          · exact HS.out.b.drew.setCell (p := ⟨w.heap.size, 2, none⟩) (Nat.le_refl _) _
      · obtain rfl : kk = 6 := by simpa using hkk
        clear hkk
        have c0 : wr.cell? ⟨w.heap.size, 1, none⟩ = some (.int .u8 ((((sl y p 6)[1]?.getD 0).toNat : Nat) : Int)) := by
          have := HS.out.m.cell 1 (by rw [sl_len, HP.out]; decide); rwa [gb_uint] at this
        have f0 : wr.frozen? ⟨w.heap.size, 1, none⟩ = false := HS.out.m.free 1
        have X := Lib.hid (xor8 ((sl y p 6)[1]?.getD 0) (y / 281474976710656))
        have E := Lib.hid (show UInt8.ofNat (y / 281474976710656 % 256).toNat = yb y 6 from rfl)
        obtain ⟨gg, hgg⟩ : ∃ gg, (sl y p 6)[1]?.getD 0 = gg := ⟨_, rfl⟩
        rw [hgg] at c0 X
        have HG := Lib.hid hgg; clear hgg
        go_wp2
        go_region
        all_goals
          go_wp2
          refine ⟨⟨7, _, by omega, rfl, rfl, Lib.hid ⟨?_, ?_⟩⟩, by simp [intOf]⟩
          · refine sl_step _ _ y p 6 1 rfl HS.out.m.drew _ ?_
            rw [HG.out, ← E.out]
            exact X.out
          · exact HS.out.b.drew.setCell (p := ⟨w.heap.size, 1, none⟩) (Nat.le_refl _) _
      · obtain rfl : kk = 7 := by simpa using hkk
        clear hkk
        have c0 : wr.cell? ⟨w.heap.size, 0, none⟩ = some (.int .u8 ((((sl y p 7)[0]?.getD 0).toNat : Nat) : Int)) := by
          have := HS.out.m.cell 0 (by rw [sl_len, HP.out]; decide); rwa [gb_uint] at this
        have f0 : wr.frozen? ⟨w.heap.size, 0, none⟩ = false := HS.out.m.free 0
        have X := Lib.hid (xor8 ((sl y p 7)[0]?.getD 0) (y / 72057594037927936))
        have E := Lib.hid (show UInt8.ofNat (y / 72057594037927936 % 256).toNat = yb y 7 from rfl)
        obtain ⟨gg, hgg⟩ : ∃ gg, (sl y p 7)[0]?.getD 0 = gg := ⟨_, rfl⟩
        rw [hgg] at c0 X
        have HG := Lib.hid hgg; clear hgg
        go_wp2
        go_region
        all_goals
          go_wp2
          refine ⟨⟨8, _, by omega, rfl, rfl, Lib.hid ⟨?_, ?_⟩⟩, by simp [intOf]⟩
          · refine sl_step _ _ y p 7 0 rfl HS.out.m.drew _ ?_
            rw [HG.out, ← E.out]
            exact X.out
          · exact HS.out.b.drew.setCell (p := ⟨w.heap.size, 0, none⟩) (Nat.le_refl _) _
    · obtain rfl : k = 8 := by omega
      obtain rfl : kk = 8 := by omega
      have E := sl_bx y p HP.out
      have hm := HS.out.m
      rw [E] at hm
      have hl : (bx y p).length = 16 := bx_len y p HP.out
      have hB := Lib.hid HS.out.b
      clear E hkk hlt hk HS
      obtain ⟨R, hR⟩ : ∃ R, bx y p = R := ⟨_, rfl⟩
      rw [hR] at hm hl
      have HR := Lib.hid hR; clear hR
      have hcv : (convert 50 9 (.slice (some ⟨w.heap.size, 0, none⟩) 16 16)).run Tryz.prog wr = .ok (.string ⟨R.toArray⟩) wr := by
        have h := run_convert_bytes_back (P := Tryz.prog) wr 50 9 5 ⟨w.heap.size, 0, none⟩ 16 R Tryz.underlying50 Tryz.underlying5 Tryz.underlying9 (fun j hj => by
          have := hm.cell j hj
          rw [show ((⟨w.heap.size, 0, none⟩ : Addr).add j) = ⟨w.heap.size, j, none⟩ by simp [Addr.add]; omega, this]
          simp [gb, List.getD_eq_getElem?_getD, hj])
        rw [hl] at h
        exact h
      clear hm hl
      go_wp2
      go_ret
      exact ⟨by rw [HR.out]; rfl, hB.out⟩
end Go.Proofs.YtjfbpmpdcmealaaGreatDoor.D7
