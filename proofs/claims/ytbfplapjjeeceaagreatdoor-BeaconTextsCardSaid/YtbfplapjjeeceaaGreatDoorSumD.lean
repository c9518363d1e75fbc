/-
  The walks of digest.begin, add: the beginning of a message.
  The walk of digest.message's add.
  Bytes appended one by one behind a converted string: the row's end may bear the conversion's mark.
  The walk of digest.padding.
  The walks of digest.message's sum, and of digest.Sum.
-/
import Derived.Test.YtbfplapjjeeceaaGreatDoorNext
import Derived.StillTailTactics
import Derived.Deep.Cut
import Derived.Lib.FrozenHead2
import Derived.Lib.ConvBytes
import Derived.Laws.AppendOwn
import Derived.Laws.Append
import Derived.OwnWalk
import Derived.Lib.FrozenHead
import Derived.Test.YtbfplapjjeeceaaGreatDoorShelf
import Derived.Deep.RegionWith
namespace Go.Proofs.YtbfplapjjeeceaaGreatDoor
open Go.RowKit SH
/-- the table of the square roots lies in memory -/
def SQ (w : World) : Prop := ∃ t fr, w.heap[0]? = some (.cells (cw square.l) t fr)
theorem SQ.lt {w : World} (h : SQ w) : 0 < w.heap.size := by
  obtain ⟨t, fr, h⟩ := h
  exact (Array.getElem?_eq_some_iff.1 h).1
theorem SQ.below {B : Nat} {u w : World} (h : SQ u) (hb : Below B u w) (hB : 0 < B) : SQ w := by
  obtain ⟨t, fr, h⟩ := h
  exact ⟨t, fr, (hb.block _ hB).trans h⟩
/-- the value of the beginning of a message: its state, the bytes behind the whole blocks, the number of its bytes -/
def mcells (s : St) (r : ByteArray) (n : Nat) : Array Value := #[wd s.a, wd s.b, wd s.c, wd s.d, wd s.e, wd s.f, wd s.g, wd s.h, .string r, .int .i64 n]
abbrev mval (s : St) (r : ByteArray) (n : Nat) : Value := .agg (mcells s r n)
theorem mcells_one (s : St) (r : ByteArray) (n : Nat) : (mcells s r n).all (·.oneCell') = true := by simp [mcells, Value.oneCell']
set_option maxRecDepth 100000 in
set_option maxHeartbeats 1000000 in
theorem begin_any (w : World) (hS : SQ w) :
    Calls Tryz.prog 103 #[] w fun e w' => e = .returned (mval square ⟨#[]⟩ 0) ∧ Below w.heap.size w w' := by
  have hl := hS.lt
  obtain ⟨tq, fq, hS⟩ := hS
  have hS' : (w.alloc (.cells (mcells ⟨0, 0, 0, 0, 0, 0, 0, 0⟩ ⟨#[]⟩ 0) 135)).heap[0]? = some (.cells (cw square.l) tq fq) := by rw [heap_alloc_old _ _ hl]; exact hS
  clear hS hl
  have hi8 : Hid ((Tryz.prog.info? 133).map (·.size) = some 8) := Lib.hid (by kernel_rfl)
  have hi : Hid ((Tryz.prog.info? 135).map (·.size) = some 10) := Lib.hid (by kernel_rfl)
  have hn : (w.alloc (.cells (mcells ⟨0, 0, 0, 0, 0, 0, 0, 0⟩ ⟨#[]⟩ 0) 135)).heap[w.heap.size]? = some (.cells (mcells ⟨0, 0, 0, 0, 0, 0, 0, 0⟩ ⟨#[]⟩ 0) 135 (0, 0)) := heap_alloc_new _ _
  go_enter Tryz.func103, Tryz.ntmps103
  go_wp2_with (first | (refine wpList_load_row rfl 133 (.global 0) rfl 0 rfl tq (cw square.l) fq _ hS' Tryz.underlying133 rfl hi8.out ?_) | (refine wpList_build rfl 135 _ rfl (by kernel_rfl) ?_; change wpList _ _ _ _ (Act.put _ _ (.agg (mcells square ⟨#[]⟩ 0))) _) | (refine wpList_store_row rfl 135 (.tmp 0) (.tmp 2) rfl w.heap.size (mcells square ⟨#[]⟩ 0) rfl rfl 135 _ hn hi.out rfl (mcells_one _ _ _) ?_))
  refine bodyPost_ret (results_cell_row rfl _ _ w.heap.size _ (mcells square ⟨#[]⟩ 0) _ _ rfl (setRow_heap _ _ _ _ _ _ hn) Tryz.underlying135 rfl hi.out) rfl ?_
  exact ⟨rfl, Below.setRow' ((Below.refl _ w).alloc (Nat.le_refl _) _) (Nat.le_refl _) _⟩
end Go.Proofs.YtbfplapjjeeceaaGreatDoor
namespace Go.Proofs.YtbfplapjjeeceaaGreatDoor
open Go.RowKit SH
theorem blocks_append (s : St) (L T : List UInt8) : ∀ n, 64 * n ≤ L.length → blocks s (L ++ T) n = blocks s L n
  | 0, _ => rfl
  | n+1, h => by
    rw [blocks, blocks, blocks_append s L T n (by omega)]
    congr 1
    rw [List.drop_append_of_le_length (by omega), List.take_append_of_le_length (by rw [List.length_drop]; omega)]
def strOf : Value → Nat | .string s => s.size | _ => 0
theorem size_toList (B : ByteArray) : B.data.toList.length = B.size := rfl
theorem ext_take (t : ByteArray) (c : Nat) (h : c ≤ t.size) : (t.extract 0 c).data.toList = t.data.toList.take c ∧ (t.extract 0 c).size = c := by
  constructor
  · rw [ByteArray.data_extract]; simp
  · rw [ByteArray.size_extract]; omega
theorem ext_drop (t : ByteArray) (c : Nat) (h : c ≤ t.size) : (t.extract c t.size).data.toList = t.data.toList.drop c ∧ (t.extract c t.size).size = t.size - c := by
  constructor
  · rw [ByteArray.data_extract]; simp; rw [List.take_of_length_le]; show (t.data.toList.drop c).length ≤ t.size - c; rw [List.length_drop]; exact Nat.le_refl _
  · rw [ByteArray.size_extract]; omega
theorem cat_toList (A B : ByteArray) : (A ++ B).data.toList = A.data.toList ++ B.data.toList := by simp
/-- a message lies in block b -/
def MH (w : World) (b : Nat) (s : St) (r : ByteArray) (n : Nat) : Prop := w.heap[b]? = some (.cells (mcells s r n) 135 (0, 0))
theorem MH.lt {w : World} {b : Nat} {s : St} {r : ByteArray} {n : Nat} (h : MH w b s r n) : b < w.heap.size := (Array.getElem?_eq_some_iff.1 h).1
theorem MH.free {w : World} {b : Nat} {s : St} {r : ByteArray} {n : Nat} (h : MH w b s r n) (j : Nat) : w.frozen? ⟨b, j, none⟩ = false := frozen_of_row w b j _ _ h
theorem MH.cell {w : World} {b : Nat} {s : St} {r : ByteArray} {n : Nat} (h : MH w b s r n) (j : Nat) : w.cell? ⟨b, j, none⟩ = (mcells s r n)[j]? := cell_of_row w b j _ _ _ h
theorem MH.st {w : World} {b : Nat} {s : St} {r : ByteArray} {n : Nat} (h : MH w b s r n) :
    w.cell? ⟨b, 0, none⟩ = some (.int .u32 (s.a : Nat)) ∧ w.cell? ⟨b, 1, none⟩ = some (.int .u32 (s.b : Nat)) ∧ w.cell? ⟨b, 2, none⟩ = some (.int .u32 (s.c : Nat)) ∧ w.cell? ⟨b, 3, none⟩ = some (.int .u32 (s.d : Nat)) ∧
    w.cell? ⟨b, 4, none⟩ = some (.int .u32 (s.e : Nat)) ∧ w.cell? ⟨b, 5, none⟩ = some (.int .u32 (s.f : Nat)) ∧ w.cell? ⟨b, 6, none⟩ = some (.int .u32 (s.g : Nat)) ∧ w.cell? ⟨b, 7, none⟩ = some (.int .u32 (s.h : Nat)) ∧
    w.cell? ⟨b, 8, none⟩ = some (.string r) ∧ w.cell? ⟨b, 9, none⟩ = some (.int .i64 n) :=
  ⟨h.cell 0, h.cell 1, h.cell 2, h.cell 3, h.cell 4, h.cell 5, h.cell 6, h.cell 7, h.cell 8, h.cell 9⟩
theorem MH.size {w : World} {b : Nat} {s : St} {r : ByteArray} {n : Nat} (h : MH w b s r n) (m : Nat) : MH (w.setCell ⟨b, 9, none⟩ (.int .i64 m)) b s r m := heap_setCell_same w b 9 _ _ _ h
theorem MH.rest {w : World} {b : Nat} {s : St} {r : ByteArray} {n : Nat} (h : MH w b s r n) (q : ByteArray) : MH (w.setCell ⟨b, 8, none⟩ (.string q)) b s q n := heap_setCell_same w b 8 _ _ _ h
theorem MH.below {w w' : World} {b B : Nat} {s : St} {r : ByteArray} {n : Nat} (h : MH w b s r n) (k : Below B w w') (hb : b < B) : MH w' b s r n := (k.block b hb).trans h
theorem MH.setOther {w : World} {b c : Nat} {s : St} {r : ByteArray} {n : Nat} (h : MH w b s r n) (hc : b ≠ c) (j : Nat) (v : Value) : MH (w.setCell ⟨c, j, none⟩ v) b s r n := by
  unfold MH
  rw [heap_setCell_other w _ b _ hc]; exact h
/-- eight words of a message are written -/
def set8 (w : World) (b : Nat) (s : St) : World :=
  ((((((((w.setCell ⟨b, 0, none⟩ (.int .u32 (s.a : Nat))).setCell ⟨b, 1, none⟩ (.int .u32 (s.b : Nat))).setCell ⟨b, 2, none⟩ (.int .u32 (s.c : Nat))).setCell ⟨b, 3, none⟩ (.int .u32 (s.d : Nat))).setCell ⟨b, 4, none⟩ (.int .u32 (s.e : Nat))).setCell ⟨b, 5, none⟩ (.int .u32 (s.f : Nat))).setCell ⟨b, 6, none⟩ (.int .u32 (s.g : Nat))).setCell ⟨b, 7, none⟩ (.int .u32 (s.h : Nat)))
theorem MH.w0 {w : World} {b : Nat} {s : St} {r : ByteArray} {n : Nat} (h : MH w b s r n) (x : Nat) : MH (w.setCell ⟨b, 0, none⟩ (.int .u32 (x : Nat))) b ⟨x, s.b, s.c, s.d, s.e, s.f, s.g, s.h⟩ r n := by
  unfold MH
  rw [heap_setCell_same w b 0 _ _ _ h]; rfl
theorem MH.w1 {w : World} {b : Nat} {s : St} {r : ByteArray} {n : Nat} (h : MH w b s r n) (x : Nat) : MH (w.setCell ⟨b, 1, none⟩ (.int .u32 (x : Nat))) b ⟨s.a, x, s.c, s.d, s.e, s.f, s.g, s.h⟩ r n := by
  unfold MH
  rw [heap_setCell_same w b 1 _ _ _ h]; rfl
theorem MH.w2 {w : World} {b : Nat} {s : St} {r : ByteArray} {n : Nat} (h : MH w b s r n) (x : Nat) : MH (w.setCell ⟨b, 2, none⟩ (.int .u32 (x : Nat))) b ⟨s.a, s.b, x, s.d, s.e, s.f, s.g, s.h⟩ r n := by
  unfold MH
  rw [heap_setCell_same w b 2 _ _ _ h]; rfl
theorem MH.w3 {w : World} {b : Nat} {s : St} {r : ByteArray} {n : Nat} (h : MH w b s r n) (x : Nat) : MH (w.setCell ⟨b, 3, none⟩ (.int .u32 (x : Nat))) b ⟨s.a, s.b, s.c, x, s.e, s.f, s.g, s.h⟩ r n := by
  unfold MH
  rw [heap_setCell_same w b 3 _ _ _ h]; rfl
theorem MH.w4 {w : World} {b : Nat} {s : St} {r : ByteArray} {n : Nat} (h : MH w b s r n) (x : Nat) : MH (w.setCell ⟨b, 4, none⟩ (.int .u32 (x : Nat))) b ⟨s.a, s.b, s.c, s.d, x, s.f, s.g, s.h⟩ r n := by
  unfold MH
  rw [heap_setCell_same w b 4 _ _ _ h]; rfl
theorem MH.w5 {w : World} {b : Nat} {s : St} {r : ByteArray} {n : Nat} (h : MH w b s r n) (x : Nat) : MH (w.setCell ⟨b, 5, none⟩ (.int .u32 (x : Nat))) b ⟨s.a, s.b, s.c, s.d, s.e, x, s.g, s.h⟩ r n := by
  unfold MH
  rw [heap_setCell_same w b 5 _ _ _ h]; rfl
theorem MH.w6 {w : World} {b : Nat} {s : St} {r : ByteArray} {n : Nat} (h : MH w b s r n) (x : Nat) : MH (w.setCell ⟨b, 6, none⟩ (.int .u32 (x : Nat))) b ⟨s.a, s.b, s.c, s.d, s.e, s.f, x, s.h⟩ r n := by
  unfold MH
  rw [heap_setCell_same w b 6 _ _ _ h]; rfl
theorem MH.w7 {w : World} {b : Nat} {s : St} {r : ByteArray} {n : Nat} (h : MH w b s r n) (x : Nat) : MH (w.setCell ⟨b, 7, none⟩ (.int .u32 (x : Nat))) b ⟨s.a, s.b, s.c, s.d, s.e, s.f, s.g, x⟩ r n := by
  unfold MH
  rw [heap_setCell_same w b 7 _ _ _ h]; rfl
theorem MH.set8 {w : World} {b : Nat} {s : St} {r : ByteArray} {n : Nat} (h : MH w b s r n) (t : St) : MH (Go.Proofs.YtbfplapjjeeceaaGreatDoor.set8 w b t) b t r n :=
  (((((((h.w0 t.a).w1 t.b).w2 t.c).w3 t.d).w4 t.e).w5 t.f).w6 t.g).w7 t.h
theorem MH.set8o {w : World} {b c : Nat} {s : St} {r : ByteArray} {n : Nat} (h : MH w b s r n) (hc : b ≠ c) (t : St) : MH (Go.Proofs.YtbfplapjjeeceaaGreatDoor.set8 w c t) b s r n :=
  ((((((((h.setOther hc _ _).setOther hc _ _).setOther hc _ _).setOther hc _ _).setOther hc _ _).setOther hc _ _).setOther hc _ _).setOther hc _ _)
theorem set8_below (w : World) (b : Nat) (s : St) : Below b w (set8 w b s) :=
  (((((((((Below.refl b w).setCell (p := ⟨b, 0, none⟩) (Nat.le_refl _) _).setCell (p := ⟨b, 1, none⟩) (Nat.le_refl _) _).setCell (p := ⟨b, 2, none⟩) (Nat.le_refl _) _).setCell (p := ⟨b, 3, none⟩) (Nat.le_refl _) _).setCell (p := ⟨b, 4, none⟩) (Nat.le_refl _) _).setCell (p := ⟨b, 5, none⟩) (Nat.le_refl _) _).setCell (p := ⟨b, 6, none⟩) (Nat.le_refl _) _).setCell (p := ⟨b, 7, none⟩) (Nat.le_refl _) _)
theorem Below.set_any (w : World) (b j : Nat) (v : Value) : Below b w (w.setCell ⟨b, j, none⟩ v) := ⟨rfl, rfl, rfl, by simp, fun k hk => heap_setCell_other w _ k _ (by simp; omega)⟩
set_option maxRecDepth 100000 in
set_option maxHeartbeats 2000000 in
theorem add_any (w : World) (L : List UInt8) (r t : ByteArray) (hr : r.data.toList = L.drop (64 * (L.length / 64))) (hn : L.length + t.size ≤ 281474976710656) (hC : CB w) :
    Calls Tryz.prog 104 #[mval (blocks square L (L.length / 64)) r L.length, .string t] w fun e w' =>
      ∃ r2 : ByteArray, r2.data.toList = (L ++ t.data.toList).drop (64 * ((L ++ t.data.toList).length / 64)) ∧ e = .returned (mval (blocks square (L ++ t.data.toList) ((L ++ t.data.toList).length / 64)) r2 (L ++ t.data.toList).length) ∧ Below w.heap.size w w' := by
  obtain ⟨L2, hL2⟩ : ∃ L2, L ++ t.data.toList = L2 := ⟨_, rfl⟩
  have hlen : L2.length = L.length + t.size := by rw [← hL2, List.length_append, size_toList]
  obtain ⟨j0, hj0⟩ : ∃ j, L.length / 64 = j := ⟨_, rfl⟩
  have hst : blocks square L j0 = blocks square L2 j0 := by rw [← hL2, blocks_append _ _ _ _ (by omega)]
  have hrt : (r ++ t).data.toList = L2.drop (64 * j0) := by rw [cat_toList, hr, hj0, ← hL2, List.drop_append_of_le_length (by omega)]
  have hjl : 64 * j0 ≤ L2.length := by omega
  rw [hL2, hj0, hst]
  obtain ⟨n, hnn⟩ : ∃ n, L.length = n := ⟨_, rfl⟩
  obtain ⟨n2, hn2⟩ : ∃ n2, L2.length = n2 := ⟨_, rfl⟩
  rw [hnn]
  obtain ⟨s0, hs0⟩ : ∃ s0, blocks square L2 j0 = s0 := ⟨_, rfl⟩
  rw [hs0]
  have hsum : (n : Int) + (t.size : Int) = (n2 : Int) := by omega
  have hbig : (9223372036854775807 < r.size + t.size) = False := eq_false (by
    have h1 := size_toList (r ++ t)
    rw [hrt, List.length_drop, ByteArray.size_append] at h1; omega)
  have h20 : n2 ≤ 281474976710656 := by omega
  have HF := Lib.hid (And.intro hL2 (And.intro hlen (And.intro hrt (And.intro hs0 (And.intro hjl hn2))))); clear hL2 hlen hrt hs0 hjl hn2 hst hr hn hnn hj0
  have hg := hC.lt
  have hi : Hid ((Tryz.prog.info? 135).map (·.size) = some 10) := Lib.hid (by kernel_rfl)
  obtain ⟨W, hW⟩ : ∃ W, (w.alloc (.cells (mcells s0 r n) 135)).alloc (.cells (mcells ⟨0, 0, 0, 0, 0, 0, 0, 0⟩ ⟨#[]⟩ 0) 135) = W := ⟨_, rfl⟩
  have h0 : MH W w.heap.size s0 r n := by rw [← hW]; exact heap_alloc2_old _ _ _
  have h1 : MH W (w.heap.size + 1) ⟨0, 0, 0, 0, 0, 0, 0, 0⟩ ⟨#[]⟩ 0 := by rw [← hW]; exact heap_alloc2_new _ _ _
  have hb : Below w.heap.size w W := by rw [← hW]; exact ((Below.refl w.heap.size w).alloc (Nat.le_refl _) _).alloc (by simp) _
  have hcb : CB W := hC.below hb hg
  have HI := Lib.hid (And.intro h0 (And.intro h1 (And.intro hb hcb))); clear h0 h1 hb hcb hC
  go_enter Tryz.func104, Tryz.ntmps104
  go_upto_region 1 with fail
  change Code.wp _ _ _ _ ((w.alloc (.cells (mcells s0 r n) 135)).alloc (.cells (mcells ⟨0, 0, 0, 0, 0, 0, 0, 0⟩ ⟨#[]⟩ 0) 135))
  rw [hW]
  clear hW
  obtain ⟨h0, h1, hb, hcb⟩ := HI.out
  clear HI
  obtain ⟨c0, c1, c2, c3, c4, c5, c6, c7, c8, c9⟩ := h0.st
  have f9 := h0.free 9
  have hA := h0.size n2
  have hB := MH.setOther h1 (c := w.heap.size) (by omega) 9 (.int .i64 n2)
  have hD := hb.setCell (p := ⟨w.heap.size, 9, none⟩) (Nat.le_refl _) (.int .i64 n2)
  have hE := CB.below hcb (Below.set_any W w.heap.size 9 (.int .i64 n2)) hg
  have HI := Lib.hid (And.intro hA (And.intro hB (And.intro hD hE))); clear hA hB hD hE h0 h1 hb hcb
  have d8 : (W.setCell ⟨w.heap.size, 9, none⟩ (.int .i64 n2)).cell? ⟨w.heap.size, 8, none⟩ = some (.string r) := (World.cell?_setCell_other _ _ _ _ (by simp)).trans c8
  clear c0 c1 c2 c3 c4 c5 c6 c7
  go_upto_region 3 with fail
  clear c8 c9 f9 d8
  generalize W.setCell ⟨w.heap.size, 9, none⟩ (.int .i64 (n2 : Nat)) = W at *
  obtain ⟨R, hR⟩ : ∃ R, r ++ t = R := ⟨_, rfl⟩
  rw [hR] at HF ⊢
  obtain ⟨A1, A2, A3, A4⟩ := HI.out
  clear hR hbig hsum HI
  go_loopw [1] (fun x wr => ∃ (j : Nat) (R : ByteArray), x = .string R ∧ Hid (R.data.toList = L2.drop (64 * j) ∧ 64 * j ≤ L2.length) ∧ MH wr w.heap.size (blocks square L2 j) r n2 ∧ Hid (MH wr (w.heap.size + 1) ⟨0, 0, 0, 0, 0, 0, 0, 0⟩ ⟨#[]⟩ 0) ∧ Hid (Below w.heap.size w wr) ∧ Hid (CB wr)) (fun x _ => strOf x)
  case atStart => exact ⟨j0, R, rfl, Lib.hid ⟨HF.out.2.2.1, HF.out.2.2.2.2.1⟩, by rw [HF.out.2.2.2.1]; exact A1, Lib.hid A2, Lib.hid A3, Lib.hid A4⟩
  case round =>
    clear A1 A2 A3 A4
    obtain ⟨j, R, rfl, hR, h0, h1, hb, hcb⟩ := hrel
    have hRs : R.size = L2.length - 64 * j := by rw [← size_toList, hR.out.1, List.length_drop]
    by_cases hlt : 64 ≤ R.size
    · obtain ⟨c0, c1, c2, c3, c4, c5, c6, c7, c8, c9⟩ := h0.st
      have hok : (blocks square L2 j).Ok := blocks_ok square_ok L2 j
      have ht := ext_take R 64 hlt
      have hd := ext_drop R 64 hlt
      have hbl : block (blocks square L2 j) (R.extract 0 64).data.toList = blocks square L2 (j+1) := by rw [ht.1, hR.out.1]; rfl
      have hnx := fun W (h : CB W) => next_any W (blocks square L2 j) hok (R.extract 0 64) ht.2 h
      rw [hbl] at hnx
      obtain ⟨s1, hs1⟩ : ∃ s1, blocks square L2 j = s1 := ⟨_, rfl⟩
      obtain ⟨s2, hs2⟩ : ∃ s2, blocks square L2 (j+1) = s2 := ⟨_, rfl⟩
      rw [hs1] at hnx c0 c1 c2 c3 c4 c5 c6 c7 h0
      rw [hs2] at hnx
      have HNX := Lib.hid hnx
      have HH := Lib.hid (And.intro hs1 (And.intro hs2 (And.intro ht (And.intro hd hRs)))); clear hnx hs1 hs2 ht hd hRs hok hbl c8 c9
      have hlt2 : (64 : Int) ≤ (R.size : Int) := by omega
      go_upto_region 4 with fail
      go_still_tail 4, (by kernel_rfl)
      change wpList _ _ _ _ _ wr.drew
      have h0' : MH wr.drew w.heap.size s1 r n2 := h0
      have h1' := Lib.hid (show MH wr.drew (w.heap.size + 1) ⟨0, 0, 0, 0, 0, 0, 0, 0⟩ ⟨#[]⟩ 0 from h1.out)
      have hb' := Lib.hid hb.out.drew
      have hcb' := Lib.hid (show CB wr.drew from hcb.out)
      have hsz := Lib.hid (show w.heap.size + 1 < wr.drew.heap.size from h1.out.lt)
      clear h0 h1 hb hcb c0 c1 c2 c3 c4 c5 c6 c7
      generalize wr.drew = wr at *
      go_wp2_with fail
      go_must (go_fit (HNX.out _ hcb'.out))
      rintro e w2 ⟨rfl, b2⟩
      have h0 := h0'.below b2 (by have := hsz.out; omega)
      have h1 := Lib.hid (h1'.out.below b2 hsz.out)
      have hb := Lib.hid (hb'.out.trans (b2.mono (by have := hsz.out; omega)))
      have hcb := Lib.hid (hcb'.out.below b2 hcb'.out.lt)
      clear h0' h1' hb' hcb' b2
      obtain ⟨c0, c1, c2, c3, c4, c5, c6, c7, c8, c9⟩ := h0.st
      have f0 := h0.free 0
      have f1 := h0.free 1
      have f2 := h0.free 2
      have f3 := h0.free 3
      have f4 := h0.free 4
      have f5 := h0.free 5
      have f6 := h0.free 6
      have f7 := h0.free 7
      have H0 := Lib.hid h0; clear h0 c8 c9
      go_wp2
      refine ⟨⟨j + 1, R.extract 64 R.size, rfl, Lib.hid ⟨?_, ?_⟩, ?_, Lib.hid (h1.out.set8o (by omega) s2), Lib.hid (hb.out.trans (set8_below w2 _ s2)), Lib.hid (hcb.out.below (set8_below w2 _ s2) hg)⟩, ?_⟩
      · rw [HH.out.2.2.2.1.1, hR.out.1, List.drop_drop]; congr 1
      · have := HH.out.2.2.2.2; have := hR.out.2; omega
      · rw [HH.out.2.1]; exact H0.out.set8 s2
      · have := HH.out.2.2.2.1.2; simp [strOf]; omega
    · have hj : L2.length / 64 = j := by have := hR.out.2; omega
      have hlt2 : ¬ (64 : Int) ≤ (R.size : Int) := by omega
      have f8 := h0.free 8
      have c8 : wr.cell? ⟨w.heap.size, 8, none⟩ = some (.string r) := h0.cell 8
      have hX := h0.rest R
      have hY := Lib.hid (MH.setOther h1.out (c := w.heap.size) (by omega) 8 (.string R))
      have hZ := Lib.hid (hb.out.setCell (p := ⟨w.heap.size, 8, none⟩) (Nat.le_refl _) (.string R))
      have HH := Lib.hid (And.intro hj hR.out)
      clear h0 h1 hb hcb hRs hj hR
      obtain ⟨s1, hs1⟩ : ∃ s1, blocks square L2 j = s1 := ⟨_, rfl⟩
      rw [hs1] at hX
      have HS := Lib.hid hs1; clear hs1
      have hY2 := hY.out
      go_wp2_with (first | (refine wpList_load_row rfl 135 (.tmp 2) rfl w.heap.size rfl 135 (mcells s1 R n2) (0, 0) _ hX Tryz.underlying135 rfl hi.out ?_) | (refine wpList_store_row rfl 135 (.tmp 4) (.tmp 28) rfl (w.heap.size + 1) (mcells s1 R n2) rfl rfl 135 _ hY2 hi.out rfl (mcells_one _ _ _) ?_))
      refine bodyPost_ret (results_cell_row rfl _ _ (w.heap.size + 1) _ (mcells s1 R n2) _ _ rfl (setRow_heap _ _ _ _ _ _ hY2) Tryz.underlying135 rfl hi.out) rfl ?_
      refine ⟨R, ?_, ?_, Below.setRow' hZ.out (by omega) _⟩
      · rw [HH.out.1]; exact HH.out.2.1
      · rw [HH.out.1, HS.out, HF.out.2.2.2.2.2]
end Go.Proofs.YtbfplapjjeeceaaGreatDoor
namespace Go.Proofs.YtbfplapjjeeceaaGreatDoor
open Go.RowKit SH
abbrev t8 : TypeId := 5
theorem info8 : (Tryz.prog.info? t8).map (fun i => (i.zero, i.size, i.bytes)) = some (some (.int .u8 0), 1, 1) := by kernel_rfl
/-- v holds the bytes bs in a row of the call's own, whose end beyond its room may be marked -/
def OwnT (w : World) (base : Nat) (v : Value) (bs : List UInt8) : Prop :=
  ∃ g cap cur fz, v = .slice (some ⟨g, 0, none⟩) bs.length cap ∧ base ≤ g ∧ w.heap[g]? = some (.cells cur t8 fz) ∧ (fz = (0, 0) ∨ cap ≤ fz.1) ∧ bs.length ≤ cap ∧ cap ≤ maxLen ∧ cur.size = cap ∧ cur.toList.take bs.length = Lib.byteCells bs
theorem OwnT.drew {w : World} {base : Nat} {v : Value} {bs : List UInt8} (h : OwnT w base v bs) : OwnT w.drew base v bs := h
theorem OwnT.alloc {w : World} {base : Nat} {v : Value} {bs : List UInt8} (h : OwnT w base v bs) (o : Obj) : OwnT (w.alloc o) base v bs := by
  obtain ⟨g, cap, cur, fz, rfl, h1, h2, h3⟩ := h
  exact ⟨g, cap, cur, fz, rfl, h1, by rw [heap_alloc_old _ _ (Array.getElem?_eq_some_iff.1 h2).1]; exact h2, h3⟩
theorem OwnT.mono {w : World} {base b : Nat} {v : Value} {bs : List UInt8} (h : OwnT w base v bs) (hb : b ≤ base) : OwnT w b v bs := by
  obtain ⟨g, cap, cur, fz, e, h1, h2⟩ := h
  exact ⟨g, cap, cur, fz, e, Nat.le_trans hb h1, h2⟩
theorem byteCells_length (bs : List UInt8) : (Lib.byteCells bs).length = bs.length := by simp [Lib.byteCells]
/-- a string's bytes, converted -/
theorem conv_bytes (w : World) (s : ByteArray) (hs : s.size ≤ maxLen) : ∃ v w', (convert 9 33 (.string s)).run Tryz.prog w = .ok v w' ∧ OwnT w' w.heap.size v s.data.toList ∧ Below w.heap.size w w' := by
  have h := run_bytes_of_string w 9 33 t8 s Tryz.underlying9 Tryz.underlying33 Tryz.underlying5
  obtain ⟨cap, hcap⟩ : ∃ cap, grownCap w s.size 0 t8 = cap := ⟨_, rfl⟩
  have hge := grownCap_ge w s.size 0 t8
  have hle := grownCap_le_maxLen w s.size 0 t8 hs
  rw [hcap] at h hge hle
  have hsz : (bytesRow s cap).size = cap := by
    unfold bytesRow
    rw [Array.size_append, Array.size_map, Array.size_replicate]
    show s.size + _ = _
    omega
  have hh : (w.drew.alloc (.cells (bytesRow s cap) t8 ((bytesRow s cap).size, (bytesRow s cap).size + 1))).heap[w.heap.size]? = some (.cells (bytesRow s cap) t8 ((bytesRow s cap).size, (bytesRow s cap).size + 1)) := by
    show (w.heap.push _)[w.heap.size]? = _
    simp
  refine ⟨_, _, h, ⟨w.heap.size, cap, _, _, rfl, Nat.le_refl _, hh, .inr (Nat.le_of_eq hsz.symm), hge, hle, hsz, ?_⟩, (Below.refl _ w).drew.alloc (Nat.le_refl _) _⟩
  unfold bytesRow
  rw [Array.toList_append, List.take_append_of_le_length (by simp)]
  rw [List.take_of_length_le (by simp)]
  simp [Lib.byteCells]
theorem append_byte (w : World) (base : Nat) (v : Value) (bs : List UInt8) (hown : OwnT w base v bs) (a : Addr) (c : Nat) (x : UInt8) (ha : w.cell? (a.add 0) = some (.int .u8 (x.toNat : Nat))) (h63 : bs.length + 1 ≤ 140737488355328) (hbase : base ≤ w.heap.size) :
    ∃ v' w', (Builtin.append_ #[33, 33] 33 #[v, .slice (some a) 1 c]).run Tryz.prog w = .ok v' w' ∧ OwnT w' base v' (bs ++ [x]) ∧ Below base w w' := by
  obtain ⟨i0, hi, hz0, hz1, hz2⟩ := info_parts info8
  obtain ⟨g, cap, cur, fz, rfl, hb, hg, hfz, hn, hm, hcs, ht⟩ := hown
  have hnews : ∀ j u, [Value.int .u8 (x.toNat : Nat)][j]? = some u → w.cell? (a.add j) = some u := by
    intro j u hj
    match j, hj with
    | 0, hj => simp at hj; subst hj; exact ha
  have hgl := (Array.getElem?_eq_some_iff.1 hg).1
  by_cases hroom : bs.length + 1 ≤ cap
  · have hf := run_firstCells_some (P := Tryz.prog) w 1 1 a 1 c [.int .u8 (x.toNat : Nat)] rfl hnews
    have hcell : w.cell? ⟨g, bs.length, none⟩ = some (cur[bs.length]'(by omega)) := by simp [World.cell?, hg]
    have hfro : w.frozen? ⟨g, bs.length, none⟩ = false := by
      obtain ⟨lo, hi'⟩ := fz
      simp only [World.frozen?, hg, Bool.and_eq_false_iff, decide_eq_false_iff_not]
      rcases hfz with h | h
      · simp only [Prod.mk.injEq] at h; right; omega
      · left; simp only at h; omega
    have hst : (storeCells ⟨g, bs.length, none⟩ [.int .u8 (x.toNat : Nat)]).run Tryz.prog w = .ok () (w.setCell ⟨g, bs.length, none⟩ (.int .u8 (x.toNat : Nat))) := by
      have h0 : (⟨g, bs.length, none⟩ : Addr).add 0 = ⟨g, bs.length, none⟩ := rfl
      simp [storeCells, h0, run_store Tryz.prog w _ (.int .u8 (x.toNat : Nat)) _ rfl, hcell, hfro]
    have hr : (Builtin.append_ #[33, 33] 33 #[.slice (some ⟨g, 0, none⟩) bs.length cap, .slice (some a) 1 c]).run Tryz.prog w = .ok (.slice (some ⟨g, 0, none⟩) (bs.length + 1) cap) (w.setCell ⟨g, bs.length, none⟩ (.int .u8 (x.toNat : Nat))) := by
      simp [Builtin.append_, run_underlying Tryz.underlying33, sizeOf, typeInfo, hi, hz1, Builtin.lenOf, hroom, hf, Addr.add_lit, hst]
    refine ⟨_, _, hr, ⟨g, cap, cur.setIfInBounds bs.length (.int .u8 (x.toNat : Nat)), fz, by rw [List.length_append]; rfl, hb, ?_, hfz, by rw [List.length_append]; exact hroom, hm, by rw [Array.size_setIfInBounds]; exact hcs, ?_⟩, (Below.refl _ w).setCell (p := ⟨g, bs.length, none⟩) hb _⟩
    · rw [setCell_eq_setRow w g bs.length cur t8 fz _ hg]
      exact setRow_heap w g cur _ t8 _ hg
    · have hl : bs.length < cur.toList.length := by simp; omega
      rw [Array.toList_setIfInBounds, List.length_append, List.length_singleton, List.take_add_one, List.getElem?_set_self hl, List.take_set_of_le (Nat.le_refl _), ht]
      simp [Lib.byteCells]
  · have hcap : cap = bs.length := by omega
    have holds : ∀ j u, (Lib.byteCells bs)[j]? = some u → w.cell? ((⟨g, 0, none⟩ : Addr).add j) = some u := by
      intro j u hu
      have hadd : (⟨g, 0, none⟩ : Addr).add j = ⟨g, j, none⟩ := by unfold Addr.add; split <;> simp_all
      rw [hadd, cell_of_row w g j cur t8 fz hg]
      rw [← ht, List.getElem?_take] at hu
      split at hu
      · simpa using hu
      · cases hu
    have hr := run_append_grow (P := Tryz.prog) w 33 33 t8 i0 (.int .u8 0) Tryz.underlying33 hi hz0 ⟨g, 0, none⟩ bs.length cap (Lib.byteCells bs) (by rw [byteCells_length, hz1, Nat.mul_one]) holds a 1 c [.int .u8 (x.toNat : Nat)] (by rw [hz1]; rfl) hnews (by omega) (by omega) (by rw [hz2]; exact growslice_fits (by omega) (by omega))
    have hge := grownCap_ge w (bs.length + 1) cap t8
    have hle := grownCap_le_maxLen w (bs.length + 1) cap t8 (by unfold maxLen; omega)
    refine ⟨_, _, hr, ⟨w.heap.size, _, _, (0, 0), by rw [List.length_append]; rfl, hbase, heap_alloc_new w.drew _, .inl rfl, by rw [List.length_append]; exact hge, hle, ?_, ?_⟩, ((Below.refl _ w).drew).alloc hbase _⟩
    · simp only [Array.size_append, List.size_toArray, size_zeroCells]
      simp [byteCells_length, Value.cells]
      omega
    · have e : ∀ (A Z : List Value) (u : Value) (n : Nat), A.length = n → (A ++ u :: Z).take (n + 1) = A ++ [u] := by
        intro A Z u n hA
        rw [show A ++ u :: Z = (A ++ [u]) ++ Z by simp, List.take_append_of_le_length (by simp; omega), List.take_of_length_le (by simp; omega)]
      simp [Lib.byteCells]
      exact e _ _ _ _ (by simp)
theorem wpList_append_byte {ops : Array Oper} {rest : List Oper} {o : Oper} {a : Act} {w : World} {Q : Exit → Act → World → Prop} (hgd : o.guard = none) (s x : Operand)
    (ho : o.op = .call { callee := .builtin .append, args := #[s, x], argTypes := #[33, 33] }) (hty : o.type = 33) (base : Nat) (v : Value) (bs : List UInt8) (hs : a.eval s = v) (hown : OwnT w base v bs)
    (ad : Addr) (c : Nat) (b : UInt8) (hx : a.eval x = .slice (some ad) 1 c) (hnew : w.cell? (ad.add 0) = some (.int .u8 (b.toNat : Nat))) (h63 : bs.length + 1 ≤ 140737488355328) (hbase : base ≤ w.heap.size)
    (h : ∀ v' w', OwnT w' base v' (bs ++ [b]) → Below base w w' → wpList Tryz.prog ops Q rest (a.put o.dst v') w') : wpList Tryz.prog ops Q (o :: rest) a w := by
  refine wpList_plain hgd fun K hK => ?_
  obtain ⟨v', w', hr, h2, h3⟩ := append_byte w base v bs hown ad c b hnew h63 hbase
  unfold Oper.wp execOp
  simp only [ho, hty, resolve, invoke, builtin, Sem.run_bind, Sem.run_pure, Result.andThen_ok, List.map_toArray, List.map_cons, List.map_nil, hs, hx, hr]
  exact hK _ _ (h v' w' h2 h3)
/-- the bytes of a row, as a string -/
theorem conv_back {w : World} {base : Nat} {v : Value} {bs : List UInt8} (h : OwnT w base v bs) : (convert 33 9 v).run Tryz.prog w = .ok (.string ⟨bs.toArray⟩) w := by
  obtain ⟨g, cap, cur, fz, rfl, hb, hg, hfz, hn, hm, hcs, ht⟩ := h
  refine run_convert_bytes_back (P := Tryz.prog) w 33 9 t8 ⟨g, 0, none⟩ cap bs Tryz.underlying33 Tryz.underlying5 Tryz.underlying9 (fun j hj => ?_)
  have hadd : (⟨g, 0, none⟩ : Addr).add j = ⟨g, j, none⟩ := by unfold Addr.add; split <;> simp_all
  rw [hadd, cell_of_row w g j cur t8 fz hg]
  have : (cur.toList.take bs.length)[j]? = some (.int .u8 (bs[j].toNat : Int)) := by rw [ht]; simp [Lib.byteCells, hj]
  rw [List.getElem?_take, if_pos hj] at this
  simpa using this
end Go.Proofs.YtbfplapjjeeceaaGreatDoor
namespace Go.Proofs.YtbfplapjjeeceaaGreatDoor
open Go.RowKit SH
theorem repeatL_zero : ∀ z, Lib.repeatL [0] z = List.replicate z (0 : UInt8)
  | 0 => rfl
  | z+1 => by rw [Lib.repeatL, repeatL_zero z]; rfl
theorem len8_take (n j : Nat) (h : j < 8) : (len8 n).take (j+1) = (len8 n).take j ++ [UInt8.ofNat (n * 8 / 2^(56 - 8*j))] := by
  have hl : (len8 n).length = 8 := by simp [len8]
  rw [List.take_add_one, List.getElem?_eq_getElem (by omega)]
  simp [len8]
theorem len_byte (N s : Nat) : ((N : Int) / 2 ^ s % 256) = (((UInt8.ofNat (N / 2^s)).toNat : Nat) : Int) := by
  rw [show (UInt8.ofNat (N / 2^s)).toNat = N / 2^s % 256 from rfl]
  simp
set_option maxRecDepth 100000 in
set_option maxHeartbeats 2000000 in
theorem padding_any (w : World) (n : Nat) (hn : n ≤ 281474976710656) :
    Calls Tryz.prog 132 #[.int .i64 n] w fun e w' => ∃ P : ByteArray, P.data.toList = pad n ∧ e = .returned (.string P) ∧ Below w.heap.size w w' := by
  obtain ⟨m, hm⟩ : ∃ m, n % 64 = m := ⟨_, rfl⟩
  obtain ⟨z, hz⟩ : ∃ z, (119 - m) % 64 = z := ⟨_, rfl⟩
  have e1 : (n : Int).tmod 64 = (m : Int) := by rw [Int.tmod_eq_emod_of_nonneg (by omega)]; omega
  obtain ⟨y, hy⟩ : ∃ y, 119 - m = y := ⟨_, rfl⟩
  have e3 : wrap64 (119 - (m : Int)) = (y : Int) := by unfold wrap64; omega
  have e2 : (y : Int).tmod 64 = (z : Int) := by rw [Int.tmod_eq_emod_of_nonneg (by omega)]; omega
  have hz64 : z < 64 := by omega
  have hrep := fun W => Tryz.strings_Repeat ⟨#[0]⟩ z W (by omega) (by show 1 * z ≤ _; omega)
  obtain ⟨R, hR⟩ : ∃ R : ByteArray, R = ⟨(Lib.repeatL (ByteArray.mk #[0]).data.toList z).toArray⟩ := ⟨_, rfl⟩
  rw [← hR] at hrep
  have hRl : R.data.toList = List.replicate z 0 := by rw [hR]; exact repeatL_zero z
  have hRs : R.size = z := by rw [← size_toList, hRl, List.length_replicate]
  have hbig : (9223372036854775807 < 1 + R.size) = False := eq_false (by omega)
  have hzz : zeros n = z := by unfold zeros; rw [hm]; exact hz
  obtain ⟨S, hS⟩ : ∃ S : ByteArray, (ByteArray.mk #[128]) ++ R = S := ⟨_, rfl⟩
  have hSl : S.data.toList = 128 :: List.replicate z 0 := by rw [← hS, cat_toList, hRl]; rfl
  have hSs : S.size ≤ maxLen := by rw [← size_toList, hSl]; simp [maxLen]; omega
  have HZ := Lib.hid (And.intro hSl (And.intro hSs hzz))
  obtain ⟨N, hN⟩ : ∃ N, n * 8 = N := ⟨_, rfl⟩
  have n8 : (n : Int) * 8 = (N : Int) := by omega
  have n1 : (n : Int) % 18446744073709551616 = (n : Int) := by omega
  have n2 : (N : Int) % 18446744073709551616 = (N : Int) := by omega
  have HN := Lib.hid hN
  clear hm hz hy hRl hRs hR hzz hSl hSs hN hz64
  go_enter Tryz.func132, Tryz.ntmps132
  go_wp2_with fail
  go_must (go_fit (hrep _))
  rintro e w1 ⟨rfl, b1⟩
  obtain ⟨v, w2, hcv, hown, b2⟩ := conv_bytes w1 S HZ.out.2.1
  go_wp2_with fail
  have hb2 : Below w.heap.size w w2 := b1.trans (b2.mono b1.size)
  have hown2 := hown.mono b1.size
  have HC := Lib.hid (And.intro hb2 hown2); clear hcv hb2 hown2 hown b1 b2 hS hbig e1 e2 e3 n8
  go_loopw [4, 6] (fun b k wr => ∃ (j : Nat) (v : Value) (kk : Int), b = v ∧ j ≤ 8 ∧ kk = 56 - 8 * (j : Int) ∧ k = .int .i64 kk ∧ OwnT wr w.heap.size v (S.data.toList ++ (len8 n).take j) ∧ Hid (Below w.heap.size w wr)) (fun _ k _ => (intOf k + 8).toNat)
  case atStart => exact ⟨0, _, 56, rfl, by omega, rfl, rfl, by rw [List.take_zero, List.append_nil]; exact HC.out.2, Lib.hid HC.out.1⟩
  case round =>
    clear HC
    obtain ⟨j, v, kk, rfl, hj, hkk, rfl, hown, hb⟩ := hrel
    by_cases hlt : j < 8
    · obtain ⟨s, hs⟩ : ∃ s : Nat, 56 - 8 * j = s := ⟨_, rfl⟩
      obtain rfl : kk = (s : Int) := by omega
      have hs56 : s ≤ 56 := by omega
      have hown1 := hown.alloc (.cells #[.int .u8 ((N : Int) / 2 ^ s % 256)] 5)
      have hlen : (S.data.toList ++ (len8 n).take j).length + 1 ≤ 140737488355328 := by
        rw [HZ.out.1]; simp [len8]; have := HZ.out.2.2; unfold zeros at this; omega
      have hnew : (wr.alloc (.cells #[.int .u8 ((N : Int) / 2 ^ s % 256)] 5)).cell? ((⟨wr.heap.size, 0, none⟩ : Addr).add 0) = some (.int .u8 ((UInt8.ofNat (N / 2^s)).toNat : Nat)) := by
        rw [← len_byte]; simp [Addr.add]
      have hbase := hb.out.size
      have hst : S.data.toList ++ (len8 n).take (j+1) = (S.data.toList ++ (len8 n).take j) ++ [UInt8.ofNat (N / 2^s)] := by
        rw [len8_take n j hlt, HN.out, hs, List.append_assoc]
      have HH := Lib.hid (And.intro hs (And.intro hlt (And.intro hkk (And.intro hlen (And.intro hst hbase))))); clear hs hlt hkk hj hlen hst hown hbase
      go_wp2_with (at_builtin; refine wpList_append_byte rfl _ _ rfl rfl w.heap.size _ _ rfl hown1 ⟨wr.heap.size, 0, none⟩ 1 (UInt8.ofNat (N / 2^s)) rfl hnew HH.out.2.2.2.1 (by have := HH.out.2.2.2.2.2; simp; omega) ?_)
      intro v' w3 hown' hb3
      go_wp2
      refine ⟨⟨j + 1, v', (s : Int) - 8, rfl, by have := HH.out.2.1; omega, by have := HH.out.1; have := HH.out.2.1; omega, rfl, ?_, Lib.hid ((hb.out.alloc HH.out.2.2.2.2.2 _).trans hb3)⟩, by simp [intOf]; omega⟩
      rw [HH.out.2.2.2.2.1, List.append_assoc]; exact hown'
    · obtain rfl : j = 8 := by omega
      obtain rfl : kk = -8 := by omega
      have hcv := conv_back hown
      have hl : (len8 n).take 8 = len8 n := List.take_of_length_le (by simp [len8])
      have hp : S.data.toList ++ (len8 n).take 8 = pad n := by
        rw [hl, HZ.out.1]; unfold pad; rw [HZ.out.2.2]; rfl
      rw [hp] at hcv
      clear hp hl hown hkk hlt hj
      go_wp2
      go_ret
      exact ⟨⟨(pad n).toArray⟩, rfl, rfl, hb.out⟩
end Go.Proofs.YtbfplapjjeeceaaGreatDoor
namespace Go.Proofs.YtbfplapjjeeceaaGreatDoor
open Go.RowKit SH
/-- a hash's bytes as a value -/
def hcells (l : List UInt8) : Array Value := (l.map fun b => Value.int .u8 (b.toNat : Nat)).toArray
abbrev hval (l : List UInt8) : Value := .agg (hcells l)
theorem hcells_size (l : List UInt8) : (hcells l).size = l.length := by simp [hcells]
theorem hcells_one (l : List UInt8) : (hcells l).all (·.oneCell') = true := by
  rw [Array.all_eq_true_iff_forall_mem]
  intro v hv
  simp [hcells] at hv
  obtain ⟨x, _, rfl⟩ := hv
  rfl
theorem hcells_get (l : List UInt8) (j : Nat) (h : j < l.length) : (hcells l)[j]? = some (.int .u8 (gb l j : Nat)) := by
  simp [hcells, gb, List.getD_eq_getElem?_getD, h]
theorem hcells_set (l : List UInt8) (j : Nat) (b : UInt8) : (hcells l).setIfInBounds j (.int .u8 (b.toNat : Nat)) = hcells (l.set j b) := by
  apply Array.ext'
  simp [hcells, List.map_set]
/-- bytes l lie in block b as a hash -/
def HM (w : World) (b : Nat) (l : List UInt8) : Prop := w.heap[b]? = some (.cells (hcells l) 109 (0, 0))
theorem HM.lt {w : World} {b : Nat} {l : List UInt8} (h : HM w b l) : b < w.heap.size := (Array.getElem?_eq_some_iff.1 h).1
theorem HM.cell {w : World} {b : Nat} {l : List UInt8} (h : HM w b l) (j : Nat) (hj : j < l.length) : w.cell? ⟨b, j, none⟩ = some (.int .u8 (gb l j : Nat)) := by
  rw [cell_of_row w b j _ _ _ h, hcells_get l j hj]
theorem HM.free {w : World} {b : Nat} {l : List UInt8} (h : HM w b l) (j : Nat) : w.frozen? ⟨b, j, none⟩ = false := frozen_of_row w b j _ _ h
theorem HM.set {w : World} {b : Nat} {l : List UInt8} (h : HM w b l) (j : Nat) (x : UInt8) : HM (w.setCell ⟨b, j, none⟩ (.int .u8 (x.toNat : Nat))) b (l.set j x) := by
  unfold HM; rw [heap_setCell_same w b j _ _ _ h, hcells_set]
theorem HM.setOther {w : World} {b c : Nat} {l : List UInt8} (h : HM w b l) (hc : b ≠ c) (j : Nat) (v : Value) : HM (w.setCell ⟨c, j, none⟩ v) b l := by
  unfold HM; rw [heap_setCell_other w _ b _ hc]; exact h
theorem HM.alloc {w : World} {b : Nat} {l : List UInt8} (h : HM w b l) (o : Obj) : HM (w.alloc o) b l := by
  have hl := h.lt
  unfold HM at h ⊢; rw [heap_alloc_old _ _ hl]; exact h
theorem HM.below {w w' : World} {b B : Nat} {l : List UInt8} (h : HM w b l) (k : Below B w w') (hb : b < B) : HM w' b l := (k.block b hb).trans h
theorem MH.alloc {w : World} {b : Nat} {s : St} {r : ByteArray} {n : Nat} (h : MH w b s r n) (o : Obj) : MH (w.alloc o) b s r n := by
  have hl := h.lt
  unfold MH at h ⊢; rw [heap_alloc_old _ _ hl]; exact h
theorem pad_blocks (L : List UInt8) : (L ++ pad L.length).length / 64 = (L.length + 72) / 64 := by
  rw [List.length_append]
  have : (pad L.length).length = 9 + zeros L.length := by simp [pad, len8]; omega
  rw [this]; unfold zeros; omega
/-- i bytes of the hash of a state, then what was there -/
def BW (s : St) (i : Nat) (l : List UInt8) : Prop := l.length = 32 ∧ ∀ j, j < i → l.getD j 0 = SH.byteOf s.l j
theorem BW.start (s : St) : BW s 0 (List.replicate 32 0) := ⟨by simp, fun j hj => by omega⟩
theorem BW.step {s : St} {i : Nat} {l : List UInt8} (h : BW s i l) (hi : i < 32) : BW s (i+1) (l.set i (SH.byteOf s.l i)) := by
  refine ⟨by rw [List.length_set]; exact h.1, fun j hj => ?_⟩
  have hl := h.1
  by_cases e : j = i
  · subst e; simp [hl, hi]
  · rw [List.getD_eq_getElem?_getD, List.getElem?_set_ne (Ne.symm e), ← List.getD_eq_getElem?_getD]
    exact h.2 j (by omega)
theorem BW.done {s : St} {l : List UInt8} (h : BW s 32 l) : l = out s := by
  apply List.ext_getElem
  · rw [h.1]; simp [out]
  · intro j a b
    have := h.2 j (by rw [h.1] at a; exact a)
    rw [List.getD_eq_getElem?_getD, List.getElem?_eq_getElem a] at this
    have hj : j < 32 := by rw [h.1] at a; exact a
    simpa [out, hj] using this
theorem byteOf_eq (s : St) (i sh : Nat) (h : sh = 24 - i % 4 * 8) : ((gw s.l (i/4) : Int) / 2 ^ sh) % 256 = ((SH.byteOf s.l i).toNat : Nat) := by
  subst h
  rw [show (SH.byteOf s.l i).toNat = gw s.l (i/4) / 2 ^ (24 - i%4*8) % 256 from rfl]
  simp
theorem MH.word {w : World} {b : Nat} {s : St} {r : ByteArray} {n : Nat} (h : MH w b s r n) (j : Nat) (hj : j < 8) : w.cell? ⟨b, j, none⟩ = some (.int .u32 (gw s.l j : Nat)) := by
  rw [h.cell j]
  match j, hj with
  | 0, _ => rfl
  | 1, _ => rfl
  | 2, _ => rfl
  | 3, _ => rfl
  | 4, _ => rfl
  | 5, _ => rfl
  | 6, _ => rfl
  | 7, _ => rfl
/-- the ten cells of a message -/
abbrev MS (w : World) (b : Nat) (s : St) (r : ByteArray) (n : Nat) : Prop :=
    w.cell? ⟨b, 0, none⟩ = some (.int .u32 (s.a : Nat)) ∧ w.cell? ⟨b, 1, none⟩ = some (.int .u32 (s.b : Nat)) ∧ w.cell? ⟨b, 2, none⟩ = some (.int .u32 (s.c : Nat)) ∧ w.cell? ⟨b, 3, none⟩ = some (.int .u32 (s.d : Nat)) ∧
    w.cell? ⟨b, 4, none⟩ = some (.int .u32 (s.e : Nat)) ∧ w.cell? ⟨b, 5, none⟩ = some (.int .u32 (s.f : Nat)) ∧ w.cell? ⟨b, 6, none⟩ = some (.int .u32 (s.g : Nat)) ∧ w.cell? ⟨b, 7, none⟩ = some (.int .u32 (s.h : Nat)) ∧
    w.cell? ⟨b, 8, none⟩ = some (.string r) ∧ w.cell? ⟨b, 9, none⟩ = some (.int .i64 n)
theorem HM.set8o {w : World} {b c : Nat} {l : List UInt8} (h : HM w b l) (hc : b ≠ c) (t : St) : HM (Go.Proofs.YtbfplapjjeeceaaGreatDoor.set8 w c t) b l :=
  ((((((((h.setOther hc _ _).setOther hc _ _).setOther hc _ _).setOther hc _ _).setOther hc _ _).setOther hc _ _).setOther hc _ _).setOther hc _ _)
theorem add_pad (w : World) (L : List UInt8) (r P : ByteArray) (hr : r.data.toList = L.drop (64 * (L.length / 64))) (hP : P.data.toList = pad L.length) (hn : L.length ≤ 140737488355328) (hC : CB w) :
    Calls Tryz.prog 104 #[mval (blocks square L (L.length / 64)) r L.length, .string P] w fun e w' =>
      ∃ (s2 : St) (r2 : ByteArray) (n2 : Nat), Hid (out s2 = sha L) ∧ e = .returned (mval s2 r2 n2) ∧ Below w.heap.size w w' := by
  refine (add_any w L r P hr (by rw [← size_toList, hP]; simp [pad, len8]; have : zeros L.length < 64 := Nat.mod_lt _ (by decide); omega) hC).mono ?_
  rintro e w' ⟨r2, _, rfl, b⟩
  refine ⟨_, r2, _, Lib.hid ?_, rfl, b⟩
  rw [hP, pad_blocks]; rfl
set_option maxRecDepth 100000 in
set_option maxHeartbeats 2000000 in
theorem sum_any (w : World) (L : List UInt8) (r : ByteArray) (hr : r.data.toList = L.drop (64 * (L.length / 64))) (hn : L.length ≤ 140737488355328) (hC : CB w) :
    Calls Tryz.prog 105 #[mval (blocks square L (L.length / 64)) r L.length] w fun e w' => e = .returned (hval (sha L)) ∧ Below w.heap.size w w' := by
  have hg := hC.lt
  have hpad := fun W => padding_any W L.length (by omega)
  have hadd := fun W (P : ByteArray) (hP : P.data.toList = pad L.length) (h : CB W) => add_pad W L r P hr hP hn h
  obtain ⟨s0, hs0⟩ : ∃ s0, blocks square L (L.length / 64) = s0 := ⟨_, rfl⟩
  obtain ⟨n, hnn⟩ : ∃ n, L.length = n := ⟨_, rfl⟩
  rw [hs0] at hadd ⊢
  have HS := Lib.hid (And.intro hnn (And.intro hpad hadd)); clear hpad hadd hs0 hr hn
  rw [hnn] at HS ⊢
  clear hnn
  have hi : Hid ((Tryz.prog.info? 135).map (·.size) = some 10) := Lib.hid (by kernel_rfl)
  have hi32 : Hid ((Tryz.prog.info? 109).map (·.size) = some 32) := Lib.hid (by kernel_rfl)
  obtain ⟨W, hW⟩ : ∃ W, (w.alloc (.cells (mcells s0 r n) 135)).alloc (.cells (hcells (List.replicate 32 0)) 109) = W := ⟨_, rfl⟩
  have h0 : MH W w.heap.size s0 r n := by rw [← hW]; exact heap_alloc2_old _ _ _
  have h1 : HM W (w.heap.size + 1) (List.replicate 32 0) := by rw [← hW]; exact heap_alloc2_new _ _ _
  have hb : Below w.heap.size w W := by rw [← hW]; exact ((Below.refl w.heap.size w).alloc (Nat.le_refl _) _).alloc (by simp) _
  have hcb : CB W := hC.below hb hg
  have HI := Lib.hid (And.intro h0 (And.intro h1 (And.intro hb hcb))); clear h0 h1 hb hcb hC
  go_enter Tryz.func105, Tryz.ntmps105
  go_upto_region 1 with fail
  change Code.wp _ _ _ _ ((w.alloc (.cells (mcells s0 r n) 135)).alloc (.cells (hcells (List.replicate 32 0)) 109))
  rw [hW]
  clear hW
  obtain ⟨h0, h1, hb, hcb⟩ := HI.out
  clear HI
  obtain ⟨c0, c1, c2, c3, c4, c5, c6, c7, c8, c9⟩ := (show MS W.drew w.heap.size s0 r n from h0.st)
  have hsz : w.heap.size + 1 < W.drew.heap.size := h1.lt
  have HK := Lib.hid (And.intro h0 (And.intro h1 (And.intro hb hcb))); clear h0 h1 hb hcb
  have k6 : ∀ w6 w5 : World, Below W.drew.heap.size W.drew w5 → Below w5.heap.size w5 w6 → MH w6 w.heap.size s0 r n ∧ HM w6 (w.heap.size + 1) (List.replicate 32 0) ∧ Below w.heap.size w w6 := fun w6 w5 b5 b6 => by
    have hs := b5.size
    exact ⟨(MH.below (w := W.drew) HK.out.1 b5 (by omega)).below b6 (by omega), (HM.below (w := W.drew) HK.out.2.1 b5 (by omega)).below b6 (by omega), (HK.out.2.2.1.drew.trans (b5.mono (by omega))).trans (b6.mono (by omega))⟩
  have K6 := Lib.hid k6; clear k6
  go_region_with (first
      | (go_at_call 132; go_must (go_fit (HS.out.2.1 _)); rintro e w5 ⟨P, hP, rfl, b5⟩; have h5 : MH w5 w.heap.size s0 r n := MH.below (w := W.drew) HK.out.1 b5 (by omega); obtain ⟨d0, d1, d2, d3, d4, d5, d6, d7, d8, d9⟩ := h5.st)
      | (go_at_call 104; go_must (go_fit (HS.out.2.2 w5 P hP (CB.below (u := W.drew) HK.out.2.2.2 b5 (Nat.lt_trans hg (by omega))))); rintro e w6 ⟨s2, r2, n2, hs2, rfl, b6⟩; obtain ⟨h6, h61, h62⟩ := K6.out w6 w5 b5 b6; obtain ⟨e0, e1, e2, e3, e4, e5, e6, e7, e8, e9⟩ := h6.st; have f0 := h6.free 0; have f1 := h6.free 1; have f2 := h6.free 2; have f3 := h6.free 3; have f4 := h6.free 4; have f5 := h6.free 5; have f6 := h6.free 6; have f7 := h6.free 7; have f8 := h6.free 8; have f9 := h6.free 9; dsimp only [mval, mcells]))
  all_goals
    have hX : MH (((set8 w6 w.heap.size s2).setCell ⟨w.heap.size, 8, none⟩ (.string r2)).setCell ⟨w.heap.size, 9, none⟩ (.int .i64 (n2 : Nat))) w.heap.size s2 r2 n2 := ((h6.set8 s2).rest r2).size n2
    have hY : HM (((set8 w6 w.heap.size s2).setCell ⟨w.heap.size, 8, none⟩ (.string r2)).setCell ⟨w.heap.size, 9, none⟩ (.int .i64 (n2 : Nat))) (w.heap.size + 1) (List.replicate 32 0) := ((HM.set8o h61 (by omega) s2).setOther (by omega) _ _).setOther (by omega) _ _
    have hZ : Below w.heap.size w (((set8 w6 w.heap.size s2).setCell ⟨w.heap.size, 8, none⟩ (.string r2)).setCell ⟨w.heap.size, 9, none⟩ (.int .i64 (n2 : Nat))) := ((h62.trans (set8_below w6 _ s2)).setCell (p := ⟨w.heap.size, 8, none⟩) (Nat.le_refl _) _).setCell (p := ⟨w.heap.size, 9, none⟩) (Nat.le_refl _) _
    change Exit.then _ _ Exit.normal _ (((set8 w6 w.heap.size s2).setCell ⟨w.heap.size, 8, none⟩ (.string r2)).setCell ⟨w.heap.size, 9, none⟩ (.int .i64 (n2 : Nat)))
    generalize ((set8 w6 w.heap.size s2).setCell ⟨w.heap.size, 8, none⟩ (.string r2)).setCell ⟨w.heap.size, 9, none⟩ (.int .i64 (n2 : Nat)) = X at *
    clear c0 c1 c2 c3 c4 c5 c6 c7 c8 c9 d0 d1 d2 d3 d4 d5 d6 d7 d8 d9 e0 e1 e2 e3 e4 e5 e6 e7 e8 e9 f0 f1 f2 f3 f4 f5 f6 f7 f8 f9 h6 h61 h62 h5 b5 b6 K6 HK hsz hP
    have hq : w.heap.size + 1 < X.heap.size := hY.lt
    have hQ : HM (X.alloc (.cells (hcells (List.replicate 32 0)) 109)) X.heap.size (List.replicate 32 0) := heap_alloc_new _ _
    have hX2 := hX.alloc (.cells (hcells (List.replicate 32 0)) 109)
    have hY2 := hY.alloc (.cells (hcells (List.replicate 32 0)) 109)
    have hZ2 := hZ.alloc (by omega) (.cells (hcells (List.replicate 32 0)) 109)
    have HQ := Lib.hid (And.intro hQ (And.intro hX2 (And.intro hY2 hZ2))); clear hQ hX2 hY2 hZ2 hX hY hZ
    have hs32 : ∀ l : List UInt8, l.length = 32 → (hcells l).size = 32 := fun l h => by rw [hcells_size]; exact h
    have HS32 := Lib.hid hs32; clear hs32
    go_wp2
    go_loopw [10] (fun i wr => ∃ (k : Nat) (kk : Int) (l : List UInt8), k ≤ 32 ∧ kk = (k : Nat) ∧ i = .int .i64 kk ∧ Hid (BW s2 k l) ∧ HM wr X.heap.size l ∧ MH wr w.heap.size s2 r2 n2 ∧ Hid (HM wr (w.heap.size + 1) (List.replicate 32 0)) ∧ Hid (Below w.heap.size w wr)) (fun i _ => 32 - (intOf i).toNat)
    case atStart => exact ⟨0, 0, _, by omega, rfl, rfl, Lib.hid (BW.start s2), HQ.out.1, HQ.out.2.1, Lib.hid HQ.out.2.2.1, Lib.hid HQ.out.2.2.2⟩
    case round =>
      clear HQ
      obtain ⟨k, kk, l, hk, hkk, rfl, hB, hH, hM, hR, hb⟩ := hrel
      by_cases hlt : k < 32
      · subst hkk
        obtain ⟨m4, hm4⟩ : ∃ m, k % 4 = m := ⟨_, rfl⟩
        obtain ⟨sh, hsh⟩ : ∃ m, 24 - m4 * 8 = m := ⟨_, rfl⟩
        have y1 : (k : Int).tmod 4 = (m4 : Int) := by rw [Int.tmod_eq_emod_of_nonneg (by omega)]; omega
        have m44 : m4 < 4 := by omega
        have y2 : 24 - (m4 : Int) * 8 = (sh : Int) := by omega
        have sh24 : sh ≤ 24 := by omega
        have cw := hM.word (k/4) (by omega)
        have ch := hH.cell k (by rw [hB.out.1]; exact hlt)
        have fh := hH.free k
        have hv := byteOf_eq s2 k sh (by rw [hm4]; exact hsh.symm)
        have hH2 := hH.set k (SH.byteOf s2.l k)
        have hM2 := hM.setOther (c := X.heap.size) (by omega) k (.int .u8 ((SH.byteOf s2.l k).toNat : Nat))
        have hR2 := Lib.hid (hR.out.setOther (c := X.heap.size) (by omega) k (.int .u8 ((SH.byteOf s2.l k).toNat : Nat)))
        have hb2 := Lib.hid (hb.out.setCell (p := ⟨X.heap.size, k, none⟩) (by simp; omega) (.int .u8 ((SH.byteOf s2.l k).toNat : Nat)))
        have HH := Lib.hid (And.intro hH2 (And.intro hM2 (hB.out.step hlt))); clear hH2 hM2 hH hM hR hb hB hsh hm4
        go_wp2
        exact ⟨⟨k + 1, _, _, by omega, by simp, rfl, Lib.hid HH.out.2.2, HH.out.1, HH.out.2.1, hR2, hb2⟩, by simp [intOf]; omega⟩
      · obtain rfl : k = 32 := by omega
        obtain rfl : kk = 32 := by omega
        have e := hB.out.done
        rw [hs2.out] at e
        rw [e] at hH
        clear e hB hkk hlt hk
        have hl : (sha L).length = 32 := by simp [sha, out]
        obtain ⟨l2, hl2⟩ : ∃ l2, sha L = l2 := ⟨_, rfl⟩
        rw [hl2] at hH hl
        have HL := Lib.hid hl2
        have hsz : Hid ((Tryz.prog.info? 109).map (·.size) = some (hcells l2).size) := Lib.hid (by rw [HS32.out l2 hl]; exact hi32.out)
        have hsz2 : Hid ((hcells (List.replicate 32 0)).size = (hcells l2).size) := Lib.hid (by rw [HS32.out l2 hl]; rfl)
        have hR2 := hR.out
        clear hl hl2 hs2 hM
        go_wp2_with (first | (refine wpList_load_row rfl 109 (.tmp 3) rfl X.heap.size rfl 109 (hcells l2) (0, 0) _ hH Tryz.underlying109 rfl hsz.out ?_) | (refine wpList_store_row rfl 109 (.tmp 2) (.tmp 27) rfl (w.heap.size + 1) (hcells l2) rfl rfl 109 _ hR2 hsz.out hsz2.out (hcells_one _) ?_))
        refine bodyPost_ret (results_cell_row rfl _ _ (w.heap.size + 1) _ (hcells l2) _ _ rfl (setRow_heap _ _ _ _ _ _ hR2) Tryz.underlying109 rfl hsz.out) rfl ?_
        exact ⟨by rw [HL.out], Below.setRow' hb.out (by omega) _⟩
set_option maxRecDepth 100000 in
set_option maxHeartbeats 1000000 in
theorem Sum_any (w : World) (t : ByteArray) (hn : t.size ≤ 140737488355328) (hS : SQ w) (hC : CB w) :
    Calls Tryz.prog 66 #[.string t] w fun e w' => e = .returned (hval (sha t.data.toList)) ∧ Below w.heap.size w w' := by
  have hgC := hC.lt
  have hgS : 0 < w.heap.size := SQ.lt hS
  have hl : (sha t.data.toList).length = 32 := by simp [sha, out]
  obtain ⟨l2, hl2⟩ : ∃ l2, sha t.data.toList = l2 := ⟨_, rfl⟩
  have hi32 : Hid ((Tryz.prog.info? 109).map (·.size) = some (hcells l2).size) := Lib.hid (by rw [hcells_size, ← hl2, hl]; kernel_rfl)
  have hsz2 : Hid ((hcells (List.replicate 32 0)).size = (hcells l2).size) := Lib.hid (by rw [hcells_size, hcells_size, ← hl2, hl]; rfl)
  obtain ⟨W, hW⟩ : ∃ W, w.alloc (.cells (hcells (List.replicate 32 0)) 109) = W := ⟨_, rfl⟩
  have h1 : HM W w.heap.size (List.replicate 32 0) := by rw [← hW]; exact heap_alloc_new _ _
  have hb : Below w.heap.size w W := by rw [← hW]; exact (Below.refl _ w).alloc (Nat.le_refl _) _
  have hsW : W.heap.size = w.heap.size + 1 := by rw [← hW]; simp
  have hSW : SQ W := SQ.below hS hb hgS
  have hCW : CB W := hC.below hb hgC
  have HL := Lib.hid hl2
  have HK := Lib.hid (And.intro h1 (And.intro hb (And.intro hsW (And.intro hSW (And.intro hCW (And.intro hl2 (And.intro hn (And.intro hS hC)))))))); clear h1 hb hsW hSW hCW hl hl2 hn hS hC
  go_enter Tryz.func66, Tryz.ntmps66
  go_upto_region 1 with fail
  change Code.wp _ _ _ _ (w.alloc (.cells (hcells (List.replicate 32 0)) 109))
  rw [hW]
  clear hW
  have hsW := HK.out.2.2.1
  go_wp2_with fail
  go_must (go_fit (begin_any W HK.out.2.2.2.1))
  rintro e w1 ⟨rfl, b1⟩
  have hC1 : CB w1 := CB.below HK.out.2.2.2.2.1 b1 (by omega)
  go_wp2_with fail
  have ha := add_any w1 [] ⟨#[]⟩ t rfl (by have := HK.out.2.2.2.2.2.2.1; simp; omega) hC1
  go_must (go_fit ha)
  clear ha
  rintro e w2 ⟨r2, hr2, rfl, b2⟩
  rw [List.nil_append] at hr2 ⊢
  have hC2 : CB w2 := CB.below hC1 b2 (by have := b1.size; omega)
  go_wp2_with fail
  go_must (go_fit (sum_any w2 t.data.toList r2 hr2 (by rw [size_toList]; exact HK.out.2.2.2.2.2.2.1) hC2))
  rintro e w3 ⟨rfl, b3⟩
  rw [HL.out]
  have h3 : HM w3 w.heap.size (List.replicate 32 0) := ((HM.below HK.out.1 b1 (by omega)).below b2 (by have := b1.size; omega)).below b3 (by have := b1.size; have := b2.size; omega)
  have hb3 : Below w.heap.size w w3 := ((HK.out.2.1.trans (b1.mono (by omega))).trans (b2.mono (by have := b1.size; omega))).trans (b3.mono (by have := b1.size; have := b2.size; omega))
  have HB3 := Lib.hid hb3; clear b1 b2 b3 hr2 hC1 hC2 hb3 hsW HK
  go_wp2_with (refine wpList_store_row rfl 109 (.tmp 2) (.tmp 6) rfl w.heap.size (hcells l2) rfl rfl 109 _ h3 hi32.out hsz2.out (hcells_one _) ?_)
  refine bodyPost_ret (results_cell_row rfl _ _ w.heap.size _ (hcells l2) _ _ rfl (setRow_heap _ _ _ _ _ _ h3) Tryz.underlying109 rfl hi32.out) rfl ?_
  exact ⟨by rw [HL.out], Below.setRow' HB3.out (Nat.le_refl _) _⟩
end Go.Proofs.YtbfplapjjeeceaaGreatDoor
