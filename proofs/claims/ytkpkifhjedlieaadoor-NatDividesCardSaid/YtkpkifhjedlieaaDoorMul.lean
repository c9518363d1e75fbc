/-
  The walk of nat.product.
-/
import Derived.Test.YtkpkifhjedlieaaDoorProd
namespace Go.Proofs.YtkpkifhjedlieaaDoor
open Go.RowKit NM
theorem infoW : (Tryd.prog.info? 56).map (fun i => (i.zero, i.size, i.bytes)) = some (some (.int .u64 0), 1, 8) := by kernel_rfl
/-- make([]uint64, n) -/
theorem make_words (n : Nat) (hn : n ≤ 1099511627776) (u : World) : (Instr.makeSlice 46 (.int .i64 (n : Int)) (.int .i64 (n : Int))).run Tryd.prog u =
    .ok (.slice (some ⟨u.heap.size, 0, none⟩) n n) (u.alloc (.cells (madeCells #[.int .u64 0] n) 56)) := by
  obtain ⟨i0, hi, hz0, hz1, hz2⟩ := info_parts infoW
  have h := run_make (P := Tryd.prog) u 46 56 i0 (.int .u64 0) Tryd.underlying46 hi hz0 .i64 .i64 (n : Int) (n : Int) (by omega) (Int.le_refl _) (by rw [hz2]; omega) (by omega)
  simpa [hz1, Value.cells] using h
theorem row_made (n t : Nat) (u : World) : Row (u.alloc (.cells (madeCells #[.int .u64 0] n) t)) u.heap.size 0 (List.replicate n 0) where
  cell j hj := by
    rw [List.length_replicate] at hj
    rw [Nat.zero_add, World.cell?_alloc_at _ _ _ _ rfl, ← Array.getElem?_toList, toList_madeCells_one, List.getElem?_replicate, if_pos hj]
    simp [gd, hj]
  free j hj := by rw [World.frozen?_alloc_at _ _ _ _ rfl]
theorem Wd_zeros (n : Nat) : Wd (List.replicate n 0) := fun x hx => by rw [(List.mem_replicate.1 hx).2]; exact B64_pos
theorem At.made (n t : Nat) (u : World) : At n u.heap.size 0 (u.alloc (.cells (madeCells #[.int .u64 0] n) t)) (List.replicate n 0) (u.alloc (.cells (madeCells #[.int .u64 0] n) t)) :=
  ⟨List.length_replicate, Wd_zeros n, row_made n t u, Only.refl _ _ _ _⟩
/-- part of the words is turned -/
theorem At.part {n b i : Nat} {w wr w' : World} {Z Z' : List Nat} (h : At n b 0 w Z wr) (hi : i ≤ n) (h' : At (Z.drop i).length b i wr Z' w') : At n b 0 w (Z.take i ++ Z') w' := by
  have hl : Z'.length = n - i := by rw [h'.len, List.length_drop, h.len]
  refine ⟨by rw [List.length_append, List.length_take, hl, h.len]; omega, Wd_append (Wd_take h.wd i) h'.wd, ?_, ?_⟩
  · refine Row.append (h'.only.rowIn (h.row.take i) (.inl (by rw [List.length_take, h.len]; omega))) ?_
    rw [List.length_take, h.len, Nat.zero_add, Nat.min_eq_left hi]; exact h'.row
  · refine h.only.trans (h'.only.wide (by omega) ?_)
    rw [List.length_drop, h.len]; omega
/-- a row of words that the call owns -/
structure Own (B : Nat) (w : World) (b o cap : Nat) (Z : List Nat) : Prop where
  lo : B ≤ b
  lt : b < w.heap.size
  row : Row w b o Z
  wd : Wd Z
  cap : Z.length ≤ cap
def PQ (X Y : List Nat) (w : World) (e : Ending) (w' : World) : Prop :=
  ∃ Z, Own w.heap.size w' w.heap.size 0 (X.length + Y.length) Z ∧ wv Z = wv X * wv Y ∧ Tr Z ∧ Below w.heap.size w w' ∧ e = .returned (.slice (some ⟨w.heap.size, 0, none⟩) Z.length (X.length + Y.length))
set_option maxHeartbeats 1000000 in
theorem product_any (w : World) (b o cap b2 o2 cap2 : Nat) (X Y : List Nat) (hR : Row w b o X) (hS : Row w b2 o2 Y) (hX : Wd X) (hY : Wd Y) (hb : b < w.heap.size) (hb2 : b2 < w.heap.size)
    (hn : X.length + Y.length ≤ 1099511627776) (hc : X.length ≤ cap) (hc2 : Y.length ≤ cap2) :
    Calls Tryd.prog 29 #[.slice (some ⟨b, o, none⟩) X.length cap, .slice (some ⟨b2, o2, none⟩) Y.length cap2] w (PQ X Y w) := by
  have hmk : ∀ u : World, (Instr.makeSlice 46 (.int .i64 ((X.length : Int) + (Y.length : Int))) (.int .i64 ((X.length : Int) + (Y.length : Int)))).run Tryd.prog u =
    .ok (.slice (some ⟨u.heap.size, 0, none⟩) (X.length + Y.length) (X.length + Y.length)) (u.alloc (.cells (madeCells #[.int .u64 0] (X.length + Y.length)) 56)) := fun u => by
      have := make_words (X.length + Y.length) hn u
      simpa using this
  have hA0 := At.made (X.length + Y.length) 56 w
  have hR1 := hR.alloc hb (.cells (madeCells #[.int .u64 0] (X.length + Y.length)) 56)
  have hS1 := hS.alloc hb2 (.cells (madeCells #[.int .u64 0] (X.length + Y.length)) 56)
  have hB1 := (Below.refl w.heap.size w).alloc (Nat.le_refl _) (.cells (madeCells #[.int .u64 0] (X.length + Y.length)) 56)
  have hz : (w.alloc (.cells (madeCells #[.int .u64 0] (X.length + Y.length)) 56)).heap.size = w.heap.size + 1 := by simp
  clear hR hS
  go_enter Tryd.func29, Tryd.ntmps29
  go_wp2
  generalize w.alloc (.cells (madeCells #[.int .u64 0] (X.length + Y.length)) 56) = w1 at *
  clear hmk
  have HZ := Lib.hid hz; clear hz
  go_loopw [16] (fun i wr => ∃ (k : Nat) (Z : List Nat), k ≤ Y.length ∧ i = .int .i64 (k : Nat) ∧ At (X.length + Y.length) w.heap.size 0 w1 Z wr ∧ Hid (wv Z = wv X * wv (Y.take k))) (fun i _ => Y.length - (intOf i).toNat)
  case atStart => exact ⟨0, _, Nat.zero_le _, rfl, hA0, by show _ = _; simp [wv, wv_replicate]⟩
  case round =>
    obtain ⟨k, Z, hk, rfl, hA, hv⟩ := hrel
    clear hA0
    by_cases hlt : k < Y.length
    · have hy := (hA.only.row hS1 (by omega) (by rw [HZ.out]; omega)).cell k hlt
      have hcall := addProduct_any wr w.heap.size k (X.length + Y.length - k) b o cap (gd Y k) (Z.drop k) X (by have := hA.row.drop k; rwa [Nat.zero_add] at this) (hA.only.row hR1 (by omega) (by rw [HZ.out]; omega)) (Wd_drop hA.wd k) hX (by omega) (by have := hA.only.size; rw [HZ.out] at this; omega)
        (gd_lt hY k) (by rw [List.length_drop, hA.len]; omega) (by rw [List.length_drop, hA.len]; omega) hc (by rw [List.length_drop, hA.len]; omega)
        (by rw [List.length_drop, hA.len, drop_div Z hA.wd]; exact product_room X Y k (gd Y k) (wv Z) _ hX hY hlt (Wd_getD hY k) rfl hv.out)
      have hcall2 : Calls Tryd.prog 48 #[.slice (some ⟨w.heap.size, k, none⟩) (X.length + Y.length - k) (X.length + Y.length - k), .slice (some ⟨b, o, none⟩) X.length cap, .int .u64 (gd Y k : Nat)] wr (ProdQ (Z.drop k) X (gd Y k) w.heap.size k wr) := by
        rw [List.length_drop, hA.len] at hcall; exact hcall
      have HC := Lib.hid hcall2; clear hcall hcall2
      have HR := Lib.hid hR1; clear hR1
      have HS := Lib.hid hS1; clear hS1
      go_wp2_with (refine HC.out.mono ?_; rintro e w' ⟨Z', hA', hZ', rfl⟩)
      go_roundw
      case rel => exact ⟨k + 1, Z.take k ++ Z', hlt, by go_num, hA.part (by omega) hA', by
        show _ = _
        exact product_step X Y Z k Z' hlt (by rw [hA.len]; omega) hv.out hZ'⟩
      case measure => (simp [intOf]; try omega)
    · obtain rfl : k = Y.length := by omega
      have hv2 : wv Z = wv X * wv Y := by have := hv.out; rwa [List.take_length] at this
      have ht := trim_any wr w.heap.size 0 (X.length + Y.length) Z hA.row (by rw [hA.len]; omega) (by rw [hA.len]; omega)
      rw [hA.len] at ht
      have HT := Lib.hid ht; clear ht
      have HV := Lib.hid hv2; clear hv2 hv
      have HR := Lib.hid hR1; clear hR1
      have HS := Lib.hid hS1; clear hS1
      go_wp2_with (refine HT.out.mono ?_; rintro e w' ⟨j, hj, hw, htr, rfl, rfl⟩)
      go_ret
      have hl : (Z.take j).length = j := by rw [List.length_take]; omega
      have hz2 : w.heap.size < wr.heap.size := by have := hA.only.size; have := HZ.out; omega
      refine ⟨Z.take j, ⟨Nat.le_refl _, hz2, hA.row.take j, Wd_take hA.wd j, by rw [hl]; have := hA.len; omega⟩, by rw [hw]; exact HV.out, htr, hB1.trans (hA.only.below (Nat.le_refl _) (by have := HZ.out; omega)), by rw [hl]; rfl⟩
end Go.Proofs.YtkpkifhjedlieaaDoor
