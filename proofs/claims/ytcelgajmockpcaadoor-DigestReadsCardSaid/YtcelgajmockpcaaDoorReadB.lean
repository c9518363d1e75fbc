/-
  The walk of the reference's Read of a text of 64 bytes.
-/
import Derived.Test.YtcelgajmockpcaaDoorReadR
namespace Go.Proofs.YtcelgajmockpcaaDoor
open Go.RowKit SH
set_option maxRecDepth 100000 in
set_option maxHeartbeats 4000000 in
theorem refRead_long (w : World) (t : ByteArray) (hn : t.size = 64) :
    Calls Tryd.prog 10 #[.string t] w fun e w' => e = .returned (RDV t.data.toList) ∧ Below w.heap.size w w' := by
  have hL : t.data.toList.length = 64 := by rw [size_toList]; exact hn
  have hi32 : Hid ((Tryd.prog.info? 23).map (·.size) = some (hcells (List.replicate 32 0)).size) := Lib.hid (by rw [hcells_size]; kernel_rfl)
  obtain ⟨W, hW⟩ : ∃ W, (w.alloc (.cells (hcells (List.replicate 32 0)) 23)).alloc (.cells (hcells (List.replicate 32 0)) 23) = W := ⟨_, rfl⟩
  have h0 : HM W w.heap.size (List.replicate 32 0) := by rw [← hW]; exact heap_alloc2_old _ _ _
  have h1 : HM W (w.heap.size + 1) (List.replicate 32 0) := by rw [← hW]; exact heap_alloc2_new _ _ _
  have hb : Below w.heap.size w W := by rw [← hW]; exact ((Below.refl w.heap.size w).alloc (Nat.le_refl _) _).alloc (by simp) _
  have HB := Lib.hid (And.intro h0 (And.intro h1 (And.intro hb hL))); clear h0 h1 hb hL
  go_enter Tryd.func10, Tryd.ntmps10
  go_upto_region 2 with fail
  change Code.wp _ _ _ _ ((w.alloc (.cells (hcells (List.replicate 32 0)) 23)).alloc (.cells (hcells (List.replicate 32 0)) 23))
  rw [hW]
  clear hW
  go_wp2_with fail
  go_loopw [5] (fun v wr => ∃ (i : Nat) (l : List UInt8), i ≤ 64 ∧ v = .int .i64 i ∧ Hid (ST t.data.toList i l) ∧ HM wr (w.heap.size + 1) l ∧ Hid (HM wr w.heap.size (List.replicate 32 0)) ∧ Hid (Below w.heap.size w wr)) (fun v _ => 64 - (intOf v).toNat)
  case atStart => exact ⟨0, _, by omega, rfl, Lib.hid (ST.start _), HB.out.2.1, Lib.hid HB.out.1, Lib.hid HB.out.2.2.1⟩
  case round =>
    obtain ⟨i, l, hi, rfl, hS, hH, hZ, hb⟩ := hrel
    have HL := Lib.hid HB.out.2.2.2
    clear HB
    by_cases hlt : i < 64
    · obtain ⟨c, hc⟩ : ∃ x, (t[i]'(by omega)) = x := ⟨_, rfl⟩
      have hcL := Lib.hid (show t.data.toList.getD i 0 = c by rw [← hc, List.getD_eq_getElem?_getD, List.getElem?_eq_getElem (by rw [size_toList]; omega)]; rfl)
      go_wp2_with fail
      go_loopw [6, 7] (fun v u wq => ∃ (k : Nat) (V : Int), k ≤ 16 ∧ V = fi c k ∧ v = .int .i64 V ∧ u = .int .i64 k ∧ HM wq (w.heap.size + 1) l ∧ Hid (HM wq w.heap.size (List.replicate 32 0)) ∧ Hid (Below w.heap.size w wq)) (fun _ u _ => 16 - (intOf u).toNat)
      case atStart => exact ⟨0, -1, by omega, rfl, rfl, rfl, hH, hZ, hb⟩
      case round =>
        clear hH hZ hb
        obtain ⟨k, V, hk, hV, rfl, rfl, hH, hZ, hb⟩ := hrel
        by_cases hk16 : k < 16
        · have hd := dig_index k hk16
          obtain ⟨d, hdd⟩ : ∃ d, digs.getD k 0 = d := ⟨_, rfl⟩
          rw [hdd] at hd
          by_cases hdc : d = c
          · have hV2 := Lib.hid (show (k : Int) = fi c (k+1) by unfold fi; rw [hdd, if_pos hdc])
            have ht : ((d.toNat : Int) == (c.toNat : Int)) = true := by rw [hdc]; simp
            have HV := Lib.hid hV
            clear hdc hV
            go_wp2_with fail
            go_region
            all_goals go_wp2
            all_goals exact ⟨⟨k + 1, k, by omega, hV2.out, rfl, by go_num, hH, hZ, Lib.hid hb.out.drew⟩, by simp only [intOf]; omega⟩
          · have hV2 := Lib.hid (show V = fi c (k+1) by unfold fi; rw [hdd, if_neg hdc]; exact hV)
            have ht : ((d.toNat : Int) == (c.toNat : Int)) = false := beq_eq_false_iff_ne.2 (by intro h; exact hdc (UInt8.toNat_inj.1 (by omega)))
            have HV := Lib.hid hV
            clear hdc hV
            go_wp2_with fail
            go_region
            all_goals go_wp2
            all_goals exact ⟨⟨k + 1, V, by omega, hV2.out, rfl, by go_num, hH, hZ, Lib.hid hb.out.drew⟩, by simp only [intOf]; omega⟩
        · obtain rfl : k = 16 := by omega
          rw [fi_ix] at hV
          have ox := ix_or c
          by_cases hneg : V < 0
          · have hno := Lib.hid (RDV_none (l := t.data.toList) (by unfold rdo; rw [if_pos HL.out]; exact hS.out.fail HL.out hlt (by rw [hcL.out, ← hV]; exact hneg)))
            have hZ0 := hZ.out
            have HV := Lib.hid hV
            clear hV hH ox
            go_wp2_with (refine wpList_store_row rfl 23 (.tmp 2) (.tmp 29) rfl w.heap.size (hcells (List.replicate 32 0)) rfl rfl 23 _ hZ0 hi32.out rfl (hcells_one _) ?_)
            refine bodyPost_ret (results_row_tmp rfl _ _ w.heap.size _ (hcells (List.replicate 32 0)) _ _ rfl (setRow_heap _ _ _ _ _ _ hZ0) Tryd.underlying23 rfl hi32.out) rfl ?_
            exact ⟨by rw [hno.out]; rfl, Below.setRow' hb.out (Nat.le_refl _) _⟩
          · obtain ⟨n, hvn⟩ : ∃ n : Nat, V = n := ⟨V.toNat, by omega⟩
            have hn16 : n < 16 := by omega
            have hst := hS.out.step HL.out hlt n (by rw [hcL.out, ← hV, hvn])
            have hll := hS.out.length (by omega)
            subst hvn
            obtain ⟨q, hq⟩ : ∃ q, i / 2 = q := ⟨_, rfl⟩
            have hqi : Int.tdiv (i : Int) 2 = (q : Int) := by rw [Int.tdiv_eq_ediv_of_nonneg (by omega)]; omega
            have hq32 : q < 32 := by omega
            rw [hq] at hst
            have ch := hH.cell q (by omega)
            have fh := hH.free q
            have hg := gb_lt l q
            obtain ⟨g, hgg⟩ : ∃ g, gb l q = g := ⟨_, rfl⟩
            rw [hgg] at ch hg hst
            have hH2 := hH.set q (UInt8.ofNat ((g * 16 + n) % 256))
            have hms : (UInt8.ofNat ((g * 16 + n) % 256)).toNat = (g * 16 + n) % 256 := by simp
            rw [hms] at hH2
            have HV := Lib.hid (And.intro hV (And.intro hst hH2))
            clear hV hst hH2 hH ox hq hgg hms
            go_wp2
            have ev : (g : Int) * 16 % 256 + (n : Int) = (((g * 16 + n) % 256 : Nat) : Int) := by omega
            rw [ev]
            exact ⟨⟨i + 1, _, by omega, by go_num, Lib.hid HV.out.2.1, HV.out.2.2, Lib.hid (hZ.out.setOther (c := w.heap.size + 1) (by omega) q _), Lib.hid (hb.out.setCell (p := ⟨w.heap.size + 1, q, none⟩) (by simp) _)⟩, by simp only [intOf]; omega⟩
    · obtain rfl : i = 64 := by omega
      have hyes := Lib.hid (RDV_some (l := t.data.toList) (r := l) (by unfold rdo; rw [if_pos HL.out]; exact hS.out.stop HL.out))
      have hl32 := hS.out.length (by omega)
      have hsz : Hid ((Tryd.prog.info? 23).map (·.size) = some (hcells l).size) := Lib.hid (by rw [hcells_size, hl32]; kernel_rfl)
      have hsz2 : Hid ((hcells (List.replicate 32 0)).size = (hcells l).size) := Lib.hid (by rw [hcells_size, hcells_size, hl32]; rfl)
      have hZ0 := hZ.out
      clear hl32 hi32
      go_wp2_with (first | (refine wpList_load_row rfl 23 (.tmp 4) rfl (w.heap.size + 1) rfl 23 (hcells l) (0, 0) _ hH Tryd.underlying23 rfl hsz.out ?_) | (refine wpList_store_row rfl 23 (.tmp 2) (.tmp 41) rfl w.heap.size (hcells l) rfl rfl 23 _ hZ0 hsz.out hsz2.out (hcells_one _) ?_))
      refine bodyPost_ret (results_row_tmp rfl _ _ w.heap.size _ (hcells l) _ _ rfl (setRow_heap _ _ _ _ _ _ hZ0) Tryd.underlying23 rfl hsz.out) rfl ?_
      exact ⟨by rw [hyes.out]; rfl, Below.setRow' hb.out (Nat.le_refl _) _⟩
theorem refRead_any (w : World) (t : ByteArray) :
    Calls Tryd.prog 10 #[.string t] w fun e w' => e = .returned (RDV t.data.toList) ∧ Below w.heap.size w w' := by
  by_cases h : t.size = 64
  · exact refRead_long w t h
  · exact refRead_short w t h
end Go.Proofs.YtcelgajmockpcaaDoor
