/-
  The walk of the reference's Points.
-/
import Derived.Test.YtihplnomhfpajaaWRefP
namespace Go.Proofs.Ytihplnomhfpajaa.W8
open Go.RowKit GM G4 D7P Go.Maps
open Classical in
set_option maxRecDepth 100000 in
set_option maxHeartbeats 4000000 in
theorem refPoints_any (w : World) (v : Value) (l : List Mb) (hV : MbL w v l) : Calls Try.prog 8 #[v] w (PQ w l) := by
  obtain ⟨i0, hi, hz0, hz1, hz2⟩ := info_parts infoI
  obtain ⟨j0, hj, hy0, hy1, hy2⟩ := info_parts infoL
  have A := Lib.hid (total_any w v l _ rfl hV)
  obtain ⟨⟨p, c, rfl, hc⟩, hr, hln⟩ := hV
  have HI := Lib.hid (And.intro hc hr); clear hc hr
  by_cases hR : Rgt l
  · rw [ttl_yes hR] at A
    have hpos := rgt_pos hR
    obtain ⟨T, hT⟩ : ∃ T, tot l = T := ⟨_, rfl⟩
    rw [hT] at A hpos
    have HTT := Lib.hid hT; clear hT
    obtain ⟨N, hN⟩ : ∃ N, l.length = N := ⟨_, rfl⟩
    rw [hN] at A hln ⊢
    have hN13 : N ≤ 13 := by rw [← hN]; exact hR.2.1
    have HR := Lib.hid hR
    have HN := Lib.hid hN; clear hN hR
    go_enter Try.func8, Try.ntmps8
    go_wp2_with fail
    refine A.out.mono ?_
    rintro e w1 ⟨rfl, b1⟩
    have HB1 := Lib.hid b1; clear b1 A
    have hT0 : (T == 0) = false := by rw [beq_eq_false_iff_ne]; omega
    go_wp2_with fail
    go_loopw [4, 5, 6] (fun a n i wr => ∃ (k : Nat) (z : Int), k ≤ N ∧ n = .int .i64 z ∧ i = .int .i64 (k : Int) ∧ 0 ≤ z ∧ z ≤ 260 ∧ Hid (z = tot (l.take k) ∧ PS w a (ptl 1 (l.take k)) wr)) (fun _ _ i _ => N - (match i with | .int _ i => i.toNat | _ => 0))
    case atStart => exact ⟨0, 0, Nat.zero_le _, rfl, rfl, by omega, by omega, Lib.hid ⟨rfl, HB1.out, [], World.ownsRow_nil _ _ _ _, fun j l hj => by simp [ptl] at hj⟩⟩
    case round =>
      obtain ⟨k, z, hk, rfl, rfl, hzl, hzu, hP⟩ := hrel
      by_cases hlt : k < N
      · obtain ⟨⟨x, y, u⟩, hx⟩ : ∃ s, l[k]? = some s := ⟨l[k]'(by rw [HN.out]; exact hlt), List.getElem?_eq_getElem _⟩
        obtain ⟨b, o, hp, hc0, hc1, hc2⟩ := HI.out.1 k _ hx
        subst hp
        have c0 := (hP.out.2.b.cell (p := ⟨b, o + k * 3, none⟩) (World.block_lt_of_cell? _ _ hc0)).trans hc0
        have c1 := (hP.out.2.b.cell (p := ⟨b, o + k * 3 + 1, none⟩) (World.block_lt_of_cell? _ _ hc1)).trans hc1
        have c2 := (hP.out.2.b.cell (p := ⟨b, o + k * 3 + 2, none⟩) (World.block_lt_of_cell? _ _ hc2)).trans hc2
        dsimp only at c0 c1 c2
        have hix := HI.out.2 _ (List.mem_of_getElem? hx)
        have hix1 : i64 y := hix.2.1
        have hy0' := HR.out.2.2.1.1 _ (List.mem_of_getElem? hx)
        have hyr : 1 ≤ y ∧ y ≤ 20 := hy0'
        have hsum := (fair_tot _ (fair_take HR.out.2.2.1 (k+1)))
        rw [tot_snoc l k _ hx, List.length_take] at hsum
        have hzy : z + y ≤ 260 := by have := hP.out.1; have h2 : tot (l.take k) + y ≤ 20 * ((min (k+1) l.length : Nat) : Int) := hsum.2; omega
        have HX := Lib.hid (And.intro (ptl_snoc l k _ hx) (tot_snoc l k _ hx))
        have hc1' := c1
        clear hx hc0 hc1 hc2 hix hy0' hsum
        have HC1 := Lib.hid hc1'
        have hPV := Lib.hid hP.out.2
        have HZ := Lib.hid hP.out.1
        clear c0 c1 c2 hP
        obtain ⟨m, rfl⟩ : ∃ m : Nat, y = (m : Int) := ⟨y.toNat, by omega⟩
        obtain ⟨V, hV⟩ : ∃ V, V = wr := ⟨_, rfl⟩
        subst hV
        clear hc1'
        go_wp2_with fail
        go_loopw [7, 5, 8] (fun pv n i wx => ∃ (j : Nat), j ≤ m ∧ n = .int .i64 (z + (j : Int)) ∧ i = .int .i64 (j : Int) ∧ Hid (wx.ownsRow V.heap.size 3 1 pv (rng (1 + z) j).length ((rng (1 + z) j).map (Value.int .i64)) ∧ Below V.heap.size V wx)) (fun _ _ i _ => m - (match i with | .int _ i => i.toNat | _ => 0))
        case atStart => exact ⟨0, Nat.zero_le _, by go_num, rfl, Lib.hid ⟨World.ownsRow_nil _ _ _ _, Below.refl _ _⟩⟩
        case round =>
          obtain ⟨j, hjm, rfl, rfl, hQ⟩ := hrel
          have cw := (hQ.out.2.cell (p := ⟨b, o + k * 3 + 1, none⟩) (World.block_lt_of_cell? _ _ HC1.out)).trans HC1.out
          by_cases hjlt : j < m
          · have hA := Lib.hid (And.intro (show (rng (1 + z) j).length + 1 ≤ maxLen by rw [rng_len]; unfold maxLen; omega) (show ((rng (1 + z) j).length + 1) * 8 ≤ 140737488355328 by rw [rng_len]; omega))
            have hN2 := Lib.hid (And.intro (show rng (1 + z) (j+1) = rng (1 + z) j ++ [z + (j : Int) + 1] by rw [rng_succ, show 1 + z + (j : Int) = z + (j : Int) + 1 by omega]) (rng_len (1 + z) j))
            go_wp2_with (at_builtin; refine wpList_append_lies _ rfl _ _ 38 rfl V.heap.size 3 i0 (.int .i64 0) 1 8 Try.underlying38 hi hz0 hz1 hz2 rfl (by decide) _ (rng (1 + z) j).length ((rng (1 + z) j).map (Value.int .i64)) rfl (hQ.out.1.alloc _) ⟨wr.heap.size, 0, none⟩ 1 1 [.int .i64 (z + (j : Int) + 1)] rfl rfl (World.news_of_block (heap_alloc_new _ _)) (by simp [Value.oneCell']) Nat.zero_lt_one hA.out.1 hA.out.2 (by rw [World.size_alloc]; exact Nat.le_succ_of_le hQ.out.2.size) _ rfl ?_; intro g9 c9 w9 hown9 hgrow9 hat9 hlt9)
            have K9 := Lib.hid (show w9.ownsRow V.heap.size 3 1 (.slice (some ⟨g9, 0, none⟩) ((rng (1 + z) j).length + 1) c9) (rng (1 + z) (j+1)).length ((rng (1 + z) (j+1)).map (Value.int .i64)) ∧ Below V.heap.size V w9 from ⟨by rw [hN2.out.1, List.length_append, List.map_append]; exact hown9, (hQ.out.2.alloc hQ.out.2.size _).grown hgrow9 (by rw [World.size_alloc]; exact Nat.le_succ_of_le hQ.out.2.size) (fun r hr => (hQ.out.1.lt r hr).1)⟩)
            clear hown9 hgrow9 hat9 hlt9
            exact ⟨⟨j + 1, by omega, by go_num, by go_num, K9⟩, by simp; omega⟩
          · obtain rfl : j = m := by omega
            obtain ⟨vs, hav, hrows⟩ := hPV.out.o
            have hbw := hPV.out.b.trans (hQ.out.2.mono hPV.out.b.size)
            have kB := hQ.out.2
            have hpv := own_base' hQ.out.1 hPV.out.b.size
            obtain ⟨p8, c8, rfl⟩ := own_shape hpv
            have hL : (ptl 1 (l.take k)).length = k := by rw [ptl_len, List.length_take, HN.out]; omega
            have hav2 := own_below' hav kB
            have hvs : vs.length = k := by have := hav.1; omega
            rw [hL] at hav2
            have HA := Lib.hid (And.intro hav2 hpv)
            have HW := Lib.hid (And.intro hbw (And.intro hrows (And.intro kB hL)))
            have hL13 : k + 1 ≤ maxLen ∧ (k + 1) * 24 ≤ 140737488355328 ∧ w.heap.size ≤ wr.heap.size := ⟨by unfold maxLen; omega, by omega, hbw.size⟩
            have HL13 := Lib.hid hL13
            clear hav hrows hbw kB hpv hL hav2 hQ hPV hvs hL13
            clear HC1
            go_upto_region 7 with (at_builtin; go_must (refine wpList_append_lies _ rfl _ _ 29 rfl w.heap.size 38 j0 (.slice none 0 0) 1 24 Try.underlying29 hj hy0 hy1 hy2 rfl (by decide) _ k vs rfl (HA.out.1.alloc _) ⟨wr.heap.size, 0, none⟩ 1 1 [.slice p8 (rng (1 + z) j).length c8] rfl rfl (World.news_of_block (heap_alloc_new _ _)) (fun q hq => by obtain rfl := List.mem_singleton.1 hq; rfl) Nat.zero_lt_one HL13.out.1 HL13.out.2.1 (by rw [World.size_alloc]; exact Nat.le_succ_of_le HL13.out.2.2) _ rfl ?_); intro g9 c9 w9 hown9 hgrow9 hat9 hlt9)
            have kk := (Below.refl wr.heap.size wr).alloc (Nat.le_refl _) (.cells #[.slice p8 (rng (1 + z) j).length c8] 38)
            have K9 := Lib.hid (show (z + (j : Int)) = tot (l.take (k+1)) ∧ PS w (.slice (some ⟨g9, 0, none⟩) (k + 1) c9) (ptl 1 (l.take (k+1))) w9 from ⟨by have := HX.out.2; have := HZ.out; omega, by
              have := PS.app (L := ptl 1 (l.take k)) (l := rng (1 + tot (l.take k)) ((j : Int)).toNat) (av := u4) (pv := .slice p8 (rng (1 + z) j).length c8) (vs := vs) (g := g9) (cap := c9) (HW.out.1.alloc HW.out.1.size (.cells #[.slice p8 (rng (1 + z) j).length c8] 38)) (by rw [HW.out.2.2.2]; exact HA.out.1.alloc _)
                (fun i q hq => by obtain ⟨v, h3, h4⟩ := HW.out.2.1 i q hq; exact ⟨v, h3, own_below' (own_below' h4 HW.out.2.2.1) kk⟩) (by rw [← HZ.out, Int.toNat_natCast]; exact HA.out.2.alloc _) (by rw [HW.out.2.2.2]; exact hown9) hgrow9
              rw [HX.out.1]
              rw [HW.out.2.2.2] at this
              exact this⟩)
            clear hown9 hgrow9 hat9 hlt9 kk
            go_wp2
            go_roundw
            case rel => exact ⟨k + 1, z + (j : Int), by omega, rfl, by go_num, by omega, by omega, K9⟩
            case measure => (simp; try omega)
      · obtain rfl : k = N := by omega
        have hE : l.take k = l := List.take_of_length_le (by rw [HN.out]; exact Nat.le_refl _)
        rw [hE] at hP
        have HQ := Lib.hid (show PQ w l (.returned (.tuple #[u4, .bool true])) wr from ⟨hP.out.2.b, .inl ⟨HR.out, u4, rfl, hP.out.2⟩⟩)
        clear hP hE
        go_wp2
        go_ret2
        exact HQ.out
  · rw [ttl_no hR] at A
    have HR := Lib.hid hR
    clear HI hR
    generalize l.length = N at *
    go_enter Try.func8, Try.ntmps8
    go_wp2_with fail
    refine A.out.mono ?_
    rintro e w1 ⟨rfl, b1⟩
    have HB1 := Lib.hid b1; clear b1 A
    go_wp2
    go_ret2
    exact ⟨HB1.out, .inr ⟨HR.out, rfl⟩⟩
end Go.Proofs.Ytihplnomhfpajaa.W8
