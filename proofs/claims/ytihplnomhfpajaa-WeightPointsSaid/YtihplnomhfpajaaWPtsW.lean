/-
  The walk of the law WeightPoints.
-/
import Derived.Test.YtihplnomhfpajaaWPtsM
import Derived.Test.YtihplnomhfpajaaWArgs
namespace Go.Proofs.Ytihplnomhfpajaa.W8
open Go.RowKit GM G4 D7P Go.Maps
/-- the two slices of members lie in an array of two cells -/
def Two (W : World) (g : Nat) (x y : Value) : Prop := W.cell? ⟨g, 0, none⟩ = some x ∧ W.cell? ⟨g, 1, none⟩ = some y
set_option maxRecDepth 100000 in
set_option maxHeartbeats 8000000 in
theorem points_walk (w : World) (v rv : Value) (p q : Option Addr) (N n2 c c2 : Nat) (Z Y : Nat → Nat → Int) (hV : FlA w 2 v p N c Z) (hR : FlA w 3 rv q n2 c2 Y) :
    Calls Try.prog 3 #[v, rv] w fun e w' => e = .returned (.bool true) ∧ Below w.heap.size w w' := by
  obtain ⟨i0, hi, hz0, hz1, hz2⟩ := info_parts infoM
  obtain ⟨M, hM⟩ : ∃ M, min N 15 = M := ⟨_, rfl⟩
  obtain ⟨m2, hm2⟩ : ∃ m, min n2 15 = m := ⟨_, rfl⟩
  obtain ⟨l, hl⟩ : ∃ l, (List.range M).map (fun j => (Z j 0, Z j 1)) = l := ⟨_, rfl⟩
  have hS := hV.shares M (by omega) (by omega)
  have hMb := hR.members m2 (by omega) (by omega)
  rw [hl] at hS
  have hlM : l.length = M := by rw [← hl]; simp
  obtain ⟨⟨p', c', e1, hc⟩, hr, _⟩ := hS
  rw [hlM] at e1
  injection e1 with e1 _ e2
  subst e1 e2
  obtain ⟨rfl, hNc, hNm, _, _⟩ := hV
  obtain ⟨rfl, hnc, hcm, hnil, _⟩ := hR
  have HI := Lib.hid (And.intro hc hr); clear hc hr hl
  have hmi : min (n2 : Int) 15 = (m2 : Int) := by omega
  have hct := cut_members hnc hnil m2 (by omega)
  have HC2 := Lib.hid hMb
  have hMN : M ≤ N := by omega
  have hM15 : M ≤ 15 := by omega
  have hMc : M = N ∨ (M = 15 ∧ 15 ≤ N) := by omega
  have hn2 : (n2 : Int) ≤ 9223372036854775807 := by unfold maxLen at hcm; omega
  have hN2 : (N : Int) ≤ 9223372036854775807 := by unfold maxLen at hNm; omega
  have HN := Lib.hid hlM; clear hlM hM hm2 hnil hnc hcm hNc hNm hMb
  go_enter Try.func3, Try.ntmps3
  go_wp2_with fail
  refine (sanity_any _).mono ?_
  rintro e w1 ⟨rfl, b1⟩
  have HB1 := Lib.hid b1; clear b1
  go_wp2_with fail
  go_loopw [6, 7] (fun a i wr => ∃ (k : Nat), k ≤ M ∧ i = .int .i64 (k : Int) ∧ Hid (wr.ownsRow w1.heap.size 27 3 a k (flat (mks 0 (l.take k))) ∧ Below w1.heap.size w1 wr)) (fun _ i _ => M - (match i with | .int _ i => i.toNat | _ => 0))
  case atStart => exact ⟨0, Nat.zero_le _, rfl, Lib.hid ⟨World.ownsRow_nil _ _ _ _, Below.refl _ _⟩⟩
  case round =>
    obtain ⟨k, hk, rfl, hQ⟩ := hrel
    by_cases hlt : k < M
    · obtain ⟨⟨x, y⟩, hx⟩ : ∃ s, l[k]? = some s := ⟨l[k]'(by rw [HN.out]; exact hlt), List.getElem?_eq_getElem _⟩
      obtain ⟨b, o, hp, hcx, hcy⟩ := HI.out.1 k _ hx
      subst hp
      have hBw := HB1.out.trans (hQ.out.2.mono HB1.out.size)
      have c0 := (hBw.cell (p := ⟨b, o + k * 2, none⟩) (World.block_lt_of_cell? _ _ hcx)).trans hcx
      have c1 := (hBw.cell (p := ⟨b, o + k * 2 + 1, none⟩) (World.block_lt_of_cell? _ _ hcy)).trans hcy
      dsimp only at c0 c1
      have hixy := HI.out.2 _ (List.mem_of_getElem? hx)
      have hix : i64 x := hixy.1
      have hiy : i64 y := hixy.2
      have hb24 := tmod_b x 24 (by decide)
      have HX := Lib.hid (mks_snoc l k _ hx)
      have hkN : k < N := by omega
      have hk15 : k < 15 := by omega
      have hA := Lib.hid (show k + 1 ≤ maxLen ∧ (k + 1) * 24 ≤ 140737488355328 from ⟨by unfold maxLen; omega, by omega⟩)
      clear hx hcx hcy hixy hBw
      have HT := Lib.hid (show ∀ id rr, (if Int.tmod y 20 = 19 then 4 + (k : Int) else 5 + (k : Int)) = id → Int.tmod x 24 = rr → flat (mks 0 (l.take (k+1))) = flat (mks 0 (l.take k)) ++ mc (id, rr - 1, 0) from fun id rr h1 h2 => by
        rw [HX.out, flat_append]
        show _ ++ mc (if Int.tmod y 20 = 19 then 4 + (k : Int) else 5 + (k : Int), Int.tmod x 24 - 1, 0) = _
        rw [h1, h2])
      clear HX
      obtain ⟨rr, hrr⟩ : ∃ r, Int.tmod x 24 = r := ⟨_, rfl⟩
      rw [hrr] at hb24
      by_cases h19 : Int.tmod y 20 = 19
      · have HF := Lib.hid (HT.out (4 + (k : Int)) rr (if_pos h19) hrr)
        clear HT
        go_wp2_with (at_builtin; go_must (refine wpList_append_lies _ rfl _ _ 23 rfl w1.heap.size 27 i0 (.agg #[.int .i64 0, .int .i64 0, .int .i64 0]) 3 24 Try.underlying23 hi hz0 hz1 hz2 rfl (by decide) _ k (flat (mks 0 (l.take k))) rfl (hQ.out.1.alloc _) ⟨wr.heap.size, 0, none⟩ 1 1 (mc (4 + (k : Int), rr - 1, 0)) rfl rfl (World.news_of_block (heap_alloc_new _ _)) (by simp [mc, Value.oneCell']) Nat.zero_lt_one hA.out.1 hA.out.2 (by rw [World.size_alloc]; exact Nat.le_succ_of_le hQ.out.2.size) _ rfl ?_); intro g9 c9 w9 hown9 hgrow9 hat9 hlt9)
        have K9 := Lib.hid (show w9.ownsRow w1.heap.size 27 3 (.slice (some ⟨g9, 0, none⟩) (k + 1) c9) (k+1) (flat (mks 0 (l.take (k+1)))) ∧ Below w1.heap.size w1 w9 from ⟨by rw [HF.out]; exact hown9, (hQ.out.2.alloc hQ.out.2.size _).grown hgrow9 (by rw [World.size_alloc]; exact Nat.le_succ_of_le hQ.out.2.size) (fun r hr => (hQ.out.1.lt r hr).1)⟩)
        clear hown9 hgrow9 hat9 hlt9
        exact ⟨⟨k + 1, by omega, by go_num, K9⟩, by simp; omega⟩
      · have HF := Lib.hid (HT.out (5 + (k : Int)) rr (if_neg h19) hrr)
        clear HT
        go_wp2_with (at_builtin; go_must (refine wpList_append_lies _ rfl _ _ 23 rfl w1.heap.size 27 i0 (.agg #[.int .i64 0, .int .i64 0, .int .i64 0]) 3 24 Try.underlying23 hi hz0 hz1 hz2 rfl (by decide) _ k (flat (mks 0 (l.take k))) rfl (hQ.out.1.alloc _) ⟨wr.heap.size, 0, none⟩ 1 1 (mc (5 + (k : Int), rr - 1, 0)) rfl rfl (World.news_of_block (heap_alloc_new _ _)) (by simp [mc, Value.oneCell']) Nat.zero_lt_one hA.out.1 hA.out.2 (by rw [World.size_alloc]; exact Nat.le_succ_of_le hQ.out.2.size) _ rfl ?_); intro g9 c9 w9 hown9 hgrow9 hat9 hlt9)
        have K9 := Lib.hid (show w9.ownsRow w1.heap.size 27 3 (.slice (some ⟨g9, 0, none⟩) (k + 1) c9) (k+1) (flat (mks 0 (l.take (k+1)))) ∧ Below w1.heap.size w1 w9 from ⟨by rw [HF.out]; exact hown9, (hQ.out.2.alloc hQ.out.2.size _).grown hgrow9 (by rw [World.size_alloc]; exact Nat.le_succ_of_le hQ.out.2.size) (fun r hr => (hQ.out.1.lt r hr).1)⟩)
        clear hown9 hgrow9 hat9 hlt9
        exact ⟨⟨k + 1, by omega, by go_num, K9⟩, by simp; omega⟩
    · obtain rfl : k = M := by omega
      have hM1 := own_MbL (base := w1.heap.size) (l := mks 0 (l.take k)) (by rw [mks_len, List.length_take, HN.out, Nat.min_self]; exact hQ.out.1) (mks_rng _ 0 (by rw [List.length_take]; omega)) (by rw [mks_len, List.length_take]; omega)
      have hBw := HB1.out.trans (hQ.out.2.mono HB1.out.size)
      obtain ⟨pm, cm, rfl⟩ := own_shape hQ.out.1
      have HM1 := Lib.hid hM1
      have HM2 := Lib.hid (HC2.out.next hBw)
      have HBw := Lib.hid hBw
      have rest : ∀ (W : World), wr.alloc (.cells #[.slice pm k cm, .slice q m2 c2] 28) = W → (∀ j : Nat, j < 2 → ∃ u S, W.cell? ⟨wr.heap.size, j, none⟩ = some u ∧ MbL W u S) ∧ Below w.heap.size w W := fun W hW => by
        subst hW
        have al := (Below.refl wr.heap.size wr).alloc (Nat.le_refl _) (.cells #[.slice pm k cm, .slice q m2 c2] 28)
        refine ⟨fun j hj => ?_, HBw.out.alloc HBw.out.size _⟩
        match j, hj with
        | 0, _ => exact ⟨_, _, by rw [World.cell?_alloc_at _ _ _ _ rfl]; rfl, HM1.out.next al⟩
        | 1, _ => exact ⟨_, _, by rw [World.cell?_alloc_at _ _ _ _ rfl]; rfl, HM2.out.next al⟩
      have REST := Lib.hid rest
      clear hM1 hBw hQ rest HC2 HI HM1 HM2 HBw
      rcases hMc with h | ⟨h, h'⟩
      · have hkN : ¬ (k : Int) < (N : Int) := by omega
        clear h hM15 hMN
        go_upto_region 11 with fail
        obtain ⟨W, hW⟩ : ∃ W, wr.alloc (.cells #[.slice pm k cm, .slice q m2 c2] 28) = W := ⟨_, rfl⟩
        obtain ⟨hcell, hBW⟩ := REST.out W hW
        rw [hW]
        clear hW REST
        generalize wr.heap.size = g at *
        have HC := Lib.hid hcell
        have HBW := Lib.hid hBW
        clear hcell hBW hct hmi
        go_wp2_with fail
        go_loopw [10] (fun i wx => ∃ (k2 : Nat), k2 ≤ 2 ∧ i = .int .i64 (k2 : Int) ∧ Hid (Below W.heap.size W wx)) (fun i _ => 2 - (match i with | .int _ i => i.toNat | _ => 0))
        case atStart => exact ⟨0, Nat.zero_le _, rfl, Lib.hid (Below.refl _ _)⟩
        case round =>
          obtain ⟨k2, hk2, rfl, hb⟩ := hrel
          by_cases hlt2 : k2 < 2
          · obtain ⟨u, S, hu, hS⟩ := HC.out k2 hlt2
            have cu := (hb.out.cell (p := ⟨g, k2, none⟩) (World.block_lt_of_cell? _ _ hu)).trans hu
            have P1 := Lib.hid (Points_any wr u S (hS.next hb.out))
            have P2 := Lib.hid fun V (hV : Below wr.heap.size wr V) => refPoints_any V u S ((hS.next hb.out).next hV)
            have HU := Lib.hid (And.intro cu hlt2)
            clear hu hS
            go_wp2_with fail
            refine P1.out.mono ?_
            rintro e wa hq1
            obtain ⟨p1, n1, c1, u1, rfl, b1⟩ := pq_form hq1
            have cu := (b1.cell (p := ⟨g, k2, none⟩) (World.block_lt_of_cell? _ _ HU.out.1)).trans HU.out.1
            have HQ1 := Lib.hid (And.intro hq1 b1)
            clear hq1 b1 P1
            go_wp2_with fail
            refine (P2.out wa HQ1.out.2).mono ?_
            rintro e wb hq2
            obtain ⟨p3, n3, c3, u3, rfl, b2⟩ := pq_form hq2
            obtain ⟨rfl, LL, hLL, k1, k3⟩ := pts_same' HQ1.out.1 hq2
            have HS := Lib.hid (lists_any wb _ _ LL LL k1 k3 hLL)
            rw [decide_eq_true rfl] at HS
            have HB2 := Lib.hid (hb.out.trans ((HQ1.out.2.trans (b2.mono HQ1.out.2.size)).mono hb.out.size))
            clear hq2 b2 P2 cu HU HQ1 k1 k3 hLL
            go_wp2_with fail
            refine HS.out.mono ?_
            rintro e wc ⟨rfl, b3⟩
            have HB3 := Lib.hid (HB2.out.trans (b3.mono HB2.out.size))
            clear b3 HB2 HS
            go_wp2
            exact ⟨⟨k2 + 1, by omega, by go_num, HB3⟩, by simp; omega⟩
          · obtain rfl : k2 = 2 := by omega
            have HE := Lib.hid (HBW.out.trans (hb.out.mono HBW.out.size))
            go_wp2
            go_ret
            exact ⟨rfl, HE.out⟩
      · by_cases hN15 : k < N
        · have hkN : (k : Int) < (N : Int) := by omega
          have hk15 : ¬ (k : Int) < 15 := by omega
          clear h h' hM15 hMN
          go_upto_region 11 with fail
          obtain ⟨W, hW⟩ : ∃ W, wr.alloc (.cells #[.slice pm k cm, .slice q m2 c2] 28) = W := ⟨_, rfl⟩
          obtain ⟨hcell, hBW⟩ := REST.out W hW
          rw [hW]
          clear hW REST
          generalize wr.heap.size = g at *
          have HC := Lib.hid hcell
          have HBW := Lib.hid hBW
          clear hcell hBW hct hmi
          go_wp2_with fail
          go_loopw [10] (fun i wx => ∃ (k2 : Nat), k2 ≤ 2 ∧ i = .int .i64 (k2 : Int) ∧ Hid (Below W.heap.size W wx)) (fun i _ => 2 - (match i with | .int _ i => i.toNat | _ => 0))
          case atStart => exact ⟨0, Nat.zero_le _, rfl, Lib.hid (Below.refl _ _)⟩
          case round =>
            obtain ⟨k2, hk2, rfl, hb⟩ := hrel
            by_cases hlt2 : k2 < 2
            · obtain ⟨u, S, hu, hS⟩ := HC.out k2 hlt2
              have cu := (hb.out.cell (p := ⟨g, k2, none⟩) (World.block_lt_of_cell? _ _ hu)).trans hu
              have P1 := Lib.hid (Points_any wr u S (hS.next hb.out))
              have P2 := Lib.hid fun V (hV : Below wr.heap.size wr V) => refPoints_any V u S ((hS.next hb.out).next hV)
              have HU := Lib.hid (And.intro cu hlt2)
              clear hu hS
              go_wp2_with fail
              refine P1.out.mono ?_
              rintro e wa hq1
              obtain ⟨p1, n1, c1, u1, rfl, b1⟩ := pq_form hq1
              have cu := (b1.cell (p := ⟨g, k2, none⟩) (World.block_lt_of_cell? _ _ HU.out.1)).trans HU.out.1
              have HQ1 := Lib.hid (And.intro hq1 b1)
              clear hq1 b1 P1
              go_wp2_with fail
              refine (P2.out wa HQ1.out.2).mono ?_
              rintro e wb hq2
              obtain ⟨p3, n3, c3, u3, rfl, b2⟩ := pq_form hq2
              obtain ⟨rfl, LL, hLL, k1, k3⟩ := pts_same' HQ1.out.1 hq2
              have HS := Lib.hid (lists_any wb _ _ LL LL k1 k3 hLL)
              rw [decide_eq_true rfl] at HS
              have HB2 := Lib.hid (hb.out.trans ((HQ1.out.2.trans (b2.mono HQ1.out.2.size)).mono hb.out.size))
              clear hq2 b2 P2 cu HU HQ1 k1 k3 hLL
              go_wp2_with fail
              refine HS.out.mono ?_
              rintro e wc ⟨rfl, b3⟩
              have HB3 := Lib.hid (HB2.out.trans (b3.mono HB2.out.size))
              clear b3 HB2 HS
              go_wp2
              exact ⟨⟨k2 + 1, by omega, by go_num, HB3⟩, by simp; omega⟩
            · obtain rfl : k2 = 2 := by omega
              have HE := Lib.hid (HBW.out.trans (hb.out.mono HBW.out.size))
              go_wp2
              go_ret
              exact ⟨rfl, HE.out⟩
        · have hkN : ¬ (k : Int) < (N : Int) := by omega
          clear h h' hM15 hMN
          go_upto_region 11 with fail
          obtain ⟨W, hW⟩ : ∃ W, wr.alloc (.cells #[.slice pm k cm, .slice q m2 c2] 28) = W := ⟨_, rfl⟩
          obtain ⟨hcell, hBW⟩ := REST.out W hW
          rw [hW]
          clear hW REST
          generalize wr.heap.size = g at *
          have HC := Lib.hid hcell
          have HBW := Lib.hid hBW
          clear hcell hBW hct hmi
          go_wp2_with fail
          go_loopw [10] (fun i wx => ∃ (k2 : Nat), k2 ≤ 2 ∧ i = .int .i64 (k2 : Int) ∧ Hid (Below W.heap.size W wx)) (fun i _ => 2 - (match i with | .int _ i => i.toNat | _ => 0))
          case atStart => exact ⟨0, Nat.zero_le _, rfl, Lib.hid (Below.refl _ _)⟩
          case round =>
            obtain ⟨k2, hk2, rfl, hb⟩ := hrel
            by_cases hlt2 : k2 < 2
            · obtain ⟨u, S, hu, hS⟩ := HC.out k2 hlt2
              have cu := (hb.out.cell (p := ⟨g, k2, none⟩) (World.block_lt_of_cell? _ _ hu)).trans hu
              have P1 := Lib.hid (Points_any wr u S (hS.next hb.out))
              have P2 := Lib.hid fun V (hV : Below wr.heap.size wr V) => refPoints_any V u S ((hS.next hb.out).next hV)
              have HU := Lib.hid (And.intro cu hlt2)
              clear hu hS
              go_wp2_with fail
              refine P1.out.mono ?_
              rintro e wa hq1
              obtain ⟨p1, n1, c1, u1, rfl, b1⟩ := pq_form hq1
              have cu := (b1.cell (p := ⟨g, k2, none⟩) (World.block_lt_of_cell? _ _ HU.out.1)).trans HU.out.1
              have HQ1 := Lib.hid (And.intro hq1 b1)
              clear hq1 b1 P1
              go_wp2_with fail
              refine (P2.out wa HQ1.out.2).mono ?_
              rintro e wb hq2
              obtain ⟨p3, n3, c3, u3, rfl, b2⟩ := pq_form hq2
              obtain ⟨rfl, LL, hLL, k1, k3⟩ := pts_same' HQ1.out.1 hq2
              have HS := Lib.hid (lists_any wb _ _ LL LL k1 k3 hLL)
              rw [decide_eq_true rfl] at HS
              have HB2 := Lib.hid (hb.out.trans ((HQ1.out.2.trans (b2.mono HQ1.out.2.size)).mono hb.out.size))
              clear hq2 b2 P2 cu HU HQ1 k1 k3 hLL
              go_wp2_with fail
              refine HS.out.mono ?_
              rintro e wc ⟨rfl, b3⟩
              have HB3 := Lib.hid (HB2.out.trans (b3.mono HB2.out.size))
              clear b3 HB2 HS
              go_wp2
              exact ⟨⟨k2 + 1, by omega, by go_num, HB3⟩, by simp; omega⟩
            · obtain rfl : k2 = 2 := by omega
              have HE := Lib.hid (HBW.out.trans (hb.out.mono HBW.out.size))
              go_wp2
              go_ret
              exact ⟨rfl, HE.out⟩
end Go.Proofs.Ytihplnomhfpajaa.W8
