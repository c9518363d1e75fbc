/-
  The walk of the law WeightRaw.
-/
import Derived.Test.YtihplnomhfpajaaWJoinR
import Derived.Test.YtihplnomhfpajaaWArgs
namespace Go.Proofs.Ytihplnomhfpajaa.W8
open Go.RowKit GM G4 D7P Go.Maps
theorem cut_ints {p : Option Addr} {n c : Nat} (h3 : n ≤ c) (h6 : p = none → n = 0 ∧ c = 0) (m : Nat) (hm : m ≤ n) (V : World) : (Instr.sliceAt 38 (.slice p n c) none (some (.int .i64 (m : Int))) none).run Try.prog V = .ok (.slice p m c) V := by
  have hmc : m ≤ c := by omega
  cases p with
  | none =>
    obtain ⟨rfl, rfl⟩ := h6 rfl
    obtain rfl : m = 0 := by omega
    simp [Instr.sliceAt, run_underlying Try.underlying38, go_sem]
  | some a =>
    simp [Instr.sliceAt, run_underlying Try.underlying38, go_sem]
    intro hlt
    omega
theorem cut_sh {p : Option Addr} {n c : Nat} (h3 : n ≤ c) (h6 : p = none → n = 0 ∧ c = 0) (m : Nat) (hm : m ≤ n) (V : World) : (Instr.sliceAt 37 (.slice p n c) none (some (.int .i64 (m : Int))) none).run Try.prog V = .ok (.slice p m c) V := by
  have hmc : m ≤ c := by omega
  cases p with
  | none =>
    obtain ⟨rfl, rfl⟩ := h6 rfl
    obtain rfl : m = 0 := by omega
    simp [Instr.sliceAt, run_underlying Try.underlying37, go_sem]
  | some a =>
    simp [Instr.sliceAt, run_underlying Try.underlying37, go_sem]
    intro hlt
    omega
theorem tmod8 (a : Int) (h0 : 0 ≤ a) : 0 ≤ Int.tmod a 8 ∧ Int.tmod a 8 < 8 := by
  rw [Int.tmod_eq_emod_of_nonneg h0]; omega
set_option maxRecDepth 100000 in
set_option maxHeartbeats 8000000 in
theorem raw_walk (w : World) (need : Int) (v fv : Value) (p q : Option Addr) (n1 n2 c c2 : Nat) (Z Y0 : Nat → Nat → Int) (h0 : 0 ≤ need) (h1 : need ≤ 255) (hV : FlA w 2 v p n1 c Z) (hF : FlA w 1 fv q n2 c2 Y0) :
    Calls Try.prog 5 #[.int .u8 need, v, fv] w fun e w' => e = .returned (.bool true) ∧ Below w.heap.size w w' := by
  obtain ⟨i0, hi, hz0, hz1, hz2⟩ := info_parts infoI
  have hnd := tmod8 need h0
  obtain ⟨nd, hn⟩ : ∃ nd, Int.tmod need 8 = nd := ⟨_, rfl⟩
  rw [hn] at hnd
  obtain ⟨N, hN⟩ : ∃ N, min n1 8 = N := ⟨_, rfl⟩
  obtain ⟨m2, hm2⟩ : ∃ m, min n2 8 = m := ⟨_, rfl⟩
  obtain ⟨l, hl⟩ : ∃ l, (List.range N).map (fun j => (Z j 0, Z j 1)) = l := ⟨_, rfl⟩
  have hS := hV.shares N (by omega) (by omega)
  have hMb := hF.numbers m2 (by omega) (by omega)
  rw [hl] at hS
  have hlM : l.length = N := by rw [← hl]; simp
  have HSH := Lib.hid hS
  obtain ⟨⟨p', c', e1, hc⟩, hr, _⟩ := hS
  rw [hlM] at e1
  injection e1 with e1 _ e2
  subst e1 e2
  obtain ⟨rfl, hNc, hNm, hnil1, _⟩ := hV
  obtain ⟨rfl, hnc, hcm, hnil, _⟩ := hF
  have HI := Lib.hid (And.intro hc hr); clear hc hr hl
  have hmi1 : min (n1 : Int) 8 = (N : Int) := by omega
  have hmi : min (n2 : Int) 8 = (m2 : Int) := by omega
  have hct1 := cut_sh hNc hnil1 N (by omega)
  have hct := cut_ints hnc hnil m2 (by omega)
  have HC2 := Lib.hid hMb
  have hN8 : N ≤ 8 := by omega
  have hln : N ≤ 1000000000 := by omega
  have hn2 : (n2 : Int) ≤ 9223372036854775807 := by unfold maxLen at hcm; omega
  have hN2 : (n1 : Int) ≤ 9223372036854775807 := by unfold maxLen at hNm; omega
  have HN := Lib.hid hlM; clear hlM hN hm2 hnil hnil1 hnc hcm hNc hNm hMb
  go_enter Try.func5, Try.ntmps5
  go_wp2_with fail
  refine (sanity_any _).mono ?_
  rintro e wS ⟨rfl, b1⟩
  have HBS := Lib.hid b1; clear b1
  go_wp2_with fail
  clear hct1 hmi1
  go_loopw [9, 10, 11] (fun a d i wr => ∃ (k : Nat), k ≤ N ∧ i = .int .i64 (k : Int) ∧ Hid (SR wS a d ((l.take k).map Prod.fst) ((l.take k).map Prod.snd) wr)) (fun _ _ i _ => N - (match i with | .int _ i => i.toNat | _ => 0))
  case atStart => exact ⟨0, Nat.zero_le _, rfl, Lib.hid ⟨Below.refl _ _, World.ownsRow_nil _ _ _ _, World.ownsRow_nil _ _ _ _, fun g h => by cases h⟩⟩
  case round =>
    obtain ⟨k, hk, rfl, hQ⟩ := hrel
    by_cases hlt : k < N
    · obtain ⟨⟨x, y⟩, hx⟩ : ∃ s, l[k]? = some s := ⟨l[k]'(by rw [HN.out]; exact hlt), List.getElem?_eq_getElem _⟩
      obtain ⟨b, o, hp, hcx, hcy⟩ := HI.out.1 k _ hx
      subst hp
      have hlx : ((l.take k).map Prod.fst).length = k := by rw [List.length_map, List.length_take, HN.out]; omega
      have hly : ((l.take k).map Prod.snd).length = k := by rw [List.length_map, List.length_take, HN.out]; omega
      have HT := Lib.hid (And.intro (take_fst l k _ hx) (And.intro hlx hly))
      have c0 := ((HBS.out.trans (hQ.out.b.mono HBS.out.size)).cell (p := ⟨b, o + k * 2, none⟩) (World.block_lt_of_cell? _ _ hcx)).trans hcx
      have HCY := Lib.hid hcy
      dsimp only at c0
      have hA := Lib.hid (show k + 1 ≤ maxLen ∧ (k + 1) * 8 ≤ 140737488355328 from ⟨by unfold maxLen; omega, by omega⟩)
      obtain ⟨X, hX⟩ : ∃ X, (l.take k).map Prod.fst = X := ⟨_, rfl⟩
      obtain ⟨Y, hY⟩ : ∃ Y, (l.take k).map Prod.snd = Y := ⟨_, rfl⟩
      rw [hX] at hQ HT hlx
      rw [hY] at hQ HT hly
      subst hlx
      clear hx hcx hcy hX hY
      have HLY := Lib.hid hly
      clear hly
      go_upto_region 10 with (at_builtin; go_must (refine wpList_append_lies _ rfl _ _ 38 rfl wS.heap.size 3 i0 (.int .i64 0) 1 8 Try.underlying38 hi hz0 hz1 hz2 rfl (by decide) _ X.length (X.map (Value.int .i64)) rfl (hQ.out.ox.alloc _) ⟨wr.heap.size, 0, none⟩ 1 1 [.int .i64 x] rfl rfl (World.news_of_block (heap_alloc_new _ _)) (by simp [Value.oneCell']) Nat.zero_lt_one hA.out.1 hA.out.2 (by rw [World.size_alloc]; exact Nat.le_succ_of_le hQ.out.b.size) _ rfl ?_); intro g1 c1 wq1 hown1 hgrow1 hat1 hlt1)
      have hS1 := (hQ.out.alloc (.cells #[.int .i64 x] 3)).app x rfl hown1 hgrow1 hat1
      have HS1 := Lib.hid hS1
      have c1 := ((HBS.out.trans (hS1.b.mono HBS.out.size)).cell (p := ⟨b, o + X.length * 2 + 1, none⟩) (World.block_lt_of_cell? _ _ HCY.out)).trans HCY.out
      dsimp only at c1
      clear hown1 hgrow1 hat1 hlt1 hS1 c0 hQ
      go_wp2_with (at_builtin; go_must (refine wpList_append_lies _ rfl _ _ 38 rfl wS.heap.size 3 i0 (.int .i64 0) 1 8 Try.underlying38 hi hz0 hz1 hz2 rfl (by decide) _ Y.length (Y.map (Value.int .i64)) rfl (HS1.out.oy.alloc _) ⟨wq1.heap.size, 0, none⟩ 1 1 [.int .i64 y] rfl rfl (World.news_of_block (heap_alloc_new _ _)) (by simp [Value.oneCell']) Nat.zero_lt_one (by rw [HLY.out]; exact hA.out.1) (by rw [HLY.out]; exact hA.out.2) (by rw [World.size_alloc]; exact Nat.le_succ_of_le HS1.out.b.size) _ rfl ?_); intro g2 c2 w2 hown2 hgrow2 hat2 hlt2)
      have hS2 := ((HS1.out.alloc (.cells #[.int .i64 y] 3)).swap.app y rfl hown2 hgrow2 hat2).swap
      have K9 := Lib.hid (show SR wS _ _ ((l.take (X.length+1)).map Prod.fst) ((l.take (X.length+1)).map Prod.snd) w2 from by rw [HT.out.1.1, HT.out.1.2]; exact hS2)
      clear hown2 hgrow2 hat2 hlt2 hS2 HS1
      try go_wp2
      exact ⟨⟨X.length + 1, by omega, by go_num, K9⟩, by simp; omega⟩
    · obtain rfl : k = N := by omega
      have hE : l.take k = l := List.take_of_length_le (by rw [HN.out]; exact Nat.le_refl _)
      rw [hE] at hQ
      have hBw := HBS.out.trans (hQ.out.b.mono HBS.out.size)
      have h3 := hQ.out.slis (fun x hx => by obtain ⟨s, hs, rfl⟩ := List.mem_map.1 hx; exact (HI.out.2 s hs).1) (fun x hx => by obtain ⟨s, hs, rfl⟩ := List.mem_map.1 hx; exact (HI.out.2 s hs).2) (by rw [List.length_map, HN.out]; omega) (by rw [List.length_map, HN.out]; omega)
      obtain ⟨px, cx, rfl⟩ := own_shape hQ.out.ox
      obtain ⟨py, cy, rfl⟩ := own_shape hQ.out.oy
      have HXY := Lib.hid h3
      have HB := Lib.hid hBw
      have HC := Lib.hid (HC2.out.next hBw)
      have HS := Lib.hid (HSH.out.next hBw)
      have hX : (l.map Prod.fst).length = k := by rw [List.length_map, HN.out]
      have hYl : (l.map Prod.snd).length = k := by rw [List.length_map, HN.out]
      rw [hX, hYl] at HXY ⊢
      have hk : i64 (nd - 1) := ⟨by omega, by omega⟩
      clear h3 hBw hQ hE HI HSH HC2 hX hYl
      obtain ⟨XX, hXX⟩ : ∃ XX, l.map Prod.fst = XX := ⟨_, rfl⟩
      obtain ⟨YY, hYY⟩ : ∃ YY, l.map Prod.snd = YY := ⟨_, rfl⟩
      rw [hXX, hYY] at HXY
      clear hXX hYY
      have J1 := Lib.hid (Join_any wr (nd - 1) _ l HS.out hk _ _ rfl rfl)
      have J2 := Lib.hid fun V (hV : Below wr.heap.size wr V) => refJoin_any V (nd - 1) _ l (HS.out.next hV) hk _ _ rfl rfl
      have L1 := Lib.hid fun V (hV : Below wr.heap.size wr V) => Lift_any V (nd - 1) _ l (HS.out.next hV) hk _ _ rfl rfl
      have L2 := Lib.hid fun V (hV : Below wr.heap.size wr V) => refLift_any V (nd - 1) _ l (HS.out.next hV) hk _ _ rfl rfl
      generalize jn (nd - 1) l = r1 at *
      generalize enough rq (nd - 1) l = o1 at *
      generalize lf (nd - 1) l = r2 at *
      generalize enough mem (nd - 1) l = o2 at *
      go_wp2_with fail
      refine J1.out.mono ?_
      rintro e v1 ⟨rfl, b1⟩
      have K1 := Lib.hid b1; clear b1 J1
      go_wp2_with fail
      refine (J2.out _ K1.out).mono ?_
      rintro e v2 ⟨rfl, b2⟩
      have K2 := Lib.hid (K1.out.trans (b2.mono K1.out.size)); clear b2 J2 K1
      go_wp2_with fail
      refine (L1.out _ K2.out).mono ?_
      rintro e v3 ⟨rfl, b3⟩
      have K3 := Lib.hid (K2.out.trans (b3.mono K2.out.size)); clear b3 L1 K2
      go_wp2_with fail
      refine (L2.out _ K3.out).mono ?_
      rintro e v4 ⟨rfl, b4⟩
      have K4 := Lib.hid (K3.out.trans (b4.mono K3.out.size)); clear b4 L2 K3
      go_upto_region 18 with fail
      obtain ⟨W, hW⟩ : ∃ W, v4.alloc (.cells #[.slice px k cx, .slice q m2 c2] 43) = W := ⟨_, rfl⟩
      have al := (Below.refl v4.heap.size v4).alloc (Nat.le_refl _) (.cells #[.slice px k cx, .slice q m2 c2] 43)
      have hcell : ∀ j : Nat, j < 2 → ∃ u S, W.cell? ⟨v4.heap.size, j, none⟩ = some u ∧ SLi W u S := fun j hj => by
        rw [← hW]
        match j, hj with
        | 0, _ => exact ⟨_, _, by rw [World.cell?_alloc_at _ _ _ _ rfl]; rfl, (HXY.out.1.next K4.out).next al⟩
        | 1, _ => exact ⟨_, _, by rw [World.cell?_alloc_at _ _ _ _ rfl]; rfl, (HC.out.next K4.out).next al⟩
      have hyv : SLi W (.slice py k cy) YY := by rw [← hW]; exact (HXY.out.2.next K4.out).next al
      have hBW : Below w.heap.size w W := by rw [← hW]; exact (HB.out.trans (K4.out.mono HB.out.size)).alloc (HB.out.trans (K4.out.mono HB.out.size)).size _
      rw [hW]
      clear hW al
      generalize v4.heap.size = g at *
      have HCL := Lib.hid (And.intro hcell (And.intro hyv hBW))
      clear hcell hyv hBW hct hmi HC HXY HB HS K4
      go_wp2_with fail
      go_loopw [21] (fun i wx => ∃ (k2 : Nat), k2 ≤ 2 ∧ i = .int .i64 (k2 : Int) ∧ Hid (Below W.heap.size W wx)) (fun i _ => 2 - (match i with | .int _ i => i.toNat | _ => 0))
      case atStart => exact ⟨0, Nat.zero_le _, rfl, Lib.hid (Below.refl _ _)⟩
      case round =>
        obtain ⟨k2, hk2, rfl, hb⟩ := hrel
        by_cases hlt2 : k2 < 2
        · obtain ⟨u, S, hu, hS⟩ := HCL.out.1 k2 hlt2
          have cu := (hb.out.cell (p := ⟨g, k2, none⟩) (World.block_lt_of_cell? _ _ hu)).trans hu
          have P1 := Lib.hid (Share_any wr u _ S YY (hS.next hb.out) (HCL.out.2.1.next hb.out) _ _ rfl rfl)
          have P2 := Lib.hid fun V (hV : Below wr.heap.size wr V) => refShare_any V u _ S YY ((hS.next hb.out).next hV) ((HCL.out.2.1.next hb.out).next hV) _ _ rfl rfl
          generalize sh S YY = r3 at *
          generalize shk S YY = o3 at *
          have HU := Lib.hid (And.intro cu hlt2)
          clear hu hS
          go_wp2_with fail
          refine P1.out.mono ?_
          rintro e wa ⟨rfl, b1⟩
          have cu := (b1.cell (p := ⟨g, k2, none⟩) (World.block_lt_of_cell? _ _ HU.out.1)).trans HU.out.1
          have HQ1 := Lib.hid b1
          clear b1 P1
          go_wp2_with fail
          refine (P2.out wa HQ1.out).mono ?_
          rintro e wb ⟨rfl, b2⟩
          have HB2 := Lib.hid (hb.out.trans ((HQ1.out.trans (b2.mono HQ1.out.size)).mono hb.out.size))
          clear b2 P2 cu HU HQ1
          go_wp2
          exact ⟨⟨k2 + 1, by omega, by go_num, HB2⟩, by simp; omega⟩
        · obtain rfl : k2 = 2 := by omega
          have HE := Lib.hid (HCL.out.2.2.trans (hb.out.mono HCL.out.2.2.size))
          go_wp2
          go_ret
          exact ⟨rfl, HE.out⟩
end Go.Proofs.Ytihplnomhfpajaa.W8
