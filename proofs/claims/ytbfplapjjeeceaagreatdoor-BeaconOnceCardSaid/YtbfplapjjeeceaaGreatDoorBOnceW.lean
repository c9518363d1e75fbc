/-
  The walk of the reference's Partials: some partials, of the call's own.
  The reference's Partials, for any picks.
  The walk of the law BeaconOnce.
  The law BeaconOnce, for any poll and any picks.
-/
import Derived.Test.YtbfplapjjeeceaaGreatDoorBPoll
import Derived.Test.YtbfplapjjeeceaaGreatDoorBLk
import Derived.Test.YtbfplapjjeeceaaGreatDoorDRefA
import Derived.Test.YtbfplapjjeeceaaGreatDoorBIn
import Derived.Test.YtbfplapjjeeceaaGreatDoorBSide
import Derived.Test.YtbfplapjjeeceaaGreatDoorBRVer
namespace Go.Proofs.YtbfplapjjeeceaaGreatDoor.B9
open Go.RowKit GM SH G4 E6 D7P
open W8 hiding i64 jn pX pY
def pis (A : List Pa) : Prop := ∀ s ∈ A, pi64 s
/-- partials of the call's own -/
structure FQ (W0 : World) (av : Value) (A : List Pa) (W : World) : Prop where
  bl : Below W0.heap.size W0 W
  oa : W.ownsRow W0.heap.size 30 4 av A.length (fl4 A)
theorem FQ.next {W0 W V : World} {av : Value} {A : List Pa} (h : FQ W0 av A W) (k : Below W.heap.size W V) : FQ W0 av A V := ⟨h.bl.trans (k.mono h.bl.size), own_below' h.oa k⟩
theorem FQ.app {W0 W V : World} {av : Value} {A : List Pa} (h : FQ W0 av A W) (s : Pa) {g c : Nat}
    (h1 : V.ownsRow W0.heap.size 30 4 (.slice (some ⟨g, 0, none⟩) (A.length + 1) c) (A.length + 1) (fl4 A ++ pc s)) (h2 : W.grownBy V av.ownBlock) :
    FQ W0 (.slice (some ⟨g, 0, none⟩) (A.length + 1) c) (A ++ [s]) V := by
  refine ⟨h.bl.grown h2 h.bl.size (fun r hr => (h.oa.lt r hr).1), ?_⟩
  rw [List.length_append, fl4_app]
  show V.ownsRow _ _ _ _ (A.length + 1) (fl4 A ++ (pc s ++ []))
  rw [List.append_nil]; exact h1
theorem own_setne' {w : World} {base : Nat} {e : TypeId} {size : Nat} {v : Value} {n : Nat} {xs : List Value} (h : w.ownsRow base e size v n xs) (d j : Nat) (u : Value) (hd : ∀ g, v.ownBlock = some g → g ≠ d) : (w.setCell ⟨d, j, none⟩ u).ownsRow base e size v n xs := by
  refine ⟨h.1, ?_⟩
  rcases h.2 with h2 | ⟨g, cap, cur, rfl, h2, h3, h4⟩
  · exact .inl h2
  · exact .inr ⟨g, cap, cur, rfl, h2, by rw [heap_setCell_other w _ g _ (hd g rfl)]; exact h3, h4⟩
/-- and a partial in a block -/
structure PF (W0 : World) (av : Value) (A : List Pa) (gp : Nat) (s : Pa) (W : World) : Prop where
  f : FQ W0 av A W
  hp : W.heap[gp]? = some (.cells #[.int .i64 s.1, .int .i64 s.2.1, .int .i64 s.2.2.1, .int .i64 s.2.2.2] 30 (0, 0))
  g0 : W0.heap.size ≤ gp
  ne : ∀ g, av.ownBlock = some g → g ≠ gp
theorem PF.next {W0 W V : World} {av : Value} {A : List Pa} {gp : Nat} {s : Pa} (h : PF W0 av A gp s W) (k : Below W.heap.size W V) : PF W0 av A gp s V :=
  ⟨h.f.next k, (k.block _ (Array.getElem?_eq_some_iff.1 h.hp).1).trans h.hp, h.g0, h.ne⟩
theorem PF.drew {W0 W : World} {av : Value} {A : List Pa} {gp : Nat} {s : Pa} (h : PF W0 av A gp s W) : PF W0 av A gp s W.drew := h.next (Below.refl _ _).drew
theorem PF.setRow {W0 W : World} {av : Value} {A : List Pa} {gp : Nat} {s : Pa} (h : PF W0 av A gp s W) (t : Pa) : PF W0 av A gp t (W.setRow gp #[.int .i64 t.1, .int .i64 t.2.1, .int .i64 t.2.2.1, .int .i64 t.2.2.2]) :=
  ⟨⟨Below.setRow' h.f.bl h.g0 _, own_kx h.f.oa (kx_setRow W gp _) (fun g hg e => h.ne g hg (by injection e))⟩, setRow_heap _ _ _ _ _ _ h.hp, h.g0, h.ne⟩
theorem PF.set {W0 W : World} {av : Value} {A : List Pa} {gp : Nat} {s t : Pa} (h : PF W0 av A gp s W) (j : Nat) (u : Value) (e : (#[Value.int .i64 s.1, .int .i64 s.2.1, .int .i64 s.2.2.1, .int .i64 s.2.2.2]).setIfInBounds j u = #[.int .i64 t.1, .int .i64 t.2.1, .int .i64 t.2.2.1, .int .i64 t.2.2.2]) : PF W0 av A gp t (W.setCell ⟨gp, j, none⟩ u) :=
  ⟨⟨h.f.bl.setCell (p := ⟨gp, j, none⟩) h.g0 _, own_setne' h.f.oa gp j u h.ne⟩, by rw [← e]; exact heap_setCell_same W gp j _ _ u h.hp, h.g0, h.ne⟩
theorem u8_conv8 (n : Int) (h : 0 ≤ n ∧ n ≤ 255) : IntKind.i64.wrap n = n := by rw [IntKind.wrap_i64]; omega
set_option maxRecDepth 100000 in
set_option maxHeartbeats 8000000 in
theorem parts_core (w : World) (pc0 p q pl : Option Addr) (nc0 cc0 n c m e cl : Nat) (r : Int) (hri : i64 r) (l : List (Int × Int)) (nl : Nat) (hnl : l.length = nl) (hl9 : nl ≤ maxLen) (M : Nat) (hM0 : 0 < M) (hM : M ≤ 60) (SHL : List (Int × Int)) (hSL : SHL.length = M)
    (hSr : ∀ s ∈ SHL, i64 s.1 ∧ 0 ≤ s.2 ∧ s.2 < 1152921504606845789) (hlr : ∀ x ∈ l, (0 ≤ x.1 ∧ x.1 ≤ 255) ∧ 0 ≤ x.2 ∧ x.2 ≤ 255)
    (hlc : ∀ (j : Nat) (x : Int × Int), l[j]? = some x → ∃ b o, pl = some ⟨b, o, none⟩ ∧ w.cell? ⟨b, o + j * 2, none⟩ = some (.int .u8 x.1) ∧ w.cell? ⟨b, o + j * 2 + 1, none⟩ = some (.int .u8 x.2))
    (SH : Hid (∀ W, Below w.heap.size w W → Calls Tryz.prog 20 #[.slice pc0 nc0 cc0, .agg #[.slice p n c, .slice q m e]] W fun e w' => (∃ sv, e = .returned sv ∧ ShL w' sv SHL) ∧ Below W.heap.size W w'))
    (EV : Hid (∀ W x y r, i64 x → i64 y → i64 r → Below w.heap.size w W → Calls Tryz.prog 15 #[.agg #[.int .i64 x, .int .i64 y], .int .i64 r] W fun e w' => (∃ s0 s1 s2 s3, e = .returned (.agg #[.int .i64 s0, .int .i64 s1, .int .i64 s2, .int .i64 s3]) ∧ (0 ≤ s0 ∧ s0 ≤ 60) ∧ i64 s1 ∧ i64 s2 ∧ 0 ≤ s3 ∧ s3 < 1152921504606845789) ∧ Below W.heap.size W w'))
    (MU : Hid (∀ W a, i64 a → Calls Tryz.prog 44 #[.int .i64 a, .int .i64 4, .int .i64 2305843009213691579] W fun e w' => (∃ v, e = .returned (.int .i64 v) ∧ i64 v) ∧ w' = W))
    (MD : Hid (∀ W a, i64 a → Calls Tryz.prog 43 #[.int .i64 a, .int .i64 1152921504606845789] W fun e w' => (∃ v, e = .returned (.int .i64 v) ∧ 0 ≤ v ∧ v < 1152921504606845789) ∧ w' = W)) :
    Calls Tryz.prog 17 #[.slice pc0 nc0 cc0, .agg #[.slice p n c, .slice q m e], .int .i64 r, .slice pl nl cl] w fun e w' => (∃ v A, e = .returned v ∧ pis A ∧ A.length ≤ 30 ∧ w'.ownsRow w.heap.size 30 4 v A.length (fl4 A)) ∧ Below w.heap.size w w' := by
  obtain ⟨i0, hi, hz0, hz1, hz2⟩ := info_parts infoP4
  obtain ⟨W, hW⟩ : ∃ W, w.alloc (.cells #[.slice p n c, .slice q m e] 41) = W := ⟨_, rfl⟩
  have K0 := (CK.start w).cells #[.slice p n c, .slice q m e] 41 _ rfl
  rw [hW] at K0
  have HK := Lib.hid (K0.sub (M := [(⟨w.heap.size, 0, none⟩, .slice p n c), (⟨w.heap.size, 1, none⟩, .slice q m e)]) (Y := []) (by simp) (by simp))
  have HL := Lib.hid (And.intro hlc (And.intro hlr (And.intro hnl (And.intro hSr hSL))))
  clear K0 hlc hlr hnl hSr hSL
  have hN30 : min nl 30 ≤ 30 ∧ min nl 30 ≤ nl := ⟨by omega, by omega⟩
  obtain ⟨N, hN⟩ : ∃ N, min nl 30 = N := ⟨_, rfl⟩
  rw [hN] at hN30
  go_enter Tryz.func17, Tryz.ntmps17
  go_upto_region 1 with fail
  clear hW
  have c0 := HK.out.get ⟨w.heap.size, 0, none⟩ (.slice p n c) (by simp)
  have c1 := HK.out.get ⟨w.heap.size, 1, none⟩ (.slice q m e) (by simp)
  go_wp2_with fail
  refine (SH.out _ HK.out.b).mono ?_
  rintro e1 W0 ⟨⟨sv, rfl, hsh⟩, b1⟩
  have hW0 := Lib.hid (HK.out.b.trans (b1.mono HK.out.b.size))
  clear b1 c0 c1 HK SH
  obtain ⟨⟨ps, cs, rfl, hcs⟩, hsr, hsn⟩ := hsh
  rw [HL.out.2.2.2.2]
  have HSH := Lib.hid hcs
  clear hcs hsr hsn
  have HNN := Lib.hid hN
  clear hN
  go_wp2_with fail
  go_loopw [10, 11] (fun a i wr => ∃ (k : Nat) (A : List Pa), k ≤ N ∧ i = .int .i64 (k : Int) ∧ Hid (FQ W0 a A wr ∧ A.length = k ∧ ∀ s ∈ A, pi64 s)) (fun _ i _ => N - (match i with | .int _ i => i.toNat | _ => 0))
  case atStart => exact ⟨0, [], Nat.zero_le _, rfl, Lib.hid ⟨⟨Below.refl _ _, World.ownsRow_nil _ _ _ _⟩, rfl, fun s h => by cases h⟩⟩
  case round =>
    obtain ⟨k, A, hk, rfl, HQ⟩ := hrel
    by_cases hlt : k < N
    · obtain ⟨⟨z, t⟩, hz⟩ : ∃ s, l[k]? = some s := ⟨l[k]'(by rw [HL.out.2.2.1]; omega), List.getElem?_eq_getElem _⟩
      obtain ⟨b, o, hp, hc0, hc1⟩ := HL.out.1 k _ hz
      subst hp
      have hzr := HL.out.2.1 _ (List.mem_of_getElem? hz)
      obtain ⟨⟨hz1', hz2'⟩, ht1, ht2⟩ := hzr
      try dsimp only at hz1' hz2' ht1 ht2 hc0 hc1
      obtain ⟨zn, rfl⟩ : ∃ zn : Nat, z = (zn : Int) := ⟨z.toNat, by omega⟩
      have hrm : Int.tmod (zn : Int) (M : Int) = ((zn % M : Nat) : Int) := by rw [Int.tmod_eq_emod_of_nonneg (by omega)]; rfl
      have hml := Nat.mod_lt zn hM0
      obtain ⟨⟨x, y⟩, hx⟩ : ∃ s, SHL[zn % M]? = some s := ⟨SHL[zn % M]'(by rw [HL.out.2.2.2.2]; exact hml), List.getElem?_eq_getElem _⟩
      obtain ⟨b2, o2, hp2, hd0, hd1⟩ := HSH.out _ _ hx
      subst hp2
      obtain ⟨hxi, hy0, hyq⟩ := HL.out.2.2.2.1 _ (List.mem_of_getElem? hx)
      try dsimp only at hxi hy0 hyq hd0 hd1
      obtain ⟨j, hj⟩ : ∃ j, zn % M = j := ⟨_, rfl⟩
      rw [hj] at hd0 hd1 hrm hml
      have hmi : (j : Int) < (M : Int) := by omega
      have hm0 : ¬ ((M : Int) = 0) := by omega
      have hcv := u8_conv8 (zn : Int) ⟨by omega, by omega⟩
      have hkl : (k : Int) < (nl : Int) := by omega
      have hk30 : (k : Int) < 30 := by omega
      have hw1 := hW0.out.trans (HQ.out.1.bl.mono hW0.out.size)
      have c0 := (hw1.cell (p := ⟨b, o + k * 2, none⟩) (World.block_lt_of_cell? _ _ hc0)).trans hc0
      have d0 := (HQ.out.1.bl.cell (p := ⟨b2, o2 + j * 2, none⟩) (World.block_lt_of_cell? _ _ hd0)).trans hd0
      have d1 := (HQ.out.1.bl.cell (p := ⟨b2, o2 + j * 2 + 1, none⟩) (World.block_lt_of_cell? _ _ hd1)).trans hd1
      have HC1 := Lib.hid hc1
      have hA := Lib.hid (show k + 1 ≤ maxLen ∧ (k + 1) * 32 ≤ 140737488355328 from ⟨by unfold maxLen; omega, by omega⟩)
      have HAl := Lib.hid HQ.out.2
      have HF0 := Lib.hid HQ.out.1
      have HW1 := Lib.hid hw1
      clear hz hx hj hc0 hc1 hd0 hd1 HQ hw1
      go_upto_region 7 with fail
      obtain ⟨W6, hW6⟩ : ∃ V, wr.alloc (.cells #[.int .i64 x, .int .i64 y] 23) = V := ⟨_, rfl⟩
      rw [hW6]
      have bb6 : Below wr.heap.size wr W6 := by rw [← hW6]; exact (Below.refl wr.heap.size wr).alloc (Nat.le_refl _) _
      have hs6 : W6.heap[wr.heap.size]? = some (.cells #[.int .i64 x, .int .i64 y] 23 (0, 0)) := by rw [← hW6]; exact heap_alloc_new _ _
      have HF6 := Lib.hid (HF0.out.next bb6)
      have HW6 := Lib.hid (HW1.out.trans (bb6.mono HW1.out.size))
      have hgs0 : W0.heap.size ≤ wr.heap.size := HF0.out.bl.size
      have hown0 : ∀ g, u10.ownBlock = some g → g < wr.heap.size := fun g hg => (HF0.out.oa.lt g hg).2
      have hsz6 := bb6.size
      obtain ⟨gs, hgs⟩ : ∃ g, wr.heap.size = g := ⟨_, rfl⟩
      rw [hgs] at hs6 hgs0 hown0 hsz6 ⊢
      have hgl : gs < W6.heap.size := (Array.getElem?_eq_some_iff.1 hs6).1
      have HO := Lib.hid (And.intro hgs0 (And.intro hown0 hgl))
      clear hW6 bb6 c0 d0 d1 hgs HF0 HW1 hrm hcv hgs0 hown0 hsz6 hgl
      have e0 : W6.cell? ⟨gs, 0, none⟩ = some (.int .i64 x) := cell_of_row _ gs 0 _ _ _ hs6
      have e1 : W6.cell? ⟨gs, 1, none⟩ = some (.int .i64 y) := cell_of_row _ gs 1 _ _ _ hs6
      have HS6 := Lib.hid hs6
      clear hs6
      go_wp2_with fail
      refine (EV.out _ _ _ _ hxi ⟨by omega, by omega⟩ hri HW6.out).mono ?_
      rintro e w7 ⟨⟨s0, s1, s2, s3, rfl, hs0, hs1, hs2, hs3⟩, b7⟩
      have HF7 := Lib.hid (HF6.out.next b7)
      have HW7 := Lib.hid (HW6.out.trans (b7.mono HW6.out.size))
      have HS7 := Lib.hid ((b7.block _ (Array.getElem?_eq_some_iff.1 HS6.out).1).trans HS6.out)
      have hsz7 := b7.size
      clear b7 e0 e1 HF6 HW6 HS6
      go_upto_region 8 with fail
      obtain ⟨w8, hw8⟩ : ∃ V, w7.alloc (.cells #[.int .i64 s0, .int .i64 s1, .int .i64 s2, .int .i64 s3] 30) = V := ⟨_, rfl⟩
      rw [hw8]
      have bb8 : Below w7.heap.size w7 w8 := by rw [← hw8]; exact (Below.refl w7.heap.size w7).alloc (Nat.le_refl _) _
      have hs8 : w8.heap[w7.heap.size]? = some (.cells #[.int .i64 s0, .int .i64 s1, .int .i64 s2, .int .i64 s3] 30 (0, 0)) := by rw [← hw8]; exact heap_alloc_new _ _
      obtain ⟨gp, hgp⟩ : ∃ g, w7.heap.size = g := ⟨_, rfl⟩
      have hgsp : gs < gp := by rw [← hgp]; have := HO.out.2.2; omega
      have HPF : Hid (PF W0 u10 A gp (s0, s1, s2, s3) w8) := Lib.hid ⟨HF7.out.next bb8, by rw [← hgp]; exact hs8, by have := HO.out.1; omega, fun g hg => by have := HO.out.2.1 g hg; omega⟩
      have HS8 := Lib.hid ((bb8.block _ (Array.getElem?_eq_some_iff.1 HS7.out).1).trans HS7.out)
      have HW8 := Lib.hid (HW7.out.trans (bb8.mono HW7.out.size))
      rw [hgp]
      clear hw8 bb8 hs8 hgp HF7 HW7 HS7 hsz7 HO
      have c1 := (HW8.out.cell (p := ⟨b, o + k * 2 + 1, none⟩) (World.block_lt_of_cell? _ _ HC1.out)).trans HC1.out
      obtain ⟨t9, ht9⟩ : ∃ t9, Int.tmod t 12 = t9 := ⟨_, rfl⟩
      try dsimp only at c1
      by_cases q1 : t9 = 1
      · subst q1
        have d1 : w8.cell? ⟨gp, 1, none⟩ = some (.int .i64 s1) := cell_of_row _ gp 1 _ _ _ HPF.out.hp
        go_wp2_with fail
        refine (MU.out _ _ hs1).mono ?_
        rintro e w9 ⟨⟨v9, rfl, hv9⟩, b9⟩
        have b9 := b9.symm
        subst b9
        have f1 := frozen_of_row _ _ 1 _ _ HPF.out.hp
        replace HPF := Lib.hid (HPF.out.set (t := (s0, v9, s2, s3)) 1 (.int .i64 v9) rfl)
        go_upto_region 19 with fail
        clear d1 f1 c1 ht9
        generalize w8.setCell ⟨gp, 1, none⟩ (.int .i64 v9) = w10 at *
        have d0 : w10.cell? ⟨gp, 0, none⟩ = some (.int .i64 s0) := cell_of_row _ gp 0 _ _ _ HPF.out.hp
        have d1 : w10.cell? ⟨gp, 1, none⟩ = some (.int .i64 v9) := cell_of_row _ gp 1 _ _ _ HPF.out.hp
        have d2 : w10.cell? ⟨gp, 2, none⟩ = some (.int .i64 s2) := cell_of_row _ gp 2 _ _ _ HPF.out.hp
        have d3 : w10.cell? ⟨gp, 3, none⟩ = some (.int .i64 s3) := cell_of_row _ gp 3 _ _ _ HPF.out.hp
        have ho := HPF.out.f.oa.alloc (.cells #[.int .i64 s0, .int .i64 v9, .int .i64 s2, .int .i64 s3] 30)
        rw [HAl.out.1] at ho
        go_wp2_with (at_builtin; go_must (refine wpList_append_lies _ rfl _ _ 44 rfl W0.heap.size 30 i0 (.agg #[.int .i64 0, .int .i64 0, .int .i64 0, .int .i64 0]) 4 32 Tryz.underlying44 hi hz0 hz1 hz2 rfl (by decide) _ k (fl4 A) rfl ho ⟨w10.heap.size, 0, none⟩ 1 1 [.int .i64 s0, .int .i64 v9, .int .i64 s2, .int .i64 s3] rfl rfl (World.news_of_block (heap_alloc_new _ _)) (by simp [Value.oneCell']) Nat.zero_lt_one hA.out.1 hA.out.2 (by rw [World.size_alloc]; exact Nat.le_succ_of_le HPF.out.f.bl.size) _ rfl ?_); intro g9 c9 w9 hown9 hgrow9 hat9 hlt9)
        have K8 := (HPF.out.f.next ((Below.refl _ w10).alloc (Nat.le_refl _) (.cells #[.int .i64 s0, .int .i64 v9, .int .i64 s2, .int .i64 s3] 30))).app (s0, v9, s2, s3) (g := g9) (c := c9) (by rw [HAl.out.1]; exact hown9) hgrow9
        rw [HAl.out.1] at K8
        have K9 := Lib.hid (show FQ W0 (.slice (some ⟨g9, 0, none⟩) (k + 1) c9) (A ++ [(s0, v9, s2, s3)]) w9 ∧ (A ++ [(s0, v9, s2, s3)]).length = k + 1 ∧ ∀ s ∈ A ++ [(s0, v9, s2, s3)], pi64 s from ⟨K8, by rw [List.length_append, HAl.out.1]; rfl, fun s hs => by
          rcases List.mem_append.1 hs with hs | hs
          · exact HAl.out.2 s hs
          · rw [List.mem_singleton.1 hs]; exact (show i64 s0 ∧ i64 v9 ∧ i64 s2 ∧ i64 s3 from ⟨by first | assumption | exact ⟨by omega, by omega⟩, by first | assumption | exact ⟨by omega, by omega⟩, by first | assumption | exact ⟨by omega, by omega⟩, by first | assumption | exact ⟨by omega, by omega⟩⟩)⟩)
        clear hown9 hgrow9 hat9 hlt9 ho d0 d1 d2 d3 HPF K8
        try go_wp2
        exact ⟨⟨k + 1, _, by omega, by go_num, K9⟩, by simp; omega⟩
      · by_cases q2 : t9 = 2
        · subst q2
          have d0 : w8.cell? ⟨gp, 0, none⟩ = some (.int .i64 s0) := cell_of_row _ gp 0 _ _ _ HPF.out.hp
          have f1 := frozen_of_row _ _ 0 _ _ HPF.out.hp
          replace HPF := Lib.hid (HPF.out.set (t := (s0 + 1, s1, s2, s3)) 0 (.int .i64 (s0 + 1)) rfl)
          have hs01 : s0 + 1 ≤ 9223372036854775807 := by omega
          have hs02 : 0 ≤ s0 := by omega
          go_upto_region 19 with fail
          clear d0 f1 c1 ht9
          generalize w8.setCell ⟨gp, 0, none⟩ (.int .i64 (s0 + 1)) = w10 at *
          have d0 : w10.cell? ⟨gp, 0, none⟩ = some (.int .i64 (s0 + 1)) := cell_of_row _ gp 0 _ _ _ HPF.out.hp
          have d1 : w10.cell? ⟨gp, 1, none⟩ = some (.int .i64 s1) := cell_of_row _ gp 1 _ _ _ HPF.out.hp
          have d2 : w10.cell? ⟨gp, 2, none⟩ = some (.int .i64 s2) := cell_of_row _ gp 2 _ _ _ HPF.out.hp
          have d3 : w10.cell? ⟨gp, 3, none⟩ = some (.int .i64 s3) := cell_of_row _ gp 3 _ _ _ HPF.out.hp
          have ho := HPF.out.f.oa.alloc (.cells #[.int .i64 (s0 + 1), .int .i64 s1, .int .i64 s2, .int .i64 s3] 30)
          rw [HAl.out.1] at ho
          go_wp2_with (at_builtin; go_must (refine wpList_append_lies _ rfl _ _ 44 rfl W0.heap.size 30 i0 (.agg #[.int .i64 0, .int .i64 0, .int .i64 0, .int .i64 0]) 4 32 Tryz.underlying44 hi hz0 hz1 hz2 rfl (by decide) _ k (fl4 A) rfl ho ⟨w10.heap.size, 0, none⟩ 1 1 [.int .i64 (s0 + 1), .int .i64 s1, .int .i64 s2, .int .i64 s3] rfl rfl (World.news_of_block (heap_alloc_new _ _)) (by simp [Value.oneCell']) Nat.zero_lt_one hA.out.1 hA.out.2 (by rw [World.size_alloc]; exact Nat.le_succ_of_le HPF.out.f.bl.size) _ rfl ?_); intro g9 c9 w9 hown9 hgrow9 hat9 hlt9)
          have K8 := (HPF.out.f.next ((Below.refl _ w10).alloc (Nat.le_refl _) (.cells #[.int .i64 (s0 + 1), .int .i64 s1, .int .i64 s2, .int .i64 s3] 30))).app ((s0 + 1), s1, s2, s3) (g := g9) (c := c9) (by rw [HAl.out.1]; exact hown9) hgrow9
          rw [HAl.out.1] at K8
          have K9 := Lib.hid (show FQ W0 (.slice (some ⟨g9, 0, none⟩) (k + 1) c9) (A ++ [((s0 + 1), s1, s2, s3)]) w9 ∧ (A ++ [((s0 + 1), s1, s2, s3)]).length = k + 1 ∧ ∀ s ∈ A ++ [((s0 + 1), s1, s2, s3)], pi64 s from ⟨K8, by rw [List.length_append, HAl.out.1]; rfl, fun s hs => by
            rcases List.mem_append.1 hs with hs | hs
            · exact HAl.out.2 s hs
            · rw [List.mem_singleton.1 hs]; exact (show i64 (s0 + 1) ∧ i64 s1 ∧ i64 s2 ∧ i64 s3 from ⟨by first | assumption | exact ⟨by omega, by omega⟩, by first | assumption | exact ⟨by omega, by omega⟩, by first | assumption | exact ⟨by omega, by omega⟩, by first | assumption | exact ⟨by omega, by omega⟩⟩)⟩)
          clear hown9 hgrow9 hat9 hlt9 ho d0 d1 d2 d3 HPF K8
          try go_wp2
          exact ⟨⟨k + 1, _, by omega, by go_num, K9⟩, by simp; omega⟩
        · by_cases q3 : t9 = 3
          · subst q3
            have f0 : w8.cell? ⟨gs, 0, none⟩ = some (.int .i64 x) := cell_of_row _ gs 0 _ _ _ HS8.out
            have f1 : w8.cell? ⟨gs, 1, none⟩ = some (.int .i64 y) := cell_of_row _ gs 1 _ _ _ HS8.out
            obtain ⟨r2, hr2⟩ : ∃ r2, IntKind.i64.wrap (r + 1) = r2 := ⟨_, rfl⟩
            have hr2i : i64 r2 := by rw [← hr2, IntKind.wrap_i64]; constructor <;> omega
            go_wp2_with fail
            refine (EV.out _ _ _ _ hxi ⟨by omega, by omega⟩ hr2i HW8.out).mono ?_
            rintro e w9 ⟨⟨e0, e1, e2, e3, rfl, he0, he1, he2, he3⟩, b9⟩
            replace HPF := Lib.hid (HPF.out.next b9)
            clear b9 f0 f1 hr2
            have h9 := HPF.out.hp
            go_upto_region 19 with (refine wpList_store_row rfl 30 (.tmp 13) (.tmp 65) rfl gp #[.int .i64 e0, .int .i64 e1, .int .i64 e2, .int .i64 e3] (by first | rfl | (simp [Act.eval])) (by first | rfl | (simp [Act.eval])) 30 _ h9 (infoPa e0 e1 e2 e3).out (pa_size _ _ _ _ _ _ _ _) (pa_one _ _ _ _) ?_)
            clear h9 c1 ht9
            replace HPF := Lib.hid (HPF.out.setRow (e0, e1, e2, e3))
            obtain ⟨w10, hw10⟩ : ∃ V, V = World.setRow w9 gp #[.int .i64 e0, .int .i64 e1, .int .i64 e2, .int .i64 e3] := ⟨_, rfl⟩
            rw [← hw10] at HPF ⊢
            clear hw10
            have d0 : w10.cell? ⟨gp, 0, none⟩ = some (.int .i64 e0) := cell_of_row _ gp 0 _ _ _ HPF.out.hp
            have d1 : w10.cell? ⟨gp, 1, none⟩ = some (.int .i64 e1) := cell_of_row _ gp 1 _ _ _ HPF.out.hp
            have d2 : w10.cell? ⟨gp, 2, none⟩ = some (.int .i64 e2) := cell_of_row _ gp 2 _ _ _ HPF.out.hp
            have d3 : w10.cell? ⟨gp, 3, none⟩ = some (.int .i64 e3) := cell_of_row _ gp 3 _ _ _ HPF.out.hp
            have ho := HPF.out.f.oa.alloc (.cells #[.int .i64 e0, .int .i64 e1, .int .i64 e2, .int .i64 e3] 30)
            rw [HAl.out.1] at ho
            go_wp2_with (at_builtin; go_must (refine wpList_append_lies _ rfl _ _ 44 rfl W0.heap.size 30 i0 (.agg #[.int .i64 0, .int .i64 0, .int .i64 0, .int .i64 0]) 4 32 Tryz.underlying44 hi hz0 hz1 hz2 rfl (by decide) _ k (fl4 A) rfl ho ⟨w10.heap.size, 0, none⟩ 1 1 [.int .i64 e0, .int .i64 e1, .int .i64 e2, .int .i64 e3] rfl rfl (World.news_of_block (heap_alloc_new _ _)) (by simp [Value.oneCell']) Nat.zero_lt_one hA.out.1 hA.out.2 (by rw [World.size_alloc]; exact Nat.le_succ_of_le HPF.out.f.bl.size) _ rfl ?_); intro g9 c9 w9 hown9 hgrow9 hat9 hlt9)
            have K8 := (HPF.out.f.next ((Below.refl _ w10).alloc (Nat.le_refl _) (.cells #[.int .i64 e0, .int .i64 e1, .int .i64 e2, .int .i64 e3] 30))).app (e0, e1, e2, e3) (g := g9) (c := c9) (by rw [HAl.out.1]; exact hown9) hgrow9
            rw [HAl.out.1] at K8
            have K9 := Lib.hid (show FQ W0 (.slice (some ⟨g9, 0, none⟩) (k + 1) c9) (A ++ [(e0, e1, e2, e3)]) w9 ∧ (A ++ [(e0, e1, e2, e3)]).length = k + 1 ∧ ∀ s ∈ A ++ [(e0, e1, e2, e3)], pi64 s from ⟨K8, by rw [List.length_append, HAl.out.1]; rfl, fun s hs => by
              rcases List.mem_append.1 hs with hs | hs
              · exact HAl.out.2 s hs
              · rw [List.mem_singleton.1 hs]; exact (show i64 e0 ∧ i64 e1 ∧ i64 e2 ∧ i64 e3 from ⟨by first | assumption | exact ⟨by omega, by omega⟩, by first | assumption | exact ⟨by omega, by omega⟩, by first | assumption | exact ⟨by omega, by omega⟩, by first | assumption | exact ⟨by omega, by omega⟩⟩)⟩)
            clear hown9 hgrow9 hat9 hlt9 ho d0 d1 d2 d3 HPF K8
            try go_wp2
            exact ⟨⟨k + 1, _, by omega, by go_num, K9⟩, by simp; omega⟩
          · by_cases q4 : t9 = 4
            · subst q4
              have d3 : w8.cell? ⟨gp, 3, none⟩ = some (.int .i64 s3) := cell_of_row _ gp 3 _ _ _ HPF.out.hp
              have hs31 : s3 + 1 ≤ 9223372036854775807 := by omega
              have hs32 : 0 ≤ s3 := by omega
              go_wp2_with fail
              refine (MD.out _ _ ⟨by omega, by omega⟩).mono ?_
              rintro e w9 ⟨⟨v9, rfl, hv1, hv2⟩, b9⟩
              have b9 := b9.symm
              subst b9
              have f1 := frozen_of_row _ _ 3 _ _ HPF.out.hp
              replace HPF := Lib.hid (HPF.out.set (t := (s0, s1, s2, v9)) 3 (.int .i64 v9) rfl)
              go_upto_region 19 with fail
              clear d3 f1 c1 ht9
              generalize w8.setCell ⟨gp, 3, none⟩ (.int .i64 v9) = w10 at *
              have d0 : w10.cell? ⟨gp, 0, none⟩ = some (.int .i64 s0) := cell_of_row _ gp 0 _ _ _ HPF.out.hp
              have d1 : w10.cell? ⟨gp, 1, none⟩ = some (.int .i64 s1) := cell_of_row _ gp 1 _ _ _ HPF.out.hp
              have d2 : w10.cell? ⟨gp, 2, none⟩ = some (.int .i64 s2) := cell_of_row _ gp 2 _ _ _ HPF.out.hp
              have d3 : w10.cell? ⟨gp, 3, none⟩ = some (.int .i64 v9) := cell_of_row _ gp 3 _ _ _ HPF.out.hp
              have ho := HPF.out.f.oa.alloc (.cells #[.int .i64 s0, .int .i64 s1, .int .i64 s2, .int .i64 v9] 30)
              rw [HAl.out.1] at ho
              go_wp2_with (at_builtin; go_must (refine wpList_append_lies _ rfl _ _ 44 rfl W0.heap.size 30 i0 (.agg #[.int .i64 0, .int .i64 0, .int .i64 0, .int .i64 0]) 4 32 Tryz.underlying44 hi hz0 hz1 hz2 rfl (by decide) _ k (fl4 A) rfl ho ⟨w10.heap.size, 0, none⟩ 1 1 [.int .i64 s0, .int .i64 s1, .int .i64 s2, .int .i64 v9] rfl rfl (World.news_of_block (heap_alloc_new _ _)) (by simp [Value.oneCell']) Nat.zero_lt_one hA.out.1 hA.out.2 (by rw [World.size_alloc]; exact Nat.le_succ_of_le HPF.out.f.bl.size) _ rfl ?_); intro g9 c9 w9 hown9 hgrow9 hat9 hlt9)
              have K8 := (HPF.out.f.next ((Below.refl _ w10).alloc (Nat.le_refl _) (.cells #[.int .i64 s0, .int .i64 s1, .int .i64 s2, .int .i64 v9] 30))).app (s0, s1, s2, v9) (g := g9) (c := c9) (by rw [HAl.out.1]; exact hown9) hgrow9
              rw [HAl.out.1] at K8
              have K9 := Lib.hid (show FQ W0 (.slice (some ⟨g9, 0, none⟩) (k + 1) c9) (A ++ [(s0, s1, s2, v9)]) w9 ∧ (A ++ [(s0, s1, s2, v9)]).length = k + 1 ∧ ∀ s ∈ A ++ [(s0, s1, s2, v9)], pi64 s from ⟨K8, by rw [List.length_append, HAl.out.1]; rfl, fun s hs => by
                rcases List.mem_append.1 hs with hs | hs
                · exact HAl.out.2 s hs
                · rw [List.mem_singleton.1 hs]; exact (show i64 s0 ∧ i64 s1 ∧ i64 s2 ∧ i64 v9 from ⟨by first | assumption | exact ⟨by omega, by omega⟩, by first | assumption | exact ⟨by omega, by omega⟩, by first | assumption | exact ⟨by omega, by omega⟩, by first | assumption | exact ⟨by omega, by omega⟩⟩)⟩)
              clear hown9 hgrow9 hat9 hlt9 ho d0 d1 d2 d3 HPF K8
              try go_wp2
              exact ⟨⟨k + 1, _, by omega, by go_num, K9⟩, by simp; omega⟩
            · by_cases q5 : t9 = 5
              · subst q5
                have K8 : CK W0 [(⟨gs, 0, none⟩, .int .i64 x), (⟨gs, 1, none⟩, .int .i64 y)] [(gp, 4, 30)] w8 := ⟨HPF.out.f.bl, fun q' hq' => by
                  simp only [List.mem_cons, List.not_mem_nil, or_false] at hq'
                  rcases hq' with rfl | rfl
                  · exact cell_of_row _ gs 0 _ _ _ HS8.out
                  · exact cell_of_row _ gs 1 _ _ _ HS8.out, fun q' hq' => by
                  simp only [List.mem_cons, List.not_mem_nil, or_false] at hq'
                  subst hq'
                  exact ⟨HPF.out.g0, _, rfl, HPF.out.hp⟩⟩
                have HK8 := Lib.hid K8
                obtain ⟨y9, hy9⟩ : ∃ z, y + 1 = z := ⟨_, rfl⟩
                have hy1 : i64 y9 := ⟨by omega, by omega⟩
                have hyw : IntKind.i64.wrap y9 = y9 := by rw [IntKind.wrap_i64]; omega
                go_upto_region 18 with fail
                clear c1 ht9 K8
                replace HPF := Lib.hid HPF.out.drew
                refine wp_region_held_drew (S := CK W0 [(⟨gs, 0, none⟩, .int .i64 x), (⟨gs, 1, none⟩, .int .i64 y)] [(gp, 4, 30)]) (by kernel_rfl) HK8.out.drew (fun hS => ?_)
                generalize World.drew w8 = w9 at *
                clear HK8
                refine wpAnyH_take (i := 0) (v := ?vre0) rfl (by kernel_rfl) (by kernel_rfl) (by kernel_rfl) (fun _ _ _ h => h) (Or.inl ⟨by rfl, ?yre0⟩) hS ?rre0
                case yre0 => (intro w hS; go_simp; try with_reducible rfl)
                refine wpAnyH_take (i := 2) (v := ?vre2) rfl (by kernel_rfl) (by kernel_rfl) (by kernel_rfl) (fun _ _ _ h => h) (Or.inl ⟨by rfl, ?yre2⟩) hS ?rre2
                case yre2 => (intro w hS; go_simp; try with_reducible rfl)
                refine wpAnyH_take (i := 7) (v := ?vre7) rfl (by kernel_rfl) (by kernel_rfl) (by kernel_rfl) (fun _ _ _ h => h) (Or.inl ⟨by rfl, ?yre7⟩) hS ?rre7
                case yre7 => (intro w hS; go_simp; try with_reducible rfl)
                go_simp
                refine wpAnyH_take (i := 1) (v := .int .i64 x) rfl (by kernel_rfl) (by kernel_rfl) (by kernel_rfl) (fun _ _ _ h => h) (Or.inl ⟨by rfl, ?yre1⟩) hS ?rre1
                case yre1 => (intro w' hS; have cf := hS.get ⟨gs, 0, none⟩ (.int .i64 x) (by simp); go_simp; try with_reducible rfl)
                refine wpAnyH_take (i := 3) (v := .int .i64 y) rfl (by kernel_rfl) (by kernel_rfl) (by kernel_rfl) (fun _ _ _ h => h) (Or.inl ⟨by rfl, ?yre3⟩) hS ?rre3
                case yre3 => (intro w' hS; have cf := hS.get ⟨gs, 1, none⟩ (.int .i64 y) (by simp); go_simp; try with_reducible rfl)
                go_simp
                refine wpAnyH_take (i := 4) (v := ?vre4) rfl (by kernel_rfl) (by kernel_rfl) (by kernel_rfl) (fun _ _ _ h => h) (Or.inl ⟨by rfl, ?yre4⟩) hS ?rre4
                case yre4 => (intro w hS; go_simp; try with_reducible rfl)
                go_simp
                refine wpAnyH_ready (rs := [5]) (by kernel_rfl) (by simp) ?_
                refine AllReadyH.cons (o := { dst := some 82, op := .call { callee := .value (.func 43), args := #[.tmp 81, .const (.int .i64 1152921504606845789)], argTypes := #[3, 3] }, type := 3, pos := "ref.go:176", after := #[⟨4, .data⟩], guard := none }) rfl (fun K hK => ?_) AllReadyH.nil
                go_simp
                go_at_call 43
                refine (MD.out _ _ hy1).mono ?_
                rintro e w' ⟨⟨y2, rfl, hy2, hy3⟩, b⟩
                obtain rfl := b
                have b := Below.refl w'.heap.size w'
                have hS2 := hS.next b
                replace HPF := Lib.hid (HPF.out.next b)
                clear b hS
                try go_simp
                refine hK.out _ _ hS2 (fun hS => ?_)
                clear hK K hS2
                refine wpAnyH_take (i := 6) (v := ?vre6) rfl (by kernel_rfl) (by kernel_rfl) (by kernel_rfl) (fun _ _ _ h => h) (Or.inl ⟨by rfl, ?yre6⟩) hS ?rre6
                case yre6 => (intro w hS; go_simp; try with_reducible rfl)
                go_simp
                refine wpAnyH_ready (rs := [8]) (by kernel_rfl) (by simp) ?_
                refine AllReadyH.cons (o := { dst := some 85, op := .call { callee := .value (.func 15), args := #[.tmp 83, .tmp 84], argTypes := #[23, 3] }, type := 30, pos := "ref.go:176", after := #[⟨6, .data⟩, ⟨7, .data⟩, ⟨5, .chain⟩], guard := none }) rfl (fun K hK => ?_) AllReadyH.nil
                go_simp
                go_at_call 15
                refine (EV.out _ _ _ _ hxi ⟨by omega, by omega⟩ hri (hW0.out.trans (hS.b.mono hW0.out.size))).mono ?_
                rintro e w' ⟨⟨e0, e1, e2, e3, rfl, he0, he1, he2, he3⟩, b⟩
                have hS2 := hS.next b
                replace HPF := Lib.hid (HPF.out.next b)
                clear b hS
                try go_simp
                refine hK.out _ _ hS2 (fun hS => ?_)
                clear hK K hS2
                refine wpAnyH_ready (rs := [9]) (by kernel_rfl) (by simp) ?_
                refine AllReadyH.cons (o := { dst := none, op := .store 30 (.tmp 13) (.tmp 85), type := 0, pos := "ref.go:176", after := #[⟨8, .data⟩, ⟨8, .chain⟩, ⟨0, .phase⟩, ⟨1, .phase⟩, ⟨2, .phase⟩, ⟨3, .phase⟩, ⟨4, .phase⟩, ⟨5, .phase⟩, ⟨6, .phase⟩, ⟨7, .phase⟩, ⟨8, .phase⟩], guard := none }) rfl (fun K hK => ?_) AllReadyH.nil
                rw [if_pos (by rfl)]
                refine wp_store_row 30 (.tmp 13) (.tmp 85) rfl gp (#[.int .i64 e0, .int .i64 e1, .int .i64 e2, .int .i64 e3]) (by first | rfl | (simp [Act.eval])) (by first | rfl | (simp [Act.eval])) 30 _ HPF.out.hp (infoPa e0 e1 e2 e3).out (pa_size _ _ _ _ _ _ _ _) (pa_one _ _ _ _) ?_
                have hS2 := hS.store gp 4 30 (by simp) (#[.int .i64 e0, .int .i64 e1, .int .i64 e2, .int .i64 e3]) rfl (by simp; omega) (by simp)
                replace HPF := Lib.hid (HPF.out.setRow (e0, e1, e2, e3))
                clear hS
                refine hK.out _ _ hS2 (fun hS => ?_)
                clear hK K hS2
                refine wpAnyH_done (by kernel_rfl) ?_ _
                clear hS
                go_upto_region 19 with fail
                obtain ⟨w10, hw10⟩ : ∃ V, V = World.setRow w' gp #[.int .i64 e0, .int .i64 e1, .int .i64 e2, .int .i64 e3] := ⟨_, rfl⟩
                rw [← hw10] at HPF ⊢
                clear hw10
                have d0 : w10.cell? ⟨gp, 0, none⟩ = some (.int .i64 e0) := cell_of_row _ gp 0 _ _ _ HPF.out.hp
                have d1 : w10.cell? ⟨gp, 1, none⟩ = some (.int .i64 e1) := cell_of_row _ gp 1 _ _ _ HPF.out.hp
                have d2 : w10.cell? ⟨gp, 2, none⟩ = some (.int .i64 e2) := cell_of_row _ gp 2 _ _ _ HPF.out.hp
                have d3 : w10.cell? ⟨gp, 3, none⟩ = some (.int .i64 e3) := cell_of_row _ gp 3 _ _ _ HPF.out.hp
                have ho := HPF.out.f.oa.alloc (.cells #[.int .i64 e0, .int .i64 e1, .int .i64 e2, .int .i64 e3] 30)
                rw [HAl.out.1] at ho
                go_wp2_with (at_builtin; go_must (refine wpList_append_lies _ rfl _ _ 44 rfl W0.heap.size 30 i0 (.agg #[.int .i64 0, .int .i64 0, .int .i64 0, .int .i64 0]) 4 32 Tryz.underlying44 hi hz0 hz1 hz2 rfl (by decide) _ k (fl4 A) rfl ho ⟨w10.heap.size, 0, none⟩ 1 1 [.int .i64 e0, .int .i64 e1, .int .i64 e2, .int .i64 e3] rfl rfl (World.news_of_block (heap_alloc_new _ _)) (by simp [Value.oneCell']) Nat.zero_lt_one hA.out.1 hA.out.2 (by rw [World.size_alloc]; exact Nat.le_succ_of_le HPF.out.f.bl.size) _ rfl ?_); intro g9 c9 w9 hown9 hgrow9 hat9 hlt9)
                have K8 := (HPF.out.f.next ((Below.refl _ w10).alloc (Nat.le_refl _) (.cells #[.int .i64 e0, .int .i64 e1, .int .i64 e2, .int .i64 e3] 30))).app (e0, e1, e2, e3) (g := g9) (c := c9) (by rw [HAl.out.1]; exact hown9) hgrow9
                rw [HAl.out.1] at K8
                have K9 := Lib.hid (show FQ W0 (.slice (some ⟨g9, 0, none⟩) (k + 1) c9) (A ++ [(e0, e1, e2, e3)]) w9 ∧ (A ++ [(e0, e1, e2, e3)]).length = k + 1 ∧ ∀ s ∈ A ++ [(e0, e1, e2, e3)], pi64 s from ⟨K8, by rw [List.length_append, HAl.out.1]; rfl, fun s hs => by
                  rcases List.mem_append.1 hs with hs | hs
                  · exact HAl.out.2 s hs
                  · rw [List.mem_singleton.1 hs]; exact (show i64 e0 ∧ i64 e1 ∧ i64 e2 ∧ i64 e3 from ⟨by first | assumption | exact ⟨by omega, by omega⟩, by first | assumption | exact ⟨by omega, by omega⟩, by first | assumption | exact ⟨by omega, by omega⟩, by first | assumption | exact ⟨by omega, by omega⟩⟩)⟩)
                clear hown9 hgrow9 hat9 hlt9 ho d0 d1 d2 d3 HPF K8
                try go_wp2
                exact ⟨⟨k + 1, _, by omega, by go_num, K9⟩, by simp; omega⟩
              · have r1 : (t9 == 1) = false := by rw [beq_eq_false_iff_ne]; exact q1
                have r2 : (t9 == 2) = false := by rw [beq_eq_false_iff_ne]; exact q2
                have r3 : (t9 == 3) = false := by rw [beq_eq_false_iff_ne]; exact q3
                have r4 : (t9 == 4) = false := by rw [beq_eq_false_iff_ne]; exact q4
                have r5 : (t9 == 5) = false := by rw [beq_eq_false_iff_ne]; exact q5
                go_upto_region 19 with fail
                clear c1 ht9 r1 r2 r3 r4 r5
                have d0 : w8.cell? ⟨gp, 0, none⟩ = some (.int .i64 s0) := cell_of_row _ gp 0 _ _ _ HPF.out.hp
                have d1 : w8.cell? ⟨gp, 1, none⟩ = some (.int .i64 s1) := cell_of_row _ gp 1 _ _ _ HPF.out.hp
                have d2 : w8.cell? ⟨gp, 2, none⟩ = some (.int .i64 s2) := cell_of_row _ gp 2 _ _ _ HPF.out.hp
                have d3 : w8.cell? ⟨gp, 3, none⟩ = some (.int .i64 s3) := cell_of_row _ gp 3 _ _ _ HPF.out.hp
                have ho := HPF.out.f.oa.alloc (.cells #[.int .i64 s0, .int .i64 s1, .int .i64 s2, .int .i64 s3] 30)
                rw [HAl.out.1] at ho
                go_wp2_with (at_builtin; go_must (refine wpList_append_lies _ rfl _ _ 44 rfl W0.heap.size 30 i0 (.agg #[.int .i64 0, .int .i64 0, .int .i64 0, .int .i64 0]) 4 32 Tryz.underlying44 hi hz0 hz1 hz2 rfl (by decide) _ k (fl4 A) rfl ho ⟨w8.heap.size, 0, none⟩ 1 1 [.int .i64 s0, .int .i64 s1, .int .i64 s2, .int .i64 s3] rfl rfl (World.news_of_block (heap_alloc_new _ _)) (by simp [Value.oneCell']) Nat.zero_lt_one hA.out.1 hA.out.2 (by rw [World.size_alloc]; exact Nat.le_succ_of_le HPF.out.f.bl.size) _ rfl ?_); intro g9 c9 w9 hown9 hgrow9 hat9 hlt9)
                have K8 := (HPF.out.f.next ((Below.refl _ w8).alloc (Nat.le_refl _) (.cells #[.int .i64 s0, .int .i64 s1, .int .i64 s2, .int .i64 s3] 30))).app (s0, s1, s2, s3) (g := g9) (c := c9) (by rw [HAl.out.1]; exact hown9) hgrow9
                rw [HAl.out.1] at K8
                have K9 := Lib.hid (show FQ W0 (.slice (some ⟨g9, 0, none⟩) (k + 1) c9) (A ++ [(s0, s1, s2, s3)]) w9 ∧ (A ++ [(s0, s1, s2, s3)]).length = k + 1 ∧ ∀ s ∈ A ++ [(s0, s1, s2, s3)], pi64 s from ⟨K8, by rw [List.length_append, HAl.out.1]; rfl, fun s hs => by
                  rcases List.mem_append.1 hs with hs | hs
                  · exact HAl.out.2 s hs
                  · rw [List.mem_singleton.1 hs]; exact (show i64 s0 ∧ i64 s1 ∧ i64 s2 ∧ i64 s3 from ⟨by first | assumption | exact ⟨by omega, by omega⟩, by first | assumption | exact ⟨by omega, by omega⟩, by first | assumption | exact ⟨by omega, by omega⟩, by first | assumption | exact ⟨by omega, by omega⟩⟩)⟩)
                clear hown9 hgrow9 hat9 hlt9 ho d0 d1 d2 d3 HPF K8
                try go_wp2
                exact ⟨⟨k + 1, _, by omega, by go_num, K9⟩, by simp; omega⟩
    · obtain rfl : k = N := by omega
      have HP := Lib.hid HQ.out
      by_cases hkn : k < nl
      · have h30 : k = 30 := by have := HNN.out; omega
        have hkl : (k : Int) < (nl : Int) := by omega
        have hk30 : ¬ ((k : Int) < 30) := by omega
        go_wp2
        go_ret
        exact ⟨⟨_, rfl, A, HP.out.2.2, by have := HP.out.2.1; omega, own_base' HP.out.1.oa hW0.out.size⟩, hW0.out.trans (HP.out.1.bl.mono hW0.out.size)⟩
      · have hkl : ¬ ((k : Int) < (nl : Int)) := by omega
        go_wp2
        go_ret
        exact ⟨⟨_, rfl, A, HP.out.2.2, by have := HP.out.2.1; omega, own_base' HP.out.1.oa hW0.out.size⟩, hW0.out.trans (HP.out.1.bl.mono hW0.out.size)⟩
end Go.Proofs.YtbfplapjjeeceaaGreatDoor.B9
namespace Go.Proofs.YtbfplapjjeeceaaGreatDoor.B9
open Go.RowKit GM SH G4 E6 D7P
open W8 hiding i64 jn pX pY
theorem evl_rng (x y r : Int) (hx : i64 x) : (0 ≤ (evl x y r).1 ∧ (evl x y r).1 ≤ 60) ∧ i64 (evl x y r).2.1 ∧ i64 (evl x y r).2.2.1 ∧ 0 ≤ (evl x y r).2.2.2 ∧ (evl x y r).2.2.2 < 1152921504606845789 := by
  by_cases h : 1 ≤ x ∧ x ≤ 60 ∧ 0 ≤ y ∧ y < 1152921504606845789
  · rw [evl_yes x y r h]
    have hv := pp_i64 (bs r) y
    have hc := prC_i64 y 4 (bs r)
    have hz := prZ_rng y 4 (bs r)
    generalize pp (bs r) y = v at *
    generalize prC y 4 (bs r) = c at *
    generalize prZ y 4 (bs r) = z at *
    exact ⟨⟨by show 0 ≤ x; omega, h.2.1⟩, hv, hc, hz⟩
  · rw [evl_no x y r h]
    exact ⟨⟨by decide, by decide⟩, ⟨by decide, by decide⟩, ⟨by decide, by decide⟩, by decide, by decide⟩
theorem PkL.next {W V : World} {v : Value} {l : List (Int × Int)} (h : PkL W v l) (k : Below W.heap.size W V) : PkL V v l := by
  obtain ⟨p, c, e, h1, h2, h3⟩ := h
  exact ⟨p, c, e, h1, h2, fun j x hj => by
    obtain ⟨b, o, e, hc, hd⟩ := h3 j x hj
    exact ⟨b, o, e, (k.cell (p := ⟨b, o + j * 2, none⟩) (World.block_lt_of_cell? _ _ hc)).trans hc, (k.cell (p := ⟨b, o + j * 2 + 1, none⟩) (World.block_lt_of_cell? _ _ hd)).trans hd⟩⟩
theorem Partials_any (w : World) (p q pc pl : Option Addr) (n k m e nc cc cl : Nat) (r : Int) (C CF : List Int) (L : List (List Int)) (l : List (Int × Int)) (h : KY w p q n k m e C L) (h1 : 1 ≤ many L) (h60 : many L ≤ 60) (hc : SLi w (.slice pc nc cc) CF) (hr : i64 r) (hl : PkL w (.slice pl l.length cl) l) (hT : TS w) :
    Calls Tryz.prog 17 #[.slice pc nc cc, .agg #[.slice p n k, .slice q m e], .int .i64 r, .slice pl l.length cl] w fun e w' => (∃ v A, e = .returned v ∧ pis A ∧ A.length ≤ 30 ∧ w'.ownsRow w.heap.size 30 4 v A.length (fl4 A)) ∧ Below w.heap.size w w' := by
  obtain ⟨p', c', e', h2, h3, h4⟩ := hl
  injection e' with a1 a2 a3
  subst a1
  refine parts_core w pc p q pl nc cc n k m e cl r hr l l.length rfl h2 (many L) (by omega) h60 (shs CF (many L)) (shs_len _ _) (fun s hs => ?_) h3 h4 (Lib.hid fun W b => Shares_any W p q n k m e C L (h.next b) h60 _ CF (hc.next b))
    (Lib.hid fun W x y r hx hy hr b => (refEval_any W x y r _ rfl hx hy hr (hT.below b)).mono fun e w' h => ⟨⟨_, _, _, _, h.1, evl_rng x y r hx⟩, h.2⟩)
    (Lib.hid fun W a ha => (refMul_k W a 4 2305843009213691579 _ rfl ha ⟨by decide, by decide⟩ (by decide)).mono fun e w' h => ⟨⟨_, h.1, D7.gmP_i64 _ _⟩, h.2⟩)
    (Lib.hid fun W a ha => (mod_any W a _ rfl ha).mono fun e w' h => ⟨⟨_, h.1, by omega, by omega⟩, h.2⟩)
  obtain ⟨j, hj, rfl⟩ := List.mem_map.1 hs
  have := List.mem_range.1 hj
  exact ⟨⟨by show _ ≤ (j : Int) + 1; omega, by show (j : Int) + 1 ≤ _; omega⟩, D7.vl_rng _ _⟩
end Go.Proofs.YtbfplapjjeeceaaGreatDoor.B9
namespace Go.Proofs.YtbfplapjjeeceaaGreatDoor.B9
open Go.RowKit GM SH G4 E6 D7P
open W8 hiding i64 jn pX pY
/-- the first k of a row of partials -/
def all9 (g : Nat → Pa) (k : Nat) : List Pa := (List.range k).map g
theorem all9_succ (g : Nat → Pa) (k : Nat) : all9 g (k+1) = all9 g k ++ [g k] := by unfold all9; rw [List.range_succ, List.map_append]; rfl
theorem all9_len (g : Nat → Pa) (k : Nat) : (all9 g k).length = k := by unfold all9; simp
theorem CK.more {w u : World} {L : List (Addr × Value)} {Z : List (Nat × Nat × TypeId)} (h : CK w L Z u) (a : Addr) (v : Value) (hc : u.cell? a = some v) : CK w ((a, v) :: L) Z u := ⟨h.b, fun p hp => by
  rcases List.mem_cons.1 hp with rfl | hp
  · exact hc
  · exact h.c p hp, h.z⟩
theorem fl4_len : ∀ l : List Pa, (fl4 l).length = l.length * 4
  | [] => rfl
  | s :: l => by
    show (pc s ++ fl4 l).length = _
    rw [List.length_append, fl4_len l, List.length_cons]
    show 4 + _ = _
    omega
theorem fl4_one : ∀ (l : List Pa), ∀ u ∈ fl4 l, u.oneCell' = true
  | [], u, h => by cases h
  | s :: l, u, h => by
    rcases List.mem_append.1 h with h | h
    · simp only [pc, List.mem_cons, List.not_mem_nil, or_false] at h
      rcases h with rfl | rfl | rfl | rfl <;> rfl
    · exact fl4_one l u h
theorem own_news {w : World} {base : Nat} {e : TypeId} {size n g c : Nat} {xs : List Value} (h : w.ownsRow base e size (.slice (some ⟨g, 0, none⟩) n c) n xs) : ∀ j u, xs[j]? = some u → w.cell? ((⟨g, 0, none⟩ : Addr).add j) = some u := fun j u hu => by
  have hadd : (⟨g, 0, none⟩ : Addr).add j = ⟨g, j, none⟩ := by unfold Addr.add; split <;> simp_all
  rw [hadd]
  rcases h.2 with ⟨h1, _⟩ | ⟨g', cap, cur, h1, h2, h3, h4, h5, h6, h7⟩
  · cases h1
  · injection h1 with a1 a2 a3
    injection a1 with a1
    injection a1 with a1
    subst a1
    rw [cell_of_row w g j _ _ _ h3, ← Array.getElem?_toList]
    rw [← h7] at hu
    have hlt := (List.getElem?_eq_some_iff.1 hu).1
    rw [List.getElem?_take_of_lt (by rw [List.length_take] at hlt; omega)] at hu
    exact hu
theorem own_some {w : World} {base : Nat} {e : TypeId} {size n : Nat} {v : Value} {xs : List Value} (h : w.ownsRow base e size v n xs) (hn : 0 < n) : ∃ g c, v = .slice (some ⟨g, 0, none⟩) n c := by
  rcases h.2 with ⟨_, h0⟩ | ⟨g, cap, cur, rfl, _⟩
  · omega
  · exact ⟨g, cap, rfl⟩
set_option maxRecDepth 100000 in
set_option maxHeartbeats 8000000 in
theorem once_core (w : World) (pw0 pw1 pl : Option Addr) (nw0 cw0 nw1 cw1 nl cl : Nat) (q0 q1 : Int) (hq0 : i64 q0) (hq1 : i64 q1) (CF C : List Int) (L : List (List Int)) (M : Nat) (hM0 : 0 < M) (hM : M ≤ 60) (NF : Nat) (hCF : CF.length = NF) (hNF0 : 0 < NF) (hNF : NF ≤ 60)
    (F : Nat) (hF : F < M) (hFq : Int.tmod (Int.tmod q1 (M : Int) + (M : Int)) (M : Int) = (F : Int)) (SHL : List (Int × Int)) (hSL : SHL.length = M) (g : Nat → Pa)
    (hg : ∀ i x y, SHL[(F + i) % M]? = some (x, y) → ∀ W, Below w.heap.size w W → Calls Tryz.prog 14 #[.agg #[.int .i64 x, .int .i64 y], .int .i64 q0] W fun e w' => e = .returned (pav (g i)) ∧ Below W.heap.size W w')
    (hgi : ∀ i, i < NF → pi64 (g i)) (base pwv hd : Int) (hd0 : CF[0]? = some hd) (vb : Pa → Bool) (yv pf : Int → Int)
    (SA : Hid (∀ W, Below w.heap.size w W → Calls Tryz.prog 10 #[] W fun e w' => e = .returned (.bool true) ∧ Below W.heap.size W w'))
    (MA : Hid (∀ W, Below w.heap.size w W → Calls Tryz.prog 16 #[.agg #[.slice pw0 nw0 cw0, .slice pw1 nw1 cw1]] W (MQ W CF C L)))
    (SH : Hid (∀ W (p q pc : Option Addr) (ck cq cc : Nat), KY W p q C.length ck L.length cq C L → SLi W (.slice pc CF.length cc) CF → Calls Tryz.prog 20 #[.slice pc CF.length cc, .agg #[.slice p C.length ck, .slice q L.length cq]] W fun e w' => (∃ sv, e = .returned sv ∧ ShL w' sv SHL) ∧ Below W.heap.size W w'))
    (BA : Hid (∀ W, Below w.heap.size w W → Calls Tryz.prog 12 #[.int .i64 q0] W fun e w' => e = .returned (.int .i64 base) ∧ Below W.heap.size W w'))
    (PV : Hid (∀ W, Calls Tryz.prog 21 #[.int .i64 base, .int .i64 hd, .int .i64 2305843009213691579] W fun e w' => e = .returned (.int .i64 pwv) ∧ Below W.heap.size W w'))
    (VA : Hid (∀ x, i64 x → ∀ W (p : Option Addr) (cc : Nat), SLi W (.slice p CF.length cc) CF → Calls Tryz.prog 22 #[.slice p CF.length cc, .int .i64 x] W fun e w' => e = .returned (.int .i64 (yv x)) ∧ Below W.heap.size W w'))
    (PP : Hid (∀ x W, Calls Tryz.prog 21 #[.int .i64 base, .int .i64 (yv x), .int .i64 2305843009213691579] W fun e w' => e = .returned (.int .i64 (pf x)) ∧ Below W.heap.size W w'))
    (PA : Hid (∀ W (p q pc : Option Addr) (ck cq cc : Nat), Below w.heap.size w W → KY W p q C.length ck L.length cq C L → SLi W (.slice pc CF.length cc) CF → Calls Tryz.prog 17 #[.slice pc CF.length cc, .agg #[.slice p C.length ck, .slice q L.length cq], .int .i64 q0, .slice pl nl cl] W fun e w' => (∃ v A, e = .returned v ∧ pis A ∧ A.length ≤ 30 ∧ w'.ownsRow W.heap.size 30 4 v A.length (fl4 A)) ∧ Below W.heap.size W w'))
    (RV : Hid (∀ s, pi64 s → ∀ W (p q : Option Addr) (ck cq : Nat), Below w.heap.size w W → KY W p q C.length ck L.length cq C L → Calls Tryz.prog 19 #[.agg #[.slice p C.length ck, .slice q L.length cq], .int .i64 q0, pav s] W fun e w' => e = .returned (.bool (vb s)) ∧ Below W.heap.size W w'))
    (C1 : Hid (∀ W (p q : Option Addr) (ck cq : Nat) v, Below w.heap.size w W → KY W p q C.length ck L.length cq C L → PaL W v (all9 g NF) → Calls Tryz.prog 23 #[.agg #[.slice p C.length ck, .slice q L.length cq], .int .i64 q0, v] W fun e w' => (∃ pb cb, e = .returned (.tuple #[.int .i64 pwv, .slice pb 0 cb, .int .i64 0])) ∧ Below W.heap.size W w'))
    (C2 : Hid (∀ A, pis A → (∀ s ∈ A, vb s = true → s.2.1 = pf s.1) → ∀ W (p q : Option Addr) (ck cq : Nat) v, Below w.heap.size w W → KY W p q C.length ck L.length cq C L → PaL W v (A ++ all9 g NF) → Calls Tryz.prog 23 #[.agg #[.slice p C.length ck, .slice q L.length cq], .int .i64 q0, v] W fun e w' => (∃ bv, e = .returned (.tuple #[.int .i64 pwv, bv, .int .i64 0])) ∧ Below W.heap.size W w')) :
    Calls Tryz.prog 5 #[.agg #[.slice pw0 nw0 cw0, .slice pw1 nw1 cw1], .slice pl nl cl, .agg #[.int .i64 q0, .int .i64 q1]] w fun e w' => e = .returned (.bool true) ∧ Below w.heap.size w w' := by
  obtain ⟨i0, hi, hz0, hz1, hz2⟩ := info_parts infoP4
  obtain ⟨W, hW⟩ : ∃ W, (w.alloc (.cells #[.slice pw0 nw0 cw0, .slice pw1 nw1 cw1] 36)).alloc (.cells #[.int .i64 q0, .int .i64 q1] 24) = W := ⟨_, rfl⟩
  have K0 : CK w [(⟨w.heap.size + 1, 0, none⟩, .int .i64 q0), (⟨w.heap.size + 1, 1, none⟩, .int .i64 q1), (⟨w.heap.size, 0, none⟩, .slice pw0 nw0 cw0), (⟨w.heap.size, 1, none⟩, .slice pw1 nw1 cw1)] [] W := by
    have := ((CK.start w).cells #[.slice pw0 nw0 cw0, .slice pw1 nw1 cw1] 36 _ rfl).cells #[.int .i64 q0, .int .i64 q1] 24 _ rfl
    rw [hW, World.size_alloc] at this
    exact this.sub (by simp) (by simp)
  have HK := Lib.hid K0
  obtain ⟨am, ham⟩ : ∃ a, Int.tmod q1 (M : Int) = a := ⟨_, rfl⟩
  have ham1 : -(M : Int) < am := by rw [← ham]; have := Int.lt_tmod_of_pos q1 (show (0 : Int) < (M : Int) by omega); omega
  have ham2 : am < (M : Int) := by rw [← ham]; exact Int.tmod_lt_of_pos q1 (by omega)
  rw [ham] at hFq
  have HG := Lib.hid (And.intro hg (And.intro hgi (And.intro hSL hd0)))
  have HQQ := Lib.hid (And.intro ham (And.intro ham1 (And.intro ham2 hFq)))
  clear K0 hg hgi hSL hd0 ham ham1 ham2 hFq
  have c0 := HK.out.get ⟨w.heap.size, 0, none⟩ (.slice pw0 nw0 cw0) (by simp)
  have c1 := HK.out.get ⟨w.heap.size, 1, none⟩ (.slice pw1 nw1 cw1) (by simp)
  go_enter Tryz.func5, Tryz.ntmps5
  go_upto_region 1 with fail
  clear hW c0 c1
  go_wp2_with fail
  refine (SA.out _ HK.out.b).mono ?_
  rintro e w1 ⟨rfl, b1⟩
  replace HK := Lib.hid (HK.out.next b1); clear b1
  have c0 := HK.out.get ⟨w.heap.size, 0, none⟩ (.slice pw0 nw0 cw0) (by simp)
  have c1 := HK.out.get ⟨w.heap.size, 1, none⟩ (.slice pw1 nw1 cw1) (by simp)
  go_wp2_with fail
  refine (MA.out _ HK.out.b).mono ?_
  rintro e w2 ⟨⟨pc, pk, pq, cc, ck, cq, rfl, hs, hy⟩, b2⟩
  have hLK := lk_start (HK.out.b.trans (b2.mono HK.out.b.size)) hs hy
  have HQ2 : Hid (CK w [(⟨w.heap.size + 1, 0, none⟩, .int .i64 q0), (⟨w.heap.size + 1, 1, none⟩, .int .i64 q1)] [] w2) := Lib.hid ((HK.out.next b2).sub (by simp) (by simp))
  clear b2 hs hy HK c0 c1
  obtain ⟨NC, hNC⟩ : ∃ n, C.length = n := ⟨_, rfl⟩
  obtain ⟨NL, hNL⟩ : ∃ n, L.length = n := ⟨_, rfl⟩
  rw [hNC, hNL] at hLK SH PA RV C1 C2 ⊢
  rw [hCF] at hLK SH VA PA ⊢
  clear hNC hNL
  go_upto_region 3 with fail
  have bK := (Below.refl w2.heap.size w2).alloc (Nat.le_refl _) (.cells #[.slice pk NC ck, .slice pq NL cq] 41)
  have HQ3 := Lib.hid (HQ2.out.next bK)
  obtain ⟨W3, hW3⟩ : ∃ V, w2.alloc (.cells #[.slice pk NC ck, .slice pq NL cq] 41) = V := ⟨_, rfl⟩
  rw [hW3] at hLK HQ3 ⊢
  obtain ⟨gk, hgk⟩ : ∃ g, w2.heap.size = g := ⟨_, rfl⟩
  rw [hgk] at hLK ⊢
  have HLK3 := Lib.hid hLK
  clear hLK hW3 hgk hCF HQ2 bK
  have c0 := HLK3.out.c0
  have c1 := HLK3.out.c1
  go_wp2_with fail
  refine (SH.out _ pk pq pc ck cq cc HLK3.out.y HLK3.out.s).mono ?_
  rintro e W0 ⟨⟨sv, rfl, hsh⟩, b4⟩
  have HLK0 := Lib.hid (HLK3.out.next b4)
  have HQ0 := Lib.hid (HQ3.out.next b4)
  clear b4 c0 c1 SH MA SA HLK3 HQ3
  obtain ⟨⟨ps, cs, rfl, hcs⟩, hsr, hsn⟩ := hsh
  rw [HG.out.2.2.1]
  have HSH := Lib.hid (And.intro hcs hsr)
  clear hcs hsr hsn
  obtain ⟨bc, oc, hpc, hcd⟩ : ∃ b o, pc = some ⟨b, o, none⟩ ∧ W0.cell? ⟨b, o, none⟩ = some (.int .i64 hd) := by
    obtain ⟨p9, c9, e9, h9⟩ := HLK0.out.s.h
    injection e9 with a1 a2 a3
    obtain ⟨b, o, e, hx⟩ := h9 0 hd HG.out.2.2.2
    exact ⟨b, o, by rw [a1, e], by simpa using hx⟩
  subst hpc
  have HC0 : Hid (CK w [(⟨gk, 0, none⟩, .slice pk NC ck), (⟨gk, 1, none⟩, .slice pq NL cq), (⟨w.heap.size + 1, 0, none⟩, .int .i64 q0), (⟨w.heap.size + 1, 1, none⟩, .int .i64 q1), (⟨bc, oc, none⟩, .int .i64 hd)] [] W0) := Lib.hid ⟨HLK0.out.b, fun q' hq' => by
    simp only [List.mem_cons, List.not_mem_nil, or_false] at hq'
    rcases hq' with rfl | rfl | rfl | rfl | rfl
    · exact HLK0.out.c0
    · exact HLK0.out.c1
    · exact HQ0.out.get ⟨w.heap.size + 1, 0, none⟩ (.int .i64 q0) (by simp)
    · exact HQ0.out.get ⟨w.heap.size + 1, 1, none⟩ (.int .i64 q1) (by simp)
    · exact hcd, fun q' hq' => by cases hq'⟩
  have HBL : Hid (∀ p ∈ ([(⟨gk, 0, none⟩, .slice pk NC ck), (⟨gk, 1, none⟩, .slice pq NL cq), (⟨w.heap.size + 1, 0, none⟩, .int .i64 q0), (⟨w.heap.size + 1, 1, none⟩, .int .i64 q1), (⟨bc, oc, none⟩, .int .i64 hd)] : List (Addr × Value)), p.1.block < W0.heap.size) := Lib.hid fun p hp => World.block_lt_of_cell? _ _ (HC0.out.c p hp)
  clear hcd HQ0
  have cq1 := HC0.out.get ⟨w.heap.size + 1, 1, none⟩ (.int .i64 q1) (by simp)
  obtain ⟨ham, ham1, ham2, hFq⟩ := HQQ.out
  go_upto_region 6 with fail
  clear cq1 ham ham1 ham2 hFq HQQ
  go_wp2_with fail
  go_loopw [11, 13] (fun a i wr => ∃ k : Nat, k ≤ NF ∧ i = .int .i64 (k : Int) ∧ Hid (FQ W0 a (all9 g k) wr)) (fun _ i _ => NF - (match i with | .int _ i => i.toNat | _ => 0))
  case atStart => exact ⟨0, Nat.zero_le _, rfl, Lib.hid ⟨Below.refl _ _, World.ownsRow_nil _ _ _ _⟩⟩
  case round =>
    obtain ⟨k, hk, rfl, HF⟩ := hrel
    by_cases hlt : k < NF
    · obtain ⟨⟨x, y⟩, hx⟩ : ∃ s, SHL[(F + k) % M]? = some s := ⟨SHL[(F + k) % M]'(by rw [HG.out.2.2.1]; exact Nat.mod_lt _ hM0), List.getElem?_eq_getElem _⟩
      obtain ⟨b, o, hp, hc0, hc1⟩ := HSH.out.1 _ _ hx
      subst hp
      have EV := Lib.hid (HG.out.1 k x y hx)
      have hpi := HG.out.2.1 k hlt
      have hrm : Int.tmod ((F : Int) + (k : Int)) (M : Int) = (((F + k) % M : Nat) : Int) := by rw [Int.tmod_eq_emod_of_nonneg (by omega)]; rfl
      have hml := Nat.mod_lt (F + k) hM0
      obtain ⟨j, hj⟩ : ∃ j, (F + k) % M = j := ⟨_, rfl⟩
      rw [hj] at hc0 hc1 hrm hml
      have hmi : (j : Int) < (M : Int) := by omega
      have hadd : (F : Int) + (k : Int) ≤ 9223372036854775807 := by omega
      have hm0 : (M = 0) = False := eq_false (by omega)
      have hwr : IntKind.i64.wrap ((F : Int) + (k : Int)) = (F : Int) + (k : Int) := by rw [IntKind.wrap_i64]; omega
      obtain ⟨s, hs⟩ : ∃ s, g k = s := ⟨_, rfl⟩
      have HD := Lib.hid (show all9 g (k+1) = all9 g k ++ [s] by rw [← hs]; exact all9_succ g k)
      rw [hs] at EV hpi
      obtain ⟨p0, p1, p2, p3⟩ := s
      have hA := Lib.hid (show k + 1 ≤ maxLen ∧ (k + 1) * 32 ≤ 140737488355328 from ⟨by unfold maxLen; omega, by omega⟩)
      have HC9 : Hid (CK w [(⟨b, o + j * 2, none⟩, .int .i64 x), (⟨b, o + j * 2 + 1, none⟩, .int .i64 y), (⟨gk, 0, none⟩, .slice pk NC ck), (⟨gk, 1, none⟩, .slice pq NL cq), (⟨w.heap.size + 1, 0, none⟩, .int .i64 q0), (⟨w.heap.size + 1, 1, none⟩, .int .i64 q1), (⟨bc, oc, none⟩, .int .i64 hd)] [] wr) := Lib.hid (((HC0.out.next HF.out.bl).more ⟨b, o + j * 2 + 1, none⟩ _ ((HF.out.bl.cell (p := ⟨b, o + j * 2 + 1, none⟩) (World.block_lt_of_cell? _ _ hc1)).trans hc1)).more ⟨b, o + j * 2, none⟩ _ ((HF.out.bl.cell (p := ⟨b, o + j * 2, none⟩) (World.block_lt_of_cell? _ _ hc0)).trans hc0))
      have HBS : Hid (w.heap.size ≤ W0.heap.size ∧ ∀ p ∈ ([(⟨b, o + j * 2, none⟩, .int .i64 x), (⟨b, o + j * 2 + 1, none⟩, .int .i64 y), (⟨gk, 0, none⟩, .slice pk NC ck), (⟨gk, 1, none⟩, .slice pq NL cq), (⟨w.heap.size + 1, 0, none⟩, .int .i64 q0), (⟨w.heap.size + 1, 1, none⟩, .int .i64 q1), (⟨bc, oc, none⟩, .int .i64 hd)] : List (Addr × Value)), p.1.block < W0.heap.size) := Lib.hid ⟨HLK0.out.b.size, fun p hp => by
        rcases List.mem_cons.1 hp with rfl | hp
        · exact World.block_lt_of_cell? _ _ hc0
        · rcases List.mem_cons.1 hp with rfl | hp
          · exact World.block_lt_of_cell? _ _ hc1
          · exact HBL.out p hp⟩
      clear hx hc0 hc1 hj hs
      go_upto_region 9 with fail
      replace HF := Lib.hid (HF.out.next (Below.refl _ _).drew)
      refine wp_region_held_drew (S := CK w [(⟨b, o + j * 2, none⟩, .int .i64 x), (⟨b, o + j * 2 + 1, none⟩, .int .i64 y), (⟨gk, 0, none⟩, .slice pk NC ck), (⟨gk, 1, none⟩, .slice pq NL cq), (⟨w.heap.size + 1, 0, none⟩, .int .i64 q0), (⟨w.heap.size + 1, 1, none⟩, .int .i64 q1), (⟨bc, oc, none⟩, .int .i64 hd)] []) (by kernel_rfl) HC9.out.drew (fun hS => ?_)
      generalize World.drew wr = wd at *
      clear HC9
      refine wpAnyH_take (i := 0) (v := ?vfb0) rfl (by kernel_rfl) (by kernel_rfl) (by kernel_rfl) (fun _ _ _ h => h) (Or.inl ⟨by rfl, ?yfb0⟩) hS ?rfb0
      case yfb0 => (intro w hS; go_simp; try with_reducible rfl)
      refine wpAnyH_take (i := 1) (v := ?vfb1) rfl (by kernel_rfl) (by kernel_rfl) (by kernel_rfl) (fun _ _ _ h => h) (Or.inl ⟨by rfl, ?yfb1⟩) hS ?rfb1
      case yfb1 => (intro w hS; go_simp; try with_reducible rfl)
      refine wpAnyH_take (i := 2) (v := ?vfb2) rfl (by kernel_rfl) (by kernel_rfl) (by kernel_rfl) (fun _ _ _ h => h) (Or.inl ⟨by rfl, ?yfb2⟩) hS ?rfb2
      case yfb2 => (intro w hS; go_simp; try with_reducible rfl)
      refine wpAnyH_take (i := 3) (v := ?vfb3) rfl (by kernel_rfl) (by kernel_rfl) (by kernel_rfl) (fun _ _ _ h => h) (Or.inl ⟨by rfl, ?yfb3⟩) hS ?rfb3
      case yfb3 => (intro w hS; go_simp; try with_reducible rfl)
      refine wpAnyH_take (i := 5) (v := ?vfb5) rfl (by kernel_rfl) (by kernel_rfl) (by kernel_rfl) (fun _ _ _ h => h) (Or.inl ⟨by rfl, ?yfb5⟩) hS ?rfb5
      case yfb5 => (intro w hS; go_simp; try with_reducible rfl)
      refine wpAnyH_take (i := 10) (v := ?vfb10) rfl (by kernel_rfl) (by kernel_rfl) (by kernel_rfl) (fun _ _ _ h => h) (Or.inl ⟨by rfl, ?yfb10⟩) hS ?rfb10
      case yfb10 => (intro w hS; go_simp; try with_reducible rfl)
      go_simp
      refine wpAnyH_take (i := 4) (v := ?vfb4) rfl (by kernel_rfl) (by kernel_rfl) (by kernel_rfl) (fun _ _ _ h => h) (Or.inl ⟨by rfl, ?yfb4⟩) hS ?rfb4
      case yfb4 => (intro w hS; go_simp; try with_reducible rfl)
      refine wpAnyH_take (i := 6) (v := ?vfb6) rfl (by kernel_rfl) (by kernel_rfl) (by kernel_rfl) (fun _ _ _ h => h) (Or.inl ⟨by rfl, ?yfb6⟩) hS ?rfb6
      case yfb6 => (intro w hS; go_simp; try with_reducible rfl)
      refine wpAnyH_take (i := 11) (v := .int .i64 q0) rfl (by kernel_rfl) (by kernel_rfl) (by kernel_rfl) (fun _ _ _ h => h) (Or.inl ⟨by rfl, ?yfb11⟩) hS ?rfb11
      case yfb11 => (intro w' hS; have cf := hS.get ⟨w.heap.size + 1, 0, none⟩ (.int .i64 q0) (by simp); go_simp; try with_reducible rfl)
      go_simp
      refine wpAnyH_take (i := 7) (v := ?vfb7) rfl (by kernel_rfl) (by kernel_rfl) (by kernel_rfl) (fun _ _ _ h => h) (Or.inl ⟨by rfl, ?yfb7⟩) hS ?rfb7
      case yfb7 => (intro w hS; go_simp; try with_reducible rfl)
      go_simp
      refine wpAnyH_take (i := 8) (v := ?vfb8) rfl (by kernel_rfl) (by kernel_rfl) (by kernel_rfl) (fun _ _ _ h => h) (Or.inl ⟨by rfl, ?yfb8⟩) hS ?rfb8
      case yfb8 => (intro w hS; go_simp; try with_reducible rfl)
      go_simp
      refine wpAnyH_take (i := 9) (v := .agg #[.int .i64 x, .int .i64 y]) rfl (by kernel_rfl) (by kernel_rfl) (by kernel_rfl) (fun _ _ _ h => h) (Or.inl ⟨by rfl, ?yfb9⟩) hS ?rfb9
      case yfb9 => (intro w' hS; have cf := hS.get ⟨b, o + j * 2, none⟩ (.int .i64 x) (by simp); have cg1 := hS.get ⟨b, o + j * 2 + 1, none⟩ (.int .i64 y) (by simp); go_simp; try with_reducible rfl)
      go_simp
      refine wpAnyH_ready (rs := [12]) (by kernel_rfl) (by simp) ?_
      refine AllReadyH.cons (o := { dst := some 61, op := .call { callee := .value (.func 14), args := #[.tmp 58, .tmp 60], argTypes := #[23, 3] }, type := 30, pos := "law.go:70", after := #[⟨9, .data⟩, ⟨11, .data⟩], guard := none }) rfl (fun K hK => ?_) AllReadyH.nil
      go_simp
      go_at_call 14
      refine (EV.out _ hS.b).mono ?_
      rintro e w' ⟨rfl, b⟩
      have hS2 := hS.next b
      replace HF := Lib.hid (HF.out.next b)
      clear b hS
      try go_simp
      refine hK.out _ _ hS2 (fun hS => ?_)
      clear hK K hS2
      refine wpAnyH_ready (rs := [13]) (by kernel_rfl) (by simp) ?_
      refine AllReadyH.cons (o := { dst := some 62, op := .buildSlice 44 1 #[(0, .tmp 61)], type := 44, pos := "law.go:70", after := #[⟨12, .data⟩], guard := none }) rfl (fun K hK => ?_) AllReadyH.nil
      go_simp
      have hN := heap_alloc_new w' (.cells #[.int .i64 p0, .int .i64 p1, .int .i64 p2, .int .i64 p3] 30)
      have bA := (Below.refl w'.heap.size w').alloc (Nat.le_refl _) (.cells #[.int .i64 p0, .int .i64 p1, .int .i64 p2, .int .i64 p3] 30)
      have hS2 := hS.next bA
      replace HF := Lib.hid (HF.out.next bA)
      clear hS
      refine hK.out _ _ hS2 (fun hS => ?_)
      clear hK K hS2 bA
      obtain ⟨g8, hg8⟩ : ∃ g, w'.heap.size = g := ⟨_, rfl⟩
      rw [hg8] at hN ⊢
      obtain ⟨w8, hw8⟩ : ∃ V, World.alloc w' (.cells #[.int .i64 p0, .int .i64 p1, .int .i64 p2, .int .i64 p3] 30) = V := ⟨_, rfl⟩
      rw [hw8] at hN hS HF ⊢
      clear hw8 hg8
      have ho := HF.out.oa
      rw [all9_len] at ho
      refine wpAnyH_ready (rs := [14]) (by kernel_rfl) (by simp) ?_
      refine AllReadyH.cons (o := { dst := some 63, op := .call { callee := .builtin .append, args := #[.tmp 49, .tmp 62], argTypes := #[44, 44] }, type := 44, pos := "law.go:70", after := #[⟨0, .data⟩, ⟨13, .data⟩, ⟨12, .chain⟩], guard := none }) rfl (fun K hK => ?_) AllReadyH.nil
      refine step_append_lies _ rfl _ _ 44 rfl W0.heap.size 30 i0 (.agg #[.int .i64 0, .int .i64 0, .int .i64 0, .int .i64 0]) 4 32 Tryz.underlying44 hi hz0 hz1 hz2 rfl (by decide) _ k (fl4 (all9 g k)) rfl ho ⟨g8, 0, none⟩ 1 1 [.int .i64 p0, .int .i64 p1, .int .i64 p2, .int .i64 p3] rfl rfl (World.news_of_block hN) (by simp [Value.oneCell']) Nat.zero_lt_one hA.out.1 hA.out.2 HF.out.bl.size _ rfl ?_
      intro g9 c9 w9 hown9 hgrow9 hat9 hlt9
      have K8 := HF.out.app (p0, p1, p2, p3) (g := g9) (c := c9) (by rw [all9_len]; exact hown9) hgrow9
      rw [all9_len] at K8
      have hS2 := hS.grown hgrow9 W0.heap.size HBS.out.1 (fun r hr => (HF.out.oa.lt r hr).1) HBS.out.2
      clear hS ho hown9 hgrow9 hat9 hlt9 hN
      refine hK.out _ _ hS2 (fun hS => ?_)
      clear hK K hS2
      refine wpAnyH_take (i := 15) (v := ?vfb15) rfl (by kernel_rfl) (by kernel_rfl) (by kernel_rfl) (fun _ _ _ h => h) (Or.inl ⟨by rfl, ?yfb15⟩) hS ?rfb15
      case yfb15 => (intro w hS; go_simp; try with_reducible rfl)
      refine wpAnyH_done (by kernel_rfl) ?_ _
      clear hS HF
      have K9 := Lib.hid (show FQ W0 (.slice (some ⟨g9, 0, none⟩) (k + 1) c9) (all9 g (k+1)) w9 from by rw [HD.out]; exact K8)
      clear K8
      try go_wp2
      exact ⟨⟨k + 1, by omega, by go_num, K9⟩, by simp; omega⟩
    · obtain rfl : k = NF := by omega
      clear hlt hk
      have HLK := Lib.hid (HLK0.out.next HF.out.bl)
      have HC := Lib.hid (HC0.out.next HF.out.bl)
      clear HC0 HLK0 HSH
      have hocs : oc + 0 = oc := rfl
      go_upto_region 10 with fail
      replace HF := Lib.hid (HF.out.next (Below.refl _ _).drew)
      replace HLK := Lib.hid (HLK.out.next (Below.refl _ _).drew)
      refine wp_region_held_drew (S := CK w [(⟨gk, 0, none⟩, .slice pk NC ck), (⟨gk, 1, none⟩, .slice pq NL cq), (⟨w.heap.size + 1, 0, none⟩, .int .i64 q0), (⟨w.heap.size + 1, 1, none⟩, .int .i64 q1), (⟨bc, oc, none⟩, .int .i64 hd)] []) (by kernel_rfl) HC.out.drew (fun hS => ?_)
      generalize World.drew wr = wd at *
      clear HC
      refine wpAnyH_take (i := 0) (v := ?vfc0) rfl (by kernel_rfl) (by kernel_rfl) (by kernel_rfl) (fun _ _ _ h => h) (Or.inl ⟨by rfl, ?yfc0⟩) hS ?rfc0
      case yfc0 => (intro w hS; go_simp; try with_reducible rfl)
      refine wpAnyH_take (i := 3) (v := ?vfc3) rfl (by kernel_rfl) (by kernel_rfl) (by kernel_rfl) (fun _ _ _ h => h) (Or.inl ⟨by rfl, ?yfc3⟩) hS ?rfc3
      case yfc3 => (intro w hS; go_simp; try with_reducible rfl)
      go_simp
      refine wpAnyH_take (i := 1) (v := .int .i64 q0) rfl (by kernel_rfl) (by kernel_rfl) (by kernel_rfl) (fun _ _ _ h => h) (Or.inl ⟨by rfl, ?yfc1⟩) hS ?rfc1
      case yfc1 => (intro w' hS; have cf := hS.get ⟨w.heap.size + 1, 0, none⟩ (.int .i64 q0) (by simp); go_simp; try with_reducible rfl)
      refine wpAnyH_take (i := 4) (v := ?vfc4) rfl (by kernel_rfl) (by kernel_rfl) (by kernel_rfl) (fun _ _ _ h => h) (Or.inl ⟨by rfl, ?yfc4⟩) hS ?rfc4
      case yfc4 => (intro w hS; go_simp; try with_reducible rfl)
      go_simp
      refine wpAnyH_take (i := 5) (v := .int .i64 hd) rfl (by kernel_rfl) (by kernel_rfl) (by kernel_rfl) (fun _ _ _ h => h) (Or.inl ⟨by rfl, ?yfc5⟩) hS ?rfc5
      case yfc5 => (intro w' hS; have cf := hS.get ⟨bc, oc, none⟩ (.int .i64 hd) (by simp); go_simp; try with_reducible rfl)
      go_simp
      refine wpAnyH_ready (rs := [2]) (by kernel_rfl) (by simp) ?_
      refine AllReadyH.cons (o := { dst := some 66, op := .call { callee := .value (.func 12), args := #[.tmp 65], argTypes := #[3] }, type := 3, pos := "law.go:72", after := #[⟨1, .data⟩], guard := none }) rfl (fun K hK => ?_) AllReadyH.nil
      go_simp
      go_at_call 12
      refine (BA.out _ hS.b).mono ?_
      rintro e w' ⟨rfl, b⟩
      have hS2 := hS.next b
      replace HLK := Lib.hid (HLK.out.next b)
      replace HF := Lib.hid (HF.out.next b)
      clear b hS
      try go_simp
      refine hK.out _ _ hS2 (fun hS => ?_)
      clear hK K hS2
      refine wpAnyH_ready (rs := [6]) (by kernel_rfl) (by simp) ?_
      refine AllReadyH.cons (o := { dst := some 70, op := .call { callee := .value (.func 21), args := #[.tmp 66, .tmp 69, .const (.int .i64 2305843009213691579)], argTypes := #[3, 3, 3] }, type := 3, pos := "law.go:72", after := #[⟨2, .data⟩, ⟨5, .data⟩, ⟨2, .chain⟩], guard := none }) rfl (fun K hK => ?_) AllReadyH.nil
      go_simp
      go_at_call 21
      refine (PV.out _).mono ?_
      rintro e w' ⟨rfl, b⟩
      have hS2 := hS.next b
      replace HLK := Lib.hid (HLK.out.next b)
      replace HF := Lib.hid (HF.out.next b)
      clear b hS
      try go_simp
      refine hK.out _ _ hS2 (fun hS => ?_)
      clear hK K hS2
      refine wpAnyH_take (i := 7) (v := ?vfc7) rfl (by kernel_rfl) (by kernel_rfl) (by kernel_rfl) (fun _ _ _ h => h) (Or.inl ⟨by rfl, ?yfc7⟩) hS ?rfc7
      case yfc7 => (intro w hS; go_simp; try with_reducible rfl)
      refine wpAnyH_done (by kernel_rfl) ?_ _
      have HC := Lib.hid hS
      clear hS
      generalize w' = W1 at *
      obtain ⟨ga, ca, hga⟩ := own_some (by have h5 := HF.out.oa; rw [all9_len] at h5; exact h5) hNF0
      subst hga
      have HGI : Hid (∀ t ∈ all9 g k, pi64 t) := Lib.hid fun t ht => by
        obtain ⟨i, hi, rfl⟩ := List.mem_map.1 ht
        exact HG.out.2.1 i (List.mem_range.1 hi)
      have c0 := HC.out.get ⟨gk, 0, none⟩ (.slice pk NC ck) (by simp)
      have c1 := HC.out.get ⟨gk, 1, none⟩ (.slice pq NL cq) (by simp)
      have cq0 := HC.out.get ⟨w.heap.size + 1, 0, none⟩ (.int .i64 q0) (by simp)
      have HBS : Hid (w.heap.size ≤ W1.heap.size ∧ ∀ p ∈ ([(⟨gk, 0, none⟩, .slice pk NC ck), (⟨gk, 1, none⟩, .slice pq NL cq), (⟨w.heap.size + 1, 0, none⟩, .int .i64 q0), (⟨w.heap.size + 1, 1, none⟩, .int .i64 q1), (⟨bc, oc, none⟩, .int .i64 hd)] : List (Addr × Value)), p.1.block < W1.heap.size) := Lib.hid ⟨HC.out.b.size, fun p hp => World.block_lt_of_cell? _ _ (HC.out.c p hp)⟩
      have HLK1 := HLK
      go_wp2_with fail
      refine (PA.out _ pk pq _ ck cq cc HC.out.b HLK.out.y HLK.out.s).mono ?_
      rintro e W2 ⟨⟨mv, A, rfl, hpis, hA30, hmo⟩, b2⟩
      replace HC := Lib.hid (HC.out.next b2)
      replace HLK := Lib.hid (HLK.out.next b2)
      replace HF := Lib.hid (HF.out.next b2)
      have HM : Hid (FQ W1 mv A W2) := Lib.hid ⟨b2, hmo⟩
      have HPA := own_PaL hmo hpis (by omega)
      clear b2 hmo c0 c1 cq0
      obtain ⟨⟨p5, c5, hmv, hmc⟩, _, _⟩ := HPA
      subst hmv
      obtain ⟨NA, hNA⟩ : ∃ n, A.length = n := ⟨_, rfl⟩
      rw [hNA] at hA30 HM ⊢
      have HNA := Lib.hid hNA
      have HMC := Lib.hid hmc
      have HPI : Hid (pis A) := Lib.hid hpis
      clear hNA hmc hpis
      go_wp2_with fail
      go_loopw [16] (fun i wr => ∃ k : Nat, k ≤ NA ∧ i = .int .i64 (k : Int) ∧ Hid (Below W2.heap.size W2 wr ∧ ∀ s ∈ A.take k, vb s = true → s.2.1 = pf s.1)) (fun i _ => NA - (match i with | .int _ i => i.toNat | _ => 0))
      case atStart => exact ⟨0, Nat.zero_le _, rfl, Lib.hid ⟨Below.refl _ _, fun s hs => by cases hs⟩⟩
      case round =>
        obtain ⟨k5, hk5, rfl, HB⟩ := hrel
        replace HC := Lib.hid (HC.out.next HB.out.1)
        replace HLK := Lib.hid (HLK.out.next HB.out.1)
        by_cases hlt5 : k5 < NA
        · obtain ⟨s, hs⟩ : ∃ s, A[k5]? = some s := ⟨A[k5]'(by rw [HNA.out]; exact hlt5), List.getElem?_eq_getElem _⟩
          obtain ⟨b, o, hp, hc0, hc1, hc2, hc3⟩ := HMC.out k5 s hs
          subst hp
          have hsi := HPI.out s (List.mem_of_getElem? hs)
          have HT := Lib.hid (show A.take (k5+1) = A.take k5 ++ [s] by rw [List.take_add_one, hs]; rfl)
          have rd : ∀ i u, W2.cell? ⟨b, i, none⟩ = some u → wr.cell? ⟨b, i, none⟩ = some u := fun i u h => (HB.out.1.cell (p := ⟨b, i, none⟩) (World.block_lt_of_cell? _ _ h)).trans h
          obtain ⟨s0, s1, s2, s3⟩ := s
          obtain ⟨hi0, _, _, _⟩ := id hsi
          have HC15 : Hid (CK w [(⟨b, o + k5 * 4, none⟩, .int .i64 s0), (⟨b, o + k5 * 4 + 1, none⟩, .int .i64 s1), (⟨b, o + k5 * 4 + 2, none⟩, .int .i64 s2), (⟨b, o + k5 * 4 + 3, none⟩, .int .i64 s3), (⟨gk, 0, none⟩, .slice pk NC ck), (⟨gk, 1, none⟩, .slice pq NL cq), (⟨w.heap.size + 1, 0, none⟩, .int .i64 q0), (⟨w.heap.size + 1, 1, none⟩, .int .i64 q1), (⟨bc, oc, none⟩, .int .i64 hd)] [] wr) := Lib.hid ((((HC.out.more ⟨b, o + k5 * 4 + 3, none⟩ _ (rd _ _ hc3)).more ⟨b, o + k5 * 4 + 2, none⟩ _ (rd _ _ hc2)).more ⟨b, o + k5 * 4 + 1, none⟩ _ (rd _ _ hc1)).more ⟨b, o + k5 * 4, none⟩ _ (rd _ _ hc0))
          have RV1 := Lib.hid (RV.out (s0, s1, s2, s3) hsi)
          have VA1 := Lib.hid (VA.out s0 hi0)
          have PP1 := Lib.hid (PP.out s0)
          obtain ⟨yx, hyx⟩ : ∃ y, yv s0 = y := ⟨_, rfl⟩
          obtain ⟨px, hpx⟩ : ∃ y, pf s0 = y := ⟨_, rfl⟩
          rw [hyx] at VA1 PP1
          rw [hpx] at PP1
          have HPX := Lib.hid hpx
          have HV := Lib.hid HB.out.1
          have HBA := Lib.hid HB.out.2
          clear hs hc0 hc1 hc2 hc3 hsi hi0 rd hyx hpx HB HC
          go_upto_region 15 with fail
          replace HLK := Lib.hid (HLK.out.next (Below.refl _ _).drew)
          replace HV := Lib.hid HV.out.drew
          refine wp_region_held_drew (S := CK w [(⟨b, o + k5 * 4, none⟩, .int .i64 s0), (⟨b, o + k5 * 4 + 1, none⟩, .int .i64 s1), (⟨b, o + k5 * 4 + 2, none⟩, .int .i64 s2), (⟨b, o + k5 * 4 + 3, none⟩, .int .i64 s3), (⟨gk, 0, none⟩, .slice pk NC ck), (⟨gk, 1, none⟩, .slice pq NL cq), (⟨w.heap.size + 1, 0, none⟩, .int .i64 q0), (⟨w.heap.size + 1, 1, none⟩, .int .i64 q1), (⟨bc, oc, none⟩, .int .i64 hd)] []) (by kernel_rfl) HC15.out.drew (fun hS => ?_)
          generalize World.drew wr = wd at *
          clear HC15
          cases hvb : vb (s0, s1, s2, s3) with
          | false =>
            rw [hvb] at RV1
            have HN := Lib.hid (show ∀ s ∈ A.take (k5+1), vb s = true → s.2.1 = pf s.1 from fun s hs hv => by
              rw [HT.out] at hs
              rcases List.mem_append.1 hs with hs | hs
              · exact HBA.out s hs hv
              · rw [List.mem_singleton.1 hs, hvb] at hv; cases hv)
            clear hvb HBA HT
            refine wpAnyH_take (i := 0) (v := .agg #[.slice pk NC ck, .slice pq NL cq]) rfl (by kernel_rfl) (by kernel_rfl) (by kernel_rfl) (fun _ _ _ h => h) (Or.inl ⟨by rfl, ?yfda0⟩) hS ?rfda0
            case yfda0 => (intro w' hS; have cf := hS.get ⟨gk, 0, none⟩ (.slice pk NC ck) (by simp); have cg1 := hS.get ⟨gk, 1, none⟩ (.slice pq NL cq) (by simp); go_simp; try with_reducible rfl)
            refine wpAnyH_take (i := 1) (v := ?vfda1) rfl (by kernel_rfl) (by kernel_rfl) (by kernel_rfl) (fun _ _ _ h => h) (Or.inl ⟨by rfl, ?yfda1⟩) hS ?rfda1
            case yfda1 => (intro w hS; go_simp; try with_reducible rfl)
            refine wpAnyH_take (i := 3) (v := ?vfda3) rfl (by kernel_rfl) (by kernel_rfl) (by kernel_rfl) (fun _ _ _ h => h) (Or.inl ⟨by rfl, ?yfda3⟩) hS ?rfda3
            case yfda3 => (intro w hS; go_simp; try with_reducible rfl)
            refine wpAnyH_take (i := 4) (v := ?vfda4) rfl (by kernel_rfl) (by kernel_rfl) (by kernel_rfl) (fun _ _ _ h => h) (Or.inl ⟨by rfl, ?yfda4⟩) hS ?rfda4
            case yfda4 => (intro w hS; go_simp; try with_reducible rfl)
            go_simp
            refine wpAnyH_take (i := 2) (v := .int .i64 q0) rfl (by kernel_rfl) (by kernel_rfl) (by kernel_rfl) (fun _ _ _ h => h) (Or.inl ⟨by rfl, ?yfda2⟩) hS ?rfda2
            case yfda2 => (intro w' hS; have cf := hS.get ⟨w.heap.size + 1, 0, none⟩ (.int .i64 q0) (by simp); go_simp; try with_reducible rfl)
            refine wpAnyH_take (i := 5) (v := ?vfda5) rfl (by kernel_rfl) (by kernel_rfl) (by kernel_rfl) (fun _ _ _ h => h) (Or.inl ⟨by rfl, ?yfda5⟩) hS ?rfda5
            case yfda5 => (intro w hS; go_simp; try with_reducible rfl)
            go_simp
            refine wpAnyH_take (i := 6) (v := .agg #[.int .i64 s0, .int .i64 s1, .int .i64 s2, .int .i64 s3]) rfl (by kernel_rfl) (by kernel_rfl) (by kernel_rfl) (fun _ _ _ h => h) (Or.inl ⟨by rfl, ?yfda6⟩) hS ?rfda6
            case yfda6 => (intro w' hS; have cf := hS.get ⟨b, o + k5 * 4, none⟩ (.int .i64 s0) (by simp); have cg1 := hS.get ⟨b, o + k5 * 4 + 1, none⟩ (.int .i64 s1) (by simp); have cg2 := hS.get ⟨b, o + k5 * 4 + 2, none⟩ (.int .i64 s2) (by simp); have cg3 := hS.get ⟨b, o + k5 * 4 + 3, none⟩ (.int .i64 s3) (by simp); go_simp; try with_reducible rfl)
            go_simp
            refine wpAnyH_ready (rs := [7]) (by kernel_rfl) (by simp) ?_
            refine AllReadyH.cons (o := { dst := some 90, op := .call { callee := .value (.func 19), args := #[.tmp 83, .tmp 85, .tmp 89], argTypes := #[41, 3, 30] }, type := 4, pos := "law.go:75", after := #[⟨0, .data⟩, ⟨2, .data⟩, ⟨6, .data⟩], guard := none }) rfl (fun K hK => ?_) AllReadyH.nil
            go_simp
            go_at_call 19
            refine (RV1.out _ pk pq ck cq hS.b HLK.out.y).mono ?_
            rintro e w' ⟨rfl, b⟩
            have hS2 := hS.next b
            replace HLK := Lib.hid (HLK.out.next b)
            replace HV := Lib.hid (HV.out.trans (b.mono HV.out.size))
            clear b hS
            try go_simp
            refine hK.out _ _ hS2 (fun hS => ?_)
            clear hK K hS2
            refine wpAnyH_take (i := 8) (v := ?vfda8) rfl (by kernel_rfl) (by kernel_rfl) (by kernel_rfl) (fun _ _ _ h => h) (Or.inl ⟨by rfl, ?yfda8⟩) hS ?rfda8
            case yfda8 => (intro w hS; go_simp; try with_reducible rfl)
            go_simp
            refine wpAnyH_take (i := 9) (v := undef) rfl (by kernel_rfl) (by kernel_rfl) (by kernel_rfl) (fun _ _ _ h => h) (Or.inr ⟨by rfl, rfl⟩) hS ?rfda9
            refine wpAnyH_take (i := 10) (v := undef) rfl (by kernel_rfl) (by kernel_rfl) (by kernel_rfl) (fun _ _ _ h => h) (Or.inr ⟨by rfl, rfl⟩) hS ?rfda10
            refine wpAnyH_take (i := 14) (v := undef) rfl (by kernel_rfl) (by kernel_rfl) (by kernel_rfl) (fun _ _ _ h => h) (Or.inr ⟨by rfl, rfl⟩) hS ?rfda14
            refine wpAnyH_take (i := 17) (v := undef) rfl (by kernel_rfl) (by kernel_rfl) (by kernel_rfl) (fun _ _ _ h => h) (Or.inr ⟨by rfl, rfl⟩) hS ?rfda17
            refine wpAnyH_take (i := 18) (v := undef) rfl (by kernel_rfl) (by kernel_rfl) (by kernel_rfl) (fun _ _ _ h => h) (Or.inr ⟨by rfl, rfl⟩) hS ?rfda18
            refine wpAnyH_take (i := 19) (v := undef) rfl (by kernel_rfl) (by kernel_rfl) (by kernel_rfl) (fun _ _ _ h => h) (Or.inr ⟨by rfl, rfl⟩) hS ?rfda19
            go_simp
            refine wpAnyH_take (i := 11) (v := undef) rfl (by kernel_rfl) (by kernel_rfl) (by kernel_rfl) (fun _ _ _ h => h) (Or.inr ⟨by rfl, rfl⟩) hS ?rfda11
            refine wpAnyH_take (i := 15) (v := undef) rfl (by kernel_rfl) (by kernel_rfl) (by kernel_rfl) (fun _ _ _ h => h) (Or.inr ⟨by rfl, rfl⟩) hS ?rfda15
            refine wpAnyH_take (i := 20) (v := undef) rfl (by kernel_rfl) (by kernel_rfl) (by kernel_rfl) (fun _ _ _ h => h) (Or.inr ⟨by rfl, rfl⟩) hS ?rfda20
            go_simp
            refine wpAnyH_take (i := 12) (v := undef) rfl (by kernel_rfl) (by kernel_rfl) (by kernel_rfl) (fun _ _ _ h => h) (Or.inr ⟨by rfl, rfl⟩) hS ?rfda12
            refine wpAnyH_take (i := 16) (v := undef) rfl (by kernel_rfl) (by kernel_rfl) (by kernel_rfl) (fun _ _ _ h => h) (Or.inr ⟨by rfl, rfl⟩) hS ?rfda16
            refine wpAnyH_take (i := 21) (v := undef) rfl (by kernel_rfl) (by kernel_rfl) (by kernel_rfl) (fun _ _ _ h => h) (Or.inr ⟨by rfl, rfl⟩) hS ?rfda21
            go_simp
            refine wpAnyH_take (i := 13) (v := undef) rfl (by kernel_rfl) (by kernel_rfl) (by kernel_rfl) (fun _ _ _ h => h) (Or.inr ⟨by rfl, rfl⟩) hS ?rfda13
            refine wpAnyH_take (i := 22) (v := undef) rfl (by kernel_rfl) (by kernel_rfl) (by kernel_rfl) (fun _ _ _ h => h) (Or.inr ⟨by rfl, rfl⟩) hS ?rfda22
            go_simp
            refine wpAnyH_take (i := 23) (v := undef) rfl (by kernel_rfl) (by kernel_rfl) (by kernel_rfl) (fun _ _ _ h => h) (Or.inr ⟨by rfl, rfl⟩) hS ?rfda23
            go_simp
            refine wpAnyH_take (i := 24) (v := undef) rfl (by kernel_rfl) (by kernel_rfl) (by kernel_rfl) (fun _ _ _ h => h) (Or.inr ⟨by rfl, rfl⟩) hS ?rfda24
            go_simp
            refine wpAnyH_take (i := 25) (v := undef) rfl (by kernel_rfl) (by kernel_rfl) (by kernel_rfl) (fun _ _ _ h => h) (Or.inr ⟨by rfl, rfl⟩) hS ?rfda25
            go_simp
            refine wpAnyH_take (i := 26) (v := ?vfda26) rfl (by kernel_rfl) (by kernel_rfl) (by kernel_rfl) (fun _ _ _ h => h) (Or.inl ⟨by rfl, ?yfda26⟩) hS ?rfda26
            case yfda26 => (intro w hS; go_simp; try with_reducible rfl)
            refine wpAnyH_done (by kernel_rfl) ?_ _
            have HB2 := Lib.hid (And.intro HV.out HN.out)
            clear hS HV HN HLK
            try go_wp2
            exact ⟨⟨k5 + 1, by omega, by go_num, HB2⟩, by simp; omega⟩
          | true =>
            rw [hvb] at RV1
            by_cases heq : s1 = px
            · have HN := Lib.hid (show ∀ s ∈ A.take (k5+1), vb s = true → s.2.1 = pf s.1 from fun s hs hv => by
                rw [HT.out] at hs
                rcases List.mem_append.1 hs with hs | hs
                · exact HBA.out s hs hv
                · rw [List.mem_singleton.1 hs]; exact heq.trans HPX.out.symm)
              clear hvb HBA HT HPX
              subst heq
              refine wpAnyH_take (i := 0) (v := .agg #[.slice pk NC ck, .slice pq NL cq]) rfl (by kernel_rfl) (by kernel_rfl) (by kernel_rfl) (fun _ _ _ h => h) (Or.inl ⟨by rfl, ?yfdc0⟩) hS ?rfdc0
              case yfdc0 => (intro w' hS; have cf := hS.get ⟨gk, 0, none⟩ (.slice pk NC ck) (by simp); have cg1 := hS.get ⟨gk, 1, none⟩ (.slice pq NL cq) (by simp); go_simp; try with_reducible rfl)
              refine wpAnyH_take (i := 1) (v := ?vfdc1) rfl (by kernel_rfl) (by kernel_rfl) (by kernel_rfl) (fun _ _ _ h => h) (Or.inl ⟨by rfl, ?yfdc1⟩) hS ?rfdc1
              case yfdc1 => (intro w hS; go_simp; try with_reducible rfl)
              refine wpAnyH_take (i := 3) (v := ?vfdc3) rfl (by kernel_rfl) (by kernel_rfl) (by kernel_rfl) (fun _ _ _ h => h) (Or.inl ⟨by rfl, ?yfdc3⟩) hS ?rfdc3
              case yfdc3 => (intro w hS; go_simp; try with_reducible rfl)
              refine wpAnyH_take (i := 4) (v := ?vfdc4) rfl (by kernel_rfl) (by kernel_rfl) (by kernel_rfl) (fun _ _ _ h => h) (Or.inl ⟨by rfl, ?yfdc4⟩) hS ?rfdc4
              case yfdc4 => (intro w hS; go_simp; try with_reducible rfl)
              go_simp
              refine wpAnyH_take (i := 2) (v := .int .i64 q0) rfl (by kernel_rfl) (by kernel_rfl) (by kernel_rfl) (fun _ _ _ h => h) (Or.inl ⟨by rfl, ?yfdc2⟩) hS ?rfdc2
              case yfdc2 => (intro w' hS; have cf := hS.get ⟨w.heap.size + 1, 0, none⟩ (.int .i64 q0) (by simp); go_simp; try with_reducible rfl)
              refine wpAnyH_take (i := 5) (v := ?vfdc5) rfl (by kernel_rfl) (by kernel_rfl) (by kernel_rfl) (fun _ _ _ h => h) (Or.inl ⟨by rfl, ?yfdc5⟩) hS ?rfdc5
              case yfdc5 => (intro w hS; go_simp; try with_reducible rfl)
              go_simp
              refine wpAnyH_take (i := 6) (v := .agg #[.int .i64 s0, .int .i64 s1, .int .i64 s2, .int .i64 s3]) rfl (by kernel_rfl) (by kernel_rfl) (by kernel_rfl) (fun _ _ _ h => h) (Or.inl ⟨by rfl, ?yfdc6⟩) hS ?rfdc6
              case yfdc6 => (intro w' hS; have cf := hS.get ⟨b, o + k5 * 4, none⟩ (.int .i64 s0) (by simp); have cg1 := hS.get ⟨b, o + k5 * 4 + 1, none⟩ (.int .i64 s1) (by simp); have cg2 := hS.get ⟨b, o + k5 * 4 + 2, none⟩ (.int .i64 s2) (by simp); have cg3 := hS.get ⟨b, o + k5 * 4 + 3, none⟩ (.int .i64 s3) (by simp); go_simp; try with_reducible rfl)
              go_simp
              refine wpAnyH_ready (rs := [7]) (by kernel_rfl) (by simp) ?_
              refine AllReadyH.cons (o := { dst := some 90, op := .call { callee := .value (.func 19), args := #[.tmp 83, .tmp 85, .tmp 89], argTypes := #[41, 3, 30] }, type := 4, pos := "law.go:75", after := #[⟨0, .data⟩, ⟨2, .data⟩, ⟨6, .data⟩], guard := none }) rfl (fun K hK => ?_) AllReadyH.nil
              go_simp
              go_at_call 19
              refine (RV1.out _ pk pq ck cq hS.b HLK.out.y).mono ?_
              rintro e w' ⟨rfl, b⟩
              have hS2 := hS.next b
              replace HLK := Lib.hid (HLK.out.next b)
              replace HV := Lib.hid (HV.out.trans (b.mono HV.out.size))
              clear b hS
              try go_simp
              refine hK.out _ _ hS2 (fun hS => ?_)
              clear hK K hS2
              refine wpAnyH_take (i := 8) (v := ?vfdc8) rfl (by kernel_rfl) (by kernel_rfl) (by kernel_rfl) (fun _ _ _ h => h) (Or.inl ⟨by rfl, ?yfdc8⟩) hS ?rfdc8
              case yfdc8 => (intro w hS; go_simp; try with_reducible rfl)
              go_simp
              refine wpAnyH_take (i := 9) (v := ?vfdc9) rfl (by kernel_rfl) (by kernel_rfl) (by kernel_rfl) (fun _ _ _ h => h) (Or.inl ⟨by rfl, ?yfdc9⟩) hS ?rfdc9
              case yfdc9 => (intro w hS; go_simp; try with_reducible rfl)
              refine wpAnyH_take (i := 10) (v := ?vfdc10) rfl (by kernel_rfl) (by kernel_rfl) (by kernel_rfl) (fun _ _ _ h => h) (Or.inl ⟨by rfl, ?yfdc10⟩) hS ?rfdc10
              case yfdc10 => (intro w hS; go_simp; try with_reducible rfl)
              refine wpAnyH_take (i := 14) (v := ?vfdc14) rfl (by kernel_rfl) (by kernel_rfl) (by kernel_rfl) (fun _ _ _ h => h) (Or.inl ⟨by rfl, ?yfdc14⟩) hS ?rfdc14
              case yfdc14 => (intro w hS; go_simp; try with_reducible rfl)
              refine wpAnyH_take (i := 17) (v := ?vfdc17) rfl (by kernel_rfl) (by kernel_rfl) (by kernel_rfl) (fun _ _ _ h => h) (Or.inl ⟨by rfl, ?yfdc17⟩) hS ?rfdc17
              case yfdc17 => (intro w hS; go_simp; try with_reducible rfl)
              refine wpAnyH_take (i := 18) (v := ?vfdc18) rfl (by kernel_rfl) (by kernel_rfl) (by kernel_rfl) (fun _ _ _ h => h) (Or.inl ⟨by rfl, ?yfdc18⟩) hS ?rfdc18
              case yfdc18 => (intro w hS; go_simp; try with_reducible rfl)
              refine wpAnyH_take (i := 19) (v := ?vfdc19) rfl (by kernel_rfl) (by kernel_rfl) (by kernel_rfl) (fun _ _ _ h => h) (Or.inl ⟨by rfl, ?yfdc19⟩) hS ?rfdc19
              case yfdc19 => (intro w hS; go_simp; try with_reducible rfl)
              go_simp
              refine wpAnyH_take (i := 11) (v := ?vfdc11) rfl (by kernel_rfl) (by kernel_rfl) (by kernel_rfl) (fun _ _ _ h => h) (Or.inl ⟨by rfl, ?yfdc11⟩) hS ?rfdc11
              case yfdc11 => (intro w hS; go_simp; try with_reducible rfl)
              refine wpAnyH_take (i := 15) (v := .int .i64 q0) rfl (by kernel_rfl) (by kernel_rfl) (by kernel_rfl) (fun _ _ _ h => h) (Or.inl ⟨by rfl, ?yfdc15⟩) hS ?rfdc15
              case yfdc15 => (intro w' hS; have cf := hS.get ⟨w.heap.size + 1, 0, none⟩ (.int .i64 q0) (by simp); go_simp; try with_reducible rfl)
              refine wpAnyH_take (i := 20) (v := ?vfdc20) rfl (by kernel_rfl) (by kernel_rfl) (by kernel_rfl) (fun _ _ _ h => h) (Or.inl ⟨by rfl, ?yfdc20⟩) hS ?rfdc20
              case yfdc20 => (intro w hS; go_simp; try with_reducible rfl)
              go_simp
              refine wpAnyH_take (i := 12) (v := ?vfdc12) rfl (by kernel_rfl) (by kernel_rfl) (by kernel_rfl) (fun _ _ _ h => h) (Or.inl ⟨by rfl, ?yfdc12⟩) hS ?rfdc12
              case yfdc12 => (intro w hS; go_simp; try with_reducible rfl)
              refine wpAnyH_take (i := 21) (v := ?vfdc21) rfl (by kernel_rfl) (by kernel_rfl) (by kernel_rfl) (fun _ _ _ h => h) (Or.inl ⟨by rfl, ?yfdc21⟩) hS ?rfdc21
              case yfdc21 => (intro w hS; go_simp; try with_reducible rfl)
              go_simp
              refine wpAnyH_take (i := 13) (v := .int .i64 s1) rfl (by kernel_rfl) (by kernel_rfl) (by kernel_rfl) (fun _ _ _ h => h) (Or.inl ⟨by rfl, ?yfdc13⟩) hS ?rfdc13
              case yfdc13 => (intro w' hS; have cf := hS.get ⟨b, o + k5 * 4 + 1, none⟩ (.int .i64 s1) (by simp); go_simp; try with_reducible rfl)
              refine wpAnyH_take (i := 22) (v := .int .i64 s0) rfl (by kernel_rfl) (by kernel_rfl) (by kernel_rfl) (fun _ _ _ h => h) (Or.inl ⟨by rfl, ?yfdc22⟩) hS ?rfdc22
              case yfdc22 => (intro w' hS; have cf := hS.get ⟨b, o + k5 * 4, none⟩ (.int .i64 s0) (by simp); go_simp; try with_reducible rfl)
              go_simp
              refine wpAnyH_ready (rs := [16]) (by kernel_rfl) (by simp) ?_
              refine AllReadyH.cons (o := { dst := some 99, op := .call { callee := .value (.func 12), args := #[.tmp 98], argTypes := #[3] }, type := 3, pos := "law.go:75", after := #[⟨15, .data⟩, ⟨8, .chain⟩, ⟨8, .guard⟩], guard := some (8, true) }) rfl (fun K hK => ?_) AllReadyH.nil
              go_simp
              go_at_call 12
              refine (BA.out _ hS.b).mono ?_
              rintro e w' ⟨rfl, b⟩
              have hS2 := hS.next b
              replace HLK := Lib.hid (HLK.out.next b)
              replace HV := Lib.hid (HV.out.trans (b.mono HV.out.size))
              clear b hS
              try go_simp
              refine hK.out _ _ hS2 (fun hS => ?_)
              clear hK K hS2
              refine wpAnyH_ready (rs := [23]) (by kernel_rfl) (by simp) ?_
              refine AllReadyH.cons (o := { dst := some 106, op := .call { callee := .value (.func 22), args := #[.tmp 100, .tmp 105], argTypes := #[34, 3] }, type := 3, pos := "law.go:75", after := #[⟨17, .data⟩, ⟨22, .data⟩, ⟨16, .chain⟩, ⟨8, .guard⟩], guard := some (8, true) }) rfl (fun K hK => ?_) AllReadyH.nil
              go_simp
              go_at_call 22
              refine (VA1.out _ _ _ HLK.out.s).mono ?_
              rintro e w' ⟨rfl, b⟩
              have hS2 := hS.next b
              replace HLK := Lib.hid (HLK.out.next b)
              replace HV := Lib.hid (HV.out.trans (b.mono HV.out.size))
              clear b hS
              try go_simp
              refine hK.out _ _ hS2 (fun hS => ?_)
              clear hK K hS2
              refine wpAnyH_ready (rs := [24]) (by kernel_rfl) (by simp) ?_
              refine AllReadyH.cons (o := { dst := some 107, op := .call { callee := .value (.func 21), args := #[.tmp 99, .tmp 106, .const (.int .i64 2305843009213691579)], argTypes := #[3, 3, 3] }, type := 3, pos := "law.go:75", after := #[⟨16, .data⟩, ⟨23, .data⟩, ⟨23, .chain⟩, ⟨8, .guard⟩], guard := some (8, true) }) rfl (fun K hK => ?_) AllReadyH.nil
              go_simp
              go_at_call 21
              refine (PP1.out _).mono ?_
              rintro e w' ⟨rfl, b⟩
              have hS2 := hS.next b
              replace HLK := Lib.hid (HLK.out.next b)
              replace HV := Lib.hid (HV.out.trans (b.mono HV.out.size))
              clear b hS
              try go_simp
              refine hK.out _ _ hS2 (fun hS => ?_)
              clear hK K hS2
              refine wpAnyH_take (i := 25) (v := .bool false) rfl (by kernel_rfl) (by kernel_rfl) (by kernel_rfl) (fun _ _ _ h => h) (Or.inl ⟨by rfl, ?yfdc25⟩) hS ?rfdc25
              case yfdc25 => (intro w hS; go_simp; try with_reducible rfl)
              go_simp
              refine wpAnyH_take (i := 26) (v := ?vfdc26) rfl (by kernel_rfl) (by kernel_rfl) (by kernel_rfl) (fun _ _ _ h => h) (Or.inl ⟨by rfl, ?yfdc26⟩) hS ?rfdc26
              case yfdc26 => (intro w hS; go_simp; try with_reducible rfl)
              refine wpAnyH_done (by kernel_rfl) ?_ _
              have HB2 := Lib.hid (And.intro HV.out HN.out)
              clear hS HV HN HLK
              try go_wp2
              exact ⟨⟨k5 + 1, by omega, by go_num, HB2⟩, by simp; omega⟩
            · have hneq : (s1 != px) = true := by simp [heq]
              clear hvb HBA HT HPX
              refine wpAnyH_take (i := 0) (v := .agg #[.slice pk NC ck, .slice pq NL cq]) rfl (by kernel_rfl) (by kernel_rfl) (by kernel_rfl) (fun _ _ _ h => h) (Or.inl ⟨by rfl, ?yfdb0⟩) hS ?rfdb0
              case yfdb0 => (intro w' hS; have cf := hS.get ⟨gk, 0, none⟩ (.slice pk NC ck) (by simp); have cg1 := hS.get ⟨gk, 1, none⟩ (.slice pq NL cq) (by simp); go_simp; try with_reducible rfl)
              refine wpAnyH_take (i := 1) (v := ?vfdb1) rfl (by kernel_rfl) (by kernel_rfl) (by kernel_rfl) (fun _ _ _ h => h) (Or.inl ⟨by rfl, ?yfdb1⟩) hS ?rfdb1
              case yfdb1 => (intro w hS; go_simp; try with_reducible rfl)
              refine wpAnyH_take (i := 3) (v := ?vfdb3) rfl (by kernel_rfl) (by kernel_rfl) (by kernel_rfl) (fun _ _ _ h => h) (Or.inl ⟨by rfl, ?yfdb3⟩) hS ?rfdb3
              case yfdb3 => (intro w hS; go_simp; try with_reducible rfl)
              refine wpAnyH_take (i := 4) (v := ?vfdb4) rfl (by kernel_rfl) (by kernel_rfl) (by kernel_rfl) (fun _ _ _ h => h) (Or.inl ⟨by rfl, ?yfdb4⟩) hS ?rfdb4
              case yfdb4 => (intro w hS; go_simp; try with_reducible rfl)
              go_simp
              refine wpAnyH_take (i := 2) (v := .int .i64 q0) rfl (by kernel_rfl) (by kernel_rfl) (by kernel_rfl) (fun _ _ _ h => h) (Or.inl ⟨by rfl, ?yfdb2⟩) hS ?rfdb2
              case yfdb2 => (intro w' hS; have cf := hS.get ⟨w.heap.size + 1, 0, none⟩ (.int .i64 q0) (by simp); go_simp; try with_reducible rfl)
              refine wpAnyH_take (i := 5) (v := ?vfdb5) rfl (by kernel_rfl) (by kernel_rfl) (by kernel_rfl) (fun _ _ _ h => h) (Or.inl ⟨by rfl, ?yfdb5⟩) hS ?rfdb5
              case yfdb5 => (intro w hS; go_simp; try with_reducible rfl)
              go_simp
              refine wpAnyH_take (i := 6) (v := .agg #[.int .i64 s0, .int .i64 s1, .int .i64 s2, .int .i64 s3]) rfl (by kernel_rfl) (by kernel_rfl) (by kernel_rfl) (fun _ _ _ h => h) (Or.inl ⟨by rfl, ?yfdb6⟩) hS ?rfdb6
              case yfdb6 => (intro w' hS; have cf := hS.get ⟨b, o + k5 * 4, none⟩ (.int .i64 s0) (by simp); have cg1 := hS.get ⟨b, o + k5 * 4 + 1, none⟩ (.int .i64 s1) (by simp); have cg2 := hS.get ⟨b, o + k5 * 4 + 2, none⟩ (.int .i64 s2) (by simp); have cg3 := hS.get ⟨b, o + k5 * 4 + 3, none⟩ (.int .i64 s3) (by simp); go_simp; try with_reducible rfl)
              go_simp
              refine wpAnyH_ready (rs := [7]) (by kernel_rfl) (by simp) ?_
              refine AllReadyH.cons (o := { dst := some 90, op := .call { callee := .value (.func 19), args := #[.tmp 83, .tmp 85, .tmp 89], argTypes := #[41, 3, 30] }, type := 4, pos := "law.go:75", after := #[⟨0, .data⟩, ⟨2, .data⟩, ⟨6, .data⟩], guard := none }) rfl (fun K hK => ?_) AllReadyH.nil
              go_simp
              go_at_call 19
              refine (RV1.out _ pk pq ck cq hS.b HLK.out.y).mono ?_
              rintro e w' ⟨rfl, b⟩
              have hS2 := hS.next b
              replace HLK := Lib.hid (HLK.out.next b)
              replace HV := Lib.hid (HV.out.trans (b.mono HV.out.size))
              clear b hS
              try go_simp
              refine hK.out _ _ hS2 (fun hS => ?_)
              clear hK K hS2
              refine wpAnyH_take (i := 8) (v := ?vfdb8) rfl (by kernel_rfl) (by kernel_rfl) (by kernel_rfl) (fun _ _ _ h => h) (Or.inl ⟨by rfl, ?yfdb8⟩) hS ?rfdb8
              case yfdb8 => (intro w hS; go_simp; try with_reducible rfl)
              go_simp
              refine wpAnyH_take (i := 9) (v := ?vfdb9) rfl (by kernel_rfl) (by kernel_rfl) (by kernel_rfl) (fun _ _ _ h => h) (Or.inl ⟨by rfl, ?yfdb9⟩) hS ?rfdb9
              case yfdb9 => (intro w hS; go_simp; try with_reducible rfl)
              refine wpAnyH_take (i := 10) (v := ?vfdb10) rfl (by kernel_rfl) (by kernel_rfl) (by kernel_rfl) (fun _ _ _ h => h) (Or.inl ⟨by rfl, ?yfdb10⟩) hS ?rfdb10
              case yfdb10 => (intro w hS; go_simp; try with_reducible rfl)
              refine wpAnyH_take (i := 14) (v := ?vfdb14) rfl (by kernel_rfl) (by kernel_rfl) (by kernel_rfl) (fun _ _ _ h => h) (Or.inl ⟨by rfl, ?yfdb14⟩) hS ?rfdb14
              case yfdb14 => (intro w hS; go_simp; try with_reducible rfl)
              refine wpAnyH_take (i := 17) (v := ?vfdb17) rfl (by kernel_rfl) (by kernel_rfl) (by kernel_rfl) (fun _ _ _ h => h) (Or.inl ⟨by rfl, ?yfdb17⟩) hS ?rfdb17
              case yfdb17 => (intro w hS; go_simp; try with_reducible rfl)
              refine wpAnyH_take (i := 18) (v := ?vfdb18) rfl (by kernel_rfl) (by kernel_rfl) (by kernel_rfl) (fun _ _ _ h => h) (Or.inl ⟨by rfl, ?yfdb18⟩) hS ?rfdb18
              case yfdb18 => (intro w hS; go_simp; try with_reducible rfl)
              refine wpAnyH_take (i := 19) (v := ?vfdb19) rfl (by kernel_rfl) (by kernel_rfl) (by kernel_rfl) (fun _ _ _ h => h) (Or.inl ⟨by rfl, ?yfdb19⟩) hS ?rfdb19
              case yfdb19 => (intro w hS; go_simp; try with_reducible rfl)
              go_simp
              refine wpAnyH_take (i := 11) (v := ?vfdb11) rfl (by kernel_rfl) (by kernel_rfl) (by kernel_rfl) (fun _ _ _ h => h) (Or.inl ⟨by rfl, ?yfdb11⟩) hS ?rfdb11
              case yfdb11 => (intro w hS; go_simp; try with_reducible rfl)
              refine wpAnyH_take (i := 15) (v := .int .i64 q0) rfl (by kernel_rfl) (by kernel_rfl) (by kernel_rfl) (fun _ _ _ h => h) (Or.inl ⟨by rfl, ?yfdb15⟩) hS ?rfdb15
              case yfdb15 => (intro w' hS; have cf := hS.get ⟨w.heap.size + 1, 0, none⟩ (.int .i64 q0) (by simp); go_simp; try with_reducible rfl)
              refine wpAnyH_take (i := 20) (v := ?vfdb20) rfl (by kernel_rfl) (by kernel_rfl) (by kernel_rfl) (fun _ _ _ h => h) (Or.inl ⟨by rfl, ?yfdb20⟩) hS ?rfdb20
              case yfdb20 => (intro w hS; go_simp; try with_reducible rfl)
              go_simp
              refine wpAnyH_take (i := 12) (v := ?vfdb12) rfl (by kernel_rfl) (by kernel_rfl) (by kernel_rfl) (fun _ _ _ h => h) (Or.inl ⟨by rfl, ?yfdb12⟩) hS ?rfdb12
              case yfdb12 => (intro w hS; go_simp; try with_reducible rfl)
              refine wpAnyH_take (i := 21) (v := ?vfdb21) rfl (by kernel_rfl) (by kernel_rfl) (by kernel_rfl) (fun _ _ _ h => h) (Or.inl ⟨by rfl, ?yfdb21⟩) hS ?rfdb21
              case yfdb21 => (intro w hS; go_simp; try with_reducible rfl)
              go_simp
              refine wpAnyH_take (i := 13) (v := .int .i64 s1) rfl (by kernel_rfl) (by kernel_rfl) (by kernel_rfl) (fun _ _ _ h => h) (Or.inl ⟨by rfl, ?yfdb13⟩) hS ?rfdb13
              case yfdb13 => (intro w' hS; have cf := hS.get ⟨b, o + k5 * 4 + 1, none⟩ (.int .i64 s1) (by simp); go_simp; try with_reducible rfl)
              refine wpAnyH_take (i := 22) (v := .int .i64 s0) rfl (by kernel_rfl) (by kernel_rfl) (by kernel_rfl) (fun _ _ _ h => h) (Or.inl ⟨by rfl, ?yfdb22⟩) hS ?rfdb22
              case yfdb22 => (intro w' hS; have cf := hS.get ⟨b, o + k5 * 4, none⟩ (.int .i64 s0) (by simp); go_simp; try with_reducible rfl)
              go_simp
              refine wpAnyH_ready (rs := [16]) (by kernel_rfl) (by simp) ?_
              refine AllReadyH.cons (o := { dst := some 99, op := .call { callee := .value (.func 12), args := #[.tmp 98], argTypes := #[3] }, type := 3, pos := "law.go:75", after := #[⟨15, .data⟩, ⟨8, .chain⟩, ⟨8, .guard⟩], guard := some (8, true) }) rfl (fun K hK => ?_) AllReadyH.nil
              go_simp
              go_at_call 12
              refine (BA.out _ hS.b).mono ?_
              rintro e w' ⟨rfl, b⟩
              have hS2 := hS.next b
              replace HLK := Lib.hid (HLK.out.next b)
              replace HV := Lib.hid (HV.out.trans (b.mono HV.out.size))
              clear b hS
              try go_simp
              refine hK.out _ _ hS2 (fun hS => ?_)
              clear hK K hS2
              refine wpAnyH_ready (rs := [23]) (by kernel_rfl) (by simp) ?_
              refine AllReadyH.cons (o := { dst := some 106, op := .call { callee := .value (.func 22), args := #[.tmp 100, .tmp 105], argTypes := #[34, 3] }, type := 3, pos := "law.go:75", after := #[⟨17, .data⟩, ⟨22, .data⟩, ⟨16, .chain⟩, ⟨8, .guard⟩], guard := some (8, true) }) rfl (fun K hK => ?_) AllReadyH.nil
              go_simp
              go_at_call 22
              refine (VA1.out _ _ _ HLK.out.s).mono ?_
              rintro e w' ⟨rfl, b⟩
              have hS2 := hS.next b
              replace HLK := Lib.hid (HLK.out.next b)
              replace HV := Lib.hid (HV.out.trans (b.mono HV.out.size))
              clear b hS
              try go_simp
              refine hK.out _ _ hS2 (fun hS => ?_)
              clear hK K hS2
              refine wpAnyH_ready (rs := [24]) (by kernel_rfl) (by simp) ?_
              refine AllReadyH.cons (o := { dst := some 107, op := .call { callee := .value (.func 21), args := #[.tmp 99, .tmp 106, .const (.int .i64 2305843009213691579)], argTypes := #[3, 3, 3] }, type := 3, pos := "law.go:75", after := #[⟨16, .data⟩, ⟨23, .data⟩, ⟨23, .chain⟩, ⟨8, .guard⟩], guard := some (8, true) }) rfl (fun K hK => ?_) AllReadyH.nil
              go_simp
              go_at_call 21
              refine (PP1.out _).mono ?_
              rintro e w' ⟨rfl, b⟩
              have hS2 := hS.next b
              replace HLK := Lib.hid (HLK.out.next b)
              replace HV := Lib.hid (HV.out.trans (b.mono HV.out.size))
              clear b hS
              try go_simp
              refine hK.out _ _ hS2 (fun hS => ?_)
              clear hK K hS2
              refine wpAnyH_take (i := 25) (v := .bool true) rfl (by kernel_rfl) (by kernel_rfl) (by kernel_rfl) (fun _ _ _ h => h) (Or.inl ⟨by rfl, ?yfdb25⟩) hS ?rfdb25
              case yfdb25 => (intro w hS; go_simp; try with_reducible rfl)
              go_simp
              refine wpAnyH_take (i := 26) (v := ?vfdb26) rfl (by kernel_rfl) (by kernel_rfl) (by kernel_rfl) (fun _ _ _ h => h) (Or.inl ⟨by rfl, ?yfdb26⟩) hS ?rfdb26
              case yfdb26 => (intro w hS; go_simp; try with_reducible rfl)
              refine wpAnyH_done (by kernel_rfl) ?_ _
              have HB2 := Lib.hid hS.b
              clear hS HV HLK
              go_wp2
              go_ret
              exact ⟨rfl, HB2.out⟩
        · obtain rfl : k5 = NA := by omega
          replace HF := Lib.hid (HF.out.next HB.out.1)
          replace HM := Lib.hid (HM.out.next HB.out.1)
          have C21 := Lib.hid (C2.out A HPI.out (fun s hs => HB.out.2 s (by rw [List.take_of_length_le (by rw [HNA.out]; exact Nat.le_refl _)]; exact hs)))
          have HPL := Lib.hid (own_PaL HF.out.oa HGI.out (by rw [all9_len]; omega))
          have c0 := HC.out.get ⟨gk, 0, none⟩ (.slice pk NC ck) (by simp)
          have c1 := HC.out.get ⟨gk, 1, none⟩ (.slice pq NL cq) (by simp)
          have cq0 := HC.out.get ⟨w.heap.size + 1, 0, none⟩ (.int .i64 q0) (by simp)
          clear HB
          go_wp2_with fail
          refine (C1.out _ pk pq ck cq _ HC.out.b HLK.out.y HPL.out).mono ?_
          rintro e w4 ⟨⟨pb, cb, rfl⟩, b4⟩
          replace HC := Lib.hid (HC.out.next b4)
          replace HF := Lib.hid (HF.out.next b4)
          replace HM := Lib.hid (HM.out.next b4)
          clear b4 HPL c0 c1 cq0 HLK
          go_upto_region 18 with fail
          replace HM := Lib.hid (HM.out.next (Below.refl _ _).drew)
          replace HF := Lib.hid (HF.out.next (Below.refl _ _).drew)
          refine wp_region_held_drew (S := CK w [(⟨gk, 0, none⟩, .slice pk NC ck), (⟨gk, 1, none⟩, .slice pq NL cq), (⟨w.heap.size + 1, 0, none⟩, .int .i64 q0), (⟨w.heap.size + 1, 1, none⟩, .int .i64 q1), (⟨bc, oc, none⟩, .int .i64 hd)] []) (by kernel_rfl) HC.out.drew (fun hS => ?_)
          generalize World.drew w4 = wd at *
          have HFa := Lib.hid (show wd.ownsRow W0.heap.size 30 4 (.slice (some ⟨ga, 0, none⟩) k ca) k (fl4 (all9 g k)) by have h5 := HF.out.oa; rw [all9_len] at h5; exact h5)
          clear HC HF
          refine wpAnyH_take (i := 0) (v := .agg #[.slice pk NC ck, .slice pq NL cq]) rfl (by kernel_rfl) (by kernel_rfl) (by kernel_rfl) (fun _ _ _ h => h) (Or.inl ⟨by rfl, ?yfe0⟩) hS ?rfe0
          case yfe0 => (intro w' hS; have cf := hS.get ⟨gk, 0, none⟩ (.slice pk NC ck) (by simp); have cg1 := hS.get ⟨gk, 1, none⟩ (.slice pq NL cq) (by simp); go_simp; try with_reducible rfl)
          refine wpAnyH_take (i := 1) (v := ?vfe1) rfl (by kernel_rfl) (by kernel_rfl) (by kernel_rfl) (fun _ _ _ h => h) (Or.inl ⟨by rfl, ?yfe1⟩) hS ?rfe1
          case yfe1 => (intro w hS; go_simp; try with_reducible rfl)
          refine wpAnyH_take (i := 3) (v := ?vfe3) rfl (by kernel_rfl) (by kernel_rfl) (by kernel_rfl) (fun _ _ _ h => h) (Or.inl ⟨by rfl, ?yfe3⟩) hS ?rfe3
          case yfe3 => (intro w hS; go_simp; try with_reducible rfl)
          refine wpAnyH_take (i := 4) (v := ?vfe4) rfl (by kernel_rfl) (by kernel_rfl) (by kernel_rfl) (fun _ _ _ h => h) (Or.inl ⟨by rfl, ?yfe4⟩) hS ?rfe4
          case yfe4 => (intro w hS; go_simp; try with_reducible rfl)
          go_simp
          refine wpAnyH_take (i := 2) (v := .int .i64 q0) rfl (by kernel_rfl) (by kernel_rfl) (by kernel_rfl) (fun _ _ _ h => h) (Or.inl ⟨by rfl, ?yfe2⟩) hS ?rfe2
          case yfe2 => (intro w' hS; have cf := hS.get ⟨w.heap.size + 1, 0, none⟩ (.int .i64 q0) (by simp); go_simp; try with_reducible rfl)
          go_simp
          have ho := HM.out.oa
          rw [HNA.out] at ho
          refine wpAnyH_ready (rs := [5]) (by kernel_rfl) (by simp) ?_
          refine AllReadyH.cons (o := { dst := some 126, op := .call { callee := .builtin .append, args := #[.tmp 124, .tmp 125], argTypes := #[44, 44] }, type := 44, pos := "law.go:80", after := #[⟨3, .data⟩, ⟨4, .data⟩], guard := none }) rfl (fun K hK => ?_) AllReadyH.nil
          refine step_append_lies _ rfl _ _ 44 rfl W1.heap.size 30 i0 (.agg #[.int .i64 0, .int .i64 0, .int .i64 0, .int .i64 0]) 4 32 Tryz.underlying44 hi hz0 hz1 hz2 rfl (by decide) _ k5 (fl4 A) rfl ho ⟨ga, 0, none⟩ k ca (fl4 (all9 g k)) rfl (by rw [fl4_len, all9_len]) (own_news HFa.out) (fl4_one _) hNF0 (by unfold maxLen; omega) (by omega) HM.out.bl.size _ rfl ?_
          intro g9 c9 w9 hown9 hgrow9 hat9 hlt9
          have b9 : Below W1.heap.size W1 w9 := HM.out.bl.grown hgrow9 HM.out.bl.size (fun r hr => (HM.out.oa.lt r hr).1)
          have hS2 := hS.grown hgrow9 W1.heap.size HBS.out.1 (fun r hr => (HM.out.oa.lt r hr).1) HBS.out.2
          have HLK9 := Lib.hid (HLK1.out.next b9)
          have HP9 := Lib.hid (own_PaL (l := A ++ all9 g k) (by rw [List.length_append, all9_len, HNA.out, fl4_app]; exact hown9) (fun t ht => by
            rcases List.mem_append.1 ht with ht | ht
            · exact HPI.out t ht
            · exact HGI.out t ht) (by rw [List.length_append, all9_len, HNA.out]; omega))
          clear hS ho hown9 hgrow9 hat9 hlt9 b9
          refine hK.out _ _ hS2 (fun hS => ?_)
          clear hK K hS2
          refine wpAnyH_ready (rs := [6]) (by kernel_rfl) (by simp) ?_
          refine AllReadyH.cons (o := { dst := some 127, op := .call { callee := .value (.func 23), args := #[.tmp 121, .tmp 123, .tmp 126], argTypes := #[41, 3, 44] }, type := 54, pos := "law.go:80", after := #[⟨0, .data⟩, ⟨2, .data⟩, ⟨5, .data⟩, ⟨5, .chain⟩], guard := none }) rfl (fun K hK => ?_) AllReadyH.nil
          go_simp
          go_at_call 23
          refine (C21.out _ pk pq ck cq _ hS.b HLK9.out.y HP9.out).mono ?_
          rintro e w' ⟨⟨bv2, rfl⟩, b⟩
          have hS2 := hS.next b
          clear b hS
          try go_simp
          refine hK.out _ _ hS2 (fun hS => ?_)
          clear hK K hS2
          refine wpAnyH_take (i := 7) (v := ?vfe7) rfl (by kernel_rfl) (by kernel_rfl) (by kernel_rfl) (fun _ _ _ h => h) (Or.inl ⟨by rfl, ?yfe7⟩) hS ?rfe7
          case yfe7 => (intro w hS; go_simp; try with_reducible rfl)
          go_simp
          refine wpAnyH_take (i := 8) (v := ?vfe8) rfl (by kernel_rfl) (by kernel_rfl) (by kernel_rfl) (fun _ _ _ h => h) (Or.inl ⟨by rfl, ?yfe8⟩) hS ?rfe8
          case yfe8 => (intro w hS; go_simp; try with_reducible rfl)
          refine wpAnyH_take (i := 9) (v := ?vfe9) rfl (by kernel_rfl) (by kernel_rfl) (by kernel_rfl) (fun _ _ _ h => h) (Or.inl ⟨by rfl, ?yfe9⟩) hS ?rfe9
          case yfe9 => (intro w hS; go_simp; try with_reducible rfl)
          refine wpAnyH_take (i := 10) (v := ?vfe10) rfl (by kernel_rfl) (by kernel_rfl) (by kernel_rfl) (fun _ _ _ h => h) (Or.inl ⟨by rfl, ?yfe10⟩) hS ?rfe10
          case yfe10 => (intro w hS; go_simp; try with_reducible rfl)
          go_simp
          refine wpAnyH_take (i := 11) (v := ?vfe11) rfl (by kernel_rfl) (by kernel_rfl) (by kernel_rfl) (fun _ _ _ h => h) (Or.inl ⟨by rfl, ?yfe11⟩) hS ?rfe11
          case yfe11 => (intro w hS; go_simp; try with_reducible rfl)
          go_simp
          refine wpAnyH_take (i := 12) (v := ?vfe12) rfl (by kernel_rfl) (by kernel_rfl) (by kernel_rfl) (fun _ _ _ h => h) (Or.inl ⟨by rfl, ?yfe12⟩) hS ?rfe12
          case yfe12 => (intro w hS; go_simp; try with_reducible rfl)
          go_simp
          refine wpAnyH_take (i := 13) (v := ?vfe13) rfl (by kernel_rfl) (by kernel_rfl) (by kernel_rfl) (fun _ _ _ h => h) (Or.inl ⟨by rfl, ?yfe13⟩) hS ?rfe13
          case yfe13 => (intro w hS; go_simp; try with_reducible rfl)
          refine wpAnyH_done (by kernel_rfl) ?_ _
          go_wp2
          go_ret
          exact ⟨rfl, hS.b⟩
end Go.Proofs.YtbfplapjjeeceaaGreatDoor.B9
namespace Go.Proofs.YtbfplapjjeeceaaGreatDoor.B9
open Go.RowKit GM SH G4 E6 D7P
open W8 hiding i64 jn pX pY
theorem prs_right (u : List Pa) (N : List Int) (r : Int) (h : ∀ s ∈ u, s.2.1 = pp (bs r) (D7.vl N s.1)) : prs u = (u.map Prod.fst).map fun x => (x, pp (bs r) (D7.vl N x)) := by
  unfold prs
  rw [List.map_map]
  refine List.map_congr_left fun s hs => ?_
  show (s.1, s.2.1) = (s.1, _)
  rw [h s hs]
theorem lf_pw (N xs : List Int) (r : Int) (hx : ∀ x ∈ xs, 1 ≤ x ∧ x ≤ 60) (hnd : xs.Nodup) (h1 : 1 ≤ N.length) (hl : N.length ≤ xs.length) (h0 : 0 ≤ N.headD 0 ∧ N.headD 0 < 1152921504606845789) :
    lf (N.length : Int) (xs.map fun x => (x, pp (bs r) (D7.vl N x))) = pp (bs r) (N.headD 0) := by
  have h := lf_const N xs r hx hnd h1 hl h0
  rw [prs_right (xs.map (pt N r)) N r (fun s hs => by obtain ⟨x, _, rfl⟩ := List.mem_map.1 hs; rfl), show (xs.map (pt N r)).map Prod.fst = xs from by rw [List.map_map, show (Prod.fst ∘ pt N r) = id from rfl, List.map_id]] at h
  exact h
/-- whatever right partials of enough points there are, the value is the power with the first coefficient -/
theorem comb_right (lw lc : List Int) (r : Int) (l : List Pa) (hr : ∀ s ∈ l, acc (cms lw lc) (many (LP lw) : Nat) r s = true → s.2.1 = pp (bs r) (D7.vl (cfs lw lc) s.1))
    (xs : List Int) (hx : xs.Nodup) (hl : nd lw ≤ xs.length) (hs : ∀ x ∈ xs, ∃ s ∈ l, acc (cms lw lc) (many (LP lw) : Nat) r s = true ∧ s.1 = x) :
    ¬ (cG (cms lw lc) (many (LP lw) : Nat) r l).length < (cms lw lc).length ∧ lf ((cms lw lc).length : Int) (prs (cG (cms lw lc) (many (LP lw) : Nat) r l)) = pp (bs r) ((cfs lw lc).headD 0) := by
  have hM := M_rg lw
  have hN := nd_rng lw
  have hin : ∀ s ∈ cG (cms lw lc) (many (LP lw) : Nat) r l, s ∈ l ∧ acc (cms lw lc) (many (LP lw) : Nat) r s = true := fun s h => List.mem_filter.1 (und_mem _ s h)
  have hlen : nd lw ≤ (cG (cms lw lc) (many (LP lw) : Nat) r l).length := by
    have := nodup_len xs ((cG (cms lw lc) (many (LP lw) : Nat) r l).map Prod.fst) hx (fun x h => by
      obtain ⟨s, h1, h2, rfl⟩ := hs x h
      exact (und_pts _ _).1 (List.mem_map.2 ⟨s, List.mem_filter.2 ⟨h1, h2⟩, rfl⟩))
    rw [List.length_map] at this
    omega
  refine ⟨by rw [cms_len]; omega, ?_⟩
  rw [prs_right _ (cfs lw lc) r (fun s h => hr s (hin s h).1 (hin s h).2), cms_len, ← cfs_len lw lc]
  exact lf_pw _ _ r (fun x h => by
    obtain ⟨s, h1, rfl⟩ := List.mem_map.1 h
    have := acc_x (hin s h1).2
    omega) (und_nodup _) (by rw [cfs_len]; omega) (by rw [List.length_map, cfs_len]; exact hlen) (cfs_head lw lc)
theorem head_get' : ∀ l : List Int, 0 < l.length → l[0]? = some (l.headD 0)
  | [], h => absurd h (by decide)
  | _ :: _, _ => rfl
theorem tmod_twice (q : Int) (M : Nat) (hM : 0 < M) : Int.tmod (Int.tmod q (M : Int) + (M : Int)) (M : Int) = (((q % (M : Int)).toNat : Nat) : Int) ∧ (q % (M : Int)).toNat < M := by
  have h1 := Int.lt_tmod_of_pos q (show (0 : Int) < (M : Int) by omega)
  have h2 := Int.emod_nonneg q (show (M : Int) ≠ 0 by omega)
  have h3 := Int.emod_lt_of_pos q (show (0 : Int) < (M : Int) by omega)
  refine ⟨?_, by omega⟩
  rw [Int.tmod_eq_emod_of_nonneg (by omega), Int.add_emod_right, Int.tmod_def, Int.sub_mul_emod_self_left]
  omega
/-- the points of a row that begins anywhere -/
def rnd (F M k : Nat) : List Int := (List.range k).map fun i => (((F + i) % M : Nat) : Int) + 1
theorem mod_apart (F M a b : Nat) (ha : a < M) (hb : b < M) (hF : F < M) (h : (F + a) % M = (F + b) % M) : a = b := by
  have e : ∀ c, c < M → (F + c) % M = if F + c < M then F + c else F + c - M := fun c hc => by
    split
    · exact Nat.mod_eq_of_lt (by assumption)
    · rw [Nat.mod_eq_sub_mod (by omega)]; exact Nat.mod_eq_of_lt (by omega)
  rw [e a ha, e b hb] at h
  split at h <;> split at h <;> omega
theorem rnd_nodup (F M : Nat) (hF : F < M) : ∀ k, k ≤ M → (rnd F M k).Nodup
  | 0, _ => List.nodup_nil
  | k+1, hk => by
    have ih := rnd_nodup F M hF k (by omega)
    have e : rnd F M (k+1) = rnd F M k ++ [(((F + k) % M : Nat) : Int) + 1] := by unfold rnd; rw [List.range_succ, List.map_append]; rfl
    rw [e, List.nodup_append]
    refine ⟨ih, by simp, fun a ha b hb => ?_⟩
    rw [List.mem_singleton.1 hb]
    obtain ⟨i, hi, rfl⟩ := List.mem_map.1 ha
    have hi := List.mem_range.1 hi
    intro h
    have := mod_apart F M i k (by omega) (by omega) hF (by omega)
    omega
theorem sli_nil' {w : World} {v : Value} (h : SLi w v []) : ∃ p c, v = .slice p 0 c := by
  obtain ⟨p, c, e, _⟩ := h.h
  exact ⟨p, c, e⟩
set_option maxRecDepth 100000 in
theorem once_walk (w : World) (wv cv : Value) (lw lc : List Int) (pv : Value) (l : List (Int × Int)) (q0 q1 : Int) (hw : BL w wv lw) (hc : D7.AL w cv lc) (hl : PkL w pv l) (hq0 : i64 q0) (hq1 : i64 q1) (hT : TS w) :
    Calls Tryz.prog 5 #[.agg #[wv, cv], pv, .agg #[.int .i64 q0, .int .i64 q1]] w fun e w' => e = .returned (.bool true) ∧ Below w.heap.size w w' := by
  have MA := fun W (k : Below w.heap.size w W) => Make_q w W wv cv lw lc hw hc k
  obtain ⟨pw, cw, rfl, _⟩ := id hw
  obtain ⟨pc, nc, rfl, _⟩ := al_form hc
  obtain ⟨pl, cl, rfl, _⟩ := id hl
  have hM := M_rg lw
  have hN := nd_rng lw
  have hNC := cfs_len lw lc
  obtain ⟨M, hMe⟩ : ∃ m, many (LP lw) = m := ⟨_, rfl⟩
  rw [hMe] at hM hN
  obtain ⟨hFq, hF⟩ := tmod_twice q1 M (by omega)
  obtain ⟨F, hFe⟩ : ∃ f, (q1 % (M : Int)).toNat = f := ⟨_, rfl⟩
  rw [hFe] at hFq hF
  have hx : ∀ i, 1 ≤ ((((F + i) % M : Nat) : Int) + 1) ∧ ((((F + i) % M : Nat) : Int) + 1) ≤ (M : Int) := fun i => by
    have := Nat.mod_lt (F + i) (show 0 < M by omega)
    omega
  have hhd := head_get' (cfs lw lc) (by rw [hNC]; omega)
  have hh0 := cfs_head lw lc
  obtain ⟨hd, hhe⟩ : ∃ h, (cfs lw lc).headD 0 = h := ⟨_, rfl⟩
  rw [hhe] at hhd hh0
  obtain ⟨g, hg⟩ : ∃ g : Nat → Pa, ∀ i, pt (cfs lw lc) q0 ((((F + i) % M : Nat) : Int) + 1) = g i := ⟨_, fun _ => rfl⟩
  have hgi : ∀ i, pi64 (g i) := fun i => by rw [← hg]; exact pt_i64 _ _ _ ⟨by have := hx i; omega, by have := hx i; omega⟩
  have hga : ∀ i, acc (cms lw lc) (many (LP lw) : Nat) q0 (g i) = true := fun i => by rw [← hg]; exact acc_pt lw lc q0 _ (by rw [hMe]; exact hx i)
  have hgv : ∀ i, (g i).2.1 = pp (bs q0) (D7.vl (cfs lw lc) (g i).1) := fun i => by rw [← hg]; rfl
  have hgx : ∀ i, (g i).1 = (((F + i) % M : Nat) : Int) + 1 := fun i => by rw [← hg]; rfl
  have hin : ∀ x ∈ rnd F M (nd lw), ∃ s ∈ all9 g (nd lw), acc (cms lw lc) (many (LP lw) : Nat) q0 s = true ∧ s.1 = x := fun x h => by
    obtain ⟨i, hi, rfl⟩ := List.mem_map.1 h
    exact ⟨g i, List.mem_map.2 ⟨i, hi, rfl⟩, hga i, hgx i⟩
  have hmem : ∀ s ∈ all9 g (nd lw), acc (cms lw lc) (many (LP lw) : Nat) q0 s = true ∧ s.2.1 = pp (bs q0) (D7.vl (cfs lw lc) s.1) := fun s h => by
    obtain ⟨i, hi, rfl⟩ := List.mem_map.1 h
    exact ⟨hga i, hgv i⟩
  have hrl : (rnd F M (nd lw)).length = nd lw := by unfold rnd; simp
  refine once_core w pw pc pl lw.length cw lc.length nc l.length cl q0 q1 hq0 hq1 (cfs lw lc) (cms lw lc) (LP lw) M (by omega) (by omega) (nd lw) hNC (by omega) (by omega) F hF hFq (shs (cfs lw lc) M) (shs_len _ _) g ?_ (fun i _ => hgi i)
    (bs q0) (pp (bs q0) hd) hd hhd (acc (cms lw lc) (many (LP lw) : Nat) q0) (D7.vl (cfs lw lc)) (fun x => pp (bs q0) (D7.vl (cfs lw lc) x))
    (Lib.hid fun W k => sanity_any W (hT.below k)) (Lib.hid MA)
    (Lib.hid fun W p q pc ck cq cc hy hs => by have := Shares_any W p q _ ck _ cq _ _ hy (by rw [hMe]; omega) _ _ hs; rw [hMe] at this; exact this)
    (Lib.hid fun W k => Base_any W q0 _ rfl hq0 (hT.below k)) (Lib.hid fun W => pow9 W _ _ _ rfl (bs_i64 q0) ⟨by omega, by omega⟩)
    (Lib.hid fun x hx W p cc hs => D7.refValue_any W _ _ x (slD hs) hs.r hx hs.n) (Lib.hid fun x W => pow9 W _ _ _ rfl (bs_i64 q0) (vl_ok _ _))
    (Lib.hid fun W p q pc ck cq cc b hy hs => Partials_any W p q pc pl _ ck _ cq _ cc cl q0 _ _ _ l hy (by rw [hMe]; omega) (by rw [hMe]; omega) hs hq0 (hl.next b) (hT.below b))
    (Lib.hid fun s hs W p q ck cq b hy => refVerify9 W p q _ ck _ cq q0 _ _ s _ (ver_yes (rgt_poll lw lc) q0 s) hy (by rw [hMe]; omega) hq0 hs (hT.below b))
    (Lib.hid ?_) (Lib.hid ?_)
  · intro i x y hxy W k
    have hlt := Nat.mod_lt (F + i) (show 0 < M by omega)
    rw [shs_get (cfs lw lc) M _ hlt] at hxy
    have hxy := Option.some.inj hxy
    rw [Prod.mk.injEq] at hxy
    obtain ⟨rfl, rfl⟩ := hxy
    refine (Eval_any W _ _ q0 _ rfl ⟨by omega, by omega⟩ (vl_ok _ _) hq0 (hT.below k)).mono fun e w' h => ⟨?_, h.2⟩
    rw [h.1, evl_pt _ _ _ ⟨by omega, by omega⟩, hg]
  · intro W p q ck cq v b hy hv
    obtain ⟨h1, h2⟩ := comb_right lw lc q0 (all9 g (nd lw)) (fun s hs _ => (hmem s hs).2) (rnd F M (nd lw)) (rnd_nodup F M hF _ hN.2.2) (by rw [hrl]; exact Nat.le_refl _) hin
    rw [hhe] at h2
    have hf : (all9 g (nd lw)).filter (fun s => !acc (cms lw lc) (many (LP lw) : Nat) q0 s) = [] := List.filter_eq_nil_iff.2 (fun s hs => by rw [(hmem s hs).1]; decide)
    refine (Combine_any W p q _ ck _ cq q0 (cms lw lc) (LP lw) hy hq0 v _ hv (hT.below b)).mono ?_
    rintro e w' ⟨b', h⟩
    refine ⟨?_, b'⟩
    rcases h with ⟨h, _⟩ | ⟨_, bv, hb, h⟩
    · exact absurd (rgt_poll lw lc) h
    · unfold cR at hb
      rw [hf] at hb
      obtain ⟨pb, cb, rfl⟩ := sli_nil' hb
      rcases h with ⟨h, _⟩ | ⟨_, h⟩
      · exact absurd h h1
      · rw [h2] at h; exact ⟨pb, cb, h⟩
  · intro A hA hr W p q ck cq v b hy hv
    obtain ⟨h1, h2⟩ := comb_right lw lc q0 (A ++ all9 g (nd lw)) (fun s hs ha => by
      rcases List.mem_append.1 hs with hs | hs
      · exact hr s hs ha
      · exact (hmem s hs).2) (rnd F M (nd lw)) (rnd_nodup F M hF _ hN.2.2) (by rw [hrl]; exact Nat.le_refl _) (fun x hx => by
      obtain ⟨s, h1, h2⟩ := hin x hx
      exact ⟨s, List.mem_append.2 (.inr h1), h2⟩)
    rw [hhe] at h2
    refine (Combine_any W p q _ ck _ cq q0 (cms lw lc) (LP lw) hy hq0 v _ hv (hT.below b)).mono ?_
    rintro e w' ⟨b', h⟩
    refine ⟨?_, b'⟩
    rcases h with ⟨h, _⟩ | ⟨_, bv, hb, h⟩
    · exact absurd (rgt_poll lw lc) h
    · rcases h with ⟨h, _⟩ | ⟨_, h⟩
      · exact absurd h h1
      · rw [h2] at h; exact ⟨bv, h⟩
end Go.Proofs.YtbfplapjjeeceaaGreatDoor.B9
