/-
  The walk of the reference's Partials: some partials, of the call's own.
  The reference's Partials, for any picks.
  The walk of the law BeaconVerifies.
  The law BeaconVerifies, for any poll, any picks and any six numbers.
-/
import Derived.Test.YtbfplapjjeeceaaGreatDoorBPoll
import Derived.Test.YtbfplapjjeeceaaGreatDoorBLk
import Derived.Test.YtbfplapjjeeceaaGreatDoorDRefA
import Derived.Test.YtbfplapjjeeceaaGreatDoorBIn
import Derived.Test.YtbfplapjjeeceaaGreatDoorBSide
import Derived.Test.YtbfplapjjeeceaaGreatDoorBRVer
import Derived.Test.YtbfplapjjeeceaaGreatDoorBMake
namespace Go.Proofs.YtbfplapjjeeceaaGreatDoor.B9
open Go.RowKit GM SH G4 E6 D7P
open W8 hiding i64 jn pX pY
def pis (A : List Pa) : Prop := ∀ s ∈ A, pi64 s
/-- partials of the call's own -/
structure FQ (W0 : World) (av : Value) (A : List Pa) (W : World) : Prop where
  bl : Below W0.heap.size W0 W
  oa : W.ownsRow W0.heap.size 30 4 av A.length (fl4 A)
theorem FQ.next {W0 W V : World} {av : Value} {A : List Pa} (h : FQ W0 av A W) (k : Below W.heap.size W V) : FQ W0 av A V := ⟨h.bl.trans (k.mono h.bl.size), own_below' h.oa k⟩
theorem FQ.app {W0 W V : World} {av : Value} {A : List Pa} (h : FQ W0 av A W) (s : Pa) {g c : Nat}
    (h1 : V.ownsRow W0.heap.size 30 4 (.slice (some ⟨g, 0, none⟩) (A.length + 1) c) (A.length + 1) (fl4 A ++ pc s)) (h2 : W.grownBy V av.ownBlock) :
    FQ W0 (.slice (some ⟨g, 0, none⟩) (A.length + 1) c) (A ++ [s]) V := by
  refine ⟨h.bl.grown h2 h.bl.size (fun r hr => (h.oa.lt r hr).1), ?_⟩
  rw [List.length_append, fl4_app]
  show V.ownsRow _ _ _ _ (A.length + 1) (fl4 A ++ (pc s ++ []))
  rw [List.append_nil]; exact h1
theorem own_setne' {w : World} {base : Nat} {e : TypeId} {size : Nat} {v : Value} {n : Nat} {xs : List Value} (h : w.ownsRow base e size v n xs) (d j : Nat) (u : Value) (hd : ∀ g, v.ownBlock = some g → g ≠ d) : (w.setCell ⟨d, j, none⟩ u).ownsRow base e size v n xs := by
  refine ⟨h.1, ?_⟩
  rcases h.2 with h2 | ⟨g, cap, cur, rfl, h2, h3, h4⟩
  · exact .inl h2
  · exact .inr ⟨g, cap, cur, rfl, h2, by rw [heap_setCell_other w _ g _ (hd g rfl)]; exact h3, h4⟩
/-- and a partial in a block -/
structure PF (W0 : World) (av : Value) (A : List Pa) (gp : Nat) (s : Pa) (W : World) : Prop where
  f : FQ W0 av A W
  hp : W.heap[gp]? = some (.cells #[.int .i64 s.1, .int .i64 s.2.1, .int .i64 s.2.2.1, .int .i64 s.2.2.2] 30 (0, 0))
  g0 : W0.heap.size ≤ gp
  ne : ∀ g, av.ownBlock = some g → g ≠ gp
theorem PF.next {W0 W V : World} {av : Value} {A : List Pa} {gp : Nat} {s : Pa} (h : PF W0 av A gp s W) (k : Below W.heap.size W V) : PF W0 av A gp s V :=
  ⟨h.f.next k, (k.block _ (Array.getElem?_eq_some_iff.1 h.hp).1).trans h.hp, h.g0, h.ne⟩
theorem PF.drew {W0 W : World} {av : Value} {A : List Pa} {gp : Nat} {s : Pa} (h : PF W0 av A gp s W) : PF W0 av A gp s W.drew := h.next (Below.refl _ _).drew
theorem PF.setRow {W0 W : World} {av : Value} {A : List Pa} {gp : Nat} {s : Pa} (h : PF W0 av A gp s W) (t : Pa) : PF W0 av A gp t (W.setRow gp #[.int .i64 t.1, .int .i64 t.2.1, .int .i64 t.2.2.1, .int .i64 t.2.2.2]) :=
  ⟨⟨Below.setRow' h.f.bl h.g0 _, own_kx h.f.oa (kx_setRow W gp _) (fun g hg e => h.ne g hg (by injection e))⟩, setRow_heap _ _ _ _ _ _ h.hp, h.g0, h.ne⟩
theorem PF.set {W0 W : World} {av : Value} {A : List Pa} {gp : Nat} {s t : Pa} (h : PF W0 av A gp s W) (j : Nat) (u : Value) (e : (#[Value.int .i64 s.1, .int .i64 s.2.1, .int .i64 s.2.2.1, .int .i64 s.2.2.2]).setIfInBounds j u = #[.int .i64 t.1, .int .i64 t.2.1, .int .i64 t.2.2.1, .int .i64 t.2.2.2]) : PF W0 av A gp t (W.setCell ⟨gp, j, none⟩ u) :=
  ⟨⟨h.f.bl.setCell (p := ⟨gp, j, none⟩) h.g0 _, own_setne' h.f.oa gp j u h.ne⟩, by rw [← e]; exact heap_setCell_same W gp j _ _ u h.hp, h.g0, h.ne⟩
theorem u8_conv8 (n : Int) (h : 0 ≤ n ∧ n ≤ 255) : IntKind.i64.wrap n = n := by rw [IntKind.wrap_i64]; omega
set_option maxRecDepth 100000 in
set_option maxHeartbeats 8000000 in
theorem parts_core (w : World) (pc0 p q pl : Option Addr) (nc0 cc0 n c m e cl : Nat) (r : Int) (hri : i64 r) (l : List (Int × Int)) (nl : Nat) (hnl : l.length = nl) (hl9 : nl ≤ maxLen) (M : Nat) (hM0 : 0 < M) (hM : M ≤ 60) (SHL : List (Int × Int)) (hSL : SHL.length = M)
    (hSr : ∀ s ∈ SHL, i64 s.1 ∧ 0 ≤ s.2 ∧ s.2 < 1152921504606845789) (hlr : ∀ x ∈ l, (0 ≤ x.1 ∧ x.1 ≤ 255) ∧ 0 ≤ x.2 ∧ x.2 ≤ 255)
    (hlc : ∀ (j : Nat) (x : Int × Int), l[j]? = some x → ∃ b o, pl = some ⟨b, o, none⟩ ∧ w.cell? ⟨b, o + j * 2, none⟩ = some (.int .u8 x.1) ∧ w.cell? ⟨b, o + j * 2 + 1, none⟩ = some (.int .u8 x.2))
    (SH : Hid (∀ W, Below w.heap.size w W → Calls Tryz.prog 20 #[.slice pc0 nc0 cc0, .agg #[.slice p n c, .slice q m e]] W fun e w' => (∃ sv, e = .returned sv ∧ ShL w' sv SHL) ∧ Below W.heap.size W w'))
    (EV : Hid (∀ W x y r, i64 x → i64 y → i64 r → Below w.heap.size w W → Calls Tryz.prog 15 #[.agg #[.int .i64 x, .int .i64 y], .int .i64 r] W fun e w' => (∃ s0 s1 s2 s3, e = .returned (.agg #[.int .i64 s0, .int .i64 s1, .int .i64 s2, .int .i64 s3]) ∧ (0 ≤ s0 ∧ s0 ≤ 60) ∧ i64 s1 ∧ i64 s2 ∧ 0 ≤ s3 ∧ s3 < 1152921504606845789) ∧ Below W.heap.size W w'))
    (MU : Hid (∀ W a, i64 a → Calls Tryz.prog 44 #[.int .i64 a, .int .i64 4, .int .i64 2305843009213691579] W fun e w' => (∃ v, e = .returned (.int .i64 v) ∧ i64 v) ∧ w' = W))
    (MD : Hid (∀ W a, i64 a → Calls Tryz.prog 43 #[.int .i64 a, .int .i64 1152921504606845789] W fun e w' => (∃ v, e = .returned (.int .i64 v) ∧ 0 ≤ v ∧ v < 1152921504606845789) ∧ w' = W)) :
    Calls Tryz.prog 17 #[.slice pc0 nc0 cc0, .agg #[.slice p n c, .slice q m e], .int .i64 r, .slice pl nl cl] w fun e w' => (∃ v A, e = .returned v ∧ pis A ∧ A.length ≤ 30 ∧ w'.ownsRow w.heap.size 30 4 v A.length (fl4 A)) ∧ Below w.heap.size w w' := by
  obtain ⟨i0, hi, hz0, hz1, hz2⟩ := info_parts infoP4
  obtain ⟨W, hW⟩ : ∃ W, w.alloc (.cells #[.slice p n c, .slice q m e] 41) = W := ⟨_, rfl⟩
  have K0 := (CK.start w).cells #[.slice p n c, .slice q m e] 41 _ rfl
  rw [hW] at K0
  have HK := Lib.hid (K0.sub (M := [(⟨w.heap.size, 0, none⟩, .slice p n c), (⟨w.heap.size, 1, none⟩, .slice q m e)]) (Y := []) (by simp) (by simp))
  have HL := Lib.hid (And.intro hlc (And.intro hlr (And.intro hnl (And.intro hSr hSL))))
  clear K0 hlc hlr hnl hSr hSL
  have hN30 : min nl 30 ≤ 30 ∧ min nl 30 ≤ nl := ⟨by omega, by omega⟩
  obtain ⟨N, hN⟩ : ∃ N, min nl 30 = N := ⟨_, rfl⟩
  rw [hN] at hN30
  go_enter Tryz.func17, Tryz.ntmps17
  go_upto_region 1 with fail
  clear hW
  have c0 := HK.out.get ⟨w.heap.size, 0, none⟩ (.slice p n c) (by simp)
  have c1 := HK.out.get ⟨w.heap.size, 1, none⟩ (.slice q m e) (by simp)
  go_wp2_with fail
  refine (SH.out _ HK.out.b).mono ?_
  rintro e1 W0 ⟨⟨sv, rfl, hsh⟩, b1⟩
  have hW0 := Lib.hid (HK.out.b.trans (b1.mono HK.out.b.size))
  clear b1 c0 c1 HK SH
  obtain ⟨⟨ps, cs, rfl, hcs⟩, hsr, hsn⟩ := hsh
  rw [HL.out.2.2.2.2]
  have HSH := Lib.hid hcs
  clear hcs hsr hsn
  have HNN := Lib.hid hN
  clear hN
  go_wp2_with fail
  go_loopw [10, 11] (fun a i wr => ∃ (k : Nat) (A : List Pa), k ≤ N ∧ i = .int .i64 (k : Int) ∧ Hid (FQ W0 a A wr ∧ A.length = k ∧ ∀ s ∈ A, pi64 s)) (fun _ i _ => N - (match i with | .int _ i => i.toNat | _ => 0))
  case atStart => exact ⟨0, [], Nat.zero_le _, rfl, Lib.hid ⟨⟨Below.refl _ _, World.ownsRow_nil _ _ _ _⟩, rfl, fun s h => by cases h⟩⟩
  case round =>
    obtain ⟨k, A, hk, rfl, HQ⟩ := hrel
    by_cases hlt : k < N
    · obtain ⟨⟨z, t⟩, hz⟩ : ∃ s, l[k]? = some s := ⟨l[k]'(by rw [HL.out.2.2.1]; omega), List.getElem?_eq_getElem _⟩
      obtain ⟨b, o, hp, hc0, hc1⟩ := HL.out.1 k _ hz
      subst hp
      have hzr := HL.out.2.1 _ (List.mem_of_getElem? hz)
      obtain ⟨⟨hz1', hz2'⟩, ht1, ht2⟩ := hzr
      try dsimp only at hz1' hz2' ht1 ht2 hc0 hc1
      obtain ⟨zn, rfl⟩ : ∃ zn : Nat, z = (zn : Int) := ⟨z.toNat, by omega⟩
      have hrm : Int.tmod (zn : Int) (M : Int) = ((zn % M : Nat) : Int) := by rw [Int.tmod_eq_emod_of_nonneg (by omega)]; rfl
      have hml := Nat.mod_lt zn hM0
      obtain ⟨⟨x, y⟩, hx⟩ : ∃ s, SHL[zn % M]? = some s := ⟨SHL[zn % M]'(by rw [HL.out.2.2.2.2]; exact hml), List.getElem?_eq_getElem _⟩
      obtain ⟨b2, o2, hp2, hd0, hd1⟩ := HSH.out _ _ hx
      subst hp2
      obtain ⟨hxi, hy0, hyq⟩ := HL.out.2.2.2.1 _ (List.mem_of_getElem? hx)
      try dsimp only at hxi hy0 hyq hd0 hd1
      obtain ⟨j, hj⟩ : ∃ j, zn % M = j := ⟨_, rfl⟩
      rw [hj] at hd0 hd1 hrm hml
      have hmi : (j : Int) < (M : Int) := by omega
      have hm0 : ¬ ((M : Int) = 0) := by omega
      have hcv := u8_conv8 (zn : Int) ⟨by omega, by omega⟩
      have hkl : (k : Int) < (nl : Int) := by omega
      have hk30 : (k : Int) < 30 := by omega
      have hw1 := hW0.out.trans (HQ.out.1.bl.mono hW0.out.size)
      have c0 := (hw1.cell (p := ⟨b, o + k * 2, none⟩) (World.block_lt_of_cell? _ _ hc0)).trans hc0
      have d0 := (HQ.out.1.bl.cell (p := ⟨b2, o2 + j * 2, none⟩) (World.block_lt_of_cell? _ _ hd0)).trans hd0
      have d1 := (HQ.out.1.bl.cell (p := ⟨b2, o2 + j * 2 + 1, none⟩) (World.block_lt_of_cell? _ _ hd1)).trans hd1
      have HC1 := Lib.hid hc1
      have hA := Lib.hid (show k + 1 ≤ maxLen ∧ (k + 1) * 32 ≤ 140737488355328 from ⟨by unfold maxLen; omega, by omega⟩)
      have HAl := Lib.hid HQ.out.2
      have HF0 := Lib.hid HQ.out.1
      have HW1 := Lib.hid hw1
      clear hz hx hj hc0 hc1 hd0 hd1 HQ hw1
      go_upto_region 7 with fail
      obtain ⟨W6, hW6⟩ : ∃ V, wr.alloc (.cells #[.int .i64 x, .int .i64 y] 23) = V := ⟨_, rfl⟩
      rw [hW6]
      have bb6 : Below wr.heap.size wr W6 := by rw [← hW6]; exact (Below.refl wr.heap.size wr).alloc (Nat.le_refl _) _
      have hs6 : W6.heap[wr.heap.size]? = some (.cells #[.int .i64 x, .int .i64 y] 23 (0, 0)) := by rw [← hW6]; exact heap_alloc_new _ _
      have HF6 := Lib.hid (HF0.out.next bb6)
      have HW6 := Lib.hid (HW1.out.trans (bb6.mono HW1.out.size))
      have hgs0 : W0.heap.size ≤ wr.heap.size := HF0.out.bl.size
      have hown0 : ∀ g, u10.ownBlock = some g → g < wr.heap.size := fun g hg => (HF0.out.oa.lt g hg).2
      have hsz6 := bb6.size
      obtain ⟨gs, hgs⟩ : ∃ g, wr.heap.size = g := ⟨_, rfl⟩
      rw [hgs] at hs6 hgs0 hown0 hsz6 ⊢
      have hgl : gs < W6.heap.size := (Array.getElem?_eq_some_iff.1 hs6).1
      have HO := Lib.hid (And.intro hgs0 (And.intro hown0 hgl))
      clear hW6 bb6 c0 d0 d1 hgs HF0 HW1 hrm hcv hgs0 hown0 hsz6 hgl
      have e0 : W6.cell? ⟨gs, 0, none⟩ = some (.int .i64 x) := cell_of_row _ gs 0 _ _ _ hs6
      have e1 : W6.cell? ⟨gs, 1, none⟩ = some (.int .i64 y) := cell_of_row _ gs 1 _ _ _ hs6
      have HS6 := Lib.hid hs6
      clear hs6
      go_wp2_with fail
      refine (EV.out _ _ _ _ hxi ⟨by omega, by omega⟩ hri HW6.out).mono ?_
      rintro e w7 ⟨⟨s0, s1, s2, s3, rfl, hs0, hs1, hs2, hs3⟩, b7⟩
      have HF7 := Lib.hid (HF6.out.next b7)
      have HW7 := Lib.hid (HW6.out.trans (b7.mono HW6.out.size))
      have HS7 := Lib.hid ((b7.block _ (Array.getElem?_eq_some_iff.1 HS6.out).1).trans HS6.out)
      have hsz7 := b7.size
      clear b7 e0 e1 HF6 HW6 HS6
      go_upto_region 8 with fail
      obtain ⟨w8, hw8⟩ : ∃ V, w7.alloc (.cells #[.int .i64 s0, .int .i64 s1, .int .i64 s2, .int .i64 s3] 30) = V := ⟨_, rfl⟩
      rw [hw8]
      have bb8 : Below w7.heap.size w7 w8 := by rw [← hw8]; exact (Below.refl w7.heap.size w7).alloc (Nat.le_refl _) _
      have hs8 : w8.heap[w7.heap.size]? = some (.cells #[.int .i64 s0, .int .i64 s1, .int .i64 s2, .int .i64 s3] 30 (0, 0)) := by rw [← hw8]; exact heap_alloc_new _ _
      obtain ⟨gp, hgp⟩ : ∃ g, w7.heap.size = g := ⟨_, rfl⟩
      have hgsp : gs < gp := by rw [← hgp]; have := HO.out.2.2; omega
      have HPF : Hid (PF W0 u10 A gp (s0, s1, s2, s3) w8) := Lib.hid ⟨HF7.out.next bb8, by rw [← hgp]; exact hs8, by have := HO.out.1; omega, fun g hg => by have := HO.out.2.1 g hg; omega⟩
      have HS8 := Lib.hid ((bb8.block _ (Array.getElem?_eq_some_iff.1 HS7.out).1).trans HS7.out)
      have HW8 := Lib.hid (HW7.out.trans (bb8.mono HW7.out.size))
      rw [hgp]
      clear hw8 bb8 hs8 hgp HF7 HW7 HS7 hsz7 HO
      have c1 := (HW8.out.cell (p := ⟨b, o + k * 2 + 1, none⟩) (World.block_lt_of_cell? _ _ HC1.out)).trans HC1.out
      obtain ⟨t9, ht9⟩ : ∃ t9, Int.tmod t 12 = t9 := ⟨_, rfl⟩
      try dsimp only at c1
      by_cases q1 : t9 = 1
      · subst q1
        have d1 : w8.cell? ⟨gp, 1, none⟩ = some (.int .i64 s1) := cell_of_row _ gp 1 _ _ _ HPF.out.hp
        go_wp2_with fail
        refine (MU.out _ _ hs1).mono ?_
        rintro e w9 ⟨⟨v9, rfl, hv9⟩, b9⟩
        have b9 := b9.symm
        subst b9
        have f1 := frozen_of_row _ _ 1 _ _ HPF.out.hp
        replace HPF := Lib.hid (HPF.out.set (t := (s0, v9, s2, s3)) 1 (.int .i64 v9) rfl)
        go_upto_region 19 with fail
        clear d1 f1 c1 ht9
        generalize w8.setCell ⟨gp, 1, none⟩ (.int .i64 v9) = w10 at *
        have d0 : w10.cell? ⟨gp, 0, none⟩ = some (.int .i64 s0) := cell_of_row _ gp 0 _ _ _ HPF.out.hp
        have d1 : w10.cell? ⟨gp, 1, none⟩ = some (.int .i64 v9) := cell_of_row _ gp 1 _ _ _ HPF.out.hp
        have d2 : w10.cell? ⟨gp, 2, none⟩ = some (.int .i64 s2) := cell_of_row _ gp 2 _ _ _ HPF.out.hp
        have d3 : w10.cell? ⟨gp, 3, none⟩ = some (.int .i64 s3) := cell_of_row _ gp 3 _ _ _ HPF.out.hp
        have ho := HPF.out.f.oa.alloc (.cells #[.int .i64 s0, .int .i64 v9, .int .i64 s2, .int .i64 s3] 30)
        rw [HAl.out.1] at ho
        go_wp2_with (at_builtin; go_must (refine wpList_append_lies _ rfl _ _ 44 rfl W0.heap.size 30 i0 (.agg #[.int .i64 0, .int .i64 0, .int .i64 0, .int .i64 0]) 4 32 Tryz.underlying44 hi hz0 hz1 hz2 rfl (by decide) _ k (fl4 A) rfl ho ⟨w10.heap.size, 0, none⟩ 1 1 [.int .i64 s0, .int .i64 v9, .int .i64 s2, .int .i64 s3] rfl rfl (World.news_of_block (heap_alloc_new _ _)) (by simp [Value.oneCell']) Nat.zero_lt_one hA.out.1 hA.out.2 (by rw [World.size_alloc]; exact Nat.le_succ_of_le HPF.out.f.bl.size) _ rfl ?_); intro g9 c9 w9 hown9 hgrow9 hat9 hlt9)
        have K8 := (HPF.out.f.next ((Below.refl _ w10).alloc (Nat.le_refl _) (.cells #[.int .i64 s0, .int .i64 v9, .int .i64 s2, .int .i64 s3] 30))).app (s0, v9, s2, s3) (g := g9) (c := c9) (by rw [HAl.out.1]; exact hown9) hgrow9
        rw [HAl.out.1] at K8
        have K9 := Lib.hid (show FQ W0 (.slice (some ⟨g9, 0, none⟩) (k + 1) c9) (A ++ [(s0, v9, s2, s3)]) w9 ∧ (A ++ [(s0, v9, s2, s3)]).length = k + 1 ∧ ∀ s ∈ A ++ [(s0, v9, s2, s3)], pi64 s from ⟨K8, by rw [List.length_append, HAl.out.1]; rfl, fun s hs => by
          rcases List.mem_append.1 hs with hs | hs
          · exact HAl.out.2 s hs
          · rw [List.mem_singleton.1 hs]; exact (show i64 s0 ∧ i64 v9 ∧ i64 s2 ∧ i64 s3 from ⟨by first | assumption | exact ⟨by omega, by omega⟩, by first | assumption | exact ⟨by omega, by omega⟩, by first | assumption | exact ⟨by omega, by omega⟩, by first | assumption | exact ⟨by omega, by omega⟩⟩)⟩)
        clear hown9 hgrow9 hat9 hlt9 ho d0 d1 d2 d3 HPF K8
        try go_wp2
        exact ⟨⟨k + 1, _, by omega, by go_num, K9⟩, by simp; omega⟩
      · by_cases q2 : t9 = 2
        · subst q2
          have d0 : w8.cell? ⟨gp, 0, none⟩ = some (.int .i64 s0) := cell_of_row _ gp 0 _ _ _ HPF.out.hp
          have f1 := frozen_of_row _ _ 0 _ _ HPF.out.hp
          replace HPF := Lib.hid (HPF.out.set (t := (s0 + 1, s1, s2, s3)) 0 (.int .i64 (s0 + 1)) rfl)
          have hs01 : s0 + 1 ≤ 9223372036854775807 := by omega
          have hs02 : 0 ≤ s0 := by omega
          go_upto_region 19 with fail
          clear d0 f1 c1 ht9
          generalize w8.setCell ⟨gp, 0, none⟩ (.int .i64 (s0 + 1)) = w10 at *
          have d0 : w10.cell? ⟨gp, 0, none⟩ = some (.int .i64 (s0 + 1)) := cell_of_row _ gp 0 _ _ _ HPF.out.hp
          have d1 : w10.cell? ⟨gp, 1, none⟩ = some (.int .i64 s1) := cell_of_row _ gp 1 _ _ _ HPF.out.hp
          have d2 : w10.cell? ⟨gp, 2, none⟩ = some (.int .i64 s2) := cell_of_row _ gp 2 _ _ _ HPF.out.hp
          have d3 : w10.cell? ⟨gp, 3, none⟩ = some (.int .i64 s3) := cell_of_row _ gp 3 _ _ _ HPF.out.hp
          have ho := HPF.out.f.oa.alloc (.cells #[.int .i64 (s0 + 1), .int .i64 s1, .int .i64 s2, .int .i64 s3] 30)
          rw [HAl.out.1] at ho
          go_wp2_with (at_builtin; go_must (refine wpList_append_lies _ rfl _ _ 44 rfl W0.heap.size 30 i0 (.agg #[.int .i64 0, .int .i64 0, .int .i64 0, .int .i64 0]) 4 32 Tryz.underlying44 hi hz0 hz1 hz2 rfl (by decide) _ k (fl4 A) rfl ho ⟨w10.heap.size, 0, none⟩ 1 1 [.int .i64 (s0 + 1), .int .i64 s1, .int .i64 s2, .int .i64 s3] rfl rfl (World.news_of_block (heap_alloc_new _ _)) (by simp [Value.oneCell']) Nat.zero_lt_one hA.out.1 hA.out.2 (by rw [World.size_alloc]; exact Nat.le_succ_of_le HPF.out.f.bl.size) _ rfl ?_); intro g9 c9 w9 hown9 hgrow9 hat9 hlt9)
          have K8 := (HPF.out.f.next ((Below.refl _ w10).alloc (Nat.le_refl _) (.cells #[.int .i64 (s0 + 1), .int .i64 s1, .int .i64 s2, .int .i64 s3] 30))).app ((s0 + 1), s1, s2, s3) (g := g9) (c := c9) (by rw [HAl.out.1]; exact hown9) hgrow9
          rw [HAl.out.1] at K8
          have K9 := Lib.hid (show FQ W0 (.slice (some ⟨g9, 0, none⟩) (k + 1) c9) (A ++ [((s0 + 1), s1, s2, s3)]) w9 ∧ (A ++ [((s0 + 1), s1, s2, s3)]).length = k + 1 ∧ ∀ s ∈ A ++ [((s0 + 1), s1, s2, s3)], pi64 s from ⟨K8, by rw [List.length_append, HAl.out.1]; rfl, fun s hs => by
            rcases List.mem_append.1 hs with hs | hs
            · exact HAl.out.2 s hs
            · rw [List.mem_singleton.1 hs]; exact (show i64 (s0 + 1) ∧ i64 s1 ∧ i64 s2 ∧ i64 s3 from ⟨by first | assumption | exact ⟨by omega, by omega⟩, by first | assumption | exact ⟨by omega, by omega⟩, by first | assumption | exact ⟨by omega, by omega⟩, by first | assumption | exact ⟨by omega, by omega⟩⟩)⟩)
          clear hown9 hgrow9 hat9 hlt9 ho d0 d1 d2 d3 HPF K8
          try go_wp2
          exact ⟨⟨k + 1, _, by omega, by go_num, K9⟩, by simp; omega⟩
        · by_cases q3 : t9 = 3
          · subst q3
            have f0 : w8.cell? ⟨gs, 0, none⟩ = some (.int .i64 x) := cell_of_row _ gs 0 _ _ _ HS8.out
            have f1 : w8.cell? ⟨gs, 1, none⟩ = some (.int .i64 y) := cell_of_row _ gs 1 _ _ _ HS8.out
            obtain ⟨r2, hr2⟩ : ∃ r2, IntKind.i64.wrap (r + 1) = r2 := ⟨_, rfl⟩
            have hr2i : i64 r2 := by rw [← hr2, IntKind.wrap_i64]; constructor <;> omega
            go_wp2_with fail
            refine (EV.out _ _ _ _ hxi ⟨by omega, by omega⟩ hr2i HW8.out).mono ?_
            rintro e w9 ⟨⟨e0, e1, e2, e3, rfl, he0, he1, he2, he3⟩, b9⟩
            replace HPF := Lib.hid (HPF.out.next b9)
            clear b9 f0 f1 hr2
            have h9 := HPF.out.hp
            go_upto_region 19 with (refine wpList_store_row rfl 30 (.tmp 13) (.tmp 65) rfl gp #[.int .i64 e0, .int .i64 e1, .int .i64 e2, .int .i64 e3] (by first | rfl | (simp [Act.eval])) (by first | rfl | (simp [Act.eval])) 30 _ h9 (infoPa e0 e1 e2 e3).out (pa_size _ _ _ _ _ _ _ _) (pa_one _ _ _ _) ?_)
            clear h9 c1 ht9
            replace HPF := Lib.hid (HPF.out.setRow (e0, e1, e2, e3))
            obtain ⟨w10, hw10⟩ : ∃ V, V = World.setRow w9 gp #[.int .i64 e0, .int .i64 e1, .int .i64 e2, .int .i64 e3] := ⟨_, rfl⟩
            rw [← hw10] at HPF ⊢
            clear hw10
            have d0 : w10.cell? ⟨gp, 0, none⟩ = some (.int .i64 e0) := cell_of_row _ gp 0 _ _ _ HPF.out.hp
            have d1 : w10.cell? ⟨gp, 1, none⟩ = some (.int .i64 e1) := cell_of_row _ gp 1 _ _ _ HPF.out.hp
            have d2 : w10.cell? ⟨gp, 2, none⟩ = some (.int .i64 e2) := cell_of_row _ gp 2 _ _ _ HPF.out.hp
            have d3 : w10.cell? ⟨gp, 3, none⟩ = some (.int .i64 e3) := cell_of_row _ gp 3 _ _ _ HPF.out.hp
            have ho := HPF.out.f.oa.alloc (.cells #[.int .i64 e0, .int .i64 e1, .int .i64 e2, .int .i64 e3] 30)
            rw [HAl.out.1] at ho
            go_wp2_with (at_builtin; go_must (refine wpList_append_lies _ rfl _ _ 44 rfl W0.heap.size 30 i0 (.agg #[.int .i64 0, .int .i64 0, .int .i64 0, .int .i64 0]) 4 32 Tryz.underlying44 hi hz0 hz1 hz2 rfl (by decide) _ k (fl4 A) rfl ho ⟨w10.heap.size, 0, none⟩ 1 1 [.int .i64 e0, .int .i64 e1, .int .i64 e2, .int .i64 e3] rfl rfl (World.news_of_block (heap_alloc_new _ _)) (by simp [Value.oneCell']) Nat.zero_lt_one hA.out.1 hA.out.2 (by rw [World.size_alloc]; exact Nat.le_succ_of_le HPF.out.f.bl.size) _ rfl ?_); intro g9 c9 w9 hown9 hgrow9 hat9 hlt9)
            have K8 := (HPF.out.f.next ((Below.refl _ w10).alloc (Nat.le_refl _) (.cells #[.int .i64 e0, .int .i64 e1, .int .i64 e2, .int .i64 e3] 30))).app (e0, e1, e2, e3) (g := g9) (c := c9) (by rw [HAl.out.1]; exact hown9) hgrow9
            rw [HAl.out.1] at K8
            have K9 := Lib.hid (show FQ W0 (.slice (some ⟨g9, 0, none⟩) (k + 1) c9) (A ++ [(e0, e1, e2, e3)]) w9 ∧ (A ++ [(e0, e1, e2, e3)]).length = k + 1 ∧ ∀ s ∈ A ++ [(e0, e1, e2, e3)], pi64 s from ⟨K8, by rw [List.length_append, HAl.out.1]; rfl, fun s hs => by
              rcases List.mem_append.1 hs with hs | hs
              · exact HAl.out.2 s hs
              · rw [List.mem_singleton.1 hs]; exact (show i64 e0 ∧ i64 e1 ∧ i64 e2 ∧ i64 e3 from ⟨by first | assumption | exact ⟨by omega, by omega⟩, by first | assumption | exact ⟨by omega, by omega⟩, by first | assumption | exact ⟨by omega, by omega⟩, by first | assumption | exact ⟨by omega, by omega⟩⟩)⟩)
            clear hown9 hgrow9 hat9 hlt9 ho d0 d1 d2 d3 HPF K8
            try go_wp2
            exact ⟨⟨k + 1, _, by omega, by go_num, K9⟩, by simp; omega⟩
          · by_cases q4 : t9 = 4
            · subst q4
              have d3 : w8.cell? ⟨gp, 3, none⟩ = some (.int .i64 s3) := cell_of_row _ gp 3 _ _ _ HPF.out.hp
              have hs31 : s3 + 1 ≤ 9223372036854775807 := by omega
              have hs32 : 0 ≤ s3 := by omega
              go_wp2_with fail
              refine (MD.out _ _ ⟨by omega, by omega⟩).mono ?_
              rintro e w9 ⟨⟨v9, rfl, hv1, hv2⟩, b9⟩
              have b9 := b9.symm
              subst b9
              have f1 := frozen_of_row _ _ 3 _ _ HPF.out.hp
              replace HPF := Lib.hid (HPF.out.set (t := (s0, s1, s2, v9)) 3 (.int .i64 v9) rfl)
              go_upto_region 19 with fail
              clear d3 f1 c1 ht9
              generalize w8.setCell ⟨gp, 3, none⟩ (.int .i64 v9) = w10 at *
              have d0 : w10.cell? ⟨gp, 0, none⟩ = some (.int .i64 s0) := cell_of_row _ gp 0 _ _ _ HPF.out.hp
              have d1 : w10.cell? ⟨gp, 1, none⟩ = some (.int .i64 s1) := cell_of_row _ gp 1 _ _ _ HPF.out.hp
              have d2 : w10.cell? ⟨gp, 2, none⟩ = some (.int .i64 s2) := cell_of_row _ gp 2 _ _ _ HPF.out.hp
              have d3 : w10.cell? ⟨gp, 3, none⟩ = some (.int .i64 v9) := cell_of_row _ gp 3 _ _ _ HPF.out.hp
              have ho := HPF.out.f.oa.alloc (.cells #[.int .i64 s0, .int .i64 s1, .int .i64 s2, .int .i64 v9] 30)
              rw [HAl.out.1] at ho
              go_wp2_with (at_builtin; go_must (refine wpList_append_lies _ rfl _ _ 44 rfl W0.heap.size 30 i0 (.agg #[.int .i64 0, .int .i64 0, .int .i64 0, .int .i64 0]) 4 32 Tryz.underlying44 hi hz0 hz1 hz2 rfl (by decide) _ k (fl4 A) rfl ho ⟨w10.heap.size, 0, none⟩ 1 1 [.int .i64 s0, .int .i64 s1, .int .i64 s2, .int .i64 v9] rfl rfl (World.news_of_block (heap_alloc_new _ _)) (by simp [Value.oneCell']) Nat.zero_lt_one hA.out.1 hA.out.2 (by rw [World.size_alloc]; exact Nat.le_succ_of_le HPF.out.f.bl.size) _ rfl ?_); intro g9 c9 w9 hown9 hgrow9 hat9 hlt9)
              have K8 := (HPF.out.f.next ((Below.refl _ w10).alloc (Nat.le_refl _) (.cells #[.int .i64 s0, .int .i64 s1, .int .i64 s2, .int .i64 v9] 30))).app (s0, s1, s2, v9) (g := g9) (c := c9) (by rw [HAl.out.1]; exact hown9) hgrow9
              rw [HAl.out.1] at K8
              have K9 := Lib.hid (show FQ W0 (.slice (some ⟨g9, 0, none⟩) (k + 1) c9) (A ++ [(s0, s1, s2, v9)]) w9 ∧ (A ++ [(s0, s1, s2, v9)]).length = k + 1 ∧ ∀ s ∈ A ++ [(s0, s1, s2, v9)], pi64 s from ⟨K8, by rw [List.length_append, HAl.out.1]; rfl, fun s hs => by
                rcases List.mem_append.1 hs with hs | hs
                · exact HAl.out.2 s hs
                · rw [List.mem_singleton.1 hs]; exact (show i64 s0 ∧ i64 s1 ∧ i64 s2 ∧ i64 v9 from ⟨by first | assumption | exact ⟨by omega, by omega⟩, by first | assumption | exact ⟨by omega, by omega⟩, by first | assumption | exact ⟨by omega, by omega⟩, by first | assumption | exact ⟨by omega, by omega⟩⟩)⟩)
              clear hown9 hgrow9 hat9 hlt9 ho d0 d1 d2 d3 HPF K8
              try go_wp2
              exact ⟨⟨k + 1, _, by omega, by go_num, K9⟩, by simp; omega⟩
            · by_cases q5 : t9 = 5
              · subst q5
                have K8 : CK W0 [(⟨gs, 0, none⟩, .int .i64 x), (⟨gs, 1, none⟩, .int .i64 y)] [(gp, 4, 30)] w8 := ⟨HPF.out.f.bl, fun q' hq' => by
                  simp only [List.mem_cons, List.not_mem_nil, or_false] at hq'
                  rcases hq' with rfl | rfl
                  · exact cell_of_row _ gs 0 _ _ _ HS8.out
                  · exact cell_of_row _ gs 1 _ _ _ HS8.out, fun q' hq' => by
                  simp only [List.mem_cons, List.not_mem_nil, or_false] at hq'
                  subst hq'
                  exact ⟨HPF.out.g0, _, rfl, HPF.out.hp⟩⟩
                have HK8 := Lib.hid K8
                obtain ⟨y9, hy9⟩ : ∃ z, y + 1 = z := ⟨_, rfl⟩
                have hy1 : i64 y9 := ⟨by omega, by omega⟩
                have hyw : IntKind.i64.wrap y9 = y9 := by rw [IntKind.wrap_i64]; omega
                go_upto_region 18 with fail
                clear c1 ht9 K8
                replace HPF := Lib.hid HPF.out.drew
                refine wp_region_held_drew (S := CK W0 [(⟨gs, 0, none⟩, .int .i64 x), (⟨gs, 1, none⟩, .int .i64 y)] [(gp, 4, 30)]) (by kernel_rfl) HK8.out.drew (fun hS => ?_)
                generalize World.drew w8 = w9 at *
                clear HK8
                refine wpAnyH_take (i := 0) (v := ?vre0) rfl (by kernel_rfl) (by kernel_rfl) (by kernel_rfl) (fun _ _ _ h => h) (Or.inl ⟨by rfl, ?yre0⟩) hS ?rre0
                case yre0 => (intro w hS; go_simp; try with_reducible rfl)
                refine wpAnyH_take (i := 2) (v := ?vre2) rfl (by kernel_rfl) (by kernel_rfl) (by kernel_rfl) (fun _ _ _ h => h) (Or.inl ⟨by rfl, ?yre2⟩) hS ?rre2
                case yre2 => (intro w hS; go_simp; try with_reducible rfl)
                refine wpAnyH_take (i := 7) (v := ?vre7) rfl (by kernel_rfl) (by kernel_rfl) (by kernel_rfl) (fun _ _ _ h => h) (Or.inl ⟨by rfl, ?yre7⟩) hS ?rre7
                case yre7 => (intro w hS; go_simp; try with_reducible rfl)
                go_simp
                refine wpAnyH_take (i := 1) (v := .int .i64 x) rfl (by kernel_rfl) (by kernel_rfl) (by kernel_rfl) (fun _ _ _ h => h) (Or.inl ⟨by rfl, ?yre1⟩) hS ?rre1
                case yre1 => (intro w' hS; have cf := hS.get ⟨gs, 0, none⟩ (.int .i64 x) (by simp); go_simp; try with_reducible rfl)
                refine wpAnyH_take (i := 3) (v := .int .i64 y) rfl (by kernel_rfl) (by kernel_rfl) (by kernel_rfl) (fun _ _ _ h => h) (Or.inl ⟨by rfl, ?yre3⟩) hS ?rre3
                case yre3 => (intro w' hS; have cf := hS.get ⟨gs, 1, none⟩ (.int .i64 y) (by simp); go_simp; try with_reducible rfl)
                go_simp
                refine wpAnyH_take (i := 4) (v := ?vre4) rfl (by kernel_rfl) (by kernel_rfl) (by kernel_rfl) (fun _ _ _ h => h) (Or.inl ⟨by rfl, ?yre4⟩) hS ?rre4
                case yre4 => (intro w hS; go_simp; try with_reducible rfl)
                go_simp
                refine wpAnyH_ready (rs := [5]) (by kernel_rfl) (by simp) ?_
                refine AllReadyH.cons (o := { dst := some 82, op := .call { callee := .value (.func 43), args := #[.tmp 81, .const (.int .i64 1152921504606845789)], argTypes := #[3, 3] }, type := 3, pos := "ref.go:176", after := #[⟨4, .data⟩], guard := none }) rfl (fun K hK => ?_) AllReadyH.nil
                go_simp
                go_at_call 43
                refine (MD.out _ _ hy1).mono ?_
                rintro e w' ⟨⟨y2, rfl, hy2, hy3⟩, b⟩
                obtain rfl := b
                have b := Below.refl w'.heap.size w'
                have hS2 := hS.next b
                replace HPF := Lib.hid (HPF.out.next b)
                clear b hS
                try go_simp
                refine hK.out _ _ hS2 (fun hS => ?_)
                clear hK K hS2
                refine wpAnyH_take (i := 6) (v := ?vre6) rfl (by kernel_rfl) (by kernel_rfl) (by kernel_rfl) (fun _ _ _ h => h) (Or.inl ⟨by rfl, ?yre6⟩) hS ?rre6
                case yre6 => (intro w hS; go_simp; try with_reducible rfl)
                go_simp
                refine wpAnyH_ready (rs := [8]) (by kernel_rfl) (by simp) ?_
                refine AllReadyH.cons (o := { dst := some 85, op := .call { callee := .value (.func 15), args := #[.tmp 83, .tmp 84], argTypes := #[23, 3] }, type := 30, pos := "ref.go:176", after := #[⟨6, .data⟩, ⟨7, .data⟩, ⟨5, .chain⟩], guard := none }) rfl (fun K hK => ?_) AllReadyH.nil
                go_simp
                go_at_call 15
                refine (EV.out _ _ _ _ hxi ⟨by omega, by omega⟩ hri (hW0.out.trans (hS.b.mono hW0.out.size))).mono ?_
                rintro e w' ⟨⟨e0, e1, e2, e3, rfl, he0, he1, he2, he3⟩, b⟩
                have hS2 := hS.next b
                replace HPF := Lib.hid (HPF.out.next b)
                clear b hS
                try go_simp
                refine hK.out _ _ hS2 (fun hS => ?_)
                clear hK K hS2
                refine wpAnyH_ready (rs := [9]) (by kernel_rfl) (by simp) ?_
                refine AllReadyH.cons (o := { dst := none, op := .store 30 (.tmp 13) (.tmp 85), type := 0, pos := "ref.go:176", after := #[⟨8, .data⟩, ⟨8, .chain⟩, ⟨0, .phase⟩, ⟨1, .phase⟩, ⟨2, .phase⟩, ⟨3, .phase⟩, ⟨4, .phase⟩, ⟨5, .phase⟩, ⟨6, .phase⟩, ⟨7, .phase⟩, ⟨8, .phase⟩], guard := none }) rfl (fun K hK => ?_) AllReadyH.nil
                rw [if_pos (by rfl)]
                refine wp_store_row 30 (.tmp 13) (.tmp 85) rfl gp (#[.int .i64 e0, .int .i64 e1, .int .i64 e2, .int .i64 e3]) (by first | rfl | (simp [Act.eval])) (by first | rfl | (simp [Act.eval])) 30 _ HPF.out.hp (infoPa e0 e1 e2 e3).out (pa_size _ _ _ _ _ _ _ _) (pa_one _ _ _ _) ?_
                have hS2 := hS.store gp 4 30 (by simp) (#[.int .i64 e0, .int .i64 e1, .int .i64 e2, .int .i64 e3]) rfl (by simp; omega) (by simp)
                replace HPF := Lib.hid (HPF.out.setRow (e0, e1, e2, e3))
                clear hS
                refine hK.out _ _ hS2 (fun hS => ?_)
                clear hK K hS2
                refine wpAnyH_done (by kernel_rfl) ?_ _
                clear hS
                go_upto_region 19 with fail
                obtain ⟨w10, hw10⟩ : ∃ V, V = World.setRow w' gp #[.int .i64 e0, .int .i64 e1, .int .i64 e2, .int .i64 e3] := ⟨_, rfl⟩
                rw [← hw10] at HPF ⊢
                clear hw10
                have d0 : w10.cell? ⟨gp, 0, none⟩ = some (.int .i64 e0) := cell_of_row _ gp 0 _ _ _ HPF.out.hp
                have d1 : w10.cell? ⟨gp, 1, none⟩ = some (.int .i64 e1) := cell_of_row _ gp 1 _ _ _ HPF.out.hp
                have d2 : w10.cell? ⟨gp, 2, none⟩ = some (.int .i64 e2) := cell_of_row _ gp 2 _ _ _ HPF.out.hp
                have d3 : w10.cell? ⟨gp, 3, none⟩ = some (.int .i64 e3) := cell_of_row _ gp 3 _ _ _ HPF.out.hp
                have ho := HPF.out.f.oa.alloc (.cells #[.int .i64 e0, .int .i64 e1, .int .i64 e2, .int .i64 e3] 30)
                rw [HAl.out.1] at ho
                go_wp2_with (at_builtin; go_must (refine wpList_append_lies _ rfl _ _ 44 rfl W0.heap.size 30 i0 (.agg #[.int .i64 0, .int .i64 0, .int .i64 0, .int .i64 0]) 4 32 Tryz.underlying44 hi hz0 hz1 hz2 rfl (by decide) _ k (fl4 A) rfl ho ⟨w10.heap.size, 0, none⟩ 1 1 [.int .i64 e0, .int .i64 e1, .int .i64 e2, .int .i64 e3] rfl rfl (World.news_of_block (heap_alloc_new _ _)) (by simp [Value.oneCell']) Nat.zero_lt_one hA.out.1 hA.out.2 (by rw [World.size_alloc]; exact Nat.le_succ_of_le HPF.out.f.bl.size) _ rfl ?_); intro g9 c9 w9 hown9 hgrow9 hat9 hlt9)
                have K8 := (HPF.out.f.next ((Below.refl _ w10).alloc (Nat.le_refl _) (.cells #[.int .i64 e0, .int .i64 e1, .int .i64 e2, .int .i64 e3] 30))).app (e0, e1, e2, e3) (g := g9) (c := c9) (by rw [HAl.out.1]; exact hown9) hgrow9
                rw [HAl.out.1] at K8
                have K9 := Lib.hid (show FQ W0 (.slice (some ⟨g9, 0, none⟩) (k + 1) c9) (A ++ [(e0, e1, e2, e3)]) w9 ∧ (A ++ [(e0, e1, e2, e3)]).length = k + 1 ∧ ∀ s ∈ A ++ [(e0, e1, e2, e3)], pi64 s from ⟨K8, by rw [List.length_append, HAl.out.1]; rfl, fun s hs => by
                  rcases List.mem_append.1 hs with hs | hs
                  · exact HAl.out.2 s hs
                  · rw [List.mem_singleton.1 hs]; exact (show i64 e0 ∧ i64 e1 ∧ i64 e2 ∧ i64 e3 from ⟨by first | assumption | exact ⟨by omega, by omega⟩, by first | assumption | exact ⟨by omega, by omega⟩, by first | assumption | exact ⟨by omega, by omega⟩, by first | assumption | exact ⟨by omega, by omega⟩⟩)⟩)
                clear hown9 hgrow9 hat9 hlt9 ho d0 d1 d2 d3 HPF K8
                try go_wp2
                exact ⟨⟨k + 1, _, by omega, by go_num, K9⟩, by simp; omega⟩
              · have r1 : (t9 == 1) = false := by rw [beq_eq_false_iff_ne]; exact q1
                have r2 : (t9 == 2) = false := by rw [beq_eq_false_iff_ne]; exact q2
                have r3 : (t9 == 3) = false := by rw [beq_eq_false_iff_ne]; exact q3
                have r4 : (t9 == 4) = false := by rw [beq_eq_false_iff_ne]; exact q4
                have r5 : (t9 == 5) = false := by rw [beq_eq_false_iff_ne]; exact q5
                go_upto_region 19 with fail
                clear c1 ht9 r1 r2 r3 r4 r5
                have d0 : w8.cell? ⟨gp, 0, none⟩ = some (.int .i64 s0) := cell_of_row _ gp 0 _ _ _ HPF.out.hp
                have d1 : w8.cell? ⟨gp, 1, none⟩ = some (.int .i64 s1) := cell_of_row _ gp 1 _ _ _ HPF.out.hp
                have d2 : w8.cell? ⟨gp, 2, none⟩ = some (.int .i64 s2) := cell_of_row _ gp 2 _ _ _ HPF.out.hp
                have d3 : w8.cell? ⟨gp, 3, none⟩ = some (.int .i64 s3) := cell_of_row _ gp 3 _ _ _ HPF.out.hp
                have ho := HPF.out.f.oa.alloc (.cells #[.int .i64 s0, .int .i64 s1, .int .i64 s2, .int .i64 s3] 30)
                rw [HAl.out.1] at ho
                go_wp2_with (at_builtin; go_must (refine wpList_append_lies _ rfl _ _ 44 rfl W0.heap.size 30 i0 (.agg #[.int .i64 0, .int .i64 0, .int .i64 0, .int .i64 0]) 4 32 Tryz.underlying44 hi hz0 hz1 hz2 rfl (by decide) _ k (fl4 A) rfl ho ⟨w8.heap.size, 0, none⟩ 1 1 [.int .i64 s0, .int .i64 s1, .int .i64 s2, .int .i64 s3] rfl rfl (World.news_of_block (heap_alloc_new _ _)) (by simp [Value.oneCell']) Nat.zero_lt_one hA.out.1 hA.out.2 (by rw [World.size_alloc]; exact Nat.le_succ_of_le HPF.out.f.bl.size) _ rfl ?_); intro g9 c9 w9 hown9 hgrow9 hat9 hlt9)
                have K8 := (HPF.out.f.next ((Below.refl _ w8).alloc (Nat.le_refl _) (.cells #[.int .i64 s0, .int .i64 s1, .int .i64 s2, .int .i64 s3] 30))).app (s0, s1, s2, s3) (g := g9) (c := c9) (by rw [HAl.out.1]; exact hown9) hgrow9
                rw [HAl.out.1] at K8
                have K9 := Lib.hid (show FQ W0 (.slice (some ⟨g9, 0, none⟩) (k + 1) c9) (A ++ [(s0, s1, s2, s3)]) w9 ∧ (A ++ [(s0, s1, s2, s3)]).length = k + 1 ∧ ∀ s ∈ A ++ [(s0, s1, s2, s3)], pi64 s from ⟨K8, by rw [List.length_append, HAl.out.1]; rfl, fun s hs => by
                  rcases List.mem_append.1 hs with hs | hs
                  · exact HAl.out.2 s hs
                  · rw [List.mem_singleton.1 hs]; exact (show i64 s0 ∧ i64 s1 ∧ i64 s2 ∧ i64 s3 from ⟨by first | assumption | exact ⟨by omega, by omega⟩, by first | assumption | exact ⟨by omega, by omega⟩, by first | assumption | exact ⟨by omega, by omega⟩, by first | assumption | exact ⟨by omega, by omega⟩⟩)⟩)
                clear hown9 hgrow9 hat9 hlt9 ho d0 d1 d2 d3 HPF K8
                try go_wp2
                exact ⟨⟨k + 1, _, by omega, by go_num, K9⟩, by simp; omega⟩
    · obtain rfl : k = N := by omega
      have HP := Lib.hid HQ.out
      by_cases hkn : k < nl
      · have h30 : k = 30 := by have := HNN.out; omega
        have hkl : (k : Int) < (nl : Int) := by omega
        have hk30 : ¬ ((k : Int) < 30) := by omega
        go_wp2
        go_ret
        exact ⟨⟨_, rfl, A, HP.out.2.2, by have := HP.out.2.1; omega, own_base' HP.out.1.oa hW0.out.size⟩, hW0.out.trans (HP.out.1.bl.mono hW0.out.size)⟩
      · have hkl : ¬ ((k : Int) < (nl : Int)) := by omega
        go_wp2
        go_ret
        exact ⟨⟨_, rfl, A, HP.out.2.2, by have := HP.out.2.1; omega, own_base' HP.out.1.oa hW0.out.size⟩, hW0.out.trans (HP.out.1.bl.mono hW0.out.size)⟩
end Go.Proofs.YtbfplapjjeeceaaGreatDoor.B9
namespace Go.Proofs.YtbfplapjjeeceaaGreatDoor.B9
open Go.RowKit GM SH G4 E6 D7P
open W8 hiding i64 jn pX pY
theorem evl_rng (x y r : Int) (hx : i64 x) : (0 ≤ (evl x y r).1 ∧ (evl x y r).1 ≤ 60) ∧ i64 (evl x y r).2.1 ∧ i64 (evl x y r).2.2.1 ∧ 0 ≤ (evl x y r).2.2.2 ∧ (evl x y r).2.2.2 < 1152921504606845789 := by
  by_cases h : 1 ≤ x ∧ x ≤ 60 ∧ 0 ≤ y ∧ y < 1152921504606845789
  · rw [evl_yes x y r h]
    have hv := pp_i64 (bs r) y
    have hc := prC_i64 y 4 (bs r)
    have hz := prZ_rng y 4 (bs r)
    generalize pp (bs r) y = v at *
    generalize prC y 4 (bs r) = c at *
    generalize prZ y 4 (bs r) = z at *
    exact ⟨⟨by show 0 ≤ x; omega, h.2.1⟩, hv, hc, hz⟩
  · rw [evl_no x y r h]
    exact ⟨⟨by decide, by decide⟩, ⟨by decide, by decide⟩, ⟨by decide, by decide⟩, by decide, by decide⟩
theorem PkL.next {W V : World} {v : Value} {l : List (Int × Int)} (h : PkL W v l) (k : Below W.heap.size W V) : PkL V v l := by
  obtain ⟨p, c, e, h1, h2, h3⟩ := h
  exact ⟨p, c, e, h1, h2, fun j x hj => by
    obtain ⟨b, o, e, hc, hd⟩ := h3 j x hj
    exact ⟨b, o, e, (k.cell (p := ⟨b, o + j * 2, none⟩) (World.block_lt_of_cell? _ _ hc)).trans hc, (k.cell (p := ⟨b, o + j * 2 + 1, none⟩) (World.block_lt_of_cell? _ _ hd)).trans hd⟩⟩
theorem Partials_any (w : World) (p q pc pl : Option Addr) (n k m e nc cc cl : Nat) (r : Int) (C CF : List Int) (L : List (List Int)) (l : List (Int × Int)) (h : KY w p q n k m e C L) (h1 : 1 ≤ many L) (h60 : many L ≤ 60) (hc : SLi w (.slice pc nc cc) CF) (hr : i64 r) (hl : PkL w (.slice pl l.length cl) l) (hT : TS w) :
    Calls Tryz.prog 17 #[.slice pc nc cc, .agg #[.slice p n k, .slice q m e], .int .i64 r, .slice pl l.length cl] w fun e w' => (∃ v A, e = .returned v ∧ pis A ∧ A.length ≤ 30 ∧ w'.ownsRow w.heap.size 30 4 v A.length (fl4 A)) ∧ Below w.heap.size w w' := by
  obtain ⟨p', c', e', h2, h3, h4⟩ := hl
  injection e' with a1 a2 a3
  subst a1
  refine parts_core w pc p q pl nc cc n k m e cl r hr l l.length rfl h2 (many L) (by omega) h60 (shs CF (many L)) (shs_len _ _) (fun s hs => ?_) h3 h4 (Lib.hid fun W b => Shares_any W p q n k m e C L (h.next b) h60 _ CF (hc.next b))
    (Lib.hid fun W x y r hx hy hr b => (refEval_any W x y r _ rfl hx hy hr (hT.below b)).mono fun e w' h => ⟨⟨_, _, _, _, h.1, evl_rng x y r hx⟩, h.2⟩)
    (Lib.hid fun W a ha => (refMul_k W a 4 2305843009213691579 _ rfl ha ⟨by decide, by decide⟩ (by decide)).mono fun e w' h => ⟨⟨_, h.1, D7.gmP_i64 _ _⟩, h.2⟩)
    (Lib.hid fun W a ha => (mod_any W a _ rfl ha).mono fun e w' h => ⟨⟨_, h.1, by omega, by omega⟩, h.2⟩)
  obtain ⟨j, hj, rfl⟩ := List.mem_map.1 hs
  have := List.mem_range.1 hj
  exact ⟨⟨by show _ ≤ (j : Int) + 1; omega, by show (j : Int) + 1 ≤ _; omega⟩, D7.vl_rng _ _⟩
end Go.Proofs.YtbfplapjjeeceaaGreatDoor.B9
namespace Go.Proofs.YtbfplapjjeeceaaGreatDoor.B9
open Go.RowKit GM SH G4 E6 D7P
open W8 hiding i64 jn pX pY
theorem CK.more9 {w u : World} {L : List (Addr × Value)} {Z : List (Nat × Nat × TypeId)} (h : CK w L Z u) (a : Addr) (v : Value) (hc : u.cell? a = some v) : CK w ((a, v) :: L) Z u := ⟨h.b, fun p hp => by
  rcases List.mem_cons.1 hp with rfl | hp
  · exact hc
  · exact h.c p hp, h.z⟩
theorem CK.write9 {w u : World} {L : List (Addr × Value)} (h : CK w L [] u) (g : Nat) (cs : Array Value) (hg : w.heap.size ≤ g) (hL : ∀ p ∈ L, p.1.block ≠ g) : CK w L [] (u.setRow g cs) :=
  ⟨Below.setRow' h.b hg _, fun p hp => by
    rw [World.cell?_of_block (setRow_other u g p.1.block cs (hL p hp))]; exact h.c p hp, fun p hp => by cases hp⟩
theorem setRow9 {n : Nat} {w V : World} (h : Below n w V) {g : Nat} (hg : n ≤ g) (cs : Array Value) : Below n w (V.setRow g cs) := Below.setRow' h hg cs
/-- Make's result, with the slices' shapes and the points' capacity -/
def MQc (w : World) (CF C : List Int) (L : List (List Int)) (e : Ending) (w' : World) : Prop :=
  (∃ pc pk pq cc ck cq, e = .returned (.tuple #[.slice pc CF.length cc, .agg #[.slice pk C.length ck, .slice pq L.length cq]]) ∧ SLi w' (.slice pc CF.length cc) CF ∧ KY w' pk pq C.length ck L.length cq C L ∧ L.length ≤ cq) ∧ Below w.heap.size w w'
theorem infoK2 (x y : Value) : Hid ((Tryz.prog.info? 41).map (·.size) = some (#[x, y]).size) := Lib.hid (by show _ = some 2; kernel_rfl)
theorem infoI9 : (Tryz.prog.info? 3).map (fun i => (i.zero, i.size, i.bytes)) = some (some (.int .i64 0), 1, 8) := by kernel_rfl
theorem own_empty (W : World) : (W.alloc (.cells #[] 3)).ownsRow W.heap.size 3 1 (.slice (some ⟨W.heap.size, 0, none⟩) 0 0) 0 [] :=
  ⟨rfl, .inr ⟨W.heap.size, 0, #[], rfl, Nat.le_refl _, heap_alloc_new _ _, Nat.le_refl _, Nat.zero_le _, rfl, rfl⟩⟩
theorem sli_news {w : World} {b o n c : Nat} {C : List Int} (h : SLi w (.slice (some ⟨b, o, none⟩) n c) C) : ∀ j u, (C.map (Value.int .i64))[j]? = some u → w.cell? ((⟨b, o, none⟩ : Addr).add j) = some u := fun j u hu => by
  have hadd : (⟨b, o, none⟩ : Addr).add j = ⟨b, o + j, none⟩ := by unfold Addr.add; split <;> simp_all
  rw [hadd]
  obtain ⟨p', c', e', h2⟩ := h.h
  injection e' with a1 a2 a3
  rw [List.getElem?_map] at hu
  obtain ⟨y, hy, rfl⟩ := Option.map_eq_some_iff.1 hu
  obtain ⟨b', o', e, hc⟩ := h2 j y hy
  rw [← a1] at e
  injection e with e
  injection e with e1 e2
  subst e1 e2
  exact hc
theorem int_one (C : List Int) : ∀ u ∈ C.map (Value.int .i64), u.oneCell' = true := fun u hu => by
  obtain ⟨y, _, rfl⟩ := List.mem_map.1 hu
  rfl
/-- an own list, one number of which is written anew -/
theorem sli_set {w : World} {g n c : Nat} {C : List Int} (h : SLi w (.slice (some ⟨g, 0, none⟩) n c) C) (F : Nat) (v : Int) (hv : i64 v) : SLi (w.setCell ⟨g, F, none⟩ (.int .i64 v)) (.slice (some ⟨g, 0, none⟩) n c) (C.set F v) := by
  obtain ⟨⟨p', c', e', h2⟩, hr, hn⟩ := h
  injection e' with a1 a2 a3
  subst a1 a2 a3
  refine ⟨⟨_, _, by rw [List.length_set], fun j y hj => ⟨g, 0, rfl, ?_⟩⟩, fun y hy => ?_, by rw [List.length_set]; exact hn⟩
  · rw [Nat.zero_add]
    by_cases e : F = j
    · subst e
      have hlt : F < C.length := by
        have := (List.getElem?_eq_some_iff.1 hj).1
        rwa [List.length_set] at this
      rw [List.getElem?_set_self hlt] at hj
      injection hj with hj
      subst hj
      obtain ⟨b, o, e1, hc⟩ := h2 F _ (List.getElem?_eq_getElem hlt)
      injection e1 with e1
      injection e1 with e2 e3
      subst e2 e3
      rw [Nat.zero_add] at hc
      exact World.cell?_setCell_same _ _ _ hc
    · rw [List.getElem?_set_ne e] at hj
      obtain ⟨b, o, e1, hc⟩ := h2 j y hj
      injection e1 with e1
      injection e1 with e2 e3
      subst e2 e3
      rw [Nat.zero_add] at hc
      rw [World.cell?_setCell_other _ _ _ _ (by intro x; injection x with x1 x2; exact e x2)]
      exact hc
  · rcases List.mem_or_eq_of_mem_set hy with h | h
    · exact hr y h
    · rw [h]; exact hv
theorem lli_tail {w : World} {b o m e : Nat} {L : List (List Int)} (h : LLi w (.slice (some ⟨b, o, none⟩) m e) L) : LLi w (.slice (some ⟨b, o + 1, none⟩) (m - 1) (e - 1)) L.tail := by
  obtain ⟨p', c', e', h2⟩ := h
  injection e' with a1 a2 a3
  subst a1 a2 a3
  refine ⟨_, _, by rw [List.length_tail], fun j l hj => ?_⟩
  rw [List.getElem?_tail] at hj
  obtain ⟨b', o', u, e1, hc, hs⟩ := h2 (j+1) l hj
  injection e1 with e1
  injection e1 with e2 e3
  subst e2 e3
  exact ⟨b, o + 1, u, rfl, by rw [Nat.add_assoc, Nat.add_comm 1 j]; exact hc, hs⟩
theorem many_tail (L : List (List Int)) : many L.tail ≤ many L := by
  cases L with
  | nil => exact Nat.le_refl _
  | cons l L => unfold many; simp
/-- what the loops keep: three keys, the partials -/
structure VK (w : World) (gk gt g7 : Nat) (v0 v1 v2 v3 v4 v5 : Value) (q0 : Int) (P1 P2 P3 P4 : World → Prop) (W : World) : Prop where
  b : Below w.heap.size w W
  k0 : W.cell? ⟨gk, 0, none⟩ = some v0
  k1 : W.cell? ⟨gk, 1, none⟩ = some v1
  t0 : W.cell? ⟨gt, 0, none⟩ = some v2
  t1 : W.cell? ⟨gt, 1, none⟩ = some v3
  s0 : W.cell? ⟨g7, 0, none⟩ = some v4
  s1 : W.cell? ⟨g7, 1, none⟩ = some v5
  cq : W.cell? ⟨w.heap.size + 1, 0, none⟩ = some (.int .i64 q0)
  x : P1 W ∧ P2 W ∧ P3 W ∧ P4 W
theorem VK.next {w : World} {gk gt g7 : Nat} {v0 v1 v2 v3 v4 v5 : Value} {q0 : Int} {P1 P2 P3 P4 : World → Prop} {W V : World} (h : VK w gk gt g7 v0 v1 v2 v3 v4 v5 q0 P1 P2 P3 P4 W) (k : Below W.heap.size W V) (h1 : P1 W → P1 V) (h2 : P2 W → P2 V) (h3 : P3 W → P3 V) (h4 : P4 W → P4 V) : VK w gk gt g7 v0 v1 v2 v3 v4 v5 q0 P1 P2 P3 P4 V :=
  ⟨h.b.trans (k.mono h.b.size), (k.cell (p := ⟨gk, 0, none⟩) (World.block_lt_of_cell? _ _ h.k0)).trans h.k0, (k.cell (p := ⟨gk, 1, none⟩) (World.block_lt_of_cell? _ _ h.k1)).trans h.k1, (k.cell (p := ⟨gt, 0, none⟩) (World.block_lt_of_cell? _ _ h.t0)).trans h.t0, (k.cell (p := ⟨gt, 1, none⟩) (World.block_lt_of_cell? _ _ h.t1)).trans h.t1, (k.cell (p := ⟨g7, 0, none⟩) (World.block_lt_of_cell? _ _ h.s0)).trans h.s0, (k.cell (p := ⟨g7, 1, none⟩) (World.block_lt_of_cell? _ _ h.s1)).trans h.s1, (k.cell (p := ⟨w.heap.size + 1, 0, none⟩) (World.block_lt_of_cell? _ _ h.cq)).trans h.cq, h1 h.x.1, h2 h.x.2.1, h3 h.x.2.2.1, h4 h.x.2.2.2⟩
theorem own_heap {w : World} {base : Nat} {e : TypeId} {size n g c : Nat} {xs : List Value} (h : w.ownsRow base e size (.slice (some ⟨g, 0, none⟩) n c) n xs) : ∃ cur, w.heap[g]? = some (.cells cur e (0, 0)) := by
  rcases h.2 with ⟨h1, _⟩ | ⟨g', cap, cur, h1, h2, h3, _⟩
  · cases h1
  · injection h1 with a1 a2 a3
    injection a1 with a1
    injection a1 with a1
    subst a1
    exact ⟨cur, h3⟩
set_option maxRecDepth 100000 in
set_option maxHeartbeats 8000000 in
theorem verifies_core (w : World) (pw0 pw1 pl : Option Addr) (nw0 cw0 nw1 cw1 nl cl : Nat) (q0 q1 q2 q3 q4 q5 : Int) (hq0 : i64 q0) (hq1 : i64 q1) (hq2 : i64 q2) (hq3 : i64 q3) (hq4 : i64 q4) (hq5 : i64 q5) (CF C : List Int) (L : List (List Int)) (hC1 : 0 < C.length) (hC2 : C.length ≤ 60) (hL1 : 0 < L.length) (hL2 : L.length ≤ 60) (hmn : many L ≤ 60) (vb : List Int → List (List Int) → Pa → Bool)
    (F : Nat) (hF : F < C.length) (hFq : Int.tmod (Int.tmod q1 (C.length : Int) + (C.length : Int)) (C.length : Int) = (F : Int))
    (SA : Hid (∀ W, Below w.heap.size w W → Calls Tryz.prog 10 #[] W fun e w' => e = .returned (.bool true) ∧ Below W.heap.size W w'))
    (MA : Hid (∀ W, Below w.heap.size w W → Calls Tryz.prog 16 #[.agg #[.slice pw0 nw0 cw0, .slice pw1 nw1 cw1]] W (MQc W CF C L)))
    (PA : Hid (∀ W (p q pc : Option Addr) (ck cq cc : Nat), Below w.heap.size w W → KY W p q C.length ck L.length cq C L → SLi W (.slice pc CF.length cc) CF → Calls Tryz.prog 17 #[.slice pc CF.length cc, .agg #[.slice p C.length ck, .slice q L.length cq], .int .i64 q0, .slice pl nl cl] W fun e w' => (∃ v A, e = .returned v ∧ pis A ∧ A.length ≤ 30 ∧ w'.ownsRow W.heap.size 30 4 v A.length (fl4 A)) ∧ Below W.heap.size W w'))
    (RB : Hid (∀ C L s, pi64 s → many L ≤ 60 → ∀ W (p q : Option Addr) (n c m e : Nat), Below w.heap.size w W → KY W p q n c m e C L → Calls Tryz.prog 18 #[.agg #[.slice p n c, .slice q m e], .int .i64 q0, pav s] W fun e w' => e = .returned (.bool (vb C L s)) ∧ Below W.heap.size W w'))
    (RR : Hid (∀ C L s, pi64 s → many L ≤ 60 → ∀ W (p q : Option Addr) (n c m e : Nat), Below w.heap.size w W → KY W p q n c m e C L → Calls Tryz.prog 19 #[.agg #[.slice p n c, .slice q m e], .int .i64 q0, pav s] W fun e w' => e = .returned (.bool (vb C L s)) ∧ Below W.heap.size W w')) :
    Calls Tryz.prog 4 #[.agg #[.slice pw0 nw0 cw0, .slice pw1 nw1 cw1], .slice pl nl cl, .agg #[.int .i64 q0, .int .i64 q1, .int .i64 q2, .int .i64 q3, .int .i64 q4, .int .i64 q5]] w fun e w' => e = .returned (.bool true) ∧ Below w.heap.size w w' := by
  obtain ⟨i0, hi, hz0, hz1, hz2⟩ := info_parts infoP4
  obtain ⟨m0, hm, hy0, hy1, hy2⟩ := info_parts infoI9
  obtain ⟨W, hW⟩ : ∃ W, (w.alloc (.cells #[.slice pw0 nw0 cw0, .slice pw1 nw1 cw1] 36)).alloc (.cells #[.int .i64 q0, .int .i64 q1, .int .i64 q2, .int .i64 q3, .int .i64 q4, .int .i64 q5] 38) = W := ⟨_, rfl⟩
  have K0 : CK w [(⟨w.heap.size + 1, 0, none⟩, .int .i64 q0), (⟨w.heap.size + 1, 1, none⟩, .int .i64 q1), (⟨w.heap.size + 1, 2, none⟩, .int .i64 q2), (⟨w.heap.size + 1, 3, none⟩, .int .i64 q3), (⟨w.heap.size + 1, 4, none⟩, .int .i64 q4), (⟨w.heap.size + 1, 5, none⟩, .int .i64 q5), (⟨w.heap.size, 0, none⟩, .slice pw0 nw0 cw0), (⟨w.heap.size, 1, none⟩, .slice pw1 nw1 cw1)] [] W := by
    have := ((CK.start w).cells #[.slice pw0 nw0 cw0, .slice pw1 nw1 cw1] 36 _ rfl).cells #[.int .i64 q0, .int .i64 q1, .int .i64 q2, .int .i64 q3, .int .i64 q4, .int .i64 q5] 38 _ rfl
    rw [hW, World.size_alloc] at this
    exact this.sub (by simp) (by simp)
  have HK := Lib.hid K0
  have HFF := Lib.hid (And.intro hF hFq)
  have HCL := Lib.hid (And.intro hC1 (And.intro hC2 (And.intro hL1 (And.intro hL2 hmn))))
  clear K0 hF hFq
  have c0 := HK.out.get ⟨w.heap.size, 0, none⟩ (.slice pw0 nw0 cw0) (by simp)
  have c1 := HK.out.get ⟨w.heap.size, 1, none⟩ (.slice pw1 nw1 cw1) (by simp)
  go_enter Tryz.func4, Tryz.ntmps4
  go_upto_region 1 with fail
  clear hW c0 c1
  go_wp2_with fail
  refine (SA.out _ HK.out.b).mono ?_
  rintro e w1 ⟨rfl, b1⟩
  replace HK := Lib.hid (HK.out.next b1); clear b1
  have c0 := HK.out.get ⟨w.heap.size, 0, none⟩ (.slice pw0 nw0 cw0) (by simp)
  have c1 := HK.out.get ⟨w.heap.size, 1, none⟩ (.slice pw1 nw1 cw1) (by simp)
  go_wp2_with fail
  refine (MA.out _ HK.out.b).mono ?_
  rintro e w2 ⟨⟨pc, pk, pq, cc, ck, cq, rfl, hs, hy, hcap⟩, b2⟩
  have hLK := lk_start (HK.out.b.trans (b2.mono HK.out.b.size)) hs hy
  have HQ2 := Lib.hid (HK.out.next b2)
  clear b2 hs hy HK c0 c1 MA SA
  obtain ⟨NC, hNC⟩ : ∃ n, C.length = n := ⟨_, rfl⟩
  obtain ⟨NL, hNL⟩ : ∃ n, L.length = n := ⟨_, rfl⟩
  obtain ⟨NF, hNF⟩ : ∃ n, CF.length = n := ⟨_, rfl⟩
  rw [hNC, hNL, hNF] at hLK PA ⊢
  rw [hNC] at HFF hC1 hC2
  rw [hNL] at hL1 hL2 hcap
  have HCAP := Lib.hid hcap
  clear hcap
  have HNN := Lib.hid (And.intro hNC hNL)
  clear hNF hNC hNL
  go_upto_region 3 with fail
  have bK := (Below.refl w2.heap.size w2).alloc (Nat.le_refl _) (.cells #[.slice pk NC ck, .slice pq NL cq] 41)
  have HQ3 := Lib.hid (HQ2.out.next bK)
  obtain ⟨W3, hW3⟩ : ∃ V, w2.alloc (.cells #[.slice pk NC ck, .slice pq NL cq] 41) = V := ⟨_, rfl⟩
  rw [hW3] at hLK HQ3 ⊢
  obtain ⟨gk, hgk⟩ : ∃ g, w2.heap.size = g := ⟨_, rfl⟩
  rw [hgk] at hLK ⊢
  have HLK3 := Lib.hid hLK
  clear hLK hW3 hgk HQ2 bK
  have HC3 : Hid (CK w [(⟨gk, 0, none⟩, .slice pk NC ck), (⟨gk, 1, none⟩, .slice pq NL cq), (⟨w.heap.size + 1, 0, none⟩, .int .i64 q0), (⟨w.heap.size + 1, 1, none⟩, .int .i64 q1), (⟨w.heap.size + 1, 2, none⟩, .int .i64 q2), (⟨w.heap.size + 1, 3, none⟩, .int .i64 q3), (⟨w.heap.size + 1, 4, none⟩, .int .i64 q4), (⟨w.heap.size + 1, 5, none⟩, .int .i64 q5)] [] W3) := Lib.hid ((((HQ3.out.sub (M := [(⟨w.heap.size + 1, 0, none⟩, .int .i64 q0), (⟨w.heap.size + 1, 1, none⟩, .int .i64 q1), (⟨w.heap.size + 1, 2, none⟩, .int .i64 q2), (⟨w.heap.size + 1, 3, none⟩, .int .i64 q3), (⟨w.heap.size + 1, 4, none⟩, .int .i64 q4), (⟨w.heap.size + 1, 5, none⟩, .int .i64 q5)]) (Y := []) (by simp) (by simp)).more9 _ _ HLK3.out.c1).more9 _ _ HLK3.out.c0))
  have HBS : Hid (w.heap.size ≤ W3.heap.size ∧ ∀ p ∈ ([(⟨gk, 0, none⟩, .slice pk NC ck), (⟨gk, 1, none⟩, .slice pq NL cq), (⟨w.heap.size + 1, 0, none⟩, .int .i64 q0), (⟨w.heap.size + 1, 1, none⟩, .int .i64 q1), (⟨w.heap.size + 1, 2, none⟩, .int .i64 q2), (⟨w.heap.size + 1, 3, none⟩, .int .i64 q3), (⟨w.heap.size + 1, 4, none⟩, .int .i64 q4), (⟨w.heap.size + 1, 5, none⟩, .int .i64 q5)] : List (Addr × Value)), p.1.block < W3.heap.size) := Lib.hid ⟨HC3.out.b.size, fun p hp => World.block_lt_of_cell? _ _ (HC3.out.c p hp)⟩
  clear HQ3
  go_cut [10] from 16 (fun v wx => ∃ (p : Option Addr) (c : Nat) (A : List Pa), v = .slice p A.length c ∧ Hid (Below W3.heap.size W3 wx ∧ PaL wx (.slice p A.length c) A ∧ A.length ≤ 31))
  case first =>
    go_upto_region 3 with fail
    have HLK := Lib.hid (HLK3.out.next (Below.refl _ _).drew)
    have HWD := Lib.hid ((Below.refl W3.heap.size W3).drew)
    refine wp_region_held_drew (S := CK w [(⟨gk, 0, none⟩, .slice pk NC ck), (⟨gk, 1, none⟩, .slice pq NL cq), (⟨w.heap.size + 1, 0, none⟩, .int .i64 q0), (⟨w.heap.size + 1, 1, none⟩, .int .i64 q1), (⟨w.heap.size + 1, 2, none⟩, .int .i64 q2), (⟨w.heap.size + 1, 3, none⟩, .int .i64 q3), (⟨w.heap.size + 1, 4, none⟩, .int .i64 q4), (⟨w.heap.size + 1, 5, none⟩, .int .i64 q5)] []) (by kernel_rfl) HC3.out.drew (fun hS => ?_)
    have hwd : W3.drew.heap.size = W3.heap.size := rfl
    rw [← hwd] at HBS
    clear hwd HC3 HLK3
    generalize World.drew W3 = wd at *
    refine wpAnyH_take (i := 0) (v := ?vva0) rfl (by kernel_rfl) (by kernel_rfl) (by kernel_rfl) (fun _ _ _ h => h) (Or.inl ⟨by rfl, ?yva0⟩) hS ?rva0
    case yva0 => (intro w hS; go_simp; try with_reducible rfl)
    refine wpAnyH_take (i := 1) (v := .agg #[.slice pk NC ck, .slice pq NL cq]) rfl (by kernel_rfl) (by kernel_rfl) (by kernel_rfl) (fun _ _ _ h => h) (Or.inl ⟨by rfl, ?yva1⟩) hS ?rva1
    case yva1 => (intro w' hS; have cf := hS.get ⟨gk, 0, none⟩ (.slice pk NC ck) (by simp); have cg1 := hS.get ⟨gk, 1, none⟩ (.slice pq NL cq) (by simp); go_simp; try with_reducible rfl)
    refine wpAnyH_take (i := 2) (v := ?vva2) rfl (by kernel_rfl) (by kernel_rfl) (by kernel_rfl) (fun _ _ _ h => h) (Or.inl ⟨by rfl, ?yva2⟩) hS ?rva2
    case yva2 => (intro w hS; go_simp; try with_reducible rfl)
    refine wpAnyH_take (i := 4) (v := ?vva4) rfl (by kernel_rfl) (by kernel_rfl) (by kernel_rfl) (fun _ _ _ h => h) (Or.inl ⟨by rfl, ?yva4⟩) hS ?rva4
    case yva4 => (intro w hS; go_simp; try with_reducible rfl)
    refine wpAnyH_take (i := 6) (v := ?vva6) rfl (by kernel_rfl) (by kernel_rfl) (by kernel_rfl) (fun _ _ _ h => h) (Or.inl ⟨by rfl, ?yva6⟩) hS ?rva6
    case yva6 => (intro w hS; go_simp; try with_reducible rfl)
    refine wpAnyH_take (i := 8) (v := ?vva8) rfl (by kernel_rfl) (by kernel_rfl) (by kernel_rfl) (fun _ _ _ h => h) (Or.inl ⟨by rfl, ?yva8⟩) hS ?rva8
    case yva8 => (intro w hS; go_simp; try with_reducible rfl)
    refine wpAnyH_take (i := 10) (v := ?vva10) rfl (by kernel_rfl) (by kernel_rfl) (by kernel_rfl) (fun _ _ _ h => h) (Or.inl ⟨by rfl, ?yva10⟩) hS ?rva10
    case yva10 => (intro w hS; go_simp; try with_reducible rfl)
    refine wpAnyH_take (i := 12) (v := ?vva12) rfl (by kernel_rfl) (by kernel_rfl) (by kernel_rfl) (fun _ _ _ h => h) (Or.inl ⟨by rfl, ?yva12⟩) hS ?rva12
    case yva12 => (intro w hS; go_simp; try with_reducible rfl)
    go_simp
    refine wpAnyH_take (i := 3) (v := .int .i64 q0) rfl (by kernel_rfl) (by kernel_rfl) (by kernel_rfl) (fun _ _ _ h => h) (Or.inl ⟨by rfl, ?yva3⟩) hS ?rva3
    case yva3 => (intro w' hS; have cf := hS.get ⟨w.heap.size + 1, 0, none⟩ (.int .i64 q0) (by simp); go_simp; try with_reducible rfl)
    refine wpAnyH_take (i := 7) (v := .int .i64 q2) rfl (by kernel_rfl) (by kernel_rfl) (by kernel_rfl) (fun _ _ _ h => h) (Or.inl ⟨by rfl, ?yva7⟩) hS ?rva7
    case yva7 => (intro w' hS; have cf := hS.get ⟨w.heap.size + 1, 2, none⟩ (.int .i64 q2) (by simp); go_simp; try with_reducible rfl)
    refine wpAnyH_take (i := 9) (v := .int .i64 q3) rfl (by kernel_rfl) (by kernel_rfl) (by kernel_rfl) (fun _ _ _ h => h) (Or.inl ⟨by rfl, ?yva9⟩) hS ?rva9
    case yva9 => (intro w' hS; have cf := hS.get ⟨w.heap.size + 1, 3, none⟩ (.int .i64 q3) (by simp); go_simp; try with_reducible rfl)
    refine wpAnyH_take (i := 11) (v := .int .i64 q4) rfl (by kernel_rfl) (by kernel_rfl) (by kernel_rfl) (fun _ _ _ h => h) (Or.inl ⟨by rfl, ?yva11⟩) hS ?rva11
    case yva11 => (intro w' hS; have cf := hS.get ⟨w.heap.size + 1, 4, none⟩ (.int .i64 q4) (by simp); go_simp; try with_reducible rfl)
    refine wpAnyH_take (i := 13) (v := .int .i64 q5) rfl (by kernel_rfl) (by kernel_rfl) (by kernel_rfl) (fun _ _ _ h => h) (Or.inl ⟨by rfl, ?yva13⟩) hS ?rva13
    case yva13 => (intro w' hS; have cf := hS.get ⟨w.heap.size + 1, 5, none⟩ (.int .i64 q5) (by simp); go_simp; try with_reducible rfl)
    go_simp
    refine wpAnyH_take (i := 14) (v := ?vva14) rfl (by kernel_rfl) (by kernel_rfl) (by kernel_rfl) (fun _ _ _ h => h) (Or.inl ⟨by rfl, ?yva14⟩) hS ?rva14
    case yva14 => (intro w hS; go_simp; try with_reducible rfl)
    go_simp
    refine wpAnyH_take (i := 15) (v := ?vva15) rfl (by kernel_rfl) (by kernel_rfl) (by kernel_rfl) (fun _ _ _ h => h) (Or.inl ⟨by rfl, ?yva15⟩) hS ?rva15
    case yva15 => (intro w hS; go_simp; try with_reducible rfl)
    go_simp
    refine wpAnyH_ready (rs := [5, 16]) (by kernel_rfl) (by simp) ?_
    refine (AllReadyH.cons (o := { dst := some 27, op := .call { callee := .value (.func 17), args := #[.tmp 22, .tmp 23, .tmp 25, .tmp 26], argTypes := #[34, 41, 3, 37] }, type := 44, pos := "law.go:36", after := #[⟨0, .data⟩, ⟨1, .data⟩, ⟨3, .data⟩, ⟨4, .data⟩], guard := none }) rfl (fun K hK => ?_) (AllReadyH.cons (o := { dst := some 38, op := .buildSlice 44 1 #[(0, .tmp 37)], type := 44, pos := "law.go:36", after := #[⟨15, .data⟩], guard := none }) rfl (fun K hK => ?_) AllReadyH.nil))
    · go_simp
      go_at_call 17
      refine (PA.out _ pk pq pc ck cq cc hS.b HLK.out.y HLK.out.s).mono ?_
      rintro e w' ⟨⟨mv, A, rfl, hpis, hA30, hmo⟩, b⟩
      have hS2 := hS.next b
      have HM : Hid (FQ wd mv A w') := Lib.hid ⟨b, hmo⟩
      clear b hS hmo
      try go_simp
      refine hK.out _ _ hS2 (fun hS => ?_)
      clear hK K hS2
      have HPI : Hid (pis A) := Lib.hid hpis
      clear hpis
      obtain ⟨p5, c5, hmv⟩ := own_shape HM.out.oa
      subst hmv
      obtain ⟨NA, hNA⟩ : ∃ n, A.length = n := ⟨_, rfl⟩
      rw [hNA] at hA30 HM ⊢
      have HNA := Lib.hid hNA
      clear hNA
      refine wpAnyH_ready (rs := [16]) (by kernel_rfl) (by simp) ?_
      refine (AllReadyH.cons (o := { dst := some 38, op := .buildSlice 44 1 #[(0, .tmp 37)], type := 44, pos := "law.go:36", after := #[⟨15, .data⟩], guard := none }) rfl (fun K hK => ?_) AllReadyH.nil)
      go_simp
      have hN := heap_alloc_new w' (.cells #[.int .i64 q2, .int .i64 q3, .int .i64 q4, .int .i64 q5] 30)
      have bA := (Below.refl w'.heap.size w').alloc (Nat.le_refl _) (.cells #[.int .i64 q2, .int .i64 q3, .int .i64 q4, .int .i64 q5] 30)
      have hS2 := hS.next bA
      replace HM := Lib.hid (HM.out.next bA)
      clear hS
      refine hK.out _ _ hS2 (fun hS => ?_)
      clear hK K hS2
      obtain ⟨g8, hg8⟩ : ∃ g, w'.heap.size = g := ⟨_, rfl⟩
      rw [hg8] at hN ⊢
      obtain ⟨w8, hw8⟩ : ∃ V, World.alloc w' (.cells #[.int .i64 q2, .int .i64 q3, .int .i64 q4, .int .i64 q5] 30) = V := ⟨_, rfl⟩
      rw [hw8] at hN hS HM ⊢
      clear hw8 hg8
      clear bA
      refine wpAnyH_ready (rs := [17]) (by kernel_rfl) (by simp) ?_
      refine (AllReadyH.cons (o := { dst := some 39, op := .call { callee := .builtin .append, args := #[.tmp 27, .tmp 38], argTypes := #[44, 44] }, type := 44, pos := "law.go:36", after := #[⟨5, .data⟩, ⟨16, .data⟩, ⟨5, .chain⟩], guard := none }) rfl (fun K hK => ?_) AllReadyH.nil)
      have ho := HM.out.oa
      rw [HNA.out] at ho
      refine step_append_lies _ rfl _ _ 44 rfl wd.heap.size 30 i0 (.agg #[.int .i64 0, .int .i64 0, .int .i64 0, .int .i64 0]) 4 32 Tryz.underlying44 hi hz0 hz1 hz2 rfl (by decide) _ NA (fl4 A) rfl ho ⟨g8, 0, none⟩ 1 1 [.int .i64 q2, .int .i64 q3, .int .i64 q4, .int .i64 q5] rfl rfl (World.news_of_block hN) (by simp [Value.oneCell']) Nat.zero_lt_one (by unfold maxLen; omega) (by omega) HM.out.bl.size _ rfl ?_
      intro g9 c9 w9 hown9 hgrow9 hat9 hlt9
      have b9 : Below wd.heap.size wd w9 := HM.out.bl.grown hgrow9 HM.out.bl.size (fun r hr => (HM.out.oa.lt r hr).1)
      have hS2 := hS.grown hgrow9 wd.heap.size HBS.out.1 (fun r hr => (HM.out.oa.lt r hr).1) HBS.out.2
      have HP9 := Lib.hid (own_PaL (l := A ++ [(q2, q3, q4, q5)]) (by rw [List.length_append, HNA.out, fl4_app]; exact hown9) (fun t ht => by
        rcases List.mem_append.1 ht with ht | ht
        · exact HPI.out t ht
        · rw [List.mem_singleton.1 ht]; exact ⟨hq2, hq3, hq4, hq5⟩) (by rw [List.length_append, HNA.out]; show NA + 1 ≤ _; omega))
      have HB9 := Lib.hid b9
      clear hS ho hown9 hgrow9 hat9 hlt9 b9 hN
      refine hK.out _ _ hS2 (fun hS => ?_)
      clear hK K hS2
      refine wpAnyH_take (i := 18) (v := ?vvaa18) rfl (by kernel_rfl) (by kernel_rfl) (by kernel_rfl) (fun _ _ _ h => h) (Or.inl ⟨by rfl, ?yvaa18⟩) hS ?rvaa18
      case yvaa18 => (intro w hS; go_simp; try with_reducible rfl)
      refine wpAnyH_done (by kernel_rfl) ?_ _
      go_wp2_with fail
      go_meet
      exact ⟨some ⟨g9, 0, none⟩, c9, A ++ [(q2, q3, q4, q5)], by rw [List.length_append, HNA.out]; rfl, Lib.hid ⟨(HWD.out.trans (HB9.out.mono HWD.out.size)), by rw [List.length_append, HNA.out]; exact HP9.out, by rw [List.length_append, HNA.out]; show NA + 1 ≤ 31; omega⟩⟩
    · go_simp
      have hN := heap_alloc_new wd (.cells #[.int .i64 q2, .int .i64 q3, .int .i64 q4, .int .i64 q5] 30)
      have bA := (Below.refl wd.heap.size wd).alloc (Nat.le_refl _) (.cells #[.int .i64 q2, .int .i64 q3, .int .i64 q4, .int .i64 q5] 30)
      have hS2 := hS.next bA
      replace HLK := Lib.hid (HLK.out.next bA)
      clear hS
      refine hK.out _ _ hS2 (fun hS => ?_)
      clear hK K hS2
      obtain ⟨g8, hg8⟩ : ∃ g, wd.heap.size = g := ⟨_, rfl⟩
      rw [hg8] at hN ⊢
      obtain ⟨w8, hw8⟩ : ∃ V, World.alloc wd (.cells #[.int .i64 q2, .int .i64 q3, .int .i64 q4, .int .i64 q5] 30) = V := ⟨_, rfl⟩
      rw [hw8] at hN hS HLK bA ⊢
      clear hw8 hg8
      refine wpAnyH_ready (rs := [5]) (by kernel_rfl) (by simp) ?_
      refine (AllReadyH.cons (o := { dst := some 27, op := .call { callee := .value (.func 17), args := #[.tmp 22, .tmp 23, .tmp 25, .tmp 26], argTypes := #[34, 41, 3, 37] }, type := 44, pos := "law.go:36", after := #[⟨0, .data⟩, ⟨1, .data⟩, ⟨3, .data⟩, ⟨4, .data⟩], guard := none }) rfl (fun K hK => ?_) AllReadyH.nil)
      go_simp
      go_at_call 17
      refine (PA.out _ pk pq pc ck cq cc hS.b HLK.out.y HLK.out.s).mono ?_
      rintro e w' ⟨⟨mv, A, rfl, hpis, hA30, hmo⟩, b⟩
      have hS2 := hS.next b
      have HM : Hid (FQ wd mv A w') := Lib.hid ⟨bA.trans (b.mono bA.size), own_base' hmo bA.size⟩
      replace hN := (b.block _ (Array.getElem?_eq_some_iff.1 hN).1).trans hN
      clear bA
      clear b hS hmo
      try go_simp
      refine hK.out _ _ hS2 (fun hS => ?_)
      clear hK K hS2
      have HPI : Hid (pis A) := Lib.hid hpis
      clear hpis
      obtain ⟨p5, c5, hmv⟩ := own_shape HM.out.oa
      subst hmv
      obtain ⟨NA, hNA⟩ : ∃ n, A.length = n := ⟨_, rfl⟩
      rw [hNA] at hA30 HM ⊢
      have HNA := Lib.hid hNA
      clear hNA
      refine wpAnyH_ready (rs := [17]) (by kernel_rfl) (by simp) ?_
      refine (AllReadyH.cons (o := { dst := some 39, op := .call { callee := .builtin .append, args := #[.tmp 27, .tmp 38], argTypes := #[44, 44] }, type := 44, pos := "law.go:36", after := #[⟨5, .data⟩, ⟨16, .data⟩, ⟨5, .chain⟩], guard := none }) rfl (fun K hK => ?_) AllReadyH.nil)
      have ho := HM.out.oa
      rw [HNA.out] at ho
      refine step_append_lies _ rfl _ _ 44 rfl wd.heap.size 30 i0 (.agg #[.int .i64 0, .int .i64 0, .int .i64 0, .int .i64 0]) 4 32 Tryz.underlying44 hi hz0 hz1 hz2 rfl (by decide) _ NA (fl4 A) rfl ho ⟨g8, 0, none⟩ 1 1 [.int .i64 q2, .int .i64 q3, .int .i64 q4, .int .i64 q5] rfl rfl (World.news_of_block hN) (by simp [Value.oneCell']) Nat.zero_lt_one (by unfold maxLen; omega) (by omega) HM.out.bl.size _ rfl ?_
      intro g9 c9 w9 hown9 hgrow9 hat9 hlt9
      have b9 : Below wd.heap.size wd w9 := HM.out.bl.grown hgrow9 HM.out.bl.size (fun r hr => (HM.out.oa.lt r hr).1)
      have hS2 := hS.grown hgrow9 wd.heap.size HBS.out.1 (fun r hr => (HM.out.oa.lt r hr).1) HBS.out.2
      have HP9 := Lib.hid (own_PaL (l := A ++ [(q2, q3, q4, q5)]) (by rw [List.length_append, HNA.out, fl4_app]; exact hown9) (fun t ht => by
        rcases List.mem_append.1 ht with ht | ht
        · exact HPI.out t ht
        · rw [List.mem_singleton.1 ht]; exact ⟨hq2, hq3, hq4, hq5⟩) (by rw [List.length_append, HNA.out]; show NA + 1 ≤ _; omega))
      have HB9 := Lib.hid b9
      clear hS ho hown9 hgrow9 hat9 hlt9 b9 hN
      refine hK.out _ _ hS2 (fun hS => ?_)
      clear hK K hS2
      refine wpAnyH_take (i := 18) (v := ?vvab18) rfl (by kernel_rfl) (by kernel_rfl) (by kernel_rfl) (fun _ _ _ h => h) (Or.inl ⟨by rfl, ?yvab18⟩) hS ?rvab18
      case yvab18 => (intro w hS; go_simp; try with_reducible rfl)
      refine wpAnyH_done (by kernel_rfl) ?_ _
      go_wp2_with fail
      go_meet
      exact ⟨some ⟨g9, 0, none⟩, c9, A ++ [(q2, q3, q4, q5)], by rw [List.length_append, HNA.out]; rfl, Lib.hid ⟨(HWD.out.trans (HB9.out.mono HWD.out.size)), by rw [List.length_append, HNA.out]; exact HP9.out, by rw [List.length_append, HNA.out]; show NA + 1 ≤ 31; omega⟩⟩
  case rest =>
  obtain ⟨p5, c5, A, rfl, H5⟩ := hcut
  have HLK := Lib.hid (HLK3.out.next H5.out.1)
  have HC := Lib.hid (HC3.out.next H5.out.1)
  have HPA := Lib.hid H5.out.2.1
  have hA31 := H5.out.2.2
  clear H5 HLK3 HC3 HBS PA
  obtain ⟨NA, hNA⟩ : ∃ n, A.length = n := ⟨_, rfl⟩
  rw [hNA] at HPA hA31 ⊢
  have HNA := Lib.hid hNA
  clear hNA
  obtain ⟨bC, oC, hpC⟩ : ∃ b o, pk = some ⟨b, o, none⟩ := by
    obtain ⟨p9, c9, e9, h9⟩ := HLK.out.y.c.h
    injection e9 with a1 a2 a3
    obtain ⟨b, o, e, hx⟩ := h9 0 _ (List.getElem?_eq_getElem HCL.out.1)
    exact ⟨b, o, by rw [a1, e]⟩
  subst hpC
  obtain ⟨bQ, oQ, hpQ⟩ : ∃ b o, pq = some ⟨b, o, none⟩ := by
    obtain ⟨p9, c9, e9, h9⟩ := HLK.out.y.l
    injection e9 with a1 a2 a3
    obtain ⟨b, o, u, e, hx⟩ := h9 0 _ (List.getElem?_eq_getElem HCL.out.2.2.1)
    exact ⟨b, o, by rw [a1, e]⟩
  subst hpQ
  have c0 := HLK.out.c0
  have c1 := HLK.out.c1
  go_upto_region 5 with fail
  have bT := (Below.refl wc.heap.size wc).alloc (Nat.le_refl _) (.cells #[.slice (some ⟨bC, oC, none⟩) NC ck, .slice (some ⟨bQ, oQ, none⟩) NL cq] 41)
  have hm4 := heap_alloc_new wc (.cells #[.slice (some ⟨bC, oC, none⟩) NC ck, .slice (some ⟨bQ, oQ, none⟩) NL cq] 41)
  have hgkl := World.block_lt_of_cell? _ _ c0
  obtain ⟨W4, hW4⟩ : ∃ V, wc.alloc (.cells #[.slice (some ⟨bC, oC, none⟩) NC ck, .slice (some ⟨bQ, oQ, none⟩) NL cq] 41) = V := ⟨_, rfl⟩
  rw [hW4] at bT hm4 ⊢
  obtain ⟨gt, hgt⟩ : ∃ g, wc.heap.size = g := ⟨_, rfl⟩
  rw [hgt] at hm4 ⊢
  have hgt4 : gt < W4.heap.size := (Array.getElem?_eq_some_iff.1 hm4).1
  have HGT := Lib.hid (show wc.heap.size = gt ∧ gt < W4.heap.size ∧ gk < gt from ⟨hgt, hgt4, by rw [← hgt]; exact hgkl⟩)
  have HLK4 := Lib.hid (HLK.out.next bT)
  have HC4 := Lib.hid (HC.out.next bT)
  have HPA4 := Lib.hid (HPA.out.next bT)
  have HM4 := Lib.hid hm4
  have HBT := Lib.hid bT
  have hw4 := HC4.out.b.size
  have HSC := Lib.hid (HLK4.out.y.c)
  have HNC := Lib.hid HNN.out.1
  clear hW4 hgt hgt4 hgkl bT hm4 c0 c1
  have c0 : (W4.alloc (.cells #[] 3)).cell? ⟨gk, 0, none⟩ = some (.slice (some ⟨bC, oC, none⟩) NC ck) := (((Below.refl _ W4).alloc (Nat.le_refl _) (.cells #[] 3)).cell (p := ⟨gk, 0, none⟩) (World.block_lt_of_cell? _ _ HLK4.out.c0)).trans HLK4.out.c0
  go_wp2_with (at_builtin; go_must (refine wpList_append_lies _ rfl _ _ 34 rfl W4.heap.size 3 m0 (.int .i64 0) 1 8 Tryz.underlying34 hm hy0 hy1 hy2 rfl (by decide) _ 0 [] rfl (own_empty W4) ⟨bC, oC, none⟩ NC ck (C.map (Value.int .i64)) rfl (by rw [List.length_map, HNC.out]; omega) (sli_news (HSC.out.next ((Below.refl _ W4).alloc (Nat.le_refl _) _))) (int_one C) hC1 (by unfold maxLen; omega) (by omega) (by rw [World.size_alloc]; omega) _ rfl ?_; intro go co w5 hown9 hgrow9 hat9 hlt9; have hgo : W4.heap.size ≤ go := (hown9.lt go rfl).1; have hm5 : w5.heap[gt]? = _ := (hgrow9.block gt (by rw [World.size_alloc]; have := HGT.out.2.1; omega) (fun e => absurd (Option.some.inj (show some gt = some W4.heap.size from e)) (by have := HGT.out.2.1; omega))).trans ((((Below.refl _ W4).alloc (Nat.le_refl _) (.cells #[] 3)).block gt HGT.out.2.1).trans HM4.out); have d0 := cell_of_row _ gt 0 _ _ _ hm5; have f0 := frozen_of_row _ _ 0 _ _ hm5))
  simp only [Nat.zero_add, List.nil_append] at hown9
  have hm6 := heap_setCell_same w5 gt 0 _ _ (.slice (some ⟨go, 0, none⟩) NC co) hm5
  have bx : Below wc.heap.size wc (W4.alloc (.cells #[] 3)) := HBT.out.alloc HBT.out.size _
  have b6 : Below wc.heap.size wc w5 := bx.grown hgrow9 bx.size (fun r hr => by
    have e : W4.heap.size = r := Option.some.inj hr
    rw [← e]; exact HBT.out.size)
  have b7 := b6.setCell (p := ⟨gt, 0, none⟩) (by show wc.heap.size ≤ gt; rw [HGT.out.1]; exact Nat.le_refl _) (.slice (some ⟨go, 0, none⟩) NC co)
  have hog := own_setne' hown9 gt 0 (.slice (some ⟨go, 0, none⟩) NC co) (fun g hg => by
    have e : go = g := Option.some.inj hg
    have := HGT.out.2.1
    omega)
  obtain ⟨W6, hW6⟩ : ∃ V, w5.setCell ⟨gt, 0, none⟩ (.slice (some ⟨go, 0, none⟩) NC co) = V := ⟨_, rfl⟩
  rw [hW6] at hm6 b7 hog ⊢
  have HB7 := Lib.hid b7
  have HM6 := Lib.hid hm6
  have HOG := Lib.hid hog
  have hgtgo : gt < go := by have := HGT.out.2.1; omega
  have hCi := HSC.out.r
  have HOS : Hid (SLi W6 (.slice (some ⟨go, 0, none⟩) NC co) C) := Lib.hid (by
    have := own_SLi (l := C) (by rw [HNC.out]; exact hog) hCi (by rw [HNC.out]; omega)
    exact this)
  have hq1l := World.block_lt_of_cell? _ _ (HC.out.get ⟨w.heap.size + 1, 1, none⟩ (.int .i64 q1) (by simp))
  have hwcl := HGT.out.1
  dsimp only at hq1l
  have HCi := Lib.hid hCi
  have HC6 : Hid (CK w [(⟨gt, 0, none⟩, .slice (some ⟨go, 0, none⟩) NC co), (⟨gt, 1, none⟩, .slice (some ⟨bQ, oQ, none⟩) NL cq), (⟨w.heap.size + 1, 1, none⟩, .int .i64 q1), (⟨w.heap.size + 1, 2, none⟩, .int .i64 q2)] [] W6) := Lib.hid (((((HC.out.next b7).sub (M := [(⟨w.heap.size + 1, 1, none⟩, .int .i64 q1), (⟨w.heap.size + 1, 2, none⟩, .int .i64 q2)]) (Y := []) (by simp) (by simp)).more9 ⟨gt, 1, none⟩ _ (cell_of_row _ gt 1 _ _ _ hm6)).more9 ⟨gt, 0, none⟩ _ (cell_of_row _ gt 0 _ _ _ hm6)))
  have HGO : Hid (w.heap.size ≤ go ∧ ∀ p ∈ ([(⟨gt, 0, none⟩, .slice (some ⟨go, 0, none⟩) NC co), (⟨gt, 1, none⟩, .slice (some ⟨bQ, oQ, none⟩) NL cq), (⟨w.heap.size + 1, 1, none⟩, .int .i64 q1), (⟨w.heap.size + 1, 2, none⟩, .int .i64 q2)] : List (Addr × Value)), p.1.block ≠ go) := Lib.hid ⟨by omega, fun p hp => by
    simp only [List.mem_cons, List.not_mem_nil, or_false] at hp
    rcases hp with rfl | rfl | rfl | rfl
    · show gt ≠ go; omega
    · show gt ≠ go; omega
    · show w.heap.size + 1 ≠ go; omega
    · show w.heap.size + 1 ≠ go; omega⟩
  have HGG := Lib.hid (And.intro hgtgo hwcl)
  clear hown9 hgrow9 hat9 hlt9 hgo hm5 d0 f0 c0 hm6 bx b6 b7 hog hW6 hgtgo hCi hq1l hwcl HSC HLK4 HC4 HPA4 HM4 HBT hw4 HGT
  obtain ⟨hF, hFq⟩ := HFF.out
  obtain ⟨am, ham⟩ : ∃ a, Int.tmod q1 (NC : Int) = a := ⟨_, rfl⟩
  have ham1 : -(NC : Int) < am := by rw [← ham]; have := Int.lt_tmod_of_pos q1 (show (0 : Int) < (NC : Int) by omega); omega
  have ham2 : am < (NC : Int) := by rw [← ham]; exact Int.tmod_lt_of_pos q1 (by omega)
  rw [ham] at hFq
  have hwr : IntKind.i64.wrap (am + (NC : Int)) = am + (NC : Int) := by rw [IntKind.wrap_i64]; omega
  have hN0 : (NC = 0) = False := eq_false (by omega)
  obtain ⟨cv, hcv⟩ : ∃ c, C[F]? = some c := ⟨C[F]'(by rw [HNC.out]; exact hF), List.getElem?_eq_getElem _⟩
  have hcvi := HCi.out cv (List.mem_of_getElem? hcv)
  obtain ⟨vn, hvn⟩ : ∃ v, IntKind.i64.wrap (cv + q2) = v := ⟨_, rfl⟩
  have hvni : i64 vn := by rw [← hvn, IntKind.wrap_i64]; constructor <;> omega
  have HOSd := Lib.hid (HOS.out.next (Below.refl _ _).drew)
  have HOGd := Lib.hid (own_below' HOG.out (Below.refl _ _).drew)
  have HB7d := Lib.hid HB7.out.drew
  have HM6d := Lib.hid (show W6.drew.heap[gt]? = _ from HM6.out)
  refine wp_region_held_drew (S := CK w [(⟨gt, 0, none⟩, .slice (some ⟨go, 0, none⟩) NC co), (⟨gt, 1, none⟩, .slice (some ⟨bQ, oQ, none⟩) NL cq), (⟨w.heap.size + 1, 1, none⟩, .int .i64 q1), (⟨w.heap.size + 1, 2, none⟩, .int .i64 q2)] []) (by kernel_rfl) HC6.out.drew (fun hS => ?_)
  clear HC6 HOS HOG HB7 HM6
  generalize World.drew W6 = wd at *
  have ce : wd.cell? ⟨go, F, none⟩ = some (.int .i64 cv) := by
    obtain ⟨p', c', e', h2⟩ := HOSd.out.h
    injection e' with a1 a2 a3
    obtain ⟨b, o, e, hc⟩ := h2 F cv hcv
    rw [← a1] at e
    injection e with e
    injection e with e1 e2
    subst e1 e2
    rw [Nat.zero_add] at hc
    exact hc
  obtain ⟨cur, hcur⟩ := own_heap HOGd.out
  have fe := frozen_of_row _ _ F _ _ hcur
  have hFn : (F : Int) < (NC : Int) := by omega
  refine wpAnyH_take (i := 0) (v := ?vvb0) rfl (by kernel_rfl) (by kernel_rfl) (by kernel_rfl) (fun _ _ _ h => h) (Or.inl ⟨by rfl, ?yvb0⟩) hS ?rvb0
  case yvb0 => (intro w hS; go_simp; try with_reducible rfl)
  refine wpAnyH_take (i := 2) (v := ?vvb2) rfl (by kernel_rfl) (by kernel_rfl) (by kernel_rfl) (fun _ _ _ h => h) (Or.inl ⟨by rfl, ?yvb2⟩) hS ?rvb2
  case yvb2 => (intro w hS; go_simp; try with_reducible rfl)
  refine wpAnyH_take (i := 4) (v := ?vvb4) rfl (by kernel_rfl) (by kernel_rfl) (by kernel_rfl) (fun _ _ _ h => h) (Or.inl ⟨by rfl, ?yvb4⟩) hS ?rvb4
  case yvb4 => (intro w hS; go_simp; try with_reducible rfl)
  refine wpAnyH_take (i := 8) (v := ?vvb8) rfl (by kernel_rfl) (by kernel_rfl) (by kernel_rfl) (fun _ _ _ h => h) (Or.inl ⟨by rfl, ?yvb8⟩) hS ?rvb8
  case yvb8 => (intro w hS; go_simp; try with_reducible rfl)
  refine wpAnyH_take (i := 12) (v := ?vvb12) rfl (by kernel_rfl) (by kernel_rfl) (by kernel_rfl) (fun _ _ _ h => h) (Or.inl ⟨by rfl, ?yvb12⟩) hS ?rvb12
  case yvb12 => (intro w hS; go_simp; try with_reducible rfl)
  refine wpAnyH_take (i := 18) (v := ?vvb18) rfl (by kernel_rfl) (by kernel_rfl) (by kernel_rfl) (fun _ _ _ h => h) (Or.inl ⟨by rfl, ?yvb18⟩) hS ?rvb18
  case yvb18 => (intro w hS; go_simp; try with_reducible rfl)
  go_simp
  refine wpAnyH_take (i := 1) (v := .slice (some ⟨go, 0, none⟩) NC co) rfl (by kernel_rfl) (by kernel_rfl) (by kernel_rfl) (fun _ _ _ h => h) (Or.inl ⟨by rfl, ?yvb1⟩) hS ?rvb1
  case yvb1 => (intro w' hS; have cf := hS.get ⟨gt, 0, none⟩ (.slice (some ⟨go, 0, none⟩) NC co) (by simp); go_simp; try with_reducible rfl)
  refine wpAnyH_take (i := 3) (v := .int .i64 q1) rfl (by kernel_rfl) (by kernel_rfl) (by kernel_rfl) (fun _ _ _ h => h) (Or.inl ⟨by rfl, ?yvb3⟩) hS ?rvb3
  case yvb3 => (intro w' hS; have cf := hS.get ⟨w.heap.size + 1, 1, none⟩ (.int .i64 q1) (by simp); go_simp; try with_reducible rfl)
  refine wpAnyH_take (i := 5) (v := .slice (some ⟨go, 0, none⟩) NC co) rfl (by kernel_rfl) (by kernel_rfl) (by kernel_rfl) (fun _ _ _ h => h) (Or.inl ⟨by rfl, ?yvb5⟩) hS ?rvb5
  case yvb5 => (intro w' hS; have cf := hS.get ⟨gt, 0, none⟩ (.slice (some ⟨go, 0, none⟩) NC co) (by simp); go_simp; try with_reducible rfl)
  refine wpAnyH_take (i := 9) (v := .slice (some ⟨go, 0, none⟩) NC co) rfl (by kernel_rfl) (by kernel_rfl) (by kernel_rfl) (fun _ _ _ h => h) (Or.inl ⟨by rfl, ?yvb9⟩) hS ?rvb9
  case yvb9 => (intro w' hS; have cf := hS.get ⟨gt, 0, none⟩ (.slice (some ⟨go, 0, none⟩) NC co) (by simp); go_simp; try with_reducible rfl)
  refine wpAnyH_take (i := 13) (v := .slice (some ⟨go, 0, none⟩) NC co) rfl (by kernel_rfl) (by kernel_rfl) (by kernel_rfl) (fun _ _ _ h => h) (Or.inl ⟨by rfl, ?yvb13⟩) hS ?rvb13
  case yvb13 => (intro w' hS; have cf := hS.get ⟨gt, 0, none⟩ (.slice (some ⟨go, 0, none⟩) NC co) (by simp); go_simp; try with_reducible rfl)
  refine wpAnyH_take (i := 19) (v := .int .i64 q2) rfl (by kernel_rfl) (by kernel_rfl) (by kernel_rfl) (fun _ _ _ h => h) (Or.inl ⟨by rfl, ?yvb19⟩) hS ?rvb19
  case yvb19 => (intro w' hS; have cf := hS.get ⟨w.heap.size + 1, 2, none⟩ (.int .i64 q2) (by simp); go_simp; try with_reducible rfl)
  go_simp
  refine wpAnyH_take (i := 6) (v := ?vvb6) rfl (by kernel_rfl) (by kernel_rfl) (by kernel_rfl) (fun _ _ _ h => h) (Or.inl ⟨by rfl, ?yvb6⟩) hS ?rvb6
  case yvb6 => (intro w hS; go_simp; try with_reducible rfl)
  refine wpAnyH_take (i := 10) (v := ?vvb10) rfl (by kernel_rfl) (by kernel_rfl) (by kernel_rfl) (fun _ _ _ h => h) (Or.inl ⟨by rfl, ?yvb10⟩) hS ?rvb10
  case yvb10 => (intro w hS; go_simp; try with_reducible rfl)
  refine wpAnyH_take (i := 14) (v := ?vvb14) rfl (by kernel_rfl) (by kernel_rfl) (by kernel_rfl) (fun _ _ _ h => h) (Or.inl ⟨by rfl, ?yvb14⟩) hS ?rvb14
  case yvb14 => (intro w hS; go_simp; try with_reducible rfl)
  go_simp
  refine wpAnyH_take (i := 7) (v := ?vvb7) rfl (by kernel_rfl) (by kernel_rfl) (by kernel_rfl) (fun _ _ _ h => h) (Or.inl ⟨by rfl, ?yvb7⟩) hS ?rvb7
  case yvb7 => (intro w hS; go_simp; try with_reducible rfl)
  go_simp
  refine wpAnyH_take (i := 11) (v := ?vvb11) rfl (by kernel_rfl) (by kernel_rfl) (by kernel_rfl) (fun _ _ _ h => h) (Or.inl ⟨by rfl, ?yvb11⟩) hS ?rvb11
  case yvb11 => (intro w hS; go_simp; try with_reducible rfl)
  go_simp
  refine wpAnyH_take (i := 15) (v := ?vvb15) rfl (by kernel_rfl) (by kernel_rfl) (by kernel_rfl) (fun _ _ _ h => h) (Or.inl ⟨by rfl, ?yvb15⟩) hS ?rvb15
  case yvb15 => (intro w hS; go_simp; try with_reducible rfl)
  go_simp
  refine wpAnyH_take (i := 16) (v := ?vvb16) rfl (by kernel_rfl) (by kernel_rfl) (by kernel_rfl) (fun _ _ _ h => h) (Or.inl ⟨by rfl, ?yvb16⟩) hS ?rvb16
  case yvb16 => (intro w hS; go_simp; try with_reducible rfl)
  go_simp
  refine wpAnyH_ready (rs := [17]) (by kernel_rfl) (by simp) ?_
  refine (AllReadyH.cons (o := { dst := some 63, op := .load 3 (.tmp 62), type := 3, pos := "law.go:39", after := #[⟨16, .data⟩], guard := none }) rfl (fun K hK => ?_) AllReadyH.nil)
  go_simp
  refine hK.out _ _ hS (fun hS => ?_)
  clear hK K
  refine wpAnyH_take (i := 20) (v := ?vvb20) rfl (by kernel_rfl) (by kernel_rfl) (by kernel_rfl) (fun _ _ _ h => h) (Or.inl ⟨by rfl, ?yvb20⟩) hS ?rvb20
  case yvb20 => (intro w hS; go_simp; try with_reducible rfl)
  go_simp
  refine wpAnyH_take (i := 21) (v := ?vvb21) rfl (by kernel_rfl) (by kernel_rfl) (by kernel_rfl) (fun _ _ _ h => h) (Or.inl ⟨by rfl, ?yvb21⟩) hS ?rvb21
  case yvb21 => (intro w hS; go_simp; try with_reducible rfl)
  go_simp
  refine wpAnyH_ready (rs := [22]) (by kernel_rfl) (by simp) ?_
  refine (AllReadyH.cons (o := { dst := none, op := .store 3 (.tmp 67) (.tmp 66), type := 0, pos := "law.go:39", after := #[⟨21, .data⟩, ⟨20, .data⟩, ⟨0, .phase⟩, ⟨1, .phase⟩, ⟨2, .phase⟩, ⟨3, .phase⟩, ⟨4, .phase⟩, ⟨5, .phase⟩, ⟨6, .phase⟩, ⟨7, .phase⟩, ⟨8, .phase⟩, ⟨9, .phase⟩, ⟨10, .phase⟩, ⟨11, .phase⟩, ⟨12, .phase⟩, ⟨13, .phase⟩, ⟨14, .phase⟩, ⟨15, .phase⟩, ⟨16, .phase⟩, ⟨17, .phase⟩, ⟨18, .phase⟩, ⟨19, .phase⟩, ⟨20, .phase⟩], guard := none }) rfl (fun K hK => ?_) AllReadyH.nil)
  go_simp
  have hS2 := hS.set go F (.int .i64 vn) HGO.out.1 HGO.out.2
  clear hS
  refine hK.out _ _ hS2 (fun hS => ?_)
  clear hK K hS2
  refine wpAnyH_done (by kernel_rfl) ?_ _
  have HOS7 := Lib.hid (sli_set HOSd.out F vn hvni)
  have HB8 : Hid (Below wc.heap.size wc (wd.setCell ⟨go, F, none⟩ (.int .i64 vn))) := Lib.hid (HB7d.out.setCell (p := ⟨go, F, none⟩) (by show wc.heap.size ≤ go; have := HGG.out; omega) _)
  have HM7 := Lib.hid ((heap_setCell_other wd ⟨go, F, none⟩ gt (.int .i64 vn) (by show gt ≠ go; have := HGG.out.1; omega)).trans HM6d.out)
  go_upto_region 7 with fail
  generalize wd.setCell ⟨go, F, none⟩ (.int .i64 vn) = W7 at *
  clear hS HOSd HOGd HB7d HM6d ce fe hcur hF hFq ham ham1 ham2 hwr hN0 hvn hFn HGO HFF
  have HLK7 := Lib.hid (HLK.out.next HB8.out)
  have HC7q := Lib.hid ((HC.out.next HB8.out).get ⟨w.heap.size + 1, 0, none⟩ (.int .i64 q0) (by simp))
  have HPA7 := Lib.hid (HPA.out.next HB8.out)
  have HC7 : Hid (CK w [(⟨gk, 0, none⟩, .slice (some ⟨bC, oC, none⟩) NC ck), (⟨gk, 1, none⟩, .slice (some ⟨bQ, oQ, none⟩) NL cq)] [] W7) := Lib.hid ⟨HLK7.out.b, fun q' hq' => by
    simp only [List.mem_cons, List.not_mem_nil, or_false] at hq'
    rcases hq' with rfl | rfl
    · exact HLK7.out.c0
    · exact HLK7.out.c1, fun q' hq' => by cases hq'⟩
  have HGK : Hid (gk < W7.heap.size) := Lib.hid (World.block_lt_of_cell? _ _ HLK7.out.c0)
  have hS0 : Hid (w.heap.size ≤ W7.heap.size) := Lib.hid HLK7.out.b.size
  have hLs : (1 : Int) ≤ (NL : Int) := by omega
  clear HLK HC HPA HB8
  go_cut [12] from 16 (fun v wx => ∃ (g : Nat) (sp : Option Addr), v = .pointer (some ⟨g, 0, none⟩) ∧ Hid (Below W7.heap.size W7 wx ∧ wx.heap[g]? = some (.cells #[.slice (some ⟨bC, oC, none⟩) NC ck, .slice sp (NL - 1) (cq - 1)] 41 (0, 0)) ∧ LLi wx (.slice sp (NL - 1) (cq - 1)) L.tail))
  case first =>
    go_upto_region 7 with fail
    refine wp_region_held_drew (S := CK w [(⟨gk, 0, none⟩, .slice (some ⟨bC, oC, none⟩) NC ck), (⟨gk, 1, none⟩, .slice (some ⟨bQ, oQ, none⟩) NL cq)] []) (by kernel_rfl) HC7.out.drew (fun hS => ?_)
    have bD := (Below.refl W7.heap.size W7).drew
    have hwd : W7.drew.heap.size = W7.heap.size := rfl
    rw [← hwd] at HGK hS0
    clear HC7
    have HWE := Lib.hid hwd
    clear hwd
    have HLL := Lib.hid (HLK7.out.y.l.next bD)
    have HWD := Lib.hid bD
    clear bD
    generalize World.drew W7 = wd at *
    by_cases hcq : cq = 1
    · have hc1 := hcq
      replace hcq : (cq = 1) = True := eq_true hcq
      have HC1 := Lib.hid hc1
      clear hc1
      refine wpAnyH_take (i := 0) (v := ?vvca0) rfl (by kernel_rfl) (by kernel_rfl) (by kernel_rfl) (fun _ _ _ h => h) (Or.inl ⟨by rfl, ?yvca0⟩) hS ?rvca0
      case yvca0 => (intro w hS; go_simp; try with_reducible rfl)
      refine wpAnyH_take (i := 2) (v := ?vvca2) rfl (by kernel_rfl) (by kernel_rfl) (by kernel_rfl) (fun _ _ _ h => h) (Or.inl ⟨by rfl, ?yvca2⟩) hS ?rvca2
      case yvca2 => (intro w hS; go_simp; try with_reducible rfl)
      go_simp
      refine wpAnyH_take (i := 1) (v := .slice (some ⟨bC, oC, none⟩) NC ck) rfl (by kernel_rfl) (by kernel_rfl) (by kernel_rfl) (fun _ _ _ h => h) (Or.inl ⟨by rfl, ?yvca1⟩) hS ?rvca1
      case yvca1 => (intro w' hS; have cf := hS.get ⟨gk, 0, none⟩ (.slice (some ⟨bC, oC, none⟩) NC ck) (by simp); go_simp; try with_reducible rfl)
      refine wpAnyH_take (i := 3) (v := .slice (some ⟨bQ, oQ, none⟩) NL cq) rfl (by kernel_rfl) (by kernel_rfl) (by kernel_rfl) (fun _ _ _ h => h) (Or.inl ⟨by rfl, ?yvca3⟩) hS ?rvca3
      case yvca3 => (intro w' hS; have cf := hS.get ⟨gk, 1, none⟩ (.slice (some ⟨bQ, oQ, none⟩) NL cq) (by simp); go_simp; try with_reducible rfl)
      go_simp
      refine wpAnyH_take (i := 4) (v := ?vvca4) rfl (by kernel_rfl) (by kernel_rfl) (by kernel_rfl) (fun _ _ _ h => h) (Or.inl ⟨by rfl, ?yvca4⟩) hS ?rvca4
      case yvca4 => (intro w hS; go_simp; try with_reducible rfl)
      go_simp
      refine wpAnyH_take (i := 5) (v := ?vvca5) rfl (by kernel_rfl) (by kernel_rfl) (by kernel_rfl) (fun _ _ _ h => h) (Or.inl ⟨by rfl, ?yvca5⟩) hS ?rvca5
      case yvca5 => (intro w hS; go_simp; try with_reducible rfl)
      go_simp
      refine wpAnyH_ready (rs := [6]) (by kernel_rfl) (by simp) ?_
      refine (AllReadyH.cons (o := { dst := some 12, op := .alloc 41, type := 0, pos := "law.go:40", after := #[], guard := none }) rfl (fun K hK => ?_) AllReadyH.nil)
      go_simp
      have hN := heap_alloc_new wd (.cells #[.slice none 0 0, .slice none 0 0] 41)
      have bA := (Below.refl wd.heap.size wd).alloc (Nat.le_refl _) (.cells #[.slice none 0 0, .slice none 0 0] 41)
      have hS2 := hS.next bA
      clear hS
      refine hK.out _ _ hS2 (fun hS => ?_)
      clear hK K hS2
      obtain ⟨g7, hg7⟩ : ∃ g, wd.heap.size = g := ⟨_, rfl⟩
      have hg8 : wd.heap.size ≤ g7 := by omega
      have hgk7 : gk < g7 := by rw [← hg7]; exact HGK.out
      rw [hg7] at hN ⊢
      obtain ⟨w8, hw8⟩ : ∃ V, World.alloc wd (.cells #[.slice none 0 0, .slice none 0 0] 41) = V := ⟨_, rfl⟩
      rw [hw8] at hN hS bA ⊢
      clear hw8 hg7
      refine wpAnyH_ready (rs := [7]) (by kernel_rfl) (by simp) ?_
      refine (AllReadyH.cons (o := { dst := none, op := .store 41 (.tmp 12) (.tmp 73), type := 0, pos := "law.go:40", after := #[⟨6, .data⟩, ⟨5, .data⟩, ⟨0, .phase⟩, ⟨1, .phase⟩, ⟨2, .phase⟩, ⟨3, .phase⟩, ⟨4, .phase⟩, ⟨5, .phase⟩, ⟨6, .phase⟩], guard := none }) rfl (fun K hK => ?_) AllReadyH.nil)
      rw [if_pos (by rfl)]
      refine wp_store_row 41 (.tmp 12) (.tmp 73) rfl g7 #[.slice (some ⟨bC, oC, none⟩) NC ck, .slice (some ⟨bQ, oQ, none⟩) (NL - 1) (cq - 1)] (by first | rfl | (simp [Act.eval])) (by first | rfl | (simp [Act.eval, hcq])) 41 _ hN (infoK2 _ _).out rfl (by simp [Value.oneCell']) ?_
      have hN2 := setRow_heap _ _ _ #[.slice (some ⟨bC, oC, none⟩) NC ck, .slice (some ⟨bQ, oQ, none⟩) (NL - 1) (cq - 1)] _ _ hN
      have bB := setRow9 bA hg8 #[.slice (some ⟨bC, oC, none⟩) NC ck, .slice (some ⟨bQ, oQ, none⟩) (NL - 1) (cq - 1)]
      have hS2 := hS.write9 g7 #[.slice (some ⟨bC, oC, none⟩) NC ck, .slice (some ⟨bQ, oQ, none⟩) (NL - 1) (cq - 1)] (Nat.le_trans hS0.out hg8) (fun p hp => by
        simp only [List.mem_cons, List.not_mem_nil, or_false] at hp
        rcases hp with rfl | rfl
        · show gk ≠ g7; omega
        · show gk ≠ g7; omega)
      clear hS hN bA
      refine hK.out _ _ hS2 (fun hS => ?_)
      clear hK K hS2
      refine wpAnyH_done (by kernel_rfl) ?_ _
      have HBB := Lib.hid bB
      have HN2 := Lib.hid hN2
      clear bB hN2 hS
      go_wp2_with fail
      go_meet
      exact ⟨g7, some ⟨bQ, oQ, none⟩, rfl, Lib.hid ⟨HWD.out.trans (HBB.out.mono (Nat.le_of_eq HWE.out.symm)), HN2.out, by
        have h1 : L.tail = [] := List.length_eq_zero_iff.1 (by rw [List.length_tail, HNN.out.2]; have := HCAP.out; have := HC1.out; omega)
        have h2 : NL - 1 = 0 := by have := HCAP.out; have := HC1.out; omega
        rw [h1, h2]
        exact ⟨_, _, rfl, fun j l hj => by simp at hj⟩⟩⟩
    · replace hcq : (cq = 1) = False := eq_false hcq
      refine wpAnyH_take (i := 0) (v := ?vvc0) rfl (by kernel_rfl) (by kernel_rfl) (by kernel_rfl) (fun _ _ _ h => h) (Or.inl ⟨by rfl, ?yvc0⟩) hS ?rvc0
      case yvc0 => (intro w hS; go_simp; try with_reducible rfl)
      refine wpAnyH_take (i := 2) (v := ?vvc2) rfl (by kernel_rfl) (by kernel_rfl) (by kernel_rfl) (fun _ _ _ h => h) (Or.inl ⟨by rfl, ?yvc2⟩) hS ?rvc2
      case yvc2 => (intro w hS; go_simp; try with_reducible rfl)
      go_simp
      refine wpAnyH_take (i := 1) (v := .slice (some ⟨bC, oC, none⟩) NC ck) rfl (by kernel_rfl) (by kernel_rfl) (by kernel_rfl) (fun _ _ _ h => h) (Or.inl ⟨by rfl, ?yvc1⟩) hS ?rvc1
      case yvc1 => (intro w' hS; have cf := hS.get ⟨gk, 0, none⟩ (.slice (some ⟨bC, oC, none⟩) NC ck) (by simp); go_simp; try with_reducible rfl)
      refine wpAnyH_take (i := 3) (v := .slice (some ⟨bQ, oQ, none⟩) NL cq) rfl (by kernel_rfl) (by kernel_rfl) (by kernel_rfl) (fun _ _ _ h => h) (Or.inl ⟨by rfl, ?yvc3⟩) hS ?rvc3
      case yvc3 => (intro w' hS; have cf := hS.get ⟨gk, 1, none⟩ (.slice (some ⟨bQ, oQ, none⟩) NL cq) (by simp); go_simp; try with_reducible rfl)
      go_simp
      refine wpAnyH_take (i := 4) (v := ?vvc4) rfl (by kernel_rfl) (by kernel_rfl) (by kernel_rfl) (fun _ _ _ h => h) (Or.inl ⟨by rfl, ?yvc4⟩) hS ?rvc4
      case yvc4 => (intro w hS; go_simp; try with_reducible rfl)
      go_simp
      refine wpAnyH_take (i := 5) (v := ?vvc5) rfl (by kernel_rfl) (by kernel_rfl) (by kernel_rfl) (fun _ _ _ h => h) (Or.inl ⟨by rfl, ?yvc5⟩) hS ?rvc5
      case yvc5 => (intro w hS; go_simp; try with_reducible rfl)
      go_simp
      refine wpAnyH_ready (rs := [6]) (by kernel_rfl) (by simp) ?_
      refine (AllReadyH.cons (o := { dst := some 12, op := .alloc 41, type := 0, pos := "law.go:40", after := #[], guard := none }) rfl (fun K hK => ?_) AllReadyH.nil)
      go_simp
      have hN := heap_alloc_new wd (.cells #[.slice none 0 0, .slice none 0 0] 41)
      have bA := (Below.refl wd.heap.size wd).alloc (Nat.le_refl _) (.cells #[.slice none 0 0, .slice none 0 0] 41)
      have hS2 := hS.next bA
      clear hS
      refine hK.out _ _ hS2 (fun hS => ?_)
      clear hK K hS2
      obtain ⟨g7, hg7⟩ : ∃ g, wd.heap.size = g := ⟨_, rfl⟩
      have hg8 : wd.heap.size ≤ g7 := by omega
      have hgk7 : gk < g7 := by rw [← hg7]; exact HGK.out
      rw [hg7] at hN ⊢
      obtain ⟨w8, hw8⟩ : ∃ V, World.alloc wd (.cells #[.slice none 0 0, .slice none 0 0] 41) = V := ⟨_, rfl⟩
      rw [hw8] at hN hS bA ⊢
      clear hw8 hg7
      refine wpAnyH_ready (rs := [7]) (by kernel_rfl) (by simp) ?_
      refine (AllReadyH.cons (o := { dst := none, op := .store 41 (.tmp 12) (.tmp 73), type := 0, pos := "law.go:40", after := #[⟨6, .data⟩, ⟨5, .data⟩, ⟨0, .phase⟩, ⟨1, .phase⟩, ⟨2, .phase⟩, ⟨3, .phase⟩, ⟨4, .phase⟩, ⟨5, .phase⟩, ⟨6, .phase⟩], guard := none }) rfl (fun K hK => ?_) AllReadyH.nil)
      rw [if_pos (by rfl)]
      refine wp_store_row 41 (.tmp 12) (.tmp 73) rfl g7 #[.slice (some ⟨bC, oC, none⟩) NC ck, .slice (some ⟨bQ, oQ + 1, none⟩) (NL - 1) (cq - 1)] (by first | rfl | (simp [Act.eval])) (by first | rfl | (simp [Act.eval, hcq])) 41 _ hN (infoK2 _ _).out rfl (by simp [Value.oneCell']) ?_
      have hN2 := setRow_heap _ _ _ #[.slice (some ⟨bC, oC, none⟩) NC ck, .slice (some ⟨bQ, oQ + 1, none⟩) (NL - 1) (cq - 1)] _ _ hN
      have bB := setRow9 bA hg8 #[.slice (some ⟨bC, oC, none⟩) NC ck, .slice (some ⟨bQ, oQ + 1, none⟩) (NL - 1) (cq - 1)]
      have hS2 := hS.write9 g7 #[.slice (some ⟨bC, oC, none⟩) NC ck, .slice (some ⟨bQ, oQ + 1, none⟩) (NL - 1) (cq - 1)] (Nat.le_trans hS0.out hg8) (fun p hp => by
        simp only [List.mem_cons, List.not_mem_nil, or_false] at hp
        rcases hp with rfl | rfl
        · show gk ≠ g7; omega
        · show gk ≠ g7; omega)
      clear hS hN bA
      refine hK.out _ _ hS2 (fun hS => ?_)
      clear hK K hS2
      refine wpAnyH_done (by kernel_rfl) ?_ _
      have HBB := Lib.hid bB
      have HN2 := Lib.hid hN2
      clear bB hN2 hS
      go_wp2_with fail
      go_meet
      exact ⟨g7, some ⟨bQ, oQ + 1, none⟩, rfl, Lib.hid ⟨HWD.out.trans (HBB.out.mono (Nat.le_of_eq HWE.out.symm)), HN2.out, lli_tail (HLL.out.next HBB.out)⟩⟩
  case rest =>
  obtain ⟨g7, sp, rfl, H7⟩ := hcut
  obtain ⟨VKx, hVKx⟩ : ∃ P : World → Prop, P = VK w gk gt g7 (.slice (some ⟨bC, oC, none⟩) NC ck) (.slice (some ⟨bQ, oQ, none⟩) NL cq) (.slice (some ⟨go, 0, none⟩) NC co) (.slice (some ⟨bQ, oQ, none⟩) NL cq) (.slice (some ⟨bC, oC, none⟩) NC ck) (.slice sp (NL - 1) (cq - 1)) q0 (fun W => KY W (some ⟨bC, oC, none⟩) (some ⟨bQ, oQ, none⟩) NC ck NL cq C L) (fun W => KY W (some ⟨go, 0, none⟩) (some ⟨bQ, oQ, none⟩) NC co NL cq (C.set F vn) L) (fun W => KY W (some ⟨bC, oC, none⟩) sp NC ck (NL - 1) (cq - 1) C L.tail) (fun W => PaL W (.slice p5 NA c5) A) := ⟨_, rfl⟩
  have HVK : Hid (VKx wc) := Lib.hid (by
    rw [hVKx]
    have hL := HLK7.out.next H7.out.1
    have hm := HNN.out.2
    exact ⟨hL.b, hL.c0, hL.c1, cell_of_row _ gt 0 _ _ _ ((H7.out.1.block _ (Array.getElem?_eq_some_iff.1 HM7.out).1).trans HM7.out), cell_of_row _ gt 1 _ _ _ ((H7.out.1.block _ (Array.getElem?_eq_some_iff.1 HM7.out).1).trans HM7.out), cell_of_row _ g7 0 _ _ _ H7.out.2.1, cell_of_row _ g7 1 _ _ _ H7.out.2.1,
      (H7.out.1.cell (p := ⟨w.heap.size + 1, 0, none⟩) (World.block_lt_of_cell? _ _ HC7q.out)).trans HC7q.out, hL.y, ⟨HOS7.out.next H7.out.1, hL.y.l, hL.y.m9⟩, ⟨hL.y.c, H7.out.2.2, by have := hL.y.m9; omega⟩, HPA7.out.next H7.out.1⟩)
  have VN : Hid (∀ W V, VKx W → Below W.heap.size W V → VKx V) := Lib.hid (fun W V h k => by
    rw [hVKx] at h ⊢
    exact VK.next h k (fun x => x.next k) (fun x => x.next k) (fun x => x.next k) (fun x => x.next k))
  have VG : Hid (∀ W, VKx W → VK w gk gt g7 (.slice (some ⟨bC, oC, none⟩) NC ck) (.slice (some ⟨bQ, oQ, none⟩) NL cq) (.slice (some ⟨go, 0, none⟩) NC co) (.slice (some ⟨bQ, oQ, none⟩) NL cq) (.slice (some ⟨bC, oC, none⟩) NC ck) (.slice sp (NL - 1) (cq - 1)) q0 (fun W => KY W (some ⟨bC, oC, none⟩) (some ⟨bQ, oQ, none⟩) NC ck NL cq C L) (fun W => KY W (some ⟨go, 0, none⟩) (some ⟨bQ, oQ, none⟩) NC co NL cq (C.set F vn) L) (fun W => KY W (some ⟨bC, oC, none⟩) sp NC ck (NL - 1) (cq - 1) C L.tail) (fun W => PaL W (.slice p5 NA c5) A) W) := Lib.hid (fun W h => by rw [hVKx] at h; exact h)
  clear hVKx H7 HLK7 HM7 HC7q HOS7 HPA7 HGK hS0 hLs
  go_wp2_with fail
  go_loopw [13] (fun i wr => ∃ k : Nat, k ≤ NA ∧ i = .int .i64 (k : Int) ∧ Hid (VKx wr)) (fun i _ => NA - (match i with | .int _ i => i.toNat | _ => 0))
  case atStart => exact ⟨0, Nat.zero_le _, rfl, HVK⟩
  case round =>
    clear HVK
    obtain ⟨k, hk, rfl, HVK⟩ := hrel
    by_cases hlt : k < NA
    · obtain ⟨s, hs⟩ : ∃ s, A[k]? = some s := ⟨A[k]'(by rw [HNA.out]; exact hlt), List.getElem?_eq_getElem _⟩
      have HSK := Lib.hid hs
      clear hs
      have hV := VG.out _ HVK.out
      obtain ⟨_, k0, k1, t0, t1, z0, z1, _, _⟩ := hV
      go_wp2_with fail
      have bR := (Below.refl wr.heap.size wr).alloc (Nat.le_refl _) (.cells #[.slice (some ⟨bC, oC, none⟩) NC ck, .slice (some ⟨bQ, oQ, none⟩) NL cq, .slice (some ⟨go, 0, none⟩) NC co, .slice (some ⟨bQ, oQ, none⟩) NL cq, .slice (some ⟨bC, oC, none⟩) NC ck, .slice sp (NL - 1) (cq - 1), .slice none 0 0, .slice none 0 0] 41)
      have hR := heap_alloc_new wr (.cells #[.slice (some ⟨bC, oC, none⟩) NC ck, .slice (some ⟨bQ, oQ, none⟩) NL cq, .slice (some ⟨go, 0, none⟩) NC co, .slice (some ⟨bQ, oQ, none⟩) NL cq, .slice (some ⟨bC, oC, none⟩) NC ck, .slice sp (NL - 1) (cq - 1), .slice none 0 0, .slice none 0 0] 41)
      have HV11 := Lib.hid (VN.out _ _ HVK.out bR)
      obtain ⟨W11, hW11⟩ : ∃ V, wr.alloc (.cells #[.slice (some ⟨bC, oC, none⟩) NC ck, .slice (some ⟨bQ, oQ, none⟩) NL cq, .slice (some ⟨go, 0, none⟩) NC co, .slice (some ⟨bQ, oQ, none⟩) NL cq, .slice (some ⟨bC, oC, none⟩) NC ck, .slice sp (NL - 1) (cq - 1), .slice none 0 0, .slice none 0 0] 41) = V := ⟨_, rfl⟩
      rw [hW11] at HV11 hR ⊢
      obtain ⟨gr, hgr⟩ : ∃ g, wr.heap.size = g := ⟨_, rfl⟩
      rw [hgr] at hR ⊢
      have HR := Lib.hid hR
      clear hR hW11 hgr bR k0 k1 t0 t1 z0 z1 HVK
      go_loopw [86] (fun u wx => ∃ j : Nat, j ≤ 4 ∧ u = .int .i64 (j : Int) ∧ Hid (VKx wx ∧ wx.heap[gr]? = some (.cells #[.slice (some ⟨bC, oC, none⟩) NC ck, .slice (some ⟨bQ, oQ, none⟩) NL cq, .slice (some ⟨go, 0, none⟩) NC co, .slice (some ⟨bQ, oQ, none⟩) NL cq, .slice (some ⟨bC, oC, none⟩) NC ck, .slice sp (NL - 1) (cq - 1), .slice none 0 0, .slice none 0 0] 41 (0, 0)))) (fun u _ => 4 - (match u with | .int _ i => i.toNat | _ => 0))
      case atStart => exact ⟨0, by omega, rfl, Lib.hid ⟨HV11.out, HR.out⟩⟩
      case round =>
        clear HV11 HR
        obtain ⟨j, hj, rfl, HJ⟩ := hrel
        by_cases hj4 : j < 4
        · have hE : ∃ p9 n9 c9 r9 m9 e9 C9 L9, wr.cell? ⟨gr, j * 2, none⟩ = some (.slice p9 n9 c9) ∧ wr.cell? ⟨gr, j * 2 + 1, none⟩ = some (.slice r9 m9 e9) ∧ KY wr p9 r9 n9 c9 m9 e9 C9 L9 ∧ many L9 ≤ 60 := by
            have hx := (VG.out _ HJ.out.1).x
            have hmt := many_tail L
            obtain rfl | rfl | rfl | rfl : j = 0 ∨ j = 1 ∨ j = 2 ∨ j = 3 := by omega
            · exact ⟨_, _, _, _, _, _, _, _, cell_of_row _ gr 0 _ _ _ HJ.out.2, cell_of_row _ gr 1 _ _ _ HJ.out.2, hx.1, hmn⟩
            · exact ⟨_, _, _, _, _, _, _, _, cell_of_row _ gr 2 _ _ _ HJ.out.2, cell_of_row _ gr 3 _ _ _ HJ.out.2, hx.2.1, hmn⟩
            · exact ⟨_, _, _, _, _, _, _, _, cell_of_row _ gr 4 _ _ _ HJ.out.2, cell_of_row _ gr 5 _ _ _ HJ.out.2, hx.2.2.1, by omega⟩
            · exact ⟨none, 0, 0, none, 0, 0, [], [], cell_of_row _ gr 6 _ _ _ HJ.out.2, cell_of_row _ gr 7 _ _ _ HJ.out.2, ⟨⟨⟨none, 0, rfl, fun j y hj => (by simp at hj)⟩, fun y hy => (by cases hy), by decide⟩, ⟨none, 0, rfl, fun j l hj => (by simp at hj)⟩, by decide⟩, by decide⟩
          obtain ⟨p9, n9, c9, r9, m9, e9, C9, L9, y0, y1, hky, hm9⟩ := hE
          have hsi := (VG.out _ HJ.out.1).x.2.2.2.r s (List.mem_of_getElem? HSK.out)
          have RB1 := Lib.hid (RB.out C9 L9 s hsi hm9)
          have RR1 := Lib.hid (RR.out C9 L9 s hsi hm9)
          obtain ⟨vv, hvv⟩ : ∃ v, vb C9 L9 s = v := ⟨_, rfl⟩
          rw [hvv] at RB1 RR1
          have HKY := Lib.hid hky
          have HVK := Lib.hid HJ.out.1
          have HRW := Lib.hid HJ.out.2
          have HPC : Hid (∃ b o, p5 = some ⟨b, o, none⟩ ∧ wr.cell? ⟨b, o + k * 4, none⟩ = some (.int .i64 s.1) ∧ wr.cell? ⟨b, o + k * 4 + 1, none⟩ = some (.int .i64 s.2.1) ∧ wr.cell? ⟨b, o + k * 4 + 2, none⟩ = some (.int .i64 s.2.2.1) ∧ wr.cell? ⟨b, o + k * 4 + 3, none⟩ = some (.int .i64 s.2.2.2)) := Lib.hid (by
            obtain ⟨p', c', e', h2⟩ := (VG.out _ HJ.out.1).x.2.2.2.h
            injection e' with a1 a2 a3
            obtain ⟨b, o, e, h3⟩ := h2 k s HSK.out
            exact ⟨b, o, by rw [a1, e], h3⟩)
          clear hvv hsi hky HJ
          go_upto_region 14 with fail
          have bX := (Below.refl wr.heap.size wr).alloc (Nat.le_refl _) (.cells #[.slice p9 n9 c9, .slice r9 m9 e9] 41)
          have hX := heap_alloc_new wr (.cells #[.slice p9 n9 c9, .slice r9 m9 e9] 41)
          have HPX := Lib.hid bX
          replace HVK := Lib.hid (VN.out _ _ HVK.out bX)
          have HKX := Lib.hid (HKY.out.next bX)
          replace HRW := Lib.hid ((bX.block _ (Array.getElem?_eq_some_iff.1 HRW.out).1).trans HRW.out)
          obtain ⟨b, o, hp5, hc0, hc1, hc2, hc3⟩ := HPC.out
          subst hp5
          have rd : ∀ i u, wr.cell? ⟨b, i, none⟩ = some u → (wr.alloc (.cells #[.slice p9 n9 c9, .slice r9 m9 e9] 41)).cell? ⟨b, i, none⟩ = some u := fun i u h => (bX.cell (p := ⟨b, i, none⟩) (World.block_lt_of_cell? _ _ h)).trans h
          have r0 := rd _ _ hc0
          have r1 := rd _ _ hc1
          have r2 := rd _ _ hc2
          have r3 := rd _ _ hc3
          clear rd hc0 hc1 hc2 hc3 HPC y0 y1 HKY HPX bX
          obtain ⟨s0, s1, s2, s3⟩ := s
          try dsimp only at r0 r1 r2 r3
          obtain ⟨W13, hW13⟩ : ∃ V, wr.alloc (.cells #[.slice p9 n9 c9, .slice r9 m9 e9] 41) = V := ⟨_, rfl⟩
          rw [hW13] at hX HVK HKX HRW r0 r1 r2 r3 ⊢
          obtain ⟨gx, hgx⟩ : ∃ g, wr.heap.size = g := ⟨_, rfl⟩
          rw [hgx] at hX ⊢
          have HC14 : Hid (CK w [(⟨gx, 0, none⟩, .slice p9 n9 c9), (⟨gx, 1, none⟩, .slice r9 m9 e9), (⟨b, o + k * 4, none⟩, .int .i64 s0), (⟨b, o + k * 4 + 1, none⟩, .int .i64 s1), (⟨b, o + k * 4 + 2, none⟩, .int .i64 s2), (⟨b, o + k * 4 + 3, none⟩, .int .i64 s3), (⟨w.heap.size + 1, 0, none⟩, .int .i64 q0)] [] W13) := Lib.hid ⟨(VG.out _ HVK.out).b, fun q' hq' => by
            simp only [List.mem_cons, List.not_mem_nil, or_false] at hq'
            rcases hq' with rfl | rfl | rfl | rfl | rfl | rfl | rfl
            · exact cell_of_row _ gx 0 _ _ _ hX
            · exact cell_of_row _ gx 1 _ _ _ hX
            · exact r0
            · exact r1
            · exact r2
            · exact r3
            · exact (VG.out _ HVK.out).cq, fun q' hq' => by cases hq'⟩
          clear hW13 hgx hX r0 r1 r2 r3
          refine wp_region_held_drew (S := CK w [(⟨gx, 0, none⟩, .slice p9 n9 c9), (⟨gx, 1, none⟩, .slice r9 m9 e9), (⟨b, o + k * 4, none⟩, .int .i64 s0), (⟨b, o + k * 4 + 1, none⟩, .int .i64 s1), (⟨b, o + k * 4 + 2, none⟩, .int .i64 s2), (⟨b, o + k * 4 + 3, none⟩, .int .i64 s3), (⟨w.heap.size + 1, 0, none⟩, .int .i64 q0)] []) (by kernel_rfl) HC14.out.drew (fun hS => ?_)
          replace HVK := Lib.hid (VN.out _ _ HVK.out (Below.refl _ _).drew)
          replace HKX := Lib.hid (HKX.out.next (Below.refl _ _).drew)
          replace HRW := Lib.hid (show W13.drew.heap[gr]? = _ from HRW.out)
          clear HC14
          generalize World.drew W13 = wd at *
          refine wpAnyH_take (i := 0) (v := .agg #[.slice p9 n9 c9, .slice r9 m9 e9]) rfl (by kernel_rfl) (by kernel_rfl) (by kernel_rfl) (fun _ _ _ h => h) (Or.inl ⟨by rfl, ?yvd0⟩) hS ?rvd0
          case yvd0 => (intro w' hS; have cf := hS.get ⟨gx, 0, none⟩ (.slice p9 n9 c9) (by simp); have cg1 := hS.get ⟨gx, 1, none⟩ (.slice r9 m9 e9) (by simp); go_simp; try with_reducible rfl)
          refine wpAnyH_take (i := 1) (v := ?vvd1) rfl (by kernel_rfl) (by kernel_rfl) (by kernel_rfl) (fun _ _ _ h => h) (Or.inl ⟨by rfl, ?yvd1⟩) hS ?rvd1
          case yvd1 => (intro w hS; go_simp; try with_reducible rfl)
          refine wpAnyH_take (i := 3) (v := ?vvd3) rfl (by kernel_rfl) (by kernel_rfl) (by kernel_rfl) (fun _ _ _ h => h) (Or.inl ⟨by rfl, ?yvd3⟩) hS ?rvd3
          case yvd3 => (intro w hS; go_simp; try with_reducible rfl)
          refine wpAnyH_take (i := 4) (v := ?vvd4) rfl (by kernel_rfl) (by kernel_rfl) (by kernel_rfl) (fun _ _ _ h => h) (Or.inl ⟨by rfl, ?yvd4⟩) hS ?rvd4
          case yvd4 => (intro w hS; go_simp; try with_reducible rfl)
          refine wpAnyH_take (i := 8) (v := .agg #[.slice p9 n9 c9, .slice r9 m9 e9]) rfl (by kernel_rfl) (by kernel_rfl) (by kernel_rfl) (fun _ _ _ h => h) (Or.inl ⟨by rfl, ?yvd8⟩) hS ?rvd8
          case yvd8 => (intro w' hS; have cf := hS.get ⟨gx, 0, none⟩ (.slice p9 n9 c9) (by simp); have cg1 := hS.get ⟨gx, 1, none⟩ (.slice r9 m9 e9) (by simp); go_simp; try with_reducible rfl)
          refine wpAnyH_take (i := 9) (v := ?vvd9) rfl (by kernel_rfl) (by kernel_rfl) (by kernel_rfl) (fun _ _ _ h => h) (Or.inl ⟨by rfl, ?yvd9⟩) hS ?rvd9
          case yvd9 => (intro w hS; go_simp; try with_reducible rfl)
          refine wpAnyH_take (i := 11) (v := ?vvd11) rfl (by kernel_rfl) (by kernel_rfl) (by kernel_rfl) (fun _ _ _ h => h) (Or.inl ⟨by rfl, ?yvd11⟩) hS ?rvd11
          case yvd11 => (intro w hS; go_simp; try with_reducible rfl)
          refine wpAnyH_take (i := 12) (v := ?vvd12) rfl (by kernel_rfl) (by kernel_rfl) (by kernel_rfl) (fun _ _ _ h => h) (Or.inl ⟨by rfl, ?yvd12⟩) hS ?rvd12
          case yvd12 => (intro w hS; go_simp; try with_reducible rfl)
          go_simp
          refine wpAnyH_take (i := 2) (v := .int .i64 q0) rfl (by kernel_rfl) (by kernel_rfl) (by kernel_rfl) (fun _ _ _ h => h) (Or.inl ⟨by rfl, ?yvd2⟩) hS ?rvd2
          case yvd2 => (intro w' hS; have cf := hS.get ⟨w.heap.size + 1, 0, none⟩ (.int .i64 q0) (by simp); go_simp; try with_reducible rfl)
          refine wpAnyH_take (i := 5) (v := ?vvd5) rfl (by kernel_rfl) (by kernel_rfl) (by kernel_rfl) (fun _ _ _ h => h) (Or.inl ⟨by rfl, ?yvd5⟩) hS ?rvd5
          case yvd5 => (intro w hS; go_simp; try with_reducible rfl)
          refine wpAnyH_take (i := 10) (v := .int .i64 q0) rfl (by kernel_rfl) (by kernel_rfl) (by kernel_rfl) (fun _ _ _ h => h) (Or.inl ⟨by rfl, ?yvd10⟩) hS ?rvd10
          case yvd10 => (intro w' hS; have cf := hS.get ⟨w.heap.size + 1, 0, none⟩ (.int .i64 q0) (by simp); go_simp; try with_reducible rfl)
          refine wpAnyH_take (i := 13) (v := ?vvd13) rfl (by kernel_rfl) (by kernel_rfl) (by kernel_rfl) (fun _ _ _ h => h) (Or.inl ⟨by rfl, ?yvd13⟩) hS ?rvd13
          case yvd13 => (intro w hS; go_simp; try with_reducible rfl)
          go_simp
          refine wpAnyH_take (i := 6) (v := .agg #[.int .i64 s0, .int .i64 s1, .int .i64 s2, .int .i64 s3]) rfl (by kernel_rfl) (by kernel_rfl) (by kernel_rfl) (fun _ _ _ h => h) (Or.inl ⟨by rfl, ?yvd6⟩) hS ?rvd6
          case yvd6 => (intro w' hS; have cf := hS.get ⟨b, o + k * 4, none⟩ (.int .i64 s0) (by simp); have cg1 := hS.get ⟨b, o + k * 4 + 1, none⟩ (.int .i64 s1) (by simp); have cg2 := hS.get ⟨b, o + k * 4 + 2, none⟩ (.int .i64 s2) (by simp); have cg3 := hS.get ⟨b, o + k * 4 + 3, none⟩ (.int .i64 s3) (by simp); go_simp; try with_reducible rfl)
          refine wpAnyH_take (i := 14) (v := .agg #[.int .i64 s0, .int .i64 s1, .int .i64 s2, .int .i64 s3]) rfl (by kernel_rfl) (by kernel_rfl) (by kernel_rfl) (fun _ _ _ h => h) (Or.inl ⟨by rfl, ?yvd14⟩) hS ?rvd14
          case yvd14 => (intro w' hS; have cf := hS.get ⟨b, o + k * 4, none⟩ (.int .i64 s0) (by simp); have cg1 := hS.get ⟨b, o + k * 4 + 1, none⟩ (.int .i64 s1) (by simp); have cg2 := hS.get ⟨b, o + k * 4 + 2, none⟩ (.int .i64 s2) (by simp); have cg3 := hS.get ⟨b, o + k * 4 + 3, none⟩ (.int .i64 s3) (by simp); go_simp; try with_reducible rfl)
          go_simp
          refine wpAnyH_ready (rs := [7]) (by kernel_rfl) (by simp) ?_
          refine AllReadyH.cons (o := { dst := some 97, op := .call { callee := .value (.func 18), args := #[.tmp 90, .tmp 92, .tmp 96], argTypes := #[41, 3, 30] }, type := 4, pos := "law.go:43", after := #[⟨0, .data⟩, ⟨2, .data⟩, ⟨6, .data⟩], guard := none }) rfl (fun K hK => ?_) AllReadyH.nil
          go_simp
          go_at_call 18
          refine (RB1.out _ _ _ _ _ _ _ hS.b HKX.out).mono ?_
          rintro e w' ⟨rfl, b⟩
          have hS2 := hS.next b
          replace HVK := Lib.hid (VN.out _ _ HVK.out b)
          replace HKX := Lib.hid (HKX.out.next b)
          replace HRW := Lib.hid ((b.block _ (Array.getElem?_eq_some_iff.1 HRW.out).1).trans HRW.out)
          clear b hS
          try go_simp
          refine hK.out _ _ hS2 (fun hS => ?_)
          clear hK K hS2
          refine wpAnyH_ready (rs := [15]) (by kernel_rfl) (by simp) ?_
          refine AllReadyH.cons (o := { dst := some 105, op := .call { callee := .value (.func 19), args := #[.tmp 98, .tmp 100, .tmp 104], argTypes := #[41, 3, 30] }, type := 4, pos := "law.go:43", after := #[⟨8, .data⟩, ⟨10, .data⟩, ⟨14, .data⟩, ⟨7, .chain⟩], guard := none }) rfl (fun K hK => ?_) AllReadyH.nil
          go_simp
          go_at_call 19
          refine (RR1.out _ _ _ _ _ _ _ hS.b HKX.out).mono ?_
          rintro e w' ⟨rfl, b⟩
          have hS2 := hS.next b
          replace HVK := Lib.hid (VN.out _ _ HVK.out b)
          replace HKX := Lib.hid (HKX.out.next b)
          replace HRW := Lib.hid ((b.block _ (Array.getElem?_eq_some_iff.1 HRW.out).1).trans HRW.out)
          clear b hS
          try go_simp
          refine hK.out _ _ hS2 (fun hS => ?_)
          clear hK K hS2
          refine wpAnyH_take (i := 16) (v := .bool false) rfl (by kernel_rfl) (by kernel_rfl) (by kernel_rfl) (fun _ _ _ h => h) (Or.inl ⟨by rfl, ?yvd16⟩) hS ?rvd16
          case yvd16 => (intro w hS; go_simp; try with_reducible rfl)
          refine wpAnyH_done (by kernel_rfl) ?_ _
          have HJ := Lib.hid (And.intro HVK.out HRW.out)
          clear hS HVK HRW HKX RB1 RR1
          try go_wp2
          exact ⟨⟨j + 1, by omega, by go_num, HJ⟩, by simp; omega⟩
        · obtain rfl : j = 4 := by omega
          have HVK := Lib.hid HJ.out.1
          clear HJ
          go_wp2
          go_roundw
          case rel => exact ⟨k + 1, by omega, by go_num, HVK⟩
          case measure => (simp; try omega)
    · obtain rfl : k = NA := by omega
      have HB := Lib.hid (VG.out _ HVK.out).b
      go_wp2
      go_ret
      exact ⟨rfl, HB.out⟩
end Go.Proofs.YtbfplapjjeeceaaGreatDoor.B9
namespace Go.Proofs.YtbfplapjjeeceaaGreatDoor.B9
open Go.RowKit GM SH G4 E6 D7P
open W8 hiding i64 jn pX pY
theorem Make_c (w W : World) (wv cv : Value) (lw lc : List Int) (hw : BL w wv lw) (hc : D7.AL w cv lc) (k : Below w.heap.size w W) :
    Calls Tryz.prog 16 #[.agg #[wv, cv]] W (MQc W (cfs lw lc) (cms lw lc) (LP lw)) := by
  refine (Make_any w W wv cv lw lc hw hc k).mono ?_
  rintro e w' ⟨⟨cv, kv, pv, rfl, h1, h2, h3, h4⟩, b⟩
  obtain ⟨pc, cc, rfl, _⟩ := id h1.h
  obtain ⟨pk, ck, rfl, _⟩ := id h2.h
  obtain ⟨pq, cq, rfl, _⟩ := id h3
  exact ⟨⟨pc, pk, pq, cc, ck, cq, rfl, h1, ⟨h2, h3, by have := LP_len lw; omega⟩, h4 _ _ _ rfl⟩, b⟩
theorem tmod_turn (q : Int) (M : Nat) (hM : 0 < M) : Int.tmod (Int.tmod q (M : Int) + (M : Int)) (M : Int) = (((q % (M : Int)).toNat : Nat) : Int) ∧ (q % (M : Int)).toNat < M := by
  have h1 := Int.lt_tmod_of_pos q (show (0 : Int) < (M : Int) by omega)
  have h2 := Int.emod_nonneg q (show (M : Int) ≠ 0 by omega)
  have h3 := Int.emod_lt_of_pos q (show (0 : Int) < (M : Int) by omega)
  refine ⟨?_, by omega⟩
  rw [Int.tmod_eq_emod_of_nonneg (by omega), Int.add_emod_right, Int.tmod_def, Int.sub_mul_emod_self_left]
  omega
theorem many_pos : ∀ L : List (List Int), 1 ≤ many L → 0 < L.length
  | [], h => by simp [many] at h
  | _ :: _, _ => Nat.succ_pos _
set_option maxRecDepth 100000 in
theorem verifies_walk (w : World) (wv cv : Value) (lw lc : List Int) (pv : Value) (l : List (Int × Int)) (Z : Fin 6 → Int) (hw : BL w wv lw) (hc : D7.AL w cv lc) (hl : PkL w pv l) (hz : ∀ i, i64 (Z i)) (hT : TS w) :
    Calls Tryz.prog 4 #[.agg #[wv, cv], pv, .agg #[.int .i64 (Z 0), .int .i64 (Z 1), .int .i64 (Z 2), .int .i64 (Z 3), .int .i64 (Z 4), .int .i64 (Z 5)]] w fun e w' => e = .returned (.bool true) ∧ Below w.heap.size w w' := by
  have MA := fun W (k : Below w.heap.size w W) => Make_c w W wv cv lw lc hw hc k
  obtain ⟨pw, cw, rfl, _⟩ := id hw
  obtain ⟨pc, nc, rfl, _⟩ := al_form hc
  obtain ⟨pl, cl, rfl, _⟩ := id hl
  have hM := M_rg lw
  have hN := nd_rng lw
  have hCl := cms_len lw lc
  have hLl := LP_len lw
  have hLp := many_pos _ hM.1
  obtain ⟨hFq, hF⟩ := tmod_turn (Z 1) (cms lw lc).length (by omega)
  exact verifies_core w pw pc pl lw.length cw lc.length nc l.length cl (Z 0) (Z 1) (Z 2) (Z 3) (Z 4) (Z 5) (hz 0) (hz 1) (hz 2) (hz 3) (hz 4) (hz 5) (cfs lw lc) (cms lw lc) (LP lw) (by omega) (by omega) hLp (by omega) hM.2 (fun C L s => ver C L (Z 0) s) _ hF hFq
    (Lib.hid fun W k => sanity_any W (hT.below k)) (Lib.hid MA)
    (Lib.hid fun W p q pc ck cq cc b hy hs => Partials_any W p q pc pl _ ck _ cq _ cc cl (Z 0) _ _ _ l hy (by omega) (by omega) hs (hz 0) (hl.next b) (hT.below b))
    (Lib.hid fun C L s hs hm W p q n c m e b hy => Verify9 W p q n c m e (Z 0) C L s _ rfl hy (hz 0) hs (hT.below b))
    (Lib.hid fun C L s hs hm W p q n c m e b hy => refVerify9 W p q n c m e (Z 0) C L s _ rfl hy (by omega) (hz 0) hs (hT.below b))
end Go.Proofs.YtbfplapjjeeceaaGreatDoor.B9
