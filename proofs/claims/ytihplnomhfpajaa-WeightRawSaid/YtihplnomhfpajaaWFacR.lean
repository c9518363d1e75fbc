/-
  The walk of the reference's Factors.
-/
import Derived.Test.YtihplnomhfpajaaWSplit
import Derived.Deep.RegionWith
namespace Go.Proofs.Ytihplnomhfpajaa.W8
open Go.RowKit GM G4 D7P Go.Maps
theorem rMul_c (W : World) (a b m r : Int) (h : gm a b m = r) (ha : i64 a) (hb : i64 b) (hm2 : m ≤ 9223372036854775807) : Calls Try.prog 34 #[.int .i64 a, .int .i64 b, .int .i64 m] W fun e w' => e = .returned (.int .i64 r) ∧ w' = W := by
  subst h; exact refMul_any W a b m ha.1 ha.2 hb.1 hb.2 hm2
theorem rAdd_c (W : World) (a b m r : Int) (h : ga a b m = r) (ha : i64 a) (hb : i64 b) (hm2 : m ≤ 9223372036854775807) : Calls Try.prog 38 #[.int .i64 a, .int .i64 b, .int .i64 m] W fun e w' => e = .returned (.int .i64 r) ∧ w' = W := by
  subst h; exact refAdd_any W a b m ha.1 ha.2 hb.1 hb.2 hm2
theorem rSub_c (W : World) (a b m r : Int) (h : gs a b m = r) (ha : i64 a) (hb : i64 b) (hm2 : m ≤ 9223372036854775807) : Calls Try.prog 52 #[.int .i64 a, .int .i64 b, .int .i64 m] W fun e w' => e = .returned (.int .i64 r) ∧ w' = W := by
  subst h; exact refSub_any W a b m ha.1 ha.2 hb.1 hb.2 hm2
theorem rInv_c (W : World) (a m i : Int) (h : IsInv a m i true) (ha : i64 a) (hm2 : m ≤ 9223372036854775807) : Calls Try.prog 51 #[.int .i64 a, .int .i64 m] W fun e w' => e = .returned (.tuple #[.int .i64 i, .bool true]) ∧ w' = W :=
  (refInv_any W a m ha.1 ha.2 hm2).mono fun e w' ⟨j, is, h1, h2, q⟩ => by
    obtain ⟨rfl, rfl⟩ := h.unique h1
    exact ⟨h2, q⟩
theorem gs_inv (y x : Int) (h : (y - x) % 1152921504606845789 ≠ 0) : IsInv (gs y x 1152921504606845789) 1152921504606845789 (iv (y - x)) true := by
  rcases iv_is (y - x) h with ⟨_, h2, h3, h4, h5⟩ | ⟨h1, _⟩
  · exact .inl ⟨rfl, h2, h3, h4, by rw [gsQ_mod, mul_l]; exact h5⟩
  · cases h1
theorem nodup_idx {l : List Int} (h : l.Nodup) {j k : Nat} {x y : Int} (hx : l[k]? = some x) (hy : l[j]? = some y) : y = x ↔ j = k := by
  constructor
  · intro e
    subst e
    exact (List.getElem?_inj (List.getElem?_eq_some_iff.1 hy).1 h).1 (hy.trans hx.symm)
  · intro e
    subst e
    rw [hx] at hy
    injection hy with e
    exact e.symm
theorem fz_take {l : List Int} {x y : Int} {j : Nat} (hy : l[j]? = some y) : fz x 1 (l.take (j+1)) = fst x (fz x 1 (l.take j)) y := by
  rw [List.take_add_one, hy]; exact fz_snoc x 1 _ y
set_option maxRecDepth 100000 in
set_option maxHeartbeats 8000000 in
theorem Factors_any (w : World) (v : Value) (l : List Int) (hV : SLi w v l) (hP : Pts l) :
    Calls Try.prog 33 #[v] w fun e w' => ∃ u, e = .returned u ∧ w'.ownsRow w.heap.size 3 1 u l.length ((l.map (fx l)).map (Value.int .i64)) ∧ Below w.heap.size w w' := by
  obtain ⟨i0, hi, hz0, hz1, hz2⟩ := info_parts infoI
  obtain ⟨⟨p, c, rfl, hc⟩, hr, hln⟩ := hV
  have HI := Lib.hid (And.intro hc (And.intro hr hP)); clear hc hr hP
  obtain ⟨N, hN⟩ : ∃ N, l.length = N := ⟨_, rfl⟩
  rw [hN] at hln
  rw [hN]
  have HN := Lib.hid hN; clear hN
  go_enter Try.func33, Try.ntmps33
  go_wp2_with fail
  go_loopw [3, 4] (fun a i wr => ∃ (k : Nat), k ≤ N ∧ i = .int .i64 (k : Int) ∧ Hid (wr.ownsRow w.heap.size 3 1 a k (((l.take k).map (fx l)).map (Value.int .i64)) ∧ Below w.heap.size w wr)) (fun _ i _ => N - (match i with | .int _ i => i.toNat | _ => 0))
  case atStart => exact ⟨0, Nat.zero_le _, rfl, Lib.hid ⟨World.ownsRow_nil _ _ _ _, Below.refl _ _⟩⟩
  case round =>
    obtain ⟨k, hk, rfl, hQ⟩ := hrel
    by_cases hlt : k < N
    · obtain ⟨x, hx⟩ : ∃ s, l[k]? = some s := ⟨l[k]'(by rw [HN.out]; exact hlt), List.getElem?_eq_getElem _⟩
      obtain ⟨b, o, hp, hcx⟩ := HI.out.1 k _ hx
      subst hp
      have hix := HI.out.2.1 x (List.mem_of_getElem? hx)
      have hsub := HI.out.2.2.sub (List.mem_of_getElem? hx)
      have HX := Lib.hid (And.intro hx (And.intro hcx hsub))
      have HB := Lib.hid hQ.out.2
      clear hx hcx hsub
      have HF0 := Lib.hid (Below.refl wr.heap.size wr)
      have HKW := Lib.hid (show ∀ V, Below wr.heap.size wr V → V.ownsRow w.heap.size 3 1 _ k (((l.take k).map (fx l)).map (Value.int .i64)) ∧ Below w.heap.size w V from fun V hV => ⟨own_below' hQ.out.1 hV, hQ.out.2.trans (hV.mono hQ.out.2.size)⟩)
      clear hQ HB
      go_wp2_with fail
      go_loopw [5, 6] (fun f i wx => ∃ (j : Nat), j ≤ N ∧ f = .int .i64 (fz x 1 (l.take j)) ∧ i = .int .i64 (j : Int) ∧ Hid (Below wr.heap.size wr wx)) (fun _ i _ => N - (match i with | .int _ i => i.toNat | _ => 0))
      case atStart => exact ⟨0, Nat.zero_le _, rfl, rfl, HF0⟩
      case round =>
        obtain ⟨j, hj, rfl, rfl, hb⟩ := hrel
        by_cases hjlt : j < N
        · obtain ⟨y, hy⟩ : ∃ s, l[j]? = some s := ⟨l[j]'(by rw [HN.out]; exact hjlt), List.getElem?_eq_getElem _⟩
          have hfz := Lib.hid (fz_take (x := x) hy)
          by_cases e : j = k
          · subst e
            have hyx : y = x := (nodup_idx HI.out.2.2.d HX.out.1 hy).2 rfl
            have E := Lib.hid (show fz x 1 (l.take (j+1)) = fz x 1 (l.take j) by rw [hfz.out]; unfold fst; rw [if_pos hyx])
            clear hy hyx
            generalize fz x 1 (l.take j) = fj at *
            go_wp2
            exact ⟨⟨j + 1, by omega, by rw [E.out], by go_num, hb⟩, by simp; omega⟩
          · obtain ⟨b2, o2, hp, hcy⟩ := HI.out.1 j _ hy
            have hp : b = b2 ∧ o = o2 := by simpa using hp
            obtain ⟨rfl, rfl⟩ := hp
            have hyx : y ≠ x := fun h => e ((nodup_idx HI.out.2.2.d HX.out.1 hy).1 h)
            have hiy := HI.out.2.1 y (List.mem_of_getElem? hy)
            have hne := HX.out.2.2 y (List.mem_of_getElem? hy) hyx
            have hBw := (HKW.out _ hb.out).2
            have cx := (hBw.cell (p := ⟨b, o + k, none⟩) (World.block_lt_of_cell? _ _ HX.out.2.1)).trans HX.out.2.1
            have cy := (hBw.cell (p := ⟨b, o + j, none⟩) (World.block_lt_of_cell? _ _ hcy)).trans hcy
            have cx' : wr.drew.cell? ⟨b, o + k, none⟩ = some (.int .i64 x) := cx
            have hf := fz_rng x (l.take j) 1 (by decide)
            have hgs := sQr y x
            have hiv := iv_i (y - x) hne
            have hgm := mQr y (iv (y - x))
            have S1 := Lib.hid fun W => rSub_c W y x 1152921504606845789 _ rfl hiy hix (by decide)
            have I1 := Lib.hid fun W => rInv_c W (gs y x 1152921504606845789) 1152921504606845789 _ (gs_inv y x hne) ⟨by omega, by omega⟩ (by decide)
            have M1 := Lib.hid fun W => rMul_c W y (iv (y - x)) 1152921504606845789 _ rfl hiy hiv (by decide)
            have M2 := Lib.hid fun W => rMul_c W (fz x 1 (l.take j)) (gm y (iv (y - x)) 1152921504606845789) 1152921504606845789 _ rfl ⟨by omega, by omega⟩ ⟨by omega, by omega⟩ (by decide)
            have E := Lib.hid (show fz x 1 (l.take (j+1)) = gm (fz x 1 (l.take j)) (gm y (iv (y - x)) 1152921504606845789) 1152921504606845789 by rw [hfz.out]; unfold fst; rw [if_neg hyx])
            have hb2 := Lib.hid hb.out.drew
            clear hy hcy hyx hne hBw hf hgs hiv hgm cx'
            generalize fz x 1 (l.take j) = fj at *
            generalize gs y x 1152921504606845789 = d1 at *
            generalize iv (y - x) = d2 at *
            generalize gm y d2 1152921504606845789 = d3 at *
            generalize gm fj d3 1152921504606845789 = d4 at *
            have hjk : ¬ (j : Int) = (k : Int) := by omega
            go_wp2_with fail
            go_region_with (first
              | ((with_reducible refine (S1.out _).mono ?_); rintro e w2 ⟨rfl, rfl⟩)
              | ((with_reducible refine (I1.out _).mono ?_); rintro e w2 ⟨rfl, rfl⟩))
            all_goals
              go_wp2_with fail
              refine (M1.out _).mono ?_
              rintro e w3 ⟨rfl, rfl⟩
              go_wp2_with fail
              refine (M2.out _).mono ?_
              rintro e w3 ⟨rfl, rfl⟩
              go_wp2
              exact ⟨⟨j + 1, by omega, by rw [E.out], by go_num, hb2⟩, by simp; omega⟩
        · obtain rfl : j = N := by omega
          have hE : l.take j = l := List.take_of_length_le (by rw [HN.out]; exact Nat.le_refl _)
          have HK := Lib.hid (HKW.out _ hb.out)
          have hfx : fz x 1 (l.take j) = fx l x := by rw [hE]; rfl
          rw [hfx]
          have HT := Lib.hid (show ((l.take (k+1)).map (fx l)).map (Value.int .i64) = ((l.take k).map (fx l)).map (Value.int .i64) ++ [.int .i64 (fx l x)] by rw [List.take_add_one, HX.out.1, List.map_append, List.map_append]; rfl)
          have hA := Lib.hid (show k + 1 ≤ maxLen ∧ (k + 1) * 8 ≤ 140737488355328 from ⟨by unfold maxLen; omega, by omega⟩)
          clear hE hfx hb HKW HF0
          generalize fx l x = fv at *
          go_wp2_with (at_builtin; go_must (refine wpList_append_lies _ rfl _ _ 38 rfl w.heap.size 3 i0 (.int .i64 0) 1 8 Try.underlying38 hi hz0 hz1 hz2 rfl (by decide) _ k (((l.take k).map (fx l)).map (Value.int .i64)) rfl (HK.out.1.alloc _) ⟨wr.heap.size, 0, none⟩ 1 1 [.int .i64 fv] rfl rfl (World.news_of_block (heap_alloc_new _ _)) (by simp [Value.oneCell']) Nat.zero_lt_one hA.out.1 hA.out.2 (by rw [World.size_alloc]; exact Nat.le_succ_of_le HK.out.2.size) _ rfl ?_); intro g1 c1 w1 hown1 hgrow1 hat1 hlt1)
          have K9 := Lib.hid (show w1.ownsRow w.heap.size 3 1 (.slice (some ⟨g1, 0, none⟩) (k + 1) c1) (k+1) (((l.take (k+1)).map (fx l)).map (Value.int .i64)) ∧ Below w.heap.size w w1 from ⟨by rw [HT.out]; exact hown1, (HK.out.2.alloc HK.out.2.size _).grown hgrow1 (by rw [World.size_alloc]; exact Nat.le_succ_of_le HK.out.2.size) (fun r hr => (HK.out.1.lt r hr).1)⟩)
          clear hown1 hgrow1 hat1 hlt1
          try go_wp2
          exact ⟨⟨k + 1, by omega, by go_num, K9⟩, by simp; omega⟩
    · obtain rfl : k = N := by omega
      have hE : l.take k = l := List.take_of_length_le (by rw [HN.out]; exact Nat.le_refl _)
      rw [hE] at hQ
      go_wp2
      go_ret
      exact ⟨_, rfl, hQ.out.1, hQ.out.2⟩
end Go.Proofs.Ytihplnomhfpajaa.W8
