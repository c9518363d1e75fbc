/-
  The walk of the law BeaconFew.
  The law BeaconFew, for any poll.
-/
import Derived.Test.YtbfplapjjeeceaaGreatDoorBLk
import Derived.Test.YtbfplapjjeeceaaGreatDoorBMake
namespace Go.Proofs.YtbfplapjjeeceaaGreatDoor.B9
open Go.RowKit GM SH G4 E6 D7P
open W8 hiding i64 jn pX pY
/-- each of k partials twice -/
def dbl (g : Nat → Pa) : Nat → List Pa
  | 0 => []
  | k+1 => dbl g k ++ [g k, g k]
theorem dbl_len (g : Nat → Pa) : ∀ k, (dbl g k).length = k + k
  | 0 => rfl
  | k+1 => by show (dbl g k ++ [g k, g k]).length = _; rw [List.length_append, dbl_len g k]; show k + k + 2 = _; omega
theorem dbl_mem (g : Nat → Pa) : ∀ k, ∀ s ∈ dbl g k, ∃ i, i < k ∧ s = g i
  | 0, s, h => by cases h
  | k+1, s, h => by
    rcases List.mem_append.1 h with h | h
    · obtain ⟨i, hi, e⟩ := dbl_mem g k s h
      exact ⟨i, by omega, e⟩
    · simp only [List.mem_cons, List.not_mem_nil, or_false, or_self] at h
      exact ⟨k, by omega, h⟩
theorem u8_conv (n : Int) (h : 0 ≤ n ∧ n ≤ 255) : IntKind.i64.wrap n = n := by rw [IntKind.wrap_i64]; omega
set_option maxRecDepth 100000 in
set_option maxHeartbeats 8000000 in
theorem few_core (w : World) (pw0 pw1 : Option Addr) (nw0 cw0 nw1 cw1 : Nat) (r : Int) (nn : Nat) (hnn : nn ≤ 255) (CF C : List Int) (L : List (List Int)) (M : Nat) (hM0 : 0 < M) (hM : M ≤ 60) (K1 : Nat) (hCF : CF.length = K1 + 1) (hK1 : K1 ≤ 60) (hCL : C.length ≤ 60) (hLL : L.length ≤ 60) (SHL : List (Int × Int)) (hSL : SHL.length = M) (g : Nat → Pa)
    (hg : ∀ i x y, SHL[(nn + i) % M]? = some (x, y) → ∀ W, Below w.heap.size w W → Calls Tryz.prog 14 #[.agg #[.int .i64 x, .int .i64 y], .int .i64 r] W fun e w' => e = .returned (pav (g i)) ∧ Below W.heap.size W w')
    (hgi : ∀ i, i < K1 → pi64 (g i))
    (SA : Hid (∀ W, Below w.heap.size w W → Calls Tryz.prog 10 #[] W fun e w' => e = .returned (.bool true) ∧ Below W.heap.size W w'))
    (MA : Hid (∀ W, Below w.heap.size w W → Calls Tryz.prog 16 #[.agg #[.slice pw0 nw0 cw0, .slice pw1 nw1 cw1]] W (MQ W CF C L)))
    (SH : Hid (∀ W (p q pc : Option Addr) (ck cq cc : Nat), KY W p q C.length ck L.length cq C L → SLi W (.slice pc CF.length cc) CF → Calls Tryz.prog 20 #[.slice pc CF.length cc, .agg #[.slice p C.length ck, .slice q L.length cq]] W fun e w' => (∃ sv, e = .returned sv ∧ ShL w' sv SHL) ∧ Below W.heap.size W w'))
    (CO : Hid (∀ W (p q : Option Addr) (ck cq : Nat) v, Below w.heap.size w W → KY W p q C.length ck L.length cq C L → PaL W v (dbl g K1) → Calls Tryz.prog 23 #[.agg #[.slice p C.length ck, .slice q L.length cq], .int .i64 r, v] W fun e w' => (∃ pb cb, e = .returned (.tuple #[.int .i64 0, .slice pb 0 cb, .int .i64 24])) ∧ Below W.heap.size W w')) :
    Calls Tryz.prog 6 #[.agg #[.slice pw0 nw0 cw0, .slice pw1 nw1 cw1], .int .i64 r, .int .u8 (nn : Int)] w fun e w' => e = .returned (.bool true) ∧ Below w.heap.size w w' := by
  obtain ⟨i0, hi, hz0, hz1, hz2⟩ := info_parts infoP4
  obtain ⟨W, hW⟩ : ∃ W, w.alloc (.cells #[.slice pw0 nw0 cw0, .slice pw1 nw1 cw1] 36) = W := ⟨_, rfl⟩
  have K0 := (CK.start w).cells #[.slice pw0 nw0 cw0, .slice pw1 nw1 cw1] 36 _ rfl
  rw [hW] at K0
  have c0 := K0.get ⟨w.heap.size, 0, none⟩ (.slice pw0 nw0 cw0) (by simp)
  have c1 := K0.get ⟨w.heap.size, 1, none⟩ (.slice pw1 nw1 cw1) (by simp)
  have HK := Lib.hid (K0.sub (M := [(⟨w.heap.size, 0, none⟩, .slice pw0 nw0 cw0), (⟨w.heap.size, 1, none⟩, .slice pw1 nw1 cw1)]) (Y := []) (by simp) (by simp))
  have HG := Lib.hid (And.intro hg (And.intro hgi hSL))
  have HL := Lib.hid (And.intro hCF (And.intro hCL hLL))
  clear K0 hg hgi hSL hCL hLL
  go_enter Tryz.func6, Tryz.ntmps6
  go_upto_region 1 with fail
  clear hW c0 c1
  go_wp2_with fail
  refine (SA.out _ HK.out.b).mono ?_
  rintro e w1 ⟨rfl, b1⟩
  replace HK := Lib.hid (HK.out.next b1); clear b1
  have c0 := HK.out.get ⟨w.heap.size, 0, none⟩ (.slice pw0 nw0 cw0) (by simp)
  have c1 := HK.out.get ⟨w.heap.size, 1, none⟩ (.slice pw1 nw1 cw1) (by simp)
  go_wp2_with fail
  refine (MA.out _ HK.out.b).mono ?_
  rintro e w2 ⟨⟨pc, pk, pq, cc, ck, cq, rfl, hs, hy⟩, b2⟩
  have hLK := lk_start (HK.out.b.trans (b2.mono HK.out.b.size)) hs hy
  clear b2 hs hy HK c0 c1
  obtain ⟨NC, hNC⟩ : ∃ n, C.length = n := ⟨_, rfl⟩
  obtain ⟨NL, hNL⟩ : ∃ n, L.length = n := ⟨_, rfl⟩
  have HN := Lib.hid (And.intro hNC hNL)
  rw [hNC, hNL] at hLK SH CO ⊢
  rw [hCF] at hLK SH ⊢
  clear hNC hNL
  go_upto_region 3 with fail
  obtain ⟨W3, hW3⟩ : ∃ V, w2.alloc (.cells #[.slice pk NC ck, .slice pq NL cq] 41) = V := ⟨_, rfl⟩
  rw [hW3] at hLK ⊢
  obtain ⟨gk, hgk⟩ : ∃ g, w2.heap.size = g := ⟨_, rfl⟩
  rw [hgk] at hLK ⊢
  have HLK := Lib.hid hLK
  clear hLK hW3 hgk hCF
  have c0 := HLK.out.c0
  have c1 := HLK.out.c1
  go_wp2_with fail
  refine (SH.out _ pk pq pc ck cq cc HLK.out.y HLK.out.s).mono ?_
  rintro e W0 ⟨⟨sv, rfl, hsh⟩, b4⟩
  have HLK0 := Lib.hid (HLK.out.next b4)
  obtain ⟨⟨ps, cs, rfl, hcs⟩, hsr, _⟩ := hsh
  have HSH := Lib.hid (And.intro hcs hsr)
  rw [HG.out.2.2]
  clear b4 HLK c0 c1 hcs hsr SH MA SA
  go_wp2_with fail
  go_loopw [11, 12] (fun a i wr => ∃ k : Nat, k ≤ K1 ∧ i = .int .i64 (k : Int) ∧ Hid (wr.ownsRow W0.heap.size 30 4 a (k + k) (fl4 (dbl g k)) ∧ Below W0.heap.size W0 wr)) (fun _ i _ => K1 - (match i with | .int _ i => i.toNat | _ => 0))
  case atStart => exact ⟨0, Nat.zero_le _, rfl, Lib.hid ⟨World.ownsRow_nil _ _ _ _, Below.refl _ _⟩⟩
  case round =>
    obtain ⟨k, hk, rfl, HQ⟩ := hrel
    by_cases hlt : k < K1
    · obtain ⟨⟨x, y⟩, hx⟩ : ∃ s, SHL[(nn + k) % M]? = some s := ⟨SHL[(nn + k) % M]'(by rw [HG.out.2.2]; exact Nat.mod_lt _ hM0), List.getElem?_eq_getElem _⟩
      obtain ⟨b, o, hp, hc0, hc1⟩ := HSH.out.1 _ _ hx
      subst hp
      have c0 := (HQ.out.2.cell (p := ⟨b, o + (nn + k) % M * 2, none⟩) (World.block_lt_of_cell? _ _ hc0)).trans hc0
      have c1 := (HQ.out.2.cell (p := ⟨b, o + (nn + k) % M * 2 + 1, none⟩) (World.block_lt_of_cell? _ _ hc1)).trans hc1
      dsimp only at c0 c1
      have EV := Lib.hid (HG.out.1 k x y hx)
      have hpi := HG.out.2.1 k hlt
      have hrm : Int.tmod ((nn : Int) + (k : Int)) (M : Int) = (((nn + k) % M : Nat) : Int) := by rw [Int.tmod_eq_emod_of_nonneg (by omega)]; rfl
      have hml := Nat.mod_lt (nn + k) hM0
      obtain ⟨j, hj⟩ : ∃ j, (nn + k) % M = j := ⟨_, rfl⟩
      rw [hj] at c0 c1 hrm hml
      have hmi : (j : Int) < (M : Int) := by omega
      have hadd : (nn : Int) + (k : Int) ≤ 9223372036854775807 := by omega
      have hm0 : ¬ ((M : Int) = 0) := by omega
      have hcv := u8_conv (nn : Int) ⟨by omega, by omega⟩
      have hk1 : (k : Int) + 1 < (K1 : Int) + 1 := by omega
      obtain ⟨s, hs⟩ : ∃ s, g k = s := ⟨_, rfl⟩
      have HD := Lib.hid (show dbl g (k+1) = dbl g k ++ [s, s] by rw [← hs]; rfl)
      rw [hs] at EV hpi
      obtain ⟨s0, s1, s2, s3⟩ := s
      have hA := Lib.hid (show k + k + 2 ≤ maxLen ∧ (k + k + 2) * 32 ≤ 140737488355328 from ⟨by unfold maxLen; omega, by omega⟩)
      have HB0 := Lib.hid (HLK0.out.b.trans (HQ.out.2.mono HLK0.out.b.size))
      clear hx hc0 hc1 hj hs
      go_wp2_with fail
      refine (EV.out _ HB0.out).mono ?_
      rintro e w5 ⟨rfl, b5⟩
      have HQ5 := Lib.hid (And.intro (own_below' HQ.out.1 b5) (HQ.out.2.trans (b5.mono HQ.out.2.size)))
      clear b5 HQ c0 c1 EV HB0 hrm hcv
      go_upto_region 9 with fail
      obtain ⟨V, hV⟩ : ∃ V, w5.alloc (.cells #[.int .i64 s0, .int .i64 s1, .int .i64 s2, .int .i64 s3] 30) = V := ⟨_, rfl⟩
      rw [hV]
      have bV : Below w5.heap.size w5 V := by rw [← hV]; exact (Below.refl w5.heap.size w5).alloc (Nat.le_refl _) _
      have hm : V.heap[w5.heap.size]? = some (.cells #[.int .i64 s0, .int .i64 s1, .int .i64 s2, .int .i64 s3] 30 (0, 0)) := by rw [← hV]; exact heap_alloc_new _ _
      have HV := Lib.hid (And.intro (own_below' HQ5.out.1 bV) (HQ5.out.2.trans (bV.mono HQ5.out.2.size)))
      clear hV HQ5 bV
      generalize w5.heap.size = g5 at *
      have d0 := cell_of_row _ g5 0 _ _ _ hm
      have d1 := cell_of_row _ g5 1 _ _ _ hm
      have d2 := cell_of_row _ g5 2 _ _ _ hm
      have d3 := cell_of_row _ g5 3 _ _ _ hm
      have ho := HV.out.1.alloc (.cells #[.int .i64 s0, .int .i64 s1, .int .i64 s2, .int .i64 s3, .int .i64 s0, .int .i64 s1, .int .i64 s2, .int .i64 s3] 30)
      go_wp2_with (at_builtin; go_must (refine wpList_append_lies _ rfl _ _ 44 rfl W0.heap.size 30 i0 (.agg #[.int .i64 0, .int .i64 0, .int .i64 0, .int .i64 0]) 4 32 Tryz.underlying44 hi hz0 hz1 hz2 rfl (by decide) _ (k + k) (fl4 (dbl g k)) rfl ho ⟨V.heap.size, 0, none⟩ 2 2 [.int .i64 s0, .int .i64 s1, .int .i64 s2, .int .i64 s3, .int .i64 s0, .int .i64 s1, .int .i64 s2, .int .i64 s3] rfl rfl (World.news_of_block (heap_alloc_new _ _)) (by simp [Value.oneCell']) (by decide) hA.out.1 hA.out.2 (by rw [World.size_alloc]; exact Nat.le_succ_of_le HV.out.2.size) _ rfl ?_); intro g9 c9 w9 hown9 hgrow9 hat9 hlt9)
      have hb9 : Below W0.heap.size W0 w9 := (HV.out.2.alloc HV.out.2.size (.cells #[.int .i64 s0, .int .i64 s1, .int .i64 s2, .int .i64 s3, .int .i64 s0, .int .i64 s1, .int .i64 s2, .int .i64 s3] 30)).grown hgrow9 (by rw [World.size_alloc]; exact Nat.le_succ_of_le HV.out.2.size) (fun r hr => (HV.out.1.lt r hr).1)
      have K9 := Lib.hid (show w9.ownsRow W0.heap.size 30 4 (.slice (some ⟨g9, 0, none⟩) (k + k + 2) c9) (k + 1 + (k + 1)) (fl4 (dbl g (k+1))) ∧ Below W0.heap.size W0 w9 from ⟨by rw [HD.out, fl4_app, show k + 1 + (k + 1) = k + k + 2 by omega]; exact hown9, hb9⟩)
      clear hown9 hgrow9 hat9 hlt9 ho hb9 d0 d1 d2 d3 hm HV
      try go_wp2
      exact ⟨⟨k + 1, by omega, by go_num, K9⟩, by simp; omega⟩
    · obtain rfl : k = K1 := by omega
      have hk1 : ¬ ((k : Int) + 1 < (k : Int) + 1) := by omega
      have HPA := Lib.hid (own_PaL (l := dbl g k) (by rw [dbl_len]; exact HQ.out.1) (fun s hs => by obtain ⟨i, hi, rfl⟩ := dbl_mem g k s hs; exact HG.out.2.1 i hi) (by rw [dbl_len]; omega))
      have HLr := Lib.hid (HLK0.out.next HQ.out.2)
      have c0 := HLr.out.c0
      have c1 := HLr.out.c1
      clear HQ HLK0
      go_wp2_with fail
      refine (CO.out _ pk pq ck cq _ HLr.out.b HLr.out.y HPA.out).mono ?_
      rintro e w7 ⟨⟨pb, cb, rfl⟩, b7⟩
      have HB7 := Lib.hid (HLr.out.b.trans (b7.mono HLr.out.b.size))
      clear b7 HLr HPA c0 c1
      go_wp2
      go_ret
      exact ⟨rfl, HB7.out⟩
end Go.Proofs.YtbfplapjjeeceaaGreatDoor.B9
namespace Go.Proofs.YtbfplapjjeeceaaGreatDoor.B9
open Go.RowKit GM SH G4 E6 D7P
open W8 hiding i64 jn pX pY
theorem flt_all {f : Pa → Bool} {l : List Pa} (h : ∀ s ∈ l, f s = true) : l.filter f = l ∧ l.filter (fun s => !f s) = [] :=
  ⟨List.filter_eq_self.2 h, List.filter_eq_nil_iff.2 (fun s hs => by rw [h s hs]; decide)⟩
theorem und_few (l : List Pa) (b : List Int) (h : ∀ s ∈ l, s.1 ∈ b) : (und l).length ≤ b.length := by
  have := nodup_len ((und l).map Prod.fst) b (und_nodup l) (fun x hx => by
    obtain ⟨s, hs, rfl⟩ := List.mem_map.1 hx
    exact h s (und_mem l s hs))
  rwa [List.length_map] at this
theorem sli_nil {w : World} {v : Value} (h : SLi w v []) : ∃ p c, v = .slice p 0 c := by
  obtain ⟨p, c, e, _⟩ := h.h
  exact ⟨p, c, e⟩
theorem M_rng (lw : List Int) : 1 ≤ many (LP lw) ∧ many (LP lw) ≤ 60 := by
  have h := mbl_tot lw
  have h2 := LP_many lw
  omega
theorem pt_at (CF : List Int) (M i : Nat) (x y : Int) (h : (shs CF M)[i]? = some (x, y)) (hi : i < M) : x = (i : Int) + 1 ∧ y = D7.vl CF x := by
  rw [shs_get CF M i hi] at h
  have := Option.some.inj h
  rw [Prod.mk.injEq] at this
  exact ⟨this.1.symm, by rw [← this.1]; exact this.2.symm⟩
set_option maxRecDepth 100000 in
theorem few_walk (w : World) (wv cv : Value) (lw lc : List Int) (r n : Int) (hw : BL w wv lw) (hc : D7.AL w cv lc) (hr : i64 r) (hn : 0 ≤ n ∧ n ≤ 255) (hT : TS w) :
    Calls Tryz.prog 6 #[.agg #[wv, cv], .int .i64 r, .int .u8 n] w fun e w' => e = .returned (.bool true) ∧ Below w.heap.size w w' := by
  obtain ⟨nn, rfl⟩ : ∃ m : Nat, n = (m : Int) := ⟨n.toNat, by omega⟩
  have MA := fun W (k : Below w.heap.size w W) => Make_q w W wv cv lw lc hw hc k
  obtain ⟨pw, cw, rfl, _⟩ := id hw
  obtain ⟨pc, nc, rfl, _⟩ := al_form hc
  have hM := M_rng lw
  have hN := nd_rng lw
  have hCF : (cfs lw lc).length = nd lw - 1 + 1 := by rw [cfs_len]; omega
  have hx : ∀ i, 1 ≤ ((((nn + i) % many (LP lw) : Nat) : Int) + 1) ∧ ((((nn + i) % many (LP lw) : Nat) : Int) + 1) ≤ ((many (LP lw) : Nat) : Int) := fun i => by
    have := Nat.mod_lt (nn + i) (show 0 < many (LP lw) by omega)
    omega
  refine few_core w pw pc lw.length cw lc.length nc r nn (by omega) (cfs lw lc) (cms lw lc) (LP lw) (many (LP lw)) (by omega) hM.2 (nd lw - 1) hCF (by omega) (by rw [cms_len]; omega) (by have := LP_len lw; omega) (shs (cfs lw lc) (many (LP lw))) (shs_len _ _)
    (fun i => pt (cfs lw lc) r ((((nn + i) % many (LP lw) : Nat) : Int) + 1)) ?_ ?_ (Lib.hid fun W k => sanity_any W (hT.below k)) (Lib.hid MA) (Lib.hid fun W p q pc ck cq cc hy hs => Shares_any W p q _ ck _ cq _ _ hy hM.2 _ _ hs) (Lib.hid ?_)
  · intro i x y hxy W k
    have hlt := Nat.mod_lt (nn + i) (show 0 < many (LP lw) by omega)
    obtain ⟨e1, e2⟩ := pt_at _ _ _ x y hxy hlt
    have hi := hx i
    rw [← e1] at hi
    refine (Eval_any W x y r _ rfl ⟨by omega, by omega⟩ (by rw [e2]; exact vl_ok _ _) hr (hT.below k)).mono fun e w' h => ⟨?_, h.2⟩
    rw [h.1, ← e1, e2, evl_pt (cfs lw lc) r x ⟨hi.1, by omega⟩]
  · intro i hi
    have := hx i
    exact pt_i64 _ _ _ ⟨by omega, by omega⟩
  · intro W p q ck cq v k hy hv
    have hacc : ∀ s ∈ dbl (fun i => pt (cfs lw lc) r ((((nn + i) % many (LP lw) : Nat) : Int) + 1)) (nd lw - 1), acc (cms lw lc) (many (LP lw) : Nat) r s = true := fun s hs => by
      obtain ⟨i, _, rfl⟩ := dbl_mem _ _ s hs
      exact acc_pt lw lc r _ (hx i)
    obtain ⟨f1, f2⟩ := flt_all hacc
    refine (Combine_any W p q _ ck _ cq r (cms lw lc) (LP lw) hy hr v _ hv (hT.below k)).mono ?_
    rintro e w' ⟨b, h⟩
    refine ⟨?_, b⟩
    rcases h with ⟨h, _⟩ | ⟨_, bv, hb, h⟩
    · exact absurd (rgt_poll lw lc) h
    · unfold cR at hb
      rw [f2] at hb
      obtain ⟨pb, cb, rfl⟩ := sli_nil hb
      unfold cG at h
      rw [f1] at h
      rcases h with ⟨_, h⟩ | ⟨h, _⟩
      · exact ⟨pb, cb, h⟩
      · exfalso
        apply h
        have := und_few (dbl (fun i => pt (cfs lw lc) r ((((nn + i) % many (LP lw) : Nat) : Int) + 1)) (nd lw - 1)) ((List.range (nd lw - 1)).map fun (i : Nat) => ((((nn + i) % many (LP lw) : Nat) : Int) + 1)) (fun s hs => by
          obtain ⟨i, hi, rfl⟩ := dbl_mem _ _ s hs
          exact List.mem_map.2 ⟨i, List.mem_range.2 hi, rfl⟩)
        rw [List.length_map, List.length_range] at this
        rw [cms_len]
        omega
end Go.Proofs.YtbfplapjjeeceaaGreatDoor.B9
