/-
  The walks of deal.Value, deal.At, deal.power, deal.all and deal.isExponent.
-/
import Derived.Test.YtjfbpmpdcmealaaGreatDoorDBase
namespace Go.Proofs.YtjfbpmpdcmealaaGreatDoor.D7
open Go.RowKit GM SH G4 E6 D7P Go.Shelf
attribute [local go_sem] Oper.semAt_some
theorem pp_i (a n : Int) : i64 (pp a n) := ⟨by have := pp_rng a n; omega, by have := pp_rng a n; omega⟩
theorem gmP_i64 (a b : Int) : i64 (gm a b 2305843009213691579) := ⟨by have := mPr a b; omega, by have := mPr a b; omega⟩
theorem vl_i64 (l : List Int) (x : Int) : i64 (vl l x) := ⟨by have := vl_rng l x; omega, by have := vl_rng l x; omega⟩
theorem av_i64 (l : List Int) (x : Int) : i64 (av l x) := ⟨by have := av_rng l x; omega, by have := av_rng l x; omega⟩
theorem power_c (w : World) (a n r : Int) (h : pp a n = r) (ha : i64 a) (hn : i64 n) :
    Calls Tryz.prog 36 #[.int .i64 a, .int .i64 n] w fun e w' => e = .returned (.int .i64 r) ∧ Below w.heap.size w w' := by
  have P1 := Lib.hid fun W => pow_k W a n 2305843009213691579 r (by rw [← h]; rfl) ha.1 ha.2 hn.2 (by decide)
  clear h
  go_enter Tryz.func36, Tryz.ntmps36
  go_wp2_with fail
  refine (P1.out _).mono ?_
  rintro e w1 ⟨rfl, b⟩
  have hb := Lib.hid b; clear b
  go_wp2
  go_ret
  exact ⟨rfl, hb.out⟩
theorem isExponent_c (w : World) (n : Int) (r : Bool) (h : inQ n = r) :
    Calls Tryz.prog 33 #[.int .i64 n] w fun e w' => e = .returned (.bool r) ∧ w' = w := by
  subst h
  by_cases h0 : 0 ≤ n
  · by_cases h1 : n < 1152921504606845789
    · have E := Lib.hid (inQ_t ⟨h0, h1⟩)
      go_enter Tryz.func33, Tryz.ntmps33
      go_wp2
      go_ret
      exact ⟨by rw [E.out]; rfl, rfl⟩
    · have E := Lib.hid (show inQ n = false by unfold inQ; rw [decide_eq_true (show 1152921504606845789 ≤ n by omega)]; simp)
      go_enter Tryz.func33, Tryz.ntmps33
      go_wp2
      go_ret
      exact ⟨by rw [E.out]; rfl, rfl⟩
  · have E := Lib.hid (show inQ n = false by unfold inQ; rw [decide_eq_true (show n < 0 by omega)]; simp)
    go_enter Tryz.func33, Tryz.ntmps33
    go_wp2
    go_ret
    exact ⟨by rw [E.out]; rfl, rfl⟩
theorem all_yes (p : Int → Bool) (l : List Int) (k : Nat) (x : Int) (hx : l[k]? = some x) (h : (l.take k).all p = true) (hp : p x = true) : (l.take (k+1)).all p = true := by
  rw [List.take_add_one, hx, List.all_append, h]; simp [hp]
theorem all_no (p : Int → Bool) (l : List Int) (k : Nat) (x : Int) (hx : l[k]? = some x) (hp : p x = false) : l.all p = false := by
  rw [List.all_eq_false]
  exact ⟨x, List.mem_of_getElem? hx, by simp [hp]⟩
set_option maxRecDepth 100000 in
set_option maxHeartbeats 2000000 in
/-- all numbers of a slice, for a function whose word is known -/
theorem all_mem (w : World)
    (v : Value) (l : List Int) (hV : SL w v l) (hr : ∀ x ∈ l, i64 x) (hln : l.length ≤ 1000000000) :
    Calls Tryz.prog 32 #[v, .func (.func 34) #[] #[]] w fun e w' => e = .returned (.bool (l.all mem)) ∧ Below w.heap.size w w' := by
  obtain ⟨p, c, rfl, hc⟩ := hV.form
  have HI := Lib.hid (And.intro hc hr); clear hc hr hV
  obtain ⟨N, hN⟩ : ∃ N, l.length = N := ⟨_, rfl⟩
  rw [hN] at hln
  rw [hN]
  have HN := Lib.hid hN; clear hN
  go_enter Tryz.func32, Tryz.ntmps32
  go_wp2_with fail
  go_loopw [9] (fun i wr => ∃ (k : Nat), k ≤ N ∧ i = .int .i64 (k : Int) ∧ Hid ((l.take k).all mem = true) ∧ Hid (Below w.heap.size w wr)) (fun i _ => N - (match i with | .int _ i => i.toNat | _ => 0))
  case atStart => exact ⟨0, Nat.zero_le _, rfl, Lib.hid (by simp), Lib.hid (Below.refl _ _)⟩
  case round =>
    obtain ⟨k, hk, rfl, ht, hb⟩ := hrel
    by_cases hlt : k < N
    · obtain ⟨x, hx⟩ : ∃ x, l[k]? = some x := ⟨l[k]'(by rw [HN.out]; exact hlt), List.getElem?_eq_getElem _⟩
      obtain ⟨b, o, hp, hcx⟩ := HI.out.1 k x hx
      subst hp
      have hcell := (hb.out.cell (p := ⟨b, o + k, none⟩) (World.block_lt_of_cell? _ _ hcx)).trans hcx
      have hix := HI.out.2 x (List.mem_of_getElem? hx)
      have M := Lib.hid fun W => member_k W x _ rfl hix.1 hix.2
      have HX := Lib.hid hx
      clear hx hcx
      cases hm : mem x with
      | true =>
        rw [hm] at M
        have ht2 := Lib.hid (all_yes mem l k x HX.out ht.out hm)
        clear hm
        go_wp2_with fail
        refine (M.out _).mono ?_
        rintro e w1 ⟨rfl, b⟩
        have hb1 := Lib.hid (hb.out.trans (b.mono hb.out.size)); clear b hcell
        go_wp2
        exact ⟨⟨k + 1, by omega, by simp, ht2, hb1⟩, by simp; omega⟩
      | false =>
        rw [hm] at M
        have E := Lib.hid (all_no mem l k x HX.out hm)
        clear hm
        go_wp2_with fail
        refine (M.out _).mono ?_
        rintro e w1 ⟨rfl, b⟩
        have hb1 := Lib.hid (hb.out.trans (b.mono hb.out.size)); clear b hcell
        go_wp2
        go_ret
        exact ⟨by rw [E.out]; rfl, hb1.out⟩
    · obtain rfl : k = N := by omega
      have E := Lib.hid (show l.all mem = true by have := ht.out; rwa [← HN.out, List.take_length] at this)
      go_wp2
      go_ret
      exact ⟨by rw [E.out]; rfl, hb.out⟩
set_option maxRecDepth 100000 in
set_option maxHeartbeats 2000000 in
/-- all numbers of a slice, for a function whose word is known -/
theorem all_inQ (w : World)
    (v : Value) (l : List Int) (hV : SL w v l) (hr : ∀ x ∈ l, i64 x) (hln : l.length ≤ 1000000000) :
    Calls Tryz.prog 32 #[v, .func (.func 33) #[] #[]] w fun e w' => e = .returned (.bool (l.all inQ)) ∧ Below w.heap.size w w' := by
  obtain ⟨p, c, rfl, hc⟩ := hV.form
  have HI := Lib.hid (And.intro hc hr); clear hc hr hV
  obtain ⟨N, hN⟩ : ∃ N, l.length = N := ⟨_, rfl⟩
  rw [hN] at hln
  rw [hN]
  have HN := Lib.hid hN; clear hN
  go_enter Tryz.func32, Tryz.ntmps32
  go_wp2_with fail
  go_loopw [9] (fun i wr => ∃ (k : Nat), k ≤ N ∧ i = .int .i64 (k : Int) ∧ Hid ((l.take k).all inQ = true) ∧ Hid (Below w.heap.size w wr)) (fun i _ => N - (match i with | .int _ i => i.toNat | _ => 0))
  case atStart => exact ⟨0, Nat.zero_le _, rfl, Lib.hid (by simp), Lib.hid (Below.refl _ _)⟩
  case round =>
    obtain ⟨k, hk, rfl, ht, hb⟩ := hrel
    by_cases hlt : k < N
    · obtain ⟨x, hx⟩ : ∃ x, l[k]? = some x := ⟨l[k]'(by rw [HN.out]; exact hlt), List.getElem?_eq_getElem _⟩
      obtain ⟨b, o, hp, hcx⟩ := HI.out.1 k x hx
      subst hp
      have hcell := (hb.out.cell (p := ⟨b, o + k, none⟩) (World.block_lt_of_cell? _ _ hcx)).trans hcx
      have hix := HI.out.2 x (List.mem_of_getElem? hx)
      have M := Lib.hid fun W => (isExponent_c W x _ rfl).mono fun e w' (h : _ ∧ _) => (⟨h.1, by rw [h.2]; exact Below.refl _ _⟩ : _ ∧ Below W.heap.size W w')
      have HX := Lib.hid hx
      clear hx hcx
      cases hm : inQ x with
      | true =>
        rw [hm] at M
        have ht2 := Lib.hid (all_yes inQ l k x HX.out ht.out hm)
        clear hm
        go_wp2_with fail
        refine (M.out _).mono ?_
        rintro e w1 ⟨rfl, b⟩
        have hb1 := Lib.hid (hb.out.trans (b.mono hb.out.size)); clear b hcell
        go_wp2
        exact ⟨⟨k + 1, by omega, by simp, ht2, hb1⟩, by simp; omega⟩
      | false =>
        rw [hm] at M
        have E := Lib.hid (all_no inQ l k x HX.out hm)
        clear hm
        go_wp2_with fail
        refine (M.out _).mono ?_
        rintro e w1 ⟨rfl, b⟩
        have hb1 := Lib.hid (hb.out.trans (b.mono hb.out.size)); clear b hcell
        go_wp2
        go_ret
        exact ⟨by rw [E.out]; rfl, hb1.out⟩
    · obtain rfl : k = N := by omega
      have E := Lib.hid (show l.all inQ = true by have := ht.out; rwa [← HN.out, List.take_length] at this)
      go_wp2
      go_ret
      exact ⟨by rw [E.out]; rfl, hb.out⟩
theorem all_members (w : World) (v : Value) (l : List Int) (r : Bool) (h : l.all mem = r) (hV : SL w v l) (hr : ∀ x ∈ l, i64 x) (hln : l.length ≤ 1000000000) :
    Calls Tryz.prog 32 #[v, .func (.func 34) #[] #[]] w fun e w' => e = .returned (.bool r) ∧ Below w.heap.size w w' := by
  subst h; exact all_mem w v l hV hr hln
theorem all_exponents (w : World) (v : Value) (l : List Int) (r : Bool) (h : l.all inQ = r) (hV : SL w v l) (hr : ∀ x ∈ l, i64 x) (hln : l.length ≤ 1000000000) :
    Calls Tryz.prog 32 #[v, .func (.func 33) #[] #[]] w fun e w' => e = .returned (.bool r) ∧ Below w.heap.size w w' := by
  subst h; exact all_inQ w v l hV hr hln
/-- what holds between two rounds: the number so far lies in its variable -/
structure VI (w : World) (S : Nat) (z : Int) (W : World) : Prop where
  c : W.cell? ⟨S, 0, none⟩ = some (.int .i64 z)
  f : W.frozen? ⟨S, 0, none⟩ = false
  lt : S + 3 ≤ W.heap.size
  b : Below w.heap.size w W
theorem VI.l1 {w : World} {S : Nat} {z : Int} {W : World} (h : VI w S z W) : S < W.heap.size := by have := h.lt; omega
theorem VI.own {α : Type} {w : World} {S B : Nat} (hB : w.heap.size ≤ B) (g : α → Int) : OwnFrom B (fun (s : α) W => VI w S (g s) W) := fun _ _ _ _ hs hg hr =>
  ⟨cell_kept hs.c hg (fun r e => (hr r e).2), (frozen_kept hs.c hg (fun r e => (hr r e).2)).trans hs.f, Nat.le_trans hs.lt hg.size, hs.b.grown hg hs.b.size (fun k e => Nat.le_trans hB (hr k e).1)⟩
theorem VI.step {w : World} {S : Nat} {z : Int} {W W1 : World} (h : VI w S z W) (hS : w.heap.size ≤ S) (k : Below W.heap.size W W1) (u : Int) : VI w S u (W1.setCell ⟨S, 0, none⟩ (.int .i64 u)) :=
  ⟨World.cell?_setCell_same _ _ _ ((k.cell (p := ⟨S, 0, none⟩) h.l1).trans h.c), by rw [World.frozen?_setCell]; exact (k.frozen (p := ⟨S, 0, none⟩) h.l1).trans h.f, by simp only [World.size_setCell]; exact Nat.le_trans h.lt k.size,
    (h.b.trans (k.mono h.b.size)).setCell (p := ⟨S, 0, none⟩) hS _⟩
theorem VI.drew {w : World} {S : Nat} {z : Int} {W : World} (h : VI w S z W) : VI w S z W.drew := ⟨h.c, h.f, h.lt, h.b.drew⟩
theorem keepsOthers_below {W W' : World} (h : Below W.heap.size W W') : KeepsOthers W W' :=
  ⟨h.size, fun k o ho _ => by rw [h.block k (Array.getElem?_eq_some_iff.1 ho).1]; exact ho⟩
/-- the world in which the rounds begin -/
theorem start_facts (w : World) (z x : Int) (p : Option Addr) (N c : Nat) (l : List Int) (hl : l.length = N) (hc : ∀ (j : Nat) (y : Int), l[j]? = some y → ∃ b o, p = some ⟨b, o, none⟩ ∧ w.cell? ⟨b, o + j, none⟩ = some (.int .i64 y)) (W : World)
    (hW : ((w.alloc (.cells #[.int .i64 z] 3)).alloc (.cells #[.slice p N c] 22)).alloc (.cells #[.int .i64 x] 3) = W) :
    W.heap.size = w.heap.size + 3 ∧ VI w w.heap.size z W ∧ W.cell? ⟨w.heap.size + 1, 0, none⟩ = some (.slice p l.length c) ∧ W.cell? ⟨w.heap.size + 1 + 1, 0, none⟩ = some (.int .i64 x) ∧
      (∀ (j : Nat) (y : Int), l[j]? = some y → ∃ b o, p = some ⟨b, o, none⟩ ∧ b < w.heap.size + 3 ∧ b ≠ w.heap.size ∧ W.cell? ⟨b, o + j, none⟩ = some (.int .i64 y)) := by
  have hB : Below w.heap.size w W := by rw [← hW]; exact (((Below.refl _ w).alloc (Nat.le_refl _) _).alloc (by simp) _).alloc (by simp; omega) _
  refine ⟨by rw [← hW]; simp, ⟨?_, ?_, by rw [← hW]; simp, hB⟩, ?_, ?_, fun j y hj => ?_⟩
  · rw [← hW, World.cell?_alloc_past _ _ _ (by simp; omega), World.cell?_alloc_past _ _ _ (by simp), World.cell?_alloc_at _ _ _ _ rfl]; rfl
  · rw [← hW, World.frozen?_alloc_past _ _ _ (by simp; omega), World.frozen?_alloc_past _ _ _ (by simp), World.frozen?_alloc_at _ _ _ _ rfl]
  · rw [← hW, World.cell?_alloc_past _ _ _ (by simp), World.cell?_alloc_at _ _ _ _ (by simp), hl]; rfl
  · rw [← hW, World.cell?_alloc_at _ _ _ _ (by simp)]; rfl
  · obtain ⟨b, o, e, k⟩ := hc j y hj
    have hb := World.block_lt_of_cell? _ _ k
    have hb : b < w.heap.size := hb
    exact ⟨b, o, e, by omega, by omega, (hB.cell (p := ⟨b, o + j, none⟩) hb).trans k⟩
set_option maxRecDepth 100000 in
set_option maxHeartbeats 4000000 in
theorem Value_any (w : World) (v : Value) (l : List Int) (x : Int) (hV : SL w v l) (hr : ∀ y ∈ l, i64 y) (hx : i64 x) (hln : l.length ≤ 1000000000) :
    Calls Tryz.prog 29 #[v, .int .i64 x] w fun e w' => e = .returned (.int .i64 (vl l x)) ∧ Below w.heap.size w w' := by
  refine (callsIn_wide (n := 12)).1 ?_
  obtain ⟨p, c, rfl, hc⟩ := hV.form
  obtain ⟨N, hN⟩ : ∃ N, l.length = N := ⟨_, rfl⟩
  obtain ⟨W, hW⟩ : ∃ W, ((w.alloc (.cells #[.int .i64 0] 3)).alloc (.cells #[.slice p N c] 22)).alloc (.cells #[.int .i64 x] 3) = W := ⟨_, rfl⟩
  have ST := Lib.hid (start_facts w 0 x p N c l hN hc W hW)
  have HR := Lib.hid (And.intro hr hc); clear hr hc hV
  rw [hN]
  have HN := Lib.hid hN; clear hN
  have mixed : Tryz.prog.follows .mixedOrders = true := by kernel_rfl
  refine callsIn_of_wp_marks Tryz.func29 rfl trivial ?_ rfl
  simp only [Tryz.ntmps29, List.size_toArray, List.length_cons, List.length_nil, Nat.reduceAdd, Nat.reduceSub, Array.replicate_succ, Array.replicate_zero, List.push_toArray, List.append_toArray, List.nil_append, List.cons_append]
  have HW := Lib.hid hW; clear hW
  gi_wp2_with (refine ⟨trivial, ?_⟩; refine (callsIn_wide.2 (powers_any _ _ _ _ _)).mono ?_; rintro e w' ⟨rfl, rfl⟩)
  rw [HW.out]
  refine wpIn_rangeFunc_ownF rfl (by omega) (gf := 92) (lb := #[.pointer (some ⟨w.heap.size + 1, 0, none⟩), .pointer (some ⟨w.heap.size + 1 + 1, 0, none⟩)]) rfl trivial (enters_of Tryz.func92 (by kernel_rfl) rfl)
    (powers_stops 11 (by omega) w.heap.size (w.heap.size + 3) (w.heap.size + 1) (w.heap.size + 1 + 1) p c l x W (by have := ST.out.1; omega) (by omega) (by omega) (by omega) (by omega) ST.out.2.2.1 ST.out.2.2.2.1 hx ST.out.2.2.2.2 HR.out.1 hln)
    (fun h k => KA.trans h k) (KA.put (by have := ST.out.1; omega)) (Below.refl _ _) (fun _ => rfl)
    (fun pre V => VI w w.heap.size (vf 0 (pre.map Subtype.val)) V) (fun _ _ _ => False) (VI.own (by have := ST.out.1; omega) _) (fun _ _ _ _ _ hs _ _ => hs) ST.out.2.1
    (fun y => { tmps := #[.slice p N c, .int .i64 x, undef, undef, .int .i64 0, .pointer (some ⟨w.heap.size, 0, none⟩), .int .i64 y.1.1, .int .i64 y.1.2, .slice p N c, .int .i64 x, .func (.func 92) #[] #[.pointer (some ⟨w.heap.size + 1, 0, none⟩), .pointer (some ⟨w.heap.size + 1 + 1, 0, none⟩)], .int .i64 y.1.1, .int .i64 y.1.2, undef, undef, undef, undef, undef, undef], defers := [] }) ?assign ?body ?done ?stop
  case assign =>
    intro l y V K hK
    dsimp only [encP]
    gi_wp2
    exact hK
  case body =>
    rintro lo pre ⟨⟨y, m⟩, hy, hm⟩ V hI hlen
    have hM := Lib.hid fun W => mulQ W y m (gm y m 1152921504606845789) rfl hy hm
    have hA := Lib.hid fun W => add_k W (vf 0 (pre.map Subtype.val)) (gm y m 1152921504606845789) 1152921504606845789 (vf 0 ((pre ++ [(⟨(y, m), hy, hm⟩ : P2)]).map Subtype.val)) (by rw [List.map_append]; exact (vf_snoc 0 _ (y, m)).symm)
      (by have := vf_rng (pre.map Subtype.val) 0 (by decide); omega) (by have := vf_rng (pre.map Subtype.val) 0 (by decide); omega) (gmQ_i64 _ _).1 (gmQ_i64 _ _).2 (by decide)
    obtain ⟨z2, hz2⟩ : ∃ z2, vf 0 ((pre ++ [(⟨(y, m), hy, hm⟩ : P2)]).map Subtype.val) = z2 := ⟨_, rfl⟩
    rw [hz2] at hA
    have HZ := Lib.hid hz2; clear hz2
    generalize vf 0 (pre.map Subtype.val) = z at *
    generalize gm y m 1152921504606845789 = r at *
    have c0 := hI.c
    have f0 := hI.f
    have HI := Lib.hid hI; clear hI
    gi_wp2
    gi_region_with_o (first
      | (refine ⟨trivial, ?_⟩; (with_reducible refine (CallsIn.inRound lo (callsIn_wide.2 (hM.out _))).mono ?_); rintro e w' ⟨rfl, rfl⟩)
      | (refine ⟨trivial, ?_⟩; (with_reducible refine (CallsIn.inRound lo (callsIn_wide.2 (hA.out _))).mono ?_); rintro e w' ⟨rfl, rfl⟩))
    all_goals
      refine ⟨(KeepsOthers.drew V).trans (KeepsOthers.setCell _ _ _), (show KA w.heap.size (w.heap.size + 3) V V.drew from fun _ _ _ _ => rfl).trans (KA.set _ _ _), ?_⟩
      show VI w w.heap.size (vf 0 (List.map Subtype.val (pre ++ [(⟨(y, m), hy, hm⟩ : P2)]))) _
      rw [HZ.out]
      exact (HI.out.step (Nat.le_refl _) (Below.refl _ V) z2).drew
  case done =>
    rintro D ys V hD hS hI hK
    have c0 := hI.c
    have HI := Lib.hid hI; clear hI
    have HS := Lib.hid hS; clear hS
    gi_wp2
    refine ⟨by simp, .inl ⟨_, _, rfl, run_takeDeferred hK, ?_⟩⟩
    refine ⟨_, results_tmp (t := 4) rfl _ _ _, ?_, HI.out.b.trans (belowK_b (w := w) (Nat.le_refl _) V D _ _ (by have := ST.out.1; omega) hK rfl rfl)⟩
    rw [HS.out]; rfl
  case stop =>
    rintro D c pre V _ _ h _
    exact h.elim
set_option maxRecDepth 100000 in
set_option maxHeartbeats 4000000 in
theorem At_any (w : World) (v : Value) (l : List Int) (x : Int) (hV : SL w v l) (hr : ∀ y ∈ l, i64 y) (hx : i64 x) (hln : l.length ≤ 1000000000) :
    Calls Tryz.prog 30 #[v, .int .i64 x] w fun e w' => e = .returned (.int .i64 (av l x)) ∧ Below w.heap.size w w' := by
  refine (callsIn_wide (n := 12)).1 ?_
  obtain ⟨p, c, rfl, hc⟩ := hV.form
  obtain ⟨N, hN⟩ : ∃ N, l.length = N := ⟨_, rfl⟩
  obtain ⟨W, hW⟩ : ∃ W, ((w.alloc (.cells #[.int .i64 1] 3)).alloc (.cells #[.slice p N c] 22)).alloc (.cells #[.int .i64 x] 3) = W := ⟨_, rfl⟩
  have ST := Lib.hid (start_facts w 1 x p N c l hN hc W hW)
  have HR := Lib.hid (And.intro hr hc); clear hr hc hV
  rw [hN]
  have HN := Lib.hid hN; clear hN
  have mixed : Tryz.prog.follows .mixedOrders = true := by kernel_rfl
  refine callsIn_of_wp_marks Tryz.func30 rfl trivial ?_ rfl
  simp only [Tryz.ntmps30, List.size_toArray, List.length_cons, List.length_nil, Nat.reduceAdd, Nat.reduceSub, Array.replicate_succ, Array.replicate_zero, List.push_toArray, List.append_toArray, List.nil_append, List.cons_append]
  have HW := Lib.hid hW; clear hW
  gi_wp2_with (refine ⟨trivial, ?_⟩; refine (callsIn_wide.2 (powers_any _ _ _ _ _)).mono ?_; rintro e w' ⟨rfl, rfl⟩)
  rw [HW.out]
  refine wpIn_rangeFunc_ownF rfl (by omega) (gf := 92) (lb := #[.pointer (some ⟨w.heap.size + 1, 0, none⟩), .pointer (some ⟨w.heap.size + 1 + 1, 0, none⟩)]) rfl trivial (enters_of Tryz.func92 (by kernel_rfl) rfl)
    (powers_stops 11 (by omega) w.heap.size (w.heap.size + 3) (w.heap.size + 1) (w.heap.size + 1 + 1) p c l x W (by have := ST.out.1; omega) (by omega) (by omega) (by omega) (by omega) ST.out.2.2.1 ST.out.2.2.2.1 hx ST.out.2.2.2.2 HR.out.1 hln)
    (fun h k => KA.trans h k) (KA.put (by have := ST.out.1; omega)) (Below.refl _ _) (fun _ => rfl)
    (fun pre V => VI w w.heap.size (af 1 (pre.map Subtype.val)) V) (fun _ _ _ => False) (VI.own (by have := ST.out.1; omega) _) (fun _ _ _ _ _ hs _ _ => hs) ST.out.2.1
    (fun y => { tmps := #[.slice p N c, .int .i64 x, undef, undef, .int .i64 0, .pointer (some ⟨w.heap.size, 0, none⟩), .int .i64 y.1.1, .int .i64 y.1.2, .slice p N c, .int .i64 x, .func (.func 92) #[] #[.pointer (some ⟨w.heap.size + 1, 0, none⟩), .pointer (some ⟨w.heap.size + 1 + 1, 0, none⟩)], .int .i64 y.1.1, .int .i64 y.1.2, undef, undef, undef, undef, undef, undef], defers := [] }) ?assign ?body ?done ?stop
  case assign =>
    intro l y V K hK
    dsimp only [encP]
    gi_wp2
    exact hK
  case body =>
    rintro lo pre ⟨⟨y, m⟩, hy, hm⟩ V hI hlen
    have hM := Lib.hid fun W => power_c W y m (pp y m) rfl hy hm
    have hA := Lib.hid fun W => mul_k W (af 1 (pre.map Subtype.val)) (pp y m) 2305843009213691579 (af 1 ((pre ++ [(⟨(y, m), hy, hm⟩ : P2)]).map Subtype.val)) (by rw [List.map_append]; exact (af_snoc 1 _ (y, m)).symm)
      (by have := af_rng (pre.map Subtype.val) 1 (by decide); omega) (by have := af_rng (pre.map Subtype.val) 1 (by decide); omega) (pp_i _ _).1 (pp_i _ _).2 (by decide)
    obtain ⟨z2, hz2⟩ : ∃ z2, af 1 ((pre ++ [(⟨(y, m), hy, hm⟩ : P2)]).map Subtype.val) = z2 := ⟨_, rfl⟩
    rw [hz2] at hA
    have HZ := Lib.hid hz2; clear hz2
    generalize af 1 (pre.map Subtype.val) = z at *
    generalize pp y m = r at *
    have c0 := hI.c
    have f0 := hI.f
    have hlt := hI.l1
    have hlt3 := hI.lt
    have HI := Lib.hid hI; clear hI
    gi_wp2
    gi_region_with_o (first
      | (refine ⟨trivial, ?_⟩; (with_reducible refine (CallsIn.inRound lo (callsIn_wide.2 (hM.out _))).mono ?_); rintro e w' ⟨rfl, b⟩; have d0 : w'.cell? ⟨w.heap.size, 0, none⟩ = some (.int .i64 z) := (b.cell (p := ⟨w.heap.size, 0, none⟩) hlt).trans c0; have g0 : w'.frozen? ⟨w.heap.size, 0, none⟩ = false := (b.frozen (p := ⟨w.heap.size, 0, none⟩) hlt).trans f0)
      | (refine ⟨trivial, ?_⟩; (with_reducible refine (CallsIn.inRound lo (callsIn_wide.2 (hA.out _))).mono ?_); rintro e w' ⟨rfl, rfl⟩))
    all_goals
      refine ⟨(KeepsOthers.drew V).trans ((keepsOthers_below (by assumption)).trans (KeepsOthers.setCell _ _ _)), ((show KA w.heap.size (w.heap.size + 3) V V.drew from fun _ _ _ _ => rfl).trans (KA.below (by assumption) (by show _ ≤ V.heap.size; exact hlt3))).trans (KA.set _ _ _), ?_⟩
      show VI w w.heap.size (af 1 (List.map Subtype.val (pre ++ [(⟨(y, m), hy, hm⟩ : P2)]))) _
      rw [HZ.out]
      exact HI.out.drew.step (Nat.le_refl _) (by assumption) z2
  case done =>
    rintro D ys V hD hS hI hK
    have c0 := hI.c
    have HI := Lib.hid hI; clear hI
    have HS := Lib.hid hS; clear hS
    gi_wp2
    refine ⟨by simp, .inl ⟨_, _, rfl, run_takeDeferred hK, ?_⟩⟩
    refine ⟨_, results_tmp (t := 4) rfl _ _ _, ?_, HI.out.b.trans (belowK_b (w := w) (Nat.le_refl _) V D _ _ (by have := ST.out.1; omega) hK rfl rfl)⟩
    rw [HS.out]; rfl
  case stop =>
    rintro D c pre V _ _ h _
    exact h.elim
end Go.Proofs.YtjfbpmpdcmealaaGreatDoor.D7
