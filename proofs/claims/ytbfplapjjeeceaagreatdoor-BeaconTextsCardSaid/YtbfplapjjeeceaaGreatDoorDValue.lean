/-
  Slices that show numbers or strings; the walks of deal.powers and of its iterator.
  The walks of deal.Value, deal.At, deal.power, deal.all and deal.isExponent.
-/
import Derived.Test.YtbfplapjjeeceaaGreatDoorDMath
import Derived.Test.YtbfplapjjeeceaaGreatDoorEBase
import Derived.RangeFuncNested
import Derived.RangeFuncBound
import Derived.RangeFuncCalls
import Derived.RangeFuncLeaves
import Derived.RangeFuncFrom
import Derived.Shelf.Abstract
import Derived.Shelf.RegionOpen
import Derived.OwnWalkIn
import Derived.TacticsInMore
import Derived.LoopNIn
import Derived.LoopIn
namespace Go.Proofs.YtbfplapjjeeceaaGreatDoor.D7
open Go.RowKit GM SH G4 E6 D7P Go.Shelf
attribute [local go_sem] Oper.semAt_some
/-- a slice shows these values -/
def VL (w : World) (v : Value) (vs : List Value) : Prop := ∃ (p : Option Addr) (c : Nat), v = .slice p vs.length c ∧ ∀ (j : Nat) (x : Value), vs[j]? = some x → ∃ b o, p = some ⟨b, o, none⟩ ∧ w.cell? ⟨b, o + j, none⟩ = some x
theorem VL.below {w w' : World} {v : Value} {vs : List Value} (h : VL w v vs) (k : Below w.heap.size w w') : VL w' v vs := by
  obtain ⟨p, c, h1, h2⟩ := h
  refine ⟨p, c, h1, fun j x hj => ?_⟩
  obtain ⟨b, o, e, hc⟩ := h2 j x hj
  exact ⟨b, o, e, (k.cell (p := ⟨b, o + j, none⟩) (World.block_lt_of_cell? _ _ hc)).trans hc⟩
theorem VL.nil (w : World) (p : Option Addr) (c : Nat) : VL w (.slice p 0 c) [] := ⟨p, c, rfl, fun j x hj => by simp at hj⟩
theorem VL.at (w : World) (b n c : Nat) (vs : List Value) (hn : vs.length = n) (h : ∀ (j : Nat) (x : Value), vs[j]? = some x → w.cell? ⟨b, j, none⟩ = some x) : VL w (.slice (some ⟨b, 0, none⟩) n c) vs := by
  subst hn
  exact ⟨_, c, rfl, fun j x hj => ⟨b, 0, rfl, by rw [Nat.zero_add]; exact h j x hj⟩⟩
/-- a slice shows numbers, strings -/
abbrev SL (w : World) (v : Value) (l : List Int) : Prop := VL w v (l.map (Value.int .i64))
abbrev ZL (w : World) (v : Value) (l : List ByteArray) : Prop := VL w v (l.map Value.string)
theorem SL.form {w : World} {v : Value} {l : List Int} (h : SL w v l) : ∃ (p : Option Addr) (c : Nat), v = .slice p l.length c ∧ ∀ (j : Nat) (x : Int), l[j]? = some x → ∃ b o, p = some ⟨b, o, none⟩ ∧ w.cell? ⟨b, o + j, none⟩ = some (.int .i64 x) := by
  obtain ⟨p, c, h1, h2⟩ := h
  refine ⟨p, c, by rw [h1, List.length_map], fun j x hj => h2 j _ ?_⟩
  rw [List.getElem?_map, hj]; rfl
theorem ZL.form {w : World} {v : Value} {l : List ByteArray} (h : ZL w v l) : ∃ (p : Option Addr) (c : Nat), v = .slice p l.length c ∧ ∀ (j : Nat) (x : ByteArray), l[j]? = some x → ∃ b o, p = some ⟨b, o, none⟩ ∧ w.cell? ⟨b, o + j, none⟩ = some (.string x) := by
  obtain ⟨p, c, h1, h2⟩ := h
  refine ⟨p, c, by rw [h1, List.length_map], fun j x hj => h2 j _ ?_⟩
  rw [List.getElem?_map, hj]; rfl
/-- pairs of numbers, as the iterator passes them on -/
abbrev P2 := {v : Int × Int // i64 v.1 ∧ i64 v.2}
def encP (x : P2) : Array Value := #[.int .i64 x.1.1, .int .i64 x.1.2]
/-- all blocks below H but S keep what they hold -/
def KA (S H : Nat) (A B : World) : Prop := ∀ b o, b < H → b ≠ S → B.cell? ⟨b, o, none⟩ = A.cell? ⟨b, o, none⟩
theorem KA.trans {S H : Nat} {A B C : World} (h : KA S H A B) (k : KA S H B C) : KA S H A C := fun b o hb hs => (k b o hb hs).trans (h b o hb hs)
theorem KA.below {S H : Nat} {A B : World} (h : Below A.heap.size A B) (hH : H ≤ A.heap.size) : KA S H A B := fun b o hb _ => h.cell (p := ⟨b, o, none⟩) (by show b < _; omega)
theorem KA.put {S H : Nat} {w : World} (hH : H ≤ w.heap.size) (W : World) (l : Nat) (o o' : Obj) (hl : w.heap.size ≤ l) (_ : W.heap[l]? = some o) (_ : o.isCells = false) (_ : o.isWalk = false) : KA S H W (W.putObj l o') := fun b _ hb _ =>
  World.cell?_of_block (World.putObj_heap_other (by show b ≠ l; omega))
theorem KA.set {S H : Nat} (W : World) (j : Nat) (v : Value) : KA S H W (W.setCell ⟨S, j, none⟩ v) := fun b o _ hs => by
  rw [World.cell?_setCell_other _ _ _ _ (by intro e; injection e with e1; first | exact hs e1 | exact hs e1.symm)]
theorem powers_any (w : World) (p : Option Addr) (n c : Nat) (x : Int) : Calls Tryz.prog 115 #[.slice p n c, .int .i64 x] w fun e w' => e = .returned (.func (.func 139) #[] #[.pointer (some ⟨w.heap.size, 0, none⟩), .pointer (some ⟨w.heap.size + 1, 0, none⟩)]) ∧ (w.alloc (.cells #[.slice p n c] 34)).alloc (.cells #[.int .i64 x] 3) = w' := by
  go_enter Tryz.func115, Tryz.ntmps115
  go_wp2
  go_ret
  exact ⟨rfl, rfl⟩
theorem mulQ (W : World) (a b r : Int) (h : gm a b 1152921504606845789 = r) (ha : i64 a) (hb : i64 b) :
    Calls Tryz.prog 24 #[.int .i64 a, .int .i64 b, .int .i64 1152921504606845789] W fun e w' => e = .returned (.int .i64 r) ∧ w' = W := mul_k W a b _ r h ha.1 ha.2 hb.1 hb.2 (by decide)
theorem gmQ_i64 (a b : Int) : i64 (gm a b 1152921504606845789) := ⟨by have := mQr a b; omega, by have := mQr a b; omega⟩
theorem pws_step (l : List Int) (x m c : Int) (k : Nat) (pre : List (Int × Int)) (h : pre ++ pws (l.drop k) x m = pws l x 1) (hc : l[k]? = some c) : pre ++ [(c, m)] ++ pws (l.drop (k+1)) x (gm m x 1152921504606845789) = pws l x 1 := by
  obtain ⟨hk, rfl⟩ := List.getElem?_eq_some_iff.1 hc
  rw [← h, List.drop_eq_getElem_cons hk]
  simp [pws]
set_option maxRecDepth 100000 in
set_option maxHeartbeats 4000000 in
theorem powers_stops (n : Nat) (hn : 3 ≤ n) (S H Bl Bx : Nat) (p : Option Addr) (c : Nat) (l : List Int) (x : Int) (w : World) (hH : H ≤ w.heap.size) (hBl : Bl < H) (hBx : Bx < H) (hSl : Bl ≠ S) (hSx : Bx ≠ S)
    (hl : w.cell? ⟨Bl, 0, none⟩ = some (.slice p l.length c)) (hx : w.cell? ⟨Bx, 0, none⟩ = some (.int .i64 x)) (hix : i64 x)
    (hc : ∀ (j : Nat) (y : Int), l[j]? = some y → ∃ b o, p = some ⟨b, o, none⟩ ∧ b < H ∧ b ≠ S ∧ w.cell? ⟨b, o + j, none⟩ = some (.int .i64 y)) (hr : ∀ y ∈ l, i64 y) (hln : l.length ≤ 1000000000) :
    SeqStopsK Fence.wide n Tryz.prog 139 #[.pointer (some ⟨Bl, 0, none⟩), .pointer (some ⟨Bx, 0, none⟩)] encP (KA S H) (fun xs => xs.map Subtype.val = pws l x 1) (fun _ => True) l.length w := by
  intro lo J Jx W hW hJ hJx hY h0
  have k0 : KA S H w W := KA.below hW hH
  have cl : W.cell? ⟨Bl, 0, none⟩ = some (.slice p l.length c) := (k0 Bl 0 hBl hSl).trans hl
  have HX := Lib.hid (And.intro hx (And.intro hc hr)); clear hx hc hr hl
  refine callsIn_of_wp Tryz.func139 rfl trivial ?_ rfl
  simp only [Tryz.ntmps139, List.size_toArray, List.length_cons, List.length_nil, Nat.reduceAdd, Nat.reduceSub, Array.replicate_succ, Array.replicate_zero, List.push_toArray, List.append_toArray, List.nil_append, List.cons_append]
  have HY := Lib.hid hY; clear hY
  have HK := Lib.hid k0; clear k0
  obtain ⟨N, hN⟩ : ∃ N, l.length = N := ⟨_, rfl⟩
  rw [hN] at cl HY hln
  have HN := Lib.hid hN; clear hN
  gi_wp2_with fail
  clear cl
  gi_loopw [4, 9] (fun n i wr => ∃ (k : Nat) (pre : List P2) (m : Int), k ≤ N ∧ n = .int .i64 m ∧ i = .int .i64 (k : Int) ∧ pre.length = k ∧ i64 m ∧ Hid (pre.map Subtype.val ++ pws (l.drop k) x m = pws l x 1) ∧ J pre wr ∧ Hid (KA S H w wr)) (fun _ i _ => N - (match i with | .int _ i => i.toNat | _ => 0))
  case atStart => exact ⟨0, [], 1, Nat.zero_le _, rfl, rfl, rfl, by decide, Lib.hid (by simp), h0, HK⟩
  case round =>
    obtain ⟨k, pre, m, hk, rfl, rfl, hlen, him, hp, hJs, hK⟩ := hrel
    by_cases hlt : k < N
    · obtain ⟨y, hy⟩ : ∃ y, l[k]? = some y := ⟨l[k]'(by rw [HN.out]; exact hlt), List.getElem?_eq_getElem _⟩
      obtain ⟨b, o, hpp, hbH, hbS, hcy⟩ := HX.out.2.1 k y hy
      subst hpp
      have hcell := (hK.out b (o + k) hbH hbS).trans hcy
      have hiy := HX.out.2.2 y (List.mem_of_getElem? hy)
      have HS := Lib.hid (pws_step l x m y k _ hp.out hy)
      have HM := Lib.hid fun W => mulQ W m x (gm m x 1152921504606845789) rfl him hix
      have hgm := gmQ_i64 m x
      generalize gm m x 1152921504606845789 = m2 at *
      obtain ⟨fn, tmps, assign, body, hyy, hR⟩ := HY.out pre ⟨(y, m), hiy, him⟩ wr hJs (by omega)
      have HL := Lib.hid hlen
      dsimp only [encP] at hyy
      clear hy hcy hp hlen
      gi_wp2
      clear hcell
      refine ⟨fun _ => by omega, ?_⟩
      refine hR.mono ?_
      rintro e W3 (⟨rfl, hJ3, hk3⟩ | ⟨rfl, hJx3⟩)
      · have HK3 := Lib.hid (hK.out.trans hk3); clear hk3
        have cx : W3.cell? ⟨Bx, 0, none⟩ = some (.int .i64 x) := (HK3.out Bx 0 hBx hSx).trans HX.out.1
        gi_wp2_with (refine ⟨trivial, fun _ => by omega, ?_⟩; refine (callsIn_wide.2 (HM.out _)).mono ?_; rintro e w' ⟨rfl, rfl⟩)
        go_roundw
        case rel =>
          refine ⟨k + 1, pre ++ [⟨(y, m), hiy, him⟩], m2, hlt, rfl, by go_num, by rw [List.length_append, HL.out]; rfl, hgm, ?_, hJ3, HK3⟩
          refine Lib.hid ?_
          have := HS.out
          simpa using this
        case measure => (simp; try omega)
      · gi_wp2
        refine bodyPost_ret (results_none rfl _ _ _) rfl ?_
        exact ⟨⟨_, rfl⟩, .inr ⟨_, trivial, hJx3⟩⟩
    · obtain rfl : k = N := by omega
      have HE := Lib.hid (show pre.map Subtype.val = pws l x 1 by have := hp.out; rwa [← HN.out, List.drop_length, show pws [] x m = [] from rfl, List.append_nil] at this)
      gi_wp2
      go_end0
      exact ⟨⟨_, rfl⟩, .inl ⟨pre, HE.out, hJs⟩⟩
end Go.Proofs.YtbfplapjjeeceaaGreatDoor.D7
namespace Go.Proofs.YtbfplapjjeeceaaGreatDoor.D7
open Go.RowKit GM SH G4 E6 D7P Go.Shelf
attribute [local go_sem] Oper.semAt_some
theorem pp_i (a n : Int) : i64 (pp a n) := ⟨by have := pp_rng a n; omega, by have := pp_rng a n; omega⟩
theorem gmP_i64 (a b : Int) : i64 (gm a b 2305843009213691579) := ⟨by have := mPr a b; omega, by have := mPr a b; omega⟩
theorem av_i64 (l : List Int) (x : Int) : i64 (av l x) := ⟨by have := av_rng l x; omega, by have := av_rng l x; omega⟩
theorem power_c (w : World) (a n r : Int) (h : pp a n = r) (ha : i64 a) (hn : i64 n) :
    Calls Tryz.prog 116 #[.int .i64 a, .int .i64 n] w fun e w' => e = .returned (.int .i64 r) ∧ Below w.heap.size w w' := by
  have P1 := Lib.hid fun W => pow_k W a n 2305843009213691579 r (by rw [← h]; rfl) ha.1 ha.2 hn.2 (by decide)
  clear h
  go_enter Tryz.func116, Tryz.ntmps116
  go_wp2_with fail
  refine (P1.out _).mono ?_
  rintro e w1 ⟨rfl, b⟩
  have hb := Lib.hid b; clear b
  go_wp2
  go_ret
  exact ⟨rfl, hb.out⟩
theorem all_yes (p : Int → Bool) (l : List Int) (k : Nat) (x : Int) (hx : l[k]? = some x) (h : (l.take k).all p = true) (hp : p x = true) : (l.take (k+1)).all p = true := by
  rw [List.take_add_one, hx, List.all_append, h]; simp [hp]
theorem all_no (p : Int → Bool) (l : List Int) (k : Nat) (x : Int) (hx : l[k]? = some x) (hp : p x = false) : l.all p = false := by
  rw [List.all_eq_false]
  exact ⟨x, List.mem_of_getElem? hx, by simp [hp]⟩
/-- what holds between two rounds: the number so far lies in its variable -/
structure VI (w : World) (S : Nat) (z : Int) (W : World) : Prop where
  c : W.cell? ⟨S, 0, none⟩ = some (.int .i64 z)
  f : W.frozen? ⟨S, 0, none⟩ = false
  lt : S + 3 ≤ W.heap.size
  b : Below w.heap.size w W
theorem VI.l1 {w : World} {S : Nat} {z : Int} {W : World} (h : VI w S z W) : S < W.heap.size := by have := h.lt; omega
theorem VI.own {α : Type} {w : World} {S B : Nat} (hB : w.heap.size ≤ B) (g : α → Int) : OwnFrom B (fun (s : α) W => VI w S (g s) W) := fun _ _ _ _ hs hg hr =>
  ⟨cell_kept hs.c hg (fun r e => (hr r e).2), (frozen_kept hs.c hg (fun r e => (hr r e).2)).trans hs.f, Nat.le_trans hs.lt hg.size, hs.b.grown hg hs.b.size (fun k e => Nat.le_trans hB (hr k e).1)⟩
theorem VI.step {w : World} {S : Nat} {z : Int} {W W1 : World} (h : VI w S z W) (hS : w.heap.size ≤ S) (k : Below W.heap.size W W1) (u : Int) : VI w S u (W1.setCell ⟨S, 0, none⟩ (.int .i64 u)) :=
  ⟨World.cell?_setCell_same _ _ _ ((k.cell (p := ⟨S, 0, none⟩) h.l1).trans h.c), by rw [World.frozen?_setCell]; exact (k.frozen (p := ⟨S, 0, none⟩) h.l1).trans h.f, by simp only [World.size_setCell]; exact Nat.le_trans h.lt k.size,
    (h.b.trans (k.mono h.b.size)).setCell (p := ⟨S, 0, none⟩) hS _⟩
theorem VI.drew {w : World} {S : Nat} {z : Int} {W : World} (h : VI w S z W) : VI w S z W.drew := ⟨h.c, h.f, h.lt, h.b.drew⟩
theorem keepsOthers_below {W W' : World} (h : Below W.heap.size W W') : KeepsOthers W W' :=
  ⟨h.size, fun k o ho _ => by rw [h.block k (Array.getElem?_eq_some_iff.1 ho).1]; exact ho⟩
/-- the world in which the rounds begin -/
theorem start_facts (w : World) (z x : Int) (p : Option Addr) (N c : Nat) (l : List Int) (hl : l.length = N) (hc : ∀ (j : Nat) (y : Int), l[j]? = some y → ∃ b o, p = some ⟨b, o, none⟩ ∧ w.cell? ⟨b, o + j, none⟩ = some (.int .i64 y)) (W : World)
    (hW : ((w.alloc (.cells #[.int .i64 z] 3)).alloc (.cells #[.slice p N c] 34)).alloc (.cells #[.int .i64 x] 3) = W) :
    W.heap.size = w.heap.size + 3 ∧ VI w w.heap.size z W ∧ W.cell? ⟨w.heap.size + 1, 0, none⟩ = some (.slice p l.length c) ∧ W.cell? ⟨w.heap.size + 1 + 1, 0, none⟩ = some (.int .i64 x) ∧
      (∀ (j : Nat) (y : Int), l[j]? = some y → ∃ b o, p = some ⟨b, o, none⟩ ∧ b < w.heap.size + 3 ∧ b ≠ w.heap.size ∧ W.cell? ⟨b, o + j, none⟩ = some (.int .i64 y)) := by
  have hB : Below w.heap.size w W := by rw [← hW]; exact (((Below.refl _ w).alloc (Nat.le_refl _) _).alloc (by simp) _).alloc (by simp; omega) _
  refine ⟨by rw [← hW]; simp, ⟨?_, ?_, by rw [← hW]; simp, hB⟩, ?_, ?_, fun j y hj => ?_⟩
  · rw [← hW, World.cell?_alloc_past _ _ _ (by simp; omega), World.cell?_alloc_past _ _ _ (by simp), World.cell?_alloc_at _ _ _ _ rfl]; rfl
  · rw [← hW, World.frozen?_alloc_past _ _ _ (by simp; omega), World.frozen?_alloc_past _ _ _ (by simp), World.frozen?_alloc_at _ _ _ _ rfl]
  · rw [← hW, World.cell?_alloc_past _ _ _ (by simp), World.cell?_alloc_at _ _ _ _ (by simp), hl]; rfl
  · rw [← hW, World.cell?_alloc_at _ _ _ _ (by simp)]; rfl
  · obtain ⟨b, o, e, k⟩ := hc j y hj
    have hb := World.block_lt_of_cell? _ _ k
    have hb : b < w.heap.size := hb
    exact ⟨b, o, e, by omega, by omega, (hB.cell (p := ⟨b, o + j, none⟩) hb).trans k⟩
set_option maxRecDepth 100000 in
set_option maxHeartbeats 4000000 in
theorem At_any (w : World) (v : Value) (l : List Int) (x : Int) (hV : SL w v l) (hr : ∀ y ∈ l, i64 y) (hx : i64 x) (hln : l.length ≤ 1000000000) :
    Calls Tryz.prog 88 #[v, .int .i64 x] w fun e w' => e = .returned (.int .i64 (av l x)) ∧ Below w.heap.size w w' := by
  refine (callsIn_wide (n := 12)).1 ?_
  obtain ⟨p, c, rfl, hc⟩ := hV.form
  obtain ⟨N, hN⟩ : ∃ N, l.length = N := ⟨_, rfl⟩
  obtain ⟨W, hW⟩ : ∃ W, ((w.alloc (.cells #[.int .i64 1] 3)).alloc (.cells #[.slice p N c] 34)).alloc (.cells #[.int .i64 x] 3) = W := ⟨_, rfl⟩
  have ST := Lib.hid (start_facts w 1 x p N c l hN hc W hW)
  have HR := Lib.hid (And.intro hr hc); clear hr hc hV
  rw [hN]
  have HN := Lib.hid hN; clear hN
  have mixed : Tryz.prog.follows .mixedOrders = true := by kernel_rfl
  refine callsIn_of_wp_marks Tryz.func88 rfl trivial ?_ rfl
  simp only [Tryz.ntmps88, List.size_toArray, List.length_cons, List.length_nil, Nat.reduceAdd, Nat.reduceSub, Array.replicate_succ, Array.replicate_zero, List.push_toArray, List.append_toArray, List.nil_append, List.cons_append]
  have HW := Lib.hid hW; clear hW
  gi_wp2_with (refine ⟨trivial, ?_⟩; refine (callsIn_wide.2 (powers_any _ _ _ _ _)).mono ?_; rintro e w' ⟨rfl, rfl⟩)
  rw [HW.out]
  refine wpIn_rangeFunc_ownF rfl (by omega) (gf := 139) (lb := #[.pointer (some ⟨w.heap.size + 1, 0, none⟩), .pointer (some ⟨w.heap.size + 1 + 1, 0, none⟩)]) rfl trivial (enters_of Tryz.func139 (by kernel_rfl) rfl)
    (powers_stops 11 (by omega) w.heap.size (w.heap.size + 3) (w.heap.size + 1) (w.heap.size + 1 + 1) p c l x W (by have := ST.out.1; omega) (by omega) (by omega) (by omega) (by omega) ST.out.2.2.1 ST.out.2.2.2.1 hx ST.out.2.2.2.2 HR.out.1 hln)
    (fun h k => KA.trans h k) (KA.put (by have := ST.out.1; omega)) (Below.refl _ _) (fun _ => rfl)
    (fun pre V => VI w w.heap.size (af 1 (pre.map Subtype.val)) V) (fun _ _ _ => False) (VI.own (by have := ST.out.1; omega) _) (fun _ _ _ _ _ hs _ _ => hs) ST.out.2.1
    (fun y => { tmps := #[.slice p N c, .int .i64 x, undef, undef, .int .i64 0, .pointer (some ⟨w.heap.size, 0, none⟩), .int .i64 y.1.1, .int .i64 y.1.2, .slice p N c, .int .i64 x, .func (.func 139) #[] #[.pointer (some ⟨w.heap.size + 1, 0, none⟩), .pointer (some ⟨w.heap.size + 1 + 1, 0, none⟩)], .int .i64 y.1.1, .int .i64 y.1.2, undef, undef, undef, undef, undef, undef], defers := [] }) ?assign ?body ?done ?stop
  case assign =>
    intro l y V K hK
    dsimp only [encP]
    gi_wp2
    exact hK
  case body =>
    rintro lo pre ⟨⟨y, m⟩, hy, hm⟩ V hI hlen
    have hM := Lib.hid fun W => power_c W y m (pp y m) rfl hy hm
    have hA := Lib.hid fun W => mul_k W (af 1 (pre.map Subtype.val)) (pp y m) 2305843009213691579 (af 1 ((pre ++ [(⟨(y, m), hy, hm⟩ : P2)]).map Subtype.val)) (by rw [List.map_append]; exact (af_snoc 1 _ (y, m)).symm)
      (by have := af_rng (pre.map Subtype.val) 1 (by decide); omega) (by have := af_rng (pre.map Subtype.val) 1 (by decide); omega) (pp_i _ _).1 (pp_i _ _).2 (by decide)
    obtain ⟨z2, hz2⟩ : ∃ z2, af 1 ((pre ++ [(⟨(y, m), hy, hm⟩ : P2)]).map Subtype.val) = z2 := ⟨_, rfl⟩
    rw [hz2] at hA
    have HZ := Lib.hid hz2; clear hz2
    generalize af 1 (pre.map Subtype.val) = z at *
    generalize pp y m = r at *
    have c0 := hI.c
    have f0 := hI.f
    have hlt := hI.l1
    have hlt3 := hI.lt
    have HI := Lib.hid hI; clear hI
    gi_wp2
    gi_region_with_o (first
      | (refine ⟨trivial, ?_⟩; (with_reducible refine (CallsIn.inRound lo (callsIn_wide.2 (hM.out _))).mono ?_); rintro e w' ⟨rfl, b⟩; have d0 : w'.cell? ⟨w.heap.size, 0, none⟩ = some (.int .i64 z) := (b.cell (p := ⟨w.heap.size, 0, none⟩) hlt).trans c0; have g0 : w'.frozen? ⟨w.heap.size, 0, none⟩ = false := (b.frozen (p := ⟨w.heap.size, 0, none⟩) hlt).trans f0)
      | (refine ⟨trivial, ?_⟩; (with_reducible refine (CallsIn.inRound lo (callsIn_wide.2 (hA.out _))).mono ?_); rintro e w' ⟨rfl, rfl⟩))
    all_goals
      refine ⟨(KeepsOthers.drew V).trans ((keepsOthers_below (by assumption)).trans (KeepsOthers.setCell _ _ _)), ((show KA w.heap.size (w.heap.size + 3) V V.drew from fun _ _ _ _ => rfl).trans (KA.below (by assumption) (by show _ ≤ V.heap.size; exact hlt3))).trans (KA.set _ _ _), ?_⟩
      show VI w w.heap.size (af 1 (List.map Subtype.val (pre ++ [(⟨(y, m), hy, hm⟩ : P2)]))) _
      rw [HZ.out]
      exact HI.out.drew.step (Nat.le_refl _) (by assumption) z2
  case done =>
    rintro D ys V hD hS hI hK
    have c0 := hI.c
    have HI := Lib.hid hI; clear hI
    have HS := Lib.hid hS; clear hS
    gi_wp2
    refine ⟨by simp, .inl ⟨_, _, rfl, run_takeDeferred hK, ?_⟩⟩
    refine ⟨_, results_tmp (t := 4) rfl _ _ _, ?_, HI.out.b.trans (belowK_b (w := w) (Nat.le_refl _) V D _ _ (by have := ST.out.1; omega) hK rfl rfl)⟩
    rw [HS.out]; rfl
  case stop =>
    rintro D c pre V _ _ h _
    exact h.elim
end Go.Proofs.YtbfplapjjeeceaaGreatDoor.D7
