/-
  A map of numbers that were seen, made by the call itself.
  The iterator over the pairs of a slice's places and numbers; the products that weight.factors folds over it.
-/
import Derived.Test.YtbfplapjjeeceaaGreatDoorBMath
import Derived.Maps.OwnSet
import Derived.WalkArith
import Derived.RangeFuncNested
import Derived.RangeFuncBound
import Derived.RangeFuncCalls
import Derived.RangeFuncLeaves
import Derived.RangeFuncFrom
import Derived.Shelf.Abstract
import Derived.Shelf.RegionOpen
import Derived.OwnWalkIn
import Derived.TacticsInMore
import Derived.LoopNIn
import Derived.LoopIn
namespace Go.Proofs.YtbfplapjjeeceaaGreatDoor.W8
open Go.RowKit GM G4 D7P Go.Maps
theorem keyLaw : Keyed Tryz.prog 3 := int_keyed Tryz.underlying3
theorem zeroB (w : World) : (zeroValue 4).run Tryz.prog w = .ok (.bool false) w := by kernel_rfl
/-- block b is a map that holds true at the numbers that p says, and nothing else -/
def SetD (w : World) (b n : Nat) (p : Int → Bool) : Prop :=
  ∃ D : DataW Unit, w.ownsMap Tryz.prog 3 (plainElem Tryz.prog 4) b n D ∧ IsMap D ∧ ∀ x, i64 x → D.atKey (.int .i64 x) (.lit (.bool false)) = .lit (.bool (p x))
theorem SetD.congr {w : World} {b n : Nat} {p q : Int → Bool} (h : SetD w b n p) (e : ∀ x, p x = q x) : SetD w b n q := by
  obtain ⟨D, h1, h2, h3⟩ := h
  exact ⟨D, h1, h2, fun x hx => by rw [h3 x hx, e]⟩
theorem SetD.made (w : World) : SetD (w.alloc (.map #[] 0)) w.heap.size 0 fun _ => false :=
  ⟨.map [], World.ownsMap_made w _ _ _, isMap_empty, fun _ _ => rfl⟩
theorem SetD.kept {w w' : World} {b n : Nat} {p : Int → Bool} (h : SetD w b n p) {row : Option Nat} (hg : w.grownBy w' row) (hne : some b ≠ row) : SetD w' b n p := by
  obtain ⟨D, h1, h2, h3⟩ := h
  exact ⟨D, h1.kept hg hne, h2, h3⟩
theorem SetD.lt {w : World} {b n : Nat} {p : Int → Bool} (h : SetD w b n p) : b < w.heap.size := by
  obtain ⟨D, h1, _, _⟩ := h
  exact h1.lt
theorem SetD.next {w w' : World} {b n : Nat} {p : Int → Bool} (h : SetD w b n p) (k : Below w.heap.size w w') : SetD w' b n p := by
  obtain ⟨D, ⟨es, clock, hb, h1⟩, h2, h3⟩ := h
  exact ⟨D, ⟨es, clock, (k.block b (Array.getElem?_eq_some_iff.1 hb).1).trans hb, h1⟩, h2, h3⟩
set_option maxRecDepth 100000 in
theorem bool_inv {v : Value} {c : Bool} {ps : List MemPlace} (h : plainElem (H := Unit) Tryz.prog 4 v = some (.lit (.bool c), ps)) : v = .bool c := by
  unfold plainElem at h
  rw [Tryz.underlying4] at h
  cases v <;> simp at h
  obtain ⟨h, _⟩ := h
  rw [h]
theorem SetD.look {w : World} {b n : Nat} {p : Int → Bool} (h : SetD w b n p) (x : Int) (hx : i64 x) :
    (Instr.lookup 92 (.map (some b)) (.int .i64 x) false).run Tryz.prog w = .ok (.bool (p x)) w := by
  obtain ⟨D, h1, h2, h3⟩ := h
  obtain ⟨v, ps, hrun, hv⟩ := h1.lookup keyLaw Tryz.underlying92 (zeroB w) (plainElem_bool Tryz.underlying4 false) (keyOf_int_mk Tryz.underlying3 (WalkArith.wf_i64 hx))
  rw [h3 x hx] at hv
  rw [hrun, bool_inv hv]
theorem SetD.add {w : World} {b n : Nat} {p : Int → Bool} (h : SetD w b n p) (hn : n < maxLen) (x : Int) (hx : i64 x) :
    ∃ w', (Instr.mapUpdate 92 (.map (some b)) (.int .i64 x) (.bool true)).run Tryz.prog w = .ok () w' ∧ SetD w' b (n + 1) (fun y => p y || y == x) ∧ w.grownBy w' (some b) := by
  obtain ⟨D, h1, h2, h3⟩ := h
  obtain ⟨w', hr, ho, hg⟩ := h1.update keyLaw Tryz.underlying92 hn (keyOf_int_mk Tryz.underlying3 (WalkArith.wf_i64 hx)) (plainElem_bool Tryz.underlying4 true)
  refine ⟨w', hr, ⟨_, ho, h2.put _ _, fun y hy => ?_⟩, hg⟩
  by_cases e : y = x
  · subst e
    rw [atKey_put_same h2 (show WideAt.IsKeyLit (Lit.int .i64 y) from trivial)]; simp
  · rw [atKey_put_other (by intro e2; injection e2 with _ e3; exact e e3), h3 y hy]
    simp [e]
/-- at the operation -/
theorem wpList_set_add (w : World) {ops : Array Oper} {rest : List Oper} {o : Oper} {a : Act} {Q : Exit → Act → World → Prop}
    (hg : o.guard = none) (m x v : Operand) (hop : o.op = Op.mapUpdate 92 m x v) (b n : Nat) (p : Int → Bool) (hm : a.eval m = .map (some b)) (hS : SetD w b n p) (hn : n < maxLen)
    (y : Int) (hy : i64 y) (hx : a.eval x = .int .i64 y) (hv : a.eval v = .bool true)
    (hK : ∀ w', SetD w' b (n + 1) (fun z => p z || z == y) → w.grownBy w' (some b) → wpList Tryz.prog ops Q rest (a.put o.dst undef) w') :
    wpList Tryz.prog ops Q (o :: rest) a w := by
  refine wpList_plain hg fun K' hK' => ?_
  obtain ⟨w', hrun, r1, r2⟩ := hS.add hn y hy
  unfold Oper.wp
  simp [execOp, hop, hm, hx, hv, hrun, Result.andThen]
  exact hK' _ _ (hK w' r1 r2)
end Go.Proofs.YtbfplapjjeeceaaGreatDoor.W8
namespace Go.Proofs.YtbfplapjjeeceaaGreatDoor.W8
open Go.RowKit GM G4 D7P Go.Shelf
attribute [local go_sem] Oper.semAt_some
/-- all blocks below H but S keep what they hold -/
def KA (S H : Nat) (A B : World) : Prop := A.heap.size ≤ B.heap.size ∧ ∀ b o, b < H → b ≠ S → B.cell? ⟨b, o, none⟩ = A.cell? ⟨b, o, none⟩
theorem KA.trans {S H : Nat} {A B C : World} (h : KA S H A B) (k : KA S H B C) : KA S H A C := ⟨Nat.le_trans h.1 k.1, fun b o hb hs => (k.2 b o hb hs).trans (h.2 b o hb hs)⟩
theorem KA.below {S H : Nat} {A B : World} (h : Below A.heap.size A B) (hH : H ≤ A.heap.size) : KA S H A B := ⟨h.size, fun b o hb _ => h.cell (p := ⟨b, o, none⟩) (by show b < _; omega)⟩
theorem KA.put {S H : Nat} {w : World} (hH : H ≤ w.heap.size) (W : World) (l : Nat) (o o' : Obj) (hl : w.heap.size ≤ l) (_ : W.heap[l]? = some o) (_ : o.isCells = false) (_ : o.isWalk = false) : KA S H W (W.putObj l o') :=
  ⟨by simp [World.putObj], fun b _ hb _ => World.cell?_of_block (World.putObj_heap_other (by show b ≠ l; omega))⟩
theorem KA.set {S H : Nat} (W : World) (j : Nat) (v : Value) : KA S H W (W.setCell ⟨S, j, none⟩ v) := ⟨by simp, fun b o _ hs => by
  rw [World.cell?_setCell_other _ _ _ _ (by intro e; injection e with e1; first | exact hs e1 | exact hs e1.symm)]⟩
theorem keepsOthers_below {W W' : World} (h : Below W.heap.size W W') : KeepsOthers W W' :=
  ⟨h.size, fun k o ho _ => by rw [h.block k (Array.getElem?_eq_some_iff.1 ho).1]; exact ho⟩
/-- pairs of numbers, as the iterators pass them on -/
abbrev P2 (n : Nat) := {v : Int × Int // (i64 v.1 ∧ 0 ≤ v.1 ∧ v.1 < (n : Int)) ∧ i64 v.2}
def encP {n : Nat} (x : P2 n) : Array Value := #[.int .i64 x.1.1, .int .i64 x.1.2]
/-- the numbers of a list with their places from k on -/
def ips : Nat → List Int → List (Int × Int)
  | _, [] => []
  | k, x :: l => ((k : Int), x) :: ips (k + 1) l
theorem ips_step (l : List Int) (c : Int) (k : Nat) (pre : List (Int × Int)) (h : pre ++ ips k (l.drop k) = ips 0 l) (hc : l[k]? = some c) : pre ++ [((k : Int), c)] ++ ips (k + 1) (l.drop (k+1)) = ips 0 l := by
  obtain ⟨hk, rfl⟩ := List.getElem?_eq_some_iff.1 hc
  rw [← h, List.drop_eq_getElem_cons hk]
  simp [ips]
/-- what holds between two rounds of fold: the result lies in its variable, the step in its own -/
structure FI (w : World) (S : Nat) (sv : Value) (z : Int) (W : World) : Prop where
  c : W.cell? ⟨S, 0, none⟩ = some (.int .i64 z)
  d : W.cell? ⟨S + 1, 0, none⟩ = some sv
  f : W.frozen? ⟨S, 0, none⟩ = false
  lt : S + 2 ≤ W.heap.size
  b : Below w.heap.size w W
theorem FI.l1 {w : World} {S : Nat} {sv : Value} {z : Int} {W : World} (h : FI w S sv z W) : S < W.heap.size := by have := h.lt; omega
theorem FI.own {α : Type} {w : World} {S B : Nat} {sv : Value} (hB : w.heap.size ≤ B) (g : α → Int) : OwnFrom B (fun (s : α) W => FI w S sv (g s) W) := fun _ _ _ _ hs hg hr =>
  ⟨cell_kept hs.c hg (fun r e => (hr r e).2), cell_kept hs.d hg (fun r e => (hr r e).2), (frozen_kept hs.c hg (fun r e => (hr r e).2)).trans hs.f, Nat.le_trans hs.lt hg.size, hs.b.grown hg hs.b.size (fun k e => Nat.le_trans hB (hr k e).1)⟩
theorem FI.step {w : World} {S : Nat} {sv : Value} {z : Int} {W W1 : World} (h : FI w S sv z W) (hS : w.heap.size ≤ S) (k : Below W.heap.size W W1) (u : Int) : FI w S sv u (W1.setCell ⟨S, 0, none⟩ (.int .i64 u)) :=
  ⟨World.cell?_setCell_same _ _ _ ((k.cell (p := ⟨S, 0, none⟩) h.l1).trans h.c), by
    rw [World.cell?_setCell_other _ _ _ _ (by intro e; injection e with e1; omega)]
    exact (k.cell (p := ⟨S + 1, 0, none⟩) (by show S + 1 < _; have := h.lt; omega)).trans h.d, by rw [World.frozen?_setCell]; exact (k.frozen (p := ⟨S, 0, none⟩) h.l1).trans h.f, by simp only [World.size_setCell]; exact Nat.le_trans h.lt k.size,
    (h.b.trans (k.mono h.b.size)).setCell (p := ⟨S, 0, none⟩) hS _⟩
theorem fold_start (w : World) (z : Int) (sv : Value) (W : World) (hW : (w.alloc (.cells #[.int .i64 z] 3)).alloc (.cells #[sv] 51) = W) : W.heap.size = w.heap.size + 2 ∧ FI w w.heap.size sv z W := by
  have hB : Below w.heap.size w W := by rw [← hW]; exact ((Below.refl _ w).alloc (Nat.le_refl _) _).alloc (by simp) _
  refine ⟨by rw [← hW]; simp, ⟨?_, ?_, ?_, by rw [← hW]; simp, hB⟩⟩
  · rw [← hW, World.cell?_alloc_past _ _ _ (by simp), World.cell?_alloc_at _ _ _ _ rfl]; rfl
  · rw [← hW, World.cell?_alloc_at _ _ _ _ (by simp)]; rfl
  · rw [← hW, World.frozen?_alloc_past _ _ _ (by simp), World.frozen?_alloc_at _ _ _ _ rfl]
/-- a slice's numbers, and the variable that holds the slice -/
structure BoxL (w : World) (Bl : Nat) (p : Option Addr) (c : Nat) (l : List Int) : Prop where
  h : w.cell? ⟨Bl, 0, none⟩ = some (.slice p l.length c)
  c : ∀ (j : Nat) (y : Int), l[j]? = some y → ∃ b o, p = some ⟨b, o, none⟩ ∧ w.cell? ⟨b, o + j, none⟩ = some (.int .i64 y)
  r : ∀ y ∈ l, i64 y
  n : l.length ≤ 1000000000
theorem BoxL.lt {w : World} {Bl : Nat} {p : Option Addr} {c : Nat} {l : List Int} (h : BoxL w Bl p c l) : Bl < w.heap.size := World.block_lt_of_cell? _ _ h.h
theorem BoxL.next {w w' : World} {Bl : Nat} {p : Option Addr} {c : Nat} {l : List Int} (h : BoxL w Bl p c l) (k : Below w.heap.size w w') : BoxL w' Bl p c l :=
  ⟨(k.cell (p := ⟨Bl, 0, none⟩) h.lt).trans h.h, fun j y hj => by
    obtain ⟨b, o, e, hc⟩ := h.c j y hj
    exact ⟨b, o, e, (k.cell (p := ⟨b, o + j, none⟩) (World.block_lt_of_cell? _ _ hc)).trans hc⟩, h.r, h.n⟩
theorem All_any (w : World) (p : Option Addr) (n c : Nat) : Calls Tryz.prog 118 #[.slice p n c] w fun e w' => e = .returned (.func (.func 140) #[] #[.pointer (some ⟨w.heap.size, 0, none⟩)]) ∧ w' = w.alloc (.cells #[.slice p n c] 34) := by
  go_enter Tryz.func118, Tryz.ntmps118
  go_wp2
  go_ret
  exact ⟨rfl, rfl⟩
set_option maxRecDepth 100000 in
set_option maxHeartbeats 4000000 in
theorem all_stops (N : Nat) (n : Nat) (hn : 3 ≤ n) (S H Bl : Nat) (p : Option Addr) (c : Nat) (l : List Int) (hN : l.length = N) (w : World) (hH : H ≤ w.heap.size) (hBl : Bl < H) (hSl : Bl ≠ S)
    (hL : BoxL w Bl p c l) (hc : ∀ (b o : Nat), p = some ⟨b, o, none⟩ → 0 < l.length → b < H ∧ b ≠ S) :
    SeqStopsK Fence.wide n Tryz.prog 140 #[.pointer (some ⟨Bl, 0, none⟩)] (encP (n := N)) (KA S H) (fun xs => xs.map Subtype.val = ips 0 l) (fun _ => True) N w := by
  intro lo J Jx W hW hJ hJx hY h0
  have k0 : KA S H w W := KA.below hW hH
  have cl : W.cell? ⟨Bl, 0, none⟩ = some (.slice p l.length c) := (k0.2 Bl 0 hBl hSl).trans hL.h
  have hln := hL.n
  have HX := Lib.hid (And.intro hL hc); clear hL hc
  refine callsIn_of_wp Tryz.func140 rfl trivial ?_ rfl
  simp only [Tryz.ntmps140, List.size_toArray, List.length_cons, List.length_nil, Nat.reduceAdd, Nat.reduceSub, Array.replicate_succ, Array.replicate_zero, List.push_toArray, List.append_toArray, List.nil_append, List.cons_append]
  have HY := Lib.hid hY; clear hY
  have HK := Lib.hid k0; clear k0
  rw [hN] at cl hln
  have HN := Lib.hid hN; clear hN
  gi_wp2_with fail
  clear cl
  gi_loopw [7] (fun i wr => ∃ (k : Nat) (pre : List (P2 N)), k ≤ N ∧ i = .int .i64 (k : Int) ∧ pre.length = k ∧ Hid (pre.map Subtype.val ++ ips k (l.drop k) = ips 0 l) ∧ J pre wr ∧ Hid (KA S H w wr)) (fun i _ => N - (match i with | .int _ i => i.toNat | _ => 0))
  case atStart => exact ⟨0, [], Nat.zero_le _, rfl, rfl, Lib.hid (by simp), h0, HK⟩
  case round =>
    obtain ⟨k, pre, hk, rfl, hlen, hp, hJs, hK⟩ := hrel
    by_cases hlt : k < N
    · obtain ⟨y, hy⟩ : ∃ y, l[k]? = some y := ⟨l[k]'(by rw [HN.out]; exact hlt), List.getElem?_eq_getElem _⟩
      obtain ⟨b, o, hpp, hcy⟩ := HX.out.1.c k y hy
      have hbb := HX.out.2 b o hpp (by rw [HN.out]; omega)
      subst hpp
      have hcell := (hK.out.2 b (o + k) hbb.1 hbb.2).trans hcy
      have hiy := HX.out.1.r y (List.mem_of_getElem? hy)
      have hik : i64 (k : Int) ∧ 0 ≤ (k : Int) ∧ (k : Int) < (N : Int) := ⟨⟨by omega, by omega⟩, by omega, by omega⟩
      have HS := Lib.hid (ips_step l y k _ hp.out hy)
      obtain ⟨fn, tmps, assign, body, hyy, hR⟩ := HY.out pre ⟨((k : Int), y), hik, hiy⟩ wr hJs (by omega)
      have HL := Lib.hid hlen
      dsimp only [encP] at hyy
      clear hy hcy hp hlen hbb
      gi_wp2
      clear hcell
      refine ⟨fun _ => by omega, ?_⟩
      refine hR.mono ?_
      rintro e W3 (⟨rfl, hJ3, hk3⟩ | ⟨rfl, hJx3⟩)
      · have HK3 := Lib.hid (hK.out.trans hk3); clear hk3
        gi_wp2
        go_roundw
        case rel =>
          refine ⟨k + 1, pre ++ [⟨((k : Int), y), hik, hiy⟩], hlt, by go_num, by rw [List.length_append, HL.out]; rfl, ?_, hJ3, HK3⟩
          refine Lib.hid ?_
          have := HS.out
          simpa using this
        case measure => (simp; try omega)
      · gi_wp2
        refine bodyPost_ret (results_none rfl _ _ _) rfl ?_
        exact ⟨⟨_, rfl⟩, .inr ⟨_, trivial, hJx3⟩⟩
    · obtain rfl : k = N := by omega
      have HE := Lib.hid (show pre.map Subtype.val = ips 0 l by have := hp.out; rwa [show l.drop k = [] from List.drop_of_length_le (by rw [HN.out]; exact Nat.le_refl _), show ips k [] = [] from rfl, List.append_nil] at this)
      gi_wp2
      go_end0
      exact ⟨⟨_, rfl⟩, .inl ⟨pre, HE.out, hJs⟩⟩
/-- the products, over pairs -/
def ala (s : Int) (l : List (Int × Int)) : Int := l.foldl (fun f t => gm f t.2 1152921504606845789) s
theorem ala_snoc (s : Int) (l : List (Int × Int)) (t : Int × Int) : ala s (l ++ [t]) = gm (ala s l) t.2 1152921504606845789 := by unfold ala; rw [List.foldl_append]; rfl
theorem ala_al : ∀ (l : List Int) (k : Nat) (s : Int), ala s (ips k l) = al s l
  | [], _, _ => rfl
  | x :: l, k, s => ala_al l (k + 1) (gm s x 1152921504606845789)
theorem ala_i : ∀ (l : List (Int × Int)) (s : Int), i64 s → i64 (ala s l)
  | [], _, h => h
  | x :: l, s, _ => ala_i l (gm s x.2 1152921504606845789) (by have := mQr s x.2; exact ⟨by omega, by omega⟩)
def bsta (i x f : Int) (t : Int × Int) : Int := if t.1 = i then f else gm f (gs t.2 x 1152921504606845789) 1152921504606845789
def bla (i x s : Int) (l : List (Int × Int)) : Int := l.foldl (bsta i x) s
theorem bla_snoc (i x s : Int) (l : List (Int × Int)) (t : Int × Int) : bla i x s (l ++ [t]) = bsta i x (bla i x s l) t := by unfold bla; rw [List.foldl_append]; rfl
theorem bsta_i {i x f : Int} {t : Int × Int} (h : i64 f) : i64 (bsta i x f t) := by
  unfold bsta; split
  · exact h
  · have := mQr f (gs t.2 x 1152921504606845789); exact ⟨by omega, by omega⟩
theorem bla_i (i x : Int) : ∀ (l : List (Int × Int)) (s : Int), i64 s → i64 (bla i x s l)
  | [], _, h => h
  | t :: l, s, h => bla_i i x l (bsta i x s t) (bsta_i h)
theorem bla_bl (i : Nat) (x : Int) (l0 : List Int) (hn : l0.Nodup) (hi : l0[i]? = some x) : ∀ (l : List Int) (k : Nat) (s : Int), l0.drop k = l → bla i x s (ips k l) = bl x s l
  | [], _, _, _ => rfl
  | t :: l, k, s, h => by
    have hk : l0[k]? = some t := by
      have := congrArg (fun m => m[0]?) h
      simpa using this
    have e : bsta (i : Int) x s ((k : Int), t) = bst x s t := by
      unfold bsta bst
      by_cases e : k = i
      · subst e
        rw [hi] at hk
        injection hk with hk
        simp [hk]
      · have : t ≠ x := fun e2 => by
          subst e2
          exact e ((List.getElem?_inj (List.getElem?_eq_some_iff.1 hk).1 hn).1 (hk.trans hi.symm))
        rw [if_neg (by show ¬ (k : Int) = (i : Int); omega), if_neg this]
    show bla i x (bsta i x s ((k : Int), t)) (ips (k+1) l) = bl x (bst x s t) l
    rw [e]
    refine bla_bl i x l0 hn hi l (k+1) _ ?_
    have := congrArg (List.drop 1) h
    simpa [List.drop_drop, Nat.add_comm] using this
theorem step_al (w : World) (z j y r : Int) (h : gm z y 1152921504606845789 = r) (hz : i64 z) (hy : i64 y) :
    Calls Tryz.prog 119 #[.int .i64 z, .int .i64 j, .int .i64 y] w fun e w' => e = .returned (.int .i64 r) ∧ Below w.heap.size w w' := by
  have M := Lib.hid fun W => mul_k W z y 1152921504606845789 r h hz.1 hz.2 hy.1 hy.2 (by decide)
  clear h
  go_enter Tryz.func119, Tryz.ntmps119
  go_wp2_with fail
  refine (M.out _).mono ?_
  rintro e w1 ⟨rfl, rfl⟩
  go_wp2
  go_ret
  exact ⟨rfl, Below.refl _ _⟩
theorem step_bl (w : World) (Bi Bx : Nat) (i x z j y r : Int) (h : bsta i x z (j, y) = r) (hz : i64 z) (hx : i64 x) (_ : i64 j) (hi : i64 i) (hy : i64 y) (ci : w.cell? ⟨Bi, 0, none⟩ = some (.int .i64 i)) (cx : w.cell? ⟨Bx, 0, none⟩ = some (.int .i64 x)) :
    Calls Tryz.prog 120 #[.int .i64 z, .int .i64 j, .int .i64 y, .pointer (some ⟨Bi, 0, none⟩), .pointer (some ⟨Bx, 0, none⟩)] w fun e w' => e = .returned (.int .i64 r) ∧ Below w.heap.size w w' := by
  by_cases e : j = i
  · subst e
    obtain rfl : z = r := by rw [← h]; unfold bsta; rw [if_pos rfl]
    clear h
    go_enter Tryz.func120, Tryz.ntmps120
    go_wp2
    go_ret
    exact ⟨rfl, Below.refl _ _⟩
  · have h2 : gm z (gs y x 1152921504606845789) 1152921504606845789 = r := by rw [← h]; unfold bsta; rw [if_neg e]
    have hs := sQr y x
    have Sb := Lib.hid fun W => sub_k W y x 1152921504606845789 _ rfl hy.1 hy.2 hx.1 hx.2 (by decide)
    have M := Lib.hid fun W => mul_k W z (gs y x 1152921504606845789) 1152921504606845789 r h2 hz.1 hz.2 (by omega) (by omega) (by decide)
    generalize gs y x 1152921504606845789 = d at *
    clear h h2 hs
    go_enter Tryz.func120, Tryz.ntmps120
    go_wp2_with fail
    refine (Sb.out _).mono ?_
    rintro e1 w1 ⟨rfl, rfl⟩
    go_wp2_with fail
    refine (M.out _).mono ?_
    rintro e2 w2 ⟨rfl, rfl⟩
    go_wp2
    go_ret
    exact ⟨rfl, Below.refl _ _⟩
set_option maxRecDepth 100000 in
set_option maxHeartbeats 4000000 in
theorem fold_al (w : World) (z : Int) (Bl : Nat) (p : Option Addr) (c : Nat) (l : List Int) (hL : BoxL w Bl p c l) (hzi : i64 z) :
    Calls Tryz.prog 94 #[.int .i64 z, .func (.func 140) #[] #[.pointer (some ⟨Bl, 0, none⟩)], .func (.func 119) #[] #[]] w fun e w' => e = .returned (.int .i64 (al z l)) ∧ Below w.heap.size w w' := by
  refine (callsIn_wide (n := 14)).1 ?_
  obtain ⟨W, hW⟩ : ∃ W, (w.alloc (.cells #[.int .i64 z] 3)).alloc (.cells #[.func (.func 119) #[] #[]] 51) = W := ⟨_, rfl⟩
  have ST := Lib.hid (fold_start w z (.func (.func 119) #[] #[]) W hW)
  have HL := Lib.hid hL; clear hL
  have mixed : Tryz.prog.follows .mixedOrders = true := by kernel_rfl
  refine callsIn_of_wp_marks Tryz.func94 rfl trivial ?_ rfl
  simp only [Tryz.ntmps94, List.size_toArray, List.length_cons, List.length_nil, Nat.reduceAdd, Nat.reduceSub, Array.replicate_succ, Array.replicate_zero, List.push_toArray, List.append_toArray, List.nil_append, List.cons_append]
  have HW := Lib.hid hW; clear hW
  gi_wp2_with fail
  rw [HW.out]
  refine wpIn_rangeFunc_ownF rfl (by omega) (gf := 140) (lb := #[.pointer (some ⟨Bl, 0, none⟩)]) rfl trivial (enters_of Tryz.func140 (by kernel_rfl) rfl)
    (all_stops l.length 13 (by omega) w.heap.size (w.heap.size + 2) Bl p c l rfl W (by have := ST.out.1; omega) (by have := HL.out.lt; omega) (by have := HL.out.lt; omega) (HL.out.next ST.out.2.b) (fun b o e h => by obtain ⟨y, hy⟩ : ∃ y, l[0]? = some y := ⟨l[0]'h, List.getElem?_eq_getElem _⟩; obtain ⟨b2, o2, e2, hc⟩ := HL.out.c 0 y hy; rw [e] at e2; cases e2; have := World.block_lt_of_cell? _ _ hc; have : b < w.heap.size := this; omega))
    (fun h k => KA.trans h k) (KA.put (by have := ST.out.1; omega)) (Below.refl _ _) (fun _ => rfl)
    (fun pre V => FI w w.heap.size (.func (.func 119) #[] #[]) (ala z (pre.map Subtype.val)) V) (fun _ _ _ => False) (FI.own (by have := ST.out.1; omega) _) (fun _ _ _ _ _ hs _ _ => hs) ST.out.2
    (fun y => { tmps := #[.int .i64 z, .func (.func 140) #[] #[.pointer (some ⟨Bl, 0, none⟩)], .func (.func 119) #[] #[], .pointer (some ⟨w.heap.size, 0, none⟩), undef, .pointer (some ⟨w.heap.size + 1, 0, none⟩), .int .i64 0, .int .i64 y.1.1, .int .i64 y.1.2, .func (.func 140) #[] #[.pointer (some ⟨Bl, 0, none⟩)], .int .i64 y.1.1, .int .i64 y.1.2, undef, undef, undef, undef, undef, undef], defers := [] }) ?assign ?body ?done ?stop
  case assign =>
    intro l y V K hK
    dsimp only [encP]
    gi_wp2
    exact hK
  case body =>
    rintro lo pre ⟨⟨y, m⟩, hy, hm⟩ V hI hlen
    have hz := ala_i (pre.map Subtype.val) z hzi
    
    obtain ⟨z2, hz2⟩ : ∃ z2, ala z ((pre ++ [(⟨(y, m), hy, hm⟩ : P2 l.length)]).map Subtype.val) = z2 := ⟨_, rfl⟩
    have HC := Lib.hid (step_al V (ala z (pre.map Subtype.val)) y m z2 (by rw [← hz2, List.map_append]; exact (ala_snoc z _ (y, m)).symm) hz hm)
    have HZ := Lib.hid hz2; clear hz2
    generalize ala z (pre.map Subtype.val) = z1 at *
    have c0 := hI.c
    have c1 := hI.d
    have f0 := hI.f
    have hlt := hI.l1
    have HI := Lib.hid hI; clear hI
    gi_wp2_with fail
    refine ⟨trivial, ?_⟩
    refine (CallsIn.inRound lo (callsIn_wide.2 HC.out)).mono ?_
    rintro e V2 ⟨rfl, b⟩
    have d0 : V2.cell? ⟨w.heap.size, 0, none⟩ = some (.int .i64 z1) := (b.cell (p := ⟨w.heap.size, 0, none⟩) hlt).trans c0
    have g0 : V2.frozen? ⟨w.heap.size, 0, none⟩ = false := (b.frozen (p := ⟨w.heap.size, 0, none⟩) hlt).trans f0
    clear c0 c1 f0
    gi_wp2
    refine ⟨(keepsOthers_below b).trans (KeepsOthers.setCell _ _ _), (KA.below b HI.out.lt).trans (KA.set _ _ _), ?_⟩
    show FI w w.heap.size _ (ala z (List.map Subtype.val (pre ++ [(⟨(y, m), hy, hm⟩ : P2 l.length)]))) _
    rw [HZ.out]
    exact HI.out.step (Nat.le_refl _) b z2
  case done =>
    rintro D zs V hD hS hI hK
    have c0 := hI.c
    have HI := Lib.hid hI; clear hI
    have HS := Lib.hid hS; clear hS
    gi_wp2
    refine ⟨by simp, .inl ⟨_, _, rfl, run_takeDeferred hK, ?_⟩⟩
    refine ⟨_, results_tmp (t := 6) rfl _ _ _, ?_, HI.out.b.trans (belowK_b (w := w) (Nat.le_refl _) V D _ _ (by have := ST.out.1; omega) hK rfl rfl)⟩
    rw [HS.out, ala_al]
    try rfl
  case stop =>
    rintro D c pre V _ _ h _
    exact h.elim
set_option maxRecDepth 100000 in
set_option maxHeartbeats 4000000 in
theorem fold_bl (w : World) (z : Int) (Bl Bi Bx : Nat) (i x : Int) (p : Option Addr) (c : Nat) (l : List Int) (hL : BoxL w Bl p c l) (hzi : i64 z) (hi : i64 i) (hx : i64 x) (ci : w.cell? ⟨Bi, 0, none⟩ = some (.int .i64 i)) (cx : w.cell? ⟨Bx, 0, none⟩ = some (.int .i64 x)) :
    Calls Tryz.prog 94 #[.int .i64 z, .func (.func 140) #[] #[.pointer (some ⟨Bl, 0, none⟩)], .func (.func 120) #[] #[.pointer (some ⟨Bi, 0, none⟩), .pointer (some ⟨Bx, 0, none⟩)]] w fun e w' => e = .returned (.int .i64 (bla i x z (ips 0 l))) ∧ Below w.heap.size w w' := by
  refine (callsIn_wide (n := 14)).1 ?_
  obtain ⟨W, hW⟩ : ∃ W, (w.alloc (.cells #[.int .i64 z] 3)).alloc (.cells #[.func (.func 120) #[] #[.pointer (some ⟨Bi, 0, none⟩), .pointer (some ⟨Bx, 0, none⟩)]] 51) = W := ⟨_, rfl⟩
  have ST := Lib.hid (fold_start w z (.func (.func 120) #[] #[.pointer (some ⟨Bi, 0, none⟩), .pointer (some ⟨Bx, 0, none⟩)]) W hW)
  have HL := Lib.hid hL; clear hL
  have HCI := Lib.hid (And.intro ci cx); clear ci cx
  have mixed : Tryz.prog.follows .mixedOrders = true := by kernel_rfl
  refine callsIn_of_wp_marks Tryz.func94 rfl trivial ?_ rfl
  simp only [Tryz.ntmps94, List.size_toArray, List.length_cons, List.length_nil, Nat.reduceAdd, Nat.reduceSub, Array.replicate_succ, Array.replicate_zero, List.push_toArray, List.append_toArray, List.nil_append, List.cons_append]
  have HW := Lib.hid hW; clear hW
  gi_wp2_with fail
  rw [HW.out]
  refine wpIn_rangeFunc_ownF rfl (by omega) (gf := 140) (lb := #[.pointer (some ⟨Bl, 0, none⟩)]) rfl trivial (enters_of Tryz.func140 (by kernel_rfl) rfl)
    (all_stops l.length 13 (by omega) w.heap.size (w.heap.size + 2) Bl p c l rfl W (by have := ST.out.1; omega) (by have := HL.out.lt; omega) (by have := HL.out.lt; omega) (HL.out.next ST.out.2.b) (fun b o e h => by obtain ⟨y, hy⟩ : ∃ y, l[0]? = some y := ⟨l[0]'h, List.getElem?_eq_getElem _⟩; obtain ⟨b2, o2, e2, hc⟩ := HL.out.c 0 y hy; rw [e] at e2; cases e2; have := World.block_lt_of_cell? _ _ hc; have : b < w.heap.size := this; omega))
    (fun h k => KA.trans h k) (KA.put (by have := ST.out.1; omega)) (Below.refl _ _) (fun _ => rfl)
    (fun pre V => FI w w.heap.size (.func (.func 120) #[] #[.pointer (some ⟨Bi, 0, none⟩), .pointer (some ⟨Bx, 0, none⟩)]) (bla i x z (pre.map Subtype.val)) V) (fun _ _ _ => False) (FI.own (by have := ST.out.1; omega) _) (fun _ _ _ _ _ hs _ _ => hs) ST.out.2
    (fun y => { tmps := #[.int .i64 z, .func (.func 140) #[] #[.pointer (some ⟨Bl, 0, none⟩)], .func (.func 120) #[] #[.pointer (some ⟨Bi, 0, none⟩), .pointer (some ⟨Bx, 0, none⟩)], .pointer (some ⟨w.heap.size, 0, none⟩), undef, .pointer (some ⟨w.heap.size + 1, 0, none⟩), .int .i64 0, .int .i64 y.1.1, .int .i64 y.1.2, .func (.func 140) #[] #[.pointer (some ⟨Bl, 0, none⟩)], .int .i64 y.1.1, .int .i64 y.1.2, undef, undef, undef, undef, undef, undef], defers := [] }) ?assign ?body ?done ?stop
  case assign =>
    intro l y V K hK
    dsimp only [encP]
    gi_wp2
    exact hK
  case body =>
    rintro lo pre ⟨⟨y, m⟩, hy, hm⟩ V hI hlen
    have hz := bla_i i x (pre.map Subtype.val) z hzi
    have hci := (hI.b.cell (p := ⟨Bi, 0, none⟩) (World.block_lt_of_cell? _ _ HCI.out.1)).trans HCI.out.1
    have hcx := (hI.b.cell (p := ⟨Bx, 0, none⟩) (World.block_lt_of_cell? _ _ HCI.out.2)).trans HCI.out.2
    obtain ⟨z2, hz2⟩ : ∃ z2, bla i x z ((pre ++ [(⟨(y, m), hy, hm⟩ : P2 l.length)]).map Subtype.val) = z2 := ⟨_, rfl⟩
    have HC := Lib.hid (step_bl V Bi Bx i x (bla i x z (pre.map Subtype.val)) y m z2 (by rw [← hz2, List.map_append]; exact (bla_snoc i x z _ (y, m)).symm) hz hx hy.1 hi hm hci hcx)
    have HZ := Lib.hid hz2; clear hz2
    generalize bla i x z (pre.map Subtype.val) = z1 at *
    have c0 := hI.c
    have c1 := hI.d
    have f0 := hI.f
    have hlt := hI.l1
    have HI := Lib.hid hI; clear hI
    gi_wp2_with fail
    refine ⟨trivial, ?_⟩
    refine (CallsIn.inRound lo (callsIn_wide.2 HC.out)).mono ?_
    rintro e V2 ⟨rfl, b⟩
    have d0 : V2.cell? ⟨w.heap.size, 0, none⟩ = some (.int .i64 z1) := (b.cell (p := ⟨w.heap.size, 0, none⟩) hlt).trans c0
    have g0 : V2.frozen? ⟨w.heap.size, 0, none⟩ = false := (b.frozen (p := ⟨w.heap.size, 0, none⟩) hlt).trans f0
    clear c0 c1 f0
    gi_wp2
    refine ⟨(keepsOthers_below b).trans (KeepsOthers.setCell _ _ _), (KA.below b HI.out.lt).trans (KA.set _ _ _), ?_⟩
    show FI w w.heap.size _ (bla i x z (List.map Subtype.val (pre ++ [(⟨(y, m), hy, hm⟩ : P2 l.length)]))) _
    rw [HZ.out]
    exact HI.out.step (Nat.le_refl _) b z2
  case done =>
    rintro D zs V hD hS hI hK
    have c0 := hI.c
    have HI := Lib.hid hI; clear hI
    have HS := Lib.hid hS; clear hS
    gi_wp2
    refine ⟨by simp, .inl ⟨_, _, rfl, run_takeDeferred hK, ?_⟩⟩
    refine ⟨_, results_tmp (t := 6) rfl _ _ _, ?_, HI.out.b.trans (belowK_b (w := w) (Nat.le_refl _) V D _ _ (by have := ST.out.1; omega) hK rfl rfl)⟩
    rw [HS.out]
    try rfl
  case stop =>
    rintro D c pre V _ _ h _
    exact h.elim
end Go.Proofs.YtbfplapjjeeceaaGreatDoor.W8
