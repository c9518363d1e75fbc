/-
  The walks of beacon.separate, in its two uses, of the function that keeps the points that were seen, and of powers.
  The walks of beacon.powers, of the function that keeps the points that were seen, and of Combine.
  What Combine gives, for any keys and partials.
-/
import Derived.Test.YtbfplapjjeeceaaGreatDoorBVfy
import Derived.Test.YtbfplapjjeeceaaGreatDoorWJoin
namespace Go.Proofs.YtbfplapjjeeceaaGreatDoor.B9
open Go.RowKit GM SH G4 E6 D7P Go.Maps
open W8 hiding i64 jn
/-- all blocks but M keep what they hold -/
structure KX (M : Option Nat) (w w' : World) : Prop where
  os : w'.os = w.os
  tape : w'.tape = w.tape
  output : w'.output = w.output
  size : w.heap.size ≤ w'.heap.size
  block : ∀ k, k < w.heap.size → some k ≠ M → w'.heap[k]? = w.heap[k]?
theorem KX.below (M : Option Nat) {w w' : World} (h : Below w.heap.size w w') : KX M w w' := ⟨h.os, h.tape, h.output, h.size, fun k hk _ => h.block k hk⟩
theorem KX.trans {M : Option Nat} {a b c : World} (h : KX M a b) (k : KX M b c) : KX M a c :=
  ⟨k.os.trans h.os, k.tape.trans h.tape, k.output.trans h.output, Nat.le_trans h.size k.size, fun i hi hM => (k.block i (Nat.lt_of_lt_of_le hi h.size) hM).trans (h.block i hi hM)⟩
theorem KX.down {M : Option Nat} {a b c : World} (h : KX M a b) (k : Below a.heap.size b c) : KX M a c :=
  ⟨k.os.trans h.os, k.tape.trans h.tape, k.output.trans h.output, Nat.le_trans h.size k.size, fun i hi hM => (k.block i hi).trans (h.block i hi hM)⟩
theorem KX.over {M B : Nat} {u w w' : World} (h : KX (some M) w w') (k : Below B u w) (hB : B ≤ w.heap.size) (hM : B ≤ M) : Below B u w' :=
  ⟨h.os.trans k.os, h.tape.trans k.tape, h.output.trans k.output, Nat.le_trans k.size h.size, fun i hi => (h.block i (by omega) (by intro e; injection e with e; omega)).trans (k.block i hi)⟩
theorem KX.cell {M : Option Nat} {w w' : World} (h : KX M w w') {b o : Nat} {v : Value} (hc : w.cell? ⟨b, o, none⟩ = some v) (hM : some b ≠ M) : w'.cell? ⟨b, o, none⟩ = some v := by
  rw [World.cell?_of_block (w := w) (a := ⟨b, o, none⟩) (h.block b (World.block_lt_of_cell? _ _ hc) hM)]; exact hc
theorem own_kx {M : Option Nat} {w w' : World} {base : Nat} {e : TypeId} {size : Nat} {v : Value} {n : Nat} {xs : List Value} (h : w.ownsRow base e size v n xs) (k : KX M w w') (hM : ∀ g, v.ownBlock = some g → some g ≠ M) : w'.ownsRow base e size v n xs := by
  refine ⟨h.1, ?_⟩
  rcases h.2 with h2 | ⟨g, cap, cur, rfl, h2, h3, h4⟩
  · exact .inl h2
  · exact .inr ⟨g, cap, cur, rfl, h2, (k.block g (Array.getElem?_eq_some_iff.1 h3).1 (hM g rfl)).trans h3, h4⟩
/-- the cells of partials -/
def pc (s : Pa) : List Value := [.int .i64 s.1, .int .i64 s.2.1, .int .i64 s.2.2.1, .int .i64 s.2.2.2]
def fl4 : List Pa → List Value
  | [] => []
  | s :: l => pc s ++ fl4 l
theorem fl4_app (a b : List Pa) : fl4 (a ++ b) = fl4 a ++ fl4 b := by
  induction a with
  | nil => rfl
  | cons s l ih => show pc s ++ fl4 (l ++ b) = pc s ++ fl4 l ++ fl4 b; rw [ih, List.append_assoc]
theorem fl4_get : ∀ (l : List Pa) (j : Nat) (s : Pa), l[j]? = some s → (fl4 l)[j * 4]? = some (.int .i64 s.1) ∧ (fl4 l)[j * 4 + 1]? = some (.int .i64 s.2.1) ∧ (fl4 l)[j * 4 + 2]? = some (.int .i64 s.2.2.1) ∧ (fl4 l)[j * 4 + 3]? = some (.int .i64 s.2.2.2)
  | [], _, _, h => by simp at h
  | t :: l, 0, s, h => by
    have : t = s := by simpa using h
    subst this
    exact ⟨rfl, rfl, rfl, rfl⟩
  | t :: l, j+1, s, h => by
    have ih := fl4_get l j s (by simpa using h)
    have e : ∀ i, (fl4 (t :: l))[(j + 1) * 4 + i]? = (fl4 l)[j * 4 + i]? := fun i => by
      show (pc t ++ fl4 l)[(j + 1) * 4 + i]? = _
      rw [List.getElem?_append_right (by show 4 ≤ _; omega)]
      congr 1
      show _ - 4 = _
      omega
    exact ⟨(e 0).trans ih.1, (e 1).trans ih.2.1, (e 2).trans ih.2.2.1, (e 3).trans ih.2.2.2⟩
/-- a slice shows these partials -/
structure PaL (w : World) (v : Value) (l : List Pa) : Prop where
  h : ∃ (p : Option Addr) (c : Nat), v = .slice p l.length c ∧ ∀ (j : Nat) (s : Pa), l[j]? = some s → ∃ b o, p = some ⟨b, o, none⟩ ∧ w.cell? ⟨b, o + j * 4, none⟩ = some (.int .i64 s.1) ∧ w.cell? ⟨b, o + j * 4 + 1, none⟩ = some (.int .i64 s.2.1) ∧ w.cell? ⟨b, o + j * 4 + 2, none⟩ = some (.int .i64 s.2.2.1) ∧ w.cell? ⟨b, o + j * 4 + 3, none⟩ = some (.int .i64 s.2.2.2)
  r : ∀ s ∈ l, pi64 s
  n : l.length ≤ 1000000000
theorem PaL.next {w w' : World} {v : Value} {l : List Pa} (h : PaL w v l) (k : Below w.heap.size w w') : PaL w' v l := by
  obtain ⟨p, c, e, hc⟩ := h.h
  exact ⟨⟨p, c, e, fun j s hj => by
    obtain ⟨b, o, e, h0, h1, h2, h3⟩ := hc j s hj
    exact ⟨b, o, e, (k.cell (p := ⟨b, o + j * 4, none⟩) (World.block_lt_of_cell? _ _ h0)).trans h0, (k.cell (p := ⟨b, o + j * 4 + 1, none⟩) (World.block_lt_of_cell? _ _ h1)).trans h1, (k.cell (p := ⟨b, o + j * 4 + 2, none⟩) (World.block_lt_of_cell? _ _ h2)).trans h2, (k.cell (p := ⟨b, o + j * 4 + 3, none⟩) (World.block_lt_of_cell? _ _ h3)).trans h3⟩⟩, h.r, h.n⟩
theorem own_PaL {w : World} {base : Nat} {v : Value} {l : List Pa} (h : w.ownsRow base 30 4 v l.length (fl4 l)) (hr : ∀ s ∈ l, pi64 s) (hn : l.length ≤ 1000000000) : PaL w v l := by
  refine ⟨?_, hr, hn⟩
  rcases h.2 with ⟨rfl, h0⟩ | ⟨g, cap, cur, rfl, h2, h3, h4, h5, h6, h7⟩
  · have : l = [] := List.length_eq_zero_iff.1 h0
    subst this
    exact ⟨none, 0, rfl, fun j y hj => by simp at hj⟩
  · have rd : ∀ i u, (fl4 l)[i]? = some u → w.cell? ⟨g, 0 + i, none⟩ = some u := fun i u hi => by
      rw [Nat.zero_add, cell_of_row w g i _ _ _ h3, ← Array.getElem?_toList]
      rw [← h7] at hi
      have hlt := (List.getElem?_eq_some_iff.1 hi).1
      rw [List.getElem?_take_of_lt (by rw [List.length_take] at hlt; omega)] at hi
      exact hi
    refine ⟨_, cap, rfl, fun j s hj => ?_⟩
    obtain ⟨k0, k1, k2, k3⟩ := fl4_get l j s hj
    exact ⟨g, 0, rfl, rd _ _ k0, by rw [Nat.add_assoc]; exact rd _ _ k1, by rw [Nat.add_assoc]; exact rd _ _ k2, by rw [Nat.add_assoc]; exact rd _ _ k3⟩
theorem infoP4 : (Tryz.prog.info? 30).map (fun i => (i.zero, i.size, i.bytes)) = some (some (.agg #[.int .i64 0, .int .i64 0, .int .i64 0, .int .i64 0]), 4, 32) := by kernel_rfl
theorem ne_or {a b : Option Nat} (h : ∀ g, b = some g → a ≠ some g) : a = none ∨ a ≠ b := by
  cases a with
  | none => exact .inl rfl
  | some g => exact .inr fun e => h g e.symm rfl
/-- what separate has made: what was kept, the two rows -/
structure SP (w : World) (I : Nat → World → Prop) (M : Option Nat) (fv ov : Value) (X Y : List Pa) (k : Nat) (W : World) : Prop where
  i : I k W
  x : KX M w W
  of : W.ownsRow w.heap.size 30 4 fv X.length (fl4 X)
  oo : W.ownsRow w.heap.size 30 4 ov Y.length (fl4 Y)
  ne : ∀ g, fv.ownBlock = some g → ov.ownBlock ≠ some g
theorem SP.next {w : World} {I : Nat → World → Prop} {M : Option Nat} {fv ov : Value} {X Y : List Pa} {k : Nat} {W V : World} (h : SP w I M fv ov X Y k W) (hI : ∀ k W V, I k W → Below w.heap.size W V → I k V) (b : Below W.heap.size W V) : SP w I M fv ov X Y k V :=
  ⟨hI k W V h.i (b.mono h.x.size), h.x.down (b.mono h.x.size), own_below' h.of b, own_below' h.oo b, h.ne⟩
theorem SP.call {w : World} {I : Nat → World → Prop} {M : Option Nat} {fv ov : Value} {X Y : List Pa} {k : Nat} {W V : World} (h : SP w I M fv ov X Y k W) (hM : ∀ m, M = some m → m < w.heap.size) (hi : I (k+1) V) (b : KX M W V) : SP w I M fv ov X Y (k+1) V :=
  ⟨hi, h.x.trans b, own_kx h.of b (fun g hg e => by have := (h.of.lt g hg).1; have := hM g e.symm; omega), own_kx h.oo b (fun g hg e => by have := (h.oo.lt g hg).1; have := hM g e.symm; omega), h.ne⟩
theorem SP.appF {w : World} {I : Nat → World → Prop} {M : Option Nat} {fv ov : Value} {X Y : List Pa} {k : Nat} {W V : World} (h : SP w I M fv ov X Y k W) (hI : ∀ k W V, I k W → Below w.heap.size W V → I k V) (s : Pa) {g c H : Nat} (hH : W.heap.size = H)
    (h1 : V.ownsRow w.heap.size 30 4 (.slice (some ⟨g, 0, none⟩) (X.length + 1) c) (X.length + 1) (fl4 X ++ pc s)) (h2 : W.grownBy V fv.ownBlock) (h3 : fv.ownBlock = some g ∨ g = H) :
    SP w I M (.slice (some ⟨g, 0, none⟩) (X.length + 1) c) ov (X ++ [s]) Y k V := by
  have b : Below w.heap.size W V := (Below.refl _ W).grown h2 h.x.size (fun r hr => (h.of.lt r hr).1)
  refine ⟨hI k W V h.i b, h.x.down b, ?_, ?_, ?_⟩
  · rw [List.length_append, fl4_app]
    show V.ownsRow _ _ _ _ (X.length + 1) (fl4 X ++ (pc s ++ []))
    rw [List.append_nil]; exact h1
  · exact h.oo.kept h2 (ne_or fun g hg e => h.ne g hg e)
  · intro g2 hg2 ho
    have : g2 = g := by simpa [Value.ownBlock] using hg2.symm
    subst this
    rcases h3 with h3 | h3
    · exact h.ne _ h3 ho
    · have := (h.oo.lt _ ho).2
      omega
theorem SP.appO {w : World} {I : Nat → World → Prop} {M : Option Nat} {fv ov : Value} {X Y : List Pa} {k : Nat} {W V : World} (h : SP w I M fv ov X Y k W) (hI : ∀ k W V, I k W → Below w.heap.size W V → I k V) (s : Pa) {g c H : Nat} (hH : W.heap.size = H)
    (h1 : V.ownsRow w.heap.size 30 4 (.slice (some ⟨g, 0, none⟩) (Y.length + 1) c) (Y.length + 1) (fl4 Y ++ pc s)) (h2 : W.grownBy V ov.ownBlock) (h3 : ov.ownBlock = some g ∨ g = H) :
    SP w I M fv (.slice (some ⟨g, 0, none⟩) (Y.length + 1) c) X (Y ++ [s]) k V := by
  have b : Below w.heap.size W V := (Below.refl _ W).grown h2 h.x.size (fun r hr => (h.oo.lt r hr).1)
  refine ⟨hI k W V h.i b, h.x.down b, ?_, ?_, ?_⟩
  · exact h.of.kept h2 (ne_or fun g hg e => h.ne g e hg)
  · rw [List.length_append, fl4_app]
    show V.ownsRow _ _ _ _ (Y.length + 1) (fl4 Y ++ (pc s ++ []))
    rw [List.append_nil]; exact h1
  · intro g2 hf ho
    have : g2 = g := by simpa [Value.ownBlock] using ho.symm
    subst this
    rcases h3 with h3 | h3
    · exact h.ne _ hf h3
    · have := (h.of.lt _ hf).2
      omega
theorem pick_no {α : Type} (r : Nat → Bool) (l : List α) (k : Nat) (s : α) (h : l[k]? = some s) (hr : r k = false) : pick r 0 (l.take (k+1)) = pick r 0 (l.take k) := by
  rw [pick_take r l k s h, hr]; simp
theorem pick_yes {α : Type} (r : Nat → Bool) (l : List α) (k : Nat) (s : α) (h : l[k]? = some s) (hr : r k = true) : pick r 0 (l.take (k+1)) = pick r 0 (l.take k) ++ [s] := by
  rw [pick_take r l k s h, hr]; rfl
/-- what separate gives -/
def SQ (w : World) (I : Nat → World → Prop) (M : Option Nat) (l : List Pa) (r : Nat → Bool) (e : Ending) (w' : World) : Prop :=
  ∃ fv ov, e = .returned (.tuple #[fv, ov]) ∧ SP w I M fv ov (pick r 0 l) (pick (fun k => !r k) 0 l) l.length w'
set_option maxRecDepth 100000 in
set_option maxHeartbeats 4000000 in
theorem sep_vfn (w : World) (v : Value) (l : List Pa) (hV : PaL w v l) (gn gk gb : Nat) (I : Nat → World → Prop) (M : Option Nat) (r : Nat → Bool)
    (hI : ∀ k W V, I k W → Below w.heap.size W V → I k V) (hM : ∀ m, M = some m → m < w.heap.size) (hb : ∀ m, M = some m → w.cell? ⟨m, 0, none⟩ = none ∧ ∀ o, w.cell? ⟨m, o, none⟩ = none) (h0 : I 0 w)
    (CL : ∀ k s W, l[k]? = some s → I k W → Calls Tryz.prog 86 #[pav s, .pointer (some ⟨gn, 0, none⟩), .pointer (some ⟨gk, 0, none⟩), .pointer (some ⟨gb, 0, none⟩)] W fun e w' => e = .returned (.bool (r k)) ∧ I (k+1) w' ∧ KX M W w') :
    Calls Tryz.prog 55 #[v, .func (.func 86) #[] #[.pointer (some ⟨gn, 0, none⟩), .pointer (some ⟨gk, 0, none⟩), .pointer (some ⟨gb, 0, none⟩)]] w (SQ w I M l r) := by
  obtain ⟨i0, hi, hz0, hz1, hz2⟩ := info_parts infoP4
  obtain ⟨⟨p, c, rfl, hc⟩, hr, hln⟩ := hV
  have HC := Lib.hid (And.intro hc (And.intro hr (And.intro hI (And.intro hM hb)))); clear hc hr hI hb
  obtain ⟨N, hN⟩ : ∃ N, l.length = N := ⟨_, rfl⟩
  rw [hN] at hln ⊢
  have HN := Lib.hid hN; clear hN
  have HCL := Lib.hid CL; clear CL
  have H0 := Lib.hid h0; clear h0
  go_enter Tryz.func55, Tryz.ntmps55
  go_wp2_with fail
  go_loopw [4, 5, 10] (fun a b i wr => ∃ (k : Nat) (fv ov : Value), k ≤ N ∧ a = fv ∧ b = ov ∧ i = .int .i64 (k : Int) ∧ Hid (SP w I M fv ov (pick r 0 (l.take k)) (pick (fun k => !r k) 0 (l.take k)) k wr)) (fun _ _ i _ => N - (match i with | .int _ i => i.toNat | _ => 0))
  case atStart => exact ⟨0, _, _, Nat.zero_le _, rfl, rfl, rfl, Lib.hid ⟨H0.out, KX.below M (Below.refl _ _), World.ownsRow_nil _ _ _ _, World.ownsRow_nil _ _ _ _, fun g h => by cases h⟩⟩
  case round =>
    obtain ⟨k, fv, ov, hk, rfl, rfl, rfl, HQ⟩ := hrel
    by_cases hlt : k < N
    · obtain ⟨⟨x, y, z, t⟩, hx⟩ : ∃ s, l[k]? = some s := ⟨l[k]'(by rw [HN.out]; exact hlt), List.getElem?_eq_getElem _⟩
      obtain ⟨b, o, hp, hc0, hc1, hc2, hc3⟩ := HC.out.1 k _ hx
      subst hp
      have hbM : some b ≠ M := fun e => by
        have := (HC.out.2.2.2.2 b e.symm).2 (o + k * 4)
        rw [hc0] at this
        cases this
      have c0 := HQ.out.x.cell hc0 hbM
      have c1 := HQ.out.x.cell hc1 hbM
      have c2 := HQ.out.x.cell hc2 hbM
      have c3 := HQ.out.x.cell hc3 hbM
      dsimp only at c0 c1 c2 c3
      have hlenX := pick_le r (l.take k) 0
      have hlenY := pick_le (fun k => !r k) (l.take k) 0
      rw [List.length_take] at hlenX hlenY
      have hsz : (pick r 0 (l.take k)).length ≤ 1000000000 ∧ (pick (fun k => !r k) 0 (l.take k)).length ≤ 1000000000 := by omega
      have HX := Lib.hid (And.intro hx hsz)
      clear hc0 hc1 hc2 hc3 hx hlenX hlenY hsz hbM
      go_upto_region 4 with fail
      obtain ⟨V, hV⟩ : ∃ V, wr.alloc (.cells #[.int .i64 x, .int .i64 y, .int .i64 z, .int .i64 t] 30) = V := ⟨_, rfl⟩
      rw [hV]
      have hm : V.heap[wr.heap.size]? = some (.cells #[.int .i64 x, .int .i64 y, .int .i64 z, .int .i64 t] 30 (0, 0)) := by rw [← hV]; exact heap_alloc_new _ _
      have hSV := HQ.out.next HC.out.2.2.1 (V := V) (by rw [← hV]; exact (Below.refl _ _).alloc (Nat.le_refl _) _)
      obtain ⟨g0, hg0⟩ : ∃ g0, wr.heap.size = g0 := ⟨_, rfl⟩
      rw [hg0] at hm ⊢
      have hgw : w.heap.size ≤ g0 := by rw [← hg0]; exact HQ.out.x.size
      clear hV c0 c1 c2 c3 hg0
      have d0 := cell_of_row _ g0 0 _ _ _ hm
      have d1 := cell_of_row _ g0 1 _ _ _ hm
      have d2 := cell_of_row _ g0 2 _ _ _ hm
      have d3 := cell_of_row _ g0 3 _ _ _ hm
      have HV := Lib.hid (And.intro hSV (And.intro hm hgw)); clear hSV hm hgw HQ
      have CK1 := Lib.hid (HCL.out k _ V HX.out.1 HV.out.1.i)
      go_wp2_with fail
      refine CK1.out.mono ?_
      rintro e w1 ⟨rfl, hi1, hk1⟩
      have hm1 := (hk1.block g0 (Array.getElem?_eq_some_iff.1 HV.out.2.1).1 (fun e => by have := HC.out.2.2.2.1 g0 e.symm; have := HV.out.2.2; omega)).trans HV.out.2.1
      have HS1 := Lib.hid (HV.out.1.call HC.out.2.2.2.1 hi1 hk1)
      clear hi1 hk1 HV CK1 d0 d1 d2 d3
      have d0 := cell_of_row _ g0 0 _ _ _ hm1
      have d1 := cell_of_row _ g0 1 _ _ _ hm1
      have d2 := cell_of_row _ g0 2 _ _ _ hm1
      have d3 := cell_of_row _ g0 3 _ _ _ hm1
      clear hm1
      have hB := Lib.hid HS1.out.x.size
      have HSA := Lib.hid (HS1.out.next HC.out.2.2.1 ((Below.refl _ w1).alloc (Nat.le_refl _) (.cells #[.int .i64 x, .int .i64 y, .int .i64 z, .int .i64 t] 30)))
      cases hrk : r k with
      | true =>
        have EY := Lib.hid (pick_yes r l k _ HX.out.1 hrk)
        have EN := Lib.hid (pick_no (fun k => !r k) l k _ HX.out.1 (by rw [hrk]; rfl))
        obtain ⟨n9, hn9⟩ : ∃ n, (pick r 0 (l.take k)).length = n := ⟨_, rfl⟩
        have hA := Lib.hid (show n9 + 1 ≤ maxLen ∧ (n9 + 1) * 32 ≤ 140737488355328 from by have := HX.out.2.1; rw [hn9] at this; exact ⟨by unfold maxLen; omega, by omega⟩)
        have ho := HSA.out.of
        rw [hn9] at ho
        clear hrk
        go_wp2_with (at_builtin; refine wpList_append_lies _ rfl _ _ 44 rfl w.heap.size 30 i0 (.agg #[.int .i64 0, .int .i64 0, .int .i64 0, .int .i64 0]) 4 32 Tryz.underlying44 hi hz0 hz1 hz2 rfl (by decide) _ n9 (fl4 (pick r 0 (l.take k))) rfl ho ⟨w1.heap.size, 0, none⟩ 1 1 [.int .i64 x, .int .i64 y, .int .i64 z, .int .i64 t] rfl rfl (World.news_of_block (heap_alloc_new _ _)) (by simp [Value.oneCell']) Nat.zero_lt_one hA.out.1 hA.out.2 (by rw [World.size_alloc]; exact Nat.le_succ_of_le hB.out) _ rfl ?_; intro g9 c9 w9 hown9 hgrow9 hat9 hlt9)
        have K9 := Lib.hid (show SP w I M (.slice (some ⟨g9, 0, none⟩) (n9 + 1) c9) _ (pick r 0 (l.take (k+1))) (pick (fun k => !r k) 0 (l.take (k+1))) (k+1) w9 from by
          rw [EY.out, EN.out]
          have := HSA.out.appF HC.out.2.2.1 (x, y, z, t) (g := g9) (c := c9) rfl (by rw [hn9]; exact hown9) hgrow9 hat9
          rw [hn9] at this
          exact this)
        clear hown9 hgrow9 hat9 hlt9 ho HSA HS1 d0 d1 d2 d3
        try go_wp2
        exact ⟨⟨k + 1, _, _, by omega, rfl, rfl, by go_num, K9⟩, by simp; omega⟩
      | false =>
        have EY := Lib.hid (pick_no r l k _ HX.out.1 hrk)
        have EN := Lib.hid (pick_yes (fun k => !r k) l k _ HX.out.1 (by rw [hrk]; rfl))
        obtain ⟨n9, hn9⟩ : ∃ n, (pick (fun k => !r k) 0 (l.take k)).length = n := ⟨_, rfl⟩
        have hA := Lib.hid (show n9 + 1 ≤ maxLen ∧ (n9 + 1) * 32 ≤ 140737488355328 from by have := HX.out.2.2; rw [hn9] at this; exact ⟨by unfold maxLen; omega, by omega⟩)
        have ho := HSA.out.oo
        rw [hn9] at ho
        clear hrk
        go_wp2_with (at_builtin; refine wpList_append_lies _ rfl _ _ 44 rfl w.heap.size 30 i0 (.agg #[.int .i64 0, .int .i64 0, .int .i64 0, .int .i64 0]) 4 32 Tryz.underlying44 hi hz0 hz1 hz2 rfl (by decide) _ n9 (fl4 (pick (fun k => !r k) 0 (l.take k))) rfl ho ⟨w1.heap.size, 0, none⟩ 1 1 [.int .i64 x, .int .i64 y, .int .i64 z, .int .i64 t] rfl rfl (World.news_of_block (heap_alloc_new _ _)) (by simp [Value.oneCell']) Nat.zero_lt_one hA.out.1 hA.out.2 (by rw [World.size_alloc]; exact Nat.le_succ_of_le hB.out) _ rfl ?_; intro g9 c9 w9 hown9 hgrow9 hat9 hlt9)
        have K9 := Lib.hid (show SP w I M _ (.slice (some ⟨g9, 0, none⟩) (n9 + 1) c9) (pick r 0 (l.take (k+1))) (pick (fun k => !r k) 0 (l.take (k+1))) (k+1) w9 from by
          rw [EY.out, EN.out]
          have := HSA.out.appO HC.out.2.2.1 (x, y, z, t) (g := g9) (c := c9) rfl (by rw [hn9]; exact hown9) hgrow9 hat9
          rw [hn9] at this
          exact this)
        clear hown9 hgrow9 hat9 hlt9 ho HSA HS1 d0 d1 d2 d3
        try go_wp2
        exact ⟨⟨k + 1, _, _, by omega, rfl, rfl, by go_num, K9⟩, by simp; omega⟩
    · obtain rfl : k = N := by omega
      have hE : l.take k = l := List.take_of_length_le (by rw [HN.out]; exact Nat.le_refl _)
      rw [hE] at HQ
      go_wp2
      go_ret2
      exact ⟨_, _, rfl, by rw [HN.out]; exact HQ.out⟩
set_option maxRecDepth 100000 in
set_option maxHeartbeats 4000000 in
theorem sep_seen (w : World) (v : Value) (l : List Pa) (hV : PaL w v l) (gs : Nat) (I : Nat → World → Prop) (M : Option Nat) (r : Nat → Bool)
    (hI : ∀ k W V, I k W → Below w.heap.size W V → I k V) (hM : ∀ m, M = some m → m < w.heap.size) (hb : ∀ m, M = some m → w.cell? ⟨m, 0, none⟩ = none ∧ ∀ o, w.cell? ⟨m, o, none⟩ = none) (h0 : I 0 w)
    (CL : ∀ k s W, l[k]? = some s → I k W → Calls Tryz.prog 56 #[pav s, .pointer (some ⟨gs, 0, none⟩)] W fun e w' => e = .returned (.bool (r k)) ∧ I (k+1) w' ∧ KX M W w') :
    Calls Tryz.prog 55 #[v, .func (.func 56) #[] #[.pointer (some ⟨gs, 0, none⟩)]] w (SQ w I M l r) := by
  obtain ⟨i0, hi, hz0, hz1, hz2⟩ := info_parts infoP4
  obtain ⟨⟨p, c, rfl, hc⟩, hr, hln⟩ := hV
  have HC := Lib.hid (And.intro hc (And.intro hr (And.intro hI (And.intro hM hb)))); clear hc hr hI hb
  obtain ⟨N, hN⟩ : ∃ N, l.length = N := ⟨_, rfl⟩
  rw [hN] at hln ⊢
  have HN := Lib.hid hN; clear hN
  have HCL := Lib.hid CL; clear CL
  have H0 := Lib.hid h0; clear h0
  go_enter Tryz.func55, Tryz.ntmps55
  go_wp2_with fail
  go_loopw [4, 5, 10] (fun a b i wr => ∃ (k : Nat) (fv ov : Value), k ≤ N ∧ a = fv ∧ b = ov ∧ i = .int .i64 (k : Int) ∧ Hid (SP w I M fv ov (pick r 0 (l.take k)) (pick (fun k => !r k) 0 (l.take k)) k wr)) (fun _ _ i _ => N - (match i with | .int _ i => i.toNat | _ => 0))
  case atStart => exact ⟨0, _, _, Nat.zero_le _, rfl, rfl, rfl, Lib.hid ⟨H0.out, KX.below M (Below.refl _ _), World.ownsRow_nil _ _ _ _, World.ownsRow_nil _ _ _ _, fun g h => by cases h⟩⟩
  case round =>
    obtain ⟨k, fv, ov, hk, rfl, rfl, rfl, HQ⟩ := hrel
    by_cases hlt : k < N
    · obtain ⟨⟨x, y, z, t⟩, hx⟩ : ∃ s, l[k]? = some s := ⟨l[k]'(by rw [HN.out]; exact hlt), List.getElem?_eq_getElem _⟩
      obtain ⟨b, o, hp, hc0, hc1, hc2, hc3⟩ := HC.out.1 k _ hx
      subst hp
      have hbM : some b ≠ M := fun e => by
        have := (HC.out.2.2.2.2 b e.symm).2 (o + k * 4)
        rw [hc0] at this
        cases this
      have c0 := HQ.out.x.cell hc0 hbM
      have c1 := HQ.out.x.cell hc1 hbM
      have c2 := HQ.out.x.cell hc2 hbM
      have c3 := HQ.out.x.cell hc3 hbM
      dsimp only at c0 c1 c2 c3
      have hlenX := pick_le r (l.take k) 0
      have hlenY := pick_le (fun k => !r k) (l.take k) 0
      rw [List.length_take] at hlenX hlenY
      have hsz : (pick r 0 (l.take k)).length ≤ 1000000000 ∧ (pick (fun k => !r k) 0 (l.take k)).length ≤ 1000000000 := by omega
      have HX := Lib.hid (And.intro hx hsz)
      clear hc0 hc1 hc2 hc3 hx hlenX hlenY hsz hbM
      go_upto_region 4 with fail
      obtain ⟨V, hV⟩ : ∃ V, wr.alloc (.cells #[.int .i64 x, .int .i64 y, .int .i64 z, .int .i64 t] 30) = V := ⟨_, rfl⟩
      rw [hV]
      have hm : V.heap[wr.heap.size]? = some (.cells #[.int .i64 x, .int .i64 y, .int .i64 z, .int .i64 t] 30 (0, 0)) := by rw [← hV]; exact heap_alloc_new _ _
      have hSV := HQ.out.next HC.out.2.2.1 (V := V) (by rw [← hV]; exact (Below.refl _ _).alloc (Nat.le_refl _) _)
      obtain ⟨g0, hg0⟩ : ∃ g0, wr.heap.size = g0 := ⟨_, rfl⟩
      rw [hg0] at hm ⊢
      have hgw : w.heap.size ≤ g0 := by rw [← hg0]; exact HQ.out.x.size
      clear hV c0 c1 c2 c3 hg0
      have d0 := cell_of_row _ g0 0 _ _ _ hm
      have d1 := cell_of_row _ g0 1 _ _ _ hm
      have d2 := cell_of_row _ g0 2 _ _ _ hm
      have d3 := cell_of_row _ g0 3 _ _ _ hm
      have HV := Lib.hid (And.intro hSV (And.intro hm hgw)); clear hSV hm hgw HQ
      have CK1 := Lib.hid (HCL.out k _ V HX.out.1 HV.out.1.i)
      go_wp2_with fail
      refine CK1.out.mono ?_
      rintro e w1 ⟨rfl, hi1, hk1⟩
      have hm1 := (hk1.block g0 (Array.getElem?_eq_some_iff.1 HV.out.2.1).1 (fun e => by have := HC.out.2.2.2.1 g0 e.symm; have := HV.out.2.2; omega)).trans HV.out.2.1
      have HS1 := Lib.hid (HV.out.1.call HC.out.2.2.2.1 hi1 hk1)
      clear hi1 hk1 HV CK1 d0 d1 d2 d3
      have d0 := cell_of_row _ g0 0 _ _ _ hm1
      have d1 := cell_of_row _ g0 1 _ _ _ hm1
      have d2 := cell_of_row _ g0 2 _ _ _ hm1
      have d3 := cell_of_row _ g0 3 _ _ _ hm1
      clear hm1
      have hB := Lib.hid HS1.out.x.size
      have HSA := Lib.hid (HS1.out.next HC.out.2.2.1 ((Below.refl _ w1).alloc (Nat.le_refl _) (.cells #[.int .i64 x, .int .i64 y, .int .i64 z, .int .i64 t] 30)))
      cases hrk : r k with
      | true =>
        have EY := Lib.hid (pick_yes r l k _ HX.out.1 hrk)
        have EN := Lib.hid (pick_no (fun k => !r k) l k _ HX.out.1 (by rw [hrk]; rfl))
        obtain ⟨n9, hn9⟩ : ∃ n, (pick r 0 (l.take k)).length = n := ⟨_, rfl⟩
        have hA := Lib.hid (show n9 + 1 ≤ maxLen ∧ (n9 + 1) * 32 ≤ 140737488355328 from by have := HX.out.2.1; rw [hn9] at this; exact ⟨by unfold maxLen; omega, by omega⟩)
        have ho := HSA.out.of
        rw [hn9] at ho
        clear hrk
        go_wp2_with (at_builtin; refine wpList_append_lies _ rfl _ _ 44 rfl w.heap.size 30 i0 (.agg #[.int .i64 0, .int .i64 0, .int .i64 0, .int .i64 0]) 4 32 Tryz.underlying44 hi hz0 hz1 hz2 rfl (by decide) _ n9 (fl4 (pick r 0 (l.take k))) rfl ho ⟨w1.heap.size, 0, none⟩ 1 1 [.int .i64 x, .int .i64 y, .int .i64 z, .int .i64 t] rfl rfl (World.news_of_block (heap_alloc_new _ _)) (by simp [Value.oneCell']) Nat.zero_lt_one hA.out.1 hA.out.2 (by rw [World.size_alloc]; exact Nat.le_succ_of_le hB.out) _ rfl ?_; intro g9 c9 w9 hown9 hgrow9 hat9 hlt9)
        have K9 := Lib.hid (show SP w I M (.slice (some ⟨g9, 0, none⟩) (n9 + 1) c9) _ (pick r 0 (l.take (k+1))) (pick (fun k => !r k) 0 (l.take (k+1))) (k+1) w9 from by
          rw [EY.out, EN.out]
          have := HSA.out.appF HC.out.2.2.1 (x, y, z, t) (g := g9) (c := c9) rfl (by rw [hn9]; exact hown9) hgrow9 hat9
          rw [hn9] at this
          exact this)
        clear hown9 hgrow9 hat9 hlt9 ho HSA HS1 d0 d1 d2 d3
        try go_wp2
        exact ⟨⟨k + 1, _, _, by omega, rfl, rfl, by go_num, K9⟩, by simp; omega⟩
      | false =>
        have EY := Lib.hid (pick_no r l k _ HX.out.1 hrk)
        have EN := Lib.hid (pick_yes (fun k => !r k) l k _ HX.out.1 (by rw [hrk]; rfl))
        obtain ⟨n9, hn9⟩ : ∃ n, (pick (fun k => !r k) 0 (l.take k)).length = n := ⟨_, rfl⟩
        have hA := Lib.hid (show n9 + 1 ≤ maxLen ∧ (n9 + 1) * 32 ≤ 140737488355328 from by have := HX.out.2.2; rw [hn9] at this; exact ⟨by unfold maxLen; omega, by omega⟩)
        have ho := HSA.out.oo
        rw [hn9] at ho
        clear hrk
        go_wp2_with (at_builtin; refine wpList_append_lies _ rfl _ _ 44 rfl w.heap.size 30 i0 (.agg #[.int .i64 0, .int .i64 0, .int .i64 0, .int .i64 0]) 4 32 Tryz.underlying44 hi hz0 hz1 hz2 rfl (by decide) _ n9 (fl4 (pick (fun k => !r k) 0 (l.take k))) rfl ho ⟨w1.heap.size, 0, none⟩ 1 1 [.int .i64 x, .int .i64 y, .int .i64 z, .int .i64 t] rfl rfl (World.news_of_block (heap_alloc_new _ _)) (by simp [Value.oneCell']) Nat.zero_lt_one hA.out.1 hA.out.2 (by rw [World.size_alloc]; exact Nat.le_succ_of_le hB.out) _ rfl ?_; intro g9 c9 w9 hown9 hgrow9 hat9 hlt9)
        have K9 := Lib.hid (show SP w I M _ (.slice (some ⟨g9, 0, none⟩) (n9 + 1) c9) (pick r 0 (l.take (k+1))) (pick (fun k => !r k) 0 (l.take (k+1))) (k+1) w9 from by
          rw [EY.out, EN.out]
          have := HSA.out.appO HC.out.2.2.1 (x, y, z, t) (g := g9) (c := c9) rfl (by rw [hn9]; exact hown9) hgrow9 hat9
          rw [hn9] at this
          exact this)
        clear hown9 hgrow9 hat9 hlt9 ho HSA HS1 d0 d1 d2 d3
        try go_wp2
        exact ⟨⟨k + 1, _, _, by omega, rfl, rfl, by go_num, K9⟩, by simp; omega⟩
    · obtain rfl : k = N := by omega
      have hE : l.take k = l := List.take_of_length_le (by rw [HN.out]; exact Nat.le_refl _)
      rw [hE] at HQ
      go_wp2
      go_ret2
      exact ⟨_, _, rfl, by rw [HN.out]; exact HQ.out⟩
end Go.Proofs.YtbfplapjjeeceaaGreatDoor.B9
namespace Go.Proofs.YtbfplapjjeeceaaGreatDoor.B9
open Go.RowKit GM SH G4 E6 D7P Go.Maps
open W8 hiding i64 jn
set_option maxRecDepth 100000 in
theorem seen_any (w : World) (gs M n : Nat) (P : Int → Bool) (s : Pa) (hs : pi64 s) (hS : SetD w M n P) (hn : n < maxLen) (hc : w.cell? ⟨gs, 0, none⟩ = some (.map (some M))) :
    Calls Tryz.prog 56 #[pav s, .pointer (some ⟨gs, 0, none⟩)] w fun e w' => e = .returned (.bool (!P s.1)) ∧ SetD w' M (n+1) (fun z => P z || z == s.1) ∧ KX (some M) w w' := by
  obtain ⟨x, v, c, z⟩ := s
  have hx : i64 x := hs.1
  dsimp only
  obtain ⟨W, hW⟩ : ∃ W, w.alloc (.cells #[.int .i64 x, .int .i64 v, .int .i64 c, .int .i64 z] 30) = W := ⟨_, rfl⟩
  have hb : Below w.heap.size w W := by rw [← hW]; exact (Below.refl _ _).alloc (Nat.le_refl _) _
  have c0 : W.cell? ⟨w.heap.size, 0, none⟩ = some (.int .i64 x) := by rw [← hW, World.cell?_alloc_at _ _ _ _ rfl]; rfl
  have cg := (hb.cell (p := ⟨gs, 0, none⟩) (World.block_lt_of_cell? _ _ hc)).trans hc
  have hS1 := hS.next hb
  have hl := hS1.look x hx
  have HS := Lib.hid hS1
  have HB := Lib.hid hb
  clear hS hS1 hs hc hb
  go_enter Tryz.func56, Tryz.ntmps56
  go_upto_region 1 with fail
  clear hW
  go_wp2_with (first | (at_mapUpdate; refine wpList_set_add _ rfl _ _ _ rfl M n _ rfl HS.out hn x hx rfl rfl ?_; intro w1 hS1 hg1))
  have HK := Lib.hid (And.intro hS1 ((KX.below (some M) HB.out).trans (⟨hg1.os, hg1.tape, hg1.output, hg1.size, hg1.block⟩ : KX (some M) W w1)))
  clear hS1 hg1 c0 cg hl
  go_wp2
  go_ret
  exact ⟨rfl, HK.out.1, HK.out.2⟩
def fl2' : List (Int × Int) → List Value
  | [] => []
  | s :: l => [.int .i64 s.1, .int .i64 s.2] ++ fl2' l
theorem fl2_app (a b : List (Int × Int)) : fl2' (a ++ b) = fl2' a ++ fl2' b := by
  induction a with
  | nil => rfl
  | cons s l ih => show [Value.int .i64 s.1, .int .i64 s.2] ++ fl2' (l ++ b) = [Value.int .i64 s.1, .int .i64 s.2] ++ fl2' l ++ fl2' b; rw [ih, List.append_assoc]
theorem fl2_get' : ∀ (l : List (Int × Int)) (j : Nat) (s : Int × Int), l[j]? = some s → (fl2' l)[j * 2]? = some (.int .i64 s.1) ∧ (fl2' l)[j * 2 + 1]? = some (.int .i64 s.2)
  | [], _, _, h => by simp at h
  | t :: l, 0, s, h => by
    have : t = s := by simpa using h
    subst this
    exact ⟨rfl, rfl⟩
  | t :: l, j+1, s, h => by
    have ih := fl2_get' l j s (by simpa using h)
    have e : ∀ i, (fl2' (t :: l))[(j + 1) * 2 + i]? = (fl2' l)[j * 2 + i]? := fun i => by
      show ([Value.int .i64 t.1, .int .i64 t.2] ++ fl2' l)[(j + 1) * 2 + i]? = _
      rw [List.getElem?_append_right (by show 2 ≤ _; omega)]
      congr 1
      show _ - 2 = _
      omega
    exact ⟨(e 0).trans ih.1, (e 1).trans ih.2⟩
theorem own_ShL {w : World} {base : Nat} {v : Value} {l : List (Int × Int)} (h : w.ownsRow base 23 2 v l.length (fl2' l)) (hr : ∀ s ∈ l, i64 s.1 ∧ i64 s.2) (hn : l.length ≤ 1000000000) : ShL w v l := by
  refine ⟨?_, hr, hn⟩
  rcases h.2 with ⟨rfl, h0⟩ | ⟨g, cap, cur, rfl, h2, h3, h4, h5, h6, h7⟩
  · have : l = [] := List.length_eq_zero_iff.1 h0
    subst this
    exact ⟨none, 0, rfl, fun j y hj => by simp at hj⟩
  · have rd : ∀ i u, (fl2' l)[i]? = some u → w.cell? ⟨g, 0 + i, none⟩ = some u := fun i u hi => by
      rw [Nat.zero_add, cell_of_row w g i _ _ _ h3, ← Array.getElem?_toList]
      rw [← h7] at hi
      have hlt := (List.getElem?_eq_some_iff.1 hi).1
      rw [List.getElem?_take_of_lt (by rw [List.length_take] at hlt; omega)] at hi
      exact hi
    refine ⟨_, cap, rfl, fun j s hj => ?_⟩
    obtain ⟨k0, k1⟩ := fl2_get' l j s hj
    exact ⟨g, 0, rfl, rd _ _ k0, by rw [Nat.add_assoc]; exact rd _ _ k1⟩
theorem infoSh : (Tryz.prog.info? 23).map (fun i => (i.zero, i.size, i.bytes)) = some (some (.agg #[.int .i64 0, .int .i64 0]), 2, 16) := by kernel_rfl
theorem prs_take (l : List Pa) (k : Nat) (s : Pa) (h : l[k]? = some s) : fl2' (prs (l.take (k+1))) = fl2' (prs (l.take k)) ++ [.int .i64 s.1, .int .i64 s.2.1] := by
  unfold prs
  rw [List.take_add_one, h, List.map_append, fl2_app]; rfl
theorem prs_len (l : List Pa) : (prs l).length = l.length := by unfold prs; simp
set_option maxRecDepth 100000 in
set_option maxHeartbeats 4000000 in
theorem powers_any (w : World) (v : Value) (l : List Pa) (hV : PaL w v l) :
    Calls Tryz.prog 58 #[v] w fun e w' => (∃ sv, e = .returned sv ∧ ShL w' sv (prs l)) ∧ Below w.heap.size w w' := by
  obtain ⟨i0, hi, hz0, hz1, hz2⟩ := info_parts infoSh
  obtain ⟨⟨p, c, rfl, hc⟩, hr, hln⟩ := hV
  have HC := Lib.hid (And.intro hc hr); clear hc hr
  obtain ⟨N, hN⟩ : ∃ N, l.length = N := ⟨_, rfl⟩
  rw [hN] at hln ⊢
  have HN := Lib.hid hN; clear hN
  go_enter Tryz.func58, Tryz.ntmps58
  go_wp2_with fail
  go_loopw [3, 8] (fun a i wr => ∃ (k : Nat), k ≤ N ∧ i = .int .i64 (k : Int) ∧ Hid (wr.ownsRow w.heap.size 23 2 a k (fl2' (prs (l.take k))) ∧ Below w.heap.size w wr)) (fun _ i _ => N - (match i with | .int _ i => i.toNat | _ => 0))
  case atStart => exact ⟨0, Nat.zero_le _, rfl, Lib.hid ⟨World.ownsRow_nil _ _ _ _, Below.refl _ _⟩⟩
  case round =>
    obtain ⟨k, hk, rfl, HQ⟩ := hrel
    by_cases hlt : k < N
    · obtain ⟨⟨x, y, z, t⟩, hx⟩ : ∃ s, l[k]? = some s := ⟨l[k]'(by rw [HN.out]; exact hlt), List.getElem?_eq_getElem _⟩
      obtain ⟨b, o, hp, hc0, hc1, hc2, hc3⟩ := HC.out.1 k _ hx
      subst hp
      have c0 := (HQ.out.2.cell (p := ⟨b, o + k * 4, none⟩) (World.block_lt_of_cell? _ _ hc0)).trans hc0
      have c1 := (HQ.out.2.cell (p := ⟨b, o + k * 4 + 1, none⟩) (World.block_lt_of_cell? _ _ hc1)).trans hc1
      have c2 := (HQ.out.2.cell (p := ⟨b, o + k * 4 + 2, none⟩) (World.block_lt_of_cell? _ _ hc2)).trans hc2
      have c3 := (HQ.out.2.cell (p := ⟨b, o + k * 4 + 3, none⟩) (World.block_lt_of_cell? _ _ hc3)).trans hc3
      dsimp only at c0 c1 c2 c3
      have HX := Lib.hid (prs_take l k _ hx)
      clear hc0 hc1 hc2 hc3 hx
      have hA := Lib.hid (show k + 1 ≤ maxLen ∧ (k + 1) * 16 ≤ 140737488355328 from ⟨by unfold maxLen; omega, by omega⟩)
      go_upto_region 5 with fail
      obtain ⟨V, hV⟩ : ∃ V, wr.alloc (.cells #[.int .i64 x, .int .i64 y, .int .i64 z, .int .i64 t] 30) = V := ⟨_, rfl⟩
      rw [hV]
      have bV : Below wr.heap.size wr V := by rw [← hV]; exact (Below.refl wr.heap.size wr).alloc (Nat.le_refl _) _
      have d0 : V.cell? ⟨wr.heap.size, 0, none⟩ = some (.int .i64 x) := by rw [← hV, World.cell?_alloc_at _ _ _ _ rfl]; rfl
      have d1 : V.cell? ⟨wr.heap.size, 1, none⟩ = some (.int .i64 y) := by rw [← hV, World.cell?_alloc_at _ _ _ _ rfl]; rfl
      have HV := Lib.hid (And.intro (own_below' HQ.out.1 bV) (HQ.out.2.trans (bV.mono HQ.out.2.size)))
      clear hV c0 c1 c2 c3 HQ bV
      generalize wr.heap.size = g0 at *
      have ho := HV.out.1.alloc (.cells #[.int .i64 x, .int .i64 y] 23)
      go_wp2_with (at_builtin; refine wpList_append_lies _ rfl _ _ 49 rfl w.heap.size 23 i0 (.agg #[.int .i64 0, .int .i64 0]) 2 16 Tryz.underlying49 hi hz0 hz1 hz2 rfl (by decide) _ k (fl2' (prs (l.take k))) rfl ho ⟨V.heap.size, 0, none⟩ 1 1 [.int .i64 x, .int .i64 y] rfl rfl (World.news_of_block (heap_alloc_new _ _)) (by simp [Value.oneCell']) Nat.zero_lt_one hA.out.1 hA.out.2 (by rw [World.size_alloc]; exact Nat.le_succ_of_le HV.out.2.size) _ rfl ?_; intro g9 c9 w9 hown9 hgrow9 hat9 hlt9)
      have hb9 : Below w.heap.size w w9 := (HV.out.2.alloc HV.out.2.size (.cells #[.int .i64 x, .int .i64 y] 23)).grown hgrow9 (by rw [World.size_alloc]; exact Nat.le_succ_of_le HV.out.2.size) (fun r hr => (HV.out.1.lt r hr).1)
      have K9 := Lib.hid (show w9.ownsRow w.heap.size 23 2 (.slice (some ⟨g9, 0, none⟩) (k + 1) c9) (k + 1) (fl2' (prs (l.take (k+1)))) ∧ Below w.heap.size w w9 from ⟨by rw [HX.out]; exact hown9, hb9⟩)
      clear hown9 hgrow9 hat9 hlt9 ho hb9 d0 d1
      try go_wp2
      exact ⟨⟨k + 1, by omega, by go_num, K9⟩, by simp; omega⟩
    · obtain rfl : k = N := by omega
      have hE : l.take k = l := List.take_of_length_le (by rw [HN.out]; exact Nat.le_refl _)
      rw [hE] at HQ
      have HS := Lib.hid (own_ShL (l := prs l) (by rw [prs_len, HN.out]; exact HQ.out.1) (fun s hs => by
        obtain ⟨t, ht, rfl⟩ := List.mem_map.1 hs
        exact ⟨(HC.out.2 t ht).1, (HC.out.2 t ht).2.1⟩) (by rw [prs_len, HN.out]; exact hln))
      go_wp2
      go_ret
      exact ⟨⟨_, rfl, HS.out⟩, HQ.out.2⟩
theorem fst_take (l : List Pa) (k : Nat) (s : Pa) (h : l[k]? = some s) : ((l.take (k+1)).map Prod.fst).map (Value.int .i64) = ((l.take k).map Prod.fst).map (Value.int .i64) ++ [.int .i64 s.1] := by
  rw [List.take_add_one, h, List.map_append, List.map_append]; rfl
set_option maxRecDepth 100000 in
set_option maxHeartbeats 8000000 in
theorem Combine_core (w : World) (p q : Option Addr) (n k m e : Nat) (R N b val : Int) (ok short : Bool) (lv : Value) (A B U : List Pa) (hsh : short = decide (U.length < n)) (hBl : B.length ≤ 1000000000)
    (RI : Hid (∀ W, Below w.heap.size w W → Calls Tryz.prog 45 #[.agg #[.slice p n k, .slice q m e]] W fun e w' => e = .returned (.bool true) ∧ Below W.heap.size W w'))
    (VR : Hid (∀ W, Below w.heap.size w W → Calls Tryz.prog 46 #[.agg #[.slice p n k, .slice q m e], .int .i64 R] W fun e w' => (∃ gn gk gb, e = .returned (vfn gn gk gb) ∧ VC w' gn gk gb p n k N b) ∧ Below W.heap.size W w'))
    (S1 : Hid (∀ W gn gk gb, VC W gn gk gb p n k N b → Below w.heap.size w W → Calls Tryz.prog 55 #[lv, .func (.func 86) #[] #[.pointer (some ⟨gn, 0, none⟩), .pointer (some ⟨gk, 0, none⟩), .pointer (some ⟨gb, 0, none⟩)]] W fun e w' => (∃ fv ov, e = .returned (.tuple #[fv, ov]) ∧ PaL w' fv A ∧ PaL w' ov B) ∧ Below W.heap.size W w'))
    (S2 : Hid (∀ W v gs M, PaL W v A → SetD W M 0 (fun _ => false) → W.cell? ⟨gs, 0, none⟩ = some (.map (some M)) → (∀ o, W.cell? ⟨M, o, none⟩ = none) → Calls Tryz.prog 55 #[v, .func (.func 56) #[] #[.pointer (some ⟨gs, 0, none⟩)]] W fun e w' => (∃ fv ov, e = .returned (.tuple #[fv, ov]) ∧ PaL w' fv U) ∧ KX (some M) W w'))
    (PW : Hid (∀ W v, PaL W v U → Calls Tryz.prog 58 #[v] W fun e w' => (∃ sv, e = .returned sv ∧ ShL w' sv (prs U)) ∧ Below W.heap.size W w'))
    (LF : Hid (∀ W v, ShL W v (prs U) → Calls Tryz.prog 57 #[.int .i64 (n : Int), v] W fun e w' => e = .returned (.tuple #[.int .i64 val, .bool ok]) ∧ Below W.heap.size W w')) :
    Calls Tryz.prog 23 #[.agg #[.slice p n k, .slice q m e], .int .i64 R, lv] w fun e w' => (∃ bv, e = .returned (.tuple #[.int .i64 (if short then 0 else val), bv, .int .i64 (if short then 24 else 0)]) ∧ SLi w' bv (B.map Prod.fst)) ∧ Below w.heap.size w w' := by
  have hmm := @run_makeMap Tryz.prog
  obtain ⟨i0, hi, hz0, hz1, hz2⟩ := info_parts infoI
  obtain ⟨W, hW⟩ : ∃ W, w.alloc (.cells #[.slice p n k, .slice q m e] 41) = W := ⟨_, rfl⟩
  have K0 : CK w [(⟨w.heap.size, 0, none⟩, .slice p n k), (⟨w.heap.size, 1, none⟩, .slice q m e)] [] W := by
    have := (CK.start w).cells #[.slice p n k, .slice q m e] 41 _ rfl
    rw [hW] at this
    exact this.sub (by simp) (by simp)
  go_enter Tryz.func23, Tryz.ntmps23
  go_upto_region 1 with fail
  clear hW
  have c0 := K0.get ⟨w.heap.size, 0, none⟩ (.slice p n k) (by simp)
  have c1 := K0.get ⟨w.heap.size, 1, none⟩ (.slice q m e) (by simp)
  have HK := Lib.hid K0; clear K0
  go_wp2_with fail
  refine (RI.out _ HK.out.b).mono ?_
  rintro e w1 ⟨rfl, b1⟩
  have HK1 := Lib.hid (HK.out.next b1); clear b1 HK c0 c1
  have c0 := HK1.out.get ⟨w.heap.size, 0, none⟩ (.slice p n k) (by simp)
  have c1 := HK1.out.get ⟨w.heap.size, 1, none⟩ (.slice q m e) (by simp)
  go_wp2_with fail
  refine (VR.out _ HK1.out.b).mono ?_
  rintro e w2 ⟨⟨gn, gk, gb, rfl, hv⟩, b2⟩
  have HK2 := Lib.hid (HK1.out.next b2)
  have HV := Lib.hid hv
  clear b2 HK1 c0 c1 hv
  go_wp2_with fail
  refine (S1.out _ gn gk gb HV.out HK2.out.b).mono ?_
  rintro e w3 ⟨⟨fv, ov, rfl, hA, hB⟩, b3⟩
  have HK3 := Lib.hid (HK2.out.next b3)
  obtain ⟨⟨pb, cb, rfl, hcb⟩, hrb, _⟩ := hB
  obtain ⟨NB, hNB⟩ : ∃ N, B.length = N := ⟨_, rfl⟩
  rw [hNB] at hBl ⊢
  have HB := Lib.hid (And.intro hcb (And.intro hrb hNB))
  have HA := Lib.hid hA
  clear b3 HK2 HV hA hcb hrb hNB
  obtain ⟨V3, hV3⟩ : ∃ V, V = w3 := ⟨_, rfl⟩
  go_wp2_with fail
  go_loopw [7, 29] (fun a i wr => ∃ (j : Nat), j ≤ NB ∧ i = .int .i64 (j : Int) ∧ Hid (wr.ownsRow V3.heap.size 3 1 a j (((B.take j).map Prod.fst).map (Value.int .i64)) ∧ Below V3.heap.size V3 wr)) (fun _ i _ => NB - (match i with | .int _ i => i.toNat | _ => 0))
  case atStart => exact ⟨0, Nat.zero_le _, rfl, Lib.hid ⟨World.ownsRow_nil _ _ _ _, by rw [hV3]; exact Below.refl _ _⟩⟩
  case round =>
    subst hV3
    obtain ⟨j, hj, rfl, HQ⟩ := hrel
    by_cases hlt : j < NB
    · obtain ⟨⟨x, y, z, t⟩, hx⟩ : ∃ s, B[j]? = some s := ⟨B[j]'(by rw [HB.out.2.2]; exact hlt), List.getElem?_eq_getElem _⟩
      obtain ⟨bb, o, hp, hc0, hc1, hc2, hc3⟩ := HB.out.1 j _ hx
      subst hp
      have c0 := (HQ.out.2.cell (p := ⟨bb, o + j * 4, none⟩) (World.block_lt_of_cell? _ _ hc0)).trans hc0
      have c1 := (HQ.out.2.cell (p := ⟨bb, o + j * 4 + 1, none⟩) (World.block_lt_of_cell? _ _ hc1)).trans hc1
      have c2 := (HQ.out.2.cell (p := ⟨bb, o + j * 4 + 2, none⟩) (World.block_lt_of_cell? _ _ hc2)).trans hc2
      have c3 := (HQ.out.2.cell (p := ⟨bb, o + j * 4 + 3, none⟩) (World.block_lt_of_cell? _ _ hc3)).trans hc3
      dsimp only at c0 c1 c2 c3
      have HX := Lib.hid (fst_take B j _ hx)
      clear hc0 hc1 hc2 hc3 hx
      have hA1 := Lib.hid (show j + 1 ≤ maxLen ∧ (j + 1) * 8 ≤ 140737488355328 from ⟨by unfold maxLen; omega, by omega⟩)
      go_upto_region 7 with fail
      obtain ⟨V, hV⟩ : ∃ V, wr.alloc (.cells #[.int .i64 x, .int .i64 y, .int .i64 z, .int .i64 t] 30) = V := ⟨_, rfl⟩
      rw [hV]
      have bV : Below wr.heap.size wr V := by rw [← hV]; exact (Below.refl wr.heap.size wr).alloc (Nat.le_refl _) _
      have d0 : V.cell? ⟨wr.heap.size, 0, none⟩ = some (.int .i64 x) := by rw [← hV, World.cell?_alloc_at _ _ _ _ rfl]; rfl
      have HV2 := Lib.hid (And.intro (own_below' HQ.out.1 bV) (HQ.out.2.trans (bV.mono HQ.out.2.size)))
      clear hV c0 c1 c2 c3 HQ bV
      generalize wr.heap.size = g0 at *
      have ho := HV2.out.1.alloc (.cells #[.int .i64 x] 3)
      go_wp2_with (at_builtin; refine wpList_append_lies _ rfl _ _ 34 rfl V3.heap.size 3 i0 (.int .i64 0) 1 8 Tryz.underlying34 hi hz0 hz1 hz2 rfl (by decide) _ j (((B.take j).map Prod.fst).map (Value.int .i64)) rfl ho ⟨V.heap.size, 0, none⟩ 1 1 [.int .i64 x] rfl rfl (World.news_of_block (heap_alloc_new _ _)) (by simp [Value.oneCell']) Nat.zero_lt_one hA1.out.1 hA1.out.2 (by rw [World.size_alloc]; exact Nat.le_succ_of_le HV2.out.2.size) _ rfl ?_; intro g9 c9 w9 hown9 hgrow9 hat9 hlt9)
      have hb9 : Below V3.heap.size V3 w9 := (HV2.out.2.alloc HV2.out.2.size (.cells #[.int .i64 x] 3)).grown hgrow9 (by rw [World.size_alloc]; exact Nat.le_succ_of_le HV2.out.2.size) (fun r hr => (HV2.out.1.lt r hr).1)
      have K9 := Lib.hid (show w9.ownsRow V3.heap.size 3 1 (.slice (some ⟨g9, 0, none⟩) (j + 1) c9) (j + 1) (((B.take (j+1)).map Prod.fst).map (Value.int .i64)) ∧ Below V3.heap.size V3 w9 from ⟨by rw [HX.out]; exact hown9, hb9⟩)
      clear hown9 hgrow9 hat9 hlt9 ho hb9 d0
      try go_wp2
      exact ⟨⟨j + 1, by omega, by go_num, K9⟩, by simp; omega⟩
    · obtain rfl : j = NB := by omega
      have hE : B.take j = B := List.take_of_length_le (by rw [HB.out.2.2]; exact Nat.le_refl _)
      rw [hE] at HQ
      have HKr := Lib.hid (HK3.out.next HQ.out.2)
      have HAr := Lib.hid (HA.out.next HQ.out.2)
      have HBr := Lib.hid HQ.out.1
      clear HQ hE HK3 HA
      go_upto_region 10 with fail
      obtain ⟨W5, hW5⟩ : ∃ V, (wr.alloc (.map #[] 0)).alloc (.cells #[.map (some wr.heap.size)] 92) = V := ⟨_, rfl⟩
      rw [hW5]
      have bA : Below wr.heap.size wr (wr.alloc (.map #[] 0)) := (Below.refl _ _).alloc (Nat.le_refl _) _
      have bB : Below (wr.alloc (.map #[] 0)).heap.size (wr.alloc (.map #[] 0)) W5 := by rw [← hW5]; exact (Below.refl _ _).alloc (Nat.le_refl _) _
      have b5 : Below wr.heap.size wr W5 := bA.trans (bB.mono bA.size)
      have hS5 := (SetD.made wr).next bB
      have hcg : W5.cell? ⟨wr.heap.size + 1, 0, none⟩ = some (.map (some wr.heap.size)) := by rw [← hW5, World.cell?_alloc_at _ _ _ _ (by simp)]; rfl
      have hcm : ∀ o, W5.cell? ⟨wr.heap.size, o, none⟩ = none := fun o => by
        rw [bB.cell (p := ⟨wr.heap.size, o, none⟩) (by simp)]
        have hn := heap_alloc_new wr (.map #[] 0)
        simp only [World.cell?, hn]
      have hne : ∀ g, u7.ownBlock = some g → some g ≠ some wr.heap.size := fun g hg e => by
        have := (HBr.out.lt g hg).2
        injection e with e
        omega
      have HK5 := Lib.hid (HKr.out.next b5)
      have HA5 := Lib.hid (HAr.out.next b5)
      have HB5 := Lib.hid (own_below' HBr.out b5)
      have hwr : w.heap.size < wr.heap.size := World.block_lt_of_cell? _ _ (HKr.out.get ⟨w.heap.size, 0, none⟩ (.slice p n k) (by simp))
      have H5 := Lib.hid (And.intro hS5 (And.intro hcg (And.intro hcm (And.intro hne (And.intro hwr b5.size)))))
      clear hS5 hcg hcm hne hwr b5 bA bB hW5 HKr HAr HBr
      generalize wr.heap.size = M at *
      go_wp2_with fail
      refine (S2.out W5 fv (M + 1) M HA5.out H5.out.1 H5.out.2.1 H5.out.2.2.1).mono ?_
      rintro e w6 ⟨⟨cv, dv, rfl, hU⟩, k6⟩
      have HK6 : Hid (CK w [(⟨w.heap.size, 0, none⟩, .slice p n k), (⟨w.heap.size, 1, none⟩, .slice q m e)] [] w6) := Lib.hid ⟨KX.over k6 HK5.out.b HK5.out.b.size (Nat.le_of_lt H5.out.2.2.2.2.1), fun x hx => by
        have hc := HK5.out.c x hx
        obtain ⟨⟨xb, xo, xs⟩, xv⟩ := x
        simp only [List.mem_cons, List.not_mem_nil, or_false, Prod.mk.injEq, Addr.mk.injEq] at hx
        have hxs : xs = none := by rcases hx with h | h <;> exact h.1.2.2
        have hxb : xb = w.heap.size := by rcases hx with h | h <;> exact h.1.1
        subst hxs hxb
        exact k6.cell hc (by intro e; injection e with e; have := H5.out.2.2.2.2.1; omega), fun x hx => by cases hx⟩
      have HB6 := Lib.hid (own_kx HB5.out k6 H5.out.2.2.2.1)
      clear k6 HK5 HA5 HB5
      have hUl := hU.h
      obtain ⟨pu, cu, rfl, _⟩ := hUl
      have HU := Lib.hid hU
      have c0 := HK6.out.get ⟨w.heap.size, 0, none⟩ (.slice p n k) (by simp)
      obtain ⟨NU, hNU⟩ : ∃ N, U.length = N := ⟨_, rfl⟩
      rw [hNU] at hsh ⊢
      have HNU := Lib.hid hNU
      clear hU hNU
      have HBl := Lib.hid hBl
      have HBs : Hid (∀ V, V.ownsRow V3.heap.size 3 1 u7 j ((B.map Prod.fst).map (Value.int .i64)) → SLi V u7 (B.map Prod.fst)) := Lib.hid fun V hV => own_SLi (l := B.map Prod.fst) (by rw [List.length_map, HB.out.2.2]; exact hV) (fun y hy => by
        obtain ⟨t, ht, rfl⟩ := List.mem_map.1 hy
        exact (HB.out.2.1 t ht).1) (by rw [List.length_map, HB.out.2.2]; exact HBl.out)
      by_cases hs : NU < n
      · obtain rfl : short = true := by rw [hsh]; exact decide_eq_true hs
        clear hsh
        go_wp2
        go_ret3
        exact ⟨⟨_, rfl, HBs.out _ HB6.out⟩, HK6.out.b⟩
      · obtain rfl : short = false := by rw [hsh]; exact decide_eq_false hs
        clear hsh
        go_upto_region 13 with fail
        have HB1 := Lib.hid (own_below' HB6.out ((Below.refl _ w6).drew))
        have HPU : Hid (PaL w6.drew (.slice pu NU cu) U) := Lib.hid (by have := HU.out.next ((Below.refl _ w6).drew); rw [HNU.out] at this; exact this)
        refine wp_region_held_drew (S := CK w [(⟨w.heap.size, 0, none⟩, .slice p n k), (⟨w.heap.size, 1, none⟩, .slice q m e)] []) (by kernel_rfl) HK6.out.drew (fun hS => ?_)
        refine wpAnyH_take (i := 0) (v := ?vcz0) rfl (by kernel_rfl) (by kernel_rfl) (by kernel_rfl) (fun _ _ _ h => h) (Or.inl ⟨by rfl, ?ycz0⟩) hS ?rcz0
        case ycz0 => (intro w hS; go_simp; try with_reducible rfl)
        refine wpAnyH_take (i := 3) (v := ?vcz3) rfl (by kernel_rfl) (by kernel_rfl) (by kernel_rfl) (fun _ _ _ h => h) (Or.inl ⟨by rfl, ?ycz3⟩) hS ?rcz3
        case ycz3 => (intro w hS; go_simp; try with_reducible rfl)
        go_simp
        refine wpAnyH_take (i := 1) (v := .slice p n k) rfl (by kernel_rfl) (by kernel_rfl) (by kernel_rfl) (fun _ _ _ h => h) (Or.inl ⟨by rfl, ?ycz1⟩) hS ?rcz1
        case ycz1 => (intro w' hS; have cf := hS.get ⟨w.heap.size, 0, none⟩ (.slice p n k) (by simp); go_simp; try with_reducible rfl)
        go_simp
        refine wpAnyH_take (i := 2) (v := ?vcz2) rfl (by kernel_rfl) (by kernel_rfl) (by kernel_rfl) (fun _ _ _ h => h) (Or.inl ⟨by rfl, ?ycz2⟩) hS ?rcz2
        case ycz2 => (intro w hS; go_simp; try with_reducible rfl)
        go_simp
        refine wpAnyH_ready (rs := [4]) (by kernel_rfl) (by simp) ?_
        refine AllReadyH.cons (o := { dst := some 58, op := .call { callee := .value (.func 58), args := #[.tmp 57], argTypes := #[44] }, type := 49, pos := "combine.go:27", after := #[⟨3, .data⟩], guard := none }) rfl (fun K hK => ?_) AllReadyH.nil
        go_simp
        go_at_call 58
        refine (PW.out _ _ HPU.out).mono ?_
        rintro e w' ⟨⟨sv, rfl, hsv⟩, b⟩
        have HB2 := Lib.hid (own_below' HB1.out b)
        have HSV := Lib.hid hsv
        clear hsv
        have hS2 := hS.next b
        clear b hS
        try go_simp
        refine hK.out _ _ hS2 (fun hS => ?_)
        clear hK K hS2
        refine wpAnyH_ready (rs := [5]) (by kernel_rfl) (by simp) ?_
        refine AllReadyH.cons (o := { dst := some 59, op := .call { callee := .value (.func 57), args := #[.tmp 56, .tmp 58], argTypes := #[3, 49] }, type := 93, pos := "combine.go:27", after := #[⟨2, .data⟩, ⟨4, .data⟩, ⟨4, .chain⟩], guard := none }) rfl (fun K hK => ?_) AllReadyH.nil
        go_simp
        go_at_call 57
        refine (LF.out _ _ HSV.out).mono ?_
        rintro e w' ⟨rfl, b⟩
        have HB3 := Lib.hid (own_below' HB2.out b)
        have hS2 := hS.next b
        clear b hS
        try go_simp
        refine hK.out _ _ hS2 (fun hS => ?_)
        clear hK K hS2
        refine wpAnyH_take (i := 6) (v := ?vcz6) rfl (by kernel_rfl) (by kernel_rfl) (by kernel_rfl) (fun _ _ _ h => h) (Or.inl ⟨by rfl, ?ycz6⟩) hS ?rcz6
        case ycz6 => (intro w hS; go_simp; try with_reducible rfl)
        go_simp
        refine wpAnyH_take (i := 7) (v := ?vcz7) rfl (by kernel_rfl) (by kernel_rfl) (by kernel_rfl) (fun _ _ _ h => h) (Or.inl ⟨by rfl, ?ycz7⟩) hS ?rcz7
        case ycz7 => (intro w hS; go_simp; try with_reducible rfl)
        refine wpAnyH_take (i := 8) (v := ?vcz8) rfl (by kernel_rfl) (by kernel_rfl) (by kernel_rfl) (fun _ _ _ h => h) (Or.inl ⟨by rfl, ?ycz8⟩) hS ?rcz8
        case ycz8 => (intro w hS; go_simp; try with_reducible rfl)
        go_simp
        refine wpAnyH_take (i := 9) (v := ?vcz9) rfl (by kernel_rfl) (by kernel_rfl) (by kernel_rfl) (fun _ _ _ h => h) (Or.inl ⟨by rfl, ?ycz9⟩) hS ?rcz9
        case ycz9 => (intro w hS; go_simp; try with_reducible rfl)
        refine wpAnyH_done (by kernel_rfl) ?_ _
        have HZ := Lib.hid hS.b
        clear hS
        go_wp2
        go_ret3
        exact ⟨⟨_, rfl, HBs.out _ HB3.out⟩, HZ.out⟩
end Go.Proofs.YtbfplapjjeeceaaGreatDoor.B9
namespace Go.Proofs.YtbfplapjjeeceaaGreatDoor.B9
open Go.RowKit GM SH G4 E6 D7P Go.Maps
open W8 hiding i64 jn
theorem pick_not {α : Type} (f : α → Bool) (l0 : List α) : ∀ (l : List α) (k : Nat), l0.drop k = l → pick (fun k => !at_ f l0 k) k l = l.filter (fun s => !f s)
  | [], _, _ => rfl
  | a :: l, k, h => by
    have hk : l0[k]? = some a := by have := congrArg (fun m => m[0]?) h; simpa using this
    have h2 : l0.drop (k+1) = l := by have := congrArg (List.drop 1) h; simpa [List.drop_drop, Nat.add_comm] using this
    have e : at_ f l0 k = f a := by unfold at_; rw [hk]
    rw [pick, pick_not f l0 l (k+1) h2, e, List.filter_cons]
theorem SetD.at_block {w w' : World} {b n : Nat} {p : Int → Bool} (h : SetD w b n p) (k : w'.heap[b]? = w.heap[b]?) : SetD w' b n p := by
  obtain ⟨D, ⟨es, clock, hb, h1⟩, h2, h3⟩ := h
  exact ⟨D, ⟨es, clock, k.trans hb, h1⟩, h2, h3⟩
theorem sep_one (W : World) (v : Value) (l : List Pa) (hV : PaL W v l) (gn gk gb : Nat) (p : Option Addr) (n k : Nat) (N R : Int) (C : List Int) (hv : VC W gn gk gb p n k N (bs R)) (hC : SLi W (.slice p n k) C) (hT : TS W) :
    Calls Tryz.prog 55 #[v, .func (.func 86) #[] #[.pointer (some ⟨gn, 0, none⟩), .pointer (some ⟨gk, 0, none⟩), .pointer (some ⟨gb, 0, none⟩)]] W fun e w' => (∃ fv ov, e = .returned (.tuple #[fv, ov]) ∧ PaL w' fv (l.filter (acc C N R)) ∧ PaL w' ov (l.filter (fun s => !acc C N R s))) ∧ Below W.heap.size W w' := by
  have h := sep_vfn W v l hV gn gk gb (fun _ V => Below W.heap.size W V) none (at_ (acc C N R) l) (fun _ _ _ h k => h.trans k) (fun m h => by cases h) (fun m h => by cases h) (Below.refl _ _)
    (fun j s V hs hI => (vfn_any V gn gk gb p n k N R C s (at_ (acc C N R) l j) (by unfold at_; rw [hs]) (hv.next hI) (hC.next hI) (hT.below hI) (hV.r s (List.mem_of_getElem? hs))).mono fun e w' ⟨h1, h2⟩ => ⟨h1, hI.trans (h2.mono hI.size), KX.below none h2⟩)
  refine h.mono ?_
  rintro e w' ⟨fv, ov, rfl, hS⟩
  rw [pick_all, pick_not _ l l 0 rfl] at hS
  have hl := hV.n
  refine ⟨⟨fv, ov, rfl, own_PaL hS.of (fun s hs => hV.r s (List.mem_filter.1 hs).1) ?_, own_PaL hS.oo (fun s hs => hV.r s (List.mem_filter.1 hs).1) ?_⟩, hS.i⟩
  · exact Nat.le_trans (List.length_filter_le _ _) hl
  · exact Nat.le_trans (List.length_filter_le _ _) hl
theorem sep_two (W : World) (v : Value) (A : List Pa) (hV : PaL W v A) (gs M : Nat) (hS : SetD W M 0 (fun _ => false)) (hc : W.cell? ⟨gs, 0, none⟩ = some (.map (some M))) (hm : ∀ o, W.cell? ⟨M, o, none⟩ = none) :
    Calls Tryz.prog 55 #[v, .func (.func 56) #[] #[.pointer (some ⟨gs, 0, none⟩)]] W fun e w' => (∃ fv ov, e = .returned (.tuple #[fv, ov]) ∧ PaL w' fv (und A)) ∧ KX (some M) W w' := by
  have hgM : gs ≠ M := fun e => by rw [e, hm 0] at hc; cases hc
  have hlt := hS.lt
  have hgl := World.block_lt_of_cell? _ _ hc
  have h := sep_seen W v A hV gs (fun k V => SetD V M k (fun x => ((A.take k).map Prod.fst).contains x) ∧ V.cell? ⟨gs, 0, none⟩ = some (.map (some M))) (some M) (frs A)
    (fun k V V' h b => ⟨SetD.at_block h.1 (b.block M hlt), (b.cell (p := ⟨gs, 0, none⟩) hgl).trans h.2⟩) (fun m h => by cases h; exact hlt) (fun m h => by cases h; exact ⟨hm 0, hm⟩) ⟨hS.congr (fun x => by simp), hc⟩
    (fun j s V hs hI => by
      have hj := (List.getElem?_eq_some_iff.1 hs).1
      have hn := hV.n
      refine (seen_any V gs M j _ s (hV.r s (List.mem_of_getElem? hs)) hI.1 (by unfold maxLen; omega) hI.2).mono fun e w' h => ⟨?_, ⟨h.2.1.congr fun x => ?_, ?_⟩, h.2.2⟩
      · rw [h.1]; unfold frs; rw [hs]
      · rw [List.take_add_one, hs, List.map_append, List.contains_append]
        congr 1
        show (x == s.1) = [s.1].contains x
        simp
        by_cases e : x = s.1 <;> simp [e]
      · exact h.2.2.cell hI.2 (by intro e; injection e with e; exact hgM e))
  refine h.mono ?_
  rintro e w' ⟨fv, ov, rfl, hS2⟩
  exact ⟨⟨fv, ov, rfl, own_PaL hS2.of (fun s hs => hV.r s (und_mem A s hs)) (Nat.le_trans (und_le A) hV.n)⟩, hS2.x⟩
/-- what counts, what is bad -/
def cG (C : List Int) (N R : Int) (l : List Pa) : List Pa := und (l.filter (acc C N R))
def cR (C : List Int) (N R : Int) (l : List Pa) : List Int := (l.filter (fun s => !acc C N R s)).map Prod.fst
/-- what Combine gives -/
def CoQ (w : World) (C : List Int) (L : List (List Int)) (R : Int) (l : List Pa) (e : Ending) (w' : World) : Prop :=
  Below w.heap.size w w' ∧ ((¬ rgt C L ∧ e = .returned (.tuple #[.int .i64 0, .slice none 0 0, .int .i64 1])) ∨
    (rgt C L ∧ ∃ bv, SLi w' bv (cR C (many L : Nat) R l) ∧ (((cG C (many L : Nat) R l).length < C.length ∧ e = .returned (.tuple #[.int .i64 0, bv, .int .i64 24])) ∨
      (¬ (cG C (many L : Nat) R l).length < C.length ∧ e = .returned (.tuple #[.int .i64 (lf (C.length : Int) (prs (cG C (many L : Nat) R l))), bv, .int .i64 0])))))
set_option maxRecDepth 100000 in
theorem Combine_no (w : World) (p q : Option Addr) (n k m e : Nat) (R : Int) (lv : Value)
    (RI : Hid (∀ W, Below w.heap.size w W → Calls Tryz.prog 45 #[.agg #[.slice p n k, .slice q m e]] W fun e w' => e = .returned (.bool false) ∧ Below W.heap.size W w')) :
    Calls Tryz.prog 23 #[.agg #[.slice p n k, .slice q m e], .int .i64 R, lv] w fun e w' => e = .returned (.tuple #[.int .i64 0, .slice none 0 0, .int .i64 1]) ∧ Below w.heap.size w w' := by
  obtain ⟨W, hW⟩ : ∃ W, w.alloc (.cells #[.slice p n k, .slice q m e] 41) = W := ⟨_, rfl⟩
  have K0 : CK w [(⟨w.heap.size, 0, none⟩, .slice p n k), (⟨w.heap.size, 1, none⟩, .slice q m e)] [] W := by
    have := (CK.start w).cells #[.slice p n k, .slice q m e] 41 _ rfl
    rw [hW] at this
    exact this.sub (by simp) (by simp)
  go_enter Tryz.func23, Tryz.ntmps23
  go_upto_region 1 with fail
  clear hW
  have c0 := K0.get ⟨w.heap.size, 0, none⟩ (.slice p n k) (by simp)
  have c1 := K0.get ⟨w.heap.size, 1, none⟩ (.slice q m e) (by simp)
  have HK := Lib.hid K0; clear K0
  go_wp2_with fail
  refine (RI.out _ HK.out.b).mono ?_
  rintro e w1 ⟨rfl, b1⟩
  have HK1 := Lib.hid (HK.out.b.trans (b1.mono HK.out.b.size)); clear b1 HK c0 c1
  go_wp2
  go_ret3
  exact ⟨rfl, HK1.out⟩
theorem Combine_any (w : World) (p q : Option Addr) (n k m e : Nat) (R : Int) (C : List Int) (L : List (List Int)) (h : KY w p q n k m e C L) (hR : i64 R) (lv : Value) (l : List Pa) (hV : PaL w lv l) (hT : TS w) :
    Calls Tryz.prog 23 #[.agg #[.slice p n k, .slice q m e], .int .i64 R, lv] w (CoQ w C L R l) := by
  by_cases hg : rgt C L
  · obtain ⟨A, hA⟩ : ∃ A, l.filter (acc C (many L : Nat) R) = A := ⟨_, rfl⟩
    obtain ⟨B, hB⟩ : ∃ B, l.filter (fun s => !acc C (many L : Nat) R s) = B := ⟨_, rfl⟩
    have hn : n = C.length := by obtain ⟨_, _, x1, _⟩ := h.c.h; injection x1
    have hn9 : n ≤ 1000000000 := by rw [hn]; exact h.c.n
    have key := Combine_core w p q n k m e R (many L : Nat) (bs R) (lf (n : Int) (prs (und A))) (enough mem (n : Int) (prs (und A))) (decide ((und A).length < n)) lv A B (und A) rfl (by rw [← hB]; exact Nat.le_trans (List.length_filter_le _ _) hV.n)
      (Lib.hid fun W b => Right_t W p q n k m e C L (h.next b) true ⟨fun _ => rfl, fun _ => hg⟩) (Lib.hid fun W b => verifier_any W p q n k m e R C L (h.next b) hR hg (hT.below b))
      (Lib.hid fun W gn gk gb hv b => by have := sep_one W lv l (hV.next b) gn gk gb p n k (many L : Nat) R C hv (h.c.next b) (hT.below b); rw [hA, hB] at this; exact this)
      (Lib.hid fun W v gs M hv hS hc hm => sep_two W v A hv gs M hS hc hm) (Lib.hid fun W v hv => powers_any W v (und A) hv)
      (Lib.hid fun W v hv => Lift_any W (n : Int) v (prs (und A)) hv ⟨by omega, by omega⟩ _ _ rfl rfl)
    refine key.mono ?_
    rintro e w' ⟨⟨bv, he, hb⟩, b⟩
    refine ⟨b, .inr ⟨hg, bv, ?_, ?_⟩⟩
    · unfold cR; rw [hB]; exact hb
    · unfold cG
      rw [hA, ← hn]
      by_cases hs : (und A).length < n
      · rw [decide_eq_true hs] at he
        exact .inl ⟨hs, he⟩
      · rw [decide_eq_false hs] at he
        exact .inr ⟨hs, he⟩
  · refine (Combine_no w p q n k m e R lv (Lib.hid fun W b => Right_t W p q n k m e C L (h.next b) false ⟨fun x => absurd x hg, fun x => (by cases x)⟩)).mono ?_
    rintro e w' ⟨he, b⟩
    exact ⟨b, .inl ⟨hg, he⟩⟩
end Go.Proofs.YtbfplapjjeeceaaGreatDoor.B9
