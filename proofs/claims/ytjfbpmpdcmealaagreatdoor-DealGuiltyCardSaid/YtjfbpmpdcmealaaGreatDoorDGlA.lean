/-
  A box in which a byte was changed doesn't open.
  What the walk of the law DealGuilty keeps.
-/
import Derived.Test.YtjfbpmpdcmealaaGreatDoorDMath
import Derived.Test.YtjfbpmpdcmealaaGreatDoorDHonB
import Derived.Test.YtjfbpmpdcmealaaGreatDoorDDlB
namespace Go.Proofs.YtjfbpmpdcmealaaGreatDoor.D7
open Go.RowKit GM SH G4 E6 D7P
theorem xor_ne (b x : UInt8) (h : x ≠ 0) : (b ^^^ x) ≠ b := fun e => h (by
  have h1 := xx b x
  rw [e, UInt8.xor_self] at h1
  exact h1.symm)
theorem set_same {l m : List UInt8} (n : Nat) (h : l = m) : l.take n = m.take n := by rw [h]
/-- the bytes behind the eighth -/
theorem fit_flip (y : Int) (p : List UInt8) (h : p.length = 16) (a : Nat) (x : UInt8) (ha : 8 ≤ a) (ha2 : a < 16) (hx : x ≠ 0) : fit ((bx y p).set a ((bx y p)[a]?.getD 0 ^^^ x)) p = false := by
  match p, h with
  | [a0, a1, a2, a3, a4, a5, a6, a7, a8, a9, a10, a11, a12, a13, a14, a15], _ =>
    unfold fit
    have hc : a = 8 ∨ a = 9 ∨ a = 10 ∨ a = 11 ∨ a = 12 ∨ a = 13 ∨ a = 14 ∨ a = 15 := by omega
    rcases hc with rfl | rfl | rfl | rfl | rfl | rfl | rfl | rfl <;> simp [bx, y8, xor_ne _ x hx]
theorem num_flip (y : Int) (a : Nat) (x : UInt8) (ha : a < 8) (hx : x ≠ 0) : num ((y8 y).set a ((y8 y)[a]?.getD 0 ^^^ x)) 8 ≠ num (y8 y) 8 := by
  unfold y8
  have hc : a = 0 ∨ a = 1 ∨ a = 2 ∨ a = 3 ∨ a = 4 ∨ a = 5 ∨ a = 6 ∨ a = 7 := by omega
  have key : ∀ b : UInt8, (b ^^^ x).toNat ≠ b.toNat := fun b e => xor_ne b x hx (UInt8.toNat_inj.1 e)
  rcases hc with rfl | rfl | rfl | rfl | rfl | rfl | rfl | rfl
  · have := key (yb y 7); simp only [List.set_cons_zero, List.getElem?_cons_zero, Option.getD_some, num8]; omega
  · have := key (yb y 6); simp only [List.set_cons_succ, List.set_cons_zero, List.getElem?_cons_succ, List.getElem?_cons_zero, Option.getD_some, num8]; omega
  · have := key (yb y 5); simp only [List.set_cons_succ, List.set_cons_zero, List.getElem?_cons_succ, List.getElem?_cons_zero, Option.getD_some, num8]; omega
  · have := key (yb y 4); simp only [List.set_cons_succ, List.set_cons_zero, List.getElem?_cons_succ, List.getElem?_cons_zero, Option.getD_some, num8]; omega
  · have := key (yb y 3); simp only [List.set_cons_succ, List.set_cons_zero, List.getElem?_cons_succ, List.getElem?_cons_zero, Option.getD_some, num8]; omega
  · have := key (yb y 2); simp only [List.set_cons_succ, List.set_cons_zero, List.getElem?_cons_succ, List.getElem?_cons_zero, Option.getD_some, num8]; omega
  · have := key (yb y 1); simp only [List.set_cons_succ, List.set_cons_zero, List.getElem?_cons_succ, List.getElem?_cons_zero, Option.getD_some, num8]; omega
  · have := key (yb y 0); simp only [List.set_cons_succ, List.set_cons_zero, List.getElem?_cons_succ, List.getElem?_cons_zero, Option.getD_some, num8]; omega
theorem zip_flip (y : Int) (p : List UInt8) (h : p.length = 16) (a : Nat) (x : UInt8) (ha : a < 8) : List.zipWith (· ^^^ ·) (((bx y p).set a ((bx y p)[a]?.getD 0 ^^^ x)).take 8) (p.take 8) = (y8 y).set a ((y8 y)[a]?.getD 0 ^^^ x) := by
  have xr : ∀ u v : UInt8, ((u ^^^ v) ^^^ x) ^^^ u = v ^^^ x := fun u v => by rw [UInt8.xor_comm u v, UInt8.xor_assoc, UInt8.xor_comm x u, ← UInt8.xor_assoc, UInt8.xor_assoc v, UInt8.xor_self, UInt8.xor_zero]
  match p, h with
  | [a0, a1, a2, a3, a4, a5, a6, a7, a8, a9, a10, a11, a12, a13, a14, a15], _ =>
    have hc : a = 0 ∨ a = 1 ∨ a = 2 ∨ a = 3 ∨ a = 4 ∨ a = 5 ∨ a = 6 ∨ a = 7 := by omega
    rcases hc with rfl | rfl | rfl | rfl | rfl | rfl | rfl | rfl <;> simp [bx, y8, xx, xr]
theorem pp4_inj (a b : Int) (ha : 0 ≤ a ∧ a < 1152921504606845789) (hb : 0 ≤ b ∧ b < 1152921504606845789) (e : pp 4 a = pp 4 b) : a = b := by
  have hq : gQ = 1152921504606845789 := rfl
  obtain ⟨i, rfl⟩ : ∃ v : Nat, a = v := ⟨a.toNat, by omega⟩
  obtain ⟨j, rfl⟩ : ∃ v : Nat, b = v := ⟨b.toNat, by omega⟩
  unfold pp at e
  rw [gpP, gpP] at e
  have := pow_inj ((mem_iff 4).1 mem4) (by decide) i j (by omega) (by omega) e
  omega
theorem wrap_q (n : Nat) (h : n < 18446744073709551616) (h0 : 0 ≤ wrap64 (n : Int)) : wrap64 (n : Int) = (n : Int) := by unfold wrap64 at *; omega
/-- a box in which a byte was changed doesn't open -/
theorem tk_flip (K i y : Int) (C : List Int) (a : Nat) (x : UInt8) (ha : a < 16) (hx : x ≠ 0) (hy : 0 ≤ y ∧ y < 1152921504606845789) (hv : pp 4 y = av C (i + 1)) :
    tk K i ((bx y (pd K i)).set a ((bx y (pd K i))[a]?.getD 0 ^^^ x)) C = false := by
  have hp := pd_len K i
  unfold tk
  by_cases h8 : 8 ≤ a
  · rw [fit_flip y _ hp a x h8 ha hx]; rfl
  · have hz := zip_flip y (pd K i) hp a x (by omega)
    have hn := num_flip y a x (by omega) hx
    have hf : fits (ct ((bx y (pd K i)).set a ((bx y (pd K i))[a]?.getD 0 ^^^ x)) (pd K i)) C (i + 1) = false := by
      unfold ct
      rw [hz]
      have hlt := num_lt ((y8 y).set a ((y8 y)[a]?.getD 0 ^^^ x)) 8
      have hy8 := num_y8 y hy.1 (by omega)
      generalize num ((y8 y).set a ((y8 y)[a]?.getD 0 ^^^ x)) 8 = m at *
      unfold fits
      cases hq : inQ (wrap64 (m : Int)) with
      | false => rfl
      | true =>
        have h1 := inQ_iff.1 hq
        have h2 := wrap_q m (by omega) h1.1
        rw [Bool.true_and]
        refine beq_eq_false_iff_ne.2 (fun e => ?_)
        have h3 := pp4_inj _ _ h1 hy (e.trans hv.symm)
        omega
    rw [hf, Bool.and_false]
/-- the box that was changed, of a plan's dealing -/
theorem guilty_fits (S C : List Int) (sd : ByteArray) (sec : Int) (k : Nat) (hk : (KL S)[k]? = some (pp 4 (ex sec))) (a : Nat) (x : UInt8) (ha : a < 16) (hx : x ≠ 0) :
    tk (pp (pp 4 (dk sd)) (ex sec)) (k : Int) ((dbx (NL S C) (KL S) (dk sd) k).data.toList.set a ((dbx (NL S C) (KL S) (dk sd) k).data.toList[a]?.getD 0 ^^^ x)) ((NL S C).map (pp 4)) = false := by
  rw [dbx_own _ _ _ sec k hk, pp_comm (ex sec) (dk sd) (ex_rng sec).1 (dk_rng sd).1]
  refine tk_flip _ _ _ _ a x ha hx (vl_rng _ _) ?_
  exact (av_pow (NL S C) ((k : Int) + 1) (fun c hc => (NL_0 S C c hc).1)).symm
end Go.Proofs.YtjfbpmpdcmealaaGreatDoor.D7
namespace Go.Proofs.YtjfbpmpdcmealaaGreatDoor.D7
open Go.RowKit GM SH G4 E6 D7P
/-- cells that stay, secrets, and the size of the heap -/
structure GQ (w : World) (L : List (Addr × Value)) (sb so l : Nat) (sF : Nat → Int) (W : World) : Prop where
  b : Below w.heap.size w W
  s : w.heap.size + 1 ≤ W.heap.size
  c : ∀ p ∈ L, p.1.block < w.heap.size + 1 ∧ W.cell? p.1 = some p.2
  sec : ∀ k, k < l → W.cell? ⟨sb, so + k, none⟩ = some (.int .i64 (sF k))
section
variable {w W V : World} {L : List (Addr × Value)} {sb so l : Nat} {sF : Nat → Int}
theorem GQ.next (h : GQ w L sb so l sF W) (k : Below W.heap.size W V) : GQ w L sb so l sF V :=
  ⟨h.b.trans (k.mono h.b.size), Nat.le_trans h.s k.size, fun p hp => ⟨(h.c p hp).1, (k.cell (p := p.1) (World.block_lt_of_cell? _ _ (h.c p hp).2)).trans (h.c p hp).2⟩, fun j hj => (k.cell (p := ⟨sb, so + j, none⟩) (World.block_lt_of_cell? _ _ (h.sec j hj))).trans (h.sec j hj)⟩
theorem GQ.drew (h : GQ w L sb so l sF W) : GQ w L sb so l sF W.drew := ⟨h.b.drew, h.s, h.c, h.sec⟩
theorem GQ.get (h : GQ w L sb so l sF W) (p : Addr) (v : Value) (hp : (p, v) ∈ L) : W.cell? p = some v := (h.c _ hp).2
theorem GQ.setCell (h : GQ w L sb so l sF W) (hsb : sb < w.heap.size) (g j : Nat) (u : Value) (hg : w.heap.size + 1 ≤ g) : GQ w L sb so l sF (W.setCell ⟨g, j, none⟩ u) :=
  ⟨h.b.setCell (p := ⟨g, j, none⟩) (show w.heap.size ≤ g by omega) u, by simpa using h.s, fun p hp => by
    have := h.c p hp
    exact ⟨this.1, by rw [World.cell?_of_block (heap_setCell_other W ⟨g, j, none⟩ p.1.block _ (by show p.1.block ≠ g; omega))]; exact this.2⟩, fun k hk => by
    rw [World.cell?_of_block (heap_setCell_other W ⟨g, j, none⟩ sb _ (by show sb ≠ g; omega))]; exact h.sec k hk⟩
/-- and the keys, and the dealing -/
structure GV (w : World) (L : List (Addr × Value)) (sb so l : Nat) (sF : Nat → Int) (kv cv bv : Value) (K C : List Int) (B : List ByteArray) (D : Nat) (pt : Int) (W : World) : Prop where
  q : GQ w L sb so l sF W
  hK : W.ownsRow (w.heap.size + 1) 3 1 kv K.length (K.map (Value.int .i64))
  hC : W.ownsRow (w.heap.size + 1) 3 1 cv C.length (C.map (Value.int .i64))
  hB : W.ownsRow (w.heap.size + 1) 9 1 bv B.length (B.map Value.string)
  hD : W.heap[D]? = some (.cells #[cv, .int .i64 pt, bv] 34 (0, 0))
variable {kv cv bv : Value} {K C : List Int} {B : List ByteArray} {D g cap : Nat} {pt : Int}
theorem GV.next (h : GV w L sb so l sF kv cv bv K C B D pt W) (k : Below W.heap.size W V) : GV w L sb so l sF kv cv bv K C B D pt V :=
  ⟨h.q.next k, own_below h.hK k, own_below h.hC k, own_below h.hB k, (k.block _ (Array.getElem?_eq_some_iff.1 h.hD).1).trans h.hD⟩
theorem GV.drew (h : GV w L sb so l sF kv cv bv K C B D pt W) : GV w L sb so l sF kv cv bv K C B D pt W.drew := ⟨h.q.drew, h.hK, h.hC, h.hB, h.hD⟩
theorem GV.b (h : GV w L sb so l sF kv cv bv K C B D pt W) : Below w.heap.size w W := h.q.b
theorem GV.get (h : GV w L sb so l sF kv cv bv K C B D pt W) (p : Addr) (v : Value) (hp : (p, v) ∈ L) : W.cell? p = some v := h.q.get p v hp
theorem GV.d (h : GV w L sb so l sF kv cv bv K C B D pt W) : W.cell? ⟨D, 0, none⟩ = some cv ∧ W.cell? ⟨D, 1, none⟩ = some (.int .i64 pt) ∧ W.cell? ⟨D, 2, none⟩ = some bv := ⟨cell_of_row _ D 0 _ _ _ h.hD, cell_of_row _ D 1 _ _ _ h.hD, cell_of_row _ D 2 _ _ _ h.hD⟩
theorem own_strCell {e : TypeId} {base n j : Nat} {v x : Value} {xs : List Value} {cur : Array Value} (h : W.ownsRow base 3 1 v n xs) (hg : W.heap[g]? = some (.cells cur 9 (0, 0))) : (W.setCell ⟨g, j, none⟩ x).ownsRow base 3 1 v n xs := by
  refine ⟨h.1, ?_⟩
  rcases h.2 with h2 | ⟨g', cap, cur', h1, h2, h3, h4⟩
  · exact .inl h2
  · refine .inr ⟨g', cap, cur', h1, h2, ?_, h4⟩
    rw [heap_setCell_other W ⟨g, j, none⟩ g' x (fun e => ?_)]
    · exact h3
    · have e : g' = g := e
      subst e
      rw [h3] at hg
      injection hg with hg
      injection hg with _ hg _
      exact absurd hg (by decide)
/-- a box is written -/
theorem GV.setB (hsb : sb < w.heap.size) (h : GV w L sb so l sF kv cv (.slice (some ⟨g, 0, none⟩) B.length cap) K C B D pt W) (j : Nat) (s : ByteArray) : W.frozen? ⟨g, j, none⟩ = false ∧ GV w L sb so l sF kv cv (.slice (some ⟨g, 0, none⟩) B.length cap) K C (B.set j s) D pt (W.setCell ⟨g, j, none⟩ (.string s)) := by
  have hB := h.hB
  have hg : w.heap.size + 1 ≤ g ∧ ∃ cur, W.heap[g]? = some (.cells cur 9 (0, 0)) := by
    rcases hB.2 with ⟨h', _⟩ | ⟨g', cap', cur, h', hb, hg, _⟩
    · simp at h'
    · simp only [Value.slice.injEq, Option.some.injEq, Addr.mk.injEq, and_true, true_and] at h'
      obtain ⟨rfl, rfl⟩ := h'
      exact ⟨hb, cur, hg⟩
  obtain ⟨hb, cur, hg⟩ := hg
  have hs := hB.stored j (.string s)
  refine ⟨hB.frozenAt j, h.q.setCell hsb g j _ hb, own_strCell (e := 3) h.hK hg, own_strCell (e := 3) h.hC hg, ?_, ?_⟩
  · have := hs.1
    rw [show (B.map Value.string).set j (.string s) = (B.set j s).map Value.string by rw [List.map_set]] at this
    rw [List.length_set]
    exact this
  · rw [heap_setCell_other W ⟨g, j, none⟩ D _ (fun e => ?_)]
    · exact h.hD
    · have e : D = g := e
      have hd := h.hD
      rw [e, hg] at hd
      injection hd with hd
      injection hd with _ hd _
      exact absurd hd (by decide)
end
theorem infoSh2 (a b : Int) : Hid ((Tryz.prog.info? 55).map (·.size) = some (#[Value.int .i64 a, .int .i64 b]).size) := Lib.hid (by show _ = some 2; kernel_rfl)
theorem sh_sz2 (a b : Int) {cs : Array Value} (h : cs.size = 2) : cs.size = (#[Value.int .i64 a, .int .i64 b]).size := h
theorem sh_one2 (a b : Int) : (#[Value.int .i64 a, .int .i64 b]).all (·.oneCell') = true := by simp [Value.oneCell']
/-- a box's bytes -/
theorem bytes_box (w : World) (s : ByteArray) (hs : s.size = 16) : ∃ cap w1, (convert 9 50 (.string s)).run Tryz.prog w = .ok (.slice (some ⟨w.heap.size, 0, none⟩) 16 cap) w1 ∧ Below w.heap.size w w1 ∧ 16 ≤ cap ∧
    (∀ j, j < 16 → w1.cell? ⟨w.heap.size, j, none⟩ = some (.int .u8 ((s.data.toList[j]?.getD 0).toNat : Nat))) ∧ (∀ j, j < 16 → w1.frozen? ⟨w.heap.size, j, none⟩ = false) := by
  have h := run_bytes_of_string w 9 50 5 s Tryz.underlying9 Tryz.underlying50 Tryz.underlying5
  obtain ⟨cap, hcap⟩ : ∃ cap, cap = grownCap w s.size 0 5 := ⟨_, rfl⟩
  have hge := grownCap_ge w s.size 0 5
  rw [← hcap] at h hge
  have hh : (w.drew.alloc (.cells (bytesRow s cap) 5 ((bytesRow s cap).size, (bytesRow s cap).size + 1))).heap[w.heap.size]? = some (.cells (bytesRow s cap) 5 ((bytesRow s cap).size, (bytesRow s cap).size + 1)) := by
    show (w.heap.push _)[w.heap.size]? = _
    simp
  have hl : s.data.toList.length = 16 := hs
  refine ⟨cap, _, by rw [hs] at h; exact h, (Below.refl _ w).drew.alloc (Nat.le_refl _) _, by omega, fun j hj => ?_, fun j hj => ?_⟩
  · rw [Lib.cell_of_heap hh, bytesRow_at _ _ _ (show j < s.size by omega), List.getElem?_eq_getElem (show j < s.data.toList.length by omega)]; rfl
  · have hsz : s.size ≤ (bytesRow s cap).size := by
      apply Nat.le_of_not_lt; intro h2
      have h3 := bytesRow_at s cap (bytesRow s cap).size h2
      rw [Array.getElem?_eq_none (Nat.le_refl _)] at h3; cases h3
    unfold World.frozen?
    rw [hh]
    simp
    omega
/-- and the text again, one byte of them changed -/
theorem box_back (w1 : World) (g cap a : Nat) (s : ByteArray) (x : UInt8) (ha : a < 16) (hs : s.size = 16) (hc : ∀ j, j < 16 → w1.cell? ⟨g, j, none⟩ = some (.int .u8 ((s.data.toList[j]?.getD 0).toNat : Nat))) (W : World)
    (hW : W = w1.setCell ⟨g, a, none⟩ (.int .u8 ((s.data.toList[a]?.getD 0 ^^^ x).toNat : Nat))) :
    (convert 50 9 (.slice (some ⟨g, 0, none⟩) 16 cap)).run Tryz.prog W = .ok (.string ⟨(s.data.toList.set a (s.data.toList[a]?.getD 0 ^^^ x)).toArray⟩) W := by
  subst hW
  have hl : s.data.toList.length = 16 := hs
  have hl2 : (s.data.toList.set a (s.data.toList[a]?.getD 0 ^^^ x)).length = 16 := by rw [List.length_set]; exact hl
  have h := run_convert_bytes_back (P := Tryz.prog) (w1.setCell ⟨g, a, none⟩ (.int .u8 ((s.data.toList[a]?.getD 0 ^^^ x).toNat : Nat))) 50 9 5 ⟨g, 0, none⟩ cap (s.data.toList.set a (s.data.toList[a]?.getD 0 ^^^ x)) Tryz.underlying50 Tryz.underlying5 Tryz.underlying9 (fun j hj => by
    rw [hl2] at hj
    rw [Lib.add_plain, Nat.zero_add, List.getElem_set]
    by_cases e : a = j
    · subst e
      rw [if_pos rfl, World.cell?_setCell_same _ _ _ (hc a ha)]
    · rw [if_neg e, World.cell?_setCell_other _ _ _ _ (by intro e'; injection e' with _ e' _; exact e e'), hc j hj, List.getElem?_eq_getElem (by omega)]; rfl)
  rw [hl2] at h
  exact h
end Go.Proofs.YtjfbpmpdcmealaaGreatDoor.D7
