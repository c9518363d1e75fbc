/-
  The walk of Poll.Make: coefficients and keys of a poll.
-/
import Derived.Test.YtbfplapjjeeceaaGreatDoorBPollM
namespace Go.Proofs.YtbfplapjjeeceaaGreatDoor.B9
open Go.RowKit GM SH G4 E6 D7P
open W8 hiding i64 jn pX pY
theorem mod_any (w : World) (n r : Int) (h : n % 1152921504606845789 = r) (_ : i64 n) :
    Calls Tryz.prog 43 #[.int .i64 n, .int .i64 1152921504606845789] w fun e w' => e = .returned (.int .i64 r) ∧ w' = w := by
  have h1 : -1152921504606845789 < Int.tmod n 1152921504606845789 := by
    have := Int.lt_tmod_of_pos n (show (0 : Int) < 1152921504606845789 by decide); omega
  have h2 : Int.tmod n 1152921504606845789 < 1152921504606845789 := Int.tmod_lt_of_pos n (by decide)
  have h3 : Int.tmod n 1152921504606845789 + 1152921504606845789 * Int.tdiv n 1152921504606845789 = n := Int.tmod_add_mul_tdiv n 1152921504606845789
  generalize Int.tdiv n 1152921504606845789 = q at h3
  have E : Int.tmod (Int.tmod n 1152921504606845789 + 1152921504606845789) 1152921504606845789 = r := by
    rw [Int.tmod_eq_emod_of_nonneg (by omega), ← h]
    generalize Int.tmod n 1152921504606845789 = t at *
    omega
  have h4 : Int.tmod n 1152921504606845789 + 1152921504606845789 ≤ 9223372036854775807 := by omega
  have h5 : -9223372036854775808 ≤ Int.tmod n 1152921504606845789 + 1152921504606845789 := by omega
  have HE := Lib.hid E
  clear h h3 E
  obtain ⟨t, ht⟩ : ∃ t, Int.tmod n 1152921504606845789 = t := ⟨_, rfl⟩
  rw [ht] at HE h1 h2 h4 h5
  have h6 : 0 ≤ t + 1152921504606845789 := by omega
  obtain ⟨u, hu⟩ : ∃ u, t + 1152921504606845789 = u := ⟨_, rfl⟩
  rw [hu] at HE h4 h5 h6
  have hE := HE.out
  have hw : IntKind.i64.wrap u = u := by rw [IntKind.wrap_i64]; omega
  have hr : r < 1152921504606845789 ∧ -1152921504606845789 < r := by
    rw [← hE]
    exact ⟨Int.tmod_lt_of_pos u (by decide), by have := Int.lt_tmod_of_pos u (show (0 : Int) < 1152921504606845789 by decide); omega⟩
  clear HE
  go_enter Tryz.func43, Tryz.ntmps43
  go_wp2
  go_ret
  exact ⟨rfl, rfl⟩
theorem infoK (x y : Value) : Hid ((Tryz.prog.info? 41).map (·.size) = some (#[x, y]).size) := Lib.hid (by show _ = some 2; kernel_rfl)
theorem two_szK (a b c d : Value) : (#[a, b]).size = (#[c, d]).size := by simp
theorem own_set9 {w : World} {base : Nat} {e : TypeId} {size : Nat} {v : Value} {n : Nat} {xs : List Value} (h : w.ownsRow base e size v n xs) (d j : Nat) (u : Value) (hd : d < base) : (w.setCell ⟨d, j, none⟩ u).ownsRow base e size v n xs := by
  refine ⟨h.1, ?_⟩
  rcases h.2 with h2 | ⟨g, cap, cur, h1, h2, h3, h4⟩
  · exact .inl h2
  · exact .inr ⟨g, cap, cur, h1, h2, by rw [heap_setCell_other w _ g _ (by show g ≠ d; omega)]; exact h3, h4⟩
/-- what the walk keeps while the coefficients and the commitments grow -/
structure MK (W0 : World) (BK : Nat) (cv kv pv : Value) (X Y : List Int) (W : World) : Prop where
  bl : Below W0.heap.size W0 W
  h0 : W0.heap.size ≤ BK
  rk : W.heap[BK]? = some (.cells #[kv, pv] 41 (0, 0))
  ox : W.ownsRow (BK + 1) 3 1 cv X.length (X.map (Value.int .i64))
  oy : W.ownsRow (BK + 1) 3 1 kv Y.length (Y.map (Value.int .i64))
  ne : ∀ g, cv.ownBlock = some g → kv.ownBlock ≠ some g
theorem MK.next {W0 W V : World} {BK : Nat} {cv kv pv : Value} {X Y : List Int} (h : MK W0 BK cv kv pv X Y W) (k : Below W.heap.size W V) : MK W0 BK cv kv pv X Y V :=
  ⟨h.bl.trans (k.mono h.bl.size), h.h0, (k.block BK (Array.getElem?_eq_some_iff.1 h.rk).1).trans h.rk, own_below' h.ox k, own_below' h.oy k, h.ne⟩
theorem MK.appX {W0 W w9 : World} {BK : Nat} {cv kv pv : Value} {X Y : List Int} (h : MK W0 BK cv kv pv X Y W) (x : Int) {g cap H : Nat} (hH : W.heap.size = H)
    (h1 : w9.ownsRow (BK + 1) 3 1 (.slice (some ⟨g, 0, none⟩) (X.length + 1) cap) (X.length + 1) (X.map (Value.int .i64) ++ [.int .i64 x])) (h2 : W.grownBy w9 cv.ownBlock) (h3 : cv.ownBlock = some g ∨ g = H) :
    MK W0 BK (.slice (some ⟨g, 0, none⟩) (X.length + 1) cap) kv pv (X ++ [x]) Y w9 := by
  have hlt := (Array.getElem?_eq_some_iff.1 h.rk).1
  have hdb : cv.ownBlock ≠ some BK := fun e => by have := (h.ox.lt BK e).1; omega
  refine ⟨h.bl.grown h2 h.bl.size (fun k hk => by have := (h.ox.lt k hk).1; have := h.h0; omega), h.h0, (h2.block BK hlt (fun e => hdb e.symm)).trans h.rk, ?_, h.oy.kept h2 (ne_or fun g hg => h.ne g hg), ?_⟩
  · rw [List.length_append, List.map_append]; exact h1
  · intro k hk
    have hk : g = k := by simpa [Value.ownBlock] using hk
    subst hk
    rcases h3 with h3 | h3
    · exact h.ne g h3
    · intro e; have := (h.oy.lt g e).2; omega
theorem MK.appY {W0 W w9 : World} {BK : Nat} {cv kv pv : Value} {X Y : List Int} (h : MK W0 BK cv kv pv X Y W) (y : Int) {g cap H : Nat} (hH : W.heap.size = H)
    (h1 : w9.ownsRow (BK + 1) 3 1 (.slice (some ⟨g, 0, none⟩) (Y.length + 1) cap) (Y.length + 1) (Y.map (Value.int .i64) ++ [.int .i64 y])) (h2 : W.grownBy w9 kv.ownBlock) (h3 : kv.ownBlock = some g ∨ g = H) :
    w9.cell? ⟨BK, 0, none⟩ = some kv ∧ w9.frozen? ⟨BK, 0, none⟩ = false ∧ MK W0 BK cv (.slice (some ⟨g, 0, none⟩) (Y.length + 1) cap) pv X (Y ++ [y]) (w9.setCell ⟨BK, 0, none⟩ (.slice (some ⟨g, 0, none⟩) (Y.length + 1) cap)) := by
  have hlt := (Array.getElem?_eq_some_iff.1 h.rk).1
  have hdb : kv.ownBlock ≠ some BK := fun e => by have := (h.oy.lt BK e).1; omega
  have hrow : w9.heap[BK]? = some (.cells #[kv, pv] 41 (0, 0)) := (h2.block BK hlt (fun e => hdb e.symm)).trans h.rk
  refine ⟨cell_of_row _ _ 0 _ _ _ hrow, frozen_of_row _ _ 0 _ _ hrow, (h.bl.grown h2 h.bl.size (fun k hk => by have := (h.oy.lt k hk).1; have := h.h0; omega)).setCell (p := ⟨BK, 0, none⟩) h.h0 _, h.h0, ?_, ?_, ?_, ?_⟩
  · rw [heap_setCell_same w9 BK 0 _ _ _ hrow]; rfl
  · refine own_set9 (h.ox.kept h2 (ne_or fun g hg e => h.ne g e hg)) BK 0 _ (Nat.lt_succ_self BK)
  · have := own_set9 h1 BK 0 (.slice (some ⟨g, 0, none⟩) (Y.length + 1) cap) (Nat.lt_succ_self BK)
    rw [List.length_append, List.map_append]; exact this
  · intro k hk e
    have e : g = k := by simpa [Value.ownBlock] using e
    subst e
    rcases h3 with h3 | h3
    · exact h.ne g hk h3
    · have := (h.ox.lt g hk).2; omega
theorem cfs_take (lw lc : List Int) (k : Nat) (h : k < nd lw) : (cfs lw lc).take (k+1) = (cfs lw lc).take k ++ [cf lc k] := by
  rw [List.take_add_one]
  congr 1
  unfold cfs
  rw [List.getElem?_map, List.getElem?_range h]; rfl
theorem cms_take (lw lc : List Int) (k : Nat) (h : k < nd lw) : (cms lw lc).take (k+1) = (cms lw lc).take k ++ [pp 4 (cf lc k)] := by
  rw [List.take_add_one]
  congr 1
  unfold cms cfs
  rw [List.getElem?_map, List.getElem?_map, List.getElem?_range h]; rfl
/-- lists, with the capacity that they lie in -/
def LLc (w : World) (v : Value) (L : List (List Int)) : Prop := LLi w v L ∧ ∀ p n c, v = .slice p n c → n ≤ c
/-- what Make gives -/
def PoQ (w : World) (lw lc : List Int) (e : Ending) (w' : World) : Prop :=
  (∃ cv kv pv, e = .returned (.tuple #[cv, .agg #[kv, pv]]) ∧ SLi w' cv (cfs lw lc) ∧ SLi w' kv (cms lw lc) ∧ LLc w' pv (LP lw)) ∧ Below w.heap.size w w'
/-- rows of rows of a call's own -/
def PSo (base : Nat) (pv : Value) (L : List (List Int)) (W : World) : Prop :=
  ∃ vs : List Value, W.ownsRow base 34 1 pv L.length vs ∧ ∀ (j : Nat) (l : List Int), L[j]? = some l → ∃ v, vs[j]? = some v ∧ W.ownsRow base 3 1 v l.length (l.map (Value.int .i64))
theorem PSo.kx {base : Nat} {pv : Value} {L : List (List Int)} {W V : World} {M : Option Nat} (h : PSo base pv L W) (k : KX M W V) (hM : ∀ m, M = some m → m < base) : PSo base pv L V := by
  obtain ⟨vs, h1, h2⟩ := h
  refine ⟨vs, own_kx h1 k (fun g hg e => by have := (h1.lt g hg).1; have := hM g e.symm; omega), fun j l hl => ?_⟩
  obtain ⟨v, h3, h4⟩ := h2 j l hl
  exact ⟨v, h3, own_kx h4 k (fun g hg e => by have := (h4.lt g hg).1; have := hM g e.symm; omega)⟩
theorem PSo.next {base : Nat} {pv : Value} {L : List (List Int)} {W V : World} (h : PSo base pv L W) (k : Below W.heap.size W V) : PSo base pv L V := h.kx (KX.below none k) (fun m h => by cases h)
theorem PSo.LLi {base : Nat} {W : World} {av : Value} {L : List (List Int)} (h : PSo base av L W) (hr : ∀ l ∈ L, (∀ y ∈ l, i64 y) ∧ l.length ≤ 1000000000) : LLi W av L := by
  obtain ⟨vs, h1, h2⟩ := h
  rcases h1.2 with ⟨rfl, h0⟩ | ⟨g, cap, cur, rfl, k2, k3, k4, k5, k6, k7⟩
  · have : L = [] := List.length_eq_zero_iff.1 h0
    subst this
    exact ⟨none, 0, rfl, fun j y hj => by simp at hj⟩
  · refine ⟨_, cap, rfl, fun j l hj => ?_⟩
    obtain ⟨v, h3, h4⟩ := h2 j l hj
    have hl := hr l (List.mem_of_getElem? hj)
    refine ⟨g, 0, v, rfl, ?_, own_SLi h4 hl.1 hl.2⟩
    rw [Nat.zero_add, cell_of_row W g j _ _ _ k3, ← Array.getElem?_toList]
    rw [← k7] at h3
    have hlt := (List.getElem?_eq_some_iff.1 h3).1
    rw [List.getElem?_take_of_lt (by rw [List.length_take] at hlt; omega)] at h3
    exact h3
theorem PSo.LLc {base : Nat} {W : World} {av : Value} {L : List (List Int)} (h : PSo base av L W) (hr : ∀ l ∈ L, (∀ y ∈ l, i64 y) ∧ l.length ≤ 1000000000) : LLc W av L := by
  refine ⟨h.LLi hr, fun p n c e => ?_⟩
  obtain ⟨vs, h1, h2⟩ := h
  rcases h1.2 with ⟨k1, h0⟩ | ⟨g, cap, cur, k1, k2, k3, k4, k5, k6, k7⟩
  · rw [k1] at e
    injection e with _ e1 e2
    omega
  · rw [k1] at e
    injection e with _ e1 e2
    omega
theorem kx_setRow (W : World) (b : Nat) (cs : Array Value) : KX (some b) W (W.setRow b cs) := by
  have h := Below.setRow' (Below.refl b W) (Nat.le_refl b) cs
  exact ⟨h.os, h.tape, h.output, h.size, fun k _ hM => setRow_other W b k cs (fun e => hM (by rw [e]))⟩
theorem LP_rng (lw : List Int) : ∀ l ∈ LP lw, (∀ y ∈ l, i64 y) ∧ l.length ≤ 1000000000 := fun l hl => by
  obtain ⟨k, hk⟩ := List.mem_iff_getElem?.1 hl
  obtain ⟨s, hs, rfl⟩ := ptl_get _ _ _ _ hk
  have h1 := mbs_wt _ _ (wt0_rng lw) s (List.mem_of_getElem? hs)
  have h2 := mbs_tot ((wt0 lw).take k) 0 (fun x hx => wt0_rng lw x (List.mem_of_mem_take hx))
  have h3 : (mbl lw).take k = mbs 0 ((wt0 lw).take k) := by
    unfold mbl
    have := mbs_append ((wt0 lw).take k) ((wt0 lw).drop k) 0
    rw [List.take_append_drop] at this
    rw [this]
    have hk3 := (List.getElem?_eq_some_iff.1 hs).1
    unfold mbl at hk3
    rw [mbs_len] at hk3
    exact List.take_left' (by rw [mbs_len, List.length_take]; omega)
  have h4 : ((wt0 lw).take k).length ≤ 8 := by rw [List.length_take]; have := wt0_len lw; omega
  rw [h3]
  generalize tot (mbs 0 ((wt0 lw).take k)) = t at *
  refine ⟨fun y hy => ?_, by rw [rng_len]; omega⟩
  unfold W8.rng at hy
  obtain ⟨i, hi, rfl⟩ := List.mem_map.1 hy
  have := List.mem_range.1 hi
  exact ⟨by omega, by omega⟩
theorem results_tmp_row {P : Program} {fn : Func} {p u : Tmp} {ty : TypeId} (h : fn.results = #[.tmp u, .cell p ty]) (tmps : Array Value) (w : World) (g : Nat) (t : TypeId) (cs : Array Value) (fr : Nat × Nat) (d : TypeDesc)
    (hp : tmps.getD p undef = .pointer (some ⟨g, 0, none⟩)) (hg : w.heap[g]? = some (.cells cs t fr))
    (hu : P.underlying ty = some d) (hd : (match d with | .struct _ | .array _ _ => true | _ => false) = true) (hi : (P.info? ty).map (·.size) = some cs.size) :
    (results fn tmps).run P w = .ok (.tuple #[tmps.getD u undef, .agg cs]) w := by
  have hp' : tmps[p]?.getD undef = .pointer (some ⟨g, 0, none⟩) := by simpa using hp
  simp [results, h, hp', asAddr, run_loadVar_row w g t ty cs fr d hg hu hd hi]
theorem tmod7 (z : Int) (h : 0 ≤ z ∧ z ≤ 255) : Int.tmod z 7 = z % 7 := Int.tmod_eq_emod_of_nonneg h.1
theorem wts_take (l : List Int) (k : Nat) (z : Int) (h : l[k]? = some z) (hk : k < 8) : (wts l).take (k+1) = (wts l).take k ++ [1 + z % 7] := by
  rw [List.take_add_one]
  congr 1
  unfold wts
  rw [List.getElem?_map, List.getElem?_take_of_lt hk, h]; rfl
theorem mbs_step (l : List Int) (k : Nat) (z : Int) (h : l[k]? = some z) (hk : k < 8) (hl : ((wts l).take k).length = k) : mbs 0 ((wts l).take (k+1)) = mbs 0 ((wts l).take k) ++ [((k : Int) + 1, 1 + z % 7, 0)] := by
  rw [wts_take l k z h hk, mbs_append, hl, Nat.zero_add, Int.add_comm (k : Int) 1]; rfl
theorem tot_step (l : List Mb) (a b c : Int) : tot (l ++ [(a, b, c)]) = tot l + b := by
  rw [tot_append]
  show tot l + (b + 0) = tot l + b
  omega
theorem MbL.new (w : World) (l : List Mb) (hr : ∀ s ∈ l, i64 s.1 ∧ i64 s.2.1 ∧ i64 s.2.2) (hn : l.length ≤ 1000000000) (cs : Array Value) (hc : cs.toList = flat l) (t : TypeId) (n c : Nat) (hl : l.length = n) : MbL (w.alloc (.cells cs t)) (.slice (some ⟨w.heap.size, 0, none⟩) n c) l := by
  subst hl
  have rd : ∀ i u, (flat l)[i]? = some u → (w.alloc (.cells cs t)).cell? ⟨w.heap.size, 0 + i, none⟩ = some u := fun i u hi => by
    rw [World.cell?_alloc_at _ _ _ _ rfl, Nat.zero_add, ← Array.getElem?_toList, hc]; exact hi
  refine ⟨⟨_, c, rfl, fun j s hj => ?_⟩, hr, hn⟩
  obtain ⟨k0, k1, k2⟩ := flat_get l j s hj
  exact ⟨_, 0, rfl, rd _ _ k0, by rw [Nat.add_assoc]; exact rd _ _ k1, by rw [Nat.add_assoc]; exact rd _ _ k2⟩
set_option maxRecDepth 100000 in
set_option maxHeartbeats 8000000 in
theorem make_core (w : World) (pw pc : Option Addr) (cw nc : Nat) (lw lc : List Int) (T : Int) (ND : Nat) (hT : tot (mbl lw) = T) (hND : nd lw = ND) (hND2 : ND ≤ 19) (hTr : 1 ≤ T ∧ T ≤ 56) (hlw : lw.length ≤ maxLen) (hlc : lc.length ≤ maxLen) (hzw : ∀ x ∈ lw, 0 ≤ x ∧ x ≤ 255) (hic : ∀ x ∈ lc, i64 x)
    (hcw : ∀ (j : Nat) (x : Int), lw[j]? = some x → ∃ b o, pw = some ⟨b, o, none⟩ ∧ w.cell? ⟨b, o + j, none⟩ = some (.int .u8 x))
    (hcc : ∀ (j : Nat) (x : Int), lc[j]? = some x → ∃ b o, pc = some ⟨b, o, none⟩ ∧ w.cell? ⟨b, o + j, none⟩ = some (.int .i64 x))
    (PT : Hid (∀ W v, MbL W v (mbl lw) → Calls Tryz.prog 41 #[v] W fun e w' => (∃ pv, e = .returned (.tuple #[pv, .bool true]) ∧ PSo W.heap.size pv (LP lw) w') ∧ Below W.heap.size W w'))
    (NDc : Hid (∀ W, Calls Tryz.prog 42 #[.int .i64 T] W fun e w' => e = .returned (.int .i64 (ND : Int)) ∧ w' = W))
    (MDc : Hid (∀ W n r, n % 1152921504606845789 = r → i64 n → Calls Tryz.prog 43 #[.int .i64 n, .int .i64 1152921504606845789] W fun e w' => e = .returned (.int .i64 r) ∧ Below W.heap.size W w'))
    (PWc : Hid (∀ W n y, pp 4 n = y → i64 n → Calls Tryz.prog 39 #[.int .i64 4, .int .i64 n, .int .i64 2305843009213691579] W fun e w' => e = .returned (.int .i64 y) ∧ w' = W)) :
    Calls Tryz.prog 16 #[.agg #[.slice pw lw.length cw, .slice pc lc.length nc]] w (PoQ w lw lc) := by
  obtain ⟨i0, hi, hz0, hz1, hz2⟩ := info_parts infoI
  obtain ⟨m0, hm, hy0, hy1, hy2⟩ := info_parts infoM
  obtain ⟨W, hW⟩ : ∃ W, (w.alloc (.cells #[.slice pw lw.length cw, .slice pc lc.length nc] 36)).alloc (.cells #[.slice none 0 0, .slice none 0 0] 41) = W := ⟨_, rfl⟩
  have K0 : CK w [(⟨w.heap.size, 0, none⟩, .slice pw lw.length cw), (⟨w.heap.size, 1, none⟩, .slice pc lc.length nc)] [] W := by
    have := ((CK.start w).cells #[.slice pw lw.length cw, .slice pc lc.length nc] 36 _ rfl).next ((Below.refl _ _).alloc (Nat.le_refl _) (.cells #[.slice none 0 0, .slice none 0 0] 41))
    rw [hW] at this
    exact this.sub (by simp) (by simp)
  have rz : W.heap[w.heap.size + 1]? = some (.cells #[.slice none 0 0, .slice none 0 0] 41 (0, 0)) := by
    rw [← hW]
    have := heap_alloc_new (w.alloc (.cells #[.slice pw lw.length cw, .slice pc lc.length nc] 36)) (.cells #[.slice none 0 0, .slice none 0 0] 41)
    rwa [World.size_alloc] at this
  obtain ⟨N, hN⟩ : ∃ N, min lw.length 8 = N := ⟨_, rfl⟩
  have hN8 : N ≤ 8 := by omega
  have hNl : N ≤ lw.length := by omega
  have hwl : (wts lw).length = N := by unfold wts; rw [List.length_map, List.length_take]; omega
  have HW := Lib.hid (And.intro hcw (And.intro hzw (And.intro hcc (And.intro hic hwl)))); clear hcw hzw hcc hic hwl
  have HTT := Lib.hid (And.intro hT hND); clear hT hND
  have HK := Lib.hid (And.intro K0 rz); clear K0 rz
  have HNe := Lib.hid hN; clear hN
  obtain ⟨NW, hNW⟩ : ∃ NW, lw.length = NW := ⟨_, rfl⟩
  have HNW := Lib.hid hNW
  rw [hNW] at hNl hlw HK HNe ⊢
  rw [hNW] at hW
  clear hNW
  have hNW8 : ¬ (N < NW) ∨ N = 8 := by have := HNe.out; omega
  have HN8 := Lib.hid hNW8; clear hNW8
  have hNWi : (NW : Int) ≤ 9223372036854775807 := by unfold maxLen at hlw; omega
  go_enter Tryz.func16, Tryz.ntmps16
  go_upto_region 1 with fail
  clear hW
  go_wp2_with fail
  go_loopw [4, 5, 6] (fun a s i wr => ∃ (k : Nat) (z : Int), k ≤ N ∧ s = .int .i64 z ∧ i = .int .i64 (k : Int) ∧ 0 ≤ z ∧ z ≤ 56 ∧ Hid (z = tot (mbs 0 ((wts lw).take k)) ∧ wr.ownsRow W.heap.size 77 3 a k (flat (mbs 0 ((wts lw).take k))) ∧ Below W.heap.size W wr)) (fun _ _ i _ => N - (match i with | .int _ i => i.toNat | _ => 0))
  case atStart => exact ⟨0, 0, Nat.zero_le _, rfl, rfl, by omega, by omega, Lib.hid ⟨rfl, World.ownsRow_nil _ _ _ _, Below.refl _ _⟩⟩
  case round =>
    obtain ⟨k, z, hk, rfl, rfl, hz0', hz1', HQ⟩ := hrel
    have c0 := (HK.out.1.next HQ.out.2.2).get ⟨w.heap.size, 0, none⟩ (.slice pw NW cw) (by simp)
    by_cases hlt : k < N
    · have hk8 : (k : Int) < 8 := by omega
      have hkw : (k : Int) < (NW : Int) := by omega
      obtain ⟨x, hx⟩ : ∃ x, lw[k]? = some x := ⟨lw[k]'(by rw [HNW.out]; omega), List.getElem?_eq_getElem _⟩
      obtain ⟨b, o, hp, hcx⟩ := HW.out.1 k x hx
      subst hp
      have cx := ((HK.out.1.b.trans (HQ.out.2.2.mono HK.out.1.b.size)).cell (p := ⟨b, o + k, none⟩) (World.block_lt_of_cell? _ _ hcx)).trans hcx
      have hxr := HW.out.2.1 x (List.mem_of_getElem? hx)
      have hlk : ((wts lw).take k).length = k := by rw [List.length_take, HW.out.2.2.2.2]; omega
      have hst := mbs_step lw k x hx (by omega) hlk
      have htm := tmod7 x hxr
      obtain ⟨q, hq⟩ : ∃ q, x % 7 = q := ⟨_, rfl⟩
      have hq0 : 0 ≤ q ∧ q ≤ 6 := by omega
      rw [hq] at hst htm
      have hts : z + (1 + q) = tot (mbs 0 ((wts lw).take (k+1))) := by rw [hst, tot_step, HQ.out.1]
      have hzb := mbs_tot ((wts lw).take (k+1)) 0 (fun y hy => wts_rng lw y (List.mem_of_mem_take hy))
      have hzl : ((wts lw).take (k+1)).length ≤ 8 := by rw [List.length_take]; have := wts_len lw; omega
      have hzz : z + (1 + q) ≤ 56 := by omega
      have HX := Lib.hid (And.intro hst hts)
      have hA := Lib.hid (show k + 1 ≤ maxLen ∧ (k + 1) * 24 ≤ 140737488355328 from ⟨by unfold maxLen; omega, by omega⟩)
      have w1 : IntKind.u8.wrap q = q := by
        show q % 256 = q
        omega
      clear hcx hst hts hzb hzl hlk hq
      obtain ⟨hx0, hx1⟩ := hxr
      obtain ⟨hq1, hq2⟩ := hq0
      go_wp2_with (at_builtin; go_must (refine wpList_append_lies _ rfl _ _ 75 rfl W.heap.size 77 m0 (.agg #[.int .i64 0, .int .i64 0, .int .i64 0]) 3 24 Tryz.underlying75 hm hy0 hy1 hy2 rfl (by decide) _ k (flat (mbs 0 ((wts lw).take k))) rfl (HQ.out.2.1.alloc _) ⟨wr.heap.size, 0, none⟩ 1 1 [.int .i64 ((k : Int) + 1), .int .i64 (1 + q), .int .i64 0] rfl rfl (World.news_of_block (heap_alloc_new _ _)) (by simp [Value.oneCell']) Nat.zero_lt_one hA.out.1 hA.out.2 (by rw [World.size_alloc]; exact Nat.le_succ_of_le HQ.out.2.2.size) _ rfl ?_); intro g9 c9 w9 hown9 hgrow9 hat9 hlt9)
      have hb9 : Below W.heap.size W w9 := (HQ.out.2.2.alloc HQ.out.2.2.size (.cells #[.int .i64 ((k : Int) + 1), .int .i64 (1 + q), .int .i64 0] 77)).grown hgrow9 (by rw [World.size_alloc]; exact Nat.le_succ_of_le HQ.out.2.2.size) (fun r hr => (HQ.out.2.1.lt r hr).1)
      have K9 := Lib.hid (show z + (1 + q) = tot (mbs 0 ((wts lw).take (k+1))) ∧ w9.ownsRow W.heap.size 77 3 (.slice (some ⟨g9, 0, none⟩) (k + 1) c9) (k + 1) (flat (mbs 0 ((wts lw).take (k+1)))) ∧ Below W.heap.size W w9 from ⟨HX.out.2, by rw [HX.out.1, flat_append]; exact hown9, hb9⟩)
      clear hown9 hgrow9 hat9 hlt9 hb9 cx c0 HQ
      try go_wp2
      exact ⟨⟨k + 1, z + (1 + q), by omega, by go_num, by go_num, by omega, by omega, K9⟩, by simp; omega⟩
    · obtain rfl : k = N := by omega
      have hE : (wts lw).take k = wts lw := List.take_of_length_le (by rw [HW.out.2.2.2.2]; exact Nat.le_refl _)
      rw [hE] at HQ
      have HK1 : Hid (CK w [(⟨w.heap.size, 0, none⟩, .slice pw NW cw), (⟨w.heap.size, 1, none⟩, .slice pc lc.length nc)] [] wr ∧ wr.heap[w.heap.size + 1]? = some (.cells #[.slice none 0 0, .slice none 0 0] 41 (0, 0))) := Lib.hid ⟨HK.out.1.next HQ.out.2.2, (HQ.out.2.2.block _ (Array.getElem?_eq_some_iff.1 HK.out.2).1).trans HK.out.2⟩
      by_cases hk0 : k = 0
      · subst hk0
        obtain ⟨p4, c4, rfl⟩ := own_shape HQ.out.2.1
        have hw0 : wts lw = [] := List.length_eq_zero_iff.1 HW.out.2.2.2.2
        have hmb : mbl lw = [(1, 5, 0)] := by unfold mbl wt0; rw [if_pos hw0]; rfl
        have hT5 : T = 5 := by rw [← HTT.out.1, hmb]; rfl
        subst hT5
        have hNn : ¬ ((0 : Int) < NW ∧ (0 : Int) < 8) := by have := HN8.out; omega
        have hNW0 : NW = 0 := by have := HNe.out; omega
        subst hNW0
        have HM : Hid (MbL (wr.alloc (.cells #[.int .i64 1, .int .i64 5, .int .i64 0] 77)) (.slice (some ⟨wr.heap.size, 0, none⟩) 1 1) (mbl lw)) := Lib.hid (MbL.new wr (mbl lw) (by rw [hmb]; intro s hs; obtain rfl := List.mem_singleton.1 hs; exact ⟨⟨by decide, by decide⟩, ⟨by decide, by decide⟩, ⟨by decide, by decide⟩⟩) (by rw [hmb]; simp) #[.int .i64 1, .int .i64 5, .int .i64 0] (by rw [hmb]; rfl) 77 1 1 (by rw [hmb]; rfl))
        have bA : Below wr.heap.size wr (wr.alloc (.cells #[.int .i64 1, .int .i64 5, .int .i64 0] 77)) := (Below.refl _ _).alloc (Nat.le_refl _) _
        have HK2 := Lib.hid (And.intro (HK1.out.1.next bA) ((bA.block _ (Array.getElem?_eq_some_iff.1 HK1.out.2).1).trans HK1.out.2))
        clear hw0 hmb hNn bA HQ hE
        go_upto_region 12 with fail
        generalize wr.alloc (.cells #[.int .i64 1, .int .i64 5, .int .i64 0] 77) = V12 at *
        generalize wr.heap.size = g12 at *
        go_wp2_with fail
        refine (PT.out V12 _ HM.out).mono ?_
        rintro e w2 ⟨⟨pv, rfl, hL⟩, b2⟩
        obtain ⟨pq, cq, rfl⟩ : ∃ p c, pv = .slice p (LP lw).length c := own_shape hL.choose_spec.1
        have HKL := Lib.hid (And.intro (HK2.out.1.next b2) (And.intro ((b2.block _ (Array.getElem?_eq_some_iff.1 HK2.out.2).1).trans HK2.out.2) (And.intro hL b2.size)))
        have hVw : w.heap.size + 1 < V12.heap.size := (Array.getElem?_eq_some_iff.1 HK2.out.2).1
        have HVw := Lib.hid hVw
        clear b2 hL HK2 HM c0 hVw
        go_wp2_with fail
        refine (NDc.out _).mono ?_
        rintro e w3 ⟨rfl, hw3⟩
        replace hw3 := hw3.symm
        subst hw3
        go_upto_region 16 with fail
        obtain ⟨V15, hV15⟩ : ∃ V, w2.alloc (.cells #[.slice none 0 0, .slice pq (LP lw).length cq] 41) = V := ⟨_, rfl⟩
        rw [hV15]
        obtain ⟨pv, hpv⟩ : ∃ pv, Value.slice pq (LP lw).length cq = pv := ⟨_, rfl⟩
        have HMK := Lib.hid (show MK w2 w2.heap.size (.slice none 0 0) (.slice none 0 0) (.slice pq (LP lw).length cq) ((cfs lw lc).take 0) ((cms lw lc).take 0) V15 from by
          rw [← hV15]
          exact ⟨(Below.refl _ w2).alloc (Nat.le_refl _) _, Nat.le_refl _, heap_alloc_new _ _, World.ownsRow_nil _ _ _ _, World.ownsRow_nil _ _ _ _, fun g h => by cases h⟩)
        have hBw : w.heap.size + 1 < w2.heap.size := (Array.getElem?_eq_some_iff.1 HKL.out.2.1).1
        have HBw := Lib.hid hBw
        clear hV15 hBw
        obtain ⟨BK, hBK⟩ : ∃ b, w2.heap.size = b := ⟨_, rfl⟩
        rw [hBK] at HMK HBw ⊢
        have HBK := Lib.hid hBK; clear hBK
        obtain ⟨W0, hW0⟩ : ∃ V, V = w2 := ⟨_, rfl⟩
        rw [← hW0] at HMK HKL HBK
        clear hW0 hpv pv
        obtain ⟨NP, hNP⟩ : ∃ n, (LP lw).length = n := ⟨_, rfl⟩
        rw [hNP] at HMK HKL ⊢
        clear hNP
        obtain ⟨NC, hNC⟩ : ∃ n, lc.length = n := ⟨_, rfl⟩
        have HNC := Lib.hid hNC
        rw [hNC] at HKL hlc HK1 ⊢
        clear hNC
        have hNCi : (NC : Int) ≤ 9223372036854775807 := by unfold maxLen at hlc; omega
        clear hlc
        go_wp2_with fail
        go_loopw [11, 13] (fun a i wr => ∃ (k : Nat) (kv : Value), k ≤ ND ∧ i = .int .i64 (k : Int) ∧ Hid (MK W0 BK a kv (.slice pq NP cq) ((cfs lw lc).take k) ((cms lw lc).take k) wr)) (fun _ i _ => ND - (match i with | .int _ i => i.toNat | _ => 0))
        case atStart => exact ⟨0, _, Nat.zero_le _, rfl, HMK⟩
        case round =>
          obtain ⟨k, kv, hk, rfl, HQ⟩ := hrel
          have HCc := Lib.hid ((HKL.out.1.next HQ.out.bl))
          have c1 := HCc.out.get ⟨w.heap.size, 1, none⟩ (.slice pc NC nc) (by simp)
          by_cases hlt : k < ND
          · obtain ⟨n9, hn9⟩ : ∃ n, cf lc k = n := ⟨_, rfl⟩
            obtain ⟨y, hy⟩ : ∃ y, pp 4 n9 = y := ⟨_, rfl⟩
            have hnr : i64 n9 := by have := cf_rng lc k (by omega); rw [hn9] at this; exact ⟨by omega, by omega⟩
            have HT := Lib.hid (show (cfs lw lc).take (k+1) = (cfs lw lc).take k ++ [n9] ∧ (cms lw lc).take (k+1) = (cms lw lc).take k ++ [y] from ⟨by rw [cfs_take lw lc k (by rw [HTT.out.2]; exact hlt), hn9], by rw [cms_take lw lc k (by rw [HTT.out.2]; exact hlt), hn9, hy]⟩)
            have HLk := Lib.hid (show ((cfs lw lc).take k).length = k ∧ ((cms lw lc).take k).length = k from ⟨by rw [List.length_take, cfs_len, HTT.out.2]; omega, by rw [List.length_take, cms_len, HTT.out.2]; omega⟩)
            have HA := Lib.hid (show k + 1 ≤ maxLen ∧ (k + 1) * 8 ≤ 140737488355328 from ⟨by unfold maxLen; omega, by omega⟩)
            have PWk : Hid (∀ W, Calls Tryz.prog 39 #[.int .i64 4, .int .i64 n9, .int .i64 2305843009213691579] W fun e w' => e = .returned (.int .i64 y) ∧ w' = W) := Lib.hid fun W => PWc.out W n9 y hy hnr
            have ha1 : 2 * (k : Int) ≤ 9223372036854775807 := by omega
            have ha2 : 3 + 2 * (k : Int) ≤ 9223372036854775807 := by omega
            clear hy
            by_cases hl0 : NC = 0
            · have hle : lc = [] := List.length_eq_zero_iff.1 (by rw [HNC.out]; exact hl0)
              have hn3 : 3 + 2 * (k : Int) = n9 := by rw [← hn9]; unfold cf; rw [if_pos hle]
              have HN3 := Lib.hid hn3
              subst hl0
              clear hn9 hn3 hle hnr
              have ho := HQ.out.ox
              rw [HLk.out.1] at ho
              have HO := Lib.hid ho; clear ho
              go_upto_region 22 with fail
              rw [HN3.out]
              go_wp2_with (at_builtin; go_must (refine wpList_append_lies _ rfl _ _ 34 rfl (BK + 1) 3 i0 (.int .i64 0) 1 8 Tryz.underlying34 hi hz0 hz1 hz2 rfl (by decide) _ k (((cfs lw lc).take k).map (Value.int .i64)) rfl (HO.out.alloc _) ⟨wr.heap.size, 0, none⟩ 1 1 [.int .i64 n9] rfl rfl (World.news_of_block (heap_alloc_new _ _)) (by simp [Value.oneCell']) Nat.zero_lt_one HA.out.1 HA.out.2 (by rw [World.size_alloc]; have := (Array.getElem?_eq_some_iff.1 HQ.out.rk).1; omega) _ rfl ?_); intro g7 c7 v1 hown9 hgrow9 hat9 hlt9)
              have hM := (HQ.out.next ((Below.refl _ wr).alloc (Nat.le_refl _) (.cells #[.int .i64 n9] 3))).appX n9 (g := g7) (cap := c7) rfl (by rw [HLk.out.1]; exact hown9) hgrow9 hat9
              rw [HLk.out.1] at hM
              clear hown9 hgrow9 hat9 hlt9 HO HQ
              try clear HM1
              try clear c1
              try clear HCc
              go_upto_region 23 with fail
              have HMh := Lib.hid (hM.next (Below.refl _ v1).drew)
              clear hM
              refine wp_region_held_drew (S := fun _ => True) (by kernel_rfl) trivial (fun hS => ?_)
              have hM := HMh.out
              clear HMh
              generalize World.drew v1 = v1 at hM ⊢
              refine wpAnyH_take (i := 0) (v := ?vp0a10) rfl (by kernel_rfl) (by kernel_rfl) (by kernel_rfl) (fun _ _ _ h => h) (Or.inl ⟨by rfl, ?yp0a10⟩) hS ?rp0a10
              case yp0a10 => (intro w hS; go_simp; try with_reducible rfl)
              go_simp
              refine wpAnyH_take (i := 2) (v := ?vp0a12) rfl (by kernel_rfl) (by kernel_rfl) (by kernel_rfl) (fun _ _ _ h => h) (Or.inl ⟨by rfl, ?yp0a12⟩) hS ?rp0a12
              case yp0a12 => (intro w hS; go_simp; try with_reducible rfl)
              go_simp
              refine wpAnyH_ready (rs := [1, 3]) (by kernel_rfl) (by simp) ?_
              refine (AllReadyH.cons (o := { dst := some 87, op := .load 34 (.tmp 86), type := 34, pos := "ref.go:139", after := #[⟨0, .data⟩], guard := none }) rfl (fun K hK => ?_) (AllReadyH.cons (o := { dst := some 89, op := .call { callee := .value (.func 39), args := #[.const (.int .i64 4), .tmp 88, .const (.int .i64 2305843009213691579)], argTypes := #[3, 3, 3] }, type := 3, pos := "ref.go:139", after := #[⟨2, .data⟩], guard := none }) rfl (fun K hK => ?_) AllReadyH.nil))
              · have c0 := cell_of_row _ BK 0 _ _ _ hM.rk
                try dsimp only at c0
                go_simp
                refine hK.out _ _ trivial (fun hS => ?_)
                clear hK K c0
                refine wpAnyH_ready (rs := [3]) (by kernel_rfl) (by simp) ?_
                refine (AllReadyH.cons (o := { dst := some 89, op := .call { callee := .value (.func 39), args := #[.const (.int .i64 4), .tmp 88, .const (.int .i64 2305843009213691579)], argTypes := #[3, 3, 3] }, type := 3, pos := "ref.go:139", after := #[⟨2, .data⟩], guard := none }) rfl (fun K hK => ?_) AllReadyH.nil)
                go_simp
                go_at_call 39
                refine (PWk.out _).mono ?_
                rintro e w8 ⟨rfl, hw8⟩
                replace hw8 := hw8.symm
                subst hw8
                try go_simp
                refine hK.out _ _ trivial (fun hS => ?_)
                clear hK K
                refine wpAnyH_ready (rs := [4]) (by kernel_rfl) (by simp) ?_
                refine (AllReadyH.cons (o := { dst := some 90, op := .buildSlice 34 1 #[(0, .tmp 89)], type := 34, pos := "ref.go:139", after := #[⟨3, .data⟩], guard := none }) rfl (fun K hK => ?_) AllReadyH.nil)
                go_simp
                have hN := heap_alloc_new v1 (.cells #[.int .i64 y] 3)
                have hM2 := hM.next ((Below.refl _ v1).alloc (Nat.le_refl _) (.cells #[.int .i64 y] 3))
                clear hM
                refine hK.out _ _ trivial (fun hS => ?_)
                clear hK K
                obtain ⟨g8, hg8⟩ : ∃ g, v1.heap.size = g := ⟨_, rfl⟩
                rw [hg8] at hN ⊢
                obtain ⟨v2, hV9⟩ : ∃ V, World.alloc v1 (.cells #[.int .i64 y] 3) = V := ⟨_, rfl⟩
                rw [hV9] at hM2 hN ⊢
                have hM := hM2
                clear hV9 hg8 hM2
                refine wpAnyH_ready (rs := [5]) (by kernel_rfl) (by simp) ?_
                refine (AllReadyH.cons (o := { dst := some 91, op := .call { callee := .builtin .append, args := #[.tmp 87, .tmp 90], argTypes := #[34, 34] }, type := 34, pos := "ref.go:139", after := #[⟨1, .data⟩, ⟨4, .data⟩, ⟨3, .chain⟩], guard := none }) rfl (fun K hK => ?_) AllReadyH.nil)
                refine step_append_lies _ rfl _ _ 34 rfl (BK + 1) 3 i0 (.int .i64 0) 1 8 Tryz.underlying34 hi hz0 hz1 hz2 rfl (by decide) _ k (((cms lw lc).take k).map (Value.int .i64)) rfl (by have := hM.oy; rwa [HLk.out.2] at this) ⟨g8, 0, none⟩ 1 1 [.int .i64 y] rfl rfl (World.news_of_block hN) (by simp [Value.oneCell']) Nat.zero_lt_one HA.out.1 HA.out.2 (by have := (Array.getElem?_eq_some_iff.1 hM.rk).1; omega) _ rfl ?_
                intro g9 c9 w9 hown9 hgrow9 hat9 hlt9
                obtain ⟨e0, f0, hM9⟩ := hM.appY y rfl (by rw [HLk.out.2]; exact hown9) hgrow9 hat9
                clear hM hown9 hgrow9 hat9 hlt9 hN
                refine hK.out _ _ trivial (fun hS => ?_)
                clear hK K
                refine wpAnyH_take (i := 6) (v := ?vpaa16) rfl (by kernel_rfl) (by kernel_rfl) (by kernel_rfl) (fun _ _ _ h => h) (Or.inl ⟨by rfl, ?ypaa16⟩) hS ?rpaa16
                case ypaa16 => (intro w hS; go_simp; try with_reducible rfl)
                go_simp
                refine wpAnyH_ready (rs := [7]) (by kernel_rfl) (by simp) ?_
                refine (AllReadyH.cons (o := { dst := none, op := .store 34 (.tmp 92) (.tmp 91), type := 0, pos := "ref.go:139", after := #[⟨6, .data⟩, ⟨5, .data⟩, ⟨5, .chain⟩, ⟨0, .phase⟩, ⟨1, .phase⟩, ⟨2, .phase⟩, ⟨3, .phase⟩, ⟨4, .phase⟩, ⟨5, .phase⟩], guard := none }) rfl (fun K hK => ?_) AllReadyH.nil)
                go_simp
                refine hK.out _ _ trivial (fun hS => ?_)
                clear hK K e0 f0
                refine wpAnyH_done (by kernel_rfl) ?_ _
                rw [HLk.out.2] at hM9
                have KQ := Lib.hid (show MK W0 BK _ (.slice (some ⟨g9, 0, none⟩) (k + 1) c9) (.slice pq NP cq) ((cfs lw lc).take (k+1)) ((cms lw lc).take (k+1)) _ from by rw [HT.out.1, HT.out.2]; exact hM9)
                clear hM9 hS
                try go_wp2
                exact ⟨⟨k + 1, _, by omega, by go_num, KQ⟩, by simp; omega⟩
              · go_simp
                go_at_call 39
                refine (PWk.out _).mono ?_
                rintro e w8 ⟨rfl, hw8⟩
                replace hw8 := hw8.symm
                subst hw8
                try go_simp
                refine hK.out _ _ trivial (fun hS => ?_)
                clear hK K
                refine wpAnyH_ready (rs := [1, 4]) (by kernel_rfl) (by simp) ?_
                refine (AllReadyH.cons (o := { dst := some 87, op := .load 34 (.tmp 86), type := 34, pos := "ref.go:139", after := #[⟨0, .data⟩], guard := none }) rfl (fun K hK => ?_) (AllReadyH.cons (o := { dst := some 90, op := .buildSlice 34 1 #[(0, .tmp 89)], type := 34, pos := "ref.go:139", after := #[⟨3, .data⟩], guard := none }) rfl (fun K hK => ?_) AllReadyH.nil))
                · have c0 := cell_of_row _ BK 0 _ _ _ hM.rk
                  try dsimp only at c0
                  go_simp
                  refine hK.out _ _ trivial (fun hS => ?_)
                  clear hK K c0
                  refine wpAnyH_ready (rs := [4]) (by kernel_rfl) (by simp) ?_
                  refine (AllReadyH.cons (o := { dst := some 90, op := .buildSlice 34 1 #[(0, .tmp 89)], type := 34, pos := "ref.go:139", after := #[⟨3, .data⟩], guard := none }) rfl (fun K hK => ?_) AllReadyH.nil)
                  go_simp
                  have hN := heap_alloc_new v1 (.cells #[.int .i64 y] 3)
                  have hM2 := hM.next ((Below.refl _ v1).alloc (Nat.le_refl _) (.cells #[.int .i64 y] 3))
                  clear hM
                  refine hK.out _ _ trivial (fun hS => ?_)
                  clear hK K
                  obtain ⟨g8, hg8⟩ : ∃ g, v1.heap.size = g := ⟨_, rfl⟩
                  rw [hg8] at hN ⊢
                  obtain ⟨v2, hV9⟩ : ∃ V, World.alloc v1 (.cells #[.int .i64 y] 3) = V := ⟨_, rfl⟩
                  rw [hV9] at hM2 hN ⊢
                  have hM := hM2
                  clear hV9 hg8 hM2
                  refine wpAnyH_ready (rs := [5]) (by kernel_rfl) (by simp) ?_
                  refine (AllReadyH.cons (o := { dst := some 91, op := .call { callee := .builtin .append, args := #[.tmp 87, .tmp 90], argTypes := #[34, 34] }, type := 34, pos := "ref.go:139", after := #[⟨1, .data⟩, ⟨4, .data⟩, ⟨3, .chain⟩], guard := none }) rfl (fun K hK => ?_) AllReadyH.nil)
                  refine step_append_lies _ rfl _ _ 34 rfl (BK + 1) 3 i0 (.int .i64 0) 1 8 Tryz.underlying34 hi hz0 hz1 hz2 rfl (by decide) _ k (((cms lw lc).take k).map (Value.int .i64)) rfl (by have := hM.oy; rwa [HLk.out.2] at this) ⟨g8, 0, none⟩ 1 1 [.int .i64 y] rfl rfl (World.news_of_block hN) (by simp [Value.oneCell']) Nat.zero_lt_one HA.out.1 HA.out.2 (by have := (Array.getElem?_eq_some_iff.1 hM.rk).1; omega) _ rfl ?_
                  intro g9 c9 w9 hown9 hgrow9 hat9 hlt9
                  obtain ⟨e0, f0, hM9⟩ := hM.appY y rfl (by rw [HLk.out.2]; exact hown9) hgrow9 hat9
                  clear hM hown9 hgrow9 hat9 hlt9 hN
                  refine hK.out _ _ trivial (fun hS => ?_)
                  clear hK K
                  refine wpAnyH_take (i := 6) (v := ?vpba16) rfl (by kernel_rfl) (by kernel_rfl) (by kernel_rfl) (fun _ _ _ h => h) (Or.inl ⟨by rfl, ?ypba16⟩) hS ?rpba16
                  case ypba16 => (intro w hS; go_simp; try with_reducible rfl)
                  go_simp
                  refine wpAnyH_ready (rs := [7]) (by kernel_rfl) (by simp) ?_
                  refine (AllReadyH.cons (o := { dst := none, op := .store 34 (.tmp 92) (.tmp 91), type := 0, pos := "ref.go:139", after := #[⟨6, .data⟩, ⟨5, .data⟩, ⟨5, .chain⟩, ⟨0, .phase⟩, ⟨1, .phase⟩, ⟨2, .phase⟩, ⟨3, .phase⟩, ⟨4, .phase⟩, ⟨5, .phase⟩], guard := none }) rfl (fun K hK => ?_) AllReadyH.nil)
                  go_simp
                  refine hK.out _ _ trivial (fun hS => ?_)
                  clear hK K e0 f0
                  refine wpAnyH_done (by kernel_rfl) ?_ _
                  rw [HLk.out.2] at hM9
                  have KQ := Lib.hid (show MK W0 BK _ (.slice (some ⟨g9, 0, none⟩) (k + 1) c9) (.slice pq NP cq) ((cfs lw lc).take (k+1)) ((cms lw lc).take (k+1)) _ from by rw [HT.out.1, HT.out.2]; exact hM9)
                  clear hM9 hS
                  try go_wp2
                  exact ⟨⟨k + 1, _, by omega, by go_num, KQ⟩, by simp; omega⟩
                · go_simp
                  have hN := heap_alloc_new v1 (.cells #[.int .i64 y] 3)
                  have hM2 := hM.next ((Below.refl _ v1).alloc (Nat.le_refl _) (.cells #[.int .i64 y] 3))
                  clear hM
                  refine hK.out _ _ trivial (fun hS => ?_)
                  clear hK K
                  obtain ⟨g8, hg8⟩ : ∃ g, v1.heap.size = g := ⟨_, rfl⟩
                  rw [hg8] at hN ⊢
                  obtain ⟨v2, hV9⟩ : ∃ V, World.alloc v1 (.cells #[.int .i64 y] 3) = V := ⟨_, rfl⟩
                  rw [hV9] at hM2 hN ⊢
                  have hM := hM2
                  clear hV9 hg8 hM2
                  refine wpAnyH_ready (rs := [1]) (by kernel_rfl) (by simp) ?_
                  refine (AllReadyH.cons (o := { dst := some 87, op := .load 34 (.tmp 86), type := 34, pos := "ref.go:139", after := #[⟨0, .data⟩], guard := none }) rfl (fun K hK => ?_) AllReadyH.nil)
                  have c0 := cell_of_row _ BK 0 _ _ _ hM.rk
                  try dsimp only at c0
                  go_simp
                  refine hK.out _ _ trivial (fun hS => ?_)
                  clear hK K c0
                  refine wpAnyH_ready (rs := [5]) (by kernel_rfl) (by simp) ?_
                  refine (AllReadyH.cons (o := { dst := some 91, op := .call { callee := .builtin .append, args := #[.tmp 87, .tmp 90], argTypes := #[34, 34] }, type := 34, pos := "ref.go:139", after := #[⟨1, .data⟩, ⟨4, .data⟩, ⟨3, .chain⟩], guard := none }) rfl (fun K hK => ?_) AllReadyH.nil)
                  refine step_append_lies _ rfl _ _ 34 rfl (BK + 1) 3 i0 (.int .i64 0) 1 8 Tryz.underlying34 hi hz0 hz1 hz2 rfl (by decide) _ k (((cms lw lc).take k).map (Value.int .i64)) rfl (by have := hM.oy; rwa [HLk.out.2] at this) ⟨g8, 0, none⟩ 1 1 [.int .i64 y] rfl rfl (World.news_of_block hN) (by simp [Value.oneCell']) Nat.zero_lt_one HA.out.1 HA.out.2 (by have := (Array.getElem?_eq_some_iff.1 hM.rk).1; omega) _ rfl ?_
                  intro g9 c9 w9 hown9 hgrow9 hat9 hlt9
                  obtain ⟨e0, f0, hM9⟩ := hM.appY y rfl (by rw [HLk.out.2]; exact hown9) hgrow9 hat9
                  clear hM hown9 hgrow9 hat9 hlt9 hN
                  refine hK.out _ _ trivial (fun hS => ?_)
                  clear hK K
                  refine wpAnyH_take (i := 6) (v := ?vpca16) rfl (by kernel_rfl) (by kernel_rfl) (by kernel_rfl) (fun _ _ _ h => h) (Or.inl ⟨by rfl, ?ypca16⟩) hS ?rpca16
                  case ypca16 => (intro w hS; go_simp; try with_reducible rfl)
                  go_simp
                  refine wpAnyH_ready (rs := [7]) (by kernel_rfl) (by simp) ?_
                  refine (AllReadyH.cons (o := { dst := none, op := .store 34 (.tmp 92) (.tmp 91), type := 0, pos := "ref.go:139", after := #[⟨6, .data⟩, ⟨5, .data⟩, ⟨5, .chain⟩, ⟨0, .phase⟩, ⟨1, .phase⟩, ⟨2, .phase⟩, ⟨3, .phase⟩, ⟨4, .phase⟩, ⟨5, .phase⟩], guard := none }) rfl (fun K hK => ?_) AllReadyH.nil)
                  go_simp
                  refine hK.out _ _ trivial (fun hS => ?_)
                  clear hK K e0 f0
                  refine wpAnyH_done (by kernel_rfl) ?_ _
                  rw [HLk.out.2] at hM9
                  have KQ := Lib.hid (show MK W0 BK _ (.slice (some ⟨g9, 0, none⟩) (k + 1) c9) (.slice pq NP cq) ((cfs lw lc).take (k+1)) ((cms lw lc).take (k+1)) _ from by rw [HT.out.1, HT.out.2]; exact hM9)
                  clear hM9 hS
                  try go_wp2
                  exact ⟨⟨k + 1, _, by omega, by go_num, KQ⟩, by simp; omega⟩
            · have hle : lc ≠ [] := fun e => hl0 (by rw [← HNC.out, e]; rfl)
              have hNC0 : (0 : Int) < (NC : Int) := by omega
              have hNC1 : ¬ (NC : Int) = 0 := by omega
              have hr1 : Int.tmod (k : Int) (NC : Int) = ((k % NC : Nat) : Int) := by rw [Int.tmod_eq_emod_of_nonneg (by omega)]; rfl
              have hmodlt : k % NC < NC := Nat.mod_lt _ (by omega)
              obtain ⟨x, hx⟩ : ∃ x, lc[k % NC]? = some x := ⟨lc[k % NC]'(by rw [HNC.out]; exact hmodlt), List.getElem?_eq_getElem _⟩
              have hcf : wrap64 (x + (k : Int)) % 1152921504606845789 = n9 := by
                rw [← hn9]; unfold cf; rw [if_neg hle, HNC.out, List.getD_eq_getElem?_getD, hx]; rfl
              obtain ⟨b, o, hp, hcx⟩ := HW.out.2.2.1 _ x hx
              subst hp
              have cx := (HCc.out.b.cell (p := ⟨b, o + k % NC, none⟩) (World.block_lt_of_cell? _ _ hcx)).trans hcx
              have hwi : i64 (wrap64 (x + (k : Int))) := ⟨by unfold wrap64; omega, by unfold wrap64; omega⟩
              obtain ⟨s9, hs9⟩ : ∃ s, wrap64 (x + (k : Int)) = s := ⟨_, rfl⟩
              rw [hs9] at hcf hwi
              have hs9' : IntKind.i64.wrap (x + (k : Int)) = s9 := by rw [IntKind.wrap_i64, ← hs9]; unfold wrap64; rfl
              have MD : Hid (∀ W, Calls Tryz.prog 43 #[.int .i64 s9, .int .i64 1152921504606845789] W fun e w' => e = .returned (.int .i64 n9) ∧ Below W.heap.size W w') := Lib.hid fun W => MDc.out W s9 n9 hcf hwi
              obtain ⟨m9, hm9⟩ : ∃ m, k % NC = m := ⟨_, rfl⟩
              rw [hm9] at hr1 hmodlt cx
              clear hn9 hnr hx hcf hcx hwi hm9 hle
              have HCx : Hid (CK w [(⟨w.heap.size, 1, none⟩, .slice (some ⟨b, o, none⟩) NC nc), (⟨b, o + m9, none⟩, .int .i64 x)] [] wr) := Lib.hid ⟨HCc.out.b, fun q hq => by
                simp only [List.mem_cons, List.not_mem_nil, or_false] at hq
                rcases hq with rfl | rfl
                · exact c1
                · exact cx, fun q hq => by cases hq⟩
              have hm9l : (m9 : Int) < (NC : Int) := by omega
              have HM1 := HQ
              clear cx hs9
              go_upto_region 21 with fail
              replace HM1 := Lib.hid (HM1.out.next (Below.refl _ wr).drew)
              refine wp_region_held_drew (S := CK w [(⟨w.heap.size, 1, none⟩, .slice (some ⟨b, o, none⟩) NC nc), (⟨b, o + m9, none⟩, .int .i64 x)] []) (by kernel_rfl) HCx.out.drew (fun hS => ?_)
              refine wpAnyH_take (i := 0) (v := ?vpma0) rfl (by kernel_rfl) (by kernel_rfl) (by kernel_rfl) (fun _ _ _ h => h) (Or.inl ⟨by rfl, ?ypma0⟩) hS ?rpma0
              case ypma0 => (intro w hS; go_simp; try with_reducible rfl)
              refine wpAnyH_take (i := 2) (v := ?vpma2) rfl (by kernel_rfl) (by kernel_rfl) (by kernel_rfl) (fun _ _ _ h => h) (Or.inl ⟨by rfl, ?ypma2⟩) hS ?rpma2
              case ypma2 => (intro w hS; go_simp; try with_reducible rfl)
              refine wpAnyH_take (i := 3) (v := ?vpma3) rfl (by kernel_rfl) (by kernel_rfl) (by kernel_rfl) (fun _ _ _ h => h) (Or.inl ⟨by rfl, ?ypma3⟩) hS ?rpma3
              case ypma3 => (intro w hS; go_simp; try with_reducible rfl)
              refine wpAnyH_take (i := 9) (v := ?vpma9) rfl (by kernel_rfl) (by kernel_rfl) (by kernel_rfl) (fun _ _ _ h => h) (Or.inl ⟨by rfl, ?ypma9⟩) hS ?rpma9
              case ypma9 => (intro w hS; go_simp; try with_reducible rfl)
              go_simp
              refine wpAnyH_take (i := 1) (v := .slice (some ⟨b, o, none⟩) NC nc) rfl (by kernel_rfl) (by kernel_rfl) (by kernel_rfl) (fun _ _ _ h => h) (Or.inl ⟨by rfl, ?ypma1⟩) hS ?rpma1
              case ypma1 => (intro w' hS; have cf := hS.get ⟨w.heap.size, 1, none⟩ (.slice (some ⟨b, o, none⟩) NC nc) (by simp); go_simp; try with_reducible rfl)
              refine wpAnyH_take (i := 4) (v := .slice (some ⟨b, o, none⟩) NC nc) rfl (by kernel_rfl) (by kernel_rfl) (by kernel_rfl) (fun _ _ _ h => h) (Or.inl ⟨by rfl, ?ypma4⟩) hS ?rpma4
              case ypma4 => (intro w' hS; have cf := hS.get ⟨w.heap.size, 1, none⟩ (.slice (some ⟨b, o, none⟩) NC nc) (by simp); go_simp; try with_reducible rfl)
              go_simp
              refine wpAnyH_take (i := 5) (v := ?vpma5) rfl (by kernel_rfl) (by kernel_rfl) (by kernel_rfl) (fun _ _ _ h => h) (Or.inl ⟨by rfl, ?ypma5⟩) hS ?rpma5
              case ypma5 => (intro w hS; go_simp; try with_reducible rfl)
              go_simp
              refine wpAnyH_take (i := 6) (v := ?vpma6) rfl (by kernel_rfl) (by kernel_rfl) (by kernel_rfl) (fun _ _ _ h => h) (Or.inl ⟨by rfl, ?ypma6⟩) hS ?rpma6
              case ypma6 => (intro w hS; go_simp; try with_reducible rfl)
              go_simp
              refine wpAnyH_take (i := 7) (v := ?vpma7) rfl (by kernel_rfl) (by kernel_rfl) (by kernel_rfl) (fun _ _ _ h => h) (Or.inl ⟨by rfl, ?ypma7⟩) hS ?rpma7
              case ypma7 => (intro w hS; go_simp; try with_reducible rfl)
              go_simp
              refine wpAnyH_take (i := 8) (v := .int .i64 x) rfl (by kernel_rfl) (by kernel_rfl) (by kernel_rfl) (fun _ _ _ h => h) (Or.inl ⟨by rfl, ?ypma8⟩) hS ?rpma8
              case ypma8 => (intro w' hS; have cf := hS.get ⟨b, o + m9, none⟩ (.int .i64 x) (by simp); go_simp; try with_reducible rfl)
              go_simp
              refine wpAnyH_take (i := 10) (v := ?vpma10) rfl (by kernel_rfl) (by kernel_rfl) (by kernel_rfl) (fun _ _ _ h => h) (Or.inl ⟨by rfl, ?ypma10⟩) hS ?rpma10
              case ypma10 => (intro w hS; go_simp; try with_reducible rfl)
              go_simp
              refine wpAnyH_ready (rs := [11]) (by kernel_rfl) (by simp) ?_
              refine AllReadyH.cons (o := { dst := some 81, op := .call { callee := .value (.func 43), args := #[.tmp 80, .const (.int .i64 1152921504606845789)], argTypes := #[3, 3] }, type := 3, pos := "ref.go:136", after := #[⟨10, .data⟩], guard := none }) rfl (fun K hK => ?_) AllReadyH.nil
              go_simp
              go_at_call 43
              refine (MD.out _).mono ?_
              rintro e w' ⟨rfl, b⟩
              replace HM1 := Lib.hid (HM1.out.next b)
              have hS2 := hS.next b
              clear b hS
              try go_simp
              refine hK.out _ _ hS2 (fun hS => ?_)
              clear hK K hS2
              refine wpAnyH_take (i := 12) (v := ?vpma12) rfl (by kernel_rfl) (by kernel_rfl) (by kernel_rfl) (fun _ _ _ h => h) (Or.inl ⟨by rfl, ?ypma12⟩) hS ?rpma12
              case ypma12 => (intro w hS; go_simp; try with_reducible rfl)
              refine wpAnyH_done (by kernel_rfl) ?_ _
              have ho := HM1.out.ox
              rw [HLk.out.1] at ho
              have HO := Lib.hid ho; clear ho
              have HQ := HM1
              clear hS HCx c1 HCc
              go_upto_region 22 with fail
              go_wp2_with (at_builtin; go_must (refine wpList_append_lies _ rfl _ _ 34 rfl (BK + 1) 3 i0 (.int .i64 0) 1 8 Tryz.underlying34 hi hz0 hz1 hz2 rfl (by decide) _ k (((cfs lw lc).take k).map (Value.int .i64)) rfl (HO.out.alloc _) ⟨w'.heap.size, 0, none⟩ 1 1 [.int .i64 n9] rfl rfl (World.news_of_block (heap_alloc_new _ _)) (by simp [Value.oneCell']) Nat.zero_lt_one HA.out.1 HA.out.2 (by rw [World.size_alloc]; have := (Array.getElem?_eq_some_iff.1 HQ.out.rk).1; omega) _ rfl ?_); intro g7 c7 v1 hown9 hgrow9 hat9 hlt9)
              have hM := (HQ.out.next ((Below.refl _ w').alloc (Nat.le_refl _) (.cells #[.int .i64 n9] 3))).appX n9 (g := g7) (cap := c7) rfl (by rw [HLk.out.1]; exact hown9) hgrow9 hat9
              rw [HLk.out.1] at hM
              clear hown9 hgrow9 hat9 hlt9 HO HQ
              try clear HM1
              try clear c1
              try clear HCc
              go_upto_region 23 with fail
              have HMh := Lib.hid (hM.next (Below.refl _ v1).drew)
              clear hM
              refine wp_region_held_drew (S := fun _ => True) (by kernel_rfl) trivial (fun hS => ?_)
              have hM := HMh.out
              clear HMh
              generalize World.drew v1 = v1 at hM ⊢
              refine wpAnyH_take (i := 0) (v := ?vp0a20) rfl (by kernel_rfl) (by kernel_rfl) (by kernel_rfl) (fun _ _ _ h => h) (Or.inl ⟨by rfl, ?yp0a20⟩) hS ?rp0a20
              case yp0a20 => (intro w hS; go_simp; try with_reducible rfl)
              go_simp
              refine wpAnyH_take (i := 2) (v := ?vp0a22) rfl (by kernel_rfl) (by kernel_rfl) (by kernel_rfl) (fun _ _ _ h => h) (Or.inl ⟨by rfl, ?yp0a22⟩) hS ?rp0a22
              case yp0a22 => (intro w hS; go_simp; try with_reducible rfl)
              go_simp
              refine wpAnyH_ready (rs := [1, 3]) (by kernel_rfl) (by simp) ?_
              refine (AllReadyH.cons (o := { dst := some 87, op := .load 34 (.tmp 86), type := 34, pos := "ref.go:139", after := #[⟨0, .data⟩], guard := none }) rfl (fun K hK => ?_) (AllReadyH.cons (o := { dst := some 89, op := .call { callee := .value (.func 39), args := #[.const (.int .i64 4), .tmp 88, .const (.int .i64 2305843009213691579)], argTypes := #[3, 3, 3] }, type := 3, pos := "ref.go:139", after := #[⟨2, .data⟩], guard := none }) rfl (fun K hK => ?_) AllReadyH.nil))
              · have c0 := cell_of_row _ BK 0 _ _ _ hM.rk
                try dsimp only at c0
                go_simp
                refine hK.out _ _ trivial (fun hS => ?_)
                clear hK K c0
                refine wpAnyH_ready (rs := [3]) (by kernel_rfl) (by simp) ?_
                refine (AllReadyH.cons (o := { dst := some 89, op := .call { callee := .value (.func 39), args := #[.const (.int .i64 4), .tmp 88, .const (.int .i64 2305843009213691579)], argTypes := #[3, 3, 3] }, type := 3, pos := "ref.go:139", after := #[⟨2, .data⟩], guard := none }) rfl (fun K hK => ?_) AllReadyH.nil)
                go_simp
                go_at_call 39
                refine (PWk.out _).mono ?_
                rintro e w8 ⟨rfl, hw8⟩
                replace hw8 := hw8.symm
                subst hw8
                try go_simp
                refine hK.out _ _ trivial (fun hS => ?_)
                clear hK K
                refine wpAnyH_ready (rs := [4]) (by kernel_rfl) (by simp) ?_
                refine (AllReadyH.cons (o := { dst := some 90, op := .buildSlice 34 1 #[(0, .tmp 89)], type := 34, pos := "ref.go:139", after := #[⟨3, .data⟩], guard := none }) rfl (fun K hK => ?_) AllReadyH.nil)
                go_simp
                have hN := heap_alloc_new v1 (.cells #[.int .i64 y] 3)
                have hM2 := hM.next ((Below.refl _ v1).alloc (Nat.le_refl _) (.cells #[.int .i64 y] 3))
                clear hM
                refine hK.out _ _ trivial (fun hS => ?_)
                clear hK K
                obtain ⟨g8, hg8⟩ : ∃ g, v1.heap.size = g := ⟨_, rfl⟩
                rw [hg8] at hN ⊢
                obtain ⟨v2, hV9⟩ : ∃ V, World.alloc v1 (.cells #[.int .i64 y] 3) = V := ⟨_, rfl⟩
                rw [hV9] at hM2 hN ⊢
                have hM := hM2
                clear hV9 hg8 hM2
                refine wpAnyH_ready (rs := [5]) (by kernel_rfl) (by simp) ?_
                refine (AllReadyH.cons (o := { dst := some 91, op := .call { callee := .builtin .append, args := #[.tmp 87, .tmp 90], argTypes := #[34, 34] }, type := 34, pos := "ref.go:139", after := #[⟨1, .data⟩, ⟨4, .data⟩, ⟨3, .chain⟩], guard := none }) rfl (fun K hK => ?_) AllReadyH.nil)
                refine step_append_lies _ rfl _ _ 34 rfl (BK + 1) 3 i0 (.int .i64 0) 1 8 Tryz.underlying34 hi hz0 hz1 hz2 rfl (by decide) _ k (((cms lw lc).take k).map (Value.int .i64)) rfl (by have := hM.oy; rwa [HLk.out.2] at this) ⟨g8, 0, none⟩ 1 1 [.int .i64 y] rfl rfl (World.news_of_block hN) (by simp [Value.oneCell']) Nat.zero_lt_one HA.out.1 HA.out.2 (by have := (Array.getElem?_eq_some_iff.1 hM.rk).1; omega) _ rfl ?_
                intro g9 c9 w9 hown9 hgrow9 hat9 hlt9
                obtain ⟨e0, f0, hM9⟩ := hM.appY y rfl (by rw [HLk.out.2]; exact hown9) hgrow9 hat9
                clear hM hown9 hgrow9 hat9 hlt9 hN
                refine hK.out _ _ trivial (fun hS => ?_)
                clear hK K
                refine wpAnyH_take (i := 6) (v := ?vpaa26) rfl (by kernel_rfl) (by kernel_rfl) (by kernel_rfl) (fun _ _ _ h => h) (Or.inl ⟨by rfl, ?ypaa26⟩) hS ?rpaa26
                case ypaa26 => (intro w hS; go_simp; try with_reducible rfl)
                go_simp
                refine wpAnyH_ready (rs := [7]) (by kernel_rfl) (by simp) ?_
                refine (AllReadyH.cons (o := { dst := none, op := .store 34 (.tmp 92) (.tmp 91), type := 0, pos := "ref.go:139", after := #[⟨6, .data⟩, ⟨5, .data⟩, ⟨5, .chain⟩, ⟨0, .phase⟩, ⟨1, .phase⟩, ⟨2, .phase⟩, ⟨3, .phase⟩, ⟨4, .phase⟩, ⟨5, .phase⟩], guard := none }) rfl (fun K hK => ?_) AllReadyH.nil)
                go_simp
                refine hK.out _ _ trivial (fun hS => ?_)
                clear hK K e0 f0
                refine wpAnyH_done (by kernel_rfl) ?_ _
                rw [HLk.out.2] at hM9
                have KQ := Lib.hid (show MK W0 BK _ (.slice (some ⟨g9, 0, none⟩) (k + 1) c9) (.slice pq NP cq) ((cfs lw lc).take (k+1)) ((cms lw lc).take (k+1)) _ from by rw [HT.out.1, HT.out.2]; exact hM9)
                clear hM9 hS
                try go_wp2
                exact ⟨⟨k + 1, _, by omega, by go_num, KQ⟩, by simp; omega⟩
              · go_simp
                go_at_call 39
                refine (PWk.out _).mono ?_
                rintro e w8 ⟨rfl, hw8⟩
                replace hw8 := hw8.symm
                subst hw8
                try go_simp
                refine hK.out _ _ trivial (fun hS => ?_)
                clear hK K
                refine wpAnyH_ready (rs := [1, 4]) (by kernel_rfl) (by simp) ?_
                refine (AllReadyH.cons (o := { dst := some 87, op := .load 34 (.tmp 86), type := 34, pos := "ref.go:139", after := #[⟨0, .data⟩], guard := none }) rfl (fun K hK => ?_) (AllReadyH.cons (o := { dst := some 90, op := .buildSlice 34 1 #[(0, .tmp 89)], type := 34, pos := "ref.go:139", after := #[⟨3, .data⟩], guard := none }) rfl (fun K hK => ?_) AllReadyH.nil))
                · have c0 := cell_of_row _ BK 0 _ _ _ hM.rk
                  try dsimp only at c0
                  go_simp
                  refine hK.out _ _ trivial (fun hS => ?_)
                  clear hK K c0
                  refine wpAnyH_ready (rs := [4]) (by kernel_rfl) (by simp) ?_
                  refine (AllReadyH.cons (o := { dst := some 90, op := .buildSlice 34 1 #[(0, .tmp 89)], type := 34, pos := "ref.go:139", after := #[⟨3, .data⟩], guard := none }) rfl (fun K hK => ?_) AllReadyH.nil)
                  go_simp
                  have hN := heap_alloc_new v1 (.cells #[.int .i64 y] 3)
                  have hM2 := hM.next ((Below.refl _ v1).alloc (Nat.le_refl _) (.cells #[.int .i64 y] 3))
                  clear hM
                  refine hK.out _ _ trivial (fun hS => ?_)
                  clear hK K
                  obtain ⟨g8, hg8⟩ : ∃ g, v1.heap.size = g := ⟨_, rfl⟩
                  rw [hg8] at hN ⊢
                  obtain ⟨v2, hV9⟩ : ∃ V, World.alloc v1 (.cells #[.int .i64 y] 3) = V := ⟨_, rfl⟩
                  rw [hV9] at hM2 hN ⊢
                  have hM := hM2
                  clear hV9 hg8 hM2
                  refine wpAnyH_ready (rs := [5]) (by kernel_rfl) (by simp) ?_
                  refine (AllReadyH.cons (o := { dst := some 91, op := .call { callee := .builtin .append, args := #[.tmp 87, .tmp 90], argTypes := #[34, 34] }, type := 34, pos := "ref.go:139", after := #[⟨1, .data⟩, ⟨4, .data⟩, ⟨3, .chain⟩], guard := none }) rfl (fun K hK => ?_) AllReadyH.nil)
                  refine step_append_lies _ rfl _ _ 34 rfl (BK + 1) 3 i0 (.int .i64 0) 1 8 Tryz.underlying34 hi hz0 hz1 hz2 rfl (by decide) _ k (((cms lw lc).take k).map (Value.int .i64)) rfl (by have := hM.oy; rwa [HLk.out.2] at this) ⟨g8, 0, none⟩ 1 1 [.int .i64 y] rfl rfl (World.news_of_block hN) (by simp [Value.oneCell']) Nat.zero_lt_one HA.out.1 HA.out.2 (by have := (Array.getElem?_eq_some_iff.1 hM.rk).1; omega) _ rfl ?_
                  intro g9 c9 w9 hown9 hgrow9 hat9 hlt9
                  obtain ⟨e0, f0, hM9⟩ := hM.appY y rfl (by rw [HLk.out.2]; exact hown9) hgrow9 hat9
                  clear hM hown9 hgrow9 hat9 hlt9 hN
                  refine hK.out _ _ trivial (fun hS => ?_)
                  clear hK K
                  refine wpAnyH_take (i := 6) (v := ?vpba26) rfl (by kernel_rfl) (by kernel_rfl) (by kernel_rfl) (fun _ _ _ h => h) (Or.inl ⟨by rfl, ?ypba26⟩) hS ?rpba26
                  case ypba26 => (intro w hS; go_simp; try with_reducible rfl)
                  go_simp
                  refine wpAnyH_ready (rs := [7]) (by kernel_rfl) (by simp) ?_
                  refine (AllReadyH.cons (o := { dst := none, op := .store 34 (.tmp 92) (.tmp 91), type := 0, pos := "ref.go:139", after := #[⟨6, .data⟩, ⟨5, .data⟩, ⟨5, .chain⟩, ⟨0, .phase⟩, ⟨1, .phase⟩, ⟨2, .phase⟩, ⟨3, .phase⟩, ⟨4, .phase⟩, ⟨5, .phase⟩], guard := none }) rfl (fun K hK => ?_) AllReadyH.nil)
                  go_simp
                  refine hK.out _ _ trivial (fun hS => ?_)
                  clear hK K e0 f0
                  refine wpAnyH_done (by kernel_rfl) ?_ _
                  rw [HLk.out.2] at hM9
                  have KQ := Lib.hid (show MK W0 BK _ (.slice (some ⟨g9, 0, none⟩) (k + 1) c9) (.slice pq NP cq) ((cfs lw lc).take (k+1)) ((cms lw lc).take (k+1)) _ from by rw [HT.out.1, HT.out.2]; exact hM9)
                  clear hM9 hS
                  try go_wp2
                  exact ⟨⟨k + 1, _, by omega, by go_num, KQ⟩, by simp; omega⟩
                · go_simp
                  have hN := heap_alloc_new v1 (.cells #[.int .i64 y] 3)
                  have hM2 := hM.next ((Below.refl _ v1).alloc (Nat.le_refl _) (.cells #[.int .i64 y] 3))
                  clear hM
                  refine hK.out _ _ trivial (fun hS => ?_)
                  clear hK K
                  obtain ⟨g8, hg8⟩ : ∃ g, v1.heap.size = g := ⟨_, rfl⟩
                  rw [hg8] at hN ⊢
                  obtain ⟨v2, hV9⟩ : ∃ V, World.alloc v1 (.cells #[.int .i64 y] 3) = V := ⟨_, rfl⟩
                  rw [hV9] at hM2 hN ⊢
                  have hM := hM2
                  clear hV9 hg8 hM2
                  refine wpAnyH_ready (rs := [1]) (by kernel_rfl) (by simp) ?_
                  refine (AllReadyH.cons (o := { dst := some 87, op := .load 34 (.tmp 86), type := 34, pos := "ref.go:139", after := #[⟨0, .data⟩], guard := none }) rfl (fun K hK => ?_) AllReadyH.nil)
                  have c0 := cell_of_row _ BK 0 _ _ _ hM.rk
                  try dsimp only at c0
                  go_simp
                  refine hK.out _ _ trivial (fun hS => ?_)
                  clear hK K c0
                  refine wpAnyH_ready (rs := [5]) (by kernel_rfl) (by simp) ?_
                  refine (AllReadyH.cons (o := { dst := some 91, op := .call { callee := .builtin .append, args := #[.tmp 87, .tmp 90], argTypes := #[34, 34] }, type := 34, pos := "ref.go:139", after := #[⟨1, .data⟩, ⟨4, .data⟩, ⟨3, .chain⟩], guard := none }) rfl (fun K hK => ?_) AllReadyH.nil)
                  refine step_append_lies _ rfl _ _ 34 rfl (BK + 1) 3 i0 (.int .i64 0) 1 8 Tryz.underlying34 hi hz0 hz1 hz2 rfl (by decide) _ k (((cms lw lc).take k).map (Value.int .i64)) rfl (by have := hM.oy; rwa [HLk.out.2] at this) ⟨g8, 0, none⟩ 1 1 [.int .i64 y] rfl rfl (World.news_of_block hN) (by simp [Value.oneCell']) Nat.zero_lt_one HA.out.1 HA.out.2 (by have := (Array.getElem?_eq_some_iff.1 hM.rk).1; omega) _ rfl ?_
                  intro g9 c9 w9 hown9 hgrow9 hat9 hlt9
                  obtain ⟨e0, f0, hM9⟩ := hM.appY y rfl (by rw [HLk.out.2]; exact hown9) hgrow9 hat9
                  clear hM hown9 hgrow9 hat9 hlt9 hN
                  refine hK.out _ _ trivial (fun hS => ?_)
                  clear hK K
                  refine wpAnyH_take (i := 6) (v := ?vpca26) rfl (by kernel_rfl) (by kernel_rfl) (by kernel_rfl) (fun _ _ _ h => h) (Or.inl ⟨by rfl, ?ypca26⟩) hS ?rpca26
                  case ypca26 => (intro w hS; go_simp; try with_reducible rfl)
                  go_simp
                  refine wpAnyH_ready (rs := [7]) (by kernel_rfl) (by simp) ?_
                  refine (AllReadyH.cons (o := { dst := none, op := .store 34 (.tmp 92) (.tmp 91), type := 0, pos := "ref.go:139", after := #[⟨6, .data⟩, ⟨5, .data⟩, ⟨5, .chain⟩, ⟨0, .phase⟩, ⟨1, .phase⟩, ⟨2, .phase⟩, ⟨3, .phase⟩, ⟨4, .phase⟩, ⟨5, .phase⟩], guard := none }) rfl (fun K hK => ?_) AllReadyH.nil)
                  go_simp
                  refine hK.out _ _ trivial (fun hS => ?_)
                  clear hK K e0 f0
                  refine wpAnyH_done (by kernel_rfl) ?_ _
                  rw [HLk.out.2] at hM9
                  have KQ := Lib.hid (show MK W0 BK _ (.slice (some ⟨g9, 0, none⟩) (k + 1) c9) (.slice pq NP cq) ((cfs lw lc).take (k+1)) ((cms lw lc).take (k+1)) _ from by rw [HT.out.1, HT.out.2]; exact hM9)
                  clear hM9 hS
                  try go_wp2
                  exact ⟨⟨k + 1, _, by omega, by go_num, KQ⟩, by simp; omega⟩
          · obtain rfl : k = ND := by omega
            have hEX : (cfs lw lc).take k = cfs lw lc := List.take_of_length_le (by rw [cfs_len, HTT.out.2]; exact Nat.le_refl _)
            have hEY : (cms lw lc).take k = cms lw lc := List.take_of_length_le (by rw [cms_len, HTT.out.2]; exact Nat.le_refl _)
            rw [hEX, hEY] at HQ
            obtain ⟨pk, ck, rfl⟩ := own_shape HQ.out.oy
            obtain ⟨px, cx9, rfl⟩ := own_shape HQ.out.ox
            obtain ⟨kv, hkv⟩ : ∃ v, Value.slice pk (cms lw lc).length ck = v := ⟨_, rfl⟩
            have h1c : (#[Value.slice pk (cms lw lc).length ck, .slice pq NP cq]).all (·.oneCell') = true := by simp [Value.oneCell']
            have hrz := (HQ.out.bl.block _ (by have := HBK.out; have := HBw.out; omega)).trans HKL.out.2.1
            have hne : BK ≠ w.heap.size + 1 := by have := HBw.out; omega
            have hPS := HKL.out.2.2.1.next HQ.out.bl
            obtain ⟨pv, hpv⟩ : ∃ v, Value.slice pq NP cq = v := ⟨_, rfl⟩
            have hrk := HQ.out.rk
            rw [hkv, hpv] at h1c hrk
            have HZ := Lib.hid (show Below w.heap.size w wr.drew ∧ wr.drew.heap[BK]? = some (.cells #[kv, pv] 41 (0, 0)) ∧ wr.drew.heap[w.heap.size + 1]? = some (.cells #[.slice none 0 0, .slice none 0 0] 41 (0, 0)) ∧ (#[kv, pv]).all (·.oneCell') = true ∧ BK ≠ w.heap.size + 1 from ⟨(HCc.out.b).drew, hrk, hrz, h1c, hne⟩)
            have HY := Lib.hid (And.intro hPS (And.intro hkv (And.intro hpv HQ.out)))
            clear h1c hrz hne hPS hrk hkv hpv c1 HCc HQ hEX hEY
            go_upto_region 24 with fail
            refine wp_region_held_drew (S := fun V => Below w.heap.size w V ∧ V.heap[BK]? = some (.cells #[kv, pv] 41 (0, 0))) (by kernel_rfl) ⟨HZ.out.1, HZ.out.2.1⟩ (fun hS => ?_)
            refine wpAnyH_take (i := 0) (v := ?vpza0) rfl (by kernel_rfl) (by kernel_rfl) (by kernel_rfl) (fun _ _ _ h => h) (Or.inl ⟨by rfl, ?ypza0⟩) hS ?rpza0
            case ypza0 => (intro w hS; go_simp; try with_reducible rfl)
            go_simp
            refine wpAnyH_take (i := 1) (v := .agg #[kv, pv]) rfl (by kernel_rfl) (by kernel_rfl) (by kernel_rfl) (fun _ _ _ h => h) (Or.inl ⟨by rfl, ?ypza1⟩) hS ?rpza1
            case ypza1 => (intro w' hS; have cf := cell_of_row _ BK 0 _ _ _ hS.2; have cg := cell_of_row _ BK 1 _ _ _ hS.2; (try dsimp only at cf cg); go_simp; try with_reducible rfl)
            go_simp
            refine wpAnyH_take (i := 2) (v := ?vpza2) rfl (by kernel_rfl) (by kernel_rfl) (by kernel_rfl) (fun _ _ _ h => h) (Or.inl ⟨by rfl, ?ypza2⟩) hS ?rpza2
            case ypza2 => (intro w hS; go_simp; try with_reducible rfl)
            go_simp
            refine wpAnyH_ready (rs := [3]) (by kernel_rfl) (by simp) ?_
            refine AllReadyH.cons (o := { dst := none, op := .store 41 (.tmp 3) (.tmp 94), type := 0, pos := "ref.go:141", after := #[⟨1, .data⟩, ⟨2, .chain⟩, ⟨0, .phase⟩, ⟨1, .phase⟩, ⟨2, .phase⟩], guard := none }) rfl (fun K hK => ?_) AllReadyH.nil
            rw [if_pos (by rfl)]
            refine wp_store_row 41 (.tmp 3) (.tmp 94) rfl (w.heap.size + 1) #[kv, pv] (by first | rfl | (simp [Act.eval])) (by first | rfl | (simp [Act.eval])) 41 _ HZ.out.2.2.1 (infoK kv pv).out (two_szK _ _ _ _) HZ.out.2.2.2.1 ?_
            have n9 := setRow_heap _ _ _ #[kv, pv] _ _ HZ.out.2.2.1
            have hS2 : Below w.heap.size w _ ∧ _ := ⟨Below.setRow' hS.1 (Nat.le_succ _) #[kv, pv], (setRow_other _ (w.heap.size + 1) BK #[kv, pv] HZ.out.2.2.2.2).trans hS.2⟩
            have HN9 := Lib.hid n9; clear n9 hS
            refine hK.out _ _ hS2 (fun hS => ?_)
            clear hK K hS2
            refine wpAnyH_done (by kernel_rfl) ?_ _
            go_wp2_with fail
            refine bodyPost_ret (results_tmp_row rfl _ _ (w.heap.size + 1) _ #[kv, pv] _ _ rfl HN9.out Tryz.underlying41 rfl (infoK kv pv).out) rfl ?_
            have hkx := kx_setRow wr.drew (w.heap.size + 1) #[kv, pv]
            have hMd := HY.out.2.2.2.next (Below.refl _ wr).drew
            have hh0 := hMd.h0
            have hBB := HBK.out
            have hBW := HBw.out
            refine ⟨⟨_, kv, pv, rfl, own_SLi (own_kx hMd.ox hkx (fun g hg e => by have := (hMd.ox.lt g hg).1; injection e with e; omega)) (fun c hc => by have := cfs_rng lw lc c hc; exact ⟨by omega, by omega⟩) (by rw [cfs_len, HTT.out.2]; omega), ?_, ?_⟩, hS.1⟩
            · have := own_kx hMd.oy hkx (fun g hg e => by have := (hMd.oy.lt g hg).1; injection e with e; omega)
              rw [HY.out.2.1] at this
              exact own_SLi this (fun c hc => by obtain ⟨a, ha, rfl⟩ := List.mem_map.1 hc; exact pp_i64 _ _) (by rw [cms_len, HTT.out.2]; omega)
            · have := (HY.out.1.next (Below.refl _ wr).drew).kx hkx (fun m h => by injection h with h; rw [← h]; exact HVw.out)
              rw [HY.out.2.2.1] at this
              exact this.LLc (LP_rng lw)
      · have hne : wts lw ≠ [] := fun e => hk0 (by have := HW.out.2.2.2.2; rw [e] at this; simpa using this.symm)
        have hmb : mbl lw = mbs 0 (wts lw) := by unfold mbl wt0; rw [if_neg hne]
        have hTz : z = T := by rw [HQ.out.1, ← HTT.out.1, hmb]
        subst hTz
        have hsh := own_shape HQ.out.2.1
        obtain ⟨p4, c4, rfl⟩ := hsh
        have HM : Hid (MbL wr (.slice p4 k c4) (mbl lw)) := Lib.hid (own_MbL (l := mbl lw) (by rw [hmb, mbs_len, HW.out.2.2.2.2]; exact HQ.out.2.1) (by rw [hmb]; exact mbs_rng _ _ (fun x hx => by have := wts_rng lw x hx; exact ⟨by omega, by omega⟩) (by rw [HW.out.2.2.2.2]; omega)) (by rw [hmb, mbs_len, HW.out.2.2.2.2]; omega))
        have hk0b : ((k : Int) == 0) = false := by rw [beq_eq_false_iff_ne]; omega
        have HK2 := HK1
        have hex : Hid (¬ ((k : Int) < (NW : Int)) ∨ ¬ ((k : Int) < 8)) := Lib.hid (by have := HN8.out; omega)
        clear hne hmb HQ hE
        by_cases h8 : (k : Int) < (NW : Int)
        · have h88 : ¬ ((k : Int) < 8) := by rcases hex.out with h | h; exact absurd h8 h; exact h
          clear hex
          go_upto_region 12 with fail
          go_wp2_with fail
          refine (PT.out wr _ HM.out).mono ?_
          rintro e w2 ⟨⟨pv, rfl, hL⟩, b2⟩
          obtain ⟨pq, cq, rfl⟩ : ∃ p c, pv = .slice p (LP lw).length c := own_shape hL.choose_spec.1
          have HKL := Lib.hid (And.intro (HK2.out.1.next b2) (And.intro ((b2.block _ (Array.getElem?_eq_some_iff.1 HK2.out.2).1).trans HK2.out.2) (And.intro hL b2.size)))
          have hVw : w.heap.size + 1 < wr.heap.size := (Array.getElem?_eq_some_iff.1 HK2.out.2).1
          have HVw := Lib.hid hVw
          clear b2 hL HK2 HM c0 hVw
          go_wp2_with fail
          refine (NDc.out _).mono ?_
          rintro e w3 ⟨rfl, hw3⟩
          replace hw3 := hw3.symm
          subst hw3
          go_upto_region 16 with fail
          obtain ⟨V15, hV15⟩ : ∃ V, w2.alloc (.cells #[.slice none 0 0, .slice pq (LP lw).length cq] 41) = V := ⟨_, rfl⟩
          rw [hV15]
          obtain ⟨pv, hpv⟩ : ∃ pv, Value.slice pq (LP lw).length cq = pv := ⟨_, rfl⟩
          have HMK := Lib.hid (show MK w2 w2.heap.size (.slice none 0 0) (.slice none 0 0) (.slice pq (LP lw).length cq) ((cfs lw lc).take 0) ((cms lw lc).take 0) V15 from by
            rw [← hV15]
            exact ⟨(Below.refl _ w2).alloc (Nat.le_refl _) _, Nat.le_refl _, heap_alloc_new _ _, World.ownsRow_nil _ _ _ _, World.ownsRow_nil _ _ _ _, fun g h => by cases h⟩)
          have hBw : w.heap.size + 1 < w2.heap.size := (Array.getElem?_eq_some_iff.1 HKL.out.2.1).1
          have HBw := Lib.hid hBw
          clear hV15 hBw
          obtain ⟨BK, hBK⟩ : ∃ b, w2.heap.size = b := ⟨_, rfl⟩
          rw [hBK] at HMK HBw ⊢
          have HBK := Lib.hid hBK; clear hBK
          obtain ⟨W0, hW0⟩ : ∃ V, V = w2 := ⟨_, rfl⟩
          rw [← hW0] at HMK HKL HBK
          clear hW0 hpv pv
          obtain ⟨NP, hNP⟩ : ∃ n, (LP lw).length = n := ⟨_, rfl⟩
          rw [hNP] at HMK HKL ⊢
          clear hNP
          obtain ⟨NC, hNC⟩ : ∃ n, lc.length = n := ⟨_, rfl⟩
          have HNC := Lib.hid hNC
          rw [hNC] at HKL hlc HK1 ⊢
          clear hNC
          have hNCi : (NC : Int) ≤ 9223372036854775807 := by unfold maxLen at hlc; omega
          clear hlc
          go_wp2_with fail
          go_loopw [11, 13] (fun a i wr => ∃ (k : Nat) (kv : Value), k ≤ ND ∧ i = .int .i64 (k : Int) ∧ Hid (MK W0 BK a kv (.slice pq NP cq) ((cfs lw lc).take k) ((cms lw lc).take k) wr)) (fun _ i _ => ND - (match i with | .int _ i => i.toNat | _ => 0))
          case atStart => exact ⟨0, _, Nat.zero_le _, rfl, HMK⟩
          case round =>
            obtain ⟨k, kv, hk, rfl, HQ⟩ := hrel
            have HCc := Lib.hid ((HKL.out.1.next HQ.out.bl))
            have c1 := HCc.out.get ⟨w.heap.size, 1, none⟩ (.slice pc NC nc) (by simp)
            by_cases hlt : k < ND
            · obtain ⟨n9, hn9⟩ : ∃ n, cf lc k = n := ⟨_, rfl⟩
              obtain ⟨y, hy⟩ : ∃ y, pp 4 n9 = y := ⟨_, rfl⟩
              have hnr : i64 n9 := by have := cf_rng lc k (by omega); rw [hn9] at this; exact ⟨by omega, by omega⟩
              have HT := Lib.hid (show (cfs lw lc).take (k+1) = (cfs lw lc).take k ++ [n9] ∧ (cms lw lc).take (k+1) = (cms lw lc).take k ++ [y] from ⟨by rw [cfs_take lw lc k (by rw [HTT.out.2]; exact hlt), hn9], by rw [cms_take lw lc k (by rw [HTT.out.2]; exact hlt), hn9, hy]⟩)
              have HLk := Lib.hid (show ((cfs lw lc).take k).length = k ∧ ((cms lw lc).take k).length = k from ⟨by rw [List.length_take, cfs_len, HTT.out.2]; omega, by rw [List.length_take, cms_len, HTT.out.2]; omega⟩)
              have HA := Lib.hid (show k + 1 ≤ maxLen ∧ (k + 1) * 8 ≤ 140737488355328 from ⟨by unfold maxLen; omega, by omega⟩)
              have PWk : Hid (∀ W, Calls Tryz.prog 39 #[.int .i64 4, .int .i64 n9, .int .i64 2305843009213691579] W fun e w' => e = .returned (.int .i64 y) ∧ w' = W) := Lib.hid fun W => PWc.out W n9 y hy hnr
              have ha1 : 2 * (k : Int) ≤ 9223372036854775807 := by omega
              have ha2 : 3 + 2 * (k : Int) ≤ 9223372036854775807 := by omega
              clear hy
              by_cases hl0 : NC = 0
              · have hle : lc = [] := List.length_eq_zero_iff.1 (by rw [HNC.out]; exact hl0)
                have hn3 : 3 + 2 * (k : Int) = n9 := by rw [← hn9]; unfold cf; rw [if_pos hle]
                have HN3 := Lib.hid hn3
                subst hl0
                clear hn9 hn3 hle hnr
                have ho := HQ.out.ox
                rw [HLk.out.1] at ho
                have HO := Lib.hid ho; clear ho
                go_upto_region 22 with fail
                rw [HN3.out]
                go_wp2_with (at_builtin; go_must (refine wpList_append_lies _ rfl _ _ 34 rfl (BK + 1) 3 i0 (.int .i64 0) 1 8 Tryz.underlying34 hi hz0 hz1 hz2 rfl (by decide) _ k (((cfs lw lc).take k).map (Value.int .i64)) rfl (HO.out.alloc _) ⟨wr.heap.size, 0, none⟩ 1 1 [.int .i64 n9] rfl rfl (World.news_of_block (heap_alloc_new _ _)) (by simp [Value.oneCell']) Nat.zero_lt_one HA.out.1 HA.out.2 (by rw [World.size_alloc]; have := (Array.getElem?_eq_some_iff.1 HQ.out.rk).1; omega) _ rfl ?_); intro g7 c7 v1 hown9 hgrow9 hat9 hlt9)
                have hM := (HQ.out.next ((Below.refl _ wr).alloc (Nat.le_refl _) (.cells #[.int .i64 n9] 3))).appX n9 (g := g7) (cap := c7) rfl (by rw [HLk.out.1]; exact hown9) hgrow9 hat9
                rw [HLk.out.1] at hM
                clear hown9 hgrow9 hat9 hlt9 HO HQ
                try clear HM1
                try clear c1
                try clear HCc
                go_upto_region 23 with fail
                have HMh := Lib.hid (hM.next (Below.refl _ v1).drew)
                clear hM
                refine wp_region_held_drew (S := fun _ => True) (by kernel_rfl) trivial (fun hS => ?_)
                have hM := HMh.out
                clear HMh
                generalize World.drew v1 = v1 at hM ⊢
                refine wpAnyH_take (i := 0) (v := ?vp0b10) rfl (by kernel_rfl) (by kernel_rfl) (by kernel_rfl) (fun _ _ _ h => h) (Or.inl ⟨by rfl, ?yp0b10⟩) hS ?rp0b10
                case yp0b10 => (intro w hS; go_simp; try with_reducible rfl)
                go_simp
                refine wpAnyH_take (i := 2) (v := ?vp0b12) rfl (by kernel_rfl) (by kernel_rfl) (by kernel_rfl) (fun _ _ _ h => h) (Or.inl ⟨by rfl, ?yp0b12⟩) hS ?rp0b12
                case yp0b12 => (intro w hS; go_simp; try with_reducible rfl)
                go_simp
                refine wpAnyH_ready (rs := [1, 3]) (by kernel_rfl) (by simp) ?_
                refine (AllReadyH.cons (o := { dst := some 87, op := .load 34 (.tmp 86), type := 34, pos := "ref.go:139", after := #[⟨0, .data⟩], guard := none }) rfl (fun K hK => ?_) (AllReadyH.cons (o := { dst := some 89, op := .call { callee := .value (.func 39), args := #[.const (.int .i64 4), .tmp 88, .const (.int .i64 2305843009213691579)], argTypes := #[3, 3, 3] }, type := 3, pos := "ref.go:139", after := #[⟨2, .data⟩], guard := none }) rfl (fun K hK => ?_) AllReadyH.nil))
                · have c0 := cell_of_row _ BK 0 _ _ _ hM.rk
                  try dsimp only at c0
                  go_simp
                  refine hK.out _ _ trivial (fun hS => ?_)
                  clear hK K c0
                  refine wpAnyH_ready (rs := [3]) (by kernel_rfl) (by simp) ?_
                  refine (AllReadyH.cons (o := { dst := some 89, op := .call { callee := .value (.func 39), args := #[.const (.int .i64 4), .tmp 88, .const (.int .i64 2305843009213691579)], argTypes := #[3, 3, 3] }, type := 3, pos := "ref.go:139", after := #[⟨2, .data⟩], guard := none }) rfl (fun K hK => ?_) AllReadyH.nil)
                  go_simp
                  go_at_call 39
                  refine (PWk.out _).mono ?_
                  rintro e w8 ⟨rfl, hw8⟩
                  replace hw8 := hw8.symm
                  subst hw8
                  try go_simp
                  refine hK.out _ _ trivial (fun hS => ?_)
                  clear hK K
                  refine wpAnyH_ready (rs := [4]) (by kernel_rfl) (by simp) ?_
                  refine (AllReadyH.cons (o := { dst := some 90, op := .buildSlice 34 1 #[(0, .tmp 89)], type := 34, pos := "ref.go:139", after := #[⟨3, .data⟩], guard := none }) rfl (fun K hK => ?_) AllReadyH.nil)
                  go_simp
                  have hN := heap_alloc_new v1 (.cells #[.int .i64 y] 3)
                  have hM2 := hM.next ((Below.refl _ v1).alloc (Nat.le_refl _) (.cells #[.int .i64 y] 3))
                  clear hM
                  refine hK.out _ _ trivial (fun hS => ?_)
                  clear hK K
                  obtain ⟨g8, hg8⟩ : ∃ g, v1.heap.size = g := ⟨_, rfl⟩
                  rw [hg8] at hN ⊢
                  obtain ⟨v2, hV9⟩ : ∃ V, World.alloc v1 (.cells #[.int .i64 y] 3) = V := ⟨_, rfl⟩
                  rw [hV9] at hM2 hN ⊢
                  have hM := hM2
                  clear hV9 hg8 hM2
                  refine wpAnyH_ready (rs := [5]) (by kernel_rfl) (by simp) ?_
                  refine (AllReadyH.cons (o := { dst := some 91, op := .call { callee := .builtin .append, args := #[.tmp 87, .tmp 90], argTypes := #[34, 34] }, type := 34, pos := "ref.go:139", after := #[⟨1, .data⟩, ⟨4, .data⟩, ⟨3, .chain⟩], guard := none }) rfl (fun K hK => ?_) AllReadyH.nil)
                  refine step_append_lies _ rfl _ _ 34 rfl (BK + 1) 3 i0 (.int .i64 0) 1 8 Tryz.underlying34 hi hz0 hz1 hz2 rfl (by decide) _ k (((cms lw lc).take k).map (Value.int .i64)) rfl (by have := hM.oy; rwa [HLk.out.2] at this) ⟨g8, 0, none⟩ 1 1 [.int .i64 y] rfl rfl (World.news_of_block hN) (by simp [Value.oneCell']) Nat.zero_lt_one HA.out.1 HA.out.2 (by have := (Array.getElem?_eq_some_iff.1 hM.rk).1; omega) _ rfl ?_
                  intro g9 c9 w9 hown9 hgrow9 hat9 hlt9
                  obtain ⟨e0, f0, hM9⟩ := hM.appY y rfl (by rw [HLk.out.2]; exact hown9) hgrow9 hat9
                  clear hM hown9 hgrow9 hat9 hlt9 hN
                  refine hK.out _ _ trivial (fun hS => ?_)
                  clear hK K
                  refine wpAnyH_take (i := 6) (v := ?vpab16) rfl (by kernel_rfl) (by kernel_rfl) (by kernel_rfl) (fun _ _ _ h => h) (Or.inl ⟨by rfl, ?ypab16⟩) hS ?rpab16
                  case ypab16 => (intro w hS; go_simp; try with_reducible rfl)
                  go_simp
                  refine wpAnyH_ready (rs := [7]) (by kernel_rfl) (by simp) ?_
                  refine (AllReadyH.cons (o := { dst := none, op := .store 34 (.tmp 92) (.tmp 91), type := 0, pos := "ref.go:139", after := #[⟨6, .data⟩, ⟨5, .data⟩, ⟨5, .chain⟩, ⟨0, .phase⟩, ⟨1, .phase⟩, ⟨2, .phase⟩, ⟨3, .phase⟩, ⟨4, .phase⟩, ⟨5, .phase⟩], guard := none }) rfl (fun K hK => ?_) AllReadyH.nil)
                  go_simp
                  refine hK.out _ _ trivial (fun hS => ?_)
                  clear hK K e0 f0
                  refine wpAnyH_done (by kernel_rfl) ?_ _
                  rw [HLk.out.2] at hM9
                  have KQ := Lib.hid (show MK W0 BK _ (.slice (some ⟨g9, 0, none⟩) (k + 1) c9) (.slice pq NP cq) ((cfs lw lc).take (k+1)) ((cms lw lc).take (k+1)) _ from by rw [HT.out.1, HT.out.2]; exact hM9)
                  clear hM9 hS
                  try go_wp2
                  exact ⟨⟨k + 1, _, by omega, by go_num, KQ⟩, by simp; omega⟩
                · go_simp
                  go_at_call 39
                  refine (PWk.out _).mono ?_
                  rintro e w8 ⟨rfl, hw8⟩
                  replace hw8 := hw8.symm
                  subst hw8
                  try go_simp
                  refine hK.out _ _ trivial (fun hS => ?_)
                  clear hK K
                  refine wpAnyH_ready (rs := [1, 4]) (by kernel_rfl) (by simp) ?_
                  refine (AllReadyH.cons (o := { dst := some 87, op := .load 34 (.tmp 86), type := 34, pos := "ref.go:139", after := #[⟨0, .data⟩], guard := none }) rfl (fun K hK => ?_) (AllReadyH.cons (o := { dst := some 90, op := .buildSlice 34 1 #[(0, .tmp 89)], type := 34, pos := "ref.go:139", after := #[⟨3, .data⟩], guard := none }) rfl (fun K hK => ?_) AllReadyH.nil))
                  · have c0 := cell_of_row _ BK 0 _ _ _ hM.rk
                    try dsimp only at c0
                    go_simp
                    refine hK.out _ _ trivial (fun hS => ?_)
                    clear hK K c0
                    refine wpAnyH_ready (rs := [4]) (by kernel_rfl) (by simp) ?_
                    refine (AllReadyH.cons (o := { dst := some 90, op := .buildSlice 34 1 #[(0, .tmp 89)], type := 34, pos := "ref.go:139", after := #[⟨3, .data⟩], guard := none }) rfl (fun K hK => ?_) AllReadyH.nil)
                    go_simp
                    have hN := heap_alloc_new v1 (.cells #[.int .i64 y] 3)
                    have hM2 := hM.next ((Below.refl _ v1).alloc (Nat.le_refl _) (.cells #[.int .i64 y] 3))
                    clear hM
                    refine hK.out _ _ trivial (fun hS => ?_)
                    clear hK K
                    obtain ⟨g8, hg8⟩ : ∃ g, v1.heap.size = g := ⟨_, rfl⟩
                    rw [hg8] at hN ⊢
                    obtain ⟨v2, hV9⟩ : ∃ V, World.alloc v1 (.cells #[.int .i64 y] 3) = V := ⟨_, rfl⟩
                    rw [hV9] at hM2 hN ⊢
                    have hM := hM2
                    clear hV9 hg8 hM2
                    refine wpAnyH_ready (rs := [5]) (by kernel_rfl) (by simp) ?_
                    refine (AllReadyH.cons (o := { dst := some 91, op := .call { callee := .builtin .append, args := #[.tmp 87, .tmp 90], argTypes := #[34, 34] }, type := 34, pos := "ref.go:139", after := #[⟨1, .data⟩, ⟨4, .data⟩, ⟨3, .chain⟩], guard := none }) rfl (fun K hK => ?_) AllReadyH.nil)
                    refine step_append_lies _ rfl _ _ 34 rfl (BK + 1) 3 i0 (.int .i64 0) 1 8 Tryz.underlying34 hi hz0 hz1 hz2 rfl (by decide) _ k (((cms lw lc).take k).map (Value.int .i64)) rfl (by have := hM.oy; rwa [HLk.out.2] at this) ⟨g8, 0, none⟩ 1 1 [.int .i64 y] rfl rfl (World.news_of_block hN) (by simp [Value.oneCell']) Nat.zero_lt_one HA.out.1 HA.out.2 (by have := (Array.getElem?_eq_some_iff.1 hM.rk).1; omega) _ rfl ?_
                    intro g9 c9 w9 hown9 hgrow9 hat9 hlt9
                    obtain ⟨e0, f0, hM9⟩ := hM.appY y rfl (by rw [HLk.out.2]; exact hown9) hgrow9 hat9
                    clear hM hown9 hgrow9 hat9 hlt9 hN
                    refine hK.out _ _ trivial (fun hS => ?_)
                    clear hK K
                    refine wpAnyH_take (i := 6) (v := ?vpbb16) rfl (by kernel_rfl) (by kernel_rfl) (by kernel_rfl) (fun _ _ _ h => h) (Or.inl ⟨by rfl, ?ypbb16⟩) hS ?rpbb16
                    case ypbb16 => (intro w hS; go_simp; try with_reducible rfl)
                    go_simp
                    refine wpAnyH_ready (rs := [7]) (by kernel_rfl) (by simp) ?_
                    refine (AllReadyH.cons (o := { dst := none, op := .store 34 (.tmp 92) (.tmp 91), type := 0, pos := "ref.go:139", after := #[⟨6, .data⟩, ⟨5, .data⟩, ⟨5, .chain⟩, ⟨0, .phase⟩, ⟨1, .phase⟩, ⟨2, .phase⟩, ⟨3, .phase⟩, ⟨4, .phase⟩, ⟨5, .phase⟩], guard := none }) rfl (fun K hK => ?_) AllReadyH.nil)
                    go_simp
                    refine hK.out _ _ trivial (fun hS => ?_)
                    clear hK K e0 f0
                    refine wpAnyH_done (by kernel_rfl) ?_ _
                    rw [HLk.out.2] at hM9
                    have KQ := Lib.hid (show MK W0 BK _ (.slice (some ⟨g9, 0, none⟩) (k + 1) c9) (.slice pq NP cq) ((cfs lw lc).take (k+1)) ((cms lw lc).take (k+1)) _ from by rw [HT.out.1, HT.out.2]; exact hM9)
                    clear hM9 hS
                    try go_wp2
                    exact ⟨⟨k + 1, _, by omega, by go_num, KQ⟩, by simp; omega⟩
                  · go_simp
                    have hN := heap_alloc_new v1 (.cells #[.int .i64 y] 3)
                    have hM2 := hM.next ((Below.refl _ v1).alloc (Nat.le_refl _) (.cells #[.int .i64 y] 3))
                    clear hM
                    refine hK.out _ _ trivial (fun hS => ?_)
                    clear hK K
                    obtain ⟨g8, hg8⟩ : ∃ g, v1.heap.size = g := ⟨_, rfl⟩
                    rw [hg8] at hN ⊢
                    obtain ⟨v2, hV9⟩ : ∃ V, World.alloc v1 (.cells #[.int .i64 y] 3) = V := ⟨_, rfl⟩
                    rw [hV9] at hM2 hN ⊢
                    have hM := hM2
                    clear hV9 hg8 hM2
                    refine wpAnyH_ready (rs := [1]) (by kernel_rfl) (by simp) ?_
                    refine (AllReadyH.cons (o := { dst := some 87, op := .load 34 (.tmp 86), type := 34, pos := "ref.go:139", after := #[⟨0, .data⟩], guard := none }) rfl (fun K hK => ?_) AllReadyH.nil)
                    have c0 := cell_of_row _ BK 0 _ _ _ hM.rk
                    try dsimp only at c0
                    go_simp
                    refine hK.out _ _ trivial (fun hS => ?_)
                    clear hK K c0
                    refine wpAnyH_ready (rs := [5]) (by kernel_rfl) (by simp) ?_
                    refine (AllReadyH.cons (o := { dst := some 91, op := .call { callee := .builtin .append, args := #[.tmp 87, .tmp 90], argTypes := #[34, 34] }, type := 34, pos := "ref.go:139", after := #[⟨1, .data⟩, ⟨4, .data⟩, ⟨3, .chain⟩], guard := none }) rfl (fun K hK => ?_) AllReadyH.nil)
                    refine step_append_lies _ rfl _ _ 34 rfl (BK + 1) 3 i0 (.int .i64 0) 1 8 Tryz.underlying34 hi hz0 hz1 hz2 rfl (by decide) _ k (((cms lw lc).take k).map (Value.int .i64)) rfl (by have := hM.oy; rwa [HLk.out.2] at this) ⟨g8, 0, none⟩ 1 1 [.int .i64 y] rfl rfl (World.news_of_block hN) (by simp [Value.oneCell']) Nat.zero_lt_one HA.out.1 HA.out.2 (by have := (Array.getElem?_eq_some_iff.1 hM.rk).1; omega) _ rfl ?_
                    intro g9 c9 w9 hown9 hgrow9 hat9 hlt9
                    obtain ⟨e0, f0, hM9⟩ := hM.appY y rfl (by rw [HLk.out.2]; exact hown9) hgrow9 hat9
                    clear hM hown9 hgrow9 hat9 hlt9 hN
                    refine hK.out _ _ trivial (fun hS => ?_)
                    clear hK K
                    refine wpAnyH_take (i := 6) (v := ?vpcb16) rfl (by kernel_rfl) (by kernel_rfl) (by kernel_rfl) (fun _ _ _ h => h) (Or.inl ⟨by rfl, ?ypcb16⟩) hS ?rpcb16
                    case ypcb16 => (intro w hS; go_simp; try with_reducible rfl)
                    go_simp
                    refine wpAnyH_ready (rs := [7]) (by kernel_rfl) (by simp) ?_
                    refine (AllReadyH.cons (o := { dst := none, op := .store 34 (.tmp 92) (.tmp 91), type := 0, pos := "ref.go:139", after := #[⟨6, .data⟩, ⟨5, .data⟩, ⟨5, .chain⟩, ⟨0, .phase⟩, ⟨1, .phase⟩, ⟨2, .phase⟩, ⟨3, .phase⟩, ⟨4, .phase⟩, ⟨5, .phase⟩], guard := none }) rfl (fun K hK => ?_) AllReadyH.nil)
                    go_simp
                    refine hK.out _ _ trivial (fun hS => ?_)
                    clear hK K e0 f0
                    refine wpAnyH_done (by kernel_rfl) ?_ _
                    rw [HLk.out.2] at hM9
                    have KQ := Lib.hid (show MK W0 BK _ (.slice (some ⟨g9, 0, none⟩) (k + 1) c9) (.slice pq NP cq) ((cfs lw lc).take (k+1)) ((cms lw lc).take (k+1)) _ from by rw [HT.out.1, HT.out.2]; exact hM9)
                    clear hM9 hS
                    try go_wp2
                    exact ⟨⟨k + 1, _, by omega, by go_num, KQ⟩, by simp; omega⟩
              · have hle : lc ≠ [] := fun e => hl0 (by rw [← HNC.out, e]; rfl)
                have hNC0 : (0 : Int) < (NC : Int) := by omega
                have hNC1 : ¬ (NC : Int) = 0 := by omega
                have hr1 : Int.tmod (k : Int) (NC : Int) = ((k % NC : Nat) : Int) := by rw [Int.tmod_eq_emod_of_nonneg (by omega)]; rfl
                have hmodlt : k % NC < NC := Nat.mod_lt _ (by omega)
                obtain ⟨x, hx⟩ : ∃ x, lc[k % NC]? = some x := ⟨lc[k % NC]'(by rw [HNC.out]; exact hmodlt), List.getElem?_eq_getElem _⟩
                have hcf : wrap64 (x + (k : Int)) % 1152921504606845789 = n9 := by
                  rw [← hn9]; unfold cf; rw [if_neg hle, HNC.out, List.getD_eq_getElem?_getD, hx]; rfl
                obtain ⟨b, o, hp, hcx⟩ := HW.out.2.2.1 _ x hx
                subst hp
                have cx := (HCc.out.b.cell (p := ⟨b, o + k % NC, none⟩) (World.block_lt_of_cell? _ _ hcx)).trans hcx
                have hwi : i64 (wrap64 (x + (k : Int))) := ⟨by unfold wrap64; omega, by unfold wrap64; omega⟩
                obtain ⟨s9, hs9⟩ : ∃ s, wrap64 (x + (k : Int)) = s := ⟨_, rfl⟩
                rw [hs9] at hcf hwi
                have hs9' : IntKind.i64.wrap (x + (k : Int)) = s9 := by rw [IntKind.wrap_i64, ← hs9]; unfold wrap64; rfl
                have MD : Hid (∀ W, Calls Tryz.prog 43 #[.int .i64 s9, .int .i64 1152921504606845789] W fun e w' => e = .returned (.int .i64 n9) ∧ Below W.heap.size W w') := Lib.hid fun W => MDc.out W s9 n9 hcf hwi
                obtain ⟨m9, hm9⟩ : ∃ m, k % NC = m := ⟨_, rfl⟩
                rw [hm9] at hr1 hmodlt cx
                clear hn9 hnr hx hcf hcx hwi hm9 hle
                have HCx : Hid (CK w [(⟨w.heap.size, 1, none⟩, .slice (some ⟨b, o, none⟩) NC nc), (⟨b, o + m9, none⟩, .int .i64 x)] [] wr) := Lib.hid ⟨HCc.out.b, fun q hq => by
                  simp only [List.mem_cons, List.not_mem_nil, or_false] at hq
                  rcases hq with rfl | rfl
                  · exact c1
                  · exact cx, fun q hq => by cases hq⟩
                have hm9l : (m9 : Int) < (NC : Int) := by omega
                have HM1 := HQ
                clear cx hs9
                go_upto_region 21 with fail
                replace HM1 := Lib.hid (HM1.out.next (Below.refl _ wr).drew)
                refine wp_region_held_drew (S := CK w [(⟨w.heap.size, 1, none⟩, .slice (some ⟨b, o, none⟩) NC nc), (⟨b, o + m9, none⟩, .int .i64 x)] []) (by kernel_rfl) HCx.out.drew (fun hS => ?_)
                refine wpAnyH_take (i := 0) (v := ?vpmb0) rfl (by kernel_rfl) (by kernel_rfl) (by kernel_rfl) (fun _ _ _ h => h) (Or.inl ⟨by rfl, ?ypmb0⟩) hS ?rpmb0
                case ypmb0 => (intro w hS; go_simp; try with_reducible rfl)
                refine wpAnyH_take (i := 2) (v := ?vpmb2) rfl (by kernel_rfl) (by kernel_rfl) (by kernel_rfl) (fun _ _ _ h => h) (Or.inl ⟨by rfl, ?ypmb2⟩) hS ?rpmb2
                case ypmb2 => (intro w hS; go_simp; try with_reducible rfl)
                refine wpAnyH_take (i := 3) (v := ?vpmb3) rfl (by kernel_rfl) (by kernel_rfl) (by kernel_rfl) (fun _ _ _ h => h) (Or.inl ⟨by rfl, ?ypmb3⟩) hS ?rpmb3
                case ypmb3 => (intro w hS; go_simp; try with_reducible rfl)
                refine wpAnyH_take (i := 9) (v := ?vpmb9) rfl (by kernel_rfl) (by kernel_rfl) (by kernel_rfl) (fun _ _ _ h => h) (Or.inl ⟨by rfl, ?ypmb9⟩) hS ?rpmb9
                case ypmb9 => (intro w hS; go_simp; try with_reducible rfl)
                go_simp
                refine wpAnyH_take (i := 1) (v := .slice (some ⟨b, o, none⟩) NC nc) rfl (by kernel_rfl) (by kernel_rfl) (by kernel_rfl) (fun _ _ _ h => h) (Or.inl ⟨by rfl, ?ypmb1⟩) hS ?rpmb1
                case ypmb1 => (intro w' hS; have cf := hS.get ⟨w.heap.size, 1, none⟩ (.slice (some ⟨b, o, none⟩) NC nc) (by simp); go_simp; try with_reducible rfl)
                refine wpAnyH_take (i := 4) (v := .slice (some ⟨b, o, none⟩) NC nc) rfl (by kernel_rfl) (by kernel_rfl) (by kernel_rfl) (fun _ _ _ h => h) (Or.inl ⟨by rfl, ?ypmb4⟩) hS ?rpmb4
                case ypmb4 => (intro w' hS; have cf := hS.get ⟨w.heap.size, 1, none⟩ (.slice (some ⟨b, o, none⟩) NC nc) (by simp); go_simp; try with_reducible rfl)
                go_simp
                refine wpAnyH_take (i := 5) (v := ?vpmb5) rfl (by kernel_rfl) (by kernel_rfl) (by kernel_rfl) (fun _ _ _ h => h) (Or.inl ⟨by rfl, ?ypmb5⟩) hS ?rpmb5
                case ypmb5 => (intro w hS; go_simp; try with_reducible rfl)
                go_simp
                refine wpAnyH_take (i := 6) (v := ?vpmb6) rfl (by kernel_rfl) (by kernel_rfl) (by kernel_rfl) (fun _ _ _ h => h) (Or.inl ⟨by rfl, ?ypmb6⟩) hS ?rpmb6
                case ypmb6 => (intro w hS; go_simp; try with_reducible rfl)
                go_simp
                refine wpAnyH_take (i := 7) (v := ?vpmb7) rfl (by kernel_rfl) (by kernel_rfl) (by kernel_rfl) (fun _ _ _ h => h) (Or.inl ⟨by rfl, ?ypmb7⟩) hS ?rpmb7
                case ypmb7 => (intro w hS; go_simp; try with_reducible rfl)
                go_simp
                refine wpAnyH_take (i := 8) (v := .int .i64 x) rfl (by kernel_rfl) (by kernel_rfl) (by kernel_rfl) (fun _ _ _ h => h) (Or.inl ⟨by rfl, ?ypmb8⟩) hS ?rpmb8
                case ypmb8 => (intro w' hS; have cf := hS.get ⟨b, o + m9, none⟩ (.int .i64 x) (by simp); go_simp; try with_reducible rfl)
                go_simp
                refine wpAnyH_take (i := 10) (v := ?vpmb10) rfl (by kernel_rfl) (by kernel_rfl) (by kernel_rfl) (fun _ _ _ h => h) (Or.inl ⟨by rfl, ?ypmb10⟩) hS ?rpmb10
                case ypmb10 => (intro w hS; go_simp; try with_reducible rfl)
                go_simp
                refine wpAnyH_ready (rs := [11]) (by kernel_rfl) (by simp) ?_
                refine AllReadyH.cons (o := { dst := some 81, op := .call { callee := .value (.func 43), args := #[.tmp 80, .const (.int .i64 1152921504606845789)], argTypes := #[3, 3] }, type := 3, pos := "ref.go:136", after := #[⟨10, .data⟩], guard := none }) rfl (fun K hK => ?_) AllReadyH.nil
                go_simp
                go_at_call 43
                refine (MD.out _).mono ?_
                rintro e w' ⟨rfl, b⟩
                replace HM1 := Lib.hid (HM1.out.next b)
                have hS2 := hS.next b
                clear b hS
                try go_simp
                refine hK.out _ _ hS2 (fun hS => ?_)
                clear hK K hS2
                refine wpAnyH_take (i := 12) (v := ?vpmb12) rfl (by kernel_rfl) (by kernel_rfl) (by kernel_rfl) (fun _ _ _ h => h) (Or.inl ⟨by rfl, ?ypmb12⟩) hS ?rpmb12
                case ypmb12 => (intro w hS; go_simp; try with_reducible rfl)
                refine wpAnyH_done (by kernel_rfl) ?_ _
                have ho := HM1.out.ox
                rw [HLk.out.1] at ho
                have HO := Lib.hid ho; clear ho
                have HQ := HM1
                clear hS HCx c1 HCc
                go_upto_region 22 with fail
                go_wp2_with (at_builtin; go_must (refine wpList_append_lies _ rfl _ _ 34 rfl (BK + 1) 3 i0 (.int .i64 0) 1 8 Tryz.underlying34 hi hz0 hz1 hz2 rfl (by decide) _ k (((cfs lw lc).take k).map (Value.int .i64)) rfl (HO.out.alloc _) ⟨w'.heap.size, 0, none⟩ 1 1 [.int .i64 n9] rfl rfl (World.news_of_block (heap_alloc_new _ _)) (by simp [Value.oneCell']) Nat.zero_lt_one HA.out.1 HA.out.2 (by rw [World.size_alloc]; have := (Array.getElem?_eq_some_iff.1 HQ.out.rk).1; omega) _ rfl ?_); intro g7 c7 v1 hown9 hgrow9 hat9 hlt9)
                have hM := (HQ.out.next ((Below.refl _ w').alloc (Nat.le_refl _) (.cells #[.int .i64 n9] 3))).appX n9 (g := g7) (cap := c7) rfl (by rw [HLk.out.1]; exact hown9) hgrow9 hat9
                rw [HLk.out.1] at hM
                clear hown9 hgrow9 hat9 hlt9 HO HQ
                try clear HM1
                try clear c1
                try clear HCc
                go_upto_region 23 with fail
                have HMh := Lib.hid (hM.next (Below.refl _ v1).drew)
                clear hM
                refine wp_region_held_drew (S := fun _ => True) (by kernel_rfl) trivial (fun hS => ?_)
                have hM := HMh.out
                clear HMh
                generalize World.drew v1 = v1 at hM ⊢
                refine wpAnyH_take (i := 0) (v := ?vp0b20) rfl (by kernel_rfl) (by kernel_rfl) (by kernel_rfl) (fun _ _ _ h => h) (Or.inl ⟨by rfl, ?yp0b20⟩) hS ?rp0b20
                case yp0b20 => (intro w hS; go_simp; try with_reducible rfl)
                go_simp
                refine wpAnyH_take (i := 2) (v := ?vp0b22) rfl (by kernel_rfl) (by kernel_rfl) (by kernel_rfl) (fun _ _ _ h => h) (Or.inl ⟨by rfl, ?yp0b22⟩) hS ?rp0b22
                case yp0b22 => (intro w hS; go_simp; try with_reducible rfl)
                go_simp
                refine wpAnyH_ready (rs := [1, 3]) (by kernel_rfl) (by simp) ?_
                refine (AllReadyH.cons (o := { dst := some 87, op := .load 34 (.tmp 86), type := 34, pos := "ref.go:139", after := #[⟨0, .data⟩], guard := none }) rfl (fun K hK => ?_) (AllReadyH.cons (o := { dst := some 89, op := .call { callee := .value (.func 39), args := #[.const (.int .i64 4), .tmp 88, .const (.int .i64 2305843009213691579)], argTypes := #[3, 3, 3] }, type := 3, pos := "ref.go:139", after := #[⟨2, .data⟩], guard := none }) rfl (fun K hK => ?_) AllReadyH.nil))
                · have c0 := cell_of_row _ BK 0 _ _ _ hM.rk
                  try dsimp only at c0
                  go_simp
                  refine hK.out _ _ trivial (fun hS => ?_)
                  clear hK K c0
                  refine wpAnyH_ready (rs := [3]) (by kernel_rfl) (by simp) ?_
                  refine (AllReadyH.cons (o := { dst := some 89, op := .call { callee := .value (.func 39), args := #[.const (.int .i64 4), .tmp 88, .const (.int .i64 2305843009213691579)], argTypes := #[3, 3, 3] }, type := 3, pos := "ref.go:139", after := #[⟨2, .data⟩], guard := none }) rfl (fun K hK => ?_) AllReadyH.nil)
                  go_simp
                  go_at_call 39
                  refine (PWk.out _).mono ?_
                  rintro e w8 ⟨rfl, hw8⟩
                  replace hw8 := hw8.symm
                  subst hw8
                  try go_simp
                  refine hK.out _ _ trivial (fun hS => ?_)
                  clear hK K
                  refine wpAnyH_ready (rs := [4]) (by kernel_rfl) (by simp) ?_
                  refine (AllReadyH.cons (o := { dst := some 90, op := .buildSlice 34 1 #[(0, .tmp 89)], type := 34, pos := "ref.go:139", after := #[⟨3, .data⟩], guard := none }) rfl (fun K hK => ?_) AllReadyH.nil)
                  go_simp
                  have hN := heap_alloc_new v1 (.cells #[.int .i64 y] 3)
                  have hM2 := hM.next ((Below.refl _ v1).alloc (Nat.le_refl _) (.cells #[.int .i64 y] 3))
                  clear hM
                  refine hK.out _ _ trivial (fun hS => ?_)
                  clear hK K
                  obtain ⟨g8, hg8⟩ : ∃ g, v1.heap.size = g := ⟨_, rfl⟩
                  rw [hg8] at hN ⊢
                  obtain ⟨v2, hV9⟩ : ∃ V, World.alloc v1 (.cells #[.int .i64 y] 3) = V := ⟨_, rfl⟩
                  rw [hV9] at hM2 hN ⊢
                  have hM := hM2
                  clear hV9 hg8 hM2
                  refine wpAnyH_ready (rs := [5]) (by kernel_rfl) (by simp) ?_
                  refine (AllReadyH.cons (o := { dst := some 91, op := .call { callee := .builtin .append, args := #[.tmp 87, .tmp 90], argTypes := #[34, 34] }, type := 34, pos := "ref.go:139", after := #[⟨1, .data⟩, ⟨4, .data⟩, ⟨3, .chain⟩], guard := none }) rfl (fun K hK => ?_) AllReadyH.nil)
                  refine step_append_lies _ rfl _ _ 34 rfl (BK + 1) 3 i0 (.int .i64 0) 1 8 Tryz.underlying34 hi hz0 hz1 hz2 rfl (by decide) _ k (((cms lw lc).take k).map (Value.int .i64)) rfl (by have := hM.oy; rwa [HLk.out.2] at this) ⟨g8, 0, none⟩ 1 1 [.int .i64 y] rfl rfl (World.news_of_block hN) (by simp [Value.oneCell']) Nat.zero_lt_one HA.out.1 HA.out.2 (by have := (Array.getElem?_eq_some_iff.1 hM.rk).1; omega) _ rfl ?_
                  intro g9 c9 w9 hown9 hgrow9 hat9 hlt9
                  obtain ⟨e0, f0, hM9⟩ := hM.appY y rfl (by rw [HLk.out.2]; exact hown9) hgrow9 hat9
                  clear hM hown9 hgrow9 hat9 hlt9 hN
                  refine hK.out _ _ trivial (fun hS => ?_)
                  clear hK K
                  refine wpAnyH_take (i := 6) (v := ?vpab26) rfl (by kernel_rfl) (by kernel_rfl) (by kernel_rfl) (fun _ _ _ h => h) (Or.inl ⟨by rfl, ?ypab26⟩) hS ?rpab26
                  case ypab26 => (intro w hS; go_simp; try with_reducible rfl)
                  go_simp
                  refine wpAnyH_ready (rs := [7]) (by kernel_rfl) (by simp) ?_
                  refine (AllReadyH.cons (o := { dst := none, op := .store 34 (.tmp 92) (.tmp 91), type := 0, pos := "ref.go:139", after := #[⟨6, .data⟩, ⟨5, .data⟩, ⟨5, .chain⟩, ⟨0, .phase⟩, ⟨1, .phase⟩, ⟨2, .phase⟩, ⟨3, .phase⟩, ⟨4, .phase⟩, ⟨5, .phase⟩], guard := none }) rfl (fun K hK => ?_) AllReadyH.nil)
                  go_simp
                  refine hK.out _ _ trivial (fun hS => ?_)
                  clear hK K e0 f0
                  refine wpAnyH_done (by kernel_rfl) ?_ _
                  rw [HLk.out.2] at hM9
                  have KQ := Lib.hid (show MK W0 BK _ (.slice (some ⟨g9, 0, none⟩) (k + 1) c9) (.slice pq NP cq) ((cfs lw lc).take (k+1)) ((cms lw lc).take (k+1)) _ from by rw [HT.out.1, HT.out.2]; exact hM9)
                  clear hM9 hS
                  try go_wp2
                  exact ⟨⟨k + 1, _, by omega, by go_num, KQ⟩, by simp; omega⟩
                · go_simp
                  go_at_call 39
                  refine (PWk.out _).mono ?_
                  rintro e w8 ⟨rfl, hw8⟩
                  replace hw8 := hw8.symm
                  subst hw8
                  try go_simp
                  refine hK.out _ _ trivial (fun hS => ?_)
                  clear hK K
                  refine wpAnyH_ready (rs := [1, 4]) (by kernel_rfl) (by simp) ?_
                  refine (AllReadyH.cons (o := { dst := some 87, op := .load 34 (.tmp 86), type := 34, pos := "ref.go:139", after := #[⟨0, .data⟩], guard := none }) rfl (fun K hK => ?_) (AllReadyH.cons (o := { dst := some 90, op := .buildSlice 34 1 #[(0, .tmp 89)], type := 34, pos := "ref.go:139", after := #[⟨3, .data⟩], guard := none }) rfl (fun K hK => ?_) AllReadyH.nil))
                  · have c0 := cell_of_row _ BK 0 _ _ _ hM.rk
                    try dsimp only at c0
                    go_simp
                    refine hK.out _ _ trivial (fun hS => ?_)
                    clear hK K c0
                    refine wpAnyH_ready (rs := [4]) (by kernel_rfl) (by simp) ?_
                    refine (AllReadyH.cons (o := { dst := some 90, op := .buildSlice 34 1 #[(0, .tmp 89)], type := 34, pos := "ref.go:139", after := #[⟨3, .data⟩], guard := none }) rfl (fun K hK => ?_) AllReadyH.nil)
                    go_simp
                    have hN := heap_alloc_new v1 (.cells #[.int .i64 y] 3)
                    have hM2 := hM.next ((Below.refl _ v1).alloc (Nat.le_refl _) (.cells #[.int .i64 y] 3))
                    clear hM
                    refine hK.out _ _ trivial (fun hS => ?_)
                    clear hK K
                    obtain ⟨g8, hg8⟩ : ∃ g, v1.heap.size = g := ⟨_, rfl⟩
                    rw [hg8] at hN ⊢
                    obtain ⟨v2, hV9⟩ : ∃ V, World.alloc v1 (.cells #[.int .i64 y] 3) = V := ⟨_, rfl⟩
                    rw [hV9] at hM2 hN ⊢
                    have hM := hM2
                    clear hV9 hg8 hM2
                    refine wpAnyH_ready (rs := [5]) (by kernel_rfl) (by simp) ?_
                    refine (AllReadyH.cons (o := { dst := some 91, op := .call { callee := .builtin .append, args := #[.tmp 87, .tmp 90], argTypes := #[34, 34] }, type := 34, pos := "ref.go:139", after := #[⟨1, .data⟩, ⟨4, .data⟩, ⟨3, .chain⟩], guard := none }) rfl (fun K hK => ?_) AllReadyH.nil)
                    refine step_append_lies _ rfl _ _ 34 rfl (BK + 1) 3 i0 (.int .i64 0) 1 8 Tryz.underlying34 hi hz0 hz1 hz2 rfl (by decide) _ k (((cms lw lc).take k).map (Value.int .i64)) rfl (by have := hM.oy; rwa [HLk.out.2] at this) ⟨g8, 0, none⟩ 1 1 [.int .i64 y] rfl rfl (World.news_of_block hN) (by simp [Value.oneCell']) Nat.zero_lt_one HA.out.1 HA.out.2 (by have := (Array.getElem?_eq_some_iff.1 hM.rk).1; omega) _ rfl ?_
                    intro g9 c9 w9 hown9 hgrow9 hat9 hlt9
                    obtain ⟨e0, f0, hM9⟩ := hM.appY y rfl (by rw [HLk.out.2]; exact hown9) hgrow9 hat9
                    clear hM hown9 hgrow9 hat9 hlt9 hN
                    refine hK.out _ _ trivial (fun hS => ?_)
                    clear hK K
                    refine wpAnyH_take (i := 6) (v := ?vpbb26) rfl (by kernel_rfl) (by kernel_rfl) (by kernel_rfl) (fun _ _ _ h => h) (Or.inl ⟨by rfl, ?ypbb26⟩) hS ?rpbb26
                    case ypbb26 => (intro w hS; go_simp; try with_reducible rfl)
                    go_simp
                    refine wpAnyH_ready (rs := [7]) (by kernel_rfl) (by simp) ?_
                    refine (AllReadyH.cons (o := { dst := none, op := .store 34 (.tmp 92) (.tmp 91), type := 0, pos := "ref.go:139", after := #[⟨6, .data⟩, ⟨5, .data⟩, ⟨5, .chain⟩, ⟨0, .phase⟩, ⟨1, .phase⟩, ⟨2, .phase⟩, ⟨3, .phase⟩, ⟨4, .phase⟩, ⟨5, .phase⟩], guard := none }) rfl (fun K hK => ?_) AllReadyH.nil)
                    go_simp
                    refine hK.out _ _ trivial (fun hS => ?_)
                    clear hK K e0 f0
                    refine wpAnyH_done (by kernel_rfl) ?_ _
                    rw [HLk.out.2] at hM9
                    have KQ := Lib.hid (show MK W0 BK _ (.slice (some ⟨g9, 0, none⟩) (k + 1) c9) (.slice pq NP cq) ((cfs lw lc).take (k+1)) ((cms lw lc).take (k+1)) _ from by rw [HT.out.1, HT.out.2]; exact hM9)
                    clear hM9 hS
                    try go_wp2
                    exact ⟨⟨k + 1, _, by omega, by go_num, KQ⟩, by simp; omega⟩
                  · go_simp
                    have hN := heap_alloc_new v1 (.cells #[.int .i64 y] 3)
                    have hM2 := hM.next ((Below.refl _ v1).alloc (Nat.le_refl _) (.cells #[.int .i64 y] 3))
                    clear hM
                    refine hK.out _ _ trivial (fun hS => ?_)
                    clear hK K
                    obtain ⟨g8, hg8⟩ : ∃ g, v1.heap.size = g := ⟨_, rfl⟩
                    rw [hg8] at hN ⊢
                    obtain ⟨v2, hV9⟩ : ∃ V, World.alloc v1 (.cells #[.int .i64 y] 3) = V := ⟨_, rfl⟩
                    rw [hV9] at hM2 hN ⊢
                    have hM := hM2
                    clear hV9 hg8 hM2
                    refine wpAnyH_ready (rs := [1]) (by kernel_rfl) (by simp) ?_
                    refine (AllReadyH.cons (o := { dst := some 87, op := .load 34 (.tmp 86), type := 34, pos := "ref.go:139", after := #[⟨0, .data⟩], guard := none }) rfl (fun K hK => ?_) AllReadyH.nil)
                    have c0 := cell_of_row _ BK 0 _ _ _ hM.rk
                    try dsimp only at c0
                    go_simp
                    refine hK.out _ _ trivial (fun hS => ?_)
                    clear hK K c0
                    refine wpAnyH_ready (rs := [5]) (by kernel_rfl) (by simp) ?_
                    refine (AllReadyH.cons (o := { dst := some 91, op := .call { callee := .builtin .append, args := #[.tmp 87, .tmp 90], argTypes := #[34, 34] }, type := 34, pos := "ref.go:139", after := #[⟨1, .data⟩, ⟨4, .data⟩, ⟨3, .chain⟩], guard := none }) rfl (fun K hK => ?_) AllReadyH.nil)
                    refine step_append_lies _ rfl _ _ 34 rfl (BK + 1) 3 i0 (.int .i64 0) 1 8 Tryz.underlying34 hi hz0 hz1 hz2 rfl (by decide) _ k (((cms lw lc).take k).map (Value.int .i64)) rfl (by have := hM.oy; rwa [HLk.out.2] at this) ⟨g8, 0, none⟩ 1 1 [.int .i64 y] rfl rfl (World.news_of_block hN) (by simp [Value.oneCell']) Nat.zero_lt_one HA.out.1 HA.out.2 (by have := (Array.getElem?_eq_some_iff.1 hM.rk).1; omega) _ rfl ?_
                    intro g9 c9 w9 hown9 hgrow9 hat9 hlt9
                    obtain ⟨e0, f0, hM9⟩ := hM.appY y rfl (by rw [HLk.out.2]; exact hown9) hgrow9 hat9
                    clear hM hown9 hgrow9 hat9 hlt9 hN
                    refine hK.out _ _ trivial (fun hS => ?_)
                    clear hK K
                    refine wpAnyH_take (i := 6) (v := ?vpcb26) rfl (by kernel_rfl) (by kernel_rfl) (by kernel_rfl) (fun _ _ _ h => h) (Or.inl ⟨by rfl, ?ypcb26⟩) hS ?rpcb26
                    case ypcb26 => (intro w hS; go_simp; try with_reducible rfl)
                    go_simp
                    refine wpAnyH_ready (rs := [7]) (by kernel_rfl) (by simp) ?_
                    refine (AllReadyH.cons (o := { dst := none, op := .store 34 (.tmp 92) (.tmp 91), type := 0, pos := "ref.go:139", after := #[⟨6, .data⟩, ⟨5, .data⟩, ⟨5, .chain⟩, ⟨0, .phase⟩, ⟨1, .phase⟩, ⟨2, .phase⟩, ⟨3, .phase⟩, ⟨4, .phase⟩, ⟨5, .phase⟩], guard := none }) rfl (fun K hK => ?_) AllReadyH.nil)
                    go_simp
                    refine hK.out _ _ trivial (fun hS => ?_)
                    clear hK K e0 f0
                    refine wpAnyH_done (by kernel_rfl) ?_ _
                    rw [HLk.out.2] at hM9
                    have KQ := Lib.hid (show MK W0 BK _ (.slice (some ⟨g9, 0, none⟩) (k + 1) c9) (.slice pq NP cq) ((cfs lw lc).take (k+1)) ((cms lw lc).take (k+1)) _ from by rw [HT.out.1, HT.out.2]; exact hM9)
                    clear hM9 hS
                    try go_wp2
                    exact ⟨⟨k + 1, _, by omega, by go_num, KQ⟩, by simp; omega⟩
            · obtain rfl : k = ND := by omega
              have hEX : (cfs lw lc).take k = cfs lw lc := List.take_of_length_le (by rw [cfs_len, HTT.out.2]; exact Nat.le_refl _)
              have hEY : (cms lw lc).take k = cms lw lc := List.take_of_length_le (by rw [cms_len, HTT.out.2]; exact Nat.le_refl _)
              rw [hEX, hEY] at HQ
              obtain ⟨pk, ck, rfl⟩ := own_shape HQ.out.oy
              obtain ⟨px, cx9, rfl⟩ := own_shape HQ.out.ox
              obtain ⟨kv, hkv⟩ : ∃ v, Value.slice pk (cms lw lc).length ck = v := ⟨_, rfl⟩
              have h1c : (#[Value.slice pk (cms lw lc).length ck, .slice pq NP cq]).all (·.oneCell') = true := by simp [Value.oneCell']
              have hrz := (HQ.out.bl.block _ (by have := HBK.out; have := HBw.out; omega)).trans HKL.out.2.1
              have hne : BK ≠ w.heap.size + 1 := by have := HBw.out; omega
              have hPS := HKL.out.2.2.1.next HQ.out.bl
              obtain ⟨pv, hpv⟩ : ∃ v, Value.slice pq NP cq = v := ⟨_, rfl⟩
              have hrk := HQ.out.rk
              rw [hkv, hpv] at h1c hrk
              have HZ := Lib.hid (show Below w.heap.size w wr.drew ∧ wr.drew.heap[BK]? = some (.cells #[kv, pv] 41 (0, 0)) ∧ wr.drew.heap[w.heap.size + 1]? = some (.cells #[.slice none 0 0, .slice none 0 0] 41 (0, 0)) ∧ (#[kv, pv]).all (·.oneCell') = true ∧ BK ≠ w.heap.size + 1 from ⟨(HCc.out.b).drew, hrk, hrz, h1c, hne⟩)
              have HY := Lib.hid (And.intro hPS (And.intro hkv (And.intro hpv HQ.out)))
              clear h1c hrz hne hPS hrk hkv hpv c1 HCc HQ hEX hEY
              go_upto_region 24 with fail
              refine wp_region_held_drew (S := fun V => Below w.heap.size w V ∧ V.heap[BK]? = some (.cells #[kv, pv] 41 (0, 0))) (by kernel_rfl) ⟨HZ.out.1, HZ.out.2.1⟩ (fun hS => ?_)
              refine wpAnyH_take (i := 0) (v := ?vpzb0) rfl (by kernel_rfl) (by kernel_rfl) (by kernel_rfl) (fun _ _ _ h => h) (Or.inl ⟨by rfl, ?ypzb0⟩) hS ?rpzb0
              case ypzb0 => (intro w hS; go_simp; try with_reducible rfl)
              go_simp
              refine wpAnyH_take (i := 1) (v := .agg #[kv, pv]) rfl (by kernel_rfl) (by kernel_rfl) (by kernel_rfl) (fun _ _ _ h => h) (Or.inl ⟨by rfl, ?ypzb1⟩) hS ?rpzb1
              case ypzb1 => (intro w' hS; have cf := cell_of_row _ BK 0 _ _ _ hS.2; have cg := cell_of_row _ BK 1 _ _ _ hS.2; (try dsimp only at cf cg); go_simp; try with_reducible rfl)
              go_simp
              refine wpAnyH_take (i := 2) (v := ?vpzb2) rfl (by kernel_rfl) (by kernel_rfl) (by kernel_rfl) (fun _ _ _ h => h) (Or.inl ⟨by rfl, ?ypzb2⟩) hS ?rpzb2
              case ypzb2 => (intro w hS; go_simp; try with_reducible rfl)
              go_simp
              refine wpAnyH_ready (rs := [3]) (by kernel_rfl) (by simp) ?_
              refine AllReadyH.cons (o := { dst := none, op := .store 41 (.tmp 3) (.tmp 94), type := 0, pos := "ref.go:141", after := #[⟨1, .data⟩, ⟨2, .chain⟩, ⟨0, .phase⟩, ⟨1, .phase⟩, ⟨2, .phase⟩], guard := none }) rfl (fun K hK => ?_) AllReadyH.nil
              rw [if_pos (by rfl)]
              refine wp_store_row 41 (.tmp 3) (.tmp 94) rfl (w.heap.size + 1) #[kv, pv] (by first | rfl | (simp [Act.eval])) (by first | rfl | (simp [Act.eval])) 41 _ HZ.out.2.2.1 (infoK kv pv).out (two_szK _ _ _ _) HZ.out.2.2.2.1 ?_
              have n9 := setRow_heap _ _ _ #[kv, pv] _ _ HZ.out.2.2.1
              have hS2 : Below w.heap.size w _ ∧ _ := ⟨Below.setRow' hS.1 (Nat.le_succ _) #[kv, pv], (setRow_other _ (w.heap.size + 1) BK #[kv, pv] HZ.out.2.2.2.2).trans hS.2⟩
              have HN9 := Lib.hid n9; clear n9 hS
              refine hK.out _ _ hS2 (fun hS => ?_)
              clear hK K hS2
              refine wpAnyH_done (by kernel_rfl) ?_ _
              go_wp2_with fail
              refine bodyPost_ret (results_tmp_row rfl _ _ (w.heap.size + 1) _ #[kv, pv] _ _ rfl HN9.out Tryz.underlying41 rfl (infoK kv pv).out) rfl ?_
              have hkx := kx_setRow wr.drew (w.heap.size + 1) #[kv, pv]
              have hMd := HY.out.2.2.2.next (Below.refl _ wr).drew
              have hh0 := hMd.h0
              have hBB := HBK.out
              have hBW := HBw.out
              refine ⟨⟨_, kv, pv, rfl, own_SLi (own_kx hMd.ox hkx (fun g hg e => by have := (hMd.ox.lt g hg).1; injection e with e; omega)) (fun c hc => by have := cfs_rng lw lc c hc; exact ⟨by omega, by omega⟩) (by rw [cfs_len, HTT.out.2]; omega), ?_, ?_⟩, hS.1⟩
              · have := own_kx hMd.oy hkx (fun g hg e => by have := (hMd.oy.lt g hg).1; injection e with e; omega)
                rw [HY.out.2.1] at this
                exact own_SLi this (fun c hc => by obtain ⟨a, ha, rfl⟩ := List.mem_map.1 hc; exact pp_i64 _ _) (by rw [cms_len, HTT.out.2]; omega)
              · have := (HY.out.1.next (Below.refl _ wr).drew).kx hkx (fun m h => by injection h with h; rw [← h]; exact HVw.out)
                rw [HY.out.2.2.1] at this
                exact this.LLc (LP_rng lw)
        · clear hex
          go_upto_region 12 with fail
          go_wp2_with fail
          refine (PT.out wr _ HM.out).mono ?_
          rintro e w2 ⟨⟨pv, rfl, hL⟩, b2⟩
          obtain ⟨pq, cq, rfl⟩ : ∃ p c, pv = .slice p (LP lw).length c := own_shape hL.choose_spec.1
          have HKL := Lib.hid (And.intro (HK2.out.1.next b2) (And.intro ((b2.block _ (Array.getElem?_eq_some_iff.1 HK2.out.2).1).trans HK2.out.2) (And.intro hL b2.size)))
          have hVw : w.heap.size + 1 < wr.heap.size := (Array.getElem?_eq_some_iff.1 HK2.out.2).1
          have HVw := Lib.hid hVw
          clear b2 hL HK2 HM c0 hVw
          go_wp2_with fail
          refine (NDc.out _).mono ?_
          rintro e w3 ⟨rfl, hw3⟩
          replace hw3 := hw3.symm
          subst hw3
          go_upto_region 16 with fail
          obtain ⟨V15, hV15⟩ : ∃ V, w2.alloc (.cells #[.slice none 0 0, .slice pq (LP lw).length cq] 41) = V := ⟨_, rfl⟩
          rw [hV15]
          obtain ⟨pv, hpv⟩ : ∃ pv, Value.slice pq (LP lw).length cq = pv := ⟨_, rfl⟩
          have HMK := Lib.hid (show MK w2 w2.heap.size (.slice none 0 0) (.slice none 0 0) (.slice pq (LP lw).length cq) ((cfs lw lc).take 0) ((cms lw lc).take 0) V15 from by
            rw [← hV15]
            exact ⟨(Below.refl _ w2).alloc (Nat.le_refl _) _, Nat.le_refl _, heap_alloc_new _ _, World.ownsRow_nil _ _ _ _, World.ownsRow_nil _ _ _ _, fun g h => by cases h⟩)
          have hBw : w.heap.size + 1 < w2.heap.size := (Array.getElem?_eq_some_iff.1 HKL.out.2.1).1
          have HBw := Lib.hid hBw
          clear hV15 hBw
          obtain ⟨BK, hBK⟩ : ∃ b, w2.heap.size = b := ⟨_, rfl⟩
          rw [hBK] at HMK HBw ⊢
          have HBK := Lib.hid hBK; clear hBK
          obtain ⟨W0, hW0⟩ : ∃ V, V = w2 := ⟨_, rfl⟩
          rw [← hW0] at HMK HKL HBK
          clear hW0 hpv pv
          obtain ⟨NP, hNP⟩ : ∃ n, (LP lw).length = n := ⟨_, rfl⟩
          rw [hNP] at HMK HKL ⊢
          clear hNP
          obtain ⟨NC, hNC⟩ : ∃ n, lc.length = n := ⟨_, rfl⟩
          have HNC := Lib.hid hNC
          rw [hNC] at HKL hlc HK1 ⊢
          clear hNC
          have hNCi : (NC : Int) ≤ 9223372036854775807 := by unfold maxLen at hlc; omega
          clear hlc
          go_wp2_with fail
          go_loopw [11, 13] (fun a i wr => ∃ (k : Nat) (kv : Value), k ≤ ND ∧ i = .int .i64 (k : Int) ∧ Hid (MK W0 BK a kv (.slice pq NP cq) ((cfs lw lc).take k) ((cms lw lc).take k) wr)) (fun _ i _ => ND - (match i with | .int _ i => i.toNat | _ => 0))
          case atStart => exact ⟨0, _, Nat.zero_le _, rfl, HMK⟩
          case round =>
            obtain ⟨k, kv, hk, rfl, HQ⟩ := hrel
            have HCc := Lib.hid ((HKL.out.1.next HQ.out.bl))
            have c1 := HCc.out.get ⟨w.heap.size, 1, none⟩ (.slice pc NC nc) (by simp)
            by_cases hlt : k < ND
            · obtain ⟨n9, hn9⟩ : ∃ n, cf lc k = n := ⟨_, rfl⟩
              obtain ⟨y, hy⟩ : ∃ y, pp 4 n9 = y := ⟨_, rfl⟩
              have hnr : i64 n9 := by have := cf_rng lc k (by omega); rw [hn9] at this; exact ⟨by omega, by omega⟩
              have HT := Lib.hid (show (cfs lw lc).take (k+1) = (cfs lw lc).take k ++ [n9] ∧ (cms lw lc).take (k+1) = (cms lw lc).take k ++ [y] from ⟨by rw [cfs_take lw lc k (by rw [HTT.out.2]; exact hlt), hn9], by rw [cms_take lw lc k (by rw [HTT.out.2]; exact hlt), hn9, hy]⟩)
              have HLk := Lib.hid (show ((cfs lw lc).take k).length = k ∧ ((cms lw lc).take k).length = k from ⟨by rw [List.length_take, cfs_len, HTT.out.2]; omega, by rw [List.length_take, cms_len, HTT.out.2]; omega⟩)
              have HA := Lib.hid (show k + 1 ≤ maxLen ∧ (k + 1) * 8 ≤ 140737488355328 from ⟨by unfold maxLen; omega, by omega⟩)
              have PWk : Hid (∀ W, Calls Tryz.prog 39 #[.int .i64 4, .int .i64 n9, .int .i64 2305843009213691579] W fun e w' => e = .returned (.int .i64 y) ∧ w' = W) := Lib.hid fun W => PWc.out W n9 y hy hnr
              have ha1 : 2 * (k : Int) ≤ 9223372036854775807 := by omega
              have ha2 : 3 + 2 * (k : Int) ≤ 9223372036854775807 := by omega
              clear hy
              by_cases hl0 : NC = 0
              · have hle : lc = [] := List.length_eq_zero_iff.1 (by rw [HNC.out]; exact hl0)
                have hn3 : 3 + 2 * (k : Int) = n9 := by rw [← hn9]; unfold cf; rw [if_pos hle]
                have HN3 := Lib.hid hn3
                subst hl0
                clear hn9 hn3 hle hnr
                have ho := HQ.out.ox
                rw [HLk.out.1] at ho
                have HO := Lib.hid ho; clear ho
                go_upto_region 22 with fail
                rw [HN3.out]
                go_wp2_with (at_builtin; go_must (refine wpList_append_lies _ rfl _ _ 34 rfl (BK + 1) 3 i0 (.int .i64 0) 1 8 Tryz.underlying34 hi hz0 hz1 hz2 rfl (by decide) _ k (((cfs lw lc).take k).map (Value.int .i64)) rfl (HO.out.alloc _) ⟨wr.heap.size, 0, none⟩ 1 1 [.int .i64 n9] rfl rfl (World.news_of_block (heap_alloc_new _ _)) (by simp [Value.oneCell']) Nat.zero_lt_one HA.out.1 HA.out.2 (by rw [World.size_alloc]; have := (Array.getElem?_eq_some_iff.1 HQ.out.rk).1; omega) _ rfl ?_); intro g7 c7 v1 hown9 hgrow9 hat9 hlt9)
                have hM := (HQ.out.next ((Below.refl _ wr).alloc (Nat.le_refl _) (.cells #[.int .i64 n9] 3))).appX n9 (g := g7) (cap := c7) rfl (by rw [HLk.out.1]; exact hown9) hgrow9 hat9
                rw [HLk.out.1] at hM
                clear hown9 hgrow9 hat9 hlt9 HO HQ
                try clear HM1
                try clear c1
                try clear HCc
                go_upto_region 23 with fail
                have HMh := Lib.hid (hM.next (Below.refl _ v1).drew)
                clear hM
                refine wp_region_held_drew (S := fun _ => True) (by kernel_rfl) trivial (fun hS => ?_)
                have hM := HMh.out
                clear HMh
                generalize World.drew v1 = v1 at hM ⊢
                refine wpAnyH_take (i := 0) (v := ?vp0c10) rfl (by kernel_rfl) (by kernel_rfl) (by kernel_rfl) (fun _ _ _ h => h) (Or.inl ⟨by rfl, ?yp0c10⟩) hS ?rp0c10
                case yp0c10 => (intro w hS; go_simp; try with_reducible rfl)
                go_simp
                refine wpAnyH_take (i := 2) (v := ?vp0c12) rfl (by kernel_rfl) (by kernel_rfl) (by kernel_rfl) (fun _ _ _ h => h) (Or.inl ⟨by rfl, ?yp0c12⟩) hS ?rp0c12
                case yp0c12 => (intro w hS; go_simp; try with_reducible rfl)
                go_simp
                refine wpAnyH_ready (rs := [1, 3]) (by kernel_rfl) (by simp) ?_
                refine (AllReadyH.cons (o := { dst := some 87, op := .load 34 (.tmp 86), type := 34, pos := "ref.go:139", after := #[⟨0, .data⟩], guard := none }) rfl (fun K hK => ?_) (AllReadyH.cons (o := { dst := some 89, op := .call { callee := .value (.func 39), args := #[.const (.int .i64 4), .tmp 88, .const (.int .i64 2305843009213691579)], argTypes := #[3, 3, 3] }, type := 3, pos := "ref.go:139", after := #[⟨2, .data⟩], guard := none }) rfl (fun K hK => ?_) AllReadyH.nil))
                · have c0 := cell_of_row _ BK 0 _ _ _ hM.rk
                  try dsimp only at c0
                  go_simp
                  refine hK.out _ _ trivial (fun hS => ?_)
                  clear hK K c0
                  refine wpAnyH_ready (rs := [3]) (by kernel_rfl) (by simp) ?_
                  refine (AllReadyH.cons (o := { dst := some 89, op := .call { callee := .value (.func 39), args := #[.const (.int .i64 4), .tmp 88, .const (.int .i64 2305843009213691579)], argTypes := #[3, 3, 3] }, type := 3, pos := "ref.go:139", after := #[⟨2, .data⟩], guard := none }) rfl (fun K hK => ?_) AllReadyH.nil)
                  go_simp
                  go_at_call 39
                  refine (PWk.out _).mono ?_
                  rintro e w8 ⟨rfl, hw8⟩
                  replace hw8 := hw8.symm
                  subst hw8
                  try go_simp
                  refine hK.out _ _ trivial (fun hS => ?_)
                  clear hK K
                  refine wpAnyH_ready (rs := [4]) (by kernel_rfl) (by simp) ?_
                  refine (AllReadyH.cons (o := { dst := some 90, op := .buildSlice 34 1 #[(0, .tmp 89)], type := 34, pos := "ref.go:139", after := #[⟨3, .data⟩], guard := none }) rfl (fun K hK => ?_) AllReadyH.nil)
                  go_simp
                  have hN := heap_alloc_new v1 (.cells #[.int .i64 y] 3)
                  have hM2 := hM.next ((Below.refl _ v1).alloc (Nat.le_refl _) (.cells #[.int .i64 y] 3))
                  clear hM
                  refine hK.out _ _ trivial (fun hS => ?_)
                  clear hK K
                  obtain ⟨g8, hg8⟩ : ∃ g, v1.heap.size = g := ⟨_, rfl⟩
                  rw [hg8] at hN ⊢
                  obtain ⟨v2, hV9⟩ : ∃ V, World.alloc v1 (.cells #[.int .i64 y] 3) = V := ⟨_, rfl⟩
                  rw [hV9] at hM2 hN ⊢
                  have hM := hM2
                  clear hV9 hg8 hM2
                  refine wpAnyH_ready (rs := [5]) (by kernel_rfl) (by simp) ?_
                  refine (AllReadyH.cons (o := { dst := some 91, op := .call { callee := .builtin .append, args := #[.tmp 87, .tmp 90], argTypes := #[34, 34] }, type := 34, pos := "ref.go:139", after := #[⟨1, .data⟩, ⟨4, .data⟩, ⟨3, .chain⟩], guard := none }) rfl (fun K hK => ?_) AllReadyH.nil)
                  refine step_append_lies _ rfl _ _ 34 rfl (BK + 1) 3 i0 (.int .i64 0) 1 8 Tryz.underlying34 hi hz0 hz1 hz2 rfl (by decide) _ k (((cms lw lc).take k).map (Value.int .i64)) rfl (by have := hM.oy; rwa [HLk.out.2] at this) ⟨g8, 0, none⟩ 1 1 [.int .i64 y] rfl rfl (World.news_of_block hN) (by simp [Value.oneCell']) Nat.zero_lt_one HA.out.1 HA.out.2 (by have := (Array.getElem?_eq_some_iff.1 hM.rk).1; omega) _ rfl ?_
                  intro g9 c9 w9 hown9 hgrow9 hat9 hlt9
                  obtain ⟨e0, f0, hM9⟩ := hM.appY y rfl (by rw [HLk.out.2]; exact hown9) hgrow9 hat9
                  clear hM hown9 hgrow9 hat9 hlt9 hN
                  refine hK.out _ _ trivial (fun hS => ?_)
                  clear hK K
                  refine wpAnyH_take (i := 6) (v := ?vpac16) rfl (by kernel_rfl) (by kernel_rfl) (by kernel_rfl) (fun _ _ _ h => h) (Or.inl ⟨by rfl, ?ypac16⟩) hS ?rpac16
                  case ypac16 => (intro w hS; go_simp; try with_reducible rfl)
                  go_simp
                  refine wpAnyH_ready (rs := [7]) (by kernel_rfl) (by simp) ?_
                  refine (AllReadyH.cons (o := { dst := none, op := .store 34 (.tmp 92) (.tmp 91), type := 0, pos := "ref.go:139", after := #[⟨6, .data⟩, ⟨5, .data⟩, ⟨5, .chain⟩, ⟨0, .phase⟩, ⟨1, .phase⟩, ⟨2, .phase⟩, ⟨3, .phase⟩, ⟨4, .phase⟩, ⟨5, .phase⟩], guard := none }) rfl (fun K hK => ?_) AllReadyH.nil)
                  go_simp
                  refine hK.out _ _ trivial (fun hS => ?_)
                  clear hK K e0 f0
                  refine wpAnyH_done (by kernel_rfl) ?_ _
                  rw [HLk.out.2] at hM9
                  have KQ := Lib.hid (show MK W0 BK _ (.slice (some ⟨g9, 0, none⟩) (k + 1) c9) (.slice pq NP cq) ((cfs lw lc).take (k+1)) ((cms lw lc).take (k+1)) _ from by rw [HT.out.1, HT.out.2]; exact hM9)
                  clear hM9 hS
                  try go_wp2
                  exact ⟨⟨k + 1, _, by omega, by go_num, KQ⟩, by simp; omega⟩
                · go_simp
                  go_at_call 39
                  refine (PWk.out _).mono ?_
                  rintro e w8 ⟨rfl, hw8⟩
                  replace hw8 := hw8.symm
                  subst hw8
                  try go_simp
                  refine hK.out _ _ trivial (fun hS => ?_)
                  clear hK K
                  refine wpAnyH_ready (rs := [1, 4]) (by kernel_rfl) (by simp) ?_
                  refine (AllReadyH.cons (o := { dst := some 87, op := .load 34 (.tmp 86), type := 34, pos := "ref.go:139", after := #[⟨0, .data⟩], guard := none }) rfl (fun K hK => ?_) (AllReadyH.cons (o := { dst := some 90, op := .buildSlice 34 1 #[(0, .tmp 89)], type := 34, pos := "ref.go:139", after := #[⟨3, .data⟩], guard := none }) rfl (fun K hK => ?_) AllReadyH.nil))
                  · have c0 := cell_of_row _ BK 0 _ _ _ hM.rk
                    try dsimp only at c0
                    go_simp
                    refine hK.out _ _ trivial (fun hS => ?_)
                    clear hK K c0
                    refine wpAnyH_ready (rs := [4]) (by kernel_rfl) (by simp) ?_
                    refine (AllReadyH.cons (o := { dst := some 90, op := .buildSlice 34 1 #[(0, .tmp 89)], type := 34, pos := "ref.go:139", after := #[⟨3, .data⟩], guard := none }) rfl (fun K hK => ?_) AllReadyH.nil)
                    go_simp
                    have hN := heap_alloc_new v1 (.cells #[.int .i64 y] 3)
                    have hM2 := hM.next ((Below.refl _ v1).alloc (Nat.le_refl _) (.cells #[.int .i64 y] 3))
                    clear hM
                    refine hK.out _ _ trivial (fun hS => ?_)
                    clear hK K
                    obtain ⟨g8, hg8⟩ : ∃ g, v1.heap.size = g := ⟨_, rfl⟩
                    rw [hg8] at hN ⊢
                    obtain ⟨v2, hV9⟩ : ∃ V, World.alloc v1 (.cells #[.int .i64 y] 3) = V := ⟨_, rfl⟩
                    rw [hV9] at hM2 hN ⊢
                    have hM := hM2
                    clear hV9 hg8 hM2
                    refine wpAnyH_ready (rs := [5]) (by kernel_rfl) (by simp) ?_
                    refine (AllReadyH.cons (o := { dst := some 91, op := .call { callee := .builtin .append, args := #[.tmp 87, .tmp 90], argTypes := #[34, 34] }, type := 34, pos := "ref.go:139", after := #[⟨1, .data⟩, ⟨4, .data⟩, ⟨3, .chain⟩], guard := none }) rfl (fun K hK => ?_) AllReadyH.nil)
                    refine step_append_lies _ rfl _ _ 34 rfl (BK + 1) 3 i0 (.int .i64 0) 1 8 Tryz.underlying34 hi hz0 hz1 hz2 rfl (by decide) _ k (((cms lw lc).take k).map (Value.int .i64)) rfl (by have := hM.oy; rwa [HLk.out.2] at this) ⟨g8, 0, none⟩ 1 1 [.int .i64 y] rfl rfl (World.news_of_block hN) (by simp [Value.oneCell']) Nat.zero_lt_one HA.out.1 HA.out.2 (by have := (Array.getElem?_eq_some_iff.1 hM.rk).1; omega) _ rfl ?_
                    intro g9 c9 w9 hown9 hgrow9 hat9 hlt9
                    obtain ⟨e0, f0, hM9⟩ := hM.appY y rfl (by rw [HLk.out.2]; exact hown9) hgrow9 hat9
                    clear hM hown9 hgrow9 hat9 hlt9 hN
                    refine hK.out _ _ trivial (fun hS => ?_)
                    clear hK K
                    refine wpAnyH_take (i := 6) (v := ?vpbc16) rfl (by kernel_rfl) (by kernel_rfl) (by kernel_rfl) (fun _ _ _ h => h) (Or.inl ⟨by rfl, ?ypbc16⟩) hS ?rpbc16
                    case ypbc16 => (intro w hS; go_simp; try with_reducible rfl)
                    go_simp
                    refine wpAnyH_ready (rs := [7]) (by kernel_rfl) (by simp) ?_
                    refine (AllReadyH.cons (o := { dst := none, op := .store 34 (.tmp 92) (.tmp 91), type := 0, pos := "ref.go:139", after := #[⟨6, .data⟩, ⟨5, .data⟩, ⟨5, .chain⟩, ⟨0, .phase⟩, ⟨1, .phase⟩, ⟨2, .phase⟩, ⟨3, .phase⟩, ⟨4, .phase⟩, ⟨5, .phase⟩], guard := none }) rfl (fun K hK => ?_) AllReadyH.nil)
                    go_simp
                    refine hK.out _ _ trivial (fun hS => ?_)
                    clear hK K e0 f0
                    refine wpAnyH_done (by kernel_rfl) ?_ _
                    rw [HLk.out.2] at hM9
                    have KQ := Lib.hid (show MK W0 BK _ (.slice (some ⟨g9, 0, none⟩) (k + 1) c9) (.slice pq NP cq) ((cfs lw lc).take (k+1)) ((cms lw lc).take (k+1)) _ from by rw [HT.out.1, HT.out.2]; exact hM9)
                    clear hM9 hS
                    try go_wp2
                    exact ⟨⟨k + 1, _, by omega, by go_num, KQ⟩, by simp; omega⟩
                  · go_simp
                    have hN := heap_alloc_new v1 (.cells #[.int .i64 y] 3)
                    have hM2 := hM.next ((Below.refl _ v1).alloc (Nat.le_refl _) (.cells #[.int .i64 y] 3))
                    clear hM
                    refine hK.out _ _ trivial (fun hS => ?_)
                    clear hK K
                    obtain ⟨g8, hg8⟩ : ∃ g, v1.heap.size = g := ⟨_, rfl⟩
                    rw [hg8] at hN ⊢
                    obtain ⟨v2, hV9⟩ : ∃ V, World.alloc v1 (.cells #[.int .i64 y] 3) = V := ⟨_, rfl⟩
                    rw [hV9] at hM2 hN ⊢
                    have hM := hM2
                    clear hV9 hg8 hM2
                    refine wpAnyH_ready (rs := [1]) (by kernel_rfl) (by simp) ?_
                    refine (AllReadyH.cons (o := { dst := some 87, op := .load 34 (.tmp 86), type := 34, pos := "ref.go:139", after := #[⟨0, .data⟩], guard := none }) rfl (fun K hK => ?_) AllReadyH.nil)
                    have c0 := cell_of_row _ BK 0 _ _ _ hM.rk
                    try dsimp only at c0
                    go_simp
                    refine hK.out _ _ trivial (fun hS => ?_)
                    clear hK K c0
                    refine wpAnyH_ready (rs := [5]) (by kernel_rfl) (by simp) ?_
                    refine (AllReadyH.cons (o := { dst := some 91, op := .call { callee := .builtin .append, args := #[.tmp 87, .tmp 90], argTypes := #[34, 34] }, type := 34, pos := "ref.go:139", after := #[⟨1, .data⟩, ⟨4, .data⟩, ⟨3, .chain⟩], guard := none }) rfl (fun K hK => ?_) AllReadyH.nil)
                    refine step_append_lies _ rfl _ _ 34 rfl (BK + 1) 3 i0 (.int .i64 0) 1 8 Tryz.underlying34 hi hz0 hz1 hz2 rfl (by decide) _ k (((cms lw lc).take k).map (Value.int .i64)) rfl (by have := hM.oy; rwa [HLk.out.2] at this) ⟨g8, 0, none⟩ 1 1 [.int .i64 y] rfl rfl (World.news_of_block hN) (by simp [Value.oneCell']) Nat.zero_lt_one HA.out.1 HA.out.2 (by have := (Array.getElem?_eq_some_iff.1 hM.rk).1; omega) _ rfl ?_
                    intro g9 c9 w9 hown9 hgrow9 hat9 hlt9
                    obtain ⟨e0, f0, hM9⟩ := hM.appY y rfl (by rw [HLk.out.2]; exact hown9) hgrow9 hat9
                    clear hM hown9 hgrow9 hat9 hlt9 hN
                    refine hK.out _ _ trivial (fun hS => ?_)
                    clear hK K
                    refine wpAnyH_take (i := 6) (v := ?vpcc16) rfl (by kernel_rfl) (by kernel_rfl) (by kernel_rfl) (fun _ _ _ h => h) (Or.inl ⟨by rfl, ?ypcc16⟩) hS ?rpcc16
                    case ypcc16 => (intro w hS; go_simp; try with_reducible rfl)
                    go_simp
                    refine wpAnyH_ready (rs := [7]) (by kernel_rfl) (by simp) ?_
                    refine (AllReadyH.cons (o := { dst := none, op := .store 34 (.tmp 92) (.tmp 91), type := 0, pos := "ref.go:139", after := #[⟨6, .data⟩, ⟨5, .data⟩, ⟨5, .chain⟩, ⟨0, .phase⟩, ⟨1, .phase⟩, ⟨2, .phase⟩, ⟨3, .phase⟩, ⟨4, .phase⟩, ⟨5, .phase⟩], guard := none }) rfl (fun K hK => ?_) AllReadyH.nil)
                    go_simp
                    refine hK.out _ _ trivial (fun hS => ?_)
                    clear hK K e0 f0
                    refine wpAnyH_done (by kernel_rfl) ?_ _
                    rw [HLk.out.2] at hM9
                    have KQ := Lib.hid (show MK W0 BK _ (.slice (some ⟨g9, 0, none⟩) (k + 1) c9) (.slice pq NP cq) ((cfs lw lc).take (k+1)) ((cms lw lc).take (k+1)) _ from by rw [HT.out.1, HT.out.2]; exact hM9)
                    clear hM9 hS
                    try go_wp2
                    exact ⟨⟨k + 1, _, by omega, by go_num, KQ⟩, by simp; omega⟩
              · have hle : lc ≠ [] := fun e => hl0 (by rw [← HNC.out, e]; rfl)
                have hNC0 : (0 : Int) < (NC : Int) := by omega
                have hNC1 : ¬ (NC : Int) = 0 := by omega
                have hr1 : Int.tmod (k : Int) (NC : Int) = ((k % NC : Nat) : Int) := by rw [Int.tmod_eq_emod_of_nonneg (by omega)]; rfl
                have hmodlt : k % NC < NC := Nat.mod_lt _ (by omega)
                obtain ⟨x, hx⟩ : ∃ x, lc[k % NC]? = some x := ⟨lc[k % NC]'(by rw [HNC.out]; exact hmodlt), List.getElem?_eq_getElem _⟩
                have hcf : wrap64 (x + (k : Int)) % 1152921504606845789 = n9 := by
                  rw [← hn9]; unfold cf; rw [if_neg hle, HNC.out, List.getD_eq_getElem?_getD, hx]; rfl
                obtain ⟨b, o, hp, hcx⟩ := HW.out.2.2.1 _ x hx
                subst hp
                have cx := (HCc.out.b.cell (p := ⟨b, o + k % NC, none⟩) (World.block_lt_of_cell? _ _ hcx)).trans hcx
                have hwi : i64 (wrap64 (x + (k : Int))) := ⟨by unfold wrap64; omega, by unfold wrap64; omega⟩
                obtain ⟨s9, hs9⟩ : ∃ s, wrap64 (x + (k : Int)) = s := ⟨_, rfl⟩
                rw [hs9] at hcf hwi
                have hs9' : IntKind.i64.wrap (x + (k : Int)) = s9 := by rw [IntKind.wrap_i64, ← hs9]; unfold wrap64; rfl
                have MD : Hid (∀ W, Calls Tryz.prog 43 #[.int .i64 s9, .int .i64 1152921504606845789] W fun e w' => e = .returned (.int .i64 n9) ∧ Below W.heap.size W w') := Lib.hid fun W => MDc.out W s9 n9 hcf hwi
                obtain ⟨m9, hm9⟩ : ∃ m, k % NC = m := ⟨_, rfl⟩
                rw [hm9] at hr1 hmodlt cx
                clear hn9 hnr hx hcf hcx hwi hm9 hle
                have HCx : Hid (CK w [(⟨w.heap.size, 1, none⟩, .slice (some ⟨b, o, none⟩) NC nc), (⟨b, o + m9, none⟩, .int .i64 x)] [] wr) := Lib.hid ⟨HCc.out.b, fun q hq => by
                  simp only [List.mem_cons, List.not_mem_nil, or_false] at hq
                  rcases hq with rfl | rfl
                  · exact c1
                  · exact cx, fun q hq => by cases hq⟩
                have hm9l : (m9 : Int) < (NC : Int) := by omega
                have HM1 := HQ
                clear cx hs9
                go_upto_region 21 with fail
                replace HM1 := Lib.hid (HM1.out.next (Below.refl _ wr).drew)
                refine wp_region_held_drew (S := CK w [(⟨w.heap.size, 1, none⟩, .slice (some ⟨b, o, none⟩) NC nc), (⟨b, o + m9, none⟩, .int .i64 x)] []) (by kernel_rfl) HCx.out.drew (fun hS => ?_)
                refine wpAnyH_take (i := 0) (v := ?vpmc0) rfl (by kernel_rfl) (by kernel_rfl) (by kernel_rfl) (fun _ _ _ h => h) (Or.inl ⟨by rfl, ?ypmc0⟩) hS ?rpmc0
                case ypmc0 => (intro w hS; go_simp; try with_reducible rfl)
                refine wpAnyH_take (i := 2) (v := ?vpmc2) rfl (by kernel_rfl) (by kernel_rfl) (by kernel_rfl) (fun _ _ _ h => h) (Or.inl ⟨by rfl, ?ypmc2⟩) hS ?rpmc2
                case ypmc2 => (intro w hS; go_simp; try with_reducible rfl)
                refine wpAnyH_take (i := 3) (v := ?vpmc3) rfl (by kernel_rfl) (by kernel_rfl) (by kernel_rfl) (fun _ _ _ h => h) (Or.inl ⟨by rfl, ?ypmc3⟩) hS ?rpmc3
                case ypmc3 => (intro w hS; go_simp; try with_reducible rfl)
                refine wpAnyH_take (i := 9) (v := ?vpmc9) rfl (by kernel_rfl) (by kernel_rfl) (by kernel_rfl) (fun _ _ _ h => h) (Or.inl ⟨by rfl, ?ypmc9⟩) hS ?rpmc9
                case ypmc9 => (intro w hS; go_simp; try with_reducible rfl)
                go_simp
                refine wpAnyH_take (i := 1) (v := .slice (some ⟨b, o, none⟩) NC nc) rfl (by kernel_rfl) (by kernel_rfl) (by kernel_rfl) (fun _ _ _ h => h) (Or.inl ⟨by rfl, ?ypmc1⟩) hS ?rpmc1
                case ypmc1 => (intro w' hS; have cf := hS.get ⟨w.heap.size, 1, none⟩ (.slice (some ⟨b, o, none⟩) NC nc) (by simp); go_simp; try with_reducible rfl)
                refine wpAnyH_take (i := 4) (v := .slice (some ⟨b, o, none⟩) NC nc) rfl (by kernel_rfl) (by kernel_rfl) (by kernel_rfl) (fun _ _ _ h => h) (Or.inl ⟨by rfl, ?ypmc4⟩) hS ?rpmc4
                case ypmc4 => (intro w' hS; have cf := hS.get ⟨w.heap.size, 1, none⟩ (.slice (some ⟨b, o, none⟩) NC nc) (by simp); go_simp; try with_reducible rfl)
                go_simp
                refine wpAnyH_take (i := 5) (v := ?vpmc5) rfl (by kernel_rfl) (by kernel_rfl) (by kernel_rfl) (fun _ _ _ h => h) (Or.inl ⟨by rfl, ?ypmc5⟩) hS ?rpmc5
                case ypmc5 => (intro w hS; go_simp; try with_reducible rfl)
                go_simp
                refine wpAnyH_take (i := 6) (v := ?vpmc6) rfl (by kernel_rfl) (by kernel_rfl) (by kernel_rfl) (fun _ _ _ h => h) (Or.inl ⟨by rfl, ?ypmc6⟩) hS ?rpmc6
                case ypmc6 => (intro w hS; go_simp; try with_reducible rfl)
                go_simp
                refine wpAnyH_take (i := 7) (v := ?vpmc7) rfl (by kernel_rfl) (by kernel_rfl) (by kernel_rfl) (fun _ _ _ h => h) (Or.inl ⟨by rfl, ?ypmc7⟩) hS ?rpmc7
                case ypmc7 => (intro w hS; go_simp; try with_reducible rfl)
                go_simp
                refine wpAnyH_take (i := 8) (v := .int .i64 x) rfl (by kernel_rfl) (by kernel_rfl) (by kernel_rfl) (fun _ _ _ h => h) (Or.inl ⟨by rfl, ?ypmc8⟩) hS ?rpmc8
                case ypmc8 => (intro w' hS; have cf := hS.get ⟨b, o + m9, none⟩ (.int .i64 x) (by simp); go_simp; try with_reducible rfl)
                go_simp
                refine wpAnyH_take (i := 10) (v := ?vpmc10) rfl (by kernel_rfl) (by kernel_rfl) (by kernel_rfl) (fun _ _ _ h => h) (Or.inl ⟨by rfl, ?ypmc10⟩) hS ?rpmc10
                case ypmc10 => (intro w hS; go_simp; try with_reducible rfl)
                go_simp
                refine wpAnyH_ready (rs := [11]) (by kernel_rfl) (by simp) ?_
                refine AllReadyH.cons (o := { dst := some 81, op := .call { callee := .value (.func 43), args := #[.tmp 80, .const (.int .i64 1152921504606845789)], argTypes := #[3, 3] }, type := 3, pos := "ref.go:136", after := #[⟨10, .data⟩], guard := none }) rfl (fun K hK => ?_) AllReadyH.nil
                go_simp
                go_at_call 43
                refine (MD.out _).mono ?_
                rintro e w' ⟨rfl, b⟩
                replace HM1 := Lib.hid (HM1.out.next b)
                have hS2 := hS.next b
                clear b hS
                try go_simp
                refine hK.out _ _ hS2 (fun hS => ?_)
                clear hK K hS2
                refine wpAnyH_take (i := 12) (v := ?vpmc12) rfl (by kernel_rfl) (by kernel_rfl) (by kernel_rfl) (fun _ _ _ h => h) (Or.inl ⟨by rfl, ?ypmc12⟩) hS ?rpmc12
                case ypmc12 => (intro w hS; go_simp; try with_reducible rfl)
                refine wpAnyH_done (by kernel_rfl) ?_ _
                have ho := HM1.out.ox
                rw [HLk.out.1] at ho
                have HO := Lib.hid ho; clear ho
                have HQ := HM1
                clear hS HCx c1 HCc
                go_upto_region 22 with fail
                go_wp2_with (at_builtin; go_must (refine wpList_append_lies _ rfl _ _ 34 rfl (BK + 1) 3 i0 (.int .i64 0) 1 8 Tryz.underlying34 hi hz0 hz1 hz2 rfl (by decide) _ k (((cfs lw lc).take k).map (Value.int .i64)) rfl (HO.out.alloc _) ⟨w'.heap.size, 0, none⟩ 1 1 [.int .i64 n9] rfl rfl (World.news_of_block (heap_alloc_new _ _)) (by simp [Value.oneCell']) Nat.zero_lt_one HA.out.1 HA.out.2 (by rw [World.size_alloc]; have := (Array.getElem?_eq_some_iff.1 HQ.out.rk).1; omega) _ rfl ?_); intro g7 c7 v1 hown9 hgrow9 hat9 hlt9)
                have hM := (HQ.out.next ((Below.refl _ w').alloc (Nat.le_refl _) (.cells #[.int .i64 n9] 3))).appX n9 (g := g7) (cap := c7) rfl (by rw [HLk.out.1]; exact hown9) hgrow9 hat9
                rw [HLk.out.1] at hM
                clear hown9 hgrow9 hat9 hlt9 HO HQ
                try clear HM1
                try clear c1
                try clear HCc
                go_upto_region 23 with fail
                have HMh := Lib.hid (hM.next (Below.refl _ v1).drew)
                clear hM
                refine wp_region_held_drew (S := fun _ => True) (by kernel_rfl) trivial (fun hS => ?_)
                have hM := HMh.out
                clear HMh
                generalize World.drew v1 = v1 at hM ⊢
                refine wpAnyH_take (i := 0) (v := ?vp0c20) rfl (by kernel_rfl) (by kernel_rfl) (by kernel_rfl) (fun _ _ _ h => h) (Or.inl ⟨by rfl, ?yp0c20⟩) hS ?rp0c20
                case yp0c20 => (intro w hS; go_simp; try with_reducible rfl)
                go_simp
                refine wpAnyH_take (i := 2) (v := ?vp0c22) rfl (by kernel_rfl) (by kernel_rfl) (by kernel_rfl) (fun _ _ _ h => h) (Or.inl ⟨by rfl, ?yp0c22⟩) hS ?rp0c22
                case yp0c22 => (intro w hS; go_simp; try with_reducible rfl)
                go_simp
                refine wpAnyH_ready (rs := [1, 3]) (by kernel_rfl) (by simp) ?_
                refine (AllReadyH.cons (o := { dst := some 87, op := .load 34 (.tmp 86), type := 34, pos := "ref.go:139", after := #[⟨0, .data⟩], guard := none }) rfl (fun K hK => ?_) (AllReadyH.cons (o := { dst := some 89, op := .call { callee := .value (.func 39), args := #[.const (.int .i64 4), .tmp 88, .const (.int .i64 2305843009213691579)], argTypes := #[3, 3, 3] }, type := 3, pos := "ref.go:139", after := #[⟨2, .data⟩], guard := none }) rfl (fun K hK => ?_) AllReadyH.nil))
                · have c0 := cell_of_row _ BK 0 _ _ _ hM.rk
                  try dsimp only at c0
                  go_simp
                  refine hK.out _ _ trivial (fun hS => ?_)
                  clear hK K c0
                  refine wpAnyH_ready (rs := [3]) (by kernel_rfl) (by simp) ?_
                  refine (AllReadyH.cons (o := { dst := some 89, op := .call { callee := .value (.func 39), args := #[.const (.int .i64 4), .tmp 88, .const (.int .i64 2305843009213691579)], argTypes := #[3, 3, 3] }, type := 3, pos := "ref.go:139", after := #[⟨2, .data⟩], guard := none }) rfl (fun K hK => ?_) AllReadyH.nil)
                  go_simp
                  go_at_call 39
                  refine (PWk.out _).mono ?_
                  rintro e w8 ⟨rfl, hw8⟩
                  replace hw8 := hw8.symm
                  subst hw8
                  try go_simp
                  refine hK.out _ _ trivial (fun hS => ?_)
                  clear hK K
                  refine wpAnyH_ready (rs := [4]) (by kernel_rfl) (by simp) ?_
                  refine (AllReadyH.cons (o := { dst := some 90, op := .buildSlice 34 1 #[(0, .tmp 89)], type := 34, pos := "ref.go:139", after := #[⟨3, .data⟩], guard := none }) rfl (fun K hK => ?_) AllReadyH.nil)
                  go_simp
                  have hN := heap_alloc_new v1 (.cells #[.int .i64 y] 3)
                  have hM2 := hM.next ((Below.refl _ v1).alloc (Nat.le_refl _) (.cells #[.int .i64 y] 3))
                  clear hM
                  refine hK.out _ _ trivial (fun hS => ?_)
                  clear hK K
                  obtain ⟨g8, hg8⟩ : ∃ g, v1.heap.size = g := ⟨_, rfl⟩
                  rw [hg8] at hN ⊢
                  obtain ⟨v2, hV9⟩ : ∃ V, World.alloc v1 (.cells #[.int .i64 y] 3) = V := ⟨_, rfl⟩
                  rw [hV9] at hM2 hN ⊢
                  have hM := hM2
                  clear hV9 hg8 hM2
                  refine wpAnyH_ready (rs := [5]) (by kernel_rfl) (by simp) ?_
                  refine (AllReadyH.cons (o := { dst := some 91, op := .call { callee := .builtin .append, args := #[.tmp 87, .tmp 90], argTypes := #[34, 34] }, type := 34, pos := "ref.go:139", after := #[⟨1, .data⟩, ⟨4, .data⟩, ⟨3, .chain⟩], guard := none }) rfl (fun K hK => ?_) AllReadyH.nil)
                  refine step_append_lies _ rfl _ _ 34 rfl (BK + 1) 3 i0 (.int .i64 0) 1 8 Tryz.underlying34 hi hz0 hz1 hz2 rfl (by decide) _ k (((cms lw lc).take k).map (Value.int .i64)) rfl (by have := hM.oy; rwa [HLk.out.2] at this) ⟨g8, 0, none⟩ 1 1 [.int .i64 y] rfl rfl (World.news_of_block hN) (by simp [Value.oneCell']) Nat.zero_lt_one HA.out.1 HA.out.2 (by have := (Array.getElem?_eq_some_iff.1 hM.rk).1; omega) _ rfl ?_
                  intro g9 c9 w9 hown9 hgrow9 hat9 hlt9
                  obtain ⟨e0, f0, hM9⟩ := hM.appY y rfl (by rw [HLk.out.2]; exact hown9) hgrow9 hat9
                  clear hM hown9 hgrow9 hat9 hlt9 hN
                  refine hK.out _ _ trivial (fun hS => ?_)
                  clear hK K
                  refine wpAnyH_take (i := 6) (v := ?vpac26) rfl (by kernel_rfl) (by kernel_rfl) (by kernel_rfl) (fun _ _ _ h => h) (Or.inl ⟨by rfl, ?ypac26⟩) hS ?rpac26
                  case ypac26 => (intro w hS; go_simp; try with_reducible rfl)
                  go_simp
                  refine wpAnyH_ready (rs := [7]) (by kernel_rfl) (by simp) ?_
                  refine (AllReadyH.cons (o := { dst := none, op := .store 34 (.tmp 92) (.tmp 91), type := 0, pos := "ref.go:139", after := #[⟨6, .data⟩, ⟨5, .data⟩, ⟨5, .chain⟩, ⟨0, .phase⟩, ⟨1, .phase⟩, ⟨2, .phase⟩, ⟨3, .phase⟩, ⟨4, .phase⟩, ⟨5, .phase⟩], guard := none }) rfl (fun K hK => ?_) AllReadyH.nil)
                  go_simp
                  refine hK.out _ _ trivial (fun hS => ?_)
                  clear hK K e0 f0
                  refine wpAnyH_done (by kernel_rfl) ?_ _
                  rw [HLk.out.2] at hM9
                  have KQ := Lib.hid (show MK W0 BK _ (.slice (some ⟨g9, 0, none⟩) (k + 1) c9) (.slice pq NP cq) ((cfs lw lc).take (k+1)) ((cms lw lc).take (k+1)) _ from by rw [HT.out.1, HT.out.2]; exact hM9)
                  clear hM9 hS
                  try go_wp2
                  exact ⟨⟨k + 1, _, by omega, by go_num, KQ⟩, by simp; omega⟩
                · go_simp
                  go_at_call 39
                  refine (PWk.out _).mono ?_
                  rintro e w8 ⟨rfl, hw8⟩
                  replace hw8 := hw8.symm
                  subst hw8
                  try go_simp
                  refine hK.out _ _ trivial (fun hS => ?_)
                  clear hK K
                  refine wpAnyH_ready (rs := [1, 4]) (by kernel_rfl) (by simp) ?_
                  refine (AllReadyH.cons (o := { dst := some 87, op := .load 34 (.tmp 86), type := 34, pos := "ref.go:139", after := #[⟨0, .data⟩], guard := none }) rfl (fun K hK => ?_) (AllReadyH.cons (o := { dst := some 90, op := .buildSlice 34 1 #[(0, .tmp 89)], type := 34, pos := "ref.go:139", after := #[⟨3, .data⟩], guard := none }) rfl (fun K hK => ?_) AllReadyH.nil))
                  · have c0 := cell_of_row _ BK 0 _ _ _ hM.rk
                    try dsimp only at c0
                    go_simp
                    refine hK.out _ _ trivial (fun hS => ?_)
                    clear hK K c0
                    refine wpAnyH_ready (rs := [4]) (by kernel_rfl) (by simp) ?_
                    refine (AllReadyH.cons (o := { dst := some 90, op := .buildSlice 34 1 #[(0, .tmp 89)], type := 34, pos := "ref.go:139", after := #[⟨3, .data⟩], guard := none }) rfl (fun K hK => ?_) AllReadyH.nil)
                    go_simp
                    have hN := heap_alloc_new v1 (.cells #[.int .i64 y] 3)
                    have hM2 := hM.next ((Below.refl _ v1).alloc (Nat.le_refl _) (.cells #[.int .i64 y] 3))
                    clear hM
                    refine hK.out _ _ trivial (fun hS => ?_)
                    clear hK K
                    obtain ⟨g8, hg8⟩ : ∃ g, v1.heap.size = g := ⟨_, rfl⟩
                    rw [hg8] at hN ⊢
                    obtain ⟨v2, hV9⟩ : ∃ V, World.alloc v1 (.cells #[.int .i64 y] 3) = V := ⟨_, rfl⟩
                    rw [hV9] at hM2 hN ⊢
                    have hM := hM2
                    clear hV9 hg8 hM2
                    refine wpAnyH_ready (rs := [5]) (by kernel_rfl) (by simp) ?_
                    refine (AllReadyH.cons (o := { dst := some 91, op := .call { callee := .builtin .append, args := #[.tmp 87, .tmp 90], argTypes := #[34, 34] }, type := 34, pos := "ref.go:139", after := #[⟨1, .data⟩, ⟨4, .data⟩, ⟨3, .chain⟩], guard := none }) rfl (fun K hK => ?_) AllReadyH.nil)
                    refine step_append_lies _ rfl _ _ 34 rfl (BK + 1) 3 i0 (.int .i64 0) 1 8 Tryz.underlying34 hi hz0 hz1 hz2 rfl (by decide) _ k (((cms lw lc).take k).map (Value.int .i64)) rfl (by have := hM.oy; rwa [HLk.out.2] at this) ⟨g8, 0, none⟩ 1 1 [.int .i64 y] rfl rfl (World.news_of_block hN) (by simp [Value.oneCell']) Nat.zero_lt_one HA.out.1 HA.out.2 (by have := (Array.getElem?_eq_some_iff.1 hM.rk).1; omega) _ rfl ?_
                    intro g9 c9 w9 hown9 hgrow9 hat9 hlt9
                    obtain ⟨e0, f0, hM9⟩ := hM.appY y rfl (by rw [HLk.out.2]; exact hown9) hgrow9 hat9
                    clear hM hown9 hgrow9 hat9 hlt9 hN
                    refine hK.out _ _ trivial (fun hS => ?_)
                    clear hK K
                    refine wpAnyH_take (i := 6) (v := ?vpbc26) rfl (by kernel_rfl) (by kernel_rfl) (by kernel_rfl) (fun _ _ _ h => h) (Or.inl ⟨by rfl, ?ypbc26⟩) hS ?rpbc26
                    case ypbc26 => (intro w hS; go_simp; try with_reducible rfl)
                    go_simp
                    refine wpAnyH_ready (rs := [7]) (by kernel_rfl) (by simp) ?_
                    refine (AllReadyH.cons (o := { dst := none, op := .store 34 (.tmp 92) (.tmp 91), type := 0, pos := "ref.go:139", after := #[⟨6, .data⟩, ⟨5, .data⟩, ⟨5, .chain⟩, ⟨0, .phase⟩, ⟨1, .phase⟩, ⟨2, .phase⟩, ⟨3, .phase⟩, ⟨4, .phase⟩, ⟨5, .phase⟩], guard := none }) rfl (fun K hK => ?_) AllReadyH.nil)
                    go_simp
                    refine hK.out _ _ trivial (fun hS => ?_)
                    clear hK K e0 f0
                    refine wpAnyH_done (by kernel_rfl) ?_ _
                    rw [HLk.out.2] at hM9
                    have KQ := Lib.hid (show MK W0 BK _ (.slice (some ⟨g9, 0, none⟩) (k + 1) c9) (.slice pq NP cq) ((cfs lw lc).take (k+1)) ((cms lw lc).take (k+1)) _ from by rw [HT.out.1, HT.out.2]; exact hM9)
                    clear hM9 hS
                    try go_wp2
                    exact ⟨⟨k + 1, _, by omega, by go_num, KQ⟩, by simp; omega⟩
                  · go_simp
                    have hN := heap_alloc_new v1 (.cells #[.int .i64 y] 3)
                    have hM2 := hM.next ((Below.refl _ v1).alloc (Nat.le_refl _) (.cells #[.int .i64 y] 3))
                    clear hM
                    refine hK.out _ _ trivial (fun hS => ?_)
                    clear hK K
                    obtain ⟨g8, hg8⟩ : ∃ g, v1.heap.size = g := ⟨_, rfl⟩
                    rw [hg8] at hN ⊢
                    obtain ⟨v2, hV9⟩ : ∃ V, World.alloc v1 (.cells #[.int .i64 y] 3) = V := ⟨_, rfl⟩
                    rw [hV9] at hM2 hN ⊢
                    have hM := hM2
                    clear hV9 hg8 hM2
                    refine wpAnyH_ready (rs := [1]) (by kernel_rfl) (by simp) ?_
                    refine (AllReadyH.cons (o := { dst := some 87, op := .load 34 (.tmp 86), type := 34, pos := "ref.go:139", after := #[⟨0, .data⟩], guard := none }) rfl (fun K hK => ?_) AllReadyH.nil)
                    have c0 := cell_of_row _ BK 0 _ _ _ hM.rk
                    try dsimp only at c0
                    go_simp
                    refine hK.out _ _ trivial (fun hS => ?_)
                    clear hK K c0
                    refine wpAnyH_ready (rs := [5]) (by kernel_rfl) (by simp) ?_
                    refine (AllReadyH.cons (o := { dst := some 91, op := .call { callee := .builtin .append, args := #[.tmp 87, .tmp 90], argTypes := #[34, 34] }, type := 34, pos := "ref.go:139", after := #[⟨1, .data⟩, ⟨4, .data⟩, ⟨3, .chain⟩], guard := none }) rfl (fun K hK => ?_) AllReadyH.nil)
                    refine step_append_lies _ rfl _ _ 34 rfl (BK + 1) 3 i0 (.int .i64 0) 1 8 Tryz.underlying34 hi hz0 hz1 hz2 rfl (by decide) _ k (((cms lw lc).take k).map (Value.int .i64)) rfl (by have := hM.oy; rwa [HLk.out.2] at this) ⟨g8, 0, none⟩ 1 1 [.int .i64 y] rfl rfl (World.news_of_block hN) (by simp [Value.oneCell']) Nat.zero_lt_one HA.out.1 HA.out.2 (by have := (Array.getElem?_eq_some_iff.1 hM.rk).1; omega) _ rfl ?_
                    intro g9 c9 w9 hown9 hgrow9 hat9 hlt9
                    obtain ⟨e0, f0, hM9⟩ := hM.appY y rfl (by rw [HLk.out.2]; exact hown9) hgrow9 hat9
                    clear hM hown9 hgrow9 hat9 hlt9 hN
                    refine hK.out _ _ trivial (fun hS => ?_)
                    clear hK K
                    refine wpAnyH_take (i := 6) (v := ?vpcc26) rfl (by kernel_rfl) (by kernel_rfl) (by kernel_rfl) (fun _ _ _ h => h) (Or.inl ⟨by rfl, ?ypcc26⟩) hS ?rpcc26
                    case ypcc26 => (intro w hS; go_simp; try with_reducible rfl)
                    go_simp
                    refine wpAnyH_ready (rs := [7]) (by kernel_rfl) (by simp) ?_
                    refine (AllReadyH.cons (o := { dst := none, op := .store 34 (.tmp 92) (.tmp 91), type := 0, pos := "ref.go:139", after := #[⟨6, .data⟩, ⟨5, .data⟩, ⟨5, .chain⟩, ⟨0, .phase⟩, ⟨1, .phase⟩, ⟨2, .phase⟩, ⟨3, .phase⟩, ⟨4, .phase⟩, ⟨5, .phase⟩], guard := none }) rfl (fun K hK => ?_) AllReadyH.nil)
                    go_simp
                    refine hK.out _ _ trivial (fun hS => ?_)
                    clear hK K e0 f0
                    refine wpAnyH_done (by kernel_rfl) ?_ _
                    rw [HLk.out.2] at hM9
                    have KQ := Lib.hid (show MK W0 BK _ (.slice (some ⟨g9, 0, none⟩) (k + 1) c9) (.slice pq NP cq) ((cfs lw lc).take (k+1)) ((cms lw lc).take (k+1)) _ from by rw [HT.out.1, HT.out.2]; exact hM9)
                    clear hM9 hS
                    try go_wp2
                    exact ⟨⟨k + 1, _, by omega, by go_num, KQ⟩, by simp; omega⟩
            · obtain rfl : k = ND := by omega
              have hEX : (cfs lw lc).take k = cfs lw lc := List.take_of_length_le (by rw [cfs_len, HTT.out.2]; exact Nat.le_refl _)
              have hEY : (cms lw lc).take k = cms lw lc := List.take_of_length_le (by rw [cms_len, HTT.out.2]; exact Nat.le_refl _)
              rw [hEX, hEY] at HQ
              obtain ⟨pk, ck, rfl⟩ := own_shape HQ.out.oy
              obtain ⟨px, cx9, rfl⟩ := own_shape HQ.out.ox
              obtain ⟨kv, hkv⟩ : ∃ v, Value.slice pk (cms lw lc).length ck = v := ⟨_, rfl⟩
              have h1c : (#[Value.slice pk (cms lw lc).length ck, .slice pq NP cq]).all (·.oneCell') = true := by simp [Value.oneCell']
              have hrz := (HQ.out.bl.block _ (by have := HBK.out; have := HBw.out; omega)).trans HKL.out.2.1
              have hne : BK ≠ w.heap.size + 1 := by have := HBw.out; omega
              have hPS := HKL.out.2.2.1.next HQ.out.bl
              obtain ⟨pv, hpv⟩ : ∃ v, Value.slice pq NP cq = v := ⟨_, rfl⟩
              have hrk := HQ.out.rk
              rw [hkv, hpv] at h1c hrk
              have HZ := Lib.hid (show Below w.heap.size w wr.drew ∧ wr.drew.heap[BK]? = some (.cells #[kv, pv] 41 (0, 0)) ∧ wr.drew.heap[w.heap.size + 1]? = some (.cells #[.slice none 0 0, .slice none 0 0] 41 (0, 0)) ∧ (#[kv, pv]).all (·.oneCell') = true ∧ BK ≠ w.heap.size + 1 from ⟨(HCc.out.b).drew, hrk, hrz, h1c, hne⟩)
              have HY := Lib.hid (And.intro hPS (And.intro hkv (And.intro hpv HQ.out)))
              clear h1c hrz hne hPS hrk hkv hpv c1 HCc HQ hEX hEY
              go_upto_region 24 with fail
              refine wp_region_held_drew (S := fun V => Below w.heap.size w V ∧ V.heap[BK]? = some (.cells #[kv, pv] 41 (0, 0))) (by kernel_rfl) ⟨HZ.out.1, HZ.out.2.1⟩ (fun hS => ?_)
              refine wpAnyH_take (i := 0) (v := ?vpzc0) rfl (by kernel_rfl) (by kernel_rfl) (by kernel_rfl) (fun _ _ _ h => h) (Or.inl ⟨by rfl, ?ypzc0⟩) hS ?rpzc0
              case ypzc0 => (intro w hS; go_simp; try with_reducible rfl)
              go_simp
              refine wpAnyH_take (i := 1) (v := .agg #[kv, pv]) rfl (by kernel_rfl) (by kernel_rfl) (by kernel_rfl) (fun _ _ _ h => h) (Or.inl ⟨by rfl, ?ypzc1⟩) hS ?rpzc1
              case ypzc1 => (intro w' hS; have cf := cell_of_row _ BK 0 _ _ _ hS.2; have cg := cell_of_row _ BK 1 _ _ _ hS.2; (try dsimp only at cf cg); go_simp; try with_reducible rfl)
              go_simp
              refine wpAnyH_take (i := 2) (v := ?vpzc2) rfl (by kernel_rfl) (by kernel_rfl) (by kernel_rfl) (fun _ _ _ h => h) (Or.inl ⟨by rfl, ?ypzc2⟩) hS ?rpzc2
              case ypzc2 => (intro w hS; go_simp; try with_reducible rfl)
              go_simp
              refine wpAnyH_ready (rs := [3]) (by kernel_rfl) (by simp) ?_
              refine AllReadyH.cons (o := { dst := none, op := .store 41 (.tmp 3) (.tmp 94), type := 0, pos := "ref.go:141", after := #[⟨1, .data⟩, ⟨2, .chain⟩, ⟨0, .phase⟩, ⟨1, .phase⟩, ⟨2, .phase⟩], guard := none }) rfl (fun K hK => ?_) AllReadyH.nil
              rw [if_pos (by rfl)]
              refine wp_store_row 41 (.tmp 3) (.tmp 94) rfl (w.heap.size + 1) #[kv, pv] (by first | rfl | (simp [Act.eval])) (by first | rfl | (simp [Act.eval])) 41 _ HZ.out.2.2.1 (infoK kv pv).out (two_szK _ _ _ _) HZ.out.2.2.2.1 ?_
              have n9 := setRow_heap _ _ _ #[kv, pv] _ _ HZ.out.2.2.1
              have hS2 : Below w.heap.size w _ ∧ _ := ⟨Below.setRow' hS.1 (Nat.le_succ _) #[kv, pv], (setRow_other _ (w.heap.size + 1) BK #[kv, pv] HZ.out.2.2.2.2).trans hS.2⟩
              have HN9 := Lib.hid n9; clear n9 hS
              refine hK.out _ _ hS2 (fun hS => ?_)
              clear hK K hS2
              refine wpAnyH_done (by kernel_rfl) ?_ _
              go_wp2_with fail
              refine bodyPost_ret (results_tmp_row rfl _ _ (w.heap.size + 1) _ #[kv, pv] _ _ rfl HN9.out Tryz.underlying41 rfl (infoK kv pv).out) rfl ?_
              have hkx := kx_setRow wr.drew (w.heap.size + 1) #[kv, pv]
              have hMd := HY.out.2.2.2.next (Below.refl _ wr).drew
              have hh0 := hMd.h0
              have hBB := HBK.out
              have hBW := HBw.out
              refine ⟨⟨_, kv, pv, rfl, own_SLi (own_kx hMd.ox hkx (fun g hg e => by have := (hMd.ox.lt g hg).1; injection e with e; omega)) (fun c hc => by have := cfs_rng lw lc c hc; exact ⟨by omega, by omega⟩) (by rw [cfs_len, HTT.out.2]; omega), ?_, ?_⟩, hS.1⟩
              · have := own_kx hMd.oy hkx (fun g hg e => by have := (hMd.oy.lt g hg).1; injection e with e; omega)
                rw [HY.out.2.1] at this
                exact own_SLi this (fun c hc => by obtain ⟨a, ha, rfl⟩ := List.mem_map.1 hc; exact pp_i64 _ _) (by rw [cms_len, HTT.out.2]; omega)
              · have := (HY.out.1.next (Below.refl _ wr).drew).kx hkx (fun m h => by injection h with h; rw [← h]; exact HVw.out)
                rw [HY.out.2.2.1] at this
                exact this.LLc (LP_rng lw)

end Go.Proofs.YtbfplapjjeeceaaGreatDoor.B9
