/-
  The walk of nat.raise with the product modulo an even number.
-/
import Derived.Test.YtkpkifhjedlieaaDoorPowE
namespace Go.Proofs.YtkpkifhjedlieaaDoor
open Go.RowKit NM Go.Shelf
attribute [local go_sem] Oper.semAt_some
theorem NumA.kept {A B : World} {row : Option Nat} {v : Value} {x : Nat} (h : NumA A v x) (hg : A.grownBy B row) (hr : ∀ r, row = some r → ∃ o : Obj, A.heap[r]? = some o ∧ o.isCells = false) : NumA B v x := by
  obtain ⟨b, o, cap, Z, h1, h2, h3, h4, h5, h6, h7, h8⟩ := h
  exact ⟨b, o, cap, Z, h1, Nat.lt_of_lt_of_le h2 hg.size, ⟨fun j hj => cell_kept (h3.cell j hj) hg hr, fun j hj => (frozen_kept (h3.cell j hj) hg hr).trans (h3.free j hj)⟩, h4, h5, h6, h7, h8⟩
theorem Modulus.kept {A B : World} {row : Option Nat} {Bm bm om cap : Nat} {Y : List Nat} (h : Modulus A Bm bm om cap Y) (hg : A.grownBy B row) (hr : ∀ r, row = some r → ∃ o : Obj, A.heap[r]? = some o ∧ o.isCells = false) : Modulus B Bm bm om cap Y :=
  ⟨cell_kept h.box hg hr, ⟨fun j hj => cell_kept (h.row.cell j hj) hg hr, fun j hj => (frozen_kept (h.row.cell j hj) hg hr).trans (h.row.free j hj)⟩, h.wd, h.tr, Nat.lt_of_lt_of_le h.bm hg.size, Nat.lt_of_lt_of_le h.Bm hg.size, h.len, h.cap⟩
theorem KeepsOthers.ofBelow {W W' : World} (h : Below W.heap.size W W') : KeepsOthers W W' :=
  ⟨h.size, fun k o ho _ => by rw [h.block k (Array.getElem?_eq_some_iff.1 ho).1]; exact ho⟩
theorem digits_any (s : ByteArray) (w : World) : Calls Tryd.prog 60 #[.string s] w fun e w' => e = .returned (.func (.func 77) #[] #[.pointer (some ⟨w.heap.size, 0, none⟩)]) ∧ w.alloc (.cells #[.string s] 24) = w' := by
  go_enter Tryd.func60, Tryd.ntmps60
  go_wp2
  go_ret
  exact ⟨rfl, rfl⟩
theorem NumA.form {W : World} {v : Value} {x : Nat} (h : NumA W v x) : ∃ b o l c, v = .slice (some ⟨b, o, none⟩) l c := by
  obtain ⟨b, o, cap, Z, h1, _⟩ := h
  exact ⟨b, o, _, _, h1⟩
/-- what holds between two rounds: the power so far lies in its variable -/
structure RInv (h Bm bm om cap : Nat) (Y : List Nat) (base times : Value) (a z : Nat) (W : World) (v : Value) : Prop where
  pow : W.cell? ⟨h + 1 + 1, 0, none⟩ = some v
  free : W.frozen? ⟨h + 1 + 1, 0, none⟩ = false
  num : NumA W v z
  cbase : W.cell? ⟨h, 0, none⟩ = some base
  ctimes : W.cell? ⟨h + 1, 0, none⟩ = some times
  nbase : NumA W base (a % wv Y)
  mod : Modulus W Bm bm om cap Y
  lt : h + 1 + 1 + 1 < W.heap.size
theorem RInv.kept {h Bm bm om cap : Nat} {Y : List Nat} {base times : Value} {a z : Nat} {A B : World} {v : Value} {row : Option Nat} (i : RInv h Bm bm om cap Y base times a z A v)
    (hg : A.grownBy B row) (hr : ∀ r, row = some r → ∃ o : Obj, A.heap[r]? = some o ∧ o.isCells = false) : RInv h Bm bm om cap Y base times a z B v :=
  ⟨cell_kept i.pow hg hr, (frozen_kept i.pow hg hr).trans i.free, i.num.kept hg hr, cell_kept i.cbase hg hr, cell_kept i.ctimes hg hr, i.nbase.kept hg hr, i.mod.kept hg hr, Nat.lt_of_lt_of_le i.lt hg.size⟩
theorem keepBox_put {w : World} {Be : Nat} (hBe : Be < w.heap.size) (W : World) (l : Nat) (o o' : Obj) (hl : w.heap.size ≤ l) (_ : W.heap[l]? = some o) (_ : o.isCells = false) (_ : o.isWalk = false) : KeepBox Be W (W.putObj l o') :=
  World.cell?_of_block (World.putObj_heap_other (by show Be ≠ l; omega))
theorem NumA.setOther {W : World} {v : Value} {x : Nat} {p : Addr} {u u' : Value} (h : NumA W v x) (hp : W.cell? p = some u) (hu : ∀ n, u ≠ .int .u64 n) : NumA (W.setCell p u') v x := by
  obtain ⟨b, o, cap, Z, h1, h2, h3, h4, h5, h6, h7, h8⟩ := h
  refine ⟨b, o, cap, Z, h1, by simpa using h2, ⟨fun j hj => ?_, fun j hj => by rw [World.frozen?_setCell]; exact h3.free j hj⟩, h4, h5, h6, h7, h8⟩
  rw [World.cell?_setCell_other]
  · exact h3.cell j hj
  · intro e; have := h3.cell j hj; rw [← e, hp] at this; exact hu _ (Option.some.inj this)
theorem Modulus.setOther {W : World} {Bm bm om cap : Nat} {Y : List Nat} {p : Addr} {u u' : Value} (h : Modulus W Bm bm om cap Y) (hp : W.cell? p = some u) (hu : ∀ n, u ≠ .int .u64 n) (hne : p.block ≠ Bm) : Modulus (W.setCell p u') Bm bm om cap Y := by
  refine ⟨?_, ⟨fun j hj => ?_, fun j hj => by rw [World.frozen?_setCell]; exact h.row.free j hj⟩, h.wd, h.tr, by simpa using h.bm, by simpa using h.Bm, h.len, h.cap⟩
  · rw [World.cell?_setCell_other]
    · exact h.box
    · intro e; exact hne (by rw [e])
  · rw [World.cell?_setCell_other]
    · exact h.row.cell j hj
    · intro e; have := h.row.cell j hj; rw [← e, hp] at this; exact hu _ (Option.some.inj this)
theorem RInv.step {h Bm bm om cap : Nat} {Y : List Nat} {base times : Value} {a z z' : Nat} {W w1 : World} {v r : Value} (i : RInv h Bm bm om cap Y base times a z W v) (hB : Bm < h) (hv : ∀ n, v ≠ .int .u64 n)
    (hb : Below W.heap.size W w1) (hr : NumA w1 r z') : RInv h Bm bm om cap Y base times a z' (w1.setCell ⟨h + 1 + 1, 0, none⟩ r) r := by
  have hp : w1.cell? ⟨h + 1 + 1, 0, none⟩ = some v := (hb.cell (p := ⟨h + 1 + 1, 0, none⟩) (by have := i.lt; show h + 1 + 1 < _; omega)).trans i.pow
  have hlt := i.lt
  refine ⟨World.cell?_setCell_same _ _ _ hp, ?_, hr.setOther hp hv, ?_, ?_, (i.nbase.below hb).setOther hp hv, (i.mod.below hb).setOther hp hv (by show h + 1 + 1 ≠ Bm; omega), by simp only [World.size_setCell]; have := hb.size; omega⟩
  · rw [World.frozen?_setCell]; exact (hb.frozen (p := ⟨h + 1 + 1, 0, none⟩) (by show h + 1 + 1 < _; omega)).trans i.free
  · rw [World.cell?_setCell_other _ _ _ _ (by intro e; simp at e)]; exact (hb.cell (p := ⟨h, 0, none⟩) (by show h < _; omega)).trans i.cbase
  · rw [World.cell?_setCell_other _ _ _ _ (by intro e; simp at e)]; exact (hb.cell (p := ⟨h + 1, 0, none⟩) (by show h + 1 < _; omega)).trans i.ctimes
theorem pow_sq (a e M : Nat) : (a ^ e % M) * (a ^ e % M) % M = a ^ (2*e) % M := by
  rw [← Nat.mul_mod, ← Nat.pow_add]; congr 2; omega
theorem pow_one_more (a e M : Nat) : (a ^ (2*e) % M) * (a % M) % M = a ^ (2*e+1) % M := by
  rw [← Nat.mul_mod, Nat.pow_succ]
set_option maxRecDepth 100000 in
set_option maxHeartbeats 4000000 in
theorem raiseE_any (w : World) (b1 o1 l1 c1 b2 o2 l2 c2 : Nat) (s : ByteArray) (hs : s.size ≤ 4294967296) (a Bm bm om cap : Nat) (Y : List Nat) (hone : NumA w (.slice (some ⟨b1, o1, none⟩) l1 c1) 1) (hbase : NumA w (.slice (some ⟨b2, o2, none⟩) l2 c2) (a % wv Y)) (hm : Modulus w Bm bm om cap Y) (hD : DivOK Y) (h1 : 1 < wv Y) :
    Calls Tryd.prog 36 #[.slice (some ⟨b1, o1, none⟩) l1 c1, .slice (some ⟨b2, o2, none⟩) l2 c2, .string s, .func (.func 34) #[] #[.pointer (some ⟨Bm, 0, none⟩)]] w (TimesQ (a ^ sv s % wv Y) w) := by
  refine (callsIn_wide (n := 12)).1 ?_
  refine callsIn_of_wp_marks Tryd.func36 rfl trivial ?_ rfl
  simp only [Tryd.ntmps36, List.size_toArray, List.length_cons, List.length_nil, Nat.reduceAdd, Nat.reduceSub, Array.replicate_succ, Array.replicate_zero, List.push_toArray, List.append_toArray, List.nil_append, List.cons_append]
  have HO := Lib.hid hone; have HB := Lib.hid hbase; have HM := Lib.hid hm
  gi_wp2_with (refine ⟨trivial, ?_⟩; refine (callsIn_wide.2 (digits_any s _)).mono ?_; rintro e w' ⟨rfl, rfl⟩)
  have hB4 : Below w.heap.size w ((((w.alloc (.cells #[.slice (some ⟨b2, o2, none⟩) l2 c2] 46)).alloc (.cells #[.func (.func 34) #[] #[.pointer (some ⟨Bm, 0, none⟩)]] 52)).alloc (.cells #[.slice (some ⟨b1, o1, none⟩) l1 c1] 46)).alloc (.cells #[.string s] 24)) :=
    ((((Below.refl _ w).alloc (Nat.le_refl _) _).alloc (by simp) _).alloc (by simp; omega) _).alloc (by simp; omega) _
  have i0 : RInv w.heap.size Bm bm om cap Y (.slice (some ⟨b2, o2, none⟩) l2 c2) (.func (.func 34) #[] #[.pointer (some ⟨Bm, 0, none⟩)]) a (a ^ bval [] % wv Y) ((((w.alloc (.cells #[.slice (some ⟨b2, o2, none⟩) l2 c2] 46)).alloc (.cells #[.func (.func 34) #[] #[.pointer (some ⟨Bm, 0, none⟩)]] 52)).alloc (.cells #[.slice (some ⟨b1, o1, none⟩) l1 c1] 46)).alloc (.cells #[.string s] 24)) (.slice (some ⟨b1, o1, none⟩) l1 c1) := by
    refine ⟨?_, ?_, ?_, ?_, ?_, hbase.below hB4, hm.below hB4, by simp⟩
    · rw [World.cell?_alloc_past _ _ _ (by simp), World.cell?_alloc_at _ _ _ _ (by simp)]; rfl
    · rw [World.frozen?_alloc_past _ _ _ (by simp), World.frozen?_alloc_at _ _ _ _ (by simp)]
    · have := hone.below hB4
      simpa [bval, Nat.mod_eq_of_lt h1] using this
    · rw [World.cell?_alloc_past _ _ _ (by simp; omega), World.cell?_alloc_past _ _ _ (by simp; omega), World.cell?_alloc_past _ _ _ (by simp), World.cell?_alloc_at _ _ _ _ rfl]; rfl
    · rw [World.cell?_alloc_past _ _ _ (by simp), World.cell?_alloc_past _ _ _ (by simp), World.cell?_alloc_at _ _ _ _ (by simp)]; rfl
  have hs4 : ((((w.alloc (.cells #[.slice (some ⟨b2, o2, none⟩) l2 c2] 46)).alloc (.cells #[.func (.func 34) #[] #[.pointer (some ⟨Bm, 0, none⟩)]] 52)).alloc (.cells #[.slice (some ⟨b1, o1, none⟩) l1 c1] 46)).alloc (.cells #[.string s] 24)).heap.size = w.heap.size + 1 + 1 + 1 + 1 := by simp
  have hbx : ((((w.alloc (.cells #[.slice (some ⟨b2, o2, none⟩) l2 c2] 46)).alloc (.cells #[.func (.func 34) #[] #[.pointer (some ⟨Bm, 0, none⟩)]] 52)).alloc (.cells #[.slice (some ⟨b1, o1, none⟩) l1 c1] 46)).alloc (.cells #[.string s] 24)).cell? ⟨w.heap.size + 1 + 1 + 1, 0, none⟩ = some (.string s) := by
    rw [World.cell?_alloc_at _ _ _ _ (by simp)]; rfl
  generalize (((w.alloc (.cells #[.slice (some ⟨b2, o2, none⟩) l2 c2] 46)).alloc (.cells #[.func (.func 34) #[] #[.pointer (some ⟨Bm, 0, none⟩)]] 52)).alloc (.cells #[.slice (some ⟨b1, o1, none⟩) l1 c1] 46)).alloc (.cells #[.string s] 24) = w4 at *
  refine wpIn_rangeFunc_ownF rfl (by omega) (gf := 77) (lb := #[.pointer (some ⟨w.heap.size + 1 + 1 + 1, 0, none⟩)]) rfl trivial (enters_of Tryd.func77 (by kernel_rfl) rfl)
    (digits_stops 11 (by omega) (w.heap.size + 1 + 1 + 1) s hs w4 (by omega) hbx) (fun h k => Eq.trans k h) (keepBox_put (by omega)) (Below.refl _ _) (fun _ => rfl)
    (fun pre W => (∃ b o l c, RInv w.heap.size Bm bm om cap Y (.slice (some ⟨b2, o2, none⟩) l2 c2) (.func (.func 34) #[] #[.pointer (some ⟨Bm, 0, none⟩)]) a (a ^ bval pre % wv Y) W (.slice (some ⟨b, o, none⟩) l c)) ∧ Below w.heap.size w W)
    (fun _ _ _ => False)
    (OwnFrom.and (Own.from (fun _ _ _ _ hs hg hr => by obtain ⟨b, o, l, c, i⟩ := hs; exact ⟨b, o, l, c, i.kept hg hr⟩) _) (ownFrom_below (Nat.le_refl _) (by omega)))
    (fun _ _ _ _ _ hs _ _ => hs)
    ⟨⟨b1, o1, l1, c1, i0⟩, hB4⟩
    (fun x => { tmps := #[.slice (some ⟨b1, o1, none⟩) l1 c1, .slice (some ⟨b2, o2, none⟩) l2 c2, .string s, .func (.func 34) #[] #[.pointer (some ⟨Bm, 0, none⟩)], undef,
        .pointer (some ⟨w.heap.size, 0, none⟩), undef, .pointer (some ⟨w.heap.size + 1, 0, none⟩), .slice none 0 0, .pointer (some ⟨w.heap.size + 1 + 1, 0, none⟩), .bool x,
        .slice (some ⟨b1, o1, none⟩) l1 c1, .string s, .func (.func 77) #[] #[.pointer (some ⟨w.heap.size + 1 + 1 + 1, 0, none⟩)], .bool x,
        undef, undef, undef, undef, undef, undef, undef, undef, undef, undef], defers := [] }) ?assign ?body ?done ?stop
  case assign =>
    intro l x W K hK
    gi_wp2
    exact hK
  case body =>
    rintro l pre x W ⟨⟨b, o, ll, c, i⟩, hB⟩ _
    have hp := i.pow
    have hf := i.free
    have ht := i.ctimes
    have hc := i.cbase
    have hlt := i.lt
    have hBm := hm.Bm
    have hlt0 : ∀ e, a ^ e % wv Y < wv Y := fun e => Nat.mod_lt _ (by omega)
    have hI := Lib.hid i
    have HBX := Lib.hid hbx
    clear hbx
    have HL := Lib.hid hlt0; clear hlt0
    gi_wp2_with fail
    refine ⟨trivial, ?_⟩
    refine (CallsIn.inRound l (callsIn_wide.2 (timesE_any W _ _ _ _ Bm bm om cap Y i.num i.num i.mod hD (HL.out _) (HL.out _)))).mono ?_
    rintro e w1 ⟨r, rfl, hr, hb⟩
    obtain ⟨br, or, lr, cr, rfl⟩ := hr.form
    rw [pow_sq] at hr
    have j := i.step hBm (fun n => by simp) hb hr
    have hp1 : w1.cell? ⟨w.heap.size + 1 + 1, 0, none⟩ = some (.slice (some ⟨b, o, none⟩) ll c) := (hb.cell (p := ⟨w.heap.size + 1 + 1, 0, none⟩) (by show w.heap.size + 1 + 1 < _; omega)).trans hp
    have hf1 : w1.frozen? ⟨w.heap.size + 1 + 1, 0, none⟩ = false := (hb.frozen (p := ⟨w.heap.size + 1 + 1, 0, none⟩) (by show w.heap.size + 1 + 1 < _; omega)).trans hf
    have hB1 : Below w.heap.size w (w1.setCell ⟨w.heap.size + 1 + 1, 0, none⟩ (.slice (some ⟨br, or, none⟩) lr cr)) := (hB.trans (hb.mono (by omega))).setCell (p := ⟨w.heap.size + 1 + 1, 0, none⟩) (by show _ ≤ w.heap.size + 1 + 1; omega) _
    have hK1 : KeepsOthers W (w1.setCell ⟨w.heap.size + 1 + 1, 0, none⟩ (.slice (some ⟨br, or, none⟩) lr cr)) := (KeepsOthers.ofBelow hb).trans (KeepsOthers.setCell _ _ _)
    have hX1 : KeepBox (w.heap.size + 1 + 1 + 1) W (w1.setCell ⟨w.heap.size + 1 + 1, 0, none⟩ (.slice (some ⟨br, or, none⟩) lr cr)) := by
      show _ = _
      rw [World.cell?_setCell_other _ _ _ _ (by intro e; simp at e)]
      exact hb.cell (p := ⟨w.heap.size + 1 + 1 + 1, 0, none⟩) hlt
    cases x with
    | false =>
      gi_wp2
      refine ⟨hK1, hX1, ⟨br, or, lr, cr, ?_⟩, hB1⟩
      rw [bval_snoc]; simpa using j
    | true =>
      have ht1 : w1.cell? ⟨w.heap.size + 1, 0, none⟩ = some (.func (.func 34) #[] #[.pointer (some ⟨Bm, 0, none⟩)]) := (hb.cell (p := ⟨w.heap.size + 1, 0, none⟩) (by show w.heap.size + 1 < _; omega)).trans ht
      have hc1 : w1.cell? ⟨w.heap.size, 0, none⟩ = some (.slice (some ⟨b2, o2, none⟩) l2 c2) := (hb.cell (p := ⟨w.heap.size, 0, none⟩) (by show w.heap.size < _; omega)).trans hc
      gi_wp2_with fail
      refine ⟨trivial, ?_⟩
      refine (CallsIn.inRound l (callsIn_wide.2 (timesE_any _ _ _ _ _ Bm bm om cap Y j.num j.nbase j.mod hD (HL.out _) (by have := HL.out 1; rwa [Nat.pow_one] at this)))).mono ?_
      rintro e w2 ⟨r2, rfl, hr2, hb2⟩
      obtain ⟨br2, or2, lr2, cr2, rfl⟩ := hr2.form
      rw [pow_one_more] at hr2
      have k := j.step hBm (fun n => by simp) hb2 hr2
      have hlt2 := j.lt
      have hp2 : w2.cell? ⟨w.heap.size + 1 + 1, 0, none⟩ = some (.slice (some ⟨br, or, none⟩) lr cr) := (hb2.cell (p := ⟨w.heap.size + 1 + 1, 0, none⟩) (by show w.heap.size + 1 + 1 < _; omega)).trans j.pow
      have hf2 : w2.frozen? ⟨w.heap.size + 1 + 1, 0, none⟩ = false := (hb2.frozen (p := ⟨w.heap.size + 1 + 1, 0, none⟩) (by show w.heap.size + 1 + 1 < _; omega)).trans j.free
      have hB2 : Below w.heap.size w (w2.setCell ⟨w.heap.size + 1 + 1, 0, none⟩ (.slice (some ⟨br2, or2, none⟩) lr2 cr2)) := (hB1.trans (hb2.mono (by omega))).setCell (p := ⟨w.heap.size + 1 + 1, 0, none⟩) (by show _ ≤ w.heap.size + 1 + 1; omega) _
      have hK2 : KeepsOthers W (w2.setCell ⟨w.heap.size + 1 + 1, 0, none⟩ (.slice (some ⟨br2, or2, none⟩) lr2 cr2)) := hK1.trans ((KeepsOthers.ofBelow hb2).trans (KeepsOthers.setCell _ _ _))
      have hX2 : KeepBox (w.heap.size + 1 + 1 + 1) W (w2.setCell ⟨w.heap.size + 1 + 1, 0, none⟩ (.slice (some ⟨br2, or2, none⟩) lr2 cr2)) := by
        show _ = _
        rw [World.cell?_setCell_other _ _ _ _ (by intro e; simp at e)]
        exact (hb2.cell (p := ⟨w.heap.size + 1 + 1 + 1, 0, none⟩) hlt2).trans hX1
      gi_wp2
      refine ⟨hK2, hX2, ⟨br2, or2, lr2, cr2, ?_⟩, hB2⟩
      rw [bval_snoc]; simpa using k
  case done =>
    rintro D ys W hD hS ⟨⟨b, o, ll, c, i⟩, hB⟩ hK
    have hp := i.pow
    gi_wp2
    refine ⟨by simp, .inl ⟨_, _, rfl, run_takeDeferred hK, ?_⟩⟩
    have hnum := i.num
    rw [hS] at hnum
    refine ⟨.slice (some ⟨b, o, none⟩) ll c, results_tmp (t := 8) rfl _ _ _, .slice (some ⟨b, o, none⟩) ll c, rfl, hnum.kept (grownBy_putObj' _ D (.deferred none)) (fun r e => by cases e; exact ⟨_, hK, rfl⟩), hB.trans (belowK_b (w := w) (Nat.le_refl _) W D _ _ (by omega) hK rfl rfl)⟩
  case stop =>
    rintro D c pre W _ _ h _
    exact h.elim
end Go.Proofs.YtkpkifhjedlieaaDoor
