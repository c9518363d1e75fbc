/-
  The product in the form of Montgomery, and the walk of nat.raise with it.
-/
import Derived.Test.YtkpkifhjedlieaaDoorPowO
namespace Go.Proofs.YtkpkifhjedlieaaDoor
open Go.RowKit NM Go.Shelf
attribute [local go_sem] Oper.semAt_some
/-- p in the form of Montgomery -/
def NumR (Y : List Nat) (W : World) (v : Value) (p : Nat) : Prop := NumO Y.length (wv Y) W v (p * B64^Y.length % wv Y)
theorem NumR.below {Y : List Nat} {W W' : World} {v : Value} {x : Nat} (h : NumR Y W v x) (hb : Below W.heap.size W W') : NumR Y W' v x := NumO.below h hb
theorem NumR.form {Y : List Nat} {W : World} {v : Value} {x : Nat} (h : NumR Y W v x) : ∃ b o l c, v = .slice (some ⟨b, o, none⟩) l c := by
  obtain ⟨b, o, c, Z, h1, _⟩ := h
  exact ⟨b, o, _, _, h1⟩
theorem NumR.kept {Y : List Nat} {A B : World} {row : Option Nat} {v : Value} {x : Nat} (h : NumR Y A v x) (hg : A.grownBy B row) (hr : ∀ r, row = some r → ∃ o : Obj, A.heap[r]? = some o ∧ o.isCells = false) : NumR Y B v x := by
  obtain ⟨b, o, c, Z, h1, h2, h3, h4, h5, h6, h7, h8⟩ := h
  exact ⟨b, o, c, Z, h1, Nat.lt_of_lt_of_le h2 hg.size, ⟨fun j hj => cell_kept (h3.cell j hj) hg hr, fun j hj => (frozen_kept (h3.cell j hj) hg hr).trans (h3.free j hj)⟩, h4, h5, h6, h7, h8⟩
theorem NumR.setOther {Y : List Nat} {W : World} {v : Value} {x : Nat} {p : Addr} {u u' : Value} (h : NumR Y W v x) (hp : W.cell? p = some u) (hu : ∀ n, u ≠ .int .u64 n) : NumR Y (W.setCell p u') v x := by
  obtain ⟨b, o, c, Z, h1, h2, h3, h4, h5, h6, h7, h8⟩ := h
  refine ⟨b, o, c, Z, h1, by simpa using h2, ⟨fun j hj => ?_, fun j hj => by rw [World.frozen?_setCell]; exact h3.free j hj⟩, h4, h5, h6, h7, h8⟩
  rw [World.cell?_setCell_other]
  · exact h3.cell j hj
  · intro e; have := h3.cell j hj; rw [← e, hp] at this; exact hu _ (Option.some.inj this)
/-- the modulus, and the number that makes -1 of its lowest word -/
structure ModF (w : World) (Bm bm om cap Bf f : Nat) (Y : List Nat) : Prop where
  mod : Modulus w Bm bm om cap Y
  fac : w.cell? ⟨Bf, 0, none⟩ = some (.int .u64 (f : Nat))
  Bf : Bf < w.heap.size
theorem ModF.below {w w' : World} {Bm bm om cap Bf f : Nat} {Y : List Nat} (h : ModF w Bm bm om cap Bf f Y) (hb : Below w.heap.size w w') : ModF w' Bm bm om cap Bf f Y :=
  ⟨h.mod.below hb, (hb.cell (p := ⟨Bf, 0, none⟩) h.Bf).trans h.fac, Nat.lt_of_lt_of_le h.Bf hb.size⟩
theorem ModF.kept {A B : World} {row : Option Nat} {Bm bm om cap Bf f : Nat} {Y : List Nat} (h : ModF A Bm bm om cap Bf f Y) (hg : A.grownBy B row) (hr : ∀ r, row = some r → ∃ o : Obj, A.heap[r]? = some o ∧ o.isCells = false) : ModF B Bm bm om cap Bf f Y :=
  ⟨h.mod.kept hg hr, cell_kept h.fac hg hr, Nat.lt_of_lt_of_le h.Bf hg.size⟩
theorem ModF.setOther {W : World} {Bm bm om cap Bf f : Nat} {Y : List Nat} {p : Addr} {u u' : Value} (h : ModF W Bm bm om cap Bf f Y) (hp : W.cell? p = some u) (hu : ∀ n, u ≠ .int .u64 n) (hne : p.block ≠ Bm) (hne2 : p.block ≠ Bf) : ModF (W.setCell p u') Bm bm om cap Bf f Y := by
  refine ⟨h.mod.setOther hp hu hne, ?_, by simpa using h.Bf⟩
  rw [World.cell?_setCell_other]
  · exact h.fac
  · intro e; exact hne2 (by rw [e])
theorem coprime_B (M n : Nat) (h : M % 2 = 1) : Nat.Coprime M (B64^n) := by
  have h2 : Nat.Coprime M 2 := by
    unfold Nat.Coprime
    rw [Nat.gcd_comm, Nat.gcd_rec, h]
    decide
  have : Nat.Coprime M B64 := by rw [show B64 = 2^64 from rfl]; exact Nat.Coprime.pow_right 64 h2
  exact Nat.Coprime.pow_right n this
theorem mod_cancel (M n z t : Nat) (h : M % 2 = 1) (hz : z < M) (ht : t < M) (he : z * B64^n % M = t * B64^n % M) : z = t := by
  have key : ∀ a b : Nat, a < M → b ≤ a → a * B64^n % M = b * B64^n % M → a = b := by
    intro a b ha hb e
    have h1 := Nat.sub_mod_eq_zero_of_mod_eq e
    rw [← Nat.sub_mul] at h1
    have h2 : M ∣ (a - b) * B64^n := Nat.dvd_of_mod_eq_zero h1
    have h3 := Nat.Coprime.dvd_of_dvd_mul_right (coprime_B M n h) h2
    have := Nat.eq_zero_of_dvd_of_lt h3 (by omega)
    omega
  rcases Nat.le_total t z with h1 | h1
  · exact key z t hz h1 he
  · exact (key t z ht h1 he.symm).symm
theorem mm (a b M : Nat) : (a % M) * b % M = a * b % M := by rw [Nat.mul_mod, Nat.mod_mod, ← Nat.mul_mod]
theorem mont_num (M n r p q : Nat) (h : M % 2 = 1) (hr : r < M) (he : r * B64^n % M = (p * B64^n % M) * (q * B64^n % M) % M) : r = (p * q % M) * B64^n % M := by
  have hM : 0 < M := by omega
  apply mod_cancel M n r _ h hr (Nat.mod_lt _ hM)
  rw [he, ← Nat.mul_mod]
  have e : p * B64^n * (q * B64^n) = (p * q) * B64^n * B64^n := by
    rw [Nat.mul_assoc, Nat.mul_assoc, Nat.mul_assoc, Nat.mul_left_comm (B64^n) q]
  rw [e]
  rw [mm, Nat.mul_assoc (p * q % M), mm, Nat.mul_assoc (p * q)]
def TimesR (Y : List Nat) (z : Nat) (w : World) (e : Ending) (w' : World) : Prop := ∃ r, e = .returned r ∧ NumR Y w' r z ∧ Below w.heap.size w w'
set_option maxHeartbeats 2000000 in
theorem timesO_any (w : World) (u v : Value) (x y Bm bm om cap Bf f : Nat) (Y : List Nat) (hu : NumR Y w u x) (hv : NumR Y w v y) (hm : ModF w Bm bm om cap Bf f Y) (hodd : wv Y % 2 = 1) (hfc : (gd Y 0 * f + 1) % B64 = 0) (hf64 : f < 18446744073709551616) (hx : x < wv Y) (hy : y < wv Y) :
    Calls Tryd.prog 58 #[u, v, .pointer (some ⟨Bm, 0, none⟩), .pointer (some ⟨Bf, 0, none⟩)] w (TimesR Y (x * y % wv Y) w) := by
  obtain ⟨b, o, c, Z, rfl, h2, h3, h4, h5, h6, h7, h8⟩ := hu
  obtain ⟨b', o', c', Z', rfl, h2', h3', h4', h5', h6', h7', h8'⟩ := hv
  have hM := Lib.hid (montgomery_any w b o c b' o' c' bm om cap f Y.length Z Z' Y h3 h3' hm.mod.row h4 h4' hm.mod.wd hm.mod.tr h2 h2' hm.mod.bm rfl h5 h5' hm.mod.len h6 h6' hm.mod.cap h7 hfc hf64)
  have hbx := hm.mod.box
  have hfx := hm.fac
  obtain ⟨n, hn⟩ : ∃ n, n = Y.length := ⟨_, rfl⟩
  rw [← hn] at hM hbx ⊢
  have HX := Lib.hid (And.intro h5 (And.intro h5' (And.intro h8 (And.intro h8' hn)))); clear h5 h5' h8 h8' hn
  go_enter Tryd.func58, Tryd.ntmps58
  go_wp2_with (refine hM.out.mono ?_; rintro e w' ⟨T, bt, ot, rfl, r1, r2, r3, r4, r5, r6, r7⟩)
  go_ret
  obtain ⟨g5, g5', g8, g8', gn⟩ := HX.out
  refine ⟨_, rfl, ⟨bt, ot, _, T, rfl, r1, r2, r3, r4, Nat.le_succ _, r5, ?_⟩, r7⟩
  rw [g8, g8'] at r6
  exact mont_num _ _ _ _ _ hodd r5 r6
/-- what holds between two rounds: the power so far lies in its variable -/
structure RInvO (h Bm bm om cap Bf f : Nat) (Y : List Nat) (base times : Value) (a z : Nat) (W : World) (v : Value) : Prop where
  pow : W.cell? ⟨h + 1 + 1, 0, none⟩ = some v
  free : W.frozen? ⟨h + 1 + 1, 0, none⟩ = false
  num : NumR Y W v z
  cbase : W.cell? ⟨h, 0, none⟩ = some base
  ctimes : W.cell? ⟨h + 1, 0, none⟩ = some times
  nbase : NumR Y W base (a % wv Y)
  mod : ModF W Bm bm om cap Bf f Y
  lt : h + 1 + 1 + 1 < W.heap.size
theorem RInvO.kept {h Bm bm om cap Bf f : Nat} {Y : List Nat} {base times : Value} {a z : Nat} {A B : World} {v : Value} {row : Option Nat} (i : RInvO h Bm bm om cap Bf f Y base times a z A v)
    (hg : A.grownBy B row) (hr : ∀ r, row = some r → ∃ o : Obj, A.heap[r]? = some o ∧ o.isCells = false) : RInvO h Bm bm om cap Bf f Y base times a z B v :=
  ⟨cell_kept i.pow hg hr, (frozen_kept i.pow hg hr).trans i.free, i.num.kept hg hr, cell_kept i.cbase hg hr, cell_kept i.ctimes hg hr, i.nbase.kept hg hr, i.mod.kept hg hr, Nat.lt_of_lt_of_le i.lt hg.size⟩
theorem RInvO.step {h Bm bm om cap Bf f : Nat} {Y : List Nat} {base times : Value} {a z z' : Nat} {W w1 : World} {v r : Value} (i : RInvO h Bm bm om cap Bf f Y base times a z W v) (hB : Bm < h) (hBf : Bf < h) (hv : ∀ n, v ≠ .int .u64 n)
    (hb : Below W.heap.size W w1) (hr : NumR Y w1 r z') : RInvO h Bm bm om cap Bf f Y base times a z' (w1.setCell ⟨h + 1 + 1, 0, none⟩ r) r := by
  have hp : w1.cell? ⟨h + 1 + 1, 0, none⟩ = some v := (hb.cell (p := ⟨h + 1 + 1, 0, none⟩) (by have := i.lt; show h + 1 + 1 < _; omega)).trans i.pow
  have hlt := i.lt
  refine ⟨World.cell?_setCell_same _ _ _ hp, ?_, hr.setOther hp hv, ?_, ?_, (i.nbase.below hb).setOther hp hv, (i.mod.below hb).setOther hp hv (by show h + 1 + 1 ≠ Bm; omega) (by show h + 1 + 1 ≠ Bf; omega), by simp only [World.size_setCell]; have := hb.size; omega⟩
  · rw [World.frozen?_setCell]; exact (hb.frozen (p := ⟨h + 1 + 1, 0, none⟩) (by show h + 1 + 1 < _; omega)).trans i.free
  · rw [World.cell?_setCell_other _ _ _ _ (by intro e; simp at e)]; exact (hb.cell (p := ⟨h, 0, none⟩) (by show h < _; omega)).trans i.cbase
  · rw [World.cell?_setCell_other _ _ _ _ (by intro e; simp at e)]; exact (hb.cell (p := ⟨h + 1, 0, none⟩) (by show h + 1 < _; omega)).trans i.ctimes
set_option maxRecDepth 100000 in
set_option maxHeartbeats 4000000 in
theorem raiseO_any (w : World) (b1 o1 l1 c1 b2 o2 l2 c2 : Nat) (s : ByteArray) (hs : s.size ≤ 4294967296) (a Bm bm om cap Bf f : Nat) (Y : List Nat) (hone : NumR Y w (.slice (some ⟨b1, o1, none⟩) l1 c1) (1 % wv Y)) (hbase : NumR Y w (.slice (some ⟨b2, o2, none⟩) l2 c2) (a % wv Y)) (hpos : 0 < wv Y) (hodd : wv Y % 2 = 1) (hfc : (gd Y 0 * f + 1) % B64 = 0) (hf64 : f < 18446744073709551616) (hm : ModF w Bm bm om cap Bf f Y) :
    Calls Tryd.prog 36 #[.slice (some ⟨b1, o1, none⟩) l1 c1, .slice (some ⟨b2, o2, none⟩) l2 c2, .string s, .func (.func 58) #[] #[.pointer (some ⟨Bm, 0, none⟩), .pointer (some ⟨Bf, 0, none⟩)]] w (TimesR Y (a ^ sv s % wv Y) w) := by
  refine (callsIn_wide (n := 12)).1 ?_
  refine callsIn_of_wp_marks Tryd.func36 rfl trivial ?_ rfl
  simp only [Tryd.ntmps36, List.size_toArray, List.length_cons, List.length_nil, Nat.reduceAdd, Nat.reduceSub, Array.replicate_succ, Array.replicate_zero, List.push_toArray, List.append_toArray, List.nil_append, List.cons_append]
  have HO := Lib.hid hone; have HB := Lib.hid hbase; have HM := Lib.hid hm
  gi_wp2_with (refine ⟨trivial, ?_⟩; refine (callsIn_wide.2 (digits_any s _)).mono ?_; rintro e w' ⟨rfl, rfl⟩)
  have hB4 : Below w.heap.size w ((((w.alloc (.cells #[.slice (some ⟨b2, o2, none⟩) l2 c2] 46)).alloc (.cells #[.func (.func 58) #[] #[.pointer (some ⟨Bm, 0, none⟩), .pointer (some ⟨Bf, 0, none⟩)]] 52)).alloc (.cells #[.slice (some ⟨b1, o1, none⟩) l1 c1] 46)).alloc (.cells #[.string s] 24)) :=
    ((((Below.refl _ w).alloc (Nat.le_refl _) _).alloc (by simp) _).alloc (by simp; omega) _).alloc (by simp; omega) _
  have i0 : RInvO w.heap.size Bm bm om cap Bf f Y (.slice (some ⟨b2, o2, none⟩) l2 c2) (.func (.func 58) #[] #[.pointer (some ⟨Bm, 0, none⟩), .pointer (some ⟨Bf, 0, none⟩)]) a (a ^ bval [] % wv Y) ((((w.alloc (.cells #[.slice (some ⟨b2, o2, none⟩) l2 c2] 46)).alloc (.cells #[.func (.func 58) #[] #[.pointer (some ⟨Bm, 0, none⟩), .pointer (some ⟨Bf, 0, none⟩)]] 52)).alloc (.cells #[.slice (some ⟨b1, o1, none⟩) l1 c1] 46)).alloc (.cells #[.string s] 24)) (.slice (some ⟨b1, o1, none⟩) l1 c1) := by
    refine ⟨?_, ?_, ?_, ?_, ?_, hbase.below hB4, hm.below hB4, by simp⟩
    · rw [World.cell?_alloc_past _ _ _ (by simp), World.cell?_alloc_at _ _ _ _ (by simp)]; rfl
    · rw [World.frozen?_alloc_past _ _ _ (by simp), World.frozen?_alloc_at _ _ _ _ (by simp)]
    · have := hone.below hB4
      simpa [bval] using this
    · rw [World.cell?_alloc_past _ _ _ (by simp; omega), World.cell?_alloc_past _ _ _ (by simp; omega), World.cell?_alloc_past _ _ _ (by simp), World.cell?_alloc_at _ _ _ _ rfl]; rfl
    · rw [World.cell?_alloc_past _ _ _ (by simp), World.cell?_alloc_past _ _ _ (by simp), World.cell?_alloc_at _ _ _ _ (by simp)]; rfl
  have hs4 : ((((w.alloc (.cells #[.slice (some ⟨b2, o2, none⟩) l2 c2] 46)).alloc (.cells #[.func (.func 58) #[] #[.pointer (some ⟨Bm, 0, none⟩), .pointer (some ⟨Bf, 0, none⟩)]] 52)).alloc (.cells #[.slice (some ⟨b1, o1, none⟩) l1 c1] 46)).alloc (.cells #[.string s] 24)).heap.size = w.heap.size + 1 + 1 + 1 + 1 := by simp
  have hbx : ((((w.alloc (.cells #[.slice (some ⟨b2, o2, none⟩) l2 c2] 46)).alloc (.cells #[.func (.func 58) #[] #[.pointer (some ⟨Bm, 0, none⟩), .pointer (some ⟨Bf, 0, none⟩)]] 52)).alloc (.cells #[.slice (some ⟨b1, o1, none⟩) l1 c1] 46)).alloc (.cells #[.string s] 24)).cell? ⟨w.heap.size + 1 + 1 + 1, 0, none⟩ = some (.string s) := by
    rw [World.cell?_alloc_at _ _ _ _ (by simp)]; rfl
  generalize (((w.alloc (.cells #[.slice (some ⟨b2, o2, none⟩) l2 c2] 46)).alloc (.cells #[.func (.func 58) #[] #[.pointer (some ⟨Bm, 0, none⟩), .pointer (some ⟨Bf, 0, none⟩)]] 52)).alloc (.cells #[.slice (some ⟨b1, o1, none⟩) l1 c1] 46)).alloc (.cells #[.string s] 24) = w4 at *
  refine wpIn_rangeFunc_ownF rfl (by omega) (gf := 77) (lb := #[.pointer (some ⟨w.heap.size + 1 + 1 + 1, 0, none⟩)]) rfl trivial (enters_of Tryd.func77 (by kernel_rfl) rfl)
    (digits_stops 11 (by omega) (w.heap.size + 1 + 1 + 1) s hs w4 (by omega) hbx) (fun h k => Eq.trans k h) (keepBox_put (by omega)) (Below.refl _ _) (fun _ => rfl)
    (fun pre W => (∃ b o l c, RInvO w.heap.size Bm bm om cap Bf f Y (.slice (some ⟨b2, o2, none⟩) l2 c2) (.func (.func 58) #[] #[.pointer (some ⟨Bm, 0, none⟩), .pointer (some ⟨Bf, 0, none⟩)]) a (a ^ bval pre % wv Y) W (.slice (some ⟨b, o, none⟩) l c)) ∧ Below w.heap.size w W)
    (fun _ _ _ => False)
    (OwnFrom.and (Own.from (fun _ _ _ _ hs hg hr => by obtain ⟨b, o, l, c, i⟩ := hs; exact ⟨b, o, l, c, i.kept hg hr⟩) _) (ownFrom_below (Nat.le_refl _) (by omega)))
    (fun _ _ _ _ _ hs _ _ => hs)
    ⟨⟨b1, o1, l1, c1, i0⟩, hB4⟩
    (fun x => { tmps := #[.slice (some ⟨b1, o1, none⟩) l1 c1, .slice (some ⟨b2, o2, none⟩) l2 c2, .string s, .func (.func 58) #[] #[.pointer (some ⟨Bm, 0, none⟩), .pointer (some ⟨Bf, 0, none⟩)], undef,
        .pointer (some ⟨w.heap.size, 0, none⟩), undef, .pointer (some ⟨w.heap.size + 1, 0, none⟩), .slice none 0 0, .pointer (some ⟨w.heap.size + 1 + 1, 0, none⟩), .bool x,
        .slice (some ⟨b1, o1, none⟩) l1 c1, .string s, .func (.func 77) #[] #[.pointer (some ⟨w.heap.size + 1 + 1 + 1, 0, none⟩)], .bool x,
        undef, undef, undef, undef, undef, undef, undef, undef, undef, undef], defers := [] }) ?assign ?body ?done ?stop
  case assign =>
    intro l x W K hK
    gi_wp2
    exact hK
  case body =>
    rintro l pre x W ⟨⟨b, o, ll, c, i⟩, hB⟩ _
    have hp := i.pow
    have hf := i.free
    have ht := i.ctimes
    have hc := i.cbase
    have hlt := i.lt
    have hBm := hm.mod.Bm
    have hBf := hm.Bf
    have hlt0 : ∀ e, a ^ e % wv Y < wv Y := fun e => Nat.mod_lt _ (by omega)
    have hI := Lib.hid i
    have HBX := Lib.hid hbx
    clear hbx
    have HL := Lib.hid hlt0; clear hlt0
    gi_wp2_with fail
    refine ⟨trivial, ?_⟩
    refine (CallsIn.inRound l (callsIn_wide.2 (timesO_any W _ _ _ _ Bm bm om cap Bf f Y i.num i.num i.mod hodd hfc hf64 (HL.out _) (HL.out _)))).mono ?_
    rintro e w1 ⟨r, rfl, hr, hb⟩
    obtain ⟨br, or, lr, cr, rfl⟩ := hr.form
    rw [pow_sq] at hr
    have j := i.step hBm hBf (fun n => by simp) hb hr
    have hp1 : w1.cell? ⟨w.heap.size + 1 + 1, 0, none⟩ = some (.slice (some ⟨b, o, none⟩) ll c) := (hb.cell (p := ⟨w.heap.size + 1 + 1, 0, none⟩) (by show w.heap.size + 1 + 1 < _; omega)).trans hp
    have hf1 : w1.frozen? ⟨w.heap.size + 1 + 1, 0, none⟩ = false := (hb.frozen (p := ⟨w.heap.size + 1 + 1, 0, none⟩) (by show w.heap.size + 1 + 1 < _; omega)).trans hf
    have hB1 : Below w.heap.size w (w1.setCell ⟨w.heap.size + 1 + 1, 0, none⟩ (.slice (some ⟨br, or, none⟩) lr cr)) := (hB.trans (hb.mono (by omega))).setCell (p := ⟨w.heap.size + 1 + 1, 0, none⟩) (by show _ ≤ w.heap.size + 1 + 1; omega) _
    have hK1 : KeepsOthers W (w1.setCell ⟨w.heap.size + 1 + 1, 0, none⟩ (.slice (some ⟨br, or, none⟩) lr cr)) := (KeepsOthers.ofBelow hb).trans (KeepsOthers.setCell _ _ _)
    have hX1 : KeepBox (w.heap.size + 1 + 1 + 1) W (w1.setCell ⟨w.heap.size + 1 + 1, 0, none⟩ (.slice (some ⟨br, or, none⟩) lr cr)) := by
      show _ = _
      rw [World.cell?_setCell_other _ _ _ _ (by intro e; simp at e)]
      exact hb.cell (p := ⟨w.heap.size + 1 + 1 + 1, 0, none⟩) hlt
    cases x with
    | false =>
      gi_wp2
      refine ⟨hK1, hX1, ⟨br, or, lr, cr, ?_⟩, hB1⟩
      rw [bval_snoc]; simpa using j
    | true =>
      have ht1 : w1.cell? ⟨w.heap.size + 1, 0, none⟩ = some (.func (.func 58) #[] #[.pointer (some ⟨Bm, 0, none⟩), .pointer (some ⟨Bf, 0, none⟩)]) := (hb.cell (p := ⟨w.heap.size + 1, 0, none⟩) (by show w.heap.size + 1 < _; omega)).trans ht
      have hc1 : w1.cell? ⟨w.heap.size, 0, none⟩ = some (.slice (some ⟨b2, o2, none⟩) l2 c2) := (hb.cell (p := ⟨w.heap.size, 0, none⟩) (by show w.heap.size < _; omega)).trans hc
      gi_wp2_with fail
      refine ⟨trivial, ?_⟩
      refine (CallsIn.inRound l (callsIn_wide.2 (timesO_any _ _ _ _ _ Bm bm om cap Bf f Y j.num j.nbase j.mod hodd hfc hf64 (HL.out _) (by have := HL.out 1; rwa [Nat.pow_one] at this)))).mono ?_
      rintro e w2 ⟨r2, rfl, hr2, hb2⟩
      obtain ⟨br2, or2, lr2, cr2, rfl⟩ := hr2.form
      rw [pow_one_more] at hr2
      have k := j.step hBm hBf (fun n => by simp) hb2 hr2
      have hlt2 := j.lt
      have hp2 : w2.cell? ⟨w.heap.size + 1 + 1, 0, none⟩ = some (.slice (some ⟨br, or, none⟩) lr cr) := (hb2.cell (p := ⟨w.heap.size + 1 + 1, 0, none⟩) (by show w.heap.size + 1 + 1 < _; omega)).trans j.pow
      have hf2 : w2.frozen? ⟨w.heap.size + 1 + 1, 0, none⟩ = false := (hb2.frozen (p := ⟨w.heap.size + 1 + 1, 0, none⟩) (by show w.heap.size + 1 + 1 < _; omega)).trans j.free
      have hB2 : Below w.heap.size w (w2.setCell ⟨w.heap.size + 1 + 1, 0, none⟩ (.slice (some ⟨br2, or2, none⟩) lr2 cr2)) := (hB1.trans (hb2.mono (by omega))).setCell (p := ⟨w.heap.size + 1 + 1, 0, none⟩) (by show _ ≤ w.heap.size + 1 + 1; omega) _
      have hK2 : KeepsOthers W (w2.setCell ⟨w.heap.size + 1 + 1, 0, none⟩ (.slice (some ⟨br2, or2, none⟩) lr2 cr2)) := hK1.trans ((KeepsOthers.ofBelow hb2).trans (KeepsOthers.setCell _ _ _))
      have hX2 : KeepBox (w.heap.size + 1 + 1 + 1) W (w2.setCell ⟨w.heap.size + 1 + 1, 0, none⟩ (.slice (some ⟨br2, or2, none⟩) lr2 cr2)) := by
        show _ = _
        rw [World.cell?_setCell_other _ _ _ _ (by intro e; simp at e)]
        exact (hb2.cell (p := ⟨w.heap.size + 1 + 1 + 1, 0, none⟩) hlt2).trans hX1
      gi_wp2
      refine ⟨hK2, hX2, ⟨br2, or2, lr2, cr2, ?_⟩, hB2⟩
      rw [bval_snoc]; simpa using k
  case done =>
    rintro D ys W hD hS ⟨⟨b, o, ll, c, i⟩, hB⟩ hK
    have hp := i.pow
    gi_wp2
    refine ⟨by simp, .inl ⟨_, _, rfl, run_takeDeferred hK, ?_⟩⟩
    have hnum := i.num
    rw [hS] at hnum
    refine ⟨.slice (some ⟨b, o, none⟩) ll c, results_tmp (t := 8) rfl _ _ _, .slice (some ⟨b, o, none⟩) ll c, rfl, hnum.kept (grownBy_putObj' _ D (.deferred none)) (fun r e => by cases e; exact ⟨_, hK, rfl⟩), hB.trans (belowK_b (w := w) (Nat.le_refl _) W D _ _ (by omega) hK rfl rfl)⟩
  case stop =>
    rintro D c pre W _ _ h _
    exact h.elim
end Go.Proofs.YtkpkifhjedlieaaDoor
