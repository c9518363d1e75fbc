/-
  The walks of the two closures of nat.powOdd: the step into the form of Montgomery, and the product in it.
  The product in the form of Montgomery, and the walk of nat.raise with it.
  The walk of nat.powOdd.
  The walk of nat.Pow.
  The walk of nat.Pow for even moduli, and for all.
  nat.Pow for the modulus 0, and for all.
-/
import Derived.Test.YtkpkifhjedlieaaGreatDoorPowE
import Derived.Test.YtkpkifhjedlieaaGreatDoorQuo2
import Derived.Test.YtkpkifhjedlieaaGreatDoorProd
import Derived.Deep.DeepFit
import Derived.Deep.DeepMust
namespace Go.Proofs.YtkpkifhjedlieaaGreatDoor
open Go.RowKit NM
/-- a row of n words, less than M -/
def NumO (n M : Nat) (W : World) (v : Value) (x : Nat) : Prop :=
  ∃ b o c Z, v = .slice (some ⟨b, o, none⟩) n c ∧ b < W.heap.size ∧ Row W b o Z ∧ Wd Z ∧ Z.length = n ∧ n ≤ c ∧ wv Z < M ∧ wv Z = x
theorem NumO.below {n M : Nat} {W W' : World} {v : Value} {x : Nat} (h : NumO n M W v x) (hb : Below W.heap.size W W') : NumO n M W' v x := by
  obtain ⟨b, o, c, Z, h1, h2, h3, h4, h5, h6, h7, h8⟩ := h
  exact ⟨b, o, c, Z, h1, Nat.lt_of_lt_of_le h2 hb.size, h3.below hb h2, h4, h5, h6, h7, h8⟩
def LiftQ (n M x : Nat) (w : World) (e : Ending) (w' : World) : Prop := ∃ r, e = .returned r ∧ NumO n M w' r (x * B64^n % M) ∧ Below w.heap.size w w'
theorem pow64 (n : Nat) : (2:Nat)^(64*n) = B64^n := by rw [Nat.pow_mul]; rfl
theorem lift_trim {B : Nat} {w1 : World} {b m n k : Nat} {X Z : List Nat} (o : Own B w1 b 0 m Z) (l : Z.length = m) (hm : m = X.length + n / 64 + 1) (hb : X.length + n/64 + 1 ≤ k) (hk : k ≤ 1099511627776) : Calls Tryz.prog 73 #[.slice (some ⟨b, 0, none⟩) m m] w1 (TrimQ Z b 0 m w1) := by
  have := trim_any w1 b 0 m Z o.row (by omega) (by omega)
  rwa [l] at this
theorem lift_rest {B : Nat} {w1 : World} {b m n j bm om cap Bm : Nat} {Z Y : List Nat} (o : Own B w1 b 0 m Z) (hj : j ≤ Z.length) (ht : Tr (Z.take j)) (hm : Modulus w1 Bm bm om cap Y) (hD : DivOK Y) (hn : n = Y.length) (hne : bm ≠ b) (hmb : m ≤ 274877906943) :
    Calls Tryz.prog 55 #[.slice (some ⟨b, 0, none⟩) j m, .slice (some ⟨bm, om, none⟩) n cap] w1 (RestQ (wv (Z.take j)) (wv Y) b 0 (0 + j) w1) := by
  have hl : (Z.take j).length = j := by rw [List.length_take]; omega
  have h := rest_any w1 b 0 m bm om cap (Z.take j) Y (o.row.take j) hm.row (Wd_take o.wd j) hm.wd ht hm.tr o.lt hm.bm hne (by have := o.cap; omega) hm.cap hmb (by have := hm.len; omega) hD
  rw [hl, ← hn] at h
  exact h
def WidenQ (n M x : Nat) (w : World) (e : Ending) (w' : World) : Prop := ∃ r, e = .returned r ∧ NumO n M w' r x ∧ Below w.heap.size w w'
theorem lift_widen {w2 : World} {r : Value} {x n : Nat} {Y : List Nat} (h : NumA w2 r x) (hx : x < wv Y) (hY : Wd Y) (hn : n = Y.length) (hnb : n ≤ 1099511627776) :
    Calls Tryz.prog 46 #[r, .int .i64 (n : Nat)] w2 (WidenQ n (wv Y) x w2) := by
  obtain ⟨b, o, cap, Z, rfl, h2, h3, h4, h5, h6, h7, rfl⟩ := h
  have hl := Tr_len_le hY h7 (Nat.le_of_lt hx)
  refine (widen_any w2 b o cap n Z h3 h4 h2 hnb (by omega)).mono ?_
  rintro e w' ⟨T, oT, lT, vT, bT, rfl⟩
  exact ⟨_, rfl, ⟨_, _, _, T, rfl, oT.lt, oT.row, oT.wd, lT, Nat.le_refl _, by rw [vT]; exact hx, vT⟩, bT⟩
set_option maxRecDepth 100000 in
set_option maxHeartbeats 4000000 in
theorem lift_any (w : World) (b o cp Bn Bm bm om cap : Nat) (X Y : List Nat) (hR : Row w b o X) (hX : Wd X) (hb : b < w.heap.size) (hl : X.length ≤ 536870914) (hc : X.length ≤ cp) (hn : w.cell? ⟨Bn, 0, none⟩ = some (.int .i64 (Y.length : Nat))) (hBn : Bn < w.heap.size)
    (hm : Modulus w Bm bm om cap Y) (hD : DivOK Y) (hpos : 0 < wv Y) :
    Calls Tryz.prog 82 #[.slice (some ⟨b, o, none⟩) X.length cp, .pointer (some ⟨Bn, 0, none⟩), .pointer (some ⟨Bm, 0, none⟩)] w (LiftQ Y.length (wv Y) (wv X) w) := by
  obtain ⟨n, hnY⟩ : ∃ n, n = Y.length := ⟨_, rfl⟩
  have hmd : Modulus w.drew Bm bm om cap Y := hm.below (Below.refl _ w).drew
  have hbx := hm.box
  rw [← hnY] at hn hbx ⊢
  have hnb : n ≤ 536870914 := by have := hm.len; omega
  have hS := shiftLeft_any w.drew b o cp (64 * n) X hR.drew hX hb (by omega) (by omega) hc
  rw [show ((64 * n : Nat) : Int) = 64 * (n : Int) by omega] at hS
  have HS := Lib.hid hS; clear hS
  have ew : IntKind.i64.wrap (64 * (n : Int)) = 64 * (n : Int) := IntWalk.i64_in _ ⟨by omega, by omega⟩
  have HY := Lib.hid hnY; clear hnY
  go_enter Tryz.func82, Tryz.ntmps82
  go_wp2
  go_region_held3 (fun w' => w'.cell? ⟨Bm, 0, none⟩ = some (.slice (some ⟨bm, om, none⟩) n cap) ∧ w'.cell? ⟨Bn, 0, none⟩ = some (.int .i64 (n : Nat))) (first | (exact ⟨by assumption, by assumption⟩) | (simp [go_sem]; exact ⟨by assumption, by assumption⟩))
    (first
      | (go_at_call 75; go_must (go_fit HS.out); rintro e w1 ⟨Z, m, oZ, lZ, mZ, vZ, bZ, rfl⟩; have hm1 := hmd.below bZ; have hbx1 := (bZ.cell (p := ⟨Bm, 0, none⟩) hmd.Bm).trans hbx; have hn1 := (bZ.cell (p := ⟨Bn, 0, none⟩) hBn).trans hn; have hT := lift_trim oZ lZ mZ (Nat.le_refl _) (by omega); have lZ2 := Lib.hid (And.intro lZ (And.intro mZ vZ)); clear lZ mZ vZ)
      | (go_at_call 73; go_must (go_fit hT); rintro e w2 ⟨j, hj, hw, htr, rfl, rfl⟩; have hw2 := Lib.hid hw; clear hw)
      | (go_at_call 55; go_must (go_fit (lift_rest oZ hj htr hm1 hD HY.out (by have := hmd.bm; have : w.drew.heap.size = w.heap.size := rfl; omega) (by have := lZ2.out.2.1; omega))); rintro e w3 ⟨vr, rfl, hr9, ho9, _⟩; have hb9 := ho9.below (Nat.le_refl _) (Nat.le_of_lt oZ.lt); have hbx2 := (hb9.cell (p := ⟨Bm, 0, none⟩) hmd.Bm).trans hbx1; have hn2 := (hb9.cell (p := ⟨Bn, 0, none⟩) hBn).trans hn1)
      | (go_at_call 46; go_must (go_fit (lift_widen hr9 (Nat.mod_lt _ hpos) hm.wd HY.out (by omega))); rintro e w4 ⟨v4, rfl, h4, hb4⟩; have hs9 := ho9.size; have hs4 := oZ.lt; have hbx3 := (hb4.cell (p := ⟨Bm, 0, none⟩) (by have := hmd.Bm; show Bm < _; omega)).trans hbx2; have hn3 := (hb4.cell (p := ⟨Bn, 0, none⟩) (by show Bn < _; have : w.drew.heap.size = w.heap.size := rfl; omega)).trans hn2))
  all_goals go_wp2
  all_goals go_ret
  all_goals refine ⟨_, rfl, ?_, (((Below.refl _ w).drew.trans bZ).trans hb9).trans (hb4.mono (by have : w.drew.heap.size = w.heap.size := rfl; omega))⟩
  all_goals (have e1 := hw2.out; have e2 := lZ2.out.2.2; rw [e1, e2, pow64] at h4; exact h4)
end Go.Proofs.YtkpkifhjedlieaaGreatDoor
namespace Go.Proofs.YtkpkifhjedlieaaGreatDoor
open Go.RowKit NM Go.Shelf
attribute [local go_sem] Oper.semAt_some
/-- p in the form of Montgomery -/
def NumR (Y : List Nat) (W : World) (v : Value) (p : Nat) : Prop := NumO Y.length (wv Y) W v (p * B64^Y.length % wv Y)
theorem NumR.below {Y : List Nat} {W W' : World} {v : Value} {x : Nat} (h : NumR Y W v x) (hb : Below W.heap.size W W') : NumR Y W' v x := NumO.below h hb
theorem NumR.form {Y : List Nat} {W : World} {v : Value} {x : Nat} (h : NumR Y W v x) : ∃ b o l c, v = .slice (some ⟨b, o, none⟩) l c := by
  obtain ⟨b, o, c, Z, h1, _⟩ := h
  exact ⟨b, o, _, _, h1⟩
theorem NumR.kept {Y : List Nat} {A B : World} {row : Option Nat} {v : Value} {x : Nat} (h : NumR Y A v x) (hg : A.grownBy B row) (hr : ∀ r, row = some r → ∃ o : Obj, A.heap[r]? = some o ∧ o.isCells = false) : NumR Y B v x := by
  obtain ⟨b, o, c, Z, h1, h2, h3, h4, h5, h6, h7, h8⟩ := h
  exact ⟨b, o, c, Z, h1, Nat.lt_of_lt_of_le h2 hg.size, ⟨fun j hj => cell_kept (h3.cell j hj) hg hr, fun j hj => (frozen_kept (h3.cell j hj) hg hr).trans (h3.free j hj)⟩, h4, h5, h6, h7, h8⟩
theorem NumR.setOther {Y : List Nat} {W : World} {v : Value} {x : Nat} {p : Addr} {u u' : Value} (h : NumR Y W v x) (hp : W.cell? p = some u) (hu : ∀ n, u ≠ .int .u64 n) : NumR Y (W.setCell p u') v x := by
  obtain ⟨b, o, c, Z, h1, h2, h3, h4, h5, h6, h7, h8⟩ := h
  refine ⟨b, o, c, Z, h1, by simpa using h2, ⟨fun j hj => ?_, fun j hj => by rw [World.frozen?_setCell]; exact h3.free j hj⟩, h4, h5, h6, h7, h8⟩
  rw [World.cell?_setCell_other]
  · exact h3.cell j hj
  · intro e; have := h3.cell j hj; rw [← e, hp] at this; exact hu _ (Option.some.inj this)
/-- the modulus, and the number that makes -1 of its lowest word -/
structure ModF (w : World) (Bm bm om cap Bf f : Nat) (Y : List Nat) : Prop where
  mod : Modulus w Bm bm om cap Y
  fac : w.cell? ⟨Bf, 0, none⟩ = some (.int .u64 (f : Nat))
  Bf : Bf < w.heap.size
theorem ModF.below {w w' : World} {Bm bm om cap Bf f : Nat} {Y : List Nat} (h : ModF w Bm bm om cap Bf f Y) (hb : Below w.heap.size w w') : ModF w' Bm bm om cap Bf f Y :=
  ⟨h.mod.below hb, (hb.cell (p := ⟨Bf, 0, none⟩) h.Bf).trans h.fac, Nat.lt_of_lt_of_le h.Bf hb.size⟩
theorem ModF.kept {A B : World} {row : Option Nat} {Bm bm om cap Bf f : Nat} {Y : List Nat} (h : ModF A Bm bm om cap Bf f Y) (hg : A.grownBy B row) (hr : ∀ r, row = some r → ∃ o : Obj, A.heap[r]? = some o ∧ o.isCells = false) : ModF B Bm bm om cap Bf f Y :=
  ⟨h.mod.kept hg hr, cell_kept h.fac hg hr, Nat.lt_of_lt_of_le h.Bf hg.size⟩
theorem ModF.setOther {W : World} {Bm bm om cap Bf f : Nat} {Y : List Nat} {p : Addr} {u u' : Value} (h : ModF W Bm bm om cap Bf f Y) (hp : W.cell? p = some u) (hu : ∀ n, u ≠ .int .u64 n) (hne : p.block ≠ Bm) (hne2 : p.block ≠ Bf) : ModF (W.setCell p u') Bm bm om cap Bf f Y := by
  refine ⟨h.mod.setOther hp hu hne, ?_, by simpa using h.Bf⟩
  rw [World.cell?_setCell_other]
  · exact h.fac
  · intro e; exact hne2 (by rw [e])
theorem coprime_B (M n : Nat) (h : M % 2 = 1) : Nat.Coprime M (B64^n) := by
  have h2 : Nat.Coprime M 2 := by
    unfold Nat.Coprime
    rw [Nat.gcd_comm, Nat.gcd_rec, h]
    decide
  have : Nat.Coprime M B64 := by rw [show B64 = 2^64 from rfl]; exact Nat.Coprime.pow_right 64 h2
  exact Nat.Coprime.pow_right n this
theorem mod_cancel (M n z t : Nat) (h : M % 2 = 1) (hz : z < M) (ht : t < M) (he : z * B64^n % M = t * B64^n % M) : z = t := by
  have key : ∀ a b : Nat, a < M → b ≤ a → a * B64^n % M = b * B64^n % M → a = b := by
    intro a b ha hb e
    have h1 := Nat.sub_mod_eq_zero_of_mod_eq e
    rw [← Nat.sub_mul] at h1
    have h2 : M ∣ (a - b) * B64^n := Nat.dvd_of_mod_eq_zero h1
    have h3 := Nat.Coprime.dvd_of_dvd_mul_right (coprime_B M n h) h2
    have := Nat.eq_zero_of_dvd_of_lt h3 (by omega)
    omega
  rcases Nat.le_total t z with h1 | h1
  · exact key z t hz h1 he
  · exact (key t z ht h1 he.symm).symm
theorem mm (a b M : Nat) : (a % M) * b % M = a * b % M := by rw [Nat.mul_mod, Nat.mod_mod, ← Nat.mul_mod]
theorem mont_num (M n r p q : Nat) (h : M % 2 = 1) (hr : r < M) (he : r * B64^n % M = (p * B64^n % M) * (q * B64^n % M) % M) : r = (p * q % M) * B64^n % M := by
  have hM : 0 < M := by omega
  apply mod_cancel M n r _ h hr (Nat.mod_lt _ hM)
  rw [he, ← Nat.mul_mod]
  have e : p * B64^n * (q * B64^n) = (p * q) * B64^n * B64^n := by
    rw [Nat.mul_assoc, Nat.mul_assoc, Nat.mul_assoc, Nat.mul_left_comm (B64^n) q]
  rw [e]
  rw [mm, Nat.mul_assoc (p * q % M), mm, Nat.mul_assoc (p * q)]
def TimesR (Y : List Nat) (z : Nat) (w : World) (e : Ending) (w' : World) : Prop := ∃ r, e = .returned r ∧ NumR Y w' r z ∧ Below w.heap.size w w'
set_option maxHeartbeats 2000000 in
theorem timesO_any (w : World) (u v : Value) (x y Bm bm om cap Bf f : Nat) (Y : List Nat) (hu : NumR Y w u x) (hv : NumR Y w v y) (hm : ModF w Bm bm om cap Bf f Y) (hodd : wv Y % 2 = 1) (hfc : (gd Y 0 * f + 1) % B64 = 0) (hf64 : f < 18446744073709551616) (_hx : x < wv Y) (_hy : y < wv Y) :
    Calls Tryz.prog 83 #[u, v, .pointer (some ⟨Bm, 0, none⟩), .pointer (some ⟨Bf, 0, none⟩)] w (TimesR Y (x * y % wv Y) w) := by
  obtain ⟨b, o, c, Z, rfl, h2, h3, h4, h5, h6, h7, h8⟩ := hu
  obtain ⟨b', o', c', Z', rfl, h2', h3', h4', h5', h6', h7', h8'⟩ := hv
  have hM := Lib.hid (montgomery_any w b o c b' o' c' bm om cap f Y.length Z Z' Y h3 h3' hm.mod.row h4 h4' hm.mod.wd hm.mod.tr h2 h2' hm.mod.bm rfl h5 h5' hm.mod.len h6 h6' hm.mod.cap h7 hfc hf64)
  have hbx := hm.mod.box
  have hfx := hm.fac
  obtain ⟨n, hn⟩ : ∃ n, n = Y.length := ⟨_, rfl⟩
  rw [← hn] at hM hbx ⊢
  have HX := Lib.hid (And.intro h5 (And.intro h5' (And.intro h8 (And.intro h8' hn)))); clear h5 h5' h8 h8' hn
  go_enter Tryz.func83, Tryz.ntmps83
  go_wp2_with (refine hM.out.mono ?_; rintro e w' ⟨T, bt, ot, rfl, r1, r2, r3, r4, r5, r6, r7⟩)
  go_ret
  obtain ⟨g5, g5', g8, g8', gn⟩ := HX.out
  refine ⟨_, rfl, ⟨bt, ot, _, T, rfl, r1, r2, r3, r4, Nat.le_succ _, r5, ?_⟩, r7⟩
  rw [g8, g8'] at r6
  exact mont_num _ _ _ _ _ hodd r5 r6
/-- what holds between two rounds: the power so far lies in its variable -/
structure RInvO (h Bm bm om cap Bf f : Nat) (Y : List Nat) (base times : Value) (a z : Nat) (W : World) (v : Value) : Prop where
  pow : W.cell? ⟨h + 1 + 1, 0, none⟩ = some v
  free : W.frozen? ⟨h + 1 + 1, 0, none⟩ = false
  num : NumR Y W v z
  cbase : W.cell? ⟨h, 0, none⟩ = some base
  ctimes : W.cell? ⟨h + 1, 0, none⟩ = some times
  nbase : NumR Y W base (a % wv Y)
  mod : ModF W Bm bm om cap Bf f Y
  lt : h + 1 + 1 + 1 < W.heap.size
theorem RInvO.kept {h Bm bm om cap Bf f : Nat} {Y : List Nat} {base times : Value} {a z : Nat} {A B : World} {v : Value} {row : Option Nat} (i : RInvO h Bm bm om cap Bf f Y base times a z A v)
    (hg : A.grownBy B row) (hr : ∀ r, row = some r → ∃ o : Obj, A.heap[r]? = some o ∧ o.isCells = false) : RInvO h Bm bm om cap Bf f Y base times a z B v :=
  ⟨cell_kept i.pow hg hr, (frozen_kept i.pow hg hr).trans i.free, i.num.kept hg hr, cell_kept i.cbase hg hr, cell_kept i.ctimes hg hr, i.nbase.kept hg hr, i.mod.kept hg hr, Nat.lt_of_lt_of_le i.lt hg.size⟩
theorem RInvO.step {h Bm bm om cap Bf f : Nat} {Y : List Nat} {base times : Value} {a z z' : Nat} {W w1 : World} {v r : Value} (i : RInvO h Bm bm om cap Bf f Y base times a z W v) (hB : Bm < h) (hBf : Bf < h) (hv : ∀ n, v ≠ .int .u64 n)
    (hb : Below W.heap.size W w1) (hr : NumR Y w1 r z') : RInvO h Bm bm om cap Bf f Y base times a z' (w1.setCell ⟨h + 1 + 1, 0, none⟩ r) r := by
  have hp : w1.cell? ⟨h + 1 + 1, 0, none⟩ = some v := (hb.cell (p := ⟨h + 1 + 1, 0, none⟩) (by have := i.lt; show h + 1 + 1 < _; omega)).trans i.pow
  have hlt := i.lt
  refine ⟨World.cell?_setCell_same _ _ _ hp, ?_, hr.setOther hp hv, ?_, ?_, (i.nbase.below hb).setOther hp hv, (i.mod.below hb).setOther hp hv (by show h + 1 + 1 ≠ Bm; omega) (by show h + 1 + 1 ≠ Bf; omega), by simp only [World.size_setCell]; have := hb.size; omega⟩
  · rw [World.frozen?_setCell]; exact (hb.frozen (p := ⟨h + 1 + 1, 0, none⟩) (by show h + 1 + 1 < _; omega)).trans i.free
  · rw [World.cell?_setCell_other _ _ _ _ (by intro e; simp at e)]; exact (hb.cell (p := ⟨h, 0, none⟩) (by show h < _; omega)).trans i.cbase
  · rw [World.cell?_setCell_other _ _ _ _ (by intro e; simp at e)]; exact (hb.cell (p := ⟨h + 1, 0, none⟩) (by show h + 1 < _; omega)).trans i.ctimes
set_option maxRecDepth 100000 in
set_option maxHeartbeats 4000000 in
theorem raiseO_any (w : World) (b1 o1 l1 c1 b2 o2 l2 c2 : Nat) (s : ByteArray) (hs : s.size ≤ 4294967296) (a Bm bm om cap Bf f : Nat) (Y : List Nat) (hone : NumR Y w (.slice (some ⟨b1, o1, none⟩) l1 c1) (1 % wv Y)) (hbase : NumR Y w (.slice (some ⟨b2, o2, none⟩) l2 c2) (a % wv Y)) (hpos : 0 < wv Y) (hodd : wv Y % 2 = 1) (hfc : (gd Y 0 * f + 1) % B64 = 0) (hf64 : f < 18446744073709551616) (hm : ModF w Bm bm om cap Bf f Y) :
    Calls Tryz.prog 59 #[.slice (some ⟨b1, o1, none⟩) l1 c1, .slice (some ⟨b2, o2, none⟩) l2 c2, .string s, .func (.func 83) #[] #[.pointer (some ⟨Bm, 0, none⟩), .pointer (some ⟨Bf, 0, none⟩)]] w (TimesR Y (a ^ sv s % wv Y) w) := by
  refine (callsIn_wide (n := 12)).1 ?_
  refine callsIn_of_wp_marks Tryz.func59 rfl trivial ?_ rfl
  simp only [Tryz.ntmps59, List.size_toArray, List.length_cons, List.length_nil, Nat.reduceAdd, Nat.reduceSub, Array.replicate_succ, Array.replicate_zero, List.push_toArray, List.append_toArray, List.nil_append, List.cons_append]
  have HO := Lib.hid hone; have HB := Lib.hid hbase; have HM := Lib.hid hm
  gi_wp2_with (refine ⟨trivial, ?_⟩; refine (callsIn_wide.2 (digits_any s _)).mono ?_; rintro e w' ⟨rfl, rfl⟩)
  have hB4 : Below w.heap.size w ((((w.alloc (.cells #[.slice (some ⟨b2, o2, none⟩) l2 c2] 53)).alloc (.cells #[.func (.func 83) #[] #[.pointer (some ⟨Bm, 0, none⟩), .pointer (some ⟨Bf, 0, none⟩)]] 63)).alloc (.cells #[.slice (some ⟨b1, o1, none⟩) l1 c1] 53)).alloc (.cells #[.string s] 24)) :=
    ((((Below.refl _ w).alloc (Nat.le_refl _) _).alloc (by simp) _).alloc (by simp; omega) _).alloc (by simp; omega) _
  have i0 : RInvO w.heap.size Bm bm om cap Bf f Y (.slice (some ⟨b2, o2, none⟩) l2 c2) (.func (.func 83) #[] #[.pointer (some ⟨Bm, 0, none⟩), .pointer (some ⟨Bf, 0, none⟩)]) a (a ^ bval [] % wv Y) ((((w.alloc (.cells #[.slice (some ⟨b2, o2, none⟩) l2 c2] 53)).alloc (.cells #[.func (.func 83) #[] #[.pointer (some ⟨Bm, 0, none⟩), .pointer (some ⟨Bf, 0, none⟩)]] 63)).alloc (.cells #[.slice (some ⟨b1, o1, none⟩) l1 c1] 53)).alloc (.cells #[.string s] 24)) (.slice (some ⟨b1, o1, none⟩) l1 c1) := by
    refine ⟨?_, ?_, ?_, ?_, ?_, hbase.below hB4, hm.below hB4, by simp⟩
    · rw [World.cell?_alloc_past _ _ _ (by simp), World.cell?_alloc_at _ _ _ _ (by simp)]; rfl
    · rw [World.frozen?_alloc_past _ _ _ (by simp), World.frozen?_alloc_at _ _ _ _ (by simp)]
    · have := hone.below hB4
      simpa [bval] using this
    · rw [World.cell?_alloc_past _ _ _ (by simp; omega), World.cell?_alloc_past _ _ _ (by simp; omega), World.cell?_alloc_past _ _ _ (by simp), World.cell?_alloc_at _ _ _ _ rfl]; rfl
    · rw [World.cell?_alloc_past _ _ _ (by simp), World.cell?_alloc_past _ _ _ (by simp), World.cell?_alloc_at _ _ _ _ (by simp)]; rfl
  have hs4 : ((((w.alloc (.cells #[.slice (some ⟨b2, o2, none⟩) l2 c2] 53)).alloc (.cells #[.func (.func 83) #[] #[.pointer (some ⟨Bm, 0, none⟩), .pointer (some ⟨Bf, 0, none⟩)]] 63)).alloc (.cells #[.slice (some ⟨b1, o1, none⟩) l1 c1] 53)).alloc (.cells #[.string s] 24)).heap.size = w.heap.size + 1 + 1 + 1 + 1 := by simp
  have hbx : ((((w.alloc (.cells #[.slice (some ⟨b2, o2, none⟩) l2 c2] 53)).alloc (.cells #[.func (.func 83) #[] #[.pointer (some ⟨Bm, 0, none⟩), .pointer (some ⟨Bf, 0, none⟩)]] 63)).alloc (.cells #[.slice (some ⟨b1, o1, none⟩) l1 c1] 53)).alloc (.cells #[.string s] 24)).cell? ⟨w.heap.size + 1 + 1 + 1, 0, none⟩ = some (.string s) := by
    rw [World.cell?_alloc_at _ _ _ _ (by simp)]; rfl
  generalize (((w.alloc (.cells #[.slice (some ⟨b2, o2, none⟩) l2 c2] 53)).alloc (.cells #[.func (.func 83) #[] #[.pointer (some ⟨Bm, 0, none⟩), .pointer (some ⟨Bf, 0, none⟩)]] 63)).alloc (.cells #[.slice (some ⟨b1, o1, none⟩) l1 c1] 53)).alloc (.cells #[.string s] 24) = w4 at *
  refine wpIn_rangeFunc_ownF rfl (by omega) (gf := 98) (lb := #[.pointer (some ⟨w.heap.size + 1 + 1 + 1, 0, none⟩)]) rfl trivial (enters_of Tryz.func98 (by kernel_rfl) rfl)
    (digits_stops 11 (by omega) (w.heap.size + 1 + 1 + 1) s hs w4 (by omega) hbx) (fun h k => Eq.trans k h) (keepBox_put (by omega)) (Below.refl _ _) (fun _ => rfl)
    (fun pre W => (∃ b o l c, RInvO w.heap.size Bm bm om cap Bf f Y (.slice (some ⟨b2, o2, none⟩) l2 c2) (.func (.func 83) #[] #[.pointer (some ⟨Bm, 0, none⟩), .pointer (some ⟨Bf, 0, none⟩)]) a (a ^ bval pre % wv Y) W (.slice (some ⟨b, o, none⟩) l c)) ∧ Below w.heap.size w W)
    (fun _ _ _ => False)
    (OwnFrom.and (Own.from (fun _ _ _ _ hs hg hr => by obtain ⟨b, o, l, c, i⟩ := hs; exact ⟨b, o, l, c, i.kept hg hr⟩) _) (ownFrom_below (Nat.le_refl _) (by omega)))
    (fun _ _ _ _ _ hs _ _ => hs)
    ⟨⟨b1, o1, l1, c1, i0⟩, hB4⟩
    (fun x => { tmps := #[.slice (some ⟨b1, o1, none⟩) l1 c1, .slice (some ⟨b2, o2, none⟩) l2 c2, .string s, .func (.func 83) #[] #[.pointer (some ⟨Bm, 0, none⟩), .pointer (some ⟨Bf, 0, none⟩)], undef,
        .pointer (some ⟨w.heap.size, 0, none⟩), undef, .pointer (some ⟨w.heap.size + 1, 0, none⟩), .slice none 0 0, .pointer (some ⟨w.heap.size + 1 + 1, 0, none⟩), .bool x,
        .slice (some ⟨b1, o1, none⟩) l1 c1, .string s, .func (.func 98) #[] #[.pointer (some ⟨w.heap.size + 1 + 1 + 1, 0, none⟩)], .bool x,
        undef, undef, undef, undef, undef, undef, undef, undef, undef, undef], defers := [] }) ?assign ?body ?done ?stop
  case assign =>
    intro l x W K hK
    gi_wp2
    exact hK
  case body =>
    rintro l pre x W ⟨⟨b, o, ll, c, i⟩, hB⟩ _
    have hp := i.pow
    have hf := i.free
    have ht := i.ctimes
    have hc := i.cbase
    have hlt := i.lt
    have hBm := hm.mod.Bm
    have hBf := hm.Bf
    have hlt0 : ∀ e, a ^ e % wv Y < wv Y := fun e => Nat.mod_lt _ (by omega)
    have hI := Lib.hid i
    have HBX := Lib.hid hbx
    clear hbx
    have HL := Lib.hid hlt0; clear hlt0
    gi_wp2_with fail
    refine ⟨trivial, ?_⟩
    refine (CallsIn.inRound l (callsIn_wide.2 (timesO_any W _ _ _ _ Bm bm om cap Bf f Y i.num i.num i.mod hodd hfc hf64 (HL.out _) (HL.out _)))).mono ?_
    rintro e w1 ⟨r, rfl, hr, hb⟩
    obtain ⟨br, or, lr, cr, rfl⟩ := hr.form
    rw [pow_sq] at hr
    have j := i.step hBm hBf (fun n => by simp) hb hr
    have hp1 : w1.cell? ⟨w.heap.size + 1 + 1, 0, none⟩ = some (.slice (some ⟨b, o, none⟩) ll c) := (hb.cell (p := ⟨w.heap.size + 1 + 1, 0, none⟩) (by show w.heap.size + 1 + 1 < _; omega)).trans hp
    have hf1 : w1.frozen? ⟨w.heap.size + 1 + 1, 0, none⟩ = false := (hb.frozen (p := ⟨w.heap.size + 1 + 1, 0, none⟩) (by show w.heap.size + 1 + 1 < _; omega)).trans hf
    have hB1 : Below w.heap.size w (w1.setCell ⟨w.heap.size + 1 + 1, 0, none⟩ (.slice (some ⟨br, or, none⟩) lr cr)) := (hB.trans (hb.mono (by omega))).setCell (p := ⟨w.heap.size + 1 + 1, 0, none⟩) (by show _ ≤ w.heap.size + 1 + 1; omega) _
    have hK1 : KeepsOthers W (w1.setCell ⟨w.heap.size + 1 + 1, 0, none⟩ (.slice (some ⟨br, or, none⟩) lr cr)) := (KeepsOthers.ofBelow hb).trans (KeepsOthers.setCell _ _ _)
    have hX1 : KeepBox (w.heap.size + 1 + 1 + 1) W (w1.setCell ⟨w.heap.size + 1 + 1, 0, none⟩ (.slice (some ⟨br, or, none⟩) lr cr)) := by
      show _ = _
      rw [World.cell?_setCell_other _ _ _ _ (by intro e; simp at e)]
      exact hb.cell (p := ⟨w.heap.size + 1 + 1 + 1, 0, none⟩) hlt
    cases x with
    | false =>
      gi_wp2
      refine ⟨hK1, hX1, ⟨br, or, lr, cr, ?_⟩, hB1⟩
      rw [bval_snoc]; simpa using j
    | true =>
      have ht1 : w1.cell? ⟨w.heap.size + 1, 0, none⟩ = some (.func (.func 83) #[] #[.pointer (some ⟨Bm, 0, none⟩), .pointer (some ⟨Bf, 0, none⟩)]) := (hb.cell (p := ⟨w.heap.size + 1, 0, none⟩) (by show w.heap.size + 1 < _; omega)).trans ht
      have hc1 : w1.cell? ⟨w.heap.size, 0, none⟩ = some (.slice (some ⟨b2, o2, none⟩) l2 c2) := (hb.cell (p := ⟨w.heap.size, 0, none⟩) (by show w.heap.size < _; omega)).trans hc
      gi_wp2_with fail
      refine ⟨trivial, ?_⟩
      refine (CallsIn.inRound l (callsIn_wide.2 (timesO_any _ _ _ _ _ Bm bm om cap Bf f Y j.num j.nbase j.mod hodd hfc hf64 (HL.out _) (by have := HL.out 1; rwa [Nat.pow_one] at this)))).mono ?_
      rintro e w2 ⟨r2, rfl, hr2, hb2⟩
      obtain ⟨br2, or2, lr2, cr2, rfl⟩ := hr2.form
      rw [pow_one_more] at hr2
      have k := j.step hBm hBf (fun n => by simp) hb2 hr2
      have hlt2 := j.lt
      have hp2 : w2.cell? ⟨w.heap.size + 1 + 1, 0, none⟩ = some (.slice (some ⟨br, or, none⟩) lr cr) := (hb2.cell (p := ⟨w.heap.size + 1 + 1, 0, none⟩) (by show w.heap.size + 1 + 1 < _; omega)).trans j.pow
      have hf2 : w2.frozen? ⟨w.heap.size + 1 + 1, 0, none⟩ = false := (hb2.frozen (p := ⟨w.heap.size + 1 + 1, 0, none⟩) (by show w.heap.size + 1 + 1 < _; omega)).trans j.free
      have hB2 : Below w.heap.size w (w2.setCell ⟨w.heap.size + 1 + 1, 0, none⟩ (.slice (some ⟨br2, or2, none⟩) lr2 cr2)) := (hB1.trans (hb2.mono (by omega))).setCell (p := ⟨w.heap.size + 1 + 1, 0, none⟩) (by show _ ≤ w.heap.size + 1 + 1; omega) _
      have hK2 : KeepsOthers W (w2.setCell ⟨w.heap.size + 1 + 1, 0, none⟩ (.slice (some ⟨br2, or2, none⟩) lr2 cr2)) := hK1.trans ((KeepsOthers.ofBelow hb2).trans (KeepsOthers.setCell _ _ _))
      have hX2 : KeepBox (w.heap.size + 1 + 1 + 1) W (w2.setCell ⟨w.heap.size + 1 + 1, 0, none⟩ (.slice (some ⟨br2, or2, none⟩) lr2 cr2)) := by
        show _ = _
        rw [World.cell?_setCell_other _ _ _ _ (by intro e; simp at e)]
        exact (hb2.cell (p := ⟨w.heap.size + 1 + 1 + 1, 0, none⟩) hlt2).trans hX1
      gi_wp2
      refine ⟨hK2, hX2, ⟨br2, or2, lr2, cr2, ?_⟩, hB2⟩
      rw [bval_snoc]; simpa using k
  case done =>
    rintro D ys W hD hS ⟨⟨b, o, ll, c, i⟩, hB⟩ hK
    have hp := i.pow
    gi_wp2
    refine ⟨by simp, .inl ⟨_, _, rfl, run_takeDeferred hK, ?_⟩⟩
    have hnum := i.num
    rw [hS] at hnum
    refine ⟨.slice (some ⟨b, o, none⟩) ll c, results_tmp (t := 8) rfl _ _ _, .slice (some ⟨b, o, none⟩) ll c, rfl, hnum.kept (grownBy_putObj' _ D (.deferred none)) (fun r e => by cases e; exact ⟨_, hK, rfl⟩), hB.trans (belowK_b (w := w) (Nat.le_refl _) W D _ _ (by omega) hK rfl rfl)⟩
  case stop =>
    rintro D c pre W _ _ h _
    exact h.elim
end Go.Proofs.YtkpkifhjedlieaaGreatDoor
namespace Go.Proofs.YtkpkifhjedlieaaGreatDoor
open Go.RowKit NM
set_option maxHeartbeats 2000000 in
theorem timesO_one (w : World) (u : Value) (x b' o' c' Bm bm om cap Bf f : Nat) (Z' Y : List Nat) (hu : NumR Y w u x) (h2' : b' < w.heap.size) (h3' : Row w b' o' Z') (h4' : Wd Z') (h5' : Z'.length = Y.length) (h6' : Y.length ≤ c') (h8' : wv Z' = 1)
    (hm : ModF w Bm bm om cap Bf f Y) (hodd : wv Y % 2 = 1) (hfc : (gd Y 0 * f + 1) % B64 = 0) (hf64 : f < 18446744073709551616) :
    Calls Tryz.prog 83 #[u, .slice (some ⟨b', o', none⟩) Y.length c', .pointer (some ⟨Bm, 0, none⟩), .pointer (some ⟨Bf, 0, none⟩)] w fun e w' => ∃ r, e = .returned r ∧ NumO Y.length (wv Y) w' r (x % wv Y) ∧ Below w.heap.size w w' := by
  obtain ⟨b, o, c, Z, rfl, h2, h3, h4, h5, h6, h7, h8⟩ := hu
  have hM := Lib.hid (montgomery_any w b o c b' o' c' bm om cap f Y.length Z Z' Y h3 h3' hm.mod.row h4 h4' hm.mod.wd hm.mod.tr h2 h2' hm.mod.bm rfl h5 h5' hm.mod.len h6 h6' hm.mod.cap h7 hfc hf64)
  have hbx := hm.mod.box
  have hfx := hm.fac
  obtain ⟨n, hn⟩ : ∃ n, n = Y.length := ⟨_, rfl⟩
  rw [← hn] at hM hbx ⊢
  have HX := Lib.hid (And.intro h5 (And.intro h5' (And.intro h8 (And.intro h8' hn)))); clear h5 h5' h8 h8' hn
  go_enter Tryz.func83, Tryz.ntmps83
  go_wp2_with (refine hM.out.mono ?_; rintro e w' ⟨T, bt, ot, rfl, r1, r2, r3, r4, r5, r6, r7⟩)
  go_ret
  obtain ⟨g5, g5', g8, g8', gn⟩ := HX.out
  rw [gn]
  refine ⟨_, rfl, ⟨bt, ot, _, T, rfl, r1, r2, r3, r4, Nat.le_succ _, r5, ?_⟩, r7⟩
  rw [g8, g8', Nat.mul_one, Nat.mod_mod] at r6
  apply mod_cancel _ _ _ _ hodd r5 (Nat.mod_lt _ (by omega))
  rw [r6, mm]
set_option maxRecDepth 100000 in
set_option maxHeartbeats 4000000 in
theorem powOdd_any (w : World) (b o cp bm om cap : Nat) (X Y : List Nat) (s : ByteArray) (hs : s.size ≤ 4294967296) (hR : Row w b o X) (hX : Wd X) (hb : b < w.heap.size) (hl : X.length ≤ 536870914) (hc : X.length ≤ cp)
    (rY : Row w bm om Y) (wY : Wd Y) (tY : Tr Y) (hbm : bm < w.heap.size) (lY : Y.length ≤ 536870914) (hcap : Y.length ≤ cap) (hodd : wv Y % 2 = 1) (hD : DivOK Y) :
    Calls Tryz.prog 57 #[.slice (some ⟨b, o, none⟩) X.length cp, .slice (some ⟨bm, om, none⟩) Y.length cap, .string s] w fun e w' => ∃ r, e = .returned r ∧ NumO Y.length (wv Y) w' r (wv X ^ sv s % wv Y) ∧ Below w.heap.size w w' := by
  have hpos : 0 < wv Y := by omega
  have hlen0 : 0 < Y.length := by
    cases Y with
    | nil => simp [wv] at hpos
    | cons a l => simp
  have hy0 := rY.cell 0 hlen0
  have godd : gd Y 0 % 2 = 1 := by
    have h := wv_mod Y wY
    rw [← h]
    have : wv Y % B64 % 2 = wv Y % 2 := Nat.mod_mod_of_dvd _ ⟨9223372036854775808, rfl⟩
    rw [this]; exact hodd
  rw [Nat.add_zero] at hy0
  have hfo := factorOf_any (w.alloc (.cells #[.slice (some ⟨bm, om, none⟩) Y.length cap] 53) |>.alloc (.cells #[.int .i64 (Y.length : Nat)] 3)) (gd Y 0) godd (gd_lt wY 0)
  have HFO := Lib.hid hfo; clear hfo
  have HG := Lib.hid godd; clear godd
  go_enter Tryz.func57, Tryz.ntmps57
  go_wp2_with fail
  go_fit HFO.out
  rintro e w2 ⟨f, hf64, hfc, rfl, rfl⟩
  have HFC := Lib.hid hfc; clear hfc
  go_wp2_with fail
  have hB4 : Below w.heap.size w ((((w.alloc (.cells #[.slice (some ⟨bm, om, none⟩) Y.length cap] 53)).alloc (.cells #[.int .i64 (Y.length : Nat)] 3)).alloc (.cells #[.int .u64 (f : Nat)] 69)).alloc (.cells #[.int .u64 1] 69)) := ((((Below.refl _ w).alloc (Nat.le_refl _) _).alloc (by simp) _).alloc (by simp; omega) _).alloc (by simp; omega) _
  have hbx4 : ((((w.alloc (.cells #[.slice (some ⟨bm, om, none⟩) Y.length cap] 53)).alloc (.cells #[.int .i64 (Y.length : Nat)] 3)).alloc (.cells #[.int .u64 (f : Nat)] 69)).alloc (.cells #[.int .u64 1] 69)).cell? ⟨w.heap.size, 0, none⟩ = some (.slice (some ⟨bm, om, none⟩) Y.length cap) := by
    rw [World.cell?_alloc_past _ _ _ (by simp; omega), World.cell?_alloc_past _ _ _ (by simp; omega), World.cell?_alloc_past _ _ _ (by simp), World.cell?_alloc_at _ _ _ _ rfl]; rfl
  have hnx4 : ((((w.alloc (.cells #[.slice (some ⟨bm, om, none⟩) Y.length cap] 53)).alloc (.cells #[.int .i64 (Y.length : Nat)] 3)).alloc (.cells #[.int .u64 (f : Nat)] 69)).alloc (.cells #[.int .u64 1] 69)).cell? ⟨w.heap.size + 1, 0, none⟩ = some (.int .i64 (Y.length : Nat)) := by
    rw [World.cell?_alloc_past _ _ _ (by simp), World.cell?_alloc_past _ _ _ (by simp), World.cell?_alloc_at _ _ _ _ (by simp)]; rfl
  have hfx4 : ((((w.alloc (.cells #[.slice (some ⟨bm, om, none⟩) Y.length cap] 53)).alloc (.cells #[.int .i64 (Y.length : Nat)] 3)).alloc (.cells #[.int .u64 (f : Nat)] 69)).alloc (.cells #[.int .u64 1] 69)).cell? ⟨w.heap.size + 1 + 1, 0, none⟩ = some (.int .u64 (f : Nat)) := by
    rw [World.cell?_alloc_past _ _ _ (by simp), World.cell?_alloc_at _ _ _ _ (by simp)]; rfl
  have hs4 : ((((w.alloc (.cells #[.slice (some ⟨bm, om, none⟩) Y.length cap] 53)).alloc (.cells #[.int .i64 (Y.length : Nat)] 3)).alloc (.cells #[.int .u64 (f : Nat)] 69)).alloc (.cells #[.int .u64 1] 69)).heap.size = w.heap.size + 1 + 1 + 1 + 1 := by simp
  have hone4 : Row ((((w.alloc (.cells #[.slice (some ⟨bm, om, none⟩) Y.length cap] 53)).alloc (.cells #[.int .i64 (Y.length : Nat)] 3)).alloc (.cells #[.int .u64 (f : Nat)] 69)).alloc (.cells #[.int .u64 1] 69)) (w.heap.size + 1 + 1 + 1) 0 [1] := by
    have := row_one (((w.alloc (.cells #[.slice (some ⟨bm, om, none⟩) Y.length cap] 53)).alloc (.cells #[.int .i64 (Y.length : Nat)] 3)).alloc (.cells #[.int .u64 (f : Nat)] 69)) 1 69
    have e : (((w.alloc (.cells #[.slice (some ⟨bm, om, none⟩) Y.length cap] 53)).alloc (.cells #[.int .i64 (Y.length : Nat)] 3)).alloc (.cells #[.int .u64 (f : Nat)] 69)).heap.size = w.heap.size + 1 + 1 + 1 := by simp
    rw [e] at this
    exact this
  generalize ((((w.alloc (.cells #[.slice (some ⟨bm, om, none⟩) Y.length cap] 53)).alloc (.cells #[.int .i64 (Y.length : Nat)] 3)).alloc (.cells #[.int .u64 (f : Nat)] 69)).alloc (.cells #[.int .u64 1] 69)) = w4 at *
  have hR4 := hR.below hB4 hb
  have hm4 : ModF w4 w.heap.size bm om cap (w.heap.size + 1 + 1) f Y := ⟨⟨hbx4, rY.below hB4 hbm, wY, tY, by omega, by omega, lY, hcap⟩, hfx4, by omega⟩
  have w1d : Wd [1] := fun x hx => by rw [List.mem_singleton.1 hx]; decide
  have hS4 := Lib.hid hs4; clear hs4
  have hl1 := lift_any w4 (w.heap.size + 1 + 1 + 1) 0 1 (w.heap.size + 1) w.heap.size bm om cap [1] Y hone4 w1d (by rw [hS4.out]; omega) (by simp) (by simp) hnx4 (by rw [hS4.out]; omega) hm4.mod hD hpos
  go_fit hl1
  clear hl1
  rintro e w5 ⟨r1, rfl, n1, b5⟩
  have hm5 := hm4.below b5
  have hs5 := b5.size
  have hnx5 := (b5.cell (p := ⟨w.heap.size + 1, 0, none⟩) (by show w.heap.size + 1 < _; rw [hS4.out]; omega)).trans hnx4
  have hR5 := hR4.below b5 (by rw [hS4.out]; omega)
  have hone5 := hone4.below b5 (by rw [hS4.out]; omega)
  go_wp2_with fail
  have hl2 := lift_any w5 b o cp (w.heap.size + 1) w.heap.size bm om cap X Y hR5 hX (by rw [hS4.out] at hs5; omega) hl hc hnx5 (by rw [hS4.out] at hs5; omega) hm5.mod hD hpos
  go_fit hl2
  clear hl2
  rintro e w6 ⟨r2, rfl, n2, b6⟩
  have hm6 := hm5.below b6
  have hs6 := b6.size
  have n1' := n1.below b6
  have hnx6 := (b6.cell (p := ⟨w.heap.size + 1, 0, none⟩) (by show w.heap.size + 1 < _; rw [hS4.out] at hs5; omega)).trans hnx5
  have hone6 := hone5.below b6 (by rw [hS4.out] at hs5; omega)
  have hv1 : wv [1] = 1 := by simp [wv]
  rw [hv1] at n1'
  have q1 : NumR Y w6 r1 (1 % wv Y) := by unfold NumR; rw [mm]; exact n1'
  have q2 : NumR Y w6 r2 (wv X % wv Y) := by unfold NumR; rw [mm]; exact n2
  obtain ⟨bb1, oo1, ll1, cc1, rfl⟩ := q1.form
  obtain ⟨bb2, oo2, ll2, cc2, rfl⟩ := q2.form
  go_wp2_with fail
  have hr := raiseO_any w6 bb1 oo1 ll1 cc1 bb2 oo2 ll2 cc2 s hs (wv X) w.heap.size bm om cap (w.heap.size + 1 + 1) f Y q1 q2 hpos hodd HFC.out hf64 hm6
  go_fit hr
  clear hr
  rintro e w7 ⟨r3, rfl, n3, b7⟩
  have hm7 := hm6.below b7
  have hs7 := b7.size
  have hnx7 := (b7.cell (p := ⟨w.heap.size + 1, 0, none⟩) (by show w.heap.size + 1 < _; rw [hS4.out] at hs5; omega)).trans hnx6
  have hone7 := hone6.below b7 (by rw [hS4.out] at hs5; omega)
  go_wp2_with fail
  have hw := widen_any w7 (w.heap.size + 1 + 1 + 1) 0 1 Y.length [1] hone7 w1d (by rw [hS4.out] at hs5; omega) (by omega) (by simp; omega)
  go_fit hw
  clear hw
  rintro e w8 ⟨T, oT, lT, vT, b8, rfl⟩
  have hm8 := hm7.below b8
  have n3' := n3.below b8
  have HT := Lib.hid (And.intro lT vT); clear lT vT
  go_wp2_with fail
  have hlast := timesO_one w8 r3 _ _ 0 _ w.heap.size bm om cap (w.heap.size + 1 + 1) f T Y n3' oT.lt oT.row oT.wd HT.out.1 (Nat.le_refl _) (by rw [HT.out.2, hv1]) hm8 hodd HFC.out hf64
  go_fit hlast
  clear hlast
  rintro e w9 ⟨r4, rfl, n4, b9⟩
  go_wp2
  go_ret
  rw [Nat.mod_mod] at n4
  have z4 := hS4.out
  have s8 := b8.size
  refine ⟨_, rfl, n4, hB4.trans ((b5.mono (by omega)).trans ((b6.mono (by omega)).trans ((b7.mono (by omega)).trans ((b8.mono (by omega)).trans (b9.mono (by omega))))))⟩
end Go.Proofs.YtkpkifhjedlieaaGreatDoor
namespace Go.Proofs.YtkpkifhjedlieaaGreatDoor
open Go.RowKit NM
/-- what Pow answers -/
def PowV (a e m : ByteArray) : Value := if sv m = 0 then .tuple #[.string ⟨#[]⟩, .bool false] else .tuple #[.string (NB (sv a ^ sv e % sv m)), .bool true]
theorem number_O {n M x : Nat} {w : World} {v : Value} (h : NumO n M w v x) (hn : n ≤ 536870914) : Calls Tryz.prog 42 #[v] w fun e w' => e = .returned (.string (NB x)) ∧ Below w.heap.size w w' := by
  obtain ⟨b, o, c, Z, rfl, h2, h3, h4, h5, h6, h7, rfl⟩ := h
  have := number_any w b o c Z h3 h4 h2 (by omega) (by omega)
  rw [h5] at this
  exact this
theorem pow_words {w : World} {a : ByteArray} (ha : a.size ≤ 4294967296) : Calls Tryz.prog 39 #[.string a] w (WQ a w) := words_any w a (by omega)
def PowOQ (n M x : Nat) (w : World) (e : Ending) (w' : World) : Prop := ∃ r, e = .returned r ∧ NumO n M w' r x ∧ Below w.heap.size w w'
theorem gd_parity (Y : List Nat) (hY : Wd Y) : gd Y 0 % 2 = wv Y % 2 := by
  rw [← wv_mod Y hY]
  exact Nat.mod_mod_of_dvd _ ⟨9223372036854775808, rfl⟩
set_option maxRecDepth 100000 in
set_option maxHeartbeats 4000000 in
theorem Pow_odd (w : World) (a e m : ByteArray) (ha : a.size ≤ 4294967296) (he : e.size ≤ 4294967296) (hm : m.size ≤ 4294967296) (hD : DivS m) (hodd : sv m % 2 = 1) :
    Calls Tryz.prog 27 #[.string a, .string e, .string m] w fun e' w' => e' = .returned (PowV a e m) ∧ Below w.heap.size w w' := by
  go_enter Tryz.func27, Tryz.ntmps27
  go_wp2_with fail
  refine (words_any _ m (by omega)).mono ?_
  rintro e' w1 ⟨Y, oY, vY, tY, bY, lY, rfl⟩
  have lenY := words_len lY hm
  have hsv : wv Y = sv m := vY
  have h0 : sv m ≠ 0 := by omega
  have hD2 := hD.words oY.wd tY hsv h0
  have hY1 : 0 < Y.length := by
    cases Y with
    | nil => exact absurd hsv.symm h0
    | cons x l => simp
  have par : gd Y 0 % 2 = 1 := by rw [gd_parity Y oY.wd, hsv]; exact hodd
  have VY := Lib.hid (And.intro hsv (And.intro lY par)); clear vY lY hsv
  have hl0 : ((Y.length : Int) == 0) = false := beq_eq_false_iff_ne.2 (by omega)
  have hp1 : (((gd Y 0 : Nat) : Int) % 2 == 1) = true := beq_iff_eq.2 (by omega)
  have hc0 := oY.row.cell 0 hY1
  rw [Nat.zero_add] at hc0
  clear par
  have HD2 := Lib.hid hD2; clear hD2
  have hB2 : Below w1.heap.size w1 (w1.alloc (.cells #[.slice (some ⟨w.heap.size, 0, none⟩) Y.length Y.length] 53)) := (Below.refl _ w1).alloc (Nat.le_refl _) _
  have hbox : (w1.alloc (.cells #[.slice (some ⟨w.heap.size, 0, none⟩) Y.length Y.length] 53)).cell? ⟨w1.heap.size, 0, none⟩ = some (.slice (some ⟨w.heap.size, 0, none⟩) Y.length Y.length) := by
    rw [World.cell?_alloc_at _ _ _ _ rfl]; rfl
  have hs2 : (w1.alloc (.cells #[.slice (some ⟨w.heap.size, 0, none⟩) Y.length Y.length] 53)).heap.size = w1.heap.size + 1 := by simp
  have hrow2 := oY.row.below hB2 oY.lt
  have hlt := oY.lt
  go_wp2_with fail
  generalize w1.alloc (.cells #[.slice (some ⟨w.heap.size, 0, none⟩) Y.length Y.length] 53) = w2 at *
  have HS2 := Lib.hid hs2; clear hs2
  have ed : w2.drew.heap.size = w2.heap.size := rfl
  have HE := Lib.hid ed; clear ed
  go_region_held3 (fun w' => w'.cell? ⟨w1.heap.size, 0, none⟩ = some (.slice (some ⟨w.heap.size, 0, none⟩) Y.length Y.length)) (first | assumption | (simp [go_sem]; assumption))
    (first
      | (go_at_call 39; go_must (go_fit (pow_words (w := w2.drew) ha)); rintro e' w3 ⟨X, oX, vX, tX, bX, lX, rfl⟩; have hX := words_len lX ha; have VX := Lib.hid (And.intro vX lX); clear vX lX; have hbox3 := (bX.cell (p := ⟨w1.heap.size, 0, none⟩) (by show w1.heap.size < _; rw [HE.out, HS2.out]; omega)).trans hbox; have hrow3 := hrow2.drew.below bX (by rw [HE.out, HS2.out]; omega))
      | (go_at_call 57; go_must (go_fit (powOdd_any w3 _ 0 X.length w.heap.size 0 Y.length X Y e he oX.row oX.wd oX.lt (by omega) (Nat.le_refl _) hrow3 oY.wd tY (by have := bX.size; rw [HE.out, HS2.out] at this; omega) (by omega) (Nat.le_refl _) (by rw [VY.out.1]; exact hodd) HD2.out)); rintro e' w4 ⟨r, rfl, nr, b4⟩; have hbox4 := (b4.cell (p := ⟨w1.heap.size, 0, none⟩) (by show w1.heap.size < _; have := bX.size; rw [HE.out, HS2.out] at this; omega)).trans hbox3)
      | (go_at_call 42; go_must (go_fit (number_O nr (by omega))); rintro e' w5 ⟨rfl, b5⟩; have hbox5 := (b5.cell (p := ⟨w1.heap.size, 0, none⟩) (by show w1.heap.size < _; have := bX.size; rw [HE.out, HS2.out] at this; have := b4.size; omega)).trans hbox4))
  all_goals go_wp2
  all_goals go_ret2
  all_goals have z1 := bY.size
  all_goals have z2 := hB2.size
  all_goals have z3 := bX.size
  all_goals rw [HE.out] at z3
  all_goals have z4 := b4.size
  all_goals refine ⟨?_, bY.trans ((hB2.mono z1).trans ((((Below.refl _ w2).drew.trans bX).mono (by rw [HE.out]; omega)).trans ((b4.mono (by omega)).trans (b5.mono (by omega)))))⟩
  all_goals (unfold PowV; rw [if_neg h0]; have e1 := VX.out.1; have e2 := VY.out.1; rw [e1, e2]; rfl)
end Go.Proofs.YtkpkifhjedlieaaGreatDoor
namespace Go.Proofs.YtkpkifhjedlieaaGreatDoor
open Go.RowKit NM
theorem number_A {x : Nat} {w : World} {v : Value} (h : NumA w v x) : Calls Tryz.prog 42 #[v] w fun e w' => e = .returned (.string (NB x)) ∧ Below w.heap.size w w' := number_num w v x (.inl h)
theorem below_one (W : World) (t : Nat) : Below W.heap.size W (W.alloc (.cells #[.int .u64 1] t)) := (Below.refl _ W).alloc (Nat.le_refl _) _
theorem num_row {W : World} {b : Nat} (h : Row W b 0 [1]) (hb : b < W.heap.size) : NumA W (.slice (some ⟨b, 0, none⟩) 1 1) 1 :=
  ⟨b, 0, 1, [1], rfl, hb, h, fun x hx => by rw [List.mem_singleton.1 hx]; decide, by simp, by omega, by simp [Tr], by simp [wv]⟩
theorem num_one (W : World) (t : Nat) : NumA (W.alloc (.cells #[.int .u64 1] t)) (.slice (some ⟨W.heap.size, 0, none⟩) 1 1) 1 := by
  have hone := row_one W 1 t
  exact ⟨W.heap.size, 0, 1, [1], rfl, by simp, hone, fun x hx => by rw [List.mem_singleton.1 hx]; decide, by simp, by omega, by simp [Tr], by simp [wv]⟩
set_option maxRecDepth 100000 in
set_option maxHeartbeats 4000000 in
theorem Pow_even (w : World) (a e m : ByteArray) (ha : a.size ≤ 4294967296) (he : e.size ≤ 4294967296) (hm : m.size ≤ 4294967296) (hD : DivS m) (h0 : sv m ≠ 0) (hev : sv m % 2 = 0) :
    Calls Tryz.prog 27 #[.string a, .string e, .string m] w fun e' w' => e' = .returned (PowV a e m) ∧ Below w.heap.size w w' := by
  go_enter Tryz.func27, Tryz.ntmps27
  go_wp2_with fail
  refine (words_any _ m (by omega)).mono ?_
  rintro e' w1 ⟨Y, oY, vY, tY, bY, lY, rfl⟩
  have lenY := words_len lY hm
  have hsv : wv Y = sv m := vY
  have hD2 := hD.words oY.wd tY hsv h0
  have hY1 : 0 < Y.length := by
    cases Y with
    | nil => exact absurd hsv.symm h0
    | cons x l => simp
  have par : gd Y 0 % 2 = 0 := by rw [gd_parity Y oY.wd, hsv]; exact hev
  have VY := Lib.hid (And.intro hsv (And.intro lY par)); clear vY lY hsv
  have hl0 : ((Y.length : Int) == 0) = false := beq_eq_false_iff_ne.2 (by omega)
  have hp1 : (((gd Y 0 : Nat) : Int) % 2 == 1) = false := beq_eq_false_iff_ne.2 (by omega)
  have hc0 := oY.row.cell 0 hY1
  rw [Nat.zero_add] at hc0
  clear par
  have HD2 := Lib.hid hD2; clear hD2
  have HV := Lib.hid (And.intro h0 hev); clear h0 hev
  have hB2 : Below w1.heap.size w1 (w1.alloc (.cells #[.slice (some ⟨w.heap.size, 0, none⟩) Y.length Y.length] 53)) := (Below.refl _ w1).alloc (Nat.le_refl _) _
  have hbox : (w1.alloc (.cells #[.slice (some ⟨w.heap.size, 0, none⟩) Y.length Y.length] 53)).cell? ⟨w1.heap.size, 0, none⟩ = some (.slice (some ⟨w.heap.size, 0, none⟩) Y.length Y.length) := by
    rw [World.cell?_alloc_at _ _ _ _ rfl]; rfl
  have hs2 : (w1.alloc (.cells #[.slice (some ⟨w.heap.size, 0, none⟩) Y.length Y.length] 53)).heap.size = w1.heap.size + 1 := by simp
  have hrow2 := oY.row.below hB2 oY.lt
  have hlt := oY.lt
  go_wp2_with fail
  go_upto_region 7 with fail
  generalize w1.alloc (.cells #[.slice (some ⟨w.heap.size, 0, none⟩) Y.length Y.length] 53) = w2 at *
  have HS2 := Lib.hid hs2; clear hs2
  have hM : ∀ W, Below w2.heap.size w2 W → Modulus W w1.heap.size w.heap.size 0 Y.length Y := fun W hW =>
    ⟨(hW.cell (p := ⟨w1.heap.size, 0, none⟩) (by show w1.heap.size < _; rw [HS2.out]; omega)).trans hbox, hrow2.below hW (by rw [HS2.out]; omega), oY.wd, tY, by have := hW.size; rw [HS2.out] at this; omega, by have := hW.size; rw [HS2.out] at this; omega, by omega, Nat.le_refl _⟩
  have h1Y : 1 < wv Y := by have q1 := VY.out.1; have q2 := HV.out; omega
  have box : ∀ W, Below w2.heap.size w2 W → W.cell? ⟨w1.heap.size, 0, none⟩ = some (.slice (some ⟨w.heap.size, 0, none⟩) Y.length Y.length) := fun W hW => (hM W hW).box
  have hb3 := box _ (Below.refl _ w2)
  have A2 := below_one w2 69
  have one := fun W => num_one W 69
  have hA2 := box _ A2
  go_region_held3 (fun w' => w'.cell? ⟨w1.heap.size, 0, none⟩ = some (.slice (some ⟨w.heap.size, 0, none⟩) Y.length Y.length)) (first | assumption | (simp [go_sem]; assumption))
    (first
      | (go_at_call 39; go_must (go_fit (pow_words ha)); rintro e' w3 ⟨X, oX, vX, tX, bX, lX, rfl⟩; have hX := words_len lX ha; have VX := Lib.hid (And.intro vX lX); clear vX lX; go_must (have B3 : Below w2.heap.size w2 w3 := by first | exact A2.drew.trans (bX.mono (by show _ ≤ (w2.alloc _).heap.size; simp)) | exact (Below.refl _ w2).drew.trans bX); go_must (first | (have oX : Own (w2.heap.size + 1) w3 (w2.heap.size + 1) 0 X.length X := by simpa using oX) | (have oX : Own w2.heap.size w3 w2.heap.size 0 X.length X := oX)); have hbox3 := box _ B3; have A3 := below_one w3 69; have hA3 := box _ (B3.trans (A3.mono B3.size)))
      | (go_at_call 55; go_must (have hM4 := hM w3 B3); go_must (have hM4a := hM _ (B3.trans (A3.mono B3.size))); go_must (first | go_fit (rest_any w3 _ 0 X.length w.heap.size 0 Y.length X Y oX.row hM4.row oX.wd oY.wd tX tY oX.lt hM4.bm (by rw [HS2.out]; omega) (Nat.le_refl _) (Nat.le_refl _) (by omega) (by omega) HD2.out) | go_fit (rest_any (w3.alloc (.cells #[.int .u64 1] 69)) _ 0 X.length w.heap.size 0 Y.length X Y (oX.row.below A3 oX.lt) hM4a.row oX.wd oY.wd tX tY (Nat.lt_of_lt_of_le oX.lt A3.size) hM4a.bm (by rw [HS2.out]; omega) (Nat.le_refl _) (Nat.le_refl _) (by omega) (by omega) HD2.out)); rintro e' w4 ⟨r, rfl, nr, o4, _⟩; obtain ⟨br, or, lr, cr, rfl⟩ := nr.form; go_must (have b4 : Below w2.heap.size w2 w4 := by first | exact B3.trans (o4.below (by omega) B3.size) | exact (B3.trans (A3.mono B3.size)).trans (o4.below (by omega) (Nat.le_trans B3.size A3.size))); have hbox4 := box _ b4; have A4 := below_one w4 69; have hA4 := box _ (b4.trans (A4.mono b4.size)))
      | (go_at_call 59; go_must (have hM5 := hM w4 b4); go_must (have hM5a := hM _ (b4.trans (A4.mono b4.size)));
          go_must (first
            | (have rA : Row w3 w2.heap.size 0 [1] := (row_one w2 1 69).below ((Below.refl _ (w2.alloc (.cells #[.int .u64 1] 69))).drew.trans bX) (by simp)
               go_fit (raiseE_any w4 w2.heap.size 0 1 1 br or lr cr e he (wv X) w1.heap.size w.heap.size 0 Y.length Y (num_row (o4.row rA (by omega) (by have := oX.lt; omega)) (by have := oX.lt; have := o4.size; omega)) nr hM5 HD2.out h1Y))
            | (have rA : Row w4 w3.heap.size 0 [1] := o4.row (row_one w3 1 69) (by have := oX.lt; omega) (by simp)
               go_fit (raiseE_any w4 w3.heap.size 0 1 1 br or lr cr e he (wv X) w1.heap.size w.heap.size 0 Y.length Y (num_row rA (by have := o4.size; simp at this; omega)) nr hM5 HD2.out h1Y))
            | go_fit (raiseE_any (w4.alloc (.cells #[.int .u64 1] 69)) w4.heap.size 0 1 1 br or lr cr e he (wv X) w1.heap.size w.heap.size 0 Y.length Y (num_one w4 69) (nr.below A4) hM5a HD2.out h1Y));
          rintro e' w5 ⟨r5, rfl, nr5, b5⟩; obtain ⟨b6, o6, l6, c6, rfl⟩ := nr5.form; go_must (have B5 : Below w2.heap.size w2 w5 := by first | exact b4.trans (b5.mono b4.size) | exact (b4.trans (A4.mono b4.size)).trans (b5.mono (Nat.le_trans b4.size A4.size))); have hbox5 := box _ B5)
      | (go_at_call 42; go_must (go_fit (number_A nr5); rintro e' w6 ⟨rfl, b6⟩); have B6 := B5.trans (b6.mono B5.size); have hbox6 := box _ B6))
  all_goals go_wp2
  all_goals go_ret2
  all_goals refine ⟨?_, bY.trans ((hB2.trans (B6.mono (by rw [HS2.out]; omega))).mono bY.size)⟩
  all_goals (unfold PowV; rw [if_neg HV.out.1]; have e1 := VX.out.1; have e2 := VY.out.1; rw [e1, e2]; rfl)
end Go.Proofs.YtkpkifhjedlieaaGreatDoor
namespace Go.Proofs.YtkpkifhjedlieaaGreatDoor
open Go.RowKit NM
theorem words_zero {Y : List Nat} (tY : Tr Y) (h : wv Y = 0) : Y = [] := by
  exact (wv_zero_iff tY).1 h
set_option maxRecDepth 100000 in
set_option maxHeartbeats 2000000 in
theorem Pow_zero (w : World) (a e m : ByteArray) (hm : m.size ≤ 4294967296) (h0 : sv m = 0) :
    Calls Tryz.prog 27 #[.string a, .string e, .string m] w fun e' w' => e' = .returned (PowV a e m) ∧ Below w.heap.size w w' := by
  go_enter Tryz.func27, Tryz.ntmps27
  go_wp2_with fail
  refine (words_any _ m (by omega)).mono ?_
  rintro e' w1 ⟨Y, oY, vY, tY, bY, lY, rfl⟩
  obtain rfl := words_zero tY (Eq.trans vY h0)
  clear lY vY
  have hB2 : Below w1.heap.size w1 (w1.alloc (.cells #[.slice (some ⟨w.heap.size, 0, none⟩) ([] : List Nat).length ([] : List Nat).length] 53)) := (Below.refl _ w1).alloc (Nat.le_refl _) _
  go_wp2
  go_ret2
  refine ⟨by unfold PowV; rw [if_pos h0]; rfl, bY.trans (hB2.mono bY.size)⟩
theorem Pow_any (w : World) (a e m : ByteArray) (ha : a.size ≤ 4294967296) (he : e.size ≤ 4294967296) (hm : m.size ≤ 4294967296) (hD : DivS m) :
    Calls Tryz.prog 27 #[.string a, .string e, .string m] w fun e' w' => e' = .returned (PowV a e m) ∧ Below w.heap.size w w' := by
  by_cases h0 : sv m = 0
  · exact Pow_zero w a e m hm h0
  · by_cases h1 : sv m % 2 = 1
    · exact Pow_odd w a e m ha he hm hD h1
    · exact Pow_even w a e m ha he hm hD h0 (by omega)
end Go.Proofs.YtkpkifhjedlieaaGreatDoor
