/-
  The walks of the two closures of nat.powOdd: the step into the form of Montgomery, and the product in it.
  The product in the form of Montgomery, and the walk of nat.raise with it.
  The walk of nat.powOdd.
  The walk of nat.Pow.
  The walk of nat.Pow for even moduli, and for all.
  nat.Pow for the modulus 0, and for all.
-/
import Derived.Test.YteccbedmpjeamaaGreatDoorPowE
import Derived.Test.YteccbedmpjeamaaGreatDoorQuo2
import Derived.Test.YteccbedmpjeamaaGreatDoorProd
import Derived.Deep.DeepFit
import Derived.Deep.DeepMust
namespace Go.Proofs.YteccbedmpjeamaaGreatDoor
open Go.RowKit NM
/-- a row of n words, less than M -/
def NumO (n M : Nat) (W : World) (v : Value) (x : Nat) : Prop :=
  ∃ b o c Z, v = .slice (some ⟨b, o, none⟩) n c ∧ b < W.heap.size ∧ Row W b o Z ∧ Wd Z ∧ Z.length = n ∧ n ≤ c ∧ wv Z < M ∧ wv Z = x
theorem NumO.below {n M : Nat} {W W' : World} {v : Value} {x : Nat} (h : NumO n M W v x) (hb : Below W.heap.size W W') : NumO n M W' v x := by
  obtain ⟨b, o, c, Z, h1, h2, h3, h4, h5, h6, h7, h8⟩ := h
  exact ⟨b, o, c, Z, h1, Nat.lt_of_lt_of_le h2 hb.size, h3.below hb h2, h4, h5, h6, h7, h8⟩
def LiftQ (n M x : Nat) (w : World) (e : Ending) (w' : World) : Prop := ∃ r, e = .returned r ∧ NumO n M w' r (x * B64^n % M) ∧ Below w.heap.size w w'
theorem pow64 (n : Nat) : (2:Nat)^(64*n) = B64^n := by rw [Nat.pow_mul]; rfl
theorem lift_trim {B : Nat} {w1 : World} {b m n k : Nat} {X Z : List Nat} (o : Own B w1 b 0 m Z) (l : Z.length = m) (hm : m = X.length + n / 64 + 1) (hb : X.length + n/64 + 1 ≤ k) (hk : k ≤ 1099511627776) : Calls Tryz.prog 112 #[.slice (some ⟨b, 0, none⟩) m m] w1 (TrimQ Z b 0 m w1) := by
  have := trim_any w1 b 0 m Z o.row (by omega) (by omega)
  rwa [l] at this
theorem lift_rest {B : Nat} {w1 : World} {b m n j bm om cap Bm : Nat} {Z Y : List Nat} (o : Own B w1 b 0 m Z) (hj : j ≤ Z.length) (ht : Tr (Z.take j)) (hm : Modulus w1 Bm bm om cap Y) (hD : DivOK Y) (hn : n = Y.length) (hne : bm ≠ b) (hmb : m ≤ 274877906943) :
    Calls Tryz.prog 94 #[.slice (some ⟨b, 0, none⟩) j m, .slice (some ⟨bm, om, none⟩) n cap] w1 (RestQ (wv (Z.take j)) (wv Y) b 0 (0 + j) w1) := by
  have hl : (Z.take j).length = j := by rw [List.length_take]; omega
  have h := rest_any w1 b 0 m bm om cap (Z.take j) Y (o.row.take j) hm.row (Wd_take o.wd j) hm.wd ht hm.tr o.lt hm.bm hne (by have := o.cap; omega) hm.cap hmb (by have := hm.len; omega) hD
  rw [hl, ← hn] at h
  exact h
def WidenQ (n M x : Nat) (w : World) (e : Ending) (w' : World) : Prop := ∃ r, e = .returned r ∧ NumO n M w' r x ∧ Below w.heap.size w w'
theorem lift_widen {w2 : World} {r : Value} {x n : Nat} {Y : List Nat} (h : NumA w2 r x) (hx : x < wv Y) (hY : Wd Y) (hn : n = Y.length) (hnb : n ≤ 1099511627776) :
    Calls Tryz.prog 97 #[r, .int .i64 (n : Nat)] w2 (WidenQ n (wv Y) x w2) := by
  obtain ⟨b, o, cap, Z, rfl, h2, h3, h4, h5, h6, h7, rfl⟩ := h
  have hl := Tr_len_le hY h7 (Nat.le_of_lt hx)
  refine (widen_any w2 b o cap n Z h3 h4 h2 hnb (by omega)).mono ?_
  rintro e w' ⟨T, oT, lT, vT, bT, rfl⟩
  exact ⟨_, rfl, ⟨_, _, _, T, rfl, oT.lt, oT.row, oT.wd, lT, Nat.le_refl _, by rw [vT]; exact hx, vT⟩, bT⟩
end Go.Proofs.YteccbedmpjeamaaGreatDoor
namespace Go.Proofs.YteccbedmpjeamaaGreatDoor
open Go.RowKit NM Go.Shelf
attribute [local go_sem] Oper.semAt_some
/-- p in the form of Montgomery -/
def NumR (Y : List Nat) (W : World) (v : Value) (p : Nat) : Prop := NumO Y.length (wv Y) W v (p * B64^Y.length % wv Y)
theorem NumR.below {Y : List Nat} {W W' : World} {v : Value} {x : Nat} (h : NumR Y W v x) (hb : Below W.heap.size W W') : NumR Y W' v x := NumO.below h hb
theorem NumR.form {Y : List Nat} {W : World} {v : Value} {x : Nat} (h : NumR Y W v x) : ∃ b o l c, v = .slice (some ⟨b, o, none⟩) l c := by
  obtain ⟨b, o, c, Z, h1, _⟩ := h
  exact ⟨b, o, _, _, h1⟩
theorem NumR.kept {Y : List Nat} {A B : World} {row : Option Nat} {v : Value} {x : Nat} (h : NumR Y A v x) (hg : A.grownBy B row) (hr : ∀ r, row = some r → ∃ o : Obj, A.heap[r]? = some o ∧ o.isCells = false) : NumR Y B v x := by
  obtain ⟨b, o, c, Z, h1, h2, h3, h4, h5, h6, h7, h8⟩ := h
  exact ⟨b, o, c, Z, h1, Nat.lt_of_lt_of_le h2 hg.size, ⟨fun j hj => cell_kept (h3.cell j hj) hg hr, fun j hj => (frozen_kept (h3.cell j hj) hg hr).trans (h3.free j hj)⟩, h4, h5, h6, h7, h8⟩
theorem NumR.setOther {Y : List Nat} {W : World} {v : Value} {x : Nat} {p : Addr} {u u' : Value} (h : NumR Y W v x) (hp : W.cell? p = some u) (hu : ∀ n, u ≠ .int .u64 n) : NumR Y (W.setCell p u') v x := by
  obtain ⟨b, o, c, Z, h1, h2, h3, h4, h5, h6, h7, h8⟩ := h
  refine ⟨b, o, c, Z, h1, by simpa using h2, ⟨fun j hj => ?_, fun j hj => by rw [World.frozen?_setCell]; exact h3.free j hj⟩, h4, h5, h6, h7, h8⟩
  rw [World.cell?_setCell_other]
  · exact h3.cell j hj
  · intro e; have := h3.cell j hj; rw [← e, hp] at this; exact hu _ (Option.some.inj this)
/-- the modulus, and the number that makes -1 of its lowest word -/
structure ModF (w : World) (Bm bm om cap Bf f : Nat) (Y : List Nat) : Prop where
  mod : Modulus w Bm bm om cap Y
  fac : w.cell? ⟨Bf, 0, none⟩ = some (.int .u64 (f : Nat))
  Bf : Bf < w.heap.size
theorem ModF.below {w w' : World} {Bm bm om cap Bf f : Nat} {Y : List Nat} (h : ModF w Bm bm om cap Bf f Y) (hb : Below w.heap.size w w') : ModF w' Bm bm om cap Bf f Y :=
  ⟨h.mod.below hb, (hb.cell (p := ⟨Bf, 0, none⟩) h.Bf).trans h.fac, Nat.lt_of_lt_of_le h.Bf hb.size⟩
theorem ModF.kept {A B : World} {row : Option Nat} {Bm bm om cap Bf f : Nat} {Y : List Nat} (h : ModF A Bm bm om cap Bf f Y) (hg : A.grownBy B row) (hr : ∀ r, row = some r → ∃ o : Obj, A.heap[r]? = some o ∧ o.isCells = false) : ModF B Bm bm om cap Bf f Y :=
  ⟨h.mod.kept hg hr, cell_kept h.fac hg hr, Nat.lt_of_lt_of_le h.Bf hg.size⟩
theorem ModF.setOther {W : World} {Bm bm om cap Bf f : Nat} {Y : List Nat} {p : Addr} {u u' : Value} (h : ModF W Bm bm om cap Bf f Y) (hp : W.cell? p = some u) (hu : ∀ n, u ≠ .int .u64 n) (hne : p.block ≠ Bm) (hne2 : p.block ≠ Bf) : ModF (W.setCell p u') Bm bm om cap Bf f Y := by
  refine ⟨h.mod.setOther hp hu hne, ?_, by simpa using h.Bf⟩
  rw [World.cell?_setCell_other]
  · exact h.fac
  · intro e; exact hne2 (by rw [e])
theorem coprime_B (M n : Nat) (h : M % 2 = 1) : Nat.Coprime M (B64^n) := by
  have h2 : Nat.Coprime M 2 := by
    unfold Nat.Coprime
    rw [Nat.gcd_comm, Nat.gcd_rec, h]
    decide
  have : Nat.Coprime M B64 := by rw [show B64 = 2^64 from rfl]; exact Nat.Coprime.pow_right 64 h2
  exact Nat.Coprime.pow_right n this
theorem mod_cancel (M n z t : Nat) (h : M % 2 = 1) (hz : z < M) (ht : t < M) (he : z * B64^n % M = t * B64^n % M) : z = t := by
  have key : ∀ a b : Nat, a < M → b ≤ a → a * B64^n % M = b * B64^n % M → a = b := by
    intro a b ha hb e
    have h1 := Nat.sub_mod_eq_zero_of_mod_eq e
    rw [← Nat.sub_mul] at h1
    have h2 : M ∣ (a - b) * B64^n := Nat.dvd_of_mod_eq_zero h1
    have h3 := Nat.Coprime.dvd_of_dvd_mul_right (coprime_B M n h) h2
    have := Nat.eq_zero_of_dvd_of_lt h3 (by omega)
    omega
  rcases Nat.le_total t z with h1 | h1
  · exact key z t hz h1 he
  · exact (key t z ht h1 he.symm).symm
theorem mm (a b M : Nat) : (a % M) * b % M = a * b % M := by rw [Nat.mul_mod, Nat.mod_mod, ← Nat.mul_mod]
theorem mont_num (M n r p q : Nat) (h : M % 2 = 1) (hr : r < M) (he : r * B64^n % M = (p * B64^n % M) * (q * B64^n % M) % M) : r = (p * q % M) * B64^n % M := by
  have hM : 0 < M := by omega
  apply mod_cancel M n r _ h hr (Nat.mod_lt _ hM)
  rw [he, ← Nat.mul_mod]
  have e : p * B64^n * (q * B64^n) = (p * q) * B64^n * B64^n := by
    rw [Nat.mul_assoc, Nat.mul_assoc, Nat.mul_assoc, Nat.mul_left_comm (B64^n) q]
  rw [e]
  rw [mm, Nat.mul_assoc (p * q % M), mm, Nat.mul_assoc (p * q)]
def TimesR (Y : List Nat) (z : Nat) (w : World) (e : Ending) (w' : World) : Prop := ∃ r, e = .returned r ∧ NumR Y w' r z ∧ Below w.heap.size w w'
/-- what holds between two rounds: the power so far lies in its variable -/
structure RInvO (h Bm bm om cap Bf f : Nat) (Y : List Nat) (base times : Value) (a z : Nat) (W : World) (v : Value) : Prop where
  pow : W.cell? ⟨h + 1 + 1, 0, none⟩ = some v
  free : W.frozen? ⟨h + 1 + 1, 0, none⟩ = false
  num : NumR Y W v z
  cbase : W.cell? ⟨h, 0, none⟩ = some base
  ctimes : W.cell? ⟨h + 1, 0, none⟩ = some times
  nbase : NumR Y W base (a % wv Y)
  mod : ModF W Bm bm om cap Bf f Y
  lt : h + 1 + 1 + 1 < W.heap.size
theorem RInvO.kept {h Bm bm om cap Bf f : Nat} {Y : List Nat} {base times : Value} {a z : Nat} {A B : World} {v : Value} {row : Option Nat} (i : RInvO h Bm bm om cap Bf f Y base times a z A v)
    (hg : A.grownBy B row) (hr : ∀ r, row = some r → ∃ o : Obj, A.heap[r]? = some o ∧ o.isCells = false) : RInvO h Bm bm om cap Bf f Y base times a z B v :=
  ⟨cell_kept i.pow hg hr, (frozen_kept i.pow hg hr).trans i.free, i.num.kept hg hr, cell_kept i.cbase hg hr, cell_kept i.ctimes hg hr, i.nbase.kept hg hr, i.mod.kept hg hr, Nat.lt_of_lt_of_le i.lt hg.size⟩
theorem RInvO.step {h Bm bm om cap Bf f : Nat} {Y : List Nat} {base times : Value} {a z z' : Nat} {W w1 : World} {v r : Value} (i : RInvO h Bm bm om cap Bf f Y base times a z W v) (hB : Bm < h) (hBf : Bf < h) (hv : ∀ n, v ≠ .int .u64 n)
    (hb : Below W.heap.size W w1) (hr : NumR Y w1 r z') : RInvO h Bm bm om cap Bf f Y base times a z' (w1.setCell ⟨h + 1 + 1, 0, none⟩ r) r := by
  have hp : w1.cell? ⟨h + 1 + 1, 0, none⟩ = some v := (hb.cell (p := ⟨h + 1 + 1, 0, none⟩) (by have := i.lt; show h + 1 + 1 < _; omega)).trans i.pow
  have hlt := i.lt
  refine ⟨World.cell?_setCell_same _ _ _ hp, ?_, hr.setOther hp hv, ?_, ?_, (i.nbase.below hb).setOther hp hv, (i.mod.below hb).setOther hp hv (by show h + 1 + 1 ≠ Bm; omega) (by show h + 1 + 1 ≠ Bf; omega), by simp only [World.size_setCell]; have := hb.size; omega⟩
  · rw [World.frozen?_setCell]; exact (hb.frozen (p := ⟨h + 1 + 1, 0, none⟩) (by show h + 1 + 1 < _; omega)).trans i.free
  · rw [World.cell?_setCell_other _ _ _ _ (by intro e; simp at e)]; exact (hb.cell (p := ⟨h, 0, none⟩) (by show h < _; omega)).trans i.cbase
  · rw [World.cell?_setCell_other _ _ _ _ (by intro e; simp at e)]; exact (hb.cell (p := ⟨h + 1, 0, none⟩) (by show h + 1 < _; omega)).trans i.ctimes
end Go.Proofs.YteccbedmpjeamaaGreatDoor
namespace Go.Proofs.YteccbedmpjeamaaGreatDoor
open Go.RowKit NM
end Go.Proofs.YteccbedmpjeamaaGreatDoor
namespace Go.Proofs.YteccbedmpjeamaaGreatDoor
open Go.RowKit NM
/-- what Pow answers -/
def PowV (a e m : ByteArray) : Value := if sv m = 0 then .tuple #[.string ⟨#[]⟩, .bool false] else .tuple #[.string (NB (sv a ^ sv e % sv m)), .bool true]
theorem number_O {n M x : Nat} {w : World} {v : Value} (h : NumO n M w v x) (hn : n ≤ 536870914) : Calls Tryz.prog 86 #[v] w fun e w' => e = .returned (.string (NB x)) ∧ Below w.heap.size w w' := by
  obtain ⟨b, o, c, Z, rfl, h2, h3, h4, h5, h6, h7, rfl⟩ := h
  have := number_any w b o c Z h3 h4 h2 (by omega) (by omega)
  rw [h5] at this
  exact this
theorem pow_words {w : World} {a : ByteArray} (ha : a.size ≤ 4294967296) : Calls Tryz.prog 85 #[.string a] w (WQ a w) := words_any w a (by omega)
def PowOQ (n M x : Nat) (w : World) (e : Ending) (w' : World) : Prop := ∃ r, e = .returned r ∧ NumO n M w' r x ∧ Below w.heap.size w w'
theorem gd_parity (Y : List Nat) (hY : Wd Y) : gd Y 0 % 2 = wv Y % 2 := by
  rw [← wv_mod Y hY]
  exact Nat.mod_mod_of_dvd _ ⟨9223372036854775808, rfl⟩
end Go.Proofs.YteccbedmpjeamaaGreatDoor
namespace Go.Proofs.YteccbedmpjeamaaGreatDoor
open Go.RowKit NM
theorem number_A {x : Nat} {w : World} {v : Value} (h : NumA w v x) : Calls Tryz.prog 86 #[v] w fun e w' => e = .returned (.string (NB x)) ∧ Below w.heap.size w w' := number_num w v x (.inl h)
theorem below_one (W : World) (t : Nat) : Below W.heap.size W (W.alloc (.cells #[.int .u64 1] t)) := (Below.refl _ W).alloc (Nat.le_refl _) _
theorem num_row {W : World} {b : Nat} (h : Row W b 0 [1]) (hb : b < W.heap.size) : NumA W (.slice (some ⟨b, 0, none⟩) 1 1) 1 :=
  ⟨b, 0, 1, [1], rfl, hb, h, fun x hx => by rw [List.mem_singleton.1 hx]; decide, by simp, by omega, by simp [Tr], by simp [wv]⟩
theorem num_one (W : World) (t : Nat) : NumA (W.alloc (.cells #[.int .u64 1] t)) (.slice (some ⟨W.heap.size, 0, none⟩) 1 1) 1 := by
  have hone := row_one W 1 t
  exact ⟨W.heap.size, 0, 1, [1], rfl, by simp, hone, fun x hx => by rw [List.mem_singleton.1 hx]; decide, by simp, by omega, by simp [Tr], by simp [wv]⟩
end Go.Proofs.YteccbedmpjeamaaGreatDoor
namespace Go.Proofs.YteccbedmpjeamaaGreatDoor
open Go.RowKit NM
theorem words_zero {Y : List Nat} (tY : Tr Y) (h : wv Y = 0) : Y = [] := by
  exact (wv_zero_iff tY).1 h
end Go.Proofs.YteccbedmpjeamaaGreatDoor
