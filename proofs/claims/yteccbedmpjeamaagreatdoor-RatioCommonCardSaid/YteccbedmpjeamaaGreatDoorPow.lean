/-
  The walk of the iterator over the binary digits of an exponent.
  The walk of the product modulo an even number, as nat.Pow makes it.
  The walk of nat.raise with the product modulo an even number.
  The walk of nat.factorOf: Newton's method for the number that makes -1 of an odd word.
  The walk of nat.montgomery: a product divided by a power of 2 to the power of 64, modulo an odd number.
  The walks of the two closures of nat.powOdd: the step into the form of Montgomery, and the product in it.
  The product in the form of Montgomery, and the walk of nat.raise with it.
  The walk of nat.powOdd.
  The walk of nat.Pow.
  The walk of nat.Pow for even moduli, and for all.
  nat.Pow for the modulus 0, and for all.
-/
import Derived.Test.YteccbedmpjeamaaGreatDoorTop
import Derived.RangeFuncNested
import Derived.RangeFuncBound
import Derived.RangeFuncCalls
import Derived.RangeFuncLeaves
import Derived.RangeFuncFrom
import Derived.Shelf.Abstract
import Derived.Shelf.RegionOpen
import Derived.OwnWalkIn
import Derived.TacticsInMore
import Derived.LoopNIn
import Derived.LoopIn
import Derived.Test.YteccbedmpjeamaaGreatDoorQuo2
import Derived.Deep.RegionHeld3
import Derived.Test.YteccbedmpjeamaaGreatDoorBase
import Derived.Test.YteccbedmpjeamaaGreatDoorProd
import Derived.Deep.RegionWith
import Derived.Deep.RegionLaw
import Derived.Deep.DeepFit
import Derived.Deep.DeepMust
namespace Go.Proofs.YteccbedmpjeamaaGreatDoor
open Go.RowKit NM Go.Shelf
attribute [local go_sem] Oper.semAt_some
/-- a number's value by its binary digits -/
def bval (l : List Bool) : Nat := l.foldl (fun n b => 2*n + b.toNat) 0
theorem bval_snoc (l : List Bool) (b : Bool) : bval (l ++ [b]) = 2 * bval l + b.toNat := by simp [bval]
/-- digit p of a number -/
def dig (N p : Nat) : Bool := decide (N / 2^p % 2 = 1)
theorem bval_step (N n k : Nat) (pre : List Bool) (hk : k < n) (h : bval pre = N / 2^(n-k)) : bval (pre ++ [dig N (n-1-k)]) = N / 2^(n-(k+1)) := by
  rw [bval_snoc, h]
  have e : n - k = (n-1-k) + 1 := by omega
  rw [e, Nat.pow_succ, ← Nat.div_div_eq_div_mul, show n - (k+1) = n-1-k by omega]
  unfold dig
  generalize N / 2^(n-1-k) = M
  by_cases hm : M % 2 = 1
  · simp [hm]; omega
  · simp [hm]; omega
/-- the byte that holds digit p -/
theorem byte_of (s : ByteArray) (q : Nat) (h : q < s.size) : ((s[s.size - 1 - q]'(by omega)).toNat) = byteAt (sv s) q := by
  have h1 := byte_at s (s.size - 1 - q) (by omega)
  generalize s[s.size - 1 - q]'(by omega) = x at h1
  unfold sv byteAt
  have hl : s.data.toList.length = s.size := len_size s
  generalize s.data.toList = l at h1 hl
  have hlt : s.size - 1 - q < l.length := by omega
  have e : l = l.take (s.size - 1 - q) ++ x :: l.drop (s.size - 1 - q + 1) := by
    rw [List.getElem?_eq_getElem hlt] at h1
    have h2 : l[s.size - 1 - q] = x := Option.some.inj h1
    rw [← h2, ← List.drop_eq_getElem_cons hlt, List.take_append_drop]
  rw [e, bv_append, bv_cons]
  have hd : (l.drop (s.size - 1 - q + 1)).length = q := by rw [List.length_drop]; omega
  have hy := bv_lt (l.drop (s.size - 1 - q + 1))
  rw [hd] at hy
  rw [List.length_cons, hd, Nat.pow_succ]
  have hx := x.toNat_lt
  have hp : 0 < 256^q := Nat.pow_pos (by omega)
  have key : ∀ A B C P : Nat, A * (P*256) + (B*P + C) = C + P*(A*256 + B) := by
    intro A B C P; rw [Nat.mul_add, Nat.mul_left_comm A P 256, Nat.mul_comm P B]; omega
  rw [key]
  rw [Nat.add_mul_div_left _ _ hp, Nat.div_eq_of_lt hy, Nat.zero_add]
  omega
theorem bit_of (N p : Nat) : byteAt N (p/8) / 2^(p%8) % 2 = N / 2^p % 2 := by
  unfold byteAt
  have hp : p = 8*(p/8) + p%8 := (Nat.div_add_mod p 8).symm
  conv => rhs; rw [hp, Nat.pow_add, ← Nat.div_div_eq_div_mul, Nat.pow_mul]
  rw [show (2:Nat)^8 = 256 from rfl]
  generalize N / 256^(p/8) = M
  have hr : p % 8 < 8 := Nat.mod_lt _ (by omega)
  rw [show (256:Nat) = 2^(p%8) * 2^(8 - p%8) by rw [← Nat.pow_add, show p%8 + (8 - p%8) = 8 by omega]]
  rw [Nat.mod_mul_right_div_self]
  apply Nat.mod_mod_of_dvd
  exact ⟨2^(7 - p%8), by rw [← Nat.pow_succ']; congr 1; omega⟩
theorem bl_size (s : ByteArray) : bl (sv s) ≤ 8 * s.size := by
  unfold bl
  by_cases h : sv s = 0
  · rw [if_pos h]; omega
  · rw [if_neg h]
    have h1 := Nat.log2_self_le h
    have h2 : sv s < 256^s.size := by have := bv_lt s.data.toList; rw [len_size] at this; exact this
    apply Nat.succ_le_of_lt
    rw [← Nat.pow_lt_pow_iff_right (by decide : 1 < 2), Nat.pow_mul]
    exact Nat.lt_of_le_of_lt h1 h2
theorem bit_walk (x N p : Nat) (hx : x < 256) (h : x = byteAt N (p/8)) : (bits BinOp.and IntKind.u8 ((x : Int) / 2^(p%8)) 1 == 1) = dig N p := by
  have e : ((x : Int) / 2^(p%8)) = ((x / 2^(p%8) : Nat) : Int) := by rw [Int.natCast_ediv, Int.natCast_pow]; rfl
  have hle := Nat.div_le_self x (2^(p%8))
  rw [e, show (1 : Int) = ((1 : Nat) : Int) from rfl, u8_and_nat _ _ (by omega) (by omega), Nat.and_one_is_mod]
  unfold dig
  rw [← bit_of N p, ← h]
  generalize x / 2^(p%8) = y
  by_cases hy : y % 2 = 1
  · rw [hy]; rfl
  · have : y % 2 = 0 := by omega
    rw [this]; rfl
/-- a variable holds what it held -/
def KeepBox (Be : Nat) (A B : World) : Prop := B.cell? ⟨Be, 0, none⟩ = A.cell? ⟨Be, 0, none⟩
end Go.Proofs.YteccbedmpjeamaaGreatDoor
namespace Go.Proofs.YteccbedmpjeamaaGreatDoor
open Go.RowKit NM
/-- a variable that closures share holds the modulus -/
structure Modulus (w : World) (Bm bm om cap : Nat) (Y : List Nat) : Prop where
  box : w.cell? ⟨Bm, 0, none⟩ = some (.slice (some ⟨bm, om, none⟩) Y.length cap)
  row : Row w bm om Y
  wd : Wd Y
  tr : Tr Y
  bm : bm < w.heap.size
  Bm : Bm < w.heap.size
  len : Y.length ≤ 536870914
  cap : Y.length ≤ cap
theorem Modulus.below {w w' : World} {Bm bm om cap : Nat} {Y : List Nat} (h : Modulus w Bm bm om cap Y) (hb : Below w.heap.size w w') : Modulus w' Bm bm om cap Y :=
  ⟨(hb.cell (p := ⟨Bm, 0, none⟩) h.Bm).trans h.box, h.row.below hb h.bm, h.wd, h.tr, Nat.lt_of_lt_of_le h.bm hb.size, Nat.lt_of_lt_of_le h.Bm hb.size, h.len, h.cap⟩
def TimesQ (z : Nat) (w : World) (e : Ending) (w' : World) : Prop := ∃ r, e = .returned r ∧ NumA w' r z ∧ Below w.heap.size w w'
end Go.Proofs.YteccbedmpjeamaaGreatDoor
namespace Go.Proofs.YteccbedmpjeamaaGreatDoor
open Go.RowKit NM Go.Shelf
attribute [local go_sem] Oper.semAt_some
theorem NumA.kept {A B : World} {row : Option Nat} {v : Value} {x : Nat} (h : NumA A v x) (hg : A.grownBy B row) (hr : ∀ r, row = some r → ∃ o : Obj, A.heap[r]? = some o ∧ o.isCells = false) : NumA B v x := by
  obtain ⟨b, o, cap, Z, h1, h2, h3, h4, h5, h6, h7, h8⟩ := h
  exact ⟨b, o, cap, Z, h1, Nat.lt_of_lt_of_le h2 hg.size, ⟨fun j hj => cell_kept (h3.cell j hj) hg hr, fun j hj => (frozen_kept (h3.cell j hj) hg hr).trans (h3.free j hj)⟩, h4, h5, h6, h7, h8⟩
theorem Modulus.kept {A B : World} {row : Option Nat} {Bm bm om cap : Nat} {Y : List Nat} (h : Modulus A Bm bm om cap Y) (hg : A.grownBy B row) (hr : ∀ r, row = some r → ∃ o : Obj, A.heap[r]? = some o ∧ o.isCells = false) : Modulus B Bm bm om cap Y :=
  ⟨cell_kept h.box hg hr, ⟨fun j hj => cell_kept (h.row.cell j hj) hg hr, fun j hj => (frozen_kept (h.row.cell j hj) hg hr).trans (h.row.free j hj)⟩, h.wd, h.tr, Nat.lt_of_lt_of_le h.bm hg.size, Nat.lt_of_lt_of_le h.Bm hg.size, h.len, h.cap⟩
theorem KeepsOthers.ofBelow {W W' : World} (h : Below W.heap.size W W') : KeepsOthers W W' :=
  ⟨h.size, fun k o ho _ => by rw [h.block k (Array.getElem?_eq_some_iff.1 ho).1]; exact ho⟩
theorem NumA.form {W : World} {v : Value} {x : Nat} (h : NumA W v x) : ∃ b o l c, v = .slice (some ⟨b, o, none⟩) l c := by
  obtain ⟨b, o, cap, Z, h1, _⟩ := h
  exact ⟨b, o, _, _, h1⟩
/-- what holds between two rounds: the power so far lies in its variable -/
structure RInv (h Bm bm om cap : Nat) (Y : List Nat) (base times : Value) (a z : Nat) (W : World) (v : Value) : Prop where
  pow : W.cell? ⟨h + 1 + 1, 0, none⟩ = some v
  free : W.frozen? ⟨h + 1 + 1, 0, none⟩ = false
  num : NumA W v z
  cbase : W.cell? ⟨h, 0, none⟩ = some base
  ctimes : W.cell? ⟨h + 1, 0, none⟩ = some times
  nbase : NumA W base (a % wv Y)
  mod : Modulus W Bm bm om cap Y
  lt : h + 1 + 1 + 1 < W.heap.size
theorem RInv.kept {h Bm bm om cap : Nat} {Y : List Nat} {base times : Value} {a z : Nat} {A B : World} {v : Value} {row : Option Nat} (i : RInv h Bm bm om cap Y base times a z A v)
    (hg : A.grownBy B row) (hr : ∀ r, row = some r → ∃ o : Obj, A.heap[r]? = some o ∧ o.isCells = false) : RInv h Bm bm om cap Y base times a z B v :=
  ⟨cell_kept i.pow hg hr, (frozen_kept i.pow hg hr).trans i.free, i.num.kept hg hr, cell_kept i.cbase hg hr, cell_kept i.ctimes hg hr, i.nbase.kept hg hr, i.mod.kept hg hr, Nat.lt_of_lt_of_le i.lt hg.size⟩
theorem keepBox_put {w : World} {Be : Nat} (hBe : Be < w.heap.size) (W : World) (l : Nat) (o o' : Obj) (hl : w.heap.size ≤ l) (_ : W.heap[l]? = some o) (_ : o.isCells = false) (_ : o.isWalk = false) : KeepBox Be W (W.putObj l o') :=
  World.cell?_of_block (World.putObj_heap_other (by show Be ≠ l; omega))
theorem NumA.setOther {W : World} {v : Value} {x : Nat} {p : Addr} {u u' : Value} (h : NumA W v x) (hp : W.cell? p = some u) (hu : ∀ n, u ≠ .int .u64 n) : NumA (W.setCell p u') v x := by
  obtain ⟨b, o, cap, Z, h1, h2, h3, h4, h5, h6, h7, h8⟩ := h
  refine ⟨b, o, cap, Z, h1, by simpa using h2, ⟨fun j hj => ?_, fun j hj => by rw [World.frozen?_setCell]; exact h3.free j hj⟩, h4, h5, h6, h7, h8⟩
  rw [World.cell?_setCell_other]
  · exact h3.cell j hj
  · intro e; have := h3.cell j hj; rw [← e, hp] at this; exact hu _ (Option.some.inj this)
theorem Modulus.setOther {W : World} {Bm bm om cap : Nat} {Y : List Nat} {p : Addr} {u u' : Value} (h : Modulus W Bm bm om cap Y) (hp : W.cell? p = some u) (hu : ∀ n, u ≠ .int .u64 n) (hne : p.block ≠ Bm) : Modulus (W.setCell p u') Bm bm om cap Y := by
  refine ⟨?_, ⟨fun j hj => ?_, fun j hj => by rw [World.frozen?_setCell]; exact h.row.free j hj⟩, h.wd, h.tr, by simpa using h.bm, by simpa using h.Bm, h.len, h.cap⟩
  · rw [World.cell?_setCell_other]
    · exact h.box
    · intro e; exact hne (by rw [e])
  · rw [World.cell?_setCell_other]
    · exact h.row.cell j hj
    · intro e; have := h.row.cell j hj; rw [← e, hp] at this; exact hu _ (Option.some.inj this)
theorem RInv.step {h Bm bm om cap : Nat} {Y : List Nat} {base times : Value} {a z z' : Nat} {W w1 : World} {v r : Value} (i : RInv h Bm bm om cap Y base times a z W v) (hB : Bm < h) (hv : ∀ n, v ≠ .int .u64 n)
    (hb : Below W.heap.size W w1) (hr : NumA w1 r z') : RInv h Bm bm om cap Y base times a z' (w1.setCell ⟨h + 1 + 1, 0, none⟩ r) r := by
  have hp : w1.cell? ⟨h + 1 + 1, 0, none⟩ = some v := (hb.cell (p := ⟨h + 1 + 1, 0, none⟩) (by have := i.lt; show h + 1 + 1 < _; omega)).trans i.pow
  have hlt := i.lt
  refine ⟨World.cell?_setCell_same _ _ _ hp, ?_, hr.setOther hp hv, ?_, ?_, (i.nbase.below hb).setOther hp hv, (i.mod.below hb).setOther hp hv (by show h + 1 + 1 ≠ Bm; omega), by simp only [World.size_setCell]; have := hb.size; omega⟩
  · rw [World.frozen?_setCell]; exact (hb.frozen (p := ⟨h + 1 + 1, 0, none⟩) (by show h + 1 + 1 < _; omega)).trans i.free
  · rw [World.cell?_setCell_other _ _ _ _ (by intro e; simp at e)]; exact (hb.cell (p := ⟨h, 0, none⟩) (by show h < _; omega)).trans i.cbase
  · rw [World.cell?_setCell_other _ _ _ _ (by intro e; simp at e)]; exact (hb.cell (p := ⟨h + 1, 0, none⟩) (by show h + 1 < _; omega)).trans i.ctimes
theorem pow_sq (a e M : Nat) : (a ^ e % M) * (a ^ e % M) % M = a ^ (2*e) % M := by
  rw [← Nat.mul_mod, ← Nat.pow_add]; congr 2; omega
theorem pow_one_more (a e M : Nat) : (a ^ (2*e) % M) * (a % M) % M = a ^ (2*e+1) % M := by
  rw [← Nat.mul_mod, Nat.pow_succ]
end Go.Proofs.YteccbedmpjeamaaGreatDoor
namespace Go.Proofs.YteccbedmpjeamaaGreatDoor
open Go.RowKit NM
theorem newton (odd v E : Int) (e d : Nat) (hE : E = IntKind.u64.wrap (v * IntKind.u64.wrap (2 - IntKind.u64.wrap (odd * v)))) (hd : d ≤ 64) (hd2 : d ≤ 2*e) (h : (2:Int)^e ∣ odd * v - 1) : (2:Int)^d ∣ odd * E - 1 := by
  obtain ⟨c, hc⟩ := h
  simp only [IntKind.wrap_u64] at hE
  have e64 : (18446744073709551616 : Int) = (2:Int)^d * (2:Int)^(64-d) := by
    rw [← Int.pow_add, show d + (64 - d) = 64 by omega]; rfl
  have ee : (2:Int)^(2*e) = (2:Int)^d * (2:Int)^(2*e-d) := by rw [← Int.pow_add, show d + (2*e-d) = 2*e by omega]
  have m1 := Int.emod_add_mul_ediv (odd * v) 18446744073709551616
  have m2 := Int.emod_add_mul_ediv (2 - odd * v % 18446744073709551616) 18446744073709551616
  have m3 := Int.emod_add_mul_ediv (v * ((2 - odd * v % 18446744073709551616) % 18446744073709551616)) 18446744073709551616
  rw [← hE] at m3
  generalize odd * v / 18446744073709551616 = q1 at m1
  generalize (2 - odd * v % 18446744073709551616) / 18446744073709551616 = q2 at m2
  generalize v * ((2 - odd * v % 18446744073709551616) % 18446744073709551616) / 18446744073709551616 = q3 at m3
  have k1 : odd * v % 18446744073709551616 = odd * v - 18446744073709551616 * q1 := by omega
  rw [k1] at m2 m3
  have k2 : (2 - (odd * v - 18446744073709551616 * q1)) % 18446744073709551616 = 2 - odd * v + 18446744073709551616 * q1 - 18446744073709551616 * q2 := by omega
  rw [k2] at m3
  have k3 : E = v * (2 - odd * v + 18446744073709551616 * q1 - 18446744073709551616 * q2) - 18446744073709551616 * q3 := by omega
  have ed : (2:Int)^e * (2:Int)^e = (2:Int)^d * (2:Int)^(2*e-d) := by rw [← Int.pow_add, ← ee]; congr 1; omega
  rw [e64] at k3
  generalize (2:Int)^d = A at *
  generalize (2:Int)^(64-d) = B at *
  generalize (2:Int)^(2*e-d) = C at *
  generalize (2:Int)^e = D at *
  have k4 : odd * E - 1 = A * (- (C * (c*c)) + B * (odd * v * (q1 - q2) - odd * q3)) := by
    clear m1 m2 m3 k1 k2 hE e64 ee
    grind
  exact ⟨_, k4⟩
/-- what factorOf answers: its product with the odd word is one less than a multiple of 2 to the power of 64 -/
def FacQ (odd : Nat) (w : World) (e : Ending) (w' : World) : Prop := ∃ f : Nat, f < 18446744073709551616 ∧ (odd * f + 1) % 18446744073709551616 = 0 ∧ e = .returned (.int .u64 (f : Nat)) ∧ w = w'
theorem odd_start (odd : Nat) (h : odd % 2 = 1) : (2:Int)^3 ∣ (odd : Int) * (odd : Int) - 1 := by
  obtain ⟨k, rfl⟩ : ∃ k, odd = 2*k+1 := ⟨odd/2, by omega⟩
  obtain ⟨j, hj⟩ : ∃ j : Nat, k * (k+1) = 2 * j := by
    rcases Nat.mod_two_eq_zero_or_one k with h0 | h0
    · exact ⟨k/2 * (k+1), by rw [← Nat.mul_assoc]; congr 1; omega⟩
    · exact ⟨k * ((k+1)/2), by rw [Nat.mul_left_comm]; congr 1; omega⟩
  have hj' : (k : Int) * ((k : Int) + 1) = 2 * (j : Int) := by have := congrArg (fun n : Nat => (n : Int)) hj; simpa using this
  refine ⟨(j : Int), ?_⟩
  have e : ((2*k+1 : Nat) : Int) = 2 * (k : Int) + 1 := by omega
  rw [e]
  generalize (k : Int) = x at *
  generalize (j : Int) = y at *
  grind
theorem fac_end (odd : Nat) (v : Int) (_h0 : 0 ≤ v) (h : (2:Int)^64 ∣ (odd : Int) * v - 1) : ∃ f : Nat, f < 18446744073709551616 ∧ (odd * f + 1) % 18446744073709551616 = 0 ∧ IntKind.u64.wrap (-v) = (f : Int) := by
  refine ⟨((-v) % 18446744073709551616).toNat, by omega, ?_, by rw [IntKind.wrap_u64]; omega⟩
  obtain ⟨c, hc⟩ := h
  have e64 : (2:Int)^64 = 18446744073709551616 := by decide
  rw [e64] at hc
  have m1 := Int.emod_add_mul_ediv (-v) 18446744073709551616
  have key : ((odd * ((-v) % 18446744073709551616).toNat + 1 : Nat) : Int) = 18446744073709551616 * (- c - odd * ((-v) / 18446744073709551616)) := by
    have e1 : ((((-v) % 18446744073709551616).toNat : Nat) : Int) = (-v) % 18446744073709551616 := by omega
    rw [Int.natCast_add, Int.natCast_mul, e1]
    generalize (-v) % 18446744073709551616 = r at *
    generalize (-v) / 18446744073709551616 = q at *
    generalize (odd : Int) = x at *
    clear e1 e64
    grind
  omega
end Go.Proofs.YteccbedmpjeamaaGreatDoor
namespace Go.Proofs.YteccbedmpjeamaaGreatDoor
open Go.RowKit NM
/-- after i rounds -/
structure MontI (n b : Nat) (w : World) (X Y M : List Nat) (k : Nat) (Z : List Nat) (wr : World) : Prop where
  at_ : At (2*n+1) b 0 w Z wr
  eqn : ∃ U, U < B64^k ∧ wv Z = wv X * wv (Y.take k) + wv M * U
  dvd : wv Z % B64^k = 0
theorem mont_low (z f m0 : Nat) (hf : (m0 * f + 1) % B64 = 0) : (z + (z * f % B64) * m0) % B64 = 0 := by
  have h1 : (z + (z * f % B64) * m0) % B64 = (z + (z * f) * m0) % B64 := by
    rw [Nat.add_mod, Nat.mul_mod, Nat.mod_mod, ← Nat.mul_mod, ← Nat.add_mod]
  rw [h1, show z + z * f * m0 = z * (m0 * f + 1) by rw [Nat.mul_add, Nat.mul_one, Nat.mul_assoc, Nat.mul_comm f]; omega, Nat.mul_mod, hf, Nat.mul_zero, Nat.zero_mod]
theorem wv_mod (M : List Nat) (hM : Wd M) : wv M % B64 = gd M 0 := by
  have := wv_digit M hM 0
  rw [Nat.pow_zero, Nat.div_one] at this
  exact this.symm
theorem mont_bound (n k V x m yk U : Nat) (hx : x < B64^n) (hm : m < B64^n) (hy : yk < B64^(k+1)) (hU : U < B64^(k+1)) (hk : k < n) (hV : V = x * yk + m * U) : V < B64^(2*n+1) := by
  have h1 : x * yk ≤ B64^n * B64^(k+1) := Nat.mul_le_mul (by omega) (by omega)
  have h2 : m * U ≤ B64^n * B64^(k+1) := Nat.mul_le_mul (by omega) (by omega)
  rw [← Nat.pow_add] at h1 h2
  have h3 : B64^(n+(k+1)) ≤ B64^(2*n) := Nat.pow_le_pow_right B64_pos (by omega)
  have h4 : B64^(2*n+1) = B64^(2*n) * B64 := Nat.pow_succ ..
  have h5 : B64^(2*n) * 3 ≤ B64^(2*n) * B64 := Nat.mul_le_mul_left _ (by decide)
  have h6 : 0 < B64^(2*n) := Nat.pow_pos B64_pos
  omega
theorem div_of_dvd {V k : Nat} (h : V % B64^k = 0) : V = B64^k * (V / B64^k) := by
  have := Nat.div_add_mod V (B64^k); omega
theorem MontI.first {n b : Nat} {w wr w' : World} {X Y M Z Z' : List Nat} {k : Nat} (h : MontI n b w X Y M k Z wr) (hk : k < n) (h' : At (Z.drop k).length b k wr Z' w') (hv : wv Z' = wv (Z.drop k) + gd Y k * wv X) (hy : Y.length = n) :
    At (2*n+1) b 0 w (Z.take k ++ Z') w' ∧ ∃ U, U < B64^k ∧ wv (Z.take k ++ Z') = wv X * wv (Y.take (k+1)) + wv M * U ∧ wv (Z.take k ++ Z') % B64^k = 0 := by
  have hl := h.at_.len
  refine ⟨h.at_.part (by omega) h', ?_⟩
  obtain ⟨U, hU, hE⟩ := h.eqn
  refine ⟨U, hU, ?_, ?_⟩
  · rw [wv_append, List.length_take, Nat.min_eq_left (by omega), hv, Nat.mul_add, wv_take_succ Y k (by omega), Nat.mul_add]
    have s := wv_split Z k (by omega)
    have e : B64^k * (gd Y k * wv X) = wv X * (B64^k * Y.getD k 0) := by
      show B64^k * (Y.getD k 0 * wv X) = _
      rw [← Nat.mul_assoc, Nat.mul_comm]
    rw [e]; omega
  · have s := wv_split Z k (by omega)
    have h1 := wv_lt (Z.take k) (Wd_take h.at_.wd k)
    rw [List.length_take, Nat.min_eq_left (by omega)] at h1
    have h0 : wv (Z.take k) = 0 := by
      have := h.dvd
      rw [s, Nat.add_mul_mod_self_left, Nat.mod_eq_of_lt h1] at this; exact this
    rw [wv_append, List.length_take, Nat.min_eq_left (by omega), h0, Nat.zero_add, Nat.mul_mod_right]
theorem MontI.second {n b : Nat} {w wr w' : World} {X Y M Z Z' : List Nat} {k U f : Nat} (h : At (2*n+1) b 0 w Z wr) (hU : U < B64^k) (hE : wv Z = wv X * wv (Y.take (k+1)) + wv M * U) (hdv : wv Z % B64^k = 0)
    (hk : k < n) (h' : At (Z.drop k).length b k wr Z' w') (hv : wv Z' = wv (Z.drop k) + (gd Z k * f % B64) * wv M) (hM : Wd M) (hf : (gd M 0 * f + 1) % B64 = 0) :
    MontI n b w X Y M (k+1) (Z.take k ++ Z') w' := by
  have hl := h.len
  have s := wv_split Z k (by omega)
  have h1 := wv_lt (Z.take k) (Wd_take h.wd k)
  rw [List.length_take, Nat.min_eq_left (by omega)] at h1
  have h0 : wv (Z.take k) = 0 := by
    rw [s, Nat.add_mul_mod_self_left, Nat.mod_eq_of_lt h1] at hdv; exact hdv
  have ev : wv (Z.take k ++ Z') = B64^k * wv Z' := by rw [wv_append, List.length_take, Nat.min_eq_left (by omega), h0, Nat.zero_add]
  refine ⟨h.part (by omega) h', ⟨U + B64^k * (gd Z k * f % B64), ?_, ?_⟩, ?_⟩
  · have h2 : gd Z k * f % B64 + 1 ≤ B64 := Nat.mod_lt _ B64_pos
    have h3 : B64^k * (gd Z k * f % B64 + 1) ≤ B64^k * B64 := Nat.mul_le_mul_left _ h2
    rw [Nat.pow_succ]; rw [Nat.mul_add] at h3; omega
  · rw [ev, hv, Nat.mul_add, Nat.mul_add, ← Nat.add_assoc, ← hE, Nat.mul_left_comm (wv M), Nat.mul_comm (wv M)]
    omega
  · rw [ev, Nat.pow_succ, Nat.mul_mod_mul_left]
    have : wv Z' % B64 = 0 := by
      rw [hv]
      have e1 : wv (Z.drop k) % B64 = gd Z k := by
        rw [wv_mod _ (Wd_drop h.wd k)]; unfold gd; simp [List.getElem?_drop]
      have e2 := wv_mod M hM
      rw [Nat.add_mod, e1, Nat.mul_mod, e2, Nat.mod_mod]
      have := mont_low (gd Z k) f (gd M 0) hf
      have hz : gd Z k % B64 = gd Z k := Nat.mod_eq_of_lt (gd_lt h.wd k)
      rw [Nat.add_mod, Nat.mul_mod, Nat.mod_mod, hz] at this
      have hm0 : gd M 0 % B64 = gd M 0 := Nat.mod_eq_of_lt (gd_lt hM 0)
      rw [hm0] at this
      exact this
    rw [this, Nat.mul_zero]
def MontQ (X Y M : List Nat) (w : World) (e : Ending) (w' : World) : Prop :=
  ∃ Z b o, e = .returned (.slice (some ⟨b, o, none⟩) M.length (M.length + 1)) ∧ b < w'.heap.size ∧ Row w' b o Z ∧ Wd Z ∧ Z.length = M.length ∧ wv Z < wv M ∧ wv Z * B64^M.length % wv M = wv X * wv Y % wv M ∧ Below w.heap.size w w'
theorem mont_end (X Y M Z : List Nat) (n U : Nat) (hx : wv X < wv M) (hy : wv Y < B64^n) (hM : Wd M) (hn : n = M.length) (hm0 : 0 < wv M) (_hZ : Z.length = 2*n+1) (hW : Wd Z) (hU : U < B64^n) (hE : wv Z = wv X * wv Y + wv M * U) (hd : wv Z % B64^n = 0) :
    wv (Z.drop n) * B64^n = wv X * wv Y + wv M * U ∧ wv (Z.drop n) < 2 * wv M := by
  have e := div_of_dvd hd
  have ed := drop_div Z hW n
  have h1 : wv (Z.drop n) * B64^n = wv X * wv Y + wv M * U := by rw [ed, Nat.mul_comm, ← e, hE]
  refine ⟨h1, ?_⟩
  have hml : wv M < B64^n := by rw [hn]; exact wv_lt M hM
  apply Nat.lt_of_mul_lt_mul_right (a := B64^n)
  rw [h1]
  have h2 : wv X * wv Y < wv M * B64^n := by
    have : wv X * wv Y ≤ wv M * wv Y := Nat.mul_le_mul_right _ (by omega)
    have : wv M * wv Y < wv M * B64^n := Nat.mul_lt_mul_of_pos_left (by omega) hm0
    omega
  have h3 : wv M * U < wv M * B64^n := Nat.mul_lt_mul_of_pos_left hU hm0
  rw [Nat.mul_assoc]; omega
/-- the highest word is 0 -/
theorem top_zero (T : List Nat) (k : Nat) (_hT : Wd T) (hl : T.length = k + 1) (h : wv T < B64^k) : wv (T.take k) = wv T ∧ gd T k = 0 := by
  have s := wv_split T k (by omega)
  rw [wv_drop_cons T k (by omega), List.drop_eq_nil_of_le (by omega)] at s
  simp only [wv, Nat.mul_zero, Nat.add_zero] at s
  have h0 : T.getD k 0 = 0 := by
    apply Classical.byContradiction; intro hne
    have : B64^k * 1 ≤ B64^k * T.getD k 0 := Nat.mul_le_mul_left _ (by omega)
    omega
  rw [h0] at s
  exact ⟨by omega, h0⟩
end Go.Proofs.YteccbedmpjeamaaGreatDoor
namespace Go.Proofs.YteccbedmpjeamaaGreatDoor
open Go.RowKit NM
/-- a row of n words, less than M -/
def NumO (n M : Nat) (W : World) (v : Value) (x : Nat) : Prop :=
  ∃ b o c Z, v = .slice (some ⟨b, o, none⟩) n c ∧ b < W.heap.size ∧ Row W b o Z ∧ Wd Z ∧ Z.length = n ∧ n ≤ c ∧ wv Z < M ∧ wv Z = x
theorem NumO.below {n M : Nat} {W W' : World} {v : Value} {x : Nat} (h : NumO n M W v x) (hb : Below W.heap.size W W') : NumO n M W' v x := by
  obtain ⟨b, o, c, Z, h1, h2, h3, h4, h5, h6, h7, h8⟩ := h
  exact ⟨b, o, c, Z, h1, Nat.lt_of_lt_of_le h2 hb.size, h3.below hb h2, h4, h5, h6, h7, h8⟩
def LiftQ (n M x : Nat) (w : World) (e : Ending) (w' : World) : Prop := ∃ r, e = .returned r ∧ NumO n M w' r (x * B64^n % M) ∧ Below w.heap.size w w'
theorem pow64 (n : Nat) : (2:Nat)^(64*n) = B64^n := by rw [Nat.pow_mul]; rfl
theorem lift_trim {B : Nat} {w1 : World} {b m n k : Nat} {X Z : List Nat} (o : Own B w1 b 0 m Z) (l : Z.length = m) (hm : m = X.length + n / 64 + 1) (hb : X.length + n/64 + 1 ≤ k) (hk : k ≤ 1099511627776) : Calls Tryz.prog 112 #[.slice (some ⟨b, 0, none⟩) m m] w1 (TrimQ Z b 0 m w1) := by
  have := trim_any w1 b 0 m Z o.row (by omega) (by omega)
  rwa [l] at this
theorem lift_rest {B : Nat} {w1 : World} {b m n j bm om cap Bm : Nat} {Z Y : List Nat} (o : Own B w1 b 0 m Z) (hj : j ≤ Z.length) (ht : Tr (Z.take j)) (hm : Modulus w1 Bm bm om cap Y) (hD : DivOK Y) (hn : n = Y.length) (hne : bm ≠ b) (hmb : m ≤ 274877906943) :
    Calls Tryz.prog 94 #[.slice (some ⟨b, 0, none⟩) j m, .slice (some ⟨bm, om, none⟩) n cap] w1 (RestQ (wv (Z.take j)) (wv Y) b 0 (0 + j) w1) := by
  have hl : (Z.take j).length = j := by rw [List.length_take]; omega
  have h := rest_any w1 b 0 m bm om cap (Z.take j) Y (o.row.take j) hm.row (Wd_take o.wd j) hm.wd ht hm.tr o.lt hm.bm hne (by have := o.cap; omega) hm.cap hmb (by have := hm.len; omega) hD
  rw [hl, ← hn] at h
  exact h
def WidenQ (n M x : Nat) (w : World) (e : Ending) (w' : World) : Prop := ∃ r, e = .returned r ∧ NumO n M w' r x ∧ Below w.heap.size w w'
theorem lift_widen {w2 : World} {r : Value} {x n : Nat} {Y : List Nat} (h : NumA w2 r x) (hx : x < wv Y) (hY : Wd Y) (hn : n = Y.length) (hnb : n ≤ 1099511627776) :
    Calls Tryz.prog 97 #[r, .int .i64 (n : Nat)] w2 (WidenQ n (wv Y) x w2) := by
  obtain ⟨b, o, cap, Z, rfl, h2, h3, h4, h5, h6, h7, rfl⟩ := h
  have hl := Tr_len_le hY h7 (Nat.le_of_lt hx)
  refine (widen_any w2 b o cap n Z h3 h4 h2 hnb (by omega)).mono ?_
  rintro e w' ⟨T, oT, lT, vT, bT, rfl⟩
  exact ⟨_, rfl, ⟨_, _, _, T, rfl, oT.lt, oT.row, oT.wd, lT, Nat.le_refl _, by rw [vT]; exact hx, vT⟩, bT⟩
end Go.Proofs.YteccbedmpjeamaaGreatDoor
namespace Go.Proofs.YteccbedmpjeamaaGreatDoor
open Go.RowKit NM Go.Shelf
attribute [local go_sem] Oper.semAt_some
/-- p in the form of Montgomery -/
def NumR (Y : List Nat) (W : World) (v : Value) (p : Nat) : Prop := NumO Y.length (wv Y) W v (p * B64^Y.length % wv Y)
theorem NumR.below {Y : List Nat} {W W' : World} {v : Value} {x : Nat} (h : NumR Y W v x) (hb : Below W.heap.size W W') : NumR Y W' v x := NumO.below h hb
theorem NumR.form {Y : List Nat} {W : World} {v : Value} {x : Nat} (h : NumR Y W v x) : ∃ b o l c, v = .slice (some ⟨b, o, none⟩) l c := by
  obtain ⟨b, o, c, Z, h1, _⟩ := h
  exact ⟨b, o, _, _, h1⟩
theorem NumR.kept {Y : List Nat} {A B : World} {row : Option Nat} {v : Value} {x : Nat} (h : NumR Y A v x) (hg : A.grownBy B row) (hr : ∀ r, row = some r → ∃ o : Obj, A.heap[r]? = some o ∧ o.isCells = false) : NumR Y B v x := by
  obtain ⟨b, o, c, Z, h1, h2, h3, h4, h5, h6, h7, h8⟩ := h
  exact ⟨b, o, c, Z, h1, Nat.lt_of_lt_of_le h2 hg.size, ⟨fun j hj => cell_kept (h3.cell j hj) hg hr, fun j hj => (frozen_kept (h3.cell j hj) hg hr).trans (h3.free j hj)⟩, h4, h5, h6, h7, h8⟩
theorem NumR.setOther {Y : List Nat} {W : World} {v : Value} {x : Nat} {p : Addr} {u u' : Value} (h : NumR Y W v x) (hp : W.cell? p = some u) (hu : ∀ n, u ≠ .int .u64 n) : NumR Y (W.setCell p u') v x := by
  obtain ⟨b, o, c, Z, h1, h2, h3, h4, h5, h6, h7, h8⟩ := h
  refine ⟨b, o, c, Z, h1, by simpa using h2, ⟨fun j hj => ?_, fun j hj => by rw [World.frozen?_setCell]; exact h3.free j hj⟩, h4, h5, h6, h7, h8⟩
  rw [World.cell?_setCell_other]
  · exact h3.cell j hj
  · intro e; have := h3.cell j hj; rw [← e, hp] at this; exact hu _ (Option.some.inj this)
/-- the modulus, and the number that makes -1 of its lowest word -/
structure ModF (w : World) (Bm bm om cap Bf f : Nat) (Y : List Nat) : Prop where
  mod : Modulus w Bm bm om cap Y
  fac : w.cell? ⟨Bf, 0, none⟩ = some (.int .u64 (f : Nat))
  Bf : Bf < w.heap.size
theorem ModF.below {w w' : World} {Bm bm om cap Bf f : Nat} {Y : List Nat} (h : ModF w Bm bm om cap Bf f Y) (hb : Below w.heap.size w w') : ModF w' Bm bm om cap Bf f Y :=
  ⟨h.mod.below hb, (hb.cell (p := ⟨Bf, 0, none⟩) h.Bf).trans h.fac, Nat.lt_of_lt_of_le h.Bf hb.size⟩
theorem ModF.kept {A B : World} {row : Option Nat} {Bm bm om cap Bf f : Nat} {Y : List Nat} (h : ModF A Bm bm om cap Bf f Y) (hg : A.grownBy B row) (hr : ∀ r, row = some r → ∃ o : Obj, A.heap[r]? = some o ∧ o.isCells = false) : ModF B Bm bm om cap Bf f Y :=
  ⟨h.mod.kept hg hr, cell_kept h.fac hg hr, Nat.lt_of_lt_of_le h.Bf hg.size⟩
theorem ModF.setOther {W : World} {Bm bm om cap Bf f : Nat} {Y : List Nat} {p : Addr} {u u' : Value} (h : ModF W Bm bm om cap Bf f Y) (hp : W.cell? p = some u) (hu : ∀ n, u ≠ .int .u64 n) (hne : p.block ≠ Bm) (hne2 : p.block ≠ Bf) : ModF (W.setCell p u') Bm bm om cap Bf f Y := by
  refine ⟨h.mod.setOther hp hu hne, ?_, by simpa using h.Bf⟩
  rw [World.cell?_setCell_other]
  · exact h.fac
  · intro e; exact hne2 (by rw [e])
theorem coprime_B (M n : Nat) (h : M % 2 = 1) : Nat.Coprime M (B64^n) := by
  have h2 : Nat.Coprime M 2 := by
    unfold Nat.Coprime
    rw [Nat.gcd_comm, Nat.gcd_rec, h]
    decide
  have : Nat.Coprime M B64 := by rw [show B64 = 2^64 from rfl]; exact Nat.Coprime.pow_right 64 h2
  exact Nat.Coprime.pow_right n this
theorem mod_cancel (M n z t : Nat) (h : M % 2 = 1) (hz : z < M) (ht : t < M) (he : z * B64^n % M = t * B64^n % M) : z = t := by
  have key : ∀ a b : Nat, a < M → b ≤ a → a * B64^n % M = b * B64^n % M → a = b := by
    intro a b ha hb e
    have h1 := Nat.sub_mod_eq_zero_of_mod_eq e
    rw [← Nat.sub_mul] at h1
    have h2 : M ∣ (a - b) * B64^n := Nat.dvd_of_mod_eq_zero h1
    have h3 := Nat.Coprime.dvd_of_dvd_mul_right (coprime_B M n h) h2
    have := Nat.eq_zero_of_dvd_of_lt h3 (by omega)
    omega
  rcases Nat.le_total t z with h1 | h1
  · exact key z t hz h1 he
  · exact (key t z ht h1 he.symm).symm
theorem mm (a b M : Nat) : (a % M) * b % M = a * b % M := by rw [Nat.mul_mod, Nat.mod_mod, ← Nat.mul_mod]
theorem mont_num (M n r p q : Nat) (h : M % 2 = 1) (hr : r < M) (he : r * B64^n % M = (p * B64^n % M) * (q * B64^n % M) % M) : r = (p * q % M) * B64^n % M := by
  have hM : 0 < M := by omega
  apply mod_cancel M n r _ h hr (Nat.mod_lt _ hM)
  rw [he, ← Nat.mul_mod]
  have e : p * B64^n * (q * B64^n) = (p * q) * B64^n * B64^n := by
    rw [Nat.mul_assoc, Nat.mul_assoc, Nat.mul_assoc, Nat.mul_left_comm (B64^n) q]
  rw [e]
  rw [mm, Nat.mul_assoc (p * q % M), mm, Nat.mul_assoc (p * q)]
def TimesR (Y : List Nat) (z : Nat) (w : World) (e : Ending) (w' : World) : Prop := ∃ r, e = .returned r ∧ NumR Y w' r z ∧ Below w.heap.size w w'
/-- what holds between two rounds: the power so far lies in its variable -/
structure RInvO (h Bm bm om cap Bf f : Nat) (Y : List Nat) (base times : Value) (a z : Nat) (W : World) (v : Value) : Prop where
  pow : W.cell? ⟨h + 1 + 1, 0, none⟩ = some v
  free : W.frozen? ⟨h + 1 + 1, 0, none⟩ = false
  num : NumR Y W v z
  cbase : W.cell? ⟨h, 0, none⟩ = some base
  ctimes : W.cell? ⟨h + 1, 0, none⟩ = some times
  nbase : NumR Y W base (a % wv Y)
  mod : ModF W Bm bm om cap Bf f Y
  lt : h + 1 + 1 + 1 < W.heap.size
theorem RInvO.kept {h Bm bm om cap Bf f : Nat} {Y : List Nat} {base times : Value} {a z : Nat} {A B : World} {v : Value} {row : Option Nat} (i : RInvO h Bm bm om cap Bf f Y base times a z A v)
    (hg : A.grownBy B row) (hr : ∀ r, row = some r → ∃ o : Obj, A.heap[r]? = some o ∧ o.isCells = false) : RInvO h Bm bm om cap Bf f Y base times a z B v :=
  ⟨cell_kept i.pow hg hr, (frozen_kept i.pow hg hr).trans i.free, i.num.kept hg hr, cell_kept i.cbase hg hr, cell_kept i.ctimes hg hr, i.nbase.kept hg hr, i.mod.kept hg hr, Nat.lt_of_lt_of_le i.lt hg.size⟩
theorem RInvO.step {h Bm bm om cap Bf f : Nat} {Y : List Nat} {base times : Value} {a z z' : Nat} {W w1 : World} {v r : Value} (i : RInvO h Bm bm om cap Bf f Y base times a z W v) (hB : Bm < h) (hBf : Bf < h) (hv : ∀ n, v ≠ .int .u64 n)
    (hb : Below W.heap.size W w1) (hr : NumR Y w1 r z') : RInvO h Bm bm om cap Bf f Y base times a z' (w1.setCell ⟨h + 1 + 1, 0, none⟩ r) r := by
  have hp : w1.cell? ⟨h + 1 + 1, 0, none⟩ = some v := (hb.cell (p := ⟨h + 1 + 1, 0, none⟩) (by have := i.lt; show h + 1 + 1 < _; omega)).trans i.pow
  have hlt := i.lt
  refine ⟨World.cell?_setCell_same _ _ _ hp, ?_, hr.setOther hp hv, ?_, ?_, (i.nbase.below hb).setOther hp hv, (i.mod.below hb).setOther hp hv (by show h + 1 + 1 ≠ Bm; omega) (by show h + 1 + 1 ≠ Bf; omega), by simp only [World.size_setCell]; have := hb.size; omega⟩
  · rw [World.frozen?_setCell]; exact (hb.frozen (p := ⟨h + 1 + 1, 0, none⟩) (by show h + 1 + 1 < _; omega)).trans i.free
  · rw [World.cell?_setCell_other _ _ _ _ (by intro e; simp at e)]; exact (hb.cell (p := ⟨h, 0, none⟩) (by show h < _; omega)).trans i.cbase
  · rw [World.cell?_setCell_other _ _ _ _ (by intro e; simp at e)]; exact (hb.cell (p := ⟨h + 1, 0, none⟩) (by show h + 1 < _; omega)).trans i.ctimes
end Go.Proofs.YteccbedmpjeamaaGreatDoor
namespace Go.Proofs.YteccbedmpjeamaaGreatDoor
open Go.RowKit NM
end Go.Proofs.YteccbedmpjeamaaGreatDoor
namespace Go.Proofs.YteccbedmpjeamaaGreatDoor
open Go.RowKit NM
/-- what Pow answers -/
def PowV (a e m : ByteArray) : Value := if sv m = 0 then .tuple #[.string ⟨#[]⟩, .bool false] else .tuple #[.string (NB (sv a ^ sv e % sv m)), .bool true]
theorem number_O {n M x : Nat} {w : World} {v : Value} (h : NumO n M w v x) (hn : n ≤ 536870914) : Calls Tryz.prog 86 #[v] w fun e w' => e = .returned (.string (NB x)) ∧ Below w.heap.size w w' := by
  obtain ⟨b, o, c, Z, rfl, h2, h3, h4, h5, h6, h7, rfl⟩ := h
  have := number_any w b o c Z h3 h4 h2 (by omega) (by omega)
  rw [h5] at this
  exact this
theorem pow_words {w : World} {a : ByteArray} (ha : a.size ≤ 4294967296) : Calls Tryz.prog 85 #[.string a] w (WQ a w) := words_any w a (by omega)
def PowOQ (n M x : Nat) (w : World) (e : Ending) (w' : World) : Prop := ∃ r, e = .returned r ∧ NumO n M w' r x ∧ Below w.heap.size w w'
theorem gd_parity (Y : List Nat) (hY : Wd Y) : gd Y 0 % 2 = wv Y % 2 := by
  rw [← wv_mod Y hY]
  exact Nat.mod_mod_of_dvd _ ⟨9223372036854775808, rfl⟩
end Go.Proofs.YteccbedmpjeamaaGreatDoor
namespace Go.Proofs.YteccbedmpjeamaaGreatDoor
open Go.RowKit NM
theorem number_A {x : Nat} {w : World} {v : Value} (h : NumA w v x) : Calls Tryz.prog 86 #[v] w fun e w' => e = .returned (.string (NB x)) ∧ Below w.heap.size w w' := number_num w v x (.inl h)
theorem below_one (W : World) (t : Nat) : Below W.heap.size W (W.alloc (.cells #[.int .u64 1] t)) := (Below.refl _ W).alloc (Nat.le_refl _) _
theorem num_row {W : World} {b : Nat} (h : Row W b 0 [1]) (hb : b < W.heap.size) : NumA W (.slice (some ⟨b, 0, none⟩) 1 1) 1 :=
  ⟨b, 0, 1, [1], rfl, hb, h, fun x hx => by rw [List.mem_singleton.1 hx]; decide, by simp, by omega, by simp [Tr], by simp [wv]⟩
theorem num_one (W : World) (t : Nat) : NumA (W.alloc (.cells #[.int .u64 1] t)) (.slice (some ⟨W.heap.size, 0, none⟩) 1 1) 1 := by
  have hone := row_one W 1 t
  exact ⟨W.heap.size, 0, 1, [1], rfl, by simp, hone, fun x hx => by rw [List.mem_singleton.1 hx]; decide, by simp, by omega, by simp [Tr], by simp [wv]⟩
end Go.Proofs.YteccbedmpjeamaaGreatDoor
namespace Go.Proofs.YteccbedmpjeamaaGreatDoor
open Go.RowKit NM
theorem words_zero {Y : List Nat} (tY : Tr Y) (h : wv Y = 0) : Y = [] := by
  exact (wv_zero_iff tY).1 h
end Go.Proofs.YteccbedmpjeamaaGreatDoor
