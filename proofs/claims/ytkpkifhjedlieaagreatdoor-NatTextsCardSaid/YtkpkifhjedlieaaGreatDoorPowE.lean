/-
  The walk of the iterator over the binary digits of an exponent.
  The walk of the product modulo an even number, as nat.Pow makes it.
  The walk of nat.raise with the product modulo an even number.
  The walk of nat.factorOf: Newton's method for the number that makes -1 of an odd word.
  The walk of nat.montgomery: a product divided by a power of 2 to the power of 64, modulo an odd number.
-/
import Derived.Test.YtkpkifhjedlieaaGreatDoorTop
import Derived.RangeFuncNested
import Derived.RangeFuncBound
import Derived.RangeFuncCalls
import Derived.RangeFuncLeaves
import Derived.RangeFuncFrom
import Derived.Shelf.Abstract
import Derived.Shelf.RegionOpen
import Derived.OwnWalkIn
import Derived.TacticsInMore
import Derived.LoopNIn
import Derived.LoopIn
import Derived.Test.YtkpkifhjedlieaaGreatDoorQuo2
import Derived.Deep.RegionHeld3
import Derived.Test.YtkpkifhjedlieaaGreatDoorBase
import Derived.Test.YtkpkifhjedlieaaGreatDoorProd
import Derived.Deep.RegionWith
import Derived.Deep.RegionLaw
namespace Go.Proofs.YtkpkifhjedlieaaGreatDoor
open Go.RowKit NM Go.Shelf
attribute [local go_sem] Oper.semAt_some
/-- a number's value by its binary digits -/
def bval (l : List Bool) : Nat := l.foldl (fun n b => 2*n + b.toNat) 0
theorem bval_snoc (l : List Bool) (b : Bool) : bval (l ++ [b]) = 2 * bval l + b.toNat := by simp [bval]
/-- digit p of a number -/
def dig (N p : Nat) : Bool := decide (N / 2^p % 2 = 1)
theorem bval_step (N n k : Nat) (pre : List Bool) (hk : k < n) (h : bval pre = N / 2^(n-k)) : bval (pre ++ [dig N (n-1-k)]) = N / 2^(n-(k+1)) := by
  rw [bval_snoc, h]
  have e : n - k = (n-1-k) + 1 := by omega
  rw [e, Nat.pow_succ, ← Nat.div_div_eq_div_mul, show n - (k+1) = n-1-k by omega]
  unfold dig
  generalize N / 2^(n-1-k) = M
  by_cases hm : M % 2 = 1
  · simp [hm]; omega
  · simp [hm]; omega
/-- the byte that holds digit p -/
theorem byte_of (s : ByteArray) (q : Nat) (h : q < s.size) : ((s[s.size - 1 - q]'(by omega)).toNat) = byteAt (sv s) q := by
  have h1 := byte_at s (s.size - 1 - q) (by omega)
  generalize s[s.size - 1 - q]'(by omega) = x at h1
  unfold sv byteAt
  have hl : s.data.toList.length = s.size := len_size s
  generalize s.data.toList = l at h1 hl
  have hlt : s.size - 1 - q < l.length := by omega
  have e : l = l.take (s.size - 1 - q) ++ x :: l.drop (s.size - 1 - q + 1) := by
    rw [List.getElem?_eq_getElem hlt] at h1
    have h2 : l[s.size - 1 - q] = x := Option.some.inj h1
    rw [← h2, ← List.drop_eq_getElem_cons hlt, List.take_append_drop]
  rw [e, bv_append, bv_cons]
  have hd : (l.drop (s.size - 1 - q + 1)).length = q := by rw [List.length_drop]; omega
  have hy := bv_lt (l.drop (s.size - 1 - q + 1))
  rw [hd] at hy
  rw [List.length_cons, hd, Nat.pow_succ]
  have hx := x.toNat_lt
  have hp : 0 < 256^q := Nat.pow_pos (by omega)
  have key : ∀ A B C P : Nat, A * (P*256) + (B*P + C) = C + P*(A*256 + B) := by
    intro A B C P; rw [Nat.mul_add, Nat.mul_left_comm A P 256, Nat.mul_comm P B]; omega
  rw [key]
  rw [Nat.add_mul_div_left _ _ hp, Nat.div_eq_of_lt hy, Nat.zero_add]
  omega
theorem bit_of (N p : Nat) : byteAt N (p/8) / 2^(p%8) % 2 = N / 2^p % 2 := by
  unfold byteAt
  have hp : p = 8*(p/8) + p%8 := (Nat.div_add_mod p 8).symm
  conv => rhs; rw [hp, Nat.pow_add, ← Nat.div_div_eq_div_mul, Nat.pow_mul]
  rw [show (2:Nat)^8 = 256 from rfl]
  generalize N / 256^(p/8) = M
  have hr : p % 8 < 8 := Nat.mod_lt _ (by omega)
  rw [show (256:Nat) = 2^(p%8) * 2^(8 - p%8) by rw [← Nat.pow_add, show p%8 + (8 - p%8) = 8 by omega]]
  rw [Nat.mod_mul_right_div_self]
  apply Nat.mod_mod_of_dvd
  exact ⟨2^(7 - p%8), by rw [← Nat.pow_succ']; congr 1; omega⟩
theorem bl_size (s : ByteArray) : bl (sv s) ≤ 8 * s.size := by
  unfold bl
  by_cases h : sv s = 0
  · rw [if_pos h]; omega
  · rw [if_neg h]
    have h1 := Nat.log2_self_le h
    have h2 : sv s < 256^s.size := by have := bv_lt s.data.toList; rw [len_size] at this; exact this
    apply Nat.succ_le_of_lt
    rw [← Nat.pow_lt_pow_iff_right (by decide : 1 < 2), Nat.pow_mul]
    exact Nat.lt_of_le_of_lt h1 h2
theorem bit_walk (x N p : Nat) (hx : x < 256) (h : x = byteAt N (p/8)) : (bits BinOp.and IntKind.u8 ((x : Int) / 2^(p%8)) 1 == 1) = dig N p := by
  have e : ((x : Int) / 2^(p%8)) = ((x / 2^(p%8) : Nat) : Int) := by rw [Int.natCast_ediv, Int.natCast_pow]; rfl
  have hle := Nat.div_le_self x (2^(p%8))
  rw [e, show (1 : Int) = ((1 : Nat) : Int) from rfl, u8_and_nat _ _ (by omega) (by omega), Nat.and_one_is_mod]
  unfold dig
  rw [← bit_of N p, ← h]
  generalize x / 2^(p%8) = y
  by_cases hy : y % 2 = 1
  · rw [hy]; rfl
  · have : y % 2 = 0 := by omega
    rw [this]; rfl
/-- a variable holds what it held -/
def KeepBox (Be : Nat) (A B : World) : Prop := B.cell? ⟨Be, 0, none⟩ = A.cell? ⟨Be, 0, none⟩
set_option maxRecDepth 100000 in
set_option maxHeartbeats 2000000 in
theorem digits_stops (n : Nat) (hn : 3 ≤ n) (Be : Nat) (s : ByteArray) (hs : s.size ≤ 4294967296) (w : World) (hBe : Be < w.heap.size) (hbox : w.cell? ⟨Be, 0, none⟩ = some (.string s)) :
    SeqStopsK Fence.wide n Tryz.prog 98 #[.pointer (some ⟨Be, 0, none⟩)] (fun b : Bool => #[.bool b]) (KeepBox Be) (fun xs => bval xs = sv s) (fun _ => True) (bl (sv s)) w := by
  intro l J Jx W hW hJ hJx hY h0
  have hbox0 : W.cell? ⟨Be, 0, none⟩ = some (.string s) := (hW.cell (p := ⟨Be, 0, none⟩) (by show Be < _; omega)).trans hbox
  refine callsIn_of_wp Tryz.func98 rfl trivial ?_ rfl
  simp only [Tryz.ntmps98, List.size_toArray, List.length_cons, List.length_nil, Nat.reduceAdd, Nat.reduceSub, Array.replicate_succ, Array.replicate_zero, List.push_toArray, List.append_toArray, List.nil_append, List.cons_append]
  have HY := Lib.hid hY; clear hY
  have hbl := bl_size s
  have hblc : bl (sv s) ≤ 34359738368 := by omega
  obtain ⟨N, hN⟩ : ∃ N, N = bl (sv s) := ⟨_, rfl⟩
  have hB := Bits_any W s hs
  rw [← hN] at HY hbl hblc hB
  have HB := Lib.hid hB; clear hB
  have HN := Lib.hid hN; clear hN
  gi_wp2_with (refine ⟨trivial, fun _ => by omega, ?_⟩; refine (callsIn_wide.2 HB.out).mono ?_; rintro e w' ⟨rfl, rfl⟩)
  gi_loopw [3] (fun p wr => ∃ (k : Nat) (pre : List Bool), k ≤ N ∧ p = .int .i64 ((N : Int) - 1 - (k : Int)) ∧ pre.length = k ∧ Hid (bval pre = sv s / 2^(N-k)) ∧ J pre wr ∧ Hid (wr.cell? ⟨Be, 0, none⟩ = some (.string s))) (fun p _ => (intOf p + 1).toNat)
  case atStart => exact ⟨0, [], Nat.zero_le _, by simp, rfl, by
    show _ = _
    rw [Nat.sub_zero, HN.out, Nat.div_eq_of_lt (by
      unfold bl; split
      · rename_i h; rw [h]; simp
      · exact Nat.lt_log2_self)]; rfl, h0, hbox0⟩
  case round =>
    obtain ⟨k, pre, hk, rfl, hlen, hv, hJs, hBn⟩ := hrel
    have hbx : wr.cell? ⟨Be, 0, none⟩ = some (.string s) := hBn.out
    have HBX := Lib.hid hbox0
    clear hbox hbox0
    by_cases hlt : k < N
    · obtain ⟨p, hp⟩ : ∃ p, p = N - 1 - k := ⟨_, rfl⟩
      rw [show ((N : Int) - 1 - (k : Int)) = (p : Int) by omega]
      have hpN : p < N := by omega
      have HP := Lib.hid hp; clear hp
      have HL := Lib.hid hlen
      obtain ⟨fn, tmps, assign, body, hy, hR⟩ := HY.out pre (dig (sv s) p) wr hJs (by omega)
      obtain ⟨q, hq⟩ : ∃ q, q = s.size - 1 - p/8 := ⟨_, rfl⟩
      have eq1 : ((s.size : Int) - 1 - (p : Int) / 8) = (q : Int) := by omega
      have hqs : q < s.size := by omega
      have hbyte : (s[q]'hqs).toNat = byteAt (sv s) (p/8) := by
        have := byte_of s (p/8) (by omega)
        rw [← this]; congr 2
      have HBY := Lib.hid hbyte; have HQ := Lib.hid hq
      have hbit := bit_walk _ (sv s) p (s[q]'hqs).toNat_lt hbyte
      clear hbyte hq hlen
      gi_wp2
      clear hbit eq1
      refine ⟨fun _ => by omega, ?_⟩
      refine hR.mono ?_
      rintro e W3 (⟨rfl, hJ3, hk3⟩ | ⟨rfl, hJx3⟩)
      · gi_wp2
        go_roundw
        case rel =>
          refine ⟨k + 1, pre ++ [dig (sv s) p], hlt, by have := HP.out; go_num, by rw [List.length_append, HL.out]; rfl, ?_, hJ3, hk3.trans hBn.out⟩
          show _ = _
          have := bval_step (sv s) N k pre hlt hv.out
          rwa [← HP.out] at this
        case measure => (simp [intOf]; try omega)
      · gi_wp2
        refine bodyPost_ret (results_none rfl _ _ _) rfl ?_
        exact ⟨⟨_, rfl⟩, .inr ⟨_, trivial, hJx3⟩⟩
    · obtain rfl : k = N := by omega
      rw [show ((k : Int) - 1 - (k : Int)) = -1 by omega]
      have hv2 : bval pre = sv s := by have := hv.out; rwa [Nat.sub_self, Nat.pow_zero, Nat.div_one] at this
      have HV := Lib.hid hv2; clear hv2 hv
      gi_wp2
      go_end0
      exact ⟨⟨_, rfl⟩, .inl ⟨pre, HV.out, hJs⟩⟩
end Go.Proofs.YtkpkifhjedlieaaGreatDoor
namespace Go.Proofs.YtkpkifhjedlieaaGreatDoor
open Go.RowKit NM
/-- a variable that closures share holds the modulus -/
structure Modulus (w : World) (Bm bm om cap : Nat) (Y : List Nat) : Prop where
  box : w.cell? ⟨Bm, 0, none⟩ = some (.slice (some ⟨bm, om, none⟩) Y.length cap)
  row : Row w bm om Y
  wd : Wd Y
  tr : Tr Y
  bm : bm < w.heap.size
  Bm : Bm < w.heap.size
  len : Y.length ≤ 536870914
  cap : Y.length ≤ cap
theorem Modulus.below {w w' : World} {Bm bm om cap : Nat} {Y : List Nat} (h : Modulus w Bm bm om cap Y) (hb : Below w.heap.size w w') : Modulus w' Bm bm om cap Y :=
  ⟨(hb.cell (p := ⟨Bm, 0, none⟩) h.Bm).trans h.box, h.row.below hb h.bm, h.wd, h.tr, Nat.lt_of_lt_of_le h.bm hb.size, Nat.lt_of_lt_of_le h.Bm hb.size, h.len, h.cap⟩
def TimesQ (z : Nat) (w : World) (e : Ending) (w' : World) : Prop := ∃ r, e = .returned r ∧ NumA w' r z ∧ Below w.heap.size w w'
set_option maxHeartbeats 2000000 in
theorem timesE_any (w : World) (u v : Value) (x y Bm bm om cap : Nat) (Y : List Nat) (hu : NumA w u x) (hv : NumA w v y) (hm : Modulus w Bm bm om cap Y) (hD : DivOK Y) (hx : x < wv Y) (hy : y < wv Y) :
    Calls Tryz.prog 58 #[u, v, .pointer (some ⟨Bm, 0, none⟩)] w (TimesQ (x * y % wv Y) w) := by
  obtain ⟨b, o, cp, Z, rfl, hb, hr, hw, hc, hcp, ht, rfl⟩ := hu
  obtain ⟨b2, o2, cp2, Z2, rfl, hb2, hr2, hw2, hc2, hcp2, ht2, rfl⟩ := hv
  have hl := Tr_len_le hm.wd ht (Nat.le_of_lt hx)
  have hl2 := Tr_len_le hm.wd ht2 (Nat.le_of_lt hy)
  have hml := hm.len
  have hP := Lib.hid (product_any w.drew b o cp b2 o2 cp2 Z Z2 hr.drew hr2.drew hw hw2 hb hb2 (by omega) hc hc2)
  have hmd : Modulus w.drew Bm bm om cap Y := hm.below (Below.refl _ w).drew
  have hbx := hm.box
  go_enter Tryz.func58, Tryz.ntmps58
  go_wp2
  go_region_held3 (fun w' => w'.cell? ⟨Bm, 0, none⟩ = some (.slice (some ⟨bm, om, none⟩) Y.length cap)) (first | assumption | (simp [go_sem]; assumption))
    (first
      | (go_at_call 49; refine hP.out.mono ?_; rintro e w1 ⟨P, oP, vP, tP, bP, rfl⟩; have hm1 := hmd.below bP; have hbx1 := hm1.box)
      | (go_at_call 55; refine (rest_any _ _ _ _ _ _ _ P Y oP.row hm1.row oP.wd hm1.wd tP hm1.tr oP.lt hm1.bm (by have := hmd.bm; omega) oP.cap hm1.cap (by omega) (by omega) hD).mono ?_; rintro e w2 ⟨r, rfl, hr9, ho9, _⟩; have hb12 := ho9.below (Nat.le_refl _) (Nat.le_of_lt oP.lt); have hbx2 := (hb12.cell (p := ⟨Bm, 0, none⟩) hmd.Bm).trans hbx1))
  all_goals go_wp2
  all_goals go_ret
  all_goals exact ⟨_, rfl, by rw [← vP]; exact hr9, ((Below.refl _ w).drew.trans bP).trans hb12⟩
end Go.Proofs.YtkpkifhjedlieaaGreatDoor
namespace Go.Proofs.YtkpkifhjedlieaaGreatDoor
open Go.RowKit NM Go.Shelf
attribute [local go_sem] Oper.semAt_some
theorem NumA.kept {A B : World} {row : Option Nat} {v : Value} {x : Nat} (h : NumA A v x) (hg : A.grownBy B row) (hr : ∀ r, row = some r → ∃ o : Obj, A.heap[r]? = some o ∧ o.isCells = false) : NumA B v x := by
  obtain ⟨b, o, cap, Z, h1, h2, h3, h4, h5, h6, h7, h8⟩ := h
  exact ⟨b, o, cap, Z, h1, Nat.lt_of_lt_of_le h2 hg.size, ⟨fun j hj => cell_kept (h3.cell j hj) hg hr, fun j hj => (frozen_kept (h3.cell j hj) hg hr).trans (h3.free j hj)⟩, h4, h5, h6, h7, h8⟩
theorem Modulus.kept {A B : World} {row : Option Nat} {Bm bm om cap : Nat} {Y : List Nat} (h : Modulus A Bm bm om cap Y) (hg : A.grownBy B row) (hr : ∀ r, row = some r → ∃ o : Obj, A.heap[r]? = some o ∧ o.isCells = false) : Modulus B Bm bm om cap Y :=
  ⟨cell_kept h.box hg hr, ⟨fun j hj => cell_kept (h.row.cell j hj) hg hr, fun j hj => (frozen_kept (h.row.cell j hj) hg hr).trans (h.row.free j hj)⟩, h.wd, h.tr, Nat.lt_of_lt_of_le h.bm hg.size, Nat.lt_of_lt_of_le h.Bm hg.size, h.len, h.cap⟩
theorem KeepsOthers.ofBelow {W W' : World} (h : Below W.heap.size W W') : KeepsOthers W W' :=
  ⟨h.size, fun k o ho _ => by rw [h.block k (Array.getElem?_eq_some_iff.1 ho).1]; exact ho⟩
theorem digits_any (s : ByteArray) (w : World) : Calls Tryz.prog 85 #[.string s] w fun e w' => e = .returned (.func (.func 98) #[] #[.pointer (some ⟨w.heap.size, 0, none⟩)]) ∧ w.alloc (.cells #[.string s] 24) = w' := by
  go_enter Tryz.func85, Tryz.ntmps85
  go_wp2
  go_ret
  exact ⟨rfl, rfl⟩
theorem NumA.form {W : World} {v : Value} {x : Nat} (h : NumA W v x) : ∃ b o l c, v = .slice (some ⟨b, o, none⟩) l c := by
  obtain ⟨b, o, cap, Z, h1, _⟩ := h
  exact ⟨b, o, _, _, h1⟩
/-- what holds between two rounds: the power so far lies in its variable -/
structure RInv (h Bm bm om cap : Nat) (Y : List Nat) (base times : Value) (a z : Nat) (W : World) (v : Value) : Prop where
  pow : W.cell? ⟨h + 1 + 1, 0, none⟩ = some v
  free : W.frozen? ⟨h + 1 + 1, 0, none⟩ = false
  num : NumA W v z
  cbase : W.cell? ⟨h, 0, none⟩ = some base
  ctimes : W.cell? ⟨h + 1, 0, none⟩ = some times
  nbase : NumA W base (a % wv Y)
  mod : Modulus W Bm bm om cap Y
  lt : h + 1 + 1 + 1 < W.heap.size
theorem RInv.kept {h Bm bm om cap : Nat} {Y : List Nat} {base times : Value} {a z : Nat} {A B : World} {v : Value} {row : Option Nat} (i : RInv h Bm bm om cap Y base times a z A v)
    (hg : A.grownBy B row) (hr : ∀ r, row = some r → ∃ o : Obj, A.heap[r]? = some o ∧ o.isCells = false) : RInv h Bm bm om cap Y base times a z B v :=
  ⟨cell_kept i.pow hg hr, (frozen_kept i.pow hg hr).trans i.free, i.num.kept hg hr, cell_kept i.cbase hg hr, cell_kept i.ctimes hg hr, i.nbase.kept hg hr, i.mod.kept hg hr, Nat.lt_of_lt_of_le i.lt hg.size⟩
theorem keepBox_put {w : World} {Be : Nat} (hBe : Be < w.heap.size) (W : World) (l : Nat) (o o' : Obj) (hl : w.heap.size ≤ l) (_ : W.heap[l]? = some o) (_ : o.isCells = false) (_ : o.isWalk = false) : KeepBox Be W (W.putObj l o') :=
  World.cell?_of_block (World.putObj_heap_other (by show Be ≠ l; omega))
theorem NumA.setOther {W : World} {v : Value} {x : Nat} {p : Addr} {u u' : Value} (h : NumA W v x) (hp : W.cell? p = some u) (hu : ∀ n, u ≠ .int .u64 n) : NumA (W.setCell p u') v x := by
  obtain ⟨b, o, cap, Z, h1, h2, h3, h4, h5, h6, h7, h8⟩ := h
  refine ⟨b, o, cap, Z, h1, by simpa using h2, ⟨fun j hj => ?_, fun j hj => by rw [World.frozen?_setCell]; exact h3.free j hj⟩, h4, h5, h6, h7, h8⟩
  rw [World.cell?_setCell_other]
  · exact h3.cell j hj
  · intro e; have := h3.cell j hj; rw [← e, hp] at this; exact hu _ (Option.some.inj this)
theorem Modulus.setOther {W : World} {Bm bm om cap : Nat} {Y : List Nat} {p : Addr} {u u' : Value} (h : Modulus W Bm bm om cap Y) (hp : W.cell? p = some u) (hu : ∀ n, u ≠ .int .u64 n) (hne : p.block ≠ Bm) : Modulus (W.setCell p u') Bm bm om cap Y := by
  refine ⟨?_, ⟨fun j hj => ?_, fun j hj => by rw [World.frozen?_setCell]; exact h.row.free j hj⟩, h.wd, h.tr, by simpa using h.bm, by simpa using h.Bm, h.len, h.cap⟩
  · rw [World.cell?_setCell_other]
    · exact h.box
    · intro e; exact hne (by rw [e])
  · rw [World.cell?_setCell_other]
    · exact h.row.cell j hj
    · intro e; have := h.row.cell j hj; rw [← e, hp] at this; exact hu _ (Option.some.inj this)
theorem RInv.step {h Bm bm om cap : Nat} {Y : List Nat} {base times : Value} {a z z' : Nat} {W w1 : World} {v r : Value} (i : RInv h Bm bm om cap Y base times a z W v) (hB : Bm < h) (hv : ∀ n, v ≠ .int .u64 n)
    (hb : Below W.heap.size W w1) (hr : NumA w1 r z') : RInv h Bm bm om cap Y base times a z' (w1.setCell ⟨h + 1 + 1, 0, none⟩ r) r := by
  have hp : w1.cell? ⟨h + 1 + 1, 0, none⟩ = some v := (hb.cell (p := ⟨h + 1 + 1, 0, none⟩) (by have := i.lt; show h + 1 + 1 < _; omega)).trans i.pow
  have hlt := i.lt
  refine ⟨World.cell?_setCell_same _ _ _ hp, ?_, hr.setOther hp hv, ?_, ?_, (i.nbase.below hb).setOther hp hv, (i.mod.below hb).setOther hp hv (by show h + 1 + 1 ≠ Bm; omega), by simp only [World.size_setCell]; have := hb.size; omega⟩
  · rw [World.frozen?_setCell]; exact (hb.frozen (p := ⟨h + 1 + 1, 0, none⟩) (by show h + 1 + 1 < _; omega)).trans i.free
  · rw [World.cell?_setCell_other _ _ _ _ (by intro e; simp at e)]; exact (hb.cell (p := ⟨h, 0, none⟩) (by show h < _; omega)).trans i.cbase
  · rw [World.cell?_setCell_other _ _ _ _ (by intro e; simp at e)]; exact (hb.cell (p := ⟨h + 1, 0, none⟩) (by show h + 1 < _; omega)).trans i.ctimes
theorem pow_sq (a e M : Nat) : (a ^ e % M) * (a ^ e % M) % M = a ^ (2*e) % M := by
  rw [← Nat.mul_mod, ← Nat.pow_add]; congr 2; omega
theorem pow_one_more (a e M : Nat) : (a ^ (2*e) % M) * (a % M) % M = a ^ (2*e+1) % M := by
  rw [← Nat.mul_mod, Nat.pow_succ]
set_option maxRecDepth 100000 in
set_option maxHeartbeats 4000000 in
theorem raiseE_any (w : World) (b1 o1 l1 c1 b2 o2 l2 c2 : Nat) (s : ByteArray) (hs : s.size ≤ 4294967296) (a Bm bm om cap : Nat) (Y : List Nat) (hone : NumA w (.slice (some ⟨b1, o1, none⟩) l1 c1) 1) (hbase : NumA w (.slice (some ⟨b2, o2, none⟩) l2 c2) (a % wv Y)) (hm : Modulus w Bm bm om cap Y) (hD : DivOK Y) (h1 : 1 < wv Y) :
    Calls Tryz.prog 59 #[.slice (some ⟨b1, o1, none⟩) l1 c1, .slice (some ⟨b2, o2, none⟩) l2 c2, .string s, .func (.func 58) #[] #[.pointer (some ⟨Bm, 0, none⟩)]] w (TimesQ (a ^ sv s % wv Y) w) := by
  refine (callsIn_wide (n := 12)).1 ?_
  refine callsIn_of_wp_marks Tryz.func59 rfl trivial ?_ rfl
  simp only [Tryz.ntmps59, List.size_toArray, List.length_cons, List.length_nil, Nat.reduceAdd, Nat.reduceSub, Array.replicate_succ, Array.replicate_zero, List.push_toArray, List.append_toArray, List.nil_append, List.cons_append]
  have HO := Lib.hid hone; have HB := Lib.hid hbase; have HM := Lib.hid hm
  gi_wp2_with (refine ⟨trivial, ?_⟩; refine (callsIn_wide.2 (digits_any s _)).mono ?_; rintro e w' ⟨rfl, rfl⟩)
  have hB4 : Below w.heap.size w ((((w.alloc (.cells #[.slice (some ⟨b2, o2, none⟩) l2 c2] 53)).alloc (.cells #[.func (.func 58) #[] #[.pointer (some ⟨Bm, 0, none⟩)]] 63)).alloc (.cells #[.slice (some ⟨b1, o1, none⟩) l1 c1] 53)).alloc (.cells #[.string s] 24)) :=
    ((((Below.refl _ w).alloc (Nat.le_refl _) _).alloc (by simp) _).alloc (by simp; omega) _).alloc (by simp; omega) _
  have i0 : RInv w.heap.size Bm bm om cap Y (.slice (some ⟨b2, o2, none⟩) l2 c2) (.func (.func 58) #[] #[.pointer (some ⟨Bm, 0, none⟩)]) a (a ^ bval [] % wv Y) ((((w.alloc (.cells #[.slice (some ⟨b2, o2, none⟩) l2 c2] 53)).alloc (.cells #[.func (.func 58) #[] #[.pointer (some ⟨Bm, 0, none⟩)]] 63)).alloc (.cells #[.slice (some ⟨b1, o1, none⟩) l1 c1] 53)).alloc (.cells #[.string s] 24)) (.slice (some ⟨b1, o1, none⟩) l1 c1) := by
    refine ⟨?_, ?_, ?_, ?_, ?_, hbase.below hB4, hm.below hB4, by simp⟩
    · rw [World.cell?_alloc_past _ _ _ (by simp), World.cell?_alloc_at _ _ _ _ (by simp)]; rfl
    · rw [World.frozen?_alloc_past _ _ _ (by simp), World.frozen?_alloc_at _ _ _ _ (by simp)]
    · have := hone.below hB4
      simpa [bval, Nat.mod_eq_of_lt h1] using this
    · rw [World.cell?_alloc_past _ _ _ (by simp; omega), World.cell?_alloc_past _ _ _ (by simp; omega), World.cell?_alloc_past _ _ _ (by simp), World.cell?_alloc_at _ _ _ _ rfl]; rfl
    · rw [World.cell?_alloc_past _ _ _ (by simp), World.cell?_alloc_past _ _ _ (by simp), World.cell?_alloc_at _ _ _ _ (by simp)]; rfl
  have hs4 : ((((w.alloc (.cells #[.slice (some ⟨b2, o2, none⟩) l2 c2] 53)).alloc (.cells #[.func (.func 58) #[] #[.pointer (some ⟨Bm, 0, none⟩)]] 63)).alloc (.cells #[.slice (some ⟨b1, o1, none⟩) l1 c1] 53)).alloc (.cells #[.string s] 24)).heap.size = w.heap.size + 1 + 1 + 1 + 1 := by simp
  have hbx : ((((w.alloc (.cells #[.slice (some ⟨b2, o2, none⟩) l2 c2] 53)).alloc (.cells #[.func (.func 58) #[] #[.pointer (some ⟨Bm, 0, none⟩)]] 63)).alloc (.cells #[.slice (some ⟨b1, o1, none⟩) l1 c1] 53)).alloc (.cells #[.string s] 24)).cell? ⟨w.heap.size + 1 + 1 + 1, 0, none⟩ = some (.string s) := by
    rw [World.cell?_alloc_at _ _ _ _ (by simp)]; rfl
  generalize (((w.alloc (.cells #[.slice (some ⟨b2, o2, none⟩) l2 c2] 53)).alloc (.cells #[.func (.func 58) #[] #[.pointer (some ⟨Bm, 0, none⟩)]] 63)).alloc (.cells #[.slice (some ⟨b1, o1, none⟩) l1 c1] 53)).alloc (.cells #[.string s] 24) = w4 at *
  refine wpIn_rangeFunc_ownF rfl (by omega) (gf := 98) (lb := #[.pointer (some ⟨w.heap.size + 1 + 1 + 1, 0, none⟩)]) rfl trivial (enters_of Tryz.func98 (by kernel_rfl) rfl)
    (digits_stops 11 (by omega) (w.heap.size + 1 + 1 + 1) s hs w4 (by omega) hbx) (fun h k => Eq.trans k h) (keepBox_put (by omega)) (Below.refl _ _) (fun _ => rfl)
    (fun pre W => (∃ b o l c, RInv w.heap.size Bm bm om cap Y (.slice (some ⟨b2, o2, none⟩) l2 c2) (.func (.func 58) #[] #[.pointer (some ⟨Bm, 0, none⟩)]) a (a ^ bval pre % wv Y) W (.slice (some ⟨b, o, none⟩) l c)) ∧ Below w.heap.size w W)
    (fun _ _ _ => False)
    (OwnFrom.and (Own.from (fun _ _ _ _ hs hg hr => by obtain ⟨b, o, l, c, i⟩ := hs; exact ⟨b, o, l, c, i.kept hg hr⟩) _) (ownFrom_below (Nat.le_refl _) (by omega)))
    (fun _ _ _ _ _ hs _ _ => hs)
    ⟨⟨b1, o1, l1, c1, i0⟩, hB4⟩
    (fun x => { tmps := #[.slice (some ⟨b1, o1, none⟩) l1 c1, .slice (some ⟨b2, o2, none⟩) l2 c2, .string s, .func (.func 58) #[] #[.pointer (some ⟨Bm, 0, none⟩)], undef,
        .pointer (some ⟨w.heap.size, 0, none⟩), undef, .pointer (some ⟨w.heap.size + 1, 0, none⟩), .slice none 0 0, .pointer (some ⟨w.heap.size + 1 + 1, 0, none⟩), .bool x,
        .slice (some ⟨b1, o1, none⟩) l1 c1, .string s, .func (.func 98) #[] #[.pointer (some ⟨w.heap.size + 1 + 1 + 1, 0, none⟩)], .bool x,
        undef, undef, undef, undef, undef, undef, undef, undef, undef, undef], defers := [] }) ?assign ?body ?done ?stop
  case assign =>
    intro l x W K hK
    gi_wp2
    exact hK
  case body =>
    rintro l pre x W ⟨⟨b, o, ll, c, i⟩, hB⟩ _
    have hp := i.pow
    have hf := i.free
    have ht := i.ctimes
    have hc := i.cbase
    have hlt := i.lt
    have hBm := hm.Bm
    have hlt0 : ∀ e, a ^ e % wv Y < wv Y := fun e => Nat.mod_lt _ (by omega)
    have hI := Lib.hid i
    have HBX := Lib.hid hbx
    clear hbx
    have HL := Lib.hid hlt0; clear hlt0
    gi_wp2_with fail
    refine ⟨trivial, ?_⟩
    refine (CallsIn.inRound l (callsIn_wide.2 (timesE_any W _ _ _ _ Bm bm om cap Y i.num i.num i.mod hD (HL.out _) (HL.out _)))).mono ?_
    rintro e w1 ⟨r, rfl, hr, hb⟩
    obtain ⟨br, or, lr, cr, rfl⟩ := hr.form
    rw [pow_sq] at hr
    have j := i.step hBm (fun n => by simp) hb hr
    have hp1 : w1.cell? ⟨w.heap.size + 1 + 1, 0, none⟩ = some (.slice (some ⟨b, o, none⟩) ll c) := (hb.cell (p := ⟨w.heap.size + 1 + 1, 0, none⟩) (by show w.heap.size + 1 + 1 < _; omega)).trans hp
    have hf1 : w1.frozen? ⟨w.heap.size + 1 + 1, 0, none⟩ = false := (hb.frozen (p := ⟨w.heap.size + 1 + 1, 0, none⟩) (by show w.heap.size + 1 + 1 < _; omega)).trans hf
    have hB1 : Below w.heap.size w (w1.setCell ⟨w.heap.size + 1 + 1, 0, none⟩ (.slice (some ⟨br, or, none⟩) lr cr)) := (hB.trans (hb.mono (by omega))).setCell (p := ⟨w.heap.size + 1 + 1, 0, none⟩) (by show _ ≤ w.heap.size + 1 + 1; omega) _
    have hK1 : KeepsOthers W (w1.setCell ⟨w.heap.size + 1 + 1, 0, none⟩ (.slice (some ⟨br, or, none⟩) lr cr)) := (KeepsOthers.ofBelow hb).trans (KeepsOthers.setCell _ _ _)
    have hX1 : KeepBox (w.heap.size + 1 + 1 + 1) W (w1.setCell ⟨w.heap.size + 1 + 1, 0, none⟩ (.slice (some ⟨br, or, none⟩) lr cr)) := by
      show _ = _
      rw [World.cell?_setCell_other _ _ _ _ (by intro e; simp at e)]
      exact hb.cell (p := ⟨w.heap.size + 1 + 1 + 1, 0, none⟩) hlt
    cases x with
    | false =>
      gi_wp2
      refine ⟨hK1, hX1, ⟨br, or, lr, cr, ?_⟩, hB1⟩
      rw [bval_snoc]; simpa using j
    | true =>
      have ht1 : w1.cell? ⟨w.heap.size + 1, 0, none⟩ = some (.func (.func 58) #[] #[.pointer (some ⟨Bm, 0, none⟩)]) := (hb.cell (p := ⟨w.heap.size + 1, 0, none⟩) (by show w.heap.size + 1 < _; omega)).trans ht
      have hc1 : w1.cell? ⟨w.heap.size, 0, none⟩ = some (.slice (some ⟨b2, o2, none⟩) l2 c2) := (hb.cell (p := ⟨w.heap.size, 0, none⟩) (by show w.heap.size < _; omega)).trans hc
      gi_wp2_with fail
      refine ⟨trivial, ?_⟩
      refine (CallsIn.inRound l (callsIn_wide.2 (timesE_any _ _ _ _ _ Bm bm om cap Y j.num j.nbase j.mod hD (HL.out _) (by have := HL.out 1; rwa [Nat.pow_one] at this)))).mono ?_
      rintro e w2 ⟨r2, rfl, hr2, hb2⟩
      obtain ⟨br2, or2, lr2, cr2, rfl⟩ := hr2.form
      rw [pow_one_more] at hr2
      have k := j.step hBm (fun n => by simp) hb2 hr2
      have hlt2 := j.lt
      have hp2 : w2.cell? ⟨w.heap.size + 1 + 1, 0, none⟩ = some (.slice (some ⟨br, or, none⟩) lr cr) := (hb2.cell (p := ⟨w.heap.size + 1 + 1, 0, none⟩) (by show w.heap.size + 1 + 1 < _; omega)).trans j.pow
      have hf2 : w2.frozen? ⟨w.heap.size + 1 + 1, 0, none⟩ = false := (hb2.frozen (p := ⟨w.heap.size + 1 + 1, 0, none⟩) (by show w.heap.size + 1 + 1 < _; omega)).trans j.free
      have hB2 : Below w.heap.size w (w2.setCell ⟨w.heap.size + 1 + 1, 0, none⟩ (.slice (some ⟨br2, or2, none⟩) lr2 cr2)) := (hB1.trans (hb2.mono (by omega))).setCell (p := ⟨w.heap.size + 1 + 1, 0, none⟩) (by show _ ≤ w.heap.size + 1 + 1; omega) _
      have hK2 : KeepsOthers W (w2.setCell ⟨w.heap.size + 1 + 1, 0, none⟩ (.slice (some ⟨br2, or2, none⟩) lr2 cr2)) := hK1.trans ((KeepsOthers.ofBelow hb2).trans (KeepsOthers.setCell _ _ _))
      have hX2 : KeepBox (w.heap.size + 1 + 1 + 1) W (w2.setCell ⟨w.heap.size + 1 + 1, 0, none⟩ (.slice (some ⟨br2, or2, none⟩) lr2 cr2)) := by
        show _ = _
        rw [World.cell?_setCell_other _ _ _ _ (by intro e; simp at e)]
        exact (hb2.cell (p := ⟨w.heap.size + 1 + 1 + 1, 0, none⟩) hlt2).trans hX1
      gi_wp2
      refine ⟨hK2, hX2, ⟨br2, or2, lr2, cr2, ?_⟩, hB2⟩
      rw [bval_snoc]; simpa using k
  case done =>
    rintro D ys W hD hS ⟨⟨b, o, ll, c, i⟩, hB⟩ hK
    have hp := i.pow
    gi_wp2
    refine ⟨by simp, .inl ⟨_, _, rfl, run_takeDeferred hK, ?_⟩⟩
    have hnum := i.num
    rw [hS] at hnum
    refine ⟨.slice (some ⟨b, o, none⟩) ll c, results_tmp (t := 8) rfl _ _ _, .slice (some ⟨b, o, none⟩) ll c, rfl, hnum.kept (grownBy_putObj' _ D (.deferred none)) (fun r e => by cases e; exact ⟨_, hK, rfl⟩), hB.trans (belowK_b (w := w) (Nat.le_refl _) W D _ _ (by omega) hK rfl rfl)⟩
  case stop =>
    rintro D c pre W _ _ h _
    exact h.elim
end Go.Proofs.YtkpkifhjedlieaaGreatDoor
namespace Go.Proofs.YtkpkifhjedlieaaGreatDoor
open Go.RowKit NM
theorem newton (odd v E : Int) (e d : Nat) (hE : E = IntKind.u64.wrap (v * IntKind.u64.wrap (2 - IntKind.u64.wrap (odd * v)))) (hd : d ≤ 64) (hd2 : d ≤ 2*e) (h : (2:Int)^e ∣ odd * v - 1) : (2:Int)^d ∣ odd * E - 1 := by
  obtain ⟨c, hc⟩ := h
  simp only [IntKind.wrap_u64] at hE
  have e64 : (18446744073709551616 : Int) = (2:Int)^d * (2:Int)^(64-d) := by
    rw [← Int.pow_add, show d + (64 - d) = 64 by omega]; rfl
  have ee : (2:Int)^(2*e) = (2:Int)^d * (2:Int)^(2*e-d) := by rw [← Int.pow_add, show d + (2*e-d) = 2*e by omega]
  have m1 := Int.emod_add_mul_ediv (odd * v) 18446744073709551616
  have m2 := Int.emod_add_mul_ediv (2 - odd * v % 18446744073709551616) 18446744073709551616
  have m3 := Int.emod_add_mul_ediv (v * ((2 - odd * v % 18446744073709551616) % 18446744073709551616)) 18446744073709551616
  rw [← hE] at m3
  generalize odd * v / 18446744073709551616 = q1 at m1
  generalize (2 - odd * v % 18446744073709551616) / 18446744073709551616 = q2 at m2
  generalize v * ((2 - odd * v % 18446744073709551616) % 18446744073709551616) / 18446744073709551616 = q3 at m3
  have k1 : odd * v % 18446744073709551616 = odd * v - 18446744073709551616 * q1 := by omega
  rw [k1] at m2 m3
  have k2 : (2 - (odd * v - 18446744073709551616 * q1)) % 18446744073709551616 = 2 - odd * v + 18446744073709551616 * q1 - 18446744073709551616 * q2 := by omega
  rw [k2] at m3
  have k3 : E = v * (2 - odd * v + 18446744073709551616 * q1 - 18446744073709551616 * q2) - 18446744073709551616 * q3 := by omega
  have ed : (2:Int)^e * (2:Int)^e = (2:Int)^d * (2:Int)^(2*e-d) := by rw [← Int.pow_add, ← ee]; congr 1; omega
  rw [e64] at k3
  generalize (2:Int)^d = A at *
  generalize (2:Int)^(64-d) = B at *
  generalize (2:Int)^(2*e-d) = C at *
  generalize (2:Int)^e = D at *
  have k4 : odd * E - 1 = A * (- (C * (c*c)) + B * (odd * v * (q1 - q2) - odd * q3)) := by
    clear m1 m2 m3 k1 k2 hE e64 ee
    grind
  exact ⟨_, k4⟩
/-- what factorOf answers: its product with the odd word is one less than a multiple of 2 to the power of 64 -/
def FacQ (odd : Nat) (w : World) (e : Ending) (w' : World) : Prop := ∃ f : Nat, f < 18446744073709551616 ∧ (odd * f + 1) % 18446744073709551616 = 0 ∧ e = .returned (.int .u64 (f : Nat)) ∧ w = w'
theorem odd_start (odd : Nat) (h : odd % 2 = 1) : (2:Int)^3 ∣ (odd : Int) * (odd : Int) - 1 := by
  obtain ⟨k, rfl⟩ : ∃ k, odd = 2*k+1 := ⟨odd/2, by omega⟩
  obtain ⟨j, hj⟩ : ∃ j : Nat, k * (k+1) = 2 * j := by
    rcases Nat.mod_two_eq_zero_or_one k with h0 | h0
    · exact ⟨k/2 * (k+1), by rw [← Nat.mul_assoc]; congr 1; omega⟩
    · exact ⟨k * ((k+1)/2), by rw [Nat.mul_left_comm]; congr 1; omega⟩
  have hj' : (k : Int) * ((k : Int) + 1) = 2 * (j : Int) := by have := congrArg (fun n : Nat => (n : Int)) hj; simpa using this
  refine ⟨(j : Int), ?_⟩
  have e : ((2*k+1 : Nat) : Int) = 2 * (k : Int) + 1 := by omega
  rw [e]
  generalize (k : Int) = x at *
  generalize (j : Int) = y at *
  grind
theorem fac_end (odd : Nat) (v : Int) (_h0 : 0 ≤ v) (h : (2:Int)^64 ∣ (odd : Int) * v - 1) : ∃ f : Nat, f < 18446744073709551616 ∧ (odd * f + 1) % 18446744073709551616 = 0 ∧ IntKind.u64.wrap (-v) = (f : Int) := by
  refine ⟨((-v) % 18446744073709551616).toNat, by omega, ?_, by rw [IntKind.wrap_u64]; omega⟩
  obtain ⟨c, hc⟩ := h
  have e64 : (2:Int)^64 = 18446744073709551616 := by decide
  rw [e64] at hc
  have m1 := Int.emod_add_mul_ediv (-v) 18446744073709551616
  have key : ((odd * ((-v) % 18446744073709551616).toNat + 1 : Nat) : Int) = 18446744073709551616 * (- c - odd * ((-v) / 18446744073709551616)) := by
    have e1 : ((((-v) % 18446744073709551616).toNat : Nat) : Int) = (-v) % 18446744073709551616 := by omega
    rw [Int.natCast_add, Int.natCast_mul, e1]
    generalize (-v) % 18446744073709551616 = r at *
    generalize (-v) / 18446744073709551616 = q at *
    generalize (odd : Int) = x at *
    clear e1 e64
    grind
  omega
set_option maxHeartbeats 1000000 in
theorem factorOf_any (w : World) (odd : Nat) (ho : odd % 2 = 1) (hlt : odd < 18446744073709551616) : Calls Tryz.prog 81 #[.int .u64 (odd : Nat)] w (FacQ odd w) := by
  have h3 := odd_start odd ho
  have H3 := Lib.hid h3; clear h3
  go_enter Tryz.func81, Tryz.ntmps81
  go_wp2
  go_loop [3, 5] (fun v i => ∃ (k : Nat) (x : Int), k ≤ 5 ∧ i = .int .i64 (k : Nat) ∧ v = .int .u64 x ∧ Hid (0 ≤ x) ∧ Hid ((2:Int)^(min 64 (3 * 2^k)) ∣ (odd : Int) * x - 1)) (fun _ i => 5 - (intOf i).toNat)
  case atStart => exact ⟨0, _, by omega, rfl, rfl, by show 0 ≤ _; omega, H3.out⟩
  case round =>
    obtain ⟨k, x, hk, rfl, rfl, hx, hd⟩ := hrel
    by_cases h : k < 5
    · go_wp2
      go_round
      case rel =>
        refine ⟨k + 1, _, h, by go_num, rfl, ?_, ?_⟩
        · show 0 ≤ _; rw [IntKind.wrap_u64]; omega
        · show _ ∣ _
          have hp : 3 * 2^(k+1) = 2 * (3 * 2^k) := by rw [Nat.pow_succ]; omega
          have hp2 : 3 * 2^k ≤ 48 := by have : 2^k ≤ 2^4 := Nat.pow_le_pow_right (by omega) (by omega); omega
          have hd' := hd.out
          rw [Nat.min_eq_right (by omega)] at hd'
          exact newton (odd : Int) x _ (3 * 2^k) (min 64 (3 * 2^(k+1))) rfl (Nat.min_le_left _ _) (by rw [← hp]; exact Nat.min_le_right _ _) hd'
      case measure => (simp [intOf]; try omega)
    · obtain rfl : k = 5 := by omega
      obtain ⟨f, f1, f2, f3⟩ := fac_end odd x hx.out hd.out
      have F2 := Lib.hid f2; clear f2
      go_wp2
      go_ret
      exact ⟨f, f1, F2.out, rfl, rfl⟩
end Go.Proofs.YtkpkifhjedlieaaGreatDoor
namespace Go.Proofs.YtkpkifhjedlieaaGreatDoor
open Go.RowKit NM
/-- after i rounds -/
structure MontI (n b : Nat) (w : World) (X Y M : List Nat) (k : Nat) (Z : List Nat) (wr : World) : Prop where
  at_ : At (2*n+1) b 0 w Z wr
  eqn : ∃ U, U < B64^k ∧ wv Z = wv X * wv (Y.take k) + wv M * U
  dvd : wv Z % B64^k = 0
theorem mont_low (z f m0 : Nat) (hf : (m0 * f + 1) % B64 = 0) : (z + (z * f % B64) * m0) % B64 = 0 := by
  have h1 : (z + (z * f % B64) * m0) % B64 = (z + (z * f) * m0) % B64 := by
    rw [Nat.add_mod, Nat.mul_mod, Nat.mod_mod, ← Nat.mul_mod, ← Nat.add_mod]
  rw [h1, show z + z * f * m0 = z * (m0 * f + 1) by rw [Nat.mul_add, Nat.mul_one, Nat.mul_assoc, Nat.mul_comm f]; omega, Nat.mul_mod, hf, Nat.mul_zero, Nat.zero_mod]
theorem wv_mod (M : List Nat) (hM : Wd M) : wv M % B64 = gd M 0 := by
  have := wv_digit M hM 0
  rw [Nat.pow_zero, Nat.div_one] at this
  exact this.symm
theorem mont_bound (n k V x m yk U : Nat) (hx : x < B64^n) (hm : m < B64^n) (hy : yk < B64^(k+1)) (hU : U < B64^(k+1)) (hk : k < n) (hV : V = x * yk + m * U) : V < B64^(2*n+1) := by
  have h1 : x * yk ≤ B64^n * B64^(k+1) := Nat.mul_le_mul (by omega) (by omega)
  have h2 : m * U ≤ B64^n * B64^(k+1) := Nat.mul_le_mul (by omega) (by omega)
  rw [← Nat.pow_add] at h1 h2
  have h3 : B64^(n+(k+1)) ≤ B64^(2*n) := Nat.pow_le_pow_right B64_pos (by omega)
  have h4 : B64^(2*n+1) = B64^(2*n) * B64 := Nat.pow_succ ..
  have h5 : B64^(2*n) * 3 ≤ B64^(2*n) * B64 := Nat.mul_le_mul_left _ (by decide)
  have h6 : 0 < B64^(2*n) := Nat.pow_pos B64_pos
  omega
theorem div_of_dvd {V k : Nat} (h : V % B64^k = 0) : V = B64^k * (V / B64^k) := by
  have := Nat.div_add_mod V (B64^k); omega
theorem MontI.first {n b : Nat} {w wr w' : World} {X Y M Z Z' : List Nat} {k : Nat} (h : MontI n b w X Y M k Z wr) (hk : k < n) (h' : At (Z.drop k).length b k wr Z' w') (hv : wv Z' = wv (Z.drop k) + gd Y k * wv X) (hy : Y.length = n) :
    At (2*n+1) b 0 w (Z.take k ++ Z') w' ∧ ∃ U, U < B64^k ∧ wv (Z.take k ++ Z') = wv X * wv (Y.take (k+1)) + wv M * U ∧ wv (Z.take k ++ Z') % B64^k = 0 := by
  have hl := h.at_.len
  refine ⟨h.at_.part (by omega) h', ?_⟩
  obtain ⟨U, hU, hE⟩ := h.eqn
  refine ⟨U, hU, ?_, ?_⟩
  · rw [wv_append, List.length_take, Nat.min_eq_left (by omega), hv, Nat.mul_add, wv_take_succ Y k (by omega), Nat.mul_add]
    have s := wv_split Z k (by omega)
    have e : B64^k * (gd Y k * wv X) = wv X * (B64^k * Y.getD k 0) := by
      show B64^k * (Y.getD k 0 * wv X) = _
      rw [← Nat.mul_assoc, Nat.mul_comm]
    rw [e]; omega
  · have s := wv_split Z k (by omega)
    have h1 := wv_lt (Z.take k) (Wd_take h.at_.wd k)
    rw [List.length_take, Nat.min_eq_left (by omega)] at h1
    have h0 : wv (Z.take k) = 0 := by
      have := h.dvd
      rw [s, Nat.add_mul_mod_self_left, Nat.mod_eq_of_lt h1] at this; exact this
    rw [wv_append, List.length_take, Nat.min_eq_left (by omega), h0, Nat.zero_add, Nat.mul_mod_right]
theorem MontI.second {n b : Nat} {w wr w' : World} {X Y M Z Z' : List Nat} {k U f : Nat} (h : At (2*n+1) b 0 w Z wr) (hU : U < B64^k) (hE : wv Z = wv X * wv (Y.take (k+1)) + wv M * U) (hdv : wv Z % B64^k = 0)
    (hk : k < n) (h' : At (Z.drop k).length b k wr Z' w') (hv : wv Z' = wv (Z.drop k) + (gd Z k * f % B64) * wv M) (hM : Wd M) (hf : (gd M 0 * f + 1) % B64 = 0) :
    MontI n b w X Y M (k+1) (Z.take k ++ Z') w' := by
  have hl := h.len
  have s := wv_split Z k (by omega)
  have h1 := wv_lt (Z.take k) (Wd_take h.wd k)
  rw [List.length_take, Nat.min_eq_left (by omega)] at h1
  have h0 : wv (Z.take k) = 0 := by
    rw [s, Nat.add_mul_mod_self_left, Nat.mod_eq_of_lt h1] at hdv; exact hdv
  have ev : wv (Z.take k ++ Z') = B64^k * wv Z' := by rw [wv_append, List.length_take, Nat.min_eq_left (by omega), h0, Nat.zero_add]
  refine ⟨h.part (by omega) h', ⟨U + B64^k * (gd Z k * f % B64), ?_, ?_⟩, ?_⟩
  · have h2 : gd Z k * f % B64 + 1 ≤ B64 := Nat.mod_lt _ B64_pos
    have h3 : B64^k * (gd Z k * f % B64 + 1) ≤ B64^k * B64 := Nat.mul_le_mul_left _ h2
    rw [Nat.pow_succ]; rw [Nat.mul_add] at h3; omega
  · rw [ev, hv, Nat.mul_add, Nat.mul_add, ← Nat.add_assoc, ← hE, Nat.mul_left_comm (wv M), Nat.mul_comm (wv M)]
    omega
  · rw [ev, Nat.pow_succ, Nat.mul_mod_mul_left]
    have : wv Z' % B64 = 0 := by
      rw [hv]
      have e1 : wv (Z.drop k) % B64 = gd Z k := by
        rw [wv_mod _ (Wd_drop h.wd k)]; unfold gd; simp [List.getElem?_drop]
      have e2 := wv_mod M hM
      rw [Nat.add_mod, e1, Nat.mul_mod, e2, Nat.mod_mod]
      have := mont_low (gd Z k) f (gd M 0) hf
      have hz : gd Z k % B64 = gd Z k := Nat.mod_eq_of_lt (gd_lt h.wd k)
      rw [Nat.add_mod, Nat.mul_mod, Nat.mod_mod, hz] at this
      have hm0 : gd M 0 % B64 = gd M 0 := Nat.mod_eq_of_lt (gd_lt hM 0)
      rw [hm0] at this
      exact this
    rw [this, Nat.mul_zero]
def MontQ (X Y M : List Nat) (w : World) (e : Ending) (w' : World) : Prop :=
  ∃ Z b o, e = .returned (.slice (some ⟨b, o, none⟩) M.length (M.length + 1)) ∧ b < w'.heap.size ∧ Row w' b o Z ∧ Wd Z ∧ Z.length = M.length ∧ wv Z < wv M ∧ wv Z * B64^M.length % wv M = wv X * wv Y % wv M ∧ Below w.heap.size w w'
theorem mont_end (X Y M Z : List Nat) (n U : Nat) (hx : wv X < wv M) (hy : wv Y < B64^n) (hM : Wd M) (hn : n = M.length) (hm0 : 0 < wv M) (_hZ : Z.length = 2*n+1) (hW : Wd Z) (hU : U < B64^n) (hE : wv Z = wv X * wv Y + wv M * U) (hd : wv Z % B64^n = 0) :
    wv (Z.drop n) * B64^n = wv X * wv Y + wv M * U ∧ wv (Z.drop n) < 2 * wv M := by
  have e := div_of_dvd hd
  have ed := drop_div Z hW n
  have h1 : wv (Z.drop n) * B64^n = wv X * wv Y + wv M * U := by rw [ed, Nat.mul_comm, ← e, hE]
  refine ⟨h1, ?_⟩
  have hml : wv M < B64^n := by rw [hn]; exact wv_lt M hM
  apply Nat.lt_of_mul_lt_mul_right (a := B64^n)
  rw [h1]
  have h2 : wv X * wv Y < wv M * B64^n := by
    have : wv X * wv Y ≤ wv M * wv Y := Nat.mul_le_mul_right _ (by omega)
    have : wv M * wv Y < wv M * B64^n := Nat.mul_lt_mul_of_pos_left (by omega) hm0
    omega
  have h3 : wv M * U < wv M * B64^n := Nat.mul_lt_mul_of_pos_left hU hm0
  rw [Nat.mul_assoc]; omega
/-- the highest word is 0 -/
theorem top_zero (T : List Nat) (k : Nat) (_hT : Wd T) (hl : T.length = k + 1) (h : wv T < B64^k) : wv (T.take k) = wv T ∧ gd T k = 0 := by
  have s := wv_split T k (by omega)
  rw [wv_drop_cons T k (by omega), List.drop_eq_nil_of_le (by omega)] at s
  simp only [wv, Nat.mul_zero, Nat.add_zero] at s
  have h0 : T.getD k 0 = 0 := by
    apply Classical.byContradiction; intro hne
    have : B64^k * 1 ≤ B64^k * T.getD k 0 := Nat.mul_le_mul_left _ (by omega)
    omega
  rw [h0] at s
  exact ⟨by omega, h0⟩
set_option maxRecDepth 100000 in
set_option maxHeartbeats 4000000 in
theorem montgomery_any (w : World) (b1 o1 c1 b2 o2 c2 bm om cm f n : Nat) (X Y M : List Nat) (hR : Row w b1 o1 X) (hS : Row w b2 o2 Y) (hT : Row w bm om M) (hX : Wd X) (hY : Wd Y) (hM : Wd M) (tM : Tr M)
    (hb1 : b1 < w.heap.size) (hb2 : b2 < w.heap.size) (hbm : bm < w.heap.size) (hn : n = M.length) (lX : X.length = n) (lY : Y.length = n) (hnb : n ≤ 536870914) (hc1 : n ≤ c1) (hc2 : n ≤ c2) (hcm : n ≤ cm)
    (hx : wv X < wv M) (hf : (gd M 0 * f + 1) % B64 = 0) (_hf64 : f < 18446744073709551616) :
    Calls Tryz.prog 84 #[.slice (some ⟨b1, o1, none⟩) n c1, .slice (some ⟨b2, o2, none⟩) n c2, .slice (some ⟨bm, om, none⟩) n cm, .int .u64 (f : Nat)] w (MontQ X Y M w) := by
  obtain ⟨n2, hn2⟩ : ∃ n2, n2 = 2 * n + 1 := ⟨_, rfl⟩
  have e0 : (2 * (n : Int) + 1) = (n2 : Int) := by omega
  have hn2b : n2 ≤ 1073741829 := by omega
  have hnn2 : n < n2 := by omega
  have hmk := fun u => make_words n2 (by omega) u
  have hA0 := At.made n2 69 w
  have hR1 := hR.alloc hb1 (.cells (madeCells #[.int .u64 0] n2) 69)
  have hS1 := hS.alloc hb2 (.cells (madeCells #[.int .u64 0] n2) 69)
  have hT1 := hT.alloc hbm (.cells (madeCells #[.int .u64 0] n2) 69)
  have hB1 := (Below.refl w.heap.size w).alloc (Nat.le_refl _) (.cells (madeCells #[.int .u64 0] n2) 69)
  have hz : (w.alloc (.cells (madeCells #[.int .u64 0] n2) 69)).heap.size = w.heap.size + 1 := by simp
  have HN := Lib.hid (And.intro hn (And.intro lX (And.intro lY hn2))); clear hn lX lY hn2 hR hS hT
  have HF := Lib.hid hf; clear hf
  go_enter Tryz.func84, Tryz.ntmps84
  go_wp2
  generalize w.alloc (.cells (madeCells #[.int .u64 0] n2) 69) = w1 at *
  clear hmk e0
  have HZ := Lib.hid hz; clear hz
  go_loopw [21] (fun i wr => ∃ (k : Nat) (Z : List Nat), k ≤ n ∧ i = .int .i64 (k : Nat) ∧ MontI n w.heap.size w1 X Y M k Z wr) (fun i _ => n - (intOf i).toNat)
  case atStart => exact ⟨0, _, Nat.zero_le _, rfl, by rw [← HN.out.2.2.2]; exact hA0, ⟨0, by simp, by simp [wv, wv_replicate]⟩, by simp [Nat.mod_one]⟩
  case round =>
    obtain ⟨k, Z, hk, rfl, hI⟩ := hrel
    clear hA0
    have hA := hI.at_
    obtain ⟨hn, lX, lY, hn2⟩ := HN.out
    by_cases hlt : k < n
    · have hyc := (hA.only.row hS1 (by omega) (by rw [HZ.out]; omega)).cell k (by omega)
      have hs1 := hA.only.size
      have hcall := addProduct_any wr w.heap.size k (n2 - k) b1 o1 c1 (gd Y k) (Z.drop k) X (by have := hA.row.drop k; rwa [Nat.zero_add] at this) (hA.only.row hR1 (by omega) (by rw [HZ.out]; omega)) (Wd_drop hA.wd k) hX (by omega) (by rw [HZ.out] at hs1; omega)
        (gd_lt hY k) (by rw [List.length_drop, hA.len]; omega) (by rw [List.length_drop, hA.len]; omega) (by omega) (by rw [List.length_drop, hA.len]; omega) ?room1
      case room1 =>
        obtain ⟨U, hU, hE⟩ := hI.eqn
        have hxl := wv_lt X hX
        have hml := wv_lt M hM
        have hyl := wv_lt (Y.take (k+1)) (Wd_take hY _)
        rw [List.length_take, Nat.min_eq_left (by omega)] at hyl
        have hp : B64^k ≤ B64^(k+1) := Nat.pow_le_pow_right B64_pos (by omega)
        have hb := mont_bound n k (wv X * wv (Y.take (k+1)) + wv M * U) (wv X) (wv M) (wv (Y.take (k+1))) U (by rw [← lX]; exact hxl) (by rw [hn]; exact hml) hyl (by omega) hlt rfl
        rw [List.length_drop, hA.len]
        apply Nat.lt_of_mul_lt_mul_left (a := B64^k)
        rw [← Nat.pow_add, show k + (2*n+1-k) = 2*n+1 by omega]
        refine Nat.lt_of_le_of_lt ?_ hb
        rw [drop_div Z hA.wd, Nat.mul_add, ← div_of_dvd hI.dvd, hE, wv_take_succ Y k (by omega), Nat.mul_add]
        have e : B64^k * (gd Y k * wv X) = wv X * (B64^k * Y.getD k 0) := by
          show B64^k * (Y.getD k 0 * wv X) = _
          rw [← Nat.mul_assoc, Nat.mul_comm]
        omega
      have hcall2 : Calls Tryz.prog 72 #[.slice (some ⟨w.heap.size, k, none⟩) (n2 - k) (n2 - k), .slice (some ⟨b1, o1, none⟩) n c1, .int .u64 (gd Y k : Nat)] wr (ProdQ (Z.drop k) X (gd Y k) w.heap.size k wr) := by
        rw [List.length_drop, hA.len, lX, ← hn2] at hcall; exact hcall
      have HC := Lib.hid hcall2; clear hcall hcall2
      have hkn2 : k < n2 := by omega
      have hHN := Lib.hid (And.intro hn (And.intro lX (And.intro lY hn2))); clear hn lX lY hn2
      have HR := Lib.hid hR1; clear hR1
      have HS := Lib.hid hS1; clear hS1
      have HT := Lib.hid hT1; clear hT1
      go_wp2_with (refine HC.out.mono ?_; rintro e w2 ⟨Z', hA', hZ', rfl⟩)
      obtain ⟨hn, lX, lY, hn2⟩ := hHN.out
      obtain ⟨A2, U, hU, hE, hdv⟩ := hI.first hlt hA' hZ' lY
      generalize hZ2 : Z.take k ++ Z' = Z2 at *
      have hs2 := A2.only.size
      have hx2 := A2.row.cell k (by rw [A2.len]; omega)
      rw [Nat.zero_add] at hx2
      obtain ⟨q, hq⟩ : ∃ q, q = gd Z2 k * f % B64 := ⟨_, rfl⟩
      have hqlt : q < 18446744073709551616 := by rw [hq]; exact Nat.mod_lt _ B64_pos
      have eq1 : IntKind.u64.wrap (((gd Z2 k : Nat) : Int) * (f : Int)) = (q : Int) := by
        rw [show (((gd Z2 k : Nat) : Int) * (f : Int)) = ((gd Z2 k * f : Nat) : Int) by rw [Int.natCast_mul], IntKind.wrap_u64, hq]
        show _ = ((gd Z2 k * f % 18446744073709551616 : Nat) : Int)
        omega
      have hcall := addProduct_any w2.drew w.heap.size k (n2 - k) bm om cm q (Z2.drop k) M (by have := A2.row.drop k; rw [Nat.zero_add] at this; exact this.drew) (A2.only.row HT.out (by omega) (by rw [HZ.out]; omega)).drew (Wd_drop A2.wd k) hM (by omega) (by rw [HZ.out] at hs2; show bm < w2.heap.size; omega)
        hqlt (by rw [List.length_drop, A2.len]; omega) (by rw [List.length_drop, A2.len]; omega) (by omega) (by rw [List.length_drop, A2.len]; omega) ?room2
      case room2 =>
        have hxl := wv_lt X hX
        have hml := wv_lt M hM
        have hyl := wv_lt (Y.take (k+1)) (Wd_take hY _)
        rw [List.length_take, Nat.min_eq_left (by omega)] at hyl
        have h3 : B64^k * (q + 1) ≤ B64^k * B64 := Nat.mul_le_mul_left _ hqlt
        rw [show B64^k * B64 = B64^(k+1) from rfl, Nat.mul_add] at h3
        have hb := mont_bound n k (wv X * wv (Y.take (k+1)) + wv M * (U + B64^k * q)) (wv X) (wv M) (wv (Y.take (k+1))) (U + B64^k * q) (by rw [← lX]; exact hxl) (by rw [hn]; exact hml) hyl (by omega) hlt rfl
        rw [List.length_drop, A2.len]
        apply Nat.lt_of_mul_lt_mul_left (a := B64^k)
        rw [← Nat.pow_add, show k + (2*n+1-k) = 2*n+1 by omega]
        refine Nat.lt_of_le_of_lt ?_ hb
        rw [drop_div Z2 A2.wd, Nat.mul_add, ← div_of_dvd hdv, hE, Nat.mul_add, Nat.mul_left_comm (wv M), Nat.mul_comm (wv M) q]
        omega
      have hcall2 : Calls Tryz.prog 72 #[.slice (some ⟨w.heap.size, k, none⟩) (n2 - k) (n2 - k), .slice (some ⟨bm, om, none⟩) n cm, .int .u64 (q : Nat)] w2.drew (ProdQ (Z2.drop k) M q w.heap.size k w2.drew) := by
        rw [List.length_drop, A2.len, ← hn, ← hn2] at hcall; exact hcall
      have HC2 := Lib.hid hcall2; clear hcall hcall2
      have HE2 := Lib.hid (And.intro hE (And.intro hdv (And.intro hq hZ2))); clear hE hdv hq hZ2 hn lX lY hn2
      go_region_with (go_at_call 72; refine HC2.out.mono ?_; rintro e w3 ⟨Z3, hA3, hZ3, rfl⟩)
      all_goals go_wp2
      all_goals go_roundw
      all_goals first
        | exact ⟨k + 1, _, hlt, by go_num, MontI.second A2.drew hU HE2.out.1 HE2.out.2.1 hlt hA3 (by rw [← HE2.out.2.2.1]; exact hZ3) hM HF.out⟩
        | (simp [intOf]; try omega)
    · obtain rfl : k = n := by omega
      obtain ⟨U, hU, hE⟩ := hI.eqn
      rw [List.take_of_length_le (by omega)] at hE
      have hm0 : 0 < wv M := by omega
      obtain ⟨g1, g2⟩ := mont_end X Y M Z k U hx (by have h := wv_lt Y hY; rw [lY] at h; exact h) hM hn hm0 hA.len hA.wd hU hE hI.dvd
      have rT : Row wr w.heap.size k (Z.drop k) := by have := hA.row.drop k; rwa [Nat.zero_add] at this
      have lT : (Z.drop k).length = k + 1 := by rw [List.length_drop, hA.len]; omega
      obtain ⟨T, hTd⟩ : ∃ T, T = Z.drop k := ⟨_, rfl⟩
      rw [← hTd] at g1 g2 rT lT
      have wT : Wd T := by rw [hTd]; exact Wd_drop hA.wd k
      have hz2 : w.heap.size < wr.heap.size := by have := hA.only.size; have := HZ.out; omega
      have rM := hA.only.row hT1 (by omega) (by rw [HZ.out]; omega)
      have hbr : Below w.heap.size w wr := hB1.trans (hA.only.below (Nat.le_refl _) (by have := HZ.out; omega))
      have ht := trim_any wr w.heap.size k (k+1) T rT (by omega) (by omega)
      rw [lT] at ht
      have HT := Lib.hid ht; clear ht
      have en : n2 - k = k + 1 := by omega
      have HA := Lib.hid hA
      have HQ := Lib.hid (And.intro hn (And.intro lX (And.intro lY (And.intro hn2 (And.intro hE (And.intro g1 (And.intro hTd lT))))))); clear hn lX lY hn2 hE g1 hTd lT hA hI
      have HR := Lib.hid hR1; clear hR1
      have HS := Lib.hid hS1; clear hS1
      go_wp2_with fail
      refine HT.out.mono ?_
      rintro e w2 ⟨j, hj, hw, htr, rfl, rfl⟩
      have ljT : (T.take j).length = j := by rw [List.length_take]; omega
      have hj1 : j ≤ k + 1 := by have := HQ.out.2.2.2.2.2.2.2; omega
      have hcmp := compare_any wr w.heap.size k (k+1) bm om cm (T.take j) M (rT.take j) rM (Wd_take wT j) hM htr tM (by omega) (by have := HQ.out.1; omega) (by omega) (by have := HQ.out.1; omega)
      rw [ljT, ← HQ.out.1] at hcmp
      have HCM := Lib.hid hcmp; clear hcmp
      have HW := Lib.hid hw; have HL := Lib.hid ljT; clear hw ljT
      go_wp2_with fail
      refine HCM.out.mono ?_
      rintro e w3 ⟨he, hq⟩
      rw [HW.out] at he
      subst he
      have rT3 := hq.row rT
      have rM3 := hq.row rM
      have hb3 := hq.below (w.heap.size + 1)
      have hs3 : w.heap.size < w3.heap.size := Nat.lt_of_lt_of_le hz2 hb3.size
      have lT := HQ.out.2.2.2.2.2.2.2
      have hk1 := HQ.out.1
      have hTk : T.length = k + 1 := lT
      have hmk1 : wv M < B64^k := by rw [hk1]; exact wv_lt M hM
      by_cases hlt2 : wv T < wv M
      · rw [cmpv_lt hlt2]
        have HK := Lib.hid (And.intro lT (And.intro hk1 (And.intro hTk hmk1))); clear lT hk1 hTk hmk1
        go_wp2
        go_ret
        obtain ⟨lT, hk1, hTk, hmk1⟩ := HK.out
        obtain ⟨v1, v2⟩ := top_zero T k wT hTk (by omega)
        refine ⟨T.take k, w.heap.size, k, by rw [← hk1]; rfl, hs3, rT3.take k, Wd_take wT k, by rw [List.length_take, ← hk1]; omega, by rw [v1]; exact hlt2, ?_, hbr.trans (hq.below _)⟩
        rw [v1, ← hk1, HQ.out.2.2.2.2.2.1, Nat.add_mul_mod_self_left]
      · have hge : (decide (0 ≤ cmpv (wv T) (wv M))) = true := by unfold cmpv; rw [if_neg hlt2]; split <;> simp
        have hsub := subtract_any w3 w.heap.size k (k+1) bm om cm T M rT3 rM3 wT hM (by omega) (by omega) (by omega) (by omega) (by omega) (by omega) (by omega)
        rw [lT, ← hk1] at hsub
        have HS2 := Lib.hid hsub; clear hsub
        have HK := Lib.hid (And.intro lT (And.intro hk1 (And.intro hTk hmk1))); clear lT hk1 hTk hmk1
        go_wp2_with fail
        refine HS2.out.mono ?_
        rintro e w4 ⟨S, aS, vS, rfl⟩
        have VS := Lib.hid vS; clear vS
        have AS := Lib.hid aS; clear aS
        go_wp2
        go_ret
        obtain ⟨lT, hk1, hTk, hmk1⟩ := HK.out
        have aS := AS.out
        have vS := VS.out
        have lS : S.length = k + 1 := by rw [aS.len, hTk]
        obtain ⟨v1, v2⟩ := top_zero S k aS.wd lS (by omega)
        refine ⟨S.take k, w.heap.size, k, by rw [← hk1]; rfl, Nat.lt_of_lt_of_le hs3 aS.only.size, aS.row.take k, Wd_take aS.wd k, by rw [List.length_take, ← hk1]; omega, by rw [v1]; omega, ?_, (hbr.trans (hq.below _)).trans (aS.only.below (Nat.le_refl _) (by omega))⟩
        rw [v1, ← hk1]
        have e1 : wv T * B64^k = wv S * B64^k + wv M * B64^k := by rw [← vS, Nat.add_mul]
        have e2 := HQ.out.2.2.2.2.2.1
        have e3 : (wv S * B64^k + wv M * B64^k) % wv M = wv S * B64^k % wv M := Nat.add_mul_mod_self_left _ _ _
        rw [← e3, ← e1, e2, Nat.add_mul_mod_self_left]
end Go.Proofs.YtkpkifhjedlieaaGreatDoor
