/-
  The walk of the iterator over the binary digits of an exponent.
-/
import Derived.Test.YtkpkifhjedlieaaDoorTopC
import Derived.RangeFuncNested
import Derived.RangeFuncBound
import Derived.RangeFuncCalls
import Derived.RangeFuncLeaves
import Derived.RangeFuncFrom
import Derived.Shelf.Abstract
import Derived.Shelf.RegionOpen
import Derived.OwnWalkIn
import Derived.TacticsInMore
import Derived.LoopNIn
import Derived.LoopIn
namespace Go.Proofs.YtkpkifhjedlieaaDoor
open Go.RowKit NM Go.Shelf
attribute [local go_sem] Oper.semAt_some
/-- a number's value by its binary digits -/
def bval (l : List Bool) : Nat := l.foldl (fun n b => 2*n + b.toNat) 0
theorem bval_snoc (l : List Bool) (b : Bool) : bval (l ++ [b]) = 2 * bval l + b.toNat := by simp [bval]
/-- digit p of a number -/
def dig (N p : Nat) : Bool := decide (N / 2^p % 2 = 1)
theorem bval_step (N n k : Nat) (pre : List Bool) (hk : k < n) (h : bval pre = N / 2^(n-k)) : bval (pre ++ [dig N (n-1-k)]) = N / 2^(n-(k+1)) := by
  rw [bval_snoc, h]
  have e : n - k = (n-1-k) + 1 := by omega
  rw [e, Nat.pow_succ, ← Nat.div_div_eq_div_mul, show n - (k+1) = n-1-k by omega]
  unfold dig
  generalize N / 2^(n-1-k) = M
  by_cases hm : M % 2 = 1
  · simp [hm]; omega
  · simp [hm]; omega
/-- the byte that holds digit p -/
theorem byte_of (s : ByteArray) (q : Nat) (h : q < s.size) : ((s[s.size - 1 - q]'(by omega)).toNat) = byteAt (sv s) q := by
  have h1 := byte_at s (s.size - 1 - q) (by omega)
  generalize s[s.size - 1 - q]'(by omega) = x at h1
  unfold sv byteAt
  have hl : s.data.toList.length = s.size := len_size s
  generalize s.data.toList = l at h1 hl
  have hlt : s.size - 1 - q < l.length := by omega
  have e : l = l.take (s.size - 1 - q) ++ x :: l.drop (s.size - 1 - q + 1) := by
    rw [List.getElem?_eq_getElem hlt] at h1
    have h2 : l[s.size - 1 - q] = x := Option.some.inj h1
    rw [← h2, ← List.drop_eq_getElem_cons hlt, List.take_append_drop]
  rw [e, bv_append, bv_cons]
  have hd : (l.drop (s.size - 1 - q + 1)).length = q := by rw [List.length_drop]; omega
  have hy := bv_lt (l.drop (s.size - 1 - q + 1))
  rw [hd] at hy
  rw [List.length_cons, hd, Nat.pow_succ]
  have hx := x.toNat_lt
  have hp : 0 < 256^q := Nat.pow_pos (by omega)
  have key : ∀ A B C P : Nat, A * (P*256) + (B*P + C) = C + P*(A*256 + B) := by
    intro A B C P; rw [Nat.mul_add, Nat.mul_left_comm A P 256, Nat.mul_comm P B]; omega
  rw [key]
  rw [Nat.add_mul_div_left _ _ hp, Nat.div_eq_of_lt hy, Nat.zero_add]
  omega
theorem bit_of (N p : Nat) : byteAt N (p/8) / 2^(p%8) % 2 = N / 2^p % 2 := by
  unfold byteAt
  have hp : p = 8*(p/8) + p%8 := (Nat.div_add_mod p 8).symm
  conv => rhs; rw [hp, Nat.pow_add, ← Nat.div_div_eq_div_mul, Nat.pow_mul]
  rw [show (2:Nat)^8 = 256 from rfl]
  generalize N / 256^(p/8) = M
  have hr : p % 8 < 8 := Nat.mod_lt _ (by omega)
  rw [show (256:Nat) = 2^(p%8) * 2^(8 - p%8) by rw [← Nat.pow_add, show p%8 + (8 - p%8) = 8 by omega]]
  rw [Nat.mod_mul_right_div_self]
  apply Nat.mod_mod_of_dvd
  exact ⟨2^(7 - p%8), by rw [← Nat.pow_succ']; congr 1; omega⟩
theorem bl_size (s : ByteArray) : bl (sv s) ≤ 8 * s.size := by
  unfold bl
  by_cases h : sv s = 0
  · rw [if_pos h]; omega
  · rw [if_neg h]
    have h1 := Nat.log2_self_le h
    have h2 : sv s < 256^s.size := by have := bv_lt s.data.toList; rw [len_size] at this; exact this
    apply Nat.succ_le_of_lt
    rw [← Nat.pow_lt_pow_iff_right (by decide : 1 < 2), Nat.pow_mul]
    exact Nat.lt_of_le_of_lt h1 h2
theorem bit_walk (x N p : Nat) (hx : x < 256) (h : x = byteAt N (p/8)) : (bits BinOp.and IntKind.u8 ((x : Int) / 2^(p%8)) 1 == 1) = dig N p := by
  have e : ((x : Int) / 2^(p%8)) = ((x / 2^(p%8) : Nat) : Int) := by rw [Int.natCast_ediv, Int.natCast_pow]; rfl
  have hle := Nat.div_le_self x (2^(p%8))
  rw [e, show (1 : Int) = ((1 : Nat) : Int) from rfl, u8_and_nat _ _ (by omega) (by omega), Nat.and_one_is_mod]
  unfold dig
  rw [← bit_of N p, ← h]
  generalize x / 2^(p%8) = y
  by_cases hy : y % 2 = 1
  · rw [hy]; rfl
  · have : y % 2 = 0 := by omega
    rw [this]; rfl
/-- a variable holds what it held -/
def KeepBox (Be : Nat) (A B : World) : Prop := B.cell? ⟨Be, 0, none⟩ = A.cell? ⟨Be, 0, none⟩
set_option maxRecDepth 100000 in
set_option maxHeartbeats 2000000 in
theorem digits_stops (n : Nat) (hn : 3 ≤ n) (Be : Nat) (s : ByteArray) (hs : s.size ≤ 4294967296) (w : World) (hBe : Be < w.heap.size) (hbox : w.cell? ⟨Be, 0, none⟩ = some (.string s)) :
    SeqStopsK Fence.wide n Tryd.prog 77 #[.pointer (some ⟨Be, 0, none⟩)] (fun b : Bool => #[.bool b]) (KeepBox Be) (fun xs => bval xs = sv s) (fun _ => True) (bl (sv s)) w := by
  intro l J Jx W hW hJ hJx hY h0
  have hbox0 : W.cell? ⟨Be, 0, none⟩ = some (.string s) := (hW.cell (p := ⟨Be, 0, none⟩) (by show Be < _; omega)).trans hbox
  refine callsIn_of_wp Tryd.func77 rfl trivial ?_ rfl
  simp only [Tryd.ntmps77, List.size_toArray, List.length_cons, List.length_nil, Nat.reduceAdd, Nat.reduceSub, Array.replicate_succ, Array.replicate_zero, List.push_toArray, List.append_toArray, List.nil_append, List.cons_append]
  have HY := Lib.hid hY; clear hY
  have hbl := bl_size s
  have hblc : bl (sv s) ≤ 34359738368 := by omega
  obtain ⟨N, hN⟩ : ∃ N, N = bl (sv s) := ⟨_, rfl⟩
  have hB := Bits_any W s hs
  rw [← hN] at HY hbl hblc hB
  have HB := Lib.hid hB; clear hB
  have HN := Lib.hid hN; clear hN
  gi_wp2_with (refine ⟨trivial, fun _ => by omega, ?_⟩; refine (callsIn_wide.2 HB.out).mono ?_; rintro e w' ⟨rfl, rfl⟩)
  gi_loopw [3] (fun p wr => ∃ (k : Nat) (pre : List Bool), k ≤ N ∧ p = .int .i64 ((N : Int) - 1 - (k : Int)) ∧ pre.length = k ∧ Hid (bval pre = sv s / 2^(N-k)) ∧ J pre wr ∧ Hid (wr.cell? ⟨Be, 0, none⟩ = some (.string s))) (fun p _ => (intOf p + 1).toNat)
  case atStart => exact ⟨0, [], Nat.zero_le _, by simp, rfl, by
    show _ = _
    rw [Nat.sub_zero, HN.out, Nat.div_eq_of_lt (by
      unfold bl; split
      · rename_i h; rw [h]; simp
      · exact Nat.lt_log2_self)]; rfl, h0, hbox0⟩
  case round =>
    obtain ⟨k, pre, hk, rfl, hlen, hv, hJs, hBn⟩ := hrel
    have hbx : wr.cell? ⟨Be, 0, none⟩ = some (.string s) := hBn.out
    have HBX := Lib.hid hbox0
    clear hbox hbox0
    by_cases hlt : k < N
    · obtain ⟨p, hp⟩ : ∃ p, p = N - 1 - k := ⟨_, rfl⟩
      rw [show ((N : Int) - 1 - (k : Int)) = (p : Int) by omega]
      have hpN : p < N := by omega
      have HP := Lib.hid hp; clear hp
      have HL := Lib.hid hlen
      obtain ⟨fn, tmps, assign, body, hy, hR⟩ := HY.out pre (dig (sv s) p) wr hJs (by omega)
      obtain ⟨q, hq⟩ : ∃ q, q = s.size - 1 - p/8 := ⟨_, rfl⟩
      have eq1 : ((s.size : Int) - 1 - (p : Int) / 8) = (q : Int) := by omega
      have hqs : q < s.size := by omega
      have hbyte : (s[q]'hqs).toNat = byteAt (sv s) (p/8) := by
        have := byte_of s (p/8) (by omega)
        rw [← this]; congr 2
      have HBY := Lib.hid hbyte; have HQ := Lib.hid hq
      have hbit := bit_walk _ (sv s) p (s[q]'hqs).toNat_lt hbyte
      clear hbyte hq hlen
      gi_wp2
      clear hbit eq1
      refine ⟨fun _ => by omega, ?_⟩
      refine hR.mono ?_
      rintro e W3 (⟨rfl, hJ3, hk3⟩ | ⟨rfl, hJx3⟩)
      · gi_wp2
        go_roundw
        case rel =>
          refine ⟨k + 1, pre ++ [dig (sv s) p], hlt, by have := HP.out; go_num, by rw [List.length_append, HL.out]; rfl, ?_, hJ3, hk3.trans hBn.out⟩
          show _ = _
          have := bval_step (sv s) N k pre hlt hv.out
          rwa [← HP.out] at this
        case measure => (simp [intOf]; try omega)
      · gi_wp2
        refine bodyPost_ret (results_none rfl _ _ _) rfl ?_
        exact ⟨⟨_, rfl⟩, .inr ⟨_, trivial, hJx3⟩⟩
    · obtain rfl : k = N := by omega
      rw [show ((k : Int) - 1 - (k : Int)) = -1 by omega]
      have hv2 : bval pre = sv s := by have := hv.out; rwa [Nat.sub_self, Nat.pow_zero, Nat.div_one] at this
      have HV := Lib.hid hv2; clear hv2 hv
      gi_wp2
      go_end0
      exact ⟨⟨_, rfl⟩, .inl ⟨pre, HV.out, hJs⟩⟩
end Go.Proofs.YtkpkifhjedlieaaDoor
