/-
  The walk of nat.shiftLeft: a number times a power of 2, in a row of its own.
-/
import Derived.Test.YtkpkifhjedlieaaDoorWords
import Derived.BigQuiet
namespace Go.Proofs.YtkpkifhjedlieaaDoor
open Go.RowKit NM
theorem shl_word (c w pt : Nat) (hc : c < 2^pt) (hw : w < B64) (hp : pt < 64) :
    c ||| (w * 2^pt % B64) = c + w * 2^pt % B64 ∧ c + w * 2^pt % B64 < B64 ∧ w * 2^pt = w * 2^pt % B64 + B64 * (w / 2^(64-pt)) ∧ w / 2^(64-pt) < 2^pt := by
  have e64 : B64 = 2^(64-pt) * 2^pt := by rw [← Nat.pow_add, show 64 - pt + pt = 64 by omega]; rfl
  have hm : w * 2^pt % B64 = (w % 2^(64-pt)) * 2^pt := by rw [e64, Nat.mul_mod_mul_right]
  have hq : w * 2^pt / B64 = w / 2^(64-pt) := by rw [e64, Nat.mul_div_mul_right _ _ (Nat.pow_pos (by omega))]
  have h1 := Nat.two_pow_add_eq_or_of_lt hc (w % 2^(64-pt))
  have h2 : w % 2^(64-pt) + 1 ≤ 2^(64-pt) := Nat.mod_lt _ (Nat.pow_pos (by omega))
  have h3 : (w % 2^(64-pt) + 1) * 2^pt ≤ 2^(64-pt) * 2^pt := Nat.mul_le_mul_right _ h2
  rw [← e64, Nat.add_mul, Nat.one_mul] at h3
  refine ⟨?_, ?_, ?_, ?_⟩
  · rw [hm, Nat.or_comm, Nat.mul_comm (w % _), ← h1, Nat.add_comm]
  · rw [hm]; omega
  · have := Nat.div_add_mod (w * 2^pt) B64; rw [hq] at this; omega
  · apply (Nat.div_lt_iff_lt_mul (Nat.pow_pos (by omega))).2
    rw [← Nat.pow_add, show pt + (64 - pt) = 64 by omega]; exact hw
theorem shl_value (X Z : List Nat) (k n sk pt : Nat) (hn : n = 64 * sk + pt) (hk : k < X.length) (hZ : Z.length = X.length + sk + 1) (hp : pt < 64) (hX : Wd X) (hc : gd Z (k+sk) < 2^pt) (h0 : gd Z (k+sk+1) = 0)
    (hv : wv Z = wv (X.take k) * 2^n) :
    wv ((Z.set (k+sk) (gd Z (k+sk) + gd X k * 2^pt % B64)).set (k+sk+1) (gd X k / 2^(64-pt))) = wv (X.take (k+1)) * 2^n := by
  obtain ⟨_, _, h3, _⟩ := shl_word (gd Z (k+sk)) (gd X k) pt hc (gd_lt hX k) hp
  have s1 := wv_set Z (k+sk) (gd Z (k+sk) + gd X k * 2^pt % B64) (by omega)
  have s2 := wv_set (Z.set (k+sk) (gd Z (k+sk) + gd X k * 2^pt % B64)) (k+sk+1) (gd X k / 2^(64-pt)) (by rw [List.length_set]; omega)
  have e2 : (Z.set (k+sk) (gd Z (k+sk) + gd X k * 2^pt % B64)).getD (k+sk+1) 0 = 0 := by
    have := gd_set_other Z (k+sk) (k+sk+1) (gd Z (k+sk) + gd X k * 2^pt % B64) (by omega)
    unfold gd at *; rw [this]; exact h0
  rw [e2, Nat.mul_zero, Nat.add_zero] at s2
  rw [s2]
  have e3 : (Z.getD (k+sk) 0) = gd Z (k+sk) := rfl
  rw [e3, Nat.mul_add] at s1
  rw [wv_take_succ X k hk, Nat.add_mul, ← hv]
  have e4 : B64^k * X.getD k 0 * 2^n = B64^(k+sk) * (gd X k * 2^pt) := by
    rw [hn, Nat.pow_add, Nat.pow_add, Nat.pow_mul, show (2:Nat)^64 = B64 from rfl]
    show B64^k * gd X k * (B64^sk * 2^pt) = _
    rw [Nat.mul_assoc, Nat.mul_left_comm (gd X k), ← Nat.mul_assoc]
  generalize gd X k * 2^pt % B64 = A at *
  generalize gd X k / 2^(64-pt) = Q at *
  rw [e4, h3, Nat.mul_add]
  rw [Nat.pow_succ, Nat.mul_assoc]
  omega
structure ShlI (n b : Nat) (w : World) (X : List Nat) (k m sk pt : Nat) (Z : List Nat) (wr : World) : Prop where
  at_ : At n b 0 w Z wr
  val : wv Z = wv (X.take k) * 2^m
  low : gd Z (k+sk) < 2^pt
  zero : ∀ j, k + sk < j → gd Z j = 0
theorem ShlI.step {m b : Nat} {w wr : World} {X Z : List Nat} {k n sk pt : Nat} (h : ShlI m b w X k n sk pt Z wr) (hm : m = X.length + sk + 1) (hn : n = 64 * sk + pt) (hk : k < X.length) (hp : pt < 64) (hX : Wd X) :
    ShlI m b w X (k+1) n sk pt ((Z.set (k+sk) (gd Z (k+sk) + gd X k * 2^pt % B64)).set (k+sk+1) (gd X k / 2^(64-pt)))
      ((wr.setCell ⟨b, k+sk, none⟩ (.int .u64 (gd Z (k+sk) + gd X k * 2^pt % B64 : Nat))).setCell ⟨b, k+sk+1, none⟩ (.int .u64 (gd X k / 2^(64-pt) : Nat))).drew := by
  obtain ⟨p1, p2, p3, p4⟩ := shl_word (gd Z (k+sk)) (gd X k) pt h.low (gd_lt hX k) hp
  have hl := h.at_.len
  have a1 := h.at_.set (k+sk) (gd Z (k+sk) + gd X k * 2^pt % B64) (by omega) p2
  have a2 := a1.set (k+sk+1) (gd X k / 2^(64-pt)) (by omega) (Nat.lt_of_le_of_lt (Nat.div_le_self _ _) (gd_lt hX k))
  rw [Nat.zero_add, Nat.zero_add] at a2
  refine ⟨a2.drew, shl_value X Z k n sk pt hn hk (by omega) hp hX h.low (h.zero _ (by omega)) h.val, ?_, ?_⟩
  · rw [show k + 1 + sk = k + sk + 1 by omega, gd_set_same _ _ _ (by rw [List.length_set]; omega)]; exact p4
  · intro j hj
    rw [gd_set_other _ _ _ _ (by omega), gd_set_other _ _ _ _ (by omega)]; exact h.zero j (by omega)
def ShlQ (X : List Nat) (n : Nat) (w : World) (e : Ending) (w' : World) : Prop :=
  ∃ Z m, Own w.heap.size w' w.heap.size 0 m Z ∧ Z.length = m ∧ m = X.length + n / 64 + 1 ∧ wv Z = wv X * 2^n ∧ Below w.heap.size w w' ∧ e = .returned (.slice (some ⟨w.heap.size, 0, none⟩) m m)
set_option maxHeartbeats 2000000 in
theorem shiftLeft_any (w : World) (b o cap n : Nat) (X : List Nat) (hR : Row w b o X) (hX : Wd X) (hb : b < w.heap.size) (hn : n ≤ 35184372088832) (hl : X.length ≤ 274877906944) (hc : X.length ≤ cap) :
    Calls Tryd.prog 51 #[.slice (some ⟨b, o, none⟩) X.length cap, .int .i64 (n : Nat)] w (ShlQ X n w) := by
  obtain ⟨sk, hsk⟩ : ∃ sk, sk = n / 64 := ⟨_, rfl⟩
  obtain ⟨pt, hpt⟩ : ∃ pt, pt = n % 64 := ⟨_, rfl⟩
  have e1 : ((n : Int) / 64) = (sk : Int) := by omega
  have e2 : ((n : Int) % 64) = (pt : Int) := by omega
  have hn2 : n = 64 * sk + pt := by omega
  have hpt64 : pt < 64 := by omega
  have hskb : sk ≤ 549755813888 := by omega
  obtain ⟨m, hm⟩ : ∃ m, m = X.length + sk + 1 := ⟨_, rfl⟩
  have hmb : m ≤ 1099511627776 := by omega
  have hmk : ∀ u : World, (Instr.makeSlice 46 (.int .i64 ((X.length : Int) + (sk : Int) + 1)) (.int .i64 ((X.length : Int) + (sk : Int) + 1))).run Tryd.prog u =
    .ok (.slice (some ⟨u.heap.size, 0, none⟩) m m) (u.alloc (.cells (madeCells #[.int .u64 0] m) 56)) := fun u => by
      have := make_words m hmb u
      rw [show ((m : Nat) : Int) = (X.length : Int) + (sk : Int) + 1 by omega] at this
      exact this
  have hA0 := At.made m 56 w
  have hR1 := hR.alloc hb (.cells (madeCells #[.int .u64 0] m) 56)
  have hB1 := (Below.refl w.heap.size w).alloc (Nat.le_refl _) (.cells (madeCells #[.int .u64 0] m) 56)
  have hz : (w.alloc (.cells (madeCells #[.int .u64 0] m) 56)).heap.size = w.heap.size + 1 := by simp
  have HM := Lib.hid (And.intro hm (And.intro hsk (And.intro hpt hn2))); clear hm hsk hpt hn2 hR
  go_enter Tryd.func51, Tryd.ntmps51
  go_wp2
  generalize w.alloc (.cells (madeCells #[.int .u64 0] m) 56) = w1 at *
  rw [e2]
  clear hmk e1 e2
  have HZ := Lib.hid hz; clear hz
  go_loopw [22] (fun i wr => ∃ (k : Nat) (Z : List Nat), k ≤ X.length ∧ i = .int .i64 (k : Nat) ∧ ShlI m w.heap.size w1 X k n sk pt Z wr) (fun i _ => X.length - (intOf i).toNat)
  case atStart => exact ⟨0, _, Nat.zero_le _, rfl, hA0, by simp [wv, wv_replicate], by
    have : gd (List.replicate m 0) (0 + sk) = 0 := by simp [gd, List.getElem?_replicate]; split <;> rfl
    rw [this]; exact Nat.pow_pos (by omega), fun j _ => by simp [gd, List.getElem?_replicate]; split <;> rfl⟩
  case round =>
    obtain ⟨k, Z, hk, rfl, hI⟩ := hrel
    clear hA0
    have hA := hI.at_
    by_cases hlt : k < X.length
    · have hmm : m = X.length + sk + 1 := HM.out.1
      have hy := (hA.only.row hR1 (by omega) (by rw [HZ.out]; omega)).cell k hlt
      have hx := hA.row.cell (k+sk) (by rw [hA.len]; omega)
      have hf := hA.row.free (k+sk) (by rw [hA.len]; omega)
      have hx2 := hA.row.cell (k+sk+1) (by rw [hA.len]; omega)
      have hf2 := hA.row.free (k+sk+1) (by rw [hA.len]; omega)
      rw [Nat.zero_add] at hx hf hx2 hf2
      have hbd : k + sk + 1 < m := by omega
      have HMM := Lib.hid hmm; clear hmm
      obtain ⟨p1, p2, p3, p4⟩ := shl_word (gd Z (k+sk)) (gd X k) pt hI.low (gd_lt hX k) hpt64
      have es : bits BinOp.or IntKind.u64 ((gd Z (k+sk) : Nat) : Int) (IntKind.u64.wrap (((gd X k : Nat) : Int) * 2^pt)) = ((gd Z (k+sk) + gd X k * 2^pt % B64 : Nat) : Int) := by
        have : IntKind.u64.wrap (((gd X k : Nat) : Int) * 2^pt) = ((gd X k * 2^pt % B64 : Nat) : Int) := by
          rw [show (((gd X k : Nat) : Int) * 2^pt) = ((gd X k * 2^pt : Nat) : Int) by rw [Int.natCast_mul, Int.natCast_pow]; rfl, IntKind.wrap_u64]
          show _ = ((gd X k * 2^pt % 18446744073709551616 : Nat) : Int)
          omega
        rw [this, bits_or_u64_nat _ _ (gd_lt hA.wd _) (show gd X k * 2^pt % B64 < 18446744073709551616 from Nat.mod_lt _ B64_pos), p1]
      have HE := Lib.hid es
      have HP := Lib.hid (And.intro p2 (And.intro p3 p4)); clear es p1 p2 p3 p4
      have HR := Lib.hid hR1; clear hR1
      have e5 : ((gd X k : Nat) : Int) / 2^(64 - pt) = ((gd X k / 2^(64-pt) : Nat) : Int) := by rw [Int.natCast_ediv, Int.natCast_pow]; rfl
      have HE5 := Lib.hid e5; clear e5
      go_wp2
      go_region
      all_goals go_wp2
      all_goals rw [HE.out, HE5.out]
      all_goals go_roundw
      case rel =>
        obtain ⟨m1, _, _, m4⟩ := HM.out
        exact ⟨k + 1, _, hlt, by go_num, hI.step m1 m4 hlt hpt64 hX⟩
      case measure => (simp [intOf]; try omega)
    · obtain rfl : k = X.length := by omega
      have HR := Lib.hid hR1; clear hR1
      go_wp2
      go_ret
      obtain ⟨m1, m2, m3, m4⟩ := HM.out
      have hz2 : w.heap.size < wr.heap.size := by have := hA.only.size; have := HZ.out; omega
      refine ⟨Z, m, ⟨Nat.le_refl _, hz2, hA.row, hA.wd, by rw [hA.len]; exact Nat.le_refl _⟩, hA.len, by rw [m1, m2], ?_, hB1.trans (hA.only.below (Nat.le_refl _) (by have := HZ.out; omega)), rfl⟩
      have := hI.val
      rwa [List.take_length] at this
end Go.Proofs.YtkpkifhjedlieaaDoor
