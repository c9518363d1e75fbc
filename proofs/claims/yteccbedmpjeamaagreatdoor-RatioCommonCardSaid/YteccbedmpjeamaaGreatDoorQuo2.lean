/-
  The walk of nat.shiftLeft: a number times a power of 2, in a row of its own.
  The walk of nat.shiftRight: a row is divided by a power of 2, in place.
  The walk of nat.divide for divisors of two words or more.
  The walks of nat.rest and nat.Quo.
-/
import Derived.Test.YteccbedmpjeamaaGreatDoorProd
import Derived.BigQuiet
import Derived.Test.YteccbedmpjeamaaGreatDoorEst
namespace Go.Proofs.YteccbedmpjeamaaGreatDoor
open Go.RowKit NM
theorem shl_word (c w pt : Nat) (hc : c < 2^pt) (hw : w < B64) (hp : pt < 64) :
    c ||| (w * 2^pt % B64) = c + w * 2^pt % B64 ∧ c + w * 2^pt % B64 < B64 ∧ w * 2^pt = w * 2^pt % B64 + B64 * (w / 2^(64-pt)) ∧ w / 2^(64-pt) < 2^pt := by
  have e64 : B64 = 2^(64-pt) * 2^pt := by rw [← Nat.pow_add, show 64 - pt + pt = 64 by omega]; rfl
  have hm : w * 2^pt % B64 = (w % 2^(64-pt)) * 2^pt := by rw [e64, Nat.mul_mod_mul_right]
  have hq : w * 2^pt / B64 = w / 2^(64-pt) := by rw [e64, Nat.mul_div_mul_right _ _ (Nat.pow_pos (by omega))]
  have h1 := Nat.two_pow_add_eq_or_of_lt hc (w % 2^(64-pt))
  have h2 : w % 2^(64-pt) + 1 ≤ 2^(64-pt) := Nat.mod_lt _ (Nat.pow_pos (by omega))
  have h3 : (w % 2^(64-pt) + 1) * 2^pt ≤ 2^(64-pt) * 2^pt := Nat.mul_le_mul_right _ h2
  rw [← e64, Nat.add_mul, Nat.one_mul] at h3
  refine ⟨?_, ?_, ?_, ?_⟩
  · rw [hm, Nat.or_comm, Nat.mul_comm (w % _), ← h1, Nat.add_comm]
  · rw [hm]; omega
  · have := Nat.div_add_mod (w * 2^pt) B64; rw [hq] at this; omega
  · apply (Nat.div_lt_iff_lt_mul (Nat.pow_pos (by omega))).2
    rw [← Nat.pow_add, show pt + (64 - pt) = 64 by omega]; exact hw
theorem shl_value (X Z : List Nat) (k n sk pt : Nat) (hn : n = 64 * sk + pt) (hk : k < X.length) (hZ : Z.length = X.length + sk + 1) (hp : pt < 64) (hX : Wd X) (hc : gd Z (k+sk) < 2^pt) (h0 : gd Z (k+sk+1) = 0)
    (hv : wv Z = wv (X.take k) * 2^n) :
    wv ((Z.set (k+sk) (gd Z (k+sk) + gd X k * 2^pt % B64)).set (k+sk+1) (gd X k / 2^(64-pt))) = wv (X.take (k+1)) * 2^n := by
  obtain ⟨_, _, h3, _⟩ := shl_word (gd Z (k+sk)) (gd X k) pt hc (gd_lt hX k) hp
  have s1 := wv_set Z (k+sk) (gd Z (k+sk) + gd X k * 2^pt % B64) (by omega)
  have s2 := wv_set (Z.set (k+sk) (gd Z (k+sk) + gd X k * 2^pt % B64)) (k+sk+1) (gd X k / 2^(64-pt)) (by rw [List.length_set]; omega)
  have e2 : (Z.set (k+sk) (gd Z (k+sk) + gd X k * 2^pt % B64)).getD (k+sk+1) 0 = 0 := by
    have := gd_set_other Z (k+sk) (k+sk+1) (gd Z (k+sk) + gd X k * 2^pt % B64) (by omega)
    unfold gd at *; rw [this]; exact h0
  rw [e2, Nat.mul_zero, Nat.add_zero] at s2
  rw [s2]
  have e3 : (Z.getD (k+sk) 0) = gd Z (k+sk) := rfl
  rw [e3, Nat.mul_add] at s1
  rw [wv_take_succ X k hk, Nat.add_mul, ← hv]
  have e4 : B64^k * X.getD k 0 * 2^n = B64^(k+sk) * (gd X k * 2^pt) := by
    rw [hn, Nat.pow_add, Nat.pow_add, Nat.pow_mul, show (2:Nat)^64 = B64 from rfl]
    show B64^k * gd X k * (B64^sk * 2^pt) = _
    rw [Nat.mul_assoc, Nat.mul_left_comm (gd X k), ← Nat.mul_assoc]
  generalize gd X k * 2^pt % B64 = A at *
  generalize gd X k / 2^(64-pt) = Q at *
  rw [e4, h3, Nat.mul_add]
  rw [Nat.pow_succ, Nat.mul_assoc]
  omega
structure ShlI (n b : Nat) (w : World) (X : List Nat) (k m sk pt : Nat) (Z : List Nat) (wr : World) : Prop where
  at_ : At n b 0 w Z wr
  val : wv Z = wv (X.take k) * 2^m
  low : gd Z (k+sk) < 2^pt
  zero : ∀ j, k + sk < j → gd Z j = 0
theorem ShlI.step {m b : Nat} {w wr : World} {X Z : List Nat} {k n sk pt : Nat} (h : ShlI m b w X k n sk pt Z wr) (hm : m = X.length + sk + 1) (hn : n = 64 * sk + pt) (hk : k < X.length) (hp : pt < 64) (hX : Wd X) :
    ShlI m b w X (k+1) n sk pt ((Z.set (k+sk) (gd Z (k+sk) + gd X k * 2^pt % B64)).set (k+sk+1) (gd X k / 2^(64-pt)))
      ((wr.setCell ⟨b, k+sk, none⟩ (.int .u64 (gd Z (k+sk) + gd X k * 2^pt % B64 : Nat))).setCell ⟨b, k+sk+1, none⟩ (.int .u64 (gd X k / 2^(64-pt) : Nat))).drew := by
  obtain ⟨p1, p2, p3, p4⟩ := shl_word (gd Z (k+sk)) (gd X k) pt h.low (gd_lt hX k) hp
  have hl := h.at_.len
  have a1 := h.at_.set (k+sk) (gd Z (k+sk) + gd X k * 2^pt % B64) (by omega) p2
  have a2 := a1.set (k+sk+1) (gd X k / 2^(64-pt)) (by omega) (Nat.lt_of_le_of_lt (Nat.div_le_self _ _) (gd_lt hX k))
  rw [Nat.zero_add, Nat.zero_add] at a2
  refine ⟨a2.drew, shl_value X Z k n sk pt hn hk (by omega) hp hX h.low (h.zero _ (by omega)) h.val, ?_, ?_⟩
  · rw [show k + 1 + sk = k + sk + 1 by omega, gd_set_same _ _ _ (by rw [List.length_set]; omega)]; exact p4
  · intro j hj
    rw [gd_set_other _ _ _ _ (by omega), gd_set_other _ _ _ _ (by omega)]; exact h.zero j (by omega)
def ShlQ (X : List Nat) (n : Nat) (w : World) (e : Ending) (w' : World) : Prop :=
  ∃ Z m, Own w.heap.size w' w.heap.size 0 m Z ∧ Z.length = m ∧ m = X.length + n / 64 + 1 ∧ wv Z = wv X * 2^n ∧ Below w.heap.size w w' ∧ e = .returned (.slice (some ⟨w.heap.size, 0, none⟩) m m)
set_option maxHeartbeats 2000000 in
theorem shiftLeft_any (w : World) (b o cap n : Nat) (X : List Nat) (hR : Row w b o X) (hX : Wd X) (hb : b < w.heap.size) (hn : n ≤ 35184372088832) (hl : X.length ≤ 274877906944) (_hc : X.length ≤ cap) :
    Calls Tryz.prog 123 #[.slice (some ⟨b, o, none⟩) X.length cap, .int .i64 (n : Nat)] w (ShlQ X n w) := by
  obtain ⟨sk, hsk⟩ : ∃ sk, sk = n / 64 := ⟨_, rfl⟩
  obtain ⟨pt, hpt⟩ : ∃ pt, pt = n % 64 := ⟨_, rfl⟩
  have e1 : ((n : Int) / 64) = (sk : Int) := by omega
  have e2 : ((n : Int) % 64) = (pt : Int) := by omega
  have hn2 : n = 64 * sk + pt := by omega
  have hpt64 : pt < 64 := by omega
  have hskb : sk ≤ 549755813888 := by omega
  obtain ⟨m, hm⟩ : ∃ m, m = X.length + sk + 1 := ⟨_, rfl⟩
  have hmb : m ≤ 1099511627776 := by omega
  have hmk : ∀ u : World, (Instr.makeSlice 91 (.int .i64 ((X.length : Int) + (sk : Int) + 1)) (.int .i64 ((X.length : Int) + (sk : Int) + 1))).run Tryz.prog u =
    .ok (.slice (some ⟨u.heap.size, 0, none⟩) m m) (u.alloc (.cells (madeCells #[.int .u64 0] m) 95)) := fun u => by
      have := make_words m hmb u
      rw [show ((m : Nat) : Int) = (X.length : Int) + (sk : Int) + 1 by omega] at this
      exact this
  have hA0 := At.made m 95 w
  have hR1 := hR.alloc hb (.cells (madeCells #[.int .u64 0] m) 95)
  have hB1 := (Below.refl w.heap.size w).alloc (Nat.le_refl _) (.cells (madeCells #[.int .u64 0] m) 95)
  have hz : (w.alloc (.cells (madeCells #[.int .u64 0] m) 95)).heap.size = w.heap.size + 1 := by simp
  have HM := Lib.hid (And.intro hm (And.intro hsk (And.intro hpt hn2))); clear hm hsk hpt hn2 hR
  go_enter Tryz.func123, Tryz.ntmps123
  go_wp2
  generalize w.alloc (.cells (madeCells #[.int .u64 0] m) 95) = w1 at *
  rw [e2]
  clear hmk e1 e2
  have HZ := Lib.hid hz; clear hz
  go_loopw [22] (fun i wr => ∃ (k : Nat) (Z : List Nat), k ≤ X.length ∧ i = .int .i64 (k : Nat) ∧ ShlI m w.heap.size w1 X k n sk pt Z wr) (fun i _ => X.length - (intOf i).toNat)
  case atStart => exact ⟨0, _, Nat.zero_le _, rfl, hA0, by simp [wv, wv_replicate], by
    have : gd (List.replicate m 0) (0 + sk) = 0 := by simp [gd, List.getElem?_replicate]; split <;> rfl
    rw [this]; exact Nat.pow_pos (by omega), fun j _ => by simp [gd, List.getElem?_replicate]; split <;> rfl⟩
  case round =>
    obtain ⟨k, Z, hk, rfl, hI⟩ := hrel
    clear hA0
    have hA := hI.at_
    by_cases hlt : k < X.length
    · have hmm : m = X.length + sk + 1 := HM.out.1
      have hy := (hA.only.row hR1 (by omega) (by rw [HZ.out]; omega)).cell k hlt
      have hx := hA.row.cell (k+sk) (by rw [hA.len]; omega)
      have hf := hA.row.free (k+sk) (by rw [hA.len]; omega)
      have hx2 := hA.row.cell (k+sk+1) (by rw [hA.len]; omega)
      have hf2 := hA.row.free (k+sk+1) (by rw [hA.len]; omega)
      rw [Nat.zero_add] at hx hf hx2 hf2
      have hbd : k + sk + 1 < m := by omega
      have HMM := Lib.hid hmm; clear hmm
      obtain ⟨p1, p2, p3, p4⟩ := shl_word (gd Z (k+sk)) (gd X k) pt hI.low (gd_lt hX k) hpt64
      have es : bits BinOp.or IntKind.u64 ((gd Z (k+sk) : Nat) : Int) (IntKind.u64.wrap (((gd X k : Nat) : Int) * 2^pt)) = ((gd Z (k+sk) + gd X k * 2^pt % B64 : Nat) : Int) := by
        have : IntKind.u64.wrap (((gd X k : Nat) : Int) * 2^pt) = ((gd X k * 2^pt % B64 : Nat) : Int) := by
          rw [show (((gd X k : Nat) : Int) * 2^pt) = ((gd X k * 2^pt : Nat) : Int) by rw [Int.natCast_mul, Int.natCast_pow]; rfl, IntKind.wrap_u64]
          show _ = ((gd X k * 2^pt % 18446744073709551616 : Nat) : Int)
          omega
        rw [this, bits_or_u64_nat _ _ (gd_lt hA.wd _) (show gd X k * 2^pt % B64 < 18446744073709551616 from Nat.mod_lt _ B64_pos), p1]
      have HE := Lib.hid es
      have HP := Lib.hid (And.intro p2 (And.intro p3 p4)); clear es p1 p2 p3 p4
      have HR := Lib.hid hR1; clear hR1
      have e5 : ((gd X k : Nat) : Int) / 2^(64 - pt) = ((gd X k / 2^(64-pt) : Nat) : Int) := by rw [Int.natCast_ediv, Int.natCast_pow]; rfl
      have HE5 := Lib.hid e5; clear e5
      go_wp2
      go_region
      all_goals go_wp2
      all_goals rw [HE.out, HE5.out]
      all_goals go_roundw
      case rel =>
        obtain ⟨m1, _, _, m4⟩ := HM.out
        exact ⟨k + 1, _, hlt, by go_num, hI.step m1 m4 hlt hpt64 hX⟩
      case measure => (simp [intOf]; try omega)
    · obtain rfl : k = X.length := by omega
      have HR := Lib.hid hR1; clear hR1
      go_wp2
      go_ret
      obtain ⟨m1, m2, m3, m4⟩ := HM.out
      have hz2 : w.heap.size < wr.heap.size := by have := hA.only.size; have := HZ.out; omega
      refine ⟨Z, m, ⟨Nat.le_refl _, hz2, hA.row, hA.wd, by rw [hA.len]; exact Nat.le_refl _⟩, hA.len, by rw [m1, m2], ?_, hB1.trans (hA.only.below (Nat.le_refl _) (by have := HZ.out; omega)), rfl⟩
      have := hI.val
      rwa [List.take_length] at this
end Go.Proofs.YteccbedmpjeamaaGreatDoor
namespace Go.Proofs.YteccbedmpjeamaaGreatDoor
open Go.RowKit NM
theorem two64 (p : Nat) (hp : p ≤ 64) : B64 = 2^p * 2^(64-p) := by rw [← Nat.pow_add, show p + (64 - p) = 64 by omega]; rfl
theorem shr_step (d M p : Nat) (hp : p < 64) : (d + B64 * M) / 2^p = (d / 2^p + 2^(64-p) * (M % 2^p)) + B64 * (M / 2^p) := by
  have h := two64 p (by omega)
  have hpos : 0 < 2^p := Nat.pow_pos (by omega)
  rw [h]
  generalize 2^(64-p) = C
  generalize 2^p = A at *
  have e1 : d + A * C * M = d + A * (C * M) := by rw [Nat.mul_assoc]
  rw [e1, Nat.add_mul_div_left _ _ hpos]
  have h2 := Nat.div_add_mod M A
  have e2 : C * M = C * (M % A) + A * C * (M / A) := by
    calc C * M = C * (A * (M / A) + M % A) := by rw [h2]
      _ = _ := by rw [Nat.mul_add, ← Nat.mul_assoc C A, Nat.mul_comm C A, Nat.add_comm]
  omega
theorem shr_word (d d1 p : Nat) (hp : p < 64) (hd : d < B64) : (d / 2^p) ||| (d1 * 2^(64-p) % B64) = d / 2^p + 2^(64-p) * (d1 % 2^p) := by
  have h := two64 p (by omega)
  have e1 : d1 * 2^(64-p) % B64 = 2^(64-p) * (d1 % 2^p) := by rw [h, Nat.mul_comm d1, Nat.mul_comm (2^p), Nat.mul_mod_mul_left]
  have hlt : d / 2^p < 2^(64-p) := by
    apply Nat.div_lt_of_lt_mul
    rw [← h]; exact hd
  rw [e1, Nat.or_comm, ← Nat.two_pow_add_eq_or_of_lt hlt, Nat.add_comm]
theorem shr_lt (d d1 p : Nat) (hp : p < 64) (hd : d < B64) : d / 2^p + 2^(64-p) * (d1 % 2^p) < B64 := by
  have h := two64 p (by omega)
  have hlt : d / 2^p < 2^(64-p) := by
    apply Nat.div_lt_of_lt_mul
    rw [← h]; exact hd
  have hm : d1 % 2^p < 2^p := Nat.mod_lt _ (Nat.pow_pos (by omega))
  have h2 : 2^(64-p) * (d1 % 2^p + 1) ≤ 2^(64-p) * 2^p := Nat.mul_le_mul_left _ hm
  rw [h, Nat.mul_comm (2^p)]
  rw [Nat.mul_add] at h2
  omega
theorem wv_mod_two (x : Nat) (M p : Nat) (hp : p < 64) : (x + B64 * M) % 2^p = x % 2^p := by
  rw [two64 p (by omega), Nat.mul_assoc, Nat.add_mul_mod_self_left]
theorem wv_div_pow (X : List Nat) (hX : Wd X) (s : Nat) (hs : s ≤ X.length) : wv X / B64^s = wv (X.drop s) := by
  have h := wv_append (X.take s) (X.drop s)
  rw [List.take_append_drop, List.length_take, Nat.min_eq_left hs] at h
  have hlt : wv (X.take s) < B64^s := by
    have := wv_lt (X.take s) (fun x hx => hX x (List.mem_of_mem_take hx))
    rwa [List.length_take, Nat.min_eq_left hs] at this
  rw [h, Nat.add_mul_div_left _ _ (Nat.pow_pos B64_pos), Nat.div_eq_of_lt hlt, Nat.zero_add]
def sw (X : List Nat) (q p : Nat) : Nat := gd X q / 2^p + 2^(64-p) * (gd X (q+1) % 2^p)
theorem shr_inv (X Y : List Nat) (k q p V : Nat) (hp : p < 64) (hk : k < Y.length) (hq : q < X.length)
    (hv : wv (Y.take k) + B64^k * (wv (X.drop q) / 2^p) = V) :
    wv ((Y.set k (sw X q p)).take (k+1)) + B64^(k+1) * (wv (X.drop (q+1)) / 2^p) = V := by
  have h1 := wv_take_succ (Y.set k (sw X q p)) k (by rw [List.length_set]; exact hk)
  have h2 : (Y.set k (sw X q p)).take k = Y.take k := by
    rw [List.take_set_of_le (Nat.le_refl k)]
  have h3 : (Y.set k (sw X q p)).getD k 0 = sw X q p := gd_set_same _ _ _ hk
  have h4 := wv_drop_cons X q hq
  have hm : wv (X.drop (q+1)) % 2^p = gd X (q+1) % 2^p := by
    by_cases h : q + 1 < X.length
    · rw [wv_drop_cons X (q+1) h, wv_mod_two _ _ _ hp]; rfl
    · rw [List.drop_eq_nil_of_le (by omega), show gd X (q+1) = 0 by simp [gd, List.getElem?_eq_none (show X.length ≤ q+1 by omega)]]; rfl
  have h5 := shr_step (X.getD q 0) (wv (X.drop (q+1))) p hp
  rw [← h4, hm] at h5
  rw [h1, h2, h3, ← hv, h5, Nat.pow_succ, Nat.mul_add, Nat.mul_assoc, Nat.add_assoc]
  rfl
def ShrAQ (X : List Nat) (n b o cap : Nat) (w : World) (e : Ending) (w' : World) : Prop :=
  ∃ (Z : List Nat) (k : Nat), At X.length b o w Z w' ∧ k ≤ X.length ∧ Tr (Z.take k) ∧ wv (Z.take k) = wv X / 2^n ∧ e = .returned (.slice (some ⟨b, o, none⟩) k cap)
set_option maxRecDepth 100000 in
set_option maxHeartbeats 2000000 in
theorem shiftRight_any (w : World) (b o cap n : Nat) (X : List Nat) (hR : Row w b o X) (hX : Wd X) (hn : n ≤ 35184372088832) (hl : X.length ≤ 274877906944) (hc : X.length ≤ cap) :
    Calls Tryz.prog 122 #[.slice (some ⟨b, o, none⟩) X.length cap, .int .i64 (n : Nat)] w (ShrAQ X n b o cap w) := by
  obtain ⟨L, hL⟩ : ∃ L, L = X.length := ⟨_, rfl⟩
  obtain ⟨s, hs⟩ : ∃ s, s = min (n / 64) L := ⟨_, rfl⟩
  obtain ⟨p, hp⟩ : ∃ p, p = n % 64 := ⟨_, rfl⟩
  have hsL : s ≤ L := by omega
  have hp64 : p < 64 := by omega
  have e1 : min ((n : Int) / 64) (L : Int) = (s : Int) := by omega
  have e2 : (n : Int) % 64 = (p : Int) := by omega
  have hA0 := At.start hX hR
  rw [← hL] at hA0 hl hc
  have HL := Lib.hid (And.intro hL (And.intro hs (And.intro hp hn)))
  rw [← hL]
  clear hL hs hp
  have HR := Lib.hid hR; have HX := Lib.hid hX; clear hR
  go_enter Tryz.func122, Tryz.ntmps122
  go_wp2_with fail
  simp only [e2]
  clear e1 e2 hn
  go_loopw [7] (fun i wr => ∃ (k q : Nat) (Y : List Nat), q ≤ L ∧ q = s + k ∧ i = .int .i64 (q : Nat) ∧ At L b o w Y wr ∧ Hid (wv (Y.take k) + B64^k * (wv (X.drop q) / 2^p) = wv (X.drop s) / 2^p) ∧ Hid (∀ j, k ≤ j → gd Y j = gd X j)) (fun i _ => L - (intOf i).toNat)
  case atStart => exact ⟨0, s, X, hsL, by omega, rfl, hA0, Lib.hid (by simp [wv]), Lib.hid (fun _ _ => rfl)⟩
  case round =>
    obtain ⟨k, q, Y, hqL, hq, rfl, hA, hv, hg⟩ := hrel
    by_cases hlt : q < L
    · have hx := hA.row.cell q (by rw [hA.len]; exact hlt)
      have hkL : k < L := by omega
      have hst := hA.row.free k (by rw [hA.len]; exact hkL)
      have hsc := hA.row.cell k (by rw [hA.len]; exact hkL)
      have hqs : (q : Int) - (s : Int) = (k : Int) := by omega
      have hy := hA.row.cell (q+1)
      have hlt3 : decide ((q : Int) < (L : Int)) = true := by simp; omega
      have HQ := Lib.hid hq; clear hq
      by_cases hlt2 : q + 1 < L
      · have hy := hy (by rw [hA.len]; exact hlt2)
        have es : bits BinOp.or IntKind.u64 (((gd Y q : Nat) : Int) / 2^p) (IntKind.u64.wrap (((gd Y (q+1) : Nat) : Int) * 2^(64-p))) = ((sw X q p : Nat) : Int) := by
          have g1 := hg.out q (by have := HQ.out; omega)
          have g2 := hg.out (q+1) (by have := HQ.out; omega)
          have hd := gd_lt HX.out q
          have a1 : (((gd X q : Nat) : Int) / 2^p) = ((gd X q / 2^p : Nat) : Int) := by rw [Int.natCast_ediv, Int.natCast_pow]; rfl
          have a2 : IntKind.u64.wrap (((gd X (q+1) : Nat) : Int) * 2^(64-p)) = ((gd X (q+1) * 2^(64-p) % B64 : Nat) : Int) := by
            rw [show (((gd X (q+1) : Nat) : Int) * 2^(64-p)) = ((gd X (q+1) * 2^(64-p) : Nat) : Int) by rw [Int.natCast_mul, Int.natCast_pow]; rfl, IntKind.wrap_u64]
            show _ = ((gd X (q+1) * 2^(64-p) % 18446744073709551616 : Nat) : Int)
            omega
          rw [g1, g2, a1, a2, bits_or_u64_nat _ _ (Nat.lt_of_le_of_lt (Nat.div_le_self _ _) hd) (show gd X (q+1) * 2^(64-p) % B64 < 18446744073709551616 from Nat.mod_lt _ B64_pos), shr_word _ _ _ hp64 hd]
          rfl
        have HE := Lib.hid es
        have HI := Lib.hid (And.intro (shr_inv X Y k q p _ hp64 (by rw [hA.len]; exact hkL) (by rw [← HL.out.1]; exact hlt) hv.out) (shr_lt (gd X q) (gd X (q+1)) p hp64 (gd_lt HX.out q)))
        clear es
        go_wp2
        rw [HE.out]
        exact ⟨⟨k + 1, q + 1, _, hlt, by have := HQ.out; omega, by go_num, hA.set k _ hkL HI.out.2, Lib.hid HI.out.1, Lib.hid (fun j hj => by rw [← hg.out j (by omega)]; exact gd_set_other _ _ _ _ (by omega))⟩, by simp [intOf]; omega⟩
      · have hz : gd X (q+1) = 0 := by
          have := HL.out.1
          simp [gd, List.getElem?_eq_none (show X.length ≤ q+1 by omega)]
        have es : (((gd Y q : Nat) : Int) / 2^p) = ((sw X q p : Nat) : Int) := by
          have g1 := hg.out q (by have := HQ.out; omega)
          rw [g1]
          unfold sw
          rw [hz, Nat.zero_mod, Nat.mul_zero, Nat.add_zero, Int.natCast_ediv, Int.natCast_pow]; rfl
        have hd4 : decide ((q : Int) + 1 < (L : Int)) = false := by simp; omega
        have HE := Lib.hid es
        have HI := Lib.hid (And.intro (shr_inv X Y k q p _ hp64 (by rw [hA.len]; exact hkL) (by rw [← HL.out.1]; exact hlt) hv.out) (shr_lt (gd X q) (gd X (q+1)) p hp64 (gd_lt HX.out q)))
        clear es hz hy
        go_wp2
        rw [HE.out]
        exact ⟨⟨k + 1, q + 1, _, hlt, by have := HQ.out; omega, by go_num, hA.set k _ hkL HI.out.2, Lib.hid HI.out.1, Lib.hid (fun j hj => by rw [← hg.out j (by omega)]; exact gd_set_other _ _ _ _ (by omega))⟩, by simp [intOf]; omega⟩
    · have hq2 : q = L := by omega
      have hd4 : decide ((q : Int) < (L : Int)) = false := by simp; omega
      have hLs : (L : Int) - (s : Int) = ((L - s : Nat) : Int) := by omega
      have hkk : k = L - s := by omega
      have hnn : s < L → n / 64 = s := by have := HL.out; omega
      have hfin : wv (Y.take (L - s)) = wv X / 2^n := by
        have h1 := hv.out
        rw [List.drop_eq_nil_of_le (by rw [← HL.out.1]; omega), show wv [] = 0 from rfl, Nat.zero_div, Nat.mul_zero, Nat.add_zero, hkk] at h1
        rw [h1]
        by_cases hsl : s < L
        · have h2 : n = 64 * s + p := by have := HL.out; have := hnn hsl; omega
          rw [h2, Nat.pow_add, Nat.pow_mul, ← Nat.div_div_eq_div_mul, show (2^64) = B64 from rfl, wv_div_pow X HX.out s (by rw [← HL.out.1]; exact hsL)]
        · have h3 : X.drop s = [] := List.drop_eq_nil_of_le (by rw [← HL.out.1]; omega)
          have h4 : wv X < 2^n := by
            have h5 := wv_lt X HX.out
            have h6 : B64^X.length = 2^(64 * X.length) := by rw [Nat.pow_mul]; rfl
            rw [h6] at h5
            have h7 : 64 * X.length ≤ n := by have := HL.out; omega
            exact Nat.lt_of_lt_of_le h5 (Nat.pow_le_pow_right (by omega) h7)
          rw [h3, Nat.div_eq_of_lt h4]
          simp [wv]
      have hlen : (Y.take (L - s)).length = L - s := by rw [List.length_take, hA.len]; omega
      have HT := trim_any wr b o cap (Y.take (L - s)) (hA.row.take _) (by rw [hlen]; omega) (by rw [hlen]; omega)
      rw [hlen] at HT
      have HT := Lib.hid HT
      have HF := Lib.hid (And.intro hfin hlen)
      have hsum : L - s ≤ cap := by omega
      clear hfin hlen hkk hq hq2 hnn
      generalize hm : L - s = m at *
      have HMm := Lib.hid hm
      clear hm
      go_wp2_with fail
      refine HT.out.mono ?_
      rintro e w2 ⟨z, z1, z2, z3, rfl, rfl⟩
      go_wp2
      go_ret
      have e5 : (Y.take m).take z = Y.take z := by rw [List.take_take, Nat.min_eq_left (by have := HF.out.2; omega)]
      rw [e5] at z2 z3
      exact ⟨Y, z, by rw [← HL.out.1]; exact hA, by have := HF.out.2; have := HMm.out; have := HL.out.1; omega, z3, z2.trans HF.out.1, rfl⟩
end Go.Proofs.YteccbedmpjeamaaGreatDoor
namespace Go.Proofs.YteccbedmpjeamaaGreatDoor
open Go.RowKit NM
/-- what the shift of the divisor gives -/
theorem top_shift (Y D : List Nat) (n s : Nat) (hY : Wd Y) (tY : Tr Y) (lY : Y.length = n) (hn : 2 ≤ n) (hs : s + Lib.bitLen (gd Y (n-1)) = 64) (hD : Wd D) (tD : Tr D) (hv : wv D = wv Y * 2^s) :
    D.length = n ∧ 9223372036854775808 ≤ gd D (n-1) ∧ 9223372036854775808 * B64^(n-1) ≤ wv D := by
  have ht64 := gd_lt hY (n-1)
  have htop : gd Y (n-1) ≠ 0 := by
    have h := tY
    unfold Tr at h
    rw [lY] at h
    intro h2
    apply h
    rw [List.getD_eq_getElem?_getD, List.getElem?_eq_getElem (by omega)]
    rw [gd_eq, List.getD_eq_getElem?_getD, List.getElem?_eq_getElem (by omega)] at h2
    exact h2
  obtain ⟨b1, b2, b3⟩ := Lib.bitLenAux_bounds 64 (gd Y (n-1)) ht64 htop
  have e : Lib.bitLenAux 64 (gd Y (n-1)) = Lib.bitLen (gd Y (n-1)) := rfl
  rw [e] at b1 b2 b3
  have hsp := wv_split Y (n-1) (by omega)
  rw [wv_drop_cons Y (n-1) (by omega), List.drop_eq_nil_of_le (by omega), show wv [] = 0 from rfl, Nat.mul_zero, Nat.add_zero] at hsp
  have hA := take_lt Y hY (n-1) (by omega)
  have et : Y.getD (n-1) 0 = gd Y (n-1) := rfl
  rw [et] at hsp
  generalize gd Y (n-1) = t at *
  generalize wv (Y.take (n-1)) = A at *
  have k1 : 2^(Lib.bitLen t - 1) * 2^s ≤ t * 2^s := Nat.mul_le_mul_right _ b2
  rw [← Nat.pow_add, show Lib.bitLen t - 1 + s = 63 by omega] at k1
  have k2 : (t + 1) * 2^s ≤ 2^(Lib.bitLen t) * 2^s := Nat.mul_le_mul_right _ b3
  rw [← Nat.pow_add, show Lib.bitLen t + s = 64 by omega] at k2
  have lo : 9223372036854775808 * B64^(n-1) ≤ wv D := by
    rw [hv, hsp, Nat.add_mul]
    have e1 : B64^(n-1) * t * 2^s = t * 2^s * B64^(n-1) := by rw [Nat.mul_assoc, Nat.mul_comm]
    have e0 : (2:Nat)^63 = 9223372036854775808 := by decide
    have e2 : 9223372036854775808 * B64^(n-1) ≤ t * 2^s * B64^(n-1) := Nat.mul_le_mul_right _ (by omega)
    omega
  have hi : wv D < B64^n := by
    rw [hv, hsp]
    have e1 : (A + B64^(n-1) * t) * 2^s < (B64^(n-1) * (t + 1)) * 2^s := Nat.mul_lt_mul_of_pos_right (by rw [Nat.mul_add]; omega) (Nat.pow_pos (by omega))
    have e2 : (B64^(n-1) * (t + 1)) * 2^s ≤ B64^(n-1) * 2^64 := by rw [Nat.mul_assoc]; exact Nat.mul_le_mul_left _ k2
    have e3 : B64^(n-1) * 2^64 = B64^n := by
      obtain ⟨m, rfl⟩ : ∃ m, n = m + 1 := ⟨n - 1, by omega⟩
      rw [Nat.pow_succ]; rfl
    omega
  have hlen : D.length = n := by
    have hne : D ≠ [] := by
      intro h; rw [h] at lo
      have : 0 < B64^(n-1) := Nat.pow_pos B64_pos
      have : wv [] = 0 := rfl
      omega
    have h1 := Tr_lt tD hne
    have h2 := wv_lt D hD
    have h3 : B64^(D.length - 1) < B64^n := by omega
    have h4 := (Nat.pow_lt_pow_iff_right (by decide : 1 < B64)).1 h3
    have h5 : B64^(n-1) < B64^D.length := by
      have : 0 < B64^(n-1) := Nat.pow_pos B64_pos
      omega
    have h6 := (Nat.pow_lt_pow_iff_right (by decide : 1 < B64)).1 h5
    omega
  refine ⟨hlen, ?_, lo⟩
  have hsD := wv_split D (n-1) (by omega)
  rw [wv_drop_cons D (n-1) (by omega), List.drop_eq_nil_of_le (by omega), show wv [] = 0 from rfl, Nat.mul_zero, Nat.add_zero] at hsD
  have hAD := take_lt D hD (n-1) (by omega)
  have eD : D.getD (n-1) 0 = gd D (n-1) := rfl
  rw [eD] at hsD
  have h7 : B64^(n-1) * 9223372036854775808 < B64^(n-1) * (gd D (n-1) + 1) := by rw [Nat.mul_comm]; rw [Nat.mul_add]; omega
  have := Nat.lt_of_mul_lt_mul_left h7
  omega
set_option maxRecDepth 100000 in
set_option maxHeartbeats 4000000 in
theorem divide_big (w : World) (b o cap b2 o2 cap2 : Nat) (X Y : List Nat) (hR : Row w b o X) (hS : Row w b2 o2 Y) (hX : Wd X) (hY : Wd Y) (tX : Tr X) (tY : Tr Y) (hb : b < w.heap.size) (hb2 : b2 < w.heap.size)
    (hc : X.length ≤ cap) (hc2 : Y.length ≤ cap2) (hYb : Y.length ≤ 9223372036854775807) (hcap : cap ≤ 1099511627776) (hXl : X.length ≤ 274877906943) (h1 : 2 ≤ Y.length) :
    Calls Tryz.prog 120 #[.slice (some ⟨b, o, none⟩) X.length cap, .slice (some ⟨b2, o2, none⟩) Y.length cap2] w (DivideQ X Y b o w) := by
  have hcmp := compare_any w b o cap b2 o2 cap2 X Y hR hS hX hY tX tY (by omega) hYb hc hc2
  have HC := Lib.hid hcmp; clear hcmp
  by_cases hlt : wv X < wv Y
  · have hn1 := cmpv_lt hlt
    have H1 := Lib.hid h1; clear h1
    go_enter Tryz.func120, Tryz.ntmps120
    go_wp2_with fail
    refine HC.out.mono ?_
    rintro e w1 ⟨rfl, hq⟩
    rw [hn1]
    have HN := Lib.hid hn1; clear hn1
    go_wp2
    go_ret2
    have hb1 := hq.below (w.heap.size)
    exact ⟨_, _, rfl, .inr ⟨rfl, Nat.div_eq_of_lt hlt⟩, ⟨b, o, cap, X, rfl, Nat.lt_of_lt_of_le hb hb1.size, hq.row hR, hX, hc, by omega, tX, (Nat.mod_eq_of_lt hlt).symm⟩, hq.only _ _ _, .inl rfl⟩
  · have hge : (decide (cmpv (wv X) (wv Y) < 0)) = false := by unfold cmpv; rw [if_neg hlt]; split <;> simp
    have hlen := Tr_len_le hX tY (Nat.le_of_not_lt hlt)
    obtain ⟨n, hn⟩ : ∃ n, n = Y.length := ⟨_, rfl⟩
    obtain ⟨l, hl⟩ : ∃ l, l = X.length := ⟨_, rfl⟩
    have ht64 := gd_lt hY (n-1)
    obtain ⟨s, hs⟩ : ∃ s, s = 64 - Lib.bitLen (gd Y (n-1)) := ⟨_, rfl⟩
    have hbl : Lib.bitLen (gd Y (n-1)) ≤ 64 := Lib.bitLen_le _ 64 (Nat.le_refl _) ht64
    have htop : gd Y (n-1) ≠ 0 := by
      have h := tY
      unfold Tr at h
      rw [← hn] at h
      intro h2
      apply h
      rw [List.getD_eq_getElem?_getD, List.getElem?_eq_getElem (by omega)]
      rw [gd_eq, List.getD_eq_getElem?_getD, List.getElem?_eq_getElem (by omega)] at h2
      exact h2
    have hbl1 : 1 ≤ Lib.bitLen (gd Y (n-1)) := by
      have := (Lib.bitLenAux_bounds 64 (gd Y (n-1)) ht64 htop).1
      exact this
    have hs2 : s + Lib.bitLen (gd Y (n-1)) = 64 := by omega
    have hs63 : s ≤ 63 := by omega
    have hlz : ∀ W, Calls Tryz.prog 131 #[.int .u64 ((gd Y (n-1) : Nat) : Int)] W fun e w' => e = .returned (.int .i64 (s : Nat)) ∧ W = w' := fun W => by
      have := Tryz.bits_LeadingZeros64 ((gd Y (n-1) : Nat) : Int) W (by omega) (by omega)
      rw [Int.toNat_natCast, show (64 - (Lib.bitLen (gd Y (n-1)) : Int)) = (s : Int) by omega] at this
      exact this.mono fun _ _ ⟨a, b⟩ => ⟨a, b.symm⟩
    have HLZ := Lib.hid hlz; clear hlz
    have HT := Lib.hid (And.intro hs2 (And.intro htop (And.intro ht64 (And.intro hbl1 hbl)))); clear hs2 htop hbl1 hs hbl
    have hnb : ((n : Int) == 1) = false := beq_eq_false_iff_ne.2 (by omega)
    have hln : n ≤ l := by omega
    rw [← hn] at hc2 h1 HC ⊢
    rw [← hl] at hc hXl HC ⊢
    have HL := Lib.hid (And.intro hn (And.intro hl hlen)); clear hn hl hlen
    go_enter Tryz.func120, Tryz.ntmps120
    go_wp2_with fail
    refine HC.out.mono ?_
    rintro e w1 ⟨rfl, hq⟩
    have hb1 := hq.below w.heap.size
    have hy := (hq.row hS).cell (n-1) (by have := HL.out; omega)
    have HQ := Lib.hid hq; clear hq
    go_wp2_with (go_at_call 131; refine (HLZ.out _).mono ?_; rintro e w2 ⟨rfl, rfl⟩)
    have hSL := shiftLeft_any w1 b o cap s X (HQ.out.row hR) hX (Nat.lt_of_lt_of_le hb hb1.size) (by omega) (by have := HL.out; omega) (by have := HL.out; omega)
    have hSL2 := fun W (hbw : Below w1.heap.size w1 W) => shiftLeft_any W b2 o2 cap2 s Y ((HQ.out.row hS).below hbw (Nat.lt_of_lt_of_le hb2 hb1.size)) hY (Nat.lt_of_lt_of_le (Nat.lt_of_lt_of_le hb2 hb1.size) hbw.size) (by omega) (by have := HL.out; omega) (by have := HL.out; omega)
    rw [← HL.out.2.1] at hSL
    rw [← HL.out.1] at hSL2
    have HS1 := Lib.hid hSL; have HS2 := Lib.hid hSL2; clear hSL hSL2
    refine HS1.out.mono ?_
    rintro e w2 ⟨L, N, oL, lL, mN, vL, bL, rfl⟩
    replace mN : N = l + 1 := by have := HL.out; omega
    have HNL := Lib.hid (And.intro lL (And.intro mN vL)); clear lL mN vL
    go_wp2_with fail
    refine (HS2.out w2 bL).mono ?_
    rintro e w3 ⟨V, M, oV, lV, mM, vV, bV, rfl⟩
    have HMV := Lib.hid (And.intro lV (And.intro mM vV)); clear lV mM vV
    have ht := trim_any w3 w2.heap.size 0 M V oV.row (by have := HMV.out; have := HL.out; omega) (by rw [HMV.out.1]; exact Nat.le_refl _)
    rw [HMV.out.1] at ht
    have HTR := Lib.hid ht; clear ht
    go_wp2_with fail
    refine HTR.out.mono ?_
    rintro e w4 ⟨k, hk, wk, tk, rfl, rfl⟩
    have hts := top_shift Y (V.take k) n s hY tY HL.out.1.symm h1 HT.out.1 (Wd_take oV.wd k) tk (wk.trans HMV.out.2.2)
    have hkn : k = n := by have := hts.1; rw [List.length_take] at this; omega
    clear hk
    subst hkn
    have rD : Row w3 w2.heap.size 0 (V.take k) := oV.row.take k
    have wD : Wd (V.take k) := Wd_take oV.wd k
    have hcM : k ≤ M := by have := HMV.out; have := HL.out; omega
    have HW := Lib.hid (wk.trans HMV.out.2.2); clear wk tk
    have HM1 := Lib.hid (HMV.out.1)
    have rL : Row w3 w1.heap.size 0 L := oL.row.below bV oL.lt
    have s1 : w1.heap.size < w2.heap.size := oL.lt
    have s2 : w2.heap.size < w3.heap.size := oV.lt
    have s0 : w.heap.size ≤ w1.heap.size := hb1.size
    have wL := oL.wd
    have hbel : Below w.heap.size w w3 := (hb1.trans (bL.mono s0)).trans (bV.mono (by omega))
    clear oL oV HS1 HS2 HTR hy bL bV
    generalize V.take k = D at *
    generalize w1.heap.size = bl at *
    generalize w2.heap.size = bd at *
    obtain ⟨Mq, hMq⟩ : ∃ Mq, Mq = N - k := ⟨_, rfl⟩
    have hsub : ((N : Int) - (k : Int)) = (Mq : Int) := by have := HNL.out.2.1; omega
    have hMqb : Mq ≤ 1099511627776 := by have := HNL.out.2.1; omega
    have hmk : ∀ u : World, (Instr.makeSlice 91 (.int .i64 (Mq : Int)) (.int .i64 (Mq : Int))).run Tryz.prog u =
      .ok (.slice (some ⟨u.heap.size, 0, none⟩) Mq Mq) (u.alloc (.cells (madeCells #[.int .u64 0] Mq) 95)) := fun u => make_words Mq hMqb u
    have HMq := Lib.hid hMq; clear hMq
    have hN38 := Lib.hid (show N ≤ 274877906944 by have := HNL.out; omega)
    have hQ0 := row_made Mq 95 w3
    have rL0 := rL.alloc (by omega) (.cells (madeCells #[.int .u64 0] Mq) 95)
    have rD0 := rD.alloc (by omega) (.cells (madeCells #[.int .u64 0] Mq) 95)
    have hB0 := hbel.alloc (by omega) (.cells (madeCells #[.int .u64 0] Mq) 95)
    have hz : (w3.alloc (.cells (madeCells #[.int .u64 0] Mq) 95)).heap.size = w3.heap.size + 1 := by simp
    have hI0 : DvI w.heap.size bl w3.heap.size bd N Mq (wv D) (wv L) D w Mq L (List.replicate Mq 0) (w3.alloc (.cells (madeCells #[.int .u64 0] Mq) 95)) :=
      ⟨rL0, wL, HNL.out.1, hQ0, Wd_zeros Mq, List.length_replicate, rD0, hB0, by rw [hz]; omega, by
        rw [List.drop_eq_nil_of_le (by rw [List.length_replicate]; exact Nat.le_refl _)]; simp [wv], by
        rw [HNL.out.2.2, HMq.out, HNL.out.2.1]
        have hxl := wv_lt X hX
        rw [← HL.out.2.1] at hxl
        exact dv_begin (wv X) (wv D) k l s hxl hs63 hln (by omega) hts.2.2⟩
    clear rL rD hbel rL0 rD0 hB0 hQ0 hz
    have hv0 : 0 < wv D := by
      have h5 : 0 < B64^(k-1) := Nat.pow_pos B64_pos
      have := hts.2.2
      omega
    have hvn : wv D < B64^k := by have := wv_lt D wD; rwa [hts.1] at this
    have HV0 := Lib.hid (And.intro hv0 hvn); clear hv0 hvn
    have HTS := Lib.hid hts; clear hts
    go_wp2
    generalize w3.alloc (.cells (madeCells #[.int .u64 0] Mq) 95) = w4 at *
    have h30 := s2
    generalize w3.heap.size = bq at *
    clear hmk
    go_loopw [10] (fun i wr => ∃ (j : Nat) (L Q : List Nat), j ≤ Mq ∧ i = .int .i64 ((j : Int) - 1) ∧ DvI w.heap.size bl bq bd N Mq (wv D) (wv X * 2^s) D w j L Q wr) (fun i _ => (intOf i + 1).toNat)
    case atStart => exact ⟨Mq, L, _, Nat.le_refl _, rfl, by rw [← HNL.out.2.2]; exact hI0⟩
    case round =>
      obtain ⟨j, L', Q, hj, rfl, hI⟩ := hrel
      clear hI0
      by_cases h0 : j = 0
      · subst h0
        have hN64 : N ≤ 274877906945 := by have := HNL.out; omega
        have ht := trim_any wr bq 0 Mq Q hI.rQ (by rw [hI.lQ]; omega) (by rw [hI.lQ]; exact Nat.le_refl _)
        rw [hI.lQ] at ht
        have hsr := shiftRight_any wr bl 0 N s L' hI.rL hI.wL (by omega) (by rw [hI.lL]; exact hN38.out) (by rw [hI.lL]; exact Nat.le_refl _)
        rw [hI.lL] at hsr
        have HTR := Lib.hid ht; have HSR := Lib.hid hsr; clear ht hsr
        have hen := dv_end (wv Q) (wv D) (wv L') (wv X) (wv Y) s (by have := hI.val; rw [List.drop_zero, Nat.pow_zero, Nat.mul_one] at this; exact this) (by have := hI.lt; rwa [Nat.pow_zero, Nat.mul_one] at this) HW.out
        have HEN := Lib.hid hen; clear hen
        have HI := Lib.hid hI; clear hI
        go_wp2_with fail
        refine HTR.out.mono ?_
        rintro e w5 ⟨z, hz, wz, tz, rfl, rfl⟩
        go_wp2_with fail
        refine HSR.out.mono ?_
        rintro e w6 ⟨Z, c, aZ, hcz, tZ, vZ, rfl⟩
        rw [HI.out.lL] at aZ hcz
        go_wp2
        go_ret2
        have hsz := aZ.only.size
        have hI := HI.out
        refine ⟨_, _, rfl, .inl (NumA.of (Nat.lt_of_lt_of_le hI.sz.2.1 hsz) (aZ.only.row hI.rQ (by omega) hI.sz.2.1) hI.wQ hz (by rw [hI.lQ]; exact Nat.le_refl _) hMqb tz (wz.trans HEN.out.1)),
          NumA.of (Nat.lt_of_lt_of_le hI.sz.1 hsz) aZ.row aZ.wd (by rw [aZ.len]; exact hcz) (by rw [aZ.len]; exact Nat.le_refl _) (by omega) tZ (vZ.trans HEN.out.2), ?_, .inr s0⟩
        exact only_of_below (hI.bel.trans (aZ.only.below s0 (by have := hI.bel.size; exact this))) (Nat.le_refl _) hb
      · obtain ⟨m, rfl⟩ : ∃ m, j = m + 1 := ⟨j - 1, by omega⟩
        rw [show (((m + 1 : Nat) : Int) - 1) = (m : Int) by omega]
        have hmN : m + k + 1 ≤ N := by have := HMq.out; omega
        have hN64 : N ≤ 274877906945 := by have := HNL.out; omega
        have lP : (pt L' m k).length = k + 1 := pt_len L' m k (by rw [hI.lL]; exact hmN)
        have hu : wv (pt L' m k) < wv D * B64 := pt_lt L' m k (wv D) (by rw [hI.lL]; exact hmN) hI.lt
        have hqB : wv (pt L' m k) / wv D < B64 := (Nat.div_lt_iff_lt_mul HV0.out.1).2 (by rw [Nat.mul_comm]; exact hu)
        have HE := Lib.hid (estimate_any wr bl m (N-m) bd 0 M k (k+1) (pt L' m k) D hI.rL.pt hI.rD (Wd_pt hI.wL m k) wD lP HTS.out.1 rfl h1 (by omega) (by omega) hcM HTS.out.2.1 hu)
        have HI := Lib.hid hI; clear hI
        have HU := Lib.hid (And.intro lP (And.intro hu hqB)); clear lP hu hqB
        go_wp2_with fail
        rw [show m + k + 1 - m = k + 1 by omega]
        refine HE.out.mono ?_
        rintro e w5 ⟨d, rfl, hq5, d64, e1, e2⟩
        have HI5 := Lib.hid (HI.out.quiet hq5)
        have HTP := Lib.hid (takeP_n w5 bl m (N-m) bd 0 M d k (k+1) (pt L' m k) D HI5.out.rL.pt HI5.out.rD (Wd_pt HI5.out.wL m k) wD HU.out.1 HTS.out.1 rfl (by omega) HI5.out.sz.2.2 d64 (by omega) (by omega) hcM)
        have HE12 := Lib.hid (And.intro e1 e2); clear e1 e2 hq5
        go_wp2_with fail
        refine HTP.out.mono ?_
        rintro e w6 ⟨Z, bb, aZ, hbb, vZ, rfl⟩
        rw [HU.out.1] at aZ
        rw [HTS.out.1] at vZ
        have HVZ := Lib.hid vZ; clear vZ
        by_cases hb0 : bb = 0
        · subst hb0
          obtain ⟨hd, hZ⟩ := take_none (wv (pt L' m k)) (wv D) d (wv Z) (by have := HVZ.out; omega) HE12.out.1 HV0.out.1
          have rQ6 := aZ.only.row HI5.out.rQ (by omega) HI5.out.sz.2.1
          have hc6 := rQ6.cell m (by rw [HI5.out.lQ]; omega)
          have hf6 := rQ6.free m (by rw [HI5.out.lQ]; omega)
          rw [Nat.zero_add] at hc6 hf6
          have HS := Lib.hid (HI5.out.step hmN (by omega) aZ HV0.out.2 HV0.out.1 hZ (by omega) (by omega) (by omega) (by omega) s0 (by omega) HU.out.2.2)
          rw [← hd] at HS
          have HH := Lib.hid (And.intro hd hZ); clear hd hZ rQ6
          have hlt6 : m < Mq := by omega
          go_wp2
          go_roundw
          case rel => exact ⟨m, _, _, by omega, by go_num, HS.out⟩
          case measure => (simp [intOf]; try omega)
        · obtain rfl : bb = 1 := by omega
          have d1 : 1 ≤ d := by
            rcases Nat.eq_zero_or_pos d with h | h
            · exfalso
              have h2 := HVZ.out
              have h3 := wv_lt Z aZ.wd
              rw [aZ.len] at h3
              rw [h] at h2
              omega
            · exact h
          have HA := Lib.hid (addP_n w6 bl m (N-m) bd 0 M k (k+1) Z D aZ.row (aZ.only.row HI5.out.rD (by omega) HI5.out.sz.2.2) aZ.wd wD aZ.len HTS.out.1 rfl (by omega) (Nat.lt_of_lt_of_le HI5.out.sz.2.2 aZ.only.size) (by omega) (by omega) hcM)
          go_wp2_with fail
          refine HA.out.mono ?_
          rintro e w7 ⟨Z2, c, aZ2, vZ2, hcc, rfl⟩
          rw [aZ.len] at aZ2 vZ2
          have hZl := wv_lt Z aZ.wd
          rw [aZ.len] at hZl
          have hZ2l := wv_lt Z2 aZ2.wd
          rw [aZ2.len] at hZ2l
          obtain ⟨hd, hZ⟩ := take_one (wv (pt L' m k)) (wv D) d (wv Z) (B64^(k+1)) (wv Z2) c (by have := HVZ.out; omega) hZl HE12.out.2 HV0.out.1 (by
            have h7 : B64^k ≤ B64^(k+1) := Nat.pow_le_pow_right B64_pos (by omega)
            have := HV0.out.2; omega) vZ2 hZ2l
          have a2 : At (k+1) bl m w5 Z2 w7 := ⟨aZ2.len, aZ2.wd, aZ2.row, aZ.only.trans aZ2.only⟩
          have rQ6 := a2.only.row HI5.out.rQ (by omega) HI5.out.sz.2.1
          have hc6 := rQ6.cell m (by rw [HI5.out.lQ]; omega)
          have hf6 := rQ6.free m (by rw [HI5.out.lQ]; omega)
          rw [Nat.zero_add] at hc6 hf6
          have HS := Lib.hid (HI5.out.step hmN (by omega) a2 HV0.out.2 HV0.out.1 hZ (by omega) (by omega) (by omega) (by omega) s0 (by omega) HU.out.2.2)
          obtain ⟨q, rfl⟩ : ∃ q, d = q + 1 := ⟨d - 1, by omega⟩
          have hqq : wv (pt L' m k) / wv D = q := by omega
          rw [hqq] at HS
          have HH := Lib.hid (And.intro hd (And.intro hZ (And.intro hqq (And.intro vZ2 (And.intro hZl hZ2l))))); clear hd hZ hqq vZ2 hZl hZ2l rQ6
          have hlt6 : m < Mq := by omega
          go_wp2
          go_roundw
          case rel => exact ⟨m, _, _, by omega, by go_num, HS.out⟩
          case measure => (simp [intOf]; try omega)
end Go.Proofs.YteccbedmpjeamaaGreatDoor
namespace Go.Proofs.YteccbedmpjeamaaGreatDoor
open Go.RowKit NM
theorem divide_any (w : World) (b o cap b2 o2 cap2 : Nat) (X Y : List Nat) (hR : Row w b o X) (hS : Row w b2 o2 Y) (hX : Wd X) (hY : Wd Y) (tX : Tr X) (tY : Tr Y) (hb : b < w.heap.size) (hb2 : b2 < w.heap.size) (_hne : b2 ≠ b)
    (hc : X.length ≤ cap) (hc2 : Y.length ≤ cap2) (hcap : cap ≤ 274877906943) (hYb : Y.length ≤ 9223372036854775807) (hD : DivOK Y) :
    Calls Tryz.prog 120 #[.slice (some ⟨b, o, none⟩) X.length cap, .slice (some ⟨b2, o2, none⟩) Y.length cap2] w (DivideQ X Y b o w) := by
  by_cases h1 : Y.length = 1
  · exact divide_one w b o cap b2 o2 cap2 X Y hR hS hX hY tX tY hb hb2 hc hc2 (by omega) h1
  · unfold DivOK at hD
    exact divide_big w b o cap b2 o2 cap2 X Y hR hS hX hY tX tY hb hb2 hc hc2 hYb (by omega) (by omega) (by omega)
def RestQ (x y b lo hi : Nat) (w : World) (e : Ending) (w' : World) : Prop := ∃ vr, e = .returned vr ∧ NumA w' vr (x % y) ∧ Only b lo hi w w' ∧ RFrm b w.heap.size vr
set_option maxHeartbeats 1000000 in
theorem rest_any (w : World) (b o cap b2 o2 cap2 : Nat) (X Y : List Nat) (hR : Row w b o X) (hS : Row w b2 o2 Y) (hX : Wd X) (hY : Wd Y) (tX : Tr X) (tY : Tr Y) (hb : b < w.heap.size) (hb2 : b2 < w.heap.size) (hne : b2 ≠ b)
    (hc : X.length ≤ cap) (hc2 : Y.length ≤ cap2) (hcap : cap ≤ 274877906943) (hYb : Y.length ≤ 9223372036854775807) (hD : DivOK Y) :
    Calls Tryz.prog 94 #[.slice (some ⟨b, o, none⟩) X.length cap, .slice (some ⟨b2, o2, none⟩) Y.length cap2] w (RestQ (wv X) (wv Y) b o (o + X.length) w) := by
  have HC := Lib.hid (divide_any w b o cap b2 o2 cap2 X Y hR hS hX hY tX tY hb hb2 hne hc hc2 hcap hYb hD)
  clear hD
  obtain ⟨n, hn⟩ : ∃ n, n = X.length := ⟨_, rfl⟩
  obtain ⟨n2, hn2⟩ : ∃ n2, n2 = Y.length := ⟨_, rfl⟩
  rw [← hn, ← hn2] at HC ⊢
  have HN := Lib.hid hn; have HN2 := Lib.hid hn2; clear hn hn2
  go_enter Tryz.func94, Tryz.ntmps94
  go_wp2_with (refine HC.out.mono ?_; rintro e w' ⟨vq, vr, rfl, hq, hr, ho, hfr⟩)
  go_ret
  exact ⟨_, rfl, ‹NumA _ _ _›, by rw [HN.out]; exact ‹Only _ _ _ _ _›, ‹RFrm _ _ _›⟩
set_option maxRecDepth 100000 in
set_option maxHeartbeats 1000000 in
theorem number_nil (w : World) : Calls Tryz.prog 86 #[.slice none 0 0] w fun e w' => e = .returned (.string (NB 0)) ∧ Below w.heap.size w w' := by
  have hmk : ∀ u : World, (Instr.makeSlice 57 (.int .i64 0) (.int .i64 0)).run Tryz.prog u = .ok (.slice (some ⟨u.heap.size, 0, none⟩) 0 0) (u.alloc (.cells (madeCells #[.int .u8 0] 0) 5)) := fun u => make_bytes 0 (by omega) u
  have hB1 := (Below.refl w.heap.size w).alloc (Nat.le_refl _) (.cells (madeCells #[.int .u8 0] 0) 5)
  have he : (⟨#[]⟩ : ByteArray) = NB 0 := by unfold NB; rw [nb_zero]
  have hcv : ∀ (wr : World) (b n : Nat), (convert 57 24 (.slice (some ⟨b, n, none⟩) 0 0)).run Tryz.prog wr = .ok (.string (NB 0)) wr := fun wr b n => by
    rw [← he]
    exact run_convert_bytes_arg (P := Tryz.prog) wr 57 5 Tryz.underlying57 Tryz.underlying5 b n 0 0 [] rfl (fun i hi => absurd hi (Nat.not_lt_zero _)) 24 Tryz.underlying24
  clear he
  go_enter Tryz.func86, Tryz.ntmps86
  go_wp2
  go_rounds 1
  go_wp2
  go_rounds 1
  set_option maxRecDepth 100000 in
  go_wp2
  go_ret
  exact ⟨rfl, hB1⟩
theorem number_num (w : World) (v : Value) (x : Nat) (h : Num w v x) :
    Calls Tryz.prog 86 #[v] w fun e w' => e = .returned (.string (NB x)) ∧ Below w.heap.size w w' := by
  rcases h with ⟨b, o, cap, Z, rfl, h2, h3, h4, h5, h6, h7, rfl⟩ | ⟨rfl, rfl⟩
  · exact number_any w b o cap Z h3 h4 h2 (by omega) h5
  · exact number_nil w
/-- what Quo answers -/
def QuoV (a b : ByteArray) : Value := if sv b = 0 then .tuple #[.string ⟨#[]⟩, .string ⟨#[]⟩, .bool false] else .tuple #[.string (NB (sv a / sv b)), .string (NB (sv a % sv b)), .bool true]
/-- the divisors that are served -/
def DivS (_ : ByteArray) : Prop := True
theorem DivS.words {b : ByteArray} {Y : List Nat} (_ : DivS b) (_ : Wd Y) (_ : Tr Y) (hv : wv Y = sv b) (h0 : sv b ≠ 0) : DivOK Y := by
  unfold DivOK
  have hne : Y ≠ [] := by intro h2; subst h2; exact h0 hv.symm
  exact List.length_pos_iff.2 hne
/-- the numbers of one word -/
def OneS (b : ByteArray) : Prop := sv b < B64
theorem OneS.words {b : ByteArray} {Y : List Nat} (h : OneS b) (_ : Wd Y) (tY : Tr Y) (hv : wv Y = sv b) (h0 : sv b ≠ 0) : Y.length = 1 := by
  have hne : Y ≠ [] := by intro h2; subst h2; exact h0 hv.symm
  have h1 := Tr_lt tY hne
  have hl : 0 < Y.length := List.length_pos_iff.2 hne
  have h2 : B64^(Y.length-1) < B64^1 := by unfold OneS at h; rw [Nat.pow_one]; omega
  have := (Nat.pow_lt_pow_iff_right (by decide : 1 < B64)).1 h2
  omega
set_option maxHeartbeats 1000000 in
theorem Quo_any (w : World) (a b : ByteArray) (ha : a.size ≤ 4294967296) (hb : b.size ≤ 4294967296) (hD : DivS b) :
    Calls Tryz.prog 96 #[.string a, .string b] w fun e w' => e = .returned (QuoV a b) ∧ Below w.heap.size w w' := by
  go_enter Tryz.func96, Tryz.ntmps96
  go_wp2_with fail
  refine (words_any _ b (by omega)).mono ?_
  rintro e w1 ⟨Y, oY, vY, tY, bY, lY, rfl⟩
  have VY := Lib.hid vY; have LY := Lib.hid lY; have hYl := words_len lY hb; clear vY lY
  by_cases h0 : sv b = 0
  · have hY0 : Y.length = 0 := by rw [(wv_zero_iff tY).1 (VY.out.trans h0)]; rfl
    rw [hY0]
    have H0 := Lib.hid h0; have HY0 := Lib.hid hY0; clear h0 hY0
    go_wp2
    go_ret3
    exact ⟨by unfold QuoV; rw [if_pos H0.out]; rfl, bY⟩
  · have hYne : ((Y.length : Int) == 0) = false := by
      have : Y.length ≠ 0 := by intro h; apply h0; have := List.length_eq_zero_iff.1 h; rw [this] at VY; exact VY.out.symm
      exact beq_eq_false_iff_ne.2 (by omega)
    have hD2 := hD.words oY.wd tY VY.out h0
    have HD2 := Lib.hid hD2; clear hD2
    go_wp2_with fail
    refine (words_any _ a (by omega)).mono ?_
    rintro e w2 ⟨X, oX, vX, tX, bX, lX, rfl⟩
    have VX := Lib.hid vX; have LX := Lib.hid lX; have hXl := words_len lX ha; clear vX lX
    have oY2 := oY.lift bX oY.lt
    go_wp2_with fail
    refine (divide_any w2 w1.heap.size 0 X.length w.heap.size 0 Y.length X Y oX.row oY2.row oX.wd oY.wd tX tY oX.lt oY2.lt (by have := oY.lt; omega) (Nat.le_refl _) (Nat.le_refl _) (by omega) (by omega) HD2.out).mono ?_
    rintro e w3 ⟨vq, vr, rfl, hq, hr, ho, _⟩
    go_wp2_with fail
    refine (number_num w3 vq _ hq).mono ?_
    rintro e w4 ⟨rfl, b4⟩
    have hr4 := hr.below b4
    go_wp2_with fail
    refine (number_num w4 vr _ (.inl hr4)).mono ?_
    rintro e w5 ⟨rfl, b5⟩
    go_wp2
    go_ret3
    have s1 := bY.size
    have s2 := bX.size
    have s3 := ho.size
    have s4 := b4.size
    have hb3 : Below w1.heap.size w2 w3 := ho.below (Nat.le_refl _) (by omega)
    refine ⟨by unfold QuoV; rw [if_neg h0, VX.out, VY.out]; rfl, (bY.trans (bX.mono s1)).trans ((hb3.mono (by omega)).trans ((b4.mono (by omega)).trans (b5.mono (by omega))))⟩
end Go.Proofs.YteccbedmpjeamaaGreatDoor
