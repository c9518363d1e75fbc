/-
  The walk of nat.shiftLeft: a number times a power of 2, in a row of its own.
  The walk of nat.shiftRight: a row is divided by a power of 2, in place.
  The walk of nat.divide for divisors of two words or more.
  The walks of nat.rest and nat.Quo.
-/
import Derived.Test.YtipmoklmolhffaaProd
import Derived.BigQuiet
import Derived.Test.YtipmoklmolhffaaEst
namespace Go.Proofs.Ytipmoklmolhffaa
open Go.RowKit NM
theorem shl_word (c w pt : Nat) (hc : c < 2^pt) (hw : w < B64) (hp : pt < 64) :
    c ||| (w * 2^pt % B64) = c + w * 2^pt % B64 ∧ c + w * 2^pt % B64 < B64 ∧ w * 2^pt = w * 2^pt % B64 + B64 * (w / 2^(64-pt)) ∧ w / 2^(64-pt) < 2^pt := by
  have e64 : B64 = 2^(64-pt) * 2^pt := by rw [← Nat.pow_add, show 64 - pt + pt = 64 by omega]; rfl
  have hm : w * 2^pt % B64 = (w % 2^(64-pt)) * 2^pt := by rw [e64, Nat.mul_mod_mul_right]
  have hq : w * 2^pt / B64 = w / 2^(64-pt) := by rw [e64, Nat.mul_div_mul_right _ _ (Nat.pow_pos (by omega))]
  have h1 := Nat.two_pow_add_eq_or_of_lt hc (w % 2^(64-pt))
  have h2 : w % 2^(64-pt) + 1 ≤ 2^(64-pt) := Nat.mod_lt _ (Nat.pow_pos (by omega))
  have h3 : (w % 2^(64-pt) + 1) * 2^pt ≤ 2^(64-pt) * 2^pt := Nat.mul_le_mul_right _ h2
  rw [← e64, Nat.add_mul, Nat.one_mul] at h3
  refine ⟨?_, ?_, ?_, ?_⟩
  · rw [hm, Nat.or_comm, Nat.mul_comm (w % _), ← h1, Nat.add_comm]
  · rw [hm]; omega
  · have := Nat.div_add_mod (w * 2^pt) B64; rw [hq] at this; omega
  · apply (Nat.div_lt_iff_lt_mul (Nat.pow_pos (by omega))).2
    rw [← Nat.pow_add, show pt + (64 - pt) = 64 by omega]; exact hw
theorem shl_value (X Z : List Nat) (k n sk pt : Nat) (hn : n = 64 * sk + pt) (hk : k < X.length) (hZ : Z.length = X.length + sk + 1) (hp : pt < 64) (hX : Wd X) (hc : gd Z (k+sk) < 2^pt) (h0 : gd Z (k+sk+1) = 0)
    (hv : wv Z = wv (X.take k) * 2^n) :
    wv ((Z.set (k+sk) (gd Z (k+sk) + gd X k * 2^pt % B64)).set (k+sk+1) (gd X k / 2^(64-pt))) = wv (X.take (k+1)) * 2^n := by
  obtain ⟨_, _, h3, _⟩ := shl_word (gd Z (k+sk)) (gd X k) pt hc (gd_lt hX k) hp
  have s1 := wv_set Z (k+sk) (gd Z (k+sk) + gd X k * 2^pt % B64) (by omega)
  have s2 := wv_set (Z.set (k+sk) (gd Z (k+sk) + gd X k * 2^pt % B64)) (k+sk+1) (gd X k / 2^(64-pt)) (by rw [List.length_set]; omega)
  have e2 : (Z.set (k+sk) (gd Z (k+sk) + gd X k * 2^pt % B64)).getD (k+sk+1) 0 = 0 := by
    have := gd_set_other Z (k+sk) (k+sk+1) (gd Z (k+sk) + gd X k * 2^pt % B64) (by omega)
    unfold gd at *; rw [this]; exact h0
  rw [e2, Nat.mul_zero, Nat.add_zero] at s2
  rw [s2]
  have e3 : (Z.getD (k+sk) 0) = gd Z (k+sk) := rfl
  rw [e3, Nat.mul_add] at s1
  rw [wv_take_succ X k hk, Nat.add_mul, ← hv]
  have e4 : B64^k * X.getD k 0 * 2^n = B64^(k+sk) * (gd X k * 2^pt) := by
    rw [hn, Nat.pow_add, Nat.pow_add, Nat.pow_mul, show (2:Nat)^64 = B64 from rfl]
    show B64^k * gd X k * (B64^sk * 2^pt) = _
    rw [Nat.mul_assoc, Nat.mul_left_comm (gd X k), ← Nat.mul_assoc]
  generalize gd X k * 2^pt % B64 = A at *
  generalize gd X k / 2^(64-pt) = Q at *
  rw [e4, h3, Nat.mul_add]
  rw [Nat.pow_succ, Nat.mul_assoc]
  omega
structure ShlI (n b : Nat) (w : World) (X : List Nat) (k m sk pt : Nat) (Z : List Nat) (wr : World) : Prop where
  at_ : At n b 0 w Z wr
  val : wv Z = wv (X.take k) * 2^m
  low : gd Z (k+sk) < 2^pt
  zero : ∀ j, k + sk < j → gd Z j = 0
theorem ShlI.step {m b : Nat} {w wr : World} {X Z : List Nat} {k n sk pt : Nat} (h : ShlI m b w X k n sk pt Z wr) (hm : m = X.length + sk + 1) (hn : n = 64 * sk + pt) (hk : k < X.length) (hp : pt < 64) (hX : Wd X) :
    ShlI m b w X (k+1) n sk pt ((Z.set (k+sk) (gd Z (k+sk) + gd X k * 2^pt % B64)).set (k+sk+1) (gd X k / 2^(64-pt)))
      ((wr.setCell ⟨b, k+sk, none⟩ (.int .u64 (gd Z (k+sk) + gd X k * 2^pt % B64 : Nat))).setCell ⟨b, k+sk+1, none⟩ (.int .u64 (gd X k / 2^(64-pt) : Nat))).drew := by
  obtain ⟨p1, p2, p3, p4⟩ := shl_word (gd Z (k+sk)) (gd X k) pt h.low (gd_lt hX k) hp
  have hl := h.at_.len
  have a1 := h.at_.set (k+sk) (gd Z (k+sk) + gd X k * 2^pt % B64) (by omega) p2
  have a2 := a1.set (k+sk+1) (gd X k / 2^(64-pt)) (by omega) (Nat.lt_of_le_of_lt (Nat.div_le_self _ _) (gd_lt hX k))
  rw [Nat.zero_add, Nat.zero_add] at a2
  refine ⟨a2.drew, shl_value X Z k n sk pt hn hk (by omega) hp hX h.low (h.zero _ (by omega)) h.val, ?_, ?_⟩
  · rw [show k + 1 + sk = k + sk + 1 by omega, gd_set_same _ _ _ (by rw [List.length_set]; omega)]; exact p4
  · intro j hj
    rw [gd_set_other _ _ _ _ (by omega), gd_set_other _ _ _ _ (by omega)]; exact h.zero j (by omega)
def ShlQ (X : List Nat) (n : Nat) (w : World) (e : Ending) (w' : World) : Prop :=
  ∃ Z m, Own w.heap.size w' w.heap.size 0 m Z ∧ Z.length = m ∧ m = X.length + n / 64 + 1 ∧ wv Z = wv X * 2^n ∧ Below w.heap.size w w' ∧ e = .returned (.slice (some ⟨w.heap.size, 0, none⟩) m m)
end Go.Proofs.Ytipmoklmolhffaa
namespace Go.Proofs.Ytipmoklmolhffaa
open Go.RowKit NM
theorem two64 (p : Nat) (hp : p ≤ 64) : B64 = 2^p * 2^(64-p) := by rw [← Nat.pow_add, show p + (64 - p) = 64 by omega]; rfl
theorem shr_step (d M p : Nat) (hp : p < 64) : (d + B64 * M) / 2^p = (d / 2^p + 2^(64-p) * (M % 2^p)) + B64 * (M / 2^p) := by
  have h := two64 p (by omega)
  have hpos : 0 < 2^p := Nat.pow_pos (by omega)
  rw [h]
  generalize 2^(64-p) = C
  generalize 2^p = A at *
  have e1 : d + A * C * M = d + A * (C * M) := by rw [Nat.mul_assoc]
  rw [e1, Nat.add_mul_div_left _ _ hpos]
  have h2 := Nat.div_add_mod M A
  have e2 : C * M = C * (M % A) + A * C * (M / A) := by
    calc C * M = C * (A * (M / A) + M % A) := by rw [h2]
      _ = _ := by rw [Nat.mul_add, ← Nat.mul_assoc C A, Nat.mul_comm C A, Nat.add_comm]
  omega
theorem shr_word (d d1 p : Nat) (hp : p < 64) (hd : d < B64) : (d / 2^p) ||| (d1 * 2^(64-p) % B64) = d / 2^p + 2^(64-p) * (d1 % 2^p) := by
  have h := two64 p (by omega)
  have e1 : d1 * 2^(64-p) % B64 = 2^(64-p) * (d1 % 2^p) := by rw [h, Nat.mul_comm d1, Nat.mul_comm (2^p), Nat.mul_mod_mul_left]
  have hlt : d / 2^p < 2^(64-p) := by
    apply Nat.div_lt_of_lt_mul
    rw [← h]; exact hd
  rw [e1, Nat.or_comm, ← Nat.two_pow_add_eq_or_of_lt hlt, Nat.add_comm]
theorem shr_lt (d d1 p : Nat) (hp : p < 64) (hd : d < B64) : d / 2^p + 2^(64-p) * (d1 % 2^p) < B64 := by
  have h := two64 p (by omega)
  have hlt : d / 2^p < 2^(64-p) := by
    apply Nat.div_lt_of_lt_mul
    rw [← h]; exact hd
  have hm : d1 % 2^p < 2^p := Nat.mod_lt _ (Nat.pow_pos (by omega))
  have h2 : 2^(64-p) * (d1 % 2^p + 1) ≤ 2^(64-p) * 2^p := Nat.mul_le_mul_left _ hm
  rw [h, Nat.mul_comm (2^p)]
  rw [Nat.mul_add] at h2
  omega
theorem wv_mod_two (x : Nat) (M p : Nat) (hp : p < 64) : (x + B64 * M) % 2^p = x % 2^p := by
  rw [two64 p (by omega), Nat.mul_assoc, Nat.add_mul_mod_self_left]
theorem wv_div_pow (X : List Nat) (hX : Wd X) (s : Nat) (hs : s ≤ X.length) : wv X / B64^s = wv (X.drop s) := by
  have h := wv_append (X.take s) (X.drop s)
  rw [List.take_append_drop, List.length_take, Nat.min_eq_left hs] at h
  have hlt : wv (X.take s) < B64^s := by
    have := wv_lt (X.take s) (fun x hx => hX x (List.mem_of_mem_take hx))
    rwa [List.length_take, Nat.min_eq_left hs] at this
  rw [h, Nat.add_mul_div_left _ _ (Nat.pow_pos B64_pos), Nat.div_eq_of_lt hlt, Nat.zero_add]
def sw (X : List Nat) (q p : Nat) : Nat := gd X q / 2^p + 2^(64-p) * (gd X (q+1) % 2^p)
theorem shr_inv (X Y : List Nat) (k q p V : Nat) (hp : p < 64) (hk : k < Y.length) (hq : q < X.length)
    (hv : wv (Y.take k) + B64^k * (wv (X.drop q) / 2^p) = V) :
    wv ((Y.set k (sw X q p)).take (k+1)) + B64^(k+1) * (wv (X.drop (q+1)) / 2^p) = V := by
  have h1 := wv_take_succ (Y.set k (sw X q p)) k (by rw [List.length_set]; exact hk)
  have h2 : (Y.set k (sw X q p)).take k = Y.take k := by
    rw [List.take_set_of_le (Nat.le_refl k)]
  have h3 : (Y.set k (sw X q p)).getD k 0 = sw X q p := gd_set_same _ _ _ hk
  have h4 := wv_drop_cons X q hq
  have hm : wv (X.drop (q+1)) % 2^p = gd X (q+1) % 2^p := by
    by_cases h : q + 1 < X.length
    · rw [wv_drop_cons X (q+1) h, wv_mod_two _ _ _ hp]; rfl
    · rw [List.drop_eq_nil_of_le (by omega), show gd X (q+1) = 0 by simp [gd, List.getElem?_eq_none (show X.length ≤ q+1 by omega)]]; rfl
  have h5 := shr_step (X.getD q 0) (wv (X.drop (q+1))) p hp
  rw [← h4, hm] at h5
  rw [h1, h2, h3, ← hv, h5, Nat.pow_succ, Nat.mul_add, Nat.mul_assoc, Nat.add_assoc]
  rfl
def ShrAQ (X : List Nat) (n b o cap : Nat) (w : World) (e : Ending) (w' : World) : Prop :=
  ∃ (Z : List Nat) (k : Nat), At X.length b o w Z w' ∧ k ≤ X.length ∧ Tr (Z.take k) ∧ wv (Z.take k) = wv X / 2^n ∧ e = .returned (.slice (some ⟨b, o, none⟩) k cap)
end Go.Proofs.Ytipmoklmolhffaa
namespace Go.Proofs.Ytipmoklmolhffaa
open Go.RowKit NM
/-- what the shift of the divisor gives -/
theorem top_shift (Y D : List Nat) (n s : Nat) (hY : Wd Y) (tY : Tr Y) (lY : Y.length = n) (hn : 2 ≤ n) (hs : s + Lib.bitLen (gd Y (n-1)) = 64) (hD : Wd D) (tD : Tr D) (hv : wv D = wv Y * 2^s) :
    D.length = n ∧ 9223372036854775808 ≤ gd D (n-1) ∧ 9223372036854775808 * B64^(n-1) ≤ wv D := by
  have ht64 := gd_lt hY (n-1)
  have htop : gd Y (n-1) ≠ 0 := by
    have h := tY
    unfold Tr at h
    rw [lY] at h
    intro h2
    apply h
    rw [List.getD_eq_getElem?_getD, List.getElem?_eq_getElem (by omega)]
    rw [gd_eq, List.getD_eq_getElem?_getD, List.getElem?_eq_getElem (by omega)] at h2
    exact h2
  obtain ⟨b1, b2, b3⟩ := Lib.bitLenAux_bounds 64 (gd Y (n-1)) ht64 htop
  have e : Lib.bitLenAux 64 (gd Y (n-1)) = Lib.bitLen (gd Y (n-1)) := rfl
  rw [e] at b1 b2 b3
  have hsp := wv_split Y (n-1) (by omega)
  rw [wv_drop_cons Y (n-1) (by omega), List.drop_eq_nil_of_le (by omega), show wv [] = 0 from rfl, Nat.mul_zero, Nat.add_zero] at hsp
  have hA := take_lt Y hY (n-1) (by omega)
  have et : Y.getD (n-1) 0 = gd Y (n-1) := rfl
  rw [et] at hsp
  generalize gd Y (n-1) = t at *
  generalize wv (Y.take (n-1)) = A at *
  have k1 : 2^(Lib.bitLen t - 1) * 2^s ≤ t * 2^s := Nat.mul_le_mul_right _ b2
  rw [← Nat.pow_add, show Lib.bitLen t - 1 + s = 63 by omega] at k1
  have k2 : (t + 1) * 2^s ≤ 2^(Lib.bitLen t) * 2^s := Nat.mul_le_mul_right _ b3
  rw [← Nat.pow_add, show Lib.bitLen t + s = 64 by omega] at k2
  have lo : 9223372036854775808 * B64^(n-1) ≤ wv D := by
    rw [hv, hsp, Nat.add_mul]
    have e1 : B64^(n-1) * t * 2^s = t * 2^s * B64^(n-1) := by rw [Nat.mul_assoc, Nat.mul_comm]
    have e0 : (2:Nat)^63 = 9223372036854775808 := by decide
    have e2 : 9223372036854775808 * B64^(n-1) ≤ t * 2^s * B64^(n-1) := Nat.mul_le_mul_right _ (by omega)
    omega
  have hi : wv D < B64^n := by
    rw [hv, hsp]
    have e1 : (A + B64^(n-1) * t) * 2^s < (B64^(n-1) * (t + 1)) * 2^s := Nat.mul_lt_mul_of_pos_right (by rw [Nat.mul_add]; omega) (Nat.pow_pos (by omega))
    have e2 : (B64^(n-1) * (t + 1)) * 2^s ≤ B64^(n-1) * 2^64 := by rw [Nat.mul_assoc]; exact Nat.mul_le_mul_left _ k2
    have e3 : B64^(n-1) * 2^64 = B64^n := by
      obtain ⟨m, rfl⟩ : ∃ m, n = m + 1 := ⟨n - 1, by omega⟩
      rw [Nat.pow_succ]; rfl
    omega
  have hlen : D.length = n := by
    have hne : D ≠ [] := by
      intro h; rw [h] at lo
      have : 0 < B64^(n-1) := Nat.pow_pos B64_pos
      have : wv [] = 0 := rfl
      omega
    have h1 := Tr_lt tD hne
    have h2 := wv_lt D hD
    have h3 : B64^(D.length - 1) < B64^n := by omega
    have h4 := (Nat.pow_lt_pow_iff_right (by decide : 1 < B64)).1 h3
    have h5 : B64^(n-1) < B64^D.length := by
      have : 0 < B64^(n-1) := Nat.pow_pos B64_pos
      omega
    have h6 := (Nat.pow_lt_pow_iff_right (by decide : 1 < B64)).1 h5
    omega
  refine ⟨hlen, ?_, lo⟩
  have hsD := wv_split D (n-1) (by omega)
  rw [wv_drop_cons D (n-1) (by omega), List.drop_eq_nil_of_le (by omega), show wv [] = 0 from rfl, Nat.mul_zero, Nat.add_zero] at hsD
  have hAD := take_lt D hD (n-1) (by omega)
  have eD : D.getD (n-1) 0 = gd D (n-1) := rfl
  rw [eD] at hsD
  have h7 : B64^(n-1) * 9223372036854775808 < B64^(n-1) * (gd D (n-1) + 1) := by rw [Nat.mul_comm]; rw [Nat.mul_add]; omega
  have := Nat.lt_of_mul_lt_mul_left h7
  omega
end Go.Proofs.Ytipmoklmolhffaa
namespace Go.Proofs.Ytipmoklmolhffaa
open Go.RowKit NM
def RestQ (x y b lo hi : Nat) (w : World) (e : Ending) (w' : World) : Prop := ∃ vr, e = .returned vr ∧ NumA w' vr (x % y) ∧ Only b lo hi w w' ∧ RFrm b w.heap.size vr
/-- what Quo answers -/
def QuoV (a b : ByteArray) : Value := if sv b = 0 then .tuple #[.string ⟨#[]⟩, .string ⟨#[]⟩, .bool false] else .tuple #[.string (NB (sv a / sv b)), .string (NB (sv a % sv b)), .bool true]
/-- the divisors that are served -/
def DivS (_ : ByteArray) : Prop := True
theorem DivS.words {b : ByteArray} {Y : List Nat} (_ : DivS b) (_ : Wd Y) (_ : Tr Y) (hv : wv Y = sv b) (h0 : sv b ≠ 0) : DivOK Y := by
  unfold DivOK
  have hne : Y ≠ [] := by intro h2; subst h2; exact h0 hv.symm
  exact List.length_pos_iff.2 hne
/-- the numbers of one word -/
def OneS (b : ByteArray) : Prop := sv b < B64
theorem OneS.words {b : ByteArray} {Y : List Nat} (h : OneS b) (_ : Wd Y) (tY : Tr Y) (hv : wv Y = sv b) (h0 : sv b ≠ 0) : Y.length = 1 := by
  have hne : Y ≠ [] := by intro h2; subst h2; exact h0 hv.symm
  have h1 := Tr_lt tY hne
  have hl : 0 < Y.length := List.length_pos_iff.2 hne
  have h2 : B64^(Y.length-1) < B64^1 := by unfold OneS at h; rw [Nat.pow_one]; omega
  have := (Nat.pow_lt_pow_iff_right (by decide : 1 < B64)).1 h2
  omega
end Go.Proofs.Ytipmoklmolhffaa
