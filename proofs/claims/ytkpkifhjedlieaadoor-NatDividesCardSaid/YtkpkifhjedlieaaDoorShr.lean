/-
  The walk of nat.shiftRight: a row is divided by a power of 2, in place.
-/
import Derived.Test.YtkpkifhjedlieaaDoorShl
namespace Go.Proofs.YtkpkifhjedlieaaDoor
open Go.RowKit NM
theorem two64 (p : Nat) (hp : p ≤ 64) : B64 = 2^p * 2^(64-p) := by rw [← Nat.pow_add, show p + (64 - p) = 64 by omega]; rfl
theorem shr_step (d M p : Nat) (hp : p < 64) : (d + B64 * M) / 2^p = (d / 2^p + 2^(64-p) * (M % 2^p)) + B64 * (M / 2^p) := by
  have h := two64 p (by omega)
  have hpos : 0 < 2^p := Nat.pow_pos (by omega)
  rw [h]
  generalize 2^(64-p) = C
  generalize 2^p = A at *
  have e1 : d + A * C * M = d + A * (C * M) := by rw [Nat.mul_assoc]
  rw [e1, Nat.add_mul_div_left _ _ hpos]
  have h2 := Nat.div_add_mod M A
  have e2 : C * M = C * (M % A) + A * C * (M / A) := by
    calc C * M = C * (A * (M / A) + M % A) := by rw [h2]
      _ = _ := by rw [Nat.mul_add, ← Nat.mul_assoc C A, Nat.mul_comm C A, Nat.add_comm]
  omega
theorem shr_word (d d1 p : Nat) (hp : p < 64) (hd : d < B64) : (d / 2^p) ||| (d1 * 2^(64-p) % B64) = d / 2^p + 2^(64-p) * (d1 % 2^p) := by
  have h := two64 p (by omega)
  have e1 : d1 * 2^(64-p) % B64 = 2^(64-p) * (d1 % 2^p) := by rw [h, Nat.mul_comm d1, Nat.mul_comm (2^p), Nat.mul_mod_mul_left]
  have hlt : d / 2^p < 2^(64-p) := by
    apply Nat.div_lt_of_lt_mul
    rw [← h]; exact hd
  rw [e1, Nat.or_comm, ← Nat.two_pow_add_eq_or_of_lt hlt, Nat.add_comm]
theorem shr_lt (d d1 p : Nat) (hp : p < 64) (hd : d < B64) : d / 2^p + 2^(64-p) * (d1 % 2^p) < B64 := by
  have h := two64 p (by omega)
  have hlt : d / 2^p < 2^(64-p) := by
    apply Nat.div_lt_of_lt_mul
    rw [← h]; exact hd
  have hm : d1 % 2^p < 2^p := Nat.mod_lt _ (Nat.pow_pos (by omega))
  have h2 : 2^(64-p) * (d1 % 2^p + 1) ≤ 2^(64-p) * 2^p := Nat.mul_le_mul_left _ hm
  rw [h, Nat.mul_comm (2^p)]
  rw [Nat.mul_add] at h2
  omega
theorem wv_mod_two (x : Nat) (M p : Nat) (hp : p < 64) : (x + B64 * M) % 2^p = x % 2^p := by
  rw [two64 p (by omega), Nat.mul_assoc, Nat.add_mul_mod_self_left]
theorem wv_div_pow (X : List Nat) (hX : Wd X) (s : Nat) (hs : s ≤ X.length) : wv X / B64^s = wv (X.drop s) := by
  have h := wv_append (X.take s) (X.drop s)
  rw [List.take_append_drop, List.length_take, Nat.min_eq_left hs] at h
  have hlt : wv (X.take s) < B64^s := by
    have := wv_lt (X.take s) (fun x hx => hX x (List.mem_of_mem_take hx))
    rwa [List.length_take, Nat.min_eq_left hs] at this
  rw [h, Nat.add_mul_div_left _ _ (Nat.pow_pos B64_pos), Nat.div_eq_of_lt hlt, Nat.zero_add]
def sw (X : List Nat) (q p : Nat) : Nat := gd X q / 2^p + 2^(64-p) * (gd X (q+1) % 2^p)
theorem shr_inv (X Y : List Nat) (k q p V : Nat) (hp : p < 64) (hk : k < Y.length) (hq : q < X.length)
    (hv : wv (Y.take k) + B64^k * (wv (X.drop q) / 2^p) = V) :
    wv ((Y.set k (sw X q p)).take (k+1)) + B64^(k+1) * (wv (X.drop (q+1)) / 2^p) = V := by
  have h1 := wv_take_succ (Y.set k (sw X q p)) k (by rw [List.length_set]; exact hk)
  have h2 : (Y.set k (sw X q p)).take k = Y.take k := by
    rw [List.take_set_of_le (Nat.le_refl k)]
  have h3 : (Y.set k (sw X q p)).getD k 0 = sw X q p := gd_set_same _ _ _ hk
  have h4 := wv_drop_cons X q hq
  have hm : wv (X.drop (q+1)) % 2^p = gd X (q+1) % 2^p := by
    by_cases h : q + 1 < X.length
    · rw [wv_drop_cons X (q+1) h, wv_mod_two _ _ _ hp]; rfl
    · rw [List.drop_eq_nil_of_le (by omega), show gd X (q+1) = 0 by simp [gd, List.getElem?_eq_none (show X.length ≤ q+1 by omega)]]; rfl
  have h5 := shr_step (X.getD q 0) (wv (X.drop (q+1))) p hp
  rw [← h4, hm] at h5
  rw [h1, h2, h3, ← hv, h5, Nat.pow_succ, Nat.mul_add, Nat.mul_assoc, Nat.add_assoc]
  rfl
def ShrAQ (X : List Nat) (n b o cap : Nat) (w : World) (e : Ending) (w' : World) : Prop :=
  ∃ (Z : List Nat) (k : Nat), At X.length b o w Z w' ∧ k ≤ X.length ∧ Tr (Z.take k) ∧ wv (Z.take k) = wv X / 2^n ∧ e = .returned (.slice (some ⟨b, o, none⟩) k cap)
set_option maxRecDepth 100000 in
set_option maxHeartbeats 2000000 in
theorem shiftRight_any (w : World) (b o cap n : Nat) (X : List Nat) (hR : Row w b o X) (hX : Wd X) (hn : n ≤ 35184372088832) (hl : X.length ≤ 274877906944) (hc : X.length ≤ cap) :
    Calls Tryd.prog 54 #[.slice (some ⟨b, o, none⟩) X.length cap, .int .i64 (n : Nat)] w (ShrAQ X n b o cap w) := by
  obtain ⟨L, hL⟩ : ∃ L, L = X.length := ⟨_, rfl⟩
  obtain ⟨s, hs⟩ : ∃ s, s = min (n / 64) L := ⟨_, rfl⟩
  obtain ⟨p, hp⟩ : ∃ p, p = n % 64 := ⟨_, rfl⟩
  have hsL : s ≤ L := by omega
  have hp64 : p < 64 := by omega
  have e1 : min ((n : Int) / 64) (L : Int) = (s : Int) := by omega
  have e2 : (n : Int) % 64 = (p : Int) := by omega
  have hA0 := At.start hX hR
  rw [← hL] at hA0 hl hc
  have HL := Lib.hid (And.intro hL (And.intro hs (And.intro hp hn)))
  rw [← hL]
  clear hL hs hp
  have HR := Lib.hid hR; have HX := Lib.hid hX; clear hR
  go_enter Tryd.func54, Tryd.ntmps54
  go_wp2_with fail
  simp only [e2]
  clear e1 e2 hn
  go_loopw [7] (fun i wr => ∃ (k q : Nat) (Y : List Nat), q ≤ L ∧ q = s + k ∧ i = .int .i64 (q : Nat) ∧ At L b o w Y wr ∧ Hid (wv (Y.take k) + B64^k * (wv (X.drop q) / 2^p) = wv (X.drop s) / 2^p) ∧ Hid (∀ j, k ≤ j → gd Y j = gd X j)) (fun i _ => L - (intOf i).toNat)
  case atStart => exact ⟨0, s, X, hsL, by omega, rfl, hA0, Lib.hid (by simp [wv]), Lib.hid (fun _ _ => rfl)⟩
  case round =>
    obtain ⟨k, q, Y, hqL, hq, rfl, hA, hv, hg⟩ := hrel
    by_cases hlt : q < L
    · have hx := hA.row.cell q (by rw [hA.len]; exact hlt)
      have hkL : k < L := by omega
      have hst := hA.row.free k (by rw [hA.len]; exact hkL)
      have hsc := hA.row.cell k (by rw [hA.len]; exact hkL)
      have hqs : (q : Int) - (s : Int) = (k : Int) := by omega
      have hy := hA.row.cell (q+1)
      have hlt3 : decide ((q : Int) < (L : Int)) = true := by simp; omega
      have HQ := Lib.hid hq; clear hq
      by_cases hlt2 : q + 1 < L
      · have hy := hy (by rw [hA.len]; exact hlt2)
        have es : bits BinOp.or IntKind.u64 (((gd Y q : Nat) : Int) / 2^p) (IntKind.u64.wrap (((gd Y (q+1) : Nat) : Int) * 2^(64-p))) = ((sw X q p : Nat) : Int) := by
          have g1 := hg.out q (by have := HQ.out; omega)
          have g2 := hg.out (q+1) (by have := HQ.out; omega)
          have hd := gd_lt HX.out q
          have a1 : (((gd X q : Nat) : Int) / 2^p) = ((gd X q / 2^p : Nat) : Int) := by rw [Int.natCast_ediv, Int.natCast_pow]; rfl
          have a2 : IntKind.u64.wrap (((gd X (q+1) : Nat) : Int) * 2^(64-p)) = ((gd X (q+1) * 2^(64-p) % B64 : Nat) : Int) := by
            rw [show (((gd X (q+1) : Nat) : Int) * 2^(64-p)) = ((gd X (q+1) * 2^(64-p) : Nat) : Int) by rw [Int.natCast_mul, Int.natCast_pow]; rfl, IntKind.wrap_u64]
            show _ = ((gd X (q+1) * 2^(64-p) % 18446744073709551616 : Nat) : Int)
            omega
          rw [g1, g2, a1, a2, bits_or_u64_nat _ _ (Nat.lt_of_le_of_lt (Nat.div_le_self _ _) hd) (show gd X (q+1) * 2^(64-p) % B64 < 18446744073709551616 from Nat.mod_lt _ B64_pos), shr_word _ _ _ hp64 hd]
          rfl
        have HE := Lib.hid es
        have HI := Lib.hid (And.intro (shr_inv X Y k q p _ hp64 (by rw [hA.len]; exact hkL) (by rw [← HL.out.1]; exact hlt) hv.out) (shr_lt (gd X q) (gd X (q+1)) p hp64 (gd_lt HX.out q)))
        clear es
        go_wp2
        rw [HE.out]
        exact ⟨⟨k + 1, q + 1, _, hlt, by have := HQ.out; omega, by go_num, hA.set k _ hkL HI.out.2, Lib.hid HI.out.1, Lib.hid (fun j hj => by rw [← hg.out j (by omega)]; exact gd_set_other _ _ _ _ (by omega))⟩, by simp [intOf]; omega⟩
      · have hz : gd X (q+1) = 0 := by
          have := HL.out.1
          simp [gd, List.getElem?_eq_none (show X.length ≤ q+1 by omega)]
        have es : (((gd Y q : Nat) : Int) / 2^p) = ((sw X q p : Nat) : Int) := by
          have g1 := hg.out q (by have := HQ.out; omega)
          rw [g1]
          unfold sw
          rw [hz, Nat.zero_mod, Nat.mul_zero, Nat.add_zero, Int.natCast_ediv, Int.natCast_pow]; rfl
        have hd4 : decide ((q : Int) + 1 < (L : Int)) = false := by simp; omega
        have HE := Lib.hid es
        have HI := Lib.hid (And.intro (shr_inv X Y k q p _ hp64 (by rw [hA.len]; exact hkL) (by rw [← HL.out.1]; exact hlt) hv.out) (shr_lt (gd X q) (gd X (q+1)) p hp64 (gd_lt HX.out q)))
        clear es hz hy
        go_wp2
        rw [HE.out]
        exact ⟨⟨k + 1, q + 1, _, hlt, by have := HQ.out; omega, by go_num, hA.set k _ hkL HI.out.2, Lib.hid HI.out.1, Lib.hid (fun j hj => by rw [← hg.out j (by omega)]; exact gd_set_other _ _ _ _ (by omega))⟩, by simp [intOf]; omega⟩
    · have hq2 : q = L := by omega
      have hd4 : decide ((q : Int) < (L : Int)) = false := by simp; omega
      have hLs : (L : Int) - (s : Int) = ((L - s : Nat) : Int) := by omega
      have hkk : k = L - s := by omega
      have hnn : s < L → n / 64 = s := by have := HL.out; omega
      have hfin : wv (Y.take (L - s)) = wv X / 2^n := by
        have h1 := hv.out
        rw [List.drop_eq_nil_of_le (by rw [← HL.out.1]; omega), show wv [] = 0 from rfl, Nat.zero_div, Nat.mul_zero, Nat.add_zero, hkk] at h1
        rw [h1]
        by_cases hsl : s < L
        · have h2 : n = 64 * s + p := by have := HL.out; have := hnn hsl; omega
          rw [h2, Nat.pow_add, Nat.pow_mul, ← Nat.div_div_eq_div_mul, show (2^64) = B64 from rfl, wv_div_pow X HX.out s (by rw [← HL.out.1]; exact hsL)]
        · have h3 : X.drop s = [] := List.drop_eq_nil_of_le (by rw [← HL.out.1]; omega)
          have h4 : wv X < 2^n := by
            have h5 := wv_lt X HX.out
            have h6 : B64^X.length = 2^(64 * X.length) := by rw [Nat.pow_mul]; rfl
            rw [h6] at h5
            have h7 : 64 * X.length ≤ n := by have := HL.out; omega
            exact Nat.lt_of_lt_of_le h5 (Nat.pow_le_pow_right (by omega) h7)
          rw [h3, Nat.div_eq_of_lt h4]
          simp [wv]
      have hlen : (Y.take (L - s)).length = L - s := by rw [List.length_take, hA.len]; omega
      have HT := trim_any wr b o cap (Y.take (L - s)) (hA.row.take _) (by rw [hlen]; omega) (by rw [hlen]; omega)
      rw [hlen] at HT
      have HT := Lib.hid HT
      have HF := Lib.hid (And.intro hfin hlen)
      have hsum : L - s ≤ cap := by omega
      clear hfin hlen hkk hq hq2 hnn
      generalize hm : L - s = m at *
      have HMm := Lib.hid hm
      clear hm
      go_wp2_with fail
      refine HT.out.mono ?_
      rintro e w2 ⟨z, z1, z2, z3, rfl, rfl⟩
      go_wp2
      go_ret
      have e5 : (Y.take m).take z = Y.take z := by rw [List.take_take, Nat.min_eq_left (by have := HF.out.2; omega)]
      rw [e5] at z2 z3
      exact ⟨Y, z, by rw [← HL.out.1]; exact hA, by have := HF.out.2; have := HMm.out; have := HL.out.1; omega, z3, z2.trans HF.out.1, rfl⟩
end Go.Proofs.YtkpkifhjedlieaaDoor
