/-
  The arithmetic of nat.divide for divisors of two words or more.
-/
import Derived.Test.YtkpkifhjedlieaaDoorEst
namespace Go.Proofs.YtkpkifhjedlieaaDoor
open Go.RowKit NM
/-- the highest two words of a row -/
theorem top_two (Y : List Nat) (m : Nat) (hm : Y.length = m + 2) : wv Y = wv (Y.take m) + B64^m * (gd Y (m+1) * B64 + gd Y m) := by
  rw [wv_split Y m (by omega), wv_drop_cons Y m (by omega), wv_drop_cons Y (m+1) (by omega), List.drop_eq_nil_of_le (by omega)]
  show _ + B64^m * (gd Y m + B64 * (gd Y (m+1) + B64 * wv [])) = _
  rw [show wv [] = 0 from rfl, Nat.mul_zero, Nat.add_zero, Nat.mul_comm B64 (gd Y (m+1)), Nat.add_comm (gd Y m)]
theorem top_three (P : List Nat) (m : Nat) (hm : P.length = m + 3) : wv P = wv (P.take m) + B64^m * ((gd P (m+2) * B64 + gd P (m+1)) * B64 + gd P m) := by
  rw [wv_split P m (by omega), wv_drop_cons P m (by omega), wv_drop_cons P (m+1) (by omega), wv_drop_cons P (m+2) (by omega), List.drop_eq_nil_of_le (by omega)]
  show _ + B64^m * (gd P m + B64 * (gd P (m+1) + B64 * (gd P (m+2) + B64 * wv []))) = _
  rw [show wv [] = 0 from rfl]
  simp only [Nat.mul_zero, Nat.add_zero]
  rw [Nat.mul_comm B64 (gd P (m+2)), Nat.add_comm (gd P (m+1)), Nat.mul_comm B64 (_ + _), Nat.add_comm (gd P m)]
theorem take_lt (X : List Nat) (hX : Wd X) (m : Nat) (hm : m ≤ X.length) : wv (X.take m) < B64^m := by
  have := wv_lt (X.take m) (Wd_take hX m)
  rwa [List.length_take, Nat.min_eq_left hm] at this
/-- the digit that estimate answers is the quotient or one more -/
theorem est_fit (P Y : List Nat) (m d : Nat) (hP : Wd P) (hY : Wd Y) (lP : P.length = m + 3) (lY : Y.length = m + 2) (htop : 9223372036854775808 ≤ gd Y (m+1)) (hu : wv P < wv Y * B64)
    (hd : d < B64) (h1 : gd Y (m+1) ≤ gd P (m+2) → d = B64 - 1)
    (h2 : gd P (m+2) < gd Y (m+1) → d * (gd Y (m+1) * B64 + gd Y m) ≤ (gd P (m+2) * B64 + gd P (m+1)) * B64 + gd P m ∧ (gd P (m+2) * B64 + gd P (m+1)) * B64 + gd P m < (d + 1) * (gd Y (m+1) * B64 + gd Y m)) :
    wv P / wv Y ≤ d ∧ d ≤ wv P / wv Y + 1 := by
  have tY := top_two Y m lY
  have tP := top_three P m lP
  have aY := take_lt Y hY m (by omega)
  have aP := take_lt P hP m (by omega)
  have nY : gd Y m < B64 := gd_lt hY m
  have nP : gd P m < B64 := gd_lt hP m
  have n1 : gd P (m+1) < B64 := gd_lt hP (m+1)
  have hR : 0 < B64^m := Nat.pow_pos B64_pos
  have hqB : wv P / wv Y < B64 := (Nat.div_lt_iff_lt_mul (Nat.pos_of_ne_zero (by intro h; rw [h] at hu; omega))).2 (by rw [Nat.mul_comm]; exact hu)
  have hp1 : B64^(m+1) = B64^m * B64 := Nat.pow_succ ..
  generalize wv (Y.take m) = A at *
  generalize wv (P.take m) = C at *
  generalize gd Y (m+1) = t at *
  generalize gd Y m = nx at *
  generalize gd P (m+2) = u2 at *
  generalize gd P (m+1) = u1 at *
  generalize gd P m = u0 at *
  generalize wv P = u at *
  generalize wv Y = v at *
  generalize hRR : B64^m = R at *
  have hB : B64 = 18446744073709551616 := rfl
  have ev : (t * B64 + nx) * R ≤ v := by rw [tY, Nat.mul_comm]; exact Nat.le_add_left ..
  have ev2 : v < (t * B64 + nx + 1) * R := by rw [tY, Nat.mul_comm R, Nat.add_mul _ 1]; omega
  have hv0 : 0 < v := by
    have : 0 < (t * B64 + nx) * R := Nat.mul_pos (by have := Nat.mul_le_mul_right B64 htop; omega) hR
    omega
  by_cases hc : t ≤ u2
  · have hdd := h1 hc
    subst hdd
    refine ⟨by omega, est_top u v t (R * B64) ?_ ?_ (by omega) hv0⟩
    · have e1 : t * B64 ≤ u2 * B64 + u1 := by have := Nat.mul_le_mul_right B64 hc; omega
      have e2 : t * B64 * B64 ≤ (u2 * B64 + u1) * B64 + u0 := by have := Nat.mul_le_mul_right B64 e1; omega
      have e3 : R * (t * B64 * B64) ≤ R * ((u2 * B64 + u1) * B64 + u0) := Nat.mul_le_mul_left R e2
      have e4 : t * (B64 * (R * B64)) = R * (t * B64 * B64) := by
        rw [Nat.mul_left_comm t B64, Nat.mul_left_comm t R, Nat.mul_left_comm B64 R, Nat.mul_comm B64 (t * B64)]
      omega
    · have e1 : t * B64 + nx + 1 ≤ (t + 1) * B64 := by rw [Nat.add_mul]; omega
      have e2 := Nat.mul_le_mul_right R e1
      rw [Nat.mul_assoc, Nat.mul_comm B64 R] at e2
      omega
  · obtain ⟨g1, g2⟩ := h2 (by omega)
    have eu : ((u2 * B64 + u1) * B64 + u0) * R ≤ u := by rw [tP, Nat.mul_comm]; exact Nat.le_add_left ..
    have eu2 : u < ((u2 * B64 + u1) * B64 + u0 + 1) * R := by rw [tP, Nat.mul_comm R, Nat.add_mul _ 1]; omega
    have hq : u / v * v ≤ u := Nat.div_mul_le_self u v
    generalize hV2 : t * B64 + nx = V2 at *
    generalize (u2 * B64 + u1) * B64 + u0 = U3 at *
    have k1 := est_ge u v U3 V2 R (u / v) hR eu2 ev hq
    have hV2B : B64 ≤ V2 := by have := Nat.mul_le_mul_right B64 htop; omega
    refine ⟨?_, est_le u v U3 V2 R d eu ev2 g1 ?_ hv0⟩
    · have k2 : u / v * V2 < (d + 1) * V2 := by omega
      have := Nat.lt_of_mul_lt_mul_right k2
      omega
    · have k3 : d * R ≤ V2 * R := Nat.mul_le_mul_right R (by omega)
      omega
/-- what takeProduct leaves: without a borrow the digit is the quotient -/
theorem take_none (u v d z : Nat) (h : z + d * v = u) (hge : u / v ≤ d) (hv : 0 < v) : d = u / v ∧ z = u % v := by
  have h1 : d ≤ u / v := (Nat.le_div_iff_mul_le hv).2 (by omega)
  have h2 : d = u / v := by omega
  refine ⟨h2, ?_⟩
  have h3 := Nat.div_add_mod u v
  rw [h2, Nat.mul_comm] at h
  omega
/-- .. with a borrow it is one more, and adding the divisor gives the rest -/
theorem take_one (u v d z P z' c : Nat) (h : z + d * v = u + P) (hz : z < P) (hle : d ≤ u / v + 1) (hv : 0 < v) (hvP : v ≤ P) (ha : z' + c * P = z + v) (hz' : z' < P) : d = u / v + 1 ∧ z' = u % v := by
  have h1 : u / v < d := (Nat.div_lt_iff_lt_mul hv).2 (by omega)
  have h2 : d = u / v + 1 := by omega
  refine ⟨h2, ?_⟩
  have h3 := Nat.div_add_mod u v
  have h4 := Nat.mod_lt u hv
  rw [h2, Nat.add_mul, Nat.one_mul, Nat.mul_comm (u / v)] at h
  generalize v * (u / v) = q at *
  generalize u % v = r at *
  have h5 : z' + c * P = r + P := by omega
  have hc : c = 1 := by
    rcases Nat.lt_trichotomy c 1 with hc | hc | hc
    · obtain rfl : c = 0 := by omega
      omega
    · exact hc
    · have : 2 * P ≤ c * P := Nat.mul_le_mul_right P hc
      omega
  subst hc
  omega
/-- the words of a part -/
def pt (L : List Nat) (i n : Nat) : List Nat := (L.drop i).take (n+1)
theorem pt_len (L : List Nat) (i n : Nat) (h : i + n + 1 ≤ L.length) : (pt L i n).length = n + 1 := by unfold pt; rw [List.length_take, List.length_drop]; omega
theorem three_parts (L : List Nat) (i n : Nat) (h : i + n + 1 ≤ L.length) : wv L = wv (L.take i) + B64^i * (wv (pt L i n) + B64^(n+1) * wv (L.drop (i+n+1))) := by
  rw [wv_split L i (by omega), wv_split (L.drop i) (n+1) (by rw [List.length_drop]; omega), List.drop_drop, show i + (n + 1) = i + n + 1 from rfl]
  rfl
theorem pt_lt (L : List Nat) (i n v : Nat) (h : i + n + 1 ≤ L.length) (hlt : wv L < v * B64^(i+1)) : wv (pt L i n) < v * B64 := by
  have h1 := three_parts L i n h
  have h2 : B64^i * wv (pt L i n) ≤ wv L := by
    rw [h1, Nat.mul_add]; omega
  rw [Nat.pow_succ] at hlt
  have h3 : B64^i * wv (pt L i n) < B64^i * (v * B64) := by
    rw [Nat.mul_left_comm, ]; omega
  exact Nat.lt_of_mul_lt_mul_left h3
/-- one digit of the quotient -/
theorem dv_step (L Z : List Nat) (i n v : Nat) (hL : Wd L) (h : i + n + 1 ≤ L.length) (hlt : wv L < v * B64^(i+1)) (hv : v < B64^n) (hv0 : 0 < v) (lZ : Z.length = n + 1) (hZ : wv Z = wv (pt L i n) % v) :
    wv (L.take i ++ (Z ++ L.drop (i+n+1))) + wv (pt L i n) / v * v * B64^i = wv L ∧ wv (L.take i ++ (Z ++ L.drop (i+n+1))) < v * B64^i := by
  have h1 := three_parts L i n h
  have hA := take_lt L hL i (by omega)
  have hC : wv (L.drop (i+n+1)) = 0 := by
    rcases Nat.eq_zero_or_pos (wv (L.drop (i+n+1))) with h0 | h0
    · exact h0
    · exfalso
      have k1 : B64^(n+1) * 1 ≤ B64^(n+1) * wv (L.drop (i+n+1)) := Nat.mul_le_mul_left _ h0
      have k2 : B64^i * B64^(n+1) ≤ wv L := by
        rw [h1]
        have := Nat.mul_le_mul_left (B64^i) k1
        rw [Nat.mul_add]
        rw [Nat.mul_one] at this
        omega
      have k3 : v * B64^(i+1) ≤ B64^n * B64^(i+1) := Nat.mul_le_mul_right _ (Nat.le_of_lt hv)
      rw [← Nat.pow_add] at k2 k3
      rw [show n + (i + 1) = i + (n + 1) by omega] at k3
      omega
  rw [wv_append, wv_append, lZ, hZ, List.length_take, Nat.min_eq_left (by omega), hC, Nat.mul_zero, Nat.add_zero]
  rw [hC, Nat.mul_zero, Nat.add_zero] at h1
  have h3 := Nat.div_add_mod (wv (pt L i n)) v
  have h4 := Nat.mod_lt (wv (pt L i n)) hv0
  generalize wv (pt L i n) = u at *
  generalize wv (L.take i) = A at *
  generalize wv L = T at *
  generalize B64^i = R at *
  constructor
  · rw [h1]
    have : R * u = R * (v * (u / v)) + R * (u % v) := by rw [← Nat.mul_add, h3]
    rw [this, Nat.mul_comm (u / v) v, Nat.mul_comm _ R]; omega
  · have : R * (u % v + 1) ≤ R * v := Nat.mul_le_mul_left R h4
    rw [Nat.mul_add, Nat.mul_one] at this
    rw [Nat.mul_comm v R]; omega
/-- .. and the quotient's row -/
theorem dq_step (Q : List Nat) (k q v T T' W0 : Nat) (hk : k < Q.length) (hv : wv (Q.drop (k+1)) * v * B64^(k+1) + T = W0) (hT : T' + q * v * B64^k = T) :
    wv ((Q.set k q).drop k) * v * B64^k + T' = W0 := by
  rw [wv_drop_cons _ k (by rw [List.length_set]; exact hk), List.drop_set_of_lt (by omega)]
  have e : (Q.set k q).getD k 0 = q := gd_set_same _ _ _ hk
  rw [e, Nat.add_mul, Nat.add_mul]
  rw [Nat.pow_succ] at hv
  generalize wv (Q.drop (k+1)) = D at *
  generalize B64^k = R at *
  have : D * v * (R * B64) = B64 * D * v * R := by
    rw [Nat.mul_comm R B64, ← Nat.mul_assoc, Nat.mul_comm (D * v) B64, ← Nat.mul_assoc]
  omega
/-- where the loop ends -/
theorem dv_end (q v T x y s : Nat) (h : q * v + T = x * 2^s) (hT : T < v) (hv : v = y * 2^s) : q = x / y ∧ T / 2^s = x % y := by
  have hs : 0 < 2^s := Nat.pow_pos (by omega)
  have h1 : x * 2^s / v = q := by rw [← h, Nat.add_comm, Nat.add_mul_div_right _ _ (by omega), Nat.div_eq_of_lt hT, Nat.zero_add]
  have h2 : x * 2^s % v = T := by rw [← h, Nat.add_comm, Nat.add_mul_mod_self_right, Nat.mod_eq_of_lt hT]
  rw [hv, Nat.mul_div_mul_right _ _ hs] at h1
  rw [hv, Nat.mul_mod_mul_right] at h2
  exact ⟨h1.symm, by rw [← h2, Nat.mul_div_cancel _ hs]⟩
/-- where it begins -/
theorem dv_begin (x v n l s : Nat) (hx : x < B64^l) (hs : s ≤ 63) (hn : n ≤ l) (hn0 : 1 ≤ n) (hv : 9223372036854775808 * B64^(n-1) ≤ v) : x * 2^s < v * B64^(l+1-n) := by
  have h1 : 2^s ≤ 2^63 := Nat.pow_le_pow_right (by omega) hs
  have h2 : x * 2^s < B64^l * 2^63 := by
    have a := Nat.mul_le_mul_left x h1
    have b : x * 2^63 < B64^l * 2^63 := Nat.mul_lt_mul_of_pos_right hx (by decide)
    omega
  have h3 : 9223372036854775808 * B64^(n-1) * B64^(l+1-n) ≤ v * B64^(l+1-n) := Nat.mul_le_mul_right _ hv
  rw [Nat.mul_assoc, ← Nat.pow_add, show n - 1 + (l + 1 - n) = l by omega, Nat.mul_comm] at h3
  have h4 : (2:Nat)^63 = 9223372036854775808 := by decide
  rw [h4] at h2
  omega
end Go.Proofs.YtkpkifhjedlieaaDoor
