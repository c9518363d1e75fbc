/-
  The arithmetic of nat.estimate: a digit out of the highest three and two words.
  What nat.estimate compares with, and what its loop keeps.
  The walks of nat.divide, nat.rest and nat.Quo.
  The arithmetic of nat.divide for divisors of two words or more.
  The walk of nat.estimate.
  The walk of nat.estimate: the walk itself.
  nat.estimate on rows; what the loop of nat.divide keeps.
-/
import Derived.Test.YteccbedmpjeamaaGreatDoorDiv
import Derived.Test.YteccbedmpjeamaaGreatDoorBase
import Derived.Test.YteccbedmpjeamaaGreatDoorTop
import Derived.WalkMore
import Derived.Deep.QuietTactic
namespace Go.Proofs.YteccbedmpjeamaaGreatDoor
open NM
/-- U3, V2: what lies above the lowest words (a power R) of the number and of the divisor. The greatest digit whose product with V2 is not above U3 is the quotient or one more. -/
theorem est_ge (u v U3 V2 R q : Nat) (_hR : 0 < R) (hu : u < (U3 + 1) * R) (hv : V2 * R ≤ v) (hq : q * v ≤ u) : q * V2 ≤ U3 := by
  have h1 : q * (V2 * R) ≤ q * v := Nat.mul_le_mul_left _ hv
  have h2 : q * V2 * R < (U3 + 1) * R := by rw [Nat.mul_assoc]; omega
  have h3 := Nat.lt_of_mul_lt_mul_right h2
  omega
theorem est_le (u v U3 V2 R d : Nat) (hu : U3 * R ≤ u) (hv : v < (V2 + 1) * R) (hd : d * V2 ≤ U3) (hdv : d * R ≤ v) (hv0 : 0 < v) : d ≤ u / v + 1 := by
  have h1 : d * v ≤ d * ((V2 + 1) * R) := Nat.mul_le_mul_left _ (Nat.le_of_lt hv)
  have h2 : d * V2 * R ≤ U3 * R := Nat.mul_le_mul_right _ hd
  have h3 : d * ((V2 + 1) * R) = d * V2 * R + d * R := by rw [Nat.add_mul, Nat.one_mul, Nat.mul_add, Nat.mul_assoc]
  have h4 : d * v ≤ u + v := by omega
  have h5 : d ≤ (u + v) / v := (Nat.le_div_iff_mul_le hv0).2 h4
  rwa [Nat.add_div_right _ hv0] at h5
/-- where the highest words don't fit: the quotient is one of the greatest two digits -/
theorem est_top (u v t S : Nat) (hu : t * (B64 * S) ≤ u) (hv : v < (t + 1) * S) (ht : B64 ≤ 2 * t + 2) (hv0 : 0 < v) : B64 - 1 ≤ u / v + 1 := by
  have h1 : (B64 - 2) * v ≤ (B64 - 2) * ((t + 1) * S) := Nat.mul_le_mul_left _ (Nat.le_of_lt hv)
  have h2 : (B64 - 2) * (t + 1) ≤ t * B64 := by
    have hB : 2 ≤ B64 := by decide
    obtain ⟨c, hc⟩ : ∃ c, B64 = c + 2 := ⟨B64 - 2, by omega⟩
    rw [hc] at ht ⊢
    rw [Nat.add_sub_cancel, Nat.mul_add, Nat.mul_add, Nat.mul_comm c t]
    omega
  have h3 : (B64 - 2) * ((t + 1) * S) ≤ t * (B64 * S) := by
    rw [← Nat.mul_assoc, ← Nat.mul_assoc]
    exact Nat.mul_le_mul_right _ h2
  have h4 : B64 - 2 ≤ u / v := (Nat.le_div_iff_mul_le hv0).2 (by omega)
  omega
end Go.Proofs.YteccbedmpjeamaaGreatDoor
namespace Go.Proofs.YteccbedmpjeamaaGreatDoor
open Go.RowKit NM
/-- where the loop begins: the quotient of the highest two words by the highest one is not below the digit -/
theorem est_start (u2 u1 u0 t nx : Nat) (ht : 0 < t) (h0 : u0 < B64) : (u2 * B64 + u1) * B64 + u0 < ((u2 * B64 + u1) / t + 1) * (t * B64 + nx) := by
  have h1 := Nat.div_add_mod (u2 * B64 + u1) t
  have h2 := Nat.mod_lt (u2 * B64 + u1) ht
  generalize (u2 * B64 + u1) / t = d at *
  generalize (u2 * B64 + u1) % t = r at *
  generalize u2 * B64 + u1 = U at *
  have h3 : U + 1 ≤ (d + 1) * t := by rw [Nat.add_mul, Nat.one_mul, Nat.mul_comm d]; omega
  have h4 : (U + 1) * B64 ≤ (d + 1) * t * B64 := Nat.mul_le_mul_right _ h3
  rw [Nat.mul_add, ← Nat.mul_assoc]
  rw [Nat.add_mul, Nat.one_mul] at h4
  omega
/-- the test of the next word -/
theorem est_test (U u0 t nx d l : Nat) (hU : U = d * t + l) : d * (t * B64 + nx) ≤ U * B64 + u0 ↔ d * nx ≤ l * B64 + u0 := by
  rw [hU, Nat.mul_add, Nat.add_mul, ← Nat.mul_assoc]
  omega
def cmp64 (x y : Nat) : Int := if x < y then -1 else if y < x then 1 else 0
set_option maxHeartbeats 1000000 in
theorem Compare_any (x y : Nat) (w : World) :
    Calls Tryz.prog 157 #[.int .u64 x, .int .u64 y] w fun e w' => e = .returned (.int .i64 (cmp64 x y)) ∧ w = w' := by
  rcases Nat.lt_trichotomy x y with h | h | h
  · have hr : cmp64 x y = -1 := by unfold cmp64; rw [if_pos h]
    have HR := Lib.hid hr; clear hr
    go_enter Tryz.func157, Tryz.ntmps157
    go_wp2
    go_ret
    exact ⟨by rw [HR.out]; rfl, rfl⟩
  · subst h
    have hr : cmp64 x x = 0 := by unfold cmp64; rw [if_neg (by omega), if_neg (by omega)]
    have HR := Lib.hid hr; clear hr
    go_enter Tryz.func157, Tryz.ntmps157
    go_wp2
    go_ret
    exact ⟨by rw [HR.out]; rfl, rfl⟩
  · have hn : ¬ x < y := by omega
    have hr : cmp64 x y = 1 := by unfold cmp64; rw [if_neg (by omega), if_pos h]
    have HR := Lib.hid hr; clear hr
    go_enter Tryz.func157, Tryz.ntmps157
    go_wp2
    go_ret
    exact ⟨by rw [HR.out]; rfl, rfl⟩
/-- what estimate answers: u2, u1, u0 the highest words of the part, t, nx those of the divisor -/
def EstQ (u2 u1 u0 t nx : Nat) (w : World) (e : Ending) (w' : World) : Prop :=
  ∃ d : Nat, e = .returned (.int .u64 (d : Nat)) ∧ Quiet w w' ∧ d < B64 ∧ (t ≤ u2 → d = B64 - 1) ∧ (u2 < t → d * (t * B64 + nx) ≤ (u2 * B64 + u1) * B64 + u0 ∧ (u2 * B64 + u1) * B64 + u0 < (d + 1) * (t * B64 + nx))
end Go.Proofs.YteccbedmpjeamaaGreatDoor
namespace Go.Proofs.YteccbedmpjeamaaGreatDoor
open Go.RowKit NM
/-- a trimmed number in memory -/
def NumA (W : World) (v : Value) (x : Nat) : Prop :=
  ∃ b o cap Z, v = .slice (some ⟨b, o, none⟩) Z.length cap ∧ b < W.heap.size ∧ Row W b o Z ∧ Wd Z ∧ Z.length ≤ cap ∧ cap ≤ 1099511627776 ∧ Tr Z ∧ wv Z = x
/-- .. or the nil slice, for 0 -/
def Num (W : World) (v : Value) (x : Nat) : Prop := NumA W v x ∨ (v = .slice none 0 0 ∧ x = 0)
theorem NumA.below {W W' : World} {v : Value} {x : Nat} (h : NumA W v x) (hb : Below W.heap.size W W') : NumA W' v x := by
  obtain ⟨b, o, cap, Z, h1, h2, h3, h4, h5, h6, h7, h8⟩ := h
  exact ⟨b, o, cap, Z, h1, Nat.lt_of_lt_of_le h2 hb.size, h3.below hb h2, h4, h5, h6, h7, h8⟩
theorem Num.below {W W' : World} {v : Value} {x : Nat} (h : Num W v x) (hb : Below W.heap.size W W') : Num W' v x := h.imp (fun h => h.below hb) id
theorem NumA.of {W : World} {b o cap k x : Nat} {Z : List Nat} (hb : b < W.heap.size) (hr : Row W b o Z) (hw : Wd Z) (hk : k ≤ Z.length) (hc : Z.length ≤ cap) (hcap : cap ≤ 1099511627776) (ht : Tr (Z.take k)) (hv : wv (Z.take k) = x) :
    NumA W (.slice (some ⟨b, o, none⟩) k cap) x := by
  have hl : (Z.take k).length = k := by rw [List.length_take]; omega
  exact ⟨b, o, cap, Z.take k, by rw [hl], hb, hr.take k, Wd_take hw k, by rw [hl]; omega, hcap, ht, hv⟩
/-- the divisors that are served -/
def DivOK (Y : List Nat) : Prop := 1 ≤ Y.length
/-- where a rest lies: in the number's own block, or in a new one -/
def RFrm (b S : Nat) : Value → Prop
  | .slice (some a) _ _ => a.block = b ∨ S ≤ a.block
  | _ => True
def DivideQ (X Y : List Nat) (b o : Nat) (w : World) (e : Ending) (w' : World) : Prop :=
  ∃ vq vr, e = .returned (.tuple #[vq, vr]) ∧ Num w' vq (wv X / wv Y) ∧ NumA w' vr (wv X % wv Y) ∧ Only b o (o + X.length) w w' ∧ RFrm b w.heap.size vr
set_option maxHeartbeats 1000000 in
theorem divide_one (w : World) (b o cap b2 o2 cap2 : Nat) (X Y : List Nat) (hR : Row w b o X) (hS : Row w b2 o2 Y) (hX : Wd X) (hY : Wd Y) (tX : Tr X) (tY : Tr Y) (hb : b < w.heap.size) (_hb2 : b2 < w.heap.size)
    (hc : X.length ≤ cap) (hc2 : Y.length ≤ cap2) (hcap : cap ≤ 1099511627776) (h1 : Y.length = 1) :
    Calls Tryz.prog 120 #[.slice (some ⟨b, o, none⟩) X.length cap, .slice (some ⟨b2, o2, none⟩) Y.length cap2] w (DivideQ X Y b o w) := by
  have hcmp := compare_any w b o cap b2 o2 cap2 X Y hR hS hX hY tX tY (by omega) (by omega) hc hc2
  have HC := Lib.hid hcmp; clear hcmp
  by_cases hlt : wv X < wv Y
  · have hn1 := cmpv_lt hlt
    have H1 := Lib.hid h1; clear h1
    go_enter Tryz.func120, Tryz.ntmps120
    go_wp2_with fail
    refine HC.out.mono ?_
    rintro e w1 ⟨rfl, hq⟩
    rw [hn1]
    have HN := Lib.hid hn1; clear hn1
    go_wp2
    go_ret2
    have hb1 := hq.below (w.heap.size)
    exact ⟨_, _, rfl, .inr ⟨rfl, Nat.div_eq_of_lt hlt⟩, ⟨b, o, cap, X, rfl, Nat.lt_of_lt_of_le hb hb1.size, hq.row hR, hX, hc, hcap, tX, (Nat.mod_eq_of_lt hlt).symm⟩, hq.only _ _ _, .inl rfl⟩
  · have hge : (decide (cmpv (wv X) (wv Y) < 0)) = false := by unfold cmpv; rw [if_neg hlt]; split <;> simp
    obtain ⟨y, rfl⟩ : ∃ y, Y = [y] := by
      match Y, h1 with
      | [y], _ => exact ⟨y, rfl⟩
    have hy : y < 18446744073709551616 := hY y (by simp)
    have hy0 : 0 < y := by
      have : Tr [y] := tY
      simp [Tr] at this; omega
    have hwy : wv [y] = y := by simp [wv]
    have hl1 : [y].length = 1 := rfl
    rw [hl1] at HC ⊢
    clear hl1 h1
    go_enter Tryz.func120, Tryz.ntmps120
    go_wp2_with fail
    refine HC.out.mono ?_
    rintro e w1 ⟨rfl, hq⟩
    have hy1 := (hq.row hS).cell 0 (by simp)
    have hgy : gd [y] 0 = y := rfl
    rw [hgy, Nat.add_zero] at hy1
    have HY := Lib.hid hwy; have HG := Lib.hid hgy; clear hwy hgy
    have hb1 : b < w1.heap.size := Nat.lt_of_lt_of_le hb (hq.below 0).size
    go_wp2_with fail
    refine (divideWord_any w1 b o cap y X (hq.row hR) hX (by omega) hc hy0 hy).mono ?_
    rintro e w2 ⟨Z, k, aZ, hk, tZ, vZ, rfl⟩
    have VZ := Lib.hid vZ; clear vZ
    have hrow := row_one w2 (wv X % y) 95
    have hmlt : wv X % y < y := Nat.mod_lt _ hy0
    have ht := trim_any (w2.alloc (.cells #[.int .u64 (wv X % y : Nat)] 95)) w2.heap.size 0 1 [wv X % y] hrow (by simp) (by simp)
    have hZ2 : Row (w2.alloc (.cells #[.int .u64 (wv X % y : Nat)] 95)) b o Z := aZ.row.alloc (by have := aZ.only.size; omega) _
    have hO2 := aZ.only.alloc (o := .cells #[.int .u64 (wv X % y : Nat)] 95) hb1
    have hz2 : w2.heap.size < (w2.alloc (.cells #[.int .u64 (wv X % y : Nat)] 95)).heap.size := by simp
    have HT := Lib.hid ht; clear ht
    obtain ⟨m, hm⟩ : ∃ m, m = wv X % y := ⟨_, rfl⟩
    rw [← hm] at HT hrow hO2 hZ2 hmlt hz2
    rw [← hm]
    have HM := Lib.hid hm; clear hm
    go_wp2_with (refine HT.out.mono ?_; rintro e w' ⟨j, hj, hw, htr, rfl, rfl⟩)
    go_ret2
    have hsz := aZ.only.size
    refine ⟨_, _, rfl, .inl (NumA.of (Nat.lt_of_lt_of_le hb1 hO2.size) hZ2 aZ.wd (by rw [aZ.len]; exact hk) (by rw [aZ.len]; exact hc) hcap tZ (by rw [VZ.out, HY.out])), ?_, ?_, .inr (Nat.le_trans (hq.below 0).size hsz)⟩
    · have hw1 : Wd [m] := fun x hx => by rw [List.mem_singleton.1 hx]; show m < 18446744073709551616; omega
      exact NumA.of hz2 hrow hw1 hj (by simp) (by omega) htr (by rw [hw, HY.out, ← HM.out]; simp [wv])
    · exact (hq.only _ _ _).trans hO2
end Go.Proofs.YteccbedmpjeamaaGreatDoor
namespace Go.Proofs.YteccbedmpjeamaaGreatDoor
open Go.RowKit NM
/-- the highest two words of a row -/
theorem top_two (Y : List Nat) (m : Nat) (hm : Y.length = m + 2) : wv Y = wv (Y.take m) + B64^m * (gd Y (m+1) * B64 + gd Y m) := by
  rw [wv_split Y m (by omega), wv_drop_cons Y m (by omega), wv_drop_cons Y (m+1) (by omega), List.drop_eq_nil_of_le (by omega)]
  show _ + B64^m * (gd Y m + B64 * (gd Y (m+1) + B64 * wv [])) = _
  rw [show wv [] = 0 from rfl, Nat.mul_zero, Nat.add_zero, Nat.mul_comm B64 (gd Y (m+1)), Nat.add_comm (gd Y m)]
theorem top_three (P : List Nat) (m : Nat) (hm : P.length = m + 3) : wv P = wv (P.take m) + B64^m * ((gd P (m+2) * B64 + gd P (m+1)) * B64 + gd P m) := by
  rw [wv_split P m (by omega), wv_drop_cons P m (by omega), wv_drop_cons P (m+1) (by omega), wv_drop_cons P (m+2) (by omega), List.drop_eq_nil_of_le (by omega)]
  show _ + B64^m * (gd P m + B64 * (gd P (m+1) + B64 * (gd P (m+2) + B64 * wv []))) = _
  rw [show wv [] = 0 from rfl]
  simp only [Nat.mul_zero, Nat.add_zero]
  rw [Nat.mul_comm B64 (gd P (m+2)), Nat.add_comm (gd P (m+1)), Nat.mul_comm B64 (_ + _), Nat.add_comm (gd P m)]
theorem take_lt (X : List Nat) (hX : Wd X) (m : Nat) (hm : m ≤ X.length) : wv (X.take m) < B64^m := by
  have := wv_lt (X.take m) (Wd_take hX m)
  rwa [List.length_take, Nat.min_eq_left hm] at this
/-- the digit that estimate answers is the quotient or one more -/
theorem est_fit (P Y : List Nat) (m d : Nat) (hP : Wd P) (hY : Wd Y) (lP : P.length = m + 3) (lY : Y.length = m + 2) (htop : 9223372036854775808 ≤ gd Y (m+1)) (hu : wv P < wv Y * B64)
    (hd : d < B64) (h1 : gd Y (m+1) ≤ gd P (m+2) → d = B64 - 1)
    (h2 : gd P (m+2) < gd Y (m+1) → d * (gd Y (m+1) * B64 + gd Y m) ≤ (gd P (m+2) * B64 + gd P (m+1)) * B64 + gd P m ∧ (gd P (m+2) * B64 + gd P (m+1)) * B64 + gd P m < (d + 1) * (gd Y (m+1) * B64 + gd Y m)) :
    wv P / wv Y ≤ d ∧ d ≤ wv P / wv Y + 1 := by
  have tY := top_two Y m lY
  have tP := top_three P m lP
  have aY := take_lt Y hY m (by omega)
  have aP := take_lt P hP m (by omega)
  have nY : gd Y m < B64 := gd_lt hY m
  have nP : gd P m < B64 := gd_lt hP m
  have n1 : gd P (m+1) < B64 := gd_lt hP (m+1)
  have hR : 0 < B64^m := Nat.pow_pos B64_pos
  have hqB : wv P / wv Y < B64 := (Nat.div_lt_iff_lt_mul (Nat.pos_of_ne_zero (by intro h; rw [h] at hu; omega))).2 (by rw [Nat.mul_comm]; exact hu)
  have hp1 : B64^(m+1) = B64^m * B64 := Nat.pow_succ ..
  generalize wv (Y.take m) = A at *
  generalize wv (P.take m) = C at *
  generalize gd Y (m+1) = t at *
  generalize gd Y m = nx at *
  generalize gd P (m+2) = u2 at *
  generalize gd P (m+1) = u1 at *
  generalize gd P m = u0 at *
  generalize wv P = u at *
  generalize wv Y = v at *
  generalize hRR : B64^m = R at *
  have hB : B64 = 18446744073709551616 := rfl
  have ev : (t * B64 + nx) * R ≤ v := by rw [tY, Nat.mul_comm]; exact Nat.le_add_left ..
  have ev2 : v < (t * B64 + nx + 1) * R := by rw [tY, Nat.mul_comm R, Nat.add_mul _ 1]; omega
  have hv0 : 0 < v := by
    have : 0 < (t * B64 + nx) * R := Nat.mul_pos (by have := Nat.mul_le_mul_right B64 htop; omega) hR
    omega
  by_cases hc : t ≤ u2
  · have hdd := h1 hc
    subst hdd
    refine ⟨by omega, est_top u v t (R * B64) ?_ ?_ (by omega) hv0⟩
    · have e1 : t * B64 ≤ u2 * B64 + u1 := by have := Nat.mul_le_mul_right B64 hc; omega
      have e2 : t * B64 * B64 ≤ (u2 * B64 + u1) * B64 + u0 := by have := Nat.mul_le_mul_right B64 e1; omega
      have e3 : R * (t * B64 * B64) ≤ R * ((u2 * B64 + u1) * B64 + u0) := Nat.mul_le_mul_left R e2
      have e4 : t * (B64 * (R * B64)) = R * (t * B64 * B64) := by
        rw [Nat.mul_left_comm t B64, Nat.mul_left_comm t R, Nat.mul_left_comm B64 R, Nat.mul_comm B64 (t * B64)]
      omega
    · have e1 : t * B64 + nx + 1 ≤ (t + 1) * B64 := by rw [Nat.add_mul]; omega
      have e2 := Nat.mul_le_mul_right R e1
      rw [Nat.mul_assoc, Nat.mul_comm B64 R] at e2
      omega
  · obtain ⟨g1, g2⟩ := h2 (by omega)
    have eu : ((u2 * B64 + u1) * B64 + u0) * R ≤ u := by rw [tP, Nat.mul_comm]; exact Nat.le_add_left ..
    have eu2 : u < ((u2 * B64 + u1) * B64 + u0 + 1) * R := by rw [tP, Nat.mul_comm R, Nat.add_mul _ 1]; omega
    have hq : u / v * v ≤ u := Nat.div_mul_le_self u v
    generalize hV2 : t * B64 + nx = V2 at *
    generalize (u2 * B64 + u1) * B64 + u0 = U3 at *
    have k1 := est_ge u v U3 V2 R (u / v) hR eu2 ev hq
    have hV2B : B64 ≤ V2 := by have := Nat.mul_le_mul_right B64 htop; omega
    refine ⟨?_, est_le u v U3 V2 R d eu ev2 g1 ?_ hv0⟩
    · have k2 : u / v * V2 < (d + 1) * V2 := by omega
      have := Nat.lt_of_mul_lt_mul_right k2
      omega
    · have k3 : d * R ≤ V2 * R := Nat.mul_le_mul_right R (by omega)
      omega
/-- what takeProduct leaves: without a borrow the digit is the quotient -/
theorem take_none (u v d z : Nat) (h : z + d * v = u) (hge : u / v ≤ d) (hv : 0 < v) : d = u / v ∧ z = u % v := by
  have h1 : d ≤ u / v := (Nat.le_div_iff_mul_le hv).2 (by omega)
  have h2 : d = u / v := by omega
  refine ⟨h2, ?_⟩
  have h3 := Nat.div_add_mod u v
  rw [h2, Nat.mul_comm] at h
  omega
/-- .. with a borrow it is one more, and adding the divisor gives the rest -/
theorem take_one (u v d z P z' c : Nat) (h : z + d * v = u + P) (hz : z < P) (hle : d ≤ u / v + 1) (hv : 0 < v) (hvP : v ≤ P) (ha : z' + c * P = z + v) (hz' : z' < P) : d = u / v + 1 ∧ z' = u % v := by
  have h1 : u / v < d := (Nat.div_lt_iff_lt_mul hv).2 (by omega)
  have h2 : d = u / v + 1 := by omega
  refine ⟨h2, ?_⟩
  have h3 := Nat.div_add_mod u v
  have h4 := Nat.mod_lt u hv
  rw [h2, Nat.add_mul, Nat.one_mul, Nat.mul_comm (u / v)] at h
  generalize v * (u / v) = q at *
  generalize u % v = r at *
  have h5 : z' + c * P = r + P := by omega
  have hc : c = 1 := by
    rcases Nat.lt_trichotomy c 1 with hc | hc | hc
    · obtain rfl : c = 0 := by omega
      omega
    · exact hc
    · have : 2 * P ≤ c * P := Nat.mul_le_mul_right P hc
      omega
  subst hc
  omega
/-- the words of a part -/
def pt (L : List Nat) (i n : Nat) : List Nat := (L.drop i).take (n+1)
theorem pt_len (L : List Nat) (i n : Nat) (h : i + n + 1 ≤ L.length) : (pt L i n).length = n + 1 := by unfold pt; rw [List.length_take, List.length_drop]; omega
theorem three_parts (L : List Nat) (i n : Nat) (h : i + n + 1 ≤ L.length) : wv L = wv (L.take i) + B64^i * (wv (pt L i n) + B64^(n+1) * wv (L.drop (i+n+1))) := by
  rw [wv_split L i (by omega), wv_split (L.drop i) (n+1) (by rw [List.length_drop]; omega), List.drop_drop, show i + (n + 1) = i + n + 1 from rfl]
  rfl
theorem pt_lt (L : List Nat) (i n v : Nat) (h : i + n + 1 ≤ L.length) (hlt : wv L < v * B64^(i+1)) : wv (pt L i n) < v * B64 := by
  have h1 := three_parts L i n h
  have h2 : B64^i * wv (pt L i n) ≤ wv L := by
    rw [h1, Nat.mul_add]; omega
  rw [Nat.pow_succ] at hlt
  have h3 : B64^i * wv (pt L i n) < B64^i * (v * B64) := by
    rw [Nat.mul_left_comm, ]; omega
  exact Nat.lt_of_mul_lt_mul_left h3
/-- one digit of the quotient -/
theorem dv_step (L Z : List Nat) (i n v : Nat) (hL : Wd L) (h : i + n + 1 ≤ L.length) (hlt : wv L < v * B64^(i+1)) (hv : v < B64^n) (hv0 : 0 < v) (lZ : Z.length = n + 1) (hZ : wv Z = wv (pt L i n) % v) :
    wv (L.take i ++ (Z ++ L.drop (i+n+1))) + wv (pt L i n) / v * v * B64^i = wv L ∧ wv (L.take i ++ (Z ++ L.drop (i+n+1))) < v * B64^i := by
  have h1 := three_parts L i n h
  have hA := take_lt L hL i (by omega)
  have hC : wv (L.drop (i+n+1)) = 0 := by
    rcases Nat.eq_zero_or_pos (wv (L.drop (i+n+1))) with h0 | h0
    · exact h0
    · exfalso
      have k1 : B64^(n+1) * 1 ≤ B64^(n+1) * wv (L.drop (i+n+1)) := Nat.mul_le_mul_left _ h0
      have k2 : B64^i * B64^(n+1) ≤ wv L := by
        rw [h1]
        have := Nat.mul_le_mul_left (B64^i) k1
        rw [Nat.mul_add]
        rw [Nat.mul_one] at this
        omega
      have k3 : v * B64^(i+1) ≤ B64^n * B64^(i+1) := Nat.mul_le_mul_right _ (Nat.le_of_lt hv)
      rw [← Nat.pow_add] at k2 k3
      rw [show n + (i + 1) = i + (n + 1) by omega] at k3
      omega
  rw [wv_append, wv_append, lZ, hZ, List.length_take, Nat.min_eq_left (by omega), hC, Nat.mul_zero, Nat.add_zero]
  rw [hC, Nat.mul_zero, Nat.add_zero] at h1
  have h3 := Nat.div_add_mod (wv (pt L i n)) v
  have h4 := Nat.mod_lt (wv (pt L i n)) hv0
  generalize wv (pt L i n) = u at *
  generalize wv (L.take i) = A at *
  generalize wv L = T at *
  generalize B64^i = R at *
  constructor
  · rw [h1]
    have : R * u = R * (v * (u / v)) + R * (u % v) := by rw [← Nat.mul_add, h3]
    rw [this, Nat.mul_comm (u / v) v, Nat.mul_comm _ R]; omega
  · have : R * (u % v + 1) ≤ R * v := Nat.mul_le_mul_left R h4
    rw [Nat.mul_add, Nat.mul_one] at this
    rw [Nat.mul_comm v R]; omega
/-- .. and the quotient's row -/
theorem dq_step (Q : List Nat) (k q v T T' W0 : Nat) (hk : k < Q.length) (hv : wv (Q.drop (k+1)) * v * B64^(k+1) + T = W0) (hT : T' + q * v * B64^k = T) :
    wv ((Q.set k q).drop k) * v * B64^k + T' = W0 := by
  rw [wv_drop_cons _ k (by rw [List.length_set]; exact hk), List.drop_set_of_lt (by omega)]
  have e : (Q.set k q).getD k 0 = q := gd_set_same _ _ _ hk
  rw [e, Nat.add_mul, Nat.add_mul]
  rw [Nat.pow_succ] at hv
  generalize wv (Q.drop (k+1)) = D at *
  generalize B64^k = R at *
  have : D * v * (R * B64) = B64 * D * v * R := by
    rw [Nat.mul_comm R B64, ← Nat.mul_assoc, Nat.mul_comm (D * v) B64, ← Nat.mul_assoc]
  omega
/-- where the loop ends -/
theorem dv_end (q v T x y s : Nat) (h : q * v + T = x * 2^s) (hT : T < v) (hv : v = y * 2^s) : q = x / y ∧ T / 2^s = x % y := by
  have hs : 0 < 2^s := Nat.pow_pos (by omega)
  have h1 : x * 2^s / v = q := by rw [← h, Nat.add_comm, Nat.add_mul_div_right _ _ (by omega), Nat.div_eq_of_lt hT, Nat.zero_add]
  have h2 : x * 2^s % v = T := by rw [← h, Nat.add_comm, Nat.add_mul_mod_self_right, Nat.mod_eq_of_lt hT]
  rw [hv, Nat.mul_div_mul_right _ _ hs] at h1
  rw [hv, Nat.mul_mod_mul_right] at h2
  exact ⟨h1.symm, by rw [← h2, Nat.mul_div_cancel _ hs]⟩
/-- where it begins -/
theorem dv_begin (x v n l s : Nat) (hx : x < B64^l) (hs : s ≤ 63) (hn : n ≤ l) (hn0 : 1 ≤ n) (hv : 9223372036854775808 * B64^(n-1) ≤ v) : x * 2^s < v * B64^(l+1-n) := by
  have h1 : 2^s ≤ 2^63 := Nat.pow_le_pow_right (by omega) hs
  have h2 : x * 2^s < B64^l * 2^63 := by
    have a := Nat.mul_le_mul_left x h1
    have b : x * 2^63 < B64^l * 2^63 := Nat.mul_lt_mul_of_pos_right hx (by decide)
    omega
  have h3 : 9223372036854775808 * B64^(n-1) * B64^(l+1-n) ≤ v * B64^(l+1-n) := Nat.mul_le_mul_right _ hv
  rw [Nat.mul_assoc, ← Nat.pow_add, show n - 1 + (l + 1 - n) = l by omega, Nat.mul_comm] at h3
  have h4 : (2:Nat)^63 = 9223372036854775808 := by decide
  rw [h4] at h2
  omega
end Go.Proofs.YteccbedmpjeamaaGreatDoor
namespace Go.Proofs.YteccbedmpjeamaaGreatDoor
open Go.RowKit NM
/-- what the loop keeps: digit, what the highest word leaves (l), whether that went past a word (v) -/
structure EstI (u2 u1 u0 t nx d l v : Nat) : Prop where
  d64 : d < B64
  l64 : l < B64
  v1 : v ≤ 1
  eq : u2 * B64 + u1 = d * t + (l + v * B64)
  up : (u2 * B64 + u1) * B64 + u0 < (d + 1) * (t * B64 + nx)
/-- the product of digit and next word is not above what is left: the loop ends -/
theorem EstI.good {u2 u1 u0 t nx d l v : Nat} (h : EstI u2 u1 u0 t nx d l v) (hg : d * nx ≤ (l + v * B64) * B64 + u0) :
    d * (t * B64 + nx) ≤ (u2 * B64 + u1) * B64 + u0 ∧ (u2 * B64 + u1) * B64 + u0 < (d + 1) * (t * B64 + nx) :=
  ⟨(est_test _ _ _ _ _ _ h.eq).2 hg, h.up⟩
theorem EstI.over {u2 u1 u0 t nx d l : Nat} (h : EstI u2 u1 u0 t nx d l 1) (hn : nx < B64) : d * nx ≤ (l + 1 * B64) * B64 + u0 := by
  have h1 : d * nx ≤ B64 * B64 := Nat.mul_le_mul (Nat.le_of_lt h.d64) (Nat.le_of_lt hn)
  rw [Nat.add_mul, Nat.one_mul]; omega
/-- otherwise the digit is one too great at least -/
theorem EstI.next {u2 u1 u0 t nx d l : Nat} (h : EstI u2 u1 u0 t nx d l 0) (ht : t < B64) (hb : l * B64 + u0 < d * nx) : 0 < d ∧ EstI u2 u1 u0 t nx (d-1) (lo64 l t 0) (hi64 l t 0) := by
  have hd : 0 < d := by
    rcases Nat.eq_zero_or_pos d with h0 | h0
    · rw [h0] at hb; simp at hb
    · exact h0
  obtain ⟨c, rfl⟩ : ∃ c, d = c + 1 := ⟨d - 1, by omega⟩
  have e1 := Nat.div_add_mod (l + t + 0) B64
  have heq := h.eq
  have hd64 := h.d64
  have hl64 := h.l64
  refine ⟨hd, ⟨by omega, lo64_lt _ _ _, hi64_le h.l64 ht (by omega), ?_, ?_⟩⟩
  · unfold lo64 hi64
    rw [heq, Nat.zero_mul, Nat.add_zero, Nat.add_mul, Nat.one_mul, Nat.add_sub_cancel]
    rw [Nat.mul_comm] at e1
    omega
  · rw [Nat.add_sub_cancel]
    have h2 := est_test (u2 * B64 + u1) u0 t nx (c+1) l (by rw [heq]; omega)
    rw [← Nat.not_le] at hb ⊢
    exact fun h3 => hb (h2.1 h3)
theorem mh_ml (x y : Nat) : x * y = mh64 x y * B64 + ml64 x y := by unfold mh64 ml64; rw [Nat.mul_comm (x * y / B64)]; exact (Nat.div_add_mod _ _).symm
theorem EstI.lt {u2 u1 u0 t nx d l : Nat} (_h : EstI u2 u1 u0 t nx d l 0) (hc : mh64 d nx < l) : d * nx ≤ (l + 0 * B64) * B64 + u0 := by
  rw [mh_ml, Nat.zero_mul, Nat.add_zero]
  have h1 : (mh64 d nx + 1) * B64 ≤ l * B64 := Nat.mul_le_mul_right _ hc
  have h2 : ml64 d nx < B64 := ml64_lt _ _
  rw [Nat.add_mul] at h1
  omega
theorem EstI.eql {u2 u1 u0 t nx d l : Nat} (_ : EstI u2 u1 u0 t nx d l 0) (hc : mh64 d nx = l) (hu : ml64 d nx ≤ u0) : d * nx ≤ (l + 0 * B64) * B64 + u0 := by
  rw [mh_ml, Nat.zero_mul, Nat.add_zero, hc]; omega
theorem est_bad1 {d nx l u0 : Nat} (hu : u0 < B64) (hc : l < mh64 d nx) : l * B64 + u0 < d * nx := by
  rw [mh_ml d nx]
  have h1 : (l + 1) * B64 ≤ mh64 d nx * B64 := Nat.mul_le_mul_right _ hc
  rw [Nat.add_mul] at h1
  omega
theorem est_bad2 {d nx l u0 : Nat} (hc : mh64 d nx = l) (hu : u0 < ml64 d nx) : l * B64 + u0 < d * nx := by
  rw [mh_ml d nx, hc]; omega
/-- where the loop begins -/
theorem EstI.start (u2 u1 u0 t nx : Nat) (h2 : u2 < t) (h1 : u1 < B64) (h0 : u0 < B64) (ht : t < B64) : EstI u2 u1 u0 t nx (dq u2 u1 t) (dr u2 u1 t) 0 where
  d64 := dq_lt h2 h1
  l64 := Nat.lt_trans (dr_lt h2) ht
  v1 := by omega
  eq := by
    unfold dq dr
    have := Nat.div_add_mod (u2 * B64 + u1) t
    rw [Nat.mul_comm] at this; omega
  up := est_start u2 u1 u0 t nx (by omega) h0
end Go.Proofs.YteccbedmpjeamaaGreatDoor
namespace Go.Proofs.YteccbedmpjeamaaGreatDoor
open Go.RowKit NM
theorem Quiet.cellAt {u w : World} (h : Quiet u w) (b i : Nat) : w.cell? ⟨b, i, none⟩ = u.cell? ⟨b, i, none⟩ := World.cell?_of_block (by rw [h.heap])
set_option maxRecDepth 100000 in
set_option maxHeartbeats 4000000 in
theorem estimate_walk (w : World) (b o cap b2 o2 cap2 n N u2 u1 u0 t nx : Nat) (hn : 2 ≤ n) (hN : n < N) (hn2 : N ≤ 9223372036854775806)
    (_hc : N ≤ cap) (_hc2 : n ≤ cap2)
    (hp2 : w.cell? ⟨b, o+n, none⟩ = some (.int .u64 (u2 : Nat))) (hp1 : w.cell? ⟨b, o+(n-1), none⟩ = some (.int .u64 (u1 : Nat))) (hp0 : w.cell? ⟨b, o+(n-2), none⟩ = some (.int .u64 (u0 : Nat)))
    (hy1 : w.cell? ⟨b2, o2+(n-1), none⟩ = some (.int .u64 (t : Nat))) (hy0 : w.cell? ⟨b2, o2+(n-2), none⟩ = some (.int .u64 (nx : Nat)))
    (l2 : u2 < 18446744073709551616) (l1 : u1 < 18446744073709551616) (l0 : u0 < 18446744073709551616) (lt : t < 18446744073709551616) (ln : nx < 18446744073709551616) :
    Calls Tryz.prog 139 #[.slice (some ⟨b, o, none⟩) N cap, .slice (some ⟨b2, o2, none⟩) n cap2] w (EstQ u2 u1 u0 t nx w) := by
  by_cases hge : t ≤ u2
  · have hd : decide ((t : Int) ≤ (u2 : Int)) = true := by simp; omega
    have HG := Lib.hid hge; clear hge
    have HL := Lib.hid (And.intro l2 (And.intro l1 (And.intro l0 (And.intro lt ln)))); clear l2 l1 l0 lt ln
    go_enter Tryz.func139, Tryz.ntmps139
    go_wp2
    go_step3
    go_wp2
    go_region
    all_goals go_wp2
    all_goals (rw [Exit.noGoto_ret])
    all_goals go_ret
    all_goals exact ⟨B64 - 1, rfl, (Quiet.refl _).drew, by decide, fun _ => rfl, fun h => absurd h (Nat.not_lt.2 HG.out)⟩
  · have hlt : u2 < t := by omega
    have hd : decide (t ≤ u2) = false := by simp; omega
    clear hge
    have x1 : n - 1 < N := by omega
    have x2 : (n : Int) - 1 < (N : Int) := by omega
    have x3 : IntKind.i64.wrap ((n : Int) - 1) = (n : Int) - 1 := IntWalk.i64_in _ ⟨by omega, by omega⟩
    have x7 : (1 : Int) ≤ (n : Int) := by omega
    have hI0 := Lib.hid (EstI.start u2 u1 u0 t nx hlt l1 l0 lt)
    have hdv : ∀ a, Calls Tryz.prog 113 #[.int .u64 u2, .int .u64 u1, .int .u64 t] (w.drewN (1 + a)) fun e w'' => e = .returned (.tuple #[.int .u64 (dq u2 u1 t : Nat), .int .u64 (dr u2 u1 t : Nat)]) ∧ ∃ m, w'' = w.drewN (1 + m) :=
      fun a => (Div64_d u2 u1 t l1 hlt lt _).mono fun _ _ ⟨he, m, hm⟩ => ⟨he, a + m, by rw [hm, World.drewN_drewN, Nat.add_assoc]⟩
    have HDV := Lib.hid hdv; clear hdv
    have HLT := Lib.hid hlt; clear hlt
    go_enter Tryz.func139, Tryz.ntmps139
    go_wp2
    go_step3
    go_wp2
    go_region
    all_goals go_wp2
    go_quiet ((go_at_call 113; exact HDV.out _))
    go_wp2
    go_step3
    go_wp2
    clear x2 x3 x7 hd
    have x8 : (2 : Int) ≤ (n : Int) := by omega
    have hq0 : Quiet w ((w.drew).drewN nq) := ((Quiet.refl _).drew).drewN nq
    generalize (w.drew).drewN nq = w1 at *
    have hp0' := (hq0.cellAt _ _).trans hp0
    have HQ0 := Lib.hid hq0; clear hq0
    have HP := Lib.hid (And.intro hp2 (And.intro hp1 (And.intro hp0 (And.intro hy1 hy0)))); clear hp2 hp1 hp0 hy1 hy0
    go_loop [8, 9, 10] (fun d l v => ∃ dd ll vv : Nat, d = .int .u64 (dd : Nat) ∧ l = .int .u64 (ll : Nat) ∧ v = .int .u64 (vv : Nat) ∧ Hid (EstI u2 u1 u0 t nx dd ll vv)) (fun d _ _ => (intOf d).toNat)
    case atStart => exact ⟨_, _, 0, rfl, rfl, rfl, hI0⟩
    case round =>
      obtain ⟨dd, ll, vv, rfl, rfl, rfl, hI⟩ := hrel
      have d64 : dd < 18446744073709551616 := hI.out.d64
      have l64 : ll < 18446744073709551616 := hI.out.l64
      by_cases hv0 : vv = 0
      · subst hv0
        have HC := Lib.hid (fun W => Compare_any (mh64 dd nx) ll W)
        have HM := Lib.hid (fun W => mul64_any dd nx d64 ln W)
        have HA := Lib.hid (fun W => add64_c0 ll t W)
        rcases Nat.lt_trichotomy (mh64 dd nx) ll with h | h | h
        · have hcm : cmp64 (mh64 dd nx) ll = -1 := by unfold cmp64; rw [if_pos h]
          have hg := hI.out.good (hI.out.lt h)
          rw [hcm] at HC
          have HG := Lib.hid (And.intro h (And.intro hcm hg)); clear h hcm hg
          go_wp2_with (first | (go_at_call 129; refine (HM.out _).mono ?_; rintro e w' ⟨rfl, rfl⟩) | (go_at_call 157; refine (HC.out _).mono ?_; rintro e w' ⟨rfl, rfl⟩) | (simp only [add64_c0 ll t]))
          try rw [Exit.noGoto_ret]
          go_ret
          exact ⟨dd, rfl, HQ0.out, d64, fun h => absurd HLT.out (Nat.not_lt.2 h), fun _ => HG.out.2.2⟩
        · have hcm : cmp64 (mh64 dd nx) ll = 0 := by unfold cmp64; rw [if_neg (by omega), if_neg (by omega)]
          rw [hcm] at HC
          by_cases hu : ml64 dd nx ≤ u0
          · have hg := hI.out.good (hI.out.eql h hu)
            have HG := Lib.hid (And.intro h (And.intro hcm hg)); clear h hcm hg
            go_wp2_with (first | (go_at_call 129; refine (HM.out _).mono ?_; rintro e w' ⟨rfl, rfl⟩) | (go_at_call 157; refine (HC.out _).mono ?_; rintro e w' ⟨rfl, rfl⟩) | (simp only [add64_c0 ll t]))
            try rw [Exit.noGoto_ret]
            go_ret
            exact ⟨dd, rfl, HQ0.out, d64, fun h => absurd HLT.out (Nat.not_lt.2 h), fun _ => HG.out.2.2⟩
          · obtain ⟨hd1, hnx⟩ := hI.out.next lt (est_bad2 h (by omega))
            have hd2 : decide (ml64 dd nx ≤ u0) = false := by simp; omega
            have HG := Lib.hid (And.intro h (And.intro hcm (And.intro hu hnx))); clear h hcm hu hnx
            go_wp2_with (first | (go_at_call 129; refine (HM.out _).mono ?_; rintro e w' ⟨rfl, rfl⟩) | (go_at_call 157; refine (HC.out _).mono ?_; rintro e w' ⟨rfl, rfl⟩) | (simp only [add64_c0 ll t]))
            go_round
            case rel => exact ⟨dd - 1, lo64 ll t 0, hi64 ll t 0, by go_num, rfl, rfl, Lib.hid HG.out.2.2.2⟩
            case measure => (simp [intOf]; try omega)
        · have hcm : cmp64 (mh64 dd nx) ll = 1 := by unfold cmp64; rw [if_neg (by omega), if_pos h]
          rw [hcm] at HC
          obtain ⟨hd1, hnx⟩ := hI.out.next lt (est_bad1 l0 h)
          have HG := Lib.hid (And.intro h (And.intro hcm (And.intro h hnx))); clear h hcm hnx
          go_wp2_with (first | (go_at_call 129; refine (HM.out _).mono ?_; rintro e w' ⟨rfl, rfl⟩) | (go_at_call 157; refine (HC.out _).mono ?_; rintro e w' ⟨rfl, rfl⟩) | (simp only [add64_c0 ll t]))
          go_round
          case rel => exact ⟨dd - 1, lo64 ll t 0, hi64 ll t 0, by go_num, rfl, rfl, Lib.hid HG.out.2.2.2⟩
          case measure => (simp [intOf]; try omega)
      · have hvv := hI.out.v1
        obtain rfl : vv = 1 := by omega
        have hg := hI.out.good (hI.out.over ln)
        have HG := Lib.hid (And.intro hv0 (And.intro hv0 hg)); clear hv0 hg hvv
        go_wp2
        try rw [Exit.noGoto_ret]
        go_ret
        exact ⟨dd, rfl, HQ0.out, d64, fun h => absurd HLT.out (Nat.not_lt.2 h), fun _ => HG.out.2.2⟩
end Go.Proofs.YteccbedmpjeamaaGreatDoor
namespace Go.Proofs.YteccbedmpjeamaaGreatDoor
open Go.RowKit NM
def EstRQ (P Y : List Nat) (w : World) (e : Ending) (w' : World) : Prop :=
  ∃ d : Nat, e = .returned (.int .u64 (d : Nat)) ∧ Quiet w w' ∧ d < 18446744073709551616 ∧ wv P / wv Y ≤ d ∧ d ≤ wv P / wv Y + 1
theorem estimate_any (w : World) (b o cap b2 o2 cap2 n N : Nat) (P Y : List Nat) (hR : Row w b o P) (hS : Row w b2 o2 Y) (hP : Wd P) (hY : Wd Y) (lP : P.length = N) (lY : Y.length = n) (hN : N = n + 1)
    (hn : 2 ≤ n) (hn2 : N ≤ 9223372036854775806) (hc : N ≤ cap) (hc2 : n ≤ cap2) (htop : 9223372036854775808 ≤ gd Y (n-1)) (hu : wv P < wv Y * B64) :
    Calls Tryz.prog 139 #[.slice (some ⟨b, o, none⟩) N cap, .slice (some ⟨b2, o2, none⟩) n cap2] w (EstRQ P Y w) := by
  obtain ⟨m, rfl⟩ : ∃ m, n = m + 2 := ⟨n - 2, by omega⟩
  refine (estimate_walk w b o cap b2 o2 cap2 (m+2) N (gd P (m+2)) (gd P (m+1)) (gd P m) (gd Y (m+1)) (gd Y m) hn (by omega) hn2 hc hc2 (hR.cell _ (by omega)) (hR.cell (m+1) (by omega)) (hR.cell m (by omega)) (hS.cell (m+1) (by omega)) (hS.cell m (by omega))
    (gd_lt hP _) (gd_lt hP _) (gd_lt hP _) (gd_lt hY _) (gd_lt hY _)).mono ?_
  rintro e w' ⟨d, rfl, hq, hd, h1, h2⟩
  have h := est_fit P Y m d hP hY (by omega) lY htop hu hd h1 h2
  exact ⟨d, rfl, hq, hd, h.1, h.2⟩
/-- a part of a row is turned -/
theorem Row.part {w w' : World} {b i n : Nat} {L Z : List Nat} (h : Row w b 0 L) (hl : i + n + 1 ≤ L.length) (a : At (n+1) b i w Z w') : Row w' b 0 (L.take i ++ (Z ++ L.drop (i+n+1))) := by
  have l1 : (L.take i).length = i := by rw [List.length_take]; omega
  refine Row.append (a.only.rowIn (h.take i) (.inl (by omega))) ?_
  rw [l1, Nat.zero_add]
  refine Row.append a.row ?_
  rw [a.len]
  have hd := h.drop (i+n+1)
  rw [Nat.zero_add] at hd
  exact a.only.rowIn hd (.inr (by omega))
theorem Row.pt {w : World} {b i n : Nat} {L : List Nat} (h : Row w b 0 L) : Row w b i (pt L i n) := by
  have := (h.drop i).take (n+1)
  rwa [Nat.zero_add] at this
theorem Wd_pt {L : List Nat} (h : Wd L) (i n : Nat) : Wd (pt L i n) := Wd_take (Wd_drop h i) (n+1)
theorem len_part (L Z : List Nat) (i n : Nat) (h : i + n + 1 ≤ L.length) (hZ : Z.length = n + 1) : (L.take i ++ (Z ++ L.drop (i+n+1))).length = L.length := by
  rw [List.length_append, List.length_append, List.length_take, List.length_drop, hZ]; omega
/-- what the loop of divide keeps -/
structure DvI (B bl bq bd N M v W0 : Nat) (D : List Nat) (w : World) (k : Nat) (L Q : List Nat) (wr : World) : Prop where
  rL : Row wr bl 0 L
  wL : Wd L
  lL : L.length = N
  rQ : Row wr bq 0 Q
  wQ : Wd Q
  lQ : Q.length = M
  rD : Row wr bd 0 D
  bel : Below B w wr
  sz : bl < wr.heap.size ∧ bq < wr.heap.size ∧ bd < wr.heap.size
  val : wv (Q.drop k) * v * B64^k + wv L = W0
  lt : wv L < v * B64^k
theorem DvI.quiet {B bl bq bd N M v W0 : Nat} {D : List Nat} {w wr w' : World} {k : Nat} {L Q : List Nat} (h : DvI B bl bq bd N M v W0 D w k L Q wr) (q : Quiet wr w') : DvI B bl bq bd N M v W0 D w k L Q w' :=
  ⟨q.row h.rL, h.wL, h.lL, q.row h.rQ, h.wQ, h.lQ, q.row h.rD, h.bel.trans (q.below _), by rw [q.heap]; exact h.sz, h.val, h.lt⟩
/-- a round: the part is turned into its rest, the digit is stored -/
theorem DvI.step {B bl bq bd N M v W0 n : Nat} {D : List Nat} {w wr w2 : World} {k : Nat} {L Q Z : List Nat} (h : DvI B bl bq bd N M v W0 D w (k+1) L Q wr) (hl : k + n + 1 ≤ N) (hk : k < M) (a : At (n+1) bl k wr Z w2)
    (hv : v < B64^n) (hv0 : 0 < v) (hZ : wv Z = wv (pt L k n) % v) (h1 : bq ≠ bl) (h2 : bd ≠ bl) (h3 : bd ≠ bq) (h4 : bl ≠ bq) (hB : B ≤ bl) (hB2 : B ≤ bq) (hq : wv (pt L k n) / v < B64) :
    DvI B bl bq bd N M v W0 D w k (L.take k ++ (Z ++ L.drop (k+n+1))) (Q.set k (wv (pt L k n) / v)) (w2.setCell ⟨bq, k, none⟩ (.int .u64 (wv (pt L k n) / v : Nat))) := by
  have hs := dv_step L Z k n v h.wL (by rw [h.lL]; exact hl) h.lt hv hv0 a.len hZ
  have rQ2 := a.only.row h.rQ h1 h.sz.2.1
  have hsz := a.only.size
  have o2 : Only bq 0 M w2 (w2.setCell ⟨bq, k, none⟩ (.int .u64 (wv (pt L k n) / v : Nat))) := (Only.refl _ _ _ _).set k _ (Nat.zero_le _) hk
  have rL2 := h.rL.part (by rw [h.lL]; exact hl) a
  refine ⟨o2.row rL2 h4 (Nat.lt_of_lt_of_le h.sz.1 hsz), ?_, by rw [len_part _ _ _ _ (by rw [h.lL]; exact hl) a.len, h.lL], ?_, Wd_set h.wQ k _ hq, by rw [List.length_set, h.lQ], ?_, ?_, ?_, ?_, hs.2⟩
  · exact Wd_append (Wd_take h.wL _) (Wd_append a.wd (Wd_drop h.wL _))
  · have := rQ2.set k (wv (pt L k n) / v) (by rw [h.lQ]; exact hk)
    rwa [Nat.zero_add] at this
  · exact o2.row (a.only.row h.rD h2 h.sz.2.2) h3 (Nat.lt_of_lt_of_le h.sz.2.2 hsz)
  · exact (h.bel.trans (a.only.below hB (by have := h.bel.size; have := h.sz; omega))).trans (o2.below hB2 (by have := h.sz; omega))
  · have := o2.size; have := h.sz; omega
  · exact dq_step Q k _ v (wv L) _ W0 (by rw [h.lQ]; exact hk) h.val hs.1
theorem only_of_below {B b lo hi : Nat} {u w : World} (h : Below B u w) (hB : u.heap.size ≤ B) (hb : b < u.heap.size) : Only b lo hi u w :=
  ⟨h.os, h.tape, h.output, h.size, fun k _ hk => h.block k (Nat.lt_of_lt_of_le hk hB), fun _ _ => World.cell?_of_block (h.block b (Nat.lt_of_lt_of_le hb hB)), fun _ => World.frozen?_of_block (h.block b (Nat.lt_of_lt_of_le hb hB))⟩
theorem takeP_n (w : World) (b o cap b2 o2 cap2 d n N : Nat) (P Y : List Nat) (hR : Row w b o P) (hS : Row w b2 o2 Y) (hP : Wd P) (hY : Wd Y) (lP : P.length = N) (lY : Y.length = n) (hN : N = n + 1) (hne : b2 ≠ b) (hb2 : b2 < w.heap.size)
    (hd : d < 18446744073709551616) (hn2 : N ≤ 9223372036854775806) (hc : N ≤ cap) (hc2 : n ≤ cap2) :
    Calls Tryz.prog 140 #[.slice (some ⟨b, o, none⟩) N cap, .slice (some ⟨b2, o2, none⟩) n cap2, .int .u64 (d : Nat)] w (TakeQ P Y d b o w) := by
  subst lP; subst lY
  exact takeProduct_any w b o cap b2 o2 cap2 d P Y hR hS hP hY hne hb2 hd hn2 hc hc2 (by omega)
theorem addP_n (w : World) (b o cap b2 o2 cap2 n N : Nat) (P Y : List Nat) (hR : Row w b o P) (hS : Row w b2 o2 Y) (hP : Wd P) (hY : Wd Y) (lP : P.length = N) (lY : Y.length = n) (hN : N = n + 1) (hne : b2 ≠ b) (hb2 : b2 < w.heap.size)
    (hn2 : N ≤ 9223372036854775806) (hc : N ≤ cap) (hc2 : n ≤ cap2) :
    Calls Tryz.prog 98 #[.slice (some ⟨b, o, none⟩) N cap, .slice (some ⟨b2, o2, none⟩) n cap2] w (AddQ P Y b o w) := by
  subst lP; subst lY
  exact add_any w b o cap b2 o2 cap2 P Y hR hS hP hY hne hb2 hn2 hc hc2 (by omega)
end Go.Proofs.YteccbedmpjeamaaGreatDoor
