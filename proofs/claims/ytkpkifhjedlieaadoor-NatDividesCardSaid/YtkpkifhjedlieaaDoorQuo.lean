/-
  The walks of nat.divide, nat.rest and nat.Quo.
-/
import Derived.Test.YtkpkifhjedlieaaDoorDivW
import Derived.Test.YtkpkifhjedlieaaDoorTopC
namespace Go.Proofs.YtkpkifhjedlieaaDoor
open Go.RowKit NM
/-- a trimmed number in memory -/
def NumA (W : World) (v : Value) (x : Nat) : Prop :=
  ∃ b o cap Z, v = .slice (some ⟨b, o, none⟩) Z.length cap ∧ b < W.heap.size ∧ Row W b o Z ∧ Wd Z ∧ Z.length ≤ cap ∧ cap ≤ 1099511627776 ∧ Tr Z ∧ wv Z = x
/-- .. or the nil slice, for 0 -/
def Num (W : World) (v : Value) (x : Nat) : Prop := NumA W v x ∨ (v = .slice none 0 0 ∧ x = 0)
theorem NumA.below {W W' : World} {v : Value} {x : Nat} (h : NumA W v x) (hb : Below W.heap.size W W') : NumA W' v x := by
  obtain ⟨b, o, cap, Z, h1, h2, h3, h4, h5, h6, h7, h8⟩ := h
  exact ⟨b, o, cap, Z, h1, Nat.lt_of_lt_of_le h2 hb.size, h3.below hb h2, h4, h5, h6, h7, h8⟩
theorem Num.below {W W' : World} {v : Value} {x : Nat} (h : Num W v x) (hb : Below W.heap.size W W') : Num W' v x := h.imp (fun h => h.below hb) id
theorem NumA.of {W : World} {b o cap k x : Nat} {Z : List Nat} (hb : b < W.heap.size) (hr : Row W b o Z) (hw : Wd Z) (hk : k ≤ Z.length) (hc : Z.length ≤ cap) (hcap : cap ≤ 1099511627776) (ht : Tr (Z.take k)) (hv : wv (Z.take k) = x) :
    NumA W (.slice (some ⟨b, o, none⟩) k cap) x := by
  have hl : (Z.take k).length = k := by rw [List.length_take]; omega
  exact ⟨b, o, cap, Z.take k, by rw [hl], hb, hr.take k, Wd_take hw k, by rw [hl]; omega, hcap, ht, hv⟩
/-- the divisors that are served -/
def DivOK (Y : List Nat) : Prop := 1 ≤ Y.length
def DivideQ (X Y : List Nat) (b o : Nat) (w : World) (e : Ending) (w' : World) : Prop :=
  ∃ vq vr, e = .returned (.tuple #[vq, vr]) ∧ Num w' vq (wv X / wv Y) ∧ NumA w' vr (wv X % wv Y) ∧ Only b o (o + X.length) w w'
set_option maxHeartbeats 1000000 in
theorem divide_one (w : World) (b o cap b2 o2 cap2 : Nat) (X Y : List Nat) (hR : Row w b o X) (hS : Row w b2 o2 Y) (hX : Wd X) (hY : Wd Y) (tX : Tr X) (tY : Tr Y) (hb : b < w.heap.size) (hb2 : b2 < w.heap.size)
    (hc : X.length ≤ cap) (hc2 : Y.length ≤ cap2) (hcap : cap ≤ 1099511627776) (h1 : Y.length = 1) :
    Calls Tryd.prog 30 #[.slice (some ⟨b, o, none⟩) X.length cap, .slice (some ⟨b2, o2, none⟩) Y.length cap2] w (DivideQ X Y b o w) := by
  have hcmp := compare_any w b o cap b2 o2 cap2 X Y hR hS hX hY tX tY (by omega) (by omega) hc hc2
  have HC := Lib.hid hcmp; clear hcmp
  by_cases hlt : wv X < wv Y
  · have hn1 := cmpv_lt hlt
    have H1 := Lib.hid h1; clear h1
    go_enter Tryd.func30, Tryd.ntmps30
    go_wp2_with fail
    refine HC.out.mono ?_
    rintro e w1 ⟨rfl, hq⟩
    rw [hn1]
    have HN := Lib.hid hn1; clear hn1
    go_wp2
    go_ret2
    have hb1 := hq.below (w.heap.size)
    exact ⟨_, _, rfl, .inr ⟨rfl, Nat.div_eq_of_lt hlt⟩, ⟨b, o, cap, X, rfl, Nat.lt_of_lt_of_le hb hb1.size, hq.row hR, hX, hc, hcap, tX, (Nat.mod_eq_of_lt hlt).symm⟩, hq.only _ _ _⟩
  · have hge : (decide (cmpv (wv X) (wv Y) < 0)) = false := by unfold cmpv; rw [if_neg hlt]; split <;> simp
    obtain ⟨y, rfl⟩ : ∃ y, Y = [y] := by
      match Y, h1 with
      | [y], _ => exact ⟨y, rfl⟩
    have hy : y < 18446744073709551616 := hY y (by simp)
    have hy0 : 0 < y := by
      have : Tr [y] := tY
      simp [Tr] at this; omega
    have hwy : wv [y] = y := by simp [wv]
    have hl1 : [y].length = 1 := rfl
    rw [hl1] at HC ⊢
    clear hl1 h1
    go_enter Tryd.func30, Tryd.ntmps30
    go_wp2_with fail
    refine HC.out.mono ?_
    rintro e w1 ⟨rfl, hq⟩
    have hy1 := (hq.row hS).cell 0 (by simp)
    have hgy : gd [y] 0 = y := rfl
    rw [hgy, Nat.add_zero] at hy1
    have HY := Lib.hid hwy; have HG := Lib.hid hgy; clear hwy hgy
    have hb1 : b < w1.heap.size := Nat.lt_of_lt_of_le hb (hq.below 0).size
    go_wp2_with fail
    refine (divideWord_any w1 b o cap y X (hq.row hR) hX (by omega) hc hy0 hy).mono ?_
    rintro e w2 ⟨Z, k, aZ, hk, tZ, vZ, rfl⟩
    have VZ := Lib.hid vZ; clear vZ
    have hrow := row_one w2 (wv X % y) 56
    have hmlt : wv X % y < y := Nat.mod_lt _ hy0
    have ht := trim_any (w2.alloc (.cells #[.int .u64 (wv X % y : Nat)] 56)) w2.heap.size 0 1 [wv X % y] hrow (by simp) (by simp)
    have hZ2 : Row (w2.alloc (.cells #[.int .u64 (wv X % y : Nat)] 56)) b o Z := aZ.row.alloc (by have := aZ.only.size; omega) _
    have hO2 := aZ.only.alloc (o := .cells #[.int .u64 (wv X % y : Nat)] 56) hb1
    have hz2 : w2.heap.size < (w2.alloc (.cells #[.int .u64 (wv X % y : Nat)] 56)).heap.size := by simp
    have HT := Lib.hid ht; clear ht
    obtain ⟨m, hm⟩ : ∃ m, m = wv X % y := ⟨_, rfl⟩
    rw [← hm] at HT hrow hO2 hZ2 hmlt hz2
    rw [← hm]
    have HM := Lib.hid hm; clear hm
    go_wp2_with (refine HT.out.mono ?_; rintro e w' ⟨j, hj, hw, htr, rfl, rfl⟩)
    go_ret2
    have hsz := aZ.only.size
    refine ⟨_, _, rfl, .inl (NumA.of (Nat.lt_of_lt_of_le hb1 hO2.size) hZ2 aZ.wd (by rw [aZ.len]; exact hk) (by rw [aZ.len]; exact hc) hcap tZ (by rw [VZ.out, HY.out])), ?_, ?_⟩
    · have hw1 : Wd [m] := fun x hx => by rw [List.mem_singleton.1 hx]; show m < 18446744073709551616; omega
      exact NumA.of hz2 hrow hw1 hj (by simp) (by omega) htr (by rw [hw, HY.out, ← HM.out]; simp [wv])
    · exact (hq.only _ _ _).trans hO2
end Go.Proofs.YtkpkifhjedlieaaDoor
