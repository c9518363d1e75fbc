/-
  The walk of the product modulo an even number, as nat.Pow makes it.
-/
import Derived.Test.YtkpkifhjedlieaaDoorQuo2
import Derived.Test.YtkpkifhjedlieaaDoorDigits
import Derived.Deep.RegionHeld3
namespace Go.Proofs.YtkpkifhjedlieaaDoor
open Go.RowKit NM
/-- a variable that closures share holds the modulus -/
structure Modulus (w : World) (Bm bm om cap : Nat) (Y : List Nat) : Prop where
  box : w.cell? ⟨Bm, 0, none⟩ = some (.slice (some ⟨bm, om, none⟩) Y.length cap)
  row : Row w bm om Y
  wd : Wd Y
  tr : Tr Y
  bm : bm < w.heap.size
  Bm : Bm < w.heap.size
  len : Y.length ≤ 536870914
  cap : Y.length ≤ cap
theorem Modulus.below {w w' : World} {Bm bm om cap : Nat} {Y : List Nat} (h : Modulus w Bm bm om cap Y) (hb : Below w.heap.size w w') : Modulus w' Bm bm om cap Y :=
  ⟨(hb.cell (p := ⟨Bm, 0, none⟩) h.Bm).trans h.box, h.row.below hb h.bm, h.wd, h.tr, Nat.lt_of_lt_of_le h.bm hb.size, Nat.lt_of_lt_of_le h.Bm hb.size, h.len, h.cap⟩
def TimesQ (z : Nat) (w : World) (e : Ending) (w' : World) : Prop := ∃ r, e = .returned r ∧ NumA w' r z ∧ Below w.heap.size w w'
set_option maxHeartbeats 2000000 in
theorem timesE_any (w : World) (u v : Value) (x y Bm bm om cap : Nat) (Y : List Nat) (hu : NumA w u x) (hv : NumA w v y) (hm : Modulus w Bm bm om cap Y) (hD : DivOK Y) (hx : x < wv Y) (hy : y < wv Y) :
    Calls Tryd.prog 34 #[u, v, .pointer (some ⟨Bm, 0, none⟩)] w (TimesQ (x * y % wv Y) w) := by
  obtain ⟨b, o, cp, Z, rfl, hb, hr, hw, hc, hcp, ht, rfl⟩ := hu
  obtain ⟨b2, o2, cp2, Z2, rfl, hb2, hr2, hw2, hc2, hcp2, ht2, rfl⟩ := hv
  have hl := Tr_len_le hm.wd ht (Nat.le_of_lt hx)
  have hl2 := Tr_len_le hm.wd ht2 (Nat.le_of_lt hy)
  have hml := hm.len
  have hP := Lib.hid (product_any w.drew b o cp b2 o2 cp2 Z Z2 hr.drew hr2.drew hw hw2 hb hb2 (by omega) hc hc2)
  have hmd : Modulus w.drew Bm bm om cap Y := hm.below (Below.refl _ w).drew
  have hbx := hm.box
  go_enter Tryd.func34, Tryd.ntmps34
  go_wp2
  go_region_held3 (fun w' => w'.cell? ⟨Bm, 0, none⟩ = some (.slice (some ⟨bm, om, none⟩) Y.length cap)) (first | assumption | (simp [go_sem]; assumption))
    (first
      | (go_at_call 29; refine hP.out.mono ?_; rintro e w1 ⟨P, oP, vP, tP, bP, rfl⟩; have hm1 := hmd.below bP; have hbx1 := hm1.box)
      | (go_at_call 35; refine (rest_any _ _ _ _ _ _ _ P Y oP.row hm1.row oP.wd hm1.wd tP hm1.tr oP.lt hm1.bm (by have := hmd.bm; omega) oP.cap hm1.cap (by omega) (by omega) hD).mono ?_; rintro e w2 ⟨r, rfl, hr9, ho9⟩; have hb12 := ho9.below (Nat.le_refl _) (Nat.le_of_lt oP.lt); have hbx2 := (hb12.cell (p := ⟨Bm, 0, none⟩) hmd.Bm).trans hbx1))
  all_goals go_wp2
  all_goals go_ret
  all_goals exact ⟨_, rfl, by rw [← vP]; exact hr9, ((Below.refl _ w).drew.trans bP).trans hb12⟩
end Go.Proofs.YtkpkifhjedlieaaDoor
