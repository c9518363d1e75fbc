/-
  The walk of nat.Pow.
-/
import Derived.Test.YtkpkifhjedlieaaDoorPowOdd
namespace Go.Proofs.YtkpkifhjedlieaaDoor
open Go.RowKit NM
/-- what Pow answers -/
def PowV (a e m : ByteArray) : Value := if sv m = 0 then .tuple #[.string ⟨#[]⟩, .bool false] else .tuple #[.string (NB (sv a ^ sv e % sv m)), .bool true]
theorem number_O {n M x : Nat} {w : World} {v : Value} (h : NumO n M w v x) (hn : n ≤ 536870914) : Calls Tryd.prog 26 #[v] w fun e w' => e = .returned (.string (NB x)) ∧ Below w.heap.size w w' := by
  obtain ⟨b, o, c, Z, rfl, h2, h3, h4, h5, h6, h7, rfl⟩ := h
  have := number_any w b o c Z h3 h4 h2 (by omega) (by omega)
  rw [h5] at this
  exact this
theorem pow_words {w : World} {a : ByteArray} (ha : a.size ≤ 4294967296) : Calls Tryd.prog 23 #[.string a] w (WQ a w) := words_any w a (by omega)
def PowOQ (n M x : Nat) (w : World) (e : Ending) (w' : World) : Prop := ∃ r, e = .returned r ∧ NumO n M w' r x ∧ Below w.heap.size w w'
theorem gd_parity (Y : List Nat) (hY : Wd Y) : gd Y 0 % 2 = wv Y % 2 := by
  rw [← wv_mod Y hY]
  exact Nat.mod_mod_of_dvd _ ⟨9223372036854775808, rfl⟩
set_option maxRecDepth 100000 in
set_option maxHeartbeats 4000000 in
theorem Pow_odd (w : World) (a e m : ByteArray) (ha : a.size ≤ 4294967296) (he : e.size ≤ 4294967296) (hm : m.size ≤ 4294967296) (hD : DivS m) (hodd : sv m % 2 = 1) :
    Calls Tryd.prog 17 #[.string a, .string e, .string m] w fun e' w' => e' = .returned (PowV a e m) ∧ Below w.heap.size w w' := by
  go_enter Tryd.func17, Tryd.ntmps17
  go_wp2_with fail
  refine (words_any _ m (by omega)).mono ?_
  rintro e' w1 ⟨Y, oY, vY, tY, bY, lY, rfl⟩
  have lenY := words_len lY hm
  have hsv : wv Y = sv m := vY
  have h0 : sv m ≠ 0 := by omega
  have hD2 := hD.words oY.wd tY hsv h0
  have hY1 : 0 < Y.length := by
    cases Y with
    | nil => exact absurd hsv.symm h0
    | cons x l => simp
  have par : gd Y 0 % 2 = 1 := by rw [gd_parity Y oY.wd, hsv]; exact hodd
  have VY := Lib.hid (And.intro hsv (And.intro lY par)); clear vY lY hsv
  have hl0 : ((Y.length : Int) == 0) = false := beq_eq_false_iff_ne.2 (by omega)
  have hp1 : (((gd Y 0 : Nat) : Int) % 2 == 1) = true := beq_iff_eq.2 (by omega)
  have hc0 := oY.row.cell 0 hY1
  rw [Nat.zero_add] at hc0
  clear par
  have HD2 := Lib.hid hD2; clear hD2
  have hB2 : Below w1.heap.size w1 (w1.alloc (.cells #[.slice (some ⟨w.heap.size, 0, none⟩) Y.length Y.length] 46)) := (Below.refl _ w1).alloc (Nat.le_refl _) _
  have hbox : (w1.alloc (.cells #[.slice (some ⟨w.heap.size, 0, none⟩) Y.length Y.length] 46)).cell? ⟨w1.heap.size, 0, none⟩ = some (.slice (some ⟨w.heap.size, 0, none⟩) Y.length Y.length) := by
    rw [World.cell?_alloc_at _ _ _ _ rfl]; rfl
  have hs2 : (w1.alloc (.cells #[.slice (some ⟨w.heap.size, 0, none⟩) Y.length Y.length] 46)).heap.size = w1.heap.size + 1 := by simp
  have hrow2 := oY.row.below hB2 oY.lt
  have hlt := oY.lt
  go_wp2_with fail
  generalize w1.alloc (.cells #[.slice (some ⟨w.heap.size, 0, none⟩) Y.length Y.length] 46) = w2 at *
  have HS2 := Lib.hid hs2; clear hs2
  have ed : w2.drew.heap.size = w2.heap.size := rfl
  have HE := Lib.hid ed; clear ed
  go_region_held3 (fun w' => w'.cell? ⟨w1.heap.size, 0, none⟩ = some (.slice (some ⟨w.heap.size, 0, none⟩) Y.length Y.length)) (first | assumption | (simp [go_sem]; assumption))
    (first
      | (go_at_call 23; go_must (go_fit (pow_words (w := w2.drew) ha)); rintro e' w3 ⟨X, oX, vX, tX, bX, lX, rfl⟩; have hX := words_len lX ha; have VX := Lib.hid (And.intro vX lX); clear vX lX; have hbox3 := (bX.cell (p := ⟨w1.heap.size, 0, none⟩) (by show w1.heap.size < _; rw [HE.out, HS2.out]; omega)).trans hbox; have hrow3 := hrow2.drew.below bX (by rw [HE.out, HS2.out]; omega))
      | (go_at_call 33; go_must (go_fit (powOdd_any w3 _ 0 X.length w.heap.size 0 Y.length X Y e he oX.row oX.wd oX.lt (by omega) (Nat.le_refl _) hrow3 oY.wd tY (by have := bX.size; rw [HE.out, HS2.out] at this; omega) (by omega) (Nat.le_refl _) (by rw [VY.out.1]; exact hodd) HD2.out)); rintro e' w4 ⟨r, rfl, nr, b4⟩; have hbox4 := (b4.cell (p := ⟨w1.heap.size, 0, none⟩) (by show w1.heap.size < _; have := bX.size; rw [HE.out, HS2.out] at this; omega)).trans hbox3)
      | (go_at_call 26; go_must (go_fit (number_O nr (by omega))); rintro e' w5 ⟨rfl, b5⟩; have hbox5 := (b5.cell (p := ⟨w1.heap.size, 0, none⟩) (by show w1.heap.size < _; have := bX.size; rw [HE.out, HS2.out] at this; have := b4.size; omega)).trans hbox4))
  all_goals go_wp2
  all_goals go_ret2
  all_goals have z1 := bY.size
  all_goals have z2 := hB2.size
  all_goals have z3 := bX.size
  all_goals rw [HE.out] at z3
  all_goals have z4 := b4.size
  all_goals refine ⟨?_, bY.trans ((hB2.mono z1).trans ((((Below.refl _ w2).drew.trans bX).mono (by rw [HE.out]; omega)).trans ((b4.mono (by omega)).trans (b5.mono (by omega)))))⟩
  all_goals (unfold PowV; rw [if_neg h0]; have e1 := VX.out.1; have e2 := VY.out.1; rw [e1, e2]; rfl)
end Go.Proofs.YtkpkifhjedlieaaDoor
