/-
  The walk of nat.Pow for even moduli, and for all.
-/
import Derived.Test.YtkpkifhjedlieaaDoorPow
namespace Go.Proofs.YtkpkifhjedlieaaDoor
open Go.RowKit NM
theorem number_A {x : Nat} {w : World} {v : Value} (h : NumA w v x) : Calls Tryd.prog 26 #[v] w fun e w' => e = .returned (.string (NB x)) ∧ Below w.heap.size w w' := number_num w v x (.inl h)
theorem below_one (W : World) (t : Nat) : Below W.heap.size W (W.alloc (.cells #[.int .u64 1] t)) := (Below.refl _ W).alloc (Nat.le_refl _) _
theorem num_row {W : World} {b : Nat} (h : Row W b 0 [1]) (hb : b < W.heap.size) : NumA W (.slice (some ⟨b, 0, none⟩) 1 1) 1 :=
  ⟨b, 0, 1, [1], rfl, hb, h, fun x hx => by rw [List.mem_singleton.1 hx]; decide, by simp, by omega, by simp [Tr], by simp [wv]⟩
theorem num_one (W : World) (t : Nat) : NumA (W.alloc (.cells #[.int .u64 1] t)) (.slice (some ⟨W.heap.size, 0, none⟩) 1 1) 1 := by
  have hone := row_one W 1 t
  exact ⟨W.heap.size, 0, 1, [1], rfl, by simp, hone, fun x hx => by rw [List.mem_singleton.1 hx]; decide, by simp, by omega, by simp [Tr], by simp [wv]⟩
set_option maxRecDepth 100000 in
set_option maxHeartbeats 4000000 in
theorem Pow_even (w : World) (a e m : ByteArray) (ha : a.size ≤ 4294967296) (he : e.size ≤ 4294967296) (hm : m.size ≤ 4294967296) (hD : DivS m) (h0 : sv m ≠ 0) (hev : sv m % 2 = 0) :
    Calls Tryd.prog 17 #[.string a, .string e, .string m] w fun e' w' => e' = .returned (PowV a e m) ∧ Below w.heap.size w w' := by
  go_enter Tryd.func17, Tryd.ntmps17
  go_wp2_with fail
  refine (words_any _ m (by omega)).mono ?_
  rintro e' w1 ⟨Y, oY, vY, tY, bY, lY, rfl⟩
  have lenY := words_len lY hm
  have hsv : wv Y = sv m := vY
  have hD2 := hD.words oY.wd tY hsv h0
  have hY1 : 0 < Y.length := by
    cases Y with
    | nil => exact absurd hsv.symm h0
    | cons x l => simp
  have par : gd Y 0 % 2 = 0 := by rw [gd_parity Y oY.wd, hsv]; exact hev
  have VY := Lib.hid (And.intro hsv (And.intro lY par)); clear vY lY hsv
  have hl0 : ((Y.length : Int) == 0) = false := beq_eq_false_iff_ne.2 (by omega)
  have hp1 : (((gd Y 0 : Nat) : Int) % 2 == 1) = false := beq_eq_false_iff_ne.2 (by omega)
  have hc0 := oY.row.cell 0 hY1
  rw [Nat.zero_add] at hc0
  clear par
  have HD2 := Lib.hid hD2; clear hD2
  have HV := Lib.hid (And.intro h0 hev); clear h0 hev
  have hB2 : Below w1.heap.size w1 (w1.alloc (.cells #[.slice (some ⟨w.heap.size, 0, none⟩) Y.length Y.length] 46)) := (Below.refl _ w1).alloc (Nat.le_refl _) _
  have hbox : (w1.alloc (.cells #[.slice (some ⟨w.heap.size, 0, none⟩) Y.length Y.length] 46)).cell? ⟨w1.heap.size, 0, none⟩ = some (.slice (some ⟨w.heap.size, 0, none⟩) Y.length Y.length) := by
    rw [World.cell?_alloc_at _ _ _ _ rfl]; rfl
  have hs2 : (w1.alloc (.cells #[.slice (some ⟨w.heap.size, 0, none⟩) Y.length Y.length] 46)).heap.size = w1.heap.size + 1 := by simp
  have hrow2 := oY.row.below hB2 oY.lt
  have hlt := oY.lt
  go_wp2_with fail
  go_upto_region 7 with fail
  generalize w1.alloc (.cells #[.slice (some ⟨w.heap.size, 0, none⟩) Y.length Y.length] 46) = w2 at *
  have HS2 := Lib.hid hs2; clear hs2
  have hM : ∀ W, Below w2.heap.size w2 W → Modulus W w1.heap.size w.heap.size 0 Y.length Y := fun W hW =>
    ⟨(hW.cell (p := ⟨w1.heap.size, 0, none⟩) (by show w1.heap.size < _; rw [HS2.out]; omega)).trans hbox, hrow2.below hW (by rw [HS2.out]; omega), oY.wd, tY, by have := hW.size; rw [HS2.out] at this; omega, by have := hW.size; rw [HS2.out] at this; omega, by omega, Nat.le_refl _⟩
  have h1Y : 1 < wv Y := by have q1 := VY.out.1; have q2 := HV.out; omega
  have box : ∀ W, Below w2.heap.size w2 W → W.cell? ⟨w1.heap.size, 0, none⟩ = some (.slice (some ⟨w.heap.size, 0, none⟩) Y.length Y.length) := fun W hW => (hM W hW).box
  have hb3 := box _ (Below.refl _ w2)
  have A2 := below_one w2 56
  have one := fun W => num_one W 56
  have hA2 := box _ A2
  go_region_held3 (fun w' => w'.cell? ⟨w1.heap.size, 0, none⟩ = some (.slice (some ⟨w.heap.size, 0, none⟩) Y.length Y.length)) (first | assumption | (simp [go_sem]; assumption))
    (first
      | (go_at_call 23; go_must (go_fit (pow_words ha)); rintro e' w3 ⟨X, oX, vX, tX, bX, lX, rfl⟩; have hX := words_len lX ha; have VX := Lib.hid (And.intro vX lX); clear vX lX; go_must (have B3 : Below w2.heap.size w2 w3 := by first | exact A2.drew.trans (bX.mono (by show _ ≤ (w2.alloc _).heap.size; simp)) | exact (Below.refl _ w2).drew.trans bX); go_must (first | (have oX : Own (w2.heap.size + 1) w3 (w2.heap.size + 1) 0 X.length X := by simpa using oX) | (have oX : Own w2.heap.size w3 w2.heap.size 0 X.length X := oX)); have hbox3 := box _ B3; have A3 := below_one w3 56; have hA3 := box _ (B3.trans (A3.mono B3.size)))
      | (go_at_call 35; go_must (have hM4 := hM w3 B3); go_must (have hM4a := hM _ (B3.trans (A3.mono B3.size))); go_must (first | go_fit (rest_any w3 _ 0 X.length w.heap.size 0 Y.length X Y oX.row hM4.row oX.wd oY.wd tX tY oX.lt hM4.bm (by rw [HS2.out]; omega) (Nat.le_refl _) (Nat.le_refl _) (by omega) (by omega) HD2.out) | go_fit (rest_any (w3.alloc (.cells #[.int .u64 1] 56)) _ 0 X.length w.heap.size 0 Y.length X Y (oX.row.below A3 oX.lt) hM4a.row oX.wd oY.wd tX tY (Nat.lt_of_lt_of_le oX.lt A3.size) hM4a.bm (by rw [HS2.out]; omega) (Nat.le_refl _) (Nat.le_refl _) (by omega) (by omega) HD2.out)); rintro e' w4 ⟨r, rfl, nr, o4⟩; obtain ⟨br, or, lr, cr, rfl⟩ := nr.form; go_must (have b4 : Below w2.heap.size w2 w4 := by first | exact B3.trans (o4.below (by omega) B3.size) | exact (B3.trans (A3.mono B3.size)).trans (o4.below (by omega) (Nat.le_trans B3.size A3.size))); have hbox4 := box _ b4; have A4 := below_one w4 56; have hA4 := box _ (b4.trans (A4.mono b4.size)))
      | (go_at_call 36; go_must (have hM5 := hM w4 b4); go_must (have hM5a := hM _ (b4.trans (A4.mono b4.size)));
          go_must (first
            | (have rA : Row w3 w2.heap.size 0 [1] := (row_one w2 1 56).below ((Below.refl _ (w2.alloc (.cells #[.int .u64 1] 56))).drew.trans bX) (by simp)
               go_fit (raiseE_any w4 w2.heap.size 0 1 1 br or lr cr e he (wv X) w1.heap.size w.heap.size 0 Y.length Y (num_row (o4.row rA (by omega) (by have := oX.lt; omega)) (by have := oX.lt; have := o4.size; omega)) nr hM5 HD2.out h1Y))
            | (have rA : Row w4 w3.heap.size 0 [1] := o4.row (row_one w3 1 56) (by have := oX.lt; omega) (by simp)
               go_fit (raiseE_any w4 w3.heap.size 0 1 1 br or lr cr e he (wv X) w1.heap.size w.heap.size 0 Y.length Y (num_row rA (by have := o4.size; simp at this; omega)) nr hM5 HD2.out h1Y))
            | go_fit (raiseE_any (w4.alloc (.cells #[.int .u64 1] 56)) w4.heap.size 0 1 1 br or lr cr e he (wv X) w1.heap.size w.heap.size 0 Y.length Y (num_one w4 56) (nr.below A4) hM5a HD2.out h1Y));
          rintro e' w5 ⟨r5, rfl, nr5, b5⟩; obtain ⟨b6, o6, l6, c6, rfl⟩ := nr5.form; go_must (have B5 : Below w2.heap.size w2 w5 := by first | exact b4.trans (b5.mono b4.size) | exact (b4.trans (A4.mono b4.size)).trans (b5.mono (Nat.le_trans b4.size A4.size))); have hbox5 := box _ B5)
      | (go_at_call 26; go_must (go_fit (number_A nr5); rintro e' w6 ⟨rfl, b6⟩); have B6 := B5.trans (b6.mono B5.size); have hbox6 := box _ B6))
  all_goals go_wp2
  all_goals go_ret2
  all_goals refine ⟨?_, bY.trans ((hB2.trans (B6.mono (by rw [HS2.out]; omega))).mono bY.size)⟩
  all_goals (unfold PowV; rw [if_neg HV.out.1]; have e1 := VX.out.1; have e2 := VY.out.1; rw [e1, e2]; rfl)
end Go.Proofs.YtkpkifhjedlieaaDoor
