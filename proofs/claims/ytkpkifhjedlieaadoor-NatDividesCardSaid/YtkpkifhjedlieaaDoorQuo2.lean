/-
  The walks of nat.rest and nat.Quo.
-/
import Derived.Test.YtkpkifhjedlieaaDoorDvW
namespace Go.Proofs.YtkpkifhjedlieaaDoor
open Go.RowKit NM
theorem divide_any (w : World) (b o cap b2 o2 cap2 : Nat) (X Y : List Nat) (hR : Row w b o X) (hS : Row w b2 o2 Y) (hX : Wd X) (hY : Wd Y) (tX : Tr X) (tY : Tr Y) (hb : b < w.heap.size) (hb2 : b2 < w.heap.size) (hne : b2 ≠ b)
    (hc : X.length ≤ cap) (hc2 : Y.length ≤ cap2) (hcap : cap ≤ 274877906943) (hYb : Y.length ≤ 9223372036854775807) (hD : DivOK Y) :
    Calls Tryd.prog 30 #[.slice (some ⟨b, o, none⟩) X.length cap, .slice (some ⟨b2, o2, none⟩) Y.length cap2] w (DivideQ X Y b o w) := by
  by_cases h1 : Y.length = 1
  · exact divide_one w b o cap b2 o2 cap2 X Y hR hS hX hY tX tY hb hb2 hc hc2 (by omega) h1
  · unfold DivOK at hD
    exact divide_big w b o cap b2 o2 cap2 X Y hR hS hX hY tX tY hb hb2 hc hc2 hYb (by omega) (by omega) (by omega)
def RestQ (x y b lo hi : Nat) (w : World) (e : Ending) (w' : World) : Prop := ∃ vr, e = .returned vr ∧ NumA w' vr (x % y) ∧ Only b lo hi w w'
set_option maxHeartbeats 1000000 in
theorem rest_any (w : World) (b o cap b2 o2 cap2 : Nat) (X Y : List Nat) (hR : Row w b o X) (hS : Row w b2 o2 Y) (hX : Wd X) (hY : Wd Y) (tX : Tr X) (tY : Tr Y) (hb : b < w.heap.size) (hb2 : b2 < w.heap.size) (hne : b2 ≠ b)
    (hc : X.length ≤ cap) (hc2 : Y.length ≤ cap2) (hcap : cap ≤ 274877906943) (hYb : Y.length ≤ 9223372036854775807) (hD : DivOK Y) :
    Calls Tryd.prog 35 #[.slice (some ⟨b, o, none⟩) X.length cap, .slice (some ⟨b2, o2, none⟩) Y.length cap2] w (RestQ (wv X) (wv Y) b o (o + X.length) w) := by
  have HC := Lib.hid (divide_any w b o cap b2 o2 cap2 X Y hR hS hX hY tX tY hb hb2 hne hc hc2 hcap hYb hD)
  clear hD
  obtain ⟨n, hn⟩ : ∃ n, n = X.length := ⟨_, rfl⟩
  obtain ⟨n2, hn2⟩ : ∃ n2, n2 = Y.length := ⟨_, rfl⟩
  rw [← hn, ← hn2] at HC ⊢
  have HN := Lib.hid hn; have HN2 := Lib.hid hn2; clear hn hn2
  go_enter Tryd.func35, Tryd.ntmps35
  go_wp2_with (refine HC.out.mono ?_; rintro e w' ⟨vq, vr, rfl, hq, hr, ho⟩)
  go_ret
  exact ⟨_, rfl, ‹NumA _ _ _›, by rw [HN.out]; exact ‹Only _ _ _ _ _›⟩
set_option maxRecDepth 100000 in
set_option maxHeartbeats 1000000 in
theorem number_nil (w : World) : Calls Tryd.prog 26 #[.slice none 0 0] w fun e w' => e = .returned (.string (NB 0)) ∧ Below w.heap.size w w' := by
  have hmk : ∀ u : World, (Instr.makeSlice 22 (.int .i64 0) (.int .i64 0)).run Tryd.prog u = .ok (.slice (some ⟨u.heap.size, 0, none⟩) 0 0) (u.alloc (.cells (madeCells #[.int .u8 0] 0) 5)) := fun u => make_bytes 0 (by omega) u
  have hB1 := (Below.refl w.heap.size w).alloc (Nat.le_refl _) (.cells (madeCells #[.int .u8 0] 0) 5)
  have he : (⟨#[]⟩ : ByteArray) = NB 0 := by unfold NB; rw [nb_zero]
  have hcv : ∀ (wr : World) (b n : Nat), (convert 22 24 (.slice (some ⟨b, n, none⟩) 0 0)).run Tryd.prog wr = .ok (.string (NB 0)) wr := fun wr b n => by
    rw [← he]
    exact run_convert_bytes_arg (P := Tryd.prog) wr 22 5 Tryd.underlying22 Tryd.underlying5 b n 0 0 [] rfl (fun i hi => absurd hi (Nat.not_lt_zero _)) 24 Tryd.underlying24
  clear he
  go_enter Tryd.func26, Tryd.ntmps26
  go_wp2
  go_rounds 1
  go_wp2
  go_rounds 1
  set_option maxRecDepth 100000 in
  go_wp2
  go_ret
  exact ⟨rfl, hB1⟩
theorem number_num (w : World) (v : Value) (x : Nat) (h : Num w v x) :
    Calls Tryd.prog 26 #[v] w fun e w' => e = .returned (.string (NB x)) ∧ Below w.heap.size w w' := by
  rcases h with ⟨b, o, cap, Z, rfl, h2, h3, h4, h5, h6, h7, rfl⟩ | ⟨rfl, rfl⟩
  · exact number_any w b o cap Z h3 h4 h2 (by omega) h5
  · exact number_nil w
/-- what Quo answers -/
def QuoV (a b : ByteArray) : Value := if sv b = 0 then .tuple #[.string ⟨#[]⟩, .string ⟨#[]⟩, .bool false] else .tuple #[.string (NB (sv a / sv b)), .string (NB (sv a % sv b)), .bool true]
/-- the divisors that are served -/
def DivS (_ : ByteArray) : Prop := True
theorem DivS.words {b : ByteArray} {Y : List Nat} (_ : DivS b) (_ : Wd Y) (_ : Tr Y) (hv : wv Y = sv b) (h0 : sv b ≠ 0) : DivOK Y := by
  unfold DivOK
  have hne : Y ≠ [] := by intro h2; subst h2; exact h0 hv.symm
  exact List.length_pos_iff.2 hne
/-- the numbers of one word -/
def OneS (b : ByteArray) : Prop := sv b < B64
theorem OneS.words {b : ByteArray} {Y : List Nat} (h : OneS b) (_ : Wd Y) (tY : Tr Y) (hv : wv Y = sv b) (h0 : sv b ≠ 0) : Y.length = 1 := by
  have hne : Y ≠ [] := by intro h2; subst h2; exact h0 hv.symm
  have h1 := Tr_lt tY hne
  have hl : 0 < Y.length := List.length_pos_iff.2 hne
  have h2 : B64^(Y.length-1) < B64^1 := by unfold OneS at h; rw [Nat.pow_one]; omega
  have := (Nat.pow_lt_pow_iff_right (by decide : 1 < B64)).1 h2
  omega
set_option maxHeartbeats 1000000 in
theorem Quo_any (w : World) (a b : ByteArray) (ha : a.size ≤ 4294967296) (hb : b.size ≤ 4294967296) (hD : DivS b) :
    Calls Tryd.prog 12 #[.string a, .string b] w fun e w' => e = .returned (QuoV a b) ∧ Below w.heap.size w w' := by
  go_enter Tryd.func12, Tryd.ntmps12
  go_wp2_with fail
  refine (words_any _ b (by omega)).mono ?_
  rintro e w1 ⟨Y, oY, vY, tY, bY, lY, rfl⟩
  have VY := Lib.hid vY; have LY := Lib.hid lY; have hYl := words_len lY hb; clear vY lY
  by_cases h0 : sv b = 0
  · have hY0 : Y.length = 0 := by rw [(wv_zero_iff tY).1 (VY.out.trans h0)]; rfl
    rw [hY0]
    have H0 := Lib.hid h0; have HY0 := Lib.hid hY0; clear h0 hY0
    go_wp2
    go_ret3
    exact ⟨by unfold QuoV; rw [if_pos H0.out]; rfl, bY⟩
  · have hYne : ((Y.length : Int) == 0) = false := by
      have : Y.length ≠ 0 := by intro h; apply h0; have := List.length_eq_zero_iff.1 h; rw [this] at VY; exact VY.out.symm
      exact beq_eq_false_iff_ne.2 (by omega)
    have hD2 := hD.words oY.wd tY VY.out h0
    have HD2 := Lib.hid hD2; clear hD2
    go_wp2_with fail
    refine (words_any _ a (by omega)).mono ?_
    rintro e w2 ⟨X, oX, vX, tX, bX, lX, rfl⟩
    have VX := Lib.hid vX; have LX := Lib.hid lX; have hXl := words_len lX ha; clear vX lX
    have oY2 := oY.lift bX oY.lt
    go_wp2_with fail
    refine (divide_any w2 w1.heap.size 0 X.length w.heap.size 0 Y.length X Y oX.row oY2.row oX.wd oY.wd tX tY oX.lt oY2.lt (by have := oY.lt; omega) (Nat.le_refl _) (Nat.le_refl _) (by omega) (by omega) HD2.out).mono ?_
    rintro e w3 ⟨vq, vr, rfl, hq, hr, ho⟩
    go_wp2_with fail
    refine (number_num w3 vq _ hq).mono ?_
    rintro e w4 ⟨rfl, b4⟩
    have hr4 := hr.below b4
    go_wp2_with fail
    refine (number_num w4 vr _ (.inl hr4)).mono ?_
    rintro e w5 ⟨rfl, b5⟩
    go_wp2
    go_ret3
    have s1 := bY.size
    have s2 := bX.size
    have s3 := ho.size
    have s4 := b4.size
    have hb3 : Below w1.heap.size w2 w3 := ho.below (Nat.le_refl _) (by omega)
    refine ⟨by unfold QuoV; rw [if_neg h0, VX.out, VY.out]; rfl, (bY.trans (bX.mono s1)).trans ((hb3.mono (by omega)).trans ((b4.mono (by omega)).trans (b5.mono (by omega))))⟩
end Go.Proofs.YtkpkifhjedlieaaDoor
