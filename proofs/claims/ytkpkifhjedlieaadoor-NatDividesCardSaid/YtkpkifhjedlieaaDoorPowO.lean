/-
  The walks of the two closures of nat.powOdd: the step into the form of Montgomery, and the product in it.
-/
import Derived.Test.YtkpkifhjedlieaaDoorPowE
import Derived.Test.YtkpkifhjedlieaaDoorShl
import Derived.Test.YtkpkifhjedlieaaDoorMont
import Derived.Test.YtkpkifhjedlieaaDoorWiden
import Derived.Test.YtkpkifhjedlieaaDoorRaiseE
import Derived.Deep.DeepFit
import Derived.Deep.DeepMust
namespace Go.Proofs.YtkpkifhjedlieaaDoor
open Go.RowKit NM
/-- a row of n words, less than M -/
def NumO (n M : Nat) (W : World) (v : Value) (x : Nat) : Prop :=
  ∃ b o c Z, v = .slice (some ⟨b, o, none⟩) n c ∧ b < W.heap.size ∧ Row W b o Z ∧ Wd Z ∧ Z.length = n ∧ n ≤ c ∧ wv Z < M ∧ wv Z = x
theorem NumO.below {n M : Nat} {W W' : World} {v : Value} {x : Nat} (h : NumO n M W v x) (hb : Below W.heap.size W W') : NumO n M W' v x := by
  obtain ⟨b, o, c, Z, h1, h2, h3, h4, h5, h6, h7, h8⟩ := h
  exact ⟨b, o, c, Z, h1, Nat.lt_of_lt_of_le h2 hb.size, h3.below hb h2, h4, h5, h6, h7, h8⟩
def LiftQ (n M x : Nat) (w : World) (e : Ending) (w' : World) : Prop := ∃ r, e = .returned r ∧ NumO n M w' r (x * B64^n % M) ∧ Below w.heap.size w w'
theorem pow64 (n : Nat) : (2:Nat)^(64*n) = B64^n := by rw [Nat.pow_mul]; rfl
theorem lift_trim {B : Nat} {w1 : World} {b m n k : Nat} {X Z : List Nat} (o : Own B w1 b 0 m Z) (l : Z.length = m) (hm : m = X.length + n / 64 + 1) (hb : X.length + n/64 + 1 ≤ k) (hk : k ≤ 1099511627776) : Calls Tryd.prog 49 #[.slice (some ⟨b, 0, none⟩) m m] w1 (TrimQ Z b 0 m w1) := by
  have := trim_any w1 b 0 m Z o.row (by omega) (by omega)
  rwa [l] at this
theorem lift_rest {B : Nat} {w1 : World} {b m n j bm om cap Bm : Nat} {Z Y : List Nat} (o : Own B w1 b 0 m Z) (hj : j ≤ Z.length) (ht : Tr (Z.take j)) (hm : Modulus w1 Bm bm om cap Y) (hD : DivOK Y) (hn : n = Y.length) (hne : bm ≠ b) (hmb : m ≤ 274877906943) :
    Calls Tryd.prog 35 #[.slice (some ⟨b, 0, none⟩) j m, .slice (some ⟨bm, om, none⟩) n cap] w1 (RestQ (wv (Z.take j)) (wv Y) b 0 (0 + j) w1) := by
  have hl : (Z.take j).length = j := by rw [List.length_take]; omega
  have h := rest_any w1 b 0 m bm om cap (Z.take j) Y (o.row.take j) hm.row (Wd_take o.wd j) hm.wd ht hm.tr o.lt hm.bm hne (by have := o.cap; omega) hm.cap hmb (by have := hm.len; omega) hD
  rw [hl, ← hn] at h
  exact h
def WidenQ (n M x : Nat) (w : World) (e : Ending) (w' : World) : Prop := ∃ r, e = .returned r ∧ NumO n M w' r x ∧ Below w.heap.size w w'
theorem lift_widen {w2 : World} {r : Value} {x n : Nat} {Y : List Nat} (h : NumA w2 r x) (hx : x < wv Y) (hY : Wd Y) (hn : n = Y.length) (hnb : n ≤ 1099511627776) :
    Calls Tryd.prog 27 #[r, .int .i64 (n : Nat)] w2 (WidenQ n (wv Y) x w2) := by
  obtain ⟨b, o, cap, Z, rfl, h2, h3, h4, h5, h6, h7, rfl⟩ := h
  have hl := Tr_len_le hY h7 (Nat.le_of_lt hx)
  refine (widen_any w2 b o cap n Z h3 h4 h2 hnb (by omega)).mono ?_
  rintro e w' ⟨T, oT, lT, vT, bT, rfl⟩
  exact ⟨_, rfl, ⟨_, _, _, T, rfl, oT.lt, oT.row, oT.wd, lT, Nat.le_refl _, by rw [vT]; exact hx, vT⟩, bT⟩
set_option maxRecDepth 100000 in
set_option maxHeartbeats 4000000 in
theorem lift_any (w : World) (b o cp Bn Bm bm om cap : Nat) (X Y : List Nat) (hR : Row w b o X) (hX : Wd X) (hb : b < w.heap.size) (hl : X.length ≤ 536870914) (hc : X.length ≤ cp) (hn : w.cell? ⟨Bn, 0, none⟩ = some (.int .i64 (Y.length : Nat))) (hBn : Bn < w.heap.size)
    (hm : Modulus w Bm bm om cap Y) (hD : DivOK Y) (hpos : 0 < wv Y) :
    Calls Tryd.prog 57 #[.slice (some ⟨b, o, none⟩) X.length cp, .pointer (some ⟨Bn, 0, none⟩), .pointer (some ⟨Bm, 0, none⟩)] w (LiftQ Y.length (wv Y) (wv X) w) := by
  obtain ⟨n, hnY⟩ : ∃ n, n = Y.length := ⟨_, rfl⟩
  have hmd : Modulus w.drew Bm bm om cap Y := hm.below (Below.refl _ w).drew
  have hbx := hm.box
  rw [← hnY] at hn hbx ⊢
  have hnb : n ≤ 536870914 := by have := hm.len; omega
  have hS := shiftLeft_any w.drew b o cp (64 * n) X hR.drew hX hb (by omega) (by omega) hc
  rw [show ((64 * n : Nat) : Int) = 64 * (n : Int) by omega] at hS
  have HS := Lib.hid hS; clear hS
  have ew : IntKind.i64.wrap (64 * (n : Int)) = 64 * (n : Int) := IntWalk.i64_in _ ⟨by omega, by omega⟩
  have HY := Lib.hid hnY; clear hnY
  go_enter Tryd.func57, Tryd.ntmps57
  go_wp2
  go_region_held3 (fun w' => w'.cell? ⟨Bm, 0, none⟩ = some (.slice (some ⟨bm, om, none⟩) n cap) ∧ w'.cell? ⟨Bn, 0, none⟩ = some (.int .i64 (n : Nat))) (first | (exact ⟨by assumption, by assumption⟩) | (simp [go_sem]; exact ⟨by assumption, by assumption⟩))
    (first
      | (go_at_call 51; go_must (go_fit HS.out); rintro e w1 ⟨Z, m, oZ, lZ, mZ, vZ, bZ, rfl⟩; have hm1 := hmd.below bZ; have hbx1 := (bZ.cell (p := ⟨Bm, 0, none⟩) hmd.Bm).trans hbx; have hn1 := (bZ.cell (p := ⟨Bn, 0, none⟩) hBn).trans hn; have hT := lift_trim oZ lZ mZ (Nat.le_refl _) (by omega); have lZ2 := Lib.hid (And.intro lZ (And.intro mZ vZ)); clear lZ mZ vZ)
      | (go_at_call 49; go_must (go_fit hT); rintro e w2 ⟨j, hj, hw, htr, rfl, rfl⟩; have hw2 := Lib.hid hw; clear hw)
      | (go_at_call 35; go_must (go_fit (lift_rest oZ hj htr hm1 hD HY.out (by have := hmd.bm; have : w.drew.heap.size = w.heap.size := rfl; omega) (by have := lZ2.out.2.1; omega))); rintro e w3 ⟨vr, rfl, hr9, ho9⟩; have hb9 := ho9.below (Nat.le_refl _) (Nat.le_of_lt oZ.lt); have hbx2 := (hb9.cell (p := ⟨Bm, 0, none⟩) hmd.Bm).trans hbx1; have hn2 := (hb9.cell (p := ⟨Bn, 0, none⟩) hBn).trans hn1)
      | (go_at_call 27; go_must (go_fit (lift_widen hr9 (Nat.mod_lt _ hpos) hm.wd HY.out (by omega))); rintro e w4 ⟨v4, rfl, h4, hb4⟩; have hs9 := ho9.size; have hs4 := oZ.lt; have hbx3 := (hb4.cell (p := ⟨Bm, 0, none⟩) (by have := hmd.Bm; show Bm < _; omega)).trans hbx2; have hn3 := (hb4.cell (p := ⟨Bn, 0, none⟩) (by show Bn < _; have : w.drew.heap.size = w.heap.size := rfl; omega)).trans hn2))
  all_goals go_wp2
  all_goals go_ret
  all_goals refine ⟨_, rfl, ?_, (((Below.refl _ w).drew.trans bZ).trans hb9).trans (hb4.mono (by have : w.drew.heap.size = w.heap.size := rfl; omega))⟩
  all_goals (have e1 := hw2.out; have e2 := lZ2.out.2.2; rw [e1, e2, pow64] at h4; exact h4)
end Go.Proofs.YtkpkifhjedlieaaDoor
