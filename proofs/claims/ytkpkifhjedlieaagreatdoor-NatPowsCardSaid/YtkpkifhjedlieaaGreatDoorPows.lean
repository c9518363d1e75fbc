/-
  The walk of the law NatPows.
-/
import Derived.Test.YtkpkifhjedlieaaGreatDoorRefPow
import Derived.Test.YtkpkifhjedlieaaGreatDoorSanity
import Derived.Test.YtkpkifhjedlieaaGreatDoorArg
import Derived.Deep.QuietTactic
namespace Go.Proofs.YtkpkifhjedlieaaGreatDoor
open Go.RowKit NM
theorem cells3 (w : World) (t : TypeId) (A B C : ByteArray) (sA : A.size ≤ 100) (sB : B.size ≤ 100) (sC : C.size ≤ 100) : ∀ j, j < 3 → ∃ X : ByteArray, X.size ≤ 100 ∧
    (w.alloc (.cells #[.string A, .string B, .string C] t)).cell? ⟨w.heap.size, j, none⟩ = some (.string X) := by
  intro j hj
  rw [World.cell?_alloc_at _ _ _ _ rfl]
  match j, hj with
  | 0, _ => exact ⟨A, sA, rfl⟩
  | 1, _ => exact ⟨B, sB, rfl⟩
  | 2, _ => exact ⟨C, sC, rfl⟩
theorem PowV_form (a e m : ByteArray) : ∃ (s : ByteArray) (o : Bool), PowV a e m = .tuple #[.string s, .bool o] := by
  unfold PowV; split
  · exact ⟨_, _, rfl⟩
  · exact ⟨_, _, rfl⟩
set_option maxRecDepth 100000 in
set_option maxHeartbeats 8000000 in
theorem pows_walk (w : World) (v0 v1 v2 : Value) (A E Z : ByteArray) (h0 : BArg w 24 v0 A) (h1 : BArg w 12 v1 E) (h2 : BArg w 24 v2 Z)
    (hT : DB w) (hg : 2 < w.heap.size) (hP : P10 w) (hg2 : 3 < w.heap.size) :
    Calls Tryz.prog 7 #[v0, v1, v2] w fun e w' => e = .returned (.bool true) ∧ Below w.heap.size w w' := by
  obtain ⟨sA, p, N, cap, m, rfl, hm', hmc, hmN, hcv⟩ := h0
  obtain ⟨sE, p1, N1, cap1, m1, rfl, hm1', hmc1, hmN1, hcv1⟩ := h1
  obtain ⟨sZ, p2, N2, cap2, m2, rfl, hm2', hmc2, hmN2, hcv2⟩ := h2
  have hm : min (N : Int) 24 = (m : Int) := hm'
  have hm1 : min (N1 : Int) 12 = (m1 : Int) := hm1'
  have hm2 : min (N2 : Int) 24 = (m2 : Int) := hm2'
  clear hm' hm1' hm2'
  have hB := Below.refl w.heap.size w
  go_enter Tryz.func7, Tryz.ntmps7
  go_wp2_with fail
  refine (sanity_any w hT hg hP hg2).mono ?_
  rintro e W1 ⟨rfl, b⟩
  replace hB := hB.trans (b.mono hB.size); clear b
  have k0 := hcv W1.drew hB.drew
  have k1 := hcv1 W1.drew hB.drew
  have k2 := hcv2 W1.drew hB.drew
  clear hcv hcv1 hcv2
  go_wp2_with fail
  go_region
  clear k0 k1 k2
  replace hB := hB.drew
  generalize W1.drew = W2 at *
  clear hm hm1 hm2 hmc hmc1 hmc2 hmN hmN1 hmN2
  have hA := RefAdd_any W2 Z ⟨#[1]⟩ (by omega) (by decide)
  have hZ1 : (NB (sv Z + sv ⟨#[1]⟩)).size ≤ 100 := by
    have a := Nat.lt_of_lt_of_le (sv_lt_size Z) (Nat.pow_le_pow_right (show 256 > 0 by omega) sZ)
    have : sv ⟨#[1]⟩ = 1 := by decide
    exact Nat.le_trans (NB_size (k := 25) (by rw [Nat.pow_succ]; omega)) (by omega)
  generalize NB (sv Z + sv ⟨#[1]⟩) = Y at *
  go_wp2_with fail
  refine hA.mono ?_
  clear hA
  rintro e W3 ⟨rfl, b⟩
  replace hB := hB.trans (b.mono hB.size); clear b
  have hc3 := cells3 W3 24 Z Y ⟨#[138, 0, 176, 218, 162, 135, 68, 214, 164, 195, 198, 36, 84, 110, 75, 89]⟩ (by omega) hZ1 (by decide)
  have hBA := hB.alloc hB.size (.cells #[.string Z, .string Y, .string ⟨#[138, 0, 176, 218, 162, 135, 68, 214, 164, 195, 198, 36, 84, 110, 75, 89]⟩] 24)
  have hlt : W3.heap.size < (W3.alloc (.cells #[.string Z, .string Y, .string ⟨#[138, 0, 176, 218, 162, 135, 68, 214, 164, 195, 198, 36, 84, 110, 75, 89]⟩] 24)).heap.size := by simp
  go_wp2_with fail
  generalize W3.alloc (.cells #[.string Z, .string Y, .string ⟨#[138, 0, 176, 218, 162, 135, 68, 214, 164, 195, 198, 36, 84, 110, 75, 89]⟩] 24) = wA at *
  generalize W3.heap.size = g at *
  clear hB hZ1
  have HC := Lib.hid hc3; clear hc3
  go_loopw [41] (fun i wr => ∃ (j : Nat) (kk : Int), j ≤ 3 ∧ kk = (j : Int) ∧ i = .int .i64 kk ∧ Below wA.heap.size wA wr) (fun i _ => 3 - (intOf i).toNat)
  case atStart => exact ⟨0, 0, by omega, rfl, rfl, Below.refl _ _⟩
  case round =>
    obtain ⟨j, kk, hj, hkk, rfl, hBr⟩ := hrel
    by_cases hlj : j < 3
    · subst hkk
      obtain ⟨X, sX, c0⟩ := HC.out j hlj
      have d0 := (hBr.cell (p := ⟨g, j, none⟩) hlt).trans c0
      clear c0
      have hdj : decide ((j : Int) < 3) = true := by simp; omega
      obtain ⟨s, o, hso⟩ := PowV_form A E X
      have hS1 := fun W => Pow_any W A E X (by omega) (by omega) (by omega) trivial
      have hS2 := fun W => RefPow_any W A E X (by omega) (by omega) (by omega)
      rw [hso] at hS1 hS2
      clear hso sX
      go_wp2_with fail
      clear d0
      refine (hS1 _).mono ?_
      rintro e w5 ⟨rfl, b⟩
      replace hBr := hBr.trans (b.mono hBr.size); clear b
      go_wp2_with fail
      refine (hS2 _).mono ?_
      rintro e w6 ⟨rfl, b⟩
      replace hBr := hBr.trans (b.mono hBr.size); clear b
      go_wp2
      exact ⟨⟨j + 1, _, hlj, rfl, by go_num, hBr⟩, by simp [intOf]; omega⟩
    · obtain rfl : kk = 3 := by omega
      have hBF := hBA.trans (hBr.mono hBA.size)
      clear HC hlj hj hkk hBA hBr hlt
      go_wp2
      go_ret
      exact ⟨rfl, hBF⟩
end Go.Proofs.YtkpkifhjedlieaaGreatDoor
