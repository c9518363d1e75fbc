/-
  The walk of the law NatSums.
-/
import Derived.Test.YtkpkifhjedlieaaGreatDoorRefAdd
import Derived.Test.YtkpkifhjedlieaaGreatDoorRefInt
import Derived.Test.YtkpkifhjedlieaaGreatDoorSanity
import Derived.Deep.RegionHeld
namespace Go.Proofs.YtkpkifhjedlieaaGreatDoor
open Go.RowKit NM
theorem cells8 (w : World) (t : TypeId) (A B : ByteArray) (hA : A.size ≤ 40) (hB : B.size ≤ 40) : ∀ j, j < 4 → ∃ X Y : ByteArray, X.size ≤ 41 ∧ Y.size ≤ 41 ∧
    (w.alloc (.cells #[.string A, .string B, .string B, .string A, .string A, .string A, .string (A ++ ⟨#[0]⟩), .string B] t)).cell? ⟨w.heap.size, 2 * j, none⟩ = some (.string X) ∧
    (w.alloc (.cells #[.string A, .string B, .string B, .string A, .string A, .string A, .string (A ++ ⟨#[0]⟩), .string B] t)).cell? ⟨w.heap.size, 2 * j + 1, none⟩ = some (.string Y) := by
  intro j hj
  rw [World.cell?_alloc_at _ _ _ _ rfl, World.cell?_alloc_at _ _ _ _ rfl]
  match j, hj with
  | 0, _ => exact ⟨A, B, by omega, by omega, rfl, rfl⟩
  | 1, _ => exact ⟨B, A, by omega, by omega, rfl, rfl⟩
  | 2, _ => exact ⟨A, A, by omega, by omega, rfl, rfl⟩
  | 3, _ => exact ⟨_, B, by rw [ByteArray.size_append, show (ByteArray.mk #[0]).size = 1 from rfl]; omega, by omega, rfl, rfl⟩
/-- a pair of numbers lies in its box -/
structure PairS (w : World) (bx : Nat) (X Y : ByteArray) (W : World) : Prop where
  c0 : W.cell? ⟨bx, 0, none⟩ = some (.string X)
  c1 : W.cell? ⟨bx, 1, none⟩ = some (.string Y)
  lt : bx < W.heap.size
  bl : Below w.heap.size w W
theorem PairS.next {w : World} {bx : Nat} {X Y : ByteArray} {W W' : World} (h : PairS w bx X Y W) (b : Below W.heap.size W W') : PairS w bx X Y W' :=
  ⟨(b.cell (p := ⟨bx, 0, none⟩) h.lt).trans h.c0, (b.cell (p := ⟨bx, 1, none⟩) h.lt).trans h.c1, Nat.lt_of_lt_of_le h.lt b.size, h.bl.trans (b.mono h.bl.size)⟩
theorem PairS.drew {w : World} {bx : Nat} {X Y : ByteArray} {W : World} (h : PairS w bx X Y W) : PairS w bx X Y W.drew := ⟨h.c0, h.c1, h.lt, h.bl.drew⟩
theorem SubV_form (a b : ByteArray) : ∃ (s : ByteArray) (o : Bool), SubV a b = .tuple #[.string s, .bool o] := by
  unfold SubV; split
  · exact ⟨_, _, rfl⟩
  · exact ⟨_, _, rfl⟩
theorem sright_c (w : World) (n : Nat) :
    Calls Tryz.prog 18 #[.string (NB n)] w fun e w' => e = .returned (.bool true) ∧ Below w.heap.size w w' :=
  (Right_any w (NB n)).mono fun e w' ⟨h1, h2⟩ => ⟨by rw [h1, show rgt (NB n) = true by unfold rgt; rw [NB_list]; simpa using nb_head n], by rw [← h2]; exact Below.refl _ _⟩
set_option maxRecDepth 100000 in
set_option maxHeartbeats 8000000 in
theorem sums_walk (w : World) (v0 v1 : Value) (h0 : ∀ W, Below w.heap.size w W → Calls Tryz.prog 11 #[v0] W (MadeQ W)) (h1 : ∀ W, Below w.heap.size w W → Calls Tryz.prog 11 #[v1] W (MadeQ W))
    (hT : DB w) (hg : 2 < w.heap.size) (hP : P10 w) (hg2 : 3 < w.heap.size) :
    Calls Tryz.prog 3 #[v0, v1] w fun e w' => e = .returned (.bool true) ∧ Below w.heap.size w w' := by
  have hB := Below.refl w.heap.size w
  go_enter Tryz.func3, Tryz.ntmps3
  go_wp2_with fail
  refine (sanity_any w hT hg hP hg2).mono ?_
  rintro e w' ⟨rfl, b⟩
  replace hB := hB.trans (b.mono hB.size); clear b
  go_wp2_with fail
  refine (h0 _ hB).mono ?_
  rintro e w' ⟨A, sA, rfl, rfl⟩
  go_wp2_with fail
  refine (h1 _ hB).mono ?_
  rintro e w' ⟨B, sB, rfl, rfl⟩
  have hc8 := cells8 w' 26 A B sA sB
  have hBA : Below w.heap.size w (w'.alloc (.cells #[.string A, .string B, .string B, .string A, .string A, .string A, .string (A ++ ⟨#[0]⟩), .string B] 26)) := hB.alloc hB.size _
  have hlt : w'.heap.size < (w'.alloc (.cells #[.string A, .string B, .string B, .string A, .string A, .string A, .string (A ++ ⟨#[0]⟩), .string B] 26)).heap.size := by simp
  generalize hg9 : w'.heap.size = g at *
  go_wp2_with fail
  clear hg9
  generalize w'.alloc (.cells #[.string A, .string B, .string B, .string A, .string A, .string A, .string (A ++ ⟨#[0]⟩), .string B] 26) = wA at *
  have HC := Lib.hid hc8; clear hc8
  go_loopw [34] (fun i wr => ∃ (j : Nat) (kk : Int), j ≤ 4 ∧ kk = (j : Int) ∧ i = .int .i64 kk ∧ Below wA.heap.size wA wr) (fun i _ => 4 - (intOf i).toNat)
  case atStart => exact ⟨0, 0, by omega, rfl, rfl, Below.refl _ _⟩
  case round =>
    obtain ⟨j, kk, hj, hkk, rfl, hBr⟩ := hrel
    by_cases hlj : j < 4
    · subst hkk
      obtain ⟨X, Y, sX, sY, c0, c1⟩ := HC.out j hlj
      have d0 := (hBr.cell (p := ⟨g, 2 * j, none⟩) hlt).trans c0
      have d1 := (hBr.cell (p := ⟨g, 2 * j + 1, none⟩) hlt).trans c1
      rw [Nat.mul_comm] at d0 d1
      clear c0 c1
      have hdj : decide ((j : Int) < 4) = true := by simp; omega
      have S0 : PairS wA wr.heap.size X Y (wr.alloc (.cells #[.string X, .string Y] 26)) :=
        ⟨by rw [World.cell?_alloc_at _ _ _ _ rfl]; rfl, by rw [World.cell?_alloc_at _ _ _ _ rfl]; rfl, by simp, hBr.alloc hBr.size _⟩
      obtain ⟨s, o, hso⟩ := SubV_form X Y
      have hX : X.size ≤ 4294967296 := by omega
      have hY : Y.size ≤ 4294967296 := by omega
      have hS1 := fun W => Sub_any W X Y hX hY
      have hS2 := fun W => RefSub_any W X Y (by omega) (by omega)
      rw [hso] at hS1 hS2
      obtain ⟨S, hS⟩ : ∃ S, S = NB (sv X + sv Y) := ⟨_, rfl⟩
      have hA1 := fun W => Add_any W X Y hX hY
      have hA2 := fun W => RefAdd_any W X Y (by omega) (by omega)
      rw [← hS] at hA1 hA2
      obtain ⟨z, hz⟩ : ∃ z, z = cmpv (sv X) (sv Y) := ⟨_, rfl⟩
      have hC1 := fun W => Cmp_any W X Y hX hY
      have hC2 : ∀ W, Calls Tryz.prog 17 #[.string X, .string Y] W fun e w' => e = .returned (.int .i64 z) ∧ Below W.heap.size W w' := fun W =>
        (RefCmp_any W X Y hX hY).mono fun e w' ⟨h1, h2⟩ => ⟨by rw [h1, hz], by rw [← h2]; exact Below.refl _ _⟩
      rw [← hz] at hC1
      clear hS hz hso sX sY hX hY
      go_wp2_with fail
      clear d0 d1
      obtain ⟨bx, hbx⟩ : ∃ bx, bx = wr.heap.size := ⟨_, rfl⟩
      rw [← hbx] at S0 ⊢
      generalize wr.alloc (.cells #[.string X, .string Y] 26) = wB at *
      clear hbx
      refine (hS1 _).mono ?_
      rintro e w5 ⟨rfl, b⟩
      replace S0 := S0.next b; clear b
      have c0 := S0.c0
      have c1 := S0.c1
      go_wp2_with fail
      clear c0 c1
      refine (hS2 _).mono ?_
      rintro e w6 ⟨rfl, b⟩
      replace S0 := S0.next b; clear b
      go_wp2_with fail
      replace S0 := S0.drew
      have c0 := S0.c0
      have c1 := S0.c1
      go_region_held3 (fun w' => w'.cell? ⟨bx, 0, none⟩ = some (.string X) ∧ w'.cell? ⟨bx, 1, none⟩ = some (.string Y)) (first | (exact ⟨by assumption, by assumption⟩) | (simp [go_sem]; exact ⟨by assumption, by assumption⟩))
        (first
          | ((first | (go_at_call 14; go_fit (hA1 w6.drew)) | (go_at_call 15; go_fit (hA2 w6.drew))); rintro e w7 ⟨rfl, b7⟩; have S7 := S0.next b7; have c70 := S7.c0; have c71 := S7.c1)
          | ((first | (go_at_call 14; go_fit (hA1 w7)) | (go_at_call 15; go_fit (hA2 w7))); rintro e w8 ⟨rfl, b8⟩; have S8 := S7.next b8; have c80 := S8.c0; have c81 := S8.c1)
          | ((first | (go_at_call 16; go_fit (hC1 w8)) | (go_at_call 17; go_fit (hC2 w8))); rintro e w9 ⟨rfl, b9⟩; have S9 := S8.next b9; have c90 := S9.c0; have c91 := S9.c1)
          | ((first | (go_at_call 16; go_fit (hC1 w9)) | (go_at_call 17; go_fit (hC2 w9))); rintro e w10 ⟨rfl, b10⟩; have S10 := S9.next b10; have c100 := S10.c0; have c101 := S10.c1))
      all_goals
        have hBn := S10.bl
        clear S0 S7 S8 S9 S10 c0 c1 c70 c71 c80 c81 c90 c91 c100 c101 b7 b8 b9 b10
        go_wp2
        exact ⟨⟨j + 1, _, hlj, rfl, by go_num, hBn⟩, by simp [intOf]; omega⟩
    · obtain rfl : kk = 4 := by omega
      have hBF := hBA.trans (hBr.mono hBA.size)
      clear HC hlj hj hkk hBA hBr hlt
      obtain ⟨rb, hrb⟩ : ∃ rb, rb = rgt A := ⟨_, rfl⟩
      have hR1 := fun W => Right_any W A
      have hR2 := fun W => RefRight_any W A
      rw [← hrb] at hR1 hR2
      have hA := fun W => Add_any W A B (by omega) (by omega)
      have hR3 := fun W => sright_c W (sv A + sv B)
      clear hrb sA sB
      go_wp2_with fail
      refine (hR1 _).mono ?_
      rintro e w5 ⟨rfl, rfl⟩
      go_wp2_with fail
      refine (hR2 _).mono ?_
      rintro e w5 ⟨rfl, rfl⟩
      go_wp2_with fail
      refine (hA _).mono ?_
      rintro e w6 ⟨rfl, b⟩
      replace hBF := hBF.trans (b.mono hBF.size); clear b
      go_wp2_with fail
      refine (hR3 _).mono ?_
      rintro e w6 ⟨rfl, b⟩
      replace hBF := hBF.trans (b.mono hBF.size); clear b
      go_wp2
      go_ret
      exact ⟨rfl, hBF⟩
end Go.Proofs.YtkpkifhjedlieaaGreatDoor
