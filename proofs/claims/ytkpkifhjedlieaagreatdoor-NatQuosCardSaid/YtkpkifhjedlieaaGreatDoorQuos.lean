/-
  The walk of the law NatQuos.
-/
import Derived.Test.YtkpkifhjedlieaaGreatDoorRefPow
import Derived.Test.YtkpkifhjedlieaaGreatDoorSums
namespace Go.Proofs.YtkpkifhjedlieaaGreatDoor
open Go.RowKit NM
theorem cells14 (w : World) (t : TypeId) (A B N L H I HA IB : ByteArray) (sA : A.size ≤ 100) (sB : B.size ≤ 100) (sN : N.size ≤ 100) (sL : L.size ≤ 100) (sH : H.size ≤ 100) (sI : I.size ≤ 100) (sHA : HA.size ≤ 100) (sIB : IB.size ≤ 100) : ∀ j, j < 7 → ∃ X Y : ByteArray, X.size ≤ 100 ∧ Y.size ≤ 100 ∧
    (w.alloc (.cells #[.string A, .string B, .string B, .string A, .string N, .string B, .string L, .string B, .string N, .string A, .string H, .string I, .string HA, .string IB] t)).cell? ⟨w.heap.size, 2 * j, none⟩ = some (.string X) ∧
    (w.alloc (.cells #[.string A, .string B, .string B, .string A, .string N, .string B, .string L, .string B, .string N, .string A, .string H, .string I, .string HA, .string IB] t)).cell? ⟨w.heap.size, 2 * j + 1, none⟩ = some (.string Y) := by
  intro j hj
  rw [World.cell?_alloc_at _ _ _ _ rfl, World.cell?_alloc_at _ _ _ _ rfl]
  match j, hj with
  | 0, _ => exact ⟨A, B, sA, sB, rfl, rfl⟩
  | 1, _ => exact ⟨B, A, sB, sA, rfl, rfl⟩
  | 2, _ => exact ⟨N, B, sN, sB, rfl, rfl⟩
  | 3, _ => exact ⟨L, B, sL, sB, rfl, rfl⟩
  | 4, _ => exact ⟨N, A, sN, sA, rfl, rfl⟩
  | 5, _ => exact ⟨H, I, sH, sI, rfl, rfl⟩
  | 6, _ => exact ⟨HA, IB, sHA, sIB, rfl, rfl⟩
theorem QuoV_form (a b : ByteArray) : ∃ (s r : ByteArray) (o : Bool), QuoV a b = .tuple #[.string s, .string r, .bool o] := by
  unfold QuoV; split
  · exact ⟨_, _, _, rfl⟩
  · exact ⟨_, _, _, rfl⟩
theorem qsizes (A B : ByteArray) (hA : A.size ≤ 40) (hB : B.size ≤ 40) (k : Nat) (hk : k < 256) :
    (NB (sv A * sv B)).size ≤ 100 ∧ (NB (sv A * sv B + k)).size ≤ 100 ∧ (NB k).size ≤ 100 := by
  have a := Nat.lt_of_lt_of_le (sv_lt_size A) (Nat.pow_le_pow_right (show 256 > 0 by omega) hA)
  have b := Nat.lt_of_lt_of_le (sv_lt_size B) (Nat.pow_le_pow_right (show 256 > 0 by omega) hB)
  have h : sv A * sv B < 256^80 := by
    rw [show 256^80 = 256^40 * 256^40 by rw [← Nat.pow_add]]; exact Nat.mul_lt_mul'' a b
  exact ⟨Nat.le_trans (NB_size h) (by omega), Nat.le_trans (NB_size (k := 81) (by rw [Nat.pow_succ]; omega)) (by omega), Nat.le_trans (NB_size (k := 1) (by omega)) (by omega)⟩
theorem SubV_size (a b : ByteArray) (h : a.size ≤ 100) : ∃ (s : ByteArray) (o : Bool), SubV a b = .tuple #[.string s, .bool o] ∧ s.size ≤ 100 := by
  unfold SubV; split
  · exact ⟨_, _, rfl, Nat.le_trans (NB_size (Nat.lt_of_le_of_lt (Nat.sub_le _ _) (sv_lt_size a))) h⟩
  · exact ⟨_, _, rfl, by decide⟩
set_option maxRecDepth 100000 in
set_option maxHeartbeats 8000000 in
theorem quos_walk (w : World) (v0 v1 : Value) (k : Nat) (hk : k < 256) (h0 : ∀ W, Below w.heap.size w W → Calls Tryz.prog 11 #[v0] W (MadeQ W)) (h1 : ∀ W, Below w.heap.size w W → Calls Tryz.prog 11 #[v1] W (MadeQ W))
    (hT : DB w) (hg : 2 < w.heap.size) (hP : P10 w) (hg2 : 3 < w.heap.size) :
    Calls Tryz.prog 5 #[v0, v1, .int .u8 (k : Nat)] w fun e w' => e = .returned (.bool true) ∧ Below w.heap.size w w' := by
  have hB := Below.refl w.heap.size w
  have hO : ∀ W, Calls Tryz.prog 22 #[.int .i64 (k : Int)] W fun e w' => e = .returned (.string (NB k)) ∧ Below W.heap.size W w' := fun W => by
    have := RefOf_any W (k : Int) (by omega) (by omega)
    rwa [Int.toNat_natCast] at this
  have xk : IntKind.i64.wrap (k : Int) = (k : Int) := IntWalk.i64_in _ ⟨by omega, by omega⟩
  go_enter Tryz.func5, Tryz.ntmps5
  go_wp2_with fail
  refine (sanity_any w hT hg hP hg2).mono ?_
  rintro e w' ⟨rfl, b⟩
  replace hB := hB.trans (b.mono hB.size); clear b
  go_wp2_with fail
  refine (h0 _ hB).mono ?_
  rintro e w' ⟨A, sA, rfl, rfl⟩
  go_wp2_with fail
  refine (h1 _ hB).mono ?_
  rintro e w' ⟨B, sB, rfl, rfl⟩
  obtain ⟨z1, z2, z3⟩ := qsizes A B sA sB k hk
  obtain ⟨L, oL, hL, sL⟩ := SubV_size (NB (sv A * sv B)) (NB k) z1
  have hM := fun W => RefMul_any W A B (by omega) (by omega)
  have hAd := fun W => RefAdd_any W (NB (sv A * sv B)) (NB k) (by omega) (by omega)
  have hSb := fun W => RefSub_any W (NB (sv A * sv B)) (NB k) (by omega) (by omega)
  rw [hL] at hSb
  rw [sv_NB, sv_NB] at hAd
  generalize NB (sv A * sv B + k) = N at *
  generalize NB (sv A * sv B) = PR at *
  have HH := Lib.hid (And.intro hM (And.intro hAd (And.intro hSb hO))); clear hM hAd hSb hO hL
  go_wp2_with fail
  refine (HH.out.1 _).mono ?_
  rintro e w' ⟨rfl, b⟩
  replace hB := hB.trans (b.mono hB.size); clear b
  go_wp2_with fail
  refine (HH.out.2.2.2 _).mono ?_
  rintro e w' ⟨rfl, b⟩
  replace hB := hB.trans (b.mono hB.size); clear b
  go_wp2_with fail
  refine (HH.out.2.1 _).mono ?_
  rintro e w' ⟨rfl, b⟩
  replace hB := hB.trans (b.mono hB.size); clear b
  go_wp2_with fail
  refine (HH.out.1 _).mono ?_
  rintro e w' ⟨rfl, b⟩
  replace hB := hB.trans (b.mono hB.size); clear b
  go_wp2_with fail
  refine (HH.out.2.2.2 _).mono ?_
  rintro e w' ⟨rfl, b⟩
  replace hB := hB.trans (b.mono hB.size); clear b
  go_wp2_with fail
  refine (HH.out.2.2.1 _).mono ?_
  rintro e w' ⟨rfl, b⟩
  replace hB := hB.trans (b.mono hB.size); clear b
  clear HH xk
  have hBH := hB.alloc hB.size (.cells #[.string ⟨#[127, 255, 255, 255, 128, 0, 0, 0, 0, 0, 0, 0, 0, 0, 0, 0]⟩, .string ⟨#[128, 0, 0, 0, 0, 0, 0, 0, 0, 0, 0, 1]⟩] 26)
  have hgs : (w'.alloc (.cells #[.string ⟨#[127, 255, 255, 255, 128, 0, 0, 0, 0, 0, 0, 0, 0, 0, 0, 0]⟩, .string ⟨#[128, 0, 0, 0, 0, 0, 0, 0, 0, 0, 0, 1]⟩] 26)).heap.size = w'.heap.size + 1 := by simp
  have hc14 := cells14 (w'.alloc (.cells #[.string ⟨#[127, 255, 255, 255, 128, 0, 0, 0, 0, 0, 0, 0, 0, 0, 0, 0]⟩, .string ⟨#[128, 0, 0, 0, 0, 0, 0, 0, 0, 0, 0, 1]⟩] 26)) 26 A B N L ⟨#[127, 255, 255, 255, 128, 0, 0, 0, 0, 0, 0, 0, 0, 0, 0, 0]⟩ ⟨#[128, 0, 0, 0, 0, 0, 0, 0, 0, 0, 0, 1]⟩ (⟨#[127, 255, 255, 255, 128, 0, 0, 0, 0, 0, 0, 0, 0, 0, 0, 0]⟩ ++ A) (⟨#[128, 0, 0, 0, 0, 0, 0, 0, 0, 0, 0, 1]⟩ ++ B) (by omega) (by omega) z2 sL (by decide) (by decide)
    (by rw [ByteArray.size_append, show (ByteArray.mk #[127, 255, 255, 255, 128, 0, 0, 0, 0, 0, 0, 0, 0, 0, 0, 0]).size = 16 from rfl]; omega) (by rw [ByteArray.size_append, show (ByteArray.mk #[128, 0, 0, 0, 0, 0, 0, 0, 0, 0, 0, 1]).size = 12 from rfl]; omega)
  have hBA := hBH.alloc hBH.size (.cells #[.string A, .string B, .string B, .string A, .string N, .string B, .string L, .string B, .string N, .string A, .string ⟨#[127, 255, 255, 255, 128, 0, 0, 0, 0, 0, 0, 0, 0, 0, 0, 0]⟩, .string ⟨#[128, 0, 0, 0, 0, 0, 0, 0, 0, 0, 0, 1]⟩, .string (⟨#[127, 255, 255, 255, 128, 0, 0, 0, 0, 0, 0, 0, 0, 0, 0, 0]⟩ ++ A), .string (⟨#[128, 0, 0, 0, 0, 0, 0, 0, 0, 0, 0, 1]⟩ ++ B)] 26)
  have hlt : (w'.alloc (.cells #[.string ⟨#[127, 255, 255, 255, 128, 0, 0, 0, 0, 0, 0, 0, 0, 0, 0, 0]⟩, .string ⟨#[128, 0, 0, 0, 0, 0, 0, 0, 0, 0, 0, 1]⟩] 26)).heap.size < ((w'.alloc (.cells #[.string ⟨#[127, 255, 255, 255, 128, 0, 0, 0, 0, 0, 0, 0, 0, 0, 0, 0]⟩, .string ⟨#[128, 0, 0, 0, 0, 0, 0, 0, 0, 0, 0, 1]⟩] 26)).alloc (.cells #[.string A, .string B, .string B, .string A, .string N, .string B, .string L, .string B, .string N, .string A, .string ⟨#[127, 255, 255, 255, 128, 0, 0, 0, 0, 0, 0, 0, 0, 0, 0, 0]⟩, .string ⟨#[128, 0, 0, 0, 0, 0, 0, 0, 0, 0, 0, 1]⟩, .string (⟨#[127, 255, 255, 255, 128, 0, 0, 0, 0, 0, 0, 0, 0, 0, 0, 0]⟩ ++ A), .string (⟨#[128, 0, 0, 0, 0, 0, 0, 0, 0, 0, 0, 1]⟩ ++ B)] 26)).heap.size := by simp
  rw [hgs] at hc14 hlt
  go_wp2_with fail
  generalize (w'.alloc (.cells #[.string ⟨#[127, 255, 255, 255, 128, 0, 0, 0, 0, 0, 0, 0, 0, 0, 0, 0]⟩, .string ⟨#[128, 0, 0, 0, 0, 0, 0, 0, 0, 0, 0, 1]⟩] 26)).alloc (.cells #[.string A, .string B, .string B, .string A, .string N, .string B, .string L, .string B, .string N, .string A, .string ⟨#[127, 255, 255, 255, 128, 0, 0, 0, 0, 0, 0, 0, 0, 0, 0, 0]⟩, .string ⟨#[128, 0, 0, 0, 0, 0, 0, 0, 0, 0, 0, 1]⟩, .string (⟨#[127, 255, 255, 255, 128, 0, 0, 0, 0, 0, 0, 0, 0, 0, 0, 0]⟩ ++ A), .string (⟨#[128, 0, 0, 0, 0, 0, 0, 0, 0, 0, 0, 1]⟩ ++ B)] 26) = wA at *
  generalize w'.heap.size + 1 = g at *
  clear hgs hBH hB z1 z2 z3 sL
  have HC := Lib.hid hc14; clear hc14
  go_loopw [72] (fun i wr => ∃ (j : Nat) (kk : Int), j ≤ 7 ∧ kk = (j : Int) ∧ i = .int .i64 kk ∧ Below wA.heap.size wA wr) (fun i _ => 7 - (intOf i).toNat)
  case atStart => exact ⟨0, 0, by omega, rfl, rfl, Below.refl _ _⟩
  case round =>
    obtain ⟨j, kk, hj, hkk, rfl, hBr⟩ := hrel
    by_cases hlj : j < 7
    · subst hkk
      obtain ⟨X, Y, sX, sY, c0, c1⟩ := HC.out j hlj
      have d0 := (hBr.cell (p := ⟨g, 2 * j, none⟩) hlt).trans c0
      have d1 := (hBr.cell (p := ⟨g, 2 * j + 1, none⟩) hlt).trans c1
      rw [Nat.mul_comm] at d0 d1
      clear c0 c1
      have hdj : decide ((j : Int) < 7) = true := by simp; omega
      have S0 : PairS wA wr.heap.size X Y (wr.alloc (.cells #[.string X, .string Y] 26)) :=
        ⟨by rw [World.cell?_alloc_at _ _ _ _ rfl]; rfl, by rw [World.cell?_alloc_at _ _ _ _ rfl]; rfl, by simp, hBr.alloc hBr.size _⟩
      obtain ⟨s, r, o, hso⟩ := QuoV_form X Y
      have hS1 := fun W => Quo_any W X Y (by omega) (by omega) trivial
      have hS2 := fun W => RefQuo_any W X Y (by omega) (by omega)
      rw [hso] at hS1 hS2
      clear hso sX sY
      go_wp2_with fail
      clear d0 d1
      obtain ⟨bx, hbx⟩ : ∃ bx, bx = wr.heap.size := ⟨_, rfl⟩
      rw [← hbx] at S0 ⊢
      generalize wr.alloc (.cells #[.string X, .string Y] 26) = wB at *
      clear hbx
      refine (hS1 _).mono ?_
      rintro e w5 ⟨rfl, b⟩
      replace S0 := S0.next b; clear b
      have c0 := S0.c0
      have c1 := S0.c1
      go_wp2_with fail
      clear c0 c1
      refine (hS2 _).mono ?_
      rintro e w6 ⟨rfl, b⟩
      replace S0 := S0.next b; clear b
      have hBn := S0.bl
      clear S0
      go_wp2
      exact ⟨⟨j + 1, _, hlj, rfl, by go_num, hBn⟩, by simp [intOf]; omega⟩
    · obtain rfl : kk = 7 := by omega
      have hBF := hBA.trans (hBr.mono hBA.size)
      clear HC hlj hj hkk hBA hBr hlt
      go_wp2
      go_ret
      exact ⟨rfl, hBF⟩
end Go.Proofs.YtkpkifhjedlieaaGreatDoor
