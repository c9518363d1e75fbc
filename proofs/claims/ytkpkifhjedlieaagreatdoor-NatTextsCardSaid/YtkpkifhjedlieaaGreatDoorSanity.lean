/-
  The calls that the law's sanity makes, at its own numbers.
  The walk of the law's sanity.
-/
import Derived.Test.YtkpkifhjedlieaaGreatDoorText
import Derived.Test.YtkpkifhjedlieaaGreatDoorTop
namespace Go.Proofs.YtkpkifhjedlieaaGreatDoor
open Go.RowKit NM
theorem NB_1 : NB 1 = ⟨#[1]⟩ := by unfold NB; simp [nb]
theorem NB_2 : NB 2 = ⟨#[2]⟩ := by unfold NB; simp [nb]
theorem NB_3 : NB 3 = ⟨#[3]⟩ := by unfold NB; simp [nb]
theorem NB_5 : NB 5 = ⟨#[5]⟩ := by unfold NB; simp [nb]
theorem NB_6 : NB 6 = ⟨#[6]⟩ := by unfold NB; simp [nb]
theorem NB_7 : NB 7 = ⟨#[7]⟩ := by unfold NB; simp [nb]
theorem NB_12 : NB 12 = ⟨#[12]⟩ := by unfold NB; simp [nb]
theorem NB_18 : NB 18 = ⟨#[18]⟩ := by unfold NB; simp [nb]
theorem NB_142 : NB 142 = ⟨#[142]⟩ := by unfold NB; simp [nb]
theorem NB_200 : NB 200 = ⟨#[200]⟩ := by unfold NB; simp [nb]
theorem NB_255 : NB 255 = ⟨#[255]⟩ := by unfold NB; simp [nb]
theorem NB_256 : NB 256 = ⟨#[1, 0]⟩ := by unfold NB; simp [nb]
theorem NB_1000 : NB 1000 = ⟨#[3, 232]⟩ := by unfold NB; simp [nb]
theorem NB_0 : NB 0 = ⟨#[]⟩ := by unfold NB; simp [nb]
theorem of_c (n : Nat) (b : ByteArray) (h : NB n = b) (hn : n < 9223372036854775808) (w : World) : Calls Tryz.prog 34 #[.int .i64 (n : Nat)] w fun e w' => e = .returned (.string b) ∧ Below w.heap.size w w' := by
  rw [← h]; exact Of_pos w n hn
theorem of_neg1 (w : World) : Calls Tryz.prog 34 #[.int .i64 (-1)] w fun e w' => e = .returned (.string ⟨#[]⟩) ∧ Below w.heap.size w w' :=
  (Of_neg w (-1) (by omega) (by omega)).mono fun e w' ⟨h1, h2⟩ => ⟨h1, by rw [← h2]; exact Below.refl _ _⟩
theorem int_c (w : World) : Calls Tryz.prog 35 #[.string ⟨#[0, 1, 0]⟩] w fun e w' => e = .returned (.tuple #[.int .i64 256, .bool true]) ∧ Below w.heap.size w w' :=
  Int_any w ⟨#[0, 1, 0]⟩ (by decide)
theorem sub35 (w : World) : Calls Tryz.prog 12 #[.string ⟨#[3]⟩, .string ⟨#[5]⟩] w fun e w' => e = .returned (.tuple #[.string ⟨#[]⟩, .bool false]) ∧ Below w.heap.size w w' :=
  Sub_any w ⟨#[3]⟩ ⟨#[5]⟩ (by decide) (by decide)
theorem sub53 (w : World) : Calls Tryz.prog 12 #[.string ⟨#[5]⟩, .string ⟨#[3]⟩] w fun e w' => e = .returned (.tuple #[.string ⟨#[2]⟩, .bool true]) ∧ Below w.heap.size w w' := by
  have h := Sub_any w ⟨#[5]⟩ ⟨#[3]⟩ (by decide) (by decide)
  rw [show SubV ⟨#[5]⟩ ⟨#[3]⟩ = .tuple #[.string ⟨#[2]⟩, .bool true] by rw [← NB_2]; rfl] at h
  exact h
theorem quo_c (w : World) : Calls Tryz.prog 23 #[.string ⟨#[3, 232]⟩, .string ⟨#[7]⟩] w fun e w' => e = .returned (.tuple #[.string ⟨#[142]⟩, .string ⟨#[6]⟩, .bool true]) ∧ Below w.heap.size w w' := by
  have h := Quo_any w ⟨#[3, 232]⟩ ⟨#[7]⟩ (by decide) (by decide) trivial
  rw [show QuoV ⟨#[3, 232]⟩ ⟨#[7]⟩ = .tuple #[.string ⟨#[142]⟩, .string ⟨#[6]⟩, .bool true] by rw [← NB_142, ← NB_6]; rfl] at h
  exact h
theorem gcd_c1 (w : World) (hT : DB w) (hg : 2 < w.heap.size) : Calls Tryz.prog 25 #[.string ⟨#[12]⟩, .string ⟨#[18]⟩] w fun e w' => e = .returned (.string ⟨#[6]⟩) ∧ Below w.heap.size w w' := by
  have h := Gcd_small w ⟨#[12]⟩ ⟨#[18]⟩ (by decide) (by decide) (by unfold OneS; decide) (by unfold OneS; decide) (by decide) (by decide) hT hg
  rw [show GcdV ⟨#[12]⟩ ⟨#[18]⟩ = .string ⟨#[6]⟩ by rw [← NB_6]; rfl] at h
  exact h
theorem gcd_c2 (w : World) : Calls Tryz.prog 25 #[.string ⟨#[]⟩, .string ⟨#[5]⟩] w fun e w' => e = .returned (.string ⟨#[5]⟩) ∧ Below w.heap.size w w' := by
  have h := Gcd_zero w ⟨#[]⟩ ⟨#[5]⟩ (by decide) (by decide) (.inl (by decide))
  rw [show GcdV ⟨#[]⟩ ⟨#[5]⟩ = .string ⟨#[5]⟩ by unfold GcdV; rw [show Nat.gcd (sv ⟨#[]⟩) (sv ⟨#[5]⟩) = 5 by decide, NB_5]] at h
  exact h
theorem pow_c1 (w : World) : Calls Tryz.prog 27 #[.string ⟨#[3]⟩, .string ⟨#[200]⟩, .string ⟨#[3, 232]⟩] w fun e w' => e = .returned (.tuple #[.string ⟨#[1]⟩, .bool true]) ∧ Below w.heap.size w w' := by
  have h := Pow_any w ⟨#[3]⟩ ⟨#[200]⟩ ⟨#[3, 232]⟩ (by decide) (by decide) (by decide) trivial
  rw [show PowV ⟨#[3]⟩ ⟨#[200]⟩ ⟨#[3, 232]⟩ = .tuple #[.string ⟨#[1]⟩, .bool true] by
    rw [← NB_1]; unfold PowV
    rw [show sv ⟨#[3]⟩ = 3 by decide, show sv ⟨#[200]⟩ = 200 by decide, show sv ⟨#[3, 232]⟩ = 1000 by decide, show 3 ^ 200 % 1000 = 1 by decide]
    rfl] at h
  exact h
theorem pow_c2 (w : World) : Calls Tryz.prog 27 #[.string ⟨#[5]⟩, .string ⟨#[]⟩, .string ⟨#[1]⟩] w fun e w' => e = .returned (.tuple #[.string ⟨#[]⟩, .bool true]) ∧ Below w.heap.size w w' := by
  have h := Pow_any w ⟨#[5]⟩ ⟨#[]⟩ ⟨#[1]⟩ (by decide) (by decide) (by decide) trivial
  rw [show PowV ⟨#[5]⟩ ⟨#[]⟩ ⟨#[1]⟩ = .tuple #[.string ⟨#[]⟩, .bool true] by
    unfold PowV
    rw [show sv ⟨#[5]⟩ ^ sv ⟨#[]⟩ % sv ⟨#[1]⟩ = 0 by decide, NB_0]
    rfl] at h
  exact h
theorem bits_c1 (w : World) : Calls Tryz.prog 37 #[.string ⟨#[255]⟩] w fun e w' => e = .returned (.int .i64 8) ∧ Below w.heap.size w w' :=
  (Bits_any w ⟨#[255]⟩ (by decide)).mono fun e w' ⟨h1, h2⟩ => ⟨by rw [h1, show bl (sv ⟨#[255]⟩) = 8 by decide]; rfl, by rw [← h2]; exact Below.refl _ _⟩
theorem bits_c2 (w : World) : Calls Tryz.prog 37 #[.string ⟨#[1, 0]⟩] w fun e w' => e = .returned (.int .i64 9) ∧ Below w.heap.size w w' :=
  (Bits_any w ⟨#[1, 0]⟩ (by decide)).mono fun e w' ⟨h1, h2⟩ => ⟨by rw [h1, show bl (sv ⟨#[1, 0]⟩) = 9 by decide]; rfl, by rw [← h2]; exact Below.refl _ _⟩
theorem text_c (w : World) (hg : 3 < w.heap.size) (ht : P10 w) : Calls Tryz.prog 29 #[.string ⟨#[1, 0, 0]⟩] w fun e w' => e = .returned (.string ⟨#[54, 53, 53, 51, 54]⟩) ∧ Below w.heap.size w w' := by
  have h := Text_one w ⟨#[1, 0, 0]⟩ (by decide) (by decide) (by decide) hg ht
  rw [show sv ⟨#[1, 0, 0]⟩ = 65536 by decide, show Lib.decDigits 65536 = [54, 53, 53, 51, 54] by simp [Lib.decDigits]] at h
  exact h
end Go.Proofs.YtkpkifhjedlieaaGreatDoor
namespace Go.Proofs.YtkpkifhjedlieaaGreatDoor
open Go.RowKit NM
set_option maxRecDepth 100000 in
set_option maxHeartbeats 8000000 in
theorem sanity_any (w : World) (hT : DB w) (hg : 2 < w.heap.size) (hP : P10 w) (hg2 : 3 < w.heap.size) :
    Calls Tryz.prog 10 #[] w fun e w' => e = .returned (.bool true) ∧ Below w.heap.size w w' := by
  have hB := Below.refl w.heap.size w
  go_enter Tryz.func10, Tryz.ntmps10
  go_wp2_with fail
  refine (int_c _).mono ?_
  rintro e w' ⟨rfl, b⟩
  replace hB := hB.trans (b.mono hB.size); clear b
  go_wp2_with fail
  refine (of_c 256 _ NB_256 (by omega) _).mono ?_
  rintro e w' ⟨rfl, b⟩
  replace hB := hB.trans (b.mono hB.size); clear b
  go_wp2_with fail
  refine (of_neg1 _).mono ?_
  rintro e w' ⟨rfl, b⟩
  replace hB := hB.trans (b.mono hB.size); clear b
  go_wp2_with fail
  refine (of_c 3 _ NB_3 (by omega) _).mono ?_
  rintro e w' ⟨rfl, b⟩
  replace hB := hB.trans (b.mono hB.size); clear b
  go_wp2_with fail
  refine (of_c 5 _ NB_5 (by omega) _).mono ?_
  rintro e w' ⟨rfl, b⟩
  replace hB := hB.trans (b.mono hB.size); clear b
  go_wp2_with fail
  refine (sub35 _).mono ?_
  rintro e w' ⟨rfl, b⟩
  replace hB := hB.trans (b.mono hB.size); clear b
  go_wp2_with fail
  refine (of_c 5 _ NB_5 (by omega) _).mono ?_
  rintro e w' ⟨rfl, b⟩
  replace hB := hB.trans (b.mono hB.size); clear b
  go_wp2_with fail
  refine (of_c 3 _ NB_3 (by omega) _).mono ?_
  rintro e w' ⟨rfl, b⟩
  replace hB := hB.trans (b.mono hB.size); clear b
  go_wp2_with fail
  refine (sub53 _).mono ?_
  rintro e w' ⟨rfl, b⟩
  replace hB := hB.trans (b.mono hB.size); clear b
  go_wp2_with fail
  refine (of_c 1000 _ NB_1000 (by omega) _).mono ?_
  rintro e w' ⟨rfl, b⟩
  replace hB := hB.trans (b.mono hB.size); clear b
  go_wp2_with fail
  refine (of_c 7 _ NB_7 (by omega) _).mono ?_
  rintro e w' ⟨rfl, b⟩
  replace hB := hB.trans (b.mono hB.size); clear b
  go_wp2_with fail
  refine (quo_c _).mono ?_
  rintro e w' ⟨rfl, b⟩
  replace hB := hB.trans (b.mono hB.size); clear b
  go_wp2_with fail
  refine (of_c 2 _ NB_2 (by omega) _).mono ?_
  rintro e w' ⟨rfl, b⟩
  replace hB := hB.trans (b.mono hB.size); clear b
  go_wp2_with fail
  refine (of_c 142 _ NB_142 (by omega) _).mono ?_
  rintro e w' ⟨rfl, b⟩
  replace hB := hB.trans (b.mono hB.size); clear b
  go_wp2_with fail
  refine (of_c 6 _ NB_6 (by omega) _).mono ?_
  rintro e w' ⟨rfl, b⟩
  replace hB := hB.trans (b.mono hB.size); clear b
  go_wp2_with fail
  refine (of_c 12 _ NB_12 (by omega) _).mono ?_
  rintro e w' ⟨rfl, b⟩
  replace hB := hB.trans (b.mono hB.size); clear b
  go_wp2_with fail
  refine (of_c 18 _ NB_18 (by omega) _).mono ?_
  rintro e w' ⟨rfl, b⟩
  replace hB := hB.trans (b.mono hB.size); clear b
  go_wp2_with fail
  refine (gcd_c1 _ (hT.below hB hg) (Nat.lt_of_lt_of_le hg hB.size)).mono ?_
  rintro e w' ⟨rfl, b⟩
  replace hB := hB.trans (b.mono hB.size); clear b
  go_wp2_with fail
  refine (of_c 6 _ NB_6 (by omega) _).mono ?_
  rintro e w' ⟨rfl, b⟩
  replace hB := hB.trans (b.mono hB.size); clear b
  go_wp2_with fail
  refine (of_c 5 _ NB_5 (by omega) _).mono ?_
  rintro e w' ⟨rfl, b⟩
  replace hB := hB.trans (b.mono hB.size); clear b
  go_wp2_with fail
  refine (gcd_c2 _).mono ?_
  rintro e w' ⟨rfl, b⟩
  replace hB := hB.trans (b.mono hB.size); clear b
  go_wp2_with fail
  refine (of_c 5 _ NB_5 (by omega) _).mono ?_
  rintro e w' ⟨rfl, b⟩
  replace hB := hB.trans (b.mono hB.size); clear b
  go_wp2_with fail
  refine (of_c 3 _ NB_3 (by omega) _).mono ?_
  rintro e w' ⟨rfl, b⟩
  replace hB := hB.trans (b.mono hB.size); clear b
  go_wp2_with fail
  refine (of_c 200 _ NB_200 (by omega) _).mono ?_
  rintro e w' ⟨rfl, b⟩
  replace hB := hB.trans (b.mono hB.size); clear b
  go_wp2_with fail
  refine (of_c 1000 _ NB_1000 (by omega) _).mono ?_
  rintro e w' ⟨rfl, b⟩
  replace hB := hB.trans (b.mono hB.size); clear b
  go_wp2_with fail
  refine (pow_c1 _).mono ?_
  rintro e w' ⟨rfl, b⟩
  replace hB := hB.trans (b.mono hB.size); clear b
  go_wp2_with fail
  refine (of_c 5 _ NB_5 (by omega) _).mono ?_
  rintro e w' ⟨rfl, b⟩
  replace hB := hB.trans (b.mono hB.size); clear b
  go_wp2_with fail
  refine (of_c 1 _ NB_1 (by omega) _).mono ?_
  rintro e w' ⟨rfl, b⟩
  replace hB := hB.trans (b.mono hB.size); clear b
  go_wp2_with fail
  refine (pow_c2 _).mono ?_
  rintro e w' ⟨rfl, b⟩
  replace hB := hB.trans (b.mono hB.size); clear b
  go_wp2_with fail
  refine (Parse_007 _).mono ?_
  rintro e w' ⟨rfl, b⟩
  replace hB := hB.trans (b.mono hB.size); clear b
  go_wp2_with fail
  refine (of_c 255 _ NB_255 (by omega) _).mono ?_
  rintro e w' ⟨rfl, b⟩
  replace hB := hB.trans (b.mono hB.size); clear b
  go_wp2_with fail
  refine (bits_c1 _).mono ?_
  rintro e w' ⟨rfl, b⟩
  replace hB := hB.trans (b.mono hB.size); clear b
  go_wp2_with fail
  refine (of_c 256 _ NB_256 (by omega) _).mono ?_
  rintro e w' ⟨rfl, b⟩
  replace hB := hB.trans (b.mono hB.size); clear b
  go_wp2_with fail
  refine (bits_c2 _).mono ?_
  rintro e w' ⟨rfl, b⟩
  replace hB := hB.trans (b.mono hB.size); clear b
  go_wp2_with fail
  refine (of_c 1 _ NB_1 (by omega) _).mono ?_
  rintro e w' ⟨rfl, b⟩
  replace hB := hB.trans (b.mono hB.size); clear b
  go_wp2_with fail
  refine (text_c _ (Nat.lt_of_lt_of_le hg2 hB.size) (hP.below hB hg2)).mono ?_
  rintro e w' ⟨rfl, b⟩
  replace hB := hB.trans (b.mono hB.size); clear b
  go_wp2
  go_ret
  exact ⟨rfl, hB⟩
end Go.Proofs.YtkpkifhjedlieaaGreatDoor
