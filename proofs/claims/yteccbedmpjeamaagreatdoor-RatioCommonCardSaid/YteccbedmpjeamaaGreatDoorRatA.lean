/-
  Package ratio: over, number, minus.
-/
import Derived.Test.YteccbedmpjeamaaGreatDoorGcdB
import Derived.Test.YteccbedmpjeamaaGreatDoorRefOf
import Derived.Laws.Rows
namespace Go.Proofs.YteccbedmpjeamaaGreatDoor
open Go.RowKit NM
/-- a number p / q with a sign, in lowest terms or not, as a value -/
def RV (g : Bool) (p q : Nat) : Value := .agg #[.bool (g && decide (p ≠ 0)), .string (NB p), .string (NB q)]
theorem NB_inj {n m : Nat} (h : NB n = NB m) : n = m := by rw [← sv_NB n, h, sv_NB]
theorem NB_one : NB 1 = ⟨#[1]⟩ := by
  have h := tz_NB ⟨#[1]⟩
  have h1 : sv ⟨#[1]⟩ = 1 := by rfl
  rw [h1] at h
  rw [← h]; rfl
theorem NB_zero : NB 0 = ⟨#[]⟩ := by
  have h := tz_NB ⟨#[]⟩
  have h1 : sv ⟨#[]⟩ = 0 := by rfl
  rw [h1] at h
  rw [← h]; rfl
theorem str_ne {A B : ByteArray} {l : List UInt8} (hl : B.data.toList = l) (h : A ≠ B) : (A.toList == l) = false := by
  rw [beq_eq_false_iff_ne, ByteArray.toList_eq]
  intro h2; apply h
  cases A with | mk a => cases B with | mk b =>
  congr 1
  apply Array.ext'
  rw [h2, ← hl]
theorem over_any (w : World) (n m : Nat) (hn : (NB n).size ≤ 4294967296) (hm : (NB m).size ≤ 4294967296) (h0 : m ≠ 0) :
    Calls Tryz.prog 66 #[.string (NB n), .string (NB m)] w fun e w' => e = .returned (.string (NB (n / m))) ∧ Below w.heap.size w w' := by
  have e1 := NB_one
  by_cases h1 : m = 1
  · subst h1
    rw [e1, Nat.div_one]
    generalize NB n = A
    go_enter Tryz.func66, Tryz.ntmps66
    go_wp2
    go_ret
    exact ⟨rfl, Below.refl _ _⟩
  · have hq := fun W => Quo_any W (NB n) (NB m) hn hm trivial
    have hz : ¬ sv (NB m) = 0 := by rw [sv_NB]; exact h0
    simp only [QuoV, sv_NB, if_neg h0] at hq
    clear hz
    have hne : ((NB m).toList == [1]) = false := str_ne (B := ⟨#[1]⟩) rfl (fun h => h1 (NB_inj (h.trans e1.symm)))
    generalize NB (n / m) = Q at *
    generalize NB (n % m) = R at *
    generalize NB m = B at *
    generalize NB n = A at *
    clear hn hm h0 h1 e1
    go_enter Tryz.func66, Tryz.ntmps66
    go_wp2_with fail
    refine (hq _).mono ?_
    rintro e w' ⟨rfl, b⟩
    go_wp2
    go_ret
    exact ⟨rfl, b⟩
theorem rnumber_any (w : World) (g : Bool) (p q : Nat) :
    Calls Tryz.prog 65 #[.bool g, .string (NB p), .string (NB q)] w fun e w' => e = .returned (RV g p q) ∧ Below w.heap.size w w' := by
  unfold RV
  by_cases h0 : p = 0
  · have d0 : decide (p ≠ 0) = false := by simp [h0]
    rw [d0, Bool.and_false]
    have e : NB p = ⟨#[]⟩ := by rw [h0]; exact NB_zero
    rw [e]
    generalize NB q = B
    clear d0 e h0
    go_enter Tryz.func65, Tryz.ntmps65
    cases g
    all_goals go_wp2
    all_goals refine bodyPost_ret (results_cell_row rfl _ _ w.heap.size _ _ _ _ rfl (heap_alloc_new _ _) Tryz.underlying26 rfl (by kernel_rfl)) rfl ?_
    all_goals exact ⟨rfl, (Below.refl _ w).alloc (Nat.le_refl _) _⟩
  · have d0 : decide (p ≠ 0) = true := by simp [h0]
    have n1 : ((NB p).toList == []) = false := str_ne (B := ⟨#[]⟩) rfl (fun h => h0 (NB_inj (h.trans NB_zero.symm)))
    rw [d0, Bool.and_true]
    generalize NB q = B
    generalize NB p = A at *
    clear d0 h0
    go_enter Tryz.func65, Tryz.ntmps65
    cases g
    all_goals go_wp2
    all_goals refine bodyPost_ret (results_cell_row rfl _ _ w.heap.size _ _ _ _ rfl (heap_alloc_new _ _) Tryz.underlying26 rfl (by kernel_rfl)) rfl ?_
    all_goals exact ⟨rfl, (Below.refl _ w).alloc (Nat.le_refl _) _⟩
end Go.Proofs.YteccbedmpjeamaaGreatDoor
