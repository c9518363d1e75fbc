/-
  What a law's arguments are: slices of numbers.
-/
import Derived.Test.YtjfbpmpdcmealaaDoorDBase
import Derived.ChangeSlices
import Derived.OpenShut
import Derived.Lib.SmallJoins
import Derived.WideKeyPair
namespace Go.Proofs.YtjfbpmpdcmealaaDoor.D7
open Go.ChangeShapes Go.WideShapes Go.ChangeAt Go.RowKit GM SH G4 E6 D7P
theorem cellsI : Tryd.prog.cellsOf 3 = 1 := by kernel_rfl
theorem lit_i64 {n : Int} (h : (Lit.int .i64 n).wf = true) : i64 n := bounds_i64 h
/-- a slice of numbers that came in -/
def AL (W : World) (v : Value) (l : List Int) : Prop := ∃ (p : Option Addr) (n c : Nat), v = .slice p n c ∧ l.length = n ∧ n ≤ c ∧ c ≤ maxLen ∧ SL W (.slice p n c) l ∧ (∀ x ∈ l, i64 x) ∧ (p = none → n = 0 ∧ c = 0)
theorem al_trod {H : Type} {enc : TypeId × Value → H} {W : World} {fuel : Nat} {v : Value} {y : DataW H × List MemPlace} (h : DataW.trod enc Tryd.prog W 0 (fun _ => true) true fuel 22 [v] = some y) : ∃ l, AL W v l := by
  rcases open_ints Tryd.underlying22 Tryd.underlying3 cellsI h with ⟨hcs, _⟩ | ⟨a, len, cap, zs, hcs, _, hl, hm, hz, _, hcell, hwf⟩
  · obtain rfl : v = .slice none 0 0 := by simpa using hcs
    exact ⟨[], none, 0, 0, rfl, rfl, Nat.le_refl _, by decide, VL.nil _ _ _, fun x hx => (by cases hx), fun _ => ⟨rfl, rfl⟩⟩
  · obtain rfl : v = .slice (some a) len cap := by simpa using hcs
    simp only [if_true] at hz
    have hlen : (zs.take len).length = len := by rw [List.length_take]; omega
    refine ⟨zs.take len, some a, len, cap, rfl, hlen, hl, hm, ⟨some a, cap, by rw [List.length_map, hlen], fun j x hj => ?_⟩, fun x hx => lit_i64 (hwf x (List.mem_of_mem_take hx)), fun e => by cases e⟩
    rw [List.getElem?_map] at hj
    cases hk : (zs.take len)[j]? with
    | none => rw [hk] at hj; simp at hj
    | some z =>
      rw [hk] at hj
      simp at hj
      subst hj
      have hjl : j < len := by have := (List.getElem?_eq_some_iff.1 hk).1; omega
      rw [List.getElem?_take_of_lt hjl] at hk
      have hc := hcell j (by omega)
      obtain ⟨b, off, spot⟩ := a
      have hspot : spot = none := by simpa [Addr.add] using World.cell?_spot (hcell 0 (by omega))
      subst hspot
      refine ⟨b, off, rfl, ?_⟩
      rw [← Lib.add_plain, hc]
      simp [List.getD_eq_getElem?_getD, hk]
theorem AL.cut {W : World} {p : Option Addr} {n c : Nat} {l : List Int} (h : AL W (.slice p n c) l) (m : Nat) (hm : m ≤ n) (V : World) : (Instr.sliceAt 22 (.slice p n c) none (some (.int .i64 (m : Int))) none).run Tryd.prog V = .ok (.slice p m c) V := by
  obtain ⟨p', n', c', e, h1, h2, h3, h4, h5, h6⟩ := h
  cases e
  have hmc : m ≤ c := by omega
  cases p with
  | none =>
    obtain ⟨rfl, rfl⟩ := h6 rfl
    obtain rfl : m = 0 := by omega
    simp [Instr.sliceAt, run_underlying Tryd.underlying22, go_sem]
  | some a =>
    simp [Instr.sliceAt, run_underlying Tryd.underlying22, go_sem]
    intro hlt
    omega
end Go.Proofs.YtjfbpmpdcmealaaDoor.D7
