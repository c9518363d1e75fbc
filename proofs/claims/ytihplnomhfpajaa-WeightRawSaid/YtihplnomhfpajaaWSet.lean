/-
  A map of numbers that were seen, made by the call itself.
-/
import Derived.Test.YtihplnomhfpajaaWMath
import Derived.Maps.OwnSet
import Derived.WalkArith
namespace Go.Proofs.Ytihplnomhfpajaa.W8
open Go.RowKit GM G4 D7P Go.Maps
theorem keyLaw : Keyed Try.prog 3 := int_keyed Try.underlying3
theorem zeroB (w : World) : (zeroValue 4).run Try.prog w = .ok (.bool false) w := by kernel_rfl
/-- block b is a map that holds true at the numbers that p says, and nothing else -/
def SetD (w : World) (b n : Nat) (p : Int → Bool) : Prop :=
  ∃ D : DataW Unit, w.ownsMap Try.prog 3 (plainElem Try.prog 4) b n D ∧ IsMap D ∧ ∀ x, i64 x → D.atKey (.int .i64 x) (.lit (.bool false)) = .lit (.bool (p x))
theorem SetD.congr {w : World} {b n : Nat} {p q : Int → Bool} (h : SetD w b n p) (e : ∀ x, p x = q x) : SetD w b n q := by
  obtain ⟨D, h1, h2, h3⟩ := h
  exact ⟨D, h1, h2, fun x hx => by rw [h3 x hx, e]⟩
theorem SetD.made (w : World) : SetD (w.alloc (.map #[] 0)) w.heap.size 0 fun _ => false :=
  ⟨.map [], World.ownsMap_made w _ _ _, isMap_empty, fun _ _ => rfl⟩
theorem SetD.kept {w w' : World} {b n : Nat} {p : Int → Bool} (h : SetD w b n p) {row : Option Nat} (hg : w.grownBy w' row) (hne : some b ≠ row) : SetD w' b n p := by
  obtain ⟨D, h1, h2, h3⟩ := h
  exact ⟨D, h1.kept hg hne, h2, h3⟩
theorem SetD.lt {w : World} {b n : Nat} {p : Int → Bool} (h : SetD w b n p) : b < w.heap.size := by
  obtain ⟨D, h1, _, _⟩ := h
  exact h1.lt
theorem SetD.next {w w' : World} {b n : Nat} {p : Int → Bool} (h : SetD w b n p) (k : Below w.heap.size w w') : SetD w' b n p := by
  obtain ⟨D, ⟨es, clock, hb, h1⟩, h2, h3⟩ := h
  exact ⟨D, ⟨es, clock, (k.block b (Array.getElem?_eq_some_iff.1 hb).1).trans hb, h1⟩, h2, h3⟩
theorem bool_inv {v : Value} {c : Bool} {ps : List MemPlace} (h : plainElem (H := Unit) Try.prog 4 v = some (.lit (.bool c), ps)) : v = .bool c := by
  unfold plainElem at h
  rw [Try.underlying4] at h
  cases v <;> simp at h
  obtain ⟨h, _⟩ := h
  rw [h]
theorem SetD.look {w : World} {b n : Nat} {p : Int → Bool} (h : SetD w b n p) (x : Int) (hx : i64 x) :
    (Instr.lookup 66 (.map (some b)) (.int .i64 x) false).run Try.prog w = .ok (.bool (p x)) w := by
  obtain ⟨D, h1, h2, h3⟩ := h
  obtain ⟨v, ps, hrun, hv⟩ := h1.lookup keyLaw Try.underlying66 (zeroB w) (plainElem_bool Try.underlying4 false) (keyOf_int_mk Try.underlying3 (WalkArith.wf_i64 hx))
  rw [h3 x hx] at hv
  rw [hrun, bool_inv hv]
theorem SetD.add {w : World} {b n : Nat} {p : Int → Bool} (h : SetD w b n p) (hn : n < maxLen) (x : Int) (hx : i64 x) :
    ∃ w', (Instr.mapUpdate 66 (.map (some b)) (.int .i64 x) (.bool true)).run Try.prog w = .ok () w' ∧ SetD w' b (n + 1) (fun y => p y || y == x) ∧ w.grownBy w' (some b) := by
  obtain ⟨D, h1, h2, h3⟩ := h
  obtain ⟨w', hr, ho, hg⟩ := h1.update keyLaw Try.underlying66 hn (keyOf_int_mk Try.underlying3 (WalkArith.wf_i64 hx)) (plainElem_bool Try.underlying4 true)
  refine ⟨w', hr, ⟨_, ho, h2.put _ _, fun y hy => ?_⟩, hg⟩
  by_cases e : y = x
  · subst e
    rw [atKey_put_same h2 (show WideAt.IsKeyLit (Lit.int .i64 y) from trivial)]; simp
  · rw [atKey_put_other (by intro e2; injection e2 with _ e3; exact e e3), h3 y hy]
    simp [e]
/-- at the operation -/
theorem wpList_set_add (w : World) {ops : Array Oper} {rest : List Oper} {o : Oper} {a : Act} {Q : Exit → Act → World → Prop}
    (hg : o.guard = none) (m x v : Operand) (hop : o.op = Op.mapUpdate 66 m x v) (b n : Nat) (p : Int → Bool) (hm : a.eval m = .map (some b)) (hS : SetD w b n p) (hn : n < maxLen)
    (y : Int) (hy : i64 y) (hx : a.eval x = .int .i64 y) (hv : a.eval v = .bool true)
    (hK : ∀ w', SetD w' b (n + 1) (fun z => p z || z == y) → w.grownBy w' (some b) → wpList Try.prog ops Q rest (a.put o.dst undef) w') :
    wpList Try.prog ops Q (o :: rest) a w := by
  refine wpList_plain hg fun K' hK' => ?_
  obtain ⟨w', hrun, r1, r2⟩ := hS.add hn y hy
  unfold Oper.wp
  simp [execOp, hop, hm, hx, hv, hrun, Result.andThen]
  exact hK' _ _ (hK w' r1 r2)
end Go.Proofs.Ytihplnomhfpajaa.W8
