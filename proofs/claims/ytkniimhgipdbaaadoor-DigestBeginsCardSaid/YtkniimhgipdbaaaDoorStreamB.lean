/-
  The walk of the iterator over the blocks of a seed: where the rounds are bounded, it keeps the word of an iterator without an end.
-/
import Derived.Test.YtkniimhgipdbaaaDoorStreamA
import Derived.Stop.RegionWithIn
import Derived.RangeFuncLeaves
import Derived.RangeFuncBound
import Derived.Shelf.Abstract
import Derived.OwnWalkIn
import Derived.TacticsInMore
import Derived.LoopNIn
import Derived.LoopIn
import Derived.Deep.RegionWith
import Derived.Deep.RegionLaw
import Derived.Shelf.RegionOpen
import Derived.Deep.RegionHeld3
import Derived.Deep.CutRange
namespace Go.Proofs.YtkniimhgipdbaaaDoor
open Go.RowKit SH Go
theorem new_row {w W : World} (_ : Below w.heap.size w W) : MH (W.alloc (.cells (mcells ⟨0, 0, 0, 0, 0, 0, 0, 0⟩ ⟨#[]⟩ 0) 40)) W.heap.size ⟨0, 0, 0, 0, 0, 0, 0, 0⟩ ⟨#[]⟩ 0 := heap_alloc_new _ _
/-- the message that every block begins with -/
theorem front_any (w : World) (seed : ByteArray) (hs : seed.size ≤ 1000000) (r1 : ByteArray) (hr1 : r1.data.toList = seed.data.toList.drop (64 * (seed.data.toList.length / 64))) (hT : T3 w) :
    Calls Tryd.prog 15 #[mval (blocks square seed.data.toList (seed.data.toList.length / 64)) r1 seed.data.toList.length, .string ⟨#[47]⟩] w fun e w' =>
      ∃ r2 : ByteArray, r2.data.toList = (L0 seed).drop (64 * ((L0 seed).length / 64)) ∧ e = .returned (mval (blocks square (L0 seed) ((L0 seed).length / 64)) r2 (L0 seed).length) ∧ Below w.heap.size w w' :=
  add_any w seed.data.toList r1 ⟨#[47]⟩ hr1 (by rw [size_toList]; show _ + 1 ≤ _; omega) hT.cb
theorem first_any (w : World) (seed : ByteArray) (hs : seed.size ≤ 1000000) (hT : T3 w) :
    Calls Tryd.prog 15 #[mval square ⟨#[]⟩ 0, .string seed] w fun e w' =>
      ∃ r1 : ByteArray, r1.data.toList = seed.data.toList.drop (64 * (seed.data.toList.length / 64)) ∧ e = .returned (mval (blocks square seed.data.toList (seed.data.toList.length / 64)) r1 seed.data.toList.length) ∧ Below w.heap.size w w' := by
  have h := add_any w [] ⟨#[]⟩ seed rfl (by simp; omega) hT.cb
  rwa [List.nil_append] at h
/-- the two calls behind the number's text -/
theorem more_any (w : World) (seed r2 : ByteArray) (hs : seed.size ≤ 1000000) (k : Nat) (hk : k ≤ 2000000) (hr2 : r2.data.toList = (L0 seed).drop (64 * ((L0 seed).length / 64))) (hT : T3 w) :
    Calls Tryd.prog 15 #[mval (blocks square (L0 seed) ((L0 seed).length / 64)) r2 (L0 seed).length, .string (dcm k)] w fun e w' =>
      ∃ r3 : ByteArray, r3.data.toList = (L0 seed ++ (dcm k).data.toList).drop (64 * ((L0 seed ++ (dcm k).data.toList).length / 64)) ∧ e = .returned (mval (blocks square (L0 seed ++ (dcm k).data.toList) ((L0 seed ++ (dcm k).data.toList).length / 64)) r3 (L0 seed ++ (dcm k).data.toList).length) ∧ Below w.heap.size w w' :=
  add_any w (L0 seed) r2 (dcm k) hr2 (by have := dcm_size k hk; unfold L0; rw [List.length_append, size_toList]; simp; omega) hT.cb
theorem last_any (w : World) (seed r3 : ByteArray) (hs : seed.size ≤ 1000000) (k : Nat) (hk : k ≤ 2000000) (hr3 : r3.data.toList = (L0 seed ++ (dcm k).data.toList).drop (64 * ((L0 seed ++ (dcm k).data.toList).length / 64))) (hT : T3 w) :
    Calls Tryd.prog 16 #[mval (blocks square (L0 seed ++ (dcm k).data.toList) ((L0 seed ++ (dcm k).data.toList).length / 64)) r3 (L0 seed ++ (dcm k).data.toList).length] w fun e w' => e = .returned (hval (bk seed k)) ∧ Below w.heap.size w w' :=
  sum_any w _ r3 hr3 (by have := dcm_size k hk; unfold L0; rw [List.length_append, List.length_append, size_toList, size_toList]; simp; omega) hT.cb
theorem step_any (w : World) (seed r2 : ByteArray) (hs : seed.size ≤ 1000000) (k : Nat) (hk : k ≤ 2000000) (hr2 : r2.data.toList = (L0 seed).drop (64 * ((L0 seed).length / 64))) (hT : T3 w) :
    Calls Tryd.prog 15 #[mval (blocks square (L0 seed) ((L0 seed).length / 64)) r2 (L0 seed).length, .string (dcm k)] w fun e w' =>
      ∃ (s3 : St) (r3 : ByteArray) (n3 : Nat), e = .returned (mval s3 r3 n3) ∧ Below w.heap.size w w' ∧ Hid (∀ V, T3 V → Calls Tryd.prog 16 #[mval s3 r3 n3] V fun e w' => e = .returned (hval (bk seed k)) ∧ Below V.heap.size V w') :=
  (more_any w seed r2 hs k hk hr2 hT).mono fun e w' ⟨r3, hr3, he, hb⟩ => ⟨_, r3, _, he, hb, Lib.hid fun V hV => last_any V seed r3 hs k hk hr3 hV⟩
theorem in_load {n : Nat} {P : Program} {ops : Array Oper} {o : Oper} {a : Act} {w : World} {K : Act → World → Prop} {Q : Exit → Act → World → Prop} {E : Prop} (hw : Region.wanted o (yielded ops a.tmps) = true) (ty : TypeId) (x : Operand) (ho : o.op = .load ty x)
    (g : Nat) (hx : a.eval x = .pointer (some ⟨g, 0, none⟩)) (t : TypeId) (cs : Array Value) (fr : Nat × Nat) (d : TypeDesc) (hg : w.heap[g]? = some (.cells cs t fr))
    (hu : P.underlying ty = some d) (hd : (match d with | .struct _ | .array _ _ => true | _ => false) = true) (hi : (P.info? ty).map (·.size) = some cs.size)
    (h : K (a.put o.dst (.agg cs)) w) : if Region.wanted o (yielded ops a.tmps) = true then Oper.wpIn Fence.wide n P o a w K Q else E := by
  rw [if_pos hw]
  have e : (execOp a.eval o).run P w = .ok (.value (.agg cs)) w := by
    unfold execOp
    simp only [ho, hx, Instr.loadAt, Instr.sureAddr, Sem.run_bind, Sem.run_pure, Result.andThen_ok, run_loadVar_row w g t ty cs fr d hg hu hd hi]
  have e2 : (o.semAt Fence.wide.round a.eval).run P w = .ok (.value (.agg cs)) w := e
  refine ⟨fun _ _ => trivial, ?_⟩
  rw [e2]
  exact h
theorem bool_case {A B : Prop} {e : Ending} (h : (e = .returned (.bool true) ∧ A) ∨ (e = .returned (.bool false) ∧ B)) : ∃ b : Bool, e = .returned (.bool b) ∧ ((b = true ∧ A) ∨ (b = false ∧ B)) := by
  rcases h with ⟨h, a⟩ | ⟨h, a⟩
  · exact ⟨true, h, .inl ⟨rfl, a⟩⟩
  · exact ⟨false, h, .inr ⟨rfl, a⟩⟩
end Go.Proofs.YtkniimhgipdbaaaDoor
