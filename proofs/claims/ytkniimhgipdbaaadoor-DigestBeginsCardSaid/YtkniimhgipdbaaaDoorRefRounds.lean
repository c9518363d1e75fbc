/-
  The walk of the reference's rounds: the words of the rounds as an array.
-/
import Derived.Test.YtkniimhgipdbaaaDoorSched
namespace Go.Proofs.YtkniimhgipdbaaaDoor
open Go.RowKit SH
set_option maxRecDepth 100000 in
set_option maxHeartbeats 1000000 in
theorem refRounds_any (w : World) :
    Calls Tryd.prog 24 #[] w fun e w' => e = .returned (.agg (cw cube)) ∧ Below w.heap.size w w' := by
  have hn : Has (w.alloc (.cells (Array.replicate 64 (.int .u32 0)) 48)) w.heap.size 48 (List.replicate 64 0) := by
    unfold Has; rw [heap_alloc_new, zeros_cw]
  have hi : Hid ((Tryd.prog.info? 48).map (·.size) = some (cw cube).size) := Lib.hid (by kernel_rfl)
  have hsz : Hid ((cw (List.replicate 64 0)).size = (cw cube).size) := Lib.hid (by kernel_rfl)
  go_enter Tryd.func24, Tryd.ntmps24
  go_wp2_with (first | (refine wpList_build rfl 48 _ rfl (by kernel_rfl) ?_; change wpList _ _ _ _ (Act.put _ _ (.agg (cw cube))) _) | (refine wpList_store_row rfl 48 (.tmp 0) (.tmp 1) rfl w.heap.size (cw cube) rfl rfl 48 _ hn hi.out hsz.out (cw_one _) ?_))
  refine bodyPost_ret (results_cell_row rfl _ _ w.heap.size _ (cw cube) _ _ rfl (setRow_heap _ _ _ _ _ _ hn) Tryd.underlying48 rfl hi.out) rfl ?_
  exact ⟨rfl, Below.setRow' ((Below.refl _ w).alloc (Nat.le_refl _) _) (Nat.le_refl _) _⟩
end Go.Proofs.YtkniimhgipdbaaaDoor
