/-
  The walks of digest.begin, add: the beginning of a message.
-/
import Derived.Test.YtjfbpmpdcmealaaDoorNext
import Derived.StillTailTactics
namespace Go.Proofs.YtjfbpmpdcmealaaDoor
open Go.RowKit SH
/-- the table of the square roots lies in memory -/
def SQ (w : World) : Prop := ∃ t fr, w.heap[0]? = some (.cells (cw square.l) t fr)
theorem SQ.lt {w : World} (h : SQ w) : 0 < w.heap.size := by
  obtain ⟨t, fr, h⟩ := h
  exact (Array.getElem?_eq_some_iff.1 h).1
theorem SQ.below {B : Nat} {u w : World} (h : SQ u) (hb : Below B u w) (hB : 0 < B) : SQ w := by
  obtain ⟨t, fr, h⟩ := h
  exact ⟨t, fr, (hb.block _ hB).trans h⟩
/-- the value of the beginning of a message: its state, the bytes behind the whole blocks, the number of its bytes -/
def mcells (s : St) (r : ByteArray) (n : Nat) : Array Value := #[wd s.a, wd s.b, wd s.c, wd s.d, wd s.e, wd s.f, wd s.g, wd s.h, .string r, .int .i64 n]
abbrev mval (s : St) (r : ByteArray) (n : Nat) : Value := .agg (mcells s r n)
theorem mcells_one (s : St) (r : ByteArray) (n : Nat) : (mcells s r n).all (·.oneCell') = true := by simp [mcells, Value.oneCell']
set_option maxRecDepth 100000 in
set_option maxHeartbeats 1000000 in
theorem begin_any (w : World) (hS : SQ w) :
    Calls Tryd.prog 53 #[] w fun e w' => e = .returned (mval square ⟨#[]⟩ 0) ∧ Below w.heap.size w w' := by
  have hl := hS.lt
  obtain ⟨tq, fq, hS⟩ := hS
  have hS' : (w.alloc (.cells (mcells ⟨0, 0, 0, 0, 0, 0, 0, 0⟩ ⟨#[]⟩ 0) 80)).heap[0]? = some (.cells (cw square.l) tq fq) := by rw [heap_alloc_old _ _ hl]; exact hS
  clear hS hl
  have hi8 : Hid ((Tryd.prog.info? 78).map (·.size) = some 8) := Lib.hid (by kernel_rfl)
  have hi : Hid ((Tryd.prog.info? 80).map (·.size) = some 10) := Lib.hid (by kernel_rfl)
  have hn : (w.alloc (.cells (mcells ⟨0, 0, 0, 0, 0, 0, 0, 0⟩ ⟨#[]⟩ 0) 80)).heap[w.heap.size]? = some (.cells (mcells ⟨0, 0, 0, 0, 0, 0, 0, 0⟩ ⟨#[]⟩ 0) 80 (0, 0)) := heap_alloc_new _ _
  go_enter Tryd.func53, Tryd.ntmps53
  go_wp2_with (first | (refine wpList_load_row rfl 78 (.global 0) rfl 0 rfl tq (cw square.l) fq _ hS' Tryd.underlying78 rfl hi8.out ?_) | (refine wpList_build rfl 80 _ rfl (by kernel_rfl) ?_; change wpList _ _ _ _ (Act.put _ _ (.agg (mcells square ⟨#[]⟩ 0))) _) | (refine wpList_store_row rfl 80 (.tmp 0) (.tmp 2) rfl w.heap.size (mcells square ⟨#[]⟩ 0) rfl rfl 80 _ hn hi.out rfl (mcells_one _ _ _) ?_))
  refine bodyPost_ret (results_cell_row rfl _ _ w.heap.size _ (mcells square ⟨#[]⟩ 0) _ _ rfl (setRow_heap _ _ _ _ _ _ hn) Tryd.underlying80 rfl hi.out) rfl ?_
  exact ⟨rfl, Below.setRow' ((Below.refl _ w).alloc (Nat.le_refl _) _) (Nat.le_refl _) _⟩
end Go.Proofs.YtjfbpmpdcmealaaDoor
