/-
  nat.Parse of a text with a zero in front: nothing.
-/
import Derived.Test.YtkpkifhjedlieaaDoorText
namespace Go.Proofs.YtkpkifhjedlieaaDoor
open Go.RowKit NM
def s007 : ByteArray := ⟨#[48, 48, 55]⟩
set_option maxRecDepth 100000 in
set_option maxHeartbeats 2000000 in
theorem decimal_007 (w : World) :
    Calls Tryd.prog 38 #[.string ⟨#[48, 48, 55]⟩] w fun e w' => e = .returned (.bool false) ∧ Below w.heap.size w w' := by
  go_enter Tryd.func38, Tryd.ntmps38
  go_wp2
  rw [run_bytes_of_string w 9 22 5 _ Tryd.underlying9 Tryd.underlying22 Tryd.underlying5]
  generalize hcap : grownCap w (ByteArray.mk #[48, 48, 55]).size 0 5 = cap
  have hcl : ∀ j, j < 3 → (w.drew.alloc (.cells (bytesRow ⟨#[48, 48, 55]⟩ cap) 5 ((bytesRow ⟨#[48, 48, 55]⟩ cap).size, (bytesRow ⟨#[48, 48, 55]⟩ cap).size + 1))).cell? ⟨w.heap.size, j, none⟩ = some (.int .u8 ([48, 48, 55].getD j 0 : Nat)) := by
    intro j hj
    have hh : (w.drew.alloc (.cells (bytesRow ⟨#[48, 48, 55]⟩ cap) 5 ((bytesRow ⟨#[48, 48, 55]⟩ cap).size, (bytesRow ⟨#[48, 48, 55]⟩ cap).size + 1))).heap[w.heap.size]? = some (.cells (bytesRow ⟨#[48, 48, 55]⟩ cap) 5 ((bytesRow ⟨#[48, 48, 55]⟩ cap).size, (bytesRow ⟨#[48, 48, 55]⟩ cap).size + 1)) := by
      show (w.heap.push _)[w.heap.size]? = _
      simp
    rw [Lib.cell_of_heap hh, bytesRow_at _ _ _ (show j < 3 from hj)]
    match j, hj with
    | 0, _ => rfl
    | 1, _ => rfl
    | 2, _ => rfl
  have hB : Below w.heap.size w (w.drew.alloc (.cells (bytesRow ⟨#[48, 48, 55]⟩ cap) 5 ((bytesRow ⟨#[48, 48, 55]⟩ cap).size, (bytesRow ⟨#[48, 48, 55]⟩ cap).size + 1))) := (Below.refl _ w).drew.alloc (Nat.le_refl _) _
  clear hcap
  generalize (w.drew.alloc (.cells (bytesRow ⟨#[48, 48, 55]⟩ cap) 5 ((bytesRow ⟨#[48, 48, 55]⟩ cap).size, (bytesRow ⟨#[48, 48, 55]⟩ cap).size + 1))) = w1 at *
  have c0 := hcl 0 (by omega)
  have c1 := hcl 1 (by omega)
  have c2 := hcl 2 (by omega)
  simp at c0 c1 c2
  clear hcl
  simp only [Result.andThen]
  rw [Oper.upon_value]
  go_wp2
  go_rounds 5
  all_goals go_wp2
  go_ret
  exact ⟨rfl, hB⟩
set_option maxRecDepth 100000 in
set_option maxHeartbeats 2000000 in
theorem Parse_007 (w : World) :
    Calls Tryd.prog 21 #[.string ⟨#[48, 48, 55]⟩] w fun e w' => e = .returned (.tuple #[.string ⟨#[]⟩, .bool false]) ∧ Below w.heap.size w w' := by
  go_enter Tryd.func21, Tryd.ntmps21
  go_wp2_with fail
  refine (decimal_007 w).mono ?_
  rintro e w1 ⟨rfl, b1⟩
  go_wp2
  go_ret2
  exact ⟨rfl, b1⟩
end Go.Proofs.YtkpkifhjedlieaaDoor
