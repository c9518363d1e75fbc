/-
  The walk of the reference's Text of a hash.
-/
import Derived.Test.YtkniimhgipdbaaaDoorTextD
namespace Go.Proofs.YtkniimhgipdbaaaDoor
open Go.RowKit SH
theorem slice_dig (W : World) (m : Nat) (h : m < 16) : (Instr.sliceAt 9 (.string ⟨#[48, 49, 50, 51, 52, 53, 54, 55, 56, 57, 97, 98, 99, 100, 101, 102]⟩) (some (.int .u8 (m : Nat))) (some (.int .u8 ((m + 1 : Nat) : Nat))) none).run Tryd.prog W = .ok (.string ⟨#[digs.getD m 0]⟩) W := by
  match m, h with
  | 0, _ => (show Sem.run _ _ _ = _); kernel_rfl
  | 1, _ => (show Sem.run _ _ _ = _); kernel_rfl
  | 2, _ => (show Sem.run _ _ _ = _); kernel_rfl
  | 3, _ => (show Sem.run _ _ _ = _); kernel_rfl
  | 4, _ => (show Sem.run _ _ _ = _); kernel_rfl
  | 5, _ => (show Sem.run _ _ _ = _); kernel_rfl
  | 6, _ => (show Sem.run _ _ _ = _); kernel_rfl
  | 7, _ => (show Sem.run _ _ _ = _); kernel_rfl
  | 8, _ => (show Sem.run _ _ _ = _); kernel_rfl
  | 9, _ => (show Sem.run _ _ _ = _); kernel_rfl
  | 10, _ => (show Sem.run _ _ _ = _); kernel_rfl
  | 11, _ => (show Sem.run _ _ _ = _); kernel_rfl
  | 12, _ => (show Sem.run _ _ _ = _); kernel_rfl
  | 13, _ => (show Sem.run _ _ _ = _); kernel_rfl
  | 14, _ => (show Sem.run _ _ _ = _); kernel_rfl
  | 15, _ => (show Sem.run _ _ _ = _); kernel_rfl
  | n+16, h => exact absurd h (by omega)
end Go.Proofs.YtkniimhgipdbaaaDoor
