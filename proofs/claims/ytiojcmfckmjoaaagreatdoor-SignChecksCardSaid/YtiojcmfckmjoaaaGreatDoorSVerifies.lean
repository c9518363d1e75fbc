/-
  The walk of the law SignVerifies.
-/
import Derived.Test.YtiojcmfckmjoaaaGreatDoorSSan
namespace Go.Proofs.YtiojcmfckmjoaaaGreatDoor.S5
open Go.RowKit GM SH G4
theorem cut300 (t : ByteArray) : ∃ m : Nat, min (t.size : Int) 300 = (m : Int) ∧ m ≤ t.size ∧ (t.extract 0 m).size ≤ 300 :=
  ⟨min t.size 300, by omega, by omega, by rw [ByteArray.size_extract]; omega⟩
end Go.Proofs.YtiojcmfckmjoaaaGreatDoor.S5
