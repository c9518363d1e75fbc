/-
  What is shared by the laws over polls: sizes, sides of a proof, calls of powers.
-/
import Derived.Test.YtbfplapjjeeceaaGreatDoorBMake
namespace Go.Proofs.YtbfplapjjeeceaaGreatDoor.B9
open Go.RowKit GM SH G4 E6 D7P
open W8 hiding i64 jn pX pY
theorem M_rg (lw : List Int) : 1 ≤ many (LP lw) ∧ many (LP lw) ≤ 60 := by
  have h := mbl_tot lw
  have h2 := LP_many lw
  omega
end Go.Proofs.YtbfplapjjeeceaaGreatDoor.B9
