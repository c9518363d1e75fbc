/-
  Members of the group of prime order: powers are one to one, factors are cancelled; signatures by the method of Schnorr.
-/
import Derived.Test.YtbfplapjjeeceaaGreatDoorGFermat
namespace GM
theorem mem_four : memG gP gQ 4 := by
  have h := grp.square 2 (by decide) (by decide)
  exact h
end GM
