/-
  The walks of the reference's ProveWith, Prove, side and Verify.
  The walk of the reference's Verify.
-/
import Derived.Test.YtbfplapjjeeceaaGreatDoorERef
import Derived.Test.YtbfplapjjeeceaaGreatDoorEVer
import Derived.Test.YtbfplapjjeeceaaGreatDoorGRefB
import Derived.Test.YtbfplapjjeeceaaGreatDoorEVerify
namespace Go.Proofs.YtbfplapjjeeceaaGreatDoor.E6
open Go.RowKit GM SH G4
theorem refChallenge_new (W : World) (n : Nat) (a : Int) (l : List Int) (v : Int) (hn : (a :: l).length = n) (he : ch (a :: l) = v) (hr : ∀ x ∈ a :: l, i64 x) (hN : n ≤ 1000) :
    Calls Tryz.prog 26 #[.slice (some ⟨W.heap.size, 0, none⟩) n n] (W.alloc (.cells ((a :: l).map (Value.int .i64)).toArray 3)) fun e w' => e = .returned (.int .i64 v) ∧ Below W.heap.size W w' := by
  subst he
  exact (refChallenge_any _ W.heap.size n n a l hn (IL.new W (a :: l) _) hr hN).mono fun e w' ⟨he, b⟩ => ⟨he, ((Below.refl _ W).alloc (Nat.le_refl _) _).trans (b.mono (by simp))⟩
end Go.Proofs.YtbfplapjjeeceaaGreatDoor.E6
namespace Go.Proofs.YtbfplapjjeeceaaGreatDoor.E6
open Go.RowKit GM SH G4
end Go.Proofs.YtbfplapjjeeceaaGreatDoor.E6
