/-
  What is asked of a []byte argument of which a law takes some bytes.
-/
import Derived.Test.YtkpkifhjedlieaaGreatDoorTop
namespace Go.Proofs.YtkpkifhjedlieaaGreatDoor
open Go.RowKit NM
/-- a []byte argument, of which the law takes k bytes at most -/
def BArg (w : World) (k : Nat) (v : Value) (A : ByteArray) : Prop :=
  A.size ≤ k ∧ ∃ (p : Option Addr) (N cap m : Nat), v = .slice p N cap ∧ min (N : Int) (k : Int) = (m : Int) ∧ m ≤ cap ∧ m ≤ N ∧
    ∀ W, Below w.heap.size w W → (convert 22 24 (.slice p m cap)).run Tryz.prog W = .ok (.string A) W
/-- .. and of one of which the reference's Made is to make a number -/
def MArg (w : World) (k : Nat) (v : Value) : Prop :=
  ∃ (p : Option Addr) (N cap m : Nat), v = .slice p N cap ∧ min (N : Int) (k : Int) = (m : Int) ∧ m ≤ cap ∧ m ≤ N ∧
    ∀ W, Below w.heap.size w W → Calls Tryz.prog 11 #[.slice p m cap] W (MadeQ W)
end Go.Proofs.YtkpkifhjedlieaaGreatDoor
