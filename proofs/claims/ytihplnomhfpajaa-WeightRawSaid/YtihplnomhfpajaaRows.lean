/-
  No cell of these rows narrows 'for every input' (looked for: loops, veiled, ifaces, maps, wideKeys, modest, calm, conditions, laid).
  DERIVED. THE GIVEN ROWS OF THIS SEAT. 3 by the template 'for every input the law returns true; each argument reads behind the call as it read before'; 0 by the template 'total and deterministic' (their statements: YtihplnomhfpajaaTotals.lean).
  GIVEN WITH THE SEED: the statements are not yours to turn. If you find one false, say at which input.
  Laid BY PROGRAM, IN A SANDBOX (cutbox-rows.mjs): the forced cells as the released guide's own fill.sh prints them over the translation e856c144be4b38b6… (all of the seat's roots in one cut). By AI agents, Wed Nov 11 2026. No macro, syntax, notation, axiom, sorry.
-/
import Derived.Test.YtihplnomhfpajaaChecked
import GoSem.Claim
import GoSem.ClaimJoined
import GoSem.ClaimMapViews
import Derived.JoinedTies
import Derived.KernelRfl
namespace Go.Proofs.Ytihplnomhfpajaa
/- THE CELL 'sum', in the pinned program and in every row, IS THE sha256 OF THE DUMP (.gsa) THAT YtihplnomhfpajaaProg.lean LOADS. Nothing in Lean hashes anything: it is a label: what it is worth is what the hold of that sum in a sandbox is worth. -/
noncomputable def Try.pinned : Pinned := { name := "ytihplnomhfpajaa", sum := "e856c144be4b38b602d345df78bc8fb83439c787880d8f889911a2914c5b5082", checked := Try.checked }
namespace Rows
def none {H : Type} : Left H := { results := [], args := [] }

/-- 'sorteslaw08.WeightPoints': WHATEVER THE INPUT: true; the input reads as it did. -/
def weightPointsSpec : ChangeSpec := { name := "weightPoints", fn := fun _ => fun
  | [d1, d2] => { results := [.lit (.bool true)], args := [d1, d2] }
  | _ => none }
def weightPointsRow : OpenClaim := { program := "ytihplnomhfpajaa", sum := "e856c144be4b38b602d345df78bc8fb83439c787880d8f889911a2914c5b5082", func := "sortes/sorteslaw08.WeightPoints", spec := "weightPoints", unfollowed := true, recurses := true, apart := false }
def WeightPointsSaid : Prop := weightPointsRow.holds Try.pinned (OpenSpec.ofChange weightPointsSpec)

/-- ITS FALSE NEIGHBOUR: 'it returns false'. Refute it at one input. -/
def weightPointsWrong : ChangeSpec := { name := "weightPoints", fn := fun _ => fun
  | [d1, d2] => { results := [.lit (.bool false)], args := [d1, d2] }
  | _ => none }
def WeightPointsWrongFalsely : Prop := weightPointsRow.holds Try.pinned (OpenSpec.ofChange weightPointsWrong)

/-- 'sorteslaw08.WeightNeeds': WHATEVER THE INPUT: true; the input reads as it did. -/
def weightNeedsSpec : ChangeSpec := { name := "weightNeeds", fn := fun _ => fun
  | [d1, d2, d3] => { results := [.lit (.bool true)], args := [d1, d2, d3] }
  | _ => none }
def weightNeedsRow : OpenClaim := { program := "ytihplnomhfpajaa", sum := "e856c144be4b38b602d345df78bc8fb83439c787880d8f889911a2914c5b5082", func := "sortes/sorteslaw08.WeightNeeds", spec := "weightNeeds", unfollowed := true, recurses := true, apart := false }
def WeightNeedsSaid : Prop := weightNeedsRow.holds Try.pinned (OpenSpec.ofChange weightNeedsSpec)

/-- ITS FALSE NEIGHBOUR: 'it returns false'. Refute it at one input. -/
def weightNeedsWrong : ChangeSpec := { name := "weightNeeds", fn := fun _ => fun
  | [d1, d2, d3] => { results := [.lit (.bool false)], args := [d1, d2, d3] }
  | _ => none }
def WeightNeedsWrongFalsely : Prop := weightNeedsRow.holds Try.pinned (OpenSpec.ofChange weightNeedsWrong)

/-- 'sorteslaw08.WeightRaw': WHATEVER THE INPUT: true; the input reads as it did. -/
def weightRawSpec : ChangeSpec := { name := "weightRaw", fn := fun _ => fun
  | [d1, d2, d3] => { results := [.lit (.bool true)], args := [d1, d2, d3] }
  | _ => none }
def weightRawRow : OpenClaim := { program := "ytihplnomhfpajaa", sum := "e856c144be4b38b602d345df78bc8fb83439c787880d8f889911a2914c5b5082", func := "sortes/sorteslaw08.WeightRaw", spec := "weightRaw", unfollowed := true, recurses := true, apart := false }
def WeightRawSaid : Prop := weightRawRow.holds Try.pinned (OpenSpec.ofChange weightRawSpec)

/-- ITS FALSE NEIGHBOUR: 'it returns false'. Refute it at one input. -/
def weightRawWrong : ChangeSpec := { name := "weightRaw", fn := fun _ => fun
  | [d1, d2, d3] => { results := [.lit (.bool false)], args := [d1, d2, d3] }
  | _ => none }
def WeightRawWrongFalsely : Prop := weightRawRow.holds Try.pinned (OpenSpec.ofChange weightRawWrong)

/- THE SECOND FORM. 'bulk': how many values and letters a reading holds, each counted each time it is reached (what is shared counts as often as it is met; a slice's spare places count too). A statement '..UptoSaid' is the law's where the arguments, and the package variables that the reading takes, are together of bulk at most 1048576: NARROWER than '..Said'. Prove '..Said' where nothing that the law and all that it calls make is longer than what came in: it says more and counts as full. Else prove '..UptoSaid'. A law counts once. -/
mutual
def uptoBulk {H : Type} : DataW H → Nat
  | .lit (.string bytes) => bytes.length + 1
  | .lit _ => 1
  | .nil => 1
  | .ptr d => uptoBulk d + 1
  | .slice elems spare => uptoBulkAll elems + uptoBulkAll spare + 1
  | .agg parts => uptoBulkAll parts + 1
  | .iface _ d => uptoBulk d + 1
  | .map entries => uptoBulkEntries entries + 1
  | .held _ => 1
def uptoBulkAll {H : Type} : List (DataW H) → Nat
  | [] => 0
  | d :: r => uptoBulk d + uptoBulkAll r
def uptoBulkEntries {H : Type} : List (Lit × DataW H) → Nat
  | [] => 0
  | x :: r => uptoBulkEntry x + uptoBulkEntries r
def uptoBulkEntry {H : Type} : Lit × DataW H → Nat
  | (.string bytes, d) => bytes.length + uptoBulk d + 1
  | (_, d) => uptoBulk d + 1
 end
def uptoSmall : (H : Type) → List (DataW H) → Bool := fun _ ds => decide (uptoBulkAll ds ≤ 1048576)
def OpenSpec.upto (s : _root_.Go.ChangeSpec) : _root_.Go.OpenSpec := { _root_.Go.OpenSpec.ofChange s with cond := some uptoSmall }

/-- 'sorteslaw08.WeightPoints', WHERE WHAT IT READS IS OF BULK AT MOST 1048576: true; the input reads as it did. -/
def weightPointsUptoRow : OpenClaim := { program := "ytihplnomhfpajaa", sum := "e856c144be4b38b602d345df78bc8fb83439c787880d8f889911a2914c5b5082", func := "sortes/sorteslaw08.WeightPoints", spec := "weightPoints", unfollowed := true, recurses := true, apart := false, narrowed := true }
def WeightPointsUptoSaid : Prop := weightPointsUptoRow.holds Try.pinned (OpenSpec.upto weightPointsSpec)

/-- 'sorteslaw08.WeightNeeds', WHERE WHAT IT READS IS OF BULK AT MOST 1048576: true; the input reads as it did. -/
def weightNeedsUptoRow : OpenClaim := { program := "ytihplnomhfpajaa", sum := "e856c144be4b38b602d345df78bc8fb83439c787880d8f889911a2914c5b5082", func := "sortes/sorteslaw08.WeightNeeds", spec := "weightNeeds", unfollowed := true, recurses := true, apart := false, narrowed := true }
def WeightNeedsUptoSaid : Prop := weightNeedsUptoRow.holds Try.pinned (OpenSpec.upto weightNeedsSpec)

/-- 'sorteslaw08.WeightRaw', WHERE WHAT IT READS IS OF BULK AT MOST 1048576: true; the input reads as it did. -/
def weightRawUptoRow : OpenClaim := { program := "ytihplnomhfpajaa", sum := "e856c144be4b38b602d345df78bc8fb83439c787880d8f889911a2914c5b5082", func := "sortes/sorteslaw08.WeightRaw", spec := "weightRaw", unfollowed := true, recurses := true, apart := false, narrowed := true }
def WeightRawUptoSaid : Prop := weightRawUptoRow.holds Try.pinned (OpenSpec.upto weightRawSpec)

end Rows
end Go.Proofs.Ytihplnomhfpajaa
