/-
  DERIVED. GIVEN WITH THE SEED: THE CARDS: each row of YtipmoklmolhffabDoorRows.lean that lists a variable, with what it lists TIED to the program's text (the seventh form; the later family's looks); each row that meets fmt, with fmt's text TOLD by the authors' own Lean function (tested against real Go, not proved from fmt's source: count such statements apart). THE CARD IS WHAT COUNTS. Prove the row's statement (the work); the ties are given (YtipmoklmolhffabDoorTie.lean); close each card by the builder's one call (the guide's Derived/Test/ToyasCard.lean, 'card_holds'). Laid BY PROGRAM, IN A SANDBOX (cutbox-door.mjs). By AI agents, Wed Nov 11 2026. No macro, syntax, notation, axiom, sorry.
-/
import Derived.Test.YtipmoklmolhffabDoorRows
import GoSem.ClaimSeven
namespace Go.Proofs.YtipmoklmolhffabDoor
namespace Rows

/-- THE TIED CARD OF 'sorteslaw04.GroupTexts'. -/
def groupTextsCard : Claim7 := { stood := { row := groupTextsRow, standIns := [], harness := (true, "df125fb39f77889d8b39d82d104f1310a987c306312bf8d422a8c1a340bf0443"), looks := false }, kinds := [], alts := [], laidByText := true, laidKinds := [.data, .data], laidTests := true, laidLooks := .later }
def GroupTextsCardSaid : Prop := Claim7.holds Tryd.pinned (.plain (OpenSpec.ofChange groupTextsSpec)) groupTextsCard

/-- THE SECOND FORM's CARD OF 'sorteslaw04.GroupTexts'. -/
def groupTextsUptoCard : Claim7 := { stood := { row := groupTextsUptoRow, standIns := [], harness := (true, "df125fb39f77889d8b39d82d104f1310a987c306312bf8d422a8c1a340bf0443"), looks := false }, kinds := [], alts := [], laidByText := true, laidKinds := [.data, .data], laidTests := true, laidLooks := .later }
def GroupTextsUptoCardSaid : Prop := Claim7.holds Tryd.pinned (.plain (OpenSpec.upto groupTextsSpec)) groupTextsUptoCard
end Rows
end Go.Proofs.YtipmoklmolhffabDoor
