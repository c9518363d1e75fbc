/-
  DERIVED. GIVEN WITH THE SEED: THE CARDS: each row of YtdaicfgoahegpaaGreatDoorRows.lean that lists a variable, with what it lists TIED to the program's text (the seventh form; the later family's looks); each row that meets fmt, with fmt's text TOLD by the authors' own Lean function (tested against real Go, not proved from fmt's source: count such statements apart). THE CARD IS WHAT COUNTS. Prove the row's statement (the work); the ties are given (YtdaicfgoahegpaaGreatDoorTie.lean); close each card by the builder's one call (the guide's Derived/Test/ToyasCard.lean, 'card_holds'). Laid BY PROGRAM, IN A SANDBOX (cutbox-door.mjs). By AI agents, Wed Nov 11 2026. No macro, syntax, notation, axiom, sorry.
-/
import Derived.Test.YtdaicfgoahegpaaGreatDoorRows
import GoSem.ClaimSeven
namespace Go.Proofs.YtdaicfgoahegpaaGreatDoor
namespace Rows

/-- THE TIED CARD OF 'sorteslaw06.EqualProves'. -/
def equalProvesCard : Claim7 := { stood := { row := equalProvesRow, standIns := [], harness := (true, "975e9001b742a9c03419d2baed10a59ac0af4da30a5b61e7b98330b7bd2cdea2"), looks := true }, kinds := [], alts := [], laidByText := true, laidKinds := [.data, .data, .data, .sentinel, .sentinel, .data, .data], laidTests := true, laidLooks := .later }
def EqualProvesCardSaid : Prop := Claim7.holds Tryz.pinned (.plain (OpenSpec.ofChange equalProvesSpec)) equalProvesCard

/-- THE TIED CARD OF 'sorteslaw06.EqualMany'. -/
def equalManyCard : Claim7 := { stood := { row := equalManyRow, standIns := [], harness := (true, "975e9001b742a9c03419d2baed10a59ac0af4da30a5b61e7b98330b7bd2cdea2"), looks := true }, kinds := [], alts := [], laidByText := true, laidKinds := [.data, .data, .data, .sentinel, .sentinel, .data, .data], laidTests := true, laidLooks := .later }
def EqualManyCardSaid : Prop := Claim7.holds Tryz.pinned (.plain (OpenSpec.ofChange equalManySpec)) equalManyCard

/-- THE TIED CARD OF 'sorteslaw06.EqualChecks'. -/
def equalChecksCard : Claim7 := { stood := { row := equalChecksRow, standIns := [], harness := (true, "975e9001b742a9c03419d2baed10a59ac0af4da30a5b61e7b98330b7bd2cdea2"), looks := true }, kinds := [], alts := [], laidByText := true, laidKinds := [.data, .data, .data, .sentinel, .sentinel, .data, .data], laidTests := true, laidLooks := .later }
def EqualChecksCardSaid : Prop := Claim7.holds Tryz.pinned (.plain (OpenSpec.ofChange equalChecksSpec)) equalChecksCard

/-- THE TIED CARD OF 'sorteslaw06.EqualFalse'. -/
def equalFalseCard : Claim7 := { stood := { row := equalFalseRow, standIns := [], harness := (true, "975e9001b742a9c03419d2baed10a59ac0af4da30a5b61e7b98330b7bd2cdea2"), looks := true }, kinds := [], alts := [], laidByText := true, laidKinds := [.data, .data, .data, .sentinel, .sentinel, .data, .data], laidTests := true, laidLooks := .later }
def EqualFalseCardSaid : Prop := Claim7.holds Tryz.pinned (.plain (OpenSpec.ofChange equalFalseSpec)) equalFalseCard

/-- THE TIED CARD OF 'sorteslaw06.EqualTexts'. -/
def equalTextsCard : Claim7 := { stood := { row := equalTextsRow, standIns := [], harness := (true, "975e9001b742a9c03419d2baed10a59ac0af4da30a5b61e7b98330b7bd2cdea2"), looks := true }, kinds := [], alts := [], laidByText := true, laidKinds := [.data, .data, .data, .sentinel, .sentinel, .data, .data], laidTests := true, laidLooks := .later }
def EqualTextsCardSaid : Prop := Claim7.holds Tryz.pinned (.plain (OpenSpec.ofChange equalTextsSpec)) equalTextsCard

/-- THE SECOND FORM's CARD OF 'sorteslaw06.EqualProves'. -/
def equalProvesUptoCard : Claim7 := { stood := { row := equalProvesUptoRow, standIns := [], harness := (true, "975e9001b742a9c03419d2baed10a59ac0af4da30a5b61e7b98330b7bd2cdea2"), looks := true }, kinds := [], alts := [], laidByText := true, laidKinds := [.data, .data, .data, .sentinel, .sentinel, .data, .data], laidTests := true, laidLooks := .later }
def EqualProvesUptoCardSaid : Prop := Claim7.holds Tryz.pinned (.plain (OpenSpec.upto equalProvesSpec)) equalProvesUptoCard

/-- THE SECOND FORM's CARD OF 'sorteslaw06.EqualMany'. -/
def equalManyUptoCard : Claim7 := { stood := { row := equalManyUptoRow, standIns := [], harness := (true, "975e9001b742a9c03419d2baed10a59ac0af4da30a5b61e7b98330b7bd2cdea2"), looks := true }, kinds := [], alts := [], laidByText := true, laidKinds := [.data, .data, .data, .sentinel, .sentinel, .data, .data], laidTests := true, laidLooks := .later }
def EqualManyUptoCardSaid : Prop := Claim7.holds Tryz.pinned (.plain (OpenSpec.upto equalManySpec)) equalManyUptoCard

/-- THE SECOND FORM's CARD OF 'sorteslaw06.EqualChecks'. -/
def equalChecksUptoCard : Claim7 := { stood := { row := equalChecksUptoRow, standIns := [], harness := (true, "975e9001b742a9c03419d2baed10a59ac0af4da30a5b61e7b98330b7bd2cdea2"), looks := true }, kinds := [], alts := [], laidByText := true, laidKinds := [.data, .data, .data, .sentinel, .sentinel, .data, .data], laidTests := true, laidLooks := .later }
def EqualChecksUptoCardSaid : Prop := Claim7.holds Tryz.pinned (.plain (OpenSpec.upto equalChecksSpec)) equalChecksUptoCard

/-- THE SECOND FORM's CARD OF 'sorteslaw06.EqualFalse'. -/
def equalFalseUptoCard : Claim7 := { stood := { row := equalFalseUptoRow, standIns := [], harness := (true, "975e9001b742a9c03419d2baed10a59ac0af4da30a5b61e7b98330b7bd2cdea2"), looks := true }, kinds := [], alts := [], laidByText := true, laidKinds := [.data, .data, .data, .sentinel, .sentinel, .data, .data], laidTests := true, laidLooks := .later }
def EqualFalseUptoCardSaid : Prop := Claim7.holds Tryz.pinned (.plain (OpenSpec.upto equalFalseSpec)) equalFalseUptoCard

/-- THE SECOND FORM's CARD OF 'sorteslaw06.EqualTexts'. -/
def equalTextsUptoCard : Claim7 := { stood := { row := equalTextsUptoRow, standIns := [], harness := (true, "975e9001b742a9c03419d2baed10a59ac0af4da30a5b61e7b98330b7bd2cdea2"), looks := true }, kinds := [], alts := [], laidByText := true, laidKinds := [.data, .data, .data, .sentinel, .sentinel, .data, .data], laidTests := true, laidLooks := .later }
def EqualTextsUptoCardSaid : Prop := Claim7.holds Tryz.pinned (.plain (OpenSpec.upto equalTextsSpec)) equalTextsUptoCard
end Rows
end Go.Proofs.YtdaicfgoahegpaaGreatDoor
