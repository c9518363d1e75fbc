/-
  DERIVED. GIVEN WITH THE SEED: THE CARDS: each row of YtdaicfgoahegpaaDoorRows.lean that lists a variable, with what it lists TIED to the program's text (the seventh form; the later family's looks); each row that meets fmt, with fmt's text TOLD by the authors' own Lean function (tested against real Go, not proved from fmt's source: count such statements apart). THE CARD IS WHAT COUNTS. Prove the row's statement (the work); the ties are given (YtdaicfgoahegpaaDoorTie.lean); close each card by the builder's one call (the guide's Derived/Test/ToyasCard.lean, 'card_holds'). Laid BY PROGRAM, IN A SANDBOX (cutbox-door.mjs). By AI agents, Wed Nov 11 2026. No macro, syntax, notation, axiom, sorry.
-/
import Derived.Test.YtdaicfgoahegpaaDoorRows
import GoSem.ClaimSeven
namespace Go.Proofs.YtdaicfgoahegpaaDoor
namespace Rows

/-- THE TIED CARD OF 'sorteslaw06.EqualHolds'. -/
def equalHoldsCard : Claim7 := { stood := { row := equalHoldsRow, standIns := [], harness := (true, "e0e4883274769dd694d8478a7b0ad95da37de1170f2ee7eb1a91c8d789c0794d"), looks := true }, kinds := [], alts := [], laidByText := true, laidKinds := [.data, .data, .data, .sentinel, .sentinel, .data, .data], laidTests := true, laidLooks := .later }
def EqualHoldsCardSaid : Prop := Claim7.holds Tryd.pinned (.plain (OpenSpec.ofChange equalHoldsSpec)) equalHoldsCard

/-- THE TIED CARD OF 'sorteslaw06.EqualOnly'. -/
def equalOnlyCard : Claim7 := { stood := { row := equalOnlyRow, standIns := [], harness := (true, "e0e4883274769dd694d8478a7b0ad95da37de1170f2ee7eb1a91c8d789c0794d"), looks := true }, kinds := [], alts := [], laidByText := true, laidKinds := [.data, .data, .data, .sentinel, .sentinel, .data, .data], laidTests := true, laidLooks := .later }
def EqualOnlyCardSaid : Prop := Claim7.holds Tryd.pinned (.plain (OpenSpec.ofChange equalOnlySpec)) equalOnlyCard

/-- THE TIED CARD OF 'sorteslaw06.EqualRange'. -/
def equalRangeCard : Claim7 := { stood := { row := equalRangeRow, standIns := [], harness := (true, "e0e4883274769dd694d8478a7b0ad95da37de1170f2ee7eb1a91c8d789c0794d"), looks := true }, kinds := [], alts := [], laidByText := true, laidKinds := [.data, .data, .data, .sentinel, .sentinel, .data, .data], laidTests := true, laidLooks := .later }
def EqualRangeCardSaid : Prop := Claim7.holds Tryd.pinned (.plain (OpenSpec.ofChange equalRangeSpec)) equalRangeCard

/-- THE SECOND FORM's CARD OF 'sorteslaw06.EqualHolds'. -/
def equalHoldsUptoCard : Claim7 := { stood := { row := equalHoldsUptoRow, standIns := [], harness := (true, "e0e4883274769dd694d8478a7b0ad95da37de1170f2ee7eb1a91c8d789c0794d"), looks := true }, kinds := [], alts := [], laidByText := true, laidKinds := [.data, .data, .data, .sentinel, .sentinel, .data, .data], laidTests := true, laidLooks := .later }
def EqualHoldsUptoCardSaid : Prop := Claim7.holds Tryd.pinned (.plain (OpenSpec.upto equalHoldsSpec)) equalHoldsUptoCard

/-- THE SECOND FORM's CARD OF 'sorteslaw06.EqualOnly'. -/
def equalOnlyUptoCard : Claim7 := { stood := { row := equalOnlyUptoRow, standIns := [], harness := (true, "e0e4883274769dd694d8478a7b0ad95da37de1170f2ee7eb1a91c8d789c0794d"), looks := true }, kinds := [], alts := [], laidByText := true, laidKinds := [.data, .data, .data, .sentinel, .sentinel, .data, .data], laidTests := true, laidLooks := .later }
def EqualOnlyUptoCardSaid : Prop := Claim7.holds Tryd.pinned (.plain (OpenSpec.upto equalOnlySpec)) equalOnlyUptoCard

/-- THE SECOND FORM's CARD OF 'sorteslaw06.EqualRange'. -/
def equalRangeUptoCard : Claim7 := { stood := { row := equalRangeUptoRow, standIns := [], harness := (true, "e0e4883274769dd694d8478a7b0ad95da37de1170f2ee7eb1a91c8d789c0794d"), looks := true }, kinds := [], alts := [], laidByText := true, laidKinds := [.data, .data, .data, .sentinel, .sentinel, .data, .data], laidTests := true, laidLooks := .later }
def EqualRangeUptoCardSaid : Prop := Claim7.holds Tryd.pinned (.plain (OpenSpec.upto equalRangeSpec)) equalRangeUptoCard
end Rows
end Go.Proofs.YtdaicfgoahegpaaDoor
