/-
  DERIVED. GIVEN WITH THE SEED: THE CARDS: each row of YtbfplapjjeeceaaGreatDoorRows.lean that lists a variable, with what it lists TIED to the program's text (the seventh form; the later family's looks); each row that meets fmt, with fmt's text TOLD by the authors' own Lean function (tested against real Go, not proved from fmt's source: count such statements apart). THE CARD IS WHAT COUNTS. Prove the row's statement (the work); the ties are given (YtbfplapjjeeceaaGreatDoorTie.lean); close each card by the builder's one call (the guide's Derived/Test/ToyasCard.lean, 'card_holds'). Laid BY PROGRAM, IN A SANDBOX (cutbox-door.mjs). By AI agents, Wed Nov 11 2026. No macro, syntax, notation, axiom, sorry.
-/
import Derived.Test.YtbfplapjjeeceaaGreatDoorRows
import GoSem.ClaimSeven
namespace Go.Proofs.YtbfplapjjeeceaaGreatDoor
namespace Rows

/-- THE TIED CARD OF 'sorteslaw09.BeaconEvals'. -/
def beaconEvalsCard : Claim7 := { stood := { row := beaconEvalsRow, standIns := [], harness := (true, "cf7db7e03b34008b982f38610de748aa7e2a7a749ada05e2c5236b99c5ad5c2c"), looks := true }, kinds := [], alts := [], laidByText := true, laidKinds := [.data, .data, .data, .data, .data], laidTests := true, laidLooks := .later }
def BeaconEvalsCardSaid : Prop := Claim7.holds Tryz.pinned (.plain (OpenSpec.ofChange beaconEvalsSpec)) beaconEvalsCard

/-- THE TIED CARD OF 'sorteslaw09.BeaconVerifies'. -/
def beaconVerifiesCard : Claim7 := { stood := { row := beaconVerifiesRow, standIns := [], harness := (true, "cf7db7e03b34008b982f38610de748aa7e2a7a749ada05e2c5236b99c5ad5c2c"), looks := true }, kinds := [], alts := [], laidByText := true, laidKinds := [.data, .data, .data, .data, .data], laidTests := true, laidLooks := .later }
def BeaconVerifiesCardSaid : Prop := Claim7.holds Tryz.pinned (.plain (OpenSpec.ofChange beaconVerifiesSpec)) beaconVerifiesCard

/-- THE TIED CARD OF 'sorteslaw09.BeaconOnce'. -/
def beaconOnceCard : Claim7 := { stood := { row := beaconOnceRow, standIns := [], harness := (true, "cf7db7e03b34008b982f38610de748aa7e2a7a749ada05e2c5236b99c5ad5c2c"), looks := true }, kinds := [], alts := [], laidByText := true, laidKinds := [.data, .data, .data, .data, .data], laidTests := true, laidLooks := .later }
def BeaconOnceCardSaid : Prop := Claim7.holds Tryz.pinned (.plain (OpenSpec.ofChange beaconOnceSpec)) beaconOnceCard

/-- THE TIED CARD OF 'sorteslaw09.BeaconFew'. -/
def beaconFewCard : Claim7 := { stood := { row := beaconFewRow, standIns := [], harness := (true, "cf7db7e03b34008b982f38610de748aa7e2a7a749ada05e2c5236b99c5ad5c2c"), looks := true }, kinds := [], alts := [], laidByText := true, laidKinds := [.data, .data, .data, .data, .data], laidTests := true, laidLooks := .later }
def BeaconFewCardSaid : Prop := Claim7.holds Tryz.pinned (.plain (OpenSpec.ofChange beaconFewSpec)) beaconFewCard

/-- THE TIED CARD OF 'sorteslaw09.BeaconFinds'. -/
def beaconFindsCard : Claim7 := { stood := { row := beaconFindsRow, standIns := [], harness := (true, "cf7db7e03b34008b982f38610de748aa7e2a7a749ada05e2c5236b99c5ad5c2c"), looks := true }, kinds := [], alts := [], laidByText := true, laidKinds := [.data, .data, .data, .data, .data], laidTests := true, laidLooks := .later }
def BeaconFindsCardSaid : Prop := Claim7.holds Tryz.pinned (.plain (OpenSpec.ofChange beaconFindsSpec)) beaconFindsCard

/-- THE TIED CARD OF 'sorteslaw09.BeaconTexts'. -/
def beaconTextsCard : Claim7 := { stood := { row := beaconTextsRow, standIns := [], harness := (true, "cf7db7e03b34008b982f38610de748aa7e2a7a749ada05e2c5236b99c5ad5c2c"), looks := true }, kinds := [], alts := [], laidByText := true, laidKinds := [.data, .data, .data, .sentinel, .sentinel, .data, .data], laidTests := true, laidLooks := .later }
def BeaconTextsCardSaid : Prop := Claim7.holds Tryz.pinned (.plain (OpenSpec.ofChange beaconTextsSpec)) beaconTextsCard

/-- THE TIED CARD OF 'sorteslaw09.BeaconRounds'. -/
def beaconRoundsCard : Claim7 := { stood := { row := beaconRoundsRow, standIns := [], harness := (true, "cf7db7e03b34008b982f38610de748aa7e2a7a749ada05e2c5236b99c5ad5c2c"), looks := true }, kinds := [], alts := [], laidByText := true, laidKinds := [.data, .data, .data, .data, .data], laidTests := true, laidLooks := .later }
def BeaconRoundsCardSaid : Prop := Claim7.holds Tryz.pinned (.plain (OpenSpec.ofChange beaconRoundsSpec)) beaconRoundsCard

/-- THE SECOND FORM's CARD OF 'sorteslaw09.BeaconEvals'. -/
def beaconEvalsUptoCard : Claim7 := { stood := { row := beaconEvalsUptoRow, standIns := [], harness := (true, "cf7db7e03b34008b982f38610de748aa7e2a7a749ada05e2c5236b99c5ad5c2c"), looks := true }, kinds := [], alts := [], laidByText := true, laidKinds := [.data, .data, .data, .data, .data], laidTests := true, laidLooks := .later }
def BeaconEvalsUptoCardSaid : Prop := Claim7.holds Tryz.pinned (.plain (OpenSpec.upto beaconEvalsSpec)) beaconEvalsUptoCard

/-- THE SECOND FORM's CARD OF 'sorteslaw09.BeaconVerifies'. -/
def beaconVerifiesUptoCard : Claim7 := { stood := { row := beaconVerifiesUptoRow, standIns := [], harness := (true, "cf7db7e03b34008b982f38610de748aa7e2a7a749ada05e2c5236b99c5ad5c2c"), looks := true }, kinds := [], alts := [], laidByText := true, laidKinds := [.data, .data, .data, .data, .data], laidTests := true, laidLooks := .later }
def BeaconVerifiesUptoCardSaid : Prop := Claim7.holds Tryz.pinned (.plain (OpenSpec.upto beaconVerifiesSpec)) beaconVerifiesUptoCard

/-- THE SECOND FORM's CARD OF 'sorteslaw09.BeaconOnce'. -/
def beaconOnceUptoCard : Claim7 := { stood := { row := beaconOnceUptoRow, standIns := [], harness := (true, "cf7db7e03b34008b982f38610de748aa7e2a7a749ada05e2c5236b99c5ad5c2c"), looks := true }, kinds := [], alts := [], laidByText := true, laidKinds := [.data, .data, .data, .data, .data], laidTests := true, laidLooks := .later }
def BeaconOnceUptoCardSaid : Prop := Claim7.holds Tryz.pinned (.plain (OpenSpec.upto beaconOnceSpec)) beaconOnceUptoCard

/-- THE SECOND FORM's CARD OF 'sorteslaw09.BeaconFew'. -/
def beaconFewUptoCard : Claim7 := { stood := { row := beaconFewUptoRow, standIns := [], harness := (true, "cf7db7e03b34008b982f38610de748aa7e2a7a749ada05e2c5236b99c5ad5c2c"), looks := true }, kinds := [], alts := [], laidByText := true, laidKinds := [.data, .data, .data, .data, .data], laidTests := true, laidLooks := .later }
def BeaconFewUptoCardSaid : Prop := Claim7.holds Tryz.pinned (.plain (OpenSpec.upto beaconFewSpec)) beaconFewUptoCard

/-- THE SECOND FORM's CARD OF 'sorteslaw09.BeaconFinds'. -/
def beaconFindsUptoCard : Claim7 := { stood := { row := beaconFindsUptoRow, standIns := [], harness := (true, "cf7db7e03b34008b982f38610de748aa7e2a7a749ada05e2c5236b99c5ad5c2c"), looks := true }, kinds := [], alts := [], laidByText := true, laidKinds := [.data, .data, .data, .data, .data], laidTests := true, laidLooks := .later }
def BeaconFindsUptoCardSaid : Prop := Claim7.holds Tryz.pinned (.plain (OpenSpec.upto beaconFindsSpec)) beaconFindsUptoCard

/-- THE SECOND FORM's CARD OF 'sorteslaw09.BeaconTexts'. -/
def beaconTextsUptoCard : Claim7 := { stood := { row := beaconTextsUptoRow, standIns := [], harness := (true, "cf7db7e03b34008b982f38610de748aa7e2a7a749ada05e2c5236b99c5ad5c2c"), looks := true }, kinds := [], alts := [], laidByText := true, laidKinds := [.data, .data, .data, .sentinel, .sentinel, .data, .data], laidTests := true, laidLooks := .later }
def BeaconTextsUptoCardSaid : Prop := Claim7.holds Tryz.pinned (.plain (OpenSpec.upto beaconTextsSpec)) beaconTextsUptoCard

/-- THE SECOND FORM's CARD OF 'sorteslaw09.BeaconRounds'. -/
def beaconRoundsUptoCard : Claim7 := { stood := { row := beaconRoundsUptoRow, standIns := [], harness := (true, "cf7db7e03b34008b982f38610de748aa7e2a7a749ada05e2c5236b99c5ad5c2c"), looks := true }, kinds := [], alts := [], laidByText := true, laidKinds := [.data, .data, .data, .data, .data], laidTests := true, laidLooks := .later }
def BeaconRoundsUptoCardSaid : Prop := Claim7.holds Tryz.pinned (.plain (OpenSpec.upto beaconRoundsSpec)) beaconRoundsUptoCard
end Rows
end Go.Proofs.YtbfplapjjeeceaaGreatDoor
