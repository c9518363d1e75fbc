/-
  DERIVED. GIVEN WITH THE SEED: THE CARDS: each row of YtjfbpmpdcmealaaGreatDoorRows.lean that lists a variable, with what it lists TIED to the program's text (the seventh form; the later family's looks); each row that meets fmt, with fmt's text TOLD by the authors' own Lean function (tested against real Go, not proved from fmt's source: count such statements apart). THE CARD IS WHAT COUNTS. Prove the row's statement (the work); the ties are given (YtjfbpmpdcmealaaGreatDoorTie.lean); close each card by the builder's one call (the guide's Derived/Test/ToyasCard.lean, 'card_holds'). Laid BY PROGRAM, IN A SANDBOX (cutbox-door.mjs). By AI agents, Wed Nov 11 2026. No macro, syntax, notation, axiom, sorry.
-/
import Derived.Test.YtjfbpmpdcmealaaGreatDoorRows
import GoSem.ClaimSeven
namespace Go.Proofs.YtjfbpmpdcmealaaGreatDoor
namespace Rows

/-- THE TIED CARD OF 'sorteslaw07.DealHonest'. -/
def dealHonestCard : Claim7 := { stood := { row := dealHonestRow, standIns := [], harness := (true, "6e5891604cb12b60ecbbef95455e1ce3852222787d78c1f1a6bad0b8a23a35c5"), looks := true }, kinds := [], alts := [], laidByText := true, laidKinds := [.data, .data, .data, .data, .data], laidTests := true, laidLooks := .later }
def DealHonestCardSaid : Prop := Claim7.holds Tryz.pinned (.plain (OpenSpec.ofChange dealHonestSpec)) dealHonestCard

/-- THE TIED CARD OF 'sorteslaw07.DealTexts'. -/
def dealTextsCard : Claim7 := { stood := { row := dealTextsRow, standIns := [], harness := (true, "6e5891604cb12b60ecbbef95455e1ce3852222787d78c1f1a6bad0b8a23a35c5"), looks := true }, kinds := [], alts := [], laidByText := true, laidKinds := [.data, .data, .data, .data, .sentinel, .sentinel, .data, .data, .pinned], laidTests := true, laidLooks := .later }
def DealTextsCardSaid : Prop := Claim7.holds Tryz.pinned (.plain (OpenSpec.ofChange dealTextsSpec)) dealTextsCard

/-- THE TIED CARD OF 'sorteslaw07.DealKeeps'. -/
def dealKeepsCard : Claim7 := { stood := { row := dealKeepsRow, standIns := [], harness := (true, "6e5891604cb12b60ecbbef95455e1ce3852222787d78c1f1a6bad0b8a23a35c5"), looks := true }, kinds := [], alts := [], laidByText := true, laidKinds := [.data, .data, .data, .data, .sentinel, .sentinel, .data, .data, .pinned], laidTests := true, laidLooks := .later }
def DealKeepsCardSaid : Prop := Claim7.holds Tryz.pinned (.plain (OpenSpec.ofChange dealKeepsSpec)) dealKeepsCard

/-- THE TIED CARD OF 'sorteslaw07.DealDeals'. -/
def dealDealsCard : Claim7 := { stood := { row := dealDealsRow, standIns := [], harness := (true, "6e5891604cb12b60ecbbef95455e1ce3852222787d78c1f1a6bad0b8a23a35c5"), looks := true }, kinds := [], alts := [], laidByText := true, laidKinds := [.data, .data, .data, .data, .data], laidTests := true, laidLooks := .later }
def DealDealsCardSaid : Prop := Claim7.holds Tryz.pinned (.plain (OpenSpec.ofChange dealDealsSpec)) dealDealsCard

/-- THE TIED CARD OF 'sorteslaw07.DealGuilty'. -/
def dealGuiltyCard : Claim7 := { stood := { row := dealGuiltyRow, standIns := [], harness := (true, "6e5891604cb12b60ecbbef95455e1ce3852222787d78c1f1a6bad0b8a23a35c5"), looks := true }, kinds := [], alts := [], laidByText := true, laidKinds := [.data, .data, .data, .data, .data], laidTests := true, laidLooks := .later }
def DealGuiltyCardSaid : Prop := Claim7.holds Tryz.pinned (.plain (OpenSpec.ofChange dealGuiltySpec)) dealGuiltyCard

/-- THE SECOND FORM's CARD OF 'sorteslaw07.DealHonest'. -/
def dealHonestUptoCard : Claim7 := { stood := { row := dealHonestUptoRow, standIns := [], harness := (true, "6e5891604cb12b60ecbbef95455e1ce3852222787d78c1f1a6bad0b8a23a35c5"), looks := true }, kinds := [], alts := [], laidByText := true, laidKinds := [.data, .data, .data, .data, .data], laidTests := true, laidLooks := .later }
def DealHonestUptoCardSaid : Prop := Claim7.holds Tryz.pinned (.plain (OpenSpec.upto dealHonestSpec)) dealHonestUptoCard

/-- THE SECOND FORM's CARD OF 'sorteslaw07.DealTexts'. -/
def dealTextsUptoCard : Claim7 := { stood := { row := dealTextsUptoRow, standIns := [], harness := (true, "6e5891604cb12b60ecbbef95455e1ce3852222787d78c1f1a6bad0b8a23a35c5"), looks := true }, kinds := [], alts := [], laidByText := true, laidKinds := [.data, .data, .data, .data, .sentinel, .sentinel, .data, .data, .pinned], laidTests := true, laidLooks := .later }
def DealTextsUptoCardSaid : Prop := Claim7.holds Tryz.pinned (.plain (OpenSpec.upto dealTextsSpec)) dealTextsUptoCard

/-- THE SECOND FORM's CARD OF 'sorteslaw07.DealKeeps'. -/
def dealKeepsUptoCard : Claim7 := { stood := { row := dealKeepsUptoRow, standIns := [], harness := (true, "6e5891604cb12b60ecbbef95455e1ce3852222787d78c1f1a6bad0b8a23a35c5"), looks := true }, kinds := [], alts := [], laidByText := true, laidKinds := [.data, .data, .data, .data, .sentinel, .sentinel, .data, .data, .pinned], laidTests := true, laidLooks := .later }
def DealKeepsUptoCardSaid : Prop := Claim7.holds Tryz.pinned (.plain (OpenSpec.upto dealKeepsSpec)) dealKeepsUptoCard

/-- THE SECOND FORM's CARD OF 'sorteslaw07.DealDeals'. -/
def dealDealsUptoCard : Claim7 := { stood := { row := dealDealsUptoRow, standIns := [], harness := (true, "6e5891604cb12b60ecbbef95455e1ce3852222787d78c1f1a6bad0b8a23a35c5"), looks := true }, kinds := [], alts := [], laidByText := true, laidKinds := [.data, .data, .data, .data, .data], laidTests := true, laidLooks := .later }
def DealDealsUptoCardSaid : Prop := Claim7.holds Tryz.pinned (.plain (OpenSpec.upto dealDealsSpec)) dealDealsUptoCard

/-- THE SECOND FORM's CARD OF 'sorteslaw07.DealGuilty'. -/
def dealGuiltyUptoCard : Claim7 := { stood := { row := dealGuiltyUptoRow, standIns := [], harness := (true, "6e5891604cb12b60ecbbef95455e1ce3852222787d78c1f1a6bad0b8a23a35c5"), looks := true }, kinds := [], alts := [], laidByText := true, laidKinds := [.data, .data, .data, .data, .data], laidTests := true, laidLooks := .later }
def DealGuiltyUptoCardSaid : Prop := Claim7.holds Tryz.pinned (.plain (OpenSpec.upto dealGuiltySpec)) dealGuiltyUptoCard
end Rows
end Go.Proofs.YtjfbpmpdcmealaaGreatDoor
