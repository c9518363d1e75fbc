/-
  DERIVED. GIVEN WITH THE SEED: THE CARDS: each row of YtkpkifhjedlieaaGreatDoorRows.lean that lists a variable, with what it lists TIED to the program's text (the seventh form; the later family's looks); each row that meets fmt, with fmt's text TOLD by the authors' own Lean function (tested against real Go, not proved from fmt's source: count such statements apart). THE CARD IS WHAT COUNTS. Prove the row's statement (the work); the ties are given (YtkpkifhjedlieaaGreatDoorTie.lean); close each card by the builder's one call (the guide's Derived/Test/ToyasCard.lean, 'card_holds'). Laid BY PROGRAM, IN A SANDBOX (cutbox-door.mjs). By AI agents, Wed Nov 11 2026. No macro, syntax, notation, axiom, sorry.
-/
import Derived.Test.YtkpkifhjedlieaaGreatDoorRows
import GoSem.ClaimSeven
namespace Go.Proofs.YtkpkifhjedlieaaGreatDoor
namespace Rows

/-- THE TIED CARD OF 'sorteslaw01.NatSums'. -/
def natSumsCard : Claim7 := { stood := { row := natSumsRow, standIns := [], harness := (true, "76e968c7cc56cb4fb0b7c53b81de239d168b99b126d429ae4dfff3764ad75146"), looks := false }, kinds := [], alts := [], laidByText := true, laidKinds := [.data, .data, .data, .data, .pinned], laidTests := true, laidLooks := .later }
def NatSumsCardSaid : Prop := Claim7.holds Tryz.pinned (.plain (OpenSpec.ofChange natSumsSpec)) natSumsCard

/-- THE TIED CARD OF 'sorteslaw01.NatProducts'. -/
def natProductsCard : Claim7 := { stood := { row := natProductsRow, standIns := [], harness := (true, "76e968c7cc56cb4fb0b7c53b81de239d168b99b126d429ae4dfff3764ad75146"), looks := false }, kinds := [], alts := [], laidByText := true, laidKinds := [.data, .data, .data, .data, .pinned], laidTests := true, laidLooks := .later }
def NatProductsCardSaid : Prop := Claim7.holds Tryz.pinned (.plain (OpenSpec.ofChange natProductsSpec)) natProductsCard

/-- THE TIED CARD OF 'sorteslaw01.NatQuos'. -/
def natQuosCard : Claim7 := { stood := { row := natQuosRow, standIns := [], harness := (true, "76e968c7cc56cb4fb0b7c53b81de239d168b99b126d429ae4dfff3764ad75146"), looks := false }, kinds := [], alts := [], laidByText := true, laidKinds := [.data, .data, .data, .data, .pinned], laidTests := true, laidLooks := .later }
def NatQuosCardSaid : Prop := Claim7.holds Tryz.pinned (.plain (OpenSpec.ofChange natQuosSpec)) natQuosCard

/-- THE TIED CARD OF 'sorteslaw01.NatGcds'. -/
def natGcdsCard : Claim7 := { stood := { row := natGcdsRow, standIns := [], harness := (true, "76e968c7cc56cb4fb0b7c53b81de239d168b99b126d429ae4dfff3764ad75146"), looks := false }, kinds := [], alts := [], laidByText := true, laidKinds := [.data, .data, .data, .data, .pinned], laidTests := true, laidLooks := .later }
def NatGcdsCardSaid : Prop := Claim7.holds Tryz.pinned (.plain (OpenSpec.ofChange natGcdsSpec)) natGcdsCard

/-- THE TIED CARD OF 'sorteslaw01.NatPows'. -/
def natPowsCard : Claim7 := { stood := { row := natPowsRow, standIns := [], harness := (true, "76e968c7cc56cb4fb0b7c53b81de239d168b99b126d429ae4dfff3764ad75146"), looks := false }, kinds := [], alts := [], laidByText := true, laidKinds := [.data, .data, .data, .data, .pinned], laidTests := true, laidLooks := .later }
def NatPowsCardSaid : Prop := Claim7.holds Tryz.pinned (.plain (OpenSpec.ofChange natPowsSpec)) natPowsCard

/-- THE TIED CARD OF 'sorteslaw01.NatTexts'. -/
def natTextsCard : Claim7 := { stood := { row := natTextsRow, standIns := [], harness := (true, "76e968c7cc56cb4fb0b7c53b81de239d168b99b126d429ae4dfff3764ad75146"), looks := false }, kinds := [], alts := [], laidByText := true, laidKinds := [.data, .data, .data, .data, .pinned], laidTests := true, laidLooks := .later }
def NatTextsCardSaid : Prop := Claim7.holds Tryz.pinned (.plain (OpenSpec.ofChange natTextsSpec)) natTextsCard

/-- THE TIED CARD OF 'sorteslaw01.NatInts'. -/
def natIntsCard : Claim7 := { stood := { row := natIntsRow, standIns := [], harness := (true, "76e968c7cc56cb4fb0b7c53b81de239d168b99b126d429ae4dfff3764ad75146"), looks := false }, kinds := [], alts := [], laidByText := true, laidKinds := [.data, .data, .data, .data, .pinned], laidTests := true, laidLooks := .later }
def NatIntsCardSaid : Prop := Claim7.holds Tryz.pinned (.plain (OpenSpec.ofChange natIntsSpec)) natIntsCard

/-- THE SECOND FORM's CARD OF 'sorteslaw01.NatSums'. -/
def natSumsUptoCard : Claim7 := { stood := { row := natSumsUptoRow, standIns := [], harness := (true, "76e968c7cc56cb4fb0b7c53b81de239d168b99b126d429ae4dfff3764ad75146"), looks := false }, kinds := [], alts := [], laidByText := true, laidKinds := [.data, .data, .data, .data, .pinned], laidTests := true, laidLooks := .later }
def NatSumsUptoCardSaid : Prop := Claim7.holds Tryz.pinned (.plain (OpenSpec.upto natSumsSpec)) natSumsUptoCard

/-- THE SECOND FORM's CARD OF 'sorteslaw01.NatProducts'. -/
def natProductsUptoCard : Claim7 := { stood := { row := natProductsUptoRow, standIns := [], harness := (true, "76e968c7cc56cb4fb0b7c53b81de239d168b99b126d429ae4dfff3764ad75146"), looks := false }, kinds := [], alts := [], laidByText := true, laidKinds := [.data, .data, .data, .data, .pinned], laidTests := true, laidLooks := .later }
def NatProductsUptoCardSaid : Prop := Claim7.holds Tryz.pinned (.plain (OpenSpec.upto natProductsSpec)) natProductsUptoCard

/-- THE SECOND FORM's CARD OF 'sorteslaw01.NatQuos'. -/
def natQuosUptoCard : Claim7 := { stood := { row := natQuosUptoRow, standIns := [], harness := (true, "76e968c7cc56cb4fb0b7c53b81de239d168b99b126d429ae4dfff3764ad75146"), looks := false }, kinds := [], alts := [], laidByText := true, laidKinds := [.data, .data, .data, .data, .pinned], laidTests := true, laidLooks := .later }
def NatQuosUptoCardSaid : Prop := Claim7.holds Tryz.pinned (.plain (OpenSpec.upto natQuosSpec)) natQuosUptoCard

/-- THE SECOND FORM's CARD OF 'sorteslaw01.NatGcds'. -/
def natGcdsUptoCard : Claim7 := { stood := { row := natGcdsUptoRow, standIns := [], harness := (true, "76e968c7cc56cb4fb0b7c53b81de239d168b99b126d429ae4dfff3764ad75146"), looks := false }, kinds := [], alts := [], laidByText := true, laidKinds := [.data, .data, .data, .data, .pinned], laidTests := true, laidLooks := .later }
def NatGcdsUptoCardSaid : Prop := Claim7.holds Tryz.pinned (.plain (OpenSpec.upto natGcdsSpec)) natGcdsUptoCard

/-- THE SECOND FORM's CARD OF 'sorteslaw01.NatPows'. -/
def natPowsUptoCard : Claim7 := { stood := { row := natPowsUptoRow, standIns := [], harness := (true, "76e968c7cc56cb4fb0b7c53b81de239d168b99b126d429ae4dfff3764ad75146"), looks := false }, kinds := [], alts := [], laidByText := true, laidKinds := [.data, .data, .data, .data, .pinned], laidTests := true, laidLooks := .later }
def NatPowsUptoCardSaid : Prop := Claim7.holds Tryz.pinned (.plain (OpenSpec.upto natPowsSpec)) natPowsUptoCard

/-- THE SECOND FORM's CARD OF 'sorteslaw01.NatTexts'. -/
def natTextsUptoCard : Claim7 := { stood := { row := natTextsUptoRow, standIns := [], harness := (true, "76e968c7cc56cb4fb0b7c53b81de239d168b99b126d429ae4dfff3764ad75146"), looks := false }, kinds := [], alts := [], laidByText := true, laidKinds := [.data, .data, .data, .data, .pinned], laidTests := true, laidLooks := .later }
def NatTextsUptoCardSaid : Prop := Claim7.holds Tryz.pinned (.plain (OpenSpec.upto natTextsSpec)) natTextsUptoCard

/-- THE SECOND FORM's CARD OF 'sorteslaw01.NatInts'. -/
def natIntsUptoCard : Claim7 := { stood := { row := natIntsUptoRow, standIns := [], harness := (true, "76e968c7cc56cb4fb0b7c53b81de239d168b99b126d429ae4dfff3764ad75146"), looks := false }, kinds := [], alts := [], laidByText := true, laidKinds := [.data, .data, .data, .data, .pinned], laidTests := true, laidLooks := .later }
def NatIntsUptoCardSaid : Prop := Claim7.holds Tryz.pinned (.plain (OpenSpec.upto natIntsSpec)) natIntsUptoCard
end Rows
end Go.Proofs.YtkpkifhjedlieaaGreatDoor
