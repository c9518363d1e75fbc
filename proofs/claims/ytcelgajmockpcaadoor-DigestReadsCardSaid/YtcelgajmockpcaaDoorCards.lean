/-
  DERIVED. GIVEN WITH THE SEED: THE CARDS: each row of YtcelgajmockpcaaDoorRows.lean that lists a variable, with what it lists TIED to the program's text (the seventh form; the later family's looks); each row that meets fmt, with fmt's text TOLD by the authors' own Lean function (tested against real Go, not proved from fmt's source: count such statements apart). THE CARD IS WHAT COUNTS. Prove the row's statement (the work); the ties are given (YtcelgajmockpcaaDoorTie.lean); close each card by the builder's one call (the guide's Derived/Test/ToyasCard.lean, 'card_holds'). Laid BY PROGRAM, IN A SANDBOX (cutbox-door.mjs). By AI agents, Wed Nov 11 2026. No macro, syntax, notation, axiom, sorry.
-/
import Derived.Test.YtcelgajmockpcaaDoorRows
import GoSem.ClaimSeven
namespace Go.Proofs.YtcelgajmockpcaaDoor
namespace Rows

/-- THE TIED CARD OF 'sorteslaw03.DigestReads'. -/
def digestReadsCard : Claim7 := { stood := { row := digestReadsRow, standIns := [], harness := (true, "eb72744ecd012ecd40f5a5c8c9b2281a127d3b1fbfa9c4c2c02bcf8c6f982d6c"), looks := false }, kinds := [], alts := [], laidByText := true, laidKinds := [.data, .data], laidTests := true, laidLooks := .later }
def DigestReadsCardSaid : Prop := Claim7.holds Tryd.pinned (.plain (OpenSpec.ofChange digestReadsSpec)) digestReadsCard

/-- THE TIED CARD OF 'sorteslaw03.DigestStream'. -/
def digestStreamCard : Claim7 := { stood := { row := digestStreamRow, standIns := [], harness := (true, "eb72744ecd012ecd40f5a5c8c9b2281a127d3b1fbfa9c4c2c02bcf8c6f982d6c"), looks := false }, kinds := [], alts := [], laidByText := true, laidKinds := [.data, .data, .data, .data, .data], laidTests := true, laidLooks := .later }
def DigestStreamCardSaid : Prop := Claim7.holds Tryd.pinned (.plain (OpenSpec.ofChange digestStreamSpec)) digestStreamCard

/-- THE TIED CARD OF 'sorteslaw03.DigestBegins'. -/
def digestBeginsCard : Claim7 := { stood := { row := digestBeginsRow, standIns := [], harness := (true, "eb72744ecd012ecd40f5a5c8c9b2281a127d3b1fbfa9c4c2c02bcf8c6f982d6c"), looks := false }, kinds := [], alts := [], laidByText := true, laidKinds := [.data, .data, .data, .data, .data], laidTests := true, laidLooks := .later }
def DigestBeginsCardSaid : Prop := Claim7.holds Tryd.pinned (.plain (OpenSpec.ofChange digestBeginsSpec)) digestBeginsCard

/-- THE SECOND FORM's CARD OF 'sorteslaw03.DigestReads'. -/
def digestReadsUptoCard : Claim7 := { stood := { row := digestReadsUptoRow, standIns := [], harness := (true, "eb72744ecd012ecd40f5a5c8c9b2281a127d3b1fbfa9c4c2c02bcf8c6f982d6c"), looks := false }, kinds := [], alts := [], laidByText := true, laidKinds := [.data, .data], laidTests := true, laidLooks := .later }
def DigestReadsUptoCardSaid : Prop := Claim7.holds Tryd.pinned (.plain (OpenSpec.upto digestReadsSpec)) digestReadsUptoCard

/-- THE SECOND FORM's CARD OF 'sorteslaw03.DigestStream'. -/
def digestStreamUptoCard : Claim7 := { stood := { row := digestStreamUptoRow, standIns := [], harness := (true, "eb72744ecd012ecd40f5a5c8c9b2281a127d3b1fbfa9c4c2c02bcf8c6f982d6c"), looks := false }, kinds := [], alts := [], laidByText := true, laidKinds := [.data, .data, .data, .data, .data], laidTests := true, laidLooks := .later }
def DigestStreamUptoCardSaid : Prop := Claim7.holds Tryd.pinned (.plain (OpenSpec.upto digestStreamSpec)) digestStreamUptoCard

/-- THE SECOND FORM's CARD OF 'sorteslaw03.DigestBegins'. -/
def digestBeginsUptoCard : Claim7 := { stood := { row := digestBeginsUptoRow, standIns := [], harness := (true, "eb72744ecd012ecd40f5a5c8c9b2281a127d3b1fbfa9c4c2c02bcf8c6f982d6c"), looks := false }, kinds := [], alts := [], laidByText := true, laidKinds := [.data, .data, .data, .data, .data], laidTests := true, laidLooks := .later }
def DigestBeginsUptoCardSaid : Prop := Claim7.holds Tryd.pinned (.plain (OpenSpec.upto digestBeginsSpec)) digestBeginsUptoCard
end Rows
end Go.Proofs.YtcelgajmockpcaaDoor
