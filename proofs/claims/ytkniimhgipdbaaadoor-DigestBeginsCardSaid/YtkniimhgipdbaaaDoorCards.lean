/-
  DERIVED. GIVEN WITH THE SEED: THE CARDS: each row of YtkniimhgipdbaaaDoorRows.lean that lists a variable, with what it lists TIED to the program's text (the seventh form; the later family's looks); each row that meets fmt, with fmt's text TOLD by the authors' own Lean function (tested against real Go, not proved from fmt's source: count such statements apart). THE CARD IS WHAT COUNTS. Prove the row's statement (the work); the ties are given (YtkniimhgipdbaaaDoorTie.lean); close each card by the builder's one call (the guide's Derived/Test/ToyasCard.lean, 'card_holds'). Laid BY PROGRAM, IN A SANDBOX (cutbox-door.mjs). By AI agents, Wed Nov 11 2026. No macro, syntax, notation, axiom, sorry.
-/
import Derived.Test.YtkniimhgipdbaaaDoorRows
import GoSem.ClaimSeven
namespace Go.Proofs.YtkniimhgipdbaaaDoor
namespace Rows

/-- THE TIED CARD OF 'sorteslaw03.DigestStream'. -/
def digestStreamCard : Claim7 := { stood := { row := digestStreamRow, standIns := [], harness := (true, "eb08f9db12f347511a4f0dd1004157d2c7208040e9bfa2371b5919132d122667"), looks := false }, kinds := [], alts := [], laidByText := true, laidKinds := [.data, .data, .data, .data, .data], laidTests := true, laidLooks := .later }
def DigestStreamCardSaid : Prop := Claim7.holds Tryd.pinned (.plain (OpenSpec.ofChange digestStreamSpec)) digestStreamCard

/-- THE TIED CARD OF 'sorteslaw03.DigestBegins'. -/
def digestBeginsCard : Claim7 := { stood := { row := digestBeginsRow, standIns := [], harness := (true, "eb08f9db12f347511a4f0dd1004157d2c7208040e9bfa2371b5919132d122667"), looks := false }, kinds := [], alts := [], laidByText := true, laidKinds := [.data, .data, .data, .data, .data], laidTests := true, laidLooks := .later }
def DigestBeginsCardSaid : Prop := Claim7.holds Tryd.pinned (.plain (OpenSpec.ofChange digestBeginsSpec)) digestBeginsCard

/-- THE SECOND FORM's CARD OF 'sorteslaw03.DigestStream'. -/
def digestStreamUptoCard : Claim7 := { stood := { row := digestStreamUptoRow, standIns := [], harness := (true, "eb08f9db12f347511a4f0dd1004157d2c7208040e9bfa2371b5919132d122667"), looks := false }, kinds := [], alts := [], laidByText := true, laidKinds := [.data, .data, .data, .data, .data], laidTests := true, laidLooks := .later }
def DigestStreamUptoCardSaid : Prop := Claim7.holds Tryd.pinned (.plain (OpenSpec.upto digestStreamSpec)) digestStreamUptoCard

/-- THE SECOND FORM's CARD OF 'sorteslaw03.DigestBegins'. -/
def digestBeginsUptoCard : Claim7 := { stood := { row := digestBeginsUptoRow, standIns := [], harness := (true, "eb08f9db12f347511a4f0dd1004157d2c7208040e9bfa2371b5919132d122667"), looks := false }, kinds := [], alts := [], laidByText := true, laidKinds := [.data, .data, .data, .data, .data], laidTests := true, laidLooks := .later }
def DigestBeginsUptoCardSaid : Prop := Claim7.holds Tryd.pinned (.plain (OpenSpec.upto digestBeginsSpec)) digestBeginsUptoCard
end Rows
end Go.Proofs.YtkniimhgipdbaaaDoor
