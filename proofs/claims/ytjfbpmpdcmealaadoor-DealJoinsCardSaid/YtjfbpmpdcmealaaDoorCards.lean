/-
  DERIVED. GIVEN WITH THE SEED: THE CARDS: each row of YtjfbpmpdcmealaaDoorRows.lean that lists a variable, with what it lists TIED to the program's text (the seventh form; the later family's looks); each row that meets fmt, with fmt's text TOLD by the authors' own Lean function (tested against real Go, not proved from fmt's source: count such statements apart). THE CARD IS WHAT COUNTS. Prove the row's statement (the work); the ties are given (YtjfbpmpdcmealaaDoorTie.lean); close each card by the builder's one call (the guide's Derived/Test/ToyasCard.lean, 'card_holds'). Laid BY PROGRAM, IN A SANDBOX (cutbox-door.mjs). By AI agents, Wed Nov 11 2026. No macro, syntax, notation, axiom, sorry.
-/
import Derived.Test.YtjfbpmpdcmealaaDoorRows
import GoSem.ClaimSeven
namespace Go.Proofs.YtjfbpmpdcmealaaDoor
namespace Rows

/-- THE TIED CARD OF 'sorteslaw07.DealJoins'. -/
def dealJoinsCard : Claim7 := { stood := { row := dealJoinsRow, standIns := [], harness := (true, "e085a7052adaf04a6465f9cad11d86de70d3e624e8a23820a4f6f32e5655f742"), looks := false }, kinds := [], alts := [], laidByText := true, laidKinds := [.data, .data, .data, .data, .data], laidTests := true, laidLooks := .later }
def DealJoinsCardSaid : Prop := Claim7.holds Tryd.pinned (.plain (OpenSpec.ofChange dealJoinsSpec)) dealJoinsCard

/-- THE TIED CARD OF 'sorteslaw07.DealValues'. -/
def dealValuesCard : Claim7 := { stood := { row := dealValuesRow, standIns := [], harness := (true, "e085a7052adaf04a6465f9cad11d86de70d3e624e8a23820a4f6f32e5655f742"), looks := false }, kinds := [], alts := [], laidByText := true, laidKinds := [.data, .data, .data, .data, .data], laidTests := true, laidLooks := .later }
def DealValuesCardSaid : Prop := Claim7.holds Tryd.pinned (.plain (OpenSpec.ofChange dealValuesSpec)) dealValuesCard

/-- THE SECOND FORM's CARD OF 'sorteslaw07.DealJoins'. -/
def dealJoinsUptoCard : Claim7 := { stood := { row := dealJoinsUptoRow, standIns := [], harness := (true, "e085a7052adaf04a6465f9cad11d86de70d3e624e8a23820a4f6f32e5655f742"), looks := false }, kinds := [], alts := [], laidByText := true, laidKinds := [.data, .data, .data, .data, .data], laidTests := true, laidLooks := .later }
def DealJoinsUptoCardSaid : Prop := Claim7.holds Tryd.pinned (.plain (OpenSpec.upto dealJoinsSpec)) dealJoinsUptoCard

/-- THE SECOND FORM's CARD OF 'sorteslaw07.DealValues'. -/
def dealValuesUptoCard : Claim7 := { stood := { row := dealValuesUptoRow, standIns := [], harness := (true, "e085a7052adaf04a6465f9cad11d86de70d3e624e8a23820a4f6f32e5655f742"), looks := false }, kinds := [], alts := [], laidByText := true, laidKinds := [.data, .data, .data, .data, .data], laidTests := true, laidLooks := .later }
def DealValuesUptoCardSaid : Prop := Claim7.holds Tryd.pinned (.plain (OpenSpec.upto dealValuesSpec)) dealValuesUptoCard
end Rows
end Go.Proofs.YtjfbpmpdcmealaaDoor
