/-
  DERIVED. GIVEN WITH THE SEED: THE CARDS: each row of YtkpkifhjedlieaaDoorRows.lean that lists a variable, with what it lists TIED to the program's text (the seventh form; the later family's looks); each row that meets fmt, with fmt's text TOLD by the authors' own Lean function (tested against real Go, not proved from fmt's source: count such statements apart). THE CARD IS WHAT COUNTS. Prove the row's statement (the work); the ties are given (YtkpkifhjedlieaaDoorTie.lean); close each card by the builder's one call (the guide's Derived/Test/ToyasCard.lean, 'card_holds'). Laid BY PROGRAM, IN A SANDBOX (cutbox-door.mjs). By AI agents, Wed Nov 11 2026. No macro, syntax, notation, axiom, sorry.
-/
import Derived.Test.YtkpkifhjedlieaaDoorRows
import GoSem.ClaimSeven
namespace Go.Proofs.YtkpkifhjedlieaaDoor
namespace Rows

/-- THE TIED CARD OF 'sorteslaw01.NatRing'. -/
def natRingCard : Claim7 := { stood := { row := natRingRow, standIns := [], harness := (true, "b1289c5f206908626be0c58f515eeeba4aa6c1d95429f97e191dfaf5557adb9c"), looks := false }, kinds := [], alts := [], laidByText := true, laidKinds := [.data, .data, .data, .data, .pinned], laidTests := true, laidLooks := .later }
def NatRingCardSaid : Prop := Claim7.holds Tryd.pinned (.plain (OpenSpec.ofChange natRingSpec)) natRingCard

/-- THE TIED CARD OF 'sorteslaw01.NatDivides'. -/
def natDividesCard : Claim7 := { stood := { row := natDividesRow, standIns := [], harness := (true, "b1289c5f206908626be0c58f515eeeba4aa6c1d95429f97e191dfaf5557adb9c"), looks := false }, kinds := [], alts := [], laidByText := true, laidKinds := [.data, .data, .data, .data, .pinned], laidTests := true, laidLooks := .later }
def NatDividesCardSaid : Prop := Claim7.holds Tryd.pinned (.plain (OpenSpec.ofChange natDividesSpec)) natDividesCard

/-- THE TIED CARD OF 'sorteslaw01.NatFermat'. -/
def natFermatCard : Claim7 := { stood := { row := natFermatRow, standIns := [], harness := (true, "b1289c5f206908626be0c58f515eeeba4aa6c1d95429f97e191dfaf5557adb9c"), looks := false }, kinds := [], alts := [], laidByText := true, laidKinds := [.data, .data, .data, .data, .pinned], laidTests := true, laidLooks := .later }
def NatFermatCardSaid : Prop := Claim7.holds Tryd.pinned (.plain (OpenSpec.ofChange natFermatSpec)) natFermatCard

/-- THE SECOND FORM's CARD OF 'sorteslaw01.NatRing'. -/
def natRingUptoCard : Claim7 := { stood := { row := natRingUptoRow, standIns := [], harness := (true, "b1289c5f206908626be0c58f515eeeba4aa6c1d95429f97e191dfaf5557adb9c"), looks := false }, kinds := [], alts := [], laidByText := true, laidKinds := [.data, .data, .data, .data, .pinned], laidTests := true, laidLooks := .later }
def NatRingUptoCardSaid : Prop := Claim7.holds Tryd.pinned (.plain (OpenSpec.upto natRingSpec)) natRingUptoCard

/-- THE SECOND FORM's CARD OF 'sorteslaw01.NatDivides'. -/
def natDividesUptoCard : Claim7 := { stood := { row := natDividesUptoRow, standIns := [], harness := (true, "b1289c5f206908626be0c58f515eeeba4aa6c1d95429f97e191dfaf5557adb9c"), looks := false }, kinds := [], alts := [], laidByText := true, laidKinds := [.data, .data, .data, .data, .pinned], laidTests := true, laidLooks := .later }
def NatDividesUptoCardSaid : Prop := Claim7.holds Tryd.pinned (.plain (OpenSpec.upto natDividesSpec)) natDividesUptoCard

/-- THE SECOND FORM's CARD OF 'sorteslaw01.NatFermat'. -/
def natFermatUptoCard : Claim7 := { stood := { row := natFermatUptoRow, standIns := [], harness := (true, "b1289c5f206908626be0c58f515eeeba4aa6c1d95429f97e191dfaf5557adb9c"), looks := false }, kinds := [], alts := [], laidByText := true, laidKinds := [.data, .data, .data, .data, .pinned], laidTests := true, laidLooks := .later }
def NatFermatUptoCardSaid : Prop := Claim7.holds Tryd.pinned (.plain (OpenSpec.upto natFermatSpec)) natFermatUptoCard
end Rows
end Go.Proofs.YtkpkifhjedlieaaDoor
