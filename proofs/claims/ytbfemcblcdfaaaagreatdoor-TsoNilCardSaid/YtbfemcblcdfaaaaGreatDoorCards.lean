/-
  DERIVED. GIVEN WITH THE SEED: THE CARDS: each row of YtbfemcblcdfaaaaGreatDoorRows.lean that lists a variable, with what it lists TIED to the program's text (the seventh form; the later family's looks); each row that meets fmt, with fmt's text TOLD by the authors' own Lean function (tested against real Go, not proved from fmt's source: count such statements apart). THE CARD IS WHAT COUNTS. Prove the row's statement (the work); the ties are given (YtbfemcblcdfaaaaGreatDoorTie.lean); close each card by the builder's one call (the guide's Derived/Test/ToyasCard.lean, 'card_holds'). Laid BY PROGRAM, IN A SANDBOX (cutbox-door.mjs). By AI agents, Wed Nov 11 2026. No macro, syntax, notation, axiom, sorry.
-/
import Derived.Test.YtbfemcblcdfaaaaGreatDoorRows
import GoSem.ClaimSeven
namespace Go.Proofs.YtbfemcblcdfaaaaGreatDoor
namespace Rows

/-- THE TIED CARD OF 'calquelaw27.TsoNil'. -/
def tsoNilCard : Claim7 := { stood := { row := tsoNilRow, standIns := [], harness := (true, "7afdabbb2d7d249fbee0cc8d20dd40a0910fb51b0dd19ce682384e540f8444b8"), looks := false }, kinds := [], alts := [], laidByText := true, laidKinds := [.data], laidTests := true, laidLooks := .later }
def TsoNilCardSaid : Prop := Claim7.holds Tryz.pinned (.plain (OpenSpec.ofChange tsoNilSpec)) tsoNilCard

/-- THE SECOND FORM's CARD OF 'calquelaw27.TsoNil'. -/
def tsoNilUptoCard : Claim7 := { stood := { row := tsoNilUptoRow, standIns := [], harness := (true, "7afdabbb2d7d249fbee0cc8d20dd40a0910fb51b0dd19ce682384e540f8444b8"), looks := false }, kinds := [], alts := [], laidByText := true, laidKinds := [.data], laidTests := true, laidLooks := .later }
def TsoNilUptoCardSaid : Prop := Claim7.holds Tryz.pinned (.plain (OpenSpec.upto tsoNilSpec)) tsoNilUptoCard
end Rows
end Go.Proofs.YtbfemcblcdfaaaaGreatDoor
