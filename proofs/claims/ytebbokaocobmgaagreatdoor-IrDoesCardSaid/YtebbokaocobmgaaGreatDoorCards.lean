/-
  DERIVED. GIVEN WITH THE SEED: THE CARDS: each row of YtebbokaocobmgaaGreatDoorRows.lean that lists a variable, with what it lists TIED to the program's text (the seventh form; the later family's looks); each row that meets fmt, with fmt's text TOLD by the authors' own Lean function (tested against real Go, not proved from fmt's source: count such statements apart). THE CARD IS WHAT COUNTS. Prove the row's statement (the work); the ties are given (YtebbokaocobmgaaGreatDoorTie.lean); close each card by the builder's one call (the guide's Derived/Test/ToyasCard.lean, 'card_holds'). Laid BY PROGRAM, IN A SANDBOX (cutbox-door.mjs). By AI agents, Wed Nov 11 2026. No macro, syntax, notation, axiom, sorry.
-/
import Derived.Test.YtebbokaocobmgaaGreatDoorRows
import GoSem.ClaimSeven
namespace Go.Proofs.YtebbokaocobmgaaGreatDoor
namespace Rows

/-- THE TIED CARD OF 'calquelaw13.IrDoes'. -/
def irDoesCard : Claim7 := { stood := { row := irDoesRow, standIns := [], harness := (true, "57308a5af2ce54e7ea9c9a36155f9409d5af0f2e3a72fd74238d932ca7e24c53"), looks := false }, kinds := [], alts := [], laidByText := true, laidKinds := [.data, .data, .data, .listed, .data], laidTests := true, laidLooks := .later }
def IrDoesCardSaid : Prop := Claim7.holds Tryz.pinned (.plain (OpenSpec.ofChange irDoesSpec)) irDoesCard

/-- THE SECOND FORM's CARD OF 'calquelaw13.IrDoes'. -/
def irDoesUptoCard : Claim7 := { stood := { row := irDoesUptoRow, standIns := [], harness := (true, "57308a5af2ce54e7ea9c9a36155f9409d5af0f2e3a72fd74238d932ca7e24c53"), looks := false }, kinds := [], alts := [], laidByText := true, laidKinds := [.data, .data, .data, .listed, .data], laidTests := true, laidLooks := .later }
def IrDoesUptoCardSaid : Prop := Claim7.holds Tryz.pinned (.plain (OpenSpec.upto irDoesSpec)) irDoesUptoCard
end Rows
end Go.Proofs.YtebbokaocobmgaaGreatDoor
