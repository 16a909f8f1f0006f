/-
  DERIVED. GIVEN WITH THE SEED: THE CARDS: each row of YtbpcidpladnhfaaGreatDoorRows.lean that lists a variable, with what it lists TIED to the program's text (the seventh form; the later family's looks); each row that meets fmt, with fmt's text TOLD by the authors' own Lean function (tested against real Go, not proved from fmt's source: count such statements apart). THE CARD IS WHAT COUNTS. Prove the row's statement (the work); the ties are given (YtbpcidpladnhfaaGreatDoorTie.lean); close each card by the builder's one call (the guide's Derived/Test/ToyasCard.lean, 'card_holds'). Laid BY PROGRAM, IN A SANDBOX (cutbox-door.mjs). By AI agents, Wed Nov 11 2026. No macro, syntax, notation, axiom, sorry.
-/
import Derived.Test.YtbpcidpladnhfaaGreatDoorRows
import GoSem.ClaimSeven
namespace Go.Proofs.YtbpcidpladnhfaaGreatDoor
namespace Rows

/-- THE TIED CARD OF 'calquelaw22.AsemDone'. -/
def asemDoneCard : Claim7 := { stood := { row := asemDoneRow, standIns := [], harness := (true, "f9c935f4429838f69896e3a407d2a81e12de7632492cabb562833786556812c1"), looks := false }, kinds := [], alts := [], laidByText := true, laidKinds := [.data, .data, .data], laidTests := true, laidLooks := .later }
def AsemDoneCardSaid : Prop := Claim7.holds Tryz.pinned (.plain (OpenSpec.ofChange asemDoneSpec)) asemDoneCard

/-- THE TIED CARD OF 'calquelaw22.AsemRegs'. -/
def asemRegsCard : Claim7 := { stood := { row := asemRegsRow, standIns := [], harness := (true, "f9c935f4429838f69896e3a407d2a81e12de7632492cabb562833786556812c1"), looks := false }, kinds := [], alts := [], laidByText := true, laidKinds := [.data, .data, .data], laidTests := true, laidLooks := .later }
def AsemRegsCardSaid : Prop := Claim7.holds Tryz.pinned (.plain (OpenSpec.ofChange asemRegsSpec)) asemRegsCard

/-- THE SECOND FORM's CARD OF 'calquelaw22.AsemDone'. -/
def asemDoneUptoCard : Claim7 := { stood := { row := asemDoneUptoRow, standIns := [], harness := (true, "f9c935f4429838f69896e3a407d2a81e12de7632492cabb562833786556812c1"), looks := false }, kinds := [], alts := [], laidByText := true, laidKinds := [.data, .data, .data], laidTests := true, laidLooks := .later }
def AsemDoneUptoCardSaid : Prop := Claim7.holds Tryz.pinned (.plain (OpenSpec.upto asemDoneSpec)) asemDoneUptoCard

/-- THE SECOND FORM's CARD OF 'calquelaw22.AsemRegs'. -/
def asemRegsUptoCard : Claim7 := { stood := { row := asemRegsUptoRow, standIns := [], harness := (true, "f9c935f4429838f69896e3a407d2a81e12de7632492cabb562833786556812c1"), looks := false }, kinds := [], alts := [], laidByText := true, laidKinds := [.data, .data, .data], laidTests := true, laidLooks := .later }
def AsemRegsUptoCardSaid : Prop := Claim7.holds Tryz.pinned (.plain (OpenSpec.upto asemRegsSpec)) asemRegsUptoCard
end Rows
end Go.Proofs.YtbpcidpladnhfaaGreatDoor
