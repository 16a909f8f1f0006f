/-
  DERIVED. GIVEN WITH THE SEED: THE CARDS: each row of YtbpcidpladnhfaaDoorRows.lean that lists a variable, with what it lists TIED to the program's text (the seventh form; the later family's looks); each row that meets fmt, with fmt's text TOLD by the authors' own Lean function (tested against real Go, not proved from fmt's source: count such statements apart). THE CARD IS WHAT COUNTS. Prove the row's statement (the work); the ties are given (YtbpcidpladnhfaaDoorTie.lean); close each card by the builder's one call (the guide's Derived/Test/ToyasCard.lean, 'card_holds'). Laid BY PROGRAM, IN A SANDBOX (cutbox-door.mjs). By AI agents, Wed Nov 11 2026. No macro, syntax, notation, axiom, sorry.
-/
import Derived.Test.YtbpcidpladnhfaaDoorRows
import GoSem.ClaimSeven
namespace Go.Proofs.YtbpcidpladnhfaaDoor
namespace Rows

/-- THE TIED CARD OF 'calquelaw22.AsemKeeps'. -/
def asemKeepsCard : Claim7 := { stood := { row := asemKeepsRow, standIns := [], harness := (true, "15df13d3d220c6c705261d91239fe6e765d8620f41817e3d4413bf39856305f4"), looks := false }, kinds := [], alts := [], laidByText := true, laidKinds := [.data, .data, .data], laidTests := true, laidLooks := .later }
def AsemKeepsCardSaid : Prop := Claim7.holds Tryd.pinned (.plain (OpenSpec.ofChange asemKeepsSpec)) asemKeepsCard

/-- THE TIED CARD OF 'calquelaw22.AsemBits'. -/
def asemBitsCard : Claim7 := { stood := { row := asemBitsRow, standIns := [], harness := (true, "15df13d3d220c6c705261d91239fe6e765d8620f41817e3d4413bf39856305f4"), looks := false }, kinds := [], alts := [], laidByText := true, laidKinds := [.data, .data, .data], laidTests := true, laidLooks := .later }
def AsemBitsCardSaid : Prop := Claim7.holds Tryd.pinned (.plain (OpenSpec.ofChange asemBitsSpec)) asemBitsCard

/-- THE SECOND FORM's CARD OF 'calquelaw22.AsemKeeps'. -/
def asemKeepsUptoCard : Claim7 := { stood := { row := asemKeepsUptoRow, standIns := [], harness := (true, "15df13d3d220c6c705261d91239fe6e765d8620f41817e3d4413bf39856305f4"), looks := false }, kinds := [], alts := [], laidByText := true, laidKinds := [.data, .data, .data], laidTests := true, laidLooks := .later }
def AsemKeepsUptoCardSaid : Prop := Claim7.holds Tryd.pinned (.plain (OpenSpec.upto asemKeepsSpec)) asemKeepsUptoCard

/-- THE SECOND FORM's CARD OF 'calquelaw22.AsemBits'. -/
def asemBitsUptoCard : Claim7 := { stood := { row := asemBitsUptoRow, standIns := [], harness := (true, "15df13d3d220c6c705261d91239fe6e765d8620f41817e3d4413bf39856305f4"), looks := false }, kinds := [], alts := [], laidByText := true, laidKinds := [.data, .data, .data], laidTests := true, laidLooks := .later }
def AsemBitsUptoCardSaid : Prop := Claim7.holds Tryd.pinned (.plain (OpenSpec.upto asemBitsSpec)) asemBitsUptoCard
end Rows
end Go.Proofs.YtbpcidpladnhfaaDoor
