/-
  DERIVED. GIVEN WITH THE SEED: THE CARDS: each row of YthakekgdllmbcaaDoorRows.lean that lists a variable, with what it lists TIED to the program's text (the seventh form; the later family's looks); each row that meets fmt, with fmt's text TOLD by the authors' own Lean function (tested against real Go, not proved from fmt's source: count such statements apart). THE CARD IS WHAT COUNTS. Prove the row's statement (the work); the ties are given (YthakekgdllmbcaaDoorTie.lean); close each card by the builder's one call (the guide's Derived/Test/ToyasCard.lean, 'card_holds'). Laid BY PROGRAM, IN A SANDBOX (cutbox-door.mjs). By AI agents, Wed Nov 11 2026. No macro, syntax, notation, axiom, sorry.
-/
import Derived.Test.YthakekgdllmbcaaDoorRows
import GoSem.ClaimSeven
namespace Go.Proofs.YthakekgdllmbcaaDoor
namespace Rows

/-- THE TIED CARD OF 'calquelaw07.EncodeLong'. -/
def encodeLongCard : Claim7 := { stood := { row := encodeLongRow, standIns := [], harness := (true, "57a8a57b5ab7b9556f98ec69fe25f4f53ae44e35243479b7a7c3826330c2f426"), looks := false }, kinds := [], alts := [], laidByText := true, laidKinds := [.data, .data], laidTests := true, laidLooks := .later }
def EncodeLongCardSaid : Prop := Claim7.holds Tryd.pinned (.plain (OpenSpec.ofChange encodeLongSpec)) encodeLongCard

/-- THE SECOND FORM's CARD OF 'calquelaw07.EncodeLong'. -/
def encodeLongUptoCard : Claim7 := { stood := { row := encodeLongUptoRow, standIns := [], harness := (true, "57a8a57b5ab7b9556f98ec69fe25f4f53ae44e35243479b7a7c3826330c2f426"), looks := false }, kinds := [], alts := [], laidByText := true, laidKinds := [.data, .data], laidTests := true, laidLooks := .later }
def EncodeLongUptoCardSaid : Prop := Claim7.holds Tryd.pinned (.plain (OpenSpec.upto encodeLongSpec)) encodeLongUptoCard
end Rows
end Go.Proofs.YthakekgdllmbcaaDoor
