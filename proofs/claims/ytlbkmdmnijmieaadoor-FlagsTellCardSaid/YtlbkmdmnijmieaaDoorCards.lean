/-
  DERIVED. GIVEN WITH THE SEED: THE CARDS: each row of YtlbkmdmnijmieaaDoorRows.lean that lists a variable, with what it lists TIED to the program's text (the seventh form; the later family's looks); each row that meets fmt, with fmt's text TOLD by the authors' own Lean function (tested against real Go, not proved from fmt's source: count such statements apart). THE CARD IS WHAT COUNTS. Prove the row's statement (the work); the ties are given (YtlbkmdmnijmieaaDoorTie.lean); close each card by the builder's one call (the guide's Derived/Test/ToyasCard.lean, 'card_holds'). Laid BY PROGRAM, IN A SANDBOX (cutbox-door.mjs). By AI agents, Wed Nov 11 2026. No macro, syntax, notation, axiom, sorry.
-/
import Derived.Test.YtlbkmdmnijmieaaDoorRows
import GoSem.ClaimSeven
namespace Go.Proofs.YtlbkmdmnijmieaaDoor
namespace Rows

/-- THE TIED CARD OF 'calquelaw08.FlagsTell'. -/
def flagsTellCard : Claim7 := { stood := { row := flagsTellRow, standIns := [], harness := (true, "dad08c5dd9a4f788d3860e49b62a523f322e6dfe732d011c50333874aed55df6"), looks := false }, kinds := [], alts := [], laidByText := true, laidKinds := [.data], laidTests := true, laidLooks := .later }
def FlagsTellCardSaid : Prop := Claim7.holds Tryd.pinned (.plain (OpenSpec.ofChange flagsTellSpec)) flagsTellCard

/-- THE SECOND FORM's CARD OF 'calquelaw08.FlagsTell'. -/
def flagsTellUptoCard : Claim7 := { stood := { row := flagsTellUptoRow, standIns := [], harness := (true, "dad08c5dd9a4f788d3860e49b62a523f322e6dfe732d011c50333874aed55df6"), looks := false }, kinds := [], alts := [], laidByText := true, laidKinds := [.data], laidTests := true, laidLooks := .later }
def FlagsTellUptoCardSaid : Prop := Claim7.holds Tryd.pinned (.plain (OpenSpec.upto flagsTellSpec)) flagsTellUptoCard
end Rows
end Go.Proofs.YtlbkmdmnijmieaaDoor
