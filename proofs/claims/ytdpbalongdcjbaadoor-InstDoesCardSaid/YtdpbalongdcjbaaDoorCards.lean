/-
  DERIVED. GIVEN WITH THE SEED: THE CARDS: each row of YtdpbalongdcjbaaDoorRows.lean that lists a variable, with what it lists TIED to the program's text (the seventh form; the later family's looks); each row that meets fmt, with fmt's text TOLD by the authors' own Lean function (tested against real Go, not proved from fmt's source: count such statements apart). THE CARD IS WHAT COUNTS. Prove the row's statement (the work); the ties are given (YtdpbalongdcjbaaDoorTie.lean); close each card by the builder's one call (the guide's Derived/Test/ToyasCard.lean, 'card_holds'). Laid BY PROGRAM, IN A SANDBOX (cutbox-door.mjs). By AI agents, Wed Nov 11 2026. No macro, syntax, notation, axiom, sorry.
-/
import Derived.Test.YtdpbalongdcjbaaDoorRows
import GoSem.ClaimSeven
namespace Go.Proofs.YtdpbalongdcjbaaDoor
namespace Rows

/-- THE TIED CARD OF 'calquelaw05.InstDoes'. -/
def instDoesCard : Claim7 := { stood := { row := instDoesRow, standIns := [], harness := (true, "6b831e0e07604ca51eff3c3347b18c2b7672a9c740847fc42524bbd40f789215"), looks := false }, kinds := [], alts := [], laidByText := true, laidKinds := [.data, .data, .data, .listed, .data], laidTests := true, laidLooks := .later }
def InstDoesCardSaid : Prop := Claim7.holds Tryd.pinned (.plain (OpenSpec.ofChange instDoesSpec)) instDoesCard

/-- THE SECOND FORM's CARD OF 'calquelaw05.InstDoes'. -/
def instDoesUptoCard : Claim7 := { stood := { row := instDoesUptoRow, standIns := [], harness := (true, "6b831e0e07604ca51eff3c3347b18c2b7672a9c740847fc42524bbd40f789215"), looks := false }, kinds := [], alts := [], laidByText := true, laidKinds := [.data, .data, .data, .listed, .data], laidTests := true, laidLooks := .later }
def InstDoesUptoCardSaid : Prop := Claim7.holds Tryd.pinned (.plain (OpenSpec.upto instDoesSpec)) instDoesUptoCard
end Rows
end Go.Proofs.YtdpbalongdcjbaaDoor
