/-
  DERIVED. GIVEN WITH THE SEED: THE CARDS: each row of YthcncbbnjbhdkaaGreatDoorRows.lean that lists a variable, with what it lists TIED to the program's text (the seventh form; the later family's looks); each row that meets fmt, with fmt's text TOLD by the authors' own Lean function (tested against real Go, not proved from fmt's source: count such statements apart). THE CARD IS WHAT COUNTS. Prove the row's statement (the work); the ties are given (YthcncbbnjbhdkaaGreatDoorTie.lean); close each card by the builder's one call (the guide's Derived/Test/ToyasCard.lean, 'card_holds'). Laid BY PROGRAM, IN A SANDBOX (cutbox-door.mjs). By AI agents, Wed Nov 11 2026. No macro, syntax, notation, axiom, sorry.
-/
import Derived.Test.YthcncbbnjbhdkaaGreatDoorRows
import GoSem.ClaimSeven
namespace Go.Proofs.YthcncbbnjbhdkaaGreatDoor
namespace Rows

/-- THE TIED CARD OF 'calquelaw23.SelConst'. -/
def selConstCard : Claim7 := { stood := { row := selConstRow, standIns := [], harness := (true, "fa5f91ed58e5121009d93266e1aa3de40cac6dc42cdfe902f807a08e7674ba17"), looks := false }, kinds := [], alts := [], laidByText := true, laidKinds := [.data, .data, .data, .listed, .data, .data, .data], laidTests := true, laidLooks := .later }
def SelConstCardSaid : Prop := Claim7.holds Tryz.pinned (.plain (OpenSpec.ofChange selConstSpec)) selConstCard

/-- THE TIED CARD OF 'calquelaw23.SelSteps'. -/
def selStepsCard : Claim7 := { stood := { row := selStepsRow, standIns := [], harness := (true, "fa5f91ed58e5121009d93266e1aa3de40cac6dc42cdfe902f807a08e7674ba17"), looks := false }, kinds := [], alts := [], laidByText := true, laidKinds := [.data, .data, .data, .listed, .data, .data, .data], laidTests := true, laidLooks := .later }
def SelStepsCardSaid : Prop := Claim7.holds Tryz.pinned (.plain (OpenSpec.ofChange selStepsSpec)) selStepsCard

/-- THE TIED CARD OF 'calquelaw23.SelPlaces'. -/
def selPlacesCard : Claim7 := { stood := { row := selPlacesRow, standIns := [], harness := (true, "fa5f91ed58e5121009d93266e1aa3de40cac6dc42cdfe902f807a08e7674ba17"), looks := false }, kinds := [], alts := [], laidByText := true, laidKinds := [.data, .data, .data, .listed, .data, .data, .data], laidTests := true, laidLooks := .later }
def SelPlacesCardSaid : Prop := Claim7.holds Tryz.pinned (.plain (OpenSpec.ofChange selPlacesSpec)) selPlacesCard

/-- THE TIED CARD OF 'calquelaw24.EmitCodes'. -/
def emitCodesCard : Claim7 := { stood := { row := emitCodesRow, standIns := [], harness := (true, "fa5f91ed58e5121009d93266e1aa3de40cac6dc42cdfe902f807a08e7674ba17"), looks := false }, kinds := [], alts := [], laidByText := true, laidKinds := [.data, .data], laidTests := true, laidLooks := .later }
def EmitCodesCardSaid : Prop := Claim7.holds Tryz.pinned (.plain (OpenSpec.ofChange emitCodesSpec)) emitCodesCard

/-- THE TIED CARD OF 'calquelaw24.EmitBad'. -/
def emitBadCard : Claim7 := { stood := { row := emitBadRow, standIns := [], harness := (true, "fa5f91ed58e5121009d93266e1aa3de40cac6dc42cdfe902f807a08e7674ba17"), looks := false }, kinds := [], alts := [], laidByText := true, laidKinds := [.data, .data], laidTests := true, laidLooks := .later }
def EmitBadCardSaid : Prop := Claim7.holds Tryz.pinned (.plain (OpenSpec.ofChange emitBadSpec)) emitBadCard

/-- THE SECOND FORM's CARD OF 'calquelaw23.SelConst'. -/
def selConstUptoCard : Claim7 := { stood := { row := selConstUptoRow, standIns := [], harness := (true, "fa5f91ed58e5121009d93266e1aa3de40cac6dc42cdfe902f807a08e7674ba17"), looks := false }, kinds := [], alts := [], laidByText := true, laidKinds := [.data, .data, .data, .listed, .data, .data, .data], laidTests := true, laidLooks := .later }
def SelConstUptoCardSaid : Prop := Claim7.holds Tryz.pinned (.plain (OpenSpec.upto selConstSpec)) selConstUptoCard

/-- THE SECOND FORM's CARD OF 'calquelaw23.SelSteps'. -/
def selStepsUptoCard : Claim7 := { stood := { row := selStepsUptoRow, standIns := [], harness := (true, "fa5f91ed58e5121009d93266e1aa3de40cac6dc42cdfe902f807a08e7674ba17"), looks := false }, kinds := [], alts := [], laidByText := true, laidKinds := [.data, .data, .data, .listed, .data, .data, .data], laidTests := true, laidLooks := .later }
def SelStepsUptoCardSaid : Prop := Claim7.holds Tryz.pinned (.plain (OpenSpec.upto selStepsSpec)) selStepsUptoCard

/-- THE SECOND FORM's CARD OF 'calquelaw23.SelPlaces'. -/
def selPlacesUptoCard : Claim7 := { stood := { row := selPlacesUptoRow, standIns := [], harness := (true, "fa5f91ed58e5121009d93266e1aa3de40cac6dc42cdfe902f807a08e7674ba17"), looks := false }, kinds := [], alts := [], laidByText := true, laidKinds := [.data, .data, .data, .listed, .data, .data, .data], laidTests := true, laidLooks := .later }
def SelPlacesUptoCardSaid : Prop := Claim7.holds Tryz.pinned (.plain (OpenSpec.upto selPlacesSpec)) selPlacesUptoCard

/-- THE SECOND FORM's CARD OF 'calquelaw24.EmitCodes'. -/
def emitCodesUptoCard : Claim7 := { stood := { row := emitCodesUptoRow, standIns := [], harness := (true, "fa5f91ed58e5121009d93266e1aa3de40cac6dc42cdfe902f807a08e7674ba17"), looks := false }, kinds := [], alts := [], laidByText := true, laidKinds := [.data, .data], laidTests := true, laidLooks := .later }
def EmitCodesUptoCardSaid : Prop := Claim7.holds Tryz.pinned (.plain (OpenSpec.upto emitCodesSpec)) emitCodesUptoCard

/-- THE SECOND FORM's CARD OF 'calquelaw24.EmitBad'. -/
def emitBadUptoCard : Claim7 := { stood := { row := emitBadUptoRow, standIns := [], harness := (true, "fa5f91ed58e5121009d93266e1aa3de40cac6dc42cdfe902f807a08e7674ba17"), looks := false }, kinds := [], alts := [], laidByText := true, laidKinds := [.data, .data], laidTests := true, laidLooks := .later }
def EmitBadUptoCardSaid : Prop := Claim7.holds Tryz.pinned (.plain (OpenSpec.upto emitBadSpec)) emitBadUptoCard
end Rows
end Go.Proofs.YthcncbbnjbhdkaaGreatDoor
