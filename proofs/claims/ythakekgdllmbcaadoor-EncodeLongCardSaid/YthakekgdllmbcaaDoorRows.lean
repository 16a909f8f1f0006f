/-
  NARROWER THAN 'FOR EVERY INPUT', by the rows' own cells (each row's printed sentence says how): EncodeLong: laid.
  DERIVED. THE GIVEN ROWS OF THIS SEAT. 1 by the template 'for every input the law returns true; each argument reads behind the call as it read before'; 0 by the template 'total and deterministic' (their statements: YthakekgdllmbcaaDoorTotals.lean).
  GIVEN WITH THE SEED: the statements are not yours to turn. If you find one false, say at which input.
  Laid BY PROGRAM, IN A SANDBOX (cutbox-rows.mjs): the forced cells as the released guide's own fill.sh prints them over the translation 792df73fea1c1013… (all of the seat's roots in one cut). By AI agents, Wed Nov 11 2026. No macro, syntax, notation, axiom, sorry.
-/
import Derived.Test.YthakekgdllmbcaaDoorChecked
import GoSem.Claim
import GoSem.ClaimJoined
import GoSem.ClaimMapViews
import Derived.JoinedTies
import Derived.KernelRfl
namespace Go.Proofs.YthakekgdllmbcaaDoor
/- THE CELL 'sum', in the pinned program and in every row, IS THE sha256 OF THE DUMP (.gsa) THAT YthakekgdllmbcaaDoorProg.lean LOADS. Nothing in Lean hashes anything: it is a label: what it is worth is what the hold of that sum in a sandbox is worth. -/
noncomputable def Tryd.pinned : Pinned := { name := "ythakekgdllmbcaadoor", sum := "792df73fea1c10136dfaa488f700ffecff79489caab040dd540183dfec313ca5", checked := Tryd.checked }
namespace Rows
def none {H : Type} : Left H := { results := [], args := [] }

/- WHAT THE LISTED PACKAGE-LEVEL VARIABLES READ AS WHEN THE CALL BEGINS. Each datum BY PROGRAM (the guide's laid-datum.mjs) off the statement by which the dump's own 'gosem.cut.vars' lays the variable. In a bare row this is a premise. The card (YthakekgdllmbcaaDoorCards.lean) ties it to the program's text. -/
def laid_calque_xenc_digits {H : Type} : DataW H := .agg [.lit (.int .i64 0), .lit (.int .i64 0), .lit (.int .i64 1), .lit (.int .i64 2), .lit (.int .i64 3), .lit (.int .i64 4), .lit (.int .i64 5), .lit (.int .i64 6), .lit (.int .i64 7), .lit (.int .i64 0), .lit (.int .i64 0), .lit (.int .i64 0), .lit (.int .i64 0), .lit (.int .i64 0), .lit (.int .i64 6), .lit (.int .i64 0), .lit (.int .i64 0), .lit (.int .i64 1), .lit (.int .i64 2), .lit (.int .i64 3), .lit (.int .i64 4), .lit (.int .i64 5), .lit (.int .i64 6), .lit (.int .i64 7), .lit (.int .i64 0), .lit (.int .i64 0), .lit (.int .i64 0), .lit (.int .i64 1), .lit (.int .i64 4), .lit (.int .i64 5), .lit (.int .i64 7), .lit (.int .i64 0), .lit (.int .i64 0), .lit (.int .i64 0), .lit (.int .i64 0), .lit (.int .i64 0), .lit (.int .i64 0), .lit (.int .i64 4), .lit (.int .i64 2), .lit (.int .i64 0), .lit (.int .i64 0), .lit (.int .i64 0), .lit (.int .i64 0), .lit (.int .i64 0), .lit (.int .i64 0), .lit (.int .i64 0), .lit (.int .i64 0), .lit (.int .i64 0)]
def laid_calque_xenc_singles {H : Type} : DataW H := .agg [.lit (.int .i64 0), .lit (.int .i64 0), .lit (.int .i64 0), .lit (.int .i64 0), .lit (.int .i64 0), .lit (.int .i64 0), .lit (.int .i64 0), .lit (.int .i64 0), .lit (.int .i64 0), .lit (.int .i64 0), .lit (.int .i64 0), .lit (.int .i64 4023), .lit (.int .i64 4031), .lit (.int .i64 141), .lit (.int .i64 0), .lit (.int .i64 0), .lit (.int .i64 255), .lit (.int .i64 255), .lit (.int .i64 247), .lit (.int .i64 247), .lit (.int .i64 247), .lit (.int .i64 247), .lit (.int .i64 247), .lit (.int .i64 247), .lit (.int .i64 4015), .lit (.int .i64 105), .lit (.int .i64 0), .lit (.int .i64 0), .lit (.int .i64 0), .lit (.int .i64 0), .lit (.int .i64 0), .lit (.int .i64 135), .lit (.int .i64 4017), .lit (.int .i64 4033), .lit (.int .i64 3904), .lit (.int .i64 3984), .lit (.int .i64 3968), .lit (.int .i64 0), .lit (.int .i64 0), .lit (.int .i64 195), .lit (.int .i64 152), .lit (.int .i64 153), .lit (.int .i64 165), .lit (.int .i64 171), .lit (.int .i64 1027824), .lit (.int .i64 144), .lit (.int .i64 3845), .lit (.int .i64 3851)]

/-- 'calquelaw07.EncodeLong': WHATEVER THE INPUT: true; the input reads as it did. -/
def encodeLongSpec : ChangeSpec := { name := "encodeLong", fn := fun _ => fun
  | [d] => { results := [.lit (.bool true)], args := [d] }
  | _ => none }
def encodeLongRow : OpenClaim := { program := "ythakekgdllmbcaadoor", sum := "792df73fea1c10136dfaa488f700ffecff79489caab040dd540183dfec313ca5", func := "calque/calquelaw07.EncodeLong", spec := "encodeLong", unfollowed := true, recurses := true, named := ["calque/xenc.digits", "calque/xenc.singles"], apart := false, laid := [("calque/xenc.digits", laid_calque_xenc_digits), ("calque/xenc.singles", laid_calque_xenc_singles)] }
def EncodeLongSaid : Prop := encodeLongRow.holds Tryd.pinned (OpenSpec.ofChange encodeLongSpec)

/-- ITS FALSE NEIGHBOUR: 'it returns false'. Refute it at one input. -/
def encodeLongWrong : ChangeSpec := { name := "encodeLong", fn := fun _ => fun
  | [d] => { results := [.lit (.bool false)], args := [d] }
  | _ => none }
def EncodeLongWrongFalsely : Prop := encodeLongRow.holds Tryd.pinned (OpenSpec.ofChange encodeLongWrong)

/- THE SECOND FORM. 'bulk': how many values and letters a reading holds, each counted each time it is reached (what is shared counts as often as it is met; a slice's spare places count too). A statement '..UptoSaid' is the law's where the arguments, and the package variables that the reading takes, are together of bulk at most 1048576: NARROWER than '..Said'. Prove '..Said' where nothing that the law and all that it calls make is longer than what came in: it says more and counts as full. Else prove '..UptoSaid'. A law counts once. -/
mutual
def uptoBulk {H : Type} : DataW H → Nat
  | .lit (.string bytes) => bytes.length + 1
  | .lit _ => 1
  | .nil => 1
  | .ptr d => uptoBulk d + 1
  | .slice elems spare => uptoBulkAll elems + uptoBulkAll spare + 1
  | .agg parts => uptoBulkAll parts + 1
  | .iface _ d => uptoBulk d + 1
  | .map entries => uptoBulkEntries entries + 1
  | .held _ => 1
def uptoBulkAll {H : Type} : List (DataW H) → Nat
  | [] => 0
  | d :: r => uptoBulk d + uptoBulkAll r
def uptoBulkEntries {H : Type} : List (Lit × DataW H) → Nat
  | [] => 0
  | x :: r => uptoBulkEntry x + uptoBulkEntries r
def uptoBulkEntry {H : Type} : Lit × DataW H → Nat
  | (.string bytes, d) => bytes.length + uptoBulk d + 1
  | (_, d) => uptoBulk d + 1
 end
def uptoSmall : (H : Type) → List (DataW H) → Bool := fun _ ds => decide (uptoBulkAll ds ≤ 1048576)
def OpenSpec.upto (s : _root_.Go.ChangeSpec) : _root_.Go.OpenSpec := { _root_.Go.OpenSpec.ofChange s with cond := some uptoSmall }

/-- 'calquelaw07.EncodeLong', WHERE WHAT IT READS IS OF BULK AT MOST 1048576: true; the input reads as it did. -/
def encodeLongUptoRow : OpenClaim := { program := "ythakekgdllmbcaadoor", sum := "792df73fea1c10136dfaa488f700ffecff79489caab040dd540183dfec313ca5", func := "calque/calquelaw07.EncodeLong", spec := "encodeLong", unfollowed := true, recurses := true, named := ["calque/xenc.digits", "calque/xenc.singles"], apart := false, laid := [("calque/xenc.digits", laid_calque_xenc_digits), ("calque/xenc.singles", laid_calque_xenc_singles)], narrowed := true }
def EncodeLongUptoSaid : Prop := encodeLongUptoRow.holds Tryd.pinned (OpenSpec.upto encodeLongSpec)

end Rows
end Go.Proofs.YthakekgdllmbcaaDoor
