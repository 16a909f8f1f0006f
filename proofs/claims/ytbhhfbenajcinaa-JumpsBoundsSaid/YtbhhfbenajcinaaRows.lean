/-
  No cell of these rows narrows 'for every input' (looked for: loops, veiled, ifaces, maps, wideKeys, modest, calm, conditions, laid).
  DERIVED. THE GIVEN ROWS OF THIS SEAT. 2 by the template 'for every input the law returns true; each argument reads behind the call as it read before'; 0 by the template 'total and deterministic' (their statements: YtbhhfbenajcinaaTotals.lean).
  GIVEN WITH THE SEED: the statements are not yours to turn. If you find one false, say at which input.
  Laid BY PROGRAM, IN A SANDBOX (cutbox-rows.mjs): the forced cells as the released guide's own fill.sh prints them over the translation 9ccd7ada4b8735da… (all of the seat's roots in one cut). By AI agents, Wed Nov 11 2026. No macro, syntax, notation, axiom, sorry.
-/
import Derived.Test.YtbhhfbenajcinaaChecked
import GoSem.Claim
import GoSem.ClaimJoined
import GoSem.ClaimMapViews
import Derived.JoinedTies
import Derived.KernelRfl
namespace Go.Proofs.Ytbhhfbenajcinaa
/- THE CELL 'sum', in the pinned program and in every row, IS THE sha256 OF THE DUMP (.gsa) THAT YtbhhfbenajcinaaProg.lean LOADS. Nothing in Lean hashes anything: it is a label: what it is worth is what the hold of that sum in a sandbox is worth. -/
noncomputable def Try.pinned : Pinned := { name := "ytbhhfbenajcinaa", sum := "9ccd7ada4b8735da6026f94bb007c8ae765cdbaceeab3a55e9fc7bee5b88cb03", checked := Try.checked }
namespace Rows
def none {H : Type} : Left H := { results := [], args := [] }

/-- 'calquelaw11.JumpsRegs': WHATEVER THE INPUT: true; the input reads as it did. -/
def jumpsRegsSpec : ChangeSpec := { name := "jumpsRegs", fn := fun _ => fun
  | [d] => { results := [.lit (.bool true)], args := [d] }
  | _ => none }
def jumpsRegsRow : OpenClaim := { program := "ytbhhfbenajcinaa", sum := "9ccd7ada4b8735da6026f94bb007c8ae765cdbaceeab3a55e9fc7bee5b88cb03", func := "calque/calquelaw11.JumpsRegs", spec := "jumpsRegs", apart := false }
def JumpsRegsSaid : Prop := jumpsRegsRow.holds Try.pinned (OpenSpec.ofChange jumpsRegsSpec)

/-- ITS FALSE NEIGHBOUR: 'it returns false'. Refute it at one input. -/
def jumpsRegsWrong : ChangeSpec := { name := "jumpsRegs", fn := fun _ => fun
  | [d] => { results := [.lit (.bool false)], args := [d] }
  | _ => none }
def JumpsRegsWrongFalsely : Prop := jumpsRegsRow.holds Try.pinned (OpenSpec.ofChange jumpsRegsWrong)

/-- 'calquelaw11.JumpsBounds': WHATEVER THE INPUT: true; the input reads as it did. -/
def jumpsBoundsSpec : ChangeSpec := { name := "jumpsBounds", fn := fun _ => fun
  | [d] => { results := [.lit (.bool true)], args := [d] }
  | _ => none }
def jumpsBoundsRow : OpenClaim := { program := "ytbhhfbenajcinaa", sum := "9ccd7ada4b8735da6026f94bb007c8ae765cdbaceeab3a55e9fc7bee5b88cb03", func := "calque/calquelaw11.JumpsBounds", spec := "jumpsBounds", apart := false }
def JumpsBoundsSaid : Prop := jumpsBoundsRow.holds Try.pinned (OpenSpec.ofChange jumpsBoundsSpec)

/-- ITS FALSE NEIGHBOUR: 'it returns false'. Refute it at one input. -/
def jumpsBoundsWrong : ChangeSpec := { name := "jumpsBounds", fn := fun _ => fun
  | [d] => { results := [.lit (.bool false)], args := [d] }
  | _ => none }
def JumpsBoundsWrongFalsely : Prop := jumpsBoundsRow.holds Try.pinned (OpenSpec.ofChange jumpsBoundsWrong)

/- THE SECOND FORM. 'bulk': how many values and letters a reading holds, each counted each time it is reached (what is shared counts as often as it is met; a slice's spare places count too). A statement '..UptoSaid' is the law's where the arguments, and the package variables that the reading takes, are together of bulk at most 1048576: NARROWER than '..Said'. Prove '..Said' where nothing that the law and all that it calls make is longer than what came in: it says more and counts as full. Else prove '..UptoSaid'. A law counts once. -/
mutual
def uptoBulk {H : Type} : DataW H → Nat
  | .lit (.string bytes) => bytes.length + 1
  | .lit _ => 1
  | .nil => 1
  | .ptr d => uptoBulk d + 1
  | .slice elems spare => uptoBulkAll elems + uptoBulkAll spare + 1
  | .agg parts => uptoBulkAll parts + 1
  | .iface _ d => uptoBulk d + 1
  | .map entries => uptoBulkEntries entries + 1
  | .held _ => 1
def uptoBulkAll {H : Type} : List (DataW H) → Nat
  | [] => 0
  | d :: r => uptoBulk d + uptoBulkAll r
def uptoBulkEntries {H : Type} : List (Lit × DataW H) → Nat
  | [] => 0
  | x :: r => uptoBulkEntry x + uptoBulkEntries r
def uptoBulkEntry {H : Type} : Lit × DataW H → Nat
  | (.string bytes, d) => bytes.length + uptoBulk d + 1
  | (_, d) => uptoBulk d + 1
 end
def uptoSmall : (H : Type) → List (DataW H) → Bool := fun _ ds => decide (uptoBulkAll ds ≤ 1048576)
def OpenSpec.upto (s : _root_.Go.ChangeSpec) : _root_.Go.OpenSpec := { _root_.Go.OpenSpec.ofChange s with cond := some uptoSmall }

/-- 'calquelaw11.JumpsRegs', WHERE WHAT IT READS IS OF BULK AT MOST 1048576: true; the input reads as it did. -/
def jumpsRegsUptoRow : OpenClaim := { program := "ytbhhfbenajcinaa", sum := "9ccd7ada4b8735da6026f94bb007c8ae765cdbaceeab3a55e9fc7bee5b88cb03", func := "calque/calquelaw11.JumpsRegs", spec := "jumpsRegs", apart := false, narrowed := true }
def JumpsRegsUptoSaid : Prop := jumpsRegsUptoRow.holds Try.pinned (OpenSpec.upto jumpsRegsSpec)

/-- 'calquelaw11.JumpsBounds', WHERE WHAT IT READS IS OF BULK AT MOST 1048576: true; the input reads as it did. -/
def jumpsBoundsUptoRow : OpenClaim := { program := "ytbhhfbenajcinaa", sum := "9ccd7ada4b8735da6026f94bb007c8ae765cdbaceeab3a55e9fc7bee5b88cb03", func := "calque/calquelaw11.JumpsBounds", spec := "jumpsBounds", apart := false, narrowed := true }
def JumpsBoundsUptoSaid : Prop := jumpsBoundsUptoRow.holds Try.pinned (OpenSpec.upto jumpsBoundsSpec)

end Rows
end Go.Proofs.Ytbhhfbenajcinaa
