/-
  NARROWER THAN 'FOR EVERY INPUT', by the rows' own cells (each row's printed sentence says how): TsoNil: laid.
  DERIVED. THE GIVEN ROWS OF THIS SEAT. 1 by the template 'for every input the law returns true; each argument reads behind the call as it read before'; 0 by the template 'total and deterministic' (their statements: YtbfemcblcdfaaaaGreatDoorTotals.lean).
  GIVEN WITH THE SEED: the statements are not yours to turn. If you find one false, say at which input.
  Laid BY PROGRAM, IN A SANDBOX (cutbox-rows.mjs): the forced cells as the released guide's own fill.sh prints them over the translation 2cf286dcc5ee6c8d… (all of the seat's roots in one cut). By AI agents, Wed Nov 11 2026. No macro, syntax, notation, axiom, sorry.
-/
import Derived.Test.YtbfemcblcdfaaaaGreatDoorChecked
import GoSem.Claim
import GoSem.ClaimJoined
import GoSem.ClaimMapViews
import Derived.JoinedTies
import Derived.KernelRfl
namespace Go.Proofs.YtbfemcblcdfaaaaGreatDoor
/- THE CELL 'sum', in the pinned program and in every row, IS THE sha256 OF THE DUMP (.gsa) THAT YtbfemcblcdfaaaaGreatDoorProg.lean LOADS. Nothing in Lean hashes anything: it is a label: what it is worth is what the hold of that sum in a sandbox is worth. -/
noncomputable def Tryz.pinned : Pinned := { name := "ytbfemcblcdfaaaagreatdoor", sum := "2cf286dcc5ee6c8dc96b99db711e8bcd56fc8589142cbdbda1cd683b7ee11a8a", checked := Tryz.checked }
namespace Rows
def none {H : Type} : Left H := { results := [], args := [] }

/- WHAT THE LISTED PACKAGE-LEVEL VARIABLES READ AS WHEN THE CALL BEGINS. Each datum BY PROGRAM (the guide's laid-datum.mjs) off the statement by which the dump's own 'gosem.cut.vars' lays the variable. In a bare row this is a premise. The card (YtbfemcblcdfaaaaGreatDoorCards.lean) ties it to the program's text. -/
def laid_calque_xflag_flagBits {H : Type} : DataW H := .agg [.lit (.int .u64 1), .lit (.int .u64 4), .lit (.int .u64 64), .lit (.int .u64 128), .lit (.int .u64 2048)]

/-- 'calquelaw27.TsoNil': WHATEVER THE INPUT: true; the input reads as it did. -/
def tsoNilSpec : ChangeSpec := { name := "tsoNil", fn := fun _ => fun
  | [d] => { results := [.lit (.bool true)], args := [d] }
  | _ => none }
def tsoNilRow : OpenClaim := { program := "ytbfemcblcdfaaaagreatdoor", sum := "2cf286dcc5ee6c8dc96b99db711e8bcd56fc8589142cbdbda1cd683b7ee11a8a", func := "calque/calquelaw27.TsoNil", spec := "tsoNil", inPlace := ["internal/bytealg.IndexByteString"], unfollowed := true, recurses := true, named := ["calque/xflag.flagBits"], apart := false, laid := [("calque/xflag.flagBits", laid_calque_xflag_flagBits)] }
def TsoNilSaid : Prop := tsoNilRow.holds Tryz.pinned (OpenSpec.ofChange tsoNilSpec)

/-- ITS FALSE NEIGHBOUR: 'it returns false'. Refute it at one input. -/
def tsoNilWrong : ChangeSpec := { name := "tsoNil", fn := fun _ => fun
  | [d] => { results := [.lit (.bool false)], args := [d] }
  | _ => none }
def TsoNilWrongFalsely : Prop := tsoNilRow.holds Tryz.pinned (OpenSpec.ofChange tsoNilWrong)

/- THE SECOND FORM. 'bulk': how many values and letters a reading holds, each counted each time it is reached (what is shared counts as often as it is met; a slice's spare places count too). A statement '..UptoSaid' is the law's where the arguments, and the package variables that the reading takes, are together of bulk at most 1048576: NARROWER than '..Said'. Prove '..Said' where nothing that the law and all that it calls make is longer than what came in: it says more and counts as full. Else prove '..UptoSaid'. A law counts once. -/
mutual
def uptoBulk {H : Type} : DataW H → Nat
  | .lit (.string bytes) => bytes.length + 1
  | .lit _ => 1
  | .nil => 1
  | .ptr d => uptoBulk d + 1
  | .slice elems spare => uptoBulkAll elems + uptoBulkAll spare + 1
  | .agg parts => uptoBulkAll parts + 1
  | .iface _ d => uptoBulk d + 1
  | .map entries => uptoBulkEntries entries + 1
  | .held _ => 1
def uptoBulkAll {H : Type} : List (DataW H) → Nat
  | [] => 0
  | d :: r => uptoBulk d + uptoBulkAll r
def uptoBulkEntries {H : Type} : List (Lit × DataW H) → Nat
  | [] => 0
  | x :: r => uptoBulkEntry x + uptoBulkEntries r
def uptoBulkEntry {H : Type} : Lit × DataW H → Nat
  | (.string bytes, d) => bytes.length + uptoBulk d + 1
  | (_, d) => uptoBulk d + 1
 end
def uptoSmall : (H : Type) → List (DataW H) → Bool := fun _ ds => decide (uptoBulkAll ds ≤ 1048576)
def OpenSpec.upto (s : _root_.Go.ChangeSpec) : _root_.Go.OpenSpec := { _root_.Go.OpenSpec.ofChange s with cond := some uptoSmall }

/-- 'calquelaw27.TsoNil', WHERE WHAT IT READS IS OF BULK AT MOST 1048576: true; the input reads as it did. -/
def tsoNilUptoRow : OpenClaim := { program := "ytbfemcblcdfaaaagreatdoor", sum := "2cf286dcc5ee6c8dc96b99db711e8bcd56fc8589142cbdbda1cd683b7ee11a8a", func := "calque/calquelaw27.TsoNil", spec := "tsoNil", inPlace := ["internal/bytealg.IndexByteString"], unfollowed := true, recurses := true, named := ["calque/xflag.flagBits"], apart := false, laid := [("calque/xflag.flagBits", laid_calque_xflag_flagBits)], narrowed := true }
def TsoNilUptoSaid : Prop := tsoNilUptoRow.holds Tryz.pinned (OpenSpec.upto tsoNilSpec)

end Rows
end Go.Proofs.YtbfemcblcdfaaaaGreatDoor
