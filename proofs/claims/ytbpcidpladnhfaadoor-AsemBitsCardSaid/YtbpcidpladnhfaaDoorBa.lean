/- Layer 22: what is turned is turned back, what is cut out, what is put together: the law's run. -/
import Derived.Test.YtbpcidpladnhfaaDoorAa
import Derived.Test.YtbpcidpladnhfaaDoorQn
import Derived.Test.YtbpcidpladnhfaaDoorFd
namespace Go.Proofs.YtbpcidpladnhfaaDoor
open Go Go.Proofs Go.RowKit Go.CX Go.SX Go.CX.Cp
def syB : List (Nat × List So) := [(9, [.bool]), (45, [.int .u64])]
noncomputable def cxB : Cx := ⟨Tryd.prog, [.int .u64, .int .i64, .int .i64, .int .i64], [], [], syB⟩
def vkw : List (Bool × List So) := [(false, [.int .u64]), (false, [.int .i64]), (false, [.int .i64])]
noncomputable def extB : ExtT := orX (orX (conX cxB ⟨13, 9, psE⟩) (trueX 11)) (conX cxB ⟨57, 45, vkw⟩)
def iE (n : Nat) : E := .int .i64 (Int.ofNat n)
def uE (n : Nat) : E := .int .u64 (Int.ofNat n)
def kE : E := .bin .and .i64 (.var 1) (iE 63)
def atE : E := .bin .and .i64 (.var 2) (iE 63)
def freeE : E := .bin .sub .i64 (iE 64) atE
def remE : E := .bin .rem .i64 (.var 3) freeE
def manyE : E := .ite (.cmp .lss remE (iE 0)) (.bin .sub .i64 (iE 0) remE) remE
def sE : E := .bin .add .i64 atE manyE
def partE (k : Nat) : E := .bin .and .u64 (.shf .shr .u64 (.var 0) (uE k)) (uE 65535)
def lowE : E := .bin .and .u64 (.var 0) (uE 65535)
def topE : E := .shf .shr .u64 (.var 0) (uE 48)
def instE (op d n m : Nat) (imm : E) (r s : E) : List E := [iE op, iE 8, iE d, iE n, iE m, iE 0, imm, iE 0, iE 0, r, s]
def insts8 : List (List E) := [instE 28 4 1 2 (uE 0) (iE 0) (iE 0), instE 28 4 4 3 (uE 0) (iE 0) (iE 0), instE 29 5 1 0 (uE 0) atE sE, instE 30 6 1 0 (uE 0) atE sE, instE 16 7 0 0 lowE (iE 0) (iE 0), instE 18 7 0 0 (partE 16) (iE 0) (iE 1), instE 18 7 0 0 (partE 32) (iE 0) (iE 2), instE 18 7 0 0 topE (iE 0) (iE 3)]
def factsB : Facts := (.cmp .eql freeE (iE 0), false) :: insts8.map fun es => ((.app 9 0 (toL es), true) : E × Bool)
def backE (x : E) : E := .bin .sub .i64 (iE 0) (.conv .i64 (.bin .rem .u64 (.conv .u64 x) (uE 64)))
def turnE (v k : E) : E := .app 45 0 (toL [v, k, iE 8])
def leftE : E := .shf .shl .u64 (.shf .shr .u64 (.var 0) (.conv .u64 atE)) (.conv .u64 (.bin .sub .i64 (iE 63) manyE))
def up63 : E := .conv .u64 (.bin .sub .i64 (iE 63) manyE)
def putE (g v : E) (k : Nat) : E := .bin .or .u64 (.bin .andNot .u64 g (uE (65535 * 2 ^ k))) (.shf .shl .u64 v (uE k))
def eqsB : List (E × E) := [(turnE (turnE (.var 0) (backE kE)) (backE (.bin .sub .i64 (iE 64) kE)), .var 0), (cutT false (.var 0) atE sE, .shf .shr .u64 leftE up63), (cutT true (.var 0) atE sE, .conv .u64 (.shf .shr .i64 (.conv .i64 leftE) up63)),
  (putE (putE (putE (.shf .shl .u64 lowE (uE 0)) (partE 16) 16) (partE 32) 32) topE 48, .var 0)]
def ruleB : RuleT := fun _ op a b => match op with
  | .eql => if eqsB.any fun p => a.eqv p.1 && b.eqv p.2 then some true else none
  | _ => none
noncomputable def bitsR : Bool := endsC cxB extB 3000 10 4 [.one ⟨false, [.e (.var 0)]⟩, .one ⟨false, [.e (.var 1)]⟩, .one ⟨false, [.e (.var 2)]⟩, .one ⟨false, [.e (.var 3)]⟩] 60 factsB (sureE cxB ruleB 300)
set_option maxRecDepth 100000
theorem bits_yes : bitsR = true := by kernel_rfl
end Go.Proofs.YtbpcidpladnhfaaDoor
