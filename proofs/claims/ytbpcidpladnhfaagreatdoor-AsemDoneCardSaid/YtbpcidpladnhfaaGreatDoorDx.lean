/- Layer 22: what the law of an instruction calls, as symbols and as terms. -/
import Derived.Test.YtbpcidpladnhfaaGreatDoorAa
import Derived.Test.YtbpcidpladnhfaaGreatDoorQn
import Derived.Test.YtbpcidpladnhfaaGreatDoorBity
import Derived.Test.YtbpcidpladnhfaaGreatDoorDc
import Derived.Test.YtbpcidpladnhfaaGreatDoorFe
namespace Go.Proofs.YtbpcidpladnhfaaGreatDoor
open Go Go.Proofs Go.RowKit Go.CX Go.SX Go.CX.Cp
open Cq (U64 zx neg sumC sumO lessC lessO turn mhi mlo shi)
def sy22 : List (Nat × List So) := [(9, [.bool]), (41, [.int .u64]), (42, [.any, .bool, .bool]), (43, [.any, .bool, .bool]), (44, [.bool]), (45, [.int .u64]), (46, [.int .u64, .int .u64]), (47, [.int .u64, .int .u64])]
def n0 (fl : List Value) : Int := vint (fl.getD 0 undef)
def n1 (fl : List Value) : Int := vint (fl.getD 1 undef)
def n2 (fl : List Value) : Int := vint (fl.getD 2 undef)
def w64 (n : Int) : Value := .int .u64 (IntKind.u64.wrap n)
noncomputable def ph22 (f : Nat) (fl : List Value) : List Value := match f with
  | 9 => [.bool (okB fl)]
  | 41 => [w64 (zx (n0 fl) (n1 fl))]
  | 42 => [undef, .bool (sumC (n0 fl) (n1 fl) false 8), .bool (sumO (n0 fl) (n1 fl) false 8)]
  | 43 => [undef, .bool (lessC (n0 fl) (n1 fl) false 8), .bool (lessO (n0 fl) (n1 fl) false 8)]
  | 44 => [.bool (neg (n0 fl) (n1 fl))]
  | 45 => [w64 (turn (n0 fl) (n1 fl) (n2 fl))]
  | 46 => [w64 (mhi (n0 fl * n1 fl)), w64 (mlo (n0 fl * n1 fl))]
  | 47 => [w64 (shi (n0 fl) (n1 fl)), w64 (mlo (n0 fl * n1 fl))]
  | _ => []
theorem w64_has (n : Int) : (So.int .u64).has (w64 n) := ⟨_, rfl, wrap_range .u64 _⟩
theorem fit22 : ∀ f j args, (symS sy22 f j).has ((ph22 f args).getD j undef) := by
  intro f j args
  by_cases h9 : f = 9
  · subst h9; match j with
    | 0 => exact ⟨_, rfl⟩
    | j + 1 => exact trivial
  by_cases h41 : f = 41
  · subst h41; match j with
    | 0 => exact w64_has _
    | j + 1 => exact trivial
  by_cases h42 : f = 42
  · subst h42; match j with
    | 0 => exact trivial
    | 1 => exact ⟨_, rfl⟩
    | 2 => exact ⟨_, rfl⟩
    | j + 3 => exact trivial
  by_cases h43 : f = 43
  · subst h43; match j with
    | 0 => exact trivial
    | 1 => exact ⟨_, rfl⟩
    | 2 => exact ⟨_, rfl⟩
    | j + 3 => exact trivial
  by_cases h44 : f = 44
  · subst h44; match j with
    | 0 => exact ⟨_, rfl⟩
    | j + 1 => exact trivial
  by_cases h45 : f = 45
  · subst h45; match j with
    | 0 => exact w64_has _
    | j + 1 => exact trivial
  by_cases h46 : f = 46
  · subst h46; match j with
    | 0 => exact w64_has _
    | 1 => exact w64_has _
    | j + 2 => exact trivial
  by_cases h47 : f = 47
  · subst h47; match j with
    | 0 => exact w64_has _
    | 1 => exact w64_has _
    | j + 2 => exact trivial
  have nb : ∀ k, ¬ f = k → Nat.beq k f = false := fun k h => nbeq_no (fun e => h e.symm)
  have : lookA f sy22 = none := by
    unfold sy22
    simp only [lookA, nb 9 h9, nb 41 h41, nb 42 h42, nb 43 h43, nb 44 h44, nb 45 h45, nb 46 h46, nb 47 h47, Bool.false_eq_true, if_false]
  unfold symS
  rw [this]; exact trivial
/-- The context: a cpu, an instruction, what was loaded, whether it was stored. -/
noncomputable def cx22 : Cx := ⟨Tryz.prog, ssC ++ (ssE ++ [.int .u64, .bool]), [], [], sy22⟩
/-- A sum or a difference without what comes in, at eight bytes. -/
def sumX (cx : Cx) (f : FuncId) (sym : Nat) (op : BinOp) : ExtT := fun g args _ n _ => if Nat.beq g f then (match args with
  | [.one ⟨false, [.e a]⟩, .one ⟨false, [.e b]⟩, .one ⟨false, [.e (.bool false)]⟩, .one ⟨false, [.e (.int .i64 (.ofNat 8))]⟩] => if (cx.so a == .int .u64) && (cx.so b == .int .u64) then some (.ok ⟨.tup [⟨false, [.e (mkBin op .u64 a b)]⟩, ⟨false, [.e (.app sym 1 (toL [a, b]))]⟩, ⟨false, [.e (.app sym 2 (toL [a, b]))]⟩], [], n⟩) else none
  | _ => none) else none
def doT (k : Nat) (a b : E) : Option E := match k with
  | 7 => some (.app 46 0 (toL [a, b]))
  | 8 => some (.app 47 0 (toL [a, b]))
  | 9 => some (.ite (mkEql b (.int .u64 0)) (.int .u64 0) (mkBin .quo .u64 a b))
  | 10 => some (.ite (mkEql b (.int .u64 0)) (.int .u64 0) (.conv .u64 (mkBin .quo .i64 (.conv .i64 a) (.conv .i64 b))))
  | 11 => some (mkShf .shl .u64 a (mkBin .rem .u64 b (.int .u64 64)))
  | 12 => some (mkShf .shr .u64 a (mkBin .rem .u64 b (.int .u64 64)))
  | 13 => some (.conv .u64 (mkShf .shr .i64 (.conv .i64 a) (mkBin .rem .u64 b (.int .u64 64))))
  | _ => none
def doX (cx : Cx) (f : FuncId) : ExtT := fun g args _ n _ => if Nat.beq g f then (match args with
  | [.one ⟨false, [.e (.int .i64 (.ofNat k))]⟩, .one ⟨false, [.e a]⟩, .one ⟨false, [.e b]⟩] => if (cx.so a == .int .u64) && (cx.so b == .int .u64) then (doT k a b).map fun e => .ok ⟨.one ⟨false, [.e e]⟩, [], n⟩ else none
  | _ => none) else none
def in64 (cx : Cx) (fs : Facts) (x : E) : Bool := (cx.so x == .int .i64) && (dec cx fs (ixLt x 0) == some false) && (dec cx fs (ixLt x 64) == some true)
def fieldX (cx : Cx) (f : FuncId) : ExtT := fun g args _ n fs => if Nat.beq g f then (match args with
  | [.one ⟨false, [.e a]⟩, .one ⟨false, [.e r]⟩, .one ⟨false, [.e s]⟩, .one ⟨false, [.e (.bool sg)]⟩] => if (cx.so a == .int .u64) && in64 cx fs r && in64 cx fs s then some (.ok ⟨.one ⟨false, [.e (cutT sg a r s)]⟩, [], n⟩) else none
  | _ => none) else none
def vw2 : List (Bool × List So) := [(false, [.int .u64]), (false, [.int .i64])]
def vv2 : List (Bool × List So) := [(false, [.int .u64]), (false, [.int .u64])]
def vkw : List (Bool × List So) := [(false, [.int .u64]), (false, [.int .i64]), (false, [.int .i64])]
noncomputable def ext22 : ExtT := orX (orX (orX (orX (orX (smX cx22 (getM 15)) (smX cx22 (rgetM 16))) (orX (smX cx22 (setM 19)) (smX cx22 (rsetM 20)))) (orX (orX (smX cx22 (holdM 17)) (smX cx22 (rholdM 18))) (hasX 43 1 47 100 hasB)))
    (orX (orX (conX cx22 ⟨23, 9, psE⟩) (conX cx22 ⟨25, 9, psE⟩)) (trueX 14)))
  (orX (orX (orX (conX cx22 ⟨41, 41, vw2⟩) (conX cx22 ⟨27, 41, vw2⟩)) (orX (conX cx22 ⟨111, 44, vw2⟩) (conX cx22 ⟨85, 44, vw2⟩)))
    (orX (orX (orX (sumX cx22 109 42 .add) (sumX cx22 53 42 .add)) (orX (sumX cx22 110 43 .sub) (sumX cx22 55 43 .sub)))
      (orX (orX (conX cx22 ⟨107, 45, vkw⟩) (conX cx22 ⟨57, 45, vkw⟩)) (orX (orX (conX2 cx22 ⟨105, 46, vv2⟩) (conX2 cx22 ⟨106, 47, vv2⟩)) (orX (doX cx22 56) (fieldX cx22 58))))))
noncomputable def es22 (k m : Nat) (s : E) : List E := .int .i64 (Int.ofNat k) :: .int .i64 (Int.ofNat m) :: ((List.range 8).map fun i => .var (i + 45)) ++ [s]
noncomputable def esA22 : List E := (List.range 11).map fun i => .var (i + 43)
noncomputable def runD22 (es : List E) (fs : Facts) (b : Bool) : Bool := endsC cx22 ext22 3000 10 3 [cpuC, .one ⟨true, es.map .e⟩, .one ⟨false, [.e (.var 54)]⟩, .one ⟨false, [.e (.var 55)]⟩] 60 ((.app 9 0 (toL es), b) :: fs) (sureE cx22 (rulesD cx22) 300)
noncomputable def doneR (k m : Nat) : Bool := runD22 (es22 k m (.var 53)) [] true
/-- The shift is a literal. -/
noncomputable def doneS (k s : Nat) : Bool := runD22 (es22 k 8 (.int .i64 (Int.ofNat s))) (if Nat.beq k 18 then [(.cmp .lss (.var 49) (.int .u64 65536), true)] else []) true
noncomputable def doneF (k : Nat) : Bool := runD22 (es22 k 8 (.var 53)) [(.cmp .lss (.var 52) (.int .i64 0), false), (.cmp .lss (.var 52) (.int .i64 64), true), (.cmp .lss (.var 53) (.int .i64 0), false), (.cmp .lss (.var 53) (.int .i64 64), true)] true
end Go.Proofs.YtbpcidpladnhfaaGreatDoor
