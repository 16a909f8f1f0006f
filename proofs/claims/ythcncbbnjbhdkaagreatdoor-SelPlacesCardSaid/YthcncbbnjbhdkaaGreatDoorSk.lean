/- Layer 23: a step's value, worked in some registers: what the law calls is run with. -/
import Derived.Test.YthcncbbnjbhdkaaGreatDoorSy
import Derived.Test.YthcncbbnjbhdkaaGreatDoorSf
namespace Go.Proofs.YthcncbbnjbhdkaaGreatDoor
open Go Go.Proofs Go.RowKit Go.CX Go.SX Go.CX.Cp
def ssO : List So := [.int .i64, .int .i64, .int .i64, .int .i64, .int .i64, .int .i64, .int .u64, .bool, .int .i64]
def ssW : List So := ssO ++ [.int .u64, .int .u64, .int .u64, .int .i64, .int .i64, .int .i64, .int .i64]
noncomputable def cxK : Cx := ⟨Tryz.prog, ssW, [], [rowsV], syX⟩
noncomputable def extK (ms ds : List Pt) : ExtT := orX (orX (conX2 cxK ⟨45, 4, [(false, [.int .u64])]⟩) (orX (ptsX cxK ms) (ptsX cxK ds))) (orX (getC cxK 52) (smX cxK (rsetM 15)))
def regK (v : Nat) : Facts := [(ixLt (.var v) 0, false), (ixLt (.var v) 31, true)]
def goodF : Facts := regK 12 ++ (regK 13 ++ (regK 14 ++ (regK 15 ++ [(.cmp .eql (.var 13) (.var 14), false), (.cmp .eql (.var 14) (.var 15), false), (.cmp .eql (.var 15) (.var 13), false)])))
def argsK (o : List E) : List CX.SV := [.one ⟨true, o.map .e⟩, .one ⟨true, [.e (.var 9), .e (.var 10), .e (.var 11)]⟩, .one ⟨true, [.e (.var 12), .e (.var 13), .e (.var 14), .e (.var 15)]⟩]
noncomputable def treeK (ms ds : List Pt) (o : List E) (fs : Facts) : Tr := treeD cxK (extK ms ds) 3000 10 29 (argsK o) 60 fs
/-- One end: a value that no register tells, and that it is there. -/
noncomputable def leafK (fs : Facts) : Tr → Option E
  | .leaf (.tup [⟨false, [.e t]⟩, ⟨false, [.e b]⟩]) => if t.lt 12 && ((cxK.so t == .int .u64) && (decK cxK fs b == some true)) then some t else none
  | _ => none
noncomputable def workR (ms ds : List Pt) (o : List E) (fs : Facts) : Bool := (leafK fs (treeK ms ds o (fs ++ goodF))).isSome
/-- None: a nought, and that there is none. -/
def noneK (cx : Cx) (fs : Facts) : CX.SV → Bool
  | .tup [⟨false, [.e t]⟩, ⟨false, [.e b]⟩] => t.eqv (uE 0) && (decK cx fs b == some false)
  | _ => false
noncomputable def noR (o : List E) (fs : Facts) : Bool := endsC cxK (extK [] []) 3000 10 29 (argsK o) 60 fs (noneK cxK)
def opAlu (f : Nat) : List E := [iE 4, iE f, iE 0, .var 3, .var 4, .var 5, uE 0, .bool false, iE 0]
def opExt (w : Nat) (sg : Bool) : List E := [iE 5, iE 0, iE w, .var 3, .var 4, .var 5, uE 0, .bool sg, iE 0]
def opSel : List E := [iE 6, iE 0, iE 0, .var 3, .var 4, .var 5, uE 0, .bool false, iE 0]
def opConst : List E := [iE 1, iE 0, iE 0, .var 3, .var 4, .var 5, .var 6, .bool false, iE 0]
def opAny : List E := [.var 0, .var 1, .var 2, .var 3, .var 4, .var 5, .var 6, .var 7, .var 8]
/-- What is known of the number of a Const. -/
def sg6 : List E := [.var 0, .var 6]
def clsK (y : Bool) (l : List Nat) : Facts := (encF y ++ clsF l).map fun p => (sbE sg6 p.1, p.2)
noncomputable def constK (y : Bool) (l : List Nat) : Bool := workR maysW donesW opConst (clsK y l)
/-- Registers that may not be, in the order in which they are looked at. -/
def apart1 : Facts := regK 13 ++ [(.cmp .eql (.var 13) (.var 14), false)]
def apart2 : Facts := apart1 ++ (regK 14 ++ [(.cmp .eql (.var 14) (.var 15), false)])
def apart3 : Facts := apart2 ++ (regK 15 ++ [(.cmp .eql (.var 15) (.var 13), false)])
def eq0 (v : Nat) (e : E) : E := .cmp .eql (.var v) e
def opKind (k : Nat) : List E := [iE k, .var 1, .var 2, .var 3, .var 4, .var 5, .var 6, .var 7, .var 8]
noncomputable def badK (k : Nat) (fs : Facts) : Bool := noR (opKind k) (fs ++ goodF)
def f0 : E × Bool := (eq0 1 (iE 0), true)
def w0 : E × Bool := (eq0 2 (iE 0), true)
def n0F : E × Bool := (eq0 6 (uE 0), true)
def o0F : E × Bool := (eq0 8 (iE 0), true)
def no (p : E × Bool) : E × Bool := (p.1, !p.2)
def inF (a b : Nat) : Facts := [(ixLt (.var 1) a, false), (ixLt (.var 1) b, true)]
def isW (l : List Bool) : Facts := [(eq0 2 (iE 1), l.getD 0 false), (eq0 2 (iE 2), l.getD 1 false), (eq0 2 (iE 4), l.getD 2 false), (eq0 2 (iE 8), l.getD 3 false)]
end Go.Proofs.YthcncbbnjbhdkaaGreatDoor
