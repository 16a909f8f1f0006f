/- Layer 23: functions of words whose answers only have to be there. -/
import Derived.Test.YthcncbbnjbhdkaaGreatDoorSf
import Derived.Test.YthcncbbnjbhdkaaGreatDoorCXex
namespace Go.Proofs.YthcncbbnjbhdkaaGreatDoor
open Go Go.Proofs Go.RowKit Go.CX Go.SX Go.CX.Cp
def doE (k : Nat) : Ex := ⟨62, 70, [.int .u64], [.int .i64, .int .u64, .int .u64], [some (iE k), none, none]⟩
def lessE : Ex := ⟨103, 72, [.int .u64, .bool, .bool], [.int .u64, .int .u64, .bool, .int .i64], [none, none, some (.bool false), some (iE 8)]⟩
def fieldE (s : Nat) (sg : Bool) : Ex := ⟨105, 71, [.int .u64], [.int .u64, .int .i64, .int .i64, .bool], [none, some (iE 0), some (iE s), some (.bool sg)]⟩
def syX : List (Nat × List So) := [(4, [.int .u32, .bool]), (70, [.int .u64]), (71, [.int .u64]), (72, [.int .u64, .bool, .bool])]
noncomputable def exT (x : Ex) : Bool := exR Tryz.prog syX x ext0 3000 10 200
end Go.Proofs.YthcncbbnjbhdkaaGreatDoor

/- Layer 23: the instructions of a step, by their forms. -/
namespace Go.Proofs.YthcncbbnjbhdkaaGreatDoor
open Go Go.Proofs Go.RowKit Go.CX Go.SX Go.CX.Cp
def o0 : Option E := some (iE 0)
def u0 : Option E := some (uE 0)
/-- Three registers. -/
def cond3 (o : Nat) : Facts := regC (o + 2) 32 ++ (regC (o + 3) 32 ++ regC (o + 4) 32)
def cond2 (o : Nat) : Facts := regC (o + 2) 32 ++ regC (o + 3) 32
def cond4 (o : Nat) : Facts := cond3 o ++ regC (o + 5) 32
def mE : E := mkShf .shl .u64 (.var 57) (uE 0)
def inst3 (op : Nat) : List (Option E) := [some (iE op), some (iE 8), none, none, none, o0, u0, o0, o0, o0, o0]
def bin3 (op : Nat) (b : BinOp) : In := ⟨inst3 op, cond3, mkBin b .u64 (.var 56) mE, [], .bool true⟩
def do3 (op k : Nat) : In := ⟨inst3 op, cond3, .app 70 0 (toL [iE k, .var 56, .var 57]), [], .bool true⟩
def lessT (j : Nat) (m : E) : E := .app 72 j (toL [.var 56, m, .bool false, iE 8])
def flagsT (m : E) : List E := [mkEql (mkBin .rem .u64 (mkShf .shr .u64 (lessT 0 m) (uE 63)) (uE 2)) (uE 1), mkEql (lessT 0 m) (uE 0), mkNot (lessT 1 m), lessT 2 m]
def subsI : In := ⟨inst3 8, cond3, lessT 0 mE, flagsT mE, .bool true⟩
def subs0I : In := ⟨[some (iE 4), some (iE 8), none, none, o0, o0, u0, o0, o0, o0, o0], fun o => regC (o + 2) 32 ++ regC (o + 3) 31, lessT 0 (uE 0), flagsT (uE 0), .bool true⟩
def maddI : In := ⟨[some (iE 19), some (iE 8), none, none, none, none, u0, o0, o0, o0, o0], cond4, mkBin .add .u64 (.var 58) (mkBin .mul .u64 (.var 56) (.var 57)), [], .bool true⟩
/-- The conditions that are wanted: not equal, not less, not less with signs. -/
def holdV (c : Nat) : E := if Nat.beq c 1 then .not (.var 32) else if Nat.beq c 2 then .var 33 else .beq (.var 31) (.var 34)
def holdP (c : Nat) : Pt := ⟨51, [(true, ssC), (false, [.int .i64])], List.replicate 43 none ++ [some (iE c)], [], [], false, [(false, [holdV c])]⟩
noncomputable def holdR (c : Nat) : Bool := ptR Tryz.prog syX (holdP c) ext0 3000 10 60
noncomputable def holdsX (cx : Cx) : ExtT := orX (ptX cx (holdP 1)) (orX (ptX cx (holdP 2)) (ptX cx (holdP 10)))
def holdI (c : Nat) (a b : E) : E := if Nat.beq c 1 then .ite (.var 32) b a else if Nat.beq c 2 then .ite (.var 33) a b else .ite (.beq (.var 31) (.var 34)) a b
def instC (op c : Nat) : List (Option E) := [some (iE op), some (iE 8), none, none, none, o0, u0, o0, some (iE c), o0, o0]
def cselI (c : Nat) : In := ⟨instC 31 c, cond3, holdI c (.var 56) (.var 57), [], .bool true⟩
def csincI (c : Nat) : In := ⟨instC 32 c, cond3, holdI c (.var 56) (mkBin .add .u64 (.var 57) (uE 1)), [], .bool true⟩
def fieldI (s : Nat) (sg : Bool) : In := ⟨[some (iE (if sg then 30 else 29)), some (iE 8), none, none, o0, o0, u0, o0, o0, o0, some (iE s)], cond2, .app 71 0 (toL [.var 56, iE 0, iE s, .bool sg]), [], .bool true⟩
noncomputable def exsX (cx : Cx) : ExtT := orX (exX cx (doE 7)) (orX (exX cx (doE 8)) (orX (exX cx (doE 9)) (orX (exX cx (doE 10)) (orX (exX cx (doE 11)) (orX (exX cx (doE 12)) (orX (exX cx (doE 13)) (orX (exX cx lessE)
  (orX (exX cx (fieldE 7 false)) (orX (exX cx (fieldE 15 false)) (orX (exX cx (fieldE 31 false)) (orX (exX cx (fieldE 63 false)) (orX (exX cx (fieldE 7 true)) (orX (exX cx (fieldE 15 true)) (orX (exX cx (fieldE 31 true)) (exX cx (fieldE 63 true))))))))))))))))
noncomputable def doneY (i : In) : Bool := ptR Tryz.prog syX (doneP i) (orX (orX (holdsX (cxS Tryz.prog syX (smP (doneP i)))) (extN (cxS Tryz.prog syX (smP (doneP i))) i)) (exsX (cxS Tryz.prog syX (smP (doneP i))))) 3000 10 60
noncomputable def doneYW (i j : In) : Bool := ptR Tryz.prog syX (doneP i) (orX (orX (holdsX (cxS Tryz.prog syX (smP (doneP i)))) (extN (cxS Tryz.prog syX (smP (doneP i))) j)) (exsX (cxS Tryz.prog syX (smP (doneP i))))) 3000 10 60
end Go.Proofs.YthcncbbnjbhdkaaGreatDoor
