import Derived.Test.YtbhhfbenajcinaaSXx
import Derived.KernelRfl
import Derived.Test.YtbhhfbenajcinaaMw
namespace Go.Proofs.Ytbhhfbenajcinaa
open Go Go.SX Go.Proofs
theorem ok5 : (Def.fn (sortsP g5.ps) V5).ok phB 5 := DS.get dsB (by kernel_rfl)
theorem ok7 : (Def.fn (sortsP g7.ps) V7).ok phB 7 := DS.get dsB (by kernel_rfl)
theorem ok16 : (Def.fn (sortsP g16.ps) V16).ok phB 16 := DS.get dsB (by kernel_rfl)
theorem ok19 : (Def.fn (sortsP g19.ps) V19).ok phB 19 := DS.get dsB (by kernel_rfl)
theorem ok17 : (Def.fn (sortsP g17.ps) V17).ok phB 17 := DS.get dsB (by kernel_rfl)
theorem ok41 : (Def.fn (sortsP g41.ps) V41).ok phB 41 := DS.get dsB (by kernel_rfl)
theorem ok22 : (Def.fn (sortsP g22.ps) V22).ok phB 22 := DS.get dsB (by kernel_rfl)
theorem ok20 : (Def.fn (sortsP g20.ps) V20).ok phB 20 := DS.get dsB (by kernel_rfl)
theorem ok10 : (Def.fn (sortsP g10.ps) V10).ok phB 10 := DS.get dsB (by kernel_rfl)
theorem ok11 : (Def.fn (sortsP g11.ps) V11).ok phB 11 := DS.get dsB (by kernel_rfl)
theorem ok31 : (Def.fn (sortsP g31.ps) V31).ok phB 31 := DS.get dsB (by kernel_rfl)
theorem ok31_l : (Def.lp (sortsP (lp31_l.ins.map (·.2))) lp31_l.mu V31_l (badE lp31_l)).ok phB 1031 := DS.get dsB (by kernel_rfl)
theorem ok30 : (Def.fn (sortsP g30.ps) V30).ok phB 30 := DS.get dsB (by kernel_rfl)
noncomputable def DC : List (Nat × Def) := [(5, .fn (sortsP g5.ps) V5), (7, .fn (sortsP g7.ps) V7), (15, .fn ssI (.leaf [.app 8 0 (toL (varsE 20))])), (21, .fn ssW V21c), (16, .fn (sortsP g16.ps) V16), (19, .fn (sortsP g19.ps) V19), (17, .fn (sortsP g17.ps) V17), (1021, .lp (sortsP (lp21_l.ins.map (·.2))) lp21_l.mu V21_l (badE lp21_l)), (41, .fn (sortsP g41.ps) V41), (22, .fn (sortsP g22.ps) V22), (20, .fn (sortsP g20.ps) V20), (10, .fn (sortsP g10.ps) V10), (11, .fn (sortsP g11.ps) V11), (31, .fn (sortsP g31.ps) V31), (1031, .lp (sortsP (lp31_l.ins.map (·.2))) lp31_l.mu V31_l (badE lp31_l)), (30, .fn (sortsP g30.ps) V30), (42, .fn (sortsP g42.ps) V42), (48, .fn (sortsP g48.ps) V48), (53, .fn (sortsP g53.ps) V53), (55, .fn (sortsP g55.ps) V55), (1055, .lp (sortsP (lp55_l.ins.map (·.2))) lp55_l.mu V55_l (badE lp55_l))]
theorem dsDC : DS phB DC := (DS.put (DS.put (DS.put (DS.put (DS.put (DS.put (DS.put (DS.put (DS.put (DS.put (DS.put (DS.put (DS.put (DS.put (DS.put (DS.put (DS.put (DS.put (DS.put (DS.put (DS.put (DS.nil _) ok55_l) ok55) ok53) ok48) ok42) ok30) ok31_l) ok31) ok11) ok10) ok20) ok22) ok41) ok21_l) ok17) ok19) ok16) ok21c) ok15c) ok7) ok5)
noncomputable def mayV : E := .app 8 0 (toL (varsE 20))
def lit (n : Nat) : E := .int .i64 (.ofNat n)
def eqV (v n : Nat) : E := .cmp .eql (.var v) (lit n)
def kabE : List (Nat × Nat) → E
  | [] => .bool false
  | c :: cs => .ite (.ite (eqV 3 c.1) (eqV 9 c.2) (.bool false)) (.bool true) (kabE cs)
def extE (w : Option Nat) : E := match w with
  | some w => eqV 1 w
  | none => .bool true
/-- What a valid instruction has for sure. -/
noncomputable def shp (cs : List (Nat × Nat)) (w : Option Nat) : E := .ite mayV (.ite (eqV 1 3) (.bool false) (.ite (extE w) (kabE cs) (.bool false))) (.bool true)
def asOp (op : Nat) : List E := (varsE 20).set 0 (lit op)
noncomputable def shOp (op : Nat) (cs : List (Nat × Nat)) (w : Option Nat) : Bool := evS cxI DMa 2000 (shp cs w) [] (asOp op) []
def runAs (op a b : Nat) (w : Option Nat) : List E :=
  match w with
  | some w => (((asOp op).set 3 (lit a)).set 9 (lit b)).set 1 (lit w)
  | none => ((asOp op).set 3 (lit a)).set 9 (lit b)
def runFs (l : List E) : Facts := [(.app 8 0 (toL l), true), (eqV 1 3, false)]
def bitV (k : Nat) : E := .cmp .eql (.bin .rem .u32 (.shf .shr .u32 (.var 20) (.int .u64 (.ofNat k))) (.int .u32 (.ofNat 2))) (.int .u32 (.ofNat 1))
def docE (d k : Nat) : E := .app d 0 (toL (varsE 20 ++ [lit k]))
def yV (d k : Nat) : E := if Nat.blt k 16 then .beq (bitV k) (docE d k) else .not (bitV k)
def ysV (d : Nat) : List E := (List.range 32).map (yV d)
noncomputable def regRun (f d op : Nat) (w : Option Nat) (c : Nat × Nat) : Bool := evK cxI DC 1000 (.app f 0 (toL (varsE 20))) (runAs op c.1 c.2 w) (runFs (runAs op c.1 c.2 w)) (ysV d)
noncomputable def regOp (f d op : Nat) (cs : List (Nat × Nat)) (w : Option Nat) : Bool := cs.all (regRun f d op w)

end Go.Proofs.Ytbhhfbenajcinaa
