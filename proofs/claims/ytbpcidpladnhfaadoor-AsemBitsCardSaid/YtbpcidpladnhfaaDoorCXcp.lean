/- Layer 22's calls, as data: a register is read, a register is written, a condition holds. -/
import Derived.Test.YtbpcidpladnhfaaDoorCXsu
namespace Go.CX.Cp
open Go Go.RowKit Go.SX Go.CX
def balT (x : E) (f : Nat → E) : Nat → Nat → Nat → E
  | 0, lo, _ => f lo
  | m + 1, lo, n => if Nat.beq n 1 then f lo else .ite (ixLt x (lo + n / 2)) (balT x f m lo (n / 2)) (balT x f m (lo + n / 2) (n - n / 2))
/-- What a number picks, or something else. -/
def tabT (x : E) (f : Nat → E) (N : Nat) (d : E) : E := .ite (ixLt x 0) d (.ite (ixLt x N) (balT x f N 0 N) d)
def regs : List So := List.replicate 31 (.int .u64)
def ssC : List So := regs ++ [.bool, .bool, .bool, .bool, .int .u64, .int .i64, .bool, .bool, .bool, .int .u64, .int .u64, .int .i64]
def ssP : List So := regs ++ [.bool, .bool, .bool, .bool, .int .u64, .bool, .bool, .bool, .bool, .bool, .int .u64, .int .u64, .int .i64]
def i1 : Bool × List So := (false, [.int .i64])
def u1 : Bool × List So := (false, [.int .u64])
def getT (x : E) : E := tabT x .var 31 (.int .u64 0)
def setT (x v : E) (n : Nat) : List E := (List.range n).map fun k => if Nat.blt k 31 then .ite (.cmp .eql x (.int .i64 (Int.ofNat k))) v (.var k) else .var k
def holdT (n z c v x : E) : E := tabT x (fun k => [z, .not z, c, .not c, n, .not n, v, .not v, .ite c (.not z) (.bool false), .not (.ite c (.not z) (.bool false)), .beq n v, .not (.beq n v), .ite (.beq n v) (.not z) (.bool false), .not (.ite (.beq n v) (.not z) (.bool false)), .bool true, .bool true].getD k (.bool true)) 16 (.bool false)
def getM (f : FuncId) : Sm := ⟨f, ssP, [i1], false, [(false, [getT (.var 44)])], none⟩
def setM (f : FuncId) : Sm := ⟨f, ssP, [i1, u1], true, [], some (setT (.var 44) (.var 45) 44)⟩
def rgetM (f : FuncId) : Sm := ⟨f, [], [(true, ssC), i1], false, [(false, [getT (.var 43)])], none⟩
def rsetM (f : FuncId) : Sm := ⟨f, [], [(true, ssC), i1, u1], false, [(true, setT (.var 43) (.var 44) 43)], none⟩
def holdM (f : FuncId) : Sm := ⟨f, [], [(true, [.bool, .bool, .bool, .bool]), i1], false, [(false, [holdT (.var 0) (.var 1) (.var 2) (.var 3) (.var 4)])], none⟩
def rholdM (f : FuncId) : Sm := ⟨f, [], [(true, ssC), i1], false, [(false, [holdT (.var 31) (.var 32) (.var 33) (.var 34) (.var 43)])], none⟩
end Go.CX.Cp
