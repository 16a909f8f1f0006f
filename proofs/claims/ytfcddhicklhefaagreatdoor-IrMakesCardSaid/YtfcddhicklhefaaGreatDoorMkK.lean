/- IrMakes: the states at the head of the law's loop. -/
import Derived.Test.YtfcddhicklhefaaGreatDoorCXz
import Derived.Test.YtfcddhicklhefaaGreatDoorProg
namespace Go.Mk
open Go Go.CX Go.SX
def sL : Code → Code | .seq a _ => a | c => c
def sR : Code → Code | .seq _ b => b | c => c
def bidOf : Code → Nat | .block i _ => i | _ => 0
def unB : Code → Code | .block _ c => c | c => c
def unL : Code → Code | .loop c => c | c => c
def runL (r : RunT) (fs : Facts) (N : Nat) (base : CX.BK) : List Code → CX.St → RX
  | [], σ => .ok .normal σ
  | c :: cs, σ => andThen (r fs N base c σ) (runL r fs N base cs)
section
variable (B : Code)
def X1 := sR B
def X2 := sR (X1 B)
def X3 := sR (X2 B)
def X4 := sR (X3 B)
def X5 := sR (X4 B)
def X6 := sL (X5 B)
def rest := sR (X5 B)
def bid := bidOf (sR (X6 B))
def loopB := unL (unB (sR (X6 B)))
def pre : List Code := [sL B, sL (X1 B), sL (X2 B), sL (X3 B), sL (X4 B)]
def r6 := sL (X6 B)
end
def i64 (n : Nat) : E := .int .i64 (.ofNat n)
def u64 (n : Nat) : E := .int .u64 (.ofNat n)
def so9 (c : Nat) : So := if Nat.beq c 6 then .int .u64 else if Nat.beq c 7 then .bool else .int .i64
def ss9 : List So := [.int .i64, .int .i64, .int .i64, .int .i64, .int .i64, .int .i64, .int .u64, .bool, .int .i64]
def cxM (P : Program) : Cx := ⟨P, [.any, .int .i64, .any, .int .i64, .any], [], [⟨0, 1, 2, ss9⟩], []⟩
/-- A cell of the element k, of what came in; of what stands for it. -/
def el (k c : Nat) : E := .el (.var 2) (i64 k) 9 c (so9 c)
def nm (k c : Nat) : E := .el (.var 4) (i64 k) 9 c (so9 c)
def convT (j k : Nat) : List E := match j with
  | 1 => [i64 1, i64 0, i64 0, i64 0, i64 0, i64 0, el k 6, .bool false, i64 0]
  | 2 => [i64 2, i64 0, i64 0, i64 0, i64 0, i64 0, .conv .u64 (el k 3), .bool false, i64 0]
  | 3 => [i64 3, i64 0, i64 0, el k 3, i64 0, i64 0, .conv .u64 (el k 4), .bool false, i64 0]
  | 5 => [i64 5, i64 0, el k 2, el k 3, i64 0, i64 0, u64 0, el k 7, i64 0]
  | 6 => [i64 6, i64 0, i64 0, el k 3, el k 4, el k 5, u64 0, .bool false, i64 0]
  | _ => [el k 0, el k 1, el k 2, el k 3, el k 4, el k 5, el k 6, el k 7, el k 8]
def eqs (j k : Nat) : Eqs := (convT j k).zip ((List.range 9).map (nm k))
def kindIs (k j : Nat) : E := .cmp .eql (el k 0) (i64 j)
def kindF (k j : Nat) : Facts := match j with
  | 1 => [(kindIs k 1, true)]
  | 2 => [(kindIs k 2, true), (kindIs k 1, false)]
  | 3 => [(kindIs k 3, true), (kindIs k 1, false), (kindIs k 2, false)]
  | 5 => [(kindIs k 5, true), (kindIs k 1, false), (kindIs k 2, false), (kindIs k 3, false)]
  | 6 => [(kindIs k 6, true), (kindIs k 1, false), (kindIs k 2, false), (kindIs k 3, false), (kindIs k 5, false)]
  | _ => [(kindIs k 1, false), (kindIs k 2, false), (kindIs k 3, false), (kindIs k 5, false), (kindIs k 6, false)]
/-- Few, or more than thirty: what is known of how many there are. -/
def lenF (big : Bool) (k : Nat) : Facts := if big then [(.cmp .lss (i64 30) (.var 1), true)] else [(.cmp .lss (i64 k) (.var 1), true)]
def nilC : CX.SC := .e (.val (.slice none 0 0))
def cells (k : Nat) : List CX.SC := (List.range k).flatMap fun i => (List.range 9).map fun c => .e (nm i c)
def one1 (c : CX.SC) : CX.SV := .one ⟨false, [c]⟩
def rowM (s : CX.SC) : List CX.SC := [.e (u64 0), .e (u64 0), s, .e (i64 0), .e (i64 0), .e (u64 0), .e (u64 0)]
section
variable (idM idW n0 : Nat) (others : Bs) (big : Bool)
def S (k : Nat) : CX.St := ⟨[(25, one1 (.e (i64 k))), (7, one1 (if Nat.beq k 0 then nilC else .sla (n0 + 2) 0 k 1)), (5, one1 (.ptr idM 0)), (6, one1 (.ptr idW 0)), (1, one1 (.e (.var 3))),
    (23, one1 (if big then .vsl 0 30 else .e (.var 0))), (24, one1 (.e (if big then i64 30 else .var 1)))],
  [(idM, some (rowM (if Nat.beq k 0 then nilC else .sla n0 0 k 9))), (idW, some (rowM (if Nat.beq k 0 then nilC else .sla (n0 + 1) 0 k 9)))] ++ (if Nat.beq k 0 then [] else [(n0, some (cells k)), (n0 + 1, some (cells k)), (n0 + 2, some ((List.range k).map fun i => .e (i64 i)))]) ++ others, n0 + 3⟩
def slId : Option CX.SC → Nat
  | some (.sla i _ _ _) => i
  | _ => 0
def rowOf (id : Nat) (σ : CX.St) : List CX.SC := match lookA id σ.dl with
  | some (some r) => r
  | _ => []
def tbOf (σ : CX.St) : List (Nat × Nat) := [(n0, slId ((rowOf idM σ)[2]?)), (n0 + 1, slId ((rowOf idW σ)[2]?)), (n0 + 2, slId ((lookA 7 σ.tmps).bind CX.SV.sc))]
def iterOk (r : RunT) (L : Code) (base : CX.BK) (nn k j : Nat) : Bool := match r (kindF k j ++ lenF big k) 190 base L (S idM idW n0 others big k) with
  | .ok x σ => (match x with | .normal => true | _ => false) && leSt n0 (tbOf idM idW n0 σ) (eqs j k) σ (S idM idW n0 others big (k + 1)) && Nat.ble σ.next nn
  | _ => false
def exF (big : Bool) (k : Nat) : Facts := if big then [(.cmp .lss (i64 30) (.var 1), true)] else [(.cmp .lss (i64 k) (.var 1), false)]
def isTrue (s : Option CX.SV) : Bool := match s with
  | some (.one ⟨false, [.e (.bool true)]⟩) => true
  | _ => false
def exitOk (r : RunT) (L R : Code) (bid : Nat) (base : CX.BK) (nn k : Nat) : Bool := match r (exF big k) 190 base L (S idM idW n0 others big k) with
  | .ok x σ => (match x with | .exit i => Nat.beq i bid | _ => false) && Nat.ble σ.next nn && (match r (exF big k) 190 base R σ with
    | .ok x τ => (match x with | .ret => true | _ => false) && Nat.ble τ.next nn && isTrue (lookA 4 τ.tmps)
    | _ => false)
  | _ => false
def enF (big : Bool) : Facts := [(.cmp .lss (i64 30) (.var 1), big)]
/-- From the function's beginning to the loop. -/
def entryOk (r : RunT) (cs : List Code) (base : CX.BK) : Bool := match runL r (enF big) 190 base cs ⟨argT 0 [.one ⟨false, [.e (.var 0)]⟩, .one ⟨false, [.e (.var 3)]⟩], [], 0⟩ with
  | .ok x σ => (match x with | .normal => true | _ => false) && Nat.beq σ.next n0 && leSt n0 [] [] σ (S idM idW n0 others big 0)
  | _ => false
end
end Go.Mk

namespace Go.Mk
open Go Go.CX Go.SX Go.Proofs
noncomputable def cxP : Cx := cxM Tryz.prog
noncomputable def extP : ExtT := boolX 14 noArgs
noncomputable def bodyP : Code := match Tryz.prog.funcs[3]? with
  | some fn => (match fn.body with | some c => c | none => .skip)
  | none => .skip
noncomputable def rP : RunT := runD cxP extP 10 1000
def b0 : CX.BK := fun _ => none
def js : List Nat := [1, 2, 3, 5, 6, 7]
noncomputable def itK (big : Bool) (k : Nat) : Bool := js.all fun j => iterOk 0 1 2 [] big rP (loopB bodyP) b0 1000000 k j
noncomputable def exK (big : Bool) (k : Nat) : Bool := exitOk 0 1 2 [] big rP (loopB bodyP) (rest bodyP) (bid bodyP) b0 1000000 k
noncomputable def enK (big : Bool) : Bool := entryOk 0 1 2 [] big rP (pre bodyP ++ [r6 bodyP]) b0
end Go.Mk
