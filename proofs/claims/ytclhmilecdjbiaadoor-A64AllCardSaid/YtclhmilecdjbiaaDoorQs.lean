/- Layer 20: the law of several instructions: what carries it out. -/
import Derived.Test.YtclhmilecdjbiaaDoorQo
namespace Go.Proofs.YtclhmilecdjbiaaDoor
open Go Go.Proofs Go.RowKit Go.CX Go.SX
def ssV : List So := [.one, .int .i64, .any]
noncomputable def cxV : Cx := ⟨Tryd.prog, ssV, [], [⟨0, 1, 2, ssE⟩], syL⟩
noncomputable def extV : ExtT := orX (orX (conX cxV ⟨11, 9, psE⟩) (conX cxV ⟨12, 9, psE⟩)) (orX (orX (sideX cxV 10 9 psE encYes encNo) (sideX cxV 16 9 psE rencYes fun _ => none)) (trueX 15))
/-- the k-th instruction's cells -/
noncomputable def esV2 (k : Nat) : List E := (List.range 11).map fun j => .el (.var 2) (.int .i64 (Int.ofNat k)) 11 j (ssE.getD j .any)
noncomputable def lenF (n : Nat) : Facts := if Nat.blt n 20 then addF cxV (.cmp .eql (.var 1) (.int .i64 (Int.ofNat n))) true [] else addF cxV (.cmp .lss (.var 1) (.int .i64 20)) false []
/-- The first k may be; the next one may not, if there is one. -/
noncomputable def factsV (n k : Nat) : Facts := ((List.range k).map fun j => ((.app 9 0 (toL (esV2 j)), true) : E × Bool)) ++ (if Nat.blt k n then [(.app 9 0 (toL (esV2 k)), false)] else []) ++ lenF n
noncomputable def runV (n k : Nat) : Bool := endsC cxV extV 3000 0 4 [.one ⟨false, [.e (.var 0)]⟩] 60 (factsV n k) (yesK cxV)
/-- One length, all cases. -/
noncomputable def runsV (n : Nat) : Bool := (List.range (n + 1)).all fun k => runV n k
end Go.Proofs.YtclhmilecdjbiaaDoor
