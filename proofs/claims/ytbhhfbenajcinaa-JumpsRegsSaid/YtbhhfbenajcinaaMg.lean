import Derived.Test.YtbhhfbenajcinaaSXx
import Derived.KernelRfl
import Derived.Test.YtbhhfbenajcinaaMx
namespace Go.Proofs.Ytbhhfbenajcinaa
open Go Go.SX Go.Proofs
noncomputable def cx3 : Cx := ⟨Try.prog, ssI, [], [], sy3⟩
noncomputable def DL : List (Nat × Def) := [(3, .fn ssI V3), (6, .fn (sortsP g6.ps) V6), (18, .fn (sortsP g18.ps) V18)]
theorem ok3 : (Def.fn ssI V3).ok ph3 3 := DS.get ds3 (by kernel_rfl)
theorem dsDL : DS ph3 DL := DS.put (DS.put (DS.put (DS.nil _) (DS.get ds3 (by kernel_rfl))) (DS.get ds3 (by kernel_rfl))) ok3
def cFact (f d k : Nat) : E × Bool := if Nat.blt k 16 then (.beq (bitE f k) (docE d k), true) else (bitE f k, false)
noncomputable def FT : Facts := (mayV, true) :: (awE, true) :: ((List.range 32).map (cFact 5 10) ++ (List.range 32).map (cFact 7 11))
noncomputable def FF : Facts := [(mayV, false), (.cmp .eql (.app 5 0 (toL (varsE 20))) (.int .u32 (.ofNat 0)), true), (.cmp .eql (.app 7 0 (toL (varsE 20))) (.int .u32 (.ofNat 0)), true), (awE, true)]
noncomputable def lawE : E := .app 3 0 (toL (varsE 20))
theorem run_no : evS cx3 DL 3000 lawE [] (varsE 20) FF = true := by kernel_rfl
theorem run_yes : evS cx3 DL 3000 lawE [] (varsE 20) FT = true := by kernel_rfl
end Go.Proofs.Ytbhhfbenajcinaa
