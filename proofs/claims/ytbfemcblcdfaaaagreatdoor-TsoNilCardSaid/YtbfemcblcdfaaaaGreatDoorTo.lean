/- Layer 27: the closing example, and the law's own run. -/
import Derived.Test.YtbfemcblcdfaaaaGreatDoorTn
namespace Go.Proofs.YtbfemcblcdfaaaaGreatDoor
open Go Go.Proofs Go.RowKit Go.CX Go.SX
set_option maxRecDepth 100000 in
theorem awake_yes : answersT Tryz.prog vwA extA 3000 12 = true := by kernel_rfl
theorem awake_any (w : World) (h : TabsA w) : Calls Tryz.prog 12 #[] w fun e w' => e = .returned (.bool true) ∧ Below w.heap.size w w' := calls_trueT names_ok awake_yes w h.vw ext_ok
end Go.Proofs.YtbfemcblcdfaaaaGreatDoor
