/- The law's closing example answers true: its whole run is carried out by the kernel. -/
import Derived.Test.YtdfddpfbjaknoaaGreatProg
import Derived.Test.YtdfddpfbjaknoaaGreatCXj
import Derived.KernelRfl
namespace Go.Proofs.YtdfddpfbjaknoaaGreat
open Go Go.Proofs Go.RowKit Go.CX
set_option maxRecDepth 100000 in
theorem awake_yes : answers Tryz.prog 1000 7 = true := by kernel_rfl
theorem names_ok : namesOk Tryz.prog = true := by kernel_rfl
theorem awake7 (w : World) : Calls Tryz.prog 7 #[] w fun e w' => e = .returned (.bool true) ∧ Below w.heap.size w w' := calls_true names_ok awake_yes w
end Go.Proofs.YtdfddpfbjaknoaaGreat
