import Derived.Test.YtfcddhicklhefaaGreatDoorMkK
import Derived.KernelRfl
namespace Go.Mk
open Go Go.CX Go.SX Go.Proofs
set_option maxRecDepth 100000
theorem en_s : enK false = true := by kernel_rfl
theorem en_b : enK true = true := by kernel_rfl
theorem shape : bodyP = .seq (sL bodyP) (.seq (sL (X1 bodyP)) (.seq (sL (X2 bodyP)) (.seq (sL (X3 bodyP)) (.seq (sL (X4 bodyP)) (.seq (.seq (r6 bodyP) (.block (bid bodyP) (.loop (loopB bodyP)))) (rest bodyP)))))) := by kernel_rfl
theorem inFn : (Tryz.prog.funcs[3]?.map fun fn => (fn.ntmps, fn.results.toList, fn.name == "runtime.NumGoroutine")) = some (190, [.tmp 4], false) := by kernel_rfl
end Go.Mk
