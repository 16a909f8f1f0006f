/- The law carried out at operations. -/
import Derived.Test.YtdpbalongdcjbaaDoorJa
import Derived.KernelRfl
namespace Go.Proofs.YtdpbalongdcjbaaDoor
open Go Go.Proofs Go.RowKit Go.CX
set_option maxRecDepth 100000
set_option maxRecDepth 100000
theorem run_2 : runJ (.int .i64 (.ofNat 2)) [] = true := by kernel_rfl
theorem run_6 : runJ (.int .i64 (.ofNat 6)) [] = true := by kernel_rfl
theorem run_10 : runJ (.int .i64 (.ofNat 10)) [] = true := by kernel_rfl
theorem run_14 : runJ (.int .i64 (.ofNat 14)) [] = true := by kernel_rfl
theorem run_18 : runJ (.int .i64 (.ofNat 18)) [] = true := by kernel_rfl
theorem run_22 : runJ (.int .i64 (.ofNat 22)) [] = true := by kernel_rfl
theorem run_26 : runJ (.int .i64 (.ofNat 26)) [] = true := by kernel_rfl
theorem run_30 : runJ (.int .i64 (.ofNat 30)) [] = true := by kernel_rfl
theorem run_34 : runJ (.int .i64 (.ofNat 34)) [] = true := by kernel_rfl
theorem run_38 : runJ (.int .i64 (.ofNat 38)) [] = true := by kernel_rfl
theorem run_42 : runJ (.int .i64 (.ofNat 42)) [] = true := by kernel_rfl
theorem run_46 : runJ (.int .i64 (.ofNat 46)) [] = true := by kernel_rfl
end Go.Proofs.YtdpbalongdcjbaaDoor
