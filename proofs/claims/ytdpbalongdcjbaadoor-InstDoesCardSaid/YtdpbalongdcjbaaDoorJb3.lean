/- The law carried out at operations. -/
import Derived.Test.YtdpbalongdcjbaaDoorJa
import Derived.KernelRfl
namespace Go.Proofs.YtdpbalongdcjbaaDoor
open Go Go.Proofs Go.RowKit Go.CX
set_option maxRecDepth 100000
set_option maxRecDepth 100000
theorem run_3 : runJ (.int .i64 (.ofNat 3)) [] = true := by kernel_rfl
theorem run_7 : runJ (.int .i64 (.ofNat 7)) [] = true := by kernel_rfl
theorem run_11 : runJ (.int .i64 (.ofNat 11)) [] = true := by kernel_rfl
theorem run_15 : runJ (.int .i64 (.ofNat 15)) [] = true := by kernel_rfl
theorem run_19 : runJ (.int .i64 (.ofNat 19)) [] = true := by kernel_rfl
theorem run_23 : runJ (.int .i64 (.ofNat 23)) [] = true := by kernel_rfl
theorem run_27 : runJ (.int .i64 (.ofNat 27)) [] = true := by kernel_rfl
theorem run_31 : runJ (.int .i64 (.ofNat 31)) [] = true := by kernel_rfl
theorem run_35 : runJ (.int .i64 (.ofNat 35)) [] = true := by kernel_rfl
theorem run_39 : runJ (.int .i64 (.ofNat 39)) [] = true := by kernel_rfl
theorem run_43 : runJ (.int .i64 (.ofNat 43)) [] = true := by kernel_rfl
theorem run_47 : runJ (.int .i64 (.ofNat 47)) [] = true := by kernel_rfl
end Go.Proofs.YtdpbalongdcjbaaDoor
