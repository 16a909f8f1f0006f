/- The law carried out at operations. -/
import Derived.Test.YtdpbalongdcjbaaDoorJa
import Derived.KernelRfl
namespace Go.Proofs.YtdpbalongdcjbaaDoor
open Go Go.Proofs Go.RowKit Go.CX
set_option maxRecDepth 100000
set_option maxRecDepth 100000
theorem run_1 : runJ (.int .i64 (.ofNat 1)) [] = true := by kernel_rfl
theorem run_5 : runJ (.int .i64 (.ofNat 5)) [] = true := by kernel_rfl
theorem run_9 : runJ (.int .i64 (.ofNat 9)) [] = true := by kernel_rfl
theorem run_13 : runJ (.int .i64 (.ofNat 13)) [] = true := by kernel_rfl
theorem run_17 : runJ (.int .i64 (.ofNat 17)) [] = true := by kernel_rfl
theorem run_21 : runJ (.int .i64 (.ofNat 21)) [] = true := by kernel_rfl
theorem run_25 : runJ (.int .i64 (.ofNat 25)) [] = true := by kernel_rfl
theorem run_29 : runJ (.int .i64 (.ofNat 29)) [] = true := by kernel_rfl
theorem run_33 : runJ (.int .i64 (.ofNat 33)) [] = true := by kernel_rfl
theorem run_37 : runJ (.int .i64 (.ofNat 37)) [] = true := by kernel_rfl
theorem run_41 : runJ (.int .i64 (.ofNat 41)) [] = true := by kernel_rfl
theorem run_45 : runJ (.int .i64 (.ofNat 45)) [] = true := by kernel_rfl
end Go.Proofs.YtdpbalongdcjbaaDoor
