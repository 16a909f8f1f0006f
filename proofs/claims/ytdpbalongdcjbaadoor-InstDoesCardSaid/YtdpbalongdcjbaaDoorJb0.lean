/- The law carried out at operations. -/
import Derived.Test.YtdpbalongdcjbaaDoorJa
import Derived.KernelRfl
namespace Go.Proofs.YtdpbalongdcjbaaDoor
open Go Go.Proofs Go.RowKit Go.CX
set_option maxRecDepth 100000
set_option maxRecDepth 100000
theorem run_4 : runJ (.int .i64 (.ofNat 4)) [] = true := by kernel_rfl
theorem run_8 : runJ (.int .i64 (.ofNat 8)) [] = true := by kernel_rfl
theorem run_12 : runJ (.int .i64 (.ofNat 12)) [] = true := by kernel_rfl
theorem run_16 : runJ (.int .i64 (.ofNat 16)) [] = true := by kernel_rfl
theorem run_20 : runJ (.int .i64 (.ofNat 20)) [] = true := by kernel_rfl
theorem run_24 : runJ (.int .i64 (.ofNat 24)) [] = true := by kernel_rfl
theorem run_28 : runJ (.int .i64 (.ofNat 28)) [] = true := by kernel_rfl
theorem run_32 : runJ (.int .i64 (.ofNat 32)) [] = true := by kernel_rfl
theorem run_36 : runJ (.int .i64 (.ofNat 36)) [] = true := by kernel_rfl
theorem run_40 : runJ (.int .i64 (.ofNat 40)) [] = true := by kernel_rfl
theorem run_44 : runJ (.int .i64 (.ofNat 44)) [] = true := by kernel_rfl
theorem run_lo : runJ (.var 0) [(.cmp .lss (.var 0) (.int .i64 1), true)] = true := by kernel_rfl
theorem run_hi : runJ (.var 0) [(.cmp .lss (.int .i64 47) (.var 0), true)] = true := by kernel_rfl
end Go.Proofs.YtdpbalongdcjbaaDoor
