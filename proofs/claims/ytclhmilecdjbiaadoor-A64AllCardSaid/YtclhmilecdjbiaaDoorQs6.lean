/- Layer 20: the law of several instructions, carried out. -/
import Derived.Test.YtclhmilecdjbiaaDoorQs
import Derived.KernelRfl
namespace Go.Proofs.YtclhmilecdjbiaaDoor
open Go Go.Proofs Go.RowKit Go.CX Go.SX
set_option maxRecDepth 100000
theorem all_20_0 : runV 20 0 = true := by kernel_rfl
theorem all_20_1 : runV 20 1 = true := by kernel_rfl
theorem all_20_2 : runV 20 2 = true := by kernel_rfl
theorem all_20_3 : runV 20 3 = true := by kernel_rfl
theorem all_20_4 : runV 20 4 = true := by kernel_rfl
theorem all_20_5 : runV 20 5 = true := by kernel_rfl
theorem all_20_6 : runV 20 6 = true := by kernel_rfl
theorem all_20_7 : runV 20 7 = true := by kernel_rfl
theorem all_20_8 : runV 20 8 = true := by kernel_rfl
theorem all_20_9 : runV 20 9 = true := by kernel_rfl
theorem all_20_10 : runV 20 10 = true := by kernel_rfl
theorem all_20_11 : runV 20 11 = true := by kernel_rfl
theorem all_20_12 : runV 20 12 = true := by kernel_rfl
theorem all_20_13 : runV 20 13 = true := by kernel_rfl
theorem all_20_14 : runV 20 14 = true := by kernel_rfl
theorem all_20_15 : runV 20 15 = true := by kernel_rfl
theorem all_20_16 : runV 20 16 = true := by kernel_rfl
theorem all_20_17 : runV 20 17 = true := by kernel_rfl
theorem all_20_18 : runV 20 18 = true := by kernel_rfl
theorem all_20_19 : runV 20 19 = true := by kernel_rfl
theorem all_20_20 : runV 20 20 = true := by kernel_rfl
end Go.Proofs.YtclhmilecdjbiaaDoor
