/- Layer 20: the law of several instructions, carried out. -/
import Derived.Test.YtclhmilecdjbiaaDoorQs
import Derived.KernelRfl
namespace Go.Proofs.YtclhmilecdjbiaaDoor
open Go Go.Proofs Go.RowKit Go.CX Go.SX
set_option maxRecDepth 100000
theorem all_18_0 : runV 18 0 = true := by kernel_rfl
theorem all_18_1 : runV 18 1 = true := by kernel_rfl
theorem all_18_2 : runV 18 2 = true := by kernel_rfl
theorem all_18_3 : runV 18 3 = true := by kernel_rfl
theorem all_18_4 : runV 18 4 = true := by kernel_rfl
theorem all_18_5 : runV 18 5 = true := by kernel_rfl
theorem all_18_6 : runV 18 6 = true := by kernel_rfl
theorem all_18_7 : runV 18 7 = true := by kernel_rfl
theorem all_18_8 : runV 18 8 = true := by kernel_rfl
theorem all_18_9 : runV 18 9 = true := by kernel_rfl
theorem all_18_10 : runV 18 10 = true := by kernel_rfl
theorem all_18_11 : runV 18 11 = true := by kernel_rfl
theorem all_18_12 : runV 18 12 = true := by kernel_rfl
theorem all_18_13 : runV 18 13 = true := by kernel_rfl
theorem all_18_14 : runV 18 14 = true := by kernel_rfl
theorem all_18_15 : runV 18 15 = true := by kernel_rfl
theorem all_18_16 : runV 18 16 = true := by kernel_rfl
theorem all_18_17 : runV 18 17 = true := by kernel_rfl
theorem all_18_18 : runV 18 18 = true := by kernel_rfl
end Go.Proofs.YtclhmilecdjbiaaDoor
