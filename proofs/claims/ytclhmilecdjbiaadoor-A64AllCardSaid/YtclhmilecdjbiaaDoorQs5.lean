/- Layer 20: the law of several instructions, carried out. -/
import Derived.Test.YtclhmilecdjbiaaDoorQs
import Derived.KernelRfl
namespace Go.Proofs.YtclhmilecdjbiaaDoor
open Go Go.Proofs Go.RowKit Go.CX Go.SX
set_option maxRecDepth 100000
theorem all_19_0 : runV 19 0 = true := by kernel_rfl
theorem all_19_1 : runV 19 1 = true := by kernel_rfl
theorem all_19_2 : runV 19 2 = true := by kernel_rfl
theorem all_19_3 : runV 19 3 = true := by kernel_rfl
theorem all_19_4 : runV 19 4 = true := by kernel_rfl
theorem all_19_5 : runV 19 5 = true := by kernel_rfl
theorem all_19_6 : runV 19 6 = true := by kernel_rfl
theorem all_19_7 : runV 19 7 = true := by kernel_rfl
theorem all_19_8 : runV 19 8 = true := by kernel_rfl
theorem all_19_9 : runV 19 9 = true := by kernel_rfl
theorem all_19_10 : runV 19 10 = true := by kernel_rfl
theorem all_19_11 : runV 19 11 = true := by kernel_rfl
theorem all_19_12 : runV 19 12 = true := by kernel_rfl
theorem all_19_13 : runV 19 13 = true := by kernel_rfl
theorem all_19_14 : runV 19 14 = true := by kernel_rfl
theorem all_19_15 : runV 19 15 = true := by kernel_rfl
theorem all_19_16 : runV 19 16 = true := by kernel_rfl
theorem all_19_17 : runV 19 17 = true := by kernel_rfl
theorem all_19_18 : runV 19 18 = true := by kernel_rfl
theorem all_19_19 : runV 19 19 = true := by kernel_rfl
end Go.Proofs.YtclhmilecdjbiaaDoor
