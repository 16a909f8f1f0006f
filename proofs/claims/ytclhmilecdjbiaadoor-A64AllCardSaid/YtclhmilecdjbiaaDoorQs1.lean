/- Layer 20: the law of several instructions, carried out. -/
import Derived.Test.YtclhmilecdjbiaaDoorQs
import Derived.KernelRfl
namespace Go.Proofs.YtclhmilecdjbiaaDoor
open Go Go.Proofs Go.RowKit Go.CX Go.SX
set_option maxRecDepth 100000
theorem all_11_0 : runV 11 0 = true := by kernel_rfl
theorem all_11_1 : runV 11 1 = true := by kernel_rfl
theorem all_11_2 : runV 11 2 = true := by kernel_rfl
theorem all_11_3 : runV 11 3 = true := by kernel_rfl
theorem all_11_4 : runV 11 4 = true := by kernel_rfl
theorem all_11_5 : runV 11 5 = true := by kernel_rfl
theorem all_11_6 : runV 11 6 = true := by kernel_rfl
theorem all_11_7 : runV 11 7 = true := by kernel_rfl
theorem all_11_8 : runV 11 8 = true := by kernel_rfl
theorem all_11_9 : runV 11 9 = true := by kernel_rfl
theorem all_11_10 : runV 11 10 = true := by kernel_rfl
theorem all_11_11 : runV 11 11 = true := by kernel_rfl
theorem all_12_0 : runV 12 0 = true := by kernel_rfl
theorem all_12_1 : runV 12 1 = true := by kernel_rfl
theorem all_12_2 : runV 12 2 = true := by kernel_rfl
theorem all_12_3 : runV 12 3 = true := by kernel_rfl
theorem all_12_4 : runV 12 4 = true := by kernel_rfl
theorem all_12_5 : runV 12 5 = true := by kernel_rfl
theorem all_12_6 : runV 12 6 = true := by kernel_rfl
theorem all_12_7 : runV 12 7 = true := by kernel_rfl
theorem all_12_8 : runV 12 8 = true := by kernel_rfl
theorem all_12_9 : runV 12 9 = true := by kernel_rfl
theorem all_12_10 : runV 12 10 = true := by kernel_rfl
theorem all_12_11 : runV 12 11 = true := by kernel_rfl
theorem all_12_12 : runV 12 12 = true := by kernel_rfl
theorem all_13_0 : runV 13 0 = true := by kernel_rfl
theorem all_13_1 : runV 13 1 = true := by kernel_rfl
theorem all_13_2 : runV 13 2 = true := by kernel_rfl
theorem all_13_3 : runV 13 3 = true := by kernel_rfl
theorem all_13_4 : runV 13 4 = true := by kernel_rfl
theorem all_13_5 : runV 13 5 = true := by kernel_rfl
theorem all_13_6 : runV 13 6 = true := by kernel_rfl
theorem all_13_7 : runV 13 7 = true := by kernel_rfl
theorem all_13_8 : runV 13 8 = true := by kernel_rfl
theorem all_13_9 : runV 13 9 = true := by kernel_rfl
theorem all_13_10 : runV 13 10 = true := by kernel_rfl
theorem all_13_11 : runV 13 11 = true := by kernel_rfl
theorem all_13_12 : runV 13 12 = true := by kernel_rfl
theorem all_13_13 : runV 13 13 = true := by kernel_rfl
end Go.Proofs.YtclhmilecdjbiaaDoor
