/- Layer 21: the document's Decode, carried out: part 2. -/
import Derived.Test.YtclhmilecdjbiaaDoorQyb
import Derived.KernelRfl
namespace Go.Proofs.YtclhmilecdjbiaaDoor
open Go Go.Proofs Go.RowKit Go.CX Go.SX
set_option maxRecDepth 100000
theorem dec_1 : decR 1 = true := by kernel_rfl
theorem dec_4 : decR 4 = true := by kernel_rfl
theorem dec_7 : decR 7 = true := by kernel_rfl
theorem dec_10 : decR 10 = true := by kernel_rfl
theorem dec_13 : decR 13 = true := by kernel_rfl
theorem dec_16 : decR 16 = true := by kernel_rfl
theorem dec_19 : decR 19 = true := by kernel_rfl
theorem dec_22 : decR 22 = true := by kernel_rfl
theorem dec_25 : decR 25 = true := by kernel_rfl
theorem dec_28 : decR 28 = true := by kernel_rfl
theorem dec_31 : decR 31 = true := by kernel_rfl
theorem dec_34 : decR 34 = true := by kernel_rfl
theorem dec_37 : decR 37 = true := by kernel_rfl
theorem dec_40 : decR 40 = true := by kernel_rfl
theorem dec_43 : decR 43 = true := by kernel_rfl
theorem dec_46 : decR 46 = true := by kernel_rfl
theorem top_1 : topR 1 = true := by kernel_rfl
theorem top_4 : topR 4 = true := by kernel_rfl
theorem top_7 : topR 7 = true := by kernel_rfl
theorem top_10 : topR 10 = true := by kernel_rfl
theorem top_13 : topR 13 = true := by kernel_rfl
theorem top_16 : topR 16 = true := by kernel_rfl
theorem top_19 : topR 19 = true := by kernel_rfl
theorem top_22 : topR 22 = true := by kernel_rfl
theorem top_25 : topR 25 = true := by kernel_rfl
theorem top_28 : topR 28 = true := by kernel_rfl
theorem top_31 : topR 31 = true := by kernel_rfl
theorem top_34 : topR 34 = true := by kernel_rfl
theorem top_37 : topR 37 = true := by kernel_rfl
theorem top_40 : topR 40 = true := by kernel_rfl
theorem top_43 : topR 43 = true := by kernel_rfl
theorem top_46 : topR 46 = true := by kernel_rfl
end Go.Proofs.YtclhmilecdjbiaaDoor
