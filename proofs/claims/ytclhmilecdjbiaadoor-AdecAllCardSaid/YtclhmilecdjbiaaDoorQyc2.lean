/- Layer 21: the document's Decode, carried out: part 3. -/
import Derived.Test.YtclhmilecdjbiaaDoorQyb
import Derived.KernelRfl
namespace Go.Proofs.YtclhmilecdjbiaaDoor
open Go Go.Proofs Go.RowKit Go.CX Go.SX
set_option maxRecDepth 100000
theorem dec_2 : decR 2 = true := by kernel_rfl
theorem dec_5 : decR 5 = true := by kernel_rfl
theorem dec_8 : decR 8 = true := by kernel_rfl
theorem dec_11 : decR 11 = true := by kernel_rfl
theorem dec_14 : decR 14 = true := by kernel_rfl
theorem dec_17 : decR 17 = true := by kernel_rfl
theorem dec_20 : decR 20 = true := by kernel_rfl
theorem dec_23 : decR 23 = true := by kernel_rfl
theorem dec_26 : decR 26 = true := by kernel_rfl
theorem dec_29 : decR 29 = true := by kernel_rfl
theorem dec_32 : decR 32 = true := by kernel_rfl
theorem dec_35 : decR 35 = true := by kernel_rfl
theorem dec_38 : decR 38 = true := by kernel_rfl
theorem dec_41 : decR 41 = true := by kernel_rfl
theorem dec_44 : decR 44 = true := by kernel_rfl
theorem dec_47 : decR 47 = true := by kernel_rfl
theorem top_2 : topR 2 = true := by kernel_rfl
theorem top_5 : topR 5 = true := by kernel_rfl
theorem top_8 : topR 8 = true := by kernel_rfl
theorem top_11 : topR 11 = true := by kernel_rfl
theorem top_14 : topR 14 = true := by kernel_rfl
theorem top_17 : topR 17 = true := by kernel_rfl
theorem top_20 : topR 20 = true := by kernel_rfl
theorem top_23 : topR 23 = true := by kernel_rfl
theorem top_26 : topR 26 = true := by kernel_rfl
theorem top_29 : topR 29 = true := by kernel_rfl
theorem top_32 : topR 32 = true := by kernel_rfl
theorem top_35 : topR 35 = true := by kernel_rfl
theorem top_38 : topR 38 = true := by kernel_rfl
theorem top_41 : topR 41 = true := by kernel_rfl
theorem top_44 : topR 44 = true := by kernel_rfl
theorem top_47 : topR 47 = true := by kernel_rfl
end Go.Proofs.YtclhmilecdjbiaaDoor
