import Derived.Test.YtbhhfbenajcinaaSXx
import Derived.KernelRfl
import Derived.Test.YtbhhfbenajcinaaMd
namespace Go.Proofs.Ytbhhfbenajcinaa
open Go Go.SX Go.Proofs
theorem sh_2 : shOp 2 [(1, 1), (1, 2), (1, 3), (2, 1), (2, 3)] none = true := by kernel_rfl
theorem rw_2_11 : regRun 5 10 2 none (1, 1) = true := by kernel_rfl
theorem rw_2_12 : regRun 5 10 2 none (1, 2) = true := by kernel_rfl
theorem rw_2_13 : regRun 5 10 2 none (1, 3) = true := by kernel_rfl
theorem rw_2_21 : regRun 5 10 2 none (2, 1) = true := by kernel_rfl
theorem rw_2_23 : regRun 5 10 2 none (2, 3) = true := by kernel_rfl
theorem rw_2 : regOp 5 10 2 [(1, 1), (1, 2), (1, 3), (2, 1), (2, 3)] none = true := by
  simp only [regOp, List.all_cons, List.all_nil, rw_2_11, rw_2_12, rw_2_13, rw_2_21, rw_2_23, Bool.and_true]
theorem rr_2_11 : regRun 7 11 2 none (1, 1) = true := by kernel_rfl
theorem rr_2_12 : regRun 7 11 2 none (1, 2) = true := by kernel_rfl
theorem rr_2_13 : regRun 7 11 2 none (1, 3) = true := by kernel_rfl
theorem rr_2_21 : regRun 7 11 2 none (2, 1) = true := by kernel_rfl
theorem rr_2_23 : regRun 7 11 2 none (2, 3) = true := by kernel_rfl
theorem rr_2 : regOp 7 11 2 [(1, 1), (1, 2), (1, 3), (2, 1), (2, 3)] none = true := by
  simp only [regOp, List.all_cons, List.all_nil, rr_2_11, rr_2_12, rr_2_13, rr_2_21, rr_2_23, Bool.and_true]
theorem sh_6 : shOp 6 [(1, 1), (1, 2), (1, 3), (2, 1), (2, 3)] none = true := by kernel_rfl
theorem rw_6_11 : regRun 5 10 6 none (1, 1) = true := by kernel_rfl
theorem rw_6_12 : regRun 5 10 6 none (1, 2) = true := by kernel_rfl
theorem rw_6_13 : regRun 5 10 6 none (1, 3) = true := by kernel_rfl
theorem rw_6_21 : regRun 5 10 6 none (2, 1) = true := by kernel_rfl
theorem rw_6_23 : regRun 5 10 6 none (2, 3) = true := by kernel_rfl
theorem rw_6 : regOp 5 10 6 [(1, 1), (1, 2), (1, 3), (2, 1), (2, 3)] none = true := by
  simp only [regOp, List.all_cons, List.all_nil, rw_6_11, rw_6_12, rw_6_13, rw_6_21, rw_6_23, Bool.and_true]
theorem rr_6_11 : regRun 7 11 6 none (1, 1) = true := by kernel_rfl
theorem rr_6_12 : regRun 7 11 6 none (1, 2) = true := by kernel_rfl
theorem rr_6_13 : regRun 7 11 6 none (1, 3) = true := by kernel_rfl
theorem rr_6_21 : regRun 7 11 6 none (2, 1) = true := by kernel_rfl
theorem rr_6_23 : regRun 7 11 6 none (2, 3) = true := by kernel_rfl
theorem rr_6 : regOp 7 11 6 [(1, 1), (1, 2), (1, 3), (2, 1), (2, 3)] none = true := by
  simp only [regOp, List.all_cons, List.all_nil, rr_6_11, rr_6_12, rr_6_13, rr_6_21, rr_6_23, Bool.and_true]
theorem sh_10 : shOp 10 [(1, 1), (1, 2), (1, 3), (2, 1), (2, 3)] none = true := by kernel_rfl
theorem rw_10_11 : regRun 5 10 10 none (1, 1) = true := by kernel_rfl
theorem rw_10_12 : regRun 5 10 10 none (1, 2) = true := by kernel_rfl
theorem rw_10_13 : regRun 5 10 10 none (1, 3) = true := by kernel_rfl
theorem rw_10_21 : regRun 5 10 10 none (2, 1) = true := by kernel_rfl
theorem rw_10_23 : regRun 5 10 10 none (2, 3) = true := by kernel_rfl
theorem rw_10 : regOp 5 10 10 [(1, 1), (1, 2), (1, 3), (2, 1), (2, 3)] none = true := by
  simp only [regOp, List.all_cons, List.all_nil, rw_10_11, rw_10_12, rw_10_13, rw_10_21, rw_10_23, Bool.and_true]
theorem rr_10_11 : regRun 7 11 10 none (1, 1) = true := by kernel_rfl
theorem rr_10_12 : regRun 7 11 10 none (1, 2) = true := by kernel_rfl
theorem rr_10_13 : regRun 7 11 10 none (1, 3) = true := by kernel_rfl
theorem rr_10_21 : regRun 7 11 10 none (2, 1) = true := by kernel_rfl
theorem rr_10_23 : regRun 7 11 10 none (2, 3) = true := by kernel_rfl
theorem rr_10 : regOp 7 11 10 [(1, 1), (1, 2), (1, 3), (2, 1), (2, 3)] none = true := by
  simp only [regOp, List.all_cons, List.all_nil, rr_10_11, rr_10_12, rr_10_13, rr_10_21, rr_10_23, Bool.and_true]
theorem sh_14 : shOp 14 [(1, 0), (2, 0), (3, 0)] none = true := by kernel_rfl
theorem rw_14_10 : regRun 5 10 14 none (1, 0) = true := by kernel_rfl
theorem rw_14_20 : regRun 5 10 14 none (2, 0) = true := by kernel_rfl
theorem rw_14_30 : regRun 5 10 14 none (3, 0) = true := by kernel_rfl
theorem rw_14 : regOp 5 10 14 [(1, 0), (2, 0), (3, 0)] none = true := by
  simp only [regOp, List.all_cons, List.all_nil, rw_14_10, rw_14_20, rw_14_30, Bool.and_true]
theorem rr_14_10 : regRun 7 11 14 none (1, 0) = true := by kernel_rfl
theorem rr_14_20 : regRun 7 11 14 none (2, 0) = true := by kernel_rfl
theorem rr_14_30 : regRun 7 11 14 none (3, 0) = true := by kernel_rfl
theorem rr_14 : regOp 7 11 14 [(1, 0), (2, 0), (3, 0)] none = true := by
  simp only [regOp, List.all_cons, List.all_nil, rr_14_10, rr_14_20, rr_14_30, Bool.and_true]
theorem sh_18 : shOp 18 [(1, 0), (2, 0)] none = true := by kernel_rfl
theorem rw_18_10 : regRun 5 10 18 none (1, 0) = true := by kernel_rfl
theorem rw_18_20 : regRun 5 10 18 none (2, 0) = true := by kernel_rfl
theorem rw_18 : regOp 5 10 18 [(1, 0), (2, 0)] none = true := by
  simp only [regOp, List.all_cons, List.all_nil, rw_18_10, rw_18_20, Bool.and_true]
theorem rr_18_10 : regRun 7 11 18 none (1, 0) = true := by kernel_rfl
theorem rr_18_20 : regRun 7 11 18 none (2, 0) = true := by kernel_rfl
theorem rr_18 : regOp 7 11 18 [(1, 0), (2, 0)] none = true := by
  simp only [regOp, List.all_cons, List.all_nil, rr_18_10, rr_18_20, Bool.and_true]
theorem sh_22 : shOp 22 [(1, 0), (2, 0)] none = true := by kernel_rfl
theorem rw_22_10 : regRun 5 10 22 none (1, 0) = true := by kernel_rfl
theorem rw_22_20 : regRun 5 10 22 none (2, 0) = true := by kernel_rfl
theorem rw_22 : regOp 5 10 22 [(1, 0), (2, 0)] none = true := by
  simp only [regOp, List.all_cons, List.all_nil, rw_22_10, rw_22_20, Bool.and_true]
theorem rr_22_10 : regRun 7 11 22 none (1, 0) = true := by kernel_rfl
theorem rr_22_20 : regRun 7 11 22 none (2, 0) = true := by kernel_rfl
theorem rr_22 : regOp 7 11 22 [(1, 0), (2, 0)] none = true := by
  simp only [regOp, List.all_cons, List.all_nil, rr_22_10, rr_22_20, Bool.and_true]
theorem sh_26 : shOp 26 [(1, 1), (1, 3), (2, 1), (2, 3)] none = true := by kernel_rfl
theorem rw_26_11 : regRun 5 10 26 none (1, 1) = true := by kernel_rfl
theorem rw_26_13 : regRun 5 10 26 none (1, 3) = true := by kernel_rfl
theorem rw_26_21 : regRun 5 10 26 none (2, 1) = true := by kernel_rfl
theorem rw_26_23 : regRun 5 10 26 none (2, 3) = true := by kernel_rfl
theorem rw_26 : regOp 5 10 26 [(1, 1), (1, 3), (2, 1), (2, 3)] none = true := by
  simp only [regOp, List.all_cons, List.all_nil, rw_26_11, rw_26_13, rw_26_21, rw_26_23, Bool.and_true]
theorem rr_26_11 : regRun 7 11 26 none (1, 1) = true := by kernel_rfl
theorem rr_26_13 : regRun 7 11 26 none (1, 3) = true := by kernel_rfl
theorem rr_26_21 : regRun 7 11 26 none (2, 1) = true := by kernel_rfl
theorem rr_26_23 : regRun 7 11 26 none (2, 3) = true := by kernel_rfl
theorem rr_26 : regOp 7 11 26 [(1, 1), (1, 3), (2, 1), (2, 3)] none = true := by
  simp only [regOp, List.all_cons, List.all_nil, rr_26_11, rr_26_13, rr_26_21, rr_26_23, Bool.and_true]
theorem sh_30 : shOp 30 [(1, 1), (1, 3), (2, 1), (2, 3)] none = true := by kernel_rfl
theorem rw_30_11 : regRun 5 10 30 none (1, 1) = true := by kernel_rfl
theorem rw_30_13 : regRun 5 10 30 none (1, 3) = true := by kernel_rfl
theorem rw_30_21 : regRun 5 10 30 none (2, 1) = true := by kernel_rfl
theorem rw_30_23 : regRun 5 10 30 none (2, 3) = true := by kernel_rfl
theorem rw_30 : regOp 5 10 30 [(1, 1), (1, 3), (2, 1), (2, 3)] none = true := by
  simp only [regOp, List.all_cons, List.all_nil, rw_30_11, rw_30_13, rw_30_21, rw_30_23, Bool.and_true]
theorem rr_30_11 : regRun 7 11 30 none (1, 1) = true := by kernel_rfl
theorem rr_30_13 : regRun 7 11 30 none (1, 3) = true := by kernel_rfl
theorem rr_30_21 : regRun 7 11 30 none (2, 1) = true := by kernel_rfl
theorem rr_30_23 : regRun 7 11 30 none (2, 3) = true := by kernel_rfl
theorem rr_30 : regOp 7 11 30 [(1, 1), (1, 3), (2, 1), (2, 3)] none = true := by
  simp only [regOp, List.all_cons, List.all_nil, rr_30_11, rr_30_13, rr_30_21, rr_30_23, Bool.and_true]
theorem sh_34 : shOp 34 [(1, 1), (1, 2)] none = true := by kernel_rfl
theorem rw_34_11 : regRun 5 10 34 none (1, 1) = true := by kernel_rfl
theorem rw_34_12 : regRun 5 10 34 none (1, 2) = true := by kernel_rfl
theorem rw_34 : regOp 5 10 34 [(1, 1), (1, 2)] none = true := by
  simp only [regOp, List.all_cons, List.all_nil, rw_34_11, rw_34_12, Bool.and_true]
theorem rr_34_11 : regRun 7 11 34 none (1, 1) = true := by kernel_rfl
theorem rr_34_12 : regRun 7 11 34 none (1, 2) = true := by kernel_rfl
theorem rr_34 : regOp 7 11 34 [(1, 1), (1, 2)] none = true := by
  simp only [regOp, List.all_cons, List.all_nil, rr_34_11, rr_34_12, Bool.and_true]
theorem sh_38 : shOp 38 [(0, 0), (1, 0), (2, 0)] none = true := by kernel_rfl
theorem rw_38_00 : regRun 5 10 38 none (0, 0) = true := by kernel_rfl
theorem rw_38_10 : regRun 5 10 38 none (1, 0) = true := by kernel_rfl
theorem rw_38_20 : regRun 5 10 38 none (2, 0) = true := by kernel_rfl
theorem rw_38 : regOp 5 10 38 [(0, 0), (1, 0), (2, 0)] none = true := by
  simp only [regOp, List.all_cons, List.all_nil, rw_38_00, rw_38_10, rw_38_20, Bool.and_true]
theorem rr_38_00 : regRun 7 11 38 none (0, 0) = true := by kernel_rfl
theorem rr_38_10 : regRun 7 11 38 none (1, 0) = true := by kernel_rfl
theorem rr_38_20 : regRun 7 11 38 none (2, 0) = true := by kernel_rfl
theorem rr_38 : regOp 7 11 38 [(0, 0), (1, 0), (2, 0)] none = true := by
  simp only [regOp, List.all_cons, List.all_nil, rr_38_00, rr_38_10, rr_38_20, Bool.and_true]
theorem sh_42 : shOp 42 [(0, 0)] none = true := by kernel_rfl
theorem rw_42_00 : regRun 5 10 42 none (0, 0) = true := by kernel_rfl
theorem rw_42 : regOp 5 10 42 [(0, 0)] none = true := by
  simp only [regOp, List.all_cons, List.all_nil, rw_42_00, Bool.and_true]
theorem rr_42_00 : regRun 7 11 42 none (0, 0) = true := by kernel_rfl
theorem rr_42 : regOp 7 11 42 [(0, 0)] none = true := by
  simp only [regOp, List.all_cons, List.all_nil, rr_42_00, Bool.and_true]
theorem sh_46 : shOp 46 [(0, 0)] none = true := by kernel_rfl
theorem rw_46_00 : regRun 5 10 46 none (0, 0) = true := by kernel_rfl
theorem rw_46 : regOp 5 10 46 [(0, 0)] none = true := by
  simp only [regOp, List.all_cons, List.all_nil, rw_46_00, Bool.and_true]
theorem rr_46_00 : regRun 7 11 46 none (0, 0) = true := by kernel_rfl
theorem rr_46 : regOp 7 11 46 [(0, 0)] none = true := by
  simp only [regOp, List.all_cons, List.all_nil, rr_46_00, Bool.and_true]
end Go.Proofs.Ytbhhfbenajcinaa
