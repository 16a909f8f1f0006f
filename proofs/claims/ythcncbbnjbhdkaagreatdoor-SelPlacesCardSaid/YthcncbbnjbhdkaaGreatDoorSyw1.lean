/- Layer 23: the instructions of a step, by their forms: their runs. -/
import Derived.Test.YthcncbbnjbhdkaaGreatDoorSy
import Derived.Test.YthcncbbnjbhdkaaGreatDoorDo
import Derived.KernelRfl
namespace Go.Proofs.YthcncbbnjbhdkaaGreatDoor
open Go Go.Proofs Go.RowKit Go.CX Go.SX Go.CX.Cp
set_option maxRecDepth 100000
theorem ex_do_8 : exT (doE 8) = true := by kernel_rfl
theorem ex_field_15_f : exT (fieldE 15 false) = true := by kernel_rfl
theorem ex_field_31_t : exT (fieldE 31 true) = true := by kernel_rfl
theorem mayX_bin_5 : mayT syX (bin3 5 .add) = true := by kernel_rfl
theorem doneX_bin_5 : doneY (bin3 5 .add) = true := by kernel_rfl
theorem mayX_bin_9 : mayT syX (bin3 9 .and) = true := by kernel_rfl
theorem doneX_bin_9 : doneY (bin3 9 .and) = true := by kernel_rfl
theorem mayX_do3_21 : mayT syX (do3 21 7) = true := by kernel_rfl
theorem doneX_do3_21 : doneY (do3 21 7) = true := by kernel_rfl
theorem mayX_do3_24 : mayT syX (do3 24 10) = true := by kernel_rfl
theorem doneX_do3_24 : doneY (do3 24 10) = true := by kernel_rfl
theorem mayX_do3_27 : mayT syX (do3 27 13) = true := by kernel_rfl
theorem doneX_do3_27 : doneY (do3 27 13) = true := by kernel_rfl
theorem mayX_madd : mayT syX maddI = true := by kernel_rfl
theorem doneX_madd : doneY maddI = true := by kernel_rfl
theorem mayX_csinc_2 : mayT syX (csincI 2) = true := by kernel_rfl
theorem doneX_csinc_2 : doneY (csincI 2) = true := by kernel_rfl
theorem mayX_fld_7_t : mayT syX (fieldI 7 true) = true := by kernel_rfl
theorem doneX_fld_7_t : doneY (fieldI 7 true) = true := by kernel_rfl
theorem mayX_fld_31_f : mayT syX (fieldI 31 false) = true := by kernel_rfl
theorem doneX_fld_31_f : doneY (fieldI 31 false) = true := by kernel_rfl
theorem mayX_fld_63_t : mayT syX (fieldI 63 true) = true := by kernel_rfl
theorem doneX_fld_63_t : doneY (fieldI 63 true) = true := by kernel_rfl
theorem doneX_16_0 : doneYW (movzI 0) (wideI 16) = true := by kernel_rfl
theorem doneX_16_1 : doneYW (movzI 1) (wideI 16) = true := by kernel_rfl
theorem doneX_16_2 : doneYW (movzI 2) (wideI 16) = true := by kernel_rfl
theorem doneX_17_0 : doneYW (movnI 0) (wideI 17) = true := by kernel_rfl
theorem doneX_17_3 : doneYW (movnI 3) (wideI 17) = true := by kernel_rfl
theorem doneX_18_3 : doneYW (movkI 3) (wideI 18) = true := by kernel_rfl
theorem ex_do_12 : exT (doE 12) = true := by kernel_rfl
end Go.Proofs.YthcncbbnjbhdkaaGreatDoor
