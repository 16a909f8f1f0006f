/- Layer 23: the instructions of a step, by their forms: their runs. -/
import Derived.Test.YthcncbbnjbhdkaaGreatDoorSy
import Derived.Test.YthcncbbnjbhdkaaGreatDoorDo
import Derived.KernelRfl
namespace Go.Proofs.YthcncbbnjbhdkaaGreatDoor
open Go Go.Proofs Go.RowKit Go.CX Go.SX Go.CX.Cp
set_option maxRecDepth 100000
theorem ex_less : exT (lessE) = true := by kernel_rfl
theorem ex_field_7_f : exT (fieldE 7 false) = true := by kernel_rfl
theorem ex_field_15_t : exT (fieldE 15 true) = true := by kernel_rfl
theorem ex_field_63_f : exT (fieldE 63 false) = true := by kernel_rfl
theorem mayX_bin_6 : mayT syX (bin3 6 .sub) = true := by kernel_rfl
theorem doneX_bin_6 : doneY (bin3 6 .sub) = true := by kernel_rfl
theorem mayX_bin_10 : mayT syX (bin3 10 .or) = true := by kernel_rfl
theorem doneX_bin_10 : doneY (bin3 10 .or) = true := by kernel_rfl
theorem mayX_do3_22 : mayT syX (do3 22 8) = true := by kernel_rfl
theorem doneX_do3_22 : doneY (do3 22 8) = true := by kernel_rfl
theorem mayX_do3_25 : mayT syX (do3 25 11) = true := by kernel_rfl
theorem doneX_do3_25 : doneY (do3 25 11) = true := by kernel_rfl
theorem mayX_subs : mayT syX subsI = true := by kernel_rfl
theorem doneX_subs : doneY subsI = true := by kernel_rfl
theorem mayX_csel : mayT syX (cselI 1) = true := by kernel_rfl
theorem doneX_csel : doneY (cselI 1) = true := by kernel_rfl
theorem mayX_csinc_10 : mayT syX (csincI 10) = true := by kernel_rfl
theorem doneX_csinc_10 : doneY (csincI 10) = true := by kernel_rfl
theorem mayX_fld_15_f : mayT syX (fieldI 15 false) = true := by kernel_rfl
theorem doneX_fld_15_f : doneY (fieldI 15 false) = true := by kernel_rfl
theorem mayX_fld_31_t : mayT syX (fieldI 31 true) = true := by kernel_rfl
theorem doneX_fld_31_t : doneY (fieldI 31 true) = true := by kernel_rfl
theorem mayX_16 : mayT syX (wideI 16) = true := by kernel_rfl
theorem mayX_18 : mayT syX (wideI 18) = true := by kernel_rfl
theorem doneX_16_3 : doneYW (movzI 3) (wideI 16) = true := by kernel_rfl
theorem doneX_17_1 : doneYW (movnI 1) (wideI 17) = true := by kernel_rfl
theorem doneX_18_1 : doneYW (movkI 1) (wideI 18) = true := by kernel_rfl
theorem doneX_14 : doneYW orriI orriI = true := by kernel_rfl
end Go.Proofs.YthcncbbnjbhdkaaGreatDoor
