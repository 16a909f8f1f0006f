/- Layer 23: a step's value, worked in some registers: the runs, part 2. -/
import Derived.Test.YthcncbbnjbhdkaaGreatDoorSk
import Derived.KernelRfl
namespace Go.Proofs.YthcncbbnjbhdkaaGreatDoor
open Go Go.Proofs Go.RowKit Go.CX Go.SX Go.CX.Cp
set_option maxRecDepth 100000
theorem constK_f_1112 : constK false [1, 1, 1, 2] = true := by kernel_rfl
theorem constK_f_1122 : constK false [1, 1, 2, 2] = true := by kernel_rfl
theorem constK_f_1212 : constK false [1, 2, 1, 2] = true := by kernel_rfl
theorem constK_f_1222 : constK false [1, 2, 2, 2] = true := by kernel_rfl
theorem constK_f_2112 : constK false [2, 1, 1, 2] = true := by kernel_rfl
theorem constK_f_2122 : constK false [2, 1, 2, 2] = true := by kernel_rfl
theorem constK_f_2212 : constK false [2, 2, 1, 2] = true := by kernel_rfl
theorem constK_f_2222 : constK false [2, 2, 2, 2] = true := by kernel_rfl
theorem constK_f_0112 : constK false [0, 1, 1, 2] = true := by kernel_rfl
theorem constK_f_0122 : constK false [0, 1, 2, 2] = true := by kernel_rfl
theorem constK_f_0212 : constK false [0, 2, 1, 2] = true := by kernel_rfl
theorem constK_f_0222 : constK false [0, 2, 2, 2] = true := by kernel_rfl
theorem constK_f_1012 : constK false [1, 0, 1, 2] = true := by kernel_rfl
theorem constK_f_1022 : constK false [1, 0, 2, 2] = true := by kernel_rfl
theorem constK_f_1102 : constK false [1, 1, 0, 2] = true := by kernel_rfl
theorem constK_f_1120 : constK false [1, 1, 2, 0] = true := by kernel_rfl
theorem constK_f_1202 : constK false [1, 2, 0, 2] = true := by kernel_rfl
theorem constK_f_1220 : constK false [1, 2, 2, 0] = true := by kernel_rfl
theorem constK_f_2012 : constK false [2, 0, 1, 2] = true := by kernel_rfl
theorem constK_f_2022 : constK false [2, 0, 2, 2] = true := by kernel_rfl
theorem constK_f_2102 : constK false [2, 1, 0, 2] = true := by kernel_rfl
theorem constK_f_2120 : constK false [2, 1, 2, 0] = true := by kernel_rfl
theorem constK_f_2202 : constK false [2, 2, 0, 2] = true := by kernel_rfl
theorem constK_f_2220 : constK false [2, 2, 2, 0] = true := by kernel_rfl
theorem constK_f_0012 : constK false [0, 0, 1, 2] = true := by kernel_rfl
theorem constK_f_0022 : constK false [0, 0, 2, 2] = true := by kernel_rfl
theorem constK_f_0102 : constK false [0, 1, 0, 2] = true := by kernel_rfl
theorem constK_f_0120 : constK false [0, 1, 2, 0] = true := by kernel_rfl
theorem constK_f_0202 : constK false [0, 2, 0, 2] = true := by kernel_rfl
theorem constK_f_0220 : constK false [0, 2, 2, 0] = true := by kernel_rfl
theorem constK_f_1002 : constK false [1, 0, 0, 2] = true := by kernel_rfl
theorem constK_f_1020 : constK false [1, 0, 2, 0] = true := by kernel_rfl
theorem constK_f_1200 : constK false [1, 2, 0, 0] = true := by kernel_rfl
theorem constK_f_2002 : constK false [2, 0, 0, 2] = true := by kernel_rfl
theorem constK_f_2020 : constK false [2, 0, 2, 0] = true := by kernel_rfl
theorem constK_f_2200 : constK false [2, 2, 0, 0] = true := by kernel_rfl
theorem aluK_2 : workR [mayP (bin3 6 .sub)] [doneP (bin3 6 .sub)] (opAlu 2) [] = true := by kernel_rfl
theorem aluK_5 : workR [mayP (bin3 11 .xor)] [doneP (bin3 11 .xor)] (opAlu 5) [] = true := by kernel_rfl
theorem aluK_9 : workR [mayP (do3 23 9)] [doneP (do3 23 9)] (opAlu 9) [] = true := by kernel_rfl
theorem aluK_13 : workR [mayP (do3 27 13)] [doneP (do3 27 13)] (opAlu 13) [] = true := by kernel_rfl
theorem extK_1_f : workR [mayP (fieldI 7 false)] [doneP (fieldI 7 false)] (opExt 1 false) [] = true := by kernel_rfl
theorem extK_4_f : workR [mayP (fieldI 31 false)] [doneP (fieldI 31 false)] (opExt 4 false) [] = true := by kernel_rfl
theorem constK_f_0001 : constK false [0, 0, 0, 1] = true := by kernel_rfl
theorem constK_t_0002 : constK true [0, 0, 0, 2] = true := by kernel_rfl
theorem constK_t_0020 : constK true [0, 0, 2, 0] = true := by kernel_rfl
theorem constK_t_0200 : constK true [0, 2, 0, 0] = true := by kernel_rfl
theorem constK_t_2000 : constK true [2, 0, 0, 0] = true := by kernel_rfl
theorem badK_4f : badK 4 (inF 1 17 ++ [w0, n0F, o0F, (.var 7, true)]) = true := by kernel_rfl
theorem badK_5d1 : badK 5 (f0 :: (isW [true, false, false, false] ++ [n0F, no o0F])) = true := by kernel_rfl
theorem badK_5d4 : badK 5 (f0 :: (isW [false, false, true, false] ++ [n0F, no o0F])) = true := by kernel_rfl
theorem badK_6b : badK 6 ([f0, no w0]) = true := by kernel_rfl
theorem badK_1a : badK 1 ([no f0]) = true := by kernel_rfl
theorem noK_1l : noR opAny ([] ++ [(ixLt (.var 13) 0, true)]) = true := by kernel_rfl
theorem noK_1e : noR opAny (regK 13 ++ [(.cmp .eql (.var 13) (.var 14), true)]) = true := by kernel_rfl
theorem noK_2e : noR opAny (apart1 ++ (regK 14 ++ [(.cmp .eql (.var 14) (.var 15), true)])) = true := by kernel_rfl
theorem noK_0l : noR opAny (apart3 ++ [(ixLt (.var 12) 0, true)]) = true := by kernel_rfl
end Go.Proofs.YthcncbbnjbhdkaaGreatDoor
