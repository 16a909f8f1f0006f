/- Layer 23: a step's value, worked in some registers: the runs, part 1. -/
import Derived.Test.YthcncbbnjbhdkaaGreatDoorSk
import Derived.KernelRfl
namespace Go.Proofs.YthcncbbnjbhdkaaGreatDoor
open Go Go.Proofs Go.RowKit Go.CX Go.SX Go.CX.Cp
set_option maxRecDepth 100000
theorem constK_t_1111 : constK true [1, 1, 1, 1] = true := by kernel_rfl
theorem constK_t_1121 : constK true [1, 1, 2, 1] = true := by kernel_rfl
theorem constK_t_1211 : constK true [1, 2, 1, 1] = true := by kernel_rfl
theorem constK_t_1221 : constK true [1, 2, 2, 1] = true := by kernel_rfl
theorem constK_t_2111 : constK true [2, 1, 1, 1] = true := by kernel_rfl
theorem constK_t_2121 : constK true [2, 1, 2, 1] = true := by kernel_rfl
theorem constK_t_2211 : constK true [2, 2, 1, 1] = true := by kernel_rfl
theorem constK_t_2221 : constK true [2, 2, 2, 1] = true := by kernel_rfl
theorem constK_t_0111 : constK true [0, 1, 1, 1] = true := by kernel_rfl
theorem constK_t_0121 : constK true [0, 1, 2, 1] = true := by kernel_rfl
theorem constK_t_0211 : constK true [0, 2, 1, 1] = true := by kernel_rfl
theorem constK_t_0221 : constK true [0, 2, 2, 1] = true := by kernel_rfl
theorem constK_t_1011 : constK true [1, 0, 1, 1] = true := by kernel_rfl
theorem constK_t_1021 : constK true [1, 0, 2, 1] = true := by kernel_rfl
theorem constK_t_1101 : constK true [1, 1, 0, 1] = true := by kernel_rfl
theorem constK_t_1110 : constK true [1, 1, 1, 0] = true := by kernel_rfl
theorem constK_t_1201 : constK true [1, 2, 0, 1] = true := by kernel_rfl
theorem constK_t_1210 : constK true [1, 2, 1, 0] = true := by kernel_rfl
theorem constK_t_2011 : constK true [2, 0, 1, 1] = true := by kernel_rfl
theorem constK_t_2021 : constK true [2, 0, 2, 1] = true := by kernel_rfl
theorem constK_t_2101 : constK true [2, 1, 0, 1] = true := by kernel_rfl
theorem constK_t_2110 : constK true [2, 1, 1, 0] = true := by kernel_rfl
theorem constK_t_2201 : constK true [2, 2, 0, 1] = true := by kernel_rfl
theorem constK_t_2210 : constK true [2, 2, 1, 0] = true := by kernel_rfl
theorem constK_t_0011 : constK true [0, 0, 1, 1] = true := by kernel_rfl
theorem constK_t_0021 : constK true [0, 0, 2, 1] = true := by kernel_rfl
theorem constK_t_0101 : constK true [0, 1, 0, 1] = true := by kernel_rfl
theorem constK_t_0110 : constK true [0, 1, 1, 0] = true := by kernel_rfl
theorem constK_t_0201 : constK true [0, 2, 0, 1] = true := by kernel_rfl
theorem constK_t_0210 : constK true [0, 2, 1, 0] = true := by kernel_rfl
theorem constK_t_1001 : constK true [1, 0, 0, 1] = true := by kernel_rfl
theorem constK_t_1010 : constK true [1, 0, 1, 0] = true := by kernel_rfl
theorem constK_t_1100 : constK true [1, 1, 0, 0] = true := by kernel_rfl
theorem constK_t_2001 : constK true [2, 0, 0, 1] = true := by kernel_rfl
theorem constK_t_2010 : constK true [2, 0, 1, 0] = true := by kernel_rfl
theorem constK_t_2100 : constK true [2, 1, 0, 0] = true := by kernel_rfl
theorem aluK_1 : workR [mayP (bin3 5 .add)] [doneP (bin3 5 .add)] (opAlu 1) [] = true := by kernel_rfl
theorem aluK_4 : workR [mayP (bin3 10 .or)] [doneP (bin3 10 .or)] (opAlu 4) [] = true := by kernel_rfl
theorem aluK_8 : workR [mayP (do3 22 8)] [doneP (do3 22 8)] (opAlu 8) [] = true := by kernel_rfl
theorem aluK_12 : workR [mayP (do3 26 12)] [doneP (do3 26 12)] (opAlu 12) [] = true := by kernel_rfl
theorem aluK_16 : workR [mayP subsI, mayP (csincI 10)] [doneP subsI, doneP (csincI 10)] (opAlu 16) [] = true := by kernel_rfl
theorem extK_2_t : workR [mayP (fieldI 15 true)] [doneP (fieldI 15 true)] (opExt 2 true) [] = true := by kernel_rfl
theorem extK_8_t : workR [mayP (fieldI 63 true)] [doneP (fieldI 63 true)] (opExt 8 true) [] = true := by kernel_rfl
theorem constK_f_0020 : constK false [0, 0, 2, 0] = true := by kernel_rfl
theorem constK_f_0200 : constK false [0, 2, 0, 0] = true := by kernel_rfl
theorem constK_f_2000 : constK false [2, 0, 0, 0] = true := by kernel_rfl
theorem badK_4a : badK 4 ([(ixLt (.var 1) 1, true)]) = true := by kernel_rfl
theorem badK_4b : badK 4 ([(ixLt (.var 1) 1, false), (ixLt (.var 1) 17, false)]) = true := by kernel_rfl
theorem badK_4e : badK 4 (inF 1 17 ++ [w0, n0F, no o0F]) = true := by kernel_rfl
theorem badK_5c1 : badK 5 (f0 :: (isW [true, false, false, false] ++ [no n0F])) = true := by kernel_rfl
theorem badK_5c4 : badK 5 (f0 :: (isW [false, false, true, false] ++ [no n0F])) = true := by kernel_rfl
theorem badK_6a : badK 6 ([no f0]) = true := by kernel_rfl
theorem badK_6e : badK 6 ([f0, w0, n0F, o0F, (.var 7, true)]) = true := by kernel_rfl
theorem badK_1e : badK 1 ([f0, w0, o0F, (.var 7, true)]) = true := by kernel_rfl
theorem noK_3h : noR opAny (apart2 ++ [(ixLt (.var 15) 0, false), (ixLt (.var 15) 31, false)]) = true := by kernel_rfl
end Go.Proofs.YthcncbbnjbhdkaaGreatDoor
