/- Layer 23: a number in a register: the runs, part 0. -/
import Derived.Test.YthcncbbnjbhdkaaGreatDoorSf
import Derived.KernelRfl
namespace Go.Proofs.YthcncbbnjbhdkaaGreatDoor
open Go Go.Proofs Go.RowKit Go.CX Go.SX Go.CX.Cp
set_option maxRecDepth 100000
theorem const_f_0000 : constR false [0, 0, 0, 0] = true := by kernel_rfl
theorem const_t_0000 : constR true [0, 0, 0, 0] = true := by kernel_rfl
theorem const_f_0011 : constR false [0, 0, 1, 1] = true := by kernel_rfl
theorem const_t_0011 : constR true [0, 0, 1, 1] = true := by kernel_rfl
theorem const_f_0022 : constR false [0, 0, 2, 2] = true := by kernel_rfl
theorem const_t_0022 : constR true [0, 0, 2, 2] = true := by kernel_rfl
theorem const_f_0110 : constR false [0, 1, 1, 0] = true := by kernel_rfl
theorem const_t_0110 : constR true [0, 1, 1, 0] = true := by kernel_rfl
theorem const_f_0121 : constR false [0, 1, 2, 1] = true := by kernel_rfl
theorem const_t_0121 : constR true [0, 1, 2, 1] = true := by kernel_rfl
theorem const_f_0202 : constR false [0, 2, 0, 2] = true := by kernel_rfl
theorem const_t_0202 : constR true [0, 2, 0, 2] = true := by kernel_rfl
theorem const_f_0220 : constR false [0, 2, 2, 0] = true := by kernel_rfl
theorem const_t_0220 : constR true [0, 2, 2, 0] = true := by kernel_rfl
theorem const_f_1001 : constR false [1, 0, 0, 1] = true := by kernel_rfl
theorem const_t_1001 : constR true [1, 0, 0, 1] = true := by kernel_rfl
theorem const_f_1012 : constR false [1, 0, 1, 2] = true := by kernel_rfl
theorem const_t_1012 : constR true [1, 0, 1, 2] = true := by kernel_rfl
theorem const_f_1100 : constR false [1, 1, 0, 0] = true := by kernel_rfl
theorem const_t_1100 : constR true [1, 1, 0, 0] = true := by kernel_rfl
theorem const_f_1111 : constR false [1, 1, 1, 1] = true := by kernel_rfl
theorem const_t_1111 : constR true [1, 1, 1, 1] = true := by kernel_rfl
theorem const_f_1122 : constR false [1, 1, 2, 2] = true := by kernel_rfl
theorem const_t_1122 : constR true [1, 1, 2, 2] = true := by kernel_rfl
theorem const_f_1210 : constR false [1, 2, 1, 0] = true := by kernel_rfl
theorem const_t_1210 : constR true [1, 2, 1, 0] = true := by kernel_rfl
theorem const_f_1221 : constR false [1, 2, 2, 1] = true := by kernel_rfl
theorem const_t_1221 : constR true [1, 2, 2, 1] = true := by kernel_rfl
theorem const_f_2002 : constR false [2, 0, 0, 2] = true := by kernel_rfl
theorem const_t_2002 : constR true [2, 0, 0, 2] = true := by kernel_rfl
theorem const_f_2020 : constR false [2, 0, 2, 0] = true := by kernel_rfl
theorem const_t_2020 : constR true [2, 0, 2, 0] = true := by kernel_rfl
theorem const_f_2101 : constR false [2, 1, 0, 1] = true := by kernel_rfl
theorem const_t_2101 : constR true [2, 1, 0, 1] = true := by kernel_rfl
theorem const_f_2112 : constR false [2, 1, 1, 2] = true := by kernel_rfl
theorem const_t_2112 : constR true [2, 1, 1, 2] = true := by kernel_rfl
theorem const_f_2200 : constR false [2, 2, 0, 0] = true := by kernel_rfl
theorem const_t_2200 : constR true [2, 2, 0, 0] = true := by kernel_rfl
theorem const_f_2211 : constR false [2, 2, 1, 1] = true := by kernel_rfl
theorem const_t_2211 : constR true [2, 2, 1, 1] = true := by kernel_rfl
theorem const_f_2222 : constR false [2, 2, 2, 2] = true := by kernel_rfl
theorem const_t_2222 : constR true [2, 2, 2, 2] = true := by kernel_rfl
theorem const_lo : constD [(ixLt (.var 0) 0, true)] = true := by kernel_rfl
theorem const_hi : constD [(ixLt (.var 0) 0, false), (ixLt (.var 0) 31, false)] = true := by kernel_rfl
end Go.Proofs.YthcncbbnjbhdkaaGreatDoor
