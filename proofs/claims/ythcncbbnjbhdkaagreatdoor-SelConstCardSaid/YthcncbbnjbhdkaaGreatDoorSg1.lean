/- Layer 23: a number in a register: the runs, part 1. -/
import Derived.Test.YthcncbbnjbhdkaaGreatDoorSf
import Derived.KernelRfl
namespace Go.Proofs.YthcncbbnjbhdkaaGreatDoor
open Go Go.Proofs Go.RowKit Go.CX Go.SX Go.CX.Cp
set_option maxRecDepth 100000
theorem const_f_0001 : constR false [0, 0, 0, 1] = true := by kernel_rfl
theorem const_t_0001 : constR true [0, 0, 0, 1] = true := by kernel_rfl
theorem const_f_0012 : constR false [0, 0, 1, 2] = true := by kernel_rfl
theorem const_t_0012 : constR true [0, 0, 1, 2] = true := by kernel_rfl
theorem const_f_0100 : constR false [0, 1, 0, 0] = true := by kernel_rfl
theorem const_t_0100 : constR true [0, 1, 0, 0] = true := by kernel_rfl
theorem const_f_0111 : constR false [0, 1, 1, 1] = true := by kernel_rfl
theorem const_t_0111 : constR true [0, 1, 1, 1] = true := by kernel_rfl
theorem const_f_0122 : constR false [0, 1, 2, 2] = true := by kernel_rfl
theorem const_t_0122 : constR true [0, 1, 2, 2] = true := by kernel_rfl
theorem const_f_0210 : constR false [0, 2, 1, 0] = true := by kernel_rfl
theorem const_t_0210 : constR true [0, 2, 1, 0] = true := by kernel_rfl
theorem const_f_0221 : constR false [0, 2, 2, 1] = true := by kernel_rfl
theorem const_t_0221 : constR true [0, 2, 2, 1] = true := by kernel_rfl
theorem const_f_1002 : constR false [1, 0, 0, 2] = true := by kernel_rfl
theorem const_t_1002 : constR true [1, 0, 0, 2] = true := by kernel_rfl
theorem const_f_1020 : constR false [1, 0, 2, 0] = true := by kernel_rfl
theorem const_t_1020 : constR true [1, 0, 2, 0] = true := by kernel_rfl
theorem const_f_1101 : constR false [1, 1, 0, 1] = true := by kernel_rfl
theorem const_t_1101 : constR true [1, 1, 0, 1] = true := by kernel_rfl
theorem const_f_1112 : constR false [1, 1, 1, 2] = true := by kernel_rfl
theorem const_t_1112 : constR true [1, 1, 1, 2] = true := by kernel_rfl
theorem const_f_1200 : constR false [1, 2, 0, 0] = true := by kernel_rfl
theorem const_t_1200 : constR true [1, 2, 0, 0] = true := by kernel_rfl
theorem const_f_1211 : constR false [1, 2, 1, 1] = true := by kernel_rfl
theorem const_t_1211 : constR true [1, 2, 1, 1] = true := by kernel_rfl
theorem const_f_1222 : constR false [1, 2, 2, 2] = true := by kernel_rfl
theorem const_t_1222 : constR true [1, 2, 2, 2] = true := by kernel_rfl
theorem const_f_2010 : constR false [2, 0, 1, 0] = true := by kernel_rfl
theorem const_t_2010 : constR true [2, 0, 1, 0] = true := by kernel_rfl
theorem const_f_2021 : constR false [2, 0, 2, 1] = true := by kernel_rfl
theorem const_t_2021 : constR true [2, 0, 2, 1] = true := by kernel_rfl
theorem const_f_2102 : constR false [2, 1, 0, 2] = true := by kernel_rfl
theorem const_t_2102 : constR true [2, 1, 0, 2] = true := by kernel_rfl
theorem const_f_2120 : constR false [2, 1, 2, 0] = true := by kernel_rfl
theorem const_t_2120 : constR true [2, 1, 2, 0] = true := by kernel_rfl
theorem const_f_2201 : constR false [2, 2, 0, 1] = true := by kernel_rfl
theorem const_t_2201 : constR true [2, 2, 0, 1] = true := by kernel_rfl
theorem const_f_2212 : constR false [2, 2, 1, 2] = true := by kernel_rfl
theorem const_t_2212 : constR true [2, 2, 1, 2] = true := by kernel_rfl
end Go.Proofs.YthcncbbnjbhdkaaGreatDoor
