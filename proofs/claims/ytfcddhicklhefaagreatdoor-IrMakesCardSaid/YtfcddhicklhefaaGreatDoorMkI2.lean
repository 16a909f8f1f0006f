import Derived.Test.YtfcddhicklhefaaGreatDoorMkK
import Derived.KernelRfl
namespace Go.Mk
set_option maxRecDepth 100000
theorem i_b0 : itK true 0 = true := by kernel_rfl
theorem i_b1 : itK true 1 = true := by kernel_rfl
theorem i_b2 : itK true 2 = true := by kernel_rfl
theorem i_b3 : itK true 3 = true := by kernel_rfl
theorem i_b4 : itK true 4 = true := by kernel_rfl
theorem i_b5 : itK true 5 = true := by kernel_rfl
theorem i_b6 : itK true 6 = true := by kernel_rfl
theorem i_b7 : itK true 7 = true := by kernel_rfl
theorem i_b8 : itK true 8 = true := by kernel_rfl
theorem i_b9 : itK true 9 = true := by kernel_rfl
theorem i_b10 : itK true 10 = true := by kernel_rfl
theorem i_b11 : itK true 11 = true := by kernel_rfl
theorem i_b12 : itK true 12 = true := by kernel_rfl
theorem i_b13 : itK true 13 = true := by kernel_rfl
theorem i_b14 : itK true 14 = true := by kernel_rfl
end Go.Mk

namespace Go.Mk
set_option maxRecDepth 100000
theorem i_b15 : itK true 15 = true := by kernel_rfl
theorem i_b16 : itK true 16 = true := by kernel_rfl
theorem i_b17 : itK true 17 = true := by kernel_rfl
theorem i_b18 : itK true 18 = true := by kernel_rfl
theorem i_b19 : itK true 19 = true := by kernel_rfl
theorem i_b20 : itK true 20 = true := by kernel_rfl
theorem i_b21 : itK true 21 = true := by kernel_rfl
theorem i_b22 : itK true 22 = true := by kernel_rfl
theorem i_b23 : itK true 23 = true := by kernel_rfl
theorem i_b24 : itK true 24 = true := by kernel_rfl
theorem i_b25 : itK true 25 = true := by kernel_rfl
theorem i_b26 : itK true 26 = true := by kernel_rfl
theorem i_b27 : itK true 27 = true := by kernel_rfl
theorem i_b28 : itK true 28 = true := by kernel_rfl
theorem i_b29 : itK true 29 = true := by kernel_rfl
end Go.Mk
