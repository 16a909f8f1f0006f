import Derived.Test.YtfcddhicklhefaaGreatDoorMkK
import Derived.KernelRfl
namespace Go.Mk
set_option maxRecDepth 100000
theorem i_s0 : itK false 0 = true := by kernel_rfl
theorem i_s1 : itK false 1 = true := by kernel_rfl
theorem i_s2 : itK false 2 = true := by kernel_rfl
theorem i_s3 : itK false 3 = true := by kernel_rfl
theorem i_s4 : itK false 4 = true := by kernel_rfl
theorem i_s5 : itK false 5 = true := by kernel_rfl
theorem i_s6 : itK false 6 = true := by kernel_rfl
theorem i_s7 : itK false 7 = true := by kernel_rfl
theorem i_s8 : itK false 8 = true := by kernel_rfl
theorem i_s9 : itK false 9 = true := by kernel_rfl
theorem i_s10 : itK false 10 = true := by kernel_rfl
theorem i_s11 : itK false 11 = true := by kernel_rfl
theorem i_s12 : itK false 12 = true := by kernel_rfl
theorem i_s13 : itK false 13 = true := by kernel_rfl
theorem i_s14 : itK false 14 = true := by kernel_rfl
end Go.Mk

namespace Go.Mk
set_option maxRecDepth 100000
theorem i_s15 : itK false 15 = true := by kernel_rfl
theorem i_s16 : itK false 16 = true := by kernel_rfl
theorem i_s17 : itK false 17 = true := by kernel_rfl
theorem i_s18 : itK false 18 = true := by kernel_rfl
theorem i_s19 : itK false 19 = true := by kernel_rfl
theorem i_s20 : itK false 20 = true := by kernel_rfl
theorem i_s21 : itK false 21 = true := by kernel_rfl
theorem i_s22 : itK false 22 = true := by kernel_rfl
theorem i_s23 : itK false 23 = true := by kernel_rfl
theorem i_s24 : itK false 24 = true := by kernel_rfl
theorem i_s25 : itK false 25 = true := by kernel_rfl
theorem i_s26 : itK false 26 = true := by kernel_rfl
theorem i_s27 : itK false 27 = true := by kernel_rfl
theorem i_s28 : itK false 28 = true := by kernel_rfl
theorem i_s29 : itK false 29 = true := by kernel_rfl
end Go.Mk
