import Derived.Test.YtfcddhicklhefaaGreatDoorMkK
import Derived.KernelRfl
namespace Go.Mk
set_option maxRecDepth 100000
theorem e_s21 : exK false 21 = true := by kernel_rfl
end Go.Mk

namespace Go.Mk
set_option maxRecDepth 100000
theorem e_s22 : exK false 22 = true := by kernel_rfl
end Go.Mk

namespace Go.Mk
set_option maxRecDepth 100000
theorem e_s23 : exK false 23 = true := by kernel_rfl
end Go.Mk
