import Derived.Test.YtfcddhicklhefaaGreatDoorMkK
import Derived.KernelRfl
namespace Go.Mk
set_option maxRecDepth 100000
theorem e_s13 : exK false 13 = true := by kernel_rfl
end Go.Mk

namespace Go.Mk
set_option maxRecDepth 100000
theorem e_s14 : exK false 14 = true := by kernel_rfl
end Go.Mk

namespace Go.Mk
set_option maxRecDepth 100000
theorem e_s15 : exK false 15 = true := by kernel_rfl
end Go.Mk

namespace Go.Mk
set_option maxRecDepth 100000
theorem e_s16 : exK false 16 = true := by kernel_rfl
end Go.Mk

namespace Go.Mk
set_option maxRecDepth 100000
theorem e_s17 : exK false 17 = true := by kernel_rfl
end Go.Mk
