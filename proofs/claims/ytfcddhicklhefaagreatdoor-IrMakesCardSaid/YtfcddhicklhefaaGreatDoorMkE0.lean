import Derived.Test.YtfcddhicklhefaaGreatDoorMkK
import Derived.KernelRfl
namespace Go.Mk
set_option maxRecDepth 100000
theorem e_s0 : exK false 0 = true := by kernel_rfl
end Go.Mk

namespace Go.Mk
set_option maxRecDepth 100000
theorem e_s1 : exK false 1 = true := by kernel_rfl
end Go.Mk

namespace Go.Mk
set_option maxRecDepth 100000
theorem e_s2 : exK false 2 = true := by kernel_rfl
end Go.Mk

namespace Go.Mk
set_option maxRecDepth 100000
theorem e_s3 : exK false 3 = true := by kernel_rfl
end Go.Mk

namespace Go.Mk
set_option maxRecDepth 100000
theorem e_s4 : exK false 4 = true := by kernel_rfl
end Go.Mk

namespace Go.Mk
set_option maxRecDepth 100000
theorem e_s5 : exK false 5 = true := by kernel_rfl
end Go.Mk

namespace Go.Mk
set_option maxRecDepth 100000
theorem e_s6 : exK false 6 = true := by kernel_rfl
end Go.Mk

namespace Go.Mk
set_option maxRecDepth 100000
theorem e_s7 : exK false 7 = true := by kernel_rfl
end Go.Mk

namespace Go.Mk
set_option maxRecDepth 100000
theorem e_s8 : exK false 8 = true := by kernel_rfl
end Go.Mk

namespace Go.Mk
set_option maxRecDepth 100000
theorem e_s9 : exK false 9 = true := by kernel_rfl
end Go.Mk

namespace Go.Mk
set_option maxRecDepth 100000
theorem e_s10 : exK false 10 = true := by kernel_rfl
end Go.Mk

namespace Go.Mk
set_option maxRecDepth 100000
theorem e_s11 : exK false 11 = true := by kernel_rfl
end Go.Mk

namespace Go.Mk
set_option maxRecDepth 100000
theorem e_s12 : exK false 12 = true := by kernel_rfl
end Go.Mk
