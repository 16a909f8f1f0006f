import Derived.Test.YtfcddhicklhefaaGreatDoorMkK
import Derived.KernelRfl
namespace Go.Mk
set_option maxRecDepth 100000
theorem e_s27 : exK false 27 = true := by kernel_rfl
end Go.Mk
