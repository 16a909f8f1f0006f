/- Layer 22: what an instruction that may not be leaves as it was, carried out. -/
import Derived.Test.YtbpcidpladnhfaaDoorKa
import Derived.KernelRfl
namespace Go.Proofs.YtbpcidpladnhfaaDoor
open Go Go.Proofs Go.RowKit Go.CX Go.SX Go.CX.Cp
/-- It may not be. -/
noncomputable def nokR (es : List E) (fs : Facts) : Bool := endsC cxK extK 3000 10 3 [cpuC, .one ⟨true, es.map .e⟩, .one ⟨false, [.e (.var 54)]⟩] 60 ((.app 9 0 (toL es), false) :: fs) (sureK cxK sameR 300)
noncomputable def lt34 : E × Bool := (.cmp .lss (.var 43) (.int .i64 34), true)
noncomputable def gt38 : E × Bool := (.cmp .lss (.int .i64 38) (.var 43), true)
noncomputable def de43 (b : Bool) : E × Bool := (.app 8 0 (toL [.var 43]), b)
set_option maxRecDepth 100000
theorem nok_34 : nokR (esK 34) [] = true := by kernel_rfl
theorem nok_35 : nokR (esK 35) [] = true := by kernel_rfl
theorem nok_36 : nokR (esK 36) [] = true := by kernel_rfl
theorem nok_37 : nokR (esK 37) [] = true := by kernel_rfl
theorem nok_38 : nokR (esK 38) [] = true := by kernel_rfl
end Go.Proofs.YtbpcidpladnhfaaDoor
