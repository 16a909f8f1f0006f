/- Layer 27: the closing example answers true: its run is carried out by the kernel over the laid table, the document's May at six known instructions by runs of its own. -/
import Derived.Test.YtbfemcblcdfaaaaGreatDoorProg
import Derived.Test.YtbfemcblcdfaaaaGreatDoorCXlt
import Derived.Test.YtbfemcblcdfaaaaGreatDoorCXlw
import Derived.Lib.LaidTab
import Derived.KernelRfl
namespace Go.Proofs.YtbfemcblcdfaaaaGreatDoor
open Go Go.Proofs Go.RowKit Go.CX Go.SX
def flagL : List Int := [1, 4, 64, 128, 2048]
def flagV : Vw := ⟨0, 43, 237142198758023568228276846319922330421289687712885396515731963306949413923979265, []⟩
def vwA : List Vw := [flagV]
/-- The table stands as it is laid. -/
def TabsA (w : World) : Prop := Lib.TabIs Tryz.prog w "calque/xflag.flagBits" .u64 flagL
theorem TabsA.vw {w : World} (h : TabsA w) : ∀ v ∈ vwA, VwT v w := by
  intro v hv
  simp only [vwA, List.mem_cons, List.not_mem_nil, or_false] at hv
  subst hv
  exact vwT_of h (by kernel_rfl) rfl rfl (by kernel_rfl)
theorem names_ok : namesOk Tryz.prog = true := by kernel_rfl
def r0 : List E := [.int .i64 10, .int .i64 8, .int .i64 0, .int .i64 1, .int .i64 0, .int .i64 0, .int .i64 0, .int .i64 0, .int .i64 0, .int .i64 3, .int .i64 0, .int .i64 0, .int .i64 0, .int .i64 0, .int .i64 0, .int .i64 60, .int .i64 0, .bool false, .bool false, .int .i64 0]
def r1 : List E := [.int .i64 10, .int .i64 8, .int .i64 0, .int .i64 1, .int .i64 7, .int .i64 0, .int .i64 0, .int .i64 0, .int .i64 0, .int .i64 3, .int .i64 0, .int .i64 0, .int .i64 0, .int .i64 0, .int .i64 0, .int .i64 5, .int .i64 0, .bool false, .bool false, .int .i64 0]
def r2 : List E := [.int .i64 46, .int .i64 8, .int .i64 0, .int .i64 0, .int .i64 0, .int .i64 0, .int .i64 0, .int .i64 0, .int .i64 0, .int .i64 0, .int .i64 0, .int .i64 0, .int .i64 0, .int .i64 0, .int .i64 0, .int .i64 0, .int .i64 0, .bool false, .bool false, .int .i64 0]
def r3 : List E := [.int .i64 10, .int .i64 8, .int .i64 0, .int .i64 1, .int .i64 0, .int .i64 0, .int .i64 0, .int .i64 0, .int .i64 0, .int .i64 3, .int .i64 0, .int .i64 0, .int .i64 0, .int .i64 0, .int .i64 0, .int .i64 60, .int .i64 0, .bool false, .bool false, .int .i64 7]
def r4 : List E := [.int .i64 10, .int .i64 8, .int .i64 0, .int .i64 1, .int .i64 7, .int .i64 0, .int .i64 0, .int .i64 0, .int .i64 0, .int .i64 3, .int .i64 0, .int .i64 0, .int .i64 0, .int .i64 0, .int .i64 0, .int .i64 5, .int .i64 0, .bool false, .bool false, .int .i64 7]
def r5 : List E := [.int .i64 46, .int .i64 8, .int .i64 0, .int .i64 0, .int .i64 0, .int .i64 0, .int .i64 0, .int .i64 0, .int .i64 0, .int .i64 0, .int .i64 0, .int .i64 0, .int .i64 0, .int .i64 0, .int .i64 0, .int .i64 0, .int .i64 0, .bool false, .bool false, .int .i64 2]
def mayR : List (List E × Bool) := [(r0, true), (r1, true), (r2, true), (r3, true), (r4, true), (r5, true)]
set_option maxRecDepth 100000 in
theorem may0 : litRun Tryz.prog 1000 168 r0 true = true := by kernel_rfl
set_option maxRecDepth 100000 in
theorem may1 : litRun Tryz.prog 1000 168 r1 true = true := by kernel_rfl
set_option maxRecDepth 100000 in
theorem may2 : litRun Tryz.prog 1000 168 r2 true = true := by kernel_rfl
set_option maxRecDepth 100000 in
theorem may3 : litRun Tryz.prog 1000 168 r3 true = true := by kernel_rfl
set_option maxRecDepth 100000 in
theorem may4 : litRun Tryz.prog 1000 168 r4 true = true := by kernel_rfl
set_option maxRecDepth 100000 in
theorem may5 : litRun Tryz.prog 1000 168 r5 true = true := by kernel_rfl
theorem may_all : ∀ r ∈ mayR, litRun Tryz.prog 1000 168 r.1 r.2 = true := by
  intro r hr
  simp only [mayR, List.mem_cons, List.not_mem_nil, or_false] at hr
  rcases hr with rfl | rfl | rfl | rfl | rfl | rfl
  · exact may0
  · exact may1
  · exact may2
  · exact may3
  · exact may4
  · exact may5
def extA : ExtT := boolX 168 (litT mayR)
theorem ext_ok {w : World} {vw : List Vw} {φ : Nat → List Value → List Value} : ExtOk ⟨w, vw, gt0⟩ (cxT Tryz.prog vwA) φ extA :=
  litX_ok (cx := cxT Tryz.prog vwA) names_ok (enters Tryz.func168 (c := Tryz.f168.body.getD .skip) (by kernel_rfl) (by kernel_rfl)) rfl rfl may_all
end Go.Proofs.YtbfemcblcdfaaaaGreatDoor
