/- The law's closing example answers true: its run is carried out by the kernel, strings.Fields and strings.Join by their contracts. -/
import Derived.Test.YtfcddhicklhefaaGreatDoorProg
import Derived.Test.YtfcddhicklhefaaGreatDoorShelf
import Derived.Test.YtfcddhicklhefaaGreatDoorCXz
import Derived.KernelRfl
namespace Go.Proofs.YtfcddhicklhefaaGreatDoor
open Go Go.Proofs Go.RowKit Go.CX
def extA : ExtT := orX (fieldsX 60) (joinX 37)
set_option maxRecDepth 100000 in
theorem awake_yes : answersE Tryz.prog extA 1000 14 = true := by kernel_rfl
theorem names_ok : namesOk Tryz.prog = true := by kernel_rfl
def Tabs (w : World) : Prop := Lib.TabIs Tryz.prog w "strings.asciiSpace" .u8 Lib.asciiSpaceTab
theorem tabs_kept {w w' : World} (h : Tabs w) (hb : Below w.heap.size w w') : Tabs w' := by
  unfold Tabs Lib.TabIs World.var? at *
  cases hg : Tryz.prog.globalNamed "strings.asciiSpace" with
  | none => rw [hg] at h; simp at h
  | some g =>
    rw [hg] at h
    simp only [Option.bind_some] at h ⊢
    have hlt : g < w.heap.size := by
      cases hq : w.heap[g]? with
      | none => rw [hq] at h; simp at h
      | some o => exact (Array.getElem?_eq_some_iff.1 hq).1
    rw [hb.block g hlt]
    exact h
theorem ext_ok {w : World} (h : Tabs w) : ExtOk ⟨w, []⟩ (cx0 Tryz.prog) (fun _ _ => []) extA :=
  orX_ok (fieldsX_ok (enters Tryz.func60 (c := Tryz.f60.body.getD .skip) (by kernel_rfl) (by kernel_rfl)) h fun s w hs ha ht => Tryz.strings_Fields s w hs ha ht)
    (joinX_ok (enters Tryz.func37 (c := Tryz.f37.body.getD .skip) (by kernel_rfl) (by kernel_rfl)) fun bk o c xs sep w h1 h2 h3 h4 h5 => Tryz.strings_Join bk o c xs sep w h1 h2 h3 h4 h5)
theorem awake_any (w : World) (h : Tabs w) : Calls Tryz.prog 14 #[] w fun e w' => e = .returned (.bool true) ∧ Below w.heap.size w w' := calls_trueE names_ok awake_yes w (ext_ok h)
end Go.Proofs.YtfcddhicklhefaaGreatDoor
