/- Layer 27: the law's own run. -/
import Derived.Test.YtbfemcblcdfaaaaGreatDoorTo
namespace Go.Proofs.YtbfemcblcdfaaaaGreatDoor
open Go Go.Proofs Go.RowKit Go.CX Go.SX
def cxN (P : Program) : Cx := { P, Γ := [.int .i64], ct := [], vw := [], sy := [] }
def extN : ExtT := trueX 12
set_option maxRecDepth 100000 in
theorem nil_run : endsC (cxN Tryz.prog) extN 300 0 3 [.one ⟨false, [.e (.var 0)]⟩] 4 [] (yesK (cxN Tryz.prog)) = true := by kernel_rfl
theorem same_ws {w w' : World} (h : TabsA w) (hk : ∀ k, k < w.heap.size → w'.heap[k]? = w.heap[k]?) : TabsA w' := by
  unfold TabsA Lib.TabIs World.var? at *
  cases hg : Tryz.prog.globalNamed "calque/xflag.flagBits" with
  | none => rw [hg] at h; simp at h
  | some g =>
    rw [hg] at h
    simp only [Option.bind_some] at h ⊢
    have hlt : g < w.heap.size := by
      cases hq : w.heap[g]? with
      | none => rw [hq] at h; simp at h
      | some o => exact (Array.getElem?_eq_some_iff.1 hq).1
    rw [hk g hlt]
    exact h
theorem law_nil {t : Int} (ht : -9223372036854775808 ≤ t ∧ t ≤ 9223372036854775807) (W : World) (hT : TabsA W) :
    Calls Tryz.prog 3 #[.int .i64 t] W fun e W' => e = .returned (.bool true) ∧ Below W.heap.size W W' := by
  have F : Fits (cxN Tryz.prog).Γ (cxN Tryz.prog).S (fun _ => .int .i64 t) (fun _ _ => []) := ⟨fun i => by
    cases i with
    | zero => exact ⟨t, rfl, ht.1, ht.2⟩
    | succ i => simp [cxN, So.has], fun g j args => by simp [cxN, Cx.S, symS, lookA, So.has]⟩
  exact law_by (cx := cxN Tryz.prog) rfl (namesOk_spec names_ok) F (fs := []) (fun p hp => by simp at hp) (args := [.one ⟨false, [.e (.var 0)]⟩]) (xs := [.int .i64 t]) ⟨rfl, trivial⟩ nil_run W (fun v hv => by simp [cxN] at hv)
    (trueX_ok (enters Tryz.func12 (c := Tryz.f12.body.getD .skip) (by kernel_rfl) (by kernel_rfl)) fun w' hw => awake_any w' (same_ws hT hw))
end Go.Proofs.YtbfemcblcdfaaaaGreatDoor
