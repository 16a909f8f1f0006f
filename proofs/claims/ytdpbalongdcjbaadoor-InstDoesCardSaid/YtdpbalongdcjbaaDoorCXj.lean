/- CX: functions without arguments that answer true. -/
import Derived.Test.YtdpbalongdcjbaaDoorCXi
namespace Go.CX
open Go Go.RowKit Go.SX

def cx0 (P : Program) : Cx := ⟨P, [], [], [], []⟩
def isTrue : OR → Bool
  | .ok d => match d.v with
    | .one ⟨false, [.e (.bool true)]⟩ => true
    | _ => false
  | _ => false
def answers (P : Program) (n : Nat) (f : FuncId) : Bool := isTrue (callI (cx0 P) ext0 (run (cx0 P) ext0 n) f [] (fun _ => none) 0 [])
def namesOk (P : Program) : Bool := P.funcs.toList.all fun fn => !(fn.name == "runtime.NumGoroutine")
theorem namesOk_spec {P : Program} (h : namesOk P = true) : ∀ (f : FuncId) (fn : Func), P.funcs[f]? = some fn → (fn.name == "runtime.NumGoroutine") = false := by
  intro f fn hf
  have := List.all_eq_true.1 h fn (by
    rw [Array.mem_toList_iff]
    exact Array.mem_of_getElem? hf)
  simpa using this
theorem fits0 (P : Program) : Fits (cx0 P).Γ (cx0 P).S (fun _ => undef) (fun _ _ => []) :=
  ⟨fun i => by simp [cx0, So.has], fun g j args => by simp [cx0, Cx.S, symS, lookA, So.has]⟩
theorem calls_true {P : Program} (hname : namesOk P = true) {n : Nat} {f : FuncId} (h : answers P n f = true) (w : World) :
    Calls P f #[] w fun e w' => e = .returned (.bool true) ∧ Below w.heap.size w w' := by
  unfold answers isTrue at h
  split at h
  · rename_i d hd
    split at h
    · rename_i hv
      have := calls_run (cx := cx0 P) (namesOk_spec hname) (xs := []) (w := w) (ext0_ok _ _ _) hd (fits0 P) (fun p hp => by simp at hp) trivial
      refine this.mono ?_
      rintro e w' ⟨x, β', rfl, hx, hb⟩
      rw [hv] at hx
      have hx : x = _ := hx
      subst hx
      exact ⟨rfl, hb⟩
    · exact absurd h (by simp)
  · exact absurd h (by simp)
end Go.CX
