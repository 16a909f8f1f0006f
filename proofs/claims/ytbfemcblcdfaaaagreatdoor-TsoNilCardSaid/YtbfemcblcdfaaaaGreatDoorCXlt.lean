/- CX: calls at a known value of many cells, whose answers, truths, a list tells; runs of the kernel carry the list out. -/
import Derived.Test.YtbfemcblcdfaaaaGreatDoorCXqa
namespace Go.CX
open Go Go.RowKit Go.SX

section
variable {ρ : Nat → Value} {φ : Nat → List Value → List Value} {cx : Cx}
def litF : List (List E × Bool) → List E → Option Bool
  | [], _ => none
  | r :: rs, es => if eqvL es r.1 then some r.2 else litF rs es
def litT (rows : List (List E × Bool)) : List SV → Option Bool
  | [.one ⟨true, cs⟩] => match exsC cs with
    | some es => litF rows es
    | none => none
  | _ => none
theorem litF_mem : ∀ {rows : List (List E × Bool)} {es : List E} {b : Bool}, litF rows es = some b → (es, b) ∈ rows
  | [], _, _, h => by cases h
  | r :: rs, es, b, h => by
    unfold litF at h
    split at h
    · rename_i he
      simp only [Option.some.injEq] at h
      subst h
      rw [eqvL_eq he]
      exact List.mem_cons_self ..
    · exact List.mem_cons_of_mem _ (litF_mem h)
/-- One row, run. -/
def litRun (P : Program) (n : Nat) (f : FuncId) (es : List E) (b : Bool) : Bool :=
  match callD (cxT P []) ext0 (runH (cxT P []) ext0 0 hk0 n) 0 f [.one ⟨true, es.map .e⟩] (fun _ => none) 0 [] with
  | .ok d => match d.v with
    | .one ⟨false, [.e (.bool c)]⟩ => c == b
    | _ => false
  | _ => false
theorem es_is : ∀ (es : List E) (β : Bk), All2 (SC.is ρ φ β) (es.map .e) (es.map (·.den ρ φ))
  | [], _ => trivial
  | _ :: es, β => ⟨rfl, es_is es β⟩
theorem litRun_ok {P : Program} (hname : namesOk P = true) {n : Nat} {f : FuncId} {es : List E} {b : Bool} (h : litRun P n f es b = true) (F : Fits (cxT P []).Γ (cxT P []).S ρ φ) (w : World) :
    Calls P f #[.agg (es.map (·.den ρ φ)).toArray] w fun e w' => e = .returned (.bool b) ∧ Below w.heap.size w w' := by
  unfold litRun at h
  split at h
  · rename_i d hd
    split at h
    · rename_i c hv
      have hcb : c = b := by simpa using h
      subst hcb
      have := calls_runV (gt := gt0) (cx := cxT P []) (ρ := ρ) (φ := φ) (namesOk_spec hname) (xs := [.agg (es.map (·.den ρ φ)).toArray]) (w := w) rfl (fun v hv => by simp [cxT] at hv) (ext0_ok _ _ _) (hk0_ok _ _ _) hd F (fun p hp => by simp at hp) ⟨⟨_, rfl, es_is es _⟩, trivial⟩
      refine Calls.mono this ?_
      rintro e w' ⟨x, β', rfl, hx, hbl⟩
      rw [hv] at hx
      have hx : x = .bool c := hx
      subst hx
      exact ⟨rfl, hbl⟩
    · exact absurd h (by simp)
  · exact absurd h (by simp)
/-- All rows. -/
theorem litX_ok {ws : Base} {n : Nat} {f : FuncId} {rows : List (List E × Bool)} (hname : namesOk cx.P = true) (hin : Enters cx.P f) (hΓ : cx.Γ = []) (hS : cx.sy = []) (h : ∀ r ∈ rows, litRun cx.P n f r.1 r.2 = true) : ExtOk ws cx φ (boolX f (litT rows)) := by
  refine boolX_ok hin fun svs b ρ β xs w hb F ha _ => ?_
  unfold litT at hb
  split at hb
  · rename_i cs
    split at hb
    · rename_i es hes
      obtain ⟨vs, rfl, hv⟩ : ∃ vs : List Value, xs = [.agg vs.toArray] ∧ All2 (SC.is ρ φ β) cs vs := by
        match xs, ha with
        | [x], ha =>
          obtain ⟨vs, rfl, hv⟩ := ha.1
          exact ⟨vs, rfl, hv⟩
      have e := exsC_is hes hv
      subst e
      refine litRun_ok hname (h _ (litF_mem hb)) ?_ w
      have : (cxT cx.P []).Γ = cx.Γ := hΓ.symm
      rw [this]
      have : (cxT cx.P []).S = cx.S := by unfold Cx.S cxT; rw [hS]
      rw [this]
      exact F
    · cases hb
  · cases hb
end
end Go.CX
