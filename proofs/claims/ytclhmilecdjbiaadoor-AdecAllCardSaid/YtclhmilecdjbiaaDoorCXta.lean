/- CX: from the middle of a function on: the rest of its code, where the slots and the world are known by then. -/
import Derived.Test.YtclhmilecdjbiaaDoorCXlw
namespace Go.CX
open Go Go.RowKit Go.SX
section
variable {ρ : Nat → Value} {φ : Nat → List Value → List Value} {cx : Cx}
/-- All ends of a code from a state on. -/
def tailC (cx : Cx) (r : RunT) (N : Nat) (C : Code) (σ : St) (K : Facts → XX → St → Bool) : Nat → Facts → Bool
  | 0, _ => false
  | k + 1, fs => match r fs N (fun _ => none) C σ with
    | .ok x σ' => K fs x σ'
    | .split c => (match cx.so c.strip with
      | .bool => tailC cx r N C σ K k (addF cx c.strip true fs) && tailC cx r N C σ K k (addF cx c.strip false fs)
      | _ => false)
    | .stuck => false
/-- The slots that are known. -/
def slotsAre (ρ : Nat → Value) (φ : Nat → List Value → List Value) (l : List (Nat × SV)) (a : Act) : Prop := ∀ t s, lookA t l = some s → ∃ x, a.tmps[t]? = some x ∧ s.is ρ φ (fun _ => none) x
theorem start_ms {l : List (Nat × SV)} {a : Act} {w : World} (hs : slotsAre ρ φ l a) (hd : a.defers = []) (hvw : ∀ v ∈ cx.vw, VwC v ρ w) :
    MS ρ φ ⟨a.tmps.size, Xof (fun _ => none) (fun _ => none), fun _ => none, w, ⟨w, cx.vw⟩⟩ (fun _ => none) ⟨l, [], 0⟩ (fun _ => none) a w := by
  have hW : W ρ φ ⟨a.tmps.size, Xof (fun _ => none) (fun _ => none), fun _ => none, w, ⟨w, cx.vw⟩⟩ (fun _ => none) (fun _ => none) w :=
    ⟨LowP.refl _ _, fun id row h => absurd h (by simp), fun id row k h => absurd h (by simp), fun id id' r r' b n n' h => absurd h (by simp), fun id b n h => absurd h (by simp), fun id b n h => absurd h (by simp), Nat.le_refl _, fun _ _ => rfl, hvw⟩
  exact ⟨⟨hs, rfl, hd, hW⟩⟩
/-- **The rest of a code does what its run says.** -/
theorem tail_by {ext : ExtT} {n D : Nat} {l : List (Nat × SV)} {C : Code} {K : Facts → XX → St → Bool} (hct : cx.ct = []) (hname : ∀ (f : FuncId) (fn : Func), cx.P.funcs[f]? = some fn → (fn.name == "runtime.NumGoroutine") = false)
    (F : Fits cx.Γ cx.S ρ φ) {a : Act} {w : World} (hd : a.defers = []) (hs : slotsAre ρ φ l a) (hvw : ∀ v ∈ cx.vw, VwC v ρ w) (hext : ExtOk ⟨w, cx.vw⟩ cx φ ext) {Q : Exit → Act → World → Prop}
    (hQ : ∀ fs x σ' β' a' w', fs.hold ρ φ → K fs x σ' = true → MS ρ φ ⟨a.tmps.size, Xof (fun _ => none) (fun _ => none), fun _ => none, w, ⟨w, cx.vw⟩⟩ (fun _ => none) σ' β' a' w' → Below w.heap.size w w' → Q x.toExit a' w') :
    ∀ (k : Nat) (fs : Facts), fs.hold ρ φ → tailC cx (runD cx ext D n) a.tmps.size C ⟨l, [], 0⟩ K k fs = true → C.wp cx.P Q a w
  | 0, _, _, h => by simp [tailC] at h
  | k + 1, fs, hf, h => by
    unfold tailC at h
    split at h
    · rename_i x σ' hr
      obtain ⟨_, s⟩ := run_ok hname hct rfl hext (hk0_ok _ _ _) n fs a.tmps.size (fun _ => none) C _ _ _ hr
      refine s ρ ⟨a.tmps.size, Xof (fun _ => none) (fun _ => none), fun _ => none, w, ⟨w, cx.vw⟩⟩ (fun _ => none) a w Q F hf rfl rfl (start_ms hs hd hvw) (fun _ _ _ => rfl) fun β' a' w' _ _ hM => ?_
      have hl := hM.m.wld.low
      exact hQ fs x σ' β' a' w' hf h hM ⟨hl.os, hl.tape, hl.output, hl.size, fun k hk => hl.block k hk (by rintro ⟨id, row, n, h, _⟩; exact absurd h (by simp))⟩
    · rename_i c _
      split at h
      · rename_i hb
        rw [Bool.and_eq_true] at h
        have hv := so_bool F (x := c.strip) hb
        cases hq : vbool (c.strip.den ρ φ)
        · rw [hq] at hv
          exact tail_by hct hname F hd hs hvw hext hQ k _ (addF_hold F (ctSound hct) _ false hf hv) h.2
        · rw [hq] at hv
          exact tail_by hct hname F hd hs hvw hext hQ k _ (addF_hold F (ctSound hct) _ true hf hv) h.1
      · cases h
    · cases h
/-- A slot that is true where the code returns. -/
def retK (cx : Cx) (t : Nat) (fs : Facts) (x : XX) (σ : St) : Bool := match x with
  | .ret => (match σ.L t with
    | some (.one ⟨false, [.e e]⟩) => decK cx fs e == some true
    | _ => false)
  | _ => false
theorem retK_ok (F : Fits cx.Γ cx.S ρ φ) {t : Nat} {fs : Facts} (hf : fs.hold ρ φ) {x : XX} {σ : St} (h : retK cx t fs x σ = true) {fx : Fx} {base : BK} {β : Bk} {a : Act} {w : World} (H : MS ρ φ fx base σ β a w) : x = .ret ∧ a.tmps[t]? = some (.bool true) := by
  unfold retK at h
  split at h
  · split at h
    · rename_i e he
      obtain ⟨v, hv, hx⟩ := H.m.tmps t _ he
      have hx : v = e.den ρ φ := hx
      refine ⟨rfl, ?_⟩
      rw [hv, hx]
      exact congrArg some (decK_sound F hf (by simpa using h))
    · cases h
  · cases h
end
end Go.CX
