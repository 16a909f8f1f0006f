/- CX: truths by cases, where numbers that part stand inside of sums; what is told of two numbers beyond that. -/
import Derived.Test.YtbpcidpladnhfaaDoorCXcp
namespace Go.CX
open Go Go.RowKit Go.SX

/-- A number that parts, outermost. -/
def outI : E → E
  | .bin o k x (.ite c y z) => .ite c (.bin o k x y) (.bin o k x z)
  | e => e
def splitE (cx : Cx) (R : RuleT) : Nat → Facts → E → (Facts → Bool → Bool) → Bool
  | 0, _, _, _ => false
  | n + 1, fs, x, K => match decK cx fs x with
    | some b => K fs b
    | none => match x with
      | .ite c a b => splitE cx R n fs c (fun fs' v => if v then splitE cx R n fs' a K else splitE cx R n fs' b K)
      | .not a => if cx.so a == .bool then splitE cx R n fs a (fun fs' v => K fs' (!v)) else false
      | .beq a b => if cx.so a == .bool && cx.so b == .bool then splitE cx R n fs a (fun fs1 v => splitE cx R n fs1 b (fun fs2 u => K fs2 (v == u))) else false
      | .cmp op a b => match R fs op a b with
        | some v => K fs v
        | none => match outI a with
          | .ite c a1 a2 => splitE cx R n fs c (fun fs' v => splitE cx R n fs' (.cmp op (if v then a1 else a2) b) K)
          | _ => match outI b with
            | .ite c b1 b2 => splitE cx R n fs c (fun fs' v => splitE cx R n fs' (.cmp op a (if v then b1 else b2)) K)
            | _ => K (addF cx (.cmp op a b) true fs) true && K (addF cx (.cmp op a b) false fs) false
      | x => match cx.so x with
        | .bool => K (addF cx x true fs) true && K (addF cx x false fs) false
        | _ => false
def sureE (cx : Cx) (R : RuleT) (n : Nat) (fs : Facts) : SV → Bool
  | .one ⟨false, [.e x]⟩ => splitE cx R n fs x fun _ b => b
  | _ => false
section
variable {ρ : Nat → Value} {φ : Nat → List Value → List Value} {cx : Cx}
theorem outI_den (e : E) : (outI e).den ρ φ = e.den ρ φ := by
  unfold outI
  split
  · rename_i o k x c y z
    simp only [E.den]
    cases vbool (c.den ρ φ) <;> simp
  · rfl
theorem splitE_ok (C : CtSound cx φ) (F : Fits cx.Γ cx.S ρ φ) {R : RuleT} (hR : RuleOk ρ φ R) : ∀ (n : Nat) (fs : Facts) (x : E) (K : Facts → Bool → Bool), fs.hold ρ φ → splitE cx R n fs x K = true →
    ∃ b fs', fs'.hold ρ φ ∧ K fs' b = true ∧ x.den ρ φ = .bool b
  | 0, _, _, _, _, h => by simp [splitE] at h
  | n + 1, fs, x, K, hf, h => by
    have atom : ∀ x : E, x.den ρ φ = .bool (vbool (x.den ρ φ)) → (K (addF cx x true fs) true && K (addF cx x false fs) false) = true → ∃ b fs', fs'.hold ρ φ ∧ K fs' b = true ∧ x.den ρ φ = .bool b := by
      intro x hb h
      rw [Bool.and_eq_true] at h
      cases hv : vbool (x.den ρ φ)
      · rw [hv] at hb
        exact ⟨false, _, addF_hold F C x false hf hb, h.2, hb⟩
      · rw [hv] at hb
        exact ⟨true, _, addF_hold F C x true hf hb, h.1, hb⟩
    unfold splitE at h
    split at h
    · rename_i b hb
      exact ⟨b, fs, hf, h, decK_sound F hf hb⟩
    · split at h
      · rename_i c a b _
        obtain ⟨v, fs', hf', hK, hc⟩ := splitE_ok C F hR n fs c _ hf h
        cases v
        · obtain ⟨r, fs2, h1, h2, h3⟩ := splitE_ok C F hR n fs' b K hf' (by simpa using hK)
          exact ⟨r, fs2, h1, h2, by simp [E.den, hc, h3]⟩
        · obtain ⟨r, fs2, h1, h2, h3⟩ := splitE_ok C F hR n fs' a K hf' (by simpa using hK)
          exact ⟨r, fs2, h1, h2, by simp [E.den, hc, h3]⟩
      · rename_i a _
        split at h
        · obtain ⟨v, fs', hf', hK, hc⟩ := splitE_ok C F hR n fs a _ hf h
          exact ⟨!v, fs', hf', hK, by simp [E.den, hc]⟩
        · cases h
      · rename_i a b _
        split at h
        · obtain ⟨v, fs1, hf1, hK1, hc1⟩ := splitE_ok C F hR n fs a _ hf h
          obtain ⟨u, fs2, hf2, hK2, hc2⟩ := splitE_ok C F hR n fs1 b _ hf1 hK1
          exact ⟨v == u, fs2, hf2, hK2, by simp [E.den, hc1, hc2]⟩
        · cases h
      · rename_i op a b _
        split at h
        · rename_i v hv
          exact ⟨v, fs, hf, h, hR fs op a b v hf hv⟩
        · split at h
          · rename_i c a1 a2 ho
            obtain ⟨v, fs', hf', hK, hc⟩ := splitE_ok C F hR n fs c _ hf h
            obtain ⟨r, fs2, h1, h2, h3⟩ := splitE_ok C F hR n fs' _ K hf' hK
            refine ⟨r, fs2, h1, h2, ?_⟩
            rw [← h3]
            have hd := outI_den (ρ := ρ) (φ := φ) a
            rw [ho] at hd
            simp only [E.den] at hd ⊢
            rw [← hd]
            cases v <;> simp [hc]
          · split at h
            · rename_i c b1 b2 ho
              obtain ⟨v, fs', hf', hK, hc⟩ := splitE_ok C F hR n fs c _ hf h
              obtain ⟨r, fs2, h1, h2, h3⟩ := splitE_ok C F hR n fs' _ K hf' hK
              refine ⟨r, fs2, h1, h2, ?_⟩
              rw [← h3]
              have hd := outI_den (ρ := ρ) (φ := φ) b
              rw [ho] at hd
              simp only [E.den] at hd ⊢
              rw [← hd]
              cases v <;> simp [hc]
            · exact atom _ rfl h
      · split at h
        · rename_i hs
          exact atom _ (so_bool F hs) h
        · cases h
theorem sureE_ok (hct : cx.ct = []) (F : Fits cx.Γ cx.S ρ φ) {R : RuleT} (hR : RuleOk ρ φ R) {n : Nat} {fs : Facts} (hf : fs.hold ρ φ) {v : SV} (h : sureE cx R n fs v = true) {β : Bk} {x : Value} (hx : v.is ρ φ β x) : x = .bool true := by
  unfold sureE at h
  split at h
  · rename_i e
    have hx : x = e.den ρ φ := hx
    have C : CtSound cx φ := by
      intro g hg
      rw [hct] at hg
      simp at hg
    obtain ⟨b, fs', _, hb, he⟩ := splitE_ok C F hR n fs e _ hf h
    have hb : b = true := hb
    rw [hx, he, hb]
  · cases h
/-- A law, by its run and by cases. -/
theorem law_byE {ext : ExtT} {n D : Nat} {f : FuncId} {args : List SV} {xs : List Value} {k m : Nat} {fs : Facts} {R : RuleT} (hct : cx.ct = []) (hname : ∀ (f : FuncId) (fn : Func), cx.P.funcs[f]? = some fn → (fn.name == "runtime.NumGoroutine") = false)
    (F : Fits cx.Γ cx.S ρ φ) (hR : RuleOk ρ φ R) (hf : fs.hold ρ φ) (ha : All2 (SV.is ρ φ fun _ => none) args xs) (h : endsC cx ext n D f args k fs (sureE cx R m) = true) (w : World) (hvw : ∀ v ∈ cx.vw, VwC v ρ w) (hext : ExtOk ⟨w, cx.vw⟩ cx φ ext) :
    Calls cx.P f xs.toArray w fun e w' => e = .returned (.bool true) ∧ Below w.heap.size w w' := by
  obtain ⟨v, fs', h1, h2, h3⟩ := endsC_ok hct hname F hf ha h
  refine Calls.mono (h3 w hvw hext) ?_
  rintro e w' ⟨x, β', rfl, hx, hb⟩
  rw [sureE_ok hct F hR h1 h2 hx]
  exact ⟨rfl, hb⟩

/-! ### Rules -/
def ruleOr (R S : RuleT) : RuleT := fun fs op a b => match R fs op a b with
  | some v => some v
  | none => S fs op a b
theorem ruleOr_ok {R S : RuleT} (hR : RuleOk ρ φ R) (hS : RuleOk ρ φ S) : RuleOk ρ φ (ruleOr R S) := by
  intro fs op a b v hf h
  unfold ruleOr at h
  split at h
  · rename_i u hu
    simp only [Option.some.injEq] at h
    subst h
    exact hR fs op a b _ hf hu
  · exact hS fs op a b v hf h
def u64m : E := .int .u64 18446744073709551615
/-- All bits turned: from the greatest number. -/
def notR (cx : Cx) : RuleT := fun _ op a b => match op, a, b with
  | .eql, .bin .xor .u64 (.int .u64 18446744073709551615) x, .bin .sub .u64 (.int .u64 18446744073709551615) y => if x.eqv y && (cx.so x == .int .u64) then some true else none
  | _, _, _ => none
/-- p and (y without p) is y. -/
def backR (cx : Cx) : RuleT := fun _ op a b => match op, b with
  | .eql, .bin .add .u64 p (.bin .sub .u64 y q) => if p.eqv q && a.eqv y && (cx.so y == .int .u64) then some true else none
  | _, _ => none
/-- Sixteen bits of a word, from bit k on, are put in. -/
def movkT (g v : E) (k : Nat) : E × E := (.bin .or .u64 (.bin .andNot .u64 g (.int .u64 (Int.ofNat (65535 * 2 ^ k)))) (.shf .shl .u64 v (.int .u64 (Int.ofNat k))),
  .bin .add .u64 (.bin .sub .u64 g (.shf .shl .u64 (.bin .rem .u64 (.shf .shr .u64 g (.int .u64 (Int.ofNat k))) (.int .u64 65536)) (.int .u64 (Int.ofNat k)))) (.shf .shl .u64 v (.int .u64 (Int.ofNat k))))
def movkR (cx : Cx) : RuleT := fun fs op a b => match op, a with
  | .eql, .bin .or .u64 (.bin .andNot .u64 g _) (.shf .shl .u64 v (.int .u64 (.ofNat k))) => if Nat.ble k 48 && (cx.so g == .int .u64) && (cx.so v == .int .u64) && (dec cx fs (.cmp .lss v (.int .u64 65536)) == some true) && a.eqv (movkT g v k).1 && b.eqv (movkT g v k).2 then some true else none
  | _, _ => none
end
end Go.CX
