/- CX: ways that part: a function's tree; calls that answer by a symbol. -/
import Derived.Test.YtdpbalongdcjbaaDoorCXk
namespace Go.CX
open Go Go.RowKit Go.SX

inductive Tr where
  | leaf (v : SV) | ite (c : E) (t e : Tr) | stuck
def tree (cx : Cx) (ext : ExtT) (n : Nat) (f : FuncId) (args : List SV) : Nat → Facts → Tr
  | 0, _ => .stuck
  | k + 1, fs => match callI cx ext (run cx ext n) f args (fun _ => none) 0 fs with
    | .ok d => .leaf d.v
    | .split c => match cx.so c.strip with
      | .bool => .ite c.strip (tree cx ext n f args k (addF cx c.strip true fs)) (tree cx ext n f args k (addF cx c.strip false fs))
      | _ => .stuck
    | .stuck => .stuck
def Tr.all (ρ : Nat → Value) (φ : Nat → List Value → List Value) (K : SV → Prop) : Tr → Prop
  | .leaf v => K v
  | .ite c t e => (c.den ρ φ = .bool true → t.all ρ φ K) ∧ (c.den ρ φ = .bool false → e.all ρ φ K)
  | .stuck => False
def Tr.yes : Tr → Bool
  | .leaf v => match v with
    | .one ⟨false, [.e (.bool true)]⟩ => true
    | _ => false
  | .ite _ t e => t.yes && e.yes
  | .stuck => false
/-- One term at each end, a bool. -/
def Tr.bools (cx : Cx) (m : Nat) : Tr → Bool
  | .leaf v => match v with
    | .one ⟨false, [.e x]⟩ => (match cx.so x with | .bool => true | _ => false) && x.lt m
    | _ => false
  | .ite c t e => c.lt m && t.bools cx m && e.bools cx m
  | .stuck => false
def Tr.val (ρ : Nat → Value) (φ : Nat → List Value → List Value) : Tr → Value
  | .leaf v => match v with
    | .one ⟨false, [.e x]⟩ => x.den ρ φ
    | _ => undef
  | .ite c t e => if vbool (c.den ρ φ) then t.val ρ φ else e.val ρ φ
  | .stuck => undef

section
variable {ρ : Nat → Value} {φ : Nat → List Value → List Value} {cx : Cx} {ext : ExtT}
theorem tree_sound (hct : cx.ct = []) (hname : ∀ (f : FuncId) (fn : Func), cx.P.funcs[f]? = some fn → (fn.name == "runtime.NumGoroutine") = false) {n : Nat} {f : FuncId} {args : List SV} {xs : List Value} {w : World} (hext : ExtOk w cx φ ext)
    (F : Fits cx.Γ cx.S ρ φ) (ha : All2 (SV.is ρ φ fun _ => none) args xs) {R : Ending → World → Prop} : ∀ (k : Nat) (fs : Facts), fs.hold ρ φ →
    (tree cx ext n f args k fs).all ρ φ (fun v => ∀ x β' w', v.is ρ φ β' x → Below w.heap.size w w' → R (.returned x) w') → Calls cx.P f xs.toArray w R
  | 0, _, _, h => h.elim
  | k + 1, fs, hf, h => by
    have C : CtSound cx φ := by
      intro g hg
      rw [hct] at hg
      simp at hg
    unfold tree at h
    split at h
    · rename_i d hd
      refine (calls_run hname hext hd F hf ha).mono ?_
      rintro e w' ⟨x, β', rfl, hx, hb⟩
      exact h x β' w' hx hb
    · rename_i c hc
      split at h
      · rename_i hb
        have hbool := so_bool F hb
        have ht : vbool (c.strip.den ρ φ) = true ∨ vbool (c.strip.den ρ φ) = false := by cases vbool (c.strip.den ρ φ) <;> simp
        rcases ht with ht | ht
        · rw [ht] at hbool
          exact tree_sound hct hname hext F ha k _ (addF_hold F C c.strip true hf hbool) (h.1 hbool)
        · rw [ht] at hbool
          exact tree_sound hct hname hext F ha k _ (addF_hold F C c.strip false hf hbool) (h.2 hbool)
      · exact h.elim
    · exact h.elim
theorem Tr.yes_all {R : Ending → World → Prop} {w : World} (hR : ∀ w', Below w.heap.size w w' → R (.returned (.bool true)) w') : ∀ {T : Tr}, T.yes = true →
    T.all ρ φ (fun v => ∀ x β' w', v.is ρ φ β' x → Below w.heap.size w w' → R (.returned x) w')
  | .leaf v, h => by
    intro x β' w' hx hb
    unfold Tr.yes at h
    split at h
    · have hx : x = _ := hx
      subst hx
      exact hR w' hb
    · exact absurd h (by simp)
  | .ite c t e, h => by
    simp only [Tr.yes, Bool.and_eq_true] at h
    exact ⟨fun _ => yes_all hR h.1, fun _ => yes_all hR h.2⟩
  | .stuck, h => by simp [Tr.yes] at h
theorem Tr.bools_all (F : Fits cx.Γ cx.S ρ φ) {m : Nat} {R : Ending → World → Prop} {w : World} : ∀ {T : Tr}, T.bools cx m = true → (∀ w', Below w.heap.size w w' → R (.returned (T.val ρ φ)) w') →
    T.all ρ φ (fun v => ∀ x β' w', v.is ρ φ β' x → Below w.heap.size w w' → R (.returned x) w')
  | .leaf v, h, hR => by
    intro x β' w' hx hb
    unfold Tr.bools at h
    split at h
    · rename_i e
      have hx : x = e.den ρ φ := hx
      subst hx
      exact hR w' hb
    · exact absurd h (by simp)
  | .ite c t e, h, hR => by
    simp only [Tr.bools, Bool.and_eq_true] at h
    refine ⟨fun hc => bools_all F h.1.2 fun w' hb => ?_, fun hc => bools_all F h.2 fun w' hb => ?_⟩
    · have := hR w' hb
      simpa [Tr.val, hc] using this
    · have := hR w' hb
      simpa [Tr.val, hc] using this
  | .stuck, h, _ => by simp [Tr.bools] at h
theorem Tr.bools_bool (F : Fits cx.Γ cx.S ρ φ) {m : Nat} : ∀ {T : Tr}, T.bools cx m = true → ∃ b, T.val ρ φ = .bool b
  | .leaf v, h => by
    unfold Tr.bools at h
    split at h
    · rename_i e
      rw [Bool.and_eq_true] at h
      have h := h.1
      split at h
      · rename_i hb
        exact ⟨_, so_bool F hb⟩
      · exact absurd h (by simp)
    · exact absurd h (by simp)
  | .ite c t e, h => by
    simp only [Tr.bools, Bool.and_eq_true] at h
    obtain ⟨b1, h1⟩ := bools_bool F h.1.2
    obtain ⟨b2, h2⟩ := bools_bool F h.2
    simp only [Tr.val]
    split
    · exact ⟨b1, h1⟩
    · exact ⟨b2, h2⟩
  | .stuck, h => by simp [Tr.bools] at h
end

/-! ### Calls that answer by a symbol: of cells that are terms -/
/-- An argument: many cells or one; their sorts. -/
structure Con where
  f : FuncId
  sym : Nat
  ps : List (Bool × List So)
def exsC : List SC → Option (List E)
  | [] => some []
  | .e x :: cs => (exsC cs).map (x :: ·)
  | _ => none
def flatC (cx : Cx) : List (Bool × List So) → List SV → Option (List E)
  | [], [] => some []
  | (a, ss) :: ps, .one ⟨a', cs⟩ :: svs => if a == a' then (match exsC cs, flatC cx ps svs with
    | some es, some r => if soOk cx ss es && (a || Nat.beq ss.length 1) then some (es ++ r) else none
    | _, _ => none) else none
  | _, _ => none
/-- What comes in, cell by cell. -/
def packs : List (Bool × List So) → List Value → List Value → Prop
  | [], [], fl => fl = []
  | (a, ss) :: ps, x :: xs, fl => ∃ f1 f2, fl = f1 ++ f2 ∧ All2 So.has ss f1 ∧ (if a then x = .agg f1.toArray else f1 = [x]) ∧ packs ps xs f2
  | _, _, _ => False
def conX (cx : Cx) (g : Con) : ExtT := fun f args _ n _ => if Nat.beq f g.f then (match flatC cx g.ps args with
  | some es => some (.ok ⟨.one ⟨false, [.e (.app g.sym 0 (toL es))]⟩, [], n⟩)
  | none => none) else none
section
variable {ρ : Nat → Value} {φ : Nat → List Value → List Value} {cx : Cx}
theorem exsC_is {β : Bk} : ∀ {cs : List SC} {es : List E} {vs : List Value}, exsC cs = some es → All2 (SC.is ρ φ β) cs vs → vs = es.map (·.den ρ φ)
  | [], es, vs, h, ha => by
    simp only [exsC, Option.some.injEq] at h
    subst h
    cases vs with
    | nil => rfl
    | cons _ _ => exact ha.elim
  | .e x :: cs, es, vs, h, ha => by
    simp only [exsC, Option.map_eq_some_iff] at h
    obtain ⟨es', he, rfl⟩ := h
    cases vs with
    | nil => exact ha.elim
    | cons v vs =>
      have h1 : v = x.den ρ φ := ha.1
      rw [h1, exsC_is he ha.2]
      rfl
  | .any :: _, _, _, h, _ => by simp [exsC] at h
  | .ptr _ _ :: _, _, _, h, _ => by simp [exsC] at h
  | .slc _ _ _ _ :: _, _, _, h, _ => by simp [exsC] at h
  | .sla _ _ _ _ :: _, _, _, h, _ => by simp [exsC] at h
theorem soOk_has (F : Fits cx.Γ cx.S ρ φ) : ∀ {ss : List So} {es : List E}, soOk cx ss es = true → All2 So.has ss (es.map (·.den ρ φ))
  | [], [], _ => trivial
  | s :: ss, x :: xs, h => by
    simp only [soOk, Bool.and_eq_true] at h
    exact ⟨has_of F h.1, soOk_has F h.2⟩
  | [], _ :: _, h => by simp [soOk] at h
  | _ :: _, [], h => by simp [soOk] at h
theorem flatC_is (F : Fits cx.Γ cx.S ρ φ) {β : Bk} : ∀ {ps : List (Bool × List So)} {svs : List SV} {es : List E} {xs : List Value}, flatC cx ps svs = some es → All2 (SV.is ρ φ β) svs xs → packs ps xs (es.map (·.den ρ φ))
  | [], [], es, xs, h, ha => by
    simp only [flatC, Option.some.injEq] at h
    subst h
    cases xs with
    | nil => rfl
    | cons _ _ => exact ha.elim
  | (a, ss) :: ps, .one ⟨a', cs⟩ :: svs, es, xs, h, ha => by
    simp only [flatC] at h
    split at h
    · rename_i haa
      have haa : a = a' := by simpa using haa
      subst haa
      split at h
      · rename_i e1 r he hr
        split at h
        · rename_i hso
          rw [Bool.and_eq_true] at hso
          simp only [Option.some.injEq] at h
          subst h
          cases xs with
          | nil => exact ha.elim
          | cons x xs =>
            refine ⟨e1.map (·.den ρ φ), r.map (·.den ρ φ), by simp, soOk_has F hso.1, ?_, flatC_is F hr ha.2⟩
            cases a with
            | true =>
              obtain ⟨vs, hx, hv⟩ := ha.1
              rw [if_pos rfl, hx, exsC_is he hv]
            | false =>
              rw [if_neg (by simp)]
              have hx := ha.1
              match cs, hx, he with
              | [c], hx, he =>
                have hx : c.is ρ φ β x := hx
                have := exsC_is (vs := [x]) he ⟨hx, trivial⟩
                exact this.symm
        · exact absurd h (by simp)
      · exact absurd h (by simp)
    · exact absurd h (by simp)
  | [], _ :: _, _, _, h, _ => by simp [flatC] at h
  | _ :: _, [], _, _, h, _ => by simp [flatC] at h
  | _ :: _, .tup _ :: _, _, _, h, _ => by simp [flatC] at h
  | _ :: _, .fn _ _ _ :: _, _, _, h, _ => by simp [flatC] at h
end
/-- The call answers as the symbol says. -/
def Con.Sound (g : Con) (P : Program) (φ : Nat → List Value → List Value) : Prop := Enters P g.f ∧ ∀ (w : World) (xs fl : List Value), packs g.ps xs fl → Calls P g.f xs.toArray w fun e w' => e = .returned ((φ g.sym fl).getD 0 undef) ∧ Below w.heap.size w w'
theorem conX_ok {ws : World} {cx : Cx} {φ : Nat → List Value → List Value} {g : Con} (hg : g.Sound cx.P φ) : ExtOk ws cx φ (conX cx g) := by
  intro f svs B n fs d h ρ β w xs N F hf hW hn ha
  unfold conX at h
  split at h
  · rename_i he
    have he := Nat.eq_of_beq_eq_true he
    subst he
    split at h
    · rename_i es hes
      simp only [Option.some.injEq, OR.ok.injEq] at h
      subst h
      refine ⟨hg.1 _ _, (hg.2 w xs _ (flatC_is F hes ha)).mono ?_⟩
      rintro e w' ⟨rfl, hb⟩
      refine ⟨_, β, rfl, Ext.refl _, Newer.refl _ _ _, hW.grow hb, ?_⟩
      show _ = _
      simp only [E.den, toL_dens]
    · exact absurd h (by simp)
  · exact absurd h (by simp)

/-! ### Calls that answer a literal truth -/
def boolX (f : FuncId) (T : List SV → Option Bool) : ExtT := fun g args _ n _ => if Nat.beq g f then (match T args with
  | some b => some (.ok ⟨.one ⟨false, [.e (.bool b)]⟩, [], n⟩)
  | none => none) else none
theorem boolX_ok {ws : World} {cx : Cx} {φ : Nat → List Value → List Value} {f : FuncId} {T : List SV → Option Bool} (hin : Enters cx.P f)
    (hc : ∀ (svs : List SV) (b : Bool) (ρ : Nat → Value) (β : Bk) (xs : List Value) (w : World), T svs = some b → Fits cx.Γ cx.S ρ φ → All2 (SV.is ρ φ β) svs xs → (∀ k, k < ws.heap.size → w.heap[k]? = ws.heap[k]?) →
      Calls cx.P f xs.toArray w fun e w' => e = .returned (.bool b) ∧ Below w.heap.size w w') : ExtOk ws cx φ (boolX f T) := by
  intro g svs B n fs d h ρ β w xs N F hf hW hn ha
  unfold boolX at h
  split at h
  · rename_i he
    have he := Nat.eq_of_beq_eq_true he
    subst he
    split at h
    · rename_i b hb
      simp only [Option.some.injEq, OR.ok.injEq] at h
      subst h
      refine ⟨hin _ _, (hc svs b ρ β xs w hb F ha (fun k hk => hW.base k hk)).mono ?_⟩
      rintro e w' ⟨rfl, hbl⟩
      exact ⟨_, β, rfl, Ext.refl _, Newer.refl _ _ _, hW.grow hbl, rfl⟩
    · exact absurd h (by simp)
  · exact absurd h (by simp)
def noArgs : List SV → Option Bool
  | [] => some true
  | _ => none
end Go.CX
