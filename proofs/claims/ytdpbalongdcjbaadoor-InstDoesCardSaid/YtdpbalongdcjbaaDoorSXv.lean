/- SX: what a term is, by all ways: functions' trees and loops are opened, conditions are split. -/
import Derived.Test.YtdpbalongdcjbaaDoorSXs
namespace Go.SX
open Go Go.RowKit

/-! ### Trees of values -/
inductive VT where
  | leaf (es : List E) | ite (c : E) (t e : VT) | stuck
def SC.toE : SC → E
  | .e x => x
  | _ => .val undef
def SV.es : SV → List E
  | .one p => p.cs.map SC.toE
  | .tup ps => ps.flatMap fun p => p.cs.map SC.toE
def RTree.strip : RTree → VT
  | .leaf v _ => .leaf v.es
  | .ite c t e => .ite c t.strip e.strip
  | .stuck => .stuck
def RTree.stripRow (T : RTree) : VT :=
  match rowE T with
  | some (_, es) => .leaf es
  | none => .stuck
section
variable (ρ : Nat → Value) (φ : Nat → List Value → List Value)
def VT.vals : VT → List Value
  | .leaf es => es.map (·.den ρ φ)
  | .ite c t e => if vbool (c.den ρ φ) then t.vals else e.vals
  | .stuck => []
end
section
variable {ρ : Nat → Value} {φ : Nat → List Value → List Value}
theorem toE_den (c : SC) : c.toE.den ρ φ = c.val ρ φ := by cases c <;> rfl
theorem es_den (v : SV) : v.es.map (·.den ρ φ) = v.vals ρ φ := by
  have h : ∀ cs : List SC, (cs.map SC.toE).map (·.den ρ φ) = cs.map (SC.val ρ φ) := by
    intro cs
    rw [List.map_map]
    exact List.map_congr_left fun c _ => toE_den c
  cases v with
  | one p => exact h p.cs
  | tup ps =>
    simp only [SV.es, SV.vals, Part.vals]
    induction ps with
    | nil => rfl
    | cons p ps ih => simp only [List.flatMap_cons, List.map_append, h, ih]
theorem strip_vals : ∀ T : RTree, T.strip.vals ρ φ = T.vals ρ φ
  | .leaf v _ => es_den v
  | .ite c t e => by simp only [RTree.strip, VT.vals, RTree.vals, strip_vals t, strip_vals e]
  | .stuck => rfl
end

/-! ### Loops' trees -/
inductive LT where
  | next (es : List E) | out (es : List E) | ite (c : E) (t e : LT)
def dflE (ss : List So) : List E := ss.map fun s => .val (coe s undef)
def badE (lp : Lp) : List E := .int .i64 (-1) :: dflE (lp.exits.flatMap fun e => outSorts e.2)
def stripL (lp : Lp) (cx : Cx) (n : Nat) (ws : List Nat) : Tree → LT
  | .leaf .normal σ => match nextE n cx ws σ.L 0 lp.ins with
    | some es => .next es
    | none => .out (badE lp)
  | .leaf x σ => match exitE n cx σ.L x 0 lp.exits with
    | some (k, a, es) => .out (.int .i64 (Int.ofNat k) :: (dflE ((lp.exits.flatMap fun e => outSorts e.2).take a) ++ es ++ dflE ((lp.exits.flatMap fun e => outSorts e.2).drop (a + es.length))))
    | none => .out (badE lp)
  | .ite c t e => .ite c (stripL lp cx n ws t) (stripL lp cx n ws e)
  | .stuck => .out (badE lp)
section
variable (ρ : Nat → Value) (φ : Nat → List Value → List Value)
def LT.step : LT → List Value ⊕ List Value
  | .next es => .inl (es.map (·.den ρ φ))
  | .out es => .inr (es.map (·.den ρ φ))
  | .ite c t e => if vbool (c.den ρ φ) then t.step else e.step
end
def atS (ss : List So) (fl : List Value) : Nat → Value := fun i => coe (ss.getD i .any) (fl.getD i undef)
def LT.itr (ss : List So) (T : LT) (bad : List E) (φ : Nat → List Value → List Value) : Nat → List Value → List Value
  | 0, _ => bad.map (·.den (fun _ => undef) φ)
  | m + 1, fl => match T.step (atS ss fl) φ with
    | .inl fl' => LT.itr ss T bad φ m fl'
    | .inr r => r
theorem dflE_den {ρ : Nat → Value} {φ : Nat → List Value → List Value} (ss : List So) : (dflE ss).map (·.den ρ φ) = dfl ss := by
  unfold dflE dfl
  rw [List.map_map]
  exact List.map_congr_left fun s _ => rfl
theorem badE_den {ρ : Nat → Value} {φ : Nat → List Value → List Value} (lp : Lp) : (badE lp).map (·.den ρ φ) = .int .i64 (-1) :: dfl (lp.exits.flatMap fun e => outSorts e.2) := by
  unfold badE
  rw [List.map_cons, dflE_den]
  rfl
theorem stripL_step {lp : Lp} {cx : Cx} {n : Nat} {ws : List Nat} {φ : Nat → List Value → List Value} (fl : List Value) : ∀ T : Tree, (stripL lp cx n ws T).step (atS (sortsP (lp.ins.map (·.2))) fl) φ = lpStep lp cx n ws T φ fl := by
  intro T
  induction T with
  | leaf x σ =>
    unfold lpStep
    cases x with
    | normal =>
      simp only [stripL, Tree.run]
      cases nextE n cx ws σ.L 0 lp.ins with
      | none => simp only [LT.step, badE_den]
      | some es => rfl
    | exit id =>
      simp only [stripL, Tree.run]
      cases exitE n cx σ.L (.exit id) 0 lp.exits with
      | none => simp only [LT.step, badE_den]
      | some r =>
        obtain ⟨k, a, es⟩ := r
        simp only [LT.step, List.map_cons, List.map_append, dflE_den, E.den]
        rfl
    | ret =>
      simp only [stripL, Tree.run]
      cases exitE n cx σ.L .ret 0 lp.exits with
      | none => simp only [LT.step, badE_den]
      | some r =>
        obtain ⟨k, a, es⟩ := r
        simp only [LT.step, List.map_cons, List.map_append, dflE_den, E.den]
        rfl
  | ite c t e iht ihe =>
    simp only [stripL, LT.step, iht, ihe]
    unfold lpStep
    simp only [Tree.run]
    unfold atS
    split <;> rfl
  | stuck =>
    unfold lpStep
    simp only [stripL, Tree.run, LT.step, badE_den]
theorem stripL_itr {lp : Lp} {cx : Cx} {n : Nat} {ws : List Nat} {φ : Nat → List Value → List Value} (T : Tree) : ∀ (m : Nat) (fl : List Value), (stripL lp cx n ws T).itr (sortsP (lp.ins.map (·.2))) (badE lp) φ m fl = lpItr lp cx n ws T φ m fl
  | 0, fl => by simp only [LT.itr, lpItr, badE_den]
  | m + 1, fl => by
    simp only [LT.itr, lpItr, stripL_step]
    cases lpStep lp cx n ws T φ fl with
    | inl f => exact stripL_itr T m _
    | inr r => rfl

/-! ### Symbols that do not occur -/
def E.noSym (K : Nat) : E → Bool
  | .bin _ _ a b | .shf _ _ a b | .cmp _ a b | .beq a b | .seq a b | .idx a b | .cons a b | .byte a b => a.noSym K && b.noSym K
  | .not a | .conv _ a | .len a | .tup a => a.noSym K
  | .ite a b c | .cut a b c => a.noSym K && b.noSym K && c.noSym K
  | .el g i _ _ _ => g.noSym K && i.noSym K
  | .app f _ a => !(Nat.beq f K) && a.noSym K
  | .var _ | .int _ _ | .bool _ | .val _ | .nil => true
theorem noSym_den (ρ : Nat → Value) (φ : Nat → List Value → List Value) (K : Nat) (G : List Value → List Value) : ∀ e : E, e.noSym K = true → e.den ρ (updF φ K G) = e.den ρ φ ∧ e.dens ρ (updF φ K G) = e.dens ρ φ := by
  intro e
  induction e with
  | var i => intro _; exact ⟨rfl, rfl⟩
  | int k n => intro _; exact ⟨rfl, rfl⟩
  | bool b => intro _; exact ⟨rfl, rfl⟩
  | val v => intro _; exact ⟨rfl, rfl⟩
  | nil => intro _; exact ⟨rfl, rfl⟩
  | bin o k a b iha ihb => intro hl; simp only [E.noSym, Bool.and_eq_true] at hl; exact ⟨by simp only [E.den, (iha hl.1).1, (ihb hl.2).1], rfl⟩
  | shf o k a b iha ihb => intro hl; simp only [E.noSym, Bool.and_eq_true] at hl; exact ⟨by simp only [E.den, (iha hl.1).1, (ihb hl.2).1], rfl⟩
  | cmp o a b iha ihb => intro hl; simp only [E.noSym, Bool.and_eq_true] at hl; exact ⟨by simp only [E.den, (iha hl.1).1, (ihb hl.2).1], rfl⟩
  | beq a b iha ihb => intro hl; simp only [E.noSym, Bool.and_eq_true] at hl; exact ⟨by simp only [E.den, (iha hl.1).1, (ihb hl.2).1], rfl⟩
  | seq a b iha ihb => intro hl; simp only [E.noSym, Bool.and_eq_true] at hl; exact ⟨by simp only [E.den, (iha hl.1).1, (ihb hl.2).1], rfl⟩
  | byte a b iha ihb => intro hl; simp only [E.noSym, Bool.and_eq_true] at hl; exact ⟨by simp only [E.den, (iha hl.1).1, (ihb hl.2).1], rfl⟩
  | idx a b iha ihb => intro hl; simp only [E.noSym, Bool.and_eq_true] at hl; exact ⟨by simp only [E.den, (iha hl.1).1, (ihb hl.2).2], rfl⟩
  | cons a b iha ihb => intro hl; simp only [E.noSym, Bool.and_eq_true] at hl; exact ⟨rfl, by simp only [E.dens, (iha hl.1).1, (ihb hl.2).2]⟩
  | not a iha => intro hl; simp only [E.noSym] at hl; exact ⟨by simp only [E.den, (iha hl).1], rfl⟩
  | conv k a iha => intro hl; simp only [E.noSym] at hl; exact ⟨by simp only [E.den, (iha hl).1], rfl⟩
  | app g j a iha =>
    intro hl
    simp only [E.noSym, Bool.and_eq_true, Bool.not_eq_true'] at hl
    have hg : g ≠ K := fun e => by rw [e] at hl; simp at hl
    exact ⟨by simp only [E.den, (iha hl.2).2, updF_ne φ hg], rfl⟩
  | len a iha => intro hl; simp only [E.noSym] at hl; exact ⟨by simp only [E.den, (iha hl).1], rfl⟩
  | tup a iha => intro hl; simp only [E.noSym] at hl; exact ⟨by simp only [E.den, (iha hl).2], rfl⟩
  | ite a b c iha ihb ihc => intro hl; simp only [E.noSym, Bool.and_eq_true] at hl; exact ⟨by simp only [E.den, (iha hl.1.1).1, (ihb hl.1.2).1, (ihc hl.2).1], rfl⟩
  | cut a b c iha ihb ihc => intro hl; simp only [E.noSym, Bool.and_eq_true] at hl; exact ⟨by simp only [E.den, (iha hl.1.1).1, (ihb hl.1.2).1, (ihc hl.2).1], rfl⟩
  | el g i sz o s ihg ihi => intro hl; simp only [E.noSym, Bool.and_eq_true] at hl; exact ⟨by simp only [E.den, (ihg hl.1).1, (ihi hl.2).1], rfl⟩
theorem noSym_all (ρ : Nat → Value) (φ : Nat → List Value → List Value) (K : Nat) (G : List Value → List Value) {es : List E} (h : es.all (E.noSym K) = true) : es.map (·.den ρ (updF φ K G)) = es.map (·.den ρ φ) :=
  List.map_congr_left fun e he => (noSym_den ρ φ K G e (List.all_eq_true.1 h e he)).1
def VT.noSym (K : Nat) : VT → Bool
  | .leaf es => es.all (E.noSym K)
  | .ite c t e => c.noSym K && t.noSym K && e.noSym K
  | .stuck => true
theorem VT.noSym_vals (ρ : Nat → Value) (φ : Nat → List Value → List Value) (K : Nat) (G : List Value → List Value) : ∀ {T : VT}, T.noSym K = true → T.vals ρ (updF φ K G) = T.vals ρ φ
  | .leaf es, h => noSym_all ρ φ K G h
  | .ite c t e, h => by
    simp only [VT.noSym, Bool.and_eq_true] at h
    simp only [VT.vals, (noSym_den ρ φ K G c h.1.1).1, VT.noSym_vals ρ φ K G h.1.2, VT.noSym_vals ρ φ K G h.2]
  | .stuck, _ => rfl
def LT.noSym (K : Nat) : LT → Bool
  | .next es => es.all (E.noSym K)
  | .out es => es.all (E.noSym K)
  | .ite c t e => c.noSym K && t.noSym K && e.noSym K
theorem LT.noSym_step (ρ : Nat → Value) (φ : Nat → List Value → List Value) (K : Nat) (G : List Value → List Value) : ∀ {T : LT}, T.noSym K = true → T.step ρ (updF φ K G) = T.step ρ φ
  | .next es, h => by simp only [LT.step, noSym_all ρ φ K G h]
  | .out es, h => by simp only [LT.step, noSym_all ρ φ K G h]
  | .ite c t e, h => by
    simp only [LT.noSym, Bool.and_eq_true] at h
    simp only [LT.step, (noSym_den ρ φ K G c h.1.1).1, LT.noSym_step ρ φ K G h.1.2, LT.noSym_step ρ φ K G h.2]
theorem LT.noSym_itr (φ : Nat → List Value → List Value) (K : Nat) (G : List Value → List Value) {ss : List So} {T : LT} {bad : List E} (h : T.noSym K = true) (hb : bad.all (E.noSym K) = true) : ∀ (m : Nat) (fl : List Value), T.itr ss bad (updF φ K G) m fl = T.itr ss bad φ m fl
  | 0, fl => noSym_all _ φ K G hb
  | m + 1, fl => by
    simp only [LT.itr, LT.noSym_step _ φ K G h]
    split
    · exact LT.noSym_itr φ K G h hb m _
    · rfl

/-! ### What is known of the symbols -/
inductive Def where
  | fn (ss : List So) (T : VT)
  | lp (ss : List So) (mu : E) (T : LT) (bad : List E)
def Def.ok (φ : Nat → List Value → List Value) (s : Nat) : Def → Prop
  | .fn ss T => ∀ fl, φ s fl = T.vals (atS ss fl) φ
  | .lp ss mu T bad => ∀ fl, φ s fl = T.itr ss bad φ ((vint (mu.den (atS ss fl) φ) + 1).toNat + 1) fl
def Def.noSym (K : Nat) : Def → Bool
  | .fn _ T => T.noSym K
  | .lp _ mu T bad => mu.noSym K && T.noSym K && bad.all (E.noSym K)
def DS (φ : Nat → List Value → List Value) (D : List (Nat × Def)) : Prop := ∀ p ∈ D, p.2.ok φ p.1
def newSym (K : Nat) (D : List (Nat × Def)) : Bool := D.all fun p => !(Nat.beq p.1 K) && p.2.noSym K
theorem DS.nil (φ : Nat → List Value → List Value) : DS φ [] := fun p hp => by simp at hp
theorem DS.keep {φ : Nat → List Value → List Value} {D : List (Nat × Def)} (H : DS φ D) {K : Nat} (h : newSym K D = true) (G : List Value → List Value) : DS (updF φ K G) D := by
  intro p hp
  have h1 := List.all_eq_true.1 h p hp
  simp only [Bool.and_eq_true, Bool.not_eq_true'] at h1
  have hne : p.1 ≠ K := fun e => by rw [e] at h1; simp at h1
  have hd := H p hp
  obtain ⟨s, d⟩ := p
  cases d with
  | fn ss T =>
    intro fl
    rw [updF_ne φ hne, VT.noSym_vals _ φ K G h1.2]
    exact hd fl
  | lp ss mu T bad =>
    intro fl
    have h2 := h1.2
    simp only [Def.noSym, Bool.and_eq_true] at h2
    rw [updF_ne φ hne, LT.noSym_itr φ K G h2.1.2 h2.2, (noSym_den _ φ K G mu h2.1.1).1]
    exact hd fl
/-- A function's meaning is its tree. -/
theorem DS.fn {φ : Nat → List Value → List Value} {D : List (Nat × Def)} (H : DS φ D) (K : Nat) (ss : List So) (T : RTree) (V : VT) (hV : T.strip = V) (h : newSym K D = true) (hK : V.noSym K = true) : DS (updF φ K (SX.auto T ss φ)) ((K, .fn ss V) :: D) := by
  intro p hp
  rcases List.mem_cons.1 hp with rfl | hp
  · intro fl
    rw [updF_self, VT.noSym_vals _ φ K _ hK, ← hV, strip_vals]
    rfl
  · exact H.keep h _ p hp
theorem DS.row {φ : Nat → List Value → List Value} {D : List (Nat × Def)} (H : DS φ D) (K : Nat) (ss : List So) (T : RTree) (V : VT) (hV : T.stripRow = V) (h : newSym K D = true) (hK : V.noSym K = true) : DS (updF φ K (SX.autoRow T ss φ)) ((K, .fn ss V) :: D) := by
  intro p hp
  rcases List.mem_cons.1 hp with rfl | hp
  · intro fl
    rw [updF_self, VT.noSym_vals _ φ K _ hK, ← hV]
    unfold SX.autoRow RTree.stripRow
    cases rowE T with
    | none => rfl
    | some r => rfl
  · exact H.keep h _ p hp
theorem DS.lp {φ : Nat → List Value → List Value} {D : List (Nat × Def)} (H : DS φ D) (lp : Lp) (cx : Cx) (ws : List Nat) (T : Tree) (V : LT) (hV : stripL lp cx (sortsP (lp.ins.map (·.2))).length ws T = V) (h : newSym lp.sym D = true) (hK : (V.noSym lp.sym && lp.mu.noSym lp.sym && (badE lp).all (E.noSym lp.sym)) = true) :
    DS (updF φ lp.sym (lpF lp cx (sortsP (lp.ins.map (·.2))).length ws T φ)) ((lp.sym, .lp (sortsP (lp.ins.map (·.2))) lp.mu V (badE lp)) :: D) := by
  simp only [Bool.and_eq_true] at hK
  intro p hp
  rcases List.mem_cons.1 hp with rfl | hp
  · intro fl
    rw [updF_self, LT.noSym_itr φ lp.sym _ hK.1.1 hK.2, (noSym_den _ φ lp.sym _ lp.mu hK.1.2).1, ← hV, stripL_itr]
    rfl
  · exact H.keep h _ p hp
end Go.SX
