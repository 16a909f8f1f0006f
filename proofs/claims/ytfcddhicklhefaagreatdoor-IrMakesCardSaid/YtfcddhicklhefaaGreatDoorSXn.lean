/- SX: code: ways, loops; functions. -/
import Derived.Test.YtfcddhicklhefaaGreatDoorSXm
import Derived.LoopN
import Derived.Scope
namespace Go.SX
open Go Go.RowKit

inductive XX where
  | normal | exit (id : Nat) | ret
def XX.toExit : XX → Exit
  | .normal => .normal
  | .exit id => .exit id
  | .ret => .ret
inductive Tree where
  | leaf (x : XX) (σ : St) | ite (c : E) (t e : Tree) | stuck
def Tree.bind (f : St → Tree) : Tree → Tree
  | .leaf .normal σ => f σ
  | .leaf x σ => .leaf x σ
  | .ite c t e => .ite c (t.bind f) (e.bind f)
  | .stuck => .stuck
def Tree.unblock (id : Nat) : Tree → Tree
  | .leaf (.exit i) σ => if Nat.beq i id then .leaf .normal σ else .leaf (.exit i) σ
  | .leaf x σ => .leaf x σ
  | .ite c t e => .ite c (t.unblock id) (e.unblock id)
  | .stuck => .stuck
def Tree.all (ρ : Nat → Value) (φ : Nat → List Value → List Value) (K : XX → St → Prop) : Tree → Prop
  | .leaf x σ => K x σ
  | .ite c t e => (c.den ρ φ = .bool true → t.all ρ φ K) ∧ (c.den ρ φ = .bool false → e.all ρ φ K)
  | .stuck => False

/-- The number of the first region: by it a loop is known. -/
def firstId : Code → Option Nat
  | .region id _ _ => some id
  | .seq a b => match firstId a with
    | some i => some i
    | none => firstId b
  | .cond _ a b => match firstId a with
    | some i => some i
    | none => firstId b
  | .block _ c => firstId c
  | .loop c => firstId c
  | .scope c => firstId c
  | _ => none
/-- All loops' bodies. -/
def loops : Code → List Code
  | .seq a b => loops a ++ loops b
  | .cond _ a b => loops a ++ loops b
  | .block _ c => loops c
  | .loop c => c :: loops c
  | .scope c => loops c
  | _ => []
def loopsAt (k : Nat) (body : Code) : List Code := (loops body).filter fun c => match firstId c with
  | some i => Nat.beq i k
  | none => false
def loopOf (k : Nat) (body : Code) : Code := (loopsAt k body).headD .skip

/-- All temporaries that a code writes. -/
def wrs : Code → List Nat
  | .region _ ops _ => dsts ops.toList
  | .seq a b => wrs a ++ wrs b
  | .cond _ a b => wrs a ++ wrs b
  | .block _ c => wrs c
  | .loop c => wrs c
  | .scope c => wrs c
  | _ => []

/-- What a loop takes and gives: temporaries that are read; the ways out, and what stands in which temporaries there. -/
structure Lp where
  key : Nat
  sym : Nat
  ins : List (Nat × PK)
  exits : List (XX × List (Nat × RK))
  als : List (Nat × E)
  pre : Facts
  mu : E
  deriving Inhabited
/-- Temporaries that hold what a term says. -/
def alsOk (L : LK) (es : List E) : List (Nat × E) → Bool
  | [] => true
  | (t, e) :: r => (match L t with
    | some (.one ⟨false, [.e x]⟩) => x.eqv (e.subst (atL es))
    | _ => false) && alsOk L es r
def findLp (k : Nat) : List Lp → Option Lp
  | [] => none
  | l :: ls => if Nat.beq l.key k then some l else findLp k ls
theorem findLp_mem {k : Nat} : ∀ {ls : List Lp} {l : Lp}, findLp k ls = some l → l ∈ ls ∧ l.key = k
  | [], l, h => by simp [findLp] at h
  | l' :: ls, l, h => by
    simp only [findLp] at h
    split at h
    · rename_i hb
      simp only [Option.some.injEq] at h
      subst h
      exact ⟨by simp, Nat.eq_of_beq_eq_true hb⟩
    · have := findLp_mem h
      exact ⟨by simp [this.1], this.2⟩
def outSorts (os : List (Nat × RK)) : List So := os.flatMap fun p => p.2.sorts
def Lp.sorts (lp : Lp) : List So := .int .i64 :: lp.exits.flatMap fun e => outSorts e.2
def RK.isVal : RK → Bool
  | .val _ _ => true
  | .row _ _ => false
def outsT (sym : Nat) (args : E) : Nat → List (Nat × RK) → List (Nat × SV)
  | _, [] => []
  | j, (t, r) :: os => (t, .one (r.part sym args 0 j)) :: outsT sym args (j + r.sorts.length) os
def keepT (ws : List Nat) : List (Nat × SV) → List (Nat × SV)
  | [] => []
  | (t, s) :: l => if hasN t ws then keepT ws l else (t, s) :: keepT ws l
def exitsTree (sym : Nat) (args : E) (σ : St) (ws : List Nat) : Nat → Nat → List (XX × List (Nat × RK)) → Tree
  | _, _, [] => .stuck
  | k, j, [(x, os)] => .leaf x (withTmps σ (outsT sym args j os ++ keepT ws σ.tmps) (.cmp .eql (.app sym 0 args) (.int .i64 (Int.ofNat k))))
  | k, j, (x, os) :: es => .ite (.cmp .eql (.app sym 0 args) (.int .i64 (Int.ofNat k)))
      (.leaf x (withTmps σ (outsT sym args j os ++ keepT ws σ.tmps) (.cmp .eql (.app sym 0 args) (.int .i64 (Int.ofNat k)))))
      (exitsTree sym args σ ws (k + 1) (j + (outSorts os).length) es)
 where withTmps (σ : St) (l : List (Nat × SV)) (c : E) : St := { tmps := l, boxes := σ.boxes, next := σ.next, facts := addFact c true σ.facts }
def allMay (fm : Fm) (ws : List Nat) : Bool := ws.all fun t => Nat.blt t fm.N && fm.may t
section
variable {ρ : Nat → Value} {φ : Nat → List Value → List Value}
theorem atL_den {es : List E} : (fun i => (atL es i).den ρ φ) = fun i => (es.map (·.den ρ φ)).getD i undef := by
  funext i
  unfold atL
  rw [List.getD_eq_getElem?_getD, List.getD_eq_getElem?_getD, List.getElem?_map]
  cases es[i]? <;> rfl

end
def argsL : E → List E
  | .cons a b => a :: argsL b
  | _ => []
theorem argsL_dens (ρ : Nat → Value) (φ : Nat → List Value → List Value) (e : E) : e.dens ρ φ = (argsL e).map (·.den ρ φ) := by
  induction e with
  | cons a b _ ihb => simp only [E.dens, argsL, List.map_cons, ihb]
  | _ => rfl
/-- What is known of a call's arguments when it answers yes. -/
def impsOf (cx : Cx) (sym : Nat) (es : List E) : List Sig → Facts
  | [] => []
  | g :: gs => (if Nat.beq g.sym sym && soOk cx (g.ps.flatMap PK.sorts) es && (g.imp.all fun p => p.1.noApp) then g.imp.map (fun p => (p.1.subst (atL es), p.2)) else []) ++ impsOf cx sym es gs
theorem impsOf_hold {ρ : Nat → Value} {φ : Nat → List Value → List Value} {cx : Cx} (F : Fits cx.Γ cx.S ρ φ) {sym : Nat} {es : List E} (h : (φ sym (es.map (·.den ρ φ))).getD 0 undef = .bool true) : ∀ {ct : List Sig}, (∀ g ∈ ct, g.Sound cx.P φ) → (impsOf cx sym es ct).hold ρ φ
  | [], _, p, hp => by simp [impsOf] at hp
  | g :: ct, C, p, hp => by
    simp only [impsOf] at hp
    rcases List.mem_append.1 hp with hp1 | hp1
    · split at hp1
      · rename_i hc
        simp only [Bool.and_eq_true] at hc
        obtain ⟨⟨h1, h2⟩, h3⟩ := hc
        have h1 := Nat.eq_of_beq_eq_true h1
        subst h1
        have := holdN (φ' := φ) h3 ((C g (by simp)).tells _ (soOk_has F h2) h)
        obtain ⟨q, hq, rfl⟩ := List.mem_map.1 hp1
        simp only
        rw [(subst_den ρ φ (atL es) q.1).1, atL_den]
        exact this q hq
      · simp at hp1
    · exact impsOf_hold F h (fun g hg => C g (by simp [hg])) p hp1
/-- A fact, taken apart by the sorts of its parts. -/
def addF (cx : Cx) : E → Bool → Facts → Facts
  | .not a, b, fs => if cx.so a = .bool then addF cx a (!b) fs else (.not a, b) :: fs
  | .ite a x (.bool false), true, fs => addF cx a true (addF cx x true fs)
  | .ite a (.bool true) y, false, fs => if cx.so a = .bool ∧ cx.so y = .bool then addF cx a false (addF cx y false fs) else (.ite a (.bool true) y, false) :: fs
  | .app g 0 args, true, fs => (.app g 0 args, true) :: (impsOf cx g (argsL args) cx.ct ++ fs)
  | c, b, fs => addFact c b fs
theorem so_bool0 {ρ : Nat → Value} {φ : Nat → List Value → List Value} {cx : Cx} (F : Fits cx.Γ cx.S ρ φ) {e : E} (h : cx.so e = .bool) : e.den ρ φ = .bool (vbool (e.den ρ φ)) := by
  have := E.so_has F e
  rw [show e.so cx.Γ cx.S = .bool from h] at this
  obtain ⟨b, hb⟩ := this
  rw [hb]
  rfl
theorem addF_hold {ρ : Nat → Value} {φ : Nat → List Value → List Value} {cx : Cx} (F : Fits cx.Γ cx.S ρ φ) (C : CtSound cx φ) : ∀ (c : E) (b : Bool) {fs : Facts}, fs.hold ρ φ → c.den ρ φ = .bool b → (addF cx c b fs).hold ρ φ := by
  intro c
  have gen0 : ∀ (c : E) (b : Bool) {fs : Facts}, fs.hold ρ φ → c.den ρ φ = .bool b → Facts.hold ρ φ ((c, b) :: fs) := by
    intro c b fs H h p hp
    rcases List.mem_cons.1 hp with rfl | hp
    · exact h
    · exact H p hp
  induction c with
  | not a ih =>
    intro b fs H h
    simp only [addF]
    split
    · rename_i hb
      refine ih (!b) H ?_
      rw [so_bool0 F hb]
      simp only [E.den, Value.bool.injEq] at h
      rw [← h]
      simp
    · exact gen0 _ b H h
  | ite a x y iha ihx ihy =>
    intro b fs H h
    unfold addF
    split
    · rename_i heq
      cases heq
    · rename_i heq
      cases heq
      have h1 : vbool (a.den ρ φ) = true := by
        cases hq : vbool (a.den ρ φ) with
        | true => rfl
        | false => simp [E.den, hq] at h
      simp only [E.den, h1, if_true] at h
      exact iha true (ihx true H h) (vbool_true h1)
    · rename_i heq
      cases heq
      split
      · rename_i hab
        have h1 : vbool (a.den ρ φ) = false := by
          cases hq : vbool (a.den ρ φ) with
          | false => rfl
          | true => simp [E.den, hq] at h
        simp only [E.den, h1, Bool.false_eq_true, if_false] at h
        exact iha false (ihy false H h) (by rw [so_bool0 F hab.1, h1])
      · exact gen0 _ false H h
    · rename_i heq
      cases heq
    · exact addFact_hold ρ φ _ _ H h
  | app g j args _ =>
    intro b fs H h
    unfold addF
    split
    · rename_i heq
      cases heq
    · rename_i heq
      cases heq
    · rename_i heq
      cases heq
    · rename_i heq
      cases heq
      refine gen0 _ true ?_ h
      intro p hp
      rcases List.mem_append.1 hp with hp | hp
      · refine impsOf_hold F ?_ C p hp
        rw [← argsL_dens]
        exact h
      · exact H p hp
    · exact addFact_hold ρ φ _ _ H h
  | _ => intro b fs H h; exact addFact_hold ρ φ _ b H h
def E.strip : E → E
  | .not a => a.strip
  | e => e
def withFact (cx : Cx) (σ : St) (c : E) (b : Bool) : St := { σ with facts := addF cx c b σ.facts }
def rep (f : St → Tree) : Nat → St → Tree
  | 0, _ => .stuck
  | m + 1, σ => (f σ).bind (rep f m)
def lpX (cx : Cx) (fm : Fm) (lp : Lp) (c : Code) (σ : St) : Tree :=
  match flats cx σ.L σ.B (lp.ins.map (·.2)) (lp.ins.map fun p => .tmp p.1) with
  | some es => if allMay fm (wrs c) && lp.exits.all (fun e => e.2.all fun p => p.2.isVal) && preOk cx σ.facts es lp.pre && alsOk σ.L es lp.als then exitsTree lp.sym (toL es) σ (wrs c) 0 1 lp.exits else .stuck
  | none => .stuck

def exec (cx : Cx) (N : Fm) (ls : List Lp) : Nat → Code → St → Tree
  | 0, _, _ => .stuck
  | n + 1, c, σ =>
    match c with
    | .skip => .leaf .normal σ
    | .region id ops draw =>
      match (if draw then regD cx N ops σ else regT cx N ops ops.toList σ) with
      | .ok σ' => .leaf .normal σ'
      | .split e => if cx.so e.strip = .bool then .ite e.strip (exec cx N ls n (.region id ops draw) (withFact cx σ e.strip true)) (exec cx N ls n (.region id ops draw) (withFact cx σ e.strip false)) else .stuck
      | .stuck => .stuck
    | .seq a b => (exec cx N ls n a σ).bind (exec cx N ls n b)
    | .cond o a b =>
      match (opd σ.L o).bind SV.ex with
      | some e => match dec cx σ.facts e with
        | some true => exec cx N ls n a σ
        | some false => exec cx N ls n b σ
        | none => if cx.so e.strip = .bool then .ite e.strip (exec cx N ls n (.cond o a b) (withFact cx σ e.strip true)) (exec cx N ls n (.cond o a b) (withFact cx σ e.strip false)) else .stuck
      | none => .stuck
    | .block id c => (exec cx N ls n c σ).unblock id
    | .loop c => match (firstId c).bind (fun k => findLp k ls) with
      | some lp => lpX cx N lp c σ
      | none => rep (exec cx N ls n c) n σ
    | .exit id => .leaf (.exit id) σ
    | .ret => .leaf .ret σ
    | .scope c => exec cx N ls n c σ
    | _ => .stuck

section
variable {ρ : Nat → Value} {φ : Nat → List Value → List Value} {cx : Cx} {fx : Fx}

theorem Tree.all_mono {K K' : XX → St → Prop} (h : ∀ x σ, K x σ → K' x σ) : ∀ {T : Tree}, T.all ρ φ K → T.all ρ φ K'
  | .leaf _ _, H => h _ _ H
  | .ite _ _ _, H => ⟨fun hc => Tree.all_mono h (H.1 hc), fun hc => Tree.all_mono h (H.2 hc)⟩
  | .stuck, H => H.elim
theorem Tree.all_bind {f : St → Tree} {K : XX → St → Prop} : ∀ {T : Tree}, (T.bind f).all ρ φ K → T.all ρ φ fun x σ => match x with
    | .normal => (f σ).all ρ φ K
    | x => K x σ
  | .leaf .normal _, H => H
  | .leaf (.exit _) _, H => H
  | .leaf .ret _, H => H
  | .ite _ _ _, H => ⟨fun hc => Tree.all_bind (H.1 hc), fun hc => Tree.all_bind (H.2 hc)⟩
  | .stuck, H => H.elim
theorem Tree.all_unblock {id : Nat} {K : XX → St → Prop} : ∀ {T : Tree}, (T.unblock id).all ρ φ K → T.all ρ φ fun x σ => match x with
    | .exit i => if i = id then K .normal σ else K (.exit i) σ
    | x => K x σ
  | .leaf .normal _, H => H
  | .leaf (.exit i) _, H => by
    simp only [Tree.unblock] at H
    simp only [Tree.all]
    by_cases h : i = id
    · subst h
      simp only [Nat.beq_refl, if_true] at H ⊢
      exact H
    · have : ¬ Nat.beq i id = true := fun e => h (Nat.eq_of_beq_eq_true e)
      rw [if_neg this] at H
      rw [if_neg h]
      exact H
  | .leaf .ret _, H => H
  | .ite _ _ _, H => ⟨fun hc => Tree.all_unblock (H.1 hc), fun hc => Tree.all_unblock (H.2 hc)⟩
  | .stuck, H => H.elim

/-- At the end of a piece of code. -/
def Ends (ρ : Nat → Value) (φ : Nat → List Value → List Value) (fx : Fx) (Q : Exit → Act → World → Prop) (x : XX) (σ : St) : Prop :=
  ∀ β a w, MS ρ φ fx σ β a w → σ.facts.hold ρ φ → Q x.toExit a w

theorem MS.facts {σ : St} {β : Nat → Option Nat} {a : Act} {w : World} (H : MS ρ φ fx σ β a w) (fs : Facts) : MS ρ φ fx { σ with facts := fs } β a w := ⟨H.m, H.nxt⟩

def outsAt (tm : Array Value) (out : List Value) : Nat → List (Nat × RK) → Prop
  | _, [] => True
  | j, (t, r) :: os => (∃ x, tm[t]? = some x ∧ ∀ w w' : World, r.gives w w' out j x) ∧ outsAt tm out (j + r.sorts.length) os
/-- Way number k, and where what it gives begins. -/
def exitAt : Nat → Nat → List (XX × List (Nat × RK)) → Nat → Option (XX × Nat × List (Nat × RK))
  | _, _, [], _ => none
  | k, j, (x, os) :: es, m => if Nat.beq k m then some (x, j, os) else exitAt (k + 1) (j + (outSorts os).length) es m

/-- A loop does what its contract says. -/
def Lp.Sound (lp : Lp) (P : Program) (φ : Nat → List Value → List Value) (N : Nat) (c : Code) : Prop :=
  ∀ (a : Act) (w : World) (fl : List Value) (Q : Exit → Act → World → Prop), a.tmps.size = N → a.defers = [] → readsAll w (lp.ins.map (·.2)) (lp.ins.map fun p => a.eval (.tmp p.1)) fl → lp.pre.hold (fun i => fl.getD i undef) φ → (∀ p ∈ lp.als, a.tmps[p.1]? = some (p.2.den (fun i => fl.getD i undef) φ)) →
    (∀ k x j os a' w', exitAt 0 1 lp.exits k = some (x, j, os) → (φ lp.sym fl).getD 0 undef = .int .i64 (Int.ofNat k) → a'.tmps.size = N → a'.defers = [] → (∀ t, hasN t (wrs c) = false → a'.tmps[t]? = a.tmps[t]?) →
      outsAt a'.tmps (φ lp.sym fl) j os → Below w.heap.size w w' → Q x.toExit a' w') → (Code.loop c).wp P Q a w

theorem keepT_look {ws : List Nat} {t : Nat} {s : SV} : ∀ {l : List (Nat × SV)}, lookA t (keepT ws l) = some s → hasN t ws = false ∧ lookA t l = some s
  | [], h => by simp [keepT, lookA] at h
  | (u, s') :: l, h => by
    simp only [keepT] at h
    split at h
    · rename_i hu
      obtain ⟨h1, h2⟩ := keepT_look h
      refine ⟨h1, ?_⟩
      simp only [lookA]
      rw [if_neg]
      · exact h2
      · intro e
        rw [Nat.eq_of_beq_eq_true e] at hu
        rw [hu] at h1
        exact absurd h1 (by simp)
    · rename_i hu
      simp only [lookA] at h
      split at h
      · rename_i hb
        have := Nat.eq_of_beq_eq_true hb
        subst this
        simp only [Option.some.injEq] at h
        subst h
        refine ⟨by simpa using hu, ?_⟩
        simp [lookA]
      · rename_i hb
        obtain ⟨h1, h2⟩ := keepT_look h
        refine ⟨h1, ?_⟩
        simp only [lookA]
        rw [if_neg hb]
        exact h2

theorem outsT_look {sym : Nat} {args : E} {tm : Array Value} {t : Nat} {s : SV} {β : Nat → Option Nat} : ∀ {os : List (Nat × RK)} {j : Nat} {rest : List (Nat × SV)}, os.all (fun p => p.2.isVal) = true → outsAt tm (φ sym (args.dens ρ φ)) j os →
    lookA t (outsT sym args j os ++ rest) = some s → (∃ x, tm[t]? = some x ∧ s.is ρ φ β x) ∨ lookA t rest = some s
  | [], j, rest, _, _, h => Or.inr h
  | (u, r) :: os, j, rest, hv, ho, h => by
    simp only [List.all_cons, Bool.and_eq_true] at hv
    simp only [outsT, List.cons_append, lookA] at h
    split at h
    · rename_i hb
      have := Nat.eq_of_beq_eq_true hb
      subst this
      simp only [Option.some.injEq] at h
      subst h
      obtain ⟨x, hx, hg⟩ := ho.1
      refine Or.inl ⟨x, hx, ?_⟩
      exact part_val (w := default) (w' := default) (fun n s e => by rw [e] at hv; simp [RK.isVal] at hv) (hg _ _)
    · exact outsT_look hv.2 ho.2 h

theorem exits_all {K : XX → St → Prop} {sym : Nat} {args : E} {σ : St} {ws : List Nat} : ∀ {es : List (XX × List (Nat × RK))} {k j : Nat}, (exitsTree sym args σ ws k j es).all ρ φ K → ∀ m x i os, exitAt k j es m = some (x, i, os) →
    (φ sym (args.dens ρ φ)).getD 0 undef = .int .i64 (Int.ofNat m) → K x (exitsTree.withTmps σ (outsT sym args i os ++ keepT ws σ.tmps) (.cmp .eql (.app sym 0 args) (.int .i64 (Int.ofNat m)))) ∧ (E.cmp .eql (.app sym 0 args) (.int .i64 (Int.ofNat m))).den ρ φ = .bool true
  | [], k, j, h, m, x, i, os, he, hm => by simp [exitAt] at he
  | (y, ys) :: es, k, j, h, m, x, i, os, he, hm => by
    have hden : ∀ q : Nat, (E.cmp .eql (.app sym 0 args) (.int .i64 (Int.ofNat q))).den ρ φ = .bool (Int.ofNat m == Int.ofNat q) := by
      intro q
      simp only [E.den, hm, icmp, vint_int]
    simp only [exitAt] at he
    split at he
    · rename_i hb
      have := Nat.eq_of_beq_eq_true hb
      subst this
      simp only [Option.some.injEq, Prod.mk.injEq] at he
      obtain ⟨rfl, rfl, rfl⟩ := he
      refine ⟨?_, by rw [hden]; simp⟩
      cases es with
      | nil => exact h
      | cons e0 es0 => exact h.1 (by rw [hden]; simp)
    · rename_i hb
      cases es with
      | nil => simp [exitAt] at he
      | cons e0 es0 =>
      refine exits_all (h.2 ?_) m x i os he hm
      rw [hden]
      congr 1
      rw [beq_eq_false_iff_ne]
      intro e
      exact hb (by rw [show k = m from (Int.ofNat.inj e).symm]; exact Nat.beq_refl _)

theorem alsOk_hold {L : LK} {B : BK} {β : Nat → Option Nat} {a : Act} {w : World} (H : M ρ φ fx L B β a w) {es : List E} : ∀ {als : List (Nat × E)}, alsOk L es als = true → ∀ p ∈ als, a.tmps[p.1]? = some (p.2.den (fun i => (es.map (·.den ρ φ)).getD i undef) φ)
  | [], _, p, hp => by simp at hp
  | (t, e) :: als, h, p, hp => by
    simp only [alsOk, Bool.and_eq_true] at h
    rcases List.mem_cons.1 hp with rfl | hp
    · have h1 := h.1
      split at h1
      · rename_i x hx
        obtain ⟨v, hv, hs⟩ := H.tmps t _ hx
        have hs : v = x.den ρ φ := hs
        rw [hv, hs, E.eqv_eq h1, (subst_den ρ φ (atL es) e).1, atL_den]
      · exact absurd h1 (by simp)
    · exact alsOk_hold H h.2 p hp

theorem lpX_sound (V : Views cx ρ fx) (F : Fits cx.Γ cx.S ρ φ) {lp : Lp} {c : Code} {σ : St} {β : Nat → Option Nat} {a : Act} {w : World} {Q : Exit → Act → World → Prop} (hs : lp.Sound cx.P φ fx.fm.N c)
    (H : MS ρ φ fx σ β a w) (hf : σ.facts.hold ρ φ) (h : (lpX cx fx.fm lp c σ).all ρ φ (Ends ρ φ fx Q)) : (Code.loop c).wp cx.P Q a w := by
  unfold lpX at h
  split at h
  · rename_i es hes
    split at h
    · rename_i hc
      rw [Bool.and_eq_true, Bool.and_eq_true, Bool.and_eq_true] at hc
      obtain ⟨⟨hc, hpre⟩, hals⟩ := hc
      have hr := flats_reads V F H.m hes
      rw [List.map_map] at hr
      refine hs a w _ Q H.m.size H.m.dfr hr (preOk_hold F hf hpre) (alsOk_hold H.m hals) ?_
      intro k x j os a' w' he hk hsz hdf hfr ho hbl
      rw [← toL_dens] at hk ho
      obtain ⟨hE, hcond⟩ := exits_all h k x j os he hk
      have hval : os.all (fun p => p.2.isVal) = true := by
        have hmem : ∀ {es : List (XX × List (Nat × RK))} {k j : Nat}, exitAt k j es (k + 0) = exitAt k j es k := fun {_ _ _} => rfl
        have : ∀ (es : List (XX × List (Nat × RK))) (k' j' : Nat), exitAt k' j' es k = some (x, j, os) → (x, os) ∈ es := by
          intro es
          induction es with
          | nil => intro k' j' he; simp [exitAt] at he
          | cons e es ih =>
            obtain ⟨y, ys⟩ := e
            intro k' j' he
            simp only [exitAt] at he
            split at he
            · simp only [Option.some.injEq, Prod.mk.injEq] at he
              obtain ⟨rfl, _, rfl⟩ := he
              simp
            · exact List.mem_cons_of_mem _ (ih _ _ he)
        exact List.all_eq_true.1 hc.2 _ (this _ _ _ he)
      refine hE β a' w' ⟨⟨?_, ?_, hdf, ?_, ?_, ?_, H.m.inj, fun id b hb => Nat.lt_of_lt_of_le (H.m.inh id b hb) hbl.size⟩, H.nxt⟩ (addFact_hold ρ φ _ _ hf hcond)
      · intro t s ht
        rcases outsT_look (β := β) hval ho ht with h1 | h1
        · exact h1
        · obtain ⟨h2, h3⟩ := keepT_look h1
          rw [hfr t h2]
          exact H.m.tmps t s h3
      · rw [hsz]
      · intro t ht
        rw [hfr t, H.m.frm t ht]
        cases hq : hasN t (wrs c) with
        | false => rfl
        | true =>
          have := List.all_eq_true.1 hc.1 t (hasN_mem.1 hq)
          rw [Bool.and_eq_true] at this
          rw [this.2] at ht
          exact absurd ht (by simp)
      · refine ⟨hbl.os.trans H.m.low.os, hbl.tape.trans H.m.low.tape, hbl.output.trans H.m.low.output, Nat.le_trans H.m.low.size hbl.size, fun b hb hX => ?_⟩
        rw [hbl.block b (Nat.lt_of_lt_of_le hb H.m.low.size)]
        exact H.m.low.block b hb hX
      · intro id row hrow
        obtain ⟨b, vs, T, h1, h2, h3, h4⟩ := H.m.box id row hrow
        exact ⟨b, vs, T, h1, h2, by rw [hbl.block b (H.m.inh _ _ h1)]; exact h3, h4⟩
    · exact h.elim
  · exact h.elim

theorem exec_sound (V : Views cx ρ fx) (F : Fits cx.Γ cx.S ρ φ) (C : CtSound cx φ) {ls : List Lp} (body : Code) (hls : ∀ lp ∈ ls, ∀ c ∈ loops body, firstId c = some lp.key → lp.Sound cx.P φ fx.fm.N c) :
    ∀ (n : Nat) (c : Code) (σ : St) (β : Nat → Option Nat) (a : Act) (w : World) (Q : Exit → Act → World → Prop), (∀ l ∈ loops c, l ∈ loops body) → MS ρ φ fx σ β a w → σ.facts.hold ρ φ →
      (exec cx fx.fm ls n c σ).all ρ φ (Ends ρ φ fx Q) → c.wp cx.P Q a w := by
  intro n
  induction n with
  | zero => intro c σ β a w Q _ _ _ h; exact h.elim
  | succ n ih =>
    intro c σ β a w Q hsub H hf h
    have two : ∀ {e : E} {t1 t2 : Tree}, cx.so e = .bool → (Tree.ite e t1 t2).all ρ φ (Ends ρ φ fx Q) →
        (e.den ρ φ = .bool true ∧ t1.all ρ φ (Ends ρ φ fx Q)) ∨ (e.den ρ φ = .bool false ∧ t2.all ρ φ (Ends ρ φ fx Q)) := by
      intro e t1 t2 hb hall
      have hb := so_bool F hb
      cases hv : vbool (e.den ρ φ) with
      | true => rw [hv] at hb; exact Or.inl ⟨hb, hall.1 hb⟩
      | false => rw [hv] at hb; exact Or.inr ⟨hb, hall.2 hb⟩
    have fact : ∀ {e : E} {b : Bool}, e.den ρ φ = .bool b → MS ρ φ fx (withFact cx σ e b) β a w ∧ (withFact cx σ e b).facts.hold ρ φ := by
      intro e b he
      exact ⟨H.facts _, addF_hold F C e b hf he⟩
    simp only [exec] at h
    split at h
    · exact wp_skip (h β a w H hf)
    · rename_i id ops draw
      split at h
      · rename_i σ' hr
        cases draw with
        | true =>
          simp only [if_true] at hr
          exact regD_sound V F C hr H hf fun β' a' w' h1 h2 => h β' a' w' h1 h2
        | false =>
          simp only [Bool.false_eq_true, if_false] at hr
          exact wp_region_list (regT_sound V F C hr H hf fun β' a' w' h1 h2 => h β' a' w' h1 h2)
      · rename_i e hr
        split at h
        · rename_i hb
          rcases two hb h with ⟨h1, h2⟩ | ⟨h1, h2⟩
          · obtain ⟨g1, g2⟩ := fact h1
            exact ih _ _ β a w Q hsub g1 g2 h2
          · obtain ⟨g1, g2⟩ := fact h1
            exact ih _ _ β a w Q hsub g1 g2 h2
        · exact h.elim
      · exact h.elim
    · rename_i x y
      refine wp_seq ?_
      refine ih x σ β a w _ (fun l hl => hsub l (by simp [loops, hl])) H hf (Tree.all_mono ?_ (Tree.all_bind h))
      intro x' σ' hx β' a' w' hM hF
      cases x' with
      | normal => exact ih y σ' β' a' w' Q (fun l hl => hsub l (by simp [loops, hl])) hM hF hx
      | exit id => exact hx β' a' w' hM hF
      | ret => exact hx β' a' w' hM hF
    · rename_i o x y
      split at h
      · rename_i e he
        have hev : a.eval o = e.den ρ φ := exIs H.m he
        split at h
        · rename_i hd
          have hd := dec_sound F hf hd
          exact wp_cond_true (by rw [hev, hd]) (ih x σ β a w Q (fun l hl => hsub l (by simp [loops, hl])) H hf h)
        · rename_i hd
          have hd := dec_sound F hf hd
          exact wp_cond_false (by rw [hev, hd]) (ih y σ β a w Q (fun l hl => hsub l (by simp [loops, hl])) H hf h)
        · split at h
          · rename_i hb
            rcases two hb h with ⟨h1, h2⟩ | ⟨h1, h2⟩
            · obtain ⟨g1, g2⟩ := fact h1
              exact ih _ _ β a w Q hsub g1 g2 h2
            · obtain ⟨g1, g2⟩ := fact h1
              exact ih _ _ β a w Q hsub g1 g2 h2
          · exact h.elim
      · exact h.elim
    · rename_i id x
      refine wp_block ?_
      refine ih x σ β a w _ hsub H hf (Tree.all_mono ?_ (Tree.all_unblock h))
      intro x' σ' hx β' a' w' hM hF
      cases x' with
      | normal => exact hx β' a' w' hM hF
      | exit i =>
        simp only [XX.toExit, Exit.inBlock]
        simp only at hx
        split
        · rename_i hi
          rw [if_pos hi] at hx
          exact hx β' a' w' hM hF
        · rename_i hi
          rw [if_neg hi] at hx
          exact hx β' a' w' hM hF
      | ret => exact hx β' a' w' hM hF
    · rename_i x
      split at h
      · rename_i lp hlp
        simp only [Option.bind_eq_some_iff] at hlp
        obtain ⟨k, hk, hl⟩ := hlp
        obtain ⟨hmem, rfl⟩ := findLp_mem hl
        exact lpX_sound V F (hls lp hmem x (hsub x (by simp [loops])) hk) H hf h
      · refine wp_loop_rounds n ?_
        have key : ∀ (m : Nat) (σ : St) (β : Nat → Option Nat) (a : Act) (w : World), MS ρ φ fx σ β a w → σ.facts.hold ρ φ → (rep (exec cx fx.fm ls n x) m σ).all ρ φ (Ends ρ φ fx Q) → Code.rounds cx.P x Q m a w := by
          intro m
          induction m with
          | zero => intro σ β a w _ _ h; exact h.elim
          | succ m ihm =>
            intro σ β a w H hf h
            rw [rounds_succ]
            simp only [rep] at h
            refine ih x σ β a w _ (fun l hl => hsub l (by simp [loops, hl])) H hf (Tree.all_mono ?_ (Tree.all_bind h))
            intro x' σ' hx β' a' w' hM hF
            cases x' with
            | normal => exact ihm σ' β' a' w' hM hF hx
            | exit id => exact hx β' a' w' hM hF
            | ret => exact hx β' a' w' hM hF
        exact key n σ β a w H hf h
    · rename_i id
      exact wp_exit (h β a w H hf)
    · exact wp_ret (h β a w H hf)
    · rename_i x
      refine wp_scope_straight ?_
      refine ih x σ β a w _ hsub H hf (Tree.all_mono ?_ h)
      intro x' σ' hx β' a' w' hM hF
      cases x' with
      | normal => exact hx β' a' w' hM hF
      | exit i => exact hx β' a' w' hM hF
      | ret => exact hx β' a' w' hM hF
    · exact h.elim
end

/-! ### Functions -/
inductive RTree where
  | leaf (v : SV) (σ : St) | ite (c : E) (t e : RTree) | stuck
def resPart (cx : Cx) (σ : St) : ResultVar → Option Part
  | .tmp t => match σ.L t with
    | some (.one p) => some p
    | _ => none
  | .cell t ty => match (σ.L t).bind SV.sc with
    | some (.ptr id off) => match loadX cx σ.B σ.facts ty (.ptr id off) with
      | .ok δ => match δ.v with
        | .one p => some p
        | _ => none
      | _ => none
    | _ => none
def resParts (cx : Cx) (σ : St) : List ResultVar → Option (List Part)
  | [] => some []
  | r :: rs => match resPart cx σ r, resParts cx σ rs with
    | some p, some ps => some (p :: ps)
    | _, _ => none
def resX (cx : Cx) (fn : Func) (σ : St) : Option SV :=
  match resParts cx σ fn.results.toList with
  | some [p] => some (.one p)
  | some ps => some (.tup ps)
  | none => none
def Tree.res (cx : Cx) (fn : Func) : Tree → RTree
  | .leaf .normal σ => match resX cx fn σ with
    | some v => .leaf v σ
    | none => .stuck
  | .leaf .ret σ => match resX cx fn σ with
    | some v => .leaf v σ
    | none => .stuck
  | .leaf (.exit _) _ => .stuck
  | .ite c t e => .ite c (t.res cx fn) (e.res cx fn)
  | .stuck => .stuck
def RTree.all (ρ : Nat → Value) (φ : Nat → List Value → List Value) (K : SV → St → Prop) : RTree → Prop
  | .leaf v σ => K v σ
  | .ite c t e => (c.den ρ φ = .bool true → t.all ρ φ K) ∧ (c.den ρ φ = .bool false → e.all ρ φ K)
  | .stuck => False

def argT : Nat → List SV → List (Nat × SV)
  | _, [] => []
  | i, s :: ss => (i, s) :: argT (i + 1) ss
def start (args : List SV) (facts : Facts) : St := { tmps := argT 0 args, boxes := [], next := 0, facts }
def fnX (cx : Cx) (ls : List Lp) (n : Nat) (fn : Func) (c : Code) (args : List SV) (facts : Facts) : RTree :=
  (exec cx ⟨args.length + (fn.ntmps - args.length), none⟩ ls n c (start args facts)).res cx fn

section
variable {ρ : Nat → Value} {φ : Nat → List Value → List Value} {cx : Cx} {fx : Fx}
theorem argT_look {t : Nat} {s : SV} : ∀ {ss : List SV} {i : Nat}, lookA t (argT i ss) = some s → ∃ j, t = i + j ∧ ss[j]? = some s
  | [], i, h => by simp [argT, lookA] at h
  | s' :: ss, i, h => by
    simp only [argT, lookA] at h
    split at h
    · rename_i hb
      simp only [Option.some.injEq] at h
      subst h
      exact ⟨0, by rw [Nat.add_zero]; exact (Nat.eq_of_beq_eq_true hb).symm, rfl⟩
    · obtain ⟨j, h1, h2⟩ := argT_look h
      exact ⟨j + 1, by omega, by simpa using h2⟩

def resStep (tmps : Array Value) : ResultVar → Sem Value
  | .tmp t => pure (tmps.getD t undef)
  | .cell t ty => do loadVar ty (← asAddr (tmps.getD t undef))
theorem results_eq (fn : Func) (tmps : Array Value) : results fn tmps = (do
    let vs ← fn.results.mapM (resStep tmps)
    pure (if h : vs.size = 1 then vs[0] else .tuple vs)) := by
  unfold results
  congr 1

theorem resPart_run (V : Views cx ρ fx) (F : Fits cx.Γ cx.S ρ φ) {σ : St} {β : Nat → Option Nat} {a : Act} {w : World} (H : MS ρ φ fx σ β a w) (hf : σ.facts.hold ρ φ) {r : ResultVar} {p : Part} (h : resPart cx σ r = some p) :
    ∃ x, (resStep a.tmps r).run cx.P w = .ok x w ∧ p.is ρ φ β x := by
  unfold resPart at h
  split at h
  · rename_i t
    split at h
    · rename_i p' hp
      simp only [Option.some.injEq] at h
      subst h
      exact ⟨_, rfl, opd_is (x := .tmp t) H.m hp⟩
    · exact absurd h (by simp)
  · rename_i t ty
    split at h
    · rename_i id off hc
      split at h
      · rename_i δ hδ
        split at h
        · rename_i p' hp
          simp only [Option.some.injEq] at h
          subst h
          have hcis := scIs H.m (x := .tmp t) hc
          obtain ⟨b, hb, hv⟩ := hcis
          have hr := loadX_run V F H.m hf hδ (v := .pointer (some ⟨b, off, none⟩)) ⟨b, hb, rfl⟩
          obtain ⟨_, _, x, hx, hxv⟩ := hr
          rw [hp] at hxv
          refine ⟨x, ?_, hxv⟩
          have hv : a.tmps.getD t undef = _ := hv
          simp only [resStep]
          rw [hv]
          simpa [asAddr, Instr.loadAt, Instr.sureAddr] using hx
        · exact absurd h (by simp)
      · exact absurd h (by simp)
    · exact absurd h (by simp)

theorem resParts_run (V : Views cx ρ fx) (F : Fits cx.Γ cx.S ρ φ) {σ : St} {β : Nat → Option Nat} {a : Act} {w : World} (H : MS ρ φ fx σ β a w) (hf : σ.facts.hold ρ φ) : ∀ {rs : List ResultVar} {ps : List Part}, resParts cx σ rs = some ps →
    ∃ xs : List Value, (rs.mapM (resStep a.tmps)).run cx.P w = .ok xs w ∧ All2 (Part.is ρ φ β) ps xs
  | [], ps, h => by
    simp only [resParts, Option.some.injEq] at h
    subst h
    exact ⟨[], by simp, trivial⟩
  | r :: rs, ps, h => by
    simp only [resParts] at h
    split at h
    · rename_i p ps' hp hps
      simp only [Option.some.injEq] at h
      subst h
      obtain ⟨x, hx1, hx2⟩ := resPart_run V F H hf hp
      obtain ⟨xs, hxs1, hxs2⟩ := resParts_run V F H hf hps
      refine ⟨x :: xs, ?_, hx2, hxs2⟩
      simp only [List.mapM_cons, Sem.run_bind, hx1, Result.andThen_ok, hxs1, Sem.run_pure]
    · exact absurd h (by simp)

theorem resX_run (V : Views cx ρ fx) (F : Fits cx.Γ cx.S ρ φ) {fn : Func} {σ : St} {β : Nat → Option Nat} {a : Act} {w : World} (H : MS ρ φ fx σ β a w) (hf : σ.facts.hold ρ φ) {v : SV} (h : resX cx fn σ = some v) :
    ∃ x, (results fn a.tmps).run cx.P w = .ok x w ∧ v.is ρ φ β x := by
  have base : ∀ {ps : List Part}, resParts cx σ fn.results.toList = some ps → ∃ xs : List Value, (results fn a.tmps).run cx.P w = .ok (if h : xs.toArray.size = 1 then xs.toArray[0] else .tuple xs.toArray) w ∧ All2 (Part.is ρ φ β) ps xs := by
    intro ps hps
    obtain ⟨xs, h1, h2⟩ := resParts_run V F H hf hps
    refine ⟨xs, ?_, h2⟩
    rw [results_eq, Array.mapM_eq_mapM_toList]
    simp only [Sem.run_bind, Sem.run_map, h1, Result.andThen_ok, Sem.run_pure]
  unfold resX at h
  split at h
  · rename_i p hps
    simp only [Option.some.injEq] at h
    subst h
    obtain ⟨xs, h1, h2⟩ := base hps
    match xs, h2 with
    | [x], h2 => exact ⟨x, by rw [h1]; rfl, h2.1⟩
  · rename_i ps hne hps
    simp only [Option.some.injEq] at h
    subst h
    obtain ⟨xs, h1, h2⟩ := base hps
    refine ⟨.tuple xs.toArray, ?_, xs, rfl, h2⟩
    rw [h1, dif_neg]
    intro e
    have hl := h2.length
    have e : xs.length = 1 := by simpa using e
    match ps, hne, hl with
    | [p], hne, _ => exact hne p rfl
    | [], _, hl => simp only [List.length_nil] at hl; omega
    | _ :: _ :: _, _, hl => simp only [List.length_cons] at hl; omega
  · exact absurd h (by simp)

/-- **A function does what its tree says.** -/
theorem calls_sx (F : Fits cx.Γ cx.S ρ φ) (C : CtSound cx φ) {ls : List Lp} {f : FuncId} {fn : Func} {c : Code} {n : Nat} {args : List SV} {facts : Facts} {xs : List Value} {T : RTree} {w : World} {R : Ending → World → Prop}
    (hls : ∀ lp ∈ ls, ∀ l ∈ loops c, firstId l = some lp.key → lp.Sound cx.P φ (args.length + (fn.ntmps - args.length)) l)
    (hfn : cx.P.funcs[f]? = some fn) (hb : fn.body = some c) (hT : fnX cx ls n fn c args facts = T) (V : Views cx ρ ⟨⟨args.length + (fn.ntmps - args.length), none⟩, #[], [], w⟩) (ha : All2 (SV.is ρ φ fun _ => none) args xs) (hfa : facts.hold ρ φ)
    (hR : T.all ρ φ fun v σ => ∀ β a w' x, MS ρ φ ⟨⟨args.length + (fn.ntmps - args.length), none⟩, #[], [], w⟩ σ β a w' → v.is ρ φ β x → R (.returned x) w') :
    Calls cx.P f xs.toArray w R := by
  refine calls_of_wp hfn hb ?_
  subst hT
  have hlen := ha.length
  have hinit : MS ρ φ ⟨⟨args.length + (fn.ntmps - args.length), none⟩, #[], [], w⟩ (start args facts) (fun _ => none) { tmps := xs.toArray ++ Array.replicate (fn.ntmps - xs.toArray.size) undef, defers := [] } w := by
    refine ⟨⟨?_, ?_, rfl, ?_, LowX.refl _ _, ?_, ?_, ?_⟩, fun _ _ => rfl⟩
    · intro t s h
      obtain ⟨j, h1, h2⟩ := argT_look h
      rw [Nat.zero_add] at h1
      subst h1
      obtain ⟨x, hx, hsx⟩ := ha.get h2
      refine ⟨x, ?_, hsx⟩
      have hjl := (List.getElem?_eq_some_iff.1 hx).1
      rw [Array.getElem?_append_left (by simpa using hjl)]
      simpa using hx
    · simp [hlen]
    · intro t ht
      simp [Fm.may] at ht
    · intro id row h
      simp [St.B, start, lookA] at h
    · intro id id' b h
      simp at h
    · intro id b h
      simp at h
  refine exec_sound V F C c hls n c _ _ _ w _ (fun l hl => hl) hinit hfa ?_
  unfold fnX at hR
  generalize exec cx ⟨args.length + (fn.ntmps - args.length), none⟩ ls n c (start args facts) = T at hR
  induction T with
  | leaf x σ =>
    cases x with
    | normal =>
      simp only [Tree.res] at hR
      split at hR
      · rename_i v hv
        intro β a w' hM hF
        obtain ⟨x, h1, h2⟩ := resX_run V F hM hF hv
        exact ⟨hM.m.dfr, x, h1, hR β a w' x hM h2⟩
      · exact hR.elim
    | ret =>
      simp only [Tree.res] at hR
      split at hR
      · rename_i v hv
        intro β a w' hM hF
        obtain ⟨x, h1, h2⟩ := resX_run V F hM hF hv
        exact ⟨hM.m.dfr, x, h1, hR β a w' x hM h2⟩
      · exact hR.elim
    | exit id => exact hR.elim
  | ite c t e iht ihe => exact ⟨fun hc => iht (hR.1 hc), fun hc => ihe (hR.2 hc)⟩
  | stuck => exact hR.elim
end
end Go.SX
