/- SX: symbolic values, the state, what it says of a frame and a world, what an operation does. -/
import Derived.Test.YtfcddhicklhefaaGreatDoorSXa
import Derived.Laws.CopyRow
import Derived.Laws.StructEq
import Derived.Below
namespace Go.SX
open Go Go.RowKit

/-- The content of a cell: a term; an address in a block of the call's own; a slice of such a block. -/
inductive SC where
  | e (x : E) | ptr (id off : Nat) | pti (id off : Nat) (i : E) | slc (id off len cap : Nat) | vad (i : Nat) (idx : E) (sz o : Nat)
  deriving Inhabited
structure Part where
  agg : Bool
  cs : List SC
  deriving Inhabited
inductive SV where
  | one (p : Part) | tup (ps : List Part)
  deriving Inhabited

def All2 {α γ : Type} (R : α → γ → Prop) : List α → List γ → Prop
  | [], [] => True
  | a :: as, b :: bs => R a b ∧ All2 R as bs
  | _, _ => False
section
variable {α γ : Type} {R R' : α → γ → Prop}
theorem All2.mono (h : ∀ a b, R a b → R' a b) : ∀ {as : List α} {bs : List γ}, All2 R as bs → All2 R' as bs
  | [], [], _ => trivial
  | _ :: _, _ :: _, H => ⟨h _ _ H.1, All2.mono h H.2⟩
  | [], _ :: _, H => H.elim
  | _ :: _, [], H => H.elim
theorem All2.length : ∀ {as : List α} {bs : List γ}, All2 R as bs → as.length = bs.length
  | [], [], _ => rfl
  | _ :: _, _ :: _, H => by simp [All2.length H.2]
  | [], _ :: _, H => H.elim
  | _ :: _, [], H => H.elim
theorem All2.get : ∀ {as : List α} {bs : List γ} {i : Nat} {a : α}, All2 R as bs → as[i]? = some a → ∃ b, bs[i]? = some b ∧ R a b
  | [], [], i, a, _, h => by simp at h
  | a' :: as, b' :: bs, 0, a, H, h => by simp at h; subst h; exact ⟨b', rfl, H.1⟩
  | a' :: as, b' :: bs, i + 1, a, H, h => by simpa using All2.get (i := i) H.2 (by simpa using h)
  | [], _ :: _, _, _, H, _ => H.elim
  | _ :: _, [], _, _, H, _ => H.elim
theorem All2.append : ∀ {as as' : List α} {bs bs' : List γ}, All2 R as bs → All2 R as' bs' → All2 R (as ++ as') (bs ++ bs')
  | [], _, [], _, _, h => h
  | _ :: _, _, _ :: _, _, H, h => ⟨H.1, All2.append H.2 h⟩
  | [], _, _ :: _, _, H, _ => H.elim
  | _ :: _, _, [], _, H, _ => H.elim
theorem All2.take : ∀ (n : Nat) {as : List α} {bs : List γ}, All2 R as bs → All2 R (as.take n) (bs.take n)
  | 0, _, _, _ => by simp [All2]
  | _ + 1, [], [], _ => trivial
  | n + 1, _ :: _, _ :: _, H => ⟨H.1, All2.take n H.2⟩
  | _ + 1, [], _ :: _, H => H.elim
  | _ + 1, _ :: _, [], H => H.elim
theorem All2.drop : ∀ (n : Nat) {as : List α} {bs : List γ}, All2 R as bs → All2 R (as.drop n) (bs.drop n)
  | 0, _, _, H => by simpa using H
  | _ + 1, [], [], _ => trivial
  | n + 1, _ :: _, _ :: _, H => All2.drop n H.2
  | _ + 1, [], _ :: _, H => H.elim
  | _ + 1, _ :: _, [], H => H.elim
theorem All2.mem : ∀ {as : List α} {bs : List γ} {b : γ}, All2 R as bs → b ∈ bs → ∃ a ∈ as, R a b
  | [], [], b, _, h => by simp at h
  | a :: as, b' :: bs, b, H, h => by
    rcases List.mem_cons.1 h with rfl | h
    · exact ⟨a, by simp, H.1⟩
    · obtain ⟨a', ha, hr⟩ := All2.mem H.2 h
      exact ⟨a', by simp [ha], hr⟩
  | [], _ :: _, _, H, _ => H.elim
  | _ :: _, [], _, H, _ => H.elim
end

/-- 'us' laid over 'vs' from place 'off' on. -/
def spl {α : Type} (vs : List α) (off : Nat) (us : List α) : List α := vs.take off ++ us ++ vs.drop (off + us.length)

section
variable (ρ : Nat → Value) (φ : Nat → List Value → List Value) (β : Nat → Option Nat)
def SC.is : SC → Value → Prop
  | .e x, v => v = x.den ρ φ
  | .ptr id off, v => ∃ b, β id = some b ∧ v = .pointer (some ⟨b, off, none⟩)
  | .pti id off i, v => ∃ b, β id = some b ∧ v = .pointer (some ⟨b, off + (vint (i.den ρ φ)).toNat, none⟩)
  | .slc id off len cap, v => ∃ b, β id = some b ∧ v = .slice (some ⟨b, off, none⟩) len cap
  | .vad i idx sz o, v => ∃ b off n c, ρ i = .slice (some ⟨b, off, none⟩) n c ∧ v = .pointer (some ⟨b, off + (vint (idx.den ρ φ)).toNat * sz + o, none⟩)
def Part.is (p : Part) (v : Value) : Prop :=
  match p.agg, p.cs with
  | true, cs => ∃ vs : List Value, v = .agg vs.toArray ∧ All2 (SC.is ρ φ β) cs vs
  | false, [c] => c.is ρ φ β v
  | false, _ => False
def SV.is : SV → Value → Prop
  | .one p, v => p.is ρ φ β v
  | .tup ps, v => ∃ vs : List Value, v = .tuple vs.toArray ∧ All2 (Part.is ρ φ β) ps vs
end

/-- 'β'' says all that 'β' says. -/
def Ext (β β' : Nat → Option Nat) : Prop := ∀ id b, β id = some b → β' id = some b
theorem Ext.refl (β : Nat → Option Nat) : Ext β β := fun _ _ h => h
theorem Ext.trans {a b c : Nat → Option Nat} (h : Ext a b) (h' : Ext b c) : Ext a c := fun id x hx => h' id x (h id x hx)
section
variable {ρ : Nat → Value} {φ : Nat → List Value → List Value} {β β' : Nat → Option Nat} (h : Ext β β')
 include h
theorem SC.is_ext {c : SC} {v : Value} (H : c.is ρ φ β v) : c.is ρ φ β' v := by
  cases c with
  | e x => exact H
  | ptr id off => obtain ⟨b, hb, hv⟩ := H; exact ⟨b, h _ _ hb, hv⟩
  | pti id off i => obtain ⟨b, hb, hv⟩ := H; exact ⟨b, h _ _ hb, hv⟩
  | slc id off l c => obtain ⟨b, hb, hv⟩ := H; exact ⟨b, h _ _ hb, hv⟩
  | vad i idx sz o => exact H
theorem Part.is_ext {p : Part} {v : Value} (H : p.is ρ φ β v) : p.is ρ φ β' v := by
  unfold Part.is at *
  split at H
  · obtain ⟨vs, hv, ha⟩ := H; exact ⟨vs, hv, ha.mono fun _ _ => SC.is_ext h⟩
  · exact SC.is_ext h H
  · exact H
theorem SV.is_ext {s : SV} {v : Value} (H : s.is ρ φ β v) : s.is ρ φ β' v := by
  cases s with
  | one p => exact Part.is_ext h H
  | tup ps => obtain ⟨vs, hv, ha⟩ := H; exact ⟨vs, hv, ha.mono fun _ _ => Part.is_ext h⟩
end

/-- What a call takes and gives. 'row n s': a slice of n new cells. -/
inductive PK where
  | val (agg : Bool) (ss : List So)
  | sl (ss : List So)
  deriving Inhabited
inductive RK where
  | val (agg : Bool) (ss : List So)
  | row (n : Nat) (s : So)
  deriving Inhabited
structure Sig where
  f : FuncId
  sym : Nat
  ps : List PK
  rs : List RK
  pre : Facts := []
  imp : Facts := []
  fix : List (Nat × E) := []
  deriving Inhabited
def PK.sorts : PK → List So
  | .val _ ss => ss
  | .sl _ => [.int .i64, .any]
def RK.sorts : RK → List So
  | .val _ ss => ss
  | .row n s => List.replicate n s
/-- A slice that came in: its own variable, its length's, its content's; the sorts of an element. -/
structure Vw where
  i : Nat
  l : Nat
  g : Nat
  ss : List So
  deriving Inhabited
structure Cx where
  P : Program
  Γ : List So
  ct : List Sig
  vw : List Vw
  sy : List (Nat × List So)
def lookA {α : Type} (k : Nat) : List (Nat × α) → Option α
  | [] => none
  | (i, x) :: r => if Nat.beq i k then some x else lookA k r
def findVw (i : Nat) : List Vw → Option Vw
  | [] => none
  | v :: vs => if Nat.beq v.i i then some v else findVw i vs
theorem findVw_mem {i : Nat} {v : Vw} : ∀ {vs : List Vw}, findVw i vs = some v → v ∈ vs ∧ v.i = i
  | [], h => by simp [findVw] at h
  | u :: vs, h => by
    simp only [findVw] at h
    split at h
    · rename_i hb
      simp only [Option.some.injEq] at h
      subst h
      exact ⟨by simp, Nat.eq_of_beq_eq_true hb⟩
    · have := findVw_mem h
      exact ⟨by simp [this.1], this.2⟩
def findFn (f : FuncId) : List Sig → Option Sig
  | [] => none
  | g :: gs => if Nat.beq g.f f then some g else findFn f gs
def symS (sy : List (Nat × List So)) (s j : Nat) : So :=
  match lookA s sy with
  | some ss => ss.getD j .any
  | none => .any
def Cx.S (cx : Cx) (s j : Nat) : So := symS cx.sy s j
def Cx.so (cx : Cx) (x : E) : So := x.so cx.Γ cx.S

/-- One cell for sure. -/
def SC.cell (cx : Cx) : SC → Bool
  | .e x => decide (cx.so x ≠ .any)
  | _ => true

/-- What an operation does: the value of its temporary; a new block's content; a store. -/
structure Dl where
  v : SV
  new : Option (List SC)
  wr : Option (Nat × Nat × List SC)
inductive OR where
  | ok (d : Dl) | split (c : E) | stuck

def constSC : Value → SC
  | .int k n => .e (.int k n)
  | .bool b => .e (.bool b)
  | v => .e (.val v)
def constSV : Value → SV
  | .agg cs => .one ⟨true, cs.toList.map constSC⟩
  | v => .one ⟨false, [constSC v]⟩
def undefSV : SV := .one ⟨false, [.e (.val undef)]⟩

abbrev LK := Nat → Option SV
abbrev BK := Nat → Option (List SC)
def opd (L : LK) : Operand → Option SV
  | .tmp t => L t
  | .const v => some (constSV v)
  | .func f => some (.one ⟨false, [.e (.val (.func (.func f) #[] #[]))]⟩)
  | .global _ => none
def SV.sc : SV → Option SC
  | .one ⟨false, [c]⟩ => some c
  | _ => none
def SV.ex (s : SV) : Option E :=
  match s.sc with
  | some (.e x) => some x
  | _ => none
def SV.cells : SV → Option (List SC)
  | .one p => some p.cs
  | .tup _ => none
def vE (x : E) : OR := .ok ⟨.one ⟨false, [.e x]⟩, none, none⟩
def vC (c : SC) : OR := .ok ⟨.one ⟨false, [c]⟩, none, none⟩
def vV (s : SV) : OR := .ok ⟨s, none, none⟩

/-- Is a type's value many cells, and how many. -/
def tyx (P : Program) (t : TypeId) : Option (Bool × Nat) :=
  match P.underlying t, P.info? t with
  | some d, some i => some (match d with | .struct _ | .array _ _ => true | _ => false, i.size)
  | _, _ => none
theorem tyx_run {P : Program} {t : TypeId} {a : Bool} {n : Nat} (h : tyx P t = some (a, n)) (w : World) :
    (isAgg t).run P w = .ok a w ∧ (sizeOf t).run P w = .ok n w := by
  unfold tyx at h
  split at h
  · rename_i d i hd hi
    simp only [Option.some.injEq, Prod.mk.injEq] at h
    obtain ⟨h1, h2⟩ := h
    constructor
    · simp only [isAgg, Sem.run_bind, run_underlying hd, Result.andThen_ok]
      subst h1
      split <;> simp_all
    · subst h2
      simp [sizeOf, typeInfo, hi]
  · simp at h

section
variable {ρ : Nat → Value} {φ : Nat → List Value → List Value} {β : Nat → Option Nat}
theorem constSC_is (v : Value) : (constSC v).is ρ φ β v := by
  unfold constSC
  split <;> simp [SC.is, E.den]
theorem constSC_all : ∀ vs : List Value, All2 (SC.is ρ φ β) (vs.map constSC) vs
  | [] => trivial
  | v :: vs => ⟨constSC_is v, constSC_all vs⟩
theorem constSV_is (v : Value) : (constSV v).is ρ φ β v := by
  unfold constSV
  split
  · rename_i cs
    exact ⟨cs.toList, by simp, constSC_all _⟩
  · exact constSC_is v
theorem SV.sc_is {s : SV} {c : SC} {v : Value} (h : s.sc = some c) (H : s.is ρ φ β v) : c.is ρ φ β v := by
  unfold SV.sc at h
  split at h
  · simp only [Option.some.injEq] at h; subst h; exact H
  · simp at h
theorem SV.ex_is {s : SV} {x : E} {v : Value} (h : s.ex = some x) (H : s.is ρ φ β v) : v = x.den ρ φ := by
  unfold SV.ex at h
  split at h
  · rename_i y hy
    simp only [Option.some.injEq] at h
    subst h
    exact SV.sc_is hy H
  · simp at h
theorem SC.cell_one {cx : Cx} (F : Fits cx.Γ cx.S ρ φ) {c : SC} {v : Value} (h : c.cell cx = true) (H : c.is ρ φ β v) : v.oneCell' = true := by
  cases c with
  | e x =>
    simp only [SC.cell, ne_eq, decide_not, Bool.not_eq_true', decide_eq_false_iff_not] at h
    simp only [SC.is] at H
    subst H
    exact So.has_one (E.so_has F x) h
  | ptr id off => obtain ⟨b, _, rfl⟩ := H; rfl
  | pti id off i => obtain ⟨b, _, rfl⟩ := H; rfl
  | slc id off l c => obtain ⟨b, _, rfl⟩ := H; rfl
  | vad i idx sz o => obtain ⟨b, _, _, _, _, rfl⟩ := H; rfl
theorem cells_one {v : Value} (h : v.oneCell' = true) : v.cells = #[v] := by
  cases v <;> first | rfl | (simp [Value.oneCell'] at h)
/-- The cells of a value. -/
theorem SV.cells_is {cx : Cx} (F : Fits cx.Γ cx.S ρ φ) {s : SV} {cs : List SC} {v : Value} (h : s.cells = some cs) (hc : cs.all (SC.cell cx) = true) (H : s.is ρ φ β v) :
    ∃ vs : List Value, v.cells = vs.toArray ∧ All2 (SC.is ρ φ β) cs vs ∧ ∀ u ∈ vs, u.oneCell' = true := by
  unfold SV.cells at h
  split at h
  · rename_i p
    simp only [Option.some.injEq] at h
    subst h
    obtain ⟨agg, cs⟩ := p
    have one : ∀ (vs : List Value), All2 (SC.is ρ φ β) cs vs → ∀ u ∈ vs, u.oneCell' = true := by
      intro vs ha u hu
      obtain ⟨c, hc', hr⟩ := ha.mem hu
      exact SC.cell_one F (List.all_eq_true.1 hc c hc') hr
    cases agg with
    | true =>
      obtain ⟨vs, rfl, ha⟩ := H
      exact ⟨vs, rfl, ha, one vs ha⟩
    | false =>
      match cs, H with
      | [c], H =>
        have h1 : v.oneCell' = true := SC.cell_one F (by simpa using hc) H
        exact ⟨[v], by rw [cells_one h1], ⟨H, trivial⟩, by simpa using h1⟩
  · simp at h
end
end Go.SX
