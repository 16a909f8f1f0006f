/- CX: code carried out symbol by symbol, the calls that it holds and what they write with it: values, and what they say of a world. -/
import Derived.Test.YtfcddhicklhefaaGreatDoorSXj
namespace Go.CX
open Go Go.RowKit Go.SX

/-- The content of a cell: a term; unknown; an address in a block; a slice of one; a slice whose capacity is not known. -/
inductive SC where
  | e (x : E) | any | ptr (id off : Nat) | slc (id off len cap : Nat) | sla (id off len sz : Nat) | vad (i : Nat) (idx : E) (sz o : Nat) | vsl (i n : Nat) | nul
  deriving Inhabited
structure Part where
  agg : Bool
  cs : List SC
  deriving Inhabited
inductive SV where
  | one (p : Part) | tup (ps : List Part) | fn (f : FuncId) (fi ca : List Part)
  deriving Inhabited
abbrev Bk := Nat → Option (Nat × Nat)
abbrev LK := Nat → Option SV
abbrev BK := Nat → Option (List SC)

section
variable (ρ : Nat → Value) (φ : Nat → List Value → List Value) (β : Bk)
def SC.is : SC → Value → Prop
  | .e x, v => v = x.den ρ φ
  | .any, _ => True
  | .ptr id off, v => ∃ b n, β id = some (b, n) ∧ v = .pointer (some ⟨b, off, none⟩)
  | .slc id off len cap, v => ∃ b n, β id = some (b, n) ∧ v = .slice (some ⟨b, off, none⟩) len cap
  | .sla id off len sz, v => ∃ b n cap, β id = some (b, n) ∧ v = .slice (some ⟨b, off, none⟩) len cap ∧ len ≤ cap ∧ cap ≤ maxLen ∧ off + cap * sz ≤ n
  | .vad i idx sz o, v => ∃ b off n c, ρ i = .slice (some ⟨b, off, none⟩) n c ∧ v = .pointer (some ⟨b, off + (vint (idx.den ρ φ)).toNat * sz + o, none⟩)
  | .vsl i n, v => ∃ a len cap, ρ i = .slice a len cap ∧ n ≤ len ∧ v = .slice a n cap
  | .nul, v => ∃ a cap, v = .slice a 0 cap
def Part.is (p : Part) (v : Value) : Prop :=
  match p.agg, p.cs with
  | true, cs => ∃ vs : List Value, v = .agg vs.toArray ∧ All2 (SC.is ρ φ β) cs vs
  | false, [c] => c.is ρ φ β v
  | false, _ => False
def SV.is : SV → Value → Prop
  | .one p, v => p.is ρ φ β v
  | .tup ps, v => ∃ vs : List Value, v = .tuple vs.toArray ∧ All2 (Part.is ρ φ β) ps vs
  | .fn f fi ca, v => ∃ us vs : List Value, v = .func (.func f) us.toArray vs.toArray ∧ All2 (Part.is ρ φ β) fi us ∧ All2 (Part.is ρ φ β) ca vs
end

/-- 'β'' says all that 'β' says. -/
def Ext (β β' : Bk) : Prop := ∀ id b, β id = some b → β' id = some b
theorem Ext.refl (β : Bk) : Ext β β := fun _ _ h => h
theorem Ext.trans {a b c : Bk} (h : Ext a b) (h' : Ext b c) : Ext a c := fun id x hx => h' id x (h id x hx)
/-- What 'β'' says more is of blocks numbered from n on, up to n'. -/
def Newer (β β' : Bk) (n n' : Nat) : Prop := ∀ id p, β' id = some p → β id = some p ∨ (n ≤ id ∧ id < n')
theorem Newer.refl (β : Bk) (n n' : Nat) : Newer β β n n' := fun _ _ h => Or.inl h
theorem Newer.trans {a b c : Bk} {n m k : Nat} (h : Newer a b n m) (h' : Newer b c m k) (h1 : n ≤ m) (h2 : m ≤ k) : Newer a c n k := by
  intro id p hp
  rcases h' id p hp with h' | ⟨h', h''⟩
  · rcases h id p h' with h | ⟨h, h''⟩
    · exact Or.inl h
    · exact Or.inr ⟨h, by omega⟩
  · exact Or.inr ⟨by omega, h''⟩
section
variable {ρ : Nat → Value} {φ : Nat → List Value → List Value} {β β' : Bk} (h : Ext β β')
 include h
theorem SC.is_ext {c : SC} {v : Value} (H : c.is ρ φ β v) : c.is ρ φ β' v := by
  cases c with
  | e x => exact H
  | any => trivial
  | ptr id off => obtain ⟨b, n, hb, hv⟩ := H; exact ⟨b, n, h _ _ hb, hv⟩
  | slc id off l c => obtain ⟨b, n, hb, hv⟩ := H; exact ⟨b, n, h _ _ hb, hv⟩
  | sla id off l sz => obtain ⟨b, n, c, hb, hv⟩ := H; exact ⟨b, n, c, h _ _ hb, hv⟩
  | vad i idx sz o => exact H
  | vsl i n => exact H
  | nul => exact H
theorem Part.is_ext {p : Part} {v : Value} (H : p.is ρ φ β v) : p.is ρ φ β' v := by
  unfold Part.is at *
  split at H
  · obtain ⟨vs, hv, ha⟩ := H; exact ⟨vs, hv, ha.mono fun _ _ => SC.is_ext h⟩
  · exact SC.is_ext h H
  · exact H
theorem SV.is_ext {s : SV} {v : Value} (H : s.is ρ φ β v) : s.is ρ φ β' v := by
  cases s with
  | one p => exact Part.is_ext h H
  | tup ps => obtain ⟨vs, hv, ha⟩ := H; exact ⟨vs, hv, ha.mono fun _ _ => Part.is_ext h⟩
  | fn f fi ca => obtain ⟨us, vs, hv, h1, h2⟩ := H; exact ⟨us, vs, hv, h1.mono fun _ _ => Part.is_ext h, h2.mono fun _ _ => Part.is_ext h⟩
end

/-- One cell for sure, and known. -/
def SC.cell (cx : Cx) : SC → Bool
  | .e x => match cx.so x with
    | .any => false
    | _ => true
  | .any => false
  | _ => true

/-- What an operation does: the value of its temporary; the blocks that are turned, made, given up; the next free number. -/
structure Out where
  v : SV
  dl : List (Nat × Option (List SC))
  next : Nat
  deriving Inhabited
inductive OR where
  | ok (d : Out) | split (c : E) | stuck
def dlB (dl : List (Nat × Option (List SC))) (B : BK) : BK := fun id => match lookA id dl with
  | some r => r
  | none => B id

def constSC : Value → SC
  | .int k n => .e (.int k n)
  | .bool b => .e (.bool b)
  | v => .e (.val v)
def constSV : Value → SV
  | .agg cs => .one ⟨true, cs.toList.map constSC⟩
  | v => .one ⟨false, [constSC v]⟩
def undefSV : SV := .one ⟨false, [.e (.val undef)]⟩
def opd (L : LK) : Operand → Option SV
  | .tmp t => L t
  | .const v => some (constSV v)
  | .func f => some (.fn f [] [])
  | .global _ => none
def SV.sc : SV → Option SC
  | .one ⟨false, [c]⟩ => some c
  | _ => none
def SV.ex (s : SV) : Option E :=
  match s.sc with
  | some (.e x) => some x
  | _ => none
def SV.cells : SV → Option (List SC)
  | .one p => some p.cs
  | _ => none
def vE (n : Nat) (x : E) : OR := .ok ⟨.one ⟨false, [.e x]⟩, [], n⟩
def vC (n : Nat) (c : SC) : OR := .ok ⟨.one ⟨false, [c]⟩, [], n⟩
def vV (n : Nat) (s : SV) : OR := .ok ⟨s, [], n⟩

section
variable {ρ : Nat → Value} {φ : Nat → List Value → List Value} {β : Bk}
theorem constSC_is (v : Value) : (constSC v).is ρ φ β v := by
  unfold constSC
  split <;> simp [SC.is, E.den]
theorem constSC_all : ∀ vs : List Value, All2 (SC.is ρ φ β) (vs.map constSC) vs
  | [] => trivial
  | v :: vs => ⟨constSC_is v, constSC_all vs⟩
theorem constSV_is (v : Value) : (constSV v).is ρ φ β v := by
  unfold constSV
  split
  · rename_i cs
    exact ⟨cs.toList, by simp, constSC_all _⟩
  · exact constSC_is v
theorem SV.sc_is {s : SV} {c : SC} {v : Value} (h : s.sc = some c) (H : s.is ρ φ β v) : c.is ρ φ β v := by
  unfold SV.sc at h
  split at h
  · simp only [Option.some.injEq] at h; subst h; exact H
  · simp at h
theorem SV.ex_is {s : SV} {x : E} {v : Value} (h : s.ex = some x) (H : s.is ρ φ β v) : v = x.den ρ φ := by
  unfold SV.ex at h
  split at h
  · rename_i y hy
    simp only [Option.some.injEq] at h
    subst h
    exact SV.sc_is hy H
  · simp at h
theorem SC.cell_ne {cx : Cx} {c : SC} (h : c.cell cx = true) : c ≠ .any := by
  intro e; subst e; simp [SC.cell] at h
theorem SC.cell_one {cx : Cx} (F : Fits cx.Γ cx.S ρ φ) {c : SC} {v : Value} (h : c.cell cx = true) (H : c.is ρ φ β v) : v.oneCell' = true := by
  cases c with
  | e x =>
    simp only [SC.cell] at h
    have hne : cx.so x ≠ .any := by intro e; rw [e] at h; simp at h
    simp only [SC.is] at H
    subst H
    exact So.has_one (E.so_has F x) hne
  | any => simp [SC.cell] at h
  | ptr id off => obtain ⟨b, _, _, rfl⟩ := H; rfl
  | slc id off l c => obtain ⟨b, _, _, rfl⟩ := H; rfl
  | sla id off l c => obtain ⟨b, _, _, _, rfl, _⟩ := H; rfl
  | vad i idx sz o => obtain ⟨b, _, _, _, _, rfl⟩ := H; rfl
  | vsl i n => obtain ⟨a, _, _, _, _, rfl⟩ := H; rfl
  | nul => obtain ⟨a, _, rfl⟩ := H; rfl
/-- The cells of a value. -/
theorem SV.cells_is {cx : Cx} (F : Fits cx.Γ cx.S ρ φ) {s : SV} {cs : List SC} {v : Value} (h : s.cells = some cs) (hc : cs.all (SC.cell cx) = true) (H : s.is ρ φ β v) :
    ∃ vs : List Value, v.cells = vs.toArray ∧ All2 (SC.is ρ φ β) cs vs ∧ ∀ u ∈ vs, u.oneCell' = true := by
  unfold SV.cells at h
  split at h
  · rename_i p
    simp only [Option.some.injEq] at h
    subst h
    obtain ⟨agg, cs⟩ := p
    have one : ∀ (vs : List Value), All2 (SC.is ρ φ β) cs vs → ∀ u ∈ vs, u.oneCell' = true := by
      intro vs ha u hu
      obtain ⟨c, hc', hr⟩ := ha.mem hu
      exact SC.cell_one F (List.all_eq_true.1 hc c hc') hr
    cases agg with
    | true =>
      obtain ⟨vs, rfl, ha⟩ := H
      exact ⟨vs, rfl, ha, one vs ha⟩
    | false =>
      match cs, H with
      | [c], H =>
        have h1 : v.oneCell' = true := SC.cell_one F (by simpa using hc) H
        exact ⟨[v], by rw [cells_one h1], ⟨H, trivial⟩, by simpa using h1⟩
  · simp at h
end

/-! ### The world -/
/-- A slice that came in reads as its variables say. -/
def VwC (v : Vw) (ρ : Nat → Value) (ws : World) : Prop :=
  ∃ a len cap, ∃ vs : List Value, ρ v.i = .slice a len cap ∧ ρ v.l = .int .i64 (Int.ofNat len) ∧ ρ v.g = .tuple vs.toArray ∧ vs.length = len * v.ss.length ∧ len ≤ cap ∧ len ≤ 9223372036854775807 ∧ 0 < v.ss.length ∧
    (∀ i u, vs[i]? = some u → (v.ss.getD (i % v.ss.length) .any).has u) ∧
    ((a = none ∧ len = 0 ∧ cap = 0) ∨ ∃ b off, a = some ⟨b, off, none⟩ ∧ b < ws.heap.size ∧ ∀ i u, vs[i]? = some u → ws.cell? ⟨b, off + i, none⟩ = some u)
/-- The world at the beginning, and the slices that came in. -/
structure Base extends World where
  vw : List Vw
structure Fx where
  N : Nat
  X : Nat → Prop
  B0 : BK
  w0 : World
  ws : Base
structure LowP (X : Nat → Prop) (w w' : World) : Prop where
  os : w'.os = w.os
  tape : w'.tape = w.tape
  output : w'.output = w.output
  size : w.heap.size ≤ w'.heap.size
  block : ∀ k, k < w.heap.size → ¬ X k → w'.heap[k]? = w.heap[k]?
theorem LowP.refl (X : Nat → Prop) (w : World) : LowP X w w := ⟨rfl, rfl, rfl, Nat.le_refl _, fun _ _ _ => rfl⟩
theorem LowP.drew {X : Nat → Prop} {a w : World} (h : LowP X a w) : LowP X a w.drew := ⟨h.os, h.tape, h.output, h.size, h.block⟩
theorem LowP.below {w w' : World} (h : LowP (fun _ => False) w w') : Below w.heap.size w w' := ⟨h.os, h.tape, h.output, h.size, fun k hk => h.block k hk (by simp)⟩

/-- What the blocks say of a world: each that is known is the call's own or may be turned, and reads as it says; a cell that is not known stands as it was at the start. -/
structure W (ρ : Nat → Value) (φ : Nat → List Value → List Value) (fx : Fx) (B : BK) (β : Bk) (w : World) : Prop where
  low : LowP fx.X fx.w0 w
  box : ∀ id row, B id = some row → ∃ b n, ∃ arr : Array Value, ∃ T, β id = some (b, n) ∧ (fx.w0.heap.size ≤ b ∨ fx.X b) ∧ w.heap[b]? = some (.cells arr T (0, 0)) ∧ arr.size = n ∧ row.length ≤ n ∧
    ∀ (k : Nat) (c : SC), row[k]? = some c → ∃ u, arr[k]? = some u ∧ c.is ρ φ β u
  msk : ∀ (id : Nat) (row : List SC) (k : Nat), B id = some row → row[k]? = some .any → (∃ row0 : List SC, fx.B0 id = some row0 ∧ row0[k]? = some .any) ∧ ∀ b n, β id = some (b, n) → w.cell? ⟨b, k, none⟩ = fx.w0.cell? ⟨b, k, none⟩
  inj : ∀ (id id' : Nat) (r r' : List SC) (b n n' : Nat), B id = some r → B id' = some r' → β id = some (b, n) → β id' = some (b, n') → id = id'
  inh : ∀ id b n, β id = some (b, n) → b < w.heap.size
  hi : ∀ id b n, β id = some (b, n) → fx.ws.heap.size ≤ b
  len : fx.ws.heap.size ≤ w.heap.size
  base : (∀ k, k < fx.ws.heap.size → w.heap[k]? = fx.ws.heap[k]?) ∧ ∀ v ∈ fx.ws.vw, VwC v ρ fx.ws.toWorld

section
variable {ρ : Nat → Value} {φ : Nat → List Value → List Value} {fx : Fx} {B : BK} {β : Bk} {w : World}
theorem W.less {B' : BK} (hB : ∀ id r, B' id = some r → B id = some r) (H : W ρ φ fx B β w) : W ρ φ fx B' β w :=
  ⟨H.low, fun id r h => H.box id r (hB id r h), fun id r k h => H.msk id r k (hB id r h), fun id id' r r' b n n' h h' => H.inj id id' r r' b n n' (hB _ _ h) (hB _ _ h'), H.inh, H.hi, H.len, H.base⟩
theorem W.drew (H : W ρ φ fx B β w) : W ρ φ fx B β w.drew := ⟨H.low.drew, H.box, H.msk, H.inj, H.inh, H.hi, H.len, H.base⟩
/-- The cells of a row. -/
theorem row_vals {β : Bk} : ∀ (row : List SC) (arr : List Value), (∀ (k : Nat) (c : SC), row[k]? = some c → ∃ u, arr[k]? = some u ∧ c.is ρ φ β u) → All2 (SC.is ρ φ β) row (arr.take row.length)
  | [], arr, _ => by simp [All2]
  | c :: row, [], h => by obtain ⟨u, hu, _⟩ := h 0 c rfl; simp at hu
  | c :: row, u :: arr, h => by
    obtain ⟨u', hu, hc⟩ := h 0 c rfl
    simp only [List.getElem?_cons_zero, Option.some.injEq] at hu
    subst hu
    refine ⟨hc, row_vals row arr fun k c hk => ?_⟩
    obtain ⟨u, hu, hc⟩ := h (k + 1) c (by simpa using hk)
    exact ⟨u, by simpa using hu, hc⟩
theorem vals_row {β : Bk} {row : List SC} {vs : List Value} (h : All2 (SC.is ρ φ β) row vs) : ∀ (k : Nat) (c : SC), row[k]? = some c → ∃ u, vs.toArray[k]? = some u ∧ c.is ρ φ β u := by
  intro k c hk
  obtain ⟨u, hu, hc⟩ := h.get hk
  exact ⟨u, by simpa using hu, hc⟩
theorem W.rows (H : W ρ φ fx B β w) {id : Nat} {row : List SC} (h : B id = some row) {b n : Nat} (hb : β id = some (b, n)) :
    ∃ arr : Array Value, ∃ T, (fx.w0.heap.size ≤ b ∨ fx.X b) ∧ w.heap[b]? = some (.cells arr T (0, 0)) ∧ arr.size = n ∧ row.length ≤ n ∧ All2 (SC.is ρ φ β) row (arr.toList.take row.length) := by
  obtain ⟨b', n', arr, T, hb', h1, h2, h3, h4, h5⟩ := H.box id row h
  rw [hb] at hb'
  simp only [Option.some.injEq, Prod.mk.injEq] at hb'
  obtain ⟨rfl, rfl⟩ := hb'
  refine ⟨arr, T, h1, h2, h3, h4, row_vals row arr.toList fun k c hk => ?_⟩
  obtain ⟨u, hu, hc⟩ := h5 k c hk
  exact ⟨u, by simpa using hu, hc⟩
end

/-- An operation does what is said. -/
def Does (ρ : Nat → Value) (φ : Nat → List Value → List Value) (P : Program) (fx : Fx) (B : BK) (o : Oper) (a : Act) (w : World) (β : Bk) (nid : Nat) (d : Out) : Prop :=
  ∀ (K : Act → World → Prop) (Q : Exit → Act → World → Prop), (∀ β' x w', Ext β β' → Newer β β' nid d.next → W ρ φ fx (dlB d.dl B) β' w' → d.v.is ρ φ β' x → K (a.put o.dst x) w') → o.wp P a w K Q

section
variable {ρ : Nat → Value} {φ : Nat → List Value → List Value} {P : Program} {fx : Fx} {B : BK} {o : Oper} {a : Act} {w : World} {β : Bk} {nid : Nat}
theorem does_val {s : SV} {x : Value} (H : W ρ φ fx B β w) (h : (execOp a.eval o).run P w = .ok (.value x) w) (hv : s.is ρ φ β x) :
    Does ρ φ P fx B o a w β nid ⟨s, [], nid⟩ := by
  intro K Q hk
  simp only [Oper.wp, h, Oper.upon]
  exact hk β x w (Ext.refl _) (Newer.refl _ _ _) H hv

def updB (β : Bk) (nid b n : Nat) : Bk := fun id => if id = nid then some (b, n) else β id
theorem updB_ext {β : Bk} {nid b n : Nat} (h : β nid = none) : Ext β (updB β nid b n) := by
  intro id x hx
  unfold updB
  split
  · rename_i e; rw [e, h] at hx; simp at hx
  · exact hx
theorem updB_self (β : Bk) (nid b n : Nat) : updB β nid b n nid = some (b, n) := by simp [updB]
theorem updB_old {β : Bk} {nid b n : Nat} {id : Nat} {x : Nat × Nat} (h : updB β nid b n id = some x) : β id = some x ∨ (id = nid ∧ x = (b, n)) := by
  unfold updB at h
  split at h
  · rename_i e; simp only [Option.some.injEq] at h; exact Or.inr ⟨e, h.symm⟩
  · exact Or.inl h
theorem updB_newer (β : Bk) (nid b n : Nat) : Newer β (updB β nid b n) nid (nid + 1) := by
  intro id p h
  rcases updB_old h with h | ⟨h, _⟩
  · exact Or.inl h
  · exact Or.inr ⟨by omega, by omega⟩

theorem dlB_one {id nid : Nat} {r : Option (List SC)} : dlB [(nid, r)] B id = if id = nid then r else B id := by
  unfold dlB
  simp only [lookA]
  by_cases h : id = nid
  · subst h; simp
  · rw [if_neg h]
    have : Nat.beq nid id = false := by
      cases hq : Nat.beq nid id with
      | false => rfl
      | true => exact absurd (Nat.eq_of_beq_eq_true hq).symm h
    simp [this]

theorem W.old_block (H : W ρ φ fx B β w) {w' : World} (hsz : w.heap.size ≤ w'.heap.size) (hsame : ∀ k, k < w.heap.size → w'.heap[k]? = w.heap[k]?) (ho : w'.os = w.os) (ht : w'.tape = w.tape) (hp : w'.output = w.output) {β' : Bk} (hE : Ext β β') (hN : ∀ id p, β' id = some p → B id ≠ none → β id = some p)
    (hI : ∀ id b n, β' id = some (b, n) → b < w'.heap.size) (hH : ∀ id b n, β' id = some (b, n) → fx.ws.heap.size ≤ b) : W ρ φ fx B β' w' := by
  refine ⟨⟨ho.trans H.low.os, ht.trans H.low.tape, hp.trans H.low.output, Nat.le_trans H.low.size hsz, fun k hk hX => ?_⟩, fun id row h => ?_, fun id row k h hk => ?_, fun id id' r r' b n n' h h' h1 h2 => ?_, hI, hH, Nat.le_trans H.len hsz, ⟨fun k hk => by rw [hsame k (Nat.lt_of_lt_of_le hk H.len)]; exact H.base.1 k hk, H.base.2⟩⟩
  · rw [hsame k (Nat.lt_of_lt_of_le hk H.low.size)]
    exact H.low.block k hk hX
  · obtain ⟨b, n, arr, T, hb, h1, h2, h3, h4, h5⟩ := H.box id row h
    refine ⟨b, n, arr, T, hE _ _ hb, h1, ?_, h3, h4, fun k c hc => ?_⟩
    · rw [hsame b (H.inh _ _ _ hb)]; exact h2
    · obtain ⟨u, hu, hcu⟩ := h5 k c hc
      exact ⟨u, hu, SC.is_ext hE hcu⟩
  · obtain ⟨h1, h2⟩ := H.msk id row k h hk
    refine ⟨h1, fun b n hb => ?_⟩
    have hb' := hN _ _ hb (by rw [h]; simp)
    rw [← h2 b n hb']
    exact World.cell?_of_block (w := w) (hsame b (H.inh _ _ _ hb'))
  · exact H.inj id id' r r' b n n' h h' (hN _ _ h1 (by rw [h]; simp)) (hN _ _ h2 (by rw [h']; simp))

theorem world_new {row : List SC} {arr : Array Value} {T : TypeId} {w1 : World} (H : W ρ φ fx B β w1) (hn : β nid = none) (hl : row.length ≤ arr.size)
    (hr : ∀ (k : Nat) (c : SC), row[k]? = some c → ∃ u, arr[k]? = some u ∧ c.is ρ φ β u) (hany : ∀ c ∈ row, c ≠ .any) :
    W ρ φ fx (dlB [(nid, some row)] B) (updB β nid w1.heap.size arr.size) (w1.alloc (.cells arr T)) := by
  have hE := updB_ext (b := w1.heap.size) (n := arr.size) hn
  have hBn : B nid = none := by
    cases hq : B nid with
    | none => rfl
    | some r => obtain ⟨b, n, _, _, hb, _⟩ := H.box nid r hq; rw [hn] at hb; simp at hb
  have hI : ∀ id b n, updB β nid w1.heap.size arr.size id = some (b, n) → b < (w1.alloc (.cells arr T)).heap.size := by
    intro id b n hb
    rcases updB_old hb with hb | ⟨_, hb⟩
    · have := H.inh _ _ _ hb; simp; omega
    · simp only [Prod.mk.injEq] at hb; simp; omega
  have hH : ∀ id b n, updB β nid w1.heap.size arr.size id = some (b, n) → fx.ws.heap.size ≤ b := by
    intro id b n hb
    rcases updB_old hb with hb | ⟨_, hb⟩
    · exact H.hi _ _ _ hb
    · simp only [Prod.mk.injEq] at hb
      have := H.len
      omega
  have H1 : W ρ φ fx B (updB β nid w1.heap.size arr.size) (w1.alloc (.cells arr T)) := by
    refine H.old_block (by simp) (fun k hk => Below.heap_alloc _ _ _ hk) rfl rfl rfl hE (fun id p hp hB => ?_) hI hH
    rcases updB_old hp with hp | ⟨hp, _⟩
    · exact hp
    · subst hp; exact absurd hBn hB
  have hnew : (w1.alloc (.cells arr T)).heap[w1.heap.size]? = some (.cells arr T (0, 0)) := by
    show (w1.heap.push _)[w1.heap.size]? = _
    simp
  have key : ∀ id r, dlB [(nid, some row)] B id = some r → (id = nid ∧ r = row) ∨ (id ≠ nid ∧ B id = some r) := by
    intro id r hr
    rw [dlB_one] at hr
    split at hr
    · rename_i e; simp only [Option.some.injEq] at hr; exact Or.inl ⟨e, hr.symm⟩
    · rename_i e; exact Or.inr ⟨e, hr⟩
  refine ⟨H1.low, fun id r hr' => ?_, fun id r k hr' hk' => ?_, fun id id' r r' b n n' h1 h2 h3 h4 => ?_, H1.inh, H1.hi, H1.len, H1.base⟩
  · rcases key id r hr' with ⟨rfl, rfl⟩ | ⟨_, hB⟩
    · refine ⟨w1.heap.size, arr.size, arr, T, updB_self _ _ _ _, Or.inl H.low.size, hnew, rfl, hl, fun k c hc => ?_⟩
      obtain ⟨u, hu, hcu⟩ := hr k c hc
      exact ⟨u, hu, SC.is_ext hE hcu⟩
    · exact H1.box id r hB
  · rcases key id r hr' with ⟨rfl, rfl⟩ | ⟨_, hB⟩
    · exact absurd rfl (hany _ (List.mem_of_getElem? hk'))
    · exact H1.msk id r k hB hk'
  · rcases key id r h1 with ⟨rfl, rfl⟩ | ⟨e1, hB⟩
    · rcases key id' r' h2 with ⟨rfl, rfl⟩ | ⟨e2, hB'⟩
      · rfl
      · rw [updB_self] at h3
        simp only [Option.some.injEq, Prod.mk.injEq] at h3
        rcases updB_old h4 with h4 | ⟨h4, _⟩
        · have := H.inh _ _ _ h4; omega
        · exact absurd h4 e2
    · rcases key id' r' h2 with ⟨rfl, rfl⟩ | ⟨e2, hB'⟩
      · rw [updB_self] at h4
        simp only [Option.some.injEq, Prod.mk.injEq] at h4
        rcases updB_old h3 with h3 | ⟨h3, _⟩
        · have := H.inh _ _ _ h3; omega
        · exact absurd h3 e1
      · exact H1.inj id id' r r' b n n' hB hB' h3 h4
theorem does_new {s : SV} {x : Value} {row : List SC} {arr : Array Value} {T : TypeId} {w1 : World} (H : W ρ φ fx B β w1) (hn : β nid = none)
    (h : (execOp a.eval o).run P w = .ok (.value x) (w1.alloc (.cells arr T))) (hv : s.is ρ φ (updB β nid w1.heap.size arr.size) x) (hl : row.length ≤ arr.size)
    (hr : ∀ (k : Nat) (c : SC), row[k]? = some c → ∃ u, arr[k]? = some u ∧ c.is ρ φ β u) (hany : ∀ c ∈ row, c ≠ .any) :
    Does ρ φ P fx B o a w β nid ⟨s, [(nid, some row)], nid + 1⟩ := by
  intro K Q hk
  simp only [Oper.wp, h, Oper.upon]
  exact hk _ x _ (updB_ext hn) (updB_newer _ _ _ _) (world_new H hn hl hr hany) hv
theorem does_new' {s : SV} {x : Value} {row : List SC} {vs : List Value} {T : TypeId} (H : W ρ φ fx B β w) (hn : β nid = none)
    (h : (execOp a.eval o).run P w = .ok (.value x) (w.alloc (.cells vs.toArray T))) (hv : s.is ρ φ (updB β nid w.heap.size vs.length) x) (hr : All2 (SC.is ρ φ β) row vs) (hany : ∀ c ∈ row, c ≠ .any) :
    Does ρ φ P fx B o a w β nid ⟨s, [(nid, some row)], nid + 1⟩ :=
  does_new H hn h (by simpa using hv) (by rw [hr.length]; simp) (vals_row hr) hany
theorem Does.less {v : SV} {dl dl' : List (Nat × Option (List SC))} {nx : Nat} (h : Does ρ φ P fx B o a w β nid ⟨v, dl, nx⟩) (hl : ∀ id r, dlB dl' B id = some r → dlB dl B id = some r) : Does ρ φ P fx B o a w β nid ⟨v, dl', nx⟩ :=
  fun K Q hk => h K Q fun β' x w' h1 h2 h3 h4 => hk β' x w' h1 h2 (h3.less hl) h4

theorem spl_get {α : Type} (vs us : List α) (off k : Nat) (h : off + us.length ≤ vs.length) : (spl vs off us)[k]? = if off ≤ k ∧ k < off + us.length then us[k - off]? else vs[k]? := by
  unfold spl
  by_cases h1 : k < off
  · rw [if_neg (by omega), List.append_assoc, List.getElem?_append_left (by simp; omega), List.getElem?_take, if_pos h1]
  · by_cases h2 : k < off + us.length
    · rw [if_pos ⟨by omega, h2⟩, List.getElem?_append_left (by simp; omega), List.getElem?_append_right (by simp; omega)]
      congr 1
      simp
      omega
    · rw [if_neg (by omega), List.getElem?_append_right (by simp; omega), List.getElem?_drop]
      congr 1
      simp
      omega
theorem spl_length {α : Type} (vs us : List α) (off : Nat) (h : off + us.length ≤ vs.length) : (spl vs off us).length = vs.length := by
  unfold spl
  simp
  omega

theorem world_wr {b n off id : Nat} {row cs : List SC} {us : List Value} {arr : Array Value} {T : TypeId} (H : W ρ φ fx B β w) (hB : B id = some row) (hb : β id = some (b, n)) (hh : w.heap[b]? = some (.cells arr T (0, 0)))
    (hlen : off + cs.length ≤ row.length) (hcs : All2 (SC.is ρ φ β) cs us) (hany : ∀ c ∈ cs, c ≠ .any) :
    W ρ φ fx (dlB [(id, some (spl row off cs))] B) β (w.setRow b (spl arr.toList off us).toArray) := by
  obtain ⟨b', n', arr', T', hb', h1, h2, h3, h4, h5⟩ := H.box id row hB
  rw [hb] at hb'
  simp only [Option.some.injEq, Prod.mk.injEq] at hb'
  obtain ⟨rfl, rfl⟩ := hb'
  rw [hh] at h2
  simp only [Option.some.injEq, Obj.cells.injEq, and_true] at h2
  obtain ⟨rfl, rfl⟩ := h2
  have hus := hcs.length
  have hl1 : off + us.length ≤ arr.toList.length := by simp; omega
  have hblt := H.inh _ _ _ hb
  have hself : (w.setRow b (spl arr.toList off us).toArray).heap[b]? = some (.cells (spl arr.toList off us).toArray T (0, 0)) := setRow_heap w b _ _ _ _ hh
  have hoth : ∀ k, k ≠ b → (w.setRow b (spl arr.toList off us).toArray).heap[k]? = w.heap[k]? := fun k hk => setRow_other w b k _ hk
  have key : ∀ id' r, dlB [(id, some (spl row off cs))] B id' = some r → (id' = id ∧ r = spl row off cs) ∨ (id' ≠ id ∧ B id' = some r) := by
    intro id' r hr
    rw [dlB_one] at hr
    split at hr
    · rename_i e; simp only [Option.some.injEq] at hr; exact Or.inl ⟨e, hr.symm⟩
    · rename_i e; exact Or.inr ⟨e, hr⟩
  have live : ∀ id' r, dlB [(id, some (spl row off cs))] B id' = some r → ∃ r', B id' = some r' := by
    intro id' r hr
    rcases key id' r hr with ⟨rfl, _⟩ | ⟨_, h⟩
    · exact ⟨_, hB⟩
    · exact ⟨_, h⟩
  refine ⟨⟨H.low.os, H.low.tape, H.low.output, by simpa using H.low.size, fun k hk' hX => ?_⟩, fun id' r hr => ?_, fun id' r k hr hk' => ?_, fun id1 id2 r1 r2 b1 n1 n2 g1 g2 g3 g4 => ?_, fun id' b1 n1 hb1 => by have := H.inh _ _ _ hb1; simpa using this, H.hi, by simpa using H.len, ⟨fun k hk => by rw [hoth k (by have := H.hi _ _ _ hb; omega)]; exact H.base.1 k hk, H.base.2⟩⟩
  · rw [hoth k ?_]
    · exact H.low.block k hk' hX
    · intro e
      subst e
      rcases h1 with h1 | h1
      · omega
      · exact hX h1
  · rcases key id' r hr with ⟨rfl, rfl⟩ | ⟨hne, hB'⟩
    · refine ⟨b, n, _, T, hb, h1, hself, ?_, ?_, fun k c hc => ?_⟩
      · simp only [List.size_toArray]
        rw [spl_length _ _ _ hl1]
        simpa using h3
      · rw [spl_length _ _ _ hlen]
        exact h4
      · rw [spl_get _ _ _ _ hlen] at hc
        simp only [List.getElem?_toArray]
        rw [spl_get _ _ _ _ hl1, ← hus]
        split at hc
        · rename_i hin
          rw [if_pos hin]
          obtain ⟨u, hu, hcu⟩ := hcs.get hc
          exact ⟨u, hu, hcu⟩
        · rename_i hin
          rw [if_neg hin]
          obtain ⟨u, hu, hcu⟩ := h5 k c hc
          exact ⟨u, by simpa using hu, hcu⟩
    · obtain ⟨b1, n1, arr1, T1, hb1, g1, g2, g3⟩ := H.box id' r hB'
      refine ⟨b1, n1, arr1, T1, hb1, g1, ?_, g3⟩
      rw [hoth b1 ?_]
      · exact g2
      · intro e
        subst e
        exact hne (H.inj id' id r row b1 n1 n hB' hB hb1 hb)
  · rcases key id' r hr with ⟨rfl, rfl⟩ | ⟨hne, hB'⟩
    · rw [spl_get _ _ _ _ hlen] at hk'
      split at hk'
      · exact absurd rfl (hany _ (List.mem_of_getElem? hk'))
      · rename_i hin
        obtain ⟨g1, g2⟩ := H.msk id' row k hB hk'
        refine ⟨g1, fun b1 n1 hb1 => ?_⟩
        rw [hb] at hb1
        simp only [Option.some.injEq, Prod.mk.injEq] at hb1
        obtain ⟨rfl, rfl⟩ := hb1
        rw [← g2 b n hb]
        simp only [World.cell?, hself, hh, Option.isSome_none, Bool.false_eq_true, if_false, List.getElem?_toArray]
        rw [spl_get _ _ _ _ hl1, ← hus, if_neg hin]
        simp
    · obtain ⟨g1, g2⟩ := H.msk id' r k hB' hk'
      refine ⟨g1, fun b1 n1 hb1 => ?_⟩
      rw [← g2 b1 n1 hb1]
      refine World.cell?_of_block (w := w) (hoth b1 ?_)
      intro e
      subst e
      exact hne (H.inj id' id r row b1 n1 n hB' hB hb1 hb)
  · obtain ⟨r1', l1⟩ := live _ _ g1
    obtain ⟨r2', l2⟩ := live _ _ g2
    exact H.inj id1 id2 r1' r2' b1 n1 n2 l1 l2 g3 g4
theorem does_wr {b n off id : Nat} {row cs : List SC} {us : List Value} {arr : Array Value} {T : TypeId} (H : W ρ φ fx B β w) (hB : B id = some row) (hb : β id = some (b, n)) (hh : w.heap[b]? = some (.cells arr T (0, 0)))
    (hlen : off + cs.length ≤ row.length) (hcs : All2 (SC.is ρ φ β) cs us) (hany : ∀ c ∈ cs, c ≠ .any)
    (h : (execOp a.eval o).run P w = .ok .skip (w.setRow b (spl arr.toList off us).toArray)) :
    Does ρ φ P fx B o a w β nid ⟨undefSV, [(id, some (spl row off cs))], nid⟩ := by
  intro K Q hk
  simp only [Oper.wp, h, Oper.upon]
  exact hk β undef _ (Ext.refl _) (Newer.refl _ _ _) (world_wr H hB hb hh hlen hcs hany) rfl
end
end Go.CX
