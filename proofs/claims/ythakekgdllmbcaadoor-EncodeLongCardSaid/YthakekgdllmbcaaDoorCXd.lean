/- CX: code carried out symbol by symbol, the calls that it holds and what they write with it: values, and what they say of a world. -/
import Derived.Test.YthakekgdllmbcaaDoorSXk
import Derived.Laws.AppendOwn
import Derived.Laws.MakeOwn
import Derived.Laws.IdiomStrings
namespace Go.CX
open Go Go.RowKit Go.SX

/-- The content of a cell: a term; unknown; an address in a block; a slice of one; a slice whose capacity is not known. -/
inductive SC where
  | e (x : E) | any | ptr (id off : Nat) | slc (id off len cap : Nat) | sla (id off len sz : Nat) | vad (i : Nat) (idx : E) (sz o : Nat) | vsl (i n : Nat) | nul | itr (s : ByteArray) (pos : Nat) | gad (g off : Nat) | txt (ps : List E) | gh (k : Nat) (x : E) | px (id off n : Nat) (i : E) | fp (f id off : Nat)
  deriving Inhabited
structure Part where
  agg : Bool
  cs : List SC
  deriving Inhabited
inductive SV where
  | one (p : Part) | tup (ps : List Part) | fn (f : FuncId) (fi ca : List Part)
  deriving Inhabited
abbrev Bk := Nat → Option (Nat × Nat)
abbrev LK := Nat → Option SV
abbrev BK := Nat → Option (List SC)

section
variable (ρ : Nat → Value) (φ : Nat → List Value → List Value) (β : Bk)
def SC.is : SC → Value → Prop
  | .e x, v => v = x.den ρ φ
  | .any, _ => True
  | .ptr id off, v => ∃ b n, β id = some (b, n) ∧ v = .pointer (some ⟨b, off, none⟩)
  | .slc id off len cap, v => ∃ b n, β id = some (b, n) ∧ v = .slice (some ⟨b, off, none⟩) len cap
  | .sla id off len sz, v => ∃ b n cap, β id = some (b, n) ∧ v = .slice (some ⟨b, off, none⟩) len cap ∧ len ≤ cap ∧ cap ≤ maxLen ∧ off + cap * sz ≤ n
  | .vad i idx sz o, v => ∃ b off n c, ρ i = .slice (some ⟨b, off, none⟩) n c ∧ v = .pointer (some ⟨b, off + (vint (idx.den ρ φ)).toNat * sz + o, none⟩)
  | .vsl i n, v => ∃ a len cap, ρ i = .slice a len cap ∧ n ≤ len ∧ v = .slice a n cap
  | .nul, v => ∃ a cap, v = .slice a 0 cap
  | .itr _ _, _ => False
  | .gh _ _, _ => False
  | .px id off n i, v => ∃ b m, β id = some (b, m) ∧ (0 ≤ vint (i.den ρ φ) ∧ vint (i.den ρ φ) < (n : Int)) ∧ v = .pointer (some ⟨b, off + (vint (i.den ρ φ)).toNat, none⟩)
  | .gad g off, v => v = .pointer (some ⟨g, off, none⟩)
  | .fp f id off, v => ∃ b n, β id = some (b, n) ∧ v = .func (.func f) #[.pointer (some ⟨b, off, none⟩)] #[]
  | .txt ps, v => ∃ s : ByteArray, v = .string s ∧ s.data.toList = ps.flatMap (fun e => (vstr (e.den ρ φ))) ∧ s.size ≤ ps.length * 140737488355328
def Part.is (p : Part) (v : Value) : Prop :=
  match p.agg, p.cs with
  | true, cs => ∃ vs : List Value, v = .agg vs.toArray ∧ All2 (SC.is ρ φ β) cs vs
  | false, [c] => c.is ρ φ β v
  | false, _ => False
def SV.is : SV → Value → Prop
  | .one p, v => p.is ρ φ β v
  | .tup ps, v => ∃ vs : List Value, v = .tuple vs.toArray ∧ All2 (Part.is ρ φ β) ps vs
  | .fn f fi ca, v => ∃ us vs : List Value, v = .func (.func f) us.toArray vs.toArray ∧ All2 (Part.is ρ φ β) fi us ∧ All2 (Part.is ρ φ β) ca vs
end

/-- 'β'' says all that 'β' says. -/
def Ext (β β' : Bk) : Prop := ∀ id b, β id = some b → β' id = some b
theorem Ext.refl (β : Bk) : Ext β β := fun _ _ h => h
theorem Ext.trans {a b c : Bk} (h : Ext a b) (h' : Ext b c) : Ext a c := fun id x hx => h' id x (h id x hx)
/-- What 'β'' says more is of blocks numbered from n on, up to n'. -/
def Newer (β β' : Bk) (n n' : Nat) : Prop := ∀ id p, β' id = some p → β id = some p ∨ (n ≤ id ∧ id < n')
theorem Newer.refl (β : Bk) (n n' : Nat) : Newer β β n n' := fun _ _ h => Or.inl h
theorem Newer.trans {a b c : Bk} {n m k : Nat} (h : Newer a b n m) (h' : Newer b c m k) (h1 : n ≤ m) (h2 : m ≤ k) : Newer a c n k := by
  intro id p hp
  rcases h' id p hp with h' | ⟨h', h''⟩
  · rcases h id p h' with h | ⟨h, h''⟩
    · exact Or.inl h
    · exact Or.inr ⟨h, by omega⟩
  · exact Or.inr ⟨by omega, h''⟩
section
variable {ρ : Nat → Value} {φ : Nat → List Value → List Value} {β β' : Bk} (h : Ext β β')
 include h
theorem SC.is_ext {c : SC} {v : Value} (H : c.is ρ φ β v) : c.is ρ φ β' v := by
  cases c with
  | e x => exact H
  | any => trivial
  | ptr id off => obtain ⟨b, n, hb, hv⟩ := H; exact ⟨b, n, h _ _ hb, hv⟩
  | slc id off l c => obtain ⟨b, n, hb, hv⟩ := H; exact ⟨b, n, h _ _ hb, hv⟩
  | sla id off l sz => obtain ⟨b, n, c, hb, hv⟩ := H; exact ⟨b, n, c, h _ _ hb, hv⟩
  | vad i idx sz o => exact H
  | vsl i n => exact H
  | nul => exact H
  | itr s pos => exact H
  | gad g off => exact H
  | txt ps => exact H
  | gh k x => exact H
  | px id off n i => obtain ⟨b, m, hb, hv⟩ := H; exact ⟨b, m, h _ _ hb, hv⟩
  | fp f id off => obtain ⟨b, n, hb, hv⟩ := H; exact ⟨b, n, h _ _ hb, hv⟩
theorem Part.is_ext {p : Part} {v : Value} (H : p.is ρ φ β v) : p.is ρ φ β' v := by
  unfold Part.is at *
  split at H
  · obtain ⟨vs, hv, ha⟩ := H; exact ⟨vs, hv, ha.mono fun _ _ => SC.is_ext h⟩
  · exact SC.is_ext h H
  · exact H
theorem SV.is_ext {s : SV} {v : Value} (H : s.is ρ φ β v) : s.is ρ φ β' v := by
  cases s with
  | one p => exact Part.is_ext h H
  | tup ps => obtain ⟨vs, hv, ha⟩ := H; exact ⟨vs, hv, ha.mono fun _ _ => Part.is_ext h⟩
  | fn f fi ca => obtain ⟨us, vs, hv, h1, h2⟩ := H; exact ⟨us, vs, hv, h1.mono fun _ _ => Part.is_ext h, h2.mono fun _ _ => Part.is_ext h⟩
end

/-- One cell for sure, and known. -/
def SC.cell (cx : Cx) : SC → Bool
  | .e x => match cx.so x with
    | .any => false
    | _ => true
  | .any => false
  | .itr _ _ => false
  | .gh _ _ => false
  | _ => true

/-- What an operation does: the value of its temporary; the blocks that are turned, made, given up; the next free number. -/
structure Out where
  v : SV
  dl : List (Nat × Option (List SC))
  next : Nat
  deriving Inhabited
inductive OR where
  | ok (d : Out) | split (c : E) | stuck
def dlB (dl : List (Nat × Option (List SC))) (B : BK) : BK := fun id => match lookA id dl with
  | some r => r
  | none => B id

def constSC : Value → SC
  | .int k n => .e (.int k n)
  | .bool b => .e (.bool b)
  | v => .e (.val v)
def constSV : Value → SV
  | .agg cs => .one ⟨true, cs.toList.map constSC⟩
  | v => .one ⟨false, [constSC v]⟩
def undefSV : SV := .one ⟨false, [.e (.val undef)]⟩
def opd (L : LK) : Operand → Option SV
  | .tmp t => L t
  | .const v => some (constSV v)
  | .func f => some (.fn f [] [])
  | .global g => some (.one ⟨false, [.gad g 0]⟩)
def SV.sc : SV → Option SC
  | .one ⟨false, [c]⟩ => some c
  | _ => none
def SV.ex (s : SV) : Option E :=
  match s.sc with
  | some (.e x) => some x
  | _ => none
def SV.cells : SV → Option (List SC)
  | .one p => some p.cs
  | .fn f [⟨false, [.ptr id off]⟩] [] => some [.fp f id off]
  | _ => none
def vE (n : Nat) (x : E) : OR := .ok ⟨.one ⟨false, [.e x]⟩, [], n⟩
def vC (n : Nat) (c : SC) : OR := .ok ⟨.one ⟨false, [c]⟩, [], n⟩
def vV (n : Nat) (s : SV) : OR := .ok ⟨s, [], n⟩

section
variable {ρ : Nat → Value} {φ : Nat → List Value → List Value} {β : Bk}
theorem constSC_is (v : Value) : (constSC v).is ρ φ β v := by
  unfold constSC
  split <;> simp [SC.is, E.den]
theorem constSC_all : ∀ vs : List Value, All2 (SC.is ρ φ β) (vs.map constSC) vs
  | [] => trivial
  | v :: vs => ⟨constSC_is v, constSC_all vs⟩
theorem constSV_is (v : Value) : (constSV v).is ρ φ β v := by
  unfold constSV
  split
  · rename_i cs
    exact ⟨cs.toList, by simp, constSC_all _⟩
  · exact constSC_is v
theorem SV.sc_is {s : SV} {c : SC} {v : Value} (h : s.sc = some c) (H : s.is ρ φ β v) : c.is ρ φ β v := by
  unfold SV.sc at h
  split at h
  · simp only [Option.some.injEq] at h; subst h; exact H
  · simp at h
theorem SV.ex_is {s : SV} {x : E} {v : Value} (h : s.ex = some x) (H : s.is ρ φ β v) : v = x.den ρ φ := by
  unfold SV.ex at h
  split at h
  · rename_i y hy
    simp only [Option.some.injEq] at h
    subst h
    exact SV.sc_is hy H
  · simp at h
theorem SC.cell_ne {cx : Cx} {c : SC} (h : c.cell cx = true) : c ≠ .any := by
  intro e; subst e; simp [SC.cell] at h
theorem SC.cell_one {cx : Cx} (F : Fits cx.Γ cx.S ρ φ) {c : SC} {v : Value} (h : c.cell cx = true) (H : c.is ρ φ β v) : v.oneCell' = true := by
  cases c with
  | e x =>
    simp only [SC.cell] at h
    have hne : cx.so x ≠ .any := by intro e; rw [e] at h; simp at h
    simp only [SC.is] at H
    subst H
    exact So.has_one (E.so_has F x) hne
  | any => simp [SC.cell] at h
  | ptr id off => obtain ⟨b, _, _, rfl⟩ := H; rfl
  | slc id off l c => obtain ⟨b, _, _, rfl⟩ := H; rfl
  | sla id off l c => obtain ⟨b, _, _, _, rfl, _⟩ := H; rfl
  | vad i idx sz o => obtain ⟨b, _, _, _, _, rfl⟩ := H; rfl
  | vsl i n => obtain ⟨a, _, _, _, _, rfl⟩ := H; rfl
  | nul => obtain ⟨a, _, rfl⟩ := H; rfl
  | itr s pos => exact H.elim
  | gad g off => have H : v = _ := H; subst H; rfl
  | txt ps => obtain ⟨s, rfl, _⟩ := H; rfl
  | gh k x => exact H.elim
  | px id off n i => obtain ⟨b, _, _, _, rfl⟩ := H; rfl
  | fp f id off => obtain ⟨b, _, _, rfl⟩ := H; rfl
/-- The cells of a value. -/
theorem SV.cells_is {cx : Cx} (F : Fits cx.Γ cx.S ρ φ) {s : SV} {cs : List SC} {v : Value} (h : s.cells = some cs) (hc : cs.all (SC.cell cx) = true) (H : s.is ρ φ β v) :
    ∃ vs : List Value, v.cells = vs.toArray ∧ All2 (SC.is ρ φ β) cs vs ∧ ∀ u ∈ vs, u.oneCell' = true := by
  unfold SV.cells at h
  split at h
  · rename_i p
    simp only [Option.some.injEq] at h
    subst h
    obtain ⟨agg, cs⟩ := p
    have one : ∀ (vs : List Value), All2 (SC.is ρ φ β) cs vs → ∀ u ∈ vs, u.oneCell' = true := by
      intro vs ha u hu
      obtain ⟨c, hc', hr⟩ := ha.mem hu
      exact SC.cell_one F (List.all_eq_true.1 hc c hc') hr
    cases agg with
    | true =>
      obtain ⟨vs, rfl, ha⟩ := H
      exact ⟨vs, rfl, ha, one vs ha⟩
    | false =>
      match cs, H with
      | [c], H =>
        have h1 : v.oneCell' = true := SC.cell_one F (by simpa using hc) H
        exact ⟨[v], by rw [cells_one h1], ⟨H, trivial⟩, by simpa using h1⟩
  · rename_i f id off
    simp only [Option.some.injEq] at h
    subst h
    obtain ⟨us, vs, hv, h1, h2⟩ := H
    match us, vs, h1, h2 with
    | [u], [], h1, _ =>
      obtain ⟨b, n, hb, rfl⟩ := h1.1
      subst hv
      have h1 : (Value.func (.func f) #[.pointer (some ⟨b, off, none⟩)] #[]).oneCell' = true := rfl
      exact ⟨[.func (.func f) #[.pointer (some ⟨b, off, none⟩)] #[]], by simpa using cells_one h1, ⟨⟨b, n, hb, rfl⟩, trivial⟩, by simpa using h1⟩
  · simp at h
end

/-! ### The world -/
/-- A slice that came in reads as its variables say. -/
def VwS (v : Vw) (ρ : Nat → Value) (ws : World) : Prop :=
  ∃ a len cap, ∃ vs : List Value, ρ v.i = .slice a len cap ∧ ρ v.l = .int .i64 (Int.ofNat len) ∧ ρ v.g = .tuple vs.toArray ∧ vs.length = len * v.ss.length ∧ len ≤ cap ∧ len ≤ 9223372036854775807 ∧ 0 < v.ss.length ∧
    (∀ i u, vs[i]? = some u → (v.ss.getD (i % v.ss.length) .any).has u) ∧
    ((a = none ∧ len = 0 ∧ cap = 0) ∨ ∃ b off, a = some ⟨b, off, none⟩ ∧ b < ws.heap.size ∧ ∀ i u, vs[i]? = some u → ws.cell? ⟨b, off + i, none⟩ = some u)
/-- The kinds of a table's numbers. -/
def tabK : Nat → IntKind
  | 0 => .u8 | 1 => .u16 | 2 => .u32 | 3 => .u64 | _ => .i64
/-- A laid table of numbers: without sorts; its block, 8 times its length and its kind, its numbers as one (base 2^64). -/
def VwT (v : Vw) (ws : World) : Prop :=
  v.ss = [] ∧ v.i < ws.heap.size ∧ ∀ k, k < v.l / 8 → ws.cell? ⟨v.i, k, none⟩ = some (.int (tabK (v.l % 8)) (Int.ofNat (v.g / 2 ^ (64 * k) % 2 ^ 64)))
def VwC (v : Vw) (ρ : Nat → Value) (ws : World) : Prop := VwT v ws ∨ VwS v ρ ws
theorem VwC.old {v : Vw} {ρ : Nat → Value} {ws : World} (h : VwC v ρ ws) (hs : v.ss ≠ []) : VwS v ρ ws := by
  rcases h with h | h
  · exact absurd h.1 hs
  · exact h
def findVv (i : Nat) (vs : List Vw) : Option Vw := match findVw i vs with
  | some v => match v.ss with
    | [] => none
    | _ => some v
  | none => none
theorem findVv_mem {i : Nat} {v : Vw} {vs : List Vw} (h : findVv i vs = some v) : (v ∈ vs ∧ v.i = i) ∧ v.ss ≠ [] := by
  unfold findVv at h
  split at h
  · rename_i v' hv
    split at h
    · cases h
    · rename_i hne
      simp only [Option.some.injEq] at h
      subst h
      exact ⟨findVw_mem hv, fun e => hne e⟩
  · cases h
/-- The table that lies in a block. -/
def findT (g : Nat) : List Vw → Option Vw
  | [] => none
  | v :: vs => match v.ss with
    | [] => if Nat.beq v.i g then some v else findT g vs
    | _ => findT g vs
theorem findT_mem {g : Nat} {v : Vw} : ∀ {vs : List Vw}, findT g vs = some v → v ∈ vs ∧ v.i = g ∧ v.ss = []
  | [], h => by simp [findT] at h
  | u :: vs, h => by
    simp only [findT] at h
    split at h
    · rename_i hs
      split at h
      · rename_i hb
        simp only [Option.some.injEq] at h
        subst h
        exact ⟨List.mem_cons_self, Nat.eq_of_beq_eq_true hb, hs⟩
      · have := findT_mem h
        exact ⟨List.mem_cons_of_mem _ this.1, this.2⟩
    · have := findT_mem h
      exact ⟨List.mem_cons_of_mem _ this.1, this.2⟩
theorem VwC.tab {v : Vw} {ρ : Nat → Value} {ws : World} (h : VwC v ρ ws) (hs : v.ss = []) : VwT v ws := by
  rcases h with h | h
  · exact h
  · obtain ⟨_, _, _, _, _, _, _, _, _, _, h, _⟩ := h
    rw [hs] at h; exact absurd h (by simp)
/-- What is told of things that lie in more blocks than one: a kind, what it is, its first block; the blocks that it lies in. -/
structure GT where
  I : Nat → Value → Nat → World → Prop
  F : Nat → Nat → World → Nat → Prop
  fr : ∀ k v b w w', I k v b w → (∀ c, F k b w c → w'.heap[c]? = w.heap[c]?) → (∀ c, F k b w' c ↔ F k b w c) ∧ I k v b w'
def gt0 : GT := ⟨fun _ _ _ _ => False, fun _ _ _ _ => False, fun _ _ _ _ _ h => h.elim⟩
/-- The world at the beginning, and the slices that came in. -/
structure Base extends World where
  vw : List Vw
  gt : GT
structure Fx where
  N : Nat
  X : Nat → Prop
  B0 : BK
  w0 : World
  ws : Base
structure LowP (X : Nat → Prop) (w w' : World) : Prop where
  os : w'.os = w.os
  tape : w'.tape = w.tape
  output : w'.output = w.output
  size : w.heap.size ≤ w'.heap.size
  block : ∀ k, k < w.heap.size → ¬ X k → w'.heap[k]? = w.heap[k]?
theorem LowP.refl (X : Nat → Prop) (w : World) : LowP X w w := ⟨rfl, rfl, rfl, Nat.le_refl _, fun _ _ _ => rfl⟩
theorem LowP.drew {X : Nat → Prop} {a w : World} (h : LowP X a w) : LowP X a w.drew := ⟨h.os, h.tape, h.output, h.size, h.block⟩
theorem LowP.below {w w' : World} (h : LowP (fun _ => False) w w') : Below w.heap.size w w' := ⟨h.os, h.tape, h.output, h.size, fun k hk => h.block k hk (by simp)⟩

/-- What a row says of its block: it is an iterator over a text, or cells. -/
def RowO (ρ : Nat → Value) (φ : Nat → List Value → List Value) (β : Bk) (row : List SC) (n : Nat) (oo : Option Obj) : Prop :=
  (∃ s pos, (row = [.itr s pos] ∨ row = [.any]) ∧ oo = some (.stringIter s pos)) ∨
  (∃ arr : Array Value, ∃ T, oo = some (.cells arr T (0, 0)) ∧ arr.size = n ∧ row.length ≤ n ∧ ∀ (k : Nat) (c : SC), row[k]? = some c → ∃ u, arr[k]? = some u ∧ c.is ρ φ β u)
theorem RowO.ext {ρ : Nat → Value} {φ : Nat → List Value → List Value} {β β' : Bk} {row : List SC} {n : Nat} {oo : Option Obj} (h : RowO ρ φ β row n oo) (hE : Ext β β') : RowO ρ φ β' row n oo := by
  rcases h with h | ⟨arr, T, h1, h2, h3, h4⟩
  · exact Or.inl h
  · exact Or.inr ⟨arr, T, h1, h2, h3, fun k c hc => by
      obtain ⟨u, hu, hcu⟩ := h4 k c hc
      exact ⟨u, hu, SC.is_ext hE hcu⟩⟩
/-- A cell stands as it stood, and so does an iterator. -/
def SameC (w w0 : World) (b k : Nat) : Prop := w.cell? ⟨b, k, none⟩ = w0.cell? ⟨b, k, none⟩ ∧ ∀ s p, w0.heap[b]? = some (.stringIter s p) → w.heap[b]? = some (.stringIter s p)
theorem SameC.refl (w : World) (b k : Nat) : SameC w w b k := ⟨rfl, fun _ _ h => h⟩
theorem SameC.trans {w w' w'' : World} {b k : Nat} (h : SameC w'' w' b k) (h' : SameC w' w b k) : SameC w'' w b k := ⟨h.1.trans h'.1, fun s p q => h.2 s p (h'.2 s p q)⟩
theorem SameC.of_heap {w w' : World} {b k : Nat} (h : w'.heap[b]? = w.heap[b]?) : SameC w' w b k := ⟨World.cell?_of_block (w := w) h, fun s p q => by rw [h]; exact q⟩
/-- No iterator. -/
def notI : List SC → Bool
  | [.itr _ _] => false
  | [.any] => false
  | _ => true
theorem RowO.cells {ρ : Nat → Value} {φ : Nat → List Value → List Value} {β : Bk} {row : List SC} {n : Nat} {oo : Option Obj} (h : RowO ρ φ β row n oo) (hI : notI row = true) :
    ∃ arr : Array Value, ∃ T, oo = some (.cells arr T (0, 0)) ∧ arr.size = n ∧ row.length ≤ n ∧ ∀ (k : Nat) (c : SC), row[k]? = some c → ∃ u, arr[k]? = some u ∧ c.is ρ φ β u := by
  rcases h with ⟨s, pos, rfl | rfl, _⟩ | h
  · cases hI
  · cases hI
  · exact h
/-- A row of cells. -/
def rowB (B : BK) (id : Nat) : Option (List SC) := match B id with
  | some row => if notI row then some row else none
  | none => none
theorem rowB_spec {B : BK} {id : Nat} {row : List SC} (h : rowB B id = some row) : B id = some row ∧ notI row = true := by
  unfold rowB at h
  split at h
  · rename_i r hr
    split at h
    · rename_i hn
      simp only [Option.some.injEq] at h
      subst h
      exact ⟨hr, hn⟩
    · cases h
  · cases h

/-- What the blocks say of a world: each that is known is the call's own or may be turned, and reads as it says; a cell that is not known stands as it was at the start. -/
structure W (ρ : Nat → Value) (φ : Nat → List Value → List Value) (fx : Fx) (B : BK) (β : Bk) (w : World) : Prop where
  low : LowP fx.X fx.w0 w
  box : ∀ id row, B id = some row → ∃ b n, β id = some (b, n) ∧ (fx.w0.heap.size ≤ b ∨ fx.X b) ∧ RowO ρ φ β row n w.heap[b]?
  msk : ∀ (id : Nat) (row : List SC) (k : Nat), B id = some row → row[k]? = some .any → (∃ row0 : List SC, fx.B0 id = some row0 ∧ row0[k]? = some .any) ∧ ∀ b n, β id = some (b, n) → SameC w fx.w0 b k
  inj : ∀ (id id' : Nat) (r r' : List SC) (b n n' : Nat), B id = some r → B id' = some r' → β id = some (b, n) → β id' = some (b, n') → id = id'
  inh : ∀ id b n, β id = some (b, n) → b < w.heap.size
  hi : ∀ id b n, β id = some (b, n) → fx.ws.heap.size ≤ b
  len : fx.ws.heap.size ≤ w.heap.size
  base : (∀ k, k < fx.ws.heap.size → w.heap[k]? = fx.ws.heap[k]?) ∧ ∀ v ∈ fx.ws.vw, VwC v ρ fx.ws.toWorld

section
variable {ρ : Nat → Value} {φ : Nat → List Value → List Value} {fx : Fx} {B : BK} {β : Bk} {w : World}
theorem W.less {B' : BK} (hB : ∀ id r, B' id = some r → B id = some r) (H : W ρ φ fx B β w) : W ρ φ fx B' β w :=
  ⟨H.low, fun id r h => H.box id r (hB id r h), fun id r k h => H.msk id r k (hB id r h), fun id id' r r' b n n' h h' => H.inj id id' r r' b n n' (hB _ _ h) (hB _ _ h'), H.inh, H.hi, H.len, H.base⟩
theorem W.drew (H : W ρ φ fx B β w) : W ρ φ fx B β w.drew := ⟨H.low.drew, H.box, H.msk, H.inj, H.inh, H.hi, H.len, H.base⟩
/-- The cells of a row. -/
theorem row_vals {β : Bk} : ∀ (row : List SC) (arr : List Value), (∀ (k : Nat) (c : SC), row[k]? = some c → ∃ u, arr[k]? = some u ∧ c.is ρ φ β u) → All2 (SC.is ρ φ β) row (arr.take row.length)
  | [], arr, _ => by simp [All2]
  | c :: row, [], h => by obtain ⟨u, hu, _⟩ := h 0 c rfl; simp at hu
  | c :: row, u :: arr, h => by
    obtain ⟨u', hu, hc⟩ := h 0 c rfl
    simp only [List.getElem?_cons_zero, Option.some.injEq] at hu
    subst hu
    refine ⟨hc, row_vals row arr fun k c hk => ?_⟩
    obtain ⟨u, hu, hc⟩ := h (k + 1) c (by simpa using hk)
    exact ⟨u, by simpa using hu, hc⟩
theorem vals_row {β : Bk} {row : List SC} {vs : List Value} (h : All2 (SC.is ρ φ β) row vs) : ∀ (k : Nat) (c : SC), row[k]? = some c → ∃ u, vs.toArray[k]? = some u ∧ c.is ρ φ β u := by
  intro k c hk
  obtain ⟨u, hu, hc⟩ := h.get hk
  exact ⟨u, by simpa using hu, hc⟩
theorem W.rows (H : W ρ φ fx B β w) {id : Nat} {row : List SC} (h : B id = some row) (hI : notI row = true) {b n : Nat} (hb : β id = some (b, n)) :
    ∃ arr : Array Value, ∃ T, (fx.w0.heap.size ≤ b ∨ fx.X b) ∧ w.heap[b]? = some (.cells arr T (0, 0)) ∧ arr.size = n ∧ row.length ≤ n ∧ All2 (SC.is ρ φ β) row (arr.toList.take row.length) := by
  obtain ⟨b', n', hb', h1, hR⟩ := H.box id row h
  rw [hb] at hb'
  simp only [Option.some.injEq, Prod.mk.injEq] at hb'
  obtain ⟨rfl, rfl⟩ := hb'
  obtain ⟨arr, T, h2, h3, h4, h5⟩ := hR.cells hI
  refine ⟨arr, T, h1, h2, h3, h4, row_vals row arr.toList fun k c hk => ?_⟩
  obtain ⟨u, hu, hc⟩ := h5 k c hk
  exact ⟨u, by simpa using hu, hc⟩
end

/-- An operation does what is said. -/
def Does (ρ : Nat → Value) (φ : Nat → List Value → List Value) (P : Program) (fx : Fx) (B : BK) (o : Oper) (a : Act) (w : World) (β : Bk) (nid : Nat) (d : Out) : Prop :=
  ∀ (K : Act → World → Prop) (Q : Exit → Act → World → Prop), (∀ β' x w', Ext β β' → Newer β β' nid d.next → W ρ φ fx (dlB d.dl B) β' w' → d.v.is ρ φ β' x → K (a.put o.dst x) w') → o.wp P a w K Q

section
variable {ρ : Nat → Value} {φ : Nat → List Value → List Value} {P : Program} {fx : Fx} {B : BK} {o : Oper} {a : Act} {w : World} {β : Bk} {nid : Nat}
theorem does_val {s : SV} {x : Value} (H : W ρ φ fx B β w) (h : (execOp a.eval o).run P w = .ok (.value x) w) (hv : s.is ρ φ β x) :
    Does ρ φ P fx B o a w β nid ⟨s, [], nid⟩ := by
  intro K Q hk
  simp only [Oper.wp, h, Oper.upon]
  exact hk β x w (Ext.refl _) (Newer.refl _ _ _) H hv

def updB (β : Bk) (nid b n : Nat) : Bk := fun id => if id = nid then some (b, n) else β id
theorem updB_ext {β : Bk} {nid b n : Nat} (h : β nid = none) : Ext β (updB β nid b n) := by
  intro id x hx
  unfold updB
  split
  · rename_i e; rw [e, h] at hx; simp at hx
  · exact hx
theorem updB_self (β : Bk) (nid b n : Nat) : updB β nid b n nid = some (b, n) := by simp [updB]
theorem updB_old {β : Bk} {nid b n : Nat} {id : Nat} {x : Nat × Nat} (h : updB β nid b n id = some x) : β id = some x ∨ (id = nid ∧ x = (b, n)) := by
  unfold updB at h
  split at h
  · rename_i e; simp only [Option.some.injEq] at h; exact Or.inr ⟨e, h.symm⟩
  · exact Or.inl h
theorem updB_newer (β : Bk) (nid b n : Nat) : Newer β (updB β nid b n) nid (nid + 1) := by
  intro id p h
  rcases updB_old h with h | ⟨h, _⟩
  · exact Or.inl h
  · exact Or.inr ⟨by omega, by omega⟩

theorem dlB_one {id nid : Nat} {r : Option (List SC)} : dlB [(nid, r)] B id = if id = nid then r else B id := by
  unfold dlB
  simp only [lookA]
  by_cases h : id = nid
  · subst h; simp
  · rw [if_neg h]
    have : Nat.beq nid id = false := by
      cases hq : Nat.beq nid id with
      | false => rfl
      | true => exact absurd (Nat.eq_of_beq_eq_true hq).symm h
    simp [this]

theorem W.old_block (H : W ρ φ fx B β w) {w' : World} (hsz : w.heap.size ≤ w'.heap.size) (hsame : ∀ k, k < w.heap.size → w'.heap[k]? = w.heap[k]?) (ho : w'.os = w.os) (ht : w'.tape = w.tape) (hp : w'.output = w.output) {β' : Bk} (hE : Ext β β') (hN : ∀ id p, β' id = some p → B id ≠ none → β id = some p)
    (hI : ∀ id b n, β' id = some (b, n) → b < w'.heap.size) (hH : ∀ id b n, β' id = some (b, n) → fx.ws.heap.size ≤ b) : W ρ φ fx B β' w' := by
  refine ⟨⟨ho.trans H.low.os, ht.trans H.low.tape, hp.trans H.low.output, Nat.le_trans H.low.size hsz, fun k hk hX => ?_⟩, fun id row h => ?_, fun id row k h hk => ?_, fun id id' r r' b n n' h h' h1 h2 => ?_, hI, hH, Nat.le_trans H.len hsz, ⟨fun k hk => by rw [hsame k (Nat.lt_of_lt_of_le hk H.len)]; exact H.base.1 k hk, H.base.2⟩⟩
  · rw [hsame k (Nat.lt_of_lt_of_le hk H.low.size)]
    exact H.low.block k hk hX
  · obtain ⟨b, n, hb, h1, h2⟩ := H.box id row h
    refine ⟨b, n, hE _ _ hb, h1, ?_⟩
    rw [hsame b (H.inh _ _ _ hb)]; exact h2.ext hE
  · obtain ⟨h1, h2⟩ := H.msk id row k h hk
    refine ⟨h1, fun b n hb => ?_⟩
    have hb' := hN _ _ hb (by rw [h]; simp)
    exact (SameC.of_heap (hsame b (H.inh _ _ _ hb'))).trans (h2 b n hb')
  · exact H.inj id id' r r' b n n' h h' (hN _ _ h1 (by rw [h]; simp)) (hN _ _ h2 (by rw [h']; simp))

theorem world_new {row : List SC} {arr : Array Value} {T : TypeId} {w1 : World} (H : W ρ φ fx B β w1) (hn : β nid = none) (hl : row.length ≤ arr.size)
    (hr : ∀ (k : Nat) (c : SC), row[k]? = some c → ∃ u, arr[k]? = some u ∧ c.is ρ φ β u) (hany : ∀ c ∈ row, c ≠ .any) :
    W ρ φ fx (dlB [(nid, some row)] B) (updB β nid w1.heap.size arr.size) (w1.alloc (.cells arr T)) := by
  have hE := updB_ext (b := w1.heap.size) (n := arr.size) hn
  have hBn : B nid = none := by
    cases hq : B nid with
    | none => rfl
    | some r => obtain ⟨b, n, hb, _⟩ := H.box nid r hq; rw [hn] at hb; simp at hb
  have hI : ∀ id b n, updB β nid w1.heap.size arr.size id = some (b, n) → b < (w1.alloc (.cells arr T)).heap.size := by
    intro id b n hb
    rcases updB_old hb with hb | ⟨_, hb⟩
    · have := H.inh _ _ _ hb; simp; omega
    · simp only [Prod.mk.injEq] at hb; simp; omega
  have hH : ∀ id b n, updB β nid w1.heap.size arr.size id = some (b, n) → fx.ws.heap.size ≤ b := by
    intro id b n hb
    rcases updB_old hb with hb | ⟨_, hb⟩
    · exact H.hi _ _ _ hb
    · simp only [Prod.mk.injEq] at hb
      have := H.len
      omega
  have H1 : W ρ φ fx B (updB β nid w1.heap.size arr.size) (w1.alloc (.cells arr T)) := by
    refine H.old_block (by simp) (fun k hk => Below.heap_alloc _ _ _ hk) rfl rfl rfl hE (fun id p hp hB => ?_) hI hH
    rcases updB_old hp with hp | ⟨hp, _⟩
    · exact hp
    · subst hp; exact absurd hBn hB
  have hnew : (w1.alloc (.cells arr T)).heap[w1.heap.size]? = some (.cells arr T (0, 0)) := by
    show (w1.heap.push _)[w1.heap.size]? = _
    simp
  have key : ∀ id r, dlB [(nid, some row)] B id = some r → (id = nid ∧ r = row) ∨ (id ≠ nid ∧ B id = some r) := by
    intro id r hr
    rw [dlB_one] at hr
    split at hr
    · rename_i e; simp only [Option.some.injEq] at hr; exact Or.inl ⟨e, hr.symm⟩
    · rename_i e; exact Or.inr ⟨e, hr⟩
  refine ⟨H1.low, fun id r hr' => ?_, fun id r k hr' hk' => ?_, fun id id' r r' b n n' h1 h2 h3 h4 => ?_, H1.inh, H1.hi, H1.len, H1.base⟩
  · rcases key id r hr' with ⟨rfl, rfl⟩ | ⟨_, hB⟩
    · refine ⟨w1.heap.size, arr.size, updB_self _ _ _ _, Or.inl H.low.size, Or.inr ⟨arr, T, hnew, rfl, hl, fun k c hc => ?_⟩⟩
      obtain ⟨u, hu, hcu⟩ := hr k c hc
      exact ⟨u, hu, SC.is_ext hE hcu⟩
    · exact H1.box id r hB
  · rcases key id r hr' with ⟨rfl, rfl⟩ | ⟨_, hB⟩
    · exact absurd rfl (hany _ (List.mem_of_getElem? hk'))
    · exact H1.msk id r k hB hk'
  · rcases key id r h1 with ⟨rfl, rfl⟩ | ⟨e1, hB⟩
    · rcases key id' r' h2 with ⟨rfl, rfl⟩ | ⟨e2, hB'⟩
      · rfl
      · rw [updB_self] at h3
        simp only [Option.some.injEq, Prod.mk.injEq] at h3
        rcases updB_old h4 with h4 | ⟨h4, _⟩
        · have := H.inh _ _ _ h4; omega
        · exact absurd h4 e2
    · rcases key id' r' h2 with ⟨rfl, rfl⟩ | ⟨e2, hB'⟩
      · rw [updB_self] at h4
        simp only [Option.some.injEq, Prod.mk.injEq] at h4
        rcases updB_old h3 with h3 | ⟨h3, _⟩
        · have := H.inh _ _ _ h3; omega
        · exact absurd h3 e1
      · exact H1.inj id id' r r' b n n' hB hB' h3 h4
theorem does_new {s : SV} {x : Value} {row : List SC} {arr : Array Value} {T : TypeId} {w1 : World} (H : W ρ φ fx B β w1) (hn : β nid = none)
    (h : (execOp a.eval o).run P w = .ok (.value x) (w1.alloc (.cells arr T))) (hv : s.is ρ φ (updB β nid w1.heap.size arr.size) x) (hl : row.length ≤ arr.size)
    (hr : ∀ (k : Nat) (c : SC), row[k]? = some c → ∃ u, arr[k]? = some u ∧ c.is ρ φ β u) (hany : ∀ c ∈ row, c ≠ .any) :
    Does ρ φ P fx B o a w β nid ⟨s, [(nid, some row)], nid + 1⟩ := by
  intro K Q hk
  simp only [Oper.wp, h, Oper.upon]
  exact hk _ x _ (updB_ext hn) (updB_newer _ _ _ _) (world_new H hn hl hr hany) hv
theorem does_new' {s : SV} {x : Value} {row : List SC} {vs : List Value} {T : TypeId} (H : W ρ φ fx B β w) (hn : β nid = none)
    (h : (execOp a.eval o).run P w = .ok (.value x) (w.alloc (.cells vs.toArray T))) (hv : s.is ρ φ (updB β nid w.heap.size vs.length) x) (hr : All2 (SC.is ρ φ β) row vs) (hany : ∀ c ∈ row, c ≠ .any) :
    Does ρ φ P fx B o a w β nid ⟨s, [(nid, some row)], nid + 1⟩ :=
  does_new H hn h (by simpa using hv) (by rw [hr.length]; simp) (vals_row hr) hany
theorem Does.less {v : SV} {dl dl' : List (Nat × Option (List SC))} {nx : Nat} (h : Does ρ φ P fx B o a w β nid ⟨v, dl, nx⟩) (hl : ∀ id r, dlB dl' B id = some r → dlB dl B id = some r) : Does ρ φ P fx B o a w β nid ⟨v, dl', nx⟩ :=
  fun K Q hk => h K Q fun β' x w' h1 h2 h3 h4 => hk β' x w' h1 h2 (h3.less hl) h4

theorem spl_get {α : Type} (vs us : List α) (off k : Nat) (h : off + us.length ≤ vs.length) : (spl vs off us)[k]? = if off ≤ k ∧ k < off + us.length then us[k - off]? else vs[k]? := by
  unfold spl
  by_cases h1 : k < off
  · rw [if_neg (by omega), List.append_assoc, List.getElem?_append_left (by simp; omega), List.getElem?_take, if_pos h1]
  · by_cases h2 : k < off + us.length
    · rw [if_pos ⟨by omega, h2⟩, List.getElem?_append_left (by simp; omega), List.getElem?_append_right (by simp; omega)]
      congr 1
      simp
      omega
    · rw [if_neg (by omega), List.getElem?_append_right (by simp; omega), List.getElem?_drop]
      congr 1
      simp
      omega
theorem spl_length {α : Type} (vs us : List α) (off : Nat) (h : off + us.length ≤ vs.length) : (spl vs off us).length = vs.length := by
  unfold spl
  simp
  omega

theorem world_wr {b n off id : Nat} {row cs : List SC} {us : List Value} {arr : Array Value} {T : TypeId} (H : W ρ φ fx B β w) (hB : B id = some row) (hb : β id = some (b, n)) (hh : w.heap[b]? = some (.cells arr T (0, 0)))
    (hlen : off + cs.length ≤ row.length) (hcs : All2 (SC.is ρ φ β) cs us) (hany : ∀ c ∈ cs, c ≠ .any) :
    W ρ φ fx (dlB [(id, some (spl row off cs))] B) β (w.setRow b (spl arr.toList off us).toArray) := by
  obtain ⟨b', n', hb', h1, hR⟩ := H.box id row hB
  rw [hb] at hb'
  simp only [Option.some.injEq, Prod.mk.injEq] at hb'
  obtain ⟨rfl, rfl⟩ := hb'
  rcases hR with ⟨s0, p0, _, hi0⟩ | ⟨arr', T', h2, h3, h4, h5⟩
  · rw [hh] at hi0; cases hi0
  rw [hh] at h2
  simp only [Option.some.injEq, Obj.cells.injEq, and_true] at h2
  obtain ⟨rfl, rfl⟩ := h2
  have hus := hcs.length
  have hl1 : off + us.length ≤ arr.toList.length := by simp; omega
  have hblt := H.inh _ _ _ hb
  have hself : (w.setRow b (spl arr.toList off us).toArray).heap[b]? = some (.cells (spl arr.toList off us).toArray T (0, 0)) := setRow_heap w b _ _ _ _ hh
  have hoth : ∀ k, k ≠ b → (w.setRow b (spl arr.toList off us).toArray).heap[k]? = w.heap[k]? := fun k hk => setRow_other w b k _ hk
  have key : ∀ id' r, dlB [(id, some (spl row off cs))] B id' = some r → (id' = id ∧ r = spl row off cs) ∨ (id' ≠ id ∧ B id' = some r) := by
    intro id' r hr
    rw [dlB_one] at hr
    split at hr
    · rename_i e; simp only [Option.some.injEq] at hr; exact Or.inl ⟨e, hr.symm⟩
    · rename_i e; exact Or.inr ⟨e, hr⟩
  have live : ∀ id' r, dlB [(id, some (spl row off cs))] B id' = some r → ∃ r', B id' = some r' := by
    intro id' r hr
    rcases key id' r hr with ⟨rfl, _⟩ | ⟨_, h⟩
    · exact ⟨_, hB⟩
    · exact ⟨_, h⟩
  refine ⟨⟨H.low.os, H.low.tape, H.low.output, by simpa using H.low.size, fun k hk' hX => ?_⟩, fun id' r hr => ?_, fun id' r k hr hk' => ?_, fun id1 id2 r1 r2 b1 n1 n2 g1 g2 g3 g4 => ?_, fun id' b1 n1 hb1 => by have := H.inh _ _ _ hb1; simpa using this, H.hi, by simpa using H.len, ⟨fun k hk => by rw [hoth k (by have := H.hi _ _ _ hb; omega)]; exact H.base.1 k hk, H.base.2⟩⟩
  · rw [hoth k ?_]
    · exact H.low.block k hk' hX
    · intro e
      subst e
      rcases h1 with h1 | h1
      · omega
      · exact hX h1
  · rcases key id' r hr with ⟨rfl, rfl⟩ | ⟨hne, hB'⟩
    · refine ⟨b, n, hb, h1, Or.inr ⟨_, T, hself, ?_, ?_, fun k c hc => ?_⟩⟩
      · simp only [List.size_toArray]
        rw [spl_length _ _ _ hl1]
        simpa using h3
      · rw [spl_length _ _ _ hlen]
        exact h4
      · rw [spl_get _ _ _ _ hlen] at hc
        simp only [List.getElem?_toArray]
        rw [spl_get _ _ _ _ hl1, ← hus]
        split at hc
        · rename_i hin
          rw [if_pos hin]
          obtain ⟨u, hu, hcu⟩ := hcs.get hc
          exact ⟨u, hu, hcu⟩
        · rename_i hin
          rw [if_neg hin]
          obtain ⟨u, hu, hcu⟩ := h5 k c hc
          exact ⟨u, by simpa using hu, hcu⟩
    · obtain ⟨b1, n1, hb1, g1, g2⟩ := H.box id' r hB'
      refine ⟨b1, n1, hb1, g1, ?_⟩
      rw [hoth b1 ?_]
      · exact g2
      · intro e
        subst e
        exact hne (H.inj id' id r row b1 n1 n hB' hB hb1 hb)
  · rcases key id' r hr with ⟨rfl, rfl⟩ | ⟨hne, hB'⟩
    · rw [spl_get _ _ _ _ hlen] at hk'
      split at hk'
      · exact absurd rfl (hany _ (List.mem_of_getElem? hk'))
      · rename_i hin
        obtain ⟨g1, g2⟩ := H.msk id' row k hB hk'
        refine ⟨g1, fun b1 n1 hb1 => ?_⟩
        rw [hb] at hb1
        simp only [Option.some.injEq, Prod.mk.injEq] at hb1
        obtain ⟨rfl, rfl⟩ := hb1
        refine SameC.trans ⟨?_, fun s p q => by rw [hh] at q; cases q⟩ (g2 b n hb)
        simp only [World.cell?, hself, hh, Option.isSome_none, Bool.false_eq_true, if_false, List.getElem?_toArray]
        rw [spl_get _ _ _ _ hl1, ← hus, if_neg hin]
        simp
    · obtain ⟨g1, g2⟩ := H.msk id' r k hB' hk'
      refine ⟨g1, fun b1 n1 hb1 => ?_⟩
      refine (SameC.of_heap (hoth b1 ?_)).trans (g2 b1 n1 hb1)
      intro e
      subst e
      exact hne (H.inj id' id r row b1 n1 n hB' hB hb1 hb)
  · obtain ⟨r1', l1⟩ := live _ _ g1
    obtain ⟨r2', l2⟩ := live _ _ g2
    exact H.inj id1 id2 r1' r2' b1 n1 n2 l1 l2 g3 g4
theorem does_wr {b n off id : Nat} {row cs : List SC} {us : List Value} {arr : Array Value} {T : TypeId} (H : W ρ φ fx B β w) (hB : B id = some row) (hb : β id = some (b, n)) (hh : w.heap[b]? = some (.cells arr T (0, 0)))
    (hlen : off + cs.length ≤ row.length) (hcs : All2 (SC.is ρ φ β) cs us) (hany : ∀ c ∈ cs, c ≠ .any)
    (h : (execOp a.eval o).run P w = .ok .skip (w.setRow b (spl arr.toList off us).toArray)) :
    Does ρ φ P fx B o a w β nid ⟨undefSV, [(id, some (spl row off cs))], nid⟩ := by
  intro K Q hk
  simp only [Oper.wp, h, Oper.upon]
  exact hk β undef _ (Ext.refl _) (Newer.refl _ _ _) (world_wr H hB hb hh hlen hcs hany) rfl
end
end Go.CX

/- CX: what reads only: numbers, cells, structs, addresses, slices. -/
namespace Go.CX
open Go Go.RowKit Go.SX

/-- What a state says of a frame and a world. -/
structure M (ρ : Nat → Value) (φ : Nat → List Value → List Value) (fx : Fx) (L : LK) (B : BK) (β : Bk) (a : Act) (w : World) : Prop where
  tmps : ∀ t s, L t = some s → ∃ x, a.tmps[t]? = some x ∧ s.is ρ φ β x
  size : a.tmps.size = fx.N
  dfr : a.defers = []
  wld : W ρ φ fx B β w

def ixLt (x : E) (k : Nat) : E := .cmp .lss x (.int .i64 (Int.ofNat k))
/-- What a number picks. -/
def balT (x : E) (f : Nat → E) : Nat → Nat → Nat → E
  | 0, lo, _ => f lo
  | m + 1, lo, n => if Nat.beq n 1 then f lo else .ite (ixLt x (lo + n / 2)) (balT x f m lo (n / 2)) (balT x f m (lo + n / 2) (n - n / 2))
/-- What a number picks, or something else. -/
def tabT (x : E) (f : Nat → E) (N : Nat) (d : E) : E := .ite (ixLt x 0) d (.ite (ixLt x N) (balT x f N 0 N) d)
def ofX (n : Nat) : SX.OR → OR
  | .ok d => match d.v with
    | .one ⟨false, [.e z]⟩ => vE n z
    | _ => .stuck
  | .split c => .split c
  | .stuck => .stuck

/-- Cells that are terms, as SX has them. -/
def toX : List SC → Option (List SX.SC)
  | [] => some []
  | .e x :: cs => (toX cs).map (.e x :: ·)
  | _ => none
def partX (p : Part) : Option SX.Part := (toX p.cs).map fun cs => ⟨p.agg, cs⟩

def listE : List SC → Option E
  | [] => some .nil
  | .e x :: cs => (listE cs).map (.cons x ·)
  | _ => none
def loadX (cx : Cx) (B : BK) (n0 : Nat) (t : TypeId) (c : SC) : OR :=
  match c, tyx cx.P t with
  | .ptr id off, some (agg, n) =>
    match rowB B id with
    | some row =>
      if agg then (match (row.drop off).take n with
        | cs => if Nat.beq cs.length n then vV n0 (.one ⟨true, cs⟩) else .stuck)
      else match row[off]? with
        | some c => vC n0 c
        | none => .stuck
    | none => .stuck
  | _, _ => .stuck
def fieldAddrX (cx : Cx) (n0 : Nat) (s : TypeId) (c : SC) (f : Nat) : OR :=
  match c, cx.P.underlying s with
  | .ptr id off, some (.struct fs) =>
    match fs[f]? with
    | some fld => match tyx cx.P fld.type with
      | some (_, n) => if Nat.beq n 0 then .stuck else vC n0 (.ptr id (off + fld.offset))
      | none => .stuck
    | none => .stuck
  | _, _ => .stuck
def fieldX (cx : Cx) (n0 : Nat) (s : TypeId) (v : SV) (f : Nat) : OR :=
  match v, cx.P.underlying s with
  | .one ⟨true, cs⟩, some (.struct fs) =>
    match fs[f]? with
    | some fld => match tyx cx.P fld.type with
      | some (true, n) => vV n0 (.one ⟨true, (cs.drop fld.offset).take n⟩)
      | some (false, _) => match cs[fld.offset]? with
        | some c => vC n0 c
        | none => .stuck
      | none => .stuck
    | none => .stuck
  | _, _ => .stuck
def indexAddrX (cx : Cx) (n0 : Nat) (t : TypeId) (c : SC) (i : E) : OR :=
  match c, cx.P.underlying t, i with
  | .slc id off len _, some (.slice e), .int _ (.ofNat j) =>
    match tyx cx.P e with
    | some (_, n) => if Nat.blt j len then vC n0 (.ptr id (off + j * n)) else .stuck
    | none => .stuck
  | .sla id off len _, some (.slice e), .int _ (.ofNat j) =>
    match tyx cx.P e with
    | some (_, n) => if Nat.blt j len then vC n0 (.ptr id (off + j * n)) else .stuck
    | none => .stuck
  | .ptr id off, some (.array len e), .int _ (.ofNat j) =>
    match tyx cx.P e with
    | some (_, n) => if Nat.blt j len then vC n0 (.ptr id (off + j * n)) else .stuck
    | none => .stuck
  | .gad g off, some (.array len e), .int _ (.ofNat j) =>
    match tyx cx.P e with
    | some (_, n) => if Nat.blt j len then vC n0 (.gad g (off + j * n)) else .stuck
    | none => .stuck
  | _, _, _ => .stuck
def litN : Option E → Option (Option Nat)
  | none => some none
  | some (.int _ (.ofNat n)) => some (some n)
  | some _ => none
/-- [l:h:m] of a slice whose capacity is known. -/
def cutK (n0 id off len cap n : Nat) (l h m : Option Nat) : OR :=
  match m, h with
  | none, h => cutK2 (h.getD len) (l.getD 0)
  | some m, some h => cutK3 m h (l.getD 0)
  | _, _ => .stuck
 where
  cutK2 (h l : Nat) : OR := if Nat.ble h cap && Nat.ble l h then vC n0 (.slc id (if Nat.beq cap l then off else off + l * n) (h - l) (cap - l)) else .stuck
  cutK3 (m h l : Nat) : OR := if Nat.ble m cap && Nat.ble h m && Nat.ble l h then vC n0 (.slc id (if Nat.beq m l then off else off + l * n) (h - l) (m - l)) else .stuck
/-- The same of one whose capacity is not known. -/
def cutU (n0 id off len sz n : Nat) (l h m : Option Nat) : OR :=
  match m, h with
  | none, h => cutU2 (h.getD len) (l.getD 0)
  | some m, some h => cutU3 m h (l.getD 0)
  | _, _ => .stuck
 where
  cutU2 (h l : Nat) : OR := if Nat.ble h len && Nat.blt l h && Nat.beq sz n then vC n0 (.sla id (off + l * n) (h - l) sz)
      else if Nat.ble h len && Nat.beq l 0 && Nat.blt 0 len then vC n0 (.sla id off h sz) else if Nat.ble h len && Nat.beq l h then vC n0 .nul else .stuck
  cutU3 (m h l : Nat) : OR := if Nat.ble m len && Nat.ble h m && Nat.ble l h then vC n0 (.slc id (if Nat.beq m l then off else off + l * n) (h - l) (m - l)) else .stuck
def sliceX (cx : Cx) (n0 : Nat) (t : TypeId) (c : SC) (lo hi mx : Option E) : OR :=
  match litN lo, litN hi, litN mx with
  | some l, some h, some m =>
    match c, cx.P.underlying t with
    | .slc id off len cap, some (.slice e) =>
      match tyx cx.P e with
      | some (_, n) => cutK n0 id off len cap n l h m
      | none => .stuck
    | .sla id off len sz, some (.slice e) =>
      match tyx cx.P e with
      | some (_, n) => cutU n0 id off len sz n l h m
      | none => .stuck
    | .ptr id off, some (.array k e) =>
      match tyx cx.P e with
      | some (_, n) => cutK n0 id off k k n l h m
      | none => .stuck
    | _, _ => .stuck
  | _, _, _ => .stuck
def extractX (n0 : Nat) (v : SV) (i : Nat) : OR :=
  match v with
  | .tup ps => match ps[i]? with
    | some p => vV n0 (.one p)
    | none => .stuck
  | _ => .stuck
def lenX (cx : Cx) (n0 : Nat) (t : TypeId) (c : SC) : OR :=
  match c, cx.P.underlying t with
  | .slc _ _ len _, some (.slice _) => vE n0 (.int .i64 (Int.ofNat len))
  | .sla _ _ len _, some (.slice _) => vE n0 (.int .i64 (Int.ofNat len))
  | .e (.val (.slice none 0 0)), some (.slice _) => vE n0 (.int .i64 0)
  | .e x, some .string => match cx.so x with
    | .str => vE n0 (mkLen x)
    | _ => .stuck
  | _, _ => .stuck
/-- Is it nil: of an address, of a slice. -/
def nilX (cx : Cx) (t : TypeId) (x y : SC) : Option Bool :=
  match cx.P.underlying t, x, y with
  | some (.pointer _), .ptr _ _, .e (.val (.pointer none)) => some false
  | some (.pointer _), .e (.val (.pointer none)), .e (.val (.pointer none)) => some true
  | some (.slice _), .slc _ _ _ _, .e (.val (.slice none 0 0)) => some false
  | some (.slice _), .sla _ _ _ _, .e (.val (.slice none 0 0)) => some false
  | some (.slice _), .e (.val (.slice none 0 0)), .e (.val (.slice none 0 0)) => some true
  | _, _, _ => none
def nilOpX (cx : Cx) (n0 : Nat) (t : TypeId) (op : BinOp) (x y : SC) : OR :=
  match nilX cx t x y, op with
  | some b, .eql => vE n0 (.bool b)
  | some b, .neq => vE n0 (.bool !b)
  | _, _ => .stuck

/-- What reads only. -/
def Reads (ρ : Nat → Value) (φ : Nat → List Value → List Value) (β : Bk) (P : Program) (w : World) (n0 : Nat) (d : Out) (s : Sem Value) : Prop :=
  d.dl = [] ∧ d.next = n0 ∧ ∃ x, s.run P w = .ok x w ∧ d.v.is ρ φ β x

section
variable {ρ : Nat → Value} {φ : Nat → List Value → List Value} {cx : Cx} {fx : Fx} {L : LK} {B : BK} {β : Bk} {a : Act} {w : World} {n0 : Nat}
theorem vE_ok {x : E} {d : Out} (h : vE n0 x = .ok d) : d = ⟨.one ⟨false, [.e x]⟩, [], n0⟩ := by
  unfold vE at h
  simp only [OR.ok.injEq] at h
  exact h.symm
theorem vC_ok {c : SC} {d : Out} (h : vC n0 c = .ok d) : d = ⟨.one ⟨false, [c]⟩, [], n0⟩ := by
  unfold vC at h
  simp only [OR.ok.injEq] at h
  exact h.symm
theorem vV_ok {s : SV} {d : Out} (h : vV n0 s = .ok d) : d = ⟨s, [], n0⟩ := by
  unfold vV at h
  simp only [OR.ok.injEq] at h
  exact h.symm
theorem opd_is (H : M ρ φ fx L B β a w) {x : Operand} {s : SV} (h : opd L x = some s) : s.is ρ φ β (a.eval x) := by
  cases x with
  | tmp t =>
    obtain ⟨v, hv, hs⟩ := H.tmps t s h
    simp only [Act.eval, Array.getD_eq_getD_getElem?, hv, Option.getD_some]
    exact hs
  | const v => simp only [opd, Option.some.injEq] at h; subst h; exact constSV_is v
  | global g => simp only [opd, Option.some.injEq] at h; subst h; rfl
  | func f => simp only [opd, Option.some.injEq] at h; subst h; exact ⟨[], [], rfl, trivial, trivial⟩
theorem exIs (H : M ρ φ fx L B β a w) {x : Operand} {e : E} (h : (opd L x).bind SV.ex = some e) : a.eval x = e.den ρ φ := by
  simp only [Option.bind_eq_some_iff] at h
  obtain ⟨s, hs, he⟩ := h
  exact SV.ex_is he (opd_is H hs)
theorem scIs (H : M ρ φ fx L B β a w) {x : Operand} {c : SC} (h : (opd L x).bind SV.sc = some c) : c.is ρ φ β (a.eval x) := by
  simp only [Option.bind_eq_some_iff] at h
  obtain ⟨s, hs, he⟩ := h
  exact SV.sc_is he (opd_is H hs)
theorem does_reads (H : M ρ φ fx L B β a w) {o : Oper} {d : Out} {s : Sem Value} (hr : Reads ρ φ β cx.P w n0 d s) (ho : (execOp a.eval o) = (do pure (.value (← s)))) :
    Does ρ φ cx.P fx B o a w β n0 d := by
  obtain ⟨h1, h2, x, hx, hv⟩ := hr
  obtain ⟨v, dl, nx⟩ := d
  simp only at h1 h2
  subst h1 h2
  exact does_val H.wld (by rw [ho]; simp [hx]) hv
theorem ofX_ok {r : SX.OR} {d : Out} (h : ofX n0 r = .ok d) : ∃ z d0, r = .ok d0 ∧ d0.v = .one ⟨false, [.e z]⟩ ∧ d = ⟨.one ⟨false, [.e z]⟩, [], n0⟩ := by
  unfold ofX at h
  split at h
  · rename_i d0
    split at h
    · rename_i z hz
      exact ⟨z, d0, rfl, hz, vE_ok h⟩
    · exact absurd h (by simp)
  · exact absurd h (by simp)
  · exact absurd h (by simp)
/-- What SX's own operations say of terms holds here. -/
theorem ofX_reads {r : SX.OR} {d : Out} {s : Sem Value} (h : ofX n0 r = .ok d) (hr : ∀ d0, r = .ok d0 → ∃ x, s.run cx.P w = .ok x w ∧ d0.v.is ρ φ (fun _ => none) x) : Reads ρ φ β cx.P w n0 d s := by
  obtain ⟨z, d0, h1, h2, rfl⟩ := ofX_ok h
  obtain ⟨x, hx, hv⟩ := hr d0 h1
  rw [h2] at hv
  exact ⟨rfl, rfl, x, hx, hv⟩
theorem toX_is : ∀ {cs : List SC} {ds : List SX.SC}, toX cs = some ds → ∀ {vs : List Value}, All2 (SC.is ρ φ β) cs vs → All2 (SX.SC.is ρ φ fun _ => none) ds vs
  | [], ds, h, vs, ha => by simp only [toX, Option.some.injEq] at h; subst h; cases vs with | nil => trivial | cons _ _ => exact ha.elim
  | .e x :: cs, ds, h, vs, ha => by
    simp only [toX, Option.map_eq_some_iff] at h
    obtain ⟨ds', hd, rfl⟩ := h
    cases vs with
    | nil => exact ha.elim
    | cons v vs => exact ⟨ha.1, toX_is hd ha.2⟩
  | .any :: _, _, h, _, _ => by simp [toX] at h
  | .ptr _ _ :: _, _, h, _, _ => by simp [toX] at h
  | .slc _ _ _ _ :: _, _, h, _, _ => by simp [toX] at h
  | .sla _ _ _ _ :: _, _, h, _, _ => by simp [toX] at h
  | .vad _ _ _ _ :: _, _, h, _, _ => by simp [toX] at h
  | .vsl _ _ :: _, _, h, _, _ => by simp [toX] at h
  | .nul :: _, _, h, _, _ => by simp [toX] at h
theorem partX_is {p : Part} {q : SX.Part} (h : partX p = some q) {v : Value} (hp : p.is ρ φ β v) : (SX.SV.one q).is ρ φ (fun _ => none) v := by
  unfold partX at h
  simp only [Option.map_eq_some_iff] at h
  obtain ⟨ds, hd, rfl⟩ := h
  obtain ⟨agg, cs⟩ := p
  cases agg with
  | true =>
    obtain ⟨vs, rfl, ha⟩ := hp
    exact ⟨vs, rfl, toX_is hd ha⟩
  | false =>
    match cs, hp, hd with
    | [c], hp, hd =>
      have hp : c.is ρ φ β v := hp
      have := toX_is (vs := [v]) hd ⟨hp, trivial⟩
      match ds, this with
      | [e], this => exact this.1

theorem loadX_run (H : M ρ φ fx L B β a w) {t : TypeId} {c : SC} {d : Out} {v : Value} (h : loadX cx B n0 t c = .ok d) (hc : c.is ρ φ β v) :
    Reads ρ φ β cx.P w n0 d (Instr.loadAt t v) := by
  unfold loadX at h
  split at h
  · rename_i id off agg n ht
    obtain ⟨b, n', hb, rfl⟩ := hc
    have htr := tyx_run ht
    split at h
    · rename_i row hr
      obtain ⟨hr, hI⟩ := rowB_spec hr
      obtain ⟨arr, T, h1, h2, h3, h4, h5⟩ := H.wld.rows hr hI hb
      have hcell : ∀ o, w.cell? ⟨b, o, none⟩ = arr[o]? := fun o => by simp [World.cell?, h2]
      split at h
      · rename_i hagg
        subst hagg
        simp only at h
        split at h
        · rename_i hn
          have hn := Nat.eq_of_beq_eq_true hn
          have := vV_ok h
          subst this
          have hall := (h5.drop off).take n
          refine ⟨rfl, rfl, .agg (((arr.toList.take row.length).drop off).take n).toArray, ?_, _, rfl, hall⟩
          have hl := run_loadCells_list (P := cx.P) w ⟨b, off, none⟩ (((arr.toList.take row.length).drop off).take n) (fun j u hj => by
            rw [Addr.add_lit, hcell]
            rw [List.getElem?_take] at hj
            split at hj
            · rw [List.getElem?_drop, List.getElem?_take] at hj
              split at hj
              · simpa using hj
              · simp at hj
            · simp at hj)
          rw [← hall.length, hn] at hl
          simp [Instr.loadAt, Instr.sureAddr, loadVar, htr, hl]
        · exact absurd h (by simp)
      · rename_i hagg
        have hagg : agg = false := by simpa using hagg
        subst hagg
        split at h
        · rename_i c hrow
          have := vC_ok h
          subst this
          obtain ⟨u, hu, hcu⟩ := h5.get hrow
          have hu' : arr[off]? = some u := by
            rw [List.getElem?_take] at hu
            split at hu
            · simpa using hu
            · simp at hu
          refine ⟨rfl, rfl, u, ?_, hcu⟩
          simp [Instr.loadAt, Instr.sureAddr, loadVar, htr, hcell, hu']
        · exact absurd h (by simp)
    · exact absurd h (by simp)
  · exact absurd h (by simp)

theorem fieldAddrX_run {s : TypeId} {c : SC} {f : Nat} {d : Out} {v : Value} (h : fieldAddrX cx n0 s c f = .ok d) (hc : c.is ρ φ β v) :
    Reads ρ φ β cx.P w n0 d (Instr.fieldAt s v f) := by
  unfold fieldAddrX at h
  split at h
  · rename_i id off fs hu
    obtain ⟨b, n', hb, rfl⟩ := hc
    split at h
    · rename_i fld hfld
      split at h
      · rename_i ag n ht
        split at h
        · exact absurd h (by simp)
        · rename_i hn
          have hn : n ≠ 0 := by
            intro e; subst e; simp at hn
          have := vC_ok h
          subst this
          refine ⟨rfl, rfl, .pointer (some ⟨b, off + fld.offset, none⟩), ?_, b, n', hb, rfl⟩
          simp [Instr.fieldAt, run_underlying hu, hfld, Instr.sureAddr, fieldPlace, (tyx_run ht _).2, hn, Addr.add_lit]
      · exact absurd h (by simp)
    · exact absurd h (by simp)
  · exact absurd h (by simp)

theorem fieldX_run {s : TypeId} {v : SV} {f : Nat} {d : Out} {x : Value} (h : fieldX cx n0 s v f = .ok d) (hv : v.is ρ φ β x) :
    Reads ρ φ β cx.P w n0 d (Instr.field s x f) := by
  unfold fieldX at h
  split at h
  · rename_i cs fs hu
    obtain ⟨vs, rfl, ha⟩ := hv
    split at h
    · rename_i fld hfld
      split at h
      · rename_i n ht
        have := vV_ok h
        subst this
        refine ⟨rfl, rfl, .agg ((vs.drop fld.offset).take n).toArray, ?_, _, rfl, (ha.drop _).take n⟩
        simp only [Instr.field, Sem.run_bind, run_underlying hu, Result.andThen_ok, hfld, asAgg, Sem.run_pure, part, (tyx_run ht _).1, if_true, (tyx_run ht _).2]
        congr 2
        apply Array.ext'
        simp [List.take_drop, Nat.add_sub_cancel_left]
      · rename_i n ht
        split at h
        · rename_i c hc
          have := vC_ok h
          subst this
          obtain ⟨u, hu', hcu⟩ := ha.get hc
          refine ⟨rfl, rfl, u, ?_, hcu⟩
          simp [Instr.field, run_underlying hu, hfld, asAgg, part, (tyx_run ht _).1, hu']
        · exact absurd h (by simp)
      · exact absurd h (by simp)
    · exact absurd h (by simp)
  · exact absurd h (by simp)

theorem blt_lt {a b : Nat} (h : Nat.blt a b = true) : a < b := by unfold Nat.blt at h; exact Nat.lt_of_succ_le (Nat.le_of_ble_eq_true h)

theorem indexAddrX_run {t : TypeId} {c : SC} {i : E} {d : Out} {v : Value} (h : indexAddrX cx n0 t c i = .ok d) (hc : c.is ρ φ β v) :
    Reads ρ φ β cx.P w n0 d (Instr.indexAt t v (i.den ρ φ)) := by
  unfold indexAddrX at h
  split at h
  · rename_i id off len cap e k j hu
    obtain ⟨b, n', hb, rfl⟩ := hc
    split at h
    · rename_i ag n ht
      split at h
      · rename_i hj
        have hj := blt_lt hj
        have := vC_ok h
        subst this
        refine ⟨rfl, rfl, .pointer (some ⟨b, off + j * n, none⟩), ?_, b, n', hb, rfl⟩
        simp only [E.den, Instr.indexAt, Sem.run_bind, run_underlying hu, Result.andThen_ok, asIntOf, Sem.run_pure]
        simp [Addr.add_lit, hj, (tyx_run ht _).2]
      · exact absurd h (by simp)
    · exact absurd h (by simp)
  · rename_i id off len sz e k j hu
    obtain ⟨b, n', cap, hb, rfl, _⟩ := hc
    split at h
    · rename_i ag n ht
      split at h
      · rename_i hj
        have hj := blt_lt hj
        have := vC_ok h
        subst this
        refine ⟨rfl, rfl, .pointer (some ⟨b, off + j * n, none⟩), ?_, b, n', hb, rfl⟩
        simp only [E.den, Instr.indexAt, Sem.run_bind, run_underlying hu, Result.andThen_ok, asIntOf, Sem.run_pure]
        simp [Addr.add_lit, hj, (tyx_run ht _).2]
      · exact absurd h (by simp)
    · exact absurd h (by simp)
  · rename_i id off len e k j hu
    obtain ⟨b, n', hb, rfl⟩ := hc
    split at h
    · rename_i ag n ht
      split at h
      · rename_i hj
        have hj := blt_lt hj
        have := vC_ok h
        subst this
        refine ⟨rfl, rfl, .pointer (some ⟨b, off + j * n, none⟩), ?_, b, n', hb, rfl⟩
        simp only [E.den, Instr.indexAt, Sem.run_bind, run_underlying hu, Result.andThen_ok, asIntOf, Sem.run_pure]
        simp [Addr.add_lit, hj, Instr.sureAddr, (tyx_run ht _).2]
      · exact absurd h (by simp)
    · exact absurd h (by simp)
  · rename_i g off len e k j hu
    have hc : v = _ := hc
    subst hc
    split at h
    · rename_i ag n ht
      split at h
      · rename_i hj
        have hj := blt_lt hj
        have := vC_ok h
        subst this
        refine ⟨rfl, rfl, .pointer (some ⟨g, off + j * n, none⟩), ?_, rfl⟩
        simp only [E.den, Instr.indexAt, Sem.run_bind, run_underlying hu, Result.andThen_ok, asIntOf, Sem.run_pure]
        simp [Addr.add_lit, hj, Instr.sureAddr, (tyx_run ht _).2]
      · exact absurd h (by simp)
    · exact absurd h (by simp)
  · exact absurd h (by simp)

theorem litN_is {e : Option E} {n : Option Nat} (h : litN e = some n) : ∃ k : Nat → IntKind, e.map (·.den ρ φ) = n.map fun m => .int (k m) (Int.ofNat m) := by
  unfold litN at h
  split at h
  · simp only [Option.some.injEq] at h; subst h; exact ⟨fun _ => .i64, rfl⟩
  · rename_i k m
    simp only [Option.some.injEq] at h; subst h; exact ⟨fun _ => k, rfl⟩
  · exact absurd h (by simp)

theorem bound_opt {n : Option Nat} {k : Nat → IntKind} {y dflt : Nat} (code : BoundsCode) (h : n.getD dflt ≤ y) (s : Sem Nat) (hs : s.run cx.P w = .ok dflt w) : (match n.map (fun m => Value.int (k m) (Int.ofNat m)) with
    | some v => Instr.sliceBound v y code | none => s : Sem Nat).run cx.P w = .ok (n.getD dflt) w := by
  cases n with
  | none => exact hs
  | some m => exact SX.bound_ok code h

theorem beq_if {x y : Nat} {α : Type} (p q : α) : (if Nat.beq x y then p else q) = if x = y then p else q := by
  by_cases e : x = y
  · subst e; simp
  · have : Nat.beq x y = false := by
      cases hq : Nat.beq x y with
      | false => rfl
      | true => exact absurd (Nat.eq_of_beq_eq_true hq) e
    simp [e, this]

section
variable {lo hi mx : Option E} {l h m : Option Nat}
theorem bounds2 (hl : litN lo = some l) (hh : litN hi = some h) (s : Bool) (len cap : Nat) (h1 : h.getD len ≤ cap) (h2 : l.getD 0 ≤ h.getD len) :
    (Instr.sliceBounds s len cap (lo.map (·.den ρ φ)) (hi.map (·.den ρ φ)) none).run cx.P w = .ok (l.getD 0, h.getD len, cap) w := by
  obtain ⟨k1, e1⟩ := litN_is (ρ := ρ) (φ := φ) hl
  obtain ⟨k2, e2⟩ := litN_is (ρ := ρ) (φ := φ) hh
  rw [e1, e2]
  cases h <;> cases l <;> simp only [Option.getD_some, Option.getD_none] at h1 h2 ⊢ <;> simp only [Instr.sliceBounds, Option.map_some, Option.map_none, Sem.run_bind, Sem.run_pure, Result.andThen_ok, SX.bound_ok _ h1, SX.bound_ok _ h2]
theorem bounds3 {h m : Nat} (hl : litN lo = some l) (hh : litN hi = some (some h)) (hm : litN mx = some (some m)) (s : Bool) (len cap : Nat) (h0 : m ≤ cap) (h1 : h ≤ m) (h2 : l.getD 0 ≤ h) :
    (Instr.sliceBounds s len cap (lo.map (·.den ρ φ)) (hi.map (·.den ρ φ)) (mx.map (·.den ρ φ))).run cx.P w = .ok (l.getD 0, h, m) w := by
  obtain ⟨k1, e1⟩ := litN_is (ρ := ρ) (φ := φ) hl
  obtain ⟨k2, e2⟩ := litN_is (ρ := ρ) (φ := φ) hh
  obtain ⟨k3, e3⟩ := litN_is (ρ := ρ) (φ := φ) hm
  rw [e1, e2, e3]
  cases l <;> simp only [Option.getD_some, Option.getD_none] at h2 ⊢ <;> simp only [Instr.sliceBounds, Option.map_some, Option.map_none, Sem.run_bind, Sem.run_pure, Result.andThen_ok, SX.bound_ok _ h0, SX.bound_ok _ h1, SX.bound_ok _ h2]

theorem litN_none (hm : litN mx = some none) : mx = none := by
  unfold litN at hm
  split at hm <;> simp_all

theorem cutK_run {t : TypeId} {id off len cap n b n' : Nat} {d : Out} (hb : β id = some (b, n')) (hl : litN lo = some l) (hh : litN hi = some h) (hm : litN mx = some m) (hc : cutK n0 id off len cap n l h m = .ok d) (s : Bool) (v : Value)
    (hs : ∀ r : Nat × Nat × Nat, (Instr.sliceBounds s len cap (lo.map (·.den ρ φ)) (hi.map (·.den ρ φ)) (mx.map (·.den ρ φ))).run cx.P w = .ok r w →
      (Instr.sliceAt t v (lo.map (·.den ρ φ)) (hi.map (·.den ρ φ)) (mx.map (·.den ρ φ))).run cx.P w = .ok (.slice (some (if r.2.2 = r.1 then ⟨b, off, none⟩ else ⟨b, off + r.1 * n, none⟩)) (r.2.1 - r.1) (r.2.2 - r.1)) w) :
    Reads ρ φ β cx.P w n0 d (Instr.sliceAt t v (lo.map (·.den ρ φ)) (hi.map (·.den ρ φ)) (mx.map (·.den ρ φ))) := by
  unfold cutK at hc
  split at hc
  · unfold cutK.cutK2 at hc
    split at hc
    · rename_i hcond
      rw [Bool.and_eq_true] at hcond
      have h1 := Nat.le_of_ble_eq_true hcond.1
      have h2 := Nat.le_of_ble_eq_true hcond.2
      have := vC_ok hc
      subst this
      have := litN_none hm
      subst this
      refine ⟨rfl, rfl, _, hs _ (bounds2 hl hh s len cap h1 h2), b, n', hb, ?_⟩
      rw [beq_if]
      simp only
      split <;> rfl
    · exact absurd hc (by simp)
  · unfold cutK.cutK3 at hc
    split at hc
    · rename_i hcond
      rw [Bool.and_eq_true, Bool.and_eq_true] at hcond
      have h0 := Nat.le_of_ble_eq_true hcond.1.1
      have h1 := Nat.le_of_ble_eq_true hcond.1.2
      have h2 := Nat.le_of_ble_eq_true hcond.2
      have := vC_ok hc
      subst this
      refine ⟨rfl, rfl, _, hs _ (bounds3 hl hh hm s len cap h0 h1 h2), b, n', hb, ?_⟩
      rw [beq_if]
      simp only
      split <;> rfl
    · exact absurd hc (by simp)
  · exact absurd hc (by simp)
theorem cutU_run {t : TypeId} {id off len cap sz n b n' : Nat} {d : Out} (hb : β id = some (b, n')) (hlc : len ≤ cap) (hcm : cap ≤ maxLen) (hfit : off + cap * sz ≤ n') (hl : litN lo = some l) (hh : litN hi = some h) (hm : litN mx = some m) (hc : cutU n0 id off len sz n l h m = .ok d) (v : Value)
    (hs : ∀ r : Nat × Nat × Nat, (Instr.sliceBounds true len cap (lo.map (·.den ρ φ)) (hi.map (·.den ρ φ)) (mx.map (·.den ρ φ))).run cx.P w = .ok r w →
      (Instr.sliceAt t v (lo.map (·.den ρ φ)) (hi.map (·.den ρ φ)) (mx.map (·.den ρ φ))).run cx.P w = .ok (.slice (some (if r.2.2 = r.1 then ⟨b, off, none⟩ else ⟨b, off + r.1 * n, none⟩)) (r.2.1 - r.1) (r.2.2 - r.1)) w) :
    Reads ρ φ β cx.P w n0 d (Instr.sliceAt t v (lo.map (·.den ρ φ)) (hi.map (·.den ρ φ)) (mx.map (·.den ρ φ))) := by
  unfold cutU at hc
  split at hc
  · unfold cutU.cutU2 at hc
    split at hc
    · rename_i hcond
      rw [Bool.and_eq_true, Bool.and_eq_true] at hcond
      have h1 := Nat.le_of_ble_eq_true hcond.1.1
      have h2 := blt_lt hcond.1.2
      have h3 := Nat.eq_of_beq_eq_true hcond.2
      subst h3
      have := vC_ok hc
      subst this
      have := litN_none hm
      subst this
      refine ⟨rfl, rfl, _, hs _ (bounds2 hl hh true len cap (by omega) (by omega)), b, n', cap - l.getD 0, hb, ?_, by omega, by omega, ?_⟩
      · simp only
        rw [if_neg (by omega)]
      · have : l.getD 0 * sz + (cap - l.getD 0) * sz = cap * sz := by rw [← Nat.add_mul]; congr 1; omega
        omega
    · split at hc
      · rename_i hcond
        rw [Bool.and_eq_true, Bool.and_eq_true] at hcond
        have h1 := Nat.le_of_ble_eq_true hcond.1.1
        have h2 := Nat.eq_of_beq_eq_true hcond.1.2
        have h3 := blt_lt hcond.2
        have := vC_ok hc
        subst this
        have := litN_none hm
        subst this
        refine ⟨rfl, rfl, _, hs _ (bounds2 hl hh true len cap (by omega) (by omega)), b, n', cap, hb, ?_, by omega, by omega, hfit⟩
        simp only [h2]
        rw [if_neg (by omega)]
        simp
      · split at hc
        · rename_i hcond
          rw [Bool.and_eq_true] at hcond
          have h1 := Nat.le_of_ble_eq_true hcond.1
          have h2 := Nat.eq_of_beq_eq_true hcond.2
          have := vC_ok hc
          subst this
          have := litN_none hm
          subst this
          refine ⟨rfl, rfl, _, hs _ (bounds2 hl hh true len cap (by omega) (by omega)), some (if cap = l.getD 0 then ⟨b, off, none⟩ else ⟨b, off + l.getD 0 * n, none⟩), cap - l.getD 0, ?_⟩
          have : h.getD len - l.getD 0 = 0 := by omega
          simp only [this]
        · exact absurd hc (by simp)
  · unfold cutU.cutU3 at hc
    split at hc
    · rename_i hcond
      rw [Bool.and_eq_true, Bool.and_eq_true] at hcond
      have h0 := Nat.le_of_ble_eq_true hcond.1.1
      have h1 := Nat.le_of_ble_eq_true hcond.1.2
      have h2 := Nat.le_of_ble_eq_true hcond.2
      have := vC_ok hc
      subst this
      refine ⟨rfl, rfl, _, hs _ (bounds3 hl hh hm true len cap (by omega) h1 h2), b, n', hb, ?_⟩
      rw [beq_if]
      simp only
      split <;> rfl
    · exact absurd hc (by simp)
  · exact absurd hc (by simp)
end
theorem sliceX_run {t : TypeId} {c : SC} {lo hi mx : Option E} {d : Out} {v : Value} (h : sliceX cx n0 t c lo hi mx = .ok d) (hc : c.is ρ φ β v) :
    Reads ρ φ β cx.P w n0 d (Instr.sliceAt t v (lo.map (·.den ρ φ)) (hi.map (·.den ρ φ)) (mx.map (·.den ρ φ))) := by
  unfold sliceX at h
  split at h
  · rename_i l hh m hl hhi hm
    split at h
    · rename_i id off len cap e hu
      obtain ⟨b, n', hb, rfl⟩ := hc
      split at h
      · rename_i ag n ht
        refine cutK_run hb hl hhi hm h true _ fun r hr => ?_
        simp only [Instr.sliceAt, Instr.slice, Sem.run_bind, run_underlying hu, Result.andThen_ok, hr, (tyx_run ht _).2, Sem.run_pure]
        simp only [Option.map_some, Addr.add_lit]
        split <;> rfl
      · exact absurd h (by simp)
    · rename_i id off len sz e hu
      obtain ⟨b, n', cap, hb, rfl, h1, h2, h3⟩ := hc
      split at h
      · rename_i ag n ht
        refine cutU_run hb h1 h2 h3 hl hhi hm h _ fun r hr => ?_
        simp only [Instr.sliceAt, Instr.slice, Sem.run_bind, run_underlying hu, Result.andThen_ok, hr, (tyx_run ht _).2, Sem.run_pure]
        simp only [Option.map_some, Addr.add_lit]
        split <;> rfl
      · exact absurd h (by simp)
    · rename_i id off k e hu
      obtain ⟨b, n', hb, rfl⟩ := hc
      split at h
      · rename_i ag n ht
        refine cutK_run hb hl hhi hm h false _ fun r hr => ?_
        simp only [Instr.sliceAt, Instr.sureAddr, Sem.run_bind, run_underlying hu, Result.andThen_ok, hr, (tyx_run ht _).2, Sem.run_pure]
        simp only [Addr.add_lit]
      · exact absurd h (by simp)
    · exact absurd h (by simp)
  · exact absurd h (by simp)

theorem eq_slice_nil0 (w : World) (d : Nat) (t e : TypeId) (a : Option Addr) (l c : Nat) (h : cx.P.underlying t = some (.slice e)) : (Op.equalIn (d + 1) t (.slice a l c) (.slice none 0 0)).run cx.P w = .ok a.isNone w := by
  cases a <;> simp [Op.equalIn, run_underlying h]
theorem eq_slice_nil (w : World) (t e : TypeId) (a : Option Addr) (l c : Nat) (h : cx.P.underlying t = some (.slice e)) : (Op.equal t (.slice a l c) (.slice none 0 0)).run cx.P w = .ok a.isNone w :=
  eq_slice_nil0 w 9999 t e a l c h
theorem nilX_run {t : TypeId} {x y : SC} {r : Bool} {u v : Value} (h : nilX cx t x y = some r) (hx : x.is ρ φ β u) (hy : y.is ρ φ β v) :
    (Op.equal t u v).run cx.P w = .ok r w ∧ (∀ op X Y, eqGuard op t X Y u v = pure ()) ∧ binOp .eql t u v = (do pure (.bool (← Op.equal t u v))) ∧ binOp .neq t u v = (do pure (.bool (!(← Op.equal t u v)))) := by
  unfold nilX at h
  split at h
  · rename_i e id off hu
    obtain ⟨b, n', hb, rfl⟩ := hx
    have hy : v = _ := hy
    subst hy
    simp only [Option.some.injEq] at h
    subst h
    exact ⟨run_equal_pointer_nil w t _ (by simp [Program.pointee, hu]), fun op X Y => eqGuard_at_pointer .., rfl, rfl⟩
  · rename_i e hu
    have hy : v = _ := hy
    have hx : u = _ := hx
    subst hy hx
    simp only [Option.some.injEq] at h
    subst h
    exact ⟨run_equal_pointer_nil w t _ (by simp [Program.pointee, hu]), fun op X Y => eqGuard_at_pointer .., rfl, rfl⟩
  · rename_i e id off len cap hu
    obtain ⟨b, n', hb, rfl⟩ := hx
    have hy : v = _ := hy
    subst hy
    simp only [Option.some.injEq] at h
    subst h
    exact ⟨eq_slice_nil w t e _ _ _ hu, fun op X Y => eqGuard_at_slice .., rfl, rfl⟩
  · rename_i e id off len sz hu
    obtain ⟨b, n', cap, hb, rfl, _⟩ := hx
    have hy : v = _ := hy
    subst hy
    simp only [Option.some.injEq] at h
    subst h
    exact ⟨eq_slice_nil w t e _ _ _ hu, fun op X Y => eqGuard_at_slice .., rfl, rfl⟩
  · rename_i e hu
    have hy : v = _ := hy
    have hx : u = _ := hx
    subst hy hx
    simp only [Option.some.injEq] at h
    subst h
    exact ⟨eq_slice_nil w t e _ _ _ hu, fun op X Y => eqGuard_at_slice .., rfl, rfl⟩
  · exact absurd h (by simp)
theorem nilOpX_run {op : BinOp} {t : TypeId} {x y : SC} {d : Out} {u v : Value} (h : nilOpX cx n0 t op x y = .ok d) (hx : x.is ρ φ β u) (hy : y.is ρ φ β v) (X Y : Operand) :
    Reads ρ φ β cx.P w n0 d (do eqGuard op t X Y u v; binOp op t u v) := by
  unfold nilOpX at h
  split at h
  · rename_i r hr
    obtain ⟨h1, h2, h3, h4⟩ := nilX_run (w := w) hr hx hy
    have := vE_ok h
    subst this
    refine ⟨rfl, rfl, .bool r, ?_, rfl⟩
    rw [h2, h3]
    simp [h1]
  · rename_i r hr
    obtain ⟨h1, h2, h3, h4⟩ := nilX_run (w := w) hr hx hy
    have := vE_ok h
    subst this
    refine ⟨rfl, rfl, .bool !r, ?_, rfl⟩
    rw [h2, h4]
    simp [h1]
  · exact absurd h (by simp)

theorem extractX_run {v : SV} {i : Nat} {d : Out} {x : Value} (h : extractX n0 v i = .ok d) (hv : v.is ρ φ β x) : Reads ρ φ β cx.P w n0 d (Instr.extract x i) := by
  unfold extractX at h
  split at h
  · rename_i ps
    obtain ⟨vs, rfl, ha⟩ := hv
    split at h
    · rename_i p hp
      have := vV_ok h
      subst this
      obtain ⟨u, hu, hpu⟩ := ha.get hp
      exact ⟨rfl, rfl, u, by simp [Instr.extract, hu], hpu⟩
    · exact absurd h (by simp)
  · exact absurd h (by simp)

theorem lenX_run (F : Fits cx.Γ cx.S ρ φ) {t ty : TypeId} {c : SC} {d : Out} {v : Value} (h : lenX cx n0 t c = .ok d) (hc : c.is ρ φ β v) : Reads ρ φ β cx.P w n0 d (Builtin.len_ #[t] ty #[v]) := by
  unfold lenX at h
  split at h
  · rename_i id off len cap e hu
    have := vE_ok h
    subst this
    obtain ⟨b, n', hb, rfl⟩ := hc
    exact ⟨rfl, rfl, _, by simp [Builtin.len_, run_underlying hu]; rfl, rfl⟩
  · rename_i id off len sz e hu
    have := vE_ok h
    subst this
    obtain ⟨b, n', cap, hb, rfl, _⟩ := hc
    exact ⟨rfl, rfl, _, by simp [Builtin.len_, run_underlying hu]; rfl, rfl⟩
  · rename_i e hu
    have := vE_ok h
    subst this
    have hc : v = _ := hc
    subst hc
    exact ⟨rfl, rfl, _, by simp [Builtin.len_, run_underlying hu, E.den]; rfl, rfl⟩
  · rename_i x hu
    split at h
    · rename_i hx
      have := vE_ok h
      subst this
      obtain ⟨s, hs, hb⟩ := so_strB F hx
      have hc : v = E.den ρ φ x := hc
      rw [hs] at hc
      subst hc
      refine ⟨rfl, rfl, .int .i64 (Int.ofNat s.size), by simp [Builtin.len_, run_underlying hu]; rfl, ?_⟩
      show _ = _
      rw [mkLen_den hs hb]
    · exact absurd h (by simp)
  · exact absurd h (by simp)
end
end Go.CX

/- CX: what makes or turns blocks: new variables, structs, slices; stores; append. -/
namespace Go.CX
open Go Go.RowKit Go.SX

def fillC (place : Nat → Option (Nat × Nat)) (cells : List SC) : List (Nat × List SC) → Option (List SC)
  | [] => some cells
  | (i, v) :: rest =>
    match place i with
    | none => none
    | some (off, size) =>
      if Nat.beq v.length size && Nat.ble (off + v.length) cells.length then fillC place (spl cells off v) rest else none
def opdList (L : LK) : List (Nat × Operand) → Option (List (Nat × List SC))
  | [] => some []
  | (i, x) :: ps => match opd L x with
    | some s => match s.cells, opdList L ps with
      | some cs, some r => some ((i, cs) :: r)
      | _, _ => none
    | none => none
def allocX (cx : Cx) (n0 : Nat) (t : TypeId) : OR :=
  match cx.P.info? t with
  | some i => match i.zero with
    | some z => .ok ⟨.one ⟨false, [.ptr n0 0]⟩, [(n0, some (z.cells.toList.map constSC))], n0 + 1⟩
    | none => .stuck
  | none => .stuck
def boxX (cx : Cx) (n0 : Nat) (v : SV) : OR :=
  match v.cells with
  | some cs => if cs.all (SC.cell cx) then .ok ⟨.one ⟨false, [.ptr n0 0]⟩, [(n0, some cs)], n0 + 1⟩ else .stuck
  | none => .stuck
def zeroCells (cx : Cx) (t : TypeId) : Option (List SC) :=
  match cx.P.info? t with
  | some i => i.zero.map fun z => z.cells.toList.map constSC
  | none => none
def buildX (cx : Cx) (L : LK) (n0 : Nat) (t : TypeId) (parts : List (Nat × Operand)) : OR :=
  match cx.P.underlying t, zeroCells cx t, opdList L parts with
  | some (.struct fs), some z, some ps =>
    if ps.all (fun p => p.2.all (SC.cell cx)) then
      match placesX cx fs.toList with
      | some pl => match fillC (fun i => pl[i]?) z ps with
        | some cs => vV n0 (.one ⟨true, cs⟩)
        | none => .stuck
      | none => .stuck
    else .stuck
  | some (.array _ e), some z, some ps =>
    if ps.all (fun p => p.2.all (SC.cell cx)) then
      match tyx cx.P e with
      | some (_, n) => match fillC (fun i => some (i * n, n)) z ps with
        | some cs => vV n0 (.one ⟨true, cs⟩)
        | none => .stuck
      | none => .stuck
    else .stuck
  | _, _, _ => .stuck
def reps (z : List SC) : Nat → List SC
  | 0 => []
  | n + 1 => z ++ reps z n
def buildSliceX (cx : Cx) (L : LK) (n0 : Nat) (t : TypeId) (len : Nat) (parts : List (Nat × Operand)) : OR :=
  match cx.P.underlying t, opdList L parts with
  | some (.slice e), some ps =>
    match tyx cx.P e, zeroCells cx e with
    | some (_, n), some z =>
      if ps.all (fun p => p.2.all (SC.cell cx)) && Nat.ble (len * n) 16777216 && Nat.beq z.length n && Nat.blt 0 n then
        match fillC (fun i => some (i * n, n)) (reps z len) ps with
        | some cs => if cs.all (SC.cell cx) then .ok ⟨.one ⟨false, [.slc n0 0 len len]⟩, [(n0, some cs)], n0 + 1⟩ else .stuck
        | none => .stuck
      else .stuck
    | _, _ => .stuck
  | _, _ => .stuck
/-- A literal length. -/
def natE : E → Option Nat
  | .int _ (.ofNat n) => some n
  | _ => none
def makeSliceX (cx : Cx) (n0 : Nat) (t : TypeId) (len cap : E) : OR :=
  match cx.P.underlying t, natE len, natE cap with
  | some (.slice e), some l, some c => match cx.P.info? e with
    | some i => match i.zero with
      | some z =>
        if Nat.beq z.cells.size i.size && Nat.blt 0 i.size && Nat.ble l c && Nat.ble (i.bytes * c) 16777216 && Nat.ble c 16777216 && (z.cells.toList.map constSC).all (SC.cell cx) then
          .ok ⟨.one ⟨false, [.slc n0 0 l c]⟩, [(n0, some (reps (z.cells.toList.map constSC) c))], n0 + 1⟩
        else .stuck
      | none => .stuck
    | none => .stuck
  | _, _, _ => .stuck
def storeX (cx : Cx) (B : BK) (n0 : Nat) (t : TypeId) (c : SC) (v : SV) : OR :=
  match c, tyx cx.P t, v.cells with
  | .ptr id off, some (_, n), some cs =>
    match rowB B id with
    | some row => if Nat.beq cs.length n && Nat.ble (off + n) row.length && cs.all (SC.cell cx) then .ok ⟨undefSV, [(id, some (spl row off cs))], n0⟩ else .stuck
    | none => .stuck
  | _, _, _ => .stuck
/-- What a slice's places hold. -/
def srcX (B : BK) (size : Nat) : SC → Option (Nat × List SC)
  | .slc id off m _ => match rowB B id with
    | some row => (match (row.drop off).take (m * size) with | cs => if Nat.beq cs.length (m * size) then some (m, cs) else none)
    | none => none
  | .sla id off m _ => match rowB B id with
    | some row => (match (row.drop off).take (m * size) with | cs => if Nat.beq cs.length (m * size) then some (m, cs) else none)
    | none => none
  | _ => none
def small (len m bytes : Nat) : Bool := Nat.ble (len + m) 1000000000 && Nat.ble ((len + m) * bytes) 140737488355328
def appX (B : BK) (n0 size bytes : Nat) (s : SC) (m : Nat) (news : List SC) : OR :=
  match s with
  | .e (.val (.slice none 0 0)) =>
    if Nat.beq m 0 then vC n0 s else if small 0 m bytes then .ok ⟨.one ⟨false, [.sla n0 0 m size]⟩, [(n0, some news)], n0 + 1⟩ else .stuck
  | .slc id off len cap => match rowB B id with
    | some row =>
      if Nat.ble (len + m) cap then
        (if Nat.ble (off + len * size + news.length) row.length then .ok ⟨.one ⟨false, [.slc id off (len + m) cap]⟩, [(id, some (spl row (off + len * size) news))], n0⟩ else .stuck)
      else (match (row.drop off).take (len * size) with
        | olds => if Nat.beq olds.length (len * size) && small len m bytes && olds.all (fun c => match c with | .any => false | _ => true) then .ok ⟨.one ⟨false, [.sla n0 0 (len + m) size]⟩, [(n0, some (olds ++ news))], n0 + 1⟩ else .stuck)
    | none => .stuck
  | .sla id 0 len sz => match rowB B id with
    | some row => (match row.take (len * size) with
      | olds => if Nat.beq sz size && Nat.beq olds.length (len * size) && small len m bytes && olds.all (fun c => match c with | .any => false | _ => true) then
          .ok ⟨.one ⟨false, [.sla n0 0 (len + m) size]⟩, [(n0, some (olds ++ news)), (id, none)], n0 + 1⟩ else .stuck)
    | none => .stuck
  | _ => .stuck
def appendX (cx : Cx) (B : BK) (n0 : Nat) (t : TypeId) (s x : SC) : OR :=
  match cx.P.underlying t with
  | some (.slice e) => match cx.P.info? e with
    | some i => match i.zero with
      | some z => if Nat.beq z.cells.size i.size && Nat.blt 0 i.size then (match srcX B i.size x with
        | some (m, news) => if news.all (SC.cell cx) then appX B n0 i.size i.bytes s m news else .stuck
        | none => .stuck) else .stuck
      | none => .stuck
    | none => .stuck
  | _ => .stuck

section
variable {ρ : Nat → Value} {φ : Nat → List Value → List Value} {cx : Cx} {fx : Fx} {L : LK} {B : BK} {β : Bk} {a : Act} {w : World} {n0 : Nat}

theorem constSC_ne (v : Value) : constSC v ≠ .any := by
  unfold constSC
  split <;> simp
theorem all_ne {cs : List SC} (h : cs.all (SC.cell cx) = true) : ∀ c ∈ cs, c ≠ .any := fun c hc => SC.cell_ne (List.all_eq_true.1 h c hc)

theorem fillC_run {place : Nat → Option (Nat × Nat)} : ∀ {parts : List (Nat × List SC)} {vparts : List (Nat × Value)} {cells : List SC} {vs : List Value} {out : List SC},
    fillC place cells parts = some out → All2 (SC.is ρ φ β) cells vs →
    All2 (fun (p : Nat × List SC) (q : Nat × Value) => p.1 = q.1 ∧ ∃ us : List Value, q.2.cells = us.toArray ∧ All2 (SC.is ρ φ β) p.2 us) parts vparts →
    ∃ ws : List Value, Instr.fill place vs.toArray vparts = some ws.toArray ∧ All2 (SC.is ρ φ β) out ws
  | [], [], cells, vs, out, h, ha, _ => by
    simp only [fillC, Option.some.injEq] at h
    subst h
    exact ⟨vs, rfl, ha⟩
  | (i, v) :: parts, (j, q) :: vparts, cells, vs, out, h, ha, hp => by
    obtain ⟨⟨hij, us, hus, hav⟩, hrest⟩ := hp
    simp only at hij hus hav
    subst hij
    simp only [fillC] at h
    split at h
    · exact absurd h (by simp)
    · rename_i off size hpl
      split at h
      · rename_i hc
        rw [Bool.and_eq_true] at hc
        have h1 := Nat.eq_of_beq_eq_true hc.1
        have h2 := Nat.le_of_ble_eq_true hc.2
        rw [hav.length] at h1 h2
        rw [ha.length] at h2
        obtain ⟨ws, hws, haw⟩ := fillC_run h (ha.spl off hav) hrest
        refine ⟨ws, ?_, haw⟩
        have hz := zip_fold us 0 off vs (by omega)
        simp only [Nat.add_zero] at hz
        simp only [Instr.fill, hpl, hus]
        rw [if_neg (by simp; omega)]
        rw [← hws]
        congr 1
        rw [← hz]
        simp
      · exact absurd h (by simp)
  | [], _ :: _, _, _, _, _, _, hp => hp.elim
  | _ :: _, [], _, _, _, _, _, hp => hp.elim

theorem opdList_is (F : Fits cx.Γ cx.S ρ φ) (H : M ρ φ fx L B β a w) : ∀ {ps : List (Nat × Operand)} {r : List (Nat × List SC)}, opdList L ps = some r →
    r.all (fun p => p.2.all (SC.cell cx)) = true →
    All2 (fun (p : Nat × List SC) (q : Nat × Value) => p.1 = q.1 ∧ ∃ us : List Value, q.2.cells = us.toArray ∧ All2 (SC.is ρ φ β) p.2 us) r (ps.map fun (i, x) => (i, a.eval x))
  | [], r, h, _ => by
    simp only [opdList, Option.some.injEq] at h
    subst h
    trivial
  | (i, x) :: ps, r, h, hc => by
    simp only [opdList] at h
    split at h
    · rename_i s hs
      split at h
      · rename_i cs r' hcs hr
        simp only [Option.some.injEq] at h
        subst h
        simp only [List.all_cons, Bool.and_eq_true] at hc
        obtain ⟨us, h1, h2, _⟩ := SV.cells_is F hcs hc.1 (opd_is H hs)
        exact ⟨⟨rfl, us, h1, h2⟩, opdList_is F H hr hc.2⟩
      · exact absurd h (by simp)
    · exact absurd h (by simp)

theorem allocX_does (H : M ρ φ fx L B β a w) {t : TypeId} {d : Out} {o : Oper} (hn : ∀ id, n0 ≤ id → id < d.next → β id = none) (h : allocX cx n0 t = .ok d)
    (ho : execOp a.eval o = (do pure (.value (← Instr.alloc t true (.tuple #[]))))) : Does ρ φ cx.P fx B o a w β n0 d := by
  unfold allocX at h
  split at h
  · rename_i i hi
    split at h
    · rename_i z hz
      simp only [OR.ok.injEq] at h
      subst h
      refine does_new' (x := .pointer (some ⟨w.heap.size, 0, none⟩)) (vs := z.cells.toList) (T := t) H.wld (hn n0 (Nat.le_refl _) (Nat.lt_succ_self _)) ?_ ⟨_, _, updB_self _ _ _ _, rfl⟩ (constSC_all _) ?_
      · rw [ho]
        simp [Instr.alloc, zeroValue, typeInfo, hi, hz, newVar, newRow]
      · intro c hc
        obtain ⟨v, _, rfl⟩ := List.mem_map.1 hc
        exact constSC_ne v
    · exact absurd h (by simp)
  · exact absurd h (by simp)

theorem boxX_does (F : Fits cx.Γ cx.S ρ φ) (H : M ρ φ fx L B β a w) {t : TypeId} {d : Out} {o : Oper} {v : SV} {x : Value} (hn : ∀ id, n0 ≤ id → id < d.next → β id = none) (h : boxX cx n0 v = .ok d) (hv : v.is ρ φ β x)
    (ho : execOp a.eval o = (do pure (.value (← Instr.box t x)))) : Does ρ φ cx.P fx B o a w β n0 d := by
  unfold boxX at h
  split at h
  · rename_i cs hcs
    split at h
    · rename_i hc
      simp only [OR.ok.injEq] at h
      subst h
      obtain ⟨us, h1, h2, _⟩ := SV.cells_is F hcs hc hv
      refine does_new' (x := .pointer (some ⟨w.heap.size, 0, none⟩)) (vs := us) (T := t) H.wld (hn n0 (Nat.le_refl _) (Nat.lt_succ_self _)) ?_ ⟨_, _, updB_self _ _ _ _, rfl⟩ h2 (all_ne hc)
      rw [ho]
      simp [Instr.box, newVar, newRow, h1]
    · exact absurd h (by simp)
  · exact absurd h (by simp)

theorem zeroCells_run {t : TypeId} {cs : List SC} (h : zeroCells cx t = some cs) (w : World) : ∃ z : Value, (zeroValue t).run cx.P w = .ok z w ∧ cs = z.cells.toList.map constSC := by
  unfold zeroCells at h
  split at h
  · rename_i i hi
    simp only [Option.map_eq_some_iff] at h
    obtain ⟨z, hz, rfl⟩ := h
    exact ⟨z, by simp [zeroValue, typeInfo, hi, hz], rfl⟩
  · exact absurd h (by simp)

theorem buildX_run (F : Fits cx.Γ cx.S ρ φ) (H : M ρ φ fx L B β a w) {t : TypeId} {parts : Array (Nat × Operand)} {d : Out} (h : buildX cx L n0 t parts.toList = .ok d) :
    Reads ρ φ β cx.P w n0 d (Instr.build t (parts.map fun (i, x) => (i, a.eval x))) := by
  unfold buildX at h
  split at h
  · rename_i fs z ps hu hz hps
    split at h
    · rename_i hc
      split at h
      · rename_i pl hpl
        split at h
        · rename_i cs hcs
          have := vV_ok h
          subst this
          obtain ⟨zv, hzr, rfl⟩ := zeroCells_run hz w
          obtain ⟨ws, hw1, hw2⟩ := fillC_run hcs (constSC_all _) (opdList_is F H hps hc)
          refine ⟨rfl, rfl, .agg ws.toArray, ?_, _, rfl, hw2⟩
          have hplr := placesX_run hpl w
          simp only [Instr.build, Sem.run_bind, hzr, Result.andThen_ok, run_underlying hu]
          rw [Array.mapM_eq_mapM_toList]
          simp only [Sem.run_map, hplr, Result.andThen_ok]
          have e : (fun x : Nat => pl.toArray[x]?) = (fun i : Nat => pl[i]?) := by funext i; simp
          simp only [e]
          have e2 : (parts.map fun (x : Nat × Operand) => (x.1, a.eval x.2)).toList = parts.toList.map fun (i, x) => (i, a.eval x) := by simp
          rw [e2]
          have e3 : zv.cells = zv.cells.toList.toArray := by simp
          rw [e3, hw1]
          simp
        · exact absurd h (by simp)
      · exact absurd h (by simp)
    · exact absurd h (by simp)
  · rename_i m e z ps hu hz hps
    split at h
    · rename_i hc
      split at h
      · rename_i ag n ht
        split at h
        · rename_i cs hcs
          have := vV_ok h
          subst this
          obtain ⟨zv, hzr, rfl⟩ := zeroCells_run hz w
          obtain ⟨ws, hw1, hw2⟩ := fillC_run hcs (constSC_all _) (opdList_is F H hps hc)
          refine ⟨rfl, rfl, .agg ws.toArray, ?_, _, rfl, hw2⟩
          simp only [Instr.build, Sem.run_bind, hzr, Result.andThen_ok, run_underlying hu, (tyx_run ht _).2]
          have e2 : (parts.map fun (x : Nat × Operand) => (x.1, a.eval x.2)).toList = parts.toList.map fun (i, x) => (i, a.eval x) := by simp
          rw [e2]
          have e3 : zv.cells = zv.cells.toList.toArray := by simp
          rw [e3, hw1]
          simp
        · exact absurd h (by simp)
      · exact absurd h (by simp)
    · exact absurd h (by simp)
  · exact absurd h (by simp)

theorem reps_all {z : List SC} {zs : List Value} (h : All2 (SC.is ρ φ β) z zs) : ∀ n, All2 (SC.is ρ φ β) (reps z n) (repsV zs n)
  | 0 => trivial
  | n + 1 => All2.append h (reps_all h n)

theorem buildSliceX_does (F : Fits cx.Γ cx.S ρ φ) (H : M ρ φ fx L B β a w) {t : TypeId} {len : Nat} {parts : Array (Nat × Operand)} {d : Out} {o : Oper} (hn : ∀ id, n0 ≤ id → id < d.next → β id = none)
    (h : buildSliceX cx L n0 t len parts.toList = .ok d) (ho : execOp a.eval o = (do pure (.value (← Instr.buildSlice t len (parts.map fun (i, x) => (i, a.eval x)))))) :
    Does ρ φ cx.P fx B o a w β n0 d := by
  unfold buildSliceX at h
  split at h
  · rename_i e ps hu hps
    split at h
    · rename_i ag n z ht hz
      split at h
      · rename_i hc
        simp only [Bool.and_eq_true] at hc
        obtain ⟨⟨⟨hc, h1⟩, h2⟩, h3⟩ := hc
        have h1 := Nat.le_of_ble_eq_true h1
        have h2 := Nat.eq_of_beq_eq_true h2
        have h3 := blt_lt h3
        split at h
        · rename_i cs hcs
          split at h
          · rename_i hall
            simp only [OR.ok.injEq] at h
            subst h
            obtain ⟨zv, hzr, rfl⟩ := zeroCells_run hz w
            have hzl : zv.cells.toList.length = n := by simpa using h2
            have hrep := repsV_range zv.cells.toList (by omega) len
            obtain ⟨ws, hw1, hw2⟩ := fillC_run hcs (reps_all (constSC_all zv.cells.toList) len) (opdList_is F H hps hc)
            refine does_new' (x := .slice (some ⟨w.heap.size, 0, none⟩) len len) (vs := ws) (T := e) H.wld (hn n0 (Nat.le_refl _) (Nat.lt_succ_self _)) ?_ ⟨_, _, updB_self _ _ _ _, rfl⟩ hw2 (all_ne hall)
            rw [ho]
            have e1 : ((Array.range (len * n)).map fun i => zv.cells[i % zv.cells.size]!) = (repsV zv.cells.toList len).toArray := by
              apply Array.ext'
              rw [← hrep, hzl]
              simp
            have e2 : (parts.map fun (x : Nat × Operand) => (x.1, a.eval x.2)).toList = parts.toList.map fun (i, x) => (i, a.eval x) := by simp
            have e4 : ¬ len * n > 2 ^ 24 := by omega
            by_cases hl : len = 0
            · subst hl
              have hz0 : (repsV zv.cells.toList 0) = [] := rfl
              simp only [Instr.buildSlice, Sem.run_bind, run_underlying hu, Result.andThen_ok, (tyx_run ht _).2, Nat.zero_mul, if_true, Sem.run_pure]
              rw [e2, if_neg (show ¬ 0 > 2 ^ 24 by decide)]
              simp only [pure_bind]
              have : ((Array.range 0).map fun x => (#[] : Array Value)[x % (#[] : Array Value).size]!) = (repsV zv.cells.toList 0).toArray := by simp [hz0]
              rw [this, hw1]
              simp [newRow]
            · have hne : ¬ len * n = 0 := by
                have := Nat.mul_pos (Nat.pos_of_ne_zero hl) h3
                omega
              simp only [Instr.buildSlice, Sem.run_bind, run_underlying hu, Result.andThen_ok, (tyx_run ht _).2, if_neg e4, if_neg hne, hzr, Sem.run_pure]
              rw [e2, e1, hw1]
              simp [newRow]
          · exact absurd h (by simp)
        · exact absurd h (by simp)
      · exact absurd h (by simp)
    · exact absurd h (by simp)
  · exact absurd h (by simp)

theorem natE_den {e : E} {n : Nat} (h : natE e = some n) : ∃ k, e.den ρ φ = .int k (n : Int) := by
  unfold natE at h
  split at h
  · rename_i k m
    simp only [Option.some.injEq] at h
    subst h
    exact ⟨k, rfl⟩
  · exact absurd h (by simp)
theorem reps_mem {z : List SC} {c : SC} : ∀ {n : Nat}, c ∈ reps z n → c ∈ z
  | 0, h => absurd h (by simp [reps])
  | n + 1, h => by
    rcases List.mem_append.1 h with h | h
    · exact h
    · exact reps_mem h
theorem makeSliceX_does (H : M ρ φ fx L B β a w) {t : TypeId} {x y : Operand} {len cap : E} {d : Out} {o : Oper} (hn : ∀ id, n0 ≤ id → id < d.next → β id = none)
    (hx : a.eval x = len.den ρ φ) (hy : a.eval y = cap.den ρ φ)
    (h : makeSliceX cx n0 t len cap = .ok d) (ho : execOp a.eval o = (do pure (.value (← Instr.makeSlice t (a.eval x) (a.eval y))))) :
    Does ρ φ cx.P fx B o a w β n0 d := by
  unfold makeSliceX at h
  split at h
  · rename_i e l c hu hl hc
    split at h
    · rename_i i hi
      split at h
      · rename_i z hz
        split at h
        · rename_i hcond
          simp only [Bool.and_eq_true] at hcond
          obtain ⟨⟨⟨⟨⟨h1, h2⟩, h3⟩, h4⟩, h5⟩, h6⟩ := hcond
          have h1 := Nat.eq_of_beq_eq_true h1
          have h2 := blt_lt h2
          have h3 := Nat.le_of_ble_eq_true h3
          have h4 := Nat.le_of_ble_eq_true h4
          have h5 := Nat.le_of_ble_eq_true h5
          simp only [OR.ok.injEq] at h
          subst h
          obtain ⟨kl, hl⟩ := natE_den (ρ := ρ) (φ := φ) hl
          obtain ⟨kc, hc⟩ := natE_den (ρ := ρ) (φ := φ) hc
          have hb : (i.bytes : Int) * (c : Int) ≤ 281474976710656 := by
            have : ((i.bytes * c : Nat) : Int) ≤ 281474976710656 := by omega
            rwa [Int.natCast_mul] at this
          have hrun := run_make (P := cx.P) w t e i z hu hi hz kl kc l c (by omega) (by omega) hb (by omega)
          have e1 : madeCells z.cells ((c : Int).toNat * i.size) = (repsV z.cells.toList c).toArray := by
            apply Array.ext'
            have hr := repsV_range z.cells.toList (by simp; omega) c
            rw [← hr]
            simp [madeCells, h1]
          rw [e1] at hrun
          refine does_new' (x := .slice (some ⟨w.heap.size, 0, none⟩) l c) (vs := repsV z.cells.toList c) (T := e) H.wld (hn n0 (Nat.le_refl _) (Nat.lt_succ_self _)) ?_ ⟨_, _, updB_self _ _ _ _, rfl⟩ (reps_all (constSC_all z.cells.toList) c) (fun q hq => all_ne h6 q (reps_mem hq))
          rw [ho, hx, hy, hl, hc]
          simp only [Sem.run_bind, hrun, Result.andThen_ok, Sem.run_pure, Int.toNat_natCast]
        · exact absurd h (by simp)
      · exact absurd h (by simp)
    · exact absurd h (by simp)
  · exact absurd h (by simp)

theorem storeX_does (F : Fits cx.Γ cx.S ρ φ) (H : M ρ φ fx L B β a w) {t : TypeId} {c : SC} {v : SV} {d : Out} {x y : Value} {o : Oper} (h : storeX cx B n0 t c v = .ok d) (hc : c.is ρ φ β x)
    (hv : v.is ρ φ β y) (ho : execOp a.eval o = (do Instr.storeAt t x y; pure .skip)) : Does ρ φ cx.P fx B o a w β n0 d := by
  unfold storeX at h
  split at h
  · rename_i id off ag n cs ht hcs
    split at h
    · rename_i row hr
      obtain ⟨hr, hI⟩ := rowB_spec hr
      split at h
      · rename_i hcond
        simp only [Bool.and_eq_true] at hcond
        obtain ⟨⟨h1, h2⟩, h3⟩ := hcond
        have h1 := Nat.eq_of_beq_eq_true h1
        have h2 := Nat.le_of_ble_eq_true h2
        simp only [OR.ok.injEq] at h
        subst h
        obtain ⟨b, n', hb, rfl⟩ := hc
        obtain ⟨arr, T, g1, g2, g3, g4, g5⟩ := H.wld.rows hr hI hb
        obtain ⟨us, hus, hau, hone⟩ := SV.cells_is F hcs h3 hv
        have hul := hau.length
        have hlen : off + 0 + us.length ≤ arr.size := by omega
        have hrun := run_storeCells_at cx.P b off T us 0 arr w g2 hlen hone
        refine does_wr H.wld hr hb g2 (by omega) hau (all_ne h3) ?_
        rw [ho]
        have hsz : us.length = n := by omega
        simp only [Instr.storeAt, Instr.sureAddr, Sem.run_bind, Sem.run_pure, Result.andThen_ok, storeVar, (tyx_run ht _).2, hus]
        rw [if_neg (by simp [hsz])]
        rw [hrun]
        simp [spl]
      · exact absurd h (by simp)
    · exact absurd h (by simp)
  · exact absurd h (by simp)

theorem srcX_is (H : W ρ φ fx B β w) {size m : Nat} {x : SC} {cs : List SC} {v : Value} (h : srcX B size x = some (m, cs)) (hx : x.is ρ φ β v) :
    ∃ ad c, ∃ us : List Value, v = .slice (some ad) m c ∧ us.length = m * size ∧ All2 (SC.is ρ φ β) cs us ∧ ∀ j u, us[j]? = some u → w.cell? (ad.add j) = some u := by
  have key : ∀ (id off : Nat) (row : List SC) (b n : Nat), rowB B id = some row → β id = some (b, n) → Nat.beq ((row.drop off).take (m * size)).length (m * size) = true →
      ∃ us : List Value, us.length = m * size ∧ All2 (SC.is ρ φ β) ((row.drop off).take (m * size)) us ∧ ∀ j u, us[j]? = some u → w.cell? ((⟨b, off, none⟩ : Addr).add j) = some u := by
    intro id off row b n hB hb hl
    have hl := Nat.eq_of_beq_eq_true hl
    obtain ⟨hB, hI⟩ := rowB_spec hB
    obtain ⟨arr, T, g1, g2, g3, g4, g5⟩ := H.rows hB hI hb
    have hall := (g5.drop off).take (m * size)
    refine ⟨_, by rw [← hall.length, hl], hall, fun j u hj => ?_⟩
    rw [Addr.add_lit]
    rw [List.getElem?_take] at hj
    split at hj
    · rw [List.getElem?_drop, List.getElem?_take] at hj
      split at hj
      · simpa [World.cell?, g2] using hj
      · simp at hj
    · simp at hj
  unfold srcX at h
  split at h
  · rename_i id off m' c
    obtain ⟨b, n, hb, rfl⟩ := hx
    split at h
    · rename_i row hB
      simp only at h
      split at h
      · rename_i hl
        simp only [Option.some.injEq, Prod.mk.injEq] at h
        obtain ⟨rfl, rfl⟩ := h
        obtain ⟨us, h1, h2, h3⟩ := key id off row b n hB hb hl
        exact ⟨_, _, us, rfl, h1, h2, h3⟩
      · exact absurd h (by simp)
    · exact absurd h (by simp)
  · rename_i id off m' c
    obtain ⟨b, n, cap, hb, rfl, _⟩ := hx
    split at h
    · rename_i row hB
      simp only at h
      split at h
      · rename_i hl
        simp only [Option.some.injEq, Prod.mk.injEq] at h
        obtain ⟨rfl, rfl⟩ := h
        obtain ⟨us, h1, h2, h3⟩ := key id off row b n hB hb hl
        exact ⟨_, _, us, rfl, h1, h2, h3⟩
      · exact absurd h (by simp)
    · exact absurd h (by simp)
  · exact absurd h (by simp)
end
end Go.CX

/- CX: append. -/
namespace Go.CX
open Go Go.RowKit Go.SX

section
variable {ρ : Nat → Value} {φ : Nat → List Value → List Value} {cx : Cx} {fx : Fx} {L : LK} {B : BK} {β : Bk} {a : Act} {w : World} {n0 : Nat}

theorem append_room (P : Program) (t ty e : TypeId) (i : TypeInfo) (ht : P.underlying t = some (.slice e)) (hi : P.info? e = some i)
    (g off sLen sCap : Nat) (cur : Array Value) (T : TypeId) (hg : w.heap[g]? = some (.cells cur T (0, 0)))
    (x : Addr) (m c : Nat) (news : List Value) (hl : news.length = m * i.size) (hnews : ∀ j u, news[j]? = some u → w.cell? (x.add j) = some u) (h1 : ∀ u ∈ news, u.oneCell' = true)
    (hroom : sLen + m ≤ sCap) (hfit : off + sLen * i.size + news.length ≤ cur.size) :
    (Builtin.append_ #[t, t] ty #[.slice (some ⟨g, off, none⟩) sLen sCap, .slice (some x) m c]).run P w =
      .ok (.slice (some ⟨g, off, none⟩) (sLen + m) sCap) (w.setRow g (spl cur.toList (off + sLen * i.size) news).toArray) := by
  have hf := run_firstCells_some (P := P) w i.size m x m c news hl hnews
  have hst := run_storeCells_at P g (off + sLen * i.size) T news 0 cur w hg (by simpa using hfit) h1
  simp only [Nat.add_zero] at hst
  simp [Builtin.append_, run_underlying ht, sizeOf, typeInfo, hi, Builtin.lenOf, hroom, hf, Addr.add_lit, hst, spl]

theorem any_all {cs : List SC} (h : cs.all (fun c => match c with | .any => false | _ => true) = true) : ∀ c ∈ cs, c ≠ .any := by
  intro c hc e
  have := List.all_eq_true.1 h c hc
  subst e
  simp at this

theorem small_le {len m bytes : Nat} (h : small len m bytes = true) : len + m ≤ 1000000000 ∧ (len + m) * bytes ≤ 140737488355328 := by
  unfold small at h
  rw [Bool.and_eq_true] at h
  exact ⟨Nat.le_of_ble_eq_true h.1, Nat.le_of_ble_eq_true h.2⟩

/-- A row that stands at the head of what a growing append lays. -/
theorem head_row {row : List SC} {us tl : List Value} {arr : Array Value} (hr : All2 (SC.is ρ φ β) row us) (ha : arr = (us ++ tl).toArray) :
    row.length ≤ arr.size ∧ ∀ (k : Nat) (c : SC), row[k]? = some c → ∃ u, arr[k]? = some u ∧ c.is ρ φ β u := by
  subst ha
  have hl := hr.length
  refine ⟨by simp; omega, fun k c hk => ?_⟩
  obtain ⟨u, hu, hc⟩ := hr.get hk
  have hlt := (List.getElem?_eq_some_iff.1 hu).1
  refine ⟨u, ?_, hc⟩
  simp only [List.getElem?_toArray]
  rw [List.getElem?_append_left hlt]
  exact hu

/-- Append in place to a slice that is given up: the block bears the new number. -/
theorem does_kill {b n id len cap size : Nat} {row news : List SC} {us : List Value} {arr : Array Value} {T : TypeId} {P : Program} {o : Oper} {m : Nat} (H : W ρ φ fx B β w) (hn : β n0 = none) (hB : B id = some row) (hb : β id = some (b, n))
    (hh : w.heap[b]? = some (.cells arr T (0, 0))) (hsz : arr.size = n) (holds : (row.take (len * size)).length = len * size) (hany : ∀ c ∈ row.take (len * size), c ≠ .any) (hrow : All2 (SC.is ρ φ β) row (arr.toList.take row.length))
    (hnl : us.length = m * size) (hcs : All2 (SC.is ρ φ β) news us) (hne : ∀ c ∈ news, c ≠ .any) (hroom : len + m ≤ cap) (hcap : cap ≤ maxLen) (hfit : cap * size ≤ n)
    (h : (execOp a.eval o).run P w = .ok (.value (.slice (some ⟨b, 0, none⟩) (len + m) cap)) (w.setRow b (spl arr.toList (len * size) us).toArray)) :
    Does ρ φ P fx B o a w β n0 ⟨.one ⟨false, [.sla n0 0 (len + m) size]⟩, [(n0, some (row.take (len * size) ++ news)), (id, none)], n0 + 1⟩ := by
  intro K Q hk
  simp only [Oper.wp, h, Oper.upon]
  have hE := updB_ext (b := b) (n := n) hn
  have hid : id ≠ n0 := by intro e; subst e; rw [hn] at hb; simp at hb
  have hmul : (len + m) * size ≤ cap * size := Nat.mul_le_mul_right _ hroom
  have hadd : (len + m) * size = len * size + m * size := Nat.add_mul _ _ _
  have hl1 : len * size + us.length ≤ arr.toList.length := by simp; omega
  have hself : (w.setRow b (spl arr.toList (len * size) us).toArray).heap[b]? = some (.cells (spl arr.toList (len * size) us).toArray T (0, 0)) := setRow_heap w b _ _ _ _ hh
  have hoth : ∀ k, k ≠ b → (w.setRow b (spl arr.toList (len * size) us).toArray).heap[k]? = w.heap[k]? := fun k hk => setRow_other w b k _ hk
  have key : ∀ id' r, dlB [(n0, some (row.take (len * size) ++ news)), (id, none)] B id' = some r → (id' = n0 ∧ r = row.take (len * size) ++ news) ∨ (id' ≠ n0 ∧ id' ≠ id ∧ B id' = some r) := by
    intro id' r hr
    have e : dlB [(n0, some (row.take (len * size) ++ news)), (id, none)] B id' = dlB [(n0, some (row.take (len * size) ++ news))] (dlB [(id, none)] B) id' := by
      unfold dlB
      simp only [lookA]
      cases Nat.beq n0 id' <;> rfl
    rw [e, dlB_one] at hr
    split at hr
    · rename_i e; simp only [Option.some.injEq] at hr; exact Or.inl ⟨e, hr.symm⟩
    · rename_i e
      rw [dlB_one] at hr
      split at hr
      · exact absurd hr (by simp)
      · rename_i e'; exact Or.inr ⟨e, e', hr⟩
  have oldβ : ∀ id' p, id' ≠ n0 → updB β n0 b n id' = some p → β id' = some p := by
    intro id' p hne hp
    rcases updB_old hp with hp | ⟨hp, _⟩
    · exact hp
    · exact absurd hp hne
  refine hk (updB β n0 b n) _ _ hE (updB_newer _ _ _ _) ?_ ⟨b, n, cap, updB_self _ _ _ _, rfl, hroom, hcap, by omega⟩
  obtain ⟨b', n', hb', h1, _⟩ := H.box id row hB
  rw [hb] at hb'
  simp only [Option.some.injEq, Prod.mk.injEq] at hb'
  obtain ⟨rfl, rfl⟩ := hb'
  refine ⟨⟨H.low.os, H.low.tape, H.low.output, by simpa using H.low.size, fun k hk' hX => ?_⟩, fun id' r hr => ?_, fun id' r k hr hk' => ?_, fun id1 id2 r1 r2 b1 n1 n2 g1 g2 g3 g4 => ?_, fun id' b1 n1 hb1 => ?_, fun id' b1 n1 hb1 => ?_, by simpa using H.len, ⟨fun k hk => by rw [hoth k (by have := H.hi _ _ _ hb; omega)]; exact H.base.1 k hk, H.base.2⟩⟩
  · rw [hoth k ?_]
    · exact H.low.block k hk' hX
    · intro e
      subst e
      rcases h1 with h1 | h1
      · omega
      · exact hX h1
  · rcases key id' r hr with ⟨rfl, rfl⟩ | ⟨hne1, hne2, hB'⟩
    · refine ⟨b, n, updB_self _ _ _ _, h1, Or.inr ⟨_, T, hself, ?_, ?_, fun k c hc => ?_⟩⟩
      · simp only [List.size_toArray]
        rw [spl_length _ _ _ hl1]
        simpa using hsz
      · rw [List.length_append, holds, hcs.length]
        omega
      · simp only [List.getElem?_toArray]
        rw [spl_get _ _ _ _ hl1]
        by_cases hkl : k < len * size
        · rw [List.getElem?_append_left (by omega), List.getElem?_take, if_pos hkl] at hc
          rw [if_neg (by omega)]
          obtain ⟨u, hu, hcu⟩ := hrow.get hc
          rw [List.getElem?_take] at hu
          split at hu
          · exact ⟨u, hu, SC.is_ext hE hcu⟩
          · simp at hu
        · rw [List.getElem?_append_right (by omega), holds] at hc
          obtain ⟨u, hu, hcu⟩ := hcs.get hc
          have hlt := (List.getElem?_eq_some_iff.1 hu).1
          rw [if_pos ⟨by omega, by omega⟩]
          exact ⟨u, hu, SC.is_ext hE hcu⟩
    · obtain ⟨b1, n1, hb1, g1, g2⟩ := H.box id' r hB'
      refine ⟨b1, n1, hE _ _ hb1, g1, ?_⟩
      rw [hoth b1 ?_]
      · exact g2.ext hE
      · intro e
        subst e
        exact hne2 (H.inj id' id r row b1 n1 n hB' hB hb1 hb)
  · rcases key id' r hr with ⟨rfl, rfl⟩ | ⟨hne1, hne2, hB'⟩
    · rcases List.mem_append.1 (List.mem_of_getElem? hk') with hm | hm
      · exact absurd rfl (hany _ hm)
      · exact absurd rfl (hne _ hm)
    · obtain ⟨g1, g2⟩ := H.msk id' r k hB' hk'
      refine ⟨g1, fun b1 n1 hb1 => ?_⟩
      have hb2 := oldβ _ _ hne1 hb1
      refine (SameC.of_heap (hoth b1 ?_)).trans (g2 b1 n1 hb2)
      intro e
      exact hne2 (H.inj id' id r row b1 n1 n hB' hB hb2 (e ▸ hb))
  · rcases key _ _ g1 with ⟨rfl, rfl⟩ | ⟨e1, e1', hB1⟩
    · rcases key _ _ g2 with ⟨rfl, rfl⟩ | ⟨e2, e2', hB2⟩
      · rfl
      · rw [updB_self] at g3
        simp only [Option.some.injEq, Prod.mk.injEq] at g3
        obtain ⟨rfl, rfl⟩ := g3
        exact absurd (H.inj id2 id r2 row b n2 n hB2 hB (oldβ _ _ e2 g4) hb) e2'
    · rcases key _ _ g2 with ⟨rfl, rfl⟩ | ⟨e2, e2', hB2⟩
      · rw [updB_self] at g4
        simp only [Option.some.injEq, Prod.mk.injEq] at g4
        obtain ⟨rfl, rfl⟩ := g4
        exact absurd (H.inj id1 id r1 row b n1 n hB1 hB (oldβ _ _ e1 g3) hb) e1'
      · exact H.inj id1 id2 r1 r2 b1 n1 n2 hB1 hB2 (oldβ _ _ e1 g3) (oldβ _ _ e2 g4)
  · rcases updB_old hb1 with hb1 | ⟨_, hb1⟩
    · have := H.inh _ _ _ hb1; simpa using this
    · simp only [Prod.mk.injEq] at hb1
      obtain ⟨rfl, rfl⟩ := hb1
      have := H.inh _ _ _ hb; simpa using this
  · rcases updB_old hb1 with hb1 | ⟨_, hb1⟩
    · exact H.hi _ _ _ hb1
    · simp only [Prod.mk.injEq] at hb1
      obtain ⟨rfl, rfl⟩ := hb1
      exact H.hi _ _ _ hb

theorem dlB_kill {n0 id : Nat} {r : Option (List SC)} : ∀ id' r', dlB [(n0, r), (id, none)] B id' = some r' → dlB [(n0, r)] B id' = some r' := by
  intro id' r' h
  unfold dlB at *
  simp only [lookA] at h ⊢
  cases hq : Nat.beq n0 id' with
  | true => rw [hq] at h; exact h
  | false =>
    rw [hq] at h
    simp only [Bool.false_eq_true, if_false] at h ⊢
    cases hq' : Nat.beq id id' with
    | true => rw [hq'] at h; simp at h
    | false => rw [hq'] at h; simpa using h

theorem appendX_does (F : Fits cx.Γ cx.S ρ φ) (H : M ρ φ fx L B β a w) {t : TypeId} {s x : SC} {d : Out} {u v : Value} {o : Oper} (hn : ∀ id, n0 ≤ id → id < d.next → β id = none) (h : appendX cx B n0 t s x = .ok d) (hs : s.is ρ φ β u) (hx : x.is ρ φ β v)
    (ho : execOp a.eval o = (do pure (.value (← Builtin.append_ #[t, t] o.type #[u, v])))) : Does ρ φ cx.P fx B o a w β n0 d := by
  unfold appendX at h
  split at h
  · rename_i e hu
    split at h
    · rename_i i hi
      split at h
      · rename_i z hz
        split at h
        · rename_i hzc
          rw [Bool.and_eq_true] at hzc
          have hzs := Nat.eq_of_beq_eq_true hzc.1
          have hsz := blt_lt hzc.2
          split at h
          · rename_i m news hsrc
            split at h
            · rename_i hall
              obtain ⟨ad, c, us, rfl, hul, hua, hcell⟩ := srcX_is H.wld hsrc hx
              have hone : ∀ u ∈ us, u.oneCell' = true := by
                intro u hu
                obtain ⟨c', hc', hr⟩ := hua.mem hu
                exact SC.cell_one F (List.all_eq_true.1 hall c' hc') hr
              have hnn := all_ne hall
              have hnl := hua.length
              unfold appX at h
              split at h
              · -- nil
                have hs : u = _ := hs
                subst hs
                simp only [E.den] at ho
                split at h
                · rename_i hm
                  have hm := Nat.eq_of_beq_eq_true hm
                  subst hm
                  have := vC_ok h
                  subst this
                  have hus : us = [] := List.eq_nil_of_length_eq_zero (by simpa using hul)
                  subst hus
                  refine does_val (x := .slice none 0 0) H.wld ?_ rfl
                  rw [ho]
                  simp [Builtin.append_, run_underlying hu, sizeOf, typeInfo, hi, Builtin.lenOf, Builtin.firstCells, loadCells, loadCellsFrom]
                · rename_i hm
                  have hm : m ≠ 0 := by intro e; subst e; simp at hm
                  split at h
                  · rename_i hsm
                    obtain ⟨h1, h2⟩ := small_le hsm
                    simp only [Nat.zero_add] at h1 h2
                    simp only [OR.ok.injEq] at h
                    subst h
                    have hr := run_append_nil (P := cx.P) w t o.type e i z hu hi hz ad m c us hul hcell (by omega) (by omega) (by omega)
                    have hge := grownCap_ge w m 0 e
                    have hcm := grownCap_le_maxLen w m 0 e (by simp only [maxLen]; omega)
                    have hsize : (us.toArray ++ Builtin.zeroCells z.cells (grownCap w m 0 e - m)).size = grownCap w m 0 e * i.size := by
                      rw [Array.size_append, size_zeroCells, hzs, List.size_toArray, hul, ← Nat.add_mul]
                      congr 1
                      omega
                    obtain ⟨g1, g2⟩ := head_row (β := β) (tl := (Builtin.zeroCells z.cells (grownCap w m 0 e - m)).toList) hua (arr := us.toArray ++ Builtin.zeroCells z.cells (grownCap w m 0 e - m)) (by apply Array.ext'; simp)
                    refine does_new (w1 := w.drew) (x := .slice (some ⟨w.heap.size, 0, none⟩) m (grownCap w m 0 e)) (T := e) H.wld.drew (hn n0 (Nat.le_refl _) (Nat.lt_succ_self _)) ?_ ⟨_, _, _, updB_self _ _ _ _, rfl, hge, hcm, ?_⟩ g1 g2 hnn
                    · rw [ho]
                      simp [hr]
                    · rw [hsize]
                      omega
                  · exact absurd h (by simp)
              · rename_i id off len cap
                obtain ⟨b, n, hb, rfl⟩ := hs
                split at h
                · rename_i row hB
                  obtain ⟨hB, hI⟩ := rowB_spec hB
                  obtain ⟨arr, T, g1, g2, g3, g4, g5⟩ := H.wld.rows hB hI hb
                  split at h
                  · rename_i hroom
                    have hroom := Nat.le_of_ble_eq_true hroom
                    split at h
                    · rename_i hfit
                      have hfit := Nat.le_of_ble_eq_true hfit
                      simp only [OR.ok.injEq] at h
                      subst h
                      have hr := append_room (w := w) cx.P t o.type e i hu hi b off len cap arr T g2 ad m c us hul hcell hone hroom (by omega)
                      intro K Q hk
                      simp only [Oper.wp, ho, Sem.run_bind, hr, Result.andThen_ok, Sem.run_pure, Oper.upon]
                      have hw : W ρ φ fx (dlB [(id, some (spl row (off + len * i.size) news))] B) β (w.setRow b (spl arr.toList (off + len * i.size) us).toArray) :=
                        world_wr H.wld hB hb g2 (by omega) hua hnn
                      exact hk β _ _ (Ext.refl _) (Newer.refl _ _ _) hw ⟨b, n, hb, rfl⟩
                    · exact absurd h (by simp)
                  · rename_i hroom
                    have hroom : ¬ len + m ≤ cap := fun e => hroom (Nat.ble_eq_true_of_le e)
                    simp only at h
                    split at h
                    · rename_i hc
                      rw [Bool.and_eq_true, Bool.and_eq_true] at hc
                      have h1 := Nat.eq_of_beq_eq_true hc.1.1
                      obtain ⟨h2, h3⟩ := small_le hc.1.2
                      have h4 := any_all hc.2
                      simp only [OR.ok.injEq] at h
                      subst h
                      have hold := (g5.drop off).take (len * i.size)
                      have hr := run_append_grow (P := cx.P) w t o.type e i z hu hi hz ⟨b, off, none⟩ len cap _ (by rw [← hold.length, h1]) (fun j u hj => by
                        rw [Addr.add_lit]
                        rw [List.getElem?_take] at hj
                        split at hj
                        · rw [List.getElem?_drop, List.getElem?_take] at hj
                          split at hj
                          · simpa [World.cell?, g2] using hj
                          · simp at hj
                        · simp at hj) ad m c us hul hcell (by omega) (by omega) (growslice_fits (by omega) h3)
                      have hge := grownCap_ge w (len + m) cap e
                      have hcm := grownCap_le_maxLen w (len + m) cap e (by simp only [maxLen]; omega)
                      generalize hos : (((arr.toList.take row.length).drop off).take (len * i.size)) = olds at hold hr
                      have holdl : olds.length = len * i.size := by rw [← hold.length, h1]
                      have hsize : (olds.toArray ++ us.toArray ++ Builtin.zeroCells z.cells (grownCap w (len + m) cap e - (len + m))).size = grownCap w (len + m) cap e * i.size := by
                        rw [Array.size_append, Array.size_append, size_zeroCells, hzs, List.size_toArray, List.size_toArray, hul, holdl, ← Nat.add_mul, ← Nat.add_mul]
                        congr 1
                        omega
                      obtain ⟨k1, k2⟩ := head_row (β := β) (tl := (Builtin.zeroCells z.cells (grownCap w (len + m) cap e - (len + m))).toList) (All2.append hold hua) (arr := olds.toArray ++ us.toArray ++ Builtin.zeroCells z.cells (grownCap w (len + m) cap e - (len + m))) (by apply Array.ext'; simp)
                      refine does_new (w1 := w.drew) (x := .slice (some ⟨w.heap.size, 0, none⟩) (len + m) (grownCap w (len + m) cap e)) (T := e) H.wld.drew (hn n0 (Nat.le_refl _) (Nat.lt_succ_self _)) ?_ ⟨_, _, _, updB_self _ _ _ _, rfl, hge, hcm, ?_⟩ k1 k2 ?_
                      · rw [ho]
                        simp [hr]
                      · rw [hsize]
                        omega
                      · intro c hc
                        rcases List.mem_append.1 hc with hc | hc
                        · exact h4 c hc
                        · exact hnn c hc
                    · exact absurd h (by simp)
                · exact absurd h (by simp)
              · rename_i id len sz
                obtain ⟨b, n, cap, hb, rfl, hlc, hcm0, hfit⟩ := hs
                split at h
                · rename_i row hB
                  obtain ⟨hB, hI⟩ := rowB_spec hB
                  obtain ⟨arr, T, g1, g2, g3, g4, g5⟩ := H.wld.rows hB hI hb
                  simp only at h
                  split at h
                  · rename_i hc
                    rw [Bool.and_eq_true, Bool.and_eq_true, Bool.and_eq_true] at hc
                    have h0 := Nat.eq_of_beq_eq_true hc.1.1.1
                    have h1 := Nat.eq_of_beq_eq_true hc.1.1.2
                    obtain ⟨h2, h3⟩ := small_le hc.1.2
                    have h4 := any_all hc.2
                    subst h0
                    simp only [OR.ok.injEq] at h
                    subst h
                    have hold := g5.take (len * i.size)
                    by_cases hroom : len + m ≤ cap
                    · have hmul : (len + m) * i.size ≤ cap * i.size := Nat.mul_le_mul_right _ hroom
                      rw [Nat.add_mul] at hmul
                      have hr := append_room (w := w) cx.P t o.type e i hu hi b 0 len cap arr T g2 ad m c us hul hcell hone hroom (by omega)
                      rw [Nat.zero_add] at hr
                      refine does_kill H.wld (hn n0 (Nat.le_refl _) (Nat.lt_succ_self _)) hB hb g2 g3 h1 h4 g5 hul hua hnn hroom hcm0 (by omega) ?_
                      rw [ho]
                      simp [hr]
                    · have hr := run_append_grow (P := cx.P) w t o.type e i z hu hi hz ⟨b, 0, none⟩ len cap _ (by rw [← hold.length, h1]) (fun j u hj => by
                        rw [Addr.add_lit]
                        rw [List.getElem?_take] at hj
                        split at hj
                        · rw [List.getElem?_take] at hj
                          split at hj
                          · simpa [World.cell?, g2] using hj
                          · simp at hj
                        · simp at hj) ad m c us hul hcell (by omega) (by omega) (growslice_fits (by omega) h3)
                      have hge := grownCap_ge w (len + m) cap e
                      have hcm := grownCap_le_maxLen w (len + m) cap e (by simp only [maxLen]; omega)
                      generalize hos : ((arr.toList.take row.length).take (len * i.size)) = olds at hold hr
                      have holdl : olds.length = len * i.size := by rw [← hold.length, h1]
                      have hsize : (olds.toArray ++ us.toArray ++ Builtin.zeroCells z.cells (grownCap w (len + m) cap e - (len + m))).size = grownCap w (len + m) cap e * i.size := by
                        rw [Array.size_append, Array.size_append, size_zeroCells, hzs, List.size_toArray, List.size_toArray, hul, holdl, ← Nat.add_mul, ← Nat.add_mul]
                        congr 1
                        omega
                      obtain ⟨k1, k2⟩ := head_row (β := β) (tl := (Builtin.zeroCells z.cells (grownCap w (len + m) cap e - (len + m))).toList) (All2.append hold hua) (arr := olds.toArray ++ us.toArray ++ Builtin.zeroCells z.cells (grownCap w (len + m) cap e - (len + m))) (by apply Array.ext'; simp)
                      refine Does.less (does_new (w1 := w.drew) (x := .slice (some ⟨w.heap.size, 0, none⟩) (len + m) (grownCap w (len + m) cap e)) (T := e) H.wld.drew (hn n0 (Nat.le_refl _) (Nat.lt_succ_self _)) ?_ ⟨_, _, _, updB_self _ _ _ _, rfl, hge, hcm, ?_⟩ k1 k2 ?_) dlB_kill
                      · rw [ho]
                        simp [hr]
                      · rw [hsize]
                        omega
                      · intro c hc
                        rcases List.mem_append.1 hc with hc | hc
                        · exact h4 c hc
                        · exact hnn c hc
                  · exact absurd h (by simp)
                · exact absurd h (by simp)
              · exact absurd h (by simp)
            · exact absurd h (by simp)
          · exact absurd h (by simp)
        · exact absurd h (by simp)
      · exact absurd h (by simp)
    · exact absurd h (by simp)
  · exact absurd h (by simp)
theorem does_wrv {b n off id : Nat} {row cs : List SC} {us : List Value} {arr : Array Value} {T : TypeId} {P : Program} {o : Oper} {s : SV} {x : Value} (H : W ρ φ fx B β w) (hB : B id = some row) (hb : β id = some (b, n)) (hh : w.heap[b]? = some (.cells arr T (0, 0)))
    (hlen : off + cs.length ≤ row.length) (hcs : All2 (SC.is ρ φ β) cs us) (hany : ∀ c ∈ cs, c ≠ .any)
    (h : (execOp a.eval o).run P w = .ok (.value x) (w.setRow b (spl arr.toList off us).toArray)) (hx : s.is ρ φ β x) :
    Does ρ φ P fx B o a w β n0 ⟨s, [(id, some (spl row off cs))], n0⟩ := by
  intro K Q hk
  simp only [Oper.wp, h, Oper.upon]
  exact hk β x _ (Ext.refl _) (Newer.refl _ _ _) (world_wr H hB hb hh hlen hcs hany) hx
/-- Where a slice begins, and how long it is. -/
def dstX : SC → Option (Nat × Nat × Nat)
  | .slc id off len _ => some (id, off, len)
  | .sla id off len _ => some (id, off, len)
  | _ => none
def copyX (cx : Cx) (B : BK) (n0 : Nat) (t : TypeId) (s x : SC) : OR :=
  match cx.P.underlying t with
  | some (.slice e) => match tyx cx.P e with
    | some (_, size) => match dstX s, srcX B size x with
      | some _, none => (match x with
        | .e (.val (.slice none 0 0)) => vE n0 (.int .i64 0)
        | _ => .stuck)
      | some (id, off, len), some (m, cs) => match rowB B id with
        | some row =>
          if Nat.ble (off + (cs.take (Nat.min m len * size)).length) row.length && (cs.take (Nat.min m len * size)).all (SC.cell cx) then
            .ok ⟨.one ⟨false, [.e (.int .i64 (Int.ofNat (Nat.min m len)))]⟩, [(id, some (spl row off (cs.take (Nat.min m len * size))))], n0⟩
          else .stuck
        | none => .stuck
      | _, _ => .stuck
    | none => .stuck
  | _ => .stuck
theorem dstX_is {s : SC} {id off len : Nat} {v : Value} (h : dstX s = some (id, off, len)) (hs : s.is ρ φ β v) : ∃ b n c, β id = some (b, n) ∧ v = .slice (some ⟨b, off, none⟩) len c := by
  unfold dstX at h
  split at h
  · simp only [Option.some.injEq, Prod.mk.injEq] at h
    obtain ⟨rfl, rfl, rfl⟩ := h
    obtain ⟨b, n, hb, rfl⟩ := hs
    exact ⟨b, n, _, hb, rfl⟩
  · simp only [Option.some.injEq, Prod.mk.injEq] at h
    obtain ⟨rfl, rfl, rfl⟩ := h
    obtain ⟨b, n, cap, hb, rfl, _⟩ := hs
    exact ⟨b, n, cap, hb, rfl⟩
  · exact absurd h (by simp)
theorem copyX_does (F : Fits cx.Γ cx.S ρ φ) (H : M ρ φ fx L B β a w) {t t' : TypeId} {s x : SC} {d : Out} {u v : Value} {o : Oper} (h : copyX cx B n0 t s x = .ok d) (hs : s.is ρ φ β u) (hx : x.is ρ φ β v)
    (ho : execOp a.eval o = (do pure (.value (← Builtin.copy_ #[t, t'] o.type #[u, v])))) : Does ρ φ cx.P fx B o a w β n0 d := by
  unfold copyX at h
  split at h
  · rename_i e hu
    split at h
    · rename_i ag size ht
      split at h
      · rename_i q hd hsrc
        obtain ⟨id, off, len⟩ := q
        split at h
        · have := vE_ok h
          subst this
          have hx : v = _ := hx
          subst hx
          obtain ⟨b, n, c, hb, rfl⟩ := dstX_is hd hs
          refine does_val (x := goInt (0 : Nat)) H.wld ?_ rfl
          rw [ho]
          simp [Builtin.copy_, run_underlying hu, Builtin.lenOf, (tyx_run ht _).2, Builtin.firstCells, E.den, storeCells]
        · exact absurd h (by simp)
      · rename_i id off len m cs hd hsrc
        split at h
        · rename_i row hr
          obtain ⟨hr, hI⟩ := rowB_spec hr
          split at h
          · rename_i hcond
            rw [Bool.and_eq_true] at hcond
            have h1 := Nat.le_of_ble_eq_true hcond.1
            simp only [OR.ok.injEq] at h
            subst h
            obtain ⟨b, n, c, hb, rfl⟩ := dstX_is hd hs
            obtain ⟨ad, c', us, rfl, hul, hua, hcell⟩ := srcX_is H.wld hsrc hx
            obtain ⟨arr, T, g1, g2, g3, g4, g5⟩ := H.wld.rows hr hI hb
            have hta := hua.take (Nat.min m len * size)
            have htl := hta.length
            have hone : ∀ u ∈ us.take (Nat.min m len * size), u.oneCell' = true := by
              intro u hu
              obtain ⟨c', hc', hr⟩ := hta.mem hu
              exact SC.cell_one F (List.all_eq_true.1 hcond.2 c' hc') hr
            have hmin : Nat.min m len * size ≤ us.length := by
              rw [hul]
              exact Nat.mul_le_mul_right _ (Nat.min_le_left _ _)
            have hnl : (us.take (Nat.min m len * size)).length = Nat.min m len * size := by rw [List.length_take]; omega
            have hfirst := run_firstCells_some (P := cx.P) w size (Nat.min m len) ad m c' (us.take (Nat.min m len * size)) hnl (fun j v hv => by
              rw [List.getElem?_take] at hv
              split at hv
              · exact hcell j v hv
              · simp at hv)
            have hlen : off + 0 + (us.take (Nat.min m len * size)).length ≤ arr.size := by omega
            have hrun := run_storeCells_at cx.P b off T (us.take (Nat.min m len * size)) 0 arr w g2 hlen hone
            refine does_wrv (x := goInt (Nat.min m len : Nat)) H.wld hr hb g2 h1 hta (all_ne hcond.2) ?_ rfl
            rw [ho]
            simp only [Builtin.copy_, Builtin.lenOf, Sem.run_bind, Sem.run_pure]
            simp [run_underlying hu, (tyx_run ht _).2, hfirst, hrun, spl]
          · exact absurd h (by simp)
        · exact absurd h (by simp)
      · exact absurd h (by simp)
    · exact absurd h (by simp)
  · exact absurd h (by simp)
/-- An array's element. -/
def indexAggX (cx : Cx) (n0 : Nat) (t : TypeId) (v : SV) (i : E) : OR :=
  match v, natE i, cx.P.underlying t with
  | .one ⟨true, cs⟩, some k, some (.array m e) =>
    if Nat.blt k m then
      match tyx cx.P e with
      | some (true, n) => vV n0 (.one ⟨true, (cs.drop (k * n)).take n⟩)
      | some (false, n) => match cs[k * n]? with
        | some c => vC n0 c
        | none => .stuck
      | none => .stuck
    else .stuck
  | _, _, _ => .stuck
theorem indexAggX_run {t : TypeId} {v : SV} {i : E} {d : Out} {x : Value} (h : indexAggX cx n0 t v i = .ok d) (hv : v.is ρ φ β x) :
    Reads ρ φ β cx.P w n0 d (Instr.index t x (i.den ρ φ)) := by
  unfold indexAggX at h
  split at h
  · rename_i cs k m e hk hu
    obtain ⟨vs, rfl, ha⟩ := hv
    obtain ⟨kk, hk⟩ := natE_den (ρ := ρ) (φ := φ) hk
    split at h
    · rename_i hlt
      have hlt := blt_lt hlt
      have hin : (0 : Int) ≤ (k : Int) ∧ (k : Int) < (m : Int) := by omega
      split at h
      · rename_i n ht
        have := vV_ok h
        subst this
        refine ⟨rfl, rfl, .agg ((vs.drop (k * n)).take n).toArray, ?_, _, rfl, (ha.drop _).take n⟩
        simp only [Instr.index, hk, asIntOf, Sem.run_bind, Sem.run_pure, Result.andThen_ok, run_underlying hu, if_pos hin, Int.toNat_natCast, part, (tyx_run ht _).1, if_true, (tyx_run ht _).2]
        congr 2
        apply Array.ext'
        simp [List.take_drop, Nat.add_sub_cancel_left]
      · rename_i n ht
        split at h
        · rename_i c hc
          have := vC_ok h
          subst this
          obtain ⟨u, hu', hcu⟩ := ha.get hc
          refine ⟨rfl, rfl, u, ?_, hcu⟩
          simp only [Instr.index, hk, asIntOf, Sem.run_bind, Sem.run_pure, Result.andThen_ok, run_underlying hu, if_pos hin, Int.toNat_natCast]
          simp [part, (tyx_run ht _).1, (tyx_run ht _).2, hu']
        · exact absurd h (by simp)
      · exact absurd h (by simp)
    · exact absurd h (by simp)
  · exact absurd h (by simp)
/-- A part of a slice that is nil. -/
def zeroO : Option Nat → Bool
  | none => true
  | some n => Nat.beq n 0
def nilCutX (cx : Cx) (n0 : Nat) (t : TypeId) (x : E) (lo hi : Option E) : OR :=
  match x, litN lo, litN hi, cx.P.underlying t with
  | .val (.slice none 0 0), some l, some h, some (.slice e) => match tyx cx.P e with
    | some _ => if zeroO l && zeroO h then vC n0 (.e (.val (.slice none 0 0))) else .stuck
    | none => .stuck
  | _, _, _, _ => .stuck
theorem zeroO_get {o : Option Nat} (h : zeroO o = true) : o.getD 0 = 0 := by
  cases o with
  | none => rfl
  | some n => exact Nat.eq_of_beq_eq_true h
theorem nilCutX_run {t : TypeId} {x : E} {lo hi : Option E} {d : Out} (h : nilCutX cx n0 t x lo hi = .ok d) :
    Reads ρ φ β cx.P w n0 d (Instr.sliceAt t (x.den ρ φ) (lo.map (·.den ρ φ)) (hi.map (·.den ρ φ)) none) := by
  unfold nilCutX at h
  split at h
  · rename_i l hh e hl hhi hu
    split at h
    · rename_i q ht
      obtain ⟨ag, n⟩ := q
      split at h
      · rename_i hz
        rw [Bool.and_eq_true] at hz
        have := vC_ok h
        subst this
        have z1 := zeroO_get hz.1
        have z2 := zeroO_get hz.2
        have hb := bounds2 (cx := cx) (ρ := ρ) (φ := φ) (w := w) hl hhi true 0 0 (by omega) (by omega)
        rw [z1, z2] at hb
        refine ⟨rfl, rfl, .slice none 0 0, ?_, rfl⟩
        simp only [E.den, Instr.sliceAt, Instr.slice, Sem.run_bind, run_underlying hu, Result.andThen_ok, hb, (tyx_run ht _).2, Sem.run_pure]
        simp
      · exact absurd h (by simp)
    · exact absurd h (by simp)
  · exact absurd h (by simp)
/-- A literal byte. -/
def byteC : SC → Option UInt8
  | .e (.int .u8 (.ofNat n)) => if Nat.blt n 256 then some n.toUInt8 else none
  | .e (.val (.int .u8 (.ofNat n))) => if Nat.blt n 256 then some n.toUInt8 else none
  | _ => none
def bytesC : List SC → Option (List UInt8)
  | [] => some []
  | c :: cs => match byteC c, bytesC cs with
    | some b, some bs => some (b :: bs)
    | _, _ => none
/-- Bytes as a text. -/
def toStrX (cx : Cx) (B : BK) (n0 : Nat) (s d : TypeId) (c : SC) : OR :=
  match cx.P.underlying s, cx.P.underlying d with
  | some (.slice e), some .string => match cx.P.underlying e with
    | some (.int .u8) => match srcX B 1 c with
      | some (_, cs) => match bytesC cs with
        | some l => vE n0 (.val (.string ⟨l.toArray⟩))
        | none => .stuck
      | none => .stuck
    | _ => .stuck
  | _, _ => .stuck
theorem byte_nat {n : Nat} (h : Nat.blt n 256 = true) : n.toUInt8.toNat = n := by
  have := blt_lt h
  simp [Nat.toUInt8]
  omega
theorem byteC_is {c : SC} {b : UInt8} {v : Value} (h : byteC c = some b) (hc : c.is ρ φ β v) : v = .int .u8 (b.toNat : Int) := by
  unfold byteC at h
  split at h
  · rename_i n
    split at h
    · rename_i hn
      simp only [Option.some.injEq] at h
      subst h
      rw [byte_nat hn]
      exact hc
    · exact absurd h (by simp)
  · rename_i n
    split at h
    · rename_i hn
      simp only [Option.some.injEq] at h
      subst h
      rw [byte_nat hn]
      exact hc
    · exact absurd h (by simp)
  · exact absurd h (by simp)
theorem bytesC_is : ∀ {cs : List SC} {l : List UInt8} {us : List Value}, bytesC cs = some l → All2 (SC.is ρ φ β) cs us → us = l.map fun b => .int .u8 (b.toNat : Int)
  | [], l, us, h, ha => by
    simp only [bytesC, Option.some.injEq] at h
    subst h
    cases us with
    | nil => rfl
    | cons _ _ => exact ha.elim
  | c :: cs, l, us, h, ha => by
    cases us with
    | nil => exact ha.elim
    | cons u us =>
      simp only [bytesC] at h
      split at h
      · rename_i b bs hb hbs
        simp only [Option.some.injEq] at h
        subst h
        rw [byteC_is hb ha.1, bytesC_is hbs ha.2]
        rfl
      · exact absurd h (by simp)
theorem toStrX_run (H : W ρ φ fx B β w) {s d : TypeId} {c : SC} {o : Out} {v : Value} (h : toStrX cx B n0 s d c = .ok o) (hc : c.is ρ φ β v) :
    Reads ρ φ β cx.P w n0 o (convert s d v) := by
  unfold toStrX at h
  split at h
  · rename_i e hs hd
    split at h
    · rename_i he
      split at h
      · rename_i m cs hsrc
        split at h
        · rename_i l hl
          have := vE_ok h
          subst this
          obtain ⟨ad, cap, us, rfl, hul, hua, hcell⟩ := srcX_is H hsrc hc
          have hus := bytesC_is hl hua
          have hlen : l.length = m := by
            have := congrArg List.length hus
            simp only [List.length_map] at this
            omega
          subst hlen
          refine ⟨rfl, rfl, .string ⟨l.toArray⟩, ?_, rfl⟩
          exact run_convert_bytes_back w s d e ad cap l hs he hd (fun j hj => hcell j _ (by rw [hus, List.getElem?_map, List.getElem?_eq_getElem hj]; rfl))
        · exact absurd h (by simp)
      · exact absurd h (by simp)
    · exact absurd h (by simp)
  · exact absurd h (by simp)
end
end Go.CX
