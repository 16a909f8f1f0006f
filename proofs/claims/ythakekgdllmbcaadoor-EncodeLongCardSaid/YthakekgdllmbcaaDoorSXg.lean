/- SX: what a state says of a frame and a world; what an operation leaves of it. -/
import Derived.Test.YthakekgdllmbcaaDoorSXq
import Derived.Laws.Tables
namespace Go.SX
open Go Go.RowKit

/-- The frame: how many temporaries; which may be written; what they held; the world at the start, and the blocks of it that may be written. -/
structure Fm where
  N : Nat
  W : Option (List Nat)
structure Fx where
  fm : Fm
  a0 : Array Value
  X : List Nat
  w0 : World
def hasN (t : Nat) : List Nat → Bool
  | [] => false
  | d :: ds => Nat.beq d t || hasN t ds
def Fm.may (fm : Fm) (t : Nat) : Bool :=
  match fm.W with
  | none => true
  | some l => hasN t l

/-- What stood at the start stands, but for some blocks. -/
structure LowX (X : List Nat) (w w' : World) : Prop where
  os : w'.os = w.os
  tape : w'.tape = w.tape
  output : w'.output = w.output
  size : w.heap.size ≤ w'.heap.size
  block : ∀ k, k < w.heap.size → k ∉ X → w'.heap[k]? = w.heap[k]?
theorem LowX.refl (X : List Nat) (w : World) : LowX X w w := ⟨rfl, rfl, rfl, Nat.le_refl _, fun _ _ _ => rfl⟩
theorem LowX.drew {X : List Nat} {a w : World} (h : LowX X a w) : LowX X a w.drew := ⟨h.os, h.tape, h.output, h.size, h.block⟩
theorem LowX.below {w w' : World} (h : LowX [] w w') : Below w.heap.size w w' := ⟨h.os, h.tape, h.output, h.size, fun k hk => h.block k hk (by simp)⟩

structure M (ρ : Nat → Value) (φ : Nat → List Value → List Value) (fx : Fx) (L : LK) (B : BK) (β : Nat → Option Nat) (a : Act) (w : World) : Prop where
  tmps : ∀ t s, L t = some s → ∃ x, a.tmps[t]? = some x ∧ s.is ρ φ β x
  size : a.tmps.size = fx.fm.N
  dfr : a.defers = []
  frm : ∀ t, fx.fm.may t = false → a.tmps[t]? = fx.a0[t]?
  low : LowX fx.X fx.w0 w
  box : ∀ id row, B id = some row → ∃ b, ∃ vs : List Value, ∃ T, β id = some b ∧ (fx.w0.heap.size ≤ b ∨ b ∈ fx.X) ∧ w.heap[b]? = some (.cells vs.toArray T (0, 0)) ∧ All2 (SC.is ρ φ β) row vs
  inj : ∀ id id' b, β id = some b → β id' = some b → id = id'
  inh : ∀ id b, β id = some b → b < w.heap.size

section
variable {ρ : Nat → Value} {φ : Nat → List Value → List Value} {fx : Fx}
/-- Who knows less. -/
theorem M.less {L L' : LK} {B B' : BK} {β : Nat → Option Nat} {a : Act} {w : World} (hL : ∀ t s, L' t = some s → L t = some s) (hB : ∀ id r, B' id = some r → B id = some r)
    (H : M ρ φ fx L B β a w) : M ρ φ fx L' B' β a w :=
  ⟨fun t s h => H.tmps t s (hL t s h), H.size, H.dfr, H.frm, H.low, fun id r h => H.box id r (hB id r h), H.inj, H.inh⟩
theorem M.drew {L : LK} {B : BK} {β : Nat → Option Nat} {a : Act} {w : World} (H : M ρ φ fx L B β a w) : M ρ φ fx L B β a w.drew :=
  ⟨H.tmps, H.size, H.dfr, H.frm, H.low.drew, H.box, H.inj, H.inh⟩

theorem opd_is {L : LK} {B : BK} {β : Nat → Option Nat} {a : Act} {w : World} (H : M ρ φ fx L B β a w) {x : Operand} {s : SV} (h : opd L x = some s) : s.is ρ φ β (a.eval x) := by
  cases x with
  | tmp t =>
    obtain ⟨v, hv, hs⟩ := H.tmps t s h
    simp only [Act.eval, Array.getD_eq_getD_getElem?, hv, Option.getD_some]
    exact hs
  | const v => simp only [opd, Option.some.injEq] at h; subst h; exact constSV_is v
  | global g => simp [opd] at h
  | func f => simp only [opd, Option.some.injEq] at h; subst h; rfl
end

/-- A slice that came in reads as its variables say. -/
def Vw.ok (v : Vw) (ρ : Nat → Value) (fx : Fx) : Prop :=
  ∃ a len cap, ∃ vs : List Value, ρ v.i = .slice a len cap ∧ ρ v.l = .int .i64 (Int.ofNat len) ∧ ρ v.g = .tuple vs.toArray ∧ vs.length = len * v.ss.length ∧ len ≤ cap ∧ len ≤ 4611686018427387904 ∧ 0 < v.ss.length ∧
    (∀ i u, vs[i]? = some u → (v.ss.getD (i % v.ss.length) .any).has u) ∧
    ((a = none ∧ len = 0 ∧ cap = 0) ∨ ∃ b off, a = some ⟨b, off, none⟩ ∧ b < fx.w0.heap.size ∧ b ∉ fx.X ∧ ∀ i u, vs[i]? = some u → fx.w0.cell? ⟨b, off + i, none⟩ = some u)
def Views (cx : Cx) (ρ : Nat → Value) (fx : Fx) : Prop := ∀ v ∈ cx.vw, v.ok ρ fx
theorem M.old {ρ : Nat → Value} {φ : Nat → List Value → List Value} {fx : Fx} {L : LK} {B : BK} {β : Nat → Option Nat} {a : Act} {w : World} (H : M ρ φ fx L B β a w) {b o : Nat} (hb : b < fx.w0.heap.size) (hX : b ∉ fx.X) :
    w.cell? ⟨b, o, none⟩ = fx.w0.cell? ⟨b, o, none⟩ := World.cell?_of_block (w := fx.w0) (H.low.block b hb hX)

/-- What an operation has done to the world. -/
structure Eff (ρ : Nat → Value) (φ : Nat → List Value → List Value) (lo : Nat) (X : List Nat) (δ : Dl) (nid : Nat) (β β' : Nat → Option Nat) (w w' : World) : Prop where
  ext : Ext β β'
  old : ∀ id b, β' id = some b → β id = some b ∨ (id = nid ∧ w.heap.size ≤ b)
  low : Below 0 w w'
  inh : ∀ id b, β' id = some b → b < w'.heap.size
  keep : ∀ b, b < w.heap.size → (∀ id off cs, δ.wr = some (id, off, cs) → β id ≠ some b) → w'.heap[b]? = w.heap[b]?
  wlo : ∀ id off cs, δ.wr = some (id, off, cs) → ∃ b, β id = some b ∧ (lo ≤ b ∨ b ∈ X)
  new : ∀ row, δ.new = some row → ∃ b, ∃ vs : List Value, ∃ T, β' nid = some b ∧ w.heap.size ≤ b ∧ w'.heap[b]? = some (.cells vs.toArray T (0, 0)) ∧ All2 (SC.is ρ φ β') row vs
  wr : ∀ id off cs, δ.wr = some (id, off, cs) → ∀ b vs T, β id = some b → w.heap[b]? = some (.cells (List.toArray vs) T (0, 0)) →
    ∃ us, All2 (SC.is ρ φ β) cs us ∧ w'.heap[b]? = some (.cells (spl vs off us).toArray T (0, 0))

def putL (L : LK) (dst : Option Tmp) (s : SV) : LK := fun t => match dst with
  | some d => if Nat.beq d t then some s else L t
  | none => L t
def effW (B : BK) (wr : Option (Nat × Nat × List SC)) : BK := fun id =>
  match wr with
  | some (i, off, cs) => if Nat.beq i id then (B id).map (spl · off cs) else B id
  | none => B id
def effB (B : BK) (δ : Dl) (nid : Nat) : BK := fun id =>
  match δ.new with
  | some row => if Nat.beq id nid then some row else effW B δ.wr id
  | none => effW B δ.wr id

section
variable {ρ : Nat → Value} {φ : Nat → List Value → List Value} {fx : Fx}
theorem All2.spl {α γ : Type} {R : α → γ → Prop} {as : List α} {bs : List γ} {us : List α} {xs : List γ} (off : Nat) (h : All2 R as bs) (h' : All2 R us xs) : All2 R (spl as off us) (spl bs off xs) := by
  unfold SX.spl
  rw [h'.length]
  exact (All2.append (h.take off) h').append (h.drop _)

theorem put_tmps {L : LK} {β : Nat → Option Nat} {a : Act} (H : ∀ t s, L t = some s → ∃ x, a.tmps[t]? = some x ∧ s.is ρ φ β x) {dst : Option Tmp} {s : SV} {x : Value} (hd : ∀ d, dst = some d → d < a.tmps.size)
    (hs : s.is ρ φ β x) : ∀ t u, putL L dst s t = some u → ∃ y, (a.put dst x).tmps[t]? = some y ∧ u.is ρ φ β y := by
  intro t u h
  cases dst with
  | none => exact H t u h
  | some d =>
    simp only [putL] at h
    by_cases hdt : d = t
    · subst hdt
      simp only [Nat.beq_refl, if_true, Option.some.injEq] at h
      subst h
      exact ⟨x, by simp [Act.put, hd d rfl], hs⟩
    · have : Nat.beq d t = false := by
        cases hq : Nat.beq d t with
        | false => rfl
        | true => exact absurd (Nat.eq_of_beq_eq_true hq) hdt
      simp only [this, Bool.false_eq_true, if_false] at h
      obtain ⟨y, hy, hu⟩ := H t u h
      exact ⟨y, by simp only [Act.put]; rw [Array.getElem?_setIfInBounds_ne hdt]; exact hy, hu⟩

/-- Behind an operation. -/
theorem M.step {L : LK} {B : BK} {β β' : Nat → Option Nat} {a : Act} {w w' : World} {δ : Dl} {nid : Nat} {dst : Option Tmp} {x : Value}
    (H : M ρ φ fx L B β a w) (hn : β nid = none) (E : Eff ρ φ fx.w0.heap.size fx.X δ nid β β' w w') (hd : ∀ d, dst = some d → d < fx.fm.N ∧ fx.fm.may d = true) (hx : δ.v.is ρ φ β' x) :
    M ρ φ fx (putL L dst δ.v) (effB B δ nid) β' (a.put dst x) w' := by
  have hwlt : ∀ id b, β id = some b → b < w.heap.size := H.inh
  have hB : ∀ id row, (∀ i off cs, δ.wr = some (i, off, cs) → i ≠ id) → B id = some row → ∃ b, ∃ vs : List Value, ∃ T, β' id = some b ∧ (fx.w0.heap.size ≤ b ∨ b ∈ fx.X) ∧ w'.heap[b]? = some (.cells vs.toArray T (0, 0)) ∧ All2 (SC.is ρ φ β') row vs := by
    intro id row hi h
    obtain ⟨b, vs, T, hb, hlo, hh, ha⟩ := H.box id row h
    refine ⟨b, vs, T, E.ext _ _ hb, hlo, ?_, ha.mono fun _ _ => SC.is_ext E.ext⟩
    rw [E.keep b (hwlt _ _ hb) ?_, hh]
    intro i off cs hw hib
    exact hi i off cs hw (H.inj _ _ _ hib hb)
  have hB' : ∀ id row i off cs, δ.wr = some (i, off, cs) → i = id → B id = some row → ∃ b, ∃ vs : List Value, ∃ T, β' id = some b ∧ (fx.w0.heap.size ≤ b ∨ b ∈ fx.X) ∧ w'.heap[b]? = some (.cells vs.toArray T (0, 0)) ∧ All2 (SC.is ρ φ β') (spl row off cs) vs := by
    intro id row i off cs hw hi h
    subst hi
    obtain ⟨b, vs, T, hb, hlo, hh, ha⟩ := H.box i row h
    obtain ⟨us, hus, hh'⟩ := E.wr i off cs hw b vs T hb hh
    exact ⟨b, _, T, E.ext _ _ hb, hlo, hh', ((ha.spl off hus).mono fun _ _ => SC.is_ext E.ext)⟩
  refine ⟨?_, ?_, ?_, ?_, ?_, ?_, ?_, E.inh⟩
  · refine put_tmps (fun t s h => ?_) (fun d hd' => by rw [H.size]; exact (hd d hd').1) hx
    obtain ⟨y, hy, hs⟩ := H.tmps t s h
    exact ⟨y, hy, SV.is_ext E.ext hs⟩
  · cases dst with
    | none => exact H.size
    | some d => simp [Act.put, H.size]
  · cases dst with
    | none => exact H.dfr
    | some d => exact H.dfr
  · intro t ht
    cases dst with
    | none => exact H.frm t ht
    | some d =>
      have hdt : d ≠ t := by
        intro e
        subst e
        rw [(hd d rfl).2] at ht
        exact absurd ht (by simp)
      simp only [Act.put]
      rw [Array.getElem?_setIfInBounds_ne hdt]
      exact H.frm t ht
  · refine ⟨E.low.os.trans H.low.os, E.low.tape.trans H.low.tape, E.low.output.trans H.low.output, Nat.le_trans H.low.size E.low.size, fun b hb hbX => ?_⟩
    have hb' : b < w.heap.size := Nat.lt_of_lt_of_le hb H.low.size
    rw [← H.low.block b hb hbX]
    refine E.keep b hb' fun id off cs hw hbid => ?_
    obtain ⟨b', h1, h2⟩ := E.wlo id off cs hw
    rw [hbid] at h1
    simp only [Option.some.injEq] at h1
    subst h1
    rcases h2 with h2 | h2
    · omega
    · exact hbX h2
  · intro id row h
    have rest : effW B δ.wr id = some row →
        ∃ b, ∃ vs : List Value, ∃ T, β' id = some b ∧ (fx.w0.heap.size ≤ b ∨ b ∈ fx.X) ∧ w'.heap[b]? = some (.cells vs.toArray T (0, 0)) ∧ All2 (SC.is ρ φ β') row vs := by
      intro h
      unfold effW at h
      split at h
      · rename_i i off cs hw
        split at h
        · rename_i hi
          have hi := Nat.eq_of_beq_eq_true hi
          simp only [Option.map_eq_some_iff] at h
          obtain ⟨r, hr, rfl⟩ := h
          exact hB' id r i off cs hw hi hr
        · rename_i hi
          refine hB id row (fun i' off' cs' hw' => ?_) h
          rw [hw] at hw'
          simp only [Option.some.injEq, Prod.mk.injEq] at hw'
          intro e
          rw [hw'.1, e] at hi
          simp at hi
      · rename_i hw
        exact hB id row (fun i' off' cs' hw' => by rw [hw] at hw'; simp at hw') h
    unfold effB at h
    split at h
    · rename_i r hr
      split at h
      · rename_i hi
        have hi := Nat.eq_of_beq_eq_true hi
        simp only [Option.some.injEq] at h
        subst hi h
        obtain ⟨b, vs, T, hb, hlo, hh, ha⟩ := E.new _ hr
        exact ⟨b, vs, T, hb, Or.inl (Nat.le_trans H.low.size hlo), hh, ha⟩
      · exact rest h
    · exact rest h
  · intro id id' b h h'
    rcases E.old id b h with h1 | ⟨h1, h1'⟩
    · rcases E.old id' b h' with h2 | ⟨h2, h2'⟩
      · exact H.inj _ _ _ h1 h2
      · have := hwlt _ _ h1; omega
    · rcases E.old id' b h' with h2 | ⟨h2, h2'⟩
      · have := hwlt _ _ h2; omega
      · rw [h1, h2]

/-- Behind an operation that is not carried out. -/
theorem M.skip {L : LK} {B : BK} {β : Nat → Option Nat} {a : Act} {w : World} {dst : Option Tmp} (H : M ρ φ fx L B β a w) (hd : ∀ d, dst = some d → d < fx.fm.N ∧ fx.fm.may d = true) :
    M ρ φ fx (putL L dst undefSV) B β (a.put dst undef) w := by
  refine ⟨?_, ?_, ?_, ?_, H.low, H.box, H.inj, H.inh⟩
  · exact put_tmps H.tmps (fun d hd' => by rw [H.size]; exact (hd d hd').1) (show undefSV.is ρ φ β undef from rfl)
  · have := H.size
    cases dst <;> simp [Act.put, this]
  · have := H.dfr
    cases dst <;> exact this
  · intro t ht
    cases dst with
    | none => exact H.frm t ht
    | some d =>
      have hdt : d ≠ t := by
        intro e
        subst e
        rw [(hd d rfl).2] at ht
        exact absurd ht (by simp)
      simp only [Act.put]
      rw [Array.getElem?_setIfInBounds_ne hdt]
      exact H.frm t ht
end
end Go.SX

/- SX: what an operation does, symbol by symbol: numbers, cells, structs, slices of the call's own. -/
namespace Go.SX
open Go Go.RowKit

/-- An operation does what 'δ' says. -/
def Does (ρ : Nat → Value) (φ : Nat → List Value → List Value) (P : Program) (lo : Nat) (X : List Nat) (o : Oper) (a : Act) (w : World) (β : Nat → Option Nat) (nid : Nat) (δ : Dl) : Prop :=
  ∀ (K : Act → World → Prop) (Q : Exit → Act → World → Prop), (∀ β' x w', Eff ρ φ lo X δ nid β β' w w' → δ.v.is ρ φ β' x → K (a.put o.dst x) w') → o.wp P a w K Q

section
variable {ρ : Nat → Value} {φ : Nat → List Value → List Value} {P : Program} {lo : Nat} {X : List Nat} {o : Oper} {a : Act} {w : World} {β : Nat → Option Nat} {nid : Nat}
theorem does_val {s : SV} {x : Value} (hin : ∀ id b, β id = some b → b < w.heap.size) (h : (execOp a.eval o).run P w = .ok (.value x) w) (hv : s.is ρ φ β x) :
    Does ρ φ P lo X o a w β nid ⟨s, none, none⟩ := by
  intro K Q hk
  simp only [Oper.wp, h, Oper.upon]
  exact hk β x w ⟨Ext.refl _, fun _ _ h => Or.inl h, Below.refl _ _, hin, fun _ _ _ => rfl, by simp, by simp, by simp⟩ hv

def updB (β : Nat → Option Nat) (nid b : Nat) : Nat → Option Nat := fun id => if id = nid then some b else β id
theorem updB_ext {β : Nat → Option Nat} {nid b : Nat} (h : β nid = none) : Ext β (updB β nid b) := by
  intro id x hx
  unfold updB
  split
  · rename_i e; rw [e, h] at hx; simp at hx
  · exact hx
theorem updB_self (β : Nat → Option Nat) (nid b : Nat) : updB β nid b nid = some b := by simp [updB]
theorem updB_old {β : Nat → Option Nat} {nid b : Nat} {id x : Nat} (h : updB β nid b id = some x) : β id = some x ∨ (id = nid ∧ x = b) := by
  unfold updB at h
  split at h
  · rename_i e; simp only [Option.some.injEq] at h; exact Or.inr ⟨e, h.symm⟩
  · exact Or.inl h

theorem does_new {s : SV} {x : Value} {row : List SC} {vs : List Value} {T : TypeId} (hin : ∀ id b, β id = some b → b < w.heap.size) (hn : β nid = none)
    (h : (execOp a.eval o).run P w = .ok (.value x) (w.alloc (.cells vs.toArray T))) (hv : s.is ρ φ (updB β nid w.heap.size) x) (hr : All2 (SC.is ρ φ β) row vs) :
    Does ρ φ P lo X o a w β nid ⟨s, some row, none⟩ := by
  intro K Q hk
  simp only [Oper.wp, h, Oper.upon]
  refine hk (updB β nid w.heap.size) x _ ⟨updB_ext hn, fun id b h => ?_, ⟨rfl, rfl, rfl, by simp, fun k hk => by omega⟩, fun id b h => ?_, fun b hb _ => ?_, by simp, fun row' hrow => ?_, by simp⟩ hv
  · rcases updB_old h with h | ⟨h1, h2⟩
    · exact Or.inl h
    · exact Or.inr ⟨h1, by omega⟩
  · rcases updB_old h with h | ⟨h1, h2⟩
    · have := hin _ _ h; simp; omega
    · simp; omega
  · exact Below.heap_alloc _ _ _ hb
  · simp only [Option.some.injEq] at hrow
    subst hrow
    refine ⟨w.heap.size, vs, T, updB_self _ _ _, Nat.le_refl _, ?_, hr.mono fun _ _ => SC.is_ext (updB_ext hn)⟩
    show (w.heap.push _)[w.heap.size]? = _
    simp
end

/-! ### Numbers -/
def E.nn : E → Bool
  | .int _ n => decide (0 ≤ n)
  | .conv k _ => !k.signed
  | .bin op k _ _ => !k.signed && (match op with | .add | .sub | .mul | .and | .or | .xor | .andNot => true | _ => false)
  | _ => false
theorem wrap_nn {k : IntKind} (h : k.signed = false) (n : Int) : 0 ≤ k.wrap n := by
  cases k <;> simp [IntKind.signed] at h <;> simp [IntKind.wrap, IntKind.signed, IntKind.bits] <;> omega
theorem bits_nn {k : IntKind} (h : k.signed = false) (op : BinOp) (x y : Int) : 0 ≤ bits op k x y := by
  unfold bits
  exact wrap_nn h _
theorem E.nn_den (ρ : Nat → Value) (φ : Nat → List Value → List Value) {x : E} (h : x.nn = true) : 0 ≤ vint (x.den ρ φ) := by
  cases x <;> simp [E.nn] at h
  · simpa [E.den] using h
  · rename_i op k a b
    simp only [E.den, vint_int]
    obtain ⟨h1, h2⟩ := h
    cases op <;> simp at h2 <;> simp only [ibin] <;> first | exact wrap_nn h1 _ | exact bits_nn h1 _ _ _
  · simp only [E.den, vint_int]
    exact wrap_nn h _

def asg (cx : Cx) (fs : Facts) (c : E) (want : Bool) (x : OR) : OR :=
  match dec cx fs c with
  | some b => if b == want then x else .stuck
  | none => if cx.so c = .bool then .split c else .stuck

/-- A number is nought. -/
def nzE (cx : Cx) (y : E) (k : IntKind) : E := match y with
  | .conv .i64 m => if cx.so m = .int .u64 then mkEql m (.int .u64 0) else mkEql y (.int k 0)
  | y => mkEql y (.int k 0)
def binX (cx : Cx) (fs : Facts) (op : BinOp) (t : TypeId) (x y : E) : OR :=
  match cx.so x, cx.so y with
  | .int k, .int k' =>
    match op with
    | .shl | .shr => if y.nn || !k'.signed then vE (mkShf op k x y) else asg cx fs (mkLss y (.int k' 0)) false (vE (mkShf op k x y))
    | .quo | .rem => if kBeq k k' then asg cx fs (nzE cx y k') false (vE (mkBin op k x y)) else .stuck
    | .add | .sub | .mul | .and | .or | .xor | .andNot => if kBeq k k' then vE (mkBin op k x y) else .stuck
    | _ => if kBeq k k' then vE (mkCmp op x y) else .stuck
  | .bool, .bool =>
    match cx.P.underlying t with
    | some .bool => match op with
      | .eql => vE (mkBeq x y)
      | .neq => vE (mkNot (mkBeq x y))
      | _ => .stuck
    | _ => .stuck
  | .str, .str => match op with
    | .eql => vE (mkSeq x y)
    | .neq => vE (mkNot (mkSeq x y))
    | _ => .stuck
  | _, _ => .stuck

def unX (cx : Cx) (op : UnOp) (x : E) : OR :=
  match cx.so x with
  | .bool => match op with
    | .not => vE (mkNot x)
    | _ => .stuck
  | .int k => match op with
    | .neg => vE (mkBin .sub k (.int k 0) x)
    | .xor => vE (mkBin .xor k (.int k (if k.signed then -1 else highOf k)) x)
    | _ => .stuck
  | _ => .stuck

def convX (cx : Cx) (src dst : TypeId) (x : E) : OR :=
  match cx.P.underlying src, cx.P.underlying dst, cx.so x with
  | some _, some (.int k), .int k' => if kBeq k k' then vE x else vE (mkConv k x)
  | some _, some .string, .str => vE x
  | _, _, _ => .stuck

section
variable {ρ : Nat → Value} {φ : Nat → List Value → List Value} {cx : Cx} (F : Fits cx.Γ cx.S ρ φ)
 include F
theorem so_int {x : E} {k : IntKind} (h : cx.so x = .int k) : x.den ρ φ = .int k (vint (x.den ρ φ)) := by
  have := E.so_has F x
  unfold Cx.so at h
  rw [h] at this
  obtain ⟨n, hn, _⟩ := this
  rw [hn]; rfl
theorem so_range {x : E} {k : IntKind} (h : cx.so x = .int k) : lowOf k ≤ vint (x.den ρ φ) ∧ vint (x.den ρ φ) ≤ highOf k := by
  have := E.so_has F x
  unfold Cx.so at h
  rw [h] at this
  obtain ⟨n, hn, h1, h2⟩ := this
  rw [hn]; exact ⟨h1, h2⟩
theorem so_bool {x : E} (h : cx.so x = .bool) : x.den ρ φ = .bool (vbool (x.den ρ φ)) := by
  have := E.so_has F x
  unfold Cx.so at h
  rw [h] at this
  obtain ⟨n, hn⟩ := this
  rw [hn]; rfl
theorem so_strB {x : E} (h : cx.so x = .str) : ∃ s, x.den ρ φ = .string s ∧ s.size ≤ 140737488355328 := by
  have := E.so_has F x
  unfold Cx.so at h
  rw [h] at this
  exact this
theorem so_str {x : E} (h : cx.so x = .str) : ∃ s, x.den ρ φ = .string s := by
  obtain ⟨s, hs, _⟩ := so_strB F h
  exact ⟨s, hs⟩
theorem nn_or {x : E} {k : IntKind} (h : cx.so x = .int k) (hn : (x.nn || !k.signed) = true) : 0 ≤ vint (x.den ρ φ) := by
  rw [Bool.or_eq_true] at hn
  rcases hn with hn | hn
  · exact E.nn_den ρ φ hn
  · have := (so_range F h).1
    cases k <;> simp [IntKind.signed] at hn <;> simpa [lowOf] using this
theorem asg_ok {fs : Facts} (hf : fs.hold ρ φ) {c : E} {want : Bool} {x : OR} {δ : Dl} (h : asg cx fs c want x = .ok δ) : x = .ok δ ∧ c.den ρ φ = .bool want := by
  unfold asg at h
  split at h
  · rename_i b hb
    split at h
    · rename_i e
      have e : b = want := by simpa using e
      subst e
      exact ⟨h, dec_sound F hf hb⟩
    · exact absurd h (by simp)
  · split at h <;> exact absurd h (by simp)
 omit F in
theorem vE_ok {x : E} {δ : Dl} (h : vE x = .ok δ) : δ = ⟨.one ⟨false, [.e x]⟩, none, none⟩ := by
  unfold vE at h
  simp only [OR.ok.injEq] at h
  exact h.symm
 omit F in
theorem one_e (β : Nat → Option Nat) {x : E} {v : Value} (h : v = x.den ρ φ) : (SV.one ⟨false, [.e x]⟩).is ρ φ β v := h

theorem nzE_den (y : E) (k : IntKind) : (nzE cx y k).den ρ φ = .bool (vint (y.den ρ φ) == 0) := by
  unfold nzE
  split
  · rename_i m
    split
    · rename_i hm
      rw [mkEql_den]
      obtain ⟨n, hn, h0, h1⟩ := E.so_has F m |> fun h => by rw [show m.so cx.Γ cx.S = .int .u64 from hm] at h; exact h
      have h0 : 0 ≤ n := h0
      have h1 : n ≤ 18446744073709551615 := h1
      simp only [E.den, hn, vint_int]
      congr 1
      rw [Bool.eq_iff_iff, beq_iff_eq, beq_iff_eq, IntKind.wrap_i64]
      omega
    · rw [mkEql_den]; rfl
  · rw [mkEql_den]; rfl
theorem binX_run {fs : Facts} (hf : fs.hold ρ φ) {op : BinOp} {t : TypeId} {x y : E} {δ : Dl} (h : binX cx fs op t x y = .ok δ) (X Y : Operand) (w : World) :
    ∃ z, δ = ⟨.one ⟨false, [.e z]⟩, none, none⟩ ∧
      (do eqGuard op t X Y (x.den ρ φ) (y.den ρ φ); binOp op t (x.den ρ φ) (y.den ρ φ) : Sem Value).run cx.P w = .ok (z.den ρ φ) w := by
  unfold binX at h
  split at h
  · rename_i k k' hx hy
    have ex := so_int F hx
    have ey := so_int F hy
    generalize vint (x.den ρ φ) = m at ex
    generalize hn : vint (y.den ρ φ) = n at ey
    have hg : ∀ op, (eqGuard op t X Y (Value.int k m) (Value.int k' n)) = pure () := fun op => eqGuard_at_int op t X Y _ k m
    have sh : ∀ op, (op = .shl ∨ op = .shr) → 0 ≤ n → (binOp op t (.int k m) (.int k' n)).run cx.P w = .ok ((mkShf op k x y).den ρ φ) w := by
      intro op ho h0
      have h0' : ¬ n < 0 := by omega
      rw [mkShf_den, ex, ey]
      rcases ho with rfl | rfl <;> simp [binOp, Op.shift, h0', ishf]
    split at h
    · split at h
      · rename_i hnn
        refine ⟨_, vE_ok h, ?_⟩
        rw [ex, ey, hg]
        simpa using sh .shl (Or.inl rfl) (by rw [← hn]; exact nn_or F hy hnn)
      · obtain ⟨h1, h2⟩ := asg_ok F hf h
        refine ⟨_, vE_ok h1, ?_⟩
        rw [mkLss_den] at h2
        simp only [E.den, vint_int, Value.bool.injEq] at h2
        replace h2 := of_decide_eq_false h2
        rw [ex, ey, hg]
        simpa using sh .shl (Or.inl rfl) (by omega)
    · split at h
      · rename_i hnn
        refine ⟨_, vE_ok h, ?_⟩
        rw [ex, ey, hg]
        simpa using sh .shr (Or.inr rfl) (by rw [← hn]; exact nn_or F hy hnn)
      · obtain ⟨h1, h2⟩ := asg_ok F hf h
        refine ⟨_, vE_ok h1, ?_⟩
        rw [mkLss_den] at h2
        simp only [E.den, vint_int, Value.bool.injEq] at h2
        replace h2 := of_decide_eq_false h2
        rw [ex, ey, hg]
        simpa using sh .shr (Or.inr rfl) (by omega)
    · split at h
      · rename_i hk
        have hk := kBeq_eq hk
        subst hk
        obtain ⟨h1, h2⟩ := asg_ok F hf h
        refine ⟨_, vE_ok h1, ?_⟩
        rw [nzE_den F] at h2
        have h0 : n ≠ 0 := by
          simp only [Value.bool.injEq, beq_eq_false_iff_ne, ne_eq] at h2
          rw [← hn]; exact h2
        rw [mkBin_den, ex, ey, hg]
        simp [binOp, Op.intDiv, h0, ibin]
      · exact absurd h (by simp)
    · split at h
      · rename_i hk
        have hk := kBeq_eq hk
        subst hk
        obtain ⟨h1, h2⟩ := asg_ok F hf h
        refine ⟨_, vE_ok h1, ?_⟩
        rw [nzE_den F] at h2
        have h0 : n ≠ 0 := by
          simp only [Value.bool.injEq, beq_eq_false_iff_ne, ne_eq] at h2
          rw [← hn]; exact h2
        rw [mkBin_den, ex, ey, hg]
        simp [binOp, Op.intDiv, h0, ibin]
      · exact absurd h (by simp)
    all_goals
      split at h
      · rename_i hk
        have hk := kBeq_eq hk
        subst hk
        refine ⟨_, vE_ok h, ?_⟩
        rw [ex, ey, hg]
        first
          | (rw [mkBin_den, ex, ey]; simp [binOp, Op.intArith, Op.intBits, ibin, bits]; done)
          | (rw [mkCmp_den, ex, ey]; cases op <;> first | (exfalso; simp_all; done) | (simp [binOp, Op.intCmp, icmp]; done) | (simp [binOp, Op.intCmp, icmp]; rfl))
      · exact absurd h (by simp)
  · rename_i hx hy
    have ex := so_bool F hx
    have ey := so_bool F hy
    generalize vbool (x.den ρ φ) = m at ex
    generalize vbool (y.den ρ φ) = n at ey
    have hg : ∀ op, (eqGuard op t X Y (Value.bool m) (Value.bool n)) = pure () := fun op => eqGuard_at_bool op t X Y _ m
    split at h
    · rename_i hu
      split at h
      · refine ⟨_, vE_ok h, ?_⟩
        rw [mkBeq_den, ex, ey, hg]
        have hq := run_equal_bool w t m n hu
        have hb : binOp .eql t (.bool m) (.bool n) = (do pure (.bool (← Op.equal t (.bool m) (.bool n)))) := rfl
        rw [hb]
        simp [hq]
      · refine ⟨_, vE_ok h, ?_⟩
        rw [mkNot_den, mkBeq_den, ex, ey, hg]
        have hq := run_equal_bool w t m n hu
        have hb : binOp .neq t (.bool m) (.bool n) = (do pure (.bool (!(← Op.equal t (.bool m) (.bool n))))) := rfl
        rw [hb]
        simp [hq]
      · exact absurd h (by simp)
    · exact absurd h (by simp)
  · rename_i hx hy
    obtain ⟨m, ex⟩ := so_str F hx
    obtain ⟨n, ey⟩ := so_str F hy
    have hg : ∀ op, (eqGuard op t X Y (Value.string m) (Value.string n)) = pure () := fun op => eqGuard_at_string op t X Y _ m
    split at h
    · refine ⟨_, vE_ok h, ?_⟩
      rw [mkSeq_den, ex, ey, hg]
      simp [binOp, Op.stringOp]
    · refine ⟨_, vE_ok h, ?_⟩
      rw [mkNot_den, mkSeq_den, ex, ey, hg]
      simp [binOp, Op.stringOp]
    · exact absurd h (by simp)
  · exact absurd h (by simp)

theorem unX_run {op : UnOp} {x : E} {δ : Dl} (h : unX cx op x = .ok δ) (w : World) :
    ∃ z, δ = ⟨.one ⟨false, [.e z]⟩, none, none⟩ ∧ (Op.unary op (x.den ρ φ)).run cx.P w = .ok (z.den ρ φ) w := by
  unfold unX at h
  split at h
  · rename_i hx
    have ex := so_bool F hx
    generalize vbool (x.den ρ φ) = m at ex
    split at h
    · refine ⟨_, vE_ok h, ?_⟩
      rw [mkNot_den, ex]
      simp [Op.unary]
    · exact absurd h (by simp)
  · rename_i k hx
    have ex := so_int F hx
    generalize vint (x.den ρ φ) = m at ex
    split at h
    · refine ⟨_, vE_ok h, ?_⟩
      rw [mkBin_den, ex]
      simp [Op.unary, Op.intArith, ibin, E.den]
    · refine ⟨_, vE_ok h, ?_⟩
      rw [mkBin_den, ex]
      have hm : (if k.signed = true then -1 else highOf k) = (if k.signed = true then -1 else k.max) := by
        cases k <;> decide
      simp only [Op.unary, E.den, vint_int, hm]
      simp [Op.intBits, ibin, bits]
    · exact absurd h (by simp)
  · exact absurd h (by simp)

theorem convX_run {src dst : TypeId} {x : E} {δ : Dl} (h : convX cx src dst x = .ok δ) (w : World) :
    ∃ z, δ = ⟨.one ⟨false, [.e z]⟩, none, none⟩ ∧ (convert src dst (x.den ρ φ)).run cx.P w = .ok (z.den ρ φ) w := by
  unfold convX at h
  split at h
  · rename_i d k k' hs hd hx
    have ex := so_int F hx
    split at h
    · rename_i hk
      refine ⟨_, vE_ok h, ?_⟩
      have hk := kBeq_eq hk
      subst hk
      have hr := so_range F hx
      have hw := wrap_id hr.1 hr.2
      generalize vint (x.den ρ φ) = m at ex hw
      rw [ex]
      simp [convert, run_underlying hs, run_underlying hd, Conv.intToInt, hw]
    · refine ⟨_, vE_ok h, ?_⟩
      rw [mkConv_den, ex]
      simp [convert, run_underlying hs, run_underlying hd, Conv.intToInt]
  · rename_i d hs hd hx
    obtain ⟨m, ex⟩ := so_str F hx
    refine ⟨_, vE_ok h, ?_⟩
    rw [ex]
    cases d <;> simp [convert, run_underlying hs, run_underlying hd]
  · exact absurd h (by simp)
end
end Go.SX

/- SX: operations on cells, structs, arrays and slices of the call's own. -/
namespace Go.SX
open Go Go.RowKit

def listE : List SC → Option E
  | [] => some .nil
  | .e x :: cs => (listE cs).map (.cons x ·)
  | _ => none
section
variable {ρ : Nat → Value} {φ : Nat → List Value → List Value} {β : Nat → Option Nat}
theorem listE_dens : ∀ {cs : List SC} {l : E} {vs : List Value}, listE cs = some l → All2 (SC.is ρ φ β) cs vs → l.dens ρ φ = vs
  | [], l, vs, h, ha => by
    simp only [listE, Option.some.injEq] at h
    subst h
    cases vs with
    | nil => rfl
    | cons _ _ => exact ha.elim
  | .e x :: cs, l, vs, h, ha => by
    simp only [listE, Option.map_eq_some_iff] at h
    obtain ⟨l', hl, rfl⟩ := h
    cases vs with
    | nil => exact ha.elim
    | cons v vs =>
      have h1 : v = x.den ρ φ := ha.1
      simp only [E.dens]
      rw [listE_dens hl ha.2, h1]
  | .ptr _ _ :: _, _, _, h, _ => by simp [listE] at h
  | .pti _ _ _ :: _, _, _, h, _ => by simp [listE] at h
  | .slc _ _ _ _ :: _, _, _, h, _ => by simp [listE] at h
  | .vad _ _ _ _ :: _, _, _, h, _ => by simp [listE] at h
end

def spanOf : Bool → Nat → Nat
  | true, n => n
  | false, _ => 1
def viewX (v : Vw) (idx : E) (sz o : Nat) : Bool → Nat → OR
  | true, n => vV (.one ⟨true, (List.range n).map fun j => .e (.el (.var v.g) idx sz (o + j) (v.ss.getD (o + j) .any))⟩)
  | false, _ => vE (.el (.var v.g) idx sz o (v.ss.getD o .any))
def loadX (cx : Cx) (B : BK) (fs : Facts) (t : TypeId) (c : SC) : OR :=
  match c, tyx cx.P t with
  | .ptr id off, some (agg, n) =>
    match B id with
    | some row =>
      if agg then (if Nat.beq ((row.drop off).take n).length n then vV (.one ⟨true, (row.drop off).take n⟩) else .stuck)
      else match row[off]? with
        | some c => vC c
        | none => .stuck
    | none => .stuck
  | .pti id off i, some (false, _) =>
    match B id with
    | some row => match listE (row.drop off) with
      | some l => asg cx fs (mkLss i (.int .i64 0)) false (asg cx fs (mkLss i (.int .i64 (row.drop off).length)) true (vE (.idx i l)))
      | none => .stuck
    | none => .stuck
  | .vad i idx sz o, some (agg, n) =>
    match findVw i cx.vw with
    | some v =>
      if Nat.beq sz v.ss.length && Nat.ble (o + spanOf agg n) sz then
        asg cx fs (mkLss idx (.int .i64 0)) false (asg cx fs (mkLss idx (.var v.l)) true (viewX v idx sz o agg n))
      else .stuck
    | none => .stuck
  | _, _ => .stuck

def storeX (cx : Cx) (B : BK) (t : TypeId) (c : SC) (v : SV) : OR :=
  match c, tyx cx.P t, v.cells with
  | .ptr id off, some (_, n), some cs =>
    match B id with
    | some row => if Nat.beq cs.length n && Nat.ble (off + n) row.length && cs.all (SC.cell cx) then .ok ⟨undefSV, none, some (id, off, cs)⟩ else .stuck
    | none => .stuck
  | _, _, _ => .stuck

def fieldAddrX (cx : Cx) (s : TypeId) (c : SC) (f : Nat) : OR :=
  match c, cx.P.underlying s with
  | .ptr id off, some (.struct fs) =>
    match fs[f]? with
    | some fld => match tyx cx.P fld.type with
      | some (_, n) => if Nat.beq n 0 then .stuck else vC (.ptr id (off + fld.offset))
      | none => .stuck
    | none => .stuck
  | .vad i idx sz o, some (.struct fs) =>
    match fs[f]? with
    | some fld => match tyx cx.P fld.type with
      | some (_, n) => if Nat.beq n 0 then .stuck else vC (.vad i idx sz (o + fld.offset))
      | none => .stuck
    | none => .stuck
  | _, _ => .stuck

def fieldX (cx : Cx) (s : TypeId) (v : SV) (f : Nat) : OR :=
  match v, cx.P.underlying s with
  | .one ⟨true, cs⟩, some (.struct fs) =>
    match fs[f]? with
    | some fld => match tyx cx.P fld.type with
      | some (true, n) => vV (.one ⟨true, (cs.drop fld.offset).take n⟩)
      | some (false, _) => match cs[fld.offset]? with
        | some c => vC c
        | none => .stuck
      | none => .stuck
    | none => .stuck
  | _, _ => .stuck

def indexAddrX (cx : Cx) (fs : Facts) (t : TypeId) (c : SC) (i : E) : OR :=
  match c, cx.P.underlying t, cx.so i with
  | .slc id off len _, some (.slice e), .int _ =>
    match tyx cx.P e with
    | some (_, n) => match i with
      | .int _ (.ofNat j) => if Nat.blt j len then vC (.ptr id (off + j * n)) else .stuck
      | i => if Nat.beq n 1 then asg cx fs (mkLss i (.int .i64 0)) false (asg cx fs (mkLss i (.int .i64 len)) true (vC (.pti id off i))) else .stuck
    | none => .stuck
  | .ptr id off, some (.array len e), .int _ =>
    match tyx cx.P e with
    | some (_, n) => match i with
      | .int _ (.ofNat j) => if Nat.blt j len then vC (.ptr id (off + j * n)) else .stuck
      | i => if Nat.beq n 1 then asg cx fs (mkLss i (.int .i64 0)) false (asg cx fs (mkLss i (.int .i64 len)) true (vC (.pti id off i))) else .stuck
    | none => .stuck
  | .e (.var vi), some (.slice e), .int _ =>
    match tyx cx.P e, findVw vi cx.vw with
    | some (_, n), some v => if Nat.beq n v.ss.length then
        asg cx fs (mkLss i (.int .i64 0)) false (asg cx fs (mkLss i (.var v.l)) true (vC (.vad vi i n 0))) else .stuck
    | _, _ => .stuck
  | _, _, _ => .stuck

section
variable {ρ : Nat → Value} {φ : Nat → List Value → List Value} {cx : Cx} {fx : Fx} {L : LK} {B : BK} {β : Nat → Option Nat} {a : Act} {w : World}

theorem vC_ok {c : SC} {δ : Dl} (h : vC c = .ok δ) : δ = ⟨.one ⟨false, [c]⟩, none, none⟩ := by
  unfold vC at h
  simp only [OR.ok.injEq] at h
  exact h.symm
theorem vV_ok {s : SV} {δ : Dl} (h : vV s = .ok δ) : δ = ⟨s, none, none⟩ := by
  unfold vV at h
  simp only [OR.ok.injEq] at h
  exact h.symm
theorem one_c {c : SC} {v : Value} (h : c.is ρ φ β v) : (SV.one ⟨false, [c]⟩).is ρ φ β v := h

theorem cell_at {b off : Nat} {vs : List Value} {T : TypeId} (h : w.heap[b]? = some (.cells vs.toArray T (0, 0))) : w.cell? ⟨b, off, none⟩ = vs[off]? := by
  simp [World.cell?, h]

/-- What reads only. -/
def Reads (ρ : Nat → Value) (φ : Nat → List Value → List Value) (β : Nat → Option Nat) (P : Program) (w : World) (δ : Dl) (s : Sem Value) : Prop :=
  δ.new = none ∧ δ.wr = none ∧ ∃ x, s.run P w = .ok x w ∧ δ.v.is ρ φ β x

theorem loadX_run (V : Views cx ρ fx) (F : Fits cx.Γ cx.S ρ φ) (H : M ρ φ fx L B β a w) {fs : Facts} (hf : fs.hold ρ φ) {t : TypeId} {c : SC} {δ : Dl} {v : Value} (h : loadX cx B fs t c = .ok δ) (hc : c.is ρ φ β v) :
    Reads ρ φ β cx.P w δ (Instr.loadAt t v) := by
  unfold loadX at h
  split at h
  · rename_i id off agg n ht
    obtain ⟨b, hb, rfl⟩ := hc
    have htr := tyx_run ht
    split at h
    · rename_i row hr
      obtain ⟨b', vs, T, hb', hlo, hh, ha⟩ := H.box id row hr
      rw [hb] at hb'
      simp only [Option.some.injEq] at hb'
      subst hb'
      split at h
      · rename_i hagg
        subst hagg
        split at h
        · rename_i hn
          have hn := Nat.eq_of_beq_eq_true hn
          have := vV_ok h
          subst this
          have hall := (ha.drop off).take n
          refine ⟨rfl, rfl, .agg ((vs.drop off).take n).toArray, ?_, _, rfl, hall⟩
          have hl := run_loadCells_list (P := cx.P) w ⟨b, off, none⟩ ((vs.drop off).take n) (fun j u hj => by
            have hj' : j < n := by
              have := (List.getElem?_eq_some_iff.1 hj).1
              have := List.length_take_le n (vs.drop off)
              omega
            rw [List.getElem?_take, if_pos hj', List.getElem?_drop] at hj
            rw [Addr.add_lit, cell_at hh, hj])
          rw [← hall.length, hn] at hl
          simp [Instr.loadAt, Instr.sureAddr, loadVar, htr, hl]
        · exact absurd h (by simp)
      · rename_i hagg
        have hagg : agg = false := by simpa using hagg
        subst hagg
        split at h
        · rename_i c hrow
          have := vC_ok h
          subst this
          obtain ⟨u, hu, hcu⟩ := ha.get hrow
          refine ⟨rfl, rfl, u, ?_, hcu⟩
          simp [Instr.loadAt, Instr.sureAddr, loadVar, htr, cell_at hh, hu]
        · exact absurd h (by simp)
    · exact absurd h (by simp)
  · rename_i id off i n ht
    obtain ⟨b, hb, rfl⟩ := hc
    have htr := tyx_run ht
    split at h
    · rename_i row hr
      obtain ⟨b', vs, T, hb', hlo, hh, ha⟩ := H.box id row hr
      rw [hb] at hb'
      simp only [Option.some.injEq] at hb'
      subst hb'
      split at h
      · rename_i l hl
        obtain ⟨h1, h2⟩ := asg_ok F hf h
        obtain ⟨h3, h4⟩ := asg_ok F hf h1
        have := vE_ok h3
        subst this
        have hd := listE_dens hl (ha.drop off)
        have hlen := (ha.drop off).length
        rw [mkLss_den] at h2 h4
        simp only [E.den, vint_int, Value.bool.injEq] at h2 h4
        replace h2 := of_decide_eq_false h2
        replace h4 := of_decide_eq_true h4
        rw [hlen] at h4
        have hlt : (vint (i.den ρ φ)).toNat < (vs.drop off).length := by omega
        refine ⟨rfl, rfl, (vs.drop off)[(vint (i.den ρ φ)).toNat], ?_, ?_⟩
        · have : w.cell? ⟨b, off + (vint (i.den ρ φ)).toNat, none⟩ = some (vs.drop off)[(vint (i.den ρ φ)).toNat] := by
            rw [cell_at hh, ← List.getElem?_drop, List.getElem?_eq_getElem hlt]
          simp [Instr.loadAt, Instr.sureAddr, loadVar, htr, this]
        · show _ = _
          simp only [E.den, hd]
          rw [List.getD_eq_getElem?_getD, List.getElem?_eq_getElem hlt, Option.getD_some]
      · exact absurd h (by simp)
    · exact absurd h (by simp)
  · rename_i i idx sz o agg n ht
    have htr := tyx_run ht
    split at h
    · rename_i v hv
      obtain ⟨hmem, rfl⟩ := findVw_mem hv
      obtain ⟨ad, len, cap, vs, h1, h2, h3, h4, h4', h5, h6, h7, h8⟩ := V v hmem
      obtain ⟨b, off, n', c', hb, rfl⟩ := hc
      rw [h1] at hb
      simp only [Value.slice.injEq] at hb
      obtain ⟨rfl, rfl, rfl⟩ := hb
      split at h
      · rename_i hcond
        rw [Bool.and_eq_true] at hcond
        have hsz := Nat.eq_of_beq_eq_true hcond.1
        have hon := Nat.le_of_ble_eq_true hcond.2
        subst hsz
        obtain ⟨g1, g2⟩ := asg_ok F hf h
        obtain ⟨g3, g4⟩ := asg_ok F hf g1
        rw [mkLss_den] at g2 g4
        simp only [E.den, vint_int, Value.bool.injEq] at g2 g4
        replace g2 := of_decide_eq_false g2
        replace g4 := of_decide_eq_true g4
        rw [h2, vint_int] at g4
        obtain ⟨k, hk⟩ : ∃ k : Nat, vint (idx.den ρ φ) = Int.ofNat k := ⟨(vint (idx.den ρ φ)).toNat, (Int.toNat_of_nonneg (by omega)).symm⟩
        rw [hk] at g4
        have hkl : k < len := Int.ofNat_lt.1 g4
        rcases h8 with ⟨h8, _⟩ | ⟨b', off', h8, hbl, hbX, hcell⟩
        · exact absurd h8 (by simp)
        simp only [Option.some.injEq, Addr.mk.injEq, and_true] at h8
        obtain ⟨rfl, rfl⟩ := h8
        have hin : ∀ j, j < v.ss.length → k * v.ss.length + j < vs.length := by
          intro j hj
          rw [h4]
          have : (k + 1) * v.ss.length ≤ len * v.ss.length := Nat.mul_le_mul_right _ hkl
          rw [Nat.add_mul, Nat.one_mul] at this
          omega
        have hel : ∀ j, j < v.ss.length → ∃ u, w.cell? ⟨b, off + k * v.ss.length + j, none⟩ = some u ∧ u = (E.el (.var v.g) idx v.ss.length j (v.ss.getD j .any)).den ρ φ := by
          intro j hj
          have hlt := hin j hj
          refine ⟨vs[k * v.ss.length + j], ?_, ?_⟩
          · rw [H.old hbl hbX, Nat.add_assoc]
            exact hcell _ _ (List.getElem?_eq_getElem hlt)
          · have hs := h7 (k * v.ss.length + j) _ (List.getElem?_eq_getElem hlt)
            have hmod : (k * v.ss.length + j) % v.ss.length = j := by
              rw [Nat.add_comm, Nat.add_mul_mod_self_right, Nat.mod_eq_of_lt hj]
            rw [hmod] at hs
            simp only [E.den, h3, vtup, hk]
            have hget : vs.getD (k * v.ss.length + j) undef = vs[k * v.ss.length + j] := by
              rw [List.getD_eq_getElem?_getD, List.getElem?_eq_getElem hlt, Option.getD_some]
            rw [show (Int.ofNat k).toNat = k from rfl, hget]
            exact (coe_id hs).symm
        have hk' : (vint (idx.den ρ φ)).toNat = k := by rw [hk]; rfl
        rw [hk']
        cases agg with
        | true =>
          simp only [viewX] at g3
          simp only [spanOf] at hon
          have := vV_ok g3
          subst this
          have hall : ∀ (m s : Nat), s + m ≤ v.ss.length → ∃ us : List Value, us.length = m ∧ (∀ j u, us[j]? = some u → w.cell? ⟨b, off + k * v.ss.length + (s + j), none⟩ = some u) ∧
              All2 (SC.is ρ φ β) ((List.range' s m).map fun j => .e (.el (.var v.g) idx v.ss.length j (v.ss.getD j .any))) us := by
            intro m
            induction m with
            | zero => intro s _; exact ⟨[], rfl, by simp, trivial⟩
            | succ m ih =>
              intro s hs
              obtain ⟨u, hu1, hu2⟩ := hel s (by omega)
              obtain ⟨us, h9, h10, h11⟩ := ih (s + 1) (by omega)
              refine ⟨u :: us, by simp [h9], fun j x hx => ?_, hu2, h11⟩
              cases j with
              | zero => simp at hx; subst hx; simpa using hu1
              | succ j =>
                have := h10 j x (by simpa using hx)
                rwa [show s + 1 + j = s + (j + 1) by omega] at this
          obtain ⟨us, h9, h10, h11⟩ := hall n o hon
          refine ⟨rfl, rfl, .agg us.toArray, ?_, us, rfl, ?_⟩
          · have hl := run_loadCells_list (P := cx.P) w ⟨b, off + k * v.ss.length + o, none⟩ us (fun j u hj => by
              rw [Addr.add_lit]
              have := h10 j u hj
              rwa [← Nat.add_assoc] at this)
            rw [h9] at hl
            simp [Instr.loadAt, Instr.sureAddr, loadVar, htr, hl]
          · have e : ((List.range n).map fun j => SC.e (.el (.var v.g) idx v.ss.length (o + j) (v.ss.getD (o + j) .any))) = ((List.range' o n).map fun j => SC.e (.el (.var v.g) idx v.ss.length j (v.ss.getD j .any))) := by
              rw [List.range'_eq_map_range, List.map_map]
              rfl
            rw [e]
            exact h11
        | false =>
          simp only [viewX] at g3
          simp only [spanOf] at hon
          have := vE_ok g3
          subst this
          obtain ⟨u, hu1, hu2⟩ := hel o (by omega)
          refine ⟨rfl, rfl, u, ?_, hu2⟩
          simp [Instr.loadAt, Instr.sureAddr, loadVar, htr, hu1]
      · exact absurd h (by simp)
    · exact absurd h (by simp)
  · exact absurd h (by simp)

theorem fieldAddrX_run {s : TypeId} {c : SC} {f : Nat} {δ : Dl} {v : Value} (h : fieldAddrX cx s c f = .ok δ) (hc : c.is ρ φ β v) :
    Reads ρ φ β cx.P w δ (Instr.fieldAt s v f) := by
  unfold fieldAddrX at h
  split at h
  · rename_i id off fs hu
    obtain ⟨b, hb, rfl⟩ := hc
    split at h
    · rename_i fld hfld
      split at h
      · rename_i ag n ht
        split at h
        · exact absurd h (by simp)
        · rename_i hn
          have hn : n ≠ 0 := by
            intro e; subst e; simp at hn
          have := vC_ok h
          subst this
          refine ⟨rfl, rfl, .pointer (some ⟨b, off + fld.offset, none⟩), ?_, b, hb, rfl⟩
          simp [Instr.fieldAt, run_underlying hu, hfld, Instr.sureAddr, fieldPlace, (tyx_run ht _).2, hn, Addr.add_lit]
      · exact absurd h (by simp)
    · exact absurd h (by simp)
  · rename_i i idx sz o fs hu
    obtain ⟨b, off, n', c', hb, rfl⟩ := hc
    split at h
    · rename_i fld hfld
      split at h
      · rename_i ag n ht
        split at h
        · exact absurd h (by simp)
        · rename_i hn
          have hn : n ≠ 0 := by
            intro e; subst e; simp at hn
          have := vC_ok h
          subst this
          refine ⟨rfl, rfl, .pointer (some ⟨b, off + (vint (idx.den ρ φ)).toNat * sz + (o + fld.offset), none⟩), ?_, b, off, n', c', hb, rfl⟩
          simp [Instr.fieldAt, run_underlying hu, hfld, Instr.sureAddr, fieldPlace, (tyx_run ht _).2, hn, Addr.add_lit, Nat.add_assoc]
      · exact absurd h (by simp)
    · exact absurd h (by simp)
  · exact absurd h (by simp)

theorem fieldX_run {s : TypeId} {v : SV} {f : Nat} {δ : Dl} {x : Value} (h : fieldX cx s v f = .ok δ) (hv : v.is ρ φ β x) :
    Reads ρ φ β cx.P w δ (Instr.field s x f) := by
  unfold fieldX at h
  split at h
  · rename_i cs fs hu
    obtain ⟨vs, rfl, ha⟩ := hv
    split at h
    · rename_i fld hfld
      split at h
      · rename_i n ht
        have := vV_ok h
        subst this
        refine ⟨rfl, rfl, .agg ((vs.drop fld.offset).take n).toArray, ?_, _, rfl, (ha.drop _).take n⟩
        simp only [Instr.field, Sem.run_bind, run_underlying hu, Result.andThen_ok, hfld, asAgg, Sem.run_pure, part, (tyx_run ht _).1, if_true, (tyx_run ht _).2]
        congr 2
        apply Array.ext'
        simp [List.take_drop, Nat.add_sub_cancel_left]
      · rename_i n ht
        split at h
        · rename_i c hc
          have := vC_ok h
          subst this
          obtain ⟨u, hu', hcu⟩ := ha.get hc
          refine ⟨rfl, rfl, u, ?_, hcu⟩
          simp [Instr.field, run_underlying hu, hfld, asAgg, part, (tyx_run ht _).1, hu']
        · exact absurd h (by simp)
      · exact absurd h (by simp)
    · exact absurd h (by simp)
  · exact absurd h (by simp)
end
end Go.SX

/- SX: operations on cells, more: an element's address, a slice of a slice, new blocks, stores. -/
namespace Go.SX
open Go Go.RowKit

/-- Filling a row, symbol by symbol. -/
def sfill (place : Nat → Option (Nat × Nat)) (cells : List SC) : List (Nat × List SC) → Option (List SC)
  | [] => some cells
  | (i, v) :: rest =>
    match place i with
    | none => none
    | some (off, size) =>
      if Nat.beq v.length size && Nat.ble (off + v.length) cells.length then sfill place (spl cells off v) rest else none

section
variable {ρ : Nat → Value} {φ : Nat → List Value → List Value} {cx : Cx} {fx : Fx} {L : LK} {B : BK} {β : Nat → Option Nat} {a : Act} {w : World}

theorem zip_fold : ∀ (us : List Value) (k off : Nat) (cs : List Value), off + k + us.length ≤ cs.length →
    (us.zipIdx k).foldl (fun (cs : Array Value) (p : Value × Nat) => cs.setIfInBounds (off + p.2) p.1) cs.toArray = (spl cs (off + k) us).toArray
  | [], k, off, cs, _ => by simp [spl]
  | u :: us, k, off, cs, h => by
    simp only [List.zipIdx_cons, List.foldl_cons]
    have h1 : cs.toArray.setIfInBounds (off + k) u = (cs.set (off + k) u).toArray := by simp
    rw [h1, zip_fold us (k + 1) off (cs.set (off + k) u) (by simp at h ⊢; omega)]
    congr 1
    unfold spl
    simp only [List.length_cons] at h
    have hlt : off + k < cs.length := by omega
    have e1 : (cs.set (off + k) u).take (off + (k + 1)) = cs.take (off + k) ++ [u] := by
      rw [show off + (k + 1) = off + k + 1 by omega, List.take_succ_eq_append_getElem (by simpa using hlt)]
      simp [List.take_set_of_le]
    have e2 : (cs.set (off + k) u).drop (off + (k + 1) + us.length) = cs.drop (off + k + (us.length + 1)) := by
      rw [List.drop_set_of_lt (by omega)]
      congr 1
      omega
    rw [e1, e2]
    simp

theorem sfill_run {place : Nat → Option (Nat × Nat)} : ∀ {parts : List (Nat × List SC)} {vparts : List (Nat × Value)} {cells : List SC} {vs : List Value} {out : List SC},
    sfill place cells parts = some out → All2 (SC.is ρ φ β) cells vs →
    All2 (fun (p : Nat × List SC) (q : Nat × Value) => p.1 = q.1 ∧ ∃ us : List Value, q.2.cells = us.toArray ∧ All2 (SC.is ρ φ β) p.2 us) parts vparts →
    ∃ ws : List Value, Instr.fill place vs.toArray vparts = some ws.toArray ∧ All2 (SC.is ρ φ β) out ws
  | [], [], cells, vs, out, h, ha, _ => by
    simp only [sfill, Option.some.injEq] at h
    subst h
    exact ⟨vs, rfl, ha⟩
  | (i, v) :: parts, (j, q) :: vparts, cells, vs, out, h, ha, hp => by
    obtain ⟨⟨hij, us, hus, hav⟩, hrest⟩ := hp
    simp only at hij hus hav
    subst hij
    simp only [sfill] at h
    split at h
    · exact absurd h (by simp)
    · rename_i off size hpl
      split at h
      · rename_i hc
        rw [Bool.and_eq_true] at hc
        have h1 := Nat.eq_of_beq_eq_true hc.1
        have h2 := Nat.le_of_ble_eq_true hc.2
        rw [hav.length] at h1 h2
        rw [ha.length] at h2
        obtain ⟨ws, hws, haw⟩ := sfill_run h (ha.spl off hav) hrest
        refine ⟨ws, ?_, haw⟩
        have hz := zip_fold us 0 off vs (by omega)
        simp only [Nat.add_zero] at hz
        have hcond : ¬ (us.length ≠ size ∨ off + us.length > vs.length) := by omega
        simp only [Instr.fill, hpl, hus]
        rw [if_neg (by simp; omega)]
        rw [← hws]
        congr 1
        rw [← hz]
        simp
      · exact absurd h (by simp)
  | [], _ :: _, _, _, _, _, _, hp => hp.elim
  | _ :: _, [], _, _, _, _, _, hp => hp.elim

theorem indexAddrX_run (V : Views cx ρ fx) (F : Fits cx.Γ cx.S ρ φ) {fs : Facts} (hf : fs.hold ρ φ) {t : TypeId} {c : SC} {i : E} {δ : Dl} {v : Value} (h : indexAddrX cx fs t c i = .ok δ) (hc : c.is ρ φ β v) :
    Reads ρ φ β cx.P w δ (Instr.indexAt t v (i.den ρ φ)) := by
  unfold indexAddrX at h
  split at h
  · rename_i id off len cap e k hu hi
    obtain ⟨b, hb, rfl⟩ := hc
    have ei := so_int F hi
    split at h
    · rename_i ag n ht
      have gen : ∀ m : Int, 0 ≤ m → m < len → (Instr.indexAt t (.slice (some ⟨b, off, none⟩) len cap) (.int k m)).run cx.P w = .ok (.pointer (some ⟨b, off + m.toNat * n, none⟩)) w := by
        intro m h0 h1
        simp [Instr.indexAt, run_underlying hu, asIntOf, (tyx_run ht _).2, Addr.add_lit, h0, h1]
      split at h
      · rename_i k' j
        split at h
        · rename_i hj
          have hj : j < len := by unfold Nat.blt at hj; exact Nat.lt_of_succ_le (Nat.le_of_ble_eq_true hj)
          have := vC_ok h
          subst this
          refine ⟨rfl, rfl, .pointer (some ⟨b, off + j * n, none⟩), ?_, b, hb, rfl⟩
          rw [ei]
          have := gen (Int.ofNat j) (Int.natCast_nonneg j) (Int.ofNat_lt.2 hj)
          simpa [E.den] using this
        · exact absurd h (by simp)
      · split at h
        · rename_i hn
          have hn := Nat.eq_of_beq_eq_true hn
          subst hn
          obtain ⟨h1, h2⟩ := asg_ok F hf h
          obtain ⟨h3, h4⟩ := asg_ok F hf h1
          have := vC_ok h3
          subst this
          rw [mkLss_den] at h2 h4
          simp only [E.den, vint_int, Value.bool.injEq] at h2 h4
          replace h2 := of_decide_eq_false h2
          replace h4 := of_decide_eq_true h4
          refine ⟨rfl, rfl, _, ?_, b, hb, rfl⟩
          rw [ei]
          have := gen (vint (i.den ρ φ)) (by omega) h4
          simpa using this
        · exact absurd h (by simp)
    · exact absurd h (by simp)
  · rename_i id off len e k hu hi
    obtain ⟨b, hb, rfl⟩ := hc
    have ei := so_int F hi
    split at h
    · rename_i ag n ht
      have gen : ∀ m : Int, 0 ≤ m → m < len → (Instr.indexAt t (.pointer (some ⟨b, off, none⟩)) (.int k m)).run cx.P w = .ok (.pointer (some ⟨b, off + m.toNat * n, none⟩)) w := by
        intro m h0 h1
        simp [Instr.indexAt, run_underlying hu, asIntOf, (tyx_run ht _).2, Addr.add_lit, h0, h1, Instr.sureAddr]
      split at h
      · rename_i k' j
        split at h
        · rename_i hj
          have hj : j < len := by unfold Nat.blt at hj; exact Nat.lt_of_succ_le (Nat.le_of_ble_eq_true hj)
          have := vC_ok h
          subst this
          refine ⟨rfl, rfl, .pointer (some ⟨b, off + j * n, none⟩), ?_, b, hb, rfl⟩
          rw [ei]
          have := gen (Int.ofNat j) (Int.natCast_nonneg j) (Int.ofNat_lt.2 hj)
          simpa [E.den] using this
        · exact absurd h (by simp)
      · split at h
        · rename_i hn
          have hn := Nat.eq_of_beq_eq_true hn
          subst hn
          obtain ⟨h1, h2⟩ := asg_ok F hf h
          obtain ⟨h3, h4⟩ := asg_ok F hf h1
          have := vC_ok h3
          subst this
          rw [mkLss_den] at h2 h4
          simp only [E.den, vint_int, Value.bool.injEq] at h2 h4
          replace h2 := of_decide_eq_false h2
          replace h4 := of_decide_eq_true h4
          refine ⟨rfl, rfl, _, ?_, b, hb, rfl⟩
          rw [ei]
          have := gen (vint (i.den ρ φ)) (by omega) h4
          simpa using this
        · exact absurd h (by simp)
    · exact absurd h (by simp)
  · rename_i vi e k hu hi
    have ei := so_int F hi
    split at h
    · rename_i ag n v ht hv
      obtain ⟨hmem, rfl⟩ := findVw_mem hv
      obtain ⟨ad, len, cap, vs, h1, h2, h3, h4, h4', h5, h6, h7, h8⟩ := V v hmem
      have hc : _ = E.den ρ φ (.var v.i) := hc
      simp only [E.den] at hc
      rw [h1] at hc
      subst hc
      split at h
      · obtain ⟨g1, g2⟩ := asg_ok F hf h
        obtain ⟨g3, g4⟩ := asg_ok F hf g1
        have := vC_ok g3
        subst this
        rw [mkLss_den] at g2 g4
        simp only [E.den, vint_int, Value.bool.injEq] at g2 g4
        replace g2 := of_decide_eq_false g2
        replace g4 := of_decide_eq_true g4
        rw [h2, vint_int] at g4
        have g4' : vint (i.den ρ φ) < (len : Int) := g4
        rcases h8 with ⟨h8, h9, _⟩ | ⟨b', off', h8, _⟩
        · subst h9
          exfalso
          omega
        subst h8
        refine ⟨rfl, rfl, .pointer (some ⟨b', off' + (vint (i.den ρ φ)).toNat * n + 0, none⟩), ?_, b', off', len, cap, h1, rfl⟩
        rw [ei]
        simp [Instr.indexAt, run_underlying hu, asIntOf, (tyx_run ht _).2, Addr.add_lit, g4', show 0 ≤ vint (i.den ρ φ) by omega]
      · exact absurd h (by simp)
    · exact absurd h (by simp)
  · exact absurd h (by simp)

/-! ### Slices of slices, by numbers -/
def sliceX (cx : Cx) (t : TypeId) (c : SC) (lo hi : Option E) : OR :=
  match c, cx.P.underlying t with
  | .slc id off len cap, some (.slice e) =>
    match tyx cx.P e with
    | some (_, n) =>
      match lo, hi with
      | none, none => vC (.slc id off len cap)
      | some (.int _ (.ofNat l)), none => if Nat.ble l len then vC (.slc id (if Nat.beq cap l then off else off + l * n) (len - l) (cap - l)) else .stuck
      | none, some (.int _ (.ofNat h)) => if Nat.ble h cap then vC (.slc id off h cap) else .stuck
      | some (.int _ (.ofNat l)), some (.int _ (.ofNat h)) => if Nat.ble h cap && Nat.ble l h then vC (.slc id (if Nat.beq cap l then off else off + l * n) (h - l) (cap - l)) else .stuck
      | _, _ => .stuck
    | none => .stuck
  | .ptr id off, some (.array m e) =>
    match tyx cx.P e with
    | some (_, _) =>
      match lo, hi with
      | none, none => vC (.slc id off m m)
      | _, _ => .stuck
    | none => .stuck
  | _, _ => .stuck

theorem bound_ok {k : IntKind} {n y : Nat} (code : BoundsCode) (h : n ≤ y) : (Instr.sliceBound (.int k (Int.ofNat n)) y code).run cx.P w = .ok n w := by
  have h1 : (0 : Int) ≤ Int.ofNat n := Int.natCast_nonneg n
  have h2 : Int.ofNat n ≤ (y : Int) := Int.ofNat_le.2 h
  simp only [Instr.sliceBound, asIntOf, Sem.run_bind, Sem.run_pure, Result.andThen_ok]
  rw [if_pos ⟨h1, h2⟩]
  simp

theorem sliceX_run {t : TypeId} {c : SC} {lo hi : Option E} {δ : Dl} {v : Value} (h : sliceX cx t c lo hi = .ok δ) (hc : c.is ρ φ β v) :
    Reads ρ φ β cx.P w δ (Instr.sliceAt t v (lo.map (·.den ρ φ)) (hi.map (·.den ρ φ)) none) := by
  unfold sliceX at h
  split at h
  · rename_i id off len cap e hu
    obtain ⟨b, hb, rfl⟩ := hc
    split at h
    · rename_i ag n ht
      split at h
      · have := vC_ok h
        subst this
        refine ⟨rfl, rfl, _, ?_, b, hb, rfl⟩
        simp [Instr.sliceAt, Instr.slice, run_underlying hu, Instr.sliceBounds, (tyx_run ht _).2, Addr.add_zero']
      · rename_i k l
        split at h
        · rename_i hl
          have hl := Nat.le_of_ble_eq_true hl
          have := vC_ok h
          subst this
          refine ⟨rfl, rfl, _, ?_, b, hb, rfl⟩
          simp only [Option.map_some, Option.map_none, E.den]
          simp only [Instr.sliceAt, Instr.slice, Sem.run_bind, run_underlying hu, Result.andThen_ok, Instr.sliceBounds, Sem.run_pure, bound_ok _ hl, (tyx_run ht _).2]
          congr 2
          by_cases e : cap = l
          · subst e; simp
          · have e' : Nat.beq cap l = false := by
              cases hq : Nat.beq cap l with
              | false => rfl
              | true => exact absurd (Nat.eq_of_beq_eq_true hq) e
            simp [e, e', Addr.add_lit]
        · exact absurd h (by simp)
      · rename_i k l
        split at h
        · rename_i hl
          have hl := Nat.le_of_ble_eq_true hl
          have := vC_ok h
          subst this
          refine ⟨rfl, rfl, _, ?_, b, hb, rfl⟩
          simp only [Option.map_some, Option.map_none, E.den]
          simp only [Instr.sliceAt, Instr.slice, Sem.run_bind, run_underlying hu, Result.andThen_ok, Instr.sliceBounds, Sem.run_pure, bound_ok _ hl, (tyx_run ht _).2]
          simp [Addr.add_lit]
        · exact absurd h (by simp)
      · rename_i k l k' m
        split at h
        · rename_i hl
          rw [Bool.and_eq_true] at hl
          have h1 := Nat.le_of_ble_eq_true hl.1
          have h2 := Nat.le_of_ble_eq_true hl.2
          have := vC_ok h
          subst this
          refine ⟨rfl, rfl, _, ?_, b, hb, rfl⟩
          simp only [Option.map_some, E.den]
          simp only [Instr.sliceAt, Instr.slice, Sem.run_bind, run_underlying hu, Result.andThen_ok, Instr.sliceBounds, Sem.run_pure, bound_ok _ h1, bound_ok _ h2, (tyx_run ht _).2]
          congr 2
          by_cases e : cap = l
          · subst e; simp
          · have e' : Nat.beq cap l = false := by
              cases hq : Nat.beq cap l with
              | false => rfl
              | true => exact absurd (Nat.eq_of_beq_eq_true hq) e
            simp [e, e', Addr.add_lit]
        · exact absurd h (by simp)
      · exact absurd h (by simp)
    · exact absurd h (by simp)
  · rename_i id off m e hu
    obtain ⟨b, hb, rfl⟩ := hc
    split at h
    · rename_i ag n ht
      split at h
      · have := vC_ok h
        subst this
        refine ⟨rfl, rfl, _, ?_, b, hb, rfl⟩
        simp [Instr.sliceAt, run_underlying hu, Instr.sliceBounds, (tyx_run ht _).2, Instr.sureAddr, Addr.add_zero']
      · exact absurd h (by simp)
    · exact absurd h (by simp)
  · exact absurd h (by simp)

/-! ### Strings -/
def mkLen : E → E
  | .val (.string s) => .int .i64 (Int.ofNat s.size)
  | a => .len a
def mkByte : E → E → E
  | .val (.string s), .int _ (.ofNat n) => .int .u8 (Int.ofNat (s.data.toList.getD n 0).toNat)
  | s, i => .byte s i
def mkCut : E → E → E → E
  | .val (.string s), .int _ (.ofNat l), .int _ (.ofNat h) => .val (.string (s.extract l h))
  | s, l, h => .cut s l h
theorem toList_data (s : ByteArray) : s.toList = s.data.toList := ByteArray.toList_eq s
theorem mkLen_den {x : E} {s : ByteArray} (h : x.den ρ φ = .string s) (hs : s.size ≤ 140737488355328) : (mkLen x).den ρ φ = .int .i64 (Int.ofNat s.size) := by
  unfold mkLen
  split
  · simp only [E.den] at h ⊢
    simp only [Value.string.injEq] at h
    subst h
    rfl
  · simp only [E.den, h, vlen]
    rw [if_pos (by omega)]
    rfl
theorem mkByte_den {x i : E} : (mkByte x i).den ρ φ = .int .u8 ((vstr (x.den ρ φ)).getD (vint (i.den ρ φ)).toNat 0).toNat := by
  unfold mkByte
  split
  · simp only [E.den, vstr_string, vint_int, toList_data]
    rfl
  · rfl
theorem mkCut_den {x l h : E} : (mkCut x l h).den ρ φ = vcut (x.den ρ φ) (vint (l.den ρ φ)).toNat (vint (h.den ρ φ)).toNat := by
  unfold mkCut
  split
  · simp only [E.den, vint_int, vcut]
    rfl
  · rfl

/-- One byte of a string. -/
def indexX (cx : Cx) (fs : Facts) (t : TypeId) (x i : E) : OR :=
  match cx.P.underlying t, cx.so x, cx.so i with
  | some .string, .str, .int _ => asg cx fs (mkLss i (.int .i64 0)) false (asg cx fs (mkLss i (mkLen x)) true (vE (mkByte x i)))
  | _, _, _ => .stuck
theorem indexX_run (F : Fits cx.Γ cx.S ρ φ) {fs : Facts} (hf : fs.hold ρ φ) {t : TypeId} {x i : E} {δ : Dl} (h : indexX cx fs t x i = .ok δ) :
    Reads ρ φ β cx.P w δ (Instr.index t (x.den ρ φ) (i.den ρ φ)) := by
  unfold indexX at h
  split at h
  · rename_i k hu hx hi
    obtain ⟨s, hs, hb⟩ := so_strB F hx
    have ei := so_int F hi
    obtain ⟨g1, g2⟩ := asg_ok F hf h
    obtain ⟨g3, g4⟩ := asg_ok F hf g1
    have := vE_ok g3
    subst this
    rw [mkLss_den] at g2 g4
    rw [mkLen_den hs hb] at g4
    simp only [E.den, vint_int, Value.bool.injEq] at g2 g4
    replace g2 := of_decide_eq_false g2
    replace g4 := of_decide_eq_true g4
    generalize vint (i.den ρ φ) = m at ei g2 g4
    obtain ⟨n, rfl⟩ : ∃ n : Nat, m = Int.ofNat n := ⟨m.toNat, (Int.toNat_of_nonneg (by omega)).symm⟩
    have hn : n < s.size := Int.ofNat_lt.1 g4
    refine ⟨rfl, rfl, _, ?_, rfl⟩
    rw [mkByte_den, hs, ei]
    simp only [Instr.index, asIntOf, Sem.run_bind, Sem.run_pure, Result.andThen_ok, run_underlying hu, vstr_string, vint_int]
    have h0 : (0 : Int) ≤ Int.ofNat n := Int.natCast_nonneg n
    rw [if_pos h0]
    have e1 : (Int.ofNat n).toNat = n := rfl
    rw [e1]
    have e2 : s[n]? = some s[n] := getElem?_pos s n hn
    rw [e2]
    simp only [Sem.run_pure, toList_data]
    congr 2
    have : s.data.toList.getD n 0 = s[n] := by
      rw [List.getD_eq_getElem?_getD]
      have hn' : n < s.data.toList.length := by rw [Array.length_toList]; exact hn
      rw [List.getElem?_eq_getElem hn']
      simp
      rfl
    rw [this]
  · exact absurd h (by simp)

def sliceStrX (cx : Cx) (fs : Facts) (t : TypeId) (x : E) (lo hi : Option E) : OR :=
  match cx.P.underlying t, cx.so x with
  | some .string, .str =>
    let h := hi.getD (mkLen x)
    let l := lo.getD (.int .i64 0)
    match cx.so h, cx.so l with
    | .int _, .int _ => asg cx fs (mkLss h (.int .i64 0)) false (asg cx fs (mkLss (mkLen x) h) false (asg cx fs (mkLss l (.int .i64 0)) false (asg cx fs (mkLss h l) false (vE (mkCut x l h)))))
    | _, _ => .stuck
  | _, _ => .stuck
theorem sliceStrX_run (F : Fits cx.Γ cx.S ρ φ) {fs : Facts} (hf : fs.hold ρ φ) {t : TypeId} {x : E} {lo hi : Option E} {δ : Dl} (h : sliceStrX cx fs t x lo hi = .ok δ) :
    Reads ρ φ β cx.P w δ (Instr.sliceAt t (x.den ρ φ) (lo.map (·.den ρ φ)) (hi.map (·.den ρ φ)) none) := by
  unfold sliceStrX at h
  split at h
  · rename_i hu hx
    obtain ⟨s, hs, hb⟩ := so_strB F hx
    have hlen := mkLen_den hs hb
    simp only at h
    split at h
    · rename_i k1 k2 hh hl
      have eh := so_int F hh
      have el := so_int F hl
      obtain ⟨h1, g1⟩ := asg_ok F hf h
      obtain ⟨h2, g2⟩ := asg_ok F hf h1
      obtain ⟨h3, g3⟩ := asg_ok F hf h2
      obtain ⟨h4, g4⟩ := asg_ok F hf h3
      have := vE_ok h4
      subst this
      rw [mkLss_den] at g1 g2 g3 g4
      rw [hlen] at g2
      simp only [E.den, vint_int, Value.bool.injEq] at g1 g2 g3 g4
      replace g1 := of_decide_eq_false g1
      replace g2 := of_decide_eq_false g2
      replace g3 := of_decide_eq_false g3
      replace g4 := of_decide_eq_false g4
      refine ⟨rfl, rfl, _, ?_, rfl⟩
      rw [mkCut_den, hs]
      generalize hmh : vint ((hi.getD (mkLen x)).den ρ φ) = mh at eh g1 g2 g4
      generalize hml : vint ((lo.getD (.int .i64 0)).den ρ φ) = ml at el g3 g4
      obtain ⟨a, rfl⟩ : ∃ n : Nat, mh = Int.ofNat n := ⟨mh.toNat, (Int.toNat_of_nonneg (by omega)).symm⟩
      obtain ⟨b, rfl⟩ : ∃ n : Nat, ml = Int.ofNat n := ⟨ml.toNat, (Int.toNat_of_nonneg (by omega)).symm⟩
      have ha : a ≤ s.size := by
        have : ¬ (s.size : Int) < (a : Int) := g2
        omega
      have hba : b ≤ a := by
        have : ¬ (a : Int) < (b : Int) := g4
        omega
      have hhi : ∀ c, (match hi.map (·.den ρ φ) with | some v => Instr.sliceBound v s.size c | none => pure s.size : Sem Nat).run cx.P w = .ok a w := by
        intro c
        cases hi with
        | none =>
          simp only [Option.getD_none] at eh
          rw [hlen] at eh
          simp only [Value.int.injEq] at eh
          have : s.size = a := Int.ofNat.inj eh.2
          simp [this]
        | some e =>
          simp only [Option.getD_some] at eh
          simp only [Option.map_some, eh]
          exact bound_ok c ha
      have hlo : ∀ c, (match lo.map (·.den ρ φ) with | some v => Instr.sliceBound v a c | none => pure 0 : Sem Nat).run cx.P w = .ok b w := by
        intro c
        cases lo with
        | none =>
          simp only [Option.getD_none, E.den, Value.int.injEq] at el
          have : b = 0 := by
            have := el.2
            have : (0 : Int) = (b : Int) := this
            omega
          simp [this]
        | some e =>
          simp only [Option.getD_some] at el
          simp only [Option.map_some, el]
          exact bound_ok c hba
      have hall : (Instr.sliceBounds false s.size s.size (lo.map (·.den ρ φ)) (hi.map (·.den ρ φ)) none).run cx.P w = .ok (b, a, s.size) w := by
        have h1 := hhi .sliceAlen
        have h2 := hlo .sliceB
        cases hi <;> cases lo <;> simp only [Option.map_some, Option.map_none] at h1 h2 ⊢ <;> unfold Instr.sliceBounds <;> simp_all
      simp only [vcut]
      simp [Instr.sliceAt, Instr.slice, run_underlying hu, hall]
    · exact absurd h (by simp)
  · exact absurd h (by simp)

/-! ### New blocks, stores -/
theorem storeX_does (F : Fits cx.Γ cx.S ρ φ) (H : M ρ φ fx L B β a w) {t : TypeId} {c : SC} {v : SV} {δ : Dl} {x y : Value} {nid : Nat} {o : Oper} (h : storeX cx B t c v = .ok δ) (hc : c.is ρ φ β x)
    (hv : v.is ρ φ β y) (ho : execOp a.eval o = (do Instr.storeAt t x y; pure .skip)) : Does ρ φ cx.P fx.w0.heap.size fx.X o a w β nid δ := by
  unfold storeX at h
  split at h
  · rename_i id off ag n cs ht hcs
    split at h
    · rename_i row hr
      split at h
      · rename_i hcond
        simp only [Bool.and_eq_true] at hcond
        obtain ⟨⟨h1, h2⟩, h3⟩ := hcond
        have h1 := Nat.eq_of_beq_eq_true h1
        have h2 := Nat.le_of_ble_eq_true h2
        simp only [OR.ok.injEq] at h
        subst h
        obtain ⟨b, hb, rfl⟩ := hc
        obtain ⟨b', vs, T, hb', hlo, hh, ha⟩ := H.box id row hr
        rw [hb] at hb'
        simp only [Option.some.injEq] at hb'
        subst hb'
        obtain ⟨us, hus, hau, hone⟩ := SV.cells_is F hcs h3 hv
        have hul := hau.length
        have hlen : off + 0 + us.length ≤ vs.toArray.size := by
          have := ha.length
          simp only [List.size_toArray]
          omega
        have hrun := run_storeCells_at cx.P b off T us 0 vs.toArray w hh hlen hone
        intro K Q hk
        have hx : (execOp a.eval o).run cx.P w = .ok .skip (w.setRow b (spl vs off us).toArray) := by
          rw [ho]
          have hsz : us.length = n := by omega
          simp only [Instr.storeAt, Instr.sureAddr, Sem.run_bind, Sem.run_pure, Result.andThen_ok, storeVar, (tyx_run ht _).2, hus]
          rw [if_neg (by simp [hsz])]
          rw [hrun]
          simp [spl]
        simp only [Oper.wp, hx, Oper.upon]
        refine hk β undef _ ⟨Ext.refl _, fun _ _ h => Or.inl h, ⟨rfl, rfl, rfl, by simp, fun k hk => by omega⟩, fun id b h => by have := H.inh _ _ h; simpa using this, fun k hk hne => ?_, fun i o c hw => ?_, by simp, fun i o c hw b1 vs1 T1 hb1 hh1 => ?_⟩ rfl
        · exact setRow_other w b k _ (fun e => hne id off cs rfl (by rw [e]; exact hb))
        · simp only [Option.some.injEq, Prod.mk.injEq] at hw
          obtain ⟨rfl, rfl, rfl⟩ := hw
          exact ⟨b, hb, hlo⟩
        · simp only [Option.some.injEq, Prod.mk.injEq] at hw
          obtain ⟨rfl, rfl, rfl⟩ := hw
          rw [hb] at hb1
          simp only [Option.some.injEq] at hb1
          subst hb1
          rw [hh] at hh1
          simp only [Option.some.injEq, Obj.cells.injEq, and_true] at hh1
          obtain ⟨hvv, rfl⟩ := hh1
          have hvv : vs = vs1 := by simpa using hvv
          subst hvv
          exact ⟨us, hau, setRow_heap w b _ _ _ _ hh⟩
      · exact absurd h (by simp)
    · exact absurd h (by simp)
  · exact absurd h (by simp)
end
end Go.SX

/- SX: new blocks; structs that are built; calls by their contracts. -/
namespace Go.SX
open Go Go.RowKit

def opdList (L : LK) : List (Nat × Operand) → Option (List (Nat × List SC))
  | [] => some []
  | (i, x) :: ps => match opd L x with
    | some s => match s.cells, opdList L ps with
      | some cs, some r => some ((i, cs) :: r)
      | _, _ => none
    | none => none

def allocX (cx : Cx) (nid : Nat) (t : TypeId) : OR :=
  match cx.P.info? t with
  | some i => match i.zero with
    | some z => .ok ⟨.one ⟨false, [.ptr nid 0]⟩, some (z.cells.toList.map constSC), none⟩
    | none => .stuck
  | none => .stuck

def boxX (cx : Cx) (nid : Nat) (v : SV) : OR :=
  match v.cells with
  | some cs => if cs.all (SC.cell cx) then .ok ⟨.one ⟨false, [.ptr nid 0]⟩, some cs, none⟩ else .stuck
  | none => .stuck

def zeroCells (cx : Cx) (t : TypeId) : Option (List SC) :=
  match cx.P.info? t with
  | some i => i.zero.map fun z => z.cells.toList.map constSC
  | none => none

def placesX (cx : Cx) : List Field → Option (List (Nat × Nat))
  | [] => some []
  | f :: fs => match tyx cx.P f.type, placesX cx fs with
    | some (_, n), some r => some ((f.offset, n) :: r)
    | _, _ => none

def buildX (cx : Cx) (L : LK) (t : TypeId) (parts : List (Nat × Operand)) : OR :=
  match cx.P.underlying t, zeroCells cx t, opdList L parts with
  | some (.struct fs), some z, some ps =>
    if ps.all (fun p => p.2.all (SC.cell cx)) then
      match placesX cx fs.toList with
      | some pl => match sfill (fun i => pl[i]?) z ps with
        | some cs => vV (.one ⟨true, cs⟩)
        | none => .stuck
      | none => .stuck
    else .stuck
  | some (.array _ e), some z, some ps =>
    if ps.all (fun p => p.2.all (SC.cell cx)) then
      match tyx cx.P e with
      | some (_, n) => match sfill (fun i => some (i * n, n)) z ps with
        | some cs => vV (.one ⟨true, cs⟩)
        | none => .stuck
      | none => .stuck
    else .stuck
  | _, _, _ => .stuck

/-- 'n' zeros of 'z', one behind the other. -/
def reps (z : List SC) : Nat → List SC
  | 0 => []
  | n + 1 => z ++ reps z n

def buildSliceX (cx : Cx) (L : LK) (nid : Nat) (t : TypeId) (len : Nat) (parts : List (Nat × Operand)) : OR :=
  match cx.P.underlying t, opdList L parts with
  | some (.slice e), some ps =>
    match tyx cx.P e, zeroCells cx e with
    | some (_, n), some z =>
      if ps.all (fun p => p.2.all (SC.cell cx)) && Nat.ble (len * n) 16777216 && Nat.beq z.length n && Nat.blt 0 n then
        match sfill (fun i => some (i * n, n)) (reps z len) ps with
        | some cs => .ok ⟨.one ⟨false, [.slc nid 0 len len]⟩, some cs, none⟩
        | none => .stuck
      else .stuck
    | _, _ => .stuck
  | _, _ => .stuck

def extractX (v : SV) (i : Nat) : OR :=
  match v with
  | .tup ps => match ps[i]? with
    | some p => vV (.one p)
    | none => .stuck
  | .one _ => .stuck

section
variable {ρ : Nat → Value} {φ : Nat → List Value → List Value} {cx : Cx} {fx : Fx} {L : LK} {B : BK} {β : Nat → Option Nat} {a : Act} {w : World}

theorem opdList_is (F : Fits cx.Γ cx.S ρ φ) (H : M ρ φ fx L B β a w) : ∀ {ps : List (Nat × Operand)} {r : List (Nat × List SC)}, opdList L ps = some r →
    r.all (fun p => p.2.all (SC.cell cx)) = true →
    All2 (fun (p : Nat × List SC) (q : Nat × Value) => p.1 = q.1 ∧ ∃ us : List Value, q.2.cells = us.toArray ∧ All2 (SC.is ρ φ β) p.2 us) r (ps.map fun (i, x) => (i, a.eval x))
  | [], r, h, _ => by
    simp only [opdList, Option.some.injEq] at h
    subst h
    trivial
  | (i, x) :: ps, r, h, hc => by
    simp only [opdList] at h
    split at h
    · rename_i s hs
      split at h
      · rename_i cs r' hcs hr
        simp only [Option.some.injEq] at h
        subst h
        simp only [List.all_cons, Bool.and_eq_true] at hc
        obtain ⟨us, h1, h2, _⟩ := SV.cells_is F hcs hc.1 (opd_is H hs)
        exact ⟨⟨rfl, us, h1, h2⟩, opdList_is F H hr hc.2⟩
      · exact absurd h (by simp)
    · exact absurd h (by simp)

theorem allocX_does (H : M ρ φ fx L B β a w) {t : TypeId} {nid : Nat} {δ : Dl} {o : Oper} (hn : β nid = none) (h : allocX cx nid t = .ok δ)
    (ho : execOp a.eval o = (do pure (.value (← Instr.alloc t true (.tuple #[]))))) : Does ρ φ cx.P fx.w0.heap.size fx.X o a w β nid δ := by
  unfold allocX at h
  split at h
  · rename_i i hi
    split at h
    · rename_i z hz
      simp only [OR.ok.injEq] at h
      subst h
      refine does_new (x := .pointer (some ⟨w.heap.size, 0, none⟩)) (vs := z.cells.toList) (T := t) H.inh hn ?_ ⟨_, updB_self _ _ _, rfl⟩ (constSC_all _)
      rw [ho]
      simp [Instr.alloc, zeroValue, typeInfo, hi, hz, newVar, newRow]
    · exact absurd h (by simp)
  · exact absurd h (by simp)

theorem boxX_does (F : Fits cx.Γ cx.S ρ φ) (H : M ρ φ fx L B β a w) {t : TypeId} {nid : Nat} {δ : Dl} {o : Oper} {v : SV} {x : Value} (hn : β nid = none) (h : boxX cx nid v = .ok δ) (hv : v.is ρ φ β x)
    (ho : execOp a.eval o = (do pure (.value (← Instr.box t x)))) : Does ρ φ cx.P fx.w0.heap.size fx.X o a w β nid δ := by
  unfold boxX at h
  split at h
  · rename_i cs hcs
    split at h
    · rename_i hc
      simp only [OR.ok.injEq] at h
      subst h
      obtain ⟨us, h1, h2, _⟩ := SV.cells_is F hcs hc hv
      refine does_new (x := .pointer (some ⟨w.heap.size, 0, none⟩)) (vs := us) (T := t) H.inh hn ?_ ⟨_, updB_self _ _ _, rfl⟩ h2
      rw [ho]
      simp [Instr.box, newVar, newRow, h1]
    · exact absurd h (by simp)
  · exact absurd h (by simp)

theorem zeroCells_run {t : TypeId} {cs : List SC} (h : zeroCells cx t = some cs) (w : World) : ∃ z : Value, (zeroValue t).run cx.P w = .ok z w ∧ cs = z.cells.toList.map constSC := by
  unfold zeroCells at h
  split at h
  · rename_i i hi
    simp only [Option.map_eq_some_iff] at h
    obtain ⟨z, hz, rfl⟩ := h
    exact ⟨z, by simp [zeroValue, typeInfo, hi, hz], rfl⟩
  · exact absurd h (by simp)

theorem placesX_run : ∀ {fs : List Field} {pl : List (Nat × Nat)}, placesX cx fs = some pl → ∀ w, 
    (fs.mapM (m := Sem) fun f => do pure (f.offset, ← sizeOf f.type)).run cx.P w = .ok pl w
  | [], pl, h, w => by
    simp only [placesX, Option.some.injEq] at h
    subst h
    simp
  | f :: fs, pl, h, w => by
    simp only [placesX] at h
    split at h
    · rename_i ag n r ht hr
      simp only [Option.some.injEq] at h
      subst h
      have ih := placesX_run hr w
      simp only [List.mapM_cons, Sem.run_bind, (tyx_run ht _).2, Result.andThen_ok, Sem.run_pure, ih]
    · exact absurd h (by simp)

theorem buildX_run (F : Fits cx.Γ cx.S ρ φ) (H : M ρ φ fx L B β a w) {t : TypeId} {parts : Array (Nat × Operand)} {δ : Dl} (h : buildX cx L t parts.toList = .ok δ) :
    Reads ρ φ β cx.P w δ (Instr.build t (parts.map fun (i, x) => (i, a.eval x))) := by
  unfold buildX at h
  split at h
  · rename_i fs z ps hu hz hps
    split at h
    · rename_i hc
      split at h
      · rename_i pl hpl
        split at h
        · rename_i cs hcs
          have := vV_ok h
          subst this
          obtain ⟨zv, hzr, rfl⟩ := zeroCells_run hz w
          obtain ⟨ws, hw1, hw2⟩ := sfill_run hcs (constSC_all _) (opdList_is F H hps hc)
          refine ⟨rfl, rfl, .agg ws.toArray, ?_, _, rfl, hw2⟩
          have hplr := placesX_run hpl w
          simp only [Instr.build, Sem.run_bind, hzr, Result.andThen_ok, run_underlying hu]
          rw [Array.mapM_eq_mapM_toList]
          simp only [Sem.run_map, hplr, Result.andThen_ok]
          have e : (fun x : Nat => pl.toArray[x]?) = (fun i : Nat => pl[i]?) := by funext i; simp
          simp only [e]
          have e2 : (parts.map fun (x : Nat × Operand) => (x.1, a.eval x.2)).toList = parts.toList.map fun (i, x) => (i, a.eval x) := by simp
          rw [e2]
          have e3 : zv.cells = zv.cells.toList.toArray := by simp
          rw [e3, hw1]
          simp
        · exact absurd h (by simp)
      · exact absurd h (by simp)
    · exact absurd h (by simp)
  · rename_i m e z ps hu hz hps
    split at h
    · rename_i hc
      split at h
      · rename_i ag n ht
        split at h
        · rename_i cs hcs
          have := vV_ok h
          subst this
          obtain ⟨zv, hzr, rfl⟩ := zeroCells_run hz w
          obtain ⟨ws, hw1, hw2⟩ := sfill_run hcs (constSC_all _) (opdList_is F H hps hc)
          refine ⟨rfl, rfl, .agg ws.toArray, ?_, _, rfl, hw2⟩
          simp only [Instr.build, Sem.run_bind, hzr, Result.andThen_ok, run_underlying hu, (tyx_run ht _).2]
          have e2 : (parts.map fun (x : Nat × Operand) => (x.1, a.eval x.2)).toList = parts.toList.map fun (i, x) => (i, a.eval x) := by simp
          rw [e2]
          have e3 : zv.cells = zv.cells.toList.toArray := by simp
          rw [e3, hw1]
          simp
        · exact absurd h (by simp)
      · exact absurd h (by simp)
    · exact absurd h (by simp)
  · exact absurd h (by simp)

theorem extractX_run {v : SV} {i : Nat} {δ : Dl} {x : Value} (h : extractX v i = .ok δ) (hv : v.is ρ φ β x) : Reads ρ φ β cx.P w δ (Instr.extract x i) := by
  unfold extractX at h
  split at h
  · rename_i ps
    obtain ⟨vs, rfl, ha⟩ := hv
    split at h
    · rename_i p hp
      have := vV_ok h
      subst this
      obtain ⟨u, hu, hpu⟩ := ha.get hp
      exact ⟨rfl, rfl, u, by simp [Instr.extract, hu], hpu⟩
    · exact absurd h (by simp)
  · exact absurd h (by simp)

def repsV (z : List Value) : Nat → List Value
  | 0 => []
  | n + 1 => z ++ repsV z n
theorem reps_all {z : List SC} {zs : List Value} (h : All2 (SC.is ρ φ β) z zs) : ∀ n, All2 (SC.is ρ φ β) (reps z n) (repsV zs n)
  | 0 => trivial
  | n + 1 => All2.append h (reps_all h n)
theorem repsV_range (zs : List Value) (hz : 0 < zs.length) : ∀ n, (List.range (n * zs.length)).map (fun i => zs.toArray[i % zs.toArray.size]!) = repsV zs n
  | 0 => by simp [repsV]
  | n + 1 => by
    have e : (n + 1) * zs.length = zs.length + n * zs.length := by rw [Nat.add_mul, Nat.one_mul, Nat.add_comm]
    rw [e, List.range_add, List.map_append, List.map_map]
    simp only [repsV]
    congr 1
    · apply List.ext_getElem
      · simp
      · intro i h1 h2
        simp only [List.getElem_map, List.getElem_range, List.size_toArray]
        rw [Nat.mod_eq_of_lt h2]
        simp [h2]
    · rw [← repsV_range zs hz n]
      apply List.map_congr_left
      intro i _
      simp only [Function.comp, List.size_toArray, Nat.add_mod_left]

theorem buildSliceX_does (F : Fits cx.Γ cx.S ρ φ) (H : M ρ φ fx L B β a w) {t : TypeId} {len : Nat} {parts : Array (Nat × Operand)} {nid : Nat} {δ : Dl} {o : Oper} (hn : β nid = none)
    (h : buildSliceX cx L nid t len parts.toList = .ok δ) (ho : execOp a.eval o = (do pure (.value (← Instr.buildSlice t len (parts.map fun (i, x) => (i, a.eval x)))))) :
    Does ρ φ cx.P fx.w0.heap.size fx.X o a w β nid δ := by
  unfold buildSliceX at h
  split at h
  · rename_i e ps hu hps
    split at h
    · rename_i ag n z ht hz
      split at h
      · rename_i hc
        simp only [Bool.and_eq_true] at hc
        obtain ⟨⟨⟨hc, h1⟩, h2⟩, h3⟩ := hc
        have h1 := Nat.le_of_ble_eq_true h1
        have h2 := Nat.eq_of_beq_eq_true h2
        have h3 : 0 < n := by unfold Nat.blt at h3; exact Nat.lt_of_succ_le (Nat.le_of_ble_eq_true h3)
        split at h
        · rename_i cs hcs
          simp only [OR.ok.injEq] at h
          subst h
          obtain ⟨zv, hzr, rfl⟩ := zeroCells_run hz w
          have hzl : zv.cells.toList.length = n := by simpa using h2
          have hrep := repsV_range zv.cells.toList (by omega) len
          obtain ⟨ws, hw1, hw2⟩ := sfill_run hcs (reps_all (constSC_all zv.cells.toList) len) (opdList_is F H hps hc)
          refine does_new (x := .slice (some ⟨w.heap.size, 0, none⟩) len len) (vs := ws) (T := e) H.inh hn ?_ ⟨_, updB_self _ _ _, rfl⟩ hw2
          rw [ho]
          have e1 : ((Array.range (len * n)).map fun i => zv.cells[i % zv.cells.size]!) = (repsV zv.cells.toList len).toArray := by
            apply Array.ext'
            rw [← hrep, hzl]
            simp
          have e2 : (parts.map fun (x : Nat × Operand) => (x.1, a.eval x.2)).toList = parts.toList.map fun (i, x) => (i, a.eval x) := by simp
          have e4 : ¬ len * n > 2 ^ 24 := by omega
          by_cases hl : len = 0
          · subst hl
            have hz0 : (repsV zv.cells.toList 0) = [] := rfl
            simp only [Instr.buildSlice, Sem.run_bind, run_underlying hu, Result.andThen_ok, (tyx_run ht _).2, Nat.zero_mul, if_true, Sem.run_pure]
            rw [e2, if_neg (show ¬ 0 > 2 ^ 24 by decide)]
            simp only [pure_bind]
            have : ((Array.range 0).map fun x => (#[] : Array Value)[x % (#[] : Array Value).size]!) = (repsV zv.cells.toList 0).toArray := by simp [hz0]
            rw [this, hw1]
            simp [newRow]
          · have hne : ¬ len * n = 0 := by
              have := Nat.mul_pos (Nat.pos_of_ne_zero hl) h3
              omega
            simp only [Instr.buildSlice, Sem.run_bind, run_underlying hu, Result.andThen_ok, (tyx_run ht _).2, if_neg e4, if_neg hne, hzr, Sem.run_pure]
            rw [e2, e1, hw1]
            simp [newRow]
        · exact absurd h (by simp)
      · exact absurd h (by simp)
    · exact absurd h (by simp)
  · exact absurd h (by simp)
end
end Go.SX
