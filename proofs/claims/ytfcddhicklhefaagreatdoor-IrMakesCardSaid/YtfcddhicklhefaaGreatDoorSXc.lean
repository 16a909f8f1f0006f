/- SX: what a state says of a frame and a world; what an operation leaves of it. -/
import Derived.Test.YtfcddhicklhefaaGreatDoorSXq
namespace Go.SX
open Go Go.RowKit

/-- The frame: how many temporaries; which may be written; what they held; the world at the start, and the blocks of it that may be written. -/
structure Fm where
  N : Nat
  W : Option (List Nat)
structure Fx where
  fm : Fm
  a0 : Array Value
  X : List Nat
  w0 : World
def hasN (t : Nat) : List Nat → Bool
  | [] => false
  | d :: ds => Nat.beq d t || hasN t ds
def Fm.may (fm : Fm) (t : Nat) : Bool :=
  match fm.W with
  | none => true
  | some l => hasN t l

/-- What stood at the start stands, but for some blocks. -/
structure LowX (X : List Nat) (w w' : World) : Prop where
  os : w'.os = w.os
  tape : w'.tape = w.tape
  output : w'.output = w.output
  size : w.heap.size ≤ w'.heap.size
  block : ∀ k, k < w.heap.size → k ∉ X → w'.heap[k]? = w.heap[k]?
theorem LowX.refl (X : List Nat) (w : World) : LowX X w w := ⟨rfl, rfl, rfl, Nat.le_refl _, fun _ _ _ => rfl⟩
theorem LowX.drew {X : List Nat} {a w : World} (h : LowX X a w) : LowX X a w.drew := ⟨h.os, h.tape, h.output, h.size, h.block⟩
theorem LowX.below {w w' : World} (h : LowX [] w w') : Below w.heap.size w w' := ⟨h.os, h.tape, h.output, h.size, fun k hk => h.block k hk (by simp)⟩

structure M (ρ : Nat → Value) (φ : Nat → List Value → List Value) (fx : Fx) (L : LK) (B : BK) (β : Nat → Option Nat) (a : Act) (w : World) : Prop where
  tmps : ∀ t s, L t = some s → ∃ x, a.tmps[t]? = some x ∧ s.is ρ φ β x
  size : a.tmps.size = fx.fm.N
  dfr : a.defers = []
  frm : ∀ t, fx.fm.may t = false → a.tmps[t]? = fx.a0[t]?
  low : LowX fx.X fx.w0 w
  box : ∀ id row, B id = some row → ∃ b, ∃ vs : List Value, ∃ T, β id = some b ∧ (fx.w0.heap.size ≤ b ∨ b ∈ fx.X) ∧ w.heap[b]? = some (.cells vs.toArray T (0, 0)) ∧ All2 (SC.is ρ φ β) row vs
  inj : ∀ id id' b, β id = some b → β id' = some b → id = id'
  inh : ∀ id b, β id = some b → b < w.heap.size

section
variable {ρ : Nat → Value} {φ : Nat → List Value → List Value} {fx : Fx}
/-- Who knows less. -/
theorem M.less {L L' : LK} {B B' : BK} {β : Nat → Option Nat} {a : Act} {w : World} (hL : ∀ t s, L' t = some s → L t = some s) (hB : ∀ id r, B' id = some r → B id = some r)
    (H : M ρ φ fx L B β a w) : M ρ φ fx L' B' β a w :=
  ⟨fun t s h => H.tmps t s (hL t s h), H.size, H.dfr, H.frm, H.low, fun id r h => H.box id r (hB id r h), H.inj, H.inh⟩
theorem M.drew {L : LK} {B : BK} {β : Nat → Option Nat} {a : Act} {w : World} (H : M ρ φ fx L B β a w) : M ρ φ fx L B β a w.drew :=
  ⟨H.tmps, H.size, H.dfr, H.frm, H.low.drew, H.box, H.inj, H.inh⟩

theorem opd_is {L : LK} {B : BK} {β : Nat → Option Nat} {a : Act} {w : World} (H : M ρ φ fx L B β a w) {x : Operand} {s : SV} (h : opd L x = some s) : s.is ρ φ β (a.eval x) := by
  cases x with
  | tmp t =>
    obtain ⟨v, hv, hs⟩ := H.tmps t s h
    simp only [Act.eval, Array.getD_eq_getD_getElem?, hv, Option.getD_some]
    exact hs
  | const v => simp only [opd, Option.some.injEq] at h; subst h; exact constSV_is v
  | global g => simp [opd] at h
  | func f => simp only [opd, Option.some.injEq] at h; subst h; rfl
end

/-- A slice that came in reads as its variables say. -/
def Vw.ok (v : Vw) (ρ : Nat → Value) (fx : Fx) : Prop :=
  ∃ a len cap, ∃ vs : List Value, ρ v.i = .slice a len cap ∧ ρ v.l = .int .i64 (Int.ofNat len) ∧ ρ v.g = .tuple vs.toArray ∧ vs.length = len * v.ss.length ∧ len ≤ cap ∧ len ≤ 4611686018427387904 ∧ 0 < v.ss.length ∧
    (∀ i u, vs[i]? = some u → (v.ss.getD (i % v.ss.length) .any).has u) ∧
    ((a = none ∧ len = 0 ∧ cap = 0) ∨ ∃ b off, a = some ⟨b, off, none⟩ ∧ b < fx.w0.heap.size ∧ b ∉ fx.X ∧ ∀ i u, vs[i]? = some u → fx.w0.cell? ⟨b, off + i, none⟩ = some u)
def Views (cx : Cx) (ρ : Nat → Value) (fx : Fx) : Prop := ∀ v ∈ cx.vw, v.ok ρ fx
theorem M.old {ρ : Nat → Value} {φ : Nat → List Value → List Value} {fx : Fx} {L : LK} {B : BK} {β : Nat → Option Nat} {a : Act} {w : World} (H : M ρ φ fx L B β a w) {b o : Nat} (hb : b < fx.w0.heap.size) (hX : b ∉ fx.X) :
    w.cell? ⟨b, o, none⟩ = fx.w0.cell? ⟨b, o, none⟩ := World.cell?_of_block (w := fx.w0) (H.low.block b hb hX)

/-- What an operation has done to the world. -/
structure Eff (ρ : Nat → Value) (φ : Nat → List Value → List Value) (lo : Nat) (X : List Nat) (δ : Dl) (nid : Nat) (β β' : Nat → Option Nat) (w w' : World) : Prop where
  ext : Ext β β'
  old : ∀ id b, β' id = some b → β id = some b ∨ (id = nid ∧ w.heap.size ≤ b)
  low : Below 0 w w'
  inh : ∀ id b, β' id = some b → b < w'.heap.size
  keep : ∀ b, b < w.heap.size → (∀ id off cs, δ.wr = some (id, off, cs) → β id ≠ some b) → w'.heap[b]? = w.heap[b]?
  wlo : ∀ id off cs, δ.wr = some (id, off, cs) → ∃ b, β id = some b ∧ (lo ≤ b ∨ b ∈ X)
  new : ∀ row, δ.new = some row → ∃ b, ∃ vs : List Value, ∃ T, β' nid = some b ∧ w.heap.size ≤ b ∧ w'.heap[b]? = some (.cells vs.toArray T (0, 0)) ∧ All2 (SC.is ρ φ β') row vs
  wr : ∀ id off cs, δ.wr = some (id, off, cs) → ∀ b vs T, β id = some b → w.heap[b]? = some (.cells (List.toArray vs) T (0, 0)) →
    ∃ us, All2 (SC.is ρ φ β) cs us ∧ w'.heap[b]? = some (.cells (spl vs off us).toArray T (0, 0))

def putL (L : LK) (dst : Option Tmp) (s : SV) : LK := fun t => match dst with
  | some d => if Nat.beq d t then some s else L t
  | none => L t
def effW (B : BK) (wr : Option (Nat × Nat × List SC)) : BK := fun id =>
  match wr with
  | some (i, off, cs) => if Nat.beq i id then (B id).map (spl · off cs) else B id
  | none => B id
def effB (B : BK) (δ : Dl) (nid : Nat) : BK := fun id =>
  match δ.new with
  | some row => if Nat.beq id nid then some row else effW B δ.wr id
  | none => effW B δ.wr id

section
variable {ρ : Nat → Value} {φ : Nat → List Value → List Value} {fx : Fx}
theorem All2.spl {α γ : Type} {R : α → γ → Prop} {as : List α} {bs : List γ} {us : List α} {xs : List γ} (off : Nat) (h : All2 R as bs) (h' : All2 R us xs) : All2 R (spl as off us) (spl bs off xs) := by
  unfold SX.spl
  rw [h'.length]
  exact (All2.append (h.take off) h').append (h.drop _)

theorem put_tmps {L : LK} {β : Nat → Option Nat} {a : Act} (H : ∀ t s, L t = some s → ∃ x, a.tmps[t]? = some x ∧ s.is ρ φ β x) {dst : Option Tmp} {s : SV} {x : Value} (hd : ∀ d, dst = some d → d < a.tmps.size)
    (hs : s.is ρ φ β x) : ∀ t u, putL L dst s t = some u → ∃ y, (a.put dst x).tmps[t]? = some y ∧ u.is ρ φ β y := by
  intro t u h
  cases dst with
  | none => exact H t u h
  | some d =>
    simp only [putL] at h
    by_cases hdt : d = t
    · subst hdt
      simp only [Nat.beq_refl, if_true, Option.some.injEq] at h
      subst h
      exact ⟨x, by simp [Act.put, hd d rfl], hs⟩
    · have : Nat.beq d t = false := by
        cases hq : Nat.beq d t with
        | false => rfl
        | true => exact absurd (Nat.eq_of_beq_eq_true hq) hdt
      simp only [this, Bool.false_eq_true, if_false] at h
      obtain ⟨y, hy, hu⟩ := H t u h
      exact ⟨y, by simp only [Act.put]; rw [Array.getElem?_setIfInBounds_ne hdt]; exact hy, hu⟩

/-- Behind an operation. -/
theorem M.step {L : LK} {B : BK} {β β' : Nat → Option Nat} {a : Act} {w w' : World} {δ : Dl} {nid : Nat} {dst : Option Tmp} {x : Value}
    (H : M ρ φ fx L B β a w) (hn : β nid = none) (E : Eff ρ φ fx.w0.heap.size fx.X δ nid β β' w w') (hd : ∀ d, dst = some d → d < fx.fm.N ∧ fx.fm.may d = true) (hx : δ.v.is ρ φ β' x) :
    M ρ φ fx (putL L dst δ.v) (effB B δ nid) β' (a.put dst x) w' := by
  have hwlt : ∀ id b, β id = some b → b < w.heap.size := H.inh
  have hB : ∀ id row, (∀ i off cs, δ.wr = some (i, off, cs) → i ≠ id) → B id = some row → ∃ b, ∃ vs : List Value, ∃ T, β' id = some b ∧ (fx.w0.heap.size ≤ b ∨ b ∈ fx.X) ∧ w'.heap[b]? = some (.cells vs.toArray T (0, 0)) ∧ All2 (SC.is ρ φ β') row vs := by
    intro id row hi h
    obtain ⟨b, vs, T, hb, hlo, hh, ha⟩ := H.box id row h
    refine ⟨b, vs, T, E.ext _ _ hb, hlo, ?_, ha.mono fun _ _ => SC.is_ext E.ext⟩
    rw [E.keep b (hwlt _ _ hb) ?_, hh]
    intro i off cs hw hib
    exact hi i off cs hw (H.inj _ _ _ hib hb)
  have hB' : ∀ id row i off cs, δ.wr = some (i, off, cs) → i = id → B id = some row → ∃ b, ∃ vs : List Value, ∃ T, β' id = some b ∧ (fx.w0.heap.size ≤ b ∨ b ∈ fx.X) ∧ w'.heap[b]? = some (.cells vs.toArray T (0, 0)) ∧ All2 (SC.is ρ φ β') (spl row off cs) vs := by
    intro id row i off cs hw hi h
    subst hi
    obtain ⟨b, vs, T, hb, hlo, hh, ha⟩ := H.box i row h
    obtain ⟨us, hus, hh'⟩ := E.wr i off cs hw b vs T hb hh
    exact ⟨b, _, T, E.ext _ _ hb, hlo, hh', ((ha.spl off hus).mono fun _ _ => SC.is_ext E.ext)⟩
  refine ⟨?_, ?_, ?_, ?_, ?_, ?_, ?_, E.inh⟩
  · refine put_tmps (fun t s h => ?_) (fun d hd' => by rw [H.size]; exact (hd d hd').1) hx
    obtain ⟨y, hy, hs⟩ := H.tmps t s h
    exact ⟨y, hy, SV.is_ext E.ext hs⟩
  · cases dst with
    | none => exact H.size
    | some d => simp [Act.put, H.size]
  · cases dst with
    | none => exact H.dfr
    | some d => exact H.dfr
  · intro t ht
    cases dst with
    | none => exact H.frm t ht
    | some d =>
      have hdt : d ≠ t := by
        intro e
        subst e
        rw [(hd d rfl).2] at ht
        exact absurd ht (by simp)
      simp only [Act.put]
      rw [Array.getElem?_setIfInBounds_ne hdt]
      exact H.frm t ht
  · refine ⟨E.low.os.trans H.low.os, E.low.tape.trans H.low.tape, E.low.output.trans H.low.output, Nat.le_trans H.low.size E.low.size, fun b hb hbX => ?_⟩
    have hb' : b < w.heap.size := Nat.lt_of_lt_of_le hb H.low.size
    rw [← H.low.block b hb hbX]
    refine E.keep b hb' fun id off cs hw hbid => ?_
    obtain ⟨b', h1, h2⟩ := E.wlo id off cs hw
    rw [hbid] at h1
    simp only [Option.some.injEq] at h1
    subst h1
    rcases h2 with h2 | h2
    · omega
    · exact hbX h2
  · intro id row h
    have rest : effW B δ.wr id = some row →
        ∃ b, ∃ vs : List Value, ∃ T, β' id = some b ∧ (fx.w0.heap.size ≤ b ∨ b ∈ fx.X) ∧ w'.heap[b]? = some (.cells vs.toArray T (0, 0)) ∧ All2 (SC.is ρ φ β') row vs := by
      intro h
      unfold effW at h
      split at h
      · rename_i i off cs hw
        split at h
        · rename_i hi
          have hi := Nat.eq_of_beq_eq_true hi
          simp only [Option.map_eq_some_iff] at h
          obtain ⟨r, hr, rfl⟩ := h
          exact hB' id r i off cs hw hi hr
        · rename_i hi
          refine hB id row (fun i' off' cs' hw' => ?_) h
          rw [hw] at hw'
          simp only [Option.some.injEq, Prod.mk.injEq] at hw'
          intro e
          rw [hw'.1, e] at hi
          simp at hi
      · rename_i hw
        exact hB id row (fun i' off' cs' hw' => by rw [hw] at hw'; simp at hw') h
    unfold effB at h
    split at h
    · rename_i r hr
      split at h
      · rename_i hi
        have hi := Nat.eq_of_beq_eq_true hi
        simp only [Option.some.injEq] at h
        subst hi h
        obtain ⟨b, vs, T, hb, hlo, hh, ha⟩ := E.new _ hr
        exact ⟨b, vs, T, hb, Or.inl (Nat.le_trans H.low.size hlo), hh, ha⟩
      · exact rest h
    · exact rest h
  · intro id id' b h h'
    rcases E.old id b h with h1 | ⟨h1, h1'⟩
    · rcases E.old id' b h' with h2 | ⟨h2, h2'⟩
      · exact H.inj _ _ _ h1 h2
      · have := hwlt _ _ h1; omega
    · rcases E.old id' b h' with h2 | ⟨h2, h2'⟩
      · have := hwlt _ _ h2; omega
      · rw [h1, h2]

/-- Behind an operation that is not carried out. -/
theorem M.skip {L : LK} {B : BK} {β : Nat → Option Nat} {a : Act} {w : World} {dst : Option Tmp} (H : M ρ φ fx L B β a w) (hd : ∀ d, dst = some d → d < fx.fm.N ∧ fx.fm.may d = true) :
    M ρ φ fx (putL L dst undefSV) B β (a.put dst undef) w := by
  refine ⟨?_, ?_, ?_, ?_, H.low, H.box, H.inj, H.inh⟩
  · exact put_tmps H.tmps (fun d hd' => by rw [H.size]; exact (hd d hd').1) (show undefSV.is ρ φ β undef from rfl)
  · have := H.size
    cases dst <;> simp [Act.put, this]
  · have := H.dfr
    cases dst <;> exact this
  · intro t ht
    cases dst with
    | none => exact H.frm t ht
    | some d =>
      have hdt : d ≠ t := by
        intro e
        subst e
        rw [(hd d rfl).2] at ht
        exact absurd ht (by simp)
      simp only [Act.put]
      rw [Array.getElem?_setIfInBounds_ne hdt]
      exact H.frm t ht
end
end Go.SX
