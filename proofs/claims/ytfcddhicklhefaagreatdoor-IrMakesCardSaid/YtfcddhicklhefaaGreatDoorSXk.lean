/- SX: regions in the order of the text. -/
import Derived.Test.YtfcddhicklhefaaGreatDoorSXj
namespace Go.SX
open Go Go.RowKit

structure St where
  tmps : List (Nat × SV)
  boxes : List (Nat × List SC)
  next : Nat
  facts : Facts
  deriving Inhabited

def St.L (σ : St) : LK := fun t => lookA t σ.tmps
def St.B (σ : St) : BK := fun i => lookA i σ.boxes

/-- What a state says. -/
structure MS (ρ : Nat → Value) (φ : Nat → List Value → List Value) (fx : Fx) (σ : St) (β : Nat → Option Nat) (a : Act) (w : World) : Prop where
  m : M ρ φ fx σ.L σ.B β a w
  nxt : ∀ id, σ.next ≤ id → β id = none

inductive RR where
  | ok (σ : St) | split (c : E) | stuck

/-- Is an operation carried out: yes, no; it hangs on a term; unknown. -/
inductive GR where
  | yes | no | split (c : E) | stuck
def guardX (cx : Cx) (L : LK) (fs : Facts) (ops : Array Oper) (o : Oper) : GR :=
  match o.guard with
  | none => .yes
  | some (j, want) => match (ops[j]?).bind (·.dst) with
    | some t => match L t with
      | some s => match s.ex with
        | some (.val (.tuple _)) => .no
        | some e => if cx.so e = .bool then (match dec cx fs e with
            | some b => if b == want then .yes else .no
            | none => .split e) else .stuck
        | none => .stuck
      | none => .stuck
    | none => .stuck

def dstOk (fm : Fm) : Option Tmp → Bool
  | some d => Nat.blt d fm.N && fm.may d
  | none => true
theorem dstOk_lt {fm : Fm} {dst : Option Tmp} (h : dstOk fm dst = true) : ∀ d, dst = some d → d < fm.N ∧ fm.may d = true := by
  intro d hd
  subst hd
  simp only [dstOk, Bool.and_eq_true, Nat.blt] at h
  exact ⟨Nat.lt_of_succ_le (Nat.le_of_ble_eq_true h.1), h.2⟩

def putT (dst : Option Tmp) (s : SV) (l : List (Nat × SV)) : List (Nat × SV) :=
  match dst with
  | some d => (d, s) :: l
  | none => l
def wrB (wr : Option (Nat × Nat × List SC)) (l : List (Nat × List SC)) : List (Nat × List SC) :=
  match wr with
  | some (i, off, cs) => match lookA i l with
    | some row => (i, spl row off cs) :: l
    | none => l
  | none => l
def newB (new : Option (List SC)) (nid : Nat) (l : List (Nat × List SC)) : List (Nat × List SC) :=
  match new with
  | some row => (nid, row) :: l
  | none => l
def St.apply (σ : St) (dst : Option Tmp) (δ : Dl) : St :=
  { tmps := putT dst δ.v σ.tmps, boxes := newB δ.new σ.next (wrB δ.wr σ.boxes), next := σ.next + 1, facts := σ.facts }

def regT (cx : Cx) (N : Fm) (ops : Array Oper) : List Oper → St → RR
  | [], σ => .ok σ
  | o :: rest, σ =>
    if dstOk N o.dst then
      match guardX cx σ.L σ.facts ops o with
      | .yes => match opx cx σ.L σ.B σ.facts σ.next o.op with
        | .ok δ => regT cx N ops rest (σ.apply o.dst δ)
        | .split c => .split c
        | .stuck => .stuck
      | .no => regT cx N ops rest { σ with tmps := putT o.dst undefSV σ.tmps }
      | .split c => .split c
      | .stuck => .stuck
    else .stuck

section
variable {ρ : Nat → Value} {φ : Nat → List Value → List Value} {cx : Cx} {fx : Fx} {β : Nat → Option Nat} {a : Act} {w : World}

def asB : Value → Option Bool | .bool b => some b | _ => none
theorem guardX_ok (F : Fits cx.Γ cx.S ρ φ) {L : LK} {B : BK} (H : M ρ φ fx L B β a w) {fs : Facts} (hf : fs.hold ρ φ) {ops : Array Oper} {o : Oper} :
    (guardX cx L fs ops o = .yes → Region.wanted o (yielded ops a.tmps) = true) ∧ (guardX cx L fs ops o = .no → Region.wanted o (yielded ops a.tmps) = false) := by
  unfold guardX Region.wanted
  cases hg : o.guard with
  | none => simp
  | some g =>
    obtain ⟨j, want⟩ := g
    simp only
    cases ht : (ops[j]?).bind (·.dst) with
    | none => simp
    | some t =>
      simp only
      cases hs : L t with
      | none => simp
      | some s =>
        obtain ⟨x, hx, hsx⟩ := H.tmps t s hs
        have hy : yielded ops a.tmps j = asB x := by
          unfold yielded
          rw [ht]
          simp only [Option.bind_some, hx]
          cases x <;> rfl
        cases he : s.ex with
        | none => simp [he]
        | some e =>
          have hxe := SV.ex_is he hsx
          subst hxe
          simp only [he]
          split
          · rename_i vs heq
            simp only [Option.some.injEq] at heq
            subst heq
            rw [hy]
            simp [E.den, asB]
          · rename_i e' _ heq
            simp only [Option.some.injEq] at heq
            subst heq
            split
            · split
              · rename_i b hb
                have hb := dec_sound F hf hb
                rw [hy, hb]
                simp only [asB]
                constructor
                · intro h
                  split at h
                  · rename_i e; have e : b = want := by simpa using e
                    subst e; simp
                  · exact absurd h (by simp)
                · intro h
                  split at h
                  · exact absurd h (by simp)
                  · rename_i e; simpa using e
              · simp
            · simp
          · rename_i heq
            exact absurd heq (by simp)

theorem look_putT {dst : Option Tmp} {s : SV} {l : List (Nat × SV)} (t : Nat) : lookA t (putT dst s l) = putL (fun t => lookA t l) dst s t := by
  cases dst with
  | none => rfl
  | some d => rfl

theorem beq_comm' (a b : Nat) : Nat.beq a b = Nat.beq b a := by
  cases h : Nat.beq b a with
  | true => rw [Nat.eq_of_beq_eq_true h]; exact Nat.beq_refl _
  | false =>
    cases h' : Nat.beq a b with
    | true => rw [Nat.eq_of_beq_eq_true h', Nat.beq_refl] at h; exact absurd h (by simp)
    | false => rfl
theorem look_wrB {wr : Option (Nat × Nat × List SC)} {l : List (Nat × List SC)} {id : Nat} {r : List SC} (h : lookA id (wrB wr l) = some r) :
    effW (fun i => lookA i l) wr id = some r := by
  cases wr with
  | none => exact h
  | some p =>
    obtain ⟨i, off, cs⟩ := p
    simp only [wrB] at h
    simp only [effW]
    cases hrow : lookA i l with
    | none =>
      rw [hrow] at h
      simp only at h
      cases hi : Nat.beq i id with
      | false => simpa using h
      | true =>
        have hi' := Nat.eq_of_beq_eq_true hi
        subst hi'
        rw [hrow] at h
        exact absurd h (by simp)
    | some row =>
      rw [hrow] at h
      simp only [lookA] at h
      cases hi : Nat.beq i id with
      | false => rw [hi] at h; simpa using h
      | true =>
        have hi' := Nat.eq_of_beq_eq_true hi
        subst hi'
        rw [hi] at h
        simp only [if_true] at h
        simpa [hrow] using h
theorem look_boxes {δ : Dl} {nid : Nat} {l : List (Nat × List SC)} {id : Nat} {r : List SC} (h : lookA id (newB δ.new nid (wrB δ.wr l)) = some r) : effB (fun i => lookA i l) δ nid id = some r := by
  obtain ⟨v, new, wr⟩ := δ
  simp only at h
  cases new with
  | none => exact look_wrB h
  | some row =>
    simp only [newB, lookA] at h
    simp only [effB]
    rw [beq_comm'] at h
    cases hi : Nat.beq id nid with
    | true => rw [hi] at h; simpa using h
    | false => rw [hi] at h; simpa using look_wrB (by simpa using h)

theorem regT_sound (V : Views cx ρ fx) (F : Fits cx.Γ cx.S ρ φ) (C : CtSound cx φ) {ops : Array Oper} {Q : Exit → Act → World → Prop} : ∀ {rest : List Oper} {σ σ' : St} {β : Nat → Option Nat} {a : Act} {w : World}, regT cx fx.fm ops rest σ = .ok σ' →
    MS ρ φ fx σ β a w → σ.facts.hold ρ φ → (∀ β' a' w', MS ρ φ fx σ' β' a' w' → σ'.facts.hold ρ φ → Q .normal a' w') → wpList cx.P ops Q rest a w
  | [], σ, σ', β, a, w, h, H, hf, hQ => by
    simp only [regT, RR.ok.injEq] at h
    subst h
    exact hQ β a w H hf
  | o :: rest, σ, σ', β, a, w, h, H, hf, hQ => by
    simp only [regT] at h
    split at h
    · rename_i hd
      have hd := dstOk_lt hd
      have hg := guardX_ok (cx := cx) F H.m hf (ops := ops) (o := o)
      unfold wpList
      split at h
      · rename_i hy
        rw [if_pos (hg.1 hy)]
        refine Or.inl ?_
        split at h
        · rename_i δ hδ
          have hn := H.nxt σ.next (Nat.le_refl _)
          refine opx_does V F C H.m hf hn hδ _ _ fun β' x w' hE hx => ?_
          have hm := M.step (dst := o.dst) H.m hn hE hd hx
          refine regT_sound V F C h ⟨hm.less (fun t s ht => ?_) (fun id r hr => look_boxes hr), fun id hid => ?_⟩ hf hQ
          · have ht : lookA t (putT o.dst δ.v σ.tmps) = some s := ht
            rw [look_putT] at ht
            exact ht
          · have hid : σ.next + 1 ≤ id := hid
            cases hb : β' id with
            | none => rfl
            | some b =>
              rcases hE.old id b hb with h1 | ⟨h1, _⟩
              · rw [H.nxt id (by omega)] at h1; simp at h1
              · omega
        · exact absurd h (by simp)
        · exact absurd h (by simp)
      · rename_i hy
        rw [if_neg (by rw [hg.2 hy]; simp)]
        refine regT_sound V F C h ⟨(H.m.skip hd).less (fun t s ht => ?_) (fun _ _ h => h), H.nxt⟩ hf hQ
        have ht : lookA t (putT o.dst undefSV σ.tmps) = some s := ht
        rw [look_putT] at ht
        exact ht
      · exact absurd h (by simp)
      · exact absurd h (by simp)
    · exact absurd h (by simp)
end
end Go.SX
