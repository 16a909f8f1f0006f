/- CX: states; regions in the order of the text; what an operation that sees a part leaves of the whole. -/
import Derived.Test.YthakekgdllmbcaaDoorCXe
import Derived.Test.YthakekgdllmbcaaDoorSXp
namespace Go.CX
open Go Go.RowKit Go.SX

abbrev Bs := List (Nat × Option (List SC))
/-- A number is reckoned ahead of what is done with it (the kernel is lazy). -/
def seqN {α : Type} (n : Nat) (f : Nat → α) : α := match n with
  | 0 => f 0
  | .succ k => f (.succ k)
theorem seqN_eq {α : Type} (n : Nat) (f : Nat → α) : seqN n f = f n := by cases n <;> rfl
structure St where
  tmps : List (Nat × SV)
  dl : Bs
  next : Nat
  deriving Inhabited
def St.L (σ : St) : LK := fun t => lookA t σ.tmps
structure MS (ρ : Nat → Value) (φ : Nat → List Value → List Value) (fx : Fx) (base : BK) (σ : St) (β : Bk) (a : Act) (w : World) : Prop where
  m : M ρ φ fx σ.L (dlB σ.dl base) β a w

inductive RR where
  | ok (σ : St) | split (c : E) | stuck
inductive GR where
  | yes | no | split (c : E) | stuck
def guardG (cx : Cx) (L : LK) (fs : Facts) (ops : Array Oper) (o : Oper) : GR :=
  match o.guard with
  | none => .yes
  | some (j, want) => match (ops[j]?).bind (·.dst) with
    | some t => match (L t).bind SV.ex with
      | some (.val (.tuple _)) => .no
      | some e => match cx.so e with
        | .bool => (match dec cx fs e with
            | some b => if b == want then .yes else .no
            | none => .split e)
        | _ => .stuck
      | none => .stuck
    | none => .stuck
def dstOk (N : Nat) : Option Tmp → Bool
  | some d => Nat.blt d N
  | none => true
def putT (dst : Option Tmp) (s : SV) (l : List (Nat × SV)) : List (Nat × SV) :=
  match dst with
  | some d => (d, s) :: l
  | none => l
def putL (L : LK) (dst : Option Tmp) (s : SV) : LK := fun t => match dst with
  | some d => if Nat.beq d t then some s else L t
  | none => L t
def regT (cx : Cx) (call : CallT) (fs : Facts) (N : Nat) (base : BK) (ops : Array Oper) : List Oper → St → RR
  | [], σ => .ok σ
  | o :: rest, σ =>
    if dstOk N o.dst then
      match guardG cx σ.L fs ops o with
      | .yes => match opG cx call σ.L (dlB σ.dl base) fs σ.next o.op with
        | .ok d => if Nat.ble σ.next d.next then regT cx call fs N base ops rest ⟨putT o.dst d.v σ.tmps, d.dl ++ σ.dl, d.next⟩ else .stuck
        | .split c => .split c
        | .stuck => .stuck
      | .no => regT cx call fs N base ops rest { σ with tmps := putT o.dst undefSV σ.tmps }
      | .split c => .split c
      | .stuck => .stuck
    else .stuck

theorem dlB_append (l l' : Bs) (B : BK) : dlB (l ++ l') B = dlB l (dlB l' B) := by
  induction l with
  | nil => rfl
  | cons p l ih =>
    funext id
    have ih := congrFun ih id
    unfold dlB at ih ⊢
    obtain ⟨i, r⟩ := p
    simp only [List.cons_append, lookA]
    cases Nat.beq i id with
    | true => rfl
    | false => exact ih

section
variable {ρ : Nat → Value} {φ : Nat → List Value → List Value} {cx : Cx} {fx : Fx} {L : LK} {B : BK} {β : Bk} {a : Act} {w : World}

def asB : Value → Option Bool | .bool b => some b | _ => none
theorem guardG_ok (F : Fits cx.Γ cx.S ρ φ) (H : M ρ φ fx L B β a w) {fs : Facts} (hf : fs.hold ρ φ) {ops : Array Oper} {o : Oper} :
    (guardG cx L fs ops o = .yes → Region.wanted o (yielded ops a.tmps) = true) ∧ (guardG cx L fs ops o = .no → Region.wanted o (yielded ops a.tmps) = false) := by
  unfold guardG Region.wanted
  cases hg : o.guard with
  | none => simp
  | some g =>
    obtain ⟨j, want⟩ := g
    simp only
    cases ht : (ops[j]?).bind (·.dst) with
    | none => simp
    | some t =>
      simp only
      cases hs : L t with
      | none => simp
      | some s =>
        obtain ⟨x, hx, hsx⟩ := H.tmps t s hs
        have hy : yielded ops a.tmps j = asB x := by
          unfold yielded
          rw [ht]
          simp only [Option.bind_some, hx]
          cases x <;> rfl
        simp only [Option.bind_some]
        cases he : s.ex with
        | none => simp
        | some e =>
          have hxe := SV.ex_is he hsx
          subst hxe
          split
          · rename_i vs heq
            simp only [Option.some.injEq] at heq
            subst heq
            rw [hy]
            simp [E.den, asB]
          · rename_i e' _ heq
            simp only [Option.some.injEq] at heq
            subst heq
            split
            · split
              · rename_i b hb
                have hb := dec_sound F hf hb
                rw [hy, hb]
                simp only [asB]
                constructor
                · intro h
                  split at h
                  · rename_i e; have e : b = want := by simpa using e
                    subst e; simp
                  · exact absurd h (by simp)
                · intro h
                  split at h
                  · exact absurd h (by simp)
                  · rename_i e; simpa using e
              · simp
            · simp
          · rename_i heq
            exact absurd heq (by simp)

theorem dstOk_lt {N : Nat} {dst : Option Tmp} (h : dstOk N dst = true) : ∀ d, dst = some d → d < N := by
  intro d hd
  subst hd
  exact blt_lt h
theorem look_putT {dst : Option Tmp} {s : SV} {l : List (Nat × SV)} (t : Nat) : lookA t (putT dst s l) = putL (fun t => lookA t l) dst s t := by
  cases dst with
  | none => rfl
  | some d =>
    show @ite _ (Nat.beq d t = true) (decT (Nat.beq d t)) (some s) (lookA t l) = if Nat.beq d t then some s else lookA t l
    split <;> rfl
theorem put_tmps {L : LK} {β : Bk} {a : Act} (H : ∀ t s, L t = some s → ∃ x, a.tmps[t]? = some x ∧ s.is ρ φ β x) {dst : Option Tmp} {s : SV} {x : Value} (hd : ∀ d, dst = some d → d < a.tmps.size)
    (hs : s.is ρ φ β x) : ∀ t u, putL L dst s t = some u → ∃ y, (a.put dst x).tmps[t]? = some y ∧ u.is ρ φ β y := by
  intro t u h
  cases dst with
  | none => exact H t u h
  | some d =>
    simp only [putL] at h
    by_cases hdt : d = t
    · subst hdt
      simp only [Nat.beq_refl, if_true, Option.some.injEq] at h
      subst h
      exact ⟨x, by simp [Act.put, hd d rfl], hs⟩
    · have : Nat.beq d t = false := by
        cases hq : Nat.beq d t with
        | false => rfl
        | true => exact absurd (Nat.eq_of_beq_eq_true hq) hdt
      simp only [this, Bool.false_eq_true, if_false] at h
      obtain ⟨y, hy, hu⟩ := H t u h
      exact ⟨y, by simp only [Act.put]; rw [Array.getElem?_setIfInBounds_ne hdt]; exact hy, hu⟩
/-- Behind an operation. -/
theorem M.step {B' : BK} {β' : Bk} {w' : World} {dst : Option Tmp} {s : SV} {x : Value} (H : M ρ φ fx L B β a w) (hE : Ext β β') (hW : W ρ φ fx B' β' w') (hd : ∀ d, dst = some d → d < fx.N) (hx : s.is ρ φ β' x) :
    M ρ φ fx (putL L dst s) B' β' (a.put dst x) w' := by
  refine ⟨put_tmps (fun t s h => ?_) (fun d hd' => by rw [H.size]; exact hd d hd') hx, ?_, ?_, hW⟩
  · obtain ⟨y, hy, hs⟩ := H.tmps t s h
    exact ⟨y, hy, SV.is_ext hE hs⟩
  · have := H.size
    cases dst <;> simp [Act.put, this]
  · have := H.dfr
    cases dst <;> exact this
theorem M.lessL {L' : LK} (h : ∀ t s, L' t = some s → L t = some s) (H : M ρ φ fx L B β a w) : M ρ φ fx L' B β a w :=
  ⟨fun t s ht => H.tmps t s (h t s ht), H.size, H.dfr, H.wld⟩
theorem M.drew (H : M ρ φ fx L B β a w) : M ρ φ fx L B β a w.drew := ⟨H.tmps, H.size, H.dfr, H.wld.drew⟩

theorem regT_next {call : CallT} {fs : Facts} {N : Nat} {base : BK} {ops : Array Oper} : ∀ {rest : List Oper} {σ σ' : St}, regT cx call fs N base ops rest σ = .ok σ' → σ.next ≤ σ'.next
  | [], σ, σ', h => by simp only [regT, RR.ok.injEq] at h; subst h; exact Nat.le_refl _
  | o :: rest, σ, σ', h => by
    simp only [regT] at h
    split at h
    · split at h
      · split at h
        · split at h
          · rename_i hle
            have := regT_next h
            exact Nat.le_trans (Nat.le_of_ble_eq_true hle) this
          · exact absurd h (by simp)
        · exact absurd h (by simp)
        · exact absurd h (by simp)
      · exact regT_next (σ := { σ with tmps := putT o.dst undefSV σ.tmps }) h
      · exact absurd h (by simp)
      · exact absurd h (by simp)
    · exact absurd h (by simp)

theorem regT_sound (F : Fits cx.Γ cx.S ρ φ) {call : CallT} (C : CallOk fx.ws cx φ call) {fs : Facts} (hf : fs.hold ρ φ) {base : BK} {ops : Array Oper} {Q : Exit → Act → World → Prop} : ∀ {rest : List Oper} {σ σ' : St} {β : Bk} {a : Act} {w : World}, regT cx call fs fx.N base ops rest σ = .ok σ' →
    MS ρ φ fx base σ β a w → (∀ id, σ.next ≤ id → id < σ'.next → β id = none) → (∀ β' a' w', Ext β β' → Newer β β' σ.next σ'.next → MS ρ φ fx base σ' β' a' w' → Q .normal a' w') → wpList cx.P ops Q rest a w
  | [], σ, σ', β, a, w, h, H, hn, hQ => by
    simp only [regT, RR.ok.injEq] at h
    subst h
    exact hQ β a w (Ext.refl _) (Newer.refl _ _ _) H
  | o :: rest, σ, σ', β, a, w, h, H, hn, hQ => by
    simp only [regT] at h
    split at h
    · rename_i hd
      have hd := dstOk_lt hd
      have hg := guardG_ok (cx := cx) F H.m hf (ops := ops) (o := o)
      unfold wpList
      split at h
      · rename_i hy
        rw [if_pos (hg.1 hy)]
        refine Or.inl ?_
        split at h
        · rename_i d hdd
          split at h
          · rename_i hle
            have hle := Nat.le_of_ble_eq_true hle
            have hnx := regT_next h
            simp only at hnx
            refine opG_does F C H.m hf (fun id h1 h2 => hn id h1 (by omega)) hdd _ _ fun β' x w' hE hN hW hx => ?_
            have hm := M.step (dst := o.dst) H.m hE hW hd hx
            rw [← dlB_append] at hm
            refine regT_sound F C hf h ⟨hm.lessL fun t s ht => ?_⟩ (fun id h1 h2 => ?_) (fun β'' a' w'' hE' hN' hM => hQ β'' a' w'' (hE.trans hE') (hN.trans hN' hle hnx) hM)
            · have ht : lookA t (putT o.dst d.v σ.tmps) = some s := ht
              rw [look_putT] at ht
              exact ht
            · have h1 : d.next ≤ id := h1
              cases hb : β' id with
              | none => rfl
              | some p =>
                rcases hN id p hb with h3 | ⟨h3, h4⟩
                · rw [hn id (by omega) h2] at h3; simp at h3
                · omega
          · exact absurd h (by simp)
        · exact absurd h (by simp)
        · exact absurd h (by simp)
      · rename_i hy
        rw [if_neg (by rw [hg.2 hy]; simp)]
        have hm := M.step (dst := o.dst) (s := undefSV) (x := undef) H.m (Ext.refl _) H.m.wld hd rfl
        refine regT_sound F C hf h ⟨hm.lessL fun t s ht => ?_⟩ hn hQ
        have ht : lookA t (putT o.dst undefSV σ.tmps) = some s := ht
        rw [look_putT] at ht
        exact ht
      · exact absurd h (by simp)
      · exact absurd h (by simp)
    · exact absurd h (by simp)

/-- A part of what is known. -/
def View (V B : BK) : Prop := ∀ id rv, V id = some rv → ∃ row, B id = some row ∧ row.length = rv.length ∧ ∀ (k : Nat) (c : SC), rv[k]? = some c → c ≠ .any → row[k]? = some c
theorem W.view {V : BK} (H : W ρ φ fx B β w) (hv : View V B) (N : Nat) : W ρ φ ⟨N, Xof V β, V, w, fx.ws⟩ V β w := by
  refine ⟨LowP.refl _ _, fun id rv h => ?_, fun id row k h hk => ⟨⟨row, h, hk⟩, fun _ _ _ => SameC.refl _ _ _⟩, fun id id' r r' b n n' h h' h1 h2 => ?_, H.inh, H.hi, H.len, H.base⟩
  · obtain ⟨row, hB, hl, hc⟩ := hv id rv h
    obtain ⟨b, n, hb, h1, hR⟩ := H.box id row hB
    refine ⟨b, n, hb, Or.inr ⟨id, rv, n, h, hb⟩, ?_⟩
    rcases hR with ⟨s, p, hrow, ho⟩ | ⟨arr, T, h2, h3, h4, h5⟩
    · refine Or.inl ⟨s, p, ?_, ho⟩
      have hl1 : row.length = 1 := by rcases hrow with rfl | rfl <;> rfl
      obtain ⟨c, rfl⟩ : ∃ c, rv = [c] := List.length_eq_one_iff.1 (by omega)
      by_cases e : c = .any
      · exact Or.inr (by rw [e])
      · have := hc 0 c rfl e
        rcases hrow with rfl | rfl
        · simp only [List.getElem?_cons_zero, Option.some.injEq] at this
          exact Or.inl (by rw [this])
        · simp only [List.getElem?_cons_zero, Option.some.injEq] at this
          exact absurd this.symm e
    · refine Or.inr ⟨arr, T, h2, h3, by omega, fun k c hk => ?_⟩
      by_cases e : c = .any
      · subst e
        have hlt := (List.getElem?_eq_some_iff.1 hk).1
        exact ⟨arr[k]'(by omega), by simp [show k < arr.size by omega], trivial⟩
      · exact h5 k c (hc k c hk e)
  · obtain ⟨row, hB, _⟩ := hv id r h
    obtain ⟨row', hB', _⟩ := hv id' r' h'
    exact H.inj id id' row row' b n n' hB hB' h1 h2

/-- What an operation that saw V leaves of B. -/
def Merged (V B : BK) (dl : Bs) (B' : BK) : Prop := ∀ id row', B' id = some row' →
  (V id = none ∧ dlB dl V id = some row') ∨
  (∃ row, B id = some row ∧ row.length = row'.length ∧ ((V id = none ∧ row' = row) ∨
    ∃ ro, dlB dl V id = some ro ∧ V id ≠ none ∧ ro.length = row.length ∧ ∀ (k : Nat) (c : SC), row'[k]? = some c → (ro[k]? = some c ∧ c ≠ .any) ∨ (ro[k]? = some .any ∧ row[k]? = some c)))
theorem W.merge {V B' : BK} {β' : Bk} {w' : World} {dl : Bs} {N : Nat} (H : W ρ φ fx B β w) (hv : View V B) (hE : Ext β β') (H' : W ρ φ ⟨N, Xof V β, V, w, fx.ws⟩ (dlB dl V) β' w') (hB' : Merged V B dl B') : W ρ φ fx B' β' w' := by
  have hX : ∀ b, Xof V β b → ∃ id row n, V id ≠ none ∧ B id = some row ∧ β id = some (b, n) ∧ (fx.w0.heap.size ≤ b ∨ fx.X b) := by
    rintro b ⟨id, rv, n, h, hb⟩
    obtain ⟨row, hB, _⟩ := hv id rv h
    obtain ⟨b', n', hb', h1, _⟩ := H.box id row hB
    rw [hb] at hb'
    simp only [Option.some.injEq, Prod.mk.injEq] at hb'
    obtain ⟨rfl, rfl⟩ := hb'
    exact ⟨id, row, n, by rw [h]; simp, hB, hb, h1⟩
  have hsame : ∀ id row b n, B id = some row → V id = none → β id = some (b, n) → w'.heap[b]? = w.heap[b]? := by
    intro id row b n hB hV hb
    refine H'.low.block b (H.inh _ _ _ hb) fun hx => ?_
    obtain ⟨id2, row2, n2, hV2, hB2, hb2, _⟩ := hX b hx
    have := H.inj id id2 row row2 b n n2 hB hB2 hb hb2
    subst this
    exact hV2 hV
  have hβ : ∀ id row b n, B id = some row → β' id = some (b, n) → β id = some (b, n) := by
    intro id row b n hB hb
    obtain ⟨b', n', hb', _⟩ := H.box id row hB
    have := hE _ _ hb'
    rw [hb] at this
    rw [hb', this]
  have lo : ∀ b, (w.heap.size ≤ b ∨ Xof V β b) → fx.w0.heap.size ≤ b ∨ fx.X b := by
    rintro b (h | h)
    · exact Or.inl (Nat.le_trans H.low.size h)
    · obtain ⟨_, _, _, _, _, _, h⟩ := hX b h; exact h
  refine ⟨⟨H'.low.os.trans H.low.os, H'.low.tape.trans H.low.tape, H'.low.output.trans H.low.output, Nat.le_trans H.low.size H'.low.size, fun k hk hnX => ?_⟩, fun id row' h => ?_, fun id row' k h hk => ?_, fun id1 id2 r1 r2 b n1 n2 g1 g2 g3 g4 => ?_, H'.inh, H'.hi, H'.len, H'.base⟩
  · rw [← H.low.block k hk hnX]
    refine H'.low.block k (Nat.lt_of_lt_of_le hk H.low.size) fun hx => ?_
    obtain ⟨_, _, _, _, _, _, h⟩ := hX k hx
    rcases h with h | h
    · omega
    · exact hnX h
  · rcases hB' id row' h with ⟨_, h1⟩ | ⟨row, hB, hl, ⟨hV, rfl⟩ | ⟨ro, hro, hV, hlr, hc⟩⟩
    · obtain ⟨b, n, hb, g1, g2⟩ := H'.box id row' h1
      exact ⟨b, n, hb, lo b g1, g2⟩
    · obtain ⟨b, n, hb, g1, g2⟩ := H.box id row' hB
      refine ⟨b, n, hE _ _ hb, g1, ?_⟩
      rw [hsame id row' b n hB hV hb]; exact g2.ext hE
    · obtain ⟨b, n, hb, g1, hR⟩ := H.box id row hB
      obtain ⟨b', n', hb', k1, hR'⟩ := H'.box id ro hro
      rw [hE _ _ hb] at hb'
      simp only [Option.some.injEq, Prod.mk.injEq] at hb'
      obtain ⟨rfl, rfl⟩ := hb'
      refine ⟨b, n, hE _ _ hb, g1, ?_⟩
      have hS : ∀ k, ro[k]? = some .any → SameC w' w b k := fun k h1 => (H'.msk id ro k hro h1).2 b n (hE _ _ hb)
      rcases hR' with ⟨s', p', hro1, ho'⟩ | ⟨arr', T', k2, k3, k4, k5⟩
      · -- an iterator now
        have hl1 : ro.length = 1 := by rcases hro1 with rfl | rfl <;> rfl
        obtain ⟨c, rfl⟩ : ∃ c, row' = [c] := List.length_eq_one_iff.1 (by omega)
        rcases hc 0 c rfl with ⟨h1, hne⟩ | ⟨h1, h2⟩
        · rcases hro1 with rfl | rfl
          · simp only [List.getElem?_cons_zero, Option.some.injEq] at h1
            exact Or.inl ⟨s', p', Or.inl (by rw [h1]), ho'⟩
          · simp only [List.getElem?_cons_zero, Option.some.injEq] at h1
            exact absurd h1.symm hne
        · have hs := hS 0 h1
          rcases hR with ⟨s, p, hrow, ho⟩ | ⟨arr, T, g2, g3, g4, g5⟩
          · have hw := hs.2 s p ho
            rcases hrow with rfl | rfl
            · simp only [List.getElem?_cons_zero, Option.some.injEq] at h2
              exact Or.inl ⟨s, p, Or.inl (by rw [h2]), hw⟩
            · simp only [List.getElem?_cons_zero, Option.some.injEq] at h2
              exact Or.inl ⟨s, p, Or.inr (by rw [h2]), hw⟩
          · obtain ⟨u, hu, _⟩ := g5 0 c h2
            have := hs.1
            simp [World.cell?, ho', g2, hu] at this
      · refine Or.inr ⟨arr', T', k2, k3, by omega, fun k c hk => ?_⟩
        rcases hc k c hk with ⟨h1, _⟩ | ⟨h1, h2⟩
        · exact k5 k c h1
        · have hs := hS k h1
          rcases hR with ⟨s, p, hrow, ho⟩ | ⟨arr, T, g2, g3, g4, g5⟩
          · have hw := hs.2 s p ho
            rw [k2] at hw; cases hw
          · obtain ⟨u, hu, hcu⟩ := g5 k c h2
            have := hs.1
            simp only [World.cell?, k2, g2, Option.isSome_none, Bool.false_eq_true, if_false] at this
            exact ⟨u, by rw [this]; exact hu, SC.is_ext hE hcu⟩
  · rcases hB' id row' h with ⟨hV, h1⟩ | ⟨row, hB, hl, ⟨hV, rfl⟩ | ⟨ro, hro, hV, hlr, hc⟩⟩
    · obtain ⟨⟨row0, h2, _⟩, _⟩ := H'.msk id row' k h1 hk
      have h2 : V id = some row0 := h2
      rw [hV] at h2
      simp at h2
    · obtain ⟨g1, g2⟩ := H.msk id row' k hB hk
      refine ⟨g1, fun b n hb => ?_⟩
      have hb := hβ id row' b n hB hb
      exact (SameC.of_heap (hsame id row' b n hB hV hb)).trans (g2 b n hb)
    · rcases hc k .any hk with ⟨_, h1⟩ | ⟨h1, h2⟩
      · exact absurd rfl h1
      · obtain ⟨g1, g2⟩ := H.msk id row k hB h2
        obtain ⟨_, g4⟩ := H'.msk id ro k hro h1
        refine ⟨g1, fun b n hb => ?_⟩
        exact (g4 b n hb).trans (g2 b n (hβ id row b n hB hb))
  · -- blocks apart
    have kind : ∀ id r, B' id = some r → (∃ ro, dlB dl V id = some ro ∧ (V id = none ∨ ∃ row, B id = some row)) ∨ (V id = none ∧ ∃ row, B id = some row) := by
      intro id r h
      rcases hB' id r h with ⟨hV, h1⟩ | ⟨row, hB, hl, ⟨hV, rfl⟩ | ⟨ro, hro, hV, hlr, hc⟩⟩
      · exact Or.inl ⟨_, h1, Or.inl hV⟩
      · exact Or.inr ⟨hV, _, hB⟩
      · exact Or.inl ⟨_, hro, Or.inr ⟨_, hB⟩⟩
    have cross : ∀ id1 id2 ro row b n1 n2, dlB dl V id1 = some ro → V id2 = none → B id2 = some row → β' id1 = some (b, n1) → β' id2 = some (b, n2) → id1 = id2 := by
      intro id1 id2 ro row b n1 n2 h1 hV hB hb1 hb2
      have hb2' := hβ id2 row b n2 hB hb2
      obtain ⟨b', n', hb', k1, _⟩ := H'.box id1 ro h1
      rw [hb1] at hb'
      simp only [Option.some.injEq, Prod.mk.injEq] at hb'
      obtain ⟨rfl, rfl⟩ := hb'
      have hlt := H.inh _ _ _ hb2'
      rcases k1 with k1 | k1
      · have k1 : w.heap.size ≤ b := k1
        omega
      · obtain ⟨id3, row3, n3, hV3, hB3, hb3, _⟩ := hX b k1
        have := H.inj id2 id3 row row3 b n2 n3 hB hB3 hb2' hb3
        subst this
        exact absurd hV hV3
    rcases kind id1 r1 g1 with ⟨ro1, h1, _⟩ | ⟨hV1, row1, hB1⟩
    · rcases kind id2 r2 g2 with ⟨ro2, h2, _⟩ | ⟨hV2, row2, hB2⟩
      · exact H'.inj id1 id2 ro1 ro2 b n1 n2 h1 h2 g3 g4
      · exact cross id1 id2 ro1 row2 b n1 n2 h1 hV2 hB2 g3 g4
    · rcases kind id2 r2 g2 with ⟨ro2, h2, _⟩ | ⟨hV2, row2, hB2⟩
      · exact (cross id2 id1 ro2 row1 b n2 n1 h2 hV1 hB1 g4 g3).symm
      · exact H.inj id1 id2 row1 row2 b n1 n2 hB1 hB2 (hβ id1 row1 b n1 hB1 g3) (hβ id2 row2 b n2 hB2 g4)
end
end Go.CX

/- CX: regions whose order is drawn, with calls that turn blocks: who sees what, cell by cell. -/
namespace Go.CX
open Go Go.RowKit Go.SX

structure RI where
  dst : Option Tmp
  v : SV
  vis : BK
  dl : Bs
  n0 : Nat
  n1 : Nat
  bef : Nat
  deriving Inhabited

def befs (acc : List RI) : List Edge → Nat
  | [] => 0
  | e :: es => if plainG e.ground then (2 ^ e.on ||| ((acc[e.on]?).map (·.bef)).getD 0) ||| befs acc es else befs acc es
def wrt (p : Nat → Bool) (t : Nat) : List RI → Nat → Option SV
  | [], _ => none
  | r :: is, k => match r.dst with
    | some d => if Nat.beq d t && p k then some r.v else wrt p t is (k + 1)
    | none => wrt p t is (k + 1)
/-- What a temporary holds: what one of those wrote, else what it held before, if that is sure to stand. -/
def Lr (L : LK) (ds : List Nat) (orig : Nat → Bool) (is : List RI) (p : Nat → Bool) : LK := fun t => if hasN t ds then (match wrt p t is 0 with
  | some v => some v
  | none => if orig t then L t else none) else L t
def befN (acc : List Nat) : List Edge → Nat
  | [] => 0
  | e :: es => if plainG e.ground then (2 ^ e.on ||| (acc[e.on]?).getD 0) ||| befN acc es else befN acc es
def befAll : List Oper → List Nat → List Nat
  | [], acc => acc
  | o :: os, acc => befAll os (acc ++ [befN acc o.after.toList])
def writer (t : Nat) : List Oper → Nat → Option Nat
  | [], _ => none
  | o :: os, k => match o.dst with
    | some d => if Nat.beq d t then some k else writer t os (k + 1)
    | none => writer t os (k + 1)
def origI (ops : List Oper) (bs : List Nat) (i t : Nat) : Bool := match writer t ops 0 with
  | some j => (bs.getD j 0).testBit i
  | none => false
def sameBefs : List RI → List Nat → Bool
  | [], [] => true
  | r :: is, b :: bs => Nat.beq r.bef b && sameBefs is bs
  | _, _ => false

def keepC : SC → SC → Bool
  | .any, _ => true
  | .e x, .e y => x.eqv y
  | .ptr i a, .ptr j b => Nat.beq i j && Nat.beq a b
  | .slc i a l c, .slc j b m d => Nat.beq i j && Nat.beq a b && Nat.beq l m && Nat.beq c d
  | .sla i a l c, .sla j b m d => Nat.beq i j && Nat.beq a b && Nat.beq l m && Nat.beq c d
  | _, _ => false
def mrg : List SC → List SC → List SC → List SC
  | o :: ro, v :: rv, c :: row => (if keepC o v then c else o) :: mrg ro rv row
  | _, _, row => row
def updI (r : RI) (B : BK) : BK := fun id => match lookA id r.dl with
  | none => B id
  | some none => none
  | some (some ro) => match r.vis id with
    | none => some ro
    | some rv => (B id).map (mrg ro rv)
def updL (base : BK) (r : RI) (l : Bs) : Bs := (r.dl.map fun e => (e.1, updI r (dlB l base) e.1)) ++ l
def chg : List SC → List SC → Nat → Nat
  | o :: ro, v :: rv, k => (if keepC o v then 0 else 2 ^ k) ||| chg ro rv (k + 1)
  | _, _, _ => 0
def touchE (r : RI) (id : Nat) : Option Nat := match lookA id r.dl with
  | some (some ro) => match r.vis id with
    | some rv => some (chg ro rv 0)
    | none => none
  | _ => none
def touch (r : RI) : List (Nat × Option Nat) := r.dl.map fun e => (e.1, touchE r e.1)
def maskRow (m : Nat) : List SC → Nat → List SC
  | [], _ => []
  | c :: row, k => (if m.testBit k then .any else c) :: maskRow m row (k + 1)
def maskB (B : BK) : List (Nat × Option Nat) → BK
  | [] => B
  | (i, m) :: rest => fun id => if Nat.beq i id then (match m with
      | none => none
      | some m => (maskB B rest id).map fun row => maskRow m row 0) else maskB B rest id
def anyAt : List SC → Nat → Nat → Bool
  | [], _, _ => true
  | c :: rv, o, k => (!(o.testBit k) || (match c with | .any => true | _ => false)) && anyAt rv o (k + 1)
/-- What is touched is hidden from an operation. -/
def cov (r : RI) (t : Nat × Option Nat) : Bool := match r.vis t.1 with
  | none => true
  | some rv => match t.2 with
    | none => false
    | some o => anyAt rv o 0
def disj1 (s t : Nat × Option Nat) : Bool := !(Nat.beq s.1 t.1) || (match s.2, t.2 with
  | some a, some b => Nat.beq (a &&& b) 0
  | _, _ => false)
def unorderedOk (rj ri : RI) : Bool := (touch rj).all fun t => cov ri t && (touch ri).all fun s => disj1 t s
def okAll (is : List RI) : Bool := (List.range is.length).all fun j => match is[j]? with
  | some rj => match rj.dl with
    | [] => true
    | _ => (List.range is.length).all fun i => match is[i]? with
      | some ri => Nat.beq i j || ri.bef.testBit j || rj.bef.testBit i || unorderedOk rj ri
      | none => true
  | none => true
def needsB : Op → Bool
  | .convert .. | .load .. | .store .. | .call _ => true
  | _ => false
/-- What others made that do not come before. -/
def madeBy (m : Nat) : List RI → Nat → List (Nat × Option Nat)
  | [], _ => []
  | r :: is, k => if m.testBit k then madeBy m is (k + 1) else (r.dl.filterMap fun e => match r.vis e.1 with | none => some (e.1, none) | some _ => none) ++ madeBy m is (k + 1)
def visI (mk : List (Nat × Option Nat)) (o : Op) (B : BK) : BK := if needsB o then maskB B mk else fun _ => none
def lensOk (V : BK) (dl : Bs) : Bool := dl.all fun e => match lookA e.1 dl, V e.1 with
  | some (some ro), some rv => Nat.beq ro.length rv.length
  | _, _ => true
theorem lensOk_spec {V : BK} {dl : Bs} (h : lensOk V dl = true) {id : Nat} {ro rv : List SC} (hl : lookA id dl = some (some ro)) (hv : V id = some rv) : ro.length = rv.length := by
  have hm : ∀ {l : Bs} {x : Option (List SC)}, lookA id l = some x → ∃ y, (id, y) ∈ l := by
    intro l
    induction l with
    | nil => intro x h; simp [lookA] at h
    | cons e l ih =>
      intro x h
      obtain ⟨i, z⟩ := e
      simp only [lookA] at h
      split at h
      · rename_i hb
        have := Nat.eq_of_beq_eq_true hb
        subst this
        exact ⟨z, by simp⟩
      · obtain ⟨y, hy⟩ := ih h
        exact ⟨y, by simp [hy]⟩
  obtain ⟨y, hy⟩ := hm hl
  have := List.all_eq_true.1 h _ hy
  simp only [hl, hv] at this
  exact Nat.eq_of_beq_eq_true this
inductive DR where
  | ok (is : List RI) (l : Bs) (n : Nat) | split (c : E) | stuck
def regGo (cx : Cx) (call : CallT) (fs : Facts) (N : Nat) (base : BK) (mkf : Nat → List (Nat × Option Nat)) (ops : Array Oper) (ds bs : List Nat) (L0 : LK) : List Oper → List RI → Bs → Nat → DR
  | [], acc, l, n => .ok acc l n
  | o :: rest, acc, l, n =>
    if dstOk N o.dst && edgesOk acc.length o.after.toList then
      match guardG cx (Lr L0 ds (origI ops.toList bs acc.length) acc (bitsOf (befs acc o.after.toList))) fs ops o with
      | .yes => match opG cx call (Lr L0 ds (origI ops.toList bs acc.length) acc (bitsOf (befs acc o.after.toList))) (visI (mkf acc.length ++ madeBy (befs acc o.after.toList) acc 0) o.op (dlB l base)) fs n o.op with
        | .ok d => if Nat.ble n d.next && lensOk (visI (mkf acc.length ++ madeBy (befs acc o.after.toList) acc 0) o.op (dlB l base)) d.dl then
            regGo cx call fs N base mkf ops ds bs L0 rest (acc ++ [⟨o.dst, d.v, visI (mkf acc.length ++ madeBy (befs acc o.after.toList) acc 0) o.op (dlB l base), d.dl, n, d.next, befs acc o.after.toList⟩])
              (updL base ⟨o.dst, d.v, visI (mkf acc.length ++ madeBy (befs acc o.after.toList) acc 0) o.op (dlB l base), d.dl, n, d.next, befs acc o.after.toList⟩ l) d.next
          else .stuck
        | .split c => .split c
        | .stuck => .stuck
      | .no => regGo cx call fs N base mkf ops ds bs L0 rest (acc ++ [⟨o.dst, undefSV, fun _ => none, [], n, n, befs acc o.after.toList⟩]) l n
      | .split c => .split c
      | .stuck => .stuck
    else .stuck
def unord (is : List RI) (i : Nat) : List (Nat × Option Nat) := (List.range is.length).flatMap fun j => match is[j]?, is[i]? with
  | some rj, some ri => match rj.dl with
    | [] => []
    | _ => if Nat.beq i j || ri.bef.testBit j || rj.bef.testBit i then [] else touch rj
  | _, _ => []
def finT : List RI → List (Nat × SV) → List (Nat × SV)
  | [], l => l
  | r :: is, l => finT is (putT r.dst r.v l)
def regF (cx : Cx) (call : CallT) (fs : Facts) (N : Nat) (base : BK) (ops : Array Oper) (σ : St) (mkf : Nat → List (Nat × Option Nat)) : RR :=
  match regGo cx call fs N base mkf ops (dsts ops.toList) (befAll ops.toList []) σ.L ops.toList [] σ.dl σ.next with
  | .ok is l n => if sameBefs is (befAll ops.toList []) && okAll is then .ok ⟨finT is σ.tmps, l, n⟩ else .stuck
  | .split c => .split c
  | .stuck => .stuck
def regD (cx : Cx) (call : CallT) (fs : Facts) (N : Nat) (base : BK) (ops : Array Oper) (σ : St) : RR :=
  if cx.P.follows .mixedOrders && nodupN (dsts ops.toList) then
    match regGo cx call fs N base (fun _ => []) ops (dsts ops.toList) (befAll ops.toList []) σ.L ops.toList [] σ.dl σ.next with
    | .ok is l n => if sameBefs is (befAll ops.toList []) && okAll is then .ok ⟨finT is σ.tmps, l, n⟩ else regF cx call fs N base ops σ (unord is)
    | .split c => .split c
    | .stuck => .stuck
  else .stuck

theorem befs_spec {acc : List RI} {k : Nat} : ∀ {es : List Edge}, (befs acc es).testBit k = true → ∃ e ∈ es, plainG e.ground = true ∧ (k = e.on ∨ ∃ r, acc[e.on]? = some r ∧ r.bef.testBit k = true)
  | [], h => by simp [befs] at h
  | e :: es, h => by
    simp only [befs] at h
    split at h
    · rename_i hp
      simp only [Nat.testBit_or, Bool.or_eq_true] at h
      rcases h with (h | h) | h
      · rw [Nat.testBit_two_pow] at h
        exact ⟨e, by simp, hp, Or.inl (of_decide_eq_true h).symm⟩
      · cases hr : acc[e.on]? with
        | none => rw [hr] at h; simp at h
        | some r => rw [hr] at h; exact ⟨e, by simp, hp, Or.inr ⟨r, hr, by simpa using h⟩⟩
      · obtain ⟨e', h1, h2⟩ := befs_spec h
        exact ⟨e', by simp [h1], h2⟩
    · obtain ⟨e', h1, h2⟩ := befs_spec h
      exact ⟨e', by simp [h1], h2⟩

theorem keepC_eq {o v : SC} (h : keepC o v = true) : o = .any ∨ o = v := by
  unfold keepC at h
  split at h
  · exact Or.inl rfl
  · exact Or.inr (by rw [E.eqv_eq h])
  · rw [Bool.and_eq_true] at h
    exact Or.inr (by rw [Nat.eq_of_beq_eq_true h.1, Nat.eq_of_beq_eq_true h.2])
  · simp only [Bool.and_eq_true] at h
    exact Or.inr (by rw [Nat.eq_of_beq_eq_true h.1.1.1, Nat.eq_of_beq_eq_true h.1.1.2, Nat.eq_of_beq_eq_true h.1.2, Nat.eq_of_beq_eq_true h.2])
  · simp only [Bool.and_eq_true] at h
    exact Or.inr (by rw [Nat.eq_of_beq_eq_true h.1.1.1, Nat.eq_of_beq_eq_true h.1.1.2, Nat.eq_of_beq_eq_true h.1.2, Nat.eq_of_beq_eq_true h.2])
  · exact absurd h (by simp)

/-! ### Blocks, cell by cell -/
def atB (B : BK) (id k : Nat) : Option SC := (B id).bind (·[k]?)
def lenB (B : BK) (id : Nat) : Option Nat := (B id).map List.length
def mrgC (ro rv : List SC) (k : Nat) (c : SC) : SC := match ro[k]?, rv[k]? with
  | some o, some v => if keepC o v then c else o
  | _, _ => c
theorem mrg_len : ∀ ro rv row : List SC, (mrg ro rv row).length = row.length
  | [], _, _ => by simp [mrg]
  | _ :: _, [], _ => by simp [mrg]
  | _ :: _, _ :: _, [] => by simp [mrg]
  | _ :: ro, _ :: rv, _ :: row => by simp [mrg, mrg_len ro rv row]
theorem mrg_get : ∀ (ro rv row : List SC) (k : Nat), (mrg ro rv row)[k]? = (row[k]?).map (mrgC ro rv k)
  | [], _, row, k => by cases h : row[k]? <;> simp [mrg, mrgC, h]
  | _ :: _, [], row, k => by
    cases h : row[k]? with
    | none => simp [mrg, h]
    | some c => simp only [mrg, h, Option.map_some, mrgC]; simp
  | _ :: _, _ :: _, [], k => by simp [mrg]
  | o :: ro, v :: rv, c :: row, 0 => by simp [mrg, mrgC]
  | o :: ro, v :: rv, c :: row, k + 1 => by
    have := mrg_get ro rv row k
    simp only [mrg, List.getElem?_cons_succ, this]
    cases row[k]? <;> simp [mrgC]
theorem at_det {r : RI} {B1 B2 : BK} {id k : Nat} (h : atB B1 id k = atB B2 id k) : atB (updI r B1) id k = atB (updI r B2) id k := by
  unfold atB updI at *
  split
  · exact h
  · rfl
  · split
    · rfl
    · rename_i ro _ _ rv _
      have e : ∀ B : BK, ((B id).map (mrg ro rv)).bind (·[k]?) = ((B id).bind (·[k]?)).map (mrgC ro rv k) := by
        intro B
        cases B id with
        | none => rfl
        | some row => simp [mrg_get]
      rw [e, e, h]
theorem len_det {r : RI} {B1 B2 : BK} {id : Nat} (h : lenB B1 id = lenB B2 id) : lenB (updI r B1) id = lenB (updI r B2) id := by
  unfold lenB updI at *
  split
  · exact h
  · rfl
  · split
    · rfl
    · rename_i ro _ _ rv _
      have e : ∀ B : BK, ((B id).map (mrg ro rv)).map List.length = (B id).map List.length := by
        intro B
        cases B id with
        | none => rfl
        | some row => simp [mrg_len]
      rw [e, e, h]
def NeutA (r : RI) (id k : Nat) : Prop := ∀ B : BK, atB (updI r B) id k = atB B id k
def NeutL (r : RI) (id : Nat) : Prop := ∀ B : BK, lenB (updI r B) id = lenB B id
theorem neutA_none {r : RI} {id k : Nat} (h : lookA id r.dl = none) : NeutA r id k := by
  intro B
  unfold atB updI
  rw [h]
theorem neutL_none {r : RI} {id : Nat} (h : lookA id r.dl = none) : NeutL r id := by
  intro B
  unfold lenB updI
  rw [h]
theorem neutL_some {r : RI} {id : Nat} {ro rv : List SC} (h : lookA id r.dl = some (some ro)) (hv : r.vis id = some rv) : NeutL r id := by
  intro B
  unfold lenB updI
  rw [h]
  simp only [hv]
  cases B id with
  | none => rfl
  | some row => simp [mrg_len]
theorem neutA_keep {r : RI} {id k : Nat} {ro rv : List SC} (h : lookA id r.dl = some (some ro)) (hv : r.vis id = some rv) (hk : (chg ro rv 0).testBit k = false) : NeutA r id k := by
  have hc : ∀ (ro rv : List SC) (k0 k : Nat) (o v : SC), ro[k]? = some o → rv[k]? = some v → keepC o v = false → (chg ro rv k0).testBit (k0 + k) = true := by
    intro ro
    induction ro with
    | nil => intro rv k0 k o v h; simp at h
    | cons o' ro ih =>
      intro rv k0 k o v h1 h2 h3
      cases rv with
      | nil => simp at h2
      | cons v' rv =>
        cases k with
        | zero =>
          simp at h1 h2
          subst h1 h2
          simp [chg, h3, Nat.testBit_or]
        | succ k =>
          have := ih rv (k0 + 1) k o v (by simpa using h1) (by simpa using h2) h3
          simp only [chg, Nat.testBit_or]
          rw [show k0 + (k + 1) = k0 + 1 + k by omega, this]
          simp
  intro B
  unfold atB updI
  rw [h]
  simp only [hv]
  cases B id with
  | none => rfl
  | some row =>
    simp only [Option.map_some, Option.bind_some, mrg_get]
    cases hrow : row[k]? with
    | none => rfl
    | some c =>
      simp only [Option.map_some, mrgC]
      cases h1 : ro[k]? with
      | none => rfl
      | some o =>
        cases h2 : rv[k]? with
        | none => rfl
        | some v =>
          simp only
          cases h3 : keepC o v with
          | true => rfl
          | false =>
            have := hc ro rv 0 k o v h1 h2 h3
            rw [Nat.zero_add, hk] at this
            exact absurd this (by simp)

theorem lookA_mem {α : Type} {id : Nat} {x : α} : ∀ {l : List (Nat × α)}, lookA id l = some x → ∃ y, (id, y) ∈ l
  | [], h => by simp [lookA] at h
  | (i, z) :: l, h => by
    simp only [lookA] at h
    split at h
    · rename_i hb
      have := Nat.eq_of_beq_eq_true hb
      subst this
      exact ⟨z, by simp⟩
    · obtain ⟨y, hy⟩ := lookA_mem h
      exact ⟨y, by simp [hy]⟩
theorem touch_mem {r : RI} {id : Nat} {x : Option (List SC)} (h : lookA id r.dl = some x) : (id, touchE r id) ∈ touch r := by
  obtain ⟨y, hy⟩ := lookA_mem h
  exact List.mem_map.2 ⟨(id, y), hy, rfl⟩
theorem touchE_some {r : RI} {id o : Nat} (h : touchE r id = some o) : ∃ ro rv, lookA id r.dl = some (some ro) ∧ r.vis id = some rv ∧ o = chg ro rv 0 := by
  unfold touchE at h
  split at h
  · rename_i ro hl
    split at h
    · rename_i rv hv
      simp only [Option.some.injEq] at h
      exact ⟨ro, rv, hl, hv, h.symm⟩
    · exact absurd h (by simp)
  · exact absurd h (by simp)
theorem anyAt_spec : ∀ {rv : List SC} {o k0 k : Nat} {c : SC}, anyAt rv o k0 = true → rv[k]? = some c → c ≠ .any → o.testBit (k0 + k) = false
  | [], _, _, _, _, _, h, _ => by simp at h
  | c' :: rv, o, k0, 0, c, h, hc, hne => by
    simp at hc
    subst hc
    simp only [anyAt, Bool.and_eq_true, Bool.or_eq_true, Bool.not_eq_true'] at h
    rcases h.1 with h | h
    · simpa using h
    · cases c' <;> simp_all
  | c' :: rv, o, k0, k + 1, c, h, hc, hne => by
    simp only [anyAt, Bool.and_eq_true] at h
    have := anyAt_spec h.2 (by simpa using hc) hne
    rw [show k0 + (k + 1) = k0 + 1 + k by omega]
    exact this

/-- Two operations of which neither comes before the other. -/
structure Apart (ri rj : RI) : Prop where
  see : ∀ id rv, ri.vis id = some rv → NeutL rj id ∧ ∀ (k : Nat) (c : SC), rv[k]? = some c → c ≠ .any → NeutA rj id k
  cells : ∀ id k, NeutA ri id k ∨ NeutA rj id k
  rows : ∀ id, NeutL ri id ∨ NeutL rj id
theorem unorderedOk_cov {ri rj : RI} (h : unorderedOk rj ri = true) : ∀ id rv, ri.vis id = some rv → NeutL rj id ∧ ∀ (k : Nat) (c : SC), rv[k]? = some c → c ≠ .any → NeutA rj id k := by
  intro id rv hv
  cases hl : lookA id rj.dl with
  | none => exact ⟨neutL_none hl, fun k c _ _ => neutA_none hl⟩
  | some x =>
    have hm := touch_mem hl
    have hc := (Bool.and_eq_true_iff.1 (List.all_eq_true.1 h _ hm)).1
    unfold cov at hc
    simp only [hv] at hc
    split at hc
    · exact absurd hc (by simp)
    · rename_i o ho
      obtain ⟨ro, rvj, h1, h2, h3⟩ := touchE_some ho
      subst h3
      refine ⟨neutL_some h1 h2, fun k c hk hne => neutA_keep h1 h2 ?_⟩
      have := anyAt_spec hc hk hne
      rwa [Nat.zero_add] at this
theorem unorderedOk_disj {ri rj : RI} (h : unorderedOk rj ri = true) : (∀ id k, NeutA ri id k ∨ NeutA rj id k) ∧ ∀ id, NeutL ri id ∨ NeutL rj id := by
  have key : ∀ id x y, lookA id rj.dl = some x → lookA id ri.dl = some y → ∃ ro rv ro' rv', lookA id rj.dl = some (some ro) ∧ rj.vis id = some rv ∧ lookA id ri.dl = some (some ro') ∧ ri.vis id = some rv' ∧ (chg ro rv 0) &&& (chg ro' rv' 0) = 0 := by
    intro id x y hx hy
    have hd := (Bool.and_eq_true_iff.1 (List.all_eq_true.1 h _ (touch_mem hx))).2
    have hd := List.all_eq_true.1 hd _ (touch_mem hy)
    unfold disj1 at hd
    simp only [Nat.beq_refl, Bool.not_true, Bool.false_or] at hd
    split at hd
    · rename_i a b ha hb
      obtain ⟨ro, rv, h1, h2, rfl⟩ := touchE_some ha
      obtain ⟨ro', rv', h3, h4, rfl⟩ := touchE_some hb
      exact ⟨ro, rv, ro', rv', h1, h2, h3, h4, Nat.eq_of_beq_eq_true hd⟩
    · exact absurd hd (by simp)
  constructor
  · intro id k
    cases hx : lookA id rj.dl with
    | none => exact Or.inr (neutA_none hx)
    | some x =>
      cases hy : lookA id ri.dl with
      | none => exact Or.inl (neutA_none hy)
      | some y =>
        obtain ⟨ro, rv, ro', rv', h1, h2, h3, h4, h5⟩ := key id x y hx hy
        cases hb : (chg ro rv 0).testBit k with
        | false => exact Or.inr (neutA_keep h1 h2 hb)
        | true =>
          refine Or.inl (neutA_keep h3 h4 ?_)
          have := congrArg (fun n => n.testBit k) h5
          simp only [Nat.testBit_and, hb, Bool.true_and, Nat.zero_testBit] at this
          exact this
  · intro id
    cases hx : lookA id rj.dl with
    | none => exact Or.inr (neutL_none hx)
    | some x =>
      cases hy : lookA id ri.dl with
      | none => exact Or.inl (neutL_none hy)
      | some y =>
        obtain ⟨ro, rv, ro', rv', h1, h2, _⟩ := key id x y hx hy
        exact Or.inr (neutL_some h1 h2)
theorem okAll_apart {is : List RI} (h : okAll is = true) {i j : Nat} {ri rj : RI} (hi : is[i]? = some ri) (hj : is[j]? = some rj) (hij : i ≠ j) (h1 : ri.bef.testBit j = false) (h2 : rj.bef.testBit i = false) : Apart ri rj := by
  unfold okAll at h
  rw [List.all_eq_true] at h
  have half : ∀ {i j : Nat} {ri rj : RI}, is[i]? = some ri → is[j]? = some rj → i ≠ j → ri.bef.testBit j = false → rj.bef.testBit i = false → rj.dl = [] ∨ unorderedOk rj ri = true := by
    intro i j ri rj hi hj hij h1 h2
    have h3 := h j (List.mem_range.2 (List.getElem?_eq_some_iff.1 hj).1)
    rw [hj] at h3
    simp only at h3
    split at h3
    · rename_i e; exact Or.inl e
    · rw [List.all_eq_true] at h3
      have h4 := h3 i (List.mem_range.2 (List.getElem?_eq_some_iff.1 hi).1)
      rw [hi] at h4
      simp only [h1, h2, Bool.or_false, Bool.or_eq_true] at h4
      rcases h4 with h4 | h4
      · exact absurd (Nat.eq_of_beq_eq_true h4) hij
      · exact Or.inr h4
  have hnil : ∀ {r : RI}, r.dl = [] → ∀ id, lookA id r.dl = none := by
    intro r e id
    rw [e]
    rfl
  rcases half hi hj hij h1 h2 with e | e
  · exact ⟨fun id rv _ => ⟨neutL_none (hnil e id), fun k c _ _ => neutA_none (hnil e id)⟩, fun id k => Or.inr (neutA_none (hnil e id)), fun id => Or.inr (neutL_none (hnil e id))⟩
  · exact ⟨unorderedOk_cov e, (unorderedOk_disj e).1, (unorderedOk_disj e).2⟩

/-! ### What some of them leave -/
def Bf (p : Nat → Bool) : List RI → Nat → BK → BK
  | [], _, B => B
  | r :: is, k, B => Bf p is (k + 1) (if p k then updI r B else B)
theorem Bf_at {p q : Nat → Bool} {id k : Nat} : ∀ {is : List RI} {n : Nat} {B1 B2 : BK}, atB B1 id k = atB B2 id k → (∀ j r, is[j]? = some r → p (n + j) ≠ q (n + j) → NeutA r id k) → atB (Bf p is n B1) id k = atB (Bf q is n B2) id k
  | [], _, _, _, h, _ => h
  | r :: is, n, B1, B2, h, hn => by
    simp only [Bf]
    refine Bf_at ?_ fun j r' hj hne => hn (j + 1) r' (by simpa using hj) (by rwa [show n + (j + 1) = n + 1 + j by omega])
    have h0 := hn 0 r rfl
    simp only [Nat.add_zero] at h0
    cases hp : p n <;> cases hq : q n <;> simp only [if_true, if_false, Bool.false_eq_true]
    · exact h
    · rw [h0 (by rw [hp, hq]; simp) B2]; exact h
    · rw [h0 (by rw [hp, hq]; simp) B1]; exact h
    · exact at_det h
theorem Bf_len {p q : Nat → Bool} {id : Nat} : ∀ {is : List RI} {n : Nat} {B1 B2 : BK}, lenB B1 id = lenB B2 id → (∀ j r, is[j]? = some r → p (n + j) ≠ q (n + j) → NeutL r id) → lenB (Bf p is n B1) id = lenB (Bf q is n B2) id
  | [], _, _, _, h, _ => h
  | r :: is, n, B1, B2, h, hn => by
    simp only [Bf]
    refine Bf_len ?_ fun j r' hj hne => hn (j + 1) r' (by simpa using hj) (by rwa [show n + (j + 1) = n + 1 + j by omega])
    have h0 := hn 0 r rfl
    simp only [Nat.add_zero] at h0
    cases hp : p n <;> cases hq : q n <;> simp only [if_true, if_false, Bool.false_eq_true]
    · exact h
    · rw [h0 (by rw [hp, hq]; simp) B2]; exact h
    · rw [h0 (by rw [hp, hq]; simp) B1]; exact h
    · exact len_det h
/-- One more: it may as well be the last. -/
theorem Bf_last {p : Nat → Bool} {i : Nat} {ri : RI} {id : Nat} : ∀ {is : List RI} {n : Nat} {B : BK}, is[i]? = some ri → p (n + i) = false →
    ((∀ k, (∀ j r, is[j]? = some r → i < j → p (n + j) = true → NeutA ri id k ∨ NeutA r id k) → atB (Bf (fun x => if x = n + i then true else p x) is n B) id k = atB (updI ri (Bf p is n B)) id k) ∧
     ((∀ j r, is[j]? = some r → i < j → p (n + j) = true → NeutL ri id ∨ NeutL r id) → lenB (Bf (fun x => if x = n + i then true else p x) is n B) id = lenB (updI ri (Bf p is n B)) id)) := by
  -- an update commutes with those behind it
  have comA : ∀ (p : Nat → Bool) (k : Nat) (is : List RI) (n : Nat) (B : BK), (∀ j r, is[j]? = some r → p (n + j) = true → NeutA ri id k ∨ NeutA r id k) → atB (Bf p is n (updI ri B)) id k = atB (updI ri (Bf p is n B)) id k := by
    intro p k is
    induction is with
    | nil => intro n B _; rfl
    | cons r is ih =>
      intro n B h
      simp only [Bf]
      have h0 := h 0 r rfl
      simp only [Nat.add_zero] at h0
      have hrest : ∀ j r', is[j]? = some r' → p (n + 1 + j) = true → NeutA ri id k ∨ NeutA r' id k := fun j r' hj hp => h (j + 1) r' (by simpa using hj) (by rwa [show n + (j + 1) = n + 1 + j by omega])
      cases hp : p n with
      | false => simp only [Bool.false_eq_true, if_false]; exact ih (n + 1) B hrest
      | true =>
        simp only [if_true]
        rw [← ih (n + 1) (updI r B) hrest]
        refine Bf_at ?_ fun j r' _ hne => absurd rfl hne
        rcases h0 hp with h0 | h0
        · rw [h0 (updI r B)]
          exact at_det (h0 B)
        · rw [h0 (updI ri B)]
          exact (at_det (h0 B)).symm
  have comL : ∀ (p : Nat → Bool) (is : List RI) (n : Nat) (B : BK), (∀ j r, is[j]? = some r → p (n + j) = true → NeutL ri id ∨ NeutL r id) → lenB (Bf p is n (updI ri B)) id = lenB (updI ri (Bf p is n B)) id := by
    intro p is
    induction is with
    | nil => intro n B _; rfl
    | cons r is ih =>
      intro n B h
      simp only [Bf]
      have h0 := h 0 r rfl
      simp only [Nat.add_zero] at h0
      have hrest : ∀ j r', is[j]? = some r' → p (n + 1 + j) = true → NeutL ri id ∨ NeutL r' id := fun j r' hj hp => h (j + 1) r' (by simpa using hj) (by rwa [show n + (j + 1) = n + 1 + j by omega])
      cases hp : p n with
      | false => simp only [Bool.false_eq_true, if_false]; exact ih (n + 1) B hrest
      | true =>
        simp only [if_true]
        rw [← ih (n + 1) (updI r B) hrest]
        refine Bf_len ?_ fun j r' _ hne => absurd rfl hne
        rcases h0 hp with h0 | h0
        · rw [h0 (updI r B)]
          exact len_det (h0 B)
        · rw [h0 (updI ri B)]
          exact (len_det (h0 B)).symm
  have same : ∀ (p q : Nat → Bool) (is : List RI) (n : Nat) (B : BK), (∀ j, j < is.length → p (n + j) = q (n + j)) → Bf p is n B = Bf q is n B := by
    intro p q is
    induction is with
    | nil => intro n B _; rfl
    | cons r is ih =>
      intro n B h
      simp only [Bf]
      have h0 := h 0 (by simp)
      simp only [Nat.add_zero] at h0
      rw [h0]
      exact ih (n + 1) _ fun j hj => by
        have := h (j + 1) (by simp; omega)
        rwa [show n + 1 + j = n + (j + 1) by omega]
  intro is
  induction is generalizing i with
  | nil => intro n B h; simp at h
  | cons r is ih =>
    intro n B hi hp
    cases i with
    | zero =>
      simp at hi
      subst hi
      simp only [Nat.add_zero] at hp ⊢
      have e : Bf (fun x => if x = n then true else p x) (r :: is) n B = Bf p is (n + 1) (updI r B) := by
        simp only [Bf, if_true]
        exact same _ _ _ _ _ fun j _ => by rw [if_neg (by omega)]
      have e' : Bf p (r :: is) n B = Bf p is (n + 1) B := by simp [Bf, hp]
      rw [e, e']
      exact ⟨fun k h => comA p k is (n + 1) B fun j r' hj hpj => h (j + 1) r' (by simpa using hj) (by omega) (by rwa [show n + (j + 1) = n + 1 + j by omega]),
        fun h => comL p is (n + 1) B fun j r' hj hpj => h (j + 1) r' (by simpa using hj) (by omega) (by rwa [show n + (j + 1) = n + 1 + j by omega])⟩
    | succ i =>
      have hi' : is[i]? = some ri := by simpa using hi
      have e : ∀ p', Bf p' (r :: is) n B = Bf p' is (n + 1) (if p' n then updI r B else B) := fun _ => rfl
      rw [e, e]
      have e1 : (if n = n + (i + 1) then true else p n) = p n := if_neg (by omega)
      rw [e1]
      have hh := ih (n := n + 1) (B := if p n then updI r B else B) hi' (by rwa [show n + 1 + i = n + (i + 1) by omega])
      rw [show n + 1 + i = n + (i + 1) by omega] at hh
      exact ⟨fun k h => hh.1 k fun j r' hj hlt hpj => h (j + 1) r' (by simpa using hj) (by omega) (by rwa [show n + (j + 1) = n + 1 + j by omega]),
        fun h => hh.2 fun j r' hj hlt hpj => h (j + 1) r' (by simpa using hj) (by omega) (by rwa [show n + (j + 1) = n + 1 + j by omega])⟩
end Go.CX

/- CX: regions whose order is drawn: whatever order comes up. -/
namespace Go.CX
open Go Go.RowKit Go.SX

theorem Bf_append {p : Nat → Bool} : ∀ {is js : List RI} {k : Nat} {B : BK}, Bf p (is ++ js) k B = Bf p js (k + is.length) (Bf p is k B)
  | [], _, _, _ => rfl
  | r :: is, js, k, B => by
    simp only [List.cons_append, Bf, List.length_cons]
    rw [Bf_append, show k + 1 + is.length = k + (is.length + 1) by omega]
theorem Bf_same {p q : Nat → Bool} : ∀ {is : List RI} {n : Nat} {B : BK}, (∀ j, j < is.length → p (n + j) = q (n + j)) → Bf p is n B = Bf q is n B
  | [], _, _, _ => rfl
  | r :: is, n, B, h => by
    simp only [Bf]
    have h0 := h 0 (by simp)
    simp only [Nat.add_zero] at h0
    rw [h0]
    exact Bf_same fun j hj => by
      have := h (j + 1) (by simp; omega)
      rwa [show n + 1 + j = n + (j + 1) by omega]
theorem Bf_none {p : Nat → Bool} : ∀ {is : List RI} {n : Nat} {B : BK}, (∀ j, j < is.length → p (n + j) = false) → Bf p is n B = B
  | [], _, _, _ => rfl
  | r :: is, n, B, h => by
    simp only [Bf]
    have h0 := h 0 (by simp)
    simp only [Nat.add_zero] at h0
    rw [h0]
    simp only [Bool.false_eq_true, if_false]
    exact Bf_none fun j hj => by
      have := h (j + 1) (by simp; omega)
      rwa [show n + 1 + j = n + (j + 1) by omega]
theorem updL_is {base : BK} {r : RI} {l : Bs} : dlB (updL base r l) base = updI r (dlB l base) := by
  unfold updL
  rw [dlB_append]
  funext id
  have hm : ∀ (es : Bs), lookA id (es.map fun e => (e.1, updI r (dlB l base) e.1)) = (lookA id es).map fun _ => updI r (dlB l base) id := by
    intro es
    induction es with
    | nil => rfl
    | cons e es ih =>
      simp only [List.map_cons, lookA]
      cases hb : Nat.beq e.1 id with
      | true =>
        have := Nat.eq_of_beq_eq_true hb
        subst this
        rfl
      | false => simpa using ih
  have hm' := hm r.dl
  show (match lookA id (r.dl.map fun e => (e.1, updI r (dlB l base) e.1)) with
    | some r => r
    | none => dlB l base id) = _
  rw [hm']
  cases hl : lookA id r.dl with
  | none =>
    simp only [Option.map_none]
    unfold updI
    rw [hl]
  | some x => rfl

theorem maskRow_get : ∀ (m : Nat) (row : List SC) (k0 k : Nat), (maskRow m row k0)[k]? = (row[k]?).map fun c => if m.testBit (k0 + k) then .any else c
  | _, [], _, _ => by simp [maskRow]
  | m, c :: row, k0, 0 => by simp [maskRow]
  | m, c :: row, k0, k + 1 => by
    simp only [maskRow, List.getElem?_cons_succ, maskRow_get m row]
    rw [show k0 + (k + 1) = k0 + 1 + k by omega]
theorem maskRow_len : ∀ (m : Nat) (row : List SC) (k0 : Nat), (maskRow m row k0).length = row.length
  | _, [], _ => rfl
  | m, c :: row, k0 => by simp [maskRow, maskRow_len m row]
theorem maskB_view {B : BK} : ∀ mk, View (maskB B mk) B
  | [] => fun id rv h => ⟨rv, h, rfl, fun _ _ hk _ => hk⟩
  | (i, m) :: rest => by
    intro id rv h
    simp only [maskB] at h
    split at h
    · split at h
      · exact absurd h (by simp)
      · rename_i m'
        simp only [Option.map_eq_some_iff] at h
        obtain ⟨rv', h1, rfl⟩ := h
        obtain ⟨row, h2, h3, h4⟩ := maskB_view rest id rv' h1
        refine ⟨row, h2, by rw [h3, maskRow_len], fun k c hk hne => ?_⟩
        rw [maskRow_get] at hk
        simp only [Option.map_eq_some_iff] at hk
        obtain ⟨c', h5, h6⟩ := hk
        split at h6
        · exact absurd h6.symm hne
        · subst h6; exact h4 k c' h5 hne
    · exact maskB_view rest id rv h
theorem visI_view {B : BK} {mk : List (Nat × Option Nat)} {o : Op} : View (visI mk o B) B := by
  unfold visI
  split
  · exact maskB_view mk
  · intro id rv h; exact absurd h (by simp)

structure Item (cx : Cx) (call : CallT) (fs : Facts) (N : Nat) (ops : Array Oper) (bs : List Nat) (L0 : LK) (B0 : BK) (is : List RI) (i : Nat) (o : Oper) (r : RI) : Prop where
  dst : r.dst = o.dst
  lt : dstOk N o.dst = true
  bef : r.bef = befs (is.take i) o.after.toList
  edges : edgesOk i o.after.toList = true
  le : r.n0 ≤ r.n1
  lens : lensOk r.vis r.dl = true
  view : View r.vis (Bf (fun j => decide (j < i)) is 0 B0)
  does : (guardG cx (Lr L0 (dsts ops.toList) (origI ops.toList bs i) (is.take i) (bitsOf r.bef)) fs ops o = .yes ∧ opG cx call (Lr L0 (dsts ops.toList) (origI ops.toList bs i) (is.take i) (bitsOf r.bef)) r.vis fs r.n0 o.op = .ok ⟨r.v, r.dl, r.n1⟩) ∨
    (guardG cx (Lr L0 (dsts ops.toList) (origI ops.toList bs i) (is.take i) (bitsOf r.bef)) fs ops o = .no ∧ r.v = undefSV ∧ r.dl = [])
/-- Each has numbers of its own. -/
def Chain (is : List RI) (n m : Nat) : Prop := n ≤ m ∧ (∀ (i : Nat) (r : RI), is[i]? = some r → n ≤ r.n0 ∧ r.n1 ≤ m) ∧ ∀ (i j : Nat) (ri rj : RI), i < j → is[i]? = some ri → is[j]? = some rj → ri.n1 ≤ rj.n0

theorem regGo_spec {cx : Cx} {call : CallT} {fs : Facts} {N : Nat} {base : BK} {mkf : Nat → List (Nat × Option Nat)} {ops : Array Oper} {bs : List Nat} {L0 : LK} {B0 : BK} {n00 : Nat} : ∀ {rest : List Oper} {acc is : List RI} {l l' : Bs} {n n' : Nat},
    regGo cx call fs N base mkf ops (dsts ops.toList) bs L0 rest acc l n = .ok is l' n' → dlB l base = Bf (fun _ => true) acc 0 B0 → Chain acc n00 n →
    (∃ tl, is = acc ++ tl) ∧ is.length = acc.length + rest.length ∧ dlB l' base = Bf (fun _ => true) is 0 B0 ∧ Chain is n00 n' ∧ ∀ k o, rest[k]? = some o → ∃ r, is[acc.length + k]? = some r ∧ Item cx call fs N ops bs L0 B0 is (acc.length + k) o r
  | [], acc, is, l, l', n, n', h, hl, hc => by
    simp only [regGo, DR.ok.injEq] at h
    obtain ⟨rfl, rfl, rfl⟩ := h
    exact ⟨⟨[], by simp⟩, by simp, hl, hc, by simp⟩
  | o :: rest, acc, is, l, l', n, n', h, hl, hc => by
    have step : ∀ (r : RI) (l1 : Bs) (n1 : Nat), regGo cx call fs N base mkf ops (dsts ops.toList) bs L0 rest (acc ++ [r]) l1 n1 = .ok is l' n' → dlB l1 base = updI r (dlB l base) → r.n0 = n → r.n1 = n1 → n ≤ n1 →
        (∀ is', (∃ tl, is' = acc ++ r :: tl) → Item cx call fs N ops bs L0 B0 is' acc.length o r) →
        (∃ tl, is = acc ++ tl) ∧ is.length = acc.length + (o :: rest).length ∧ dlB l' base = Bf (fun _ => true) is 0 B0 ∧ Chain is n00 n' ∧ ∀ k o', (o :: rest)[k]? = some o' → ∃ r, is[acc.length + k]? = some r ∧ Item cx call fs N ops bs L0 B0 is (acc.length + k) o' r := by
      intro r l1 n1 h hl1 hr0 hr1 hle hitem
      have hl2 : dlB l1 base = Bf (fun _ => true) (acc ++ [r]) 0 B0 := by
        rw [Bf_append, hl1, hl]
        rfl
      have hc2 : Chain (acc ++ [r]) n00 n1 := by
        obtain ⟨c0, c1, c2⟩ := hc
        refine ⟨by omega, fun i ri hi => ?_, fun i j ri rj hij hi hj => ?_⟩
        · rcases Nat.lt_or_ge i acc.length with hlt | hge
          · rw [List.getElem?_append_left hlt] at hi
            have := c1 i ri hi
            exact ⟨this.1, by omega⟩
          · rw [List.getElem?_append_right hge] at hi
            have : i - acc.length = 0 := by
              have := (List.getElem?_eq_some_iff.1 hi).1
              simp at this
              omega
            rw [this] at hi
            simp at hi
            subst hi
            omega
        · have hjl := (List.getElem?_eq_some_iff.1 hj).1
          simp at hjl
          have hlt : i < acc.length := by omega
          rw [List.getElem?_append_left hlt] at hi
          rcases Nat.lt_or_ge j acc.length with hlt' | hge
          · rw [List.getElem?_append_left hlt'] at hj
            exact c2 i j ri rj hij hi hj
          · rw [List.getElem?_append_right hge] at hj
            have : j - acc.length = 0 := by omega
            rw [this] at hj
            simp at hj
            subst hj
            have := (c1 i ri hi).2
            omega
      obtain ⟨⟨tl, h1⟩, h2, h2', h2'', h3⟩ := regGo_spec h hl2 hc2
      have h1' : is = acc ++ r :: tl := by rw [h1]; simp
      refine ⟨⟨r :: tl, h1'⟩, by rw [h2]; simp; omega, h2', h2'', fun k o' hk => ?_⟩
      cases k with
      | zero =>
        simp at hk
        subst hk
        exact ⟨r, by rw [h1']; simp, hitem is ⟨tl, h1'⟩⟩
      | succ k =>
        obtain ⟨r', h4, h5⟩ := h3 k o' (by simpa using hk)
        simp only [List.length_append, List.length_cons, List.length_nil] at h4 h5
        exact ⟨r', by rw [← h4]; congr 1; omega, by rw [show acc.length + (k + 1) = acc.length + (0 + 1) + k by omega]; exact h5⟩
    have htake : ∀ r is', (∃ tl, is' = acc ++ r :: tl) → is'.take acc.length = acc := by
      rintro r is' ⟨tl, rfl⟩
      simp
    have hfold : ∀ r is', (∃ tl, is' = acc ++ r :: tl) → Bf (fun j => decide (j < acc.length)) is' 0 B0 = dlB l base := by
      rintro r is' ⟨tl, rfl⟩
      rw [Bf_append, Bf_none (is := r :: tl) (fun j _ => by simp), hl]
      exact Bf_same fun j hj => by simp [hj]
    simp only [regGo] at h
    split at h
    · rename_i hcond
      rw [Bool.and_eq_true] at hcond
      split at h
      · rename_i hg
        split at h
        · rename_i d hd
          split at h
          · rename_i hle
            rw [Bool.and_eq_true] at hle
            obtain ⟨hle, hlens⟩ := hle
            have hle := Nat.le_of_ble_eq_true hle
            refine step _ _ _ h updL_is rfl rfl hle fun is' hi => ?_
            have ht := htake _ is' hi
            refine ⟨rfl, hcond.1, by rw [ht], hcond.2, hle, hlens, ?_, Or.inl ⟨by rw [ht]; exact hg, by rw [ht]; exact hd⟩⟩
            rw [hfold _ is' hi]
            exact visI_view
          · exact absurd h (by simp)
        · exact absurd h (by simp)
        · exact absurd h (by simp)
      · rename_i hg
        refine step _ _ _ h ?_ rfl rfl (Nat.le_refl _) fun is' hi => ?_
        · funext id
          rfl
        · have ht := htake _ is' hi
          exact ⟨rfl, hcond.1, by rw [ht], hcond.2, Nat.le_refl _, rfl, fun id rv h => absurd h (by simp), Or.inr ⟨by rw [ht]; exact hg, rfl, rfl⟩⟩
      · exact absurd h (by simp)
      · exact absurd h (by simp)
    · exact absurd h (by simp)

/-! ### Temporaries -/
def Uniq (is : List RI) : Prop := ∀ (i j : Nat) (ri rj : RI) (d : Nat), is[i]? = some ri → is[j]? = some rj → ri.dst = some d → rj.dst = some d → i = j
theorem wrt_some {p : Nat → Bool} {t : Nat} {s : SV} : ∀ {is : List RI} {k : Nat}, wrt p t is k = some s → ∃ j r, is[j]? = some r ∧ r.dst = some t ∧ p (k + j) = true ∧ r.v = s
  | [], _, h => by simp [wrt] at h
  | r :: is, k, h => by
    have rest : wrt p t is (k + 1) = some s → ∃ j r', (r :: is)[j]? = some r' ∧ r'.dst = some t ∧ p (k + j) = true ∧ r'.v = s := by
      intro h
      obtain ⟨j, r', h1, h2, h3, h4⟩ := wrt_some h
      exact ⟨j + 1, r', by simpa using h1, h2, by rwa [show k + (j + 1) = k + 1 + j by omega], h4⟩
    simp only [wrt] at h
    split at h
    · rename_i d hd
      split at h
      · rename_i hb
        rw [Bool.and_eq_true] at hb
        simp only [Option.some.injEq] at h
        exact ⟨0, r, rfl, by rw [hd, Nat.eq_of_beq_eq_true hb.1], hb.2, h⟩
      · exact rest h
    · exact rest h
theorem wrt_of {p : Nat → Bool} {t : Nat} : ∀ {is : List RI} {k j : Nat} {r : RI}, Uniq is → is[j]? = some r → r.dst = some t → p (k + j) = true → wrt p t is k = some r.v
  | [], _, _, _, _, h, _, _ => by simp at h
  | r' :: is, k, 0, r, _, h, hd, hp => by
    simp at h
    subst h
    simp only [Nat.add_zero] at hp
    simp [wrt, hd, hp]
  | r' :: is, k, j + 1, r, hu, h, hd, hp => by
    have hne : r'.dst ≠ some t := by
      intro e
      have := hu 0 (j + 1) r' r t rfl h e hd
      omega
    have ih := wrt_of (k := k + 1) (j := j) (r := r) (fun a b ra rb d ha hb hda hdb => by
      have := hu (a + 1) (b + 1) ra rb d (by simpa using ha) (by simpa using hb) hda hdb
      omega) (by simpa using h) hd (by rwa [show k + 1 + j = k + (j + 1) by omega])
    simp only [wrt]
    split
    · rename_i d hd'
      have : Nat.beq d t = false := by
        cases hq : Nat.beq d t with
        | false => rfl
        | true => rw [Nat.eq_of_beq_eq_true hq] at hd'; exact absurd hd' hne
      rw [this]
      simpa using ih
    · exact ih

/-! ### Some have come up -/
structure RL (ρ : Nat → Value) (φ : Nat → List Value → List Value) (fx : Fx) (ops : Array Oper) (L0 : LK) (B0 : BK) (is : List RI) (n0 n1 : Nat) (β0 : Bk) (p : Nat → Bool) (a : Act) (w : World) (β : Bk) : Prop where
  m : M ρ φ fx (Lr L0 (dsts ops.toList) (fun _ => true) is p) (Bf p is 0 B0) β a w
  closed : ∀ j r, is[j]? = some r → p j = true → ∀ k, r.bef.testBit k = true → p k = true
  fresh : ∀ j r, is[j]? = some r → p j = false → ∀ id, r.n0 ≤ id → id < r.n1 → β id = none
  ext : Ext β0 β
  newer : Newer β0 β n0 n1

theorem view_iff {V B : BK} : View V B ↔ ∀ id rv, V id = some rv → lenB B id = some rv.length ∧ ∀ (k : Nat) (c : SC), rv[k]? = some c → c ≠ .any → atB B id k = some c := by
  constructor
  · intro h id rv hv
    obtain ⟨row, h1, h2, h3⟩ := h id rv hv
    refine ⟨by simp [lenB, h1, h2], fun k c hk hne => ?_⟩
    simp [atB, h1, h3 k c hk hne]
  · intro h id rv hv
    obtain ⟨h1, h2⟩ := h id rv hv
    unfold lenB at h1
    simp only [Option.map_eq_some_iff] at h1
    obtain ⟨row, h3, h4⟩ := h1
    refine ⟨row, h3, h4, fun k c hk hne => ?_⟩
    have := h2 k c hk hne
    simpa [atB, h3] using this

section
variable {ρ : Nat → Value} {φ : Nat → List Value → List Value} {cx : Cx} {fx : Fx} {ops : Array Oper} {bs : List Nat} {L0 : LK} {B0 : BK} {is : List RI} {n0 n1 : Nat} {β0 : Bk} {call : CallT} {fs : Facts}

theorem befs_lt {acc : List RI} {i : Nat} {o : Oper} (he : edgesOk i o.after.toList = true) (hacc : ∀ (j : Nat) (r : RI), acc[j]? = some r → ∀ k, r.bef.testBit k = true → k < j) {k : Nat} (h : (befs acc o.after.toList).testBit k = true) : k < i := by
  obtain ⟨e, h1, h2, h3⟩ := befs_spec h
  have hlt := edgesOk_spec he e h1 (plainG_binds h2)
  rcases h3 with rfl | ⟨r, h4, h5⟩
  · exact hlt
  · have := hacc _ r h4 k h5
    omega

theorem bef_lt (hall : ∀ k o, ops.toList[k]? = some o → ∃ r, is[k]? = some r ∧ Item cx call fs fx.N ops bs L0 B0 is k o r) (hlen : is.length = ops.toList.length) :
    ∀ (n : Nat) (j : Nat) (r : RI), j < n → is[j]? = some r → ∀ k, r.bef.testBit k = true → k < j := by
  intro n
  induction n with
  | zero => intro j r hj; omega
  | succ n ih =>
    intro j r hj hr k hk
    have hjl : j < ops.toList.length := by rw [← hlen]; exact (List.getElem?_eq_some_iff.1 hr).1
    obtain ⟨r', hr', hit⟩ := hall j _ (List.getElem?_eq_getElem hjl)
    rw [hr] at hr'
    simp only [Option.some.injEq] at hr'
    subst hr'
    rw [hit.bef] at hk
    refine befs_lt hit.edges (fun j' r' hj' k' hk' => ?_) hk
    rw [List.getElem?_take] at hj'
    split at hj'
    · exact ih j' r' (by omega) hj' k' hk'
    · exact absurd hj' (by simp)

theorem writer_spec {t : Nat} : ∀ {os : List Oper} {k j : Nat}, writer t os k = some j → ∃ o, os[j - k]? = some o ∧ o.dst = some t ∧ k ≤ j
  | [], _, _, h => by simp [writer] at h
  | o :: os, k, j, h => by
    have rest : writer t os (k + 1) = some j → ∃ o', (o :: os)[j - k]? = some o' ∧ o'.dst = some t ∧ k ≤ j := by
      intro h
      obtain ⟨o', h1, h2, h3⟩ := writer_spec h
      refine ⟨o', ?_, h2, by omega⟩
      rw [show j - k = (j - (k + 1)) + 1 by omega]
      simpa using h1
    simp only [writer] at h
    split at h
    · rename_i d hd
      split at h
      · rename_i hb
        simp only [Option.some.injEq] at h
        subst h
        exact ⟨o, by simp, by rw [hd, Nat.eq_of_beq_eq_true hb], Nat.le_refl _⟩
      · exact rest h
    · exact rest h
theorem sameBefs_spec : ∀ {is : List RI} {bs : List Nat} {j : Nat} {r : RI}, sameBefs is bs = true → is[j]? = some r → bs.getD j 0 = r.bef
  | [], _, _, _, _, h => by simp at h
  | r' :: is, [], _, _, h, _ => by simp [sameBefs] at h
  | r' :: is, b :: bs, 0, r, h, hj => by
    simp only [sameBefs, Bool.and_eq_true] at h
    simp at hj
    subst hj
    simpa using (Nat.eq_of_beq_eq_true h.1).symm
  | r' :: is, b :: bs, j + 1, r, h, hj => by
    simp only [sameBefs, Bool.and_eq_true] at h
    have := sameBefs_spec h.2 (by simpa using hj : is[j]? = some r)
    simpa using this
theorem RL.step (F : Fits cx.Γ cx.S ρ φ) (C : CallOk fx.ws cx φ call) (hf : fs.hold ρ φ) (hall : ∀ k o, ops.toList[k]? = some o → ∃ r, is[k]? = some r ∧ Item cx call fs fx.N ops bs L0 B0 is k o r)
    (hbs : sameBefs is bs = true) (hu : Uniq is) (hok : okAll is = true) (hch : Chain is n0 n1) (hbl : ∀ (j : Nat) (r : RI), is[j]? = some r → ∀ k, r.bef.testBit k = true → k < j) {Q : Exit → Act → World → Prop} {listed : Array Bool} (hsz : listed.size = ops.size)
    {a : Act} {w : World} {β : Bk} (H : RL ρ φ fx ops L0 B0 is n0 n1 β0 (lst listed) a w β) {i : Nat} (hi : i ∈ Region.ready .any ops listed) :
    wpOp cx.P ops Q i (fun a' w' => ∃ β', RL ρ φ fx ops L0 B0 is n0 n1 β0 (lst (listed.setIfInBounds i true)) a' w' β') a w := by
  obtain ⟨hun, o, ho, hed⟩ := mem_ready.1 hi
  have ho' : ops.toList[i]? = some o := by simpa using ho
  obtain ⟨r, hr, hit⟩ := hall i o ho'
  have hilt : i < listed.size := by rw [hsz]; exact (Array.getElem?_eq_some_iff.1 ho).1
  have hpi : lst listed i = false := by
    unfold lst
    simp only [Array.getD_eq_getD_getElem?, Array.getElem?_eq_getElem hilt, Option.getD_some] at hun ⊢
    exact hun
  have hp' : lst (listed.setIfInBounds i true) = fun x => if x = 0 + i then true else lst listed x := by
    funext x
    rw [Nat.zero_add]
    by_cases hx : x = i
    · subst hx
      unfold lst
      simp [hilt]
    · rw [if_neg hx]
      unfold lst
      simp only [Array.getD_eq_getD_getElem?]
      rw [Array.getElem?_setIfInBounds_ne (fun e => hx e.symm)]
  have hbefL : ∀ k, r.bef.testBit k = true → lst listed k = true := by
    intro k hk
    rw [hit.bef] at hk
    obtain ⟨e, h1, h2, h3⟩ := befs_spec hk
    have he := hed e (by simpa using h1) (plainG_binds h2)
    rcases h3 with rfl | ⟨r', h4, h5⟩
    · exact he
    · have h4' : is[e.on]? = some r' := by
        rw [List.getElem?_take] at h4
        split at h4
        · exact h4
        · exact absurd h4 (by simp)
      exact H.closed _ r' h4' he k h5
  have hL : ∀ t s, Lr L0 (dsts ops.toList) (origI ops.toList bs i) (is.take i) (bitsOf r.bef) t = some s → Lr L0 (dsts ops.toList) (fun _ => true) is (lst listed) t = some s := by
    intro t s h
    unfold Lr at *
    split at h
    · rename_i hd
      rw [if_pos hd]
      split at h
      · rename_i v hv
        simp only [Option.some.injEq] at h
        subst h
        obtain ⟨j, rj, h1, h2, h3, h4⟩ := wrt_some hv
        have h1' : is[j]? = some rj := by
          rw [List.getElem?_take] at h1
          split at h1
          · exact h1
          · exact absurd h1 (by simp)
        rw [← h4, wrt_of hu h1' h2 (hbefL _ h3)]
      · split at h
        · rename_i ho'
          have : wrt (lst listed) t is 0 = none := by
            cases hq : wrt (lst listed) t is 0 with
            | none => rfl
            | some v =>
              exfalso
              obtain ⟨j, rj, h1, h2, h3, h4⟩ := wrt_some hq
              unfold origI at ho'
              split at ho'
              · rename_i j' hj'
                obtain ⟨oj, h5, h6, _⟩ := writer_spec hj'
                rw [Nat.sub_zero] at h5
                obtain ⟨rj', h7, h8⟩ := hall j' oj h5
                have := hu j j' rj rj' t h1 h7 h2 (by rw [h8.dst]; exact h6)
                subst this
                rw [h1] at h7
                simp only [Option.some.injEq] at h7
                subst h7
                rw [sameBefs_spec hbs h1] at ho'
                have := H.closed j rj h1 (by rwa [Nat.zero_add] at h3) i ho'
                rw [hpi] at this
                exact absurd this (by simp)
              · exact absurd ho' (by simp)
          rw [this]
          simpa using h
        · exact absurd h (by simp)
    · rename_i hd
      rw [if_neg hd]
      exact h
  -- those that have come up and do not come before it stand apart from it
  have hap : ∀ j rj, is[j]? = some rj → j ≠ i → (lst listed j = true ∧ r.bef.testBit j = false) ∨ (lst listed j = false ∧ j < i) → Apart r rj := by
    intro j rj hj hne hcase
    rcases hcase with ⟨h1, h2⟩ | ⟨h1, h2⟩
    · refine okAll_apart hok hr hj (Ne.symm hne) h2 ?_
      cases hq : rj.bef.testBit i with
      | false => rfl
      | true =>
        have := H.closed j rj hj h1 i hq
        rw [hpi] at this
        exact absurd this (by simp)
    · refine okAll_apart hok hr hj (Ne.symm hne) ?_ ?_
      · cases hq : r.bef.testBit j with
        | false => rfl
        | true =>
          have := hbefL j hq
          rw [h1] at this
          exact absurd this (by simp)
      · cases hq : rj.bef.testBit i with
        | false => rfl
        | true =>
          have := hbl j rj hj i hq
          omega
  have hview : View r.vis (Bf (lst listed) is 0 B0) := by
    rw [view_iff]
    intro id rv hv
    obtain ⟨v1, v2⟩ := view_iff.1 hit.view id rv hv
    have hne : ∀ j rj, is[j]? = some rj → (lst listed (0 + j)) ≠ decide (0 + j < i) → Apart r rj := by
      intro j rj hj hne
      rw [Nat.zero_add] at hne
      have hji : j ≠ i := by
        intro e
        subst e
        rw [hpi] at hne
        simp at hne
      refine hap j rj hj hji ?_
      cases hq : lst listed j with
      | false =>
        rw [hq] at hne
        exact Or.inr ⟨rfl, by simpa using hne⟩
      | true =>
        refine Or.inl ⟨rfl, ?_⟩
        cases hb : r.bef.testBit j with
        | false => rfl
        | true =>
          have := hbl i r hr j hb
          rw [hq] at hne
          simp [this] at hne
    refine ⟨?_, fun k c hk hc => ?_⟩
    · rw [← v1]
      exact Bf_len rfl fun j rj hj h => ((hne j rj hj h).see id rv hv).1
    · rw [← v2 k c hk hc]
      exact Bf_at rfl fun j rj hj h => ((hne j rj hj h).see id rv hv).2 k c hk hc
  have hmi : M ρ φ ⟨fx.N, Xof r.vis β, r.vis, w, fx.ws⟩ (Lr L0 (dsts ops.toList) (origI ops.toList bs i) (is.take i) (bitsOf r.bef)) r.vis β a w :=
    ⟨fun t s ht => H.m.tmps t s (hL t s ht), H.m.size, H.m.dfr, H.m.wld.view hview fx.N⟩
  have hclosed : ∀ j rj, is[j]? = some rj → lst (listed.setIfInBounds i true) j = true → ∀ k, rj.bef.testBit k = true → lst (listed.setIfInBounds i true) k = true := by
    intro j rj hj hpj k hk
    rw [hp'] at hpj ⊢
    simp only [Nat.zero_add] at hpj ⊢
    split at hpj
    · rename_i e
      subst e
      rw [hr] at hj
      simp only [Option.some.injEq] at hj
      subst hj
      split
      · rfl
      · exact hbefL k hk
    · split
      · rfl
      · exact H.closed j rj hj hpj k hk
  have hLafter : ∀ t s, Lr L0 (dsts ops.toList) (fun _ => true) is (lst (listed.setIfInBounds i true)) t = some s → putL (Lr L0 (dsts ops.toList) (fun _ => true) is (lst listed)) o.dst r.v t = some s := by
    intro t s h
    have hnot : ∀ d, o.dst = some d → hasN d (dsts ops.toList) = true := fun d hd => hasN_mem.2 (dsts_mem.2 ⟨i, o, ho', hd⟩)
    -- another's temporary: nothing new
    have other : o.dst ≠ some t → Lr L0 (dsts ops.toList) (fun _ => true) is (lst listed) t = some s := by
      intro hne
      unfold Lr at h ⊢
      split at h
      · rename_i hd
        rw [if_pos hd]
        split at h
        · rename_i v hv
          simp only [Option.some.injEq] at h
          subst h
          obtain ⟨j, rj, h1, h2, h3, h4⟩ := wrt_some hv
          have hji : j ≠ i := by
            intro e
            subst e
            rw [hr] at h1
            simp only [Option.some.injEq] at h1
            subst h1
            exact hne (by rw [← hit.dst]; exact h2)
          rw [hp'] at h3
          simp only [Nat.zero_add] at h3
          rw [if_neg hji] at h3
          rw [wrt_of (k := 0) hu h1 h2 (by rw [Nat.zero_add]; exact h3), h4]
        · rename_i hnone
          have : wrt (lst listed) t is 0 = none := by
            cases hq : wrt (lst listed) t is 0 with
            | none => rfl
            | some v =>
              obtain ⟨j, rj, h1, h2, h3, h4⟩ := wrt_some hq
              rw [Nat.zero_add] at h3
              have := wrt_of (p := lst (listed.setIfInBounds i true)) (k := 0) hu h1 h2 (by
                rw [hp']
                simp only [Nat.zero_add]
                split
                · rfl
                · exact h3)
              rw [this] at hnone
              exact absurd hnone (by simp)
          rw [this]
          exact h
      · rename_i hd
        rw [if_neg hd]
        exact h
    unfold putL
    cases hod : o.dst with
    | none => exact other (by rw [hod]; simp)
    | some d =>
      simp only
      by_cases hdt : d = t
      · subst hdt
        rw [Nat.beq_refl]
        simp only [if_true]
        unfold Lr at h
        rw [if_pos (hnot d hod)] at h
        have := wrt_of (p := lst (listed.setIfInBounds i true)) (k := 0) hu hr (by rw [hit.dst]; exact hod) (by rw [hp']; simp)
        rw [this] at h
        exact h
      · have : Nat.beq d t = false := by
          cases hq : Nat.beq d t with
          | false => rfl
          | true => exact absurd (Nat.eq_of_beq_eq_true hq) hdt
        rw [this]
        simp only [Bool.false_eq_true, if_false]
        exact other (by rw [hod]; simpa using hdt)
  -- its own update comes last
  have hlast : ∀ id, (∀ k, atB (Bf (lst (listed.setIfInBounds i true)) is 0 B0) id k = atB (updI r (Bf (lst listed) is 0 B0)) id k) ∧ lenB (Bf (lst (listed.setIfInBounds i true)) is 0 B0) id = lenB (updI r (Bf (lst listed) is 0 B0)) id := by
    intro id
    rw [hp']
    have hh := Bf_last (p := lst listed) (i := i) (ri := r) (id := id) (is := is) (n := 0) (B := B0) hr (by rw [Nat.zero_add]; exact hpi)
    have hbehind : ∀ j rj, is[j]? = some rj → i < j → lst listed (0 + j) = true → Apart r rj := by
      intro j rj hj hlt hp
      rw [Nat.zero_add] at hp
      refine hap j rj hj (by omega) (Or.inl ⟨hp, ?_⟩)
      cases hb : r.bef.testBit j with
      | false => rfl
      | true =>
        have := hbl i r hr j hb
        omega
    exact ⟨fun k => hh.1 k fun j rj hj hlt hp => (hbehind j rj hj hlt hp).cells id k, hh.2 fun j rj hj hlt hp => (hbehind j rj hj hlt hp).rows id⟩
  have hrow : ∀ id row', Bf (lst (listed.setIfInBounds i true)) is 0 B0 id = some row' → updI r (Bf (lst listed) is 0 B0) id = some row' := by
    intro id row' h
    obtain ⟨h1, h2⟩ := hlast id
    simp only [atB, lenB, h, Option.map_some, Option.bind_some] at h1 h2
    cases hq : updI r (Bf (lst listed) is 0 B0) id with
    | none => rw [hq] at h2; simp at h2
    | some row =>
      congr 1
      apply List.ext_getElem?
      intro k
      have := h1 k
      rw [hq] at this
      exact this.symm
  have hmerge : Merged r.vis (Bf (lst listed) is 0 B0) r.dl (Bf (lst (listed.setIfInBounds i true)) is 0 B0) := by
    intro id row' h
    have h := hrow id row' h
    unfold updI at h
    cases hl : lookA id r.dl with
    | none =>
      rw [hl] at h
      simp only at h
      cases hv : r.vis id with
      | none => exact Or.inr ⟨row', h, rfl, Or.inl ⟨rfl, rfl⟩⟩
      | some rv =>
        obtain ⟨row, h1, h2, h3⟩ := hview id rv hv
        rw [h] at h1
        simp only [Option.some.injEq] at h1
        subst h1
        refine Or.inr ⟨row', h, rfl, Or.inr ⟨rv, by simp [dlB, hl, hv], by simp, h2.symm, fun k c hk => ?_⟩⟩
        have hkl : k < rv.length := by rw [← h2]; exact (List.getElem?_eq_some_iff.1 hk).1
        have hrv : rv[k]? = some rv[k] := List.getElem?_eq_getElem hkl
        by_cases e : rv[k] = .any
        · exact Or.inr ⟨by rw [hrv, e], hk⟩
        · have := h3 k _ hrv e
          rw [hk] at this
          simp only [Option.some.injEq] at this
          exact Or.inl ⟨by rw [hrv, this], by rw [this]; exact e⟩
    | some x =>
      rw [hl] at h
      cases x with
      | none => exact absurd h (by simp)
      | some ro =>
        simp only at h
        cases hv : r.vis id with
        | none =>
          rw [hv] at h
          simp only [Option.some.injEq] at h
          subst h
          exact Or.inl ⟨rfl, by simp [dlB, hl]⟩
        | some rv =>
          rw [hv] at h
          simp only [Option.map_eq_some_iff] at h
          obtain ⟨row, h1, rfl⟩ := h
          refine Or.inr ⟨row, h1, by rw [mrg_len], Or.inr ⟨ro, by simp [dlB, hl], by simp, ?_, fun k c hk => ?_⟩⟩
          · obtain ⟨row2, g1, g2, g3⟩ := hview id rv hv
            rw [h1] at g1
            simp only [Option.some.injEq] at g1
            subst g1
            rw [lensOk_spec hit.lens hl hv, g2]
          rw [mrg_get] at hk
          simp only [Option.map_eq_some_iff] at hk
          obtain ⟨c', hc', hm⟩ := hk
          obtain ⟨row2, g1, g2, g3⟩ := hview id rv hv
          rw [h1] at g1
          simp only [Option.some.injEq] at g1
          subst g1
          have hkl : k < rv.length := by rw [← g2]; exact (List.getElem?_eq_some_iff.1 hc').1
          have hrv : rv[k]? = some rv[k] := List.getElem?_eq_getElem hkl
          unfold mrgC at hm
          -- an operation keeps the length of what it sees
          cases hro : ro[k]? with
          | none =>
            exfalso
            have := lensOk_spec hit.lens hl hv
            rw [List.getElem?_eq_none_iff] at hro
            omega
          | some o' =>
            rw [hro, hrv] at hm
            simp only at hm
            split at hm
            · rename_i hkeep
              subst hm
              rcases keepC_eq hkeep with e | e
              · subst e
                exact Or.inr ⟨rfl, hc'⟩
              · by_cases e' : rv[k] = .any
                · exact Or.inr ⟨by rw [e, e'], hc'⟩
                · have := g3 k _ hrv e'
                  rw [hc'] at this
                  simp only [Option.some.injEq] at this
                  exact Or.inl ⟨by rw [e, this], by rw [this]; exact e'⟩
            · rename_i hkeep
              subst hm
              refine Or.inl ⟨rfl, ?_⟩
              intro e
              subst e
              simp [keepC] at hkeep
  have hg := guardG_ok (cx := cx) (ops := ops) (o := o) F hmi hf
  have hdisj : ∀ j rj, is[j]? = some rj → j ≠ i → ∀ id, r.n0 ≤ id → id < r.n1 → ¬ (rj.n0 ≤ id ∧ id < rj.n1) := by
    intro j rj hj hne id h1 h2
    rcases Nat.lt_or_gt_of_ne hne with hlt | hlt
    · have := hch.2.2 j i rj r hlt hj hr
      omega
    · have := hch.2.2 i j r rj hlt hr hj
      omega
  have hfree := H.fresh i r hr hpi
  unfold wpOp
  rw [ho]
  simp only
  rcases hit.does with ⟨hyes, hop⟩ | ⟨hno, hv, hdl⟩
  · rw [if_pos (hg.1 hyes)]
    refine Or.inl ?_
    refine opG_does (fx := ⟨fx.N, Xof r.vis β, r.vis, w, fx.ws⟩) F C hmi hf hfree hop _ _ fun β' x w' hE hN hW hx => ⟨β', ?_, hclosed, fun j rj hj hpj id h1 h2 => ?_, H.ext.trans hE, ?_⟩
    · have hW' := H.m.wld.merge hview hE hW hmerge
      exact (M.step (dst := o.dst) H.m hE hW' (dstOk_lt hit.lt) hx).lessL hLafter
    · cases hb : β' id with
      | none => rfl
      | some p =>
        rw [hp'] at hpj
        simp only [Nat.zero_add] at hpj
        split at hpj
        · exact absurd hpj (by simp)
        · rename_i hji
          rcases hN id p hb with h3 | ⟨h3, h4⟩
          · rw [H.fresh j rj hj hpj id h1 h2] at h3
            exact absurd h3 (by simp)
          · exact absurd ⟨h1, h2⟩ (hdisj j rj hj hji id h3 h4)
    · intro id p hp
      rcases hN id p hp with h | ⟨h1, h2⟩
      · exact H.newer id p h
      · have := hch.2.1 i r hr
        have h2 : id < r.n1 := h2
        exact Or.inr ⟨by omega, by omega⟩
  · rw [if_neg (by rw [hg.2 hno]; simp)]
    refine ⟨β, ?_, hclosed, fun j rj hj hpj id h1 h2 => ?_, H.ext, H.newer⟩
    · have hm := M.step (dst := o.dst) (s := undefSV) (x := undef) H.m (Ext.refl _) H.m.wld (dstOk_lt hit.lt) rfl
      rw [← hv] at hm
      have hm := hm.lessL hLafter
      refine ⟨hm.tmps, hm.size, hm.dfr, hm.wld.less fun id row h => ?_⟩
      have h := hrow id row h
      unfold updI at h
      rw [hdl] at h
      exact h
    · rw [hp'] at hpj
      simp only [Nat.zero_add] at hpj
      split at hpj
      · exact absurd hpj (by simp)
      · exact H.fresh j rj hj hpj id h1 h2

/-- Where nothing may come up any more, all have come up. -/
theorem all_listed (hall : ∀ k o, ops.toList[k]? = some o → ∃ r, is[k]? = some r ∧ Item cx call fs fx.N ops bs L0 B0 is k o r) {listed : Array Bool} (hsz : listed.size = ops.size) (hr : Region.ready .any ops listed = []) :
    ∀ (n : Nat) (j : Nat), j < n → j < ops.size → lst listed j = true := by
  intro n
  induction n with
  | zero => intro j hj; omega
  | succ n ih =>
    intro j hj hjs
    have hjl : j < listed.size := by omega
    cases hq : lst listed j with
    | true => rfl
    | false =>
      have hmem : j ∈ Region.ready .any ops listed := by
        rw [mem_ready]
        have ho : ops[j]? = some ops[j] := Array.getElem?_eq_getElem hjs
        obtain ⟨r, _, hit⟩ := hall j ops[j] (by simp [hjs])
        refine ⟨?_, ops[j], ho, fun e he hb => ?_⟩
        · unfold lst at hq
          simp only [Array.getD_eq_getD_getElem?, Array.getElem?_eq_getElem hjl, Option.getD_some] at hq ⊢
          exact hq
        · have hlt := edgesOk_spec hit.edges e (by simpa using he) hb
          exact ih e.on (by omega) (by omega)
      rw [hr] at hmem
      exact absurd hmem (by simp)

theorem wpAny_of_RL (F : Fits cx.Γ cx.S ρ φ) (C : CallOk fx.ws cx φ call) (hf : fs.hold ρ φ) (hall : ∀ k o, ops.toList[k]? = some o → ∃ r, is[k]? = some r ∧ Item cx call fs fx.N ops bs L0 B0 is k o r) (hlen : is.length = ops.toList.length)
    (hbs : sameBefs is bs = true) (hu : Uniq is) (hok : okAll is = true) (hch : Chain is n0 n1) {Q : Exit → Act → World → Prop}
    (hQ : ∀ a w β p, (∀ j, j < ops.size → p j = true) → RL ρ φ fx ops L0 B0 is n0 n1 β0 p a w β → Q .normal a w) :
    ∀ (fuel : Nat) (listed : Array Bool) (a : Act) (w : World) (β : Bk), listed.size = ops.size →
      (List.range ops.size).countP (fun j => !lst listed j) ≤ fuel → RL ρ φ fx ops L0 B0 is n0 n1 β0 (lst listed) a w β → wpAny cx.P .any ops Q fuel listed a w := by
  have hbl : ∀ (j : Nat) (r : RI), is[j]? = some r → ∀ k, r.bef.testBit k = true → k < j := fun j r => bef_lt hall hlen (j + 1) j r (by omega)
  intro fuel
  induction fuel with
  | zero =>
    intro listed a w β hsz hcnt H
    have hall' : ∀ j, j < ops.size → lst listed j = true := by
      intro j hj
      have h0 : (List.range ops.size).countP (fun j => !lst listed j) = 0 := by omega
      rw [List.countP_eq_zero] at h0
      have := h0 j (List.mem_range.2 hj)
      simpa using this
    refine ⟨?_, hQ a w β _ hall' H⟩
    apply List.eq_nil_iff_forall_not_mem.2
    intro j hj
    obtain ⟨h1, o, ho, _⟩ := mem_ready.1 hj
    have hj' := (Array.getElem?_eq_some_iff.1 ho).1
    have := hall' j hj'
    unfold lst at this
    have hjl : j < listed.size := by omega
    simp only [Array.getD_eq_getD_getElem?, Array.getElem?_eq_getElem hjl, Option.getD_some] at h1 this
    rw [h1] at this
    exact absurd this (by simp)
  | succ fuel ih =>
    intro listed a w β hsz hcnt H
    refine ⟨fun hr => hQ a w β _ (fun j hj => all_listed hall hsz hr (j + 1) j (by omega) hj) H, fun i hi => ?_⟩
    have hstep := RL.step F C hf hall hbs hu hok hch hbl hsz H hi (Q := Q)
    refine wpOp_mono (fun a' w' ⟨β', hR⟩ => ?_) hstep
    refine ih (listed.setIfInBounds i true) a' w' β' (by simp [hsz]) ?_ hR
    obtain ⟨hun, o, ho, _⟩ := mem_ready.1 hi
    have hil := (Array.getElem?_eq_some_iff.1 ho).1
    have hpi : lst listed i = false := by
      unfold lst
      have hjl : i < listed.size := by omega
      simp only [Array.getD_eq_getD_getElem?, Array.getElem?_eq_getElem hjl, Option.getD_some] at hun ⊢
      exact hun
    have hlt : (List.range ops.size).countP (fun j => !lst (listed.setIfInBounds i true) j) < (List.range ops.size).countP (fun j => !lst listed j) := by
      refine countP_lt _ (fun x hx => ?_) ⟨i, List.mem_range.2 hil, by simp [hpi], ?_⟩
      · intro h
        by_cases hxi : x = i
        · subst hxi; simp [hpi]
        · simp only [Bool.not_eq_true'] at h ⊢
          unfold lst at *
          simp only [Array.getD_eq_getD_getElem?, Array.getElem?_setIfInBounds_ne (Ne.symm hxi)] at h ⊢
          exact h
      · unfold lst
        simp [show i < listed.size by omega]
    omega

theorem finT_look (t : Nat) (s : SV) : ∀ {is : List RI} {l : List (Nat × SV)}, lookA t (finT is l) = some s →
    (∃ (j : Nat) (r : RI), is[j]? = some r ∧ r.dst = some t ∧ r.v = s) ∨ ((∀ (j : Nat) (r : RI), is[j]? = some r → r.dst ≠ some t) ∧ lookA t l = some s)
  | [], l, h => Or.inr ⟨by simp, h⟩
  | r :: is, l, h => by
    simp only [finT] at h
    rcases finT_look t s h with ⟨j, r', h1, h2⟩ | ⟨h1, h2⟩
    · exact Or.inl ⟨j + 1, r', by simpa using h1, h2⟩
    · rw [look_putT] at h2
      cases hd : r.dst with
      | none =>
        rw [hd] at h2
        refine Or.inr ⟨fun j r' hj => ?_, h2⟩
        cases j with
        | zero => simp at hj; subst hj; rw [hd]; simp
        | succ j => exact h1 j r' (by simpa using hj)
      | some d =>
        rw [hd] at h2
        simp only [putL] at h2
        split at h2
        · rename_i hb
          simp only [Option.some.injEq] at h2
          exact Or.inl ⟨0, r, rfl, by rw [hd, Nat.eq_of_beq_eq_true hb], h2⟩
        · rename_i hb
          refine Or.inr ⟨fun j r' hj => ?_, h2⟩
          cases j with
          | zero =>
            simp at hj
            subst hj
            rw [hd]
            intro e
            simp only [Option.some.injEq] at e
            subst e
            simp at hb
          | succ j => exact h1 j r' (by simpa using hj)

theorem region_sound (F : Fits cx.Γ cx.S ρ φ) (C : CallOk fx.ws cx φ call) (hf : fs.hold ρ φ) {base : BK} {σ : St} {mkf : Nat → List (Nat × Option Nat)} {l : Bs} {n : Nat} {Q : Exit → Act → World → Prop} {β : Bk} {a : Act} {w : World} {rid : Nat} (hc : cx.P.follows .mixedOrders = true ∧ nodupN (dsts ops.toList) = true)
    (h : regGo cx call fs fx.N base mkf ops (dsts ops.toList) bs σ.L ops.toList [] σ.dl σ.next = .ok is l n) (hbs : sameBefs is bs = true) (hok : okAll is = true)
    (H : MS ρ φ fx base σ β a w) (hn : ∀ id, σ.next ≤ id → id < n → β id = none) (hQ : ∀ β' a' w', Ext β β' → Newer β β' σ.next n → MS ρ φ fx base ⟨finT is σ.tmps, l, n⟩ β' a' w' → Q .normal a' w') : (Code.region rid ops true).wp cx.P Q a w ∧ σ.next ≤ n := by
  obtain ⟨_, hlen, hl, hch, hall⟩ := regGo_spec (B0 := dlB σ.dl base) (n00 := σ.next) h rfl ⟨Nat.le_refl _, by simp, by simp⟩
  simp only [List.length_nil, Nat.zero_add] at hlen hall
  refine ⟨?_, hch.1⟩
  have hu : Uniq is := by
    intro i j ri rj d hi hj hdi hdj
    have hil : i < ops.toList.length := by rw [← hlen]; exact (List.getElem?_eq_some_iff.1 hi).1
    have hjl : j < ops.toList.length := by rw [← hlen]; exact (List.getElem?_eq_some_iff.1 hj).1
    obtain ⟨r1, h1, i1⟩ := hall i _ (List.getElem?_eq_getElem hil)
    obtain ⟨r2, h2, i2⟩ := hall j _ (List.getElem?_eq_getElem hjl)
    rw [hi] at h1
    rw [hj] at h2
    simp only [Option.some.injEq] at h1 h2
    subst h1 h2
    exact nodup_uniq hc.2 (List.getElem?_eq_getElem hil) (List.getElem?_eq_getElem hjl) (by rw [← i1.dst]; exact hdi) (by rw [← i2.dst]; exact hdj)
  refine wp_region_any hc.1 ?_
  refine wpAny_of_RL (fx := fx) (L0 := σ.L) (B0 := dlB σ.dl base) (β0 := β) F C hf hall hlen hbs hu hok hch (fun a1 w1 β1 p hp HR => ?_) ops.size _ a _ β (by simp) ?_ ?_
  · refine hQ β1 a1 w1 HR.ext HR.newer ⟨⟨fun t s ht => ?_, HR.m.size, HR.m.dfr, ?_⟩⟩
    · refine HR.m.tmps t s ?_
      have ht : lookA t (finT is σ.tmps) = some s := ht
      unfold Lr
      rcases finT_look t s ht with ⟨j, r, h1, h2, h3⟩ | ⟨h1, h2⟩
      · have hjl : j < ops.toList.length := by rw [← hlen]; exact (List.getElem?_eq_some_iff.1 h1).1
        obtain ⟨r', h4, i4⟩ := hall j _ (List.getElem?_eq_getElem hjl)
        rw [h1] at h4
        simp only [Option.some.injEq] at h4
        subst h4
        have hd : hasN t (dsts ops.toList) = true := hasN_mem.2 (dsts_mem.2 ⟨j, _, List.getElem?_eq_getElem hjl, by rw [← i4.dst]; exact h2⟩)
        rw [if_pos hd, ← h3, wrt_of hu h1 h2 (by rw [Nat.zero_add]; exact hp j (by simpa using hjl))]
      · rw [if_neg]
        · exact h2
        · intro hd
          obtain ⟨i, o, ho, hod⟩ := dsts_mem.1 (hasN_mem.1 hd)
          obtain ⟨r, hr, hi⟩ := hall i o ho
          exact h1 i r hr (by rw [hi.dst]; exact hod)
    · have e : Bf p is 0 (dlB σ.dl base) = dlB l base := by
        rw [hl]
        refine Bf_same fun j hj => ?_
        rw [Nat.zero_add]
        exact hp j (by rw [hlen] at hj; simpa using hj)
      have hw := HR.m.wld
      rw [e] at hw
      exact hw
  · rw [List.countP_eq_length_filter]
    refine Nat.le_trans (List.length_filter_le _ _) ?_
    simp
  · refine ⟨⟨fun t s ht => ?_, H.m.size, H.m.dfr, ?_⟩, fun j r _ hl => ?_, fun j r hj _ id h1 h2 => ?_, Ext.refl _, Newer.refl _ _ _⟩
    · refine H.m.tmps t s ?_
      unfold Lr at ht
      split at ht
      · split at ht
        · rename_i v hv
          obtain ⟨j, r, h1, h2, h3, h4⟩ := wrt_some hv
          rw [lst_rep] at h3
          exact absurd h3 (by simp)
        · simpa using ht
      · exact ht
    · rw [Bf_none fun j _ => lst_rep _ _]
      exact H.m.wld.drew
    · rw [lst_rep] at hl
      exact absurd hl (by simp)
    · have := hch.2.1 j r hj
      exact hn id (by omega) (by omega)
end

theorem regD_sound {ρ : Nat → Value} {φ : Nat → List Value → List Value} {cx : Cx} {fx : Fx} {ops : Array Oper} {call : CallT} {fs : Facts} (F : Fits cx.Γ cx.S ρ φ) (C : CallOk fx.ws cx φ call) (hf : fs.hold ρ φ) {base : BK} {σ σ' : St} {Q : Exit → Act → World → Prop} {β : Bk} {a : Act} {w : World} {rid : Nat}
    (h : regD cx call fs fx.N base ops σ = .ok σ')
    (H : MS ρ φ fx base σ β a w) (hn : ∀ id, σ.next ≤ id → id < σ'.next → β id = none) (hQ : ∀ β' a' w', Ext β β' → Newer β β' σ.next σ'.next → MS ρ φ fx base σ' β' a' w' → Q .normal a' w') : (Code.region rid ops true).wp cx.P Q a w := by
  unfold regD at h
  split at h
  · rename_i hc
    rw [Bool.and_eq_true] at hc
    split at h
    · rename_i is l n hgo
      split at h
      · rename_i hok
        rw [Bool.and_eq_true] at hok
        simp only [RR.ok.injEq] at h
        subst h
        exact (region_sound F C hf hc hgo hok.1 hok.2 H hn hQ).1
      · unfold regF at h
        split at h
        · rename_i is l n hgo
          split at h
          · rename_i hok
            rw [Bool.and_eq_true] at hok
            simp only [RR.ok.injEq] at h
            subst h
            exact (region_sound F C hf hc hgo hok.1 hok.2 H hn hQ).1
          · exact absurd h (by simp)
        · exact absurd h (by simp)
        · exact absurd h (by simp)
    · exact absurd h (by simp)
    · exact absurd h (by simp)
  · exact absurd h (by simp)
theorem regD_next {cx : Cx} {N : Nat} {ops : Array Oper} {call : CallT} {fs : Facts} {base : BK} {σ σ' : St} (h : regD cx call fs N base ops σ = .ok σ') : σ.next ≤ σ'.next := by
  have key : ∀ {mkf : Nat → List (Nat × Option Nat)} {is : List RI} {l : Bs} {n : Nat}, regGo cx call fs N base mkf ops (dsts ops.toList) (befAll ops.toList []) σ.L ops.toList [] σ.dl σ.next = .ok is l n → σ.next ≤ n := by
    intro mkf is l n h
    exact (regGo_spec (B0 := dlB σ.dl base) (n00 := σ.next) h rfl ⟨Nat.le_refl _, by simp, by simp⟩).2.2.2.1.1
  unfold regD at h
  split at h
  · split at h
    · rename_i is l n hgo
      split at h
      · simp only [RR.ok.injEq] at h
        subst h
        exact key hgo
      · unfold regF at h
        split at h
        · rename_i is l n hgo
          split at h
          · simp only [RR.ok.injEq] at h
            subst h
            exact key hgo
          · exact absurd h (by simp)
        · exact absurd h (by simp)
        · exact absurd h (by simp)
    · exact absurd h (by simp)
    · exact absurd h (by simp)
  · exact absurd h (by simp)
end Go.CX
