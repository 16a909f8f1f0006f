/- CX: states; regions in the order of the text; what an operation that sees a part leaves of the whole. -/
import Derived.Test.YtfcddhicklhefaaGreatDoorCXe
namespace Go.CX
open Go Go.RowKit Go.SX

abbrev Bs := List (Nat × Option (List SC))
structure St where
  tmps : List (Nat × SV)
  dl : Bs
  next : Nat
  deriving Inhabited
def St.L (σ : St) : LK := fun t => lookA t σ.tmps
structure MS (ρ : Nat → Value) (φ : Nat → List Value → List Value) (fx : Fx) (base : BK) (σ : St) (β : Bk) (a : Act) (w : World) : Prop where
  m : M ρ φ fx σ.L (dlB σ.dl base) β a w

inductive RR where
  | ok (σ : St) | split (c : E) | stuck
inductive GR where
  | yes | no | split (c : E) | stuck
def guardG (cx : Cx) (L : LK) (fs : Facts) (ops : Array Oper) (o : Oper) : GR :=
  match o.guard with
  | none => .yes
  | some (j, want) => match (ops[j]?).bind (·.dst) with
    | some t => match (L t).bind SV.ex with
      | some (.val (.tuple _)) => .no
      | some e => match cx.so e with
        | .bool => (match dec cx fs e with
            | some b => if b == want then .yes else .no
            | none => .split e)
        | _ => .stuck
      | none => .stuck
    | none => .stuck
def dstOk (N : Nat) : Option Tmp → Bool
  | some d => Nat.blt d N
  | none => true
def putT (dst : Option Tmp) (s : SV) (l : List (Nat × SV)) : List (Nat × SV) :=
  match dst with
  | some d => (d, s) :: l
  | none => l
def putL (L : LK) (dst : Option Tmp) (s : SV) : LK := fun t => match dst with
  | some d => if Nat.beq d t then some s else L t
  | none => L t
def regT (cx : Cx) (call : CallT) (fs : Facts) (N : Nat) (base : BK) (ops : Array Oper) : List Oper → St → RR
  | [], σ => .ok σ
  | o :: rest, σ =>
    if dstOk N o.dst then
      match guardG cx σ.L fs ops o with
      | .yes => match opG cx call σ.L (dlB σ.dl base) fs σ.next o.op with
        | .ok d => if Nat.ble σ.next d.next then regT cx call fs N base ops rest ⟨putT o.dst d.v σ.tmps, d.dl ++ σ.dl, d.next⟩ else .stuck
        | .split c => .split c
        | .stuck => .stuck
      | .no => regT cx call fs N base ops rest { σ with tmps := putT o.dst undefSV σ.tmps }
      | .split c => .split c
      | .stuck => .stuck
    else .stuck

theorem dlB_append (l l' : Bs) (B : BK) : dlB (l ++ l') B = dlB l (dlB l' B) := by
  induction l with
  | nil => rfl
  | cons p l ih =>
    funext id
    have ih := congrFun ih id
    unfold dlB at ih ⊢
    obtain ⟨i, r⟩ := p
    simp only [List.cons_append, lookA]
    cases Nat.beq i id with
    | true => rfl
    | false => exact ih

section
variable {ρ : Nat → Value} {φ : Nat → List Value → List Value} {cx : Cx} {fx : Fx} {L : LK} {B : BK} {β : Bk} {a : Act} {w : World}

def asB : Value → Option Bool | .bool b => some b | _ => none
theorem guardG_ok (F : Fits cx.Γ cx.S ρ φ) (H : M ρ φ fx L B β a w) {fs : Facts} (hf : fs.hold ρ φ) {ops : Array Oper} {o : Oper} :
    (guardG cx L fs ops o = .yes → Region.wanted o (yielded ops a.tmps) = true) ∧ (guardG cx L fs ops o = .no → Region.wanted o (yielded ops a.tmps) = false) := by
  unfold guardG Region.wanted
  cases hg : o.guard with
  | none => simp
  | some g =>
    obtain ⟨j, want⟩ := g
    simp only
    cases ht : (ops[j]?).bind (·.dst) with
    | none => simp
    | some t =>
      simp only
      cases hs : L t with
      | none => simp
      | some s =>
        obtain ⟨x, hx, hsx⟩ := H.tmps t s hs
        have hy : yielded ops a.tmps j = asB x := by
          unfold yielded
          rw [ht]
          simp only [Option.bind_some, hx]
          cases x <;> rfl
        simp only [Option.bind_some]
        cases he : s.ex with
        | none => simp
        | some e =>
          have hxe := SV.ex_is he hsx
          subst hxe
          split
          · rename_i vs heq
            simp only [Option.some.injEq] at heq
            subst heq
            rw [hy]
            simp [E.den, asB]
          · rename_i e' _ heq
            simp only [Option.some.injEq] at heq
            subst heq
            split
            · split
              · rename_i b hb
                have hb := dec_sound F hf hb
                rw [hy, hb]
                simp only [asB]
                constructor
                · intro h
                  split at h
                  · rename_i e; have e : b = want := by simpa using e
                    subst e; simp
                  · exact absurd h (by simp)
                · intro h
                  split at h
                  · exact absurd h (by simp)
                  · rename_i e; simpa using e
              · simp
            · simp
          · rename_i heq
            exact absurd heq (by simp)

theorem dstOk_lt {N : Nat} {dst : Option Tmp} (h : dstOk N dst = true) : ∀ d, dst = some d → d < N := by
  intro d hd
  subst hd
  exact blt_lt h
theorem look_putT {dst : Option Tmp} {s : SV} {l : List (Nat × SV)} (t : Nat) : lookA t (putT dst s l) = putL (fun t => lookA t l) dst s t := by
  cases dst with
  | none => rfl
  | some d => rfl
theorem put_tmps {L : LK} {β : Bk} {a : Act} (H : ∀ t s, L t = some s → ∃ x, a.tmps[t]? = some x ∧ s.is ρ φ β x) {dst : Option Tmp} {s : SV} {x : Value} (hd : ∀ d, dst = some d → d < a.tmps.size)
    (hs : s.is ρ φ β x) : ∀ t u, putL L dst s t = some u → ∃ y, (a.put dst x).tmps[t]? = some y ∧ u.is ρ φ β y := by
  intro t u h
  cases dst with
  | none => exact H t u h
  | some d =>
    simp only [putL] at h
    by_cases hdt : d = t
    · subst hdt
      simp only [Nat.beq_refl, if_true, Option.some.injEq] at h
      subst h
      exact ⟨x, by simp [Act.put, hd d rfl], hs⟩
    · have : Nat.beq d t = false := by
        cases hq : Nat.beq d t with
        | false => rfl
        | true => exact absurd (Nat.eq_of_beq_eq_true hq) hdt
      simp only [this, Bool.false_eq_true, if_false] at h
      obtain ⟨y, hy, hu⟩ := H t u h
      exact ⟨y, by simp only [Act.put]; rw [Array.getElem?_setIfInBounds_ne hdt]; exact hy, hu⟩
/-- Behind an operation. -/
theorem M.step {B' : BK} {β' : Bk} {w' : World} {dst : Option Tmp} {s : SV} {x : Value} (H : M ρ φ fx L B β a w) (hE : Ext β β') (hW : W ρ φ fx B' β' w') (hd : ∀ d, dst = some d → d < fx.N) (hx : s.is ρ φ β' x) :
    M ρ φ fx (putL L dst s) B' β' (a.put dst x) w' := by
  refine ⟨put_tmps (fun t s h => ?_) (fun d hd' => by rw [H.size]; exact hd d hd') hx, ?_, ?_, hW⟩
  · obtain ⟨y, hy, hs⟩ := H.tmps t s h
    exact ⟨y, hy, SV.is_ext hE hs⟩
  · have := H.size
    cases dst <;> simp [Act.put, this]
  · have := H.dfr
    cases dst <;> exact this
theorem M.lessL {L' : LK} (h : ∀ t s, L' t = some s → L t = some s) (H : M ρ φ fx L B β a w) : M ρ φ fx L' B β a w :=
  ⟨fun t s ht => H.tmps t s (h t s ht), H.size, H.dfr, H.wld⟩
theorem M.drew (H : M ρ φ fx L B β a w) : M ρ φ fx L B β a w.drew := ⟨H.tmps, H.size, H.dfr, H.wld.drew⟩

theorem regT_next {call : CallT} {fs : Facts} {N : Nat} {base : BK} {ops : Array Oper} : ∀ {rest : List Oper} {σ σ' : St}, regT cx call fs N base ops rest σ = .ok σ' → σ.next ≤ σ'.next
  | [], σ, σ', h => by simp only [regT, RR.ok.injEq] at h; subst h; exact Nat.le_refl _
  | o :: rest, σ, σ', h => by
    simp only [regT] at h
    split at h
    · split at h
      · split at h
        · split at h
          · rename_i hle
            have := regT_next h
            exact Nat.le_trans (Nat.le_of_ble_eq_true hle) this
          · exact absurd h (by simp)
        · exact absurd h (by simp)
        · exact absurd h (by simp)
      · exact regT_next (σ := { σ with tmps := putT o.dst undefSV σ.tmps }) h
      · exact absurd h (by simp)
      · exact absurd h (by simp)
    · exact absurd h (by simp)

theorem regT_sound (F : Fits cx.Γ cx.S ρ φ) {call : CallT} (C : CallOk fx.ws cx φ call) {fs : Facts} (hf : fs.hold ρ φ) {base : BK} {ops : Array Oper} {Q : Exit → Act → World → Prop} : ∀ {rest : List Oper} {σ σ' : St} {β : Bk} {a : Act} {w : World}, regT cx call fs fx.N base ops rest σ = .ok σ' →
    MS ρ φ fx base σ β a w → (∀ id, σ.next ≤ id → id < σ'.next → β id = none) → (∀ β' a' w', Ext β β' → Newer β β' σ.next σ'.next → MS ρ φ fx base σ' β' a' w' → Q .normal a' w') → wpList cx.P ops Q rest a w
  | [], σ, σ', β, a, w, h, H, hn, hQ => by
    simp only [regT, RR.ok.injEq] at h
    subst h
    exact hQ β a w (Ext.refl _) (Newer.refl _ _ _) H
  | o :: rest, σ, σ', β, a, w, h, H, hn, hQ => by
    simp only [regT] at h
    split at h
    · rename_i hd
      have hd := dstOk_lt hd
      have hg := guardG_ok (cx := cx) F H.m hf (ops := ops) (o := o)
      unfold wpList
      split at h
      · rename_i hy
        rw [if_pos (hg.1 hy)]
        refine Or.inl ?_
        split at h
        · rename_i d hdd
          split at h
          · rename_i hle
            have hle := Nat.le_of_ble_eq_true hle
            have hnx := regT_next h
            simp only at hnx
            refine opG_does F C H.m hf (fun id h1 h2 => hn id h1 (by omega)) hdd _ _ fun β' x w' hE hN hW hx => ?_
            have hm := M.step (dst := o.dst) H.m hE hW hd hx
            rw [← dlB_append] at hm
            refine regT_sound F C hf h ⟨hm.lessL fun t s ht => ?_⟩ (fun id h1 h2 => ?_) (fun β'' a' w'' hE' hN' hM => hQ β'' a' w'' (hE.trans hE') (hN.trans hN' hle hnx) hM)
            · have ht : lookA t (putT o.dst d.v σ.tmps) = some s := ht
              rw [look_putT] at ht
              exact ht
            · have h1 : d.next ≤ id := h1
              cases hb : β' id with
              | none => rfl
              | some p =>
                rcases hN id p hb with h3 | ⟨h3, h4⟩
                · rw [hn id (by omega) h2] at h3; simp at h3
                · omega
          · exact absurd h (by simp)
        · exact absurd h (by simp)
        · exact absurd h (by simp)
      · rename_i hy
        rw [if_neg (by rw [hg.2 hy]; simp)]
        have hm := M.step (dst := o.dst) (s := undefSV) (x := undef) H.m (Ext.refl _) H.m.wld hd rfl
        refine regT_sound F C hf h ⟨hm.lessL fun t s ht => ?_⟩ hn hQ
        have ht : lookA t (putT o.dst undefSV σ.tmps) = some s := ht
        rw [look_putT] at ht
        exact ht
      · exact absurd h (by simp)
      · exact absurd h (by simp)
    · exact absurd h (by simp)

/-- A part of what is known. -/
def View (V B : BK) : Prop := ∀ id rv, V id = some rv → ∃ row, B id = some row ∧ row.length = rv.length ∧ ∀ (k : Nat) (c : SC), rv[k]? = some c → c ≠ .any → row[k]? = some c
theorem W.view {V : BK} (H : W ρ φ fx B β w) (hv : View V B) (N : Nat) : W ρ φ ⟨N, Xof V β, V, w, fx.ws⟩ V β w := by
  refine ⟨LowP.refl _ _, fun id rv h => ?_, fun id row k h hk => ⟨⟨row, h, hk⟩, fun _ _ _ => rfl⟩, fun id id' r r' b n n' h h' h1 h2 => ?_, H.inh, H.hi, H.len, H.base⟩
  · obtain ⟨row, hB, hl, hc⟩ := hv id rv h
    obtain ⟨b, n, arr, T, hb, h1, h2, h3, h4, h5⟩ := H.box id row hB
    refine ⟨b, n, arr, T, hb, Or.inr ⟨id, rv, n, h, hb⟩, h2, h3, by omega, fun k c hk => ?_⟩
    by_cases e : c = .any
    · subst e
      have hlt := (List.getElem?_eq_some_iff.1 hk).1
      exact ⟨arr[k]'(by omega), by simp [show k < arr.size by omega], trivial⟩
    · exact h5 k c (hc k c hk e)
  · obtain ⟨row, hB, _⟩ := hv id r h
    obtain ⟨row', hB', _⟩ := hv id' r' h'
    exact H.inj id id' row row' b n n' hB hB' h1 h2

/-- What an operation that saw V leaves of B. -/
def Merged (V B : BK) (dl : Bs) (B' : BK) : Prop := ∀ id row', B' id = some row' →
  (V id = none ∧ dlB dl V id = some row') ∨
  (∃ row, B id = some row ∧ row.length = row'.length ∧ ((V id = none ∧ row' = row) ∨
    ∃ ro, dlB dl V id = some ro ∧ V id ≠ none ∧ ∀ (k : Nat) (c : SC), row'[k]? = some c → (ro[k]? = some c ∧ c ≠ .any) ∨ (ro[k]? = some .any ∧ row[k]? = some c)))
theorem W.merge {V B' : BK} {β' : Bk} {w' : World} {dl : Bs} {N : Nat} (H : W ρ φ fx B β w) (hv : View V B) (hE : Ext β β') (H' : W ρ φ ⟨N, Xof V β, V, w, fx.ws⟩ (dlB dl V) β' w') (hB' : Merged V B dl B') : W ρ φ fx B' β' w' := by
  have hX : ∀ b, Xof V β b → ∃ id row n, V id ≠ none ∧ B id = some row ∧ β id = some (b, n) ∧ (fx.w0.heap.size ≤ b ∨ fx.X b) := by
    rintro b ⟨id, rv, n, h, hb⟩
    obtain ⟨row, hB, _⟩ := hv id rv h
    obtain ⟨b', n', _, _, hb', h1, _⟩ := H.box id row hB
    rw [hb] at hb'
    simp only [Option.some.injEq, Prod.mk.injEq] at hb'
    obtain ⟨rfl, rfl⟩ := hb'
    exact ⟨id, row, n, by rw [h]; simp, hB, hb, h1⟩
  have hsame : ∀ id row b n, B id = some row → V id = none → β id = some (b, n) → w'.heap[b]? = w.heap[b]? := by
    intro id row b n hB hV hb
    refine H'.low.block b (H.inh _ _ _ hb) fun hx => ?_
    obtain ⟨id2, row2, n2, hV2, hB2, hb2, _⟩ := hX b hx
    have := H.inj id id2 row row2 b n n2 hB hB2 hb hb2
    subst this
    exact hV2 hV
  have hβ : ∀ id row b n, B id = some row → β' id = some (b, n) → β id = some (b, n) := by
    intro id row b n hB hb
    obtain ⟨b', n', _, _, hb', _⟩ := H.box id row hB
    have := hE _ _ hb'
    rw [hb] at this
    rw [hb', this]
  have lo : ∀ b, (w.heap.size ≤ b ∨ Xof V β b) → fx.w0.heap.size ≤ b ∨ fx.X b := by
    rintro b (h | h)
    · exact Or.inl (Nat.le_trans H.low.size h)
    · obtain ⟨_, _, _, _, _, _, h⟩ := hX b h; exact h
  refine ⟨⟨H'.low.os.trans H.low.os, H'.low.tape.trans H.low.tape, H'.low.output.trans H.low.output, Nat.le_trans H.low.size H'.low.size, fun k hk hnX => ?_⟩, fun id row' h => ?_, fun id row' k h hk => ?_, fun id1 id2 r1 r2 b n1 n2 g1 g2 g3 g4 => ?_, H'.inh, H'.hi, H'.len, H'.base⟩
  · rw [← H.low.block k hk hnX]
    refine H'.low.block k (Nat.lt_of_lt_of_le hk H.low.size) fun hx => ?_
    obtain ⟨_, _, _, _, _, _, h⟩ := hX k hx
    rcases h with h | h
    · omega
    · exact hnX h
  · rcases hB' id row' h with ⟨_, h1⟩ | ⟨row, hB, hl, ⟨hV, rfl⟩ | ⟨ro, hro, hV, hc⟩⟩
    · obtain ⟨b, n, arr, T, hb, g1, g2⟩ := H'.box id row' h1
      exact ⟨b, n, arr, T, hb, lo b g1, g2⟩
    · obtain ⟨b, n, arr, T, hb, g1, g2, g3, g4, g5⟩ := H.box id row' hB
      refine ⟨b, n, arr, T, hE _ _ hb, g1, by rw [hsame id row' b n hB hV hb]; exact g2, g3, g4, fun k c hk => ?_⟩
      obtain ⟨u, hu, hcu⟩ := g5 k c hk
      exact ⟨u, hu, SC.is_ext hE hcu⟩
    · obtain ⟨b, n, arr, T, hb, g1, g2, g3, g4, g5⟩ := H.box id row hB
      obtain ⟨b', n', arr', T', hb', k1, k2, k3, k4, k5⟩ := H'.box id ro hro
      rw [hE _ _ hb] at hb'
      simp only [Option.some.injEq, Prod.mk.injEq] at hb'
      obtain ⟨rfl, rfl⟩ := hb'
      refine ⟨b, n, arr', T', hE _ _ hb, g1, k2, k3, by omega, fun k c hk => ?_⟩
      rcases hc k c hk with ⟨h1, _⟩ | ⟨h1, h2⟩
      · exact k5 k c h1
      · obtain ⟨u, hu, hcu⟩ := g5 k c h2
        have := (H'.msk id ro k hro h1).2 b n (hE _ _ hb)
        simp only [World.cell?, k2, g2, Option.isSome_none, Bool.false_eq_true, if_false] at this
        exact ⟨u, by rw [this]; exact hu, SC.is_ext hE hcu⟩
  · rcases hB' id row' h with ⟨hV, h1⟩ | ⟨row, hB, hl, ⟨hV, rfl⟩ | ⟨ro, hro, hV, hc⟩⟩
    · obtain ⟨⟨row0, h2, _⟩, _⟩ := H'.msk id row' k h1 hk
      have h2 : V id = some row0 := h2
      rw [hV] at h2
      simp at h2
    · obtain ⟨g1, g2⟩ := H.msk id row' k hB hk
      refine ⟨g1, fun b n hb => ?_⟩
      have hb := hβ id row' b n hB hb
      rw [← g2 b n hb]
      exact World.cell?_of_block (w := w) (hsame id row' b n hB hV hb)
    · rcases hc k .any hk with ⟨_, h1⟩ | ⟨h1, h2⟩
      · exact absurd rfl h1
      · obtain ⟨g1, g2⟩ := H.msk id row k hB h2
        obtain ⟨_, g4⟩ := H'.msk id ro k hro h1
        refine ⟨g1, fun b n hb => ?_⟩
        rw [g4 b n hb]
        exact g2 b n (hβ id row b n hB hb)
  · -- blocks apart
    have kind : ∀ id r, B' id = some r → (∃ ro, dlB dl V id = some ro ∧ (V id = none ∨ ∃ row, B id = some row)) ∨ (V id = none ∧ ∃ row, B id = some row) := by
      intro id r h
      rcases hB' id r h with ⟨hV, h1⟩ | ⟨row, hB, hl, ⟨hV, rfl⟩ | ⟨ro, hro, hV, hc⟩⟩
      · exact Or.inl ⟨_, h1, Or.inl hV⟩
      · exact Or.inr ⟨hV, _, hB⟩
      · exact Or.inl ⟨_, hro, Or.inr ⟨_, hB⟩⟩
    have cross : ∀ id1 id2 ro row b n1 n2, dlB dl V id1 = some ro → V id2 = none → B id2 = some row → β' id1 = some (b, n1) → β' id2 = some (b, n2) → id1 = id2 := by
      intro id1 id2 ro row b n1 n2 h1 hV hB hb1 hb2
      have hb2' := hβ id2 row b n2 hB hb2
      obtain ⟨b', n', _, _, hb', k1, _⟩ := H'.box id1 ro h1
      rw [hb1] at hb'
      simp only [Option.some.injEq, Prod.mk.injEq] at hb'
      obtain ⟨rfl, rfl⟩ := hb'
      have hlt := H.inh _ _ _ hb2'
      rcases k1 with k1 | k1
      · have k1 : w.heap.size ≤ b := k1
        omega
      · obtain ⟨id3, row3, n3, hV3, hB3, hb3, _⟩ := hX b k1
        have := H.inj id2 id3 row row3 b n2 n3 hB hB3 hb2' hb3
        subst this
        exact absurd hV hV3
    rcases kind id1 r1 g1 with ⟨ro1, h1, _⟩ | ⟨hV1, row1, hB1⟩
    · rcases kind id2 r2 g2 with ⟨ro2, h2, _⟩ | ⟨hV2, row2, hB2⟩
      · exact H'.inj id1 id2 ro1 ro2 b n1 n2 h1 h2 g3 g4
      · exact cross id1 id2 ro1 row2 b n1 n2 h1 hV2 hB2 g3 g4
    · rcases kind id2 r2 g2 with ⟨ro2, h2, _⟩ | ⟨hV2, row2, hB2⟩
      · exact (cross id2 id1 ro2 row1 b n2 n1 h2 hV1 hB1 g4 g3).symm
      · exact H.inj id1 id2 row1 row2 b n1 n2 hB1 hB2 (hβ id1 row1 b n1 hB1 g3) (hβ id2 row2 b n2 hB2 g4)
end
end Go.CX
