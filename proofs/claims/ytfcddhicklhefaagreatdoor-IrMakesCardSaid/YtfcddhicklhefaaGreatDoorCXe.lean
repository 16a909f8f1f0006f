/- CX: every operation, calls among them. -/
import Derived.Test.YtfcddhicklhefaaGreatDoorCXv
namespace Go.CX
open Go Go.RowKit Go.SX

abbrev CallT := FuncId → List SV → BK → Nat → Facts → OR

/-- Two texts, one behind the other. -/
def catX (op : BinOp) (a b : E) : Option ByteArray := match op, a, b with
  | .add, .val (.string x), .val (.string y) => if Nat.ble (x.size + y.size) 1000000 then some ⟨(x.data.toList ++ y.data.toList).toArray⟩ else none
  | _, _, _ => none
theorem catX_run {op : BinOp} {t : TypeId} {a b : E} {s : ByteArray} {ρ : Nat → Value} {φ : Nat → List Value → List Value} (h : catX op a b = some s) (P : Program) (w : World) (X Y : Operand) :
    (do eqGuard op t X Y (a.den ρ φ) (b.den ρ φ); binOp op t (a.den ρ φ) (b.den ρ φ) : Sem Value).run P w = .ok (.string s) w := by
  unfold catX at h
  split at h
  · rename_i x y
    split at h
    · rename_i hle
      have hle := Nat.le_of_ble_eq_true hle
      simp only [Option.some.injEq] at h
      subst h
      simp only [E.den, eqGuard_at_string]
      have e : x ++ y = ⟨(x.data.toList ++ y.data.toList).toArray⟩ := by
        apply ByteArray.ext
        rw [ByteArray.data_append]
        apply Array.ext'
        simp
      simp [binOp, Op.stringOp, e]
      omega
    · exact absurd h (by simp)
  · exact absurd h (by simp)
def binOpX (cx : Cx) (L : LK) (n0 : Nat) (fs : Facts) (op : BinOp) (t : TypeId) (x y : Operand) : OR :=
  match opd L x, opd L y with
  | some s, some u =>
    match s.ex, u.ex with
    | some a, some b => match ofX n0 (SX.binX cx fs op t a b) with
      | .stuck => match catX op a b with
        | some s => vE n0 (.val (.string s))
        | none => nilOpX cx n0 t op (.e a) (.e b)
      | r => r
    | _, _ => match s.sc, u.sc with
      | some c, some d => nilOpX cx n0 t op c d
      | _, _ => match s, u with
        | .one p, .one q => match partX p, partX q with
          | some p, some q => ofX n0 (SX.eqlX cx op t p q)
          | _, _ => .stuck
        | _, _ => .stuck
  | _, _ => .stuck
def pickX (cx : Cx) (L : LK) (n0 : Nat) (fs : Facts) (c x y : Operand) : OR :=
  match (opd L c).bind SV.ex with
  | some c =>
    match dec cx fs c with
    | some true => match opd L x with
      | some s => vV n0 s
      | none => .stuck
    | some false => match opd L y with
      | some s => vV n0 s
      | none => .stuck
    | none => match cx.so c with
      | .bool =>
        match (opd L x).bind SV.ex, (opd L y).bind SV.ex with
        | some x, some y => vE n0 (.ite c x y)
        | _, _ => .split c
      | _ => .stuck
  | none => .stuck
def optE (L : LK) : Option Operand → Option (Option E)
  | none => some none
  | some x => ((opd L x).bind SV.ex).map some
def builtinX (cx : Cx) (L : LK) (B : BK) (n0 : Nat) (b : Builtin) (c : Call) : OR :=
  match b, c.argTypes.toList, c.args.toList with
  | .len, [t], [x] => match (opd L x).bind SV.sc with
    | some s => lenG cx n0 t s
    | none => .stuck
  | .min, _, [x, y] => match (opd L x).bind SV.ex, (opd L y).bind SV.ex with
    | some x, some y => ofX n0 (SX.minX cx x y)
    | _, _ => .stuck
  | .max, _, [x, y] => match (opd L x).bind SV.ex, (opd L y).bind SV.ex with
    | some x, some y => ofX n0 (SX.maxX cx x y)
    | _, _ => .stuck
  | .append, [t, u], [s, x] => if Nat.beq t u then (match (opd L s).bind SV.sc, (opd L x).bind SV.sc with
    | some s, some x => appendX cx B n0 t s x
    | _, _ => .stuck) else .stuck
  | .copy, [t, _], [s, x] => match (opd L s).bind SV.sc, (opd L x).bind SV.sc with
    | some s, some x => copyX cx B n0 t s x
    | _, _ => .stuck
  | _, _, _ => .stuck
def opdAll (L : LK) : List Operand → Option (List SV)
  | [] => some []
  | x :: xs => match opd L x, opdAll L xs with
    | some s, some r => some (s :: r)
    | _, _ => none
def partAll : List SV → Option (List Part)
  | [] => some []
  | .one p :: xs => (partAll xs).map (p :: ·)
  | _ => none
def callX (call : CallT) (L : LK) (B : BK) (n0 : Nat) (fs : Facts) (c : Call) : OR :=
  match c.callee with
  | .value fo => match opd L fo, opdAll L c.args.toList with
    | some (.fn f fi ca), some args => call f (fi.map .one ++ args ++ ca.map .one) B n0 fs
    | some (.one ⟨false, [.e (.val (.func (.func f) fi ca))]⟩), some args => if Nat.beq fi.size 0 && Nat.beq ca.size 0 then call f args B n0 fs else .stuck
    | _, _ => .stuck
  | _ => .stuck
def opG (cx : Cx) (call : CallT) (L : LK) (B : BK) (fs : Facts) (n0 : Nat) (o : Op) : OR :=
  match o with
  | .move x => match opd L x with
    | some s => vV n0 s
    | none => .stuck
  | .assign x => match opd L x with
    | some s => vV n0 s
    | none => .stuck
  | .pick c x y => pickX cx L n0 fs c x y
  | .alloc t => allocX cx n0 t
  | .box _ x => match opd L x with
    | some s => boxX cx n0 s
    | none => .stuck
  | .build t ps => buildX cx L n0 t ps.toList
  | .buildSlice t n ps => buildSliceX cx L n0 t n ps.toList
  | .makeSlice t x y => match (opd L x).bind SV.ex, (opd L y).bind SV.ex with
    | some x, some y => makeSliceX cx n0 t x y
    | _, _ => .stuck
  | .load t x => match (opd L x).bind SV.sc with
    | some c => loadG cx B fs n0 t c
    | none => .stuck
  | .store t x v => match (opd L x).bind SV.sc, opd L v with
    | some c, some s => storeX cx B n0 t c s
    | _, _ => .stuck
  | .nilCheck x => match opd L x with
    | some (.one ⟨false, [.ptr id off]⟩) => vC n0 (.ptr id off)
    | some (.one ⟨false, [.vad i idx sz o]⟩) => vC n0 (.vad i idx sz o)
    | some (.fn f fi ca) => vV n0 (.fn f fi ca)
    | _ => .stuck
  | .binOp op t x y _ => binOpX cx L n0 fs op t x y
  | .unOp op _ x => match (opd L x).bind SV.ex with
    | some x => ofX n0 (SX.unX cx op x)
    | none => .stuck
  | .convert s d x => match (opd L x).bind SV.ex with
    | some x => ofX n0 (SX.convX cx s d x)
    | none => match (opd L x).bind SV.sc with
      | some c => toStrX cx B n0 s d c
      | none => .stuck
  | .slice t x lo hi mx => match (opd L x).bind SV.sc, optE L lo, optE L hi, optE L mx with
    | some (.e x), some lo, some hi, some none => match ofX n0 (SX.sliceStrX cx fs t x lo hi) with
      | .stuck => match nilCutX cx n0 t x lo hi with
        | .stuck => sliceG cx fs n0 t (.e x) lo hi
        | r => r
      | r => r
    | some (.vsl i m), some lo, some hi, some none => sliceG cx fs n0 t (.vsl i m) lo hi
    | some c, some lo, some hi, some mx => sliceX cx n0 t c lo hi mx
    | _, _, _, _ => .stuck
  | .index t x i => match (opd L x).bind SV.ex, (opd L i).bind SV.ex with
    | some x, some i => ofX n0 (SX.indexX cx fs t x i)
    | none, some i => match opd L x with
      | some v => indexAggX cx n0 t v i
      | none => .stuck
    | _, _ => .stuck
  | .fieldAddr s x f => match (opd L x).bind SV.sc with
    | some c => fieldAddrG cx n0 s c f
    | none => .stuck
  | .field s x f => match opd L x with
    | some v => fieldX cx n0 s v f
    | none => .stuck
  | .indexAddr t x i => match (opd L x).bind SV.sc, (opd L i).bind SV.ex with
    | some c, some i => indexAddrG cx fs n0 t c i
    | _, _ => .stuck
  | .extract x i => match opd L x with
    | some v => extractX n0 v i
    | none => .stuck
  | .makeFunc (.func f) fi ca => match (opdAll L fi.toList).bind partAll, (opdAll L ca.toList).bind partAll with
    | some fi, some ca => vV n0 (.fn f fi ca)
    | _, _ => .stuck
  | .call c => match c.callee with
    | .builtin b => builtinX cx L B n0 b c
    | _ => callX call L B n0 fs c
  | _ => .stuck

/-- The blocks that are known. -/
def Xof (B : BK) (β : Bk) : Nat → Prop := fun b => ∃ id row n, B id = some row ∧ β id = some (b, n)
/-- A call does what it says. -/
def CallOk (ws : Base) (cx : Cx) (φ : Nat → List Value → List Value) (call : CallT) : Prop := ws.vw = cx.vw ∧ ∀ (f : FuncId) (svs : List SV) (B : BK) (n : Nat) (fs : Facts) (d : Out), call f svs B n fs = .ok d →
  ∀ (ρ : Nat → Value) (β : Bk) (w : World) (xs : List Value) (N : Nat), Fits cx.Γ cx.S ρ φ → fs.hold ρ φ → W ρ φ ⟨N, Xof B β, B, w, ws⟩ B β w → (∀ id, n ≤ id → id < d.next → β id = none) → All2 (SV.is ρ φ β) svs xs →
    (callFunc f xs.toArray).run cx.P w = .ok (.enter f xs.toArray) w ∧ Calls cx.P f xs.toArray w fun e w' => ∃ x β', e = .returned x ∧ Ext β β' ∧ Newer β β' n d.next ∧ W ρ φ ⟨N, Xof B β, B, w, ws⟩ (dlB d.dl B) β' w' ∧ d.v.is ρ φ β' x

section
variable {ρ : Nat → Value} {φ : Nat → List Value → List Value} {cx : Cx} {fx : Fx} {L : LK} {B : BK} {β : Bk} {a : Act} {w : World} {n0 : Nat}

theorem W.local (H : W ρ φ fx B β w) (N : Nat) : W ρ φ ⟨N, Xof B β, B, w, fx.ws⟩ B β w := by
  refine ⟨LowP.refl _ _, fun id row h => ?_, fun id row k h hk => ⟨⟨row, h, hk⟩, fun _ _ _ => rfl⟩, H.inj, H.inh, H.hi, H.len, H.base⟩
  obtain ⟨b, n, arr, T, hb, h1, h2, h3, h4, h5⟩ := H.box id row h
  exact ⟨b, n, arr, T, hb, Or.inr ⟨id, row, n, h, hb⟩, h2, h3, h4, h5⟩
theorem W.compose {B' : BK} {β' : Bk} {w' : World} {N : Nat} (H : W ρ φ fx B β w) (hE : Ext β β') (H' : W ρ φ ⟨N, Xof B β, B, w, fx.ws⟩ B' β' w') : W ρ φ fx B' β' w' := by
  have hX : ∀ b, Xof B β b → fx.w0.heap.size ≤ b ∨ fx.X b := by
    rintro b ⟨id, row, n, h, hb⟩
    obtain ⟨b', n', _, _, hb', h1, _⟩ := H.box id row h
    rw [hb] at hb'
    simp only [Option.some.injEq, Prod.mk.injEq] at hb'
    obtain ⟨rfl, rfl⟩ := hb'
    exact h1
  refine ⟨⟨H'.low.os.trans H.low.os, H'.low.tape.trans H.low.tape, H'.low.output.trans H.low.output, Nat.le_trans H.low.size H'.low.size, fun k hk hnX => ?_⟩, fun id row h => ?_, fun id row k h hk => ?_, H'.inj, H'.inh, H'.hi, H'.len, H'.base⟩
  · rw [← H.low.block k hk hnX]
    refine H'.low.block k (Nat.lt_of_lt_of_le hk H.low.size) fun hx => ?_
    rcases hX k hx with h | h
    · omega
    · exact hnX h
  · obtain ⟨b, n, arr, T, hb, h1, h2⟩ := H'.box id row h
    refine ⟨b, n, arr, T, hb, ?_, h2⟩
    rcases h1 with h1 | h1
    · exact Or.inl (Nat.le_trans H.low.size h1)
    · exact hX b h1
  · obtain ⟨⟨row0, h1, h2⟩, h3⟩ := H'.msk id row k h hk
    obtain ⟨h4, h5⟩ := H.msk id row0 k h1 h2
    refine ⟨h4, fun b n hb => ?_⟩
    obtain ⟨b0, n0, _, _, hb0, _⟩ := H.box id row0 h1
    have hb' := hE _ _ hb0
    rw [hb] at hb'
    simp only [Option.some.injEq, Prod.mk.injEq] at hb'
    obtain ⟨rfl, rfl⟩ := hb'
    rw [h3 b n hb]
    exact h5 b n hb0

theorem optE_is (H : M ρ φ fx L B β a w) {x : Option Operand} {e : Option E} (h : optE L x = some e) : x.map a.eval = e.map (·.den ρ φ) := by
  cases x with
  | none => simp only [optE, Option.some.injEq] at h; subst h; rfl
  | some x =>
    simp only [optE, Option.map_eq_some_iff] at h
    obtain ⟨e', he, rfl⟩ := h
    simp [exIs H he]
theorem opdAll_is (H : M ρ φ fx L B β a w) : ∀ {xs : List Operand} {ss : List SV}, opdAll L xs = some ss → All2 (SV.is ρ φ β) ss (xs.map a.eval)
  | [], ss, h => by simp only [opdAll, Option.some.injEq] at h; subst h; trivial
  | x :: xs, ss, h => by
    simp only [opdAll] at h
    split at h
    · rename_i s r hs hr
      simp only [Option.some.injEq] at h
      subst h
      exact ⟨opd_is H hs, opdAll_is H hr⟩
    · exact absurd h (by simp)
theorem partAll_is : ∀ {ss : List SV} {ps : List Part} {xs : List Value}, partAll ss = some ps → All2 (SV.is ρ φ β) ss xs → All2 (Part.is ρ φ β) ps xs
  | [], ps, xs, h, ha => by simp only [partAll, Option.some.injEq] at h; subst h; cases xs with | nil => trivial | cons _ _ => exact ha.elim
  | .one p :: ss, ps, xs, h, ha => by
    simp only [partAll, Option.map_eq_some_iff] at h
    obtain ⟨ps', hp, rfl⟩ := h
    cases xs with
    | nil => exact ha.elim
    | cons x xs => exact ⟨ha.1, partAll_is hp ha.2⟩
  | .tup _ :: _, _, _, h, _ => by simp [partAll] at h
  | .fn _ _ _ :: _, _, _, h, _ => by simp [partAll] at h
theorem one_all : ∀ {ps : List Part} {xs : List Value}, All2 (Part.is ρ φ β) ps xs → All2 (SV.is ρ φ β) (ps.map .one) xs
  | [], [], _ => trivial
  | _ :: _, _ :: _, h => ⟨h.1, one_all h.2⟩
  | [], _ :: _, h => h.elim
  | _ :: _, [], h => h.elim

theorem pickX_run (F : Fits cx.Γ cx.S ρ φ) (H : M ρ φ fx L B β a w) {fs : Facts} (hf : fs.hold ρ φ) {c x y : Operand} {d : Out} (h : pickX cx L n0 fs c x y = .ok d) :
    Reads ρ φ β cx.P w n0 d (do pure (if ← asBool (a.eval c) then a.eval x else a.eval y)) := by
  unfold pickX at h
  split at h
  · rename_i c' hc
    have hc' := exIs H hc
    split at h
    · rename_i hd
      have hd := dec_sound F hf hd
      split at h
      · rename_i s hs
        have := vV_ok h
        subst this
        refine ⟨rfl, rfl, a.eval x, ?_, opd_is H hs⟩
        simp [hc', hd, asBool]
      · exact absurd h (by simp)
    · rename_i hd
      have hd := dec_sound F hf hd
      split at h
      · rename_i s hs
        have := vV_ok h
        subst this
        refine ⟨rfl, rfl, a.eval y, ?_, opd_is H hs⟩
        simp [hc', hd, asBool]
      · exact absurd h (by simp)
    · split at h
      · rename_i hb
        have hb := so_bool F hb
        split at h
        · rename_i x' y' hx hy
          have := vE_ok h
          subst this
          refine ⟨rfl, rfl, _, ?_, rfl⟩
          rw [exIs H hx, exIs H hy, hc', hb]
          simp only [asBool, E.den, Sem.run_bind, Sem.run_pure, Result.andThen_ok]
        · exact absurd h (by simp)
      · exact absurd h (by simp)
  · exact absurd h (by simp)

theorem binOpX_run (F : Fits cx.Γ cx.S ρ φ) (H : M ρ φ fx L B β a w) {fs : Facts} (hf : fs.hold ρ φ) {op : BinOp} {t : TypeId} {x y : Operand} {d : Out} (h : binOpX cx L n0 fs op t x y = .ok d) :
    Reads ρ φ β cx.P w n0 d (do eqGuard op t x y (a.eval x) (a.eval y); binOp op t (a.eval x) (a.eval y)) := by
  unfold binOpX at h
  split at h
  · rename_i s u hs hu
    split at h
    · rename_i x' y' hx hy
      split at h
      · split at h
        · rename_i s' hcat
          have := vE_ok h
          subst this
          refine ⟨rfl, rfl, .string s', ?_, rfl⟩
          rw [SV.ex_is hx (opd_is H hs), SV.ex_is hy (opd_is H hu)]
          exact catX_run hcat _ _ _ _
        · exact nilOpX_run h (SV.ex_is hx (opd_is H hs)) (SV.ex_is hy (opd_is H hu)) x y
      · refine ofX_reads h fun d0 h0 => ?_
        obtain ⟨z, rfl, hz⟩ := binX_run F hf h0 x y w
        rw [← SV.ex_is hx (opd_is H hs), ← SV.ex_is hy (opd_is H hu)] at hz
        exact ⟨_, hz, rfl⟩
    · split at h
      · rename_i c d' hc hd
        exact nilOpX_run h (SV.sc_is hc (opd_is H hs)) (SV.sc_is hd (opd_is H hu)) x y
      · split at h
        · rename_i p q
          split at h
          · rename_i p' q' hp hq
            refine ofX_reads h fun d0 h0 => ?_
            obtain ⟨_, _, v, hv, hi⟩ := SX.eqlX_run F h0 (partX_is hp (opd_is H hs)) (partX_is hq (opd_is H hu)) x y
            exact ⟨v, hv, hi⟩
          · exact absurd h (by simp)
        · exact absurd h (by simp)
  · exact absurd h (by simp)

theorem builtinX_does (F : Fits cx.Γ cx.S ρ φ) (hv : fx.ws.vw = cx.vw) (H : M ρ φ fx L B β a w) {b : Builtin} {c : Call} {d : Out} (hn : ∀ id, n0 ≤ id → id < d.next → β id = none) {o : Oper} (h : builtinX cx L B n0 b c = .ok d) (ho : o.op = .call c) (hcb : c.callee = .builtin b) :
    Does ρ φ cx.P fx B o a w β n0 d := by
  unfold builtinX at h
  split at h
  · rename_i t x ht hx
    have ht := array_of ht
    have hx := array_of hx
    split at h
    · rename_i s hs
      refine does_reads H (lenG_run F hv H (ty := o.type) h (scIs H hs)) ?_
      simp only [execOp, ho, resolve, hcb, ht, hx, pure_bind, invoke]
      simp [builtin]
    · exact absurd h (by simp)
  · rename_i x y hx
    have hx := array_of hx
    split at h
    · rename_i x' y' h1 h2
      have hr : Reads ρ φ β cx.P w n0 d (Builtin.min2 (x'.den ρ φ) (y'.den ρ φ)) := ofX_reads h fun d0 h0 => by
        obtain ⟨_, _, v, hv, hi⟩ := SX.minX_run (β := fun _ => none) (w := w) F h0
        exact ⟨v, hv, hi⟩
      rw [← exIs H h1, ← exIs H h2] at hr
      refine does_reads H hr ?_
      simp only [execOp, ho, resolve, hcb, hx, pure_bind, invoke]
      simp [builtin, Builtin.min_]
    · exact absurd h (by simp)
  · rename_i x y hx
    have hx := array_of hx
    split at h
    · rename_i x' y' h1 h2
      have hr : Reads ρ φ β cx.P w n0 d (Builtin.max2 (x'.den ρ φ) (y'.den ρ φ)) := ofX_reads h fun d0 h0 => by
        obtain ⟨_, _, v, hv, hi⟩ := SX.maxX_run (β := fun _ => none) (w := w) F h0
        exact ⟨v, hv, hi⟩
      rw [← exIs H h1, ← exIs H h2] at hr
      refine does_reads H hr ?_
      simp only [execOp, ho, resolve, hcb, hx, pure_bind, invoke]
      simp [builtin, Builtin.max_]
    · exact absurd h (by simp)
  · rename_i t u s x ht hx
    have ht := array_of ht
    have hx := array_of hx
    split at h
    · rename_i he
      have he := Nat.eq_of_beq_eq_true he
      subst he
      split at h
      · rename_i s' x' h1 h2
        refine appendX_does F H hn h (scIs H h1) (scIs H h2) ?_
        simp only [execOp, ho, resolve, hcb, ht, hx, pure_bind, invoke]
        simp [builtin]
      · exact absurd h (by simp)
    · exact absurd h (by simp)
  · rename_i t u s x ht hx
    have ht := array_of ht
    have hx := array_of hx
    split at h
    · rename_i s' x' h1 h2
      refine copyX_does (t' := u) F H h (scIs H h1) (scIs H h2) ?_
      simp only [execOp, ho, resolve, hcb, ht, hx, pure_bind, invoke]
      simp [builtin]
    · exact absurd h (by simp)
  · exact absurd h (by simp)

theorem callX_does (F : Fits cx.Γ cx.S ρ φ) {call : CallT} (C : CallOk fx.ws cx φ call) (H : M ρ φ fx L B β a w) {fs : Facts} (hf : fs.hold ρ φ) {c : Call} {d : Out} (hn : ∀ id, n0 ≤ id → id < d.next → β id = none) {o : Oper} (h : callX call L B n0 fs c = .ok d) (ho : o.op = .call c) :
    Does ρ φ cx.P fx B o a w β n0 d := by
  have fin : ∀ (f : FuncId) (svs : List SV) (xs : List Value), call f svs B n0 fs = .ok d → All2 (SV.is ρ φ β) svs xs → (execOp a.eval o).run cx.P w = (callFunc f xs.toArray).run cx.P w → Does ρ φ cx.P fx B o a w β n0 d := by
    intro f svs xs hc ha hrun
    obtain ⟨g1, g2⟩ := C.2 f svs B n0 fs d hc ρ β w xs 0 F hf (H.wld.local 0) hn ha
    intro K Q hk
    simp only [Oper.wp, hrun, g1, Oper.upon]
    refine g2.mono ?_
    rintro e w' ⟨x, β', rfl, hE, hN, hW, hx⟩
    exact hk β' x w' hE hN (H.wld.compose hE hW) hx
  unfold callX at h
  split at h
  · rename_i fo hfo
    split at h
    · rename_i f fi ca args hfv hargs
      obtain ⟨us, vs, hv, h1, h2⟩ := opd_is H hfv
      refine fin f _ (us ++ c.args.toList.map a.eval ++ vs) h (All2.append (All2.append (one_all h1) (opdAll_is H hargs)) (one_all h2)) ?_
      simp only [execOp, ho, resolve, hfo, hv, Deferred.ofValue, pure_bind, invoke]
      congr 2
      apply Array.ext'; simp
    · rename_i f fi ca args hfv hargs
      split at h
      · rename_i hz
        rw [Bool.and_eq_true] at hz
        have hfi : fi = #[] := Array.eq_empty_of_size_eq_zero (Nat.eq_of_beq_eq_true hz.1)
        have hca : ca = #[] := Array.eq_empty_of_size_eq_zero (Nat.eq_of_beq_eq_true hz.2)
        subst hfi hca
        have hv : a.eval fo = _ := opd_is H hfv
        refine fin f _ (c.args.toList.map a.eval) h (opdAll_is H hargs) ?_
        simp only [execOp, ho, resolve, hfo, hv, E.den, Deferred.ofValue, pure_bind, invoke]
        congr 2
        apply Array.ext'; simp
      · exact absurd h (by simp)
    · exact absurd h (by simp)
  · exact absurd h (by simp)

theorem opG_does (F : Fits cx.Γ cx.S ρ φ) {call : CallT} (C : CallOk fx.ws cx φ call) (H : M ρ φ fx L B β a w) {fs : Facts} (hf : fs.hold ρ φ) {o : Oper} {d : Out} (hn : ∀ id, n0 ≤ id → id < d.next → β id = none) (h : opG cx call L B fs n0 o.op = .ok d) :
    Does ρ φ cx.P fx B o a w β n0 d := by
  unfold opG at h
  split at h
  · rename_i x ho
    split at h
    · rename_i s hs
      have := vV_ok h
      subst this
      exact does_val H.wld (by simp [execOp, ho]) (opd_is H hs)
    · exact absurd h (by simp)
  · rename_i x ho
    split at h
    · rename_i s hs
      have := vV_ok h
      subst this
      exact does_val H.wld (by simp [execOp, ho]) (opd_is H hs)
    · exact absurd h (by simp)
  · rename_i c x y ho
    exact does_reads H (pickX_run F H hf h) (by simp [execOp, ho])
  · rename_i t ho
    exact allocX_does H hn h (by simp [execOp, ho])
  · rename_i t x ho
    split at h
    · rename_i s hs
      exact boxX_does F H hn h (opd_is H hs) (by simp only [execOp, ho]; rfl)
    · exact absurd h (by simp)
  · rename_i t ps ho
    exact does_reads H (buildX_run F H h) (by simp [execOp, ho])
  · rename_i t n ps ho
    exact buildSliceX_does F H hn h (by simp [execOp, ho])
  · rename_i t x y ho
    split at h
    · rename_i x' y' h1 h2
      exact makeSliceX_does H hn (exIs H h1) (exIs H h2) h (by simp [execOp, ho])
    · exact absurd h (by simp)
  · rename_i t x ho
    split at h
    · rename_i c hc
      exact does_reads H (loadG_run F C.1 H hf h (scIs H hc)) (by simp [execOp, ho])
    · exact absurd h (by simp)
  · rename_i t x v ho
    split at h
    · rename_i c s hc hs
      exact storeX_does F H h (scIs H hc) (opd_is H hs) (by simp [execOp, ho])
    · exact absurd h (by simp)
  · rename_i x ho
    split at h
    · rename_i id off hs
      have := vC_ok h
      subst this
      have hi := opd_is H hs
      obtain ⟨b, n, hb, hv⟩ := hi
      exact does_val (x := a.eval x) H.wld (by simp [execOp, ho, hv]) ⟨b, n, hb, hv⟩
    · rename_i i idx sz o' hs
      have := vC_ok h
      subst this
      have hi := opd_is H hs
      obtain ⟨b, off, n, c, hb, hv⟩ := hi
      exact does_val (x := a.eval x) H.wld (by simp [execOp, ho, hv]) ⟨b, off, n, c, hb, hv⟩
    · rename_i f fi ca hs
      have := vV_ok h
      subst this
      have hi := opd_is H hs
      obtain ⟨us, vs, hv, h1, h2⟩ := hi
      exact does_val (x := a.eval x) H.wld (by simp [execOp, ho, hv]) ⟨us, vs, hv, h1, h2⟩
    · exact absurd h (by simp)
  · rename_i op t x y t' ho
    exact does_reads H (binOpX_run F H hf h) (by simp [execOp, ho])
  · rename_i op t x ho
    split at h
    · rename_i x' hx
      refine does_reads H (s := Op.unary op (x'.den ρ φ)) (ofX_reads h fun d0 h0 => ?_) (by simp [execOp, ho, exIs H hx])
      obtain ⟨z, rfl, hz⟩ := unX_run F h0 w
      exact ⟨_, hz, rfl⟩
    · exact absurd h (by simp)
  · rename_i s t x ho
    split at h
    · rename_i x' hx
      refine does_reads H (s := convert s t (x'.den ρ φ)) (ofX_reads h fun d0 h0 => ?_) (by simp [execOp, ho, exIs H hx])
      obtain ⟨z, rfl, hz⟩ := convX_run F h0 w
      exact ⟨_, hz, rfl⟩
    · split at h
      · rename_i c hc
        exact does_reads H (toStrX_run H.wld h (scIs H hc)) (by simp [execOp, ho])
      · exact absurd h (by simp)
  · rename_i t x lo hi mx ho
    split at h
    · rename_i x' lo' hi' h1 h2 h3 h4
      refine does_reads H (s := Instr.sliceAt t (x'.den ρ φ) (lo'.map (·.den ρ φ)) (hi'.map (·.den ρ φ)) none) ?_ ?_
      · split at h
        · split at h
          · have hx : (SC.e x').is ρ φ β (x'.den ρ φ) := rfl
            exact sliceG_run F C.1 H hf h hx
          · exact nilCutX_run h
        · exact ofX_reads h fun d0 h0 => by
            obtain ⟨_, _, v, hv, hi⟩ := SX.sliceStrX_run (β := fun _ => none) (w := w) F hf h0
            exact ⟨v, hv, hi⟩
      · have e4 := optE_is H h4
        have hx : a.eval x = _ := scIs H h1
        simp [execOp, ho, hx, optE_is H h2, optE_is H h3, e4]
    · rename_i i' m' lo' hi' h1 h2 h3 h4
      have e4 := optE_is H h4
      exact does_reads H (sliceG_run F C.1 H hf h (scIs H h1)) (by simp [execOp, ho, optE_is H h2, optE_is H h3, e4])
    · rename_i c lo' hi' mx' _ _ h1 h2 h3 h4
      exact does_reads H (sliceX_run h (scIs H h1)) (by simp [execOp, ho, optE_is H h2, optE_is H h3, optE_is H h4])
    · exact absurd h (by simp)
  · rename_i t x i ho
    split at h
    · rename_i x' i' h1 h2
      refine does_reads H (s := Instr.index t (x'.den ρ φ) (i'.den ρ φ)) (ofX_reads h fun d0 h0 => ?_) (by simp [execOp, ho, exIs H h1, exIs H h2])
      obtain ⟨_, _, v, hv, hi⟩ := SX.indexX_run (β := fun _ => none) (w := w) F hf h0
      exact ⟨v, hv, hi⟩
    · rename_i i' h1 h2
      split at h
      · rename_i v hv
        exact does_reads H (indexAggX_run h (opd_is H hv)) (by simp [execOp, ho, exIs H h2])
      · exact absurd h (by simp)
    · exact absurd h (by simp)
  · rename_i s x f ho
    split at h
    · rename_i c hc
      exact does_reads H (fieldAddrG_run h (scIs H hc)) (by simp [execOp, ho])
    · exact absurd h (by simp)
  · rename_i s x f ho
    split at h
    · rename_i v hv
      exact does_reads H (fieldX_run h (opd_is H hv)) (by simp [execOp, ho])
    · exact absurd h (by simp)
  · rename_i t x i ho
    split at h
    · rename_i c i' hc hi
      exact does_reads H (indexAddrG_run F C.1 H hf h (scIs H hc)) (by simp [execOp, ho, exIs H hi])
    · exact absurd h (by simp)
  · rename_i x i ho
    split at h
    · rename_i v hv
      exact does_reads H (extractX_run h (opd_is H hv)) (by simp [execOp, ho])
    · exact absurd h (by simp)
  · rename_i f fi ca ho
    split at h
    · rename_i fi' ca' h1 h2
      have := vV_ok h
      subst this
      simp only [Option.bind_eq_some_iff] at h1 h2
      obtain ⟨s1, g1, g2⟩ := h1
      obtain ⟨s2, g3, g4⟩ := h2
      refine does_val (x := .func (.func f) (fi.map a.eval) (ca.map a.eval)) H.wld (by simp [execOp, ho, Instr.makeFunc]) ⟨fi.toList.map a.eval, ca.toList.map a.eval, ?_, partAll_is g2 (opdAll_is H g1), partAll_is g4 (opdAll_is H g3)⟩
      congr 1 <;> (apply Array.ext'; simp)
    · exact absurd h (by simp)
  · rename_i c ho
    split at h
    · rename_i b hb
      exact builtinX_does F C.1 H hn h ho hb
    · exact callX_does F C H hf hn h ho
  · exact absurd h (by simp)
end
end Go.CX
