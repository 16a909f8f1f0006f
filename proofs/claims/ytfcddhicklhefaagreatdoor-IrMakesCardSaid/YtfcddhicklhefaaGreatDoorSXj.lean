/- SX: every operation, and that it does what it says. -/
import Derived.Test.YtfcddhicklhefaaGreatDoorSXi
namespace Go.SX
open Go Go.RowKit

def binOpX (cx : Cx) (L : LK) (fs : Facts) (op : BinOp) (t : TypeId) (x y : Operand) : OR :=
  match opd L x, opd L y with
  | some s, some u =>
    match s.ex, u.ex with
    | some x, some y => binX cx fs op t x y
    | _, _ => match s, u with
      | .one p, .one q => eqlX cx op t p q
      | _, _ => .stuck
  | _, _ => .stuck

def pickX (cx : Cx) (L : LK) (fs : Facts) (c x y : Operand) : OR :=
  match (opd L c).bind SV.ex with
  | some c =>
    match dec cx fs c with
    | some true => match opd L x with
      | some s => vV s
      | none => .stuck
    | some false => match opd L y with
      | some s => vV s
      | none => .stuck
    | none =>
      if cx.so c = .bool then
        match (opd L x).bind SV.ex, (opd L y).bind SV.ex with
        | some x, some y => vE (.ite c x y)
        | _, _ => .split c
      else .stuck
  | none => .stuck

def optE (L : LK) : Option Operand → Option (Option E)
  | none => some none
  | some x => ((opd L x).bind SV.ex).map some

def opx (cx : Cx) (L : LK) (B : BK) (fs : Facts) (nid : Nat) (o : Op) : OR :=
  match o with
  | .move x => match opd L x with
    | some s => vV s
    | none => .stuck
  | .assign x => match opd L x with
    | some s => vV s
    | none => .stuck
  | .pick c x y => pickX cx L fs c x y
  | .alloc t => allocX cx nid t
  | .box _ x => match opd L x with
    | some s => boxX cx nid s
    | none => .stuck
  | .build t ps => buildX cx L t ps.toList
  | .buildSlice t n ps => buildSliceX cx L nid t n ps.toList
  | .load t x => match (opd L x).bind SV.sc with
    | some c => loadX cx B fs t c
    | none => .stuck
  | .store t x v => match (opd L x).bind SV.sc, opd L v with
    | some c, some s => storeX cx B t c s
    | _, _ => .stuck
  | .nilCheck x => match (opd L x).bind SV.sc with
    | some (.ptr id off) => vC (.ptr id off)
    | _ => .stuck
  | .binOp op t x y _ => binOpX cx L fs op t x y
  | .unOp op _ x => match (opd L x).bind SV.ex with
    | some x => unX cx op x
    | none => .stuck
  | .convert s d x => match (opd L x).bind SV.ex with
    | some x => convX cx s d x
    | none => .stuck
  | .slice t x lo hi none => match (opd L x).bind SV.sc, optE L lo, optE L hi with
    | some (.e x), some lo, some hi => sliceStrX cx fs t x lo hi
    | some c, some lo, some hi => sliceX cx t c lo hi
    | _, _, _ => .stuck
  | .index t x i => match (opd L x).bind SV.ex, (opd L i).bind SV.ex with
    | some x, some i => indexX cx fs t x i
    | _, _ => .stuck
  | .fieldAddr s x f => match (opd L x).bind SV.sc with
    | some c => fieldAddrX cx s c f
    | none => .stuck
  | .field s x f => match opd L x with
    | some v => fieldX cx s v f
    | none => .stuck
  | .indexAddr t x i => match (opd L x).bind SV.sc, (opd L i).bind SV.ex with
    | some c, some i => indexAddrX cx fs t c i
    | _, _ => .stuck
  | .extract x i => match opd L x with
    | some v => extractX v i
    | none => .stuck
  | .call c => match c.callee with
    | .builtin b => builtinX cx L b c
    | _ => callX cx L B fs nid c
  | _ => .stuck

section
variable {ρ : Nat → Value} {φ : Nat → List Value → List Value} {cx : Cx} {fx : Fx} {L : LK} {B : BK} {β : Nat → Option Nat} {a : Act} {w : World}

theorem does_reads (H : M ρ φ fx L B β a w) {o : Oper} {nid : Nat} {δ : Dl} {s : Sem Value} (hr : Reads ρ φ β cx.P w δ s) (ho : (execOp a.eval o) = (do pure (.value (← s)))) :
    Does ρ φ cx.P fx.w0.heap.size fx.X o a w β nid δ := by
  obtain ⟨h1, h2, x, hx, hv⟩ := hr
  obtain ⟨v, new, wr⟩ := δ
  simp only at h1 h2
  subst h1 h2
  exact does_val H.inh (by rw [ho]; simp [hx]) hv

theorem exIs (H : M ρ φ fx L B β a w) {x : Operand} {e : E} (h : (opd L x).bind SV.ex = some e) : a.eval x = e.den ρ φ := by
  simp only [Option.bind_eq_some_iff] at h
  obtain ⟨s, hs, he⟩ := h
  exact SV.ex_is he (opd_is H hs)
theorem scIs (H : M ρ φ fx L B β a w) {x : Operand} {c : SC} (h : (opd L x).bind SV.sc = some c) : c.is ρ φ β (a.eval x) := by
  simp only [Option.bind_eq_some_iff] at h
  obtain ⟨s, hs, he⟩ := h
  exact SV.sc_is he (opd_is H hs)

theorem optE_is (H : M ρ φ fx L B β a w) {x : Option Operand} {e : Option E} (h : optE L x = some e) : x.map a.eval = e.map (·.den ρ φ) := by
  cases x with
  | none => simp only [optE, Option.some.injEq] at h; subst h; rfl
  | some x =>
    simp only [optE, Option.map_eq_some_iff] at h
    obtain ⟨e', he, rfl⟩ := h
    simp [exIs H he]

theorem pickX_run (F : Fits cx.Γ cx.S ρ φ) (H : M ρ φ fx L B β a w) {fs : Facts} (hf : fs.hold ρ φ) {c x y : Operand} {δ : Dl} (h : pickX cx L fs c x y = .ok δ) :
    Reads ρ φ β cx.P w δ (do pure (if ← asBool (a.eval c) then a.eval x else a.eval y)) := by
  unfold pickX at h
  split at h
  · rename_i c' hc
    have hc' := exIs H hc
    split at h
    · rename_i hd
      have hd := dec_sound F hf hd
      split at h
      · rename_i s hs
        have := vV_ok h
        subst this
        refine ⟨rfl, rfl, a.eval x, ?_, opd_is H hs⟩
        simp [hc', hd, asBool]
      · exact absurd h (by simp)
    · rename_i hd
      have hd := dec_sound F hf hd
      split at h
      · rename_i s hs
        have := vV_ok h
        subst this
        refine ⟨rfl, rfl, a.eval y, ?_, opd_is H hs⟩
        simp [hc', hd, asBool]
      · exact absurd h (by simp)
    · split at h
      · rename_i hb
        have hb := so_bool F hb
        split at h
        · rename_i x' y' hx hy
          have := vE_ok h
          subst this
          refine ⟨rfl, rfl, _, ?_, rfl⟩
          rw [exIs H hx, exIs H hy, hc', hb]
          simp only [asBool, E.den, Sem.run_bind, Sem.run_pure, Result.andThen_ok]
        · exact absurd h (by simp)
      · exact absurd h (by simp)
  · exact absurd h (by simp)

theorem binOpX_run (F : Fits cx.Γ cx.S ρ φ) (H : M ρ φ fx L B β a w) {fs : Facts} (hf : fs.hold ρ φ) {op : BinOp} {t : TypeId} {x y : Operand} {δ : Dl} (h : binOpX cx L fs op t x y = .ok δ) :
    Reads ρ φ β cx.P w δ (do eqGuard op t x y (a.eval x) (a.eval y); binOp op t (a.eval x) (a.eval y)) := by
  unfold binOpX at h
  split at h
  · rename_i s u hs hu
    split at h
    · rename_i x' y' hx hy
      obtain ⟨z, rfl, hz⟩ := binX_run F hf h x y w
      rw [← SV.ex_is hx (opd_is H hs), ← SV.ex_is hy (opd_is H hu)] at hz
      exact ⟨rfl, rfl, _, hz, rfl⟩
    · split at h
      · exact eqlX_run F h (opd_is H hs) (opd_is H hu) x y
      · exact absurd h (by simp)
  · exact absurd h (by simp)

theorem lenX_run (V : Views cx ρ fx) (F : Fits cx.Γ cx.S ρ φ) {t ty : TypeId} {c : SC} {δ : Dl} {v : Value} (h : lenX cx t c = .ok δ) (hc : c.is ρ φ β v) : Reads ρ φ β cx.P w δ (Builtin.len_ #[t] ty #[v]) := by
  unfold lenX at h
  split at h
  · rename_i id off len cap e hu
    have := vE_ok h
    subst this
    obtain ⟨b, hb, rfl⟩ := hc
    exact ⟨rfl, rfl, _, by simp [Builtin.len_, run_underlying hu]; rfl, rfl⟩
  · rename_i e hu
    have := vE_ok h
    subst this
    have hc : v = _ := hc
    subst hc
    exact ⟨rfl, rfl, _, by simp [Builtin.len_, run_underlying hu, E.den]; rfl, rfl⟩
  · rename_i i e hu
    split at h
    · rename_i vw hvw
      obtain ⟨hmem, rfl⟩ := findVw_mem hvw
      have := vE_ok h
      subst this
      obtain ⟨ad, len, cap, vs, h1, h2, _⟩ := V vw hmem
      have hc : v = E.den ρ φ (.var vw.i) := hc
      simp only [E.den] at hc
      rw [h1] at hc
      subst hc
      refine ⟨rfl, rfl, .int .i64 (Int.ofNat len), by simp [Builtin.len_, run_underlying hu]; rfl, ?_⟩
      show _ = _
      simp only [E.den]
      rw [h2]
    · exact absurd h (by simp)
  · rename_i x hu
    split at h
    · rename_i hx
      have := vE_ok h
      subst this
      obtain ⟨s, hs, hb⟩ := so_strB F hx
      have hc : v = E.den ρ φ x := hc
      rw [hs] at hc
      subst hc
      refine ⟨rfl, rfl, .int .i64 (Int.ofNat s.size), by simp [Builtin.len_, run_underlying hu]; rfl, ?_⟩
      show _ = _
      rw [mkLen_den hs hb]
    · exact absurd h (by simp)
  · exact absurd h (by simp)

theorem minX_run (F : Fits cx.Γ cx.S ρ φ) {x y : E} {δ : Dl} (h : minX cx x y = .ok δ) : Reads ρ φ β cx.P w δ (Builtin.min2 (x.den ρ φ) (y.den ρ φ)) := by
  unfold minX at h
  split at h
  · rename_i k k' hx hy
    have ex := so_int F hx
    have ey := so_int F hy
    have hl := mkLss_den ρ φ y x
    split at h
    · rename_i hk
      rw [← kBeq_eq hk] at ey
      split at h
      · rename_i e
        have := vE_ok h
        subst this
        rw [e] at hl
        simp only [E.den, Value.bool.injEq] at hl
        have hl := of_decide_eq_true hl.symm
        refine ⟨rfl, rfl, _, ?_, rfl⟩
        rw [ex, ey]
        simp [Builtin.min2, hl]
      · rename_i e
        have := vE_ok h
        subst this
        rw [e] at hl
        simp only [E.den, Value.bool.injEq] at hl
        have hl := of_decide_eq_false hl.symm
        refine ⟨rfl, rfl, _, ?_, rfl⟩
        rw [ex, ey]
        simp [Builtin.min2, hl]
      · have := vE_ok h
        subst this
        refine ⟨rfl, rfl, _, ?_, rfl⟩
        simp only [E.den, hl, vbool_bool]
        rw [ex, ey]
        simp only [Builtin.min2, vint_int, Sem.run_pure]
        congr 1
        by_cases hlt : vint (y.den ρ φ) < vint (x.den ρ φ) <;> simp [hlt]
    · exact absurd h (by simp)
  · exact absurd h (by simp)
theorem maxX_run (F : Fits cx.Γ cx.S ρ φ) {x y : E} {δ : Dl} (h : maxX cx x y = .ok δ) : Reads ρ φ β cx.P w δ (Builtin.max2 (x.den ρ φ) (y.den ρ φ)) := by
  unfold maxX at h
  split at h
  · rename_i k k' hx hy
    have ex := so_int F hx
    have ey := so_int F hy
    have hl := mkLss_den ρ φ x y
    split at h
    · rename_i hk
      rw [← kBeq_eq hk] at ey
      split at h
      · rename_i e
        have := vE_ok h
        subst this
        rw [e] at hl
        simp only [E.den, Value.bool.injEq] at hl
        have hl := of_decide_eq_true hl.symm
        refine ⟨rfl, rfl, _, ?_, rfl⟩
        rw [ex, ey]
        simp [Builtin.max2, hl]
      · rename_i e
        have := vE_ok h
        subst this
        rw [e] at hl
        simp only [E.den, Value.bool.injEq] at hl
        have hl := of_decide_eq_false hl.symm
        refine ⟨rfl, rfl, _, ?_, rfl⟩
        rw [ex, ey]
        simp [Builtin.max2, hl]
      · have := vE_ok h
        subst this
        refine ⟨rfl, rfl, _, ?_, rfl⟩
        simp only [E.den, hl, vbool_bool]
        rw [ex, ey]
        simp only [Builtin.max2, vint_int, Sem.run_pure]
        congr 1
        by_cases hlt : vint (x.den ρ φ) < vint (y.den ρ φ) <;> simp [hlt]
    · exact absurd h (by simp)
  · exact absurd h (by simp)

theorem array_of {α : Type} {xs : Array α} {l : List α} (h : xs.toList = l) : xs = l.toArray := by
  apply Array.ext'; simpa using h

theorem builtinX_run (V : Views cx ρ fx) (F : Fits cx.Γ cx.S ρ φ) (H : M ρ φ fx L B β a w) {b : Builtin} {c : Call} {δ : Dl} {o : Oper} {nid : Nat} (h : builtinX cx L b c = .ok δ) (ho : o.op = .call c) (hcb : c.callee = .builtin b) :
    Does ρ φ cx.P fx.w0.heap.size fx.X o a w β nid δ := by
  unfold builtinX at h
  split at h
  · rename_i t x ht hx
    have ht := array_of ht
    have hx := array_of hx
    split at h
    · rename_i s hs
      refine does_reads H (lenX_run V F (ty := o.type) h (scIs H hs)) ?_
      simp only [execOp, ho, resolve, hcb, ht, hx, pure_bind, invoke]
      simp [builtin]
    · exact absurd h (by simp)
  · rename_i x y hx
    have hx := array_of hx
    split at h
    · rename_i x' y' h1 h2
      have := minX_run (β := β) (w := w) F h
      rw [← exIs H h1, ← exIs H h2] at this
      refine does_reads H this ?_
      simp only [execOp, ho, resolve, hcb, hx, pure_bind, invoke]
      simp [builtin, Builtin.min_]
    · exact absurd h (by simp)
  · rename_i x y hx
    have hx := array_of hx
    split at h
    · rename_i x' y' h1 h2
      have := maxX_run (β := β) (w := w) F h
      rw [← exIs H h1, ← exIs H h2] at this
      refine does_reads H this ?_
      simp only [execOp, ho, resolve, hcb, hx, pure_bind, invoke]
      simp [builtin, Builtin.max_]
    · exact absurd h (by simp)
  · exact absurd h (by simp)

theorem opx_does (V : Views cx ρ fx) (F : Fits cx.Γ cx.S ρ φ) (C : CtSound cx φ) (H : M ρ φ fx L B β a w) {fs : Facts} (hf : fs.hold ρ φ) {nid : Nat} (hn : β nid = none) {o : Oper} {δ : Dl} (h : opx cx L B fs nid o.op = .ok δ) :
    Does ρ φ cx.P fx.w0.heap.size fx.X o a w β nid δ := by
  unfold opx at h
  split at h
  · rename_i x ho
    split at h
    · rename_i s hs
      have := vV_ok h
      subst this
      exact does_val H.inh (by simp [execOp, ho]) (opd_is H hs)
    · exact absurd h (by simp)
  · rename_i x ho
    split at h
    · rename_i s hs
      have := vV_ok h
      subst this
      exact does_val H.inh (by simp [execOp, ho]) (opd_is H hs)
    · exact absurd h (by simp)
  · rename_i c x y ho
    exact does_reads H (pickX_run F H hf h) (by simp [execOp, ho])
  · rename_i t ho
    exact allocX_does H hn h (by simp [execOp, ho])
  · rename_i t x ho
    split at h
    · rename_i s hs
      exact boxX_does F H (t := t) hn h (opd_is H hs) (by simp [execOp, ho])
    · exact absurd h (by simp)
  · rename_i t ps ho
    exact does_reads H (buildX_run F H h) (by simp [execOp, ho])
  · rename_i t n ps ho
    exact buildSliceX_does F H hn h (by simp [execOp, ho])
  · rename_i t x ho
    split at h
    · rename_i c hc
      exact does_reads H (loadX_run V F H hf h (scIs H hc)) (by simp [execOp, ho])
    · exact absurd h (by simp)
  · rename_i t x v ho
    split at h
    · rename_i c s hc hs
      exact storeX_does F H h (scIs H hc) (opd_is H hs) (by simp [execOp, ho])
    · exact absurd h (by simp)
  · rename_i x ho
    split at h
    · rename_i id off hc
      have := vC_ok h
      subst this
      have hx := scIs H hc
      obtain ⟨b, hb, hv⟩ := hx
      exact does_val H.inh (by simp [execOp, ho, hv]) ⟨b, hb, rfl⟩
    · exact absurd h (by simp)
  · rename_i op t x y yt ho
    exact does_reads H (binOpX_run F H hf h) (by simp [execOp, ho])
  · rename_i op t x ho
    split at h
    · rename_i x' hx
      obtain ⟨z, rfl, hz⟩ := unX_run F h w
      rw [← exIs H hx] at hz
      exact does_reads H (s := Op.unary op (a.eval x)) ⟨rfl, rfl, _, hz, rfl⟩ (by simp [execOp, ho])
    · exact absurd h (by simp)
  · rename_i s d x ho
    split at h
    · rename_i x' hx
      obtain ⟨z, rfl, hz⟩ := convX_run F h w
      rw [← exIs H hx] at hz
      exact does_reads H (s := convert s d (a.eval x)) ⟨rfl, rfl, _, hz, rfl⟩ (by simp [execOp, ho])
    · exact absurd h (by simp)
  · rename_i t x lo hi ho
    split at h
    · rename_i x' lo' hi' hx hlo hhi
      have hxe : a.eval x = x'.den ρ φ := scIs H hx
      have := sliceStrX_run (β := β) (w := w) F hf h
      rw [← hxe, ← optE_is H hlo, ← optE_is H hhi] at this
      exact does_reads H this (by simp [execOp, ho])
    · rename_i c lo' hi' _ hc hlo hhi
      have := sliceX_run (w := w) h (scIs H hc)
      rw [← optE_is H hlo, ← optE_is H hhi] at this
      exact does_reads H this (by simp [execOp, ho])
    · exact absurd h (by simp)
  · rename_i t x i ho
    split at h
    · rename_i x' i' hx hi
      have := indexX_run (β := β) (w := w) F hf h
      rw [← exIs H hx, ← exIs H hi] at this
      exact does_reads H this (by simp [execOp, ho])
    · exact absurd h (by simp)
  · rename_i s x f ho
    split at h
    · rename_i c hc
      exact does_reads H (fieldAddrX_run h (scIs H hc)) (by simp [execOp, ho])
    · exact absurd h (by simp)
  · rename_i s x f ho
    split at h
    · rename_i v hv
      exact does_reads H (fieldX_run h (opd_is H hv)) (by simp [execOp, ho])
    · exact absurd h (by simp)
  · rename_i t x i ho
    split at h
    · rename_i c i' hc hi
      have := indexAddrX_run (w := w) V F hf h (scIs H hc)
      rw [← exIs H hi] at this
      exact does_reads H this (by simp [execOp, ho])
    · exact absurd h (by simp)
  · rename_i x i ho
    split at h
    · rename_i v hv
      exact does_reads H (extractX_run h (opd_is H hv)) (by simp [execOp, ho])
    · exact absurd h (by simp)
  · rename_i c ho
    split at h
    · rename_i b hb
      exact builtinX_run V F H h ho hb
    · exact callX_does V F C H hf hn h ho
  · exact absurd h (by simp)
end
end Go.SX
