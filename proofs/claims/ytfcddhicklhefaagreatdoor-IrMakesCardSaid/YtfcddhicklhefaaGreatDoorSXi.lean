/- SX: equal structs; lengths; every operation. -/
import Derived.Test.YtfcddhicklhefaaGreatDoorSXh
namespace Go.SX
open Go Go.RowKit

def partC (cx : Cx) (t : TypeId) (cs : List SC) (off : Nat) : Option Part :=
  match tyx cx.P t with
  | some (true, n) => some ⟨true, (cs.drop off).take n⟩
  | some (false, _) => match cs[off]? with
    | some c => some ⟨false, [c]⟩
    | none => none
  | none => none
def mkAnd (e r : E) : E :=
  match e with
  | .bool true => r
  | .bool false => .bool false
  | e => match r with
    | .bool true => e
    | r => .ite e r (.bool false)
def eqFs (cx : Cx) (f : TypeId → Part → Part → Option E) (xs ys : List SC) : List Field → Option E
  | [] => some (.bool true)
  | fd :: fs =>
    if fd.name == "_" then none
    else match partC cx fd.type xs fd.offset, partC cx fd.type ys fd.offset with
      | some p, some q => match f fd.type p q, eqFs cx f xs ys fs with
        | some e, some r => some (mkAnd e r)
        | _, _ => none
      | _, _ => none
def eqX (cx : Cx) : Nat → TypeId → Part → Part → Option E
  | 0, _, _, _ => none
  | d + 1, t, p, q =>
    match cx.P.underlying t with
    | some (.struct fs) =>
      if p.agg && q.agg && !cx.P.stoodInHeld t then eqFs cx (eqX cx d) p.cs q.cs fs.toList else none
    | some (.int _) => match p, q with
      | ⟨false, [.e x]⟩, ⟨false, [.e y]⟩ => match cx.so x, cx.so y with
        | .int k, .int k' => if kBeq k k' then some (mkEql x y) else none
        | _, _ => none
      | _, _ => none
    | some .bool => match p, q with
      | ⟨false, [.e x]⟩, ⟨false, [.e y]⟩ => match cx.so x, cx.so y with
        | .bool, .bool => some (mkBeq x y)
        | _, _ => none
      | _, _ => none
    | some .string => match p, q with
      | ⟨false, [.e x]⟩, ⟨false, [.e y]⟩ => match cx.so x, cx.so y with
        | .str, .str => some (mkSeq x y)
        | _, _ => none
      | _, _ => none
    | _ => none

def eqlX (cx : Cx) (op : BinOp) (t : TypeId) (p q : Part) : OR :=
  if p.agg && q.agg && !cx.P.eqGuardType cx.P.depth t then
    match eqX cx 20 t p q with
    | some e => match op with
      | .eql => vE e
      | .neq => vE (mkNot e)
      | _ => .stuck
    | none => .stuck
  else .stuck

section
variable {ρ : Nat → Value} {φ : Nat → List Value → List Value} {cx : Cx} {fx : Fx} {L : LK} {B : BK} {β : Nat → Option Nat} {a : Act} {w : World}
theorem partC_run {t : TypeId} {cs : List SC} {off : Nat} {p : Part} {vs : List Value} (h : partC cx t cs off = some p) (ha : All2 (SC.is ρ φ β) cs vs) (w : World) :
    ∃ x, (part t vs.toArray off).run cx.P w = .ok x w ∧ p.is ρ φ β x := by
  unfold partC at h
  split at h
  · rename_i n ht
    simp only [Option.some.injEq] at h
    subst h
    refine ⟨.agg ((vs.drop off).take n).toArray, ?_, _, rfl, (ha.drop _).take n⟩
    simp only [part, Sem.run_bind, (tyx_run ht _).1, Result.andThen_ok, if_true, (tyx_run ht _).2, Sem.run_pure]
    congr 2
    apply Array.ext'
    simp [List.take_drop, Nat.add_sub_cancel_left]
  · rename_i n ht
    split at h
    · rename_i c hc
      simp only [Option.some.injEq] at h
      subst h
      obtain ⟨u, hu, hcu⟩ := ha.get hc
      refine ⟨u, ?_, hcu⟩
      simp [part, (tyx_run ht _).1, hu]
    · exact absurd h (by simp)
  · exact absurd h (by simp)

def IsB (ρ : Nat → Value) (φ : Nat → List Value → List Value) (e : E) : Prop := e.den ρ φ = .bool (vbool (e.den ρ φ))
theorem mkAnd_den {e r : E} (he : IsB ρ φ e) (hr : IsB ρ φ r) : (mkAnd e r).den ρ φ = .bool (vbool (e.den ρ φ) && vbool (r.den ρ φ)) := by
  unfold mkAnd
  split
  · rw [hr]; simp [E.den]
  · simp [E.den]
  · split
    · rw [he]; simp [E.den]
    · simp only [E.den]
      cases hq : vbool (e.den ρ φ) with
      | true => simp only [if_true]; rw [hr]; simp
      | false => simp

theorem eqX_run (F : Fits cx.Γ cx.S ρ φ) : ∀ (d D : Nat) (t : TypeId) (p q : Part) (e : E) (x y : Value) (w : World), d ≤ D → eqX cx d t p q = some e → p.is ρ φ β x → q.is ρ φ β y →
    (Op.equalIn D t x y).run cx.P w = .ok (vbool (e.den ρ φ)) w ∧ IsB ρ φ e := by
  intro d
  induction d with
  | zero => intro D t p q e x y w _ h; simp [eqX] at h
  | succ d ih =>
    intro D t p q e x y w hD h hp hq
    obtain ⟨D, rfl⟩ : ∃ D', D = D' + 1 := ⟨D - 1, by omega⟩
    simp only [eqX] at h
    split at h
    · rename_i fs hu
      split at h
      · rename_i hc
        simp only [Bool.and_eq_true, Bool.not_eq_true'] at hc
        obtain ⟨⟨h1, h2⟩, h3⟩ := hc
        obtain ⟨pa, pc⟩ := p
        obtain ⟨qa, qc⟩ := q
        simp only at h1 h2
        subst h1 h2
        obtain ⟨xs, rfl, hax⟩ := hp
        obtain ⟨ys, rfl, hay⟩ := hq
        have hfo : cx.P.fieldsOf t = fs := by simp [Program.fieldsOf, hu]
        rw [run_equalIn_struct w D t xs.toArray ys.toArray (by rw [hfo]; exact hu) h3, hfo]
        clear hu hfo
        simp only at h
        generalize fs.toList = l at h
        induction l generalizing e with
        | nil =>
          simp only [eqFs, Option.some.injEq] at h
          subst h
          simp [Op.eqFields, E.den, IsB]
        | cons fd l ihl =>
          simp only [eqFs] at h
          split at h
          · exact absurd h (by simp)
          · rename_i hname
            have hname : ¬ fd.name = "_" := by simpa using hname
            split at h
            · rename_i p' q' hp' hq'
              split at h
              · rename_i e' r' he' hr'
                simp only [Option.some.injEq] at h
                subst h
                obtain ⟨u, hu1, hu2⟩ := partC_run hp' hax w
                obtain ⟨v, hv1, hv2⟩ := partC_run hq' hay w
                obtain ⟨g1, g2⟩ := ih D fd.type p' q' e' u v w (by omega) he' hu2 hv2
                obtain ⟨g3, g4⟩ := ihl r' hr'
                have hand := mkAnd_den g2 g4
                refine ⟨?_, by rw [IsB, hand]; rfl⟩
                rw [hand]
                simp only [Op.eqFields, hname, ne_eq, not_false_eq_true, if_true, Sem.run_bind, hu1, Result.andThen_ok, hv1, g1]
                cases hb : vbool (e'.den ρ φ) with
                | true => simp [g3]
                | false => simp
              · exact absurd h (by simp)
            · exact absurd h (by simp)
      · exact absurd h (by simp)
    · rename_i k hu
      split at h
      · rename_i x' y'
        split at h
        · rename_i k1 k2 hx hy
          split at h
          · rename_i hk
            simp only [Option.some.injEq] at h
            subst h
            have ex := so_int F hx
            have ey := so_int F hy
            have hp : x = _ := hp
            have hq : y = _ := hq
            subst hp hq
            rw [IsB, mkEql_den, ex, ey]
            rw [← kBeq_eq hk]
            rw [run_equalIn_int w D t k1 k _ _ hu]
            simp
          · exact absurd h (by simp)
        · exact absurd h (by simp)
      · exact absurd h (by simp)
    · rename_i hu
      split at h
      · rename_i x' y'
        split at h
        · rename_i hx hy
          simp only [Option.some.injEq] at h
          subst h
          have ex := so_bool F hx
          have ey := so_bool F hy
          have hp : x = _ := hp
          have hq : y = _ := hq
          subst hp hq
          rw [IsB, mkBeq_den, ex, ey]
          rw [run_equalIn_bool w D t _ _ hu]
          simp
        · exact absurd h (by simp)
      · exact absurd h (by simp)
    · rename_i hu
      split at h
      · rename_i x' y'
        split at h
        · rename_i hx hy
          simp only [Option.some.injEq] at h
          subst h
          obtain ⟨m, ex⟩ := so_str F hx
          obtain ⟨n, ey⟩ := so_str F hy
          have hp : x = _ := hp
          have hq : y = _ := hq
          subst hp hq
          rw [IsB, mkSeq_den, ex, ey]
          rw [run_equalIn_string w D t _ _ hu]
          simp
        · exact absurd h (by simp)
      · exact absurd h (by simp)
    · exact absurd h (by simp)

theorem eqlX_run (F : Fits cx.Γ cx.S ρ φ) {op : BinOp} {t : TypeId} {p q : Part} {δ : Dl} {x y : Value} (h : eqlX cx op t p q = .ok δ) (hp : p.is ρ φ β x) (hq : q.is ρ φ β y) (X Y : Operand) :
    Reads ρ φ β cx.P w δ (do eqGuard op t X Y x y; binOp op t x y) := by
  unfold eqlX at h
  split at h
  · rename_i hc
    simp only [Bool.and_eq_true, Bool.not_eq_true'] at hc
    obtain ⟨⟨h1, h2⟩, h3⟩ := hc
    split at h
    · rename_i e he
      obtain ⟨g1, g2⟩ := eqX_run F 20 10000 t p q e x y w (by omega) he hp hq
      obtain ⟨pa, pc⟩ := p
      obtain ⟨qa, qc⟩ := q
      simp only at h1 h2
      subst h1 h2
      obtain ⟨xs, rfl, hax⟩ := hp
      obtain ⟨ys, rfl, hay⟩ := hq
      have hgd : ∀ op, (eqGuard op t X Y (.agg xs.toArray) (.agg ys.toArray)).run cx.P w = .ok () w := by
        intro op
        unfold eqGuard
        cases op <;> simp [h3]
      have hq : (Op.equal t (.agg xs.toArray) (.agg ys.toArray)).run cx.P w = .ok (vbool (e.den ρ φ)) w := g1
      split at h
      · have := vE_ok h
        subst this
        refine ⟨rfl, rfl, e.den ρ φ, ?_, rfl⟩
        have hb : binOp .eql t (.agg xs.toArray) (.agg ys.toArray) = (do pure (.bool (← Op.equal t (.agg xs.toArray) (.agg ys.toArray)))) := rfl
        simp only [Sem.run_bind, hgd, Result.andThen_ok, hb, hq, Sem.run_pure]
        rw [← g2]
      · have := vE_ok h
        subst this
        refine ⟨rfl, rfl, (mkNot e).den ρ φ, ?_, rfl⟩
        have hb : binOp .neq t (.agg xs.toArray) (.agg ys.toArray) = (do pure (.bool (!(← Op.equal t (.agg xs.toArray) (.agg ys.toArray))))) := rfl
        simp only [Sem.run_bind, hgd, Result.andThen_ok, hb, hq, Sem.run_pure, mkNot_den]
      · exact absurd h (by simp)
    · exact absurd h (by simp)
  · exact absurd h (by simp)
end

/-! ### Builtins -/
def lenX (cx : Cx) (t : TypeId) (c : SC) : OR :=
  match c, cx.P.underlying t with
  | .slc _ _ len _, some (.slice _) => vE (.int .i64 (Int.ofNat len))
  | .e (.val (.slice none 0 0)), some (.slice _) => vE (.int .i64 0)
  | .e (.var i), some (.slice _) => match findVw i cx.vw with
    | some v => vE (.var v.l)
    | none => .stuck
  | .e x, some .string => if cx.so x = .str then vE (mkLen x) else .stuck
  | _, _ => .stuck
def minX (cx : Cx) (x y : E) : OR :=
  match cx.so x, cx.so y with
  | .int k, .int k' => if kBeq k k' then (match mkLss y x with | .bool true => vE y | .bool false => vE x | c => vE (.ite c y x)) else .stuck
  | _, _ => .stuck
def maxX (cx : Cx) (x y : E) : OR :=
  match cx.so x, cx.so y with
  | .int k, .int k' => if kBeq k k' then (match mkLss x y with | .bool true => vE y | .bool false => vE x | c => vE (.ite c y x)) else .stuck
  | _, _ => .stuck
def builtinX (cx : Cx) (L : LK) (b : Builtin) (c : Call) : OR :=
  match b, c.argTypes.toList, c.args.toList with
  | .len, [t], [x] => match (opd L x).bind SV.sc with
    | some s => lenX cx t s
    | none => .stuck
  | .min, _, [x, y] => match (opd L x).bind SV.ex, (opd L y).bind SV.ex with
    | some x, some y => minX cx x y
    | _, _ => .stuck
  | .max, _, [x, y] => match (opd L x).bind SV.ex, (opd L y).bind SV.ex with
    | some x, some y => maxX cx x y
    | _, _ => .stuck
  | _, _, _ => .stuck
end Go.SX
