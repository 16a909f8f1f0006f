/- SX: functions that give a new row of cells. -/
import Derived.Test.YtfcddhicklhefaaGreatDoorSXp
import Derived.Laws.BitsLemmas
import Derived.Lib.SmallJoins
namespace Go.SX
open Go Go.RowKit

def rowE (T : RTree) : Option (Nat × List E) :=
  match T with
  | .leaf (.one ⟨false, [.slc id 0 len cap]⟩) σ => match lookA id σ.boxes with
    | some row => if Nat.beq len row.length && Nat.beq cap len then (exs row).map fun es => (id, es) else none
    | none => none
  | _ => none
def rowOk (cx : Cx) (n k : Nat) (s : So) (T : RTree) : Bool :=
  match rowE T with
  | some (_, es) => Nat.beq es.length k && soOk cx (List.replicate k s) es && es.all fun e => e.lt n
  | none => false
def autoRow (T : RTree) (ss : List So) (φ : Nat → List Value → List Value) (fl : List Value) : List Value :=
  match rowE T with
  | some (_, es) => es.map fun e => e.den (fun i => coe (ss.getD i .any) (fl.getD i undef)) φ
  | none => []
def sigRow (P : Program) (fn : Func) (f : FuncId) (sym k : Nat) (s : So) : Sig :=
  match pksSl P fn.params.toList with
  | some ps => ⟨f, sym, ps, [.row k s], [], [], []⟩
  | none => ⟨f, sym, [], [], [], [], []⟩

theorem exs_len : ∀ {cs : List SC} {es : List E}, exs cs = some es → cs.length = es.length
  | [], es, h => by
    simp only [exs, Option.some.injEq] at h
    subst h
    rfl
  | .e x :: cs, es, h => by
    simp only [exs, Option.map_eq_some_iff] at h
    obtain ⟨es', he, rfl⟩ := h
    simp [exs_len he]
  | .ptr _ _ :: _, _, h => by simp [exs] at h
  | .pti _ _ _ :: _, _, h => by simp [exs] at h
  | .slc _ _ _ _ :: _, _, h => by simp [exs] at h
  | .vad _ _ _ _ :: _, _, h => by simp [exs] at h
theorem exsR_is {ρ : Nat → Value} {φ : Nat → List Value → List Value} {β : Nat → Option Nat} : ∀ {cs : List SC} {es : List E} {vs : List Value}, exs cs = some es → All2 (SC.is ρ φ β) cs vs → vs = es.map (·.den ρ φ)
  | [], es, vs, h, ha => by
    simp only [exs, Option.some.injEq] at h
    subst h
    cases vs with
    | nil => rfl
    | cons v vs => exact ha.elim
  | .e x :: cs, es, vs, h, ha => by
    simp only [exs, Option.map_eq_some_iff] at h
    obtain ⟨es', he, rfl⟩ := h
    cases vs with
    | nil => exact ha.elim
    | cons v vs =>
      obtain ⟨h1, h2⟩ := ha
      simp only [List.map_cons]
      rw [← exsR_is he h2]
      congr 1
  | .ptr _ _ :: _, _, _, h, _ => by simp [exs] at h
  | .pti _ _ _ :: _, _, _, h, _ => by simp [exs] at h
  | .slc _ _ _ _ :: _, _, _, h, _ => by simp [exs] at h
  | .vad _ _ _ _ :: _, _, _, h, _ => by simp [exs] at h
theorem soOkR_has {ρ : Nat → Value} {φ : Nat → List Value → List Value} {cx : Cx} (F : Fits cx.Γ cx.S ρ φ) : ∀ {ss : List So} {es : List E}, soOk cx ss es = true → All2 So.has ss (es.map (·.den ρ φ))
  | [], [], _ => trivial
  | [], _ :: _, h => by simp [soOk] at h
  | _ :: _, [], h => by simp [soOk] at h
  | s :: ss, x :: xs, h => by
    simp only [soOk, Bool.and_eq_true, Bool.or_eq_true, decide_eq_true_eq] at h
    refine ⟨?_, soOkR_has F h.2⟩
    rcases h.1 with h1 | h1
    · rw [h1]; trivial
    · rw [← h1]; exact E.so_has F x

theorem pick_all {vs : List Value} {k : Nat} (h : vs.length = k) : pick vs 0 k = vs := by
  unfold pick
  apply List.ext_getElem?
  intro i
  rw [List.getElem?_map]
  by_cases hi : i < k
  · rw [List.getElem?_range' (by omega)]
    simp only [Option.map_some, Nat.zero_add, Nat.one_mul]
    rw [List.getD_eq_getElem?_getD, List.getElem?_eq_getElem (by omega)]
    rfl
  · rw [List.getElem?_eq_none (by simp; omega), List.getElem?_eq_none (by omega)]
    rfl
theorem Env.autoRow {P : Program} {ct : List Sig} {sy : List (Nat × List So)} {φ : Nat → List Value → List Value} (H : Env P ct sy φ) (lps : List Lp) (n : Nat) (fn : Func) (c : Code) (g : Sig) (k : Nat) (s : So) (hfn : P.funcs[g.f]? = some fn) (hb : fn.body = some c) (hnm : (fn.name == "runtime.NumGoroutine") = false)
    (hfr : freshS g.sym ct = true) (hv : g.ps.all PK.okK = true) (hpr : (g.pre.all fun p => p.1.noApp && p.1.lt (sortsP g.ps).length) = true) (hfl : fixLt (sortsP g.ps).length g.fix = true) (hls : ∀ lp ∈ lps, ∀ l ∈ loops c, firstId l = some lp.key → lp.Sound P φ (g.ps.length + (fn.ntmps - g.ps.length)) l)
    (him : g.imp = []) (hrs : g.rs = [.row k s]) (hT : rowOk (cxP P ct sy g.ps) (sortsP g.ps).length k s (fnT P ct sy lps n fn c g) = true) :
    Env P (g :: ct) ((g.sym, g.rs.flatMap RK.sorts) :: sy) (updF φ g.sym (SX.autoRow (fnT P ct sy lps n fn c g) (sortsP g.ps) φ)) := by
  unfold rowOk at hT
  split at hT
  · rename_i id es hre
    simp only [Bool.and_eq_true] at hT
    obtain ⟨⟨hk, hso⟩, hlt⟩ := hT
    have hk := Nat.eq_of_beq_eq_true hk
    have hauto : ∀ fl, SX.autoRow (fnT P ct sy lps n fn c g) (sortsP g.ps) φ fl = es.map fun e => e.den (fun i => coe ((sortsP g.ps).getD i .any) (fl.getD i undef)) φ := by
      intro fl
      unfold SX.autoRow
      rw [hre]
    have hlts : ∀ {ρ ρ' : Nat → Value}, (∀ i, i < (sortsP g.ps).length → ρ i = ρ' i) → es.map (·.den ρ φ) = es.map (·.den ρ' φ) := by
      intro ρ ρ' hρ
      apply List.map_congr_left
      intro e he
      exact (lt_den φ hρ e (List.all_eq_true.1 hlt e he)).1
    refine H.add g _ hfr (fun args => ?_) ⟨callFunc_run hfn hb hnm, fun w xs fl hr hpx hfx => ?_, fun fl _ _ => by rw [him]; intro q hq; simp at hq⟩
    · rw [hauto, hrs]
      have F : Fits (cxP P ct sy g.ps).Γ (cxP P ct sy g.ps).S (fun i => coe ((sortsP g.ps ++ exS g.ps).getD i .any) (args.getD i undef)) φ := ⟨fun i => coe_has _ _, H.fit⟩
      have := soOkR_has F hso
      rw [hlts (ρ' := fun i => coe ((sortsP g.ps).getD i .any) (args.getD i undef)) (fun i hi => by
        rw [List.getD_eq_getElem?_getD (l := sortsP g.ps ++ _), List.getElem?_append_left hi, List.getD_eq_getElem?_getD (l := sortsP g.ps)])] at this
      simpa [RK.sorts] using this
    · rw [updF_self]
      obtain ⟨hlen, hlx⟩ := readsAll_len hr
      obtain ⟨ρ1, hρ1⟩ : ∃ ρ1 : Nat → Value, ρ1 = fun i => (fl ++ exV g.ps xs).getD i undef := ⟨_, rfl⟩
      have hρa : ∀ i, i < (sortsP g.ps).length → ρ1 i = fl.getD i undef := by
        intro i hi
        rw [hρ1]
        simp only
        rw [List.getD_eq_getElem?_getD, List.getElem?_append_left (by omega), List.getD_eq_getElem?_getD]
      obtain ⟨ha, hhas, hhx, hvw⟩ := argsV_is (φ := φ) (β := fun _ => none) (fm := ⟨((argsV 0 (sortsP g.ps).length g.ps).map (fixV g.fix)).length + (fn.ntmps - ((argsV 0 (sortsP g.ps).length g.ps).map (fixV g.fix)).length), none⟩) (a0 := #[]) [] fl ρ1 hv hr (fun j hj => by
        rw [List.length_nil, Nat.zero_add]; exact hρa j (by omega)) (fun j hj => by
        rw [hρ1]
        simp only
        rw [List.getD_eq_getElem?_getD, List.getElem?_append_right (by omega), show fl.length + j - fl.length = j by omega, List.getD_eq_getElem?_getD])
      rw [hlen] at ha hvw
      simp only [List.length_nil] at ha hvw
      have F : Fits (cxP P ct sy g.ps).Γ (cxP P ct sy g.ps).S ρ1 φ := ⟨fun i => by
        have := all2_get (All2.append hhas hhx) i
        rw [hρ1]
        exact this, H.fit⟩
      have hρc : (fun i => coe ((sortsP g.ps).getD i .any) (fl.getD i undef)) = fun i => fl.getD i undef := by
        funext i
        exact coe_id (all2_get hhas i)
      obtain ⟨T, hTT⟩ : ∃ T, T = fnT P ct sy lps n fn c g := ⟨_, rfl⟩
      refine calls_sx (cx := cxP P ct sy g.ps) (T := T) F H.snd (n := n) (ls := lps) (by rw [List.length_map, argsV_len]; exact hls) hfn hb (by rw [hTT]; rfl) hvw (fixVs_is (fix_here hfl hρa hfx) ha) (preFacts hpr hpx hρa (vwFacts_hold hvw)) ?_
      rw [← hTT] at hre hauto
      rw [← hTT]
      unfold rowE at hre
      split at hre
      · rename_i id' len cap σ
        split at hre
        · rename_i row hrow
          split at hre
          · rename_i hc
            rw [Bool.and_eq_true] at hc
            have hc1 := Nat.eq_of_beq_eq_true hc.1
            have hc2 := Nat.eq_of_beq_eq_true hc.2
            simp only [Option.map_eq_some_iff, Prod.mk.injEq] at hre
            obtain ⟨es', hes, rfl, rfl⟩ := hre
            intro β a w' x hM hx
            refine ⟨x, rfl, ?_, hM.m.low.below⟩
            obtain ⟨b, vs, Ty, hb1, hb2, hb3, hb4⟩ := hM.m.box id' row hrow
            have hvs := exsR_is hes hb4
            have hxl := exs_len hes
            have hx' : (SC.slc id' 0 len cap).is ρ1 φ β x := hx
            obtain ⟨b', hb', rfl⟩ := hx'
            rw [hb1] at hb'
            simp only [Option.some.injEq] at hb'
            subst hb'
            rw [hrs]
            show RK.gives w w' _ 0 (.row k s) _
            have hout : SX.autoRow (RTree.leaf (.one ⟨false, [.slc id' 0 len cap]⟩) σ) (sortsP g.ps) φ fl = vs := by
              rw [hauto, hρc, hvs]
              exact (hlts hρa).symm
            rw [hout]
            have hvl : vs.length = k := by rw [hvs]; simpa using hk
            refine ⟨b, Ty, ?_, ?_, ?_⟩
            · rw [hc2, hc1, hxl, hk]
            · rcases hb2 with h | h
              · exact h
              · exact absurd h (by simp)
            · rw [hb3]
              congr 2
              have : pick vs 0 k = vs := pick_all hvl
              rw [this]
          · exact absurd hre (by simp)
        · exact absurd hre (by simp)
      · exact absurd hre (by simp)
  · exact absurd hT (by simp)
end Go.SX

/- SX: what a term is, by all ways: functions' trees and loops are opened, conditions are split. -/
namespace Go.SX
open Go Go.RowKit

/-! ### Trees of values -/
inductive VT where
  | leaf (es : List E) | ite (c : E) (t e : VT) | stuck
def SC.toE : SC → E
  | .e x => x
  | _ => .val undef
def SV.es : SV → List E
  | .one p => p.cs.map SC.toE
  | .tup ps => ps.flatMap fun p => p.cs.map SC.toE
def RTree.strip : RTree → VT
  | .leaf v _ => .leaf v.es
  | .ite c t e => .ite c t.strip e.strip
  | .stuck => .stuck
def RTree.stripRow (T : RTree) : VT :=
  match rowE T with
  | some (_, es) => .leaf es
  | none => .stuck
section
variable (ρ : Nat → Value) (φ : Nat → List Value → List Value)
def VT.vals : VT → List Value
  | .leaf es => es.map (·.den ρ φ)
  | .ite c t e => if vbool (c.den ρ φ) then t.vals else e.vals
  | .stuck => []
end
section
variable {ρ : Nat → Value} {φ : Nat → List Value → List Value}
theorem toE_den (c : SC) : c.toE.den ρ φ = c.val ρ φ := by cases c <;> rfl
theorem es_den (v : SV) : v.es.map (·.den ρ φ) = v.vals ρ φ := by
  have h : ∀ cs : List SC, (cs.map SC.toE).map (·.den ρ φ) = cs.map (SC.val ρ φ) := by
    intro cs
    rw [List.map_map]
    exact List.map_congr_left fun c _ => toE_den c
  cases v with
  | one p => exact h p.cs
  | tup ps =>
    simp only [SV.es, SV.vals, Part.vals]
    induction ps with
    | nil => rfl
    | cons p ps ih => simp only [List.flatMap_cons, List.map_append, h, ih]
theorem strip_vals : ∀ T : RTree, T.strip.vals ρ φ = T.vals ρ φ
  | .leaf v _ => es_den v
  | .ite c t e => by simp only [RTree.strip, VT.vals, RTree.vals, strip_vals t, strip_vals e]
  | .stuck => rfl
end

/-! ### Loops' trees -/
inductive LT where
  | next (es : List E) | out (es : List E) | ite (c : E) (t e : LT)
def dflE (ss : List So) : List E := ss.map fun s => .val (coe s undef)
def badE (lp : Lp) : List E := .int .i64 (-1) :: dflE (lp.exits.flatMap fun e => outSorts e.2)
def stripL (lp : Lp) (cx : Cx) (n : Nat) (ws : List Nat) : Tree → LT
  | .leaf .normal σ => match nextE n cx ws σ.L 0 lp.ins with
    | some es => .next es
    | none => .out (badE lp)
  | .leaf x σ => match exitE n cx σ.L x 0 lp.exits with
    | some (k, a, es) => .out (.int .i64 (Int.ofNat k) :: (dflE ((lp.exits.flatMap fun e => outSorts e.2).take a) ++ es ++ dflE ((lp.exits.flatMap fun e => outSorts e.2).drop (a + es.length))))
    | none => .out (badE lp)
  | .ite c t e => .ite c (stripL lp cx n ws t) (stripL lp cx n ws e)
  | .stuck => .out (badE lp)
section
variable (ρ : Nat → Value) (φ : Nat → List Value → List Value)
def LT.step : LT → List Value ⊕ List Value
  | .next es => .inl (es.map (·.den ρ φ))
  | .out es => .inr (es.map (·.den ρ φ))
  | .ite c t e => if vbool (c.den ρ φ) then t.step else e.step
end
def atS (ss : List So) (fl : List Value) : Nat → Value := fun i => coe (ss.getD i .any) (fl.getD i undef)
def LT.itr (ss : List So) (T : LT) (bad : List E) (φ : Nat → List Value → List Value) : Nat → List Value → List Value
  | 0, _ => bad.map (·.den (fun _ => undef) φ)
  | m + 1, fl => match T.step (atS ss fl) φ with
    | .inl fl' => LT.itr ss T bad φ m fl'
    | .inr r => r
theorem dflE_den {ρ : Nat → Value} {φ : Nat → List Value → List Value} (ss : List So) : (dflE ss).map (·.den ρ φ) = dfl ss := by
  unfold dflE dfl
  rw [List.map_map]
  exact List.map_congr_left fun s _ => rfl
theorem badE_den {ρ : Nat → Value} {φ : Nat → List Value → List Value} (lp : Lp) : (badE lp).map (·.den ρ φ) = .int .i64 (-1) :: dfl (lp.exits.flatMap fun e => outSorts e.2) := by
  unfold badE
  rw [List.map_cons, dflE_den]
  rfl
theorem stripL_step {lp : Lp} {cx : Cx} {n : Nat} {ws : List Nat} {φ : Nat → List Value → List Value} (fl : List Value) : ∀ T : Tree, (stripL lp cx n ws T).step (atS (sortsP (lp.ins.map (·.2))) fl) φ = lpStep lp cx n ws T φ fl := by
  intro T
  induction T with
  | leaf x σ =>
    unfold lpStep
    cases x with
    | normal =>
      simp only [stripL, Tree.run]
      cases nextE n cx ws σ.L 0 lp.ins with
      | none => simp only [LT.step, badE_den]
      | some es => rfl
    | exit id =>
      simp only [stripL, Tree.run]
      cases exitE n cx σ.L (.exit id) 0 lp.exits with
      | none => simp only [LT.step, badE_den]
      | some r =>
        obtain ⟨k, a, es⟩ := r
        simp only [LT.step, List.map_cons, List.map_append, dflE_den, E.den]
        rfl
    | ret =>
      simp only [stripL, Tree.run]
      cases exitE n cx σ.L .ret 0 lp.exits with
      | none => simp only [LT.step, badE_den]
      | some r =>
        obtain ⟨k, a, es⟩ := r
        simp only [LT.step, List.map_cons, List.map_append, dflE_den, E.den]
        rfl
  | ite c t e iht ihe =>
    simp only [stripL, LT.step, iht, ihe]
    unfold lpStep
    simp only [Tree.run]
    unfold atS
    split <;> rfl
  | stuck =>
    unfold lpStep
    simp only [stripL, Tree.run, LT.step, badE_den]
theorem stripL_itr {lp : Lp} {cx : Cx} {n : Nat} {ws : List Nat} {φ : Nat → List Value → List Value} (T : Tree) : ∀ (m : Nat) (fl : List Value), (stripL lp cx n ws T).itr (sortsP (lp.ins.map (·.2))) (badE lp) φ m fl = lpItr lp cx n ws T φ m fl
  | 0, fl => by simp only [LT.itr, lpItr, badE_den]
  | m + 1, fl => by
    simp only [LT.itr, lpItr, stripL_step]
    cases lpStep lp cx n ws T φ fl with
    | inl f => exact stripL_itr T m _
    | inr r => rfl

/-! ### Symbols that do not occur -/
def E.noSym (K : Nat) : E → Bool
  | .bin _ _ a b | .shf _ _ a b | .cmp _ a b | .beq a b | .seq a b | .idx a b | .cons a b | .byte a b => a.noSym K && b.noSym K
  | .not a | .conv _ a | .len a | .tup a => a.noSym K
  | .ite a b c | .cut a b c => a.noSym K && b.noSym K && c.noSym K
  | .el g i _ _ _ => g.noSym K && i.noSym K
  | .app f _ a => !(Nat.beq f K) && a.noSym K
  | .var _ | .int _ _ | .bool _ | .val _ | .nil => true
theorem noSym_den (ρ : Nat → Value) (φ : Nat → List Value → List Value) (K : Nat) (G : List Value → List Value) : ∀ e : E, e.noSym K = true → e.den ρ (updF φ K G) = e.den ρ φ ∧ e.dens ρ (updF φ K G) = e.dens ρ φ := by
  intro e
  induction e with
  | var i => intro _; exact ⟨rfl, rfl⟩
  | int k n => intro _; exact ⟨rfl, rfl⟩
  | bool b => intro _; exact ⟨rfl, rfl⟩
  | val v => intro _; exact ⟨rfl, rfl⟩
  | nil => intro _; exact ⟨rfl, rfl⟩
  | bin o k a b iha ihb => intro hl; simp only [E.noSym, Bool.and_eq_true] at hl; exact ⟨by simp only [E.den, (iha hl.1).1, (ihb hl.2).1], rfl⟩
  | shf o k a b iha ihb => intro hl; simp only [E.noSym, Bool.and_eq_true] at hl; exact ⟨by simp only [E.den, (iha hl.1).1, (ihb hl.2).1], rfl⟩
  | cmp o a b iha ihb => intro hl; simp only [E.noSym, Bool.and_eq_true] at hl; exact ⟨by simp only [E.den, (iha hl.1).1, (ihb hl.2).1], rfl⟩
  | beq a b iha ihb => intro hl; simp only [E.noSym, Bool.and_eq_true] at hl; exact ⟨by simp only [E.den, (iha hl.1).1, (ihb hl.2).1], rfl⟩
  | seq a b iha ihb => intro hl; simp only [E.noSym, Bool.and_eq_true] at hl; exact ⟨by simp only [E.den, (iha hl.1).1, (ihb hl.2).1], rfl⟩
  | byte a b iha ihb => intro hl; simp only [E.noSym, Bool.and_eq_true] at hl; exact ⟨by simp only [E.den, (iha hl.1).1, (ihb hl.2).1], rfl⟩
  | idx a b iha ihb => intro hl; simp only [E.noSym, Bool.and_eq_true] at hl; exact ⟨by simp only [E.den, (iha hl.1).1, (ihb hl.2).2], rfl⟩
  | cons a b iha ihb => intro hl; simp only [E.noSym, Bool.and_eq_true] at hl; exact ⟨rfl, by simp only [E.dens, (iha hl.1).1, (ihb hl.2).2]⟩
  | not a iha => intro hl; simp only [E.noSym] at hl; exact ⟨by simp only [E.den, (iha hl).1], rfl⟩
  | conv k a iha => intro hl; simp only [E.noSym] at hl; exact ⟨by simp only [E.den, (iha hl).1], rfl⟩
  | app g j a iha =>
    intro hl
    simp only [E.noSym, Bool.and_eq_true, Bool.not_eq_true'] at hl
    have hg : g ≠ K := fun e => by rw [e] at hl; simp at hl
    exact ⟨by simp only [E.den, (iha hl.2).2, updF_ne φ hg], rfl⟩
  | len a iha => intro hl; simp only [E.noSym] at hl; exact ⟨by simp only [E.den, (iha hl).1], rfl⟩
  | tup a iha => intro hl; simp only [E.noSym] at hl; exact ⟨by simp only [E.den, (iha hl).2], rfl⟩
  | ite a b c iha ihb ihc => intro hl; simp only [E.noSym, Bool.and_eq_true] at hl; exact ⟨by simp only [E.den, (iha hl.1.1).1, (ihb hl.1.2).1, (ihc hl.2).1], rfl⟩
  | cut a b c iha ihb ihc => intro hl; simp only [E.noSym, Bool.and_eq_true] at hl; exact ⟨by simp only [E.den, (iha hl.1.1).1, (ihb hl.1.2).1, (ihc hl.2).1], rfl⟩
  | el g i sz o s ihg ihi => intro hl; simp only [E.noSym, Bool.and_eq_true] at hl; exact ⟨by simp only [E.den, (ihg hl.1).1, (ihi hl.2).1], rfl⟩
theorem noSym_all (ρ : Nat → Value) (φ : Nat → List Value → List Value) (K : Nat) (G : List Value → List Value) {es : List E} (h : es.all (E.noSym K) = true) : es.map (·.den ρ (updF φ K G)) = es.map (·.den ρ φ) :=
  List.map_congr_left fun e he => (noSym_den ρ φ K G e (List.all_eq_true.1 h e he)).1
def VT.noSym (K : Nat) : VT → Bool
  | .leaf es => es.all (E.noSym K)
  | .ite c t e => c.noSym K && t.noSym K && e.noSym K
  | .stuck => true
theorem VT.noSym_vals (ρ : Nat → Value) (φ : Nat → List Value → List Value) (K : Nat) (G : List Value → List Value) : ∀ {T : VT}, T.noSym K = true → T.vals ρ (updF φ K G) = T.vals ρ φ
  | .leaf es, h => noSym_all ρ φ K G h
  | .ite c t e, h => by
    simp only [VT.noSym, Bool.and_eq_true] at h
    simp only [VT.vals, (noSym_den ρ φ K G c h.1.1).1, VT.noSym_vals ρ φ K G h.1.2, VT.noSym_vals ρ φ K G h.2]
  | .stuck, _ => rfl
def LT.noSym (K : Nat) : LT → Bool
  | .next es => es.all (E.noSym K)
  | .out es => es.all (E.noSym K)
  | .ite c t e => c.noSym K && t.noSym K && e.noSym K
theorem LT.noSym_step (ρ : Nat → Value) (φ : Nat → List Value → List Value) (K : Nat) (G : List Value → List Value) : ∀ {T : LT}, T.noSym K = true → T.step ρ (updF φ K G) = T.step ρ φ
  | .next es, h => by simp only [LT.step, noSym_all ρ φ K G h]
  | .out es, h => by simp only [LT.step, noSym_all ρ φ K G h]
  | .ite c t e, h => by
    simp only [LT.noSym, Bool.and_eq_true] at h
    simp only [LT.step, (noSym_den ρ φ K G c h.1.1).1, LT.noSym_step ρ φ K G h.1.2, LT.noSym_step ρ φ K G h.2]
theorem LT.noSym_itr (φ : Nat → List Value → List Value) (K : Nat) (G : List Value → List Value) {ss : List So} {T : LT} {bad : List E} (h : T.noSym K = true) (hb : bad.all (E.noSym K) = true) : ∀ (m : Nat) (fl : List Value), T.itr ss bad (updF φ K G) m fl = T.itr ss bad φ m fl
  | 0, fl => noSym_all _ φ K G hb
  | m + 1, fl => by
    simp only [LT.itr, LT.noSym_step _ φ K G h]
    split
    · exact LT.noSym_itr φ K G h hb m _
    · rfl

/-! ### What is known of the symbols -/
inductive Def where
  | fn (ss : List So) (T : VT)
  | lp (ss : List So) (mu : E) (T : LT) (bad : List E)
def Def.ok (φ : Nat → List Value → List Value) (s : Nat) : Def → Prop
  | .fn ss T => ∀ fl, φ s fl = T.vals (atS ss fl) φ
  | .lp ss mu T bad => ∀ fl, φ s fl = T.itr ss bad φ ((vint (mu.den (atS ss fl) φ) + 1).toNat + 1) fl
def Def.noSym (K : Nat) : Def → Bool
  | .fn _ T => T.noSym K
  | .lp _ mu T bad => mu.noSym K && T.noSym K && bad.all (E.noSym K)
def DS (φ : Nat → List Value → List Value) (D : List (Nat × Def)) : Prop := ∀ p ∈ D, p.2.ok φ p.1
def newSym (K : Nat) (D : List (Nat × Def)) : Bool := D.all fun p => !(Nat.beq p.1 K) && p.2.noSym K
theorem DS.nil (φ : Nat → List Value → List Value) : DS φ [] := fun p hp => by simp at hp
theorem DS.keep {φ : Nat → List Value → List Value} {D : List (Nat × Def)} (H : DS φ D) {K : Nat} (h : newSym K D = true) (G : List Value → List Value) : DS (updF φ K G) D := by
  intro p hp
  have h1 := List.all_eq_true.1 h p hp
  simp only [Bool.and_eq_true, Bool.not_eq_true'] at h1
  have hne : p.1 ≠ K := fun e => by rw [e] at h1; simp at h1
  have hd := H p hp
  obtain ⟨s, d⟩ := p
  cases d with
  | fn ss T =>
    intro fl
    rw [updF_ne φ hne, VT.noSym_vals _ φ K G h1.2]
    exact hd fl
  | lp ss mu T bad =>
    intro fl
    have h2 := h1.2
    simp only [Def.noSym, Bool.and_eq_true] at h2
    rw [updF_ne φ hne, LT.noSym_itr φ K G h2.1.2 h2.2, (noSym_den _ φ K G mu h2.1.1).1]
    exact hd fl
/-- A function's meaning is its tree. -/
theorem DS.fn {φ : Nat → List Value → List Value} {D : List (Nat × Def)} (H : DS φ D) (K : Nat) (ss : List So) (T : RTree) (V : VT) (hV : T.strip = V) (h : newSym K D = true) (hK : V.noSym K = true) : DS (updF φ K (SX.auto T ss φ)) ((K, .fn ss V) :: D) := by
  intro p hp
  rcases List.mem_cons.1 hp with rfl | hp
  · intro fl
    rw [updF_self, VT.noSym_vals _ φ K _ hK, ← hV, strip_vals]
    rfl
  · exact H.keep h _ p hp
theorem DS.row {φ : Nat → List Value → List Value} {D : List (Nat × Def)} (H : DS φ D) (K : Nat) (ss : List So) (T : RTree) (V : VT) (hV : T.stripRow = V) (h : newSym K D = true) (hK : V.noSym K = true) : DS (updF φ K (SX.autoRow T ss φ)) ((K, .fn ss V) :: D) := by
  intro p hp
  rcases List.mem_cons.1 hp with rfl | hp
  · intro fl
    rw [updF_self, VT.noSym_vals _ φ K _ hK, ← hV]
    unfold SX.autoRow RTree.stripRow
    cases rowE T with
    | none => rfl
    | some r => rfl
  · exact H.keep h _ p hp
theorem DS.lp {φ : Nat → List Value → List Value} {D : List (Nat × Def)} (H : DS φ D) (lp : Lp) (cx : Cx) (ws : List Nat) (T : Tree) (V : LT) (hV : stripL lp cx (sortsP (lp.ins.map (·.2))).length ws T = V) (h : newSym lp.sym D = true) (hK : (V.noSym lp.sym && lp.mu.noSym lp.sym && (badE lp).all (E.noSym lp.sym)) = true) :
    DS (updF φ lp.sym (lpF lp cx (sortsP (lp.ins.map (·.2))).length ws T φ)) ((lp.sym, .lp (sortsP (lp.ins.map (·.2))) lp.mu V (badE lp)) :: D) := by
  simp only [Bool.and_eq_true] at hK
  intro p hp
  rcases List.mem_cons.1 hp with rfl | hp
  · intro fl
    rw [updF_self, LT.noSym_itr φ lp.sym _ hK.1.1 hK.2, (noSym_den _ φ lp.sym _ lp.mu hK.1.2).1, ← hV, stripL_itr]
    rfl
  · exact H.keep h _ p hp
end Go.SX

/- SX: the explorer: all ways through a term. -/
namespace Go.SX
open Go Go.RowKit

/-! ### One bit of a word -/
def orE (x y : E) : E :=
  match x with
  | .bool true => .bool true
  | .bool false => y
  | x => match y with
    | .bool false => x
    | y => .ite x (.bool true) y
def tb (cx : Cx) : E → Nat → Option E
  | .int _ n, i => match n with
    | .ofNat m => if Nat.blt m 4294967296 then some (.bool (m.testBit i)) else none
    | _ => none
  | .bin .or k a b, i => if kBeq k .u32 then (match tb cx a i, tb cx b i with
    | some x, some y => some (orE x y)
    | _, _ => none) else none
  | .bin .and k a (.int _ (.ofNat m)), i => if kBeq k .u32 && Nat.blt m 4294967296 then (match tb cx a i with
    | some x => some (if m.testBit i then x else .bool false)
    | none => none) else none
  | .shf .shl k (.int _ (.ofNat 1)) (.conv k' r), i => if kBeq k .u32 && kBeq k' .u64 && decide (cx.so r = .int .i64) then some (.cmp .eql r (.int .i64 (Int.ofNat i))) else none
  | .shf .shl k (.int _ (.ofNat 1)) r, i => if kBeq k .u32 then some (.ite (.cmp .lss r (.int .i64 0)) (.bool (Nat.beq i 0)) (.cmp .eql r (.int .i64 (Int.ofNat i)))) else none
  | _, _ => none

/-! ### Strict terms: parts, and the term made of them -/
def E.parts : E → List E
  | .bin _ _ a b | .shf _ _ a b | .cmp _ a b | .beq a b | .seq a b | .byte a b => [a, b]
  | .not a | .conv _ a | .len a => [a]
  | .cut a b c => [a, b, c]
  | .idx i l => i :: argsL l
  | .tup l => argsL l
  | .el g i _ _ _ => [g, i]
  | .app _ _ l => argsL l
  | .var _ | .int _ _ | .bool _ | .val _ | .nil | .cons _ _ | .ite _ _ _ => []
def mkLenV : E → E
  | .val (.string s) => if Nat.ble s.size 4611686018427387904 then .int .i64 (Int.ofNat s.size) else .len (.val (.string s))
  | a => .len a
def mkIdx (i : E) (es : List E) : E :=
  match i with
  | .int k n => match n with
    | .ofNat m => match es[m]? with
      | some e => e
      | none => .idx (.int k n) (toL es)
    | _ => .idx (.int k n) (toL es)
  | i => .idx i (toL es)
def mkEl (cx : Cx) (g i : E) (sz off : Nat) (s : So) : E :=
  match g, i with
  | .tup l, .int _ n => match n with
    | .ofNat m => match (argsL l)[m * sz + off]? with
      | some e => if decide (cx.so e = s) then e else .el g i sz off s
      | none => .el g i sz off s
    | _ => .el g i sz off s
  | g, i => .el g i sz off s
def mkBit (cx : Cx) (a b : E) : E :=
  match a, b with
  | .bin .rem k (.shf .shr k' w (.int _ (.ofNat i))) (.int _ (.ofNat 2)), .int _ (.ofNat 1) => if kBeq k .u32 && kBeq k' .u32 && Nat.blt i 32 then (match tb cx w i with
    | some e => e
    | none => mkCmp .eql a b) else mkCmp .eql a b
  | a, b => mkCmp .eql a b
def E.build (cx : Cx) : E → List E → E
  | .bin o k _ _, [a, b] => mkBin o k a b
  | .shf o k _ _, [a, b] => mkShf o k a b
  | .cmp o _ _, [a, b] => match o with
    | .eql => mkBit cx a b
    | o => mkCmp o a b
  | .beq _ _, [a, b] => mkBeq a b
  | .seq _ _, [a, b] => mkSeq a b
  | .byte _ _, [a, b] => mkByte a b
  | .not _, [a] => mkNot a
  | .conv k _, [a] => mkConv k a
  | .len _, [a] => mkLenV a
  | .cut _ _ _, [a, b, c] => mkCut a b c
  | .idx _ _, i :: es => mkIdx i es
  | .tup _, es => .tup (toL es)
  | .el _ _ sz off s, [g, i] => mkEl cx g i sz off s
  | .app f j _, es => .app f j (toL es)
  | x, _ => x
def E.strict : E → Bool
  | .var _ | .ite _ _ _ => false
  | _ => true

section
variable {ρ ρ' : Nat → Value} {φ : Nat → List Value → List Value} {cx : Cx}
theorem argsL_toL (es : List E) : argsL (toL es) = es := by
  induction es with
  | nil => rfl
  | cons e es ih => simp only [toL, argsL, ih]
theorem mkLenV_den (a : E) : (mkLenV a).den ρ φ = .int .i64 (vlen (a.den ρ φ)) := by
  unfold mkLenV
  split
  · rename_i s
    split
    · rename_i h
      have h := Nat.le_of_ble_eq_true h
      simp only [E.den, vlen, if_pos h]
      rfl
    · rfl
  · rfl
theorem mkIdx_den (i : E) (es : List E) : (mkIdx i es).den ρ φ = (es.map (·.den ρ φ)).getD (vint (i.den ρ φ)).toNat ((es.map (·.den ρ φ)).headD undef) := by
  unfold mkIdx
  split
  · split
    · split
      · rename_i e he
        simp only [E.den, vint_int, List.getD_eq_getElem?_getD, List.getElem?_map]
        show _ = (Option.map (fun x => E.den ρ φ x) es[_]?).getD _
        simp only [Int.toNat_natCast, Int.ofNat_eq_natCast, he, Option.map_some, Option.getD_some]
      · simp only [E.den, toL_dens]
    · simp only [E.den, toL_dens]
  · simp only [E.den, toL_dens]
theorem mkEl_den (F : Fits cx.Γ cx.S ρ φ) (g i : E) (sz off : Nat) (s : So) : (mkEl cx g i sz off s).den ρ φ = coe s ((vtup (g.den ρ φ)).getD ((vint (i.den ρ φ)).toNat * sz + off) undef) := by
  unfold mkEl
  split
  · split
    · split
      · rename_i e he
        split
        · rename_i hs
          have hs := of_decide_eq_true hs
          have h1 := E.so_has F e
          rw [show e.so cx.Γ cx.S = s from hs] at h1
          simp only [E.den, vtup, vint_int, argsL_dens, List.getD_eq_getElem?_getD, List.getElem?_map]
          simp only [Int.toNat_natCast, Int.ofNat_eq_natCast, he, Option.map_some, Option.getD_some]
          exact (coe_id h1).symm
        · rfl
      · rfl
    · rfl
  · rfl

theorem two_pow_mod (n i : Nat) (hi : i < 32) : (2 ^ n % 4294967296).testBit i = (n == i) := by
  rw [show (4294967296 : Nat) = 2 ^ 32 by decide, Nat.testBit_mod_two_pow, Nat.testBit_two_pow]
  simp only [hi, decide_true, Bool.true_and]
  rw [Bool.eq_iff_iff]
  simp
theorem orE_den {x y : E} {a b : Bool} (hx : x.den ρ φ = .bool a) (hy : y.den ρ φ = .bool b) : (orE x y).den ρ φ = .bool (a || b) := by
  unfold orE
  split
  · simp only [E.den, Value.bool.injEq] at hx
    subst hx
    simp [E.den]
  · simp only [E.den, Value.bool.injEq] at hx
    subst hx
    simp [hy]
  · split
    · simp only [E.den, Value.bool.injEq] at hy
      subst hy
      simp [hx]
    · simp only [E.den, hx, vbool_bool, hy]
      cases a <;> simp
theorem wraps32 (n : Int) (h₀ : 0 ≤ n) (h₁ : n < 2 ^ 32) : IntKind.u32.wrap n = n := by
  have : IntKind.u32.wrap n = n % 4294967296 := by simp [IntKind.wrap, IntKind.bits, IntKind.signed]
  omega
theorem shl_bit {v i : Nat} (hi : i < 32) : (2 ^ (min v 32) % 4294967296).testBit i = (v == i) := by
  rw [two_pow_mod _ _ hi]
  rw [Bool.eq_iff_iff]
  simp
  omega
theorem shl_val (v : Int) : IntKind.u32.wrap (1 * 2 ^ (min v.toNat IntKind.u32.bits)) = Int.ofNat (2 ^ (min v.toNat 32) % 4294967296) := by
  have hw : ∀ n : Int, IntKind.u32.wrap n = n % 4294967296 := by
    intro n
    simp [IntKind.wrap, IntKind.bits, IntKind.signed]
  rw [hw, show IntKind.u32.bits = 32 from rfl]
  simp
theorem tb_den (F : Fits cx.Γ cx.S ρ φ) {i : Nat} (hi : i < 32) : ∀ {e x : E}, tb cx e i = some x → ∃ m : Nat, m < 4294967296 ∧ vint (e.den ρ φ) = Int.ofNat m ∧ x.den ρ φ = .bool (m.testBit i) := by
  intro e
  induction e with
  | int k n =>
    intro x h
    simp only [tb] at h
    split at h
    · rename_i m
      split at h
      · rename_i hm
        simp only [Option.some.injEq] at h
        subst h
        simp only [Nat.blt] at hm
        exact ⟨m, Nat.lt_of_succ_le (Nat.le_of_ble_eq_true hm), rfl, rfl⟩
      · exact absurd h (by simp)
    · exact absurd h (by simp)
  | bin o k a b iha ihb =>
    intro x h
    unfold tb at h
    split at h
    · rename_i heq; cases heq
    · rename_i k0 a0 b0 heq
      cases heq
      split at h
      · rename_i hk
        have hk := kBeq_eq hk
        subst hk
        split at h
        · rename_i xa xb ha hb
          simp only [Option.some.injEq] at h
          subst h
          obtain ⟨m, hm1, hm2, hm3⟩ := iha ha
          obtain ⟨n, hn1, hn2, hn3⟩ := ihb hb
          have := (bits_nat .u32 32 (by decide) wraps32 m n (by simpa using hm1) (by simpa using hn1)).2
          refine ⟨m ||| n, ?_, ?_, ?_⟩
          · exact Nat.or_lt_two_pow (n := 32) hm1 hn1
          · simp only [E.den, vint_int, ibin, hm2, hn2]
            exact this
          · rw [orE_den hm3 hn3, Nat.testBit_or]
        · exact absurd h (by simp)
      · exact absurd h (by simp)
    · rename_i k0 a0 kk n heq
      cases heq
      split at h
      · rename_i hc
        rw [Bool.and_eq_true] at hc
        have hk := kBeq_eq hc.1
        subst hk
        have hn1 : n < 4294967296 := by
          have := hc.2
          simp only [Nat.blt] at this
          exact Nat.lt_of_succ_le (Nat.le_of_ble_eq_true this)
        split at h
        · rename_i xa ha
          simp only [Option.some.injEq] at h
          subst h
          obtain ⟨m, hm1, hm2, hm3⟩ := iha ha
          have := (bits_nat .u32 32 (by decide) wraps32 m n (by simpa using hm1) (by simpa using hn1)).1
          refine ⟨m &&& n, Nat.lt_of_le_of_lt Nat.and_le_left hm1, ?_, ?_⟩
          · simp only [E.den, vint_int, ibin, hm2]
            exact this
          · rw [Nat.testBit_and]
            split
            · rename_i hq
              simp [hm3, hq]
            · rename_i hq
              simp [E.den, hq]
        · exact absurd h (by simp)
      · exact absurd h (by simp)
    all_goals first | (rename_i heq; cases heq; done) | (simp at h; done)
  | shf o k a b iha ihb =>
    intro x h
    unfold tb at h
    split at h
    · rename_i heq; cases heq
    · rename_i heq; cases heq
    · rename_i heq; cases heq
    · rename_i kk k' r heq
      cases heq
      split at h
      · rename_i hc
        simp only [Bool.and_eq_true] at hc
        have hk := kBeq_eq hc.1.1
        have hk' := kBeq_eq hc.1.2
        subst hk hk'
        simp only [Option.some.injEq] at h
        subst h
        obtain ⟨v, hv, hv1, hv2⟩ := (show (So.int .i64).has (r.den ρ φ) from by
          have := E.so_has F r
          rwa [show r.so cx.Γ cx.S = _ from of_decide_eq_true hc.2] at this)
        have wu : IntKind.u64.wrap v = v % 18446744073709551616 := by simp [IntKind.wrap, IntKind.bits, IntKind.signed]
        simp only [lowOf, highOf] at hv1 hv2
        refine ⟨2 ^ (min (v % 18446744073709551616).toNat 32) % 4294967296, Nat.mod_lt _ (by decide), ?_, ?_⟩
        · simp only [E.den, vint_int, ishf, hv, wu]
          exact shl_val _
        · rw [shl_bit hi]
          simp only [E.den, icmp, vint_int, hv]
          congr 1
          rw [Bool.eq_iff_iff]
          simp
          omega
      · exact absurd h (by simp)
    · rename_i kk r hne heq
      cases heq
      split at h
      · rename_i hk
        have hk := kBeq_eq hk
        subst hk
        simp only [Option.some.injEq] at h
        subst h
        generalize hv : vint (b.den ρ φ) = v
        refine ⟨2 ^ (min v.toNat 32) % 4294967296, Nat.mod_lt _ (by decide), ?_, ?_⟩
        · simp only [E.den, vint_int, ishf, hv]
          exact shl_val _
        · rw [shl_bit hi]
          simp only [E.den, icmp, vint_int, vbool_bool, hv]
          by_cases h0 : v < 0
          · simp only [h0, decide_true, if_true]
            congr 1
            rw [Bool.eq_iff_iff]
            have : v.toNat = 0 := by omega
            rw [this]
            simp [Nat.beq_eq]
            omega
          · simp only [h0, decide_false, Bool.false_eq_true, if_false]
            congr 1
            rw [Bool.eq_iff_iff]
            simp
            omega
      · exact absurd h (by simp)
    · simp at h
  | _ => intro x h; exact absurd h (by simp [tb])
theorem mkBit_den (F : Fits cx.Γ cx.S ρ φ) (a b : E) : (mkBit cx a b).den ρ φ = .bool (icmp .eql (vint (a.den ρ φ)) (vint (b.den ρ φ))) := by
  unfold mkBit
  split
  · rename_i k k' w _ i _ _
    split
    · rename_i hc
      simp only [Bool.and_eq_true] at hc
      obtain ⟨⟨h1, h2⟩, h3⟩ := hc
      have h1 := kBeq_eq h1
      have h2 := kBeq_eq h2
      have h3 : i < 32 := by
        simp only [Nat.blt] at h3
        exact Nat.lt_of_succ_le (Nat.le_of_ble_eq_true h3)
      subst h1 h2
      split
      · rename_i e he
        obtain ⟨m, hm1, hm2, hm3⟩ := tb_den F h3 he
        rw [hm3]
        simp only [E.den, vint_int, ibin, ishf, hm2, icmp]
        congr 1
        have hmin : min (Int.ofNat i).toNat IntKind.u32.bits = i := by
          exact Nat.min_eq_left (Nat.le_of_lt h3)
        rw [hmin, Int.fdiv_eq_ediv_of_nonneg _ (Int.le_of_lt (Int.pow_pos (by decide)))]
        rw [show (Int.ofNat m / 2 ^ i : Int) = Int.ofNat (m / 2 ^ i) by simp]
        rw [show (Int.ofNat (m / 2 ^ i)).tmod (Int.ofNat 2) = Int.ofNat (m / 2 ^ i % 2) from rfl]
        rw [Nat.testBit_eq_decide_div_mod_eq]
        rcases Nat.mod_two_eq_zero_or_one (m / 2 ^ i) with hq | hq <;> rw [hq] <;> rfl
      · exact mkCmp_den ρ φ .eql _ _
    · exact mkCmp_den ρ φ .eql _ _
  · exact mkCmp_den ρ φ .eql _ _
theorem map2 {f g : E → Value} {qs : List E} {a b : E} (h : qs.map f = [a, b].map g) : ∃ x y, qs = [x, y] ∧ f x = g a ∧ f y = g b := by
  match qs, h with
  | [x, y], h =>
    simp only [List.map_cons, List.map_nil, List.cons.injEq, and_true] at h
    exact ⟨x, y, rfl, h.1, h.2⟩
  | [], h => simp at h
  | [_], h => simp at h
  | _ :: _ :: _ :: _, h => simp at h
theorem map1 {f g : E → Value} {qs : List E} {a : E} (h : qs.map f = [a].map g) : ∃ x, qs = [x] ∧ f x = g a := by
  match qs, h with
  | [x], h =>
    simp only [List.map_cons, List.map_nil, List.cons.injEq, and_true] at h
    exact ⟨x, rfl, h⟩
  | [], h => simp at h
  | _ :: _ :: _, h => simp at h
theorem build_den (F : Fits cx.Γ cx.S ρ φ) {x : E} (hs : x.strict = true) {qs : List E} (h : qs.map (·.den ρ φ) = x.parts.map (·.den ρ' φ)) : (x.build cx qs).den ρ φ = x.den ρ' φ := by
  cases x with
  | var i => simp [E.strict] at hs
  | ite c a b => simp [E.strict] at hs
  | int k n => rfl
  | bool b => rfl
  | val v => rfl
  | nil => rfl
  | cons a b => rfl
  | bin o k a b =>
    obtain ⟨x, y, rfl, h1, h2⟩ := map2 h
    simp only [E.build, mkBin_den, E.den, h1, h2]
  | shf o k a b =>
    obtain ⟨x, y, rfl, h1, h2⟩ := map2 h
    simp only [E.build, mkShf_den, E.den, h1, h2]
  | cmp o a b =>
    obtain ⟨x, y, rfl, h1, h2⟩ := map2 h
    cases o <;> simp only [E.build, mkBit_den F, mkCmp_den, E.den, h1, h2]
  | beq a b =>
    obtain ⟨x, y, rfl, h1, h2⟩ := map2 h
    simp only [E.build, mkBeq_den, E.den, h1, h2]
  | seq a b =>
    obtain ⟨x, y, rfl, h1, h2⟩ := map2 h
    simp only [E.build, mkSeq_den, E.den, h1, h2]
  | byte a b =>
    obtain ⟨x, y, rfl, h1, h2⟩ := map2 h
    simp only [E.build, mkByte_den, E.den, h1, h2]
  | not a =>
    obtain ⟨x, rfl, h1⟩ := map1 h
    simp only [E.build, mkNot_den, E.den, h1]
  | conv k a =>
    obtain ⟨x, rfl, h1⟩ := map1 h
    simp only [E.build, mkConv_den, E.den, h1]
  | len a =>
    obtain ⟨x, rfl, h1⟩ := map1 h
    simp only [E.build, mkLenV_den, E.den, h1]
  | cut a b c =>
    match qs, h with
    | [x, y, z], h =>
      simp only [E.parts, List.map_cons, List.map_nil, List.cons.injEq, and_true] at h
      simp only [E.build, mkCut_den, E.den, h.1, h.2.1, h.2.2]
    | [], h => simp [E.parts] at h
    | [_], h => simp [E.parts] at h
    | [_, _], h => simp [E.parts] at h
    | _ :: _ :: _ :: _ :: _, h => simp [E.parts] at h
  | idx i l =>
    match qs, h with
    | y :: ys, h =>
      simp only [E.parts, List.map_cons, List.cons.injEq] at h
      simp only [E.build, mkIdx_den, E.den, argsL_dens, h.1, h.2]
    | [], h => simp [E.parts] at h
  | tup l =>
    simp only [E.parts] at h
    simp only [E.build, E.den, toL_dens, h]
    rw [argsL_dens]
  | el g i sz off s =>
    obtain ⟨x, y, rfl, h1, h2⟩ := map2 h
    simp only [E.build, mkEl_den F, E.den, h1, h2]
  | app f j l =>
    simp only [E.parts] at h
    simp only [E.build, E.den, toL_dens, h]
    rw [argsL_dens]
end

/-! ### All ways -/
/-- A bound that is not met, told before the bound. -/
def tight (fs : Facts) : E → Bool → Facts
  | .cmp .lss x (.int k n), true => (match fs.look (.cmp .eql x (.int k (n - 1))) with
    | some false => [(.cmp .lss x (.int k (n - 1)), true)]
    | _ => [])
  | .cmp .lss (.int k n) x, true => (match fs.look (.cmp .eql x (.int k (n + 1))) with
    | some false => [(.cmp .lss (.int k (n + 1)) x, true)]
    | _ => [])
  | .cmp .lss x (.int k n), false => (match fs.look (.cmp .eql x (.int k n)) with
    | some false => [(.cmp .lss (.int k n) x, true)]
    | _ => [])
  | .cmp .lss (.int k n) x, false => (match fs.look (.cmp .eql x (.int k n)) with
    | some false => [(.cmp .lss x (.int k n), true)]
    | _ => [])
  | _, _ => []
theorem tight_hold {ρ : Nat → Value} {φ : Nat → List Value → List Value} {fs : Facts} (H : fs.hold ρ φ) {c : E} {b : Bool} (h : c.den ρ φ = .bool b) : Facts.hold ρ φ (tight fs c b) := by
  intro p hp
  unfold tight at hp
  split at hp
  · split at hp
    · rename_i hl
      have h1 := Facts.look_sound ρ φ H hl
      simp only [List.mem_singleton] at hp
      subst hp
      simp only [E.den, icmp, vint_int, Value.bool.injEq] at h h1
      have h1 := ne_of_beq_false h1
      first | have h := of_decide_eq_true h | have h := of_decide_eq_false h
      simp only [E.den, icmp, vint_int]
      exact congrArg Value.bool (decide_eq_true (by omega))
    · simp at hp
  · split at hp
    · rename_i hl
      have h1 := Facts.look_sound ρ φ H hl
      simp only [List.mem_singleton] at hp
      subst hp
      simp only [E.den, icmp, vint_int, Value.bool.injEq] at h h1
      have h1 := ne_of_beq_false h1
      first | have h := of_decide_eq_true h | have h := of_decide_eq_false h
      simp only [E.den, icmp, vint_int]
      exact congrArg Value.bool (decide_eq_true (by omega))
    · simp at hp
  · split at hp
    · rename_i hl
      have h1 := Facts.look_sound ρ φ H hl
      simp only [List.mem_singleton] at hp
      subst hp
      simp only [E.den, icmp, vint_int, Value.bool.injEq] at h h1
      have h1 := ne_of_beq_false h1
      first | have h := of_decide_eq_true h | have h := of_decide_eq_false h
      simp only [E.den, icmp, vint_int]
      exact congrArg Value.bool (decide_eq_true (by omega))
    · simp at hp
  · split at hp
    · rename_i hl
      have h1 := Facts.look_sound ρ φ H hl
      simp only [List.mem_singleton] at hp
      subst hp
      simp only [E.den, icmp, vint_int, Value.bool.injEq] at h h1
      have h1 := ne_of_beq_false h1
      first | have h := of_decide_eq_true h | have h := of_decide_eq_false h
      simp only [E.den, icmp, vint_int]
      exact congrArg Value.bool (decide_eq_true (by omega))
    · simp at hp
  · simp at hp
def addW (cx : Cx) (c : E) (b : Bool) (fs : Facts) : Facts := tight fs c b ++ addF cx c b fs
theorem addW_hold {ρ : Nat → Value} {φ : Nat → List Value → List Value} {cx : Cx} (F : Fits cx.Γ cx.S ρ φ) (C : CtSound cx φ) (c : E) (b : Bool) {fs : Facts} (H : fs.hold ρ φ) (h : c.den ρ φ = .bool b) : (addW cx c b fs).hold ρ φ := by
  intro p hp
  rcases List.mem_append.1 hp with hp | hp
  · exact tight_hold H h p hp
  · exact addF_hold F C c b H h p hp
/-- A condition, decided or split. -/
def force (cx : Cx) : E → Facts → (Bool → Facts → Bool) → Bool
  | .bool b, fs, k => k b fs
  | .not a, fs, k => if decide (cx.so a = .bool) then force cx a fs fun b fs => k (!b) fs else false
  | .beq a b, fs, k => match dec cx fs (.beq a b) with
    | some x => k x fs
    | none => if decide (cx.so a = .bool) && decide (cx.so b = .bool) then force cx a fs fun x fs => force cx b fs fun y fs => k (x == y) fs else false
  | .ite c a b, fs, k => if decide (cx.so c = .bool) && decide (cx.so a = .bool) && decide (cx.so b = .bool) then force cx c fs fun x fs => if x then force cx a fs k else force cx b fs k else false
  | e, fs, k => match dec cx fs e with
    | some b => k b fs
    | none => if decide (cx.so e = .bool) then k true (addW cx e true fs) && k false (addW cx e false fs) else false
section
variable {ρ : Nat → Value} {φ : Nat → List Value → List Value} {cx : Cx} (F : Fits cx.Γ cx.S ρ φ) (C : CtSound cx φ)
 include F C
theorem force_sound : ∀ {e : E} {fs : Facts} {k : Bool → Facts → Bool}, fs.hold ρ φ → force cx e fs k = true → ∃ fs', Facts.hold ρ φ fs' ∧ k (vbool (e.den ρ φ)) fs' = true := by
  intro e
  have gen : ∀ (e : E) (fs : Facts) (k : Bool → Facts → Bool), fs.hold ρ φ → (match dec cx fs e with
    | some b => k b fs
    | none => if decide (cx.so e = .bool) then k true (addW cx e true fs) && k false (addW cx e false fs) else false) = true → ∃ fs', Facts.hold ρ φ fs' ∧ k (vbool (e.den ρ φ)) fs' = true := by
    intro e fs k hf h
    split at h
    · rename_i b hd
      exact ⟨fs, hf, by rw [dec_sound F hf hd]; exact h⟩
    · split at h
      · rename_i hb
        have hb := so_bool0 F (of_decide_eq_true hb)
        rw [Bool.and_eq_true] at h
        cases hv : vbool (e.den ρ φ) with
        | true => exact ⟨_, addW_hold F C e true hf (by rw [hb, hv]), h.1⟩
        | false => exact ⟨_, addW_hold F C e false hf (by rw [hb, hv]), h.2⟩
      · exact absurd h (by simp)
  induction e with
  | bool b => intro fs k hf h; exact ⟨fs, hf, h⟩
  | not a ih =>
    intro fs k hf h
    simp only [force] at h
    split at h
    · obtain ⟨fs', h1, h2⟩ := ih hf h
      exact ⟨fs', h1, h2⟩
    · exact absurd h (by simp)
  | beq a b iha ihb =>
    intro fs k hf h
    simp only [force] at h
    split at h
    · rename_i x hd
      exact ⟨fs, hf, by rw [dec_sound F hf hd]; exact h⟩
    · split at h
      · obtain ⟨f1, h1, h2⟩ := iha hf h
        obtain ⟨f2, h3, h4⟩ := ihb h1 h2
        exact ⟨f2, h3, h4⟩
      · exact absurd h (by simp)
  | ite c a b ihc iha ihb =>
    intro fs k hf h
    simp only [force] at h
    split at h
    · obtain ⟨f1, h1, h2⟩ := ihc hf h
      simp only [E.den]
      cases hv : vbool (c.den ρ φ) with
      | true =>
        simp only [hv, if_true] at h2 ⊢
        exact iha h1 h2
      | false =>
        simp only [hv, Bool.false_eq_true, if_false] at h2 ⊢
        exact ihb h1 h2
    · exact absurd h (by simp)
  | _ => intro fs k hf h; exact gen _ fs k hf h
end

inductive Task where
  | e (x : E) (as : List E)
  | es (xs : List E) (as : List E)
  | t (T : VT) (as : List E) (j : Nat)
  | l (ss : List So) (T0 : LT) (m : Nat) (T : LT) (as : List E) (j : Nat)
def litN : E → Option Nat
  | .int _ n => match n with
    | .ofNat m => some m
    | _ => none
  | _ => none
theorem litN_den {e : E} {m : Nat} (h : litN e = some m) (ρ : Nat → Value) (φ : Nat → List Value → List Value) : (vint (e.den ρ φ)).toNat = m := by
  unfold litN at h
  split at h
  · split at h
    · simp only [Option.some.injEq] at h
      subst h
      rfl
    · exact absurd h (by simp)
  · exact absurd h (by simp)
/-- What is seen at once. -/
def fastA (as : List E) : E → Option E
  | .var i => some (atL as i)
  | .int k n => some (.int k n)
  | _ => none
def fastE (as : List E) : E → Option E
  | .var i => some (atL as i)
  | .int k n => some (.int k n)
  | .bool b => some (.bool b)
  | .val v => some (.val v)
  | .cmp .eql a b => match fastA as a, fastA as b with
    | some x, some y => some (mkEql x y)
    | _, _ => none
  | .cmp .lss a b => match fastA as a, fastA as b with
    | some x, some y => some (mkLss x y)
    | _, _ => none
  | _ => none
abbrev KK := List E → Facts → Bool
abbrev Rec := Task → Facts → KK → Bool
def brK (cx : Cx) (f : Bool → Facts → Bool) : KK := fun r fs => match r with
  | [c] => force cx c fs f
  | _ => false
def twoK (rec : Rec) (a b : Task) (k : KK) : Bool → Facts → Bool := fun x fs => match x with
  | true => rec a fs k
  | false => rec b fs k
def evIte (cx : Cx) (rec : Rec) (c a b : E) (as : List E) (fs : Facts) (k : KK) : Bool := rec (.e c as) fs (brK cx (twoK rec (.e a as) (.e b as) k))
def idxK2 (i' : E) (k : KK) : KK := fun es fs => k [mkIdx i' es] fs
def idxK (rec : Rec) (l : E) (as : List E) (k : KK) : KK := fun r fs => match r with
  | [i'] => match litN i' with
    | some m => match (argsL l)[m]? with
      | some x => rec (.e x as) fs k
      | none => false
    | none => rec (.es (argsL l) as) fs (idxK2 i' k)
  | _ => false
def evIdx (rec : Rec) (i l : E) (as : List E) (fs : Facts) (k : KK) : Bool := rec (.e i as) fs (idxK rec l as k)
def lpK (rec : Rec) (s j : Nat) (ss : List So) (T : LT) (r : List E) (k : KK) : KK := fun q fs => match q with
  | [.int _ z] => rec (.l ss T (z + 1).toNat T r j) fs k
  | _ => k [.app s j (toL r)] fs
def appK (cx : Cx) (D : List (Nat × Def)) (rec : Rec) (s j : Nat) (k : KK) : KK := fun r fs => match lookA s D with
  | some (.fn ss T) => if soOk cx ss r then rec (.t T r j) fs k else k [.app s j (toL r)] fs
  | some (.lp ss mu T _) => if soOk cx ss r then rec (.e mu r) fs (lpK rec s j ss T r k) else k [.app s j (toL r)] fs
  | none => k [.app s j (toL r)] fs
def evApp (cx : Cx) (D : List (Nat × Def)) (rec : Rec) (s j : Nat) (l : E) (as : List E) (fs : Facts) (k : KK) : Bool := rec (.es (argsL l) as) fs (appK cx D rec s j k)
def strK (cx : Cx) (x : E) (k : KK) : KK := fun r fs => k [x.build cx r] fs
def evStrict (cx : Cx) (rec : Rec) (x : E) (as : List E) (fs : Facts) (k : KK) : Bool := rec (.es x.parts as) fs (strK cx x k)
def evE2 (cx : Cx) (D : List (Nat × Def)) (rec : Rec) (x : E) (as : List E) (fs : Facts) (k : KK) : Bool :=
  match x with
  | .ite c a b => evIte cx rec c a b as fs k
  | .idx i l => evIdx rec i l as fs k
  | .app s j l => evApp cx D rec s j l as fs k
  | x => evStrict cx rec x as fs k
def evE (cx : Cx) (D : List (Nat × Def)) (rec : Rec) (x : E) (as : List E) (fs : Facts) (k : KK) : Bool :=
  match fastE as x with
  | some y => k [y] fs
  | none => evE2 cx D rec x as fs k
def consK2 (v : E) (k : KK) : KK := fun vs fs => k (v :: vs) fs
def consK (rec : Rec) (xs as : List E) (k : KK) : KK := fun r fs => match r with
  | [v] => rec (.es xs as) fs (consK2 v k)
  | _ => false
def evEs (rec : Rec) (xs as : List E) (fs : Facts) (k : KK) : Bool :=
  match xs with
  | [] => k [] fs
  | x :: xs => match fastE as x with
    | some y => rec (.es xs as) fs (consK2 y k)
    | none => rec (.e x as) fs (consK rec xs as k)
def evAt (rec : Rec) (es as : List E) (j : Nat) (fs : Facts) (k : KK) : Bool :=
  match es[j]? with
  | some x => rec (.e x as) fs k
  | none => false
def evV (cx : Cx) (rec : Rec) (T : VT) (as : List E) (j : Nat) (fs : Facts) (k : KK) : Bool :=
  match T with
  | .leaf es => evAt rec es as j fs k
  | .ite c a b => rec (.e c as) fs (brK cx (twoK rec (.t a as j) (.t b as j) k))
  | .stuck => false
def nextK (cx : Cx) (rec : Rec) (ss : List So) (T0 : LT) (m j : Nat) (k : KK) : KK := fun r fs => if soOk cx ss r then rec (.l ss T0 m T0 r j) fs k else false
def evL (cx : Cx) (rec : Rec) (ss : List So) (T0 : LT) (m : Nat) (T : LT) (as : List E) (j : Nat) (fs : Facts) (k : KK) : Bool :=
  match T with
  | .out es => evAt rec es as j fs k
  | .next es => match m with
    | 0 => false
    | m + 1 => rec (.es es as) fs (nextK cx rec ss T0 m j k)
  | .ite c a b => rec (.e c as) fs (brK cx (twoK rec (.l ss T0 m a as j) (.l ss T0 m b as j) k))
def evStep (cx : Cx) (D : List (Nat × Def)) (rec : Rec) (t : Task) (fs : Facts) (k : KK) : Bool :=
  match t with
  | .e x as => evE cx D rec x as fs k
  | .es xs as => evEs rec xs as fs k
  | .t T as j => evV cx rec T as j fs k
  | .l ss T0 m T as j => evL cx rec ss T0 m T as j fs k
def evN (cx : Cx) (D : List (Nat × Def)) (n : Nat) : Rec :=
  Nat.rec (motive := fun _ => Rec) (fun _ _ _ => false) (fun _ rec => evStep cx D rec) n
def ev (cx : Cx) (D : List (Nat × Def)) (n : Nat) (t : Task) (fs : Facts) (k : KK) : Bool := evN cx D n t fs k
theorem ev_zero (cx : Cx) (D : List (Nat × Def)) (t : Task) (fs : Facts) (k : KK) : ev cx D 0 t fs k = false := rfl
theorem ev_succ (cx : Cx) (D : List (Nat × Def)) (n : Nat) (t : Task) (fs : Facts) (k : KK) : ev cx D (n + 1) t fs k = evStep cx D (ev cx D n) t fs k := rfl

def aft (ss : List So) (T0 : LT) (bad : List E) (φ : Nat → List Value → List Value) (m : Nat) : List Value ⊕ List Value → List Value
  | .inl fl => T0.itr ss bad φ m fl
  | .inr r => r
theorem itr_succ (ss : List So) (T0 : LT) (bad : List E) (φ : Nat → List Value → List Value) (m : Nat) (fl : List Value) : T0.itr ss bad φ (m + 1) fl = aft ss T0 bad φ m (T0.step (atS ss fl) φ) := by
  simp only [LT.itr]
  cases T0.step (atS ss fl) φ <;> rfl
section
variable (ρ : Nat → Value) (φ : Nat → List Value → List Value)
def asV (as : List E) : Nat → Value := fun i => (as.map (·.den ρ φ)).getD i undef
def Task.vals : Task → List Value → Prop
  | .e x as, vs => vs = [x.den (asV ρ φ as) φ]
  | .es xs as, vs => vs = xs.map (·.den (asV ρ φ as) φ)
  | .t T as j, vs => vs = [(T.vals (asV ρ φ as) φ).getD j undef]
  | .l ss T0 m T as j, vs => ∀ bad, vs = [(aft ss T0 bad φ m (T.step (asV ρ φ as) φ)).getD j undef]
end
theorem atL_asV {ρ : Nat → Value} {φ : Nat → List Value → List Value} (as : List E) (i : Nat) : (atL as i).den ρ φ = asV ρ φ as i := by
  unfold atL asV
  rw [List.getD_eq_getElem?_getD, List.getD_eq_getElem?_getD, List.getElem?_map]
  cases as[i]? <;> rfl
theorem fastA_den {ρ : Nat → Value} {φ : Nat → List Value → List Value} {as : List E} {x y : E} (h : fastA as x = some y) : y.den ρ φ = x.den (asV ρ φ as) φ := by
  unfold fastA at h
  split at h
  · simp only [Option.some.injEq] at h
    subst h
    exact atL_asV as _
  · simp only [Option.some.injEq] at h
    subst h
    rfl
  · exact absurd h (by simp)
theorem fastE_den {ρ : Nat → Value} {φ : Nat → List Value → List Value} {as : List E} {x y : E} (h : fastE as x = some y) : y.den ρ φ = x.den (asV ρ φ as) φ := by
  unfold fastE at h
  split at h
  · simp only [Option.some.injEq] at h
    subst h
    exact atL_asV as _
  · simp only [Option.some.injEq] at h
    subst h
    rfl
  · simp only [Option.some.injEq] at h
    subst h
    rfl
  · simp only [Option.some.injEq] at h
    subst h
    rfl
  · split at h
    · rename_i a b ha hb
      simp only [Option.some.injEq] at h
      subst h
      simp only [mkEql_den, E.den, icmp, fastA_den (ρ := ρ) (φ := φ) ha, fastA_den (ρ := ρ) (φ := φ) hb]
    · exact absurd h (by simp)
  · split at h
    · rename_i a b ha hb
      simp only [Option.some.injEq] at h
      subst h
      simp only [mkLss_den, E.den, icmp, fastA_den (ρ := ρ) (φ := φ) ha, fastA_den (ρ := ρ) (φ := φ) hb]
    · exact absurd h (by simp)
  · exact absurd h (by simp)
section
variable {ρ : Nat → Value} {φ : Nat → List Value → List Value} {cx : Cx} {D : List (Nat × Def)} (F : Fits cx.Γ cx.S ρ φ) (C : CtSound cx φ) (H : DS φ D)
 include F
theorem asV_at {ss : List So} {as : List E} (h : soOk cx ss as = true) : atS ss (as.map (·.den ρ φ)) = asV ρ φ as := by
  funext i
  unfold atS asV
  exact coe_id (all2_get (soOk_has F h) i)
 include C
theorem two_sound {rec : Rec} (ih : ∀ T fs k, Facts.hold ρ φ fs → rec T fs k = true → ∃ es fs', k es fs' = true ∧ Facts.hold ρ φ fs' ∧ Task.vals ρ φ T (es.map (·.den ρ φ))) {c : E} {as : List E} {a b : Task} {fs : Facts} {k : KK} (hf : fs.hold ρ φ) (h : rec (.e c as) fs (brK cx (twoK rec a b k)) = true) :
    ∃ es fs', k es fs' = true ∧ Facts.hold ρ φ fs' ∧ (if vbool (c.den (asV ρ φ as) φ) then a else b).vals ρ φ (es.map (·.den ρ φ)) := by
  obtain ⟨es, fs', h1, h2, h3⟩ := ih _ _ _ hf h
  unfold brK at h1
  split at h1
  · rename_i c'
    have h3 : c'.den ρ φ = c.den (asV ρ φ as) φ := by simpa [Task.vals] using h3
    obtain ⟨f2, h4, h5⟩ := force_sound F C h2 h1
    rw [h3] at h5
    unfold twoK at h5
    cases hv : vbool (c.den (asV ρ φ as) φ) with
    | true =>
      simp only [hv, if_true] at h5 ⊢
      exact ih _ _ _ h4 h5
    | false =>
      simp only [hv, Bool.false_eq_true, if_false] at h5 ⊢
      exact ih _ _ _ h4 h5
  · exact absurd h1 (by simp)
end
theorem at_sound {ρ : Nat → Value} {φ : Nat → List Value → List Value} {rec : Rec} (ih : ∀ T fs k, Facts.hold ρ φ fs → rec T fs k = true → ∃ es fs', k es fs' = true ∧ Facts.hold ρ φ fs' ∧ Task.vals ρ φ T (es.map (·.den ρ φ))) {es as : List E} {j : Nat} {fs : Facts} {k : KK} (hf : fs.hold ρ φ) (h : evAt rec es as j fs k = true) :
    ∃ vs fs', k vs fs' = true ∧ Facts.hold ρ φ fs' ∧ vs.map (·.den ρ φ) = [(es.map (·.den (asV ρ φ as) φ)).getD j undef] := by
  unfold evAt at h
  split at h
  · rename_i x hx
    obtain ⟨vs, f1, h1, h2, h3⟩ := ih (.e x as) _ _ hf h
    refine ⟨vs, f1, h1, h2, ?_⟩
    have h3 : vs.map (·.den ρ φ) = [x.den (asV ρ φ as) φ] := h3
    rw [h3, List.getD_eq_getElem?_getD, List.getElem?_map, hx]
    rfl
  · exact absurd h (by simp)
section
variable {ρ : Nat → Value} {φ : Nat → List Value → List Value} {cx : Cx} {D : List (Nat × Def)} (F : Fits cx.Γ cx.S ρ φ) (C : CtSound cx φ) (H : DS φ D)
 include F C H
theorem step_sound {rec : Rec} (ih : ∀ T fs k, Facts.hold ρ φ fs → rec T fs k = true → ∃ es fs', k es fs' = true ∧ Facts.hold ρ φ fs' ∧ Task.vals ρ φ T (es.map (·.den ρ φ))) : ∀ (T : Task) (fs : Facts) (k : KK), fs.hold ρ φ → evStep cx D rec T fs k = true → ∃ es fs', k es fs' = true ∧ Facts.hold ρ φ fs' ∧ T.vals ρ φ (es.map (·.den ρ φ))
  | .e x as, fs, k, hf, h => by
    simp only [evStep, evE] at h
    split at h
    · rename_i y hy
      refine ⟨_, fs, h, hf, ?_⟩
      simp only [Task.vals, List.map_cons, List.map_nil, List.cons.injEq, and_true]
      exact fastE_den hy
    rename_i hfast
    have strictCase : x.strict = true → evStrict cx rec x as fs k = true → ∃ es fs', k es fs' = true ∧ Facts.hold ρ φ fs' ∧ Task.vals ρ φ (.e x as) (es.map (·.den ρ φ)) := by
      intro hs h
      obtain ⟨es, fs', h1, h2, h3⟩ := ih _ _ _ hf h
      exact ⟨_, fs', h1, h2, by simp only [Task.vals, List.map_cons, List.map_nil, List.cons.injEq, and_true]; exact build_den F hs h3⟩
    cases x with
    | var i => simp [fastE] at hfast
    | ite c a b =>
      simp only [evE2, evIte] at h
      obtain ⟨es, fs', h1, h2, h3⟩ := two_sound F C ih hf h
      refine ⟨es, fs', h1, h2, ?_⟩
      simp only [Task.vals, E.den]
      cases hv : vbool (c.den (asV ρ φ as) φ) with
      | true => rw [hv] at h3; exact h3
      | false => rw [hv] at h3; exact h3
    | app s j l =>
      simp only [evE2, evApp] at h
      obtain ⟨r, fs', h1, h2, h3⟩ := ih _ _ _ hf h
      have h3 : r.map (·.den ρ φ) = l.dens (asV ρ φ as) φ := by rw [argsL_dens]; exact h3
      have keep : ∀ fs', Facts.hold ρ φ fs' → k [.app s j (toL r)] fs' = true → ∃ es fs', k es fs' = true ∧ Facts.hold ρ φ fs' ∧ Task.vals ρ φ (.e (.app s j l) as) (es.map (·.den ρ φ)) := by
        intro fs' h2 hk
        refine ⟨_, fs', hk, h2, ?_⟩
        simp only [Task.vals, List.map_cons, List.map_nil, E.den, toL_dens, h3]
      unfold appK at h1
      split at h1
      · rename_i ss T hl
        split at h1
        · rename_i hso
          obtain ⟨vs, f2, h4, h5, h6⟩ := ih _ _ _ h2 h1
          refine ⟨_, f2, h4, h5, ?_⟩
          have hd := H _ (lookA_mem hl) (r.map (·.den ρ φ))
          rw [asV_at F hso] at hd
          have h6 : vs.map (·.den ρ φ) = [(T.vals (asV ρ φ r) φ).getD j undef] := h6
          simp only [Task.vals, E.den, ← h3, hd, h6]
        · exact keep _ h2 h1
      · rename_i ss mu T bad hl
        split at h1
        · rename_i hso
          obtain ⟨q, f2, h4, h5, h6⟩ := ih _ _ _ h2 h1
          unfold lpK at h4
          split at h4
          · rename_i kk z
            obtain ⟨vs, f3, h7, h8, h9⟩ := ih _ _ _ h5 h4
            refine ⟨_, f3, h7, h8, ?_⟩
            have hd := H _ (lookA_mem hl) (r.map (·.den ρ φ))
            simp only [itr_succ, asV_at F hso] at hd
            have h6 : Value.int kk z = mu.den (asV ρ φ r) φ := by simpa [Task.vals, E.den] using h6
            rw [← h6, vint_int] at hd
            simp only [Task.vals, E.den, ← h3, hd]
            exact h9 bad
          · exact keep _ h5 h4
        · exact keep _ h2 h1
      · exact keep _ h2 h1
    | idx i l =>
      simp only [evE2, evIdx] at h
      obtain ⟨r, f1, h1, h2, h3⟩ := ih _ _ _ hf h
      unfold idxK at h1
      split at h1
      · rename_i i'
        have h3 : i'.den ρ φ = i.den (asV ρ φ as) φ := by simpa [Task.vals] using h3
        split at h1
        · rename_i m hm
          have hm := litN_den hm ρ φ
          split at h1
          · rename_i x hx
            obtain ⟨vs, f2, h4, h5, h6⟩ := ih _ _ _ h2 h1
            refine ⟨vs, f2, h4, h5, ?_⟩
            have h6 : vs.map (·.den ρ φ) = [x.den (asV ρ φ as) φ] := h6
            simp only [Task.vals, E.den, h6, argsL_dens, ← h3, hm, List.getD_eq_getElem?_getD, List.getElem?_map, hx]
            rfl
          · exact absurd h1 (by simp)
        · obtain ⟨es, f2, h4, h5, h6⟩ := ih _ _ _ h2 h1
          refine ⟨_, f2, h4, h5, ?_⟩
          have h6 : es.map (·.den ρ φ) = (argsL l).map (·.den (asV ρ φ as) φ) := h6
          simp only [Task.vals, List.map_cons, List.map_nil, mkIdx_den, E.den, argsL_dens, h3, h6]
      · exact absurd h1 (by simp)
    | _ => exact strictCase rfl h
  | .es xs as, fs, k, hf, h => by
    simp only [evStep] at h
    cases xs with
    | nil => exact ⟨[], fs, h, hf, rfl⟩
    | cons x xs =>
      simp only [evEs] at h
      split at h
      · rename_i y hy
        obtain ⟨vs, f2, h4, h5, h6⟩ := ih _ _ _ hf h
        refine ⟨_, f2, h4, h5, ?_⟩
        have h6 : vs.map (·.den ρ φ) = xs.map (·.den (asV ρ φ as) φ) := h6
        simp only [Task.vals, List.map_cons, fastE_den hy, h6]
      obtain ⟨r, f1, h1, h2, h3⟩ := ih _ _ _ hf h
      unfold consK at h1
      split at h1
      · rename_i v
        obtain ⟨vs, f2, h4, h5, h6⟩ := ih _ _ _ h2 h1
        have h3 : v.den ρ φ = x.den (asV ρ φ as) φ := by simpa [Task.vals] using h3
        refine ⟨_, f2, h4, h5, ?_⟩
        have h6 : vs.map (·.den ρ φ) = xs.map (·.den (asV ρ φ as) φ) := h6
        simp only [Task.vals, List.map_cons, h3, h6]
      · exact absurd h1 (by simp)
  | .t T as j, fs, k, hf, h => by
    simp only [evStep] at h
    cases T with
    | leaf es =>
      obtain ⟨vs, f1, h1, h2, h3⟩ := at_sound ih hf h
      exact ⟨vs, f1, h1, h2, h3⟩
    | ite c a b =>
      simp only [evV] at h
      obtain ⟨es, fs', h1, h2, h3⟩ := two_sound F C ih hf h
      refine ⟨es, fs', h1, h2, ?_⟩
      simp only [Task.vals, VT.vals]
      cases hv : vbool (c.den (asV ρ φ as) φ) with
      | true => rw [hv] at h3; exact h3
      | false => rw [hv] at h3; exact h3
    | stuck => simp [evV] at h
  | .l ss T0 m T as j, fs, k, hf, h => by
    simp only [evStep] at h
    cases T with
    | out es =>
      obtain ⟨vs, f1, h1, h2, h3⟩ := at_sound ih hf h
      exact ⟨vs, f1, h1, h2, fun _ => h3⟩
    | next es =>
      cases m with
      | zero => simp [evL] at h
      | succ m =>
        simp only [evL] at h
        obtain ⟨r, f1, h1, h2, h3⟩ := ih _ _ _ hf h
        unfold nextK at h1
        split at h1
        · rename_i hso
          obtain ⟨vs, f2, h4, h5, h6⟩ := ih _ _ _ h2 h1
          refine ⟨vs, f2, h4, h5, fun bad => ?_⟩
          have h3 : r.map (·.den ρ φ) = es.map (·.den (asV ρ φ as) φ) := h3
          simp only [LT.step, aft, itr_succ, ← h3, asV_at F hso]
          exact h6 bad
        · exact absurd h1 (by simp)
    | ite c a b =>
      simp only [evL] at h
      obtain ⟨es, fs', h1, h2, h3⟩ := two_sound F C ih hf h
      refine ⟨es, fs', h1, h2, fun bad => ?_⟩
      simp only [LT.step]
      cases hv : vbool (c.den (asV ρ φ as) φ) with
      | true => rw [hv] at h3; exact h3 bad
      | false => rw [hv] at h3; exact h3 bad
theorem ev_sound : ∀ (n : Nat) (T : Task) (fs : Facts) (k : KK), fs.hold ρ φ → ev cx D n T fs k = true → ∃ es fs', k es fs' = true ∧ Facts.hold ρ φ fs' ∧ T.vals ρ φ (es.map (·.den ρ φ))
  | 0, _, _, _, _, h => by rw [ev_zero] at h; exact absurd h (by simp)
  | n + 1, T, fs, k, hf, h => by
    rw [ev_succ] at h
    exact step_sound F C H (ev_sound n) T fs k hf h
/-- **A term that is true by all ways.** -/
def yes (cx : Cx) (r : List E) (fs : Facts) : Bool :=
  match r with
  | [e] => decide (cx.so e = .bool) && force cx e fs fun b _ => b
  | _ => false
theorem ev_true {n : Nat} {x : E} {as : List E} {fs : Facts} (hf : fs.hold ρ φ) (h : ev cx D n (.e x as) fs (yes cx) = true) : x.den (asV ρ φ as) φ = .bool true := by
  obtain ⟨es, fs', h1, h2, h3⟩ := ev_sound F C H n _ _ _ hf h
  unfold yes at h1
  split at h1
  · rename_i e
    rw [Bool.and_eq_true] at h1
    have hb := so_bool0 F (of_decide_eq_true h1.1)
    obtain ⟨f2, h4, h5⟩ := force_sound F C h2 h1.2
    have h3 : e.den ρ φ = x.den (asV ρ φ as) φ := by simpa [Task.vals] using h3
    rw [← h3, hb, h5]
  · exact absurd h1 (by simp)
end
end Go.SX

/- SX: cases of a variable; meanings by another term; a law's claim. -/
namespace Go.SX
open Go Go.RowKit

def varsE (n : Nat) : List E := (List.range n).map E.var
/-- Cases: some values of a variable, and the rest; those from one to another, and those outside. -/
inductive Sp where
  | l (v : Nat) (ns : List Int) | r (v lo n : Nat)
def Sp.v : Sp → Nat
  | .l v _ => v
  | .r v _ _ => v
def evS (cx : Cx) (D : List (Nat × Def)) (n : Nat) (x : E) : List Sp → List E → Facts → Bool
  | [], as, fs => ev cx D n (.e x as) fs (yes cx)
  | .l v ns :: r, as, fs => (ns.all fun m => evS cx D n x r (as.set v (.int .i64 m)) fs) && evS cx D n x r as ((ns.map fun m => (.cmp .eql (.var v) (.int .i64 m), false)) ++ fs)
  | .r v lo c :: r, as, fs => ((List.range c).all fun m => evS cx D n x r (as.set v (.int .i64 (Int.ofNat (lo + m)))) fs) &&
      evS cx D n x r as ((.cmp .lss (.var v) (.int .i64 (Int.ofNat lo)), true) :: fs) && evS cx D n x r as ((.cmp .lss (.var v) (.int .i64 (Int.ofNat (lo + c))), false) :: fs)
theorem asV_set {ρ : Nat → Value} {φ : Nat → List Value → List Value} {as : List E} {v : Nat} {m : Int} (hv : asV ρ φ as v = .int .i64 m) : asV ρ φ (as.set v (.int .i64 m)) = asV ρ φ as := by
  funext i
  unfold asV at *
  rw [List.getD_eq_getElem?_getD, List.getD_eq_getElem?_getD] at *
  simp only [List.getElem?_map, List.getElem?_set] at *
  by_cases hi : v = i
  · subst hi
    by_cases hl : v < as.length
    · simp only [if_true, if_pos hl, Option.map_some, Option.getD_some, E.den]
      exact hv.symm
    · simp only [if_true, if_neg hl]
      rw [List.getElem?_eq_none (by omega)]
  · simp only [if_neg hi]
section
variable {ρ : Nat → Value} {φ : Nat → List Value → List Value} {cx : Cx} {D : List (Nat × Def)} (F : Fits cx.Γ cx.S ρ φ) (C : CtSound cx φ) (H : DS φ D)
 include F C H
theorem evS_true {n : Nat} {x : E} : ∀ (sp : List Sp) (as : List E) (fs : Facts), (∀ p ∈ sp, cx.Γ.getD p.v .any = .int .i64) → (∀ p ∈ sp, asV ρ φ as p.v = ρ p.v) → fs.hold ρ φ → evS cx D n x sp as fs = true → x.den (asV ρ φ as) φ = .bool true
  | [], as, fs, _, _, hf, h => ev_true F C H hf h
  | .l v ns :: r, as, fs, hΓ, ha, hf, h => by
    simp only [evS, Bool.and_eq_true] at h
    have h0 := F.var v
    rw [show cx.Γ.getD v .any = .int .i64 from hΓ (.l v ns) (by simp)] at h0
    obtain ⟨m, hm, _⟩ := h0
    have hav : asV ρ φ as v = .int .i64 m := (ha (.l v ns) (by simp)).trans hm
    by_cases hin : m ∈ ns
    · have h1 := List.all_eq_true.1 h.1 m hin
      have e := asV_set (as := as) hav
      have := evS_true r _ fs (fun p hp => hΓ p (by simp [hp])) (fun p hp => by rw [e]; exact ha p (by simp [hp])) hf h1
      rwa [e] at this
    · refine evS_true r as _ (fun p hp => hΓ p (by simp [hp])) (fun p hp => ha p (by simp [hp])) ?_ h.2
      intro p hp
      rcases List.mem_append.1 hp with hp | hp
      · obtain ⟨k, hk, rfl⟩ := List.mem_map.1 hp
        simp only [E.den, hm, icmp, vint_int]
        congr 1
        rw [beq_eq_false_iff_ne]
        intro e
        subst e
        exact hin hk
      · exact hf p hp
  | .r v lo c :: r, as, fs, hΓ, ha, hf, h => by
    simp only [evS, Bool.and_eq_true] at h
    obtain ⟨⟨h1, h2⟩, h3⟩ := h
    have h0 := F.var v
    rw [show cx.Γ.getD v .any = .int .i64 from hΓ (.r v lo c) (by simp)] at h0
    obtain ⟨m, hm, _⟩ := h0
    have hav : asV ρ φ as v = .int .i64 m := (ha (.r v lo c) (by simp)).trans hm
    by_cases hlo : m < Int.ofNat lo
    · refine evS_true r as _ (fun p hp => hΓ p (by simp [hp])) (fun p hp => ha p (by simp [hp])) ?_ h2
      intro p hp
      rcases List.mem_cons.1 hp with rfl | hp
      · simp only [E.den, hm, icmp, vint_int]
        exact congrArg Value.bool (decide_eq_true hlo)
      · exact hf p hp
    · by_cases hhi : m < Int.ofNat (lo + c)
      · obtain ⟨k, hk, rfl⟩ : ∃ k, k < c ∧ m = Int.ofNat (lo + k) := by
          refine ⟨(m - Int.ofNat lo).toNat, ?_, ?_⟩
          · simp only [Int.ofNat_eq_natCast] at *
            omega
          · simp only [Int.ofNat_eq_natCast] at *
            omega
        have h4 := List.all_eq_true.1 h1 k (List.mem_range.2 hk)
        have e := asV_set (as := as) hav
        have := evS_true r _ fs (fun p hp => hΓ p (by simp [hp])) (fun p hp => by rw [e]; exact ha p (by simp [hp])) hf h4
        rwa [e] at this
      · refine evS_true r as _ (fun p hp => hΓ p (by simp [hp])) (fun p hp => ha p (by simp [hp])) ?_ h3
        intro p hp
        rcases List.mem_cons.1 hp with rfl | hp
        · simp only [E.den, hm, icmp, vint_int]
          exact congrArg Value.bool (decide_eq_false hhi)
        · exact hf p hp
end
theorem asV_vars (ρ : Nat → Value) (φ : Nat → List Value → List Value) {n i : Nat} (h : i < n) : asV ρ φ (varsE n) i = ρ i := by
  unfold asV varsE
  rw [List.getD_eq_getElem?_getD, List.map_map, List.getElem?_map, List.getElem?_range h]
  rfl
theorem vars_dens (ρ : Nat → Value) (φ : Nat → List Value → List Value) (n : Nat) : (varsE n).map (·.den (asV ρ φ (varsE n)) φ) = (varsE n).map (·.den ρ φ) := by
  apply List.map_congr_left
  intro e he
  unfold varsE at he
  obtain ⟨i, hi, rfl⟩ := List.mem_map.1 he
  exact asV_vars ρ φ (List.mem_range.1 hi)

/-- How many values a tree gives. -/
def VT.len (n : Nat) : VT → Bool
  | .leaf es => Nat.beq es.length n
  | .ite _ t e => t.len n && e.len n
  | .stuck => false
theorem VT.len_vals {n : Nat} (ρ : Nat → Value) (φ : Nat → List Value → List Value) : ∀ {T : VT}, T.len n = true → (T.vals ρ φ).length = n
  | .leaf es, h => by simp only [VT.vals, List.length_map]; exact Nat.eq_of_beq_eq_true h
  | .ite c t e, h => by
    simp only [VT.len, Bool.and_eq_true] at h
    simp only [VT.vals]
    split
    · exact VT.len_vals ρ φ h.1
    · exact VT.len_vals ρ φ h.2
  | .stuck, h => by simp [VT.len] at h

def VT.lt (n : Nat) : VT → Bool
  | .leaf es => es.all (E.lt n)
  | .ite c t e => c.lt n && t.lt n && e.lt n
  | .stuck => true
theorem VT.lt_vals {n : Nat} {ρ ρ' : Nat → Value} (φ : Nat → List Value → List Value) (hρ : ∀ i, i < n → ρ i = ρ' i) : ∀ {T : VT}, T.lt n = true → T.vals ρ φ = T.vals ρ' φ
  | .leaf es, h => List.map_congr_left fun e he => (lt_den φ hρ e (List.all_eq_true.1 h e he)).1
  | .ite c t e, h => by
    simp only [VT.lt, Bool.and_eq_true] at h
    simp only [VT.vals, (lt_den φ hρ c h.1.1).1, VT.lt_vals φ hρ h.1.2, VT.lt_vals φ hρ h.2]
  | .stuck, _ => rfl

theorem DS.sub {φ : Nat → List Value → List Value} {D D' : List (Nat × Def)} (H : DS φ D) (h : ∀ p ∈ D', p ∈ D) : DS φ D' := fun p hp => H p (h p hp)
def dropS (ks : List Nat) (D : List (Nat × Def)) : List (Nat × Def) := D.filter fun p => !(ks.any fun k => Nat.beq k p.1)
theorem DS.drop {φ : Nat → List Value → List Value} {D : List (Nat × Def)} (H : DS φ D) (ks : List Nat) : DS φ (dropS ks D) := H.sub fun _ hp => (List.mem_filter.1 hp).1
/-- **Another term for a symbol that gives one truth.** -/
theorem DS.byE {P : Program} {ct : List Sig} {sy : List (Nat × List So)} {φ : Nat → List Value → List Value} {D D' : List (Nat × Def)} (E' : Env P ct sy φ) (H : DS φ D) (H' : DS φ D') (s : Nat) (ss : List So) (V : VT) (y : E) (n : Nat) (sp : List Sp)
    (hl : lookA s D = some (.fn ss V)) (h1 : V.len 1 = true) (hvl : V.lt ss.length = true) (hb : (symS sy s 0 == .bool) = true) (hby : (E.so ss (symS sy) y == .bool) = true) (hsp : (sp.all fun p => ss.getD p.v .any == .int .i64) = true) (hspn : (sp.all fun p => Nat.blt p.v ss.length) = true) (hylt : y.lt ss.length = true)
    (h : evS ⟨P, ss, [], [], sy⟩ D' n (.beq (.app s 0 (toL (varsE ss.length))) y) sp (varsE ss.length) [] = true) : DS φ ((s, .fn ss (.leaf [y])) :: D) := by
  intro p hp
  rcases List.mem_cons.1 hp with rfl | hp
  · intro fl
    have hV := H _ (lookA_mem hl)
    have F : Fits ss (symS sy) (atS ss fl) φ := ⟨fun i => coe_has _ _, E'.fit⟩
    have key := evS_true (cx := ⟨P, ss, [], [], sy⟩) F (fun g hg => absurd hg (by simp)) H' sp (varsE ss.length) [] (fun p hp => by simpa using List.all_eq_true.1 hsp p hp) (fun p hp => asV_vars _ _ (by
      have := List.all_eq_true.1 hspn p hp
      simp only [Nat.blt] at this
      exact Nat.lt_of_succ_le (Nat.le_of_ble_eq_true this))) (fun _ hq => by simp at hq) h
    have hag : ∀ i, i < ss.length → asV (atS ss fl) φ (varsE ss.length) i = atS ss fl i := fun i hi => asV_vars _ _ hi
    simp only [E.den, Value.bool.injEq, beq_iff_eq] at key
    have hd : (toL (varsE ss.length)).dens (asV (atS ss fl) φ (varsE ss.length)) φ = (varsE ss.length).map (·.den (atS ss fl) φ) := by
      rw [toL_dens, vars_dens]
    rw [hd, (lt_den φ hag y hylt).1] at key
    have hco : ∀ i, i < ss.length → atS ss ((varsE ss.length).map (·.den (atS ss fl) φ)) i = atS ss fl i := by
      intro i hi
      show coe _ _ = atS ss fl i
      have : ((varsE ss.length).map (·.den (atS ss fl) φ)).getD i undef = atS ss fl i := asV_vars _ _ hi
      rw [this]
      exact coe_id (coe_has _ _)
    have hv1 := hV fl
    have hv2 := hV ((varsE ss.length).map (·.den (atS ss fl) φ))
    rw [VT.lt_vals φ hco hvl, ← hv1] at hv2
    have hlen := VT.len_vals (atS ss fl) φ h1
    rw [← hv1] at hlen
    have hfit := E'.fit s 0 fl
    rw [eq_of_beq hb] at hfit
    rw [hv2] at key
    simp only [VT.vals, List.map_cons, List.map_nil]
    generalize φ s fl = l at hlen hfit key
    match l, hlen with
    | [v], _ =>
      obtain ⟨b, hb'⟩ := hfit
      have hb' : v = .bool b := hb'
      have hy := E.so_has F y
      rw [show y.so _ _ = So.bool from eq_of_beq hby] at hy
      obtain ⟨c, hc⟩ := hy
      have key : vbool v = vbool (y.den (atS ss fl) φ) := key
      rw [hb', hc] at key
      simp only [vbool_bool] at key
      rw [hb', hc, key]
  · exact H p hp
theorem DS.put {φ : Nat → List Value → List Value} {D : List (Nat × Def)} (H : DS φ D) {s : Nat} {d : Def} (h : d.ok φ s) : DS φ ((s, d) :: D) := by
  intro p hp
  rcases List.mem_cons.1 hp with rfl | hp
  · exact h
  · exact H p hp
theorem DS.get {φ : Nat → List Value → List Value} {D : List (Nat × Def)} (H : DS φ D) {s : Nat} {d : Def} (h : lookA s D = some d) : d.ok φ s := H _ (lookA_mem h)
theorem case_ok {φ : Nat → List Value → List Value} {s : Nat} {ss : List So} {V : VT} (hok : (Def.fn ss V).ok φ s) (c y : E) (h : ∀ fl, c.den (atS ss fl) φ = .bool true → φ s fl = [y.den (atS ss fl) φ]) : (Def.fn ss (.ite c (.leaf [y]) V)).ok φ s := by
  intro fl
  simp only [VT.vals]
  split
  · rename_i hv
    by_cases hb : c.den (atS ss fl) φ = .bool true
    · rw [h fl hb]; rfl
    · cases hc : c.den (atS ss fl) φ <;> rw [hc] at hv <;> simp [vbool] at hv
      rw [hv] at hc
      exact absurd hc hb
  · exact hok fl
/-- What a symbol gives depends on its own arguments alone. -/
theorem ok_vars {φ : Nat → List Value → List Value} {s : Nat} {ss : List So} {V : VT} (hok : (Def.fn ss V).ok φ s) (hvl : V.lt ss.length = true) (fl : List Value) : φ s fl = φ s ((varsE ss.length).map (·.den (atS ss fl) φ)) := by
  rw [hok fl, hok ((varsE ss.length).map (·.den (atS ss fl) φ))]
  refine VT.lt_vals φ (fun i hi => ?_) hvl
  show atS ss fl i = coe _ _
  have : ((varsE ss.length).map (·.den (atS ss fl) φ)).getD i undef = atS ss fl i := asV_vars _ _ hi
  rw [this]
  exact (coe_id (coe_has _ _)).symm
theorem str_eq {s : ByteArray} {v : Value} (h : So.str.has v) (he : (E.seq (.var 0) (.val (.string s))).den (fun _ => v) (fun _ _ => []) = .bool true) : v = .string s := by
  obtain ⟨t, rfl, _⟩ := h
  simp only [E.den, vstr_string, Value.bool.injEq, beq_iff_eq, toList_data] at he
  cases s; cases t
  simp at he
  rw [he]
/-- **One truth at one text.** -/
theorem at_str {P : Program} {ct : List Sig} {sy : List (Nat × List So)} {φ : Nat → List Value → List Value} {D' : List (Nat × Def)} (E' : Env P ct sy φ) (H' : DS φ D') (s : Nat) (ss : List So) (V0 : VT) (hok0 : (Def.fn ss V0).ok φ s) (v : Nat) (str : ByteArray) (y : E) (n : Nat) (sp : List Sp)
    (h1 : V0.len 1 = true) (hvl : V0.lt ss.length = true) (hb : (symS sy s 0 == .bool) = true) (hby : (E.so ss (symS sy) y == .bool) = true) (hvn : Nat.blt v ss.length = true) (hsp : (sp.all fun p => ss.getD p.v .any == .int .i64) = true) (hspn : (sp.all fun p => Nat.blt p.v ss.length) = true) (hylt : y.lt ss.length = true)
    (h : evS ⟨P, ss, [], [], sy⟩ D' n (.beq (.app s 0 (toL (varsE ss.length))) y) sp ((varsE ss.length).set v (.val (.string str))) [] = true) (fl : List Value) (hv : atS ss fl v = .string str) : φ s fl = [y.den (atS ss fl) φ] := by
  have hblt : ∀ {a b : Nat}, Nat.blt a b = true → a < b := fun h => by
    simp only [Nat.blt] at h
    exact Nat.lt_of_succ_le (Nat.le_of_ble_eq_true h)
  have F : Fits ss (symS sy) (atS ss fl) φ := ⟨fun i => coe_has _ _, E'.fit⟩
  have hset : asV (atS ss fl) φ ((varsE ss.length).set v (.val (.string str))) = asV (atS ss fl) φ (varsE ss.length) := by
    funext i
    unfold asV
    rw [List.getD_eq_getElem?_getD, List.getD_eq_getElem?_getD]
    simp only [List.getElem?_map, List.getElem?_set]
    by_cases hi : v = i
    · subst hi
      have hl : v < (varsE ss.length).length := by simpa [varsE] using hblt hvn
      have := asV_vars (atS ss fl) φ (hblt hvn)
      unfold asV at this
      rw [List.getD_eq_getElem?_getD, List.getElem?_map] at this
      simp only [if_true, if_pos hl, Option.map_some, Option.getD_some, E.den]
      rw [this, hv]
    · simp only [if_neg hi]
  have key := evS_true (cx := ⟨P, ss, [], [], sy⟩) F (fun g hg => absurd hg (by simp)) H' sp _ [] (fun p hp => by simpa using List.all_eq_true.1 hsp p hp) (fun p hp => by rw [hset]; exact asV_vars _ _ (hblt (List.all_eq_true.1 hspn p hp))) (fun _ hq => by simp at hq) h
  rw [hset] at key
  have hag : ∀ i, i < ss.length → asV (atS ss fl) φ (varsE ss.length) i = atS ss fl i := fun i hi => asV_vars _ _ hi
  simp only [E.den, Value.bool.injEq, beq_iff_eq] at key
  have hd : (toL (varsE ss.length)).dens (asV (atS ss fl) φ (varsE ss.length)) φ = (varsE ss.length).map (·.den (atS ss fl) φ) := by
    rw [toL_dens, vars_dens]
  rw [hd, (lt_den φ hag y hylt).1, ← ok_vars hok0 hvl fl] at key
  have hlen := VT.len_vals (atS ss fl) φ h1
  rw [← hok0 fl] at hlen
  have hfit := E'.fit s 0 fl
  rw [eq_of_beq hb] at hfit
  generalize φ s fl = l at hlen hfit key
  match l, hlen with
  | [w], _ =>
    obtain ⟨b, hb'⟩ := hfit
    have hb' : w = .bool b := hb'
    have hy := E.so_has F y
    rw [show y.so _ _ = So.bool from eq_of_beq hby] at hy
    obtain ⟨c, hc⟩ := hy
    have key : vbool w = vbool (y.den (atS ss fl) φ) := key
    rw [hb', hc] at key
    simp only [vbool_bool] at key
    rw [hb', hc, key]
theorem readsAll_has {w : World} : ∀ {ps : List PK} {xs fl : List Value}, readsAll w ps xs fl → All2 So.has (sortsP ps) fl
  | [], [], fl, h => by
    have h : fl = [] := h
    subst h
    exact trivial
  | p :: ps, x :: xs, fl, h => by
    obtain ⟨f1, f2, rfl, hp, hr⟩ := h
    have g2 := readsAll_has hr
    unfold sortsP at *
    simp only [List.flatMap_cons]
    refine All2.append ?_ g2
    cases p with
    | val a ss =>
      cases a with
      | true => exact hp.2
      | false => exact hp.2
    | sl ss =>
      obtain ⟨ad, len, cap, vs, rfl, rfl, h4, h5, h6, h7, h8⟩ := hp
      have hi : (Int.ofNat len) ≤ 4611686018427387904 := Int.ofNat_le.2 h6
      have h0 : (0 : Int) ≤ Int.ofNat len := Int.natCast_nonneg len
      exact ⟨⟨_, rfl, by simp [lowOf], by simp only [highOf]; omega⟩, trivial, trivial⟩
  | [], _ :: _, _, h => h.elim
  | _ :: _, [], _, h => h.elim
def impE (y : E) (q : E × Bool) : E := .ite y (if q.2 then q.1 else .not q.1) (.bool true)
def aliasF (ss : List So) (y : E) (φ : Nat → List Value → List Value) (fl : List Value) : List Value := [y.den (atS ss fl) φ]
/-- **A contract more, for some literal argument, with another meaning.** -/
theorem Env.alias {P : Program} {ct : List Sig} {sy : List (Nat × List So)} {φ : Nat → List Value → List Value} (H : Env P ct sy φ) (g g' : Sig) (hg : g ∈ ct) (v : Nat) (lit y : E) (n : Nat) (φ0 : Nat → List Value → List Value) (hφ : φ g.sym = φ0 g.sym) (hg' : g' = { g with sym := g'.sym, fix := [(v, lit)] })
    (hfr : freshS g'.sym ct = true) (hrs : g.rs = [.val false [.bool]]) (hfx : g.fix = []) (_hlit : lit.isLit = true)
    (hc : ∀ fl, atS (sortsP g.ps) fl v = lit.den (fun _ => undef) (fun _ _ => []) → φ0 g.sym fl = [y.den (atS (sortsP g.ps) fl) φ0])
    (hby : (E.so (sortsP g.ps) (symS sy) y == .bool) = true) (hylt : y.lt (sortsP g.ps).length = true) (hno : y.noApp = true)
    (himp : (g.imp.all fun q => q.1.noApp && q.1.lt (sortsP g.ps).length && (E.so (sortsP g.ps) (symS sy) q.1 == .bool) && ev ⟨P, sortsP g.ps, [], [], sy⟩ [] n (.e (impE y q) (varsE (sortsP g.ps).length)) [] (yes ⟨P, sortsP g.ps, [], [], sy⟩)) = true) :
    Env P (g' :: ct) ((g'.sym, g'.rs.flatMap RK.sorts) :: sy) (updF φ g'.sym (aliasF (sortsP g.ps) y φ)) := by
  have hps : g'.ps = g.ps := by rw [hg']
  have hrs' : g'.rs = [.val false [.bool]] := by rw [hg']; exact hrs
  have hs := H.snd g hg
  have hyb : ∀ fl, ∃ b, y.den (atS (sortsP g.ps) fl) φ = .bool b := by
    intro fl
    have F : Fits (sortsP g.ps) (symS sy) (atS (sortsP g.ps) fl) φ := ⟨fun i => coe_has _ _, H.fit⟩
    have hy := E.so_has F y
    rw [show y.so _ _ = So.bool from eq_of_beq hby] at hy
    exact hy
  refine H.add g' _ hfr (fun args => ?_) ⟨?_, fun w xs fl hr hpx hf => ?_, fun fl hs ht => ?_⟩
  · rw [hrs']
    obtain ⟨b, hb⟩ := hyb args
    exact ⟨⟨b, hb⟩, trivial⟩
  · have := hs.call
    rw [hg']
    exact this
  · rw [updF_self]
    have hfl : g'.f = g.f := by rw [hg']
    have hpre : g'.pre = g.pre := by rw [hg']
    have hfix : g'.fix = [(v, lit)] := by rw [hg']
    rw [hps] at hr
    rw [hpre] at hpx
    have h1 := hs.does w xs fl hr hpx (fun p hp => by rw [hfx] at hp; simp at hp)
    have hv := hf (v, lit) (by rw [hfix]; simp)
    have hat : atS (sortsP g.ps) fl v = fl.getD v undef := coe_id (all2_get (readsAll_has hr) v)
    rw [hφ, hc fl (by rw [hat]; exact hv), (noApp_den _ φ0 φ y hno).1] at h1
    rw [hfl, hrs', ← hrs]
    exact h1
  · rw [updF_self] at ht
    have himp' : g'.imp = g.imp := by rw [hg']
    rw [himp']
    intro q hq
    have h1 := List.all_eq_true.1 himp q hq
    simp only [Bool.and_eq_true] at h1
    obtain ⟨⟨⟨h1, h2⟩, h3⟩, h4⟩ := h1
    have F : Fits (sortsP g.ps) (symS sy) (atS (sortsP g.ps) fl) φ := ⟨fun i => coe_has _ _, H.fit⟩
    have key := ev_true (cx := ⟨P, sortsP g.ps, [], [], sy⟩) F (fun g hg => absurd hg (by simp)) (DS.nil φ) (fun _ hq => by simp at hq) h4
    have hag : ∀ i, i < (sortsP g.ps).length → asV (atS (sortsP g.ps) fl) φ (varsE (sortsP g.ps).length) i = atS (sortsP g.ps) fl i := fun i hi => asV_vars _ _ hi
    have ht : y.den (atS (sortsP g.ps) fl) φ = .bool true := ht
    have hq := E.so_has F q.1
    rw [show q.1.so _ _ = So.bool from eq_of_beq h3] at hq
    obtain ⟨c, hc⟩ := hq
    have hc2 : q.1.den (asV (atS (sortsP g.ps) fl) φ (varsE (sortsP g.ps).length)) φ = .bool c := by rw [(lt_den φ hag q.1 h2).1, hc]
    have hfl : (fun i => fl.getD i undef) = atS (sortsP g.ps) fl := by
      funext i
      rw [hps] at hs
      exact (coe_id (all2_get hs i)).symm
    rw [hfl, (noApp_den _ (fun _ _ => []) φ q.1 h1).1, hc]
    congr 1
    unfold impE at key
    simp only [E.den, (lt_den φ hag y hylt).1, ht, vbool_bool, if_true] at key
    cases h5 : q.2 with
    | true =>
      rw [h5] at key
      simp only [if_true, hc2, Value.bool.injEq] at key
      exact key
    | false =>
      rw [h5] at key
      simp only [Bool.false_eq_true, if_false, E.den, hc2, vbool_bool, Value.bool.injEq] at key
      simpa using key
theorem DS.alias {φ : Nat → List Value → List Value} {D : List (Nat × Def)} (H : DS φ D) (K : Nat) (ss : List So) (y : E) (h : newSym K D = true) (hK : y.noSym K = true) : DS (updF φ K (aliasF ss y φ)) ((K, .fn ss (.leaf [y])) :: D) := by
  intro p hp
  rcases List.mem_cons.1 hp with rfl | hp
  · intro fl
    rw [updF_self]
    simp only [VT.vals, List.map_cons, List.map_nil, aliasF, (noSym_den _ φ K _ y hK).1]
  · exact H.keep h _ p hp
def opL (v : Nat) : List Int → E
  | [] => .bool false
  | [n] => .cmp .eql (.var v) (.int .i64 n)
  | n :: ns => .ite (.cmp .eql (.var v) (.int .i64 n)) (.bool true) (opL v ns)
theorem one_of {l : List Value} (h : l.length = 1) : l = [l.getD 0 undef] := by
  match l, h with
  | [x], _ => rfl
/-- A symbol's own double, which stays closed where the other is opened. -/
theorem twin_ok {φ : Nat → List Value → List Value} {s k : Nat} {ss : List So} {V : VT} (hok : (Def.fn ss V).ok φ s) (h1 : V.len 1 = true) (hvl : V.lt ss.length = true) (hk : φ k = φ s) (c : E) : (Def.fn ss (.ite c (.leaf [.app k 0 (toL (varsE ss.length))]) V)).ok φ s := by
  refine case_ok hok _ _ fun fl _ => ?_
  simp only [E.den, toL_dens, hk]
  have hl := VT.len_vals (atS ss fl) φ h1
  rw [← hok fl] at hl
  rw [← ok_vars hok hvl fl]
  exact one_of hl
theorem Env.twin {P : Program} {ct : List Sig} {sy : List (Nat × List So)} {φ : Nat → List Value → List Value} (H : Env P ct sy φ) (s k : Nat) {ss : List So} {V : VT} (hok : (Def.fn ss V).ok φ s) (h1 : V.len 1 = true) (hb : (symS sy s 0 == .bool) = true) (hfr : freshS k ct = true) : Env P ct ((k, [.bool]) :: sy) (updF φ k (φ s)) :=
  H.sym k [.bool] (φ s) hfr fun args => by
    have h := H.fit s 0 args
    rw [eq_of_beq hb] at h
    have hl := VT.len_vals (atS ss args) φ h1
    rw [← hok args] at hl
    rw [one_of hl]
    exact ⟨h, trivial⟩
/-- A symbol of one truth, by an equation. -/
theorem ok_by {P : Program} {ct : List Sig} {sy : List (Nat × List So)} {φ : Nat → List Value → List Value} (E' : Env P ct sy φ) {s : Nat} {ss : List So} {V : VT} (hok : (Def.fn ss V).ok φ s) (y : E) (h1 : V.len 1 = true) (hvl : V.lt ss.length = true) (hb : (symS sy s 0 == .bool) = true) (hby : (E.so ss (symS sy) y == .bool) = true) (hylt : y.lt ss.length = true)
    (h : ∀ ρ, Fits ss (symS sy) ρ φ → (E.beq (.app s 0 (toL (varsE ss.length))) y).den (asV ρ φ (varsE ss.length)) φ = .bool true) : (Def.fn ss (.leaf [y])).ok φ s := by
  intro fl
  have F : Fits ss (symS sy) (atS ss fl) φ := ⟨fun i => coe_has _ _, E'.fit⟩
  have key := h _ F
  have hag : ∀ i, i < ss.length → asV (atS ss fl) φ (varsE ss.length) i = atS ss fl i := fun i hi => asV_vars _ _ hi
  simp only [E.den, Value.bool.injEq, beq_iff_eq] at key
  have hd : (toL (varsE ss.length)).dens (asV (atS ss fl) φ (varsE ss.length)) φ = (varsE ss.length).map (·.den (atS ss fl) φ) := by
    rw [toL_dens, vars_dens]
  rw [hd, (lt_den φ hag y hylt).1, ← ok_vars hok hvl fl] at key
  have hlen := VT.len_vals (atS ss fl) φ h1
  rw [← hok fl] at hlen
  have hfit := E'.fit s 0 fl
  rw [eq_of_beq hb] at hfit
  simp only [VT.vals, List.map_cons, List.map_nil]
  generalize φ s fl = l at hlen hfit key
  match l, hlen with
  | [w], _ =>
    obtain ⟨b, hb'⟩ := hfit
    have hb' : w = .bool b := hb'
    have hy := E.so_has F y
    rw [show y.so _ _ = So.bool from eq_of_beq hby] at hy
    obtain ⟨c, hc⟩ := hy
    have key : vbool w = vbool (y.den (atS ss fl) φ) := key
    rw [hb', hc] at key
    simp only [vbool_bool] at key
    rw [hb', hc, key]
/-- At one value of a variable. -/
theorem evS_at {ρ : Nat → Value} {φ : Nat → List Value → List Value} {cx : Cx} {D : List (Nat × Def)} (F : Fits cx.Γ cx.S ρ φ) (C : CtSound cx φ) (H : DS φ D) {n N : Nat} {x : E} {sp : List Sp} {v : Nat} {m : Int} (hv : v < N) (hm : ρ v = .int .i64 m)
    (hsp : (sp.all fun p => (cx.Γ.getD p.v .any == .int .i64) && Nat.blt p.v N) = true) (h : evS cx D n x sp ((varsE N).set v (.int .i64 m)) [] = true) : x.den (asV ρ φ (varsE N)) φ = .bool true := by
  have hs : asV ρ φ ((varsE N).set v (.int .i64 m)) = asV ρ φ (varsE N) := asV_set ((asV_vars _ _ hv).trans hm)
  have hq : ∀ p ∈ sp, cx.Γ.getD p.v .any = .int .i64 ∧ p.v < N := by
    intro p hp
    have := List.all_eq_true.1 hsp p hp
    rw [Bool.and_eq_true] at this
    refine ⟨eq_of_beq this.1, ?_⟩
    have := this.2
    simp only [Nat.blt] at this
    exact Nat.lt_of_succ_le (Nat.le_of_ble_eq_true this)
  have := evS_true F C H sp _ [] (fun p hp => (hq p hp).1) (fun p hp => by rw [hs]; exact asV_vars _ _ (hq p hp).2) (fun _ hq => by simp at hq) h
  rwa [hs] at this
/-- With no case. -/
theorem evS_all {ρ : Nat → Value} {φ : Nat → List Value → List Value} {cx : Cx} {D : List (Nat × Def)} (F : Fits cx.Γ cx.S ρ φ) (C : CtSound cx φ) (H : DS φ D) {n N : Nat} {x : E} {sp : List Sp} {fs : Facts} (hf : fs.hold ρ φ)
    (hsp : (sp.all fun p => (cx.Γ.getD p.v .any == .int .i64) && Nat.blt p.v N) = true) (h : evS cx D n x sp (varsE N) fs = true) : x.den (asV ρ φ (varsE N)) φ = .bool true := by
  have hq : ∀ p ∈ sp, cx.Γ.getD p.v .any = .int .i64 ∧ p.v < N := by
    intro p hp
    have := List.all_eq_true.1 hsp p hp
    rw [Bool.and_eq_true] at this
    refine ⟨eq_of_beq this.1, ?_⟩
    have := this.2
    simp only [Nat.blt] at this
    exact Nat.lt_of_succ_le (Nat.le_of_ble_eq_true this)
  exact evS_true F C H sp _ fs (fun p hp => (hq p hp).1) (fun p hp => asV_vars _ _ (hq p hp).2) hf h
/-- A term by all ways, and behind each of them some truths that name it as the variable behind the others. -/
def keysK (cx : Cx) (D : List (Nat × Def)) (n : Nat) (as ys : List E) : KK := fun r fs => match r with
  | [w] => ys.all fun y => ev cx D n (.e y (as ++ [w])) fs (yes cx)
  | _ => false
def evK (cx : Cx) (D : List (Nat × Def)) (n : Nat) (x : E) (as : List E) (fs : Facts) (ys : List E) : Bool := ev cx D n (.e x as) fs (keysK cx D n as ys)
theorem evK_true {ρ : Nat → Value} {φ : Nat → List Value → List Value} {cx : Cx} {D : List (Nat × Def)} (F : Fits cx.Γ cx.S ρ φ) (C : CtSound cx φ) (H : DS φ D) {n : Nat} {x : E} {as : List E} {fs : Facts} {ys : List E} (hf : fs.hold ρ φ) (h : evK cx D n x as fs ys = true) :
    ∃ w : E, w.den ρ φ = x.den (asV ρ φ as) φ ∧ ∀ y ∈ ys, y.den (asV ρ φ (as ++ [w])) φ = .bool true := by
  obtain ⟨es, fs', h1, h2, h3⟩ := ev_sound F C H n _ _ _ hf h
  unfold keysK at h1
  split at h1
  · rename_i w
    refine ⟨w, by simpa [Task.vals] using h3, fun y hy => ?_⟩
    exact ev_true F C H h2 (List.all_eq_true.1 h1 y hy)
  · exact absurd h1 (by simp)
theorem l4 {cx : Cx} {D : List (Nat × Def)} {n : Nat} {x : E} {r : List Sp} {as : List E} {fs : Facts} {v : Nat} {a b c d : Int} (h1 : evS cx D n x r (as.set v (.int .i64 a)) fs = true) (h2 : evS cx D n x r (as.set v (.int .i64 b)) fs = true) (h3 : evS cx D n x r (as.set v (.int .i64 c)) fs = true) (h4 : evS cx D n x r (as.set v (.int .i64 d)) fs = true)
    (h5 : evS cx D n x r as ([(.cmp .eql (.var v) (.int .i64 a), false), (.cmp .eql (.var v) (.int .i64 b), false), (.cmp .eql (.var v) (.int .i64 c), false), (.cmp .eql (.var v) (.int .i64 d), false)] ++ fs) = true) : evS cx D n x (.l v [a, b, c, d] :: r) as fs = true := by
  simp only [evS, List.all_cons, List.all_nil, List.map_cons, List.map_nil, h1, h2, h3, h4, h5, Bool.and_true]
end Go.SX

/- SX: an argument of plain cells, read by its type. -/
namespace Go.SX
open Go Go.RowKit Go.Joins

def fieldsSo (P : Program) (g : TypeId → Option (List So)) : Nat → List Field → Option (List So)
  | _, [] => some []
  | o, f :: fs => match g f.type with
    | some s => if Nat.beq f.offset o && Nat.beq (P.cellsOf f.type) s.length then (fieldsSo P g (o + s.length) fs).map (s ++ ·) else none
    | none => none
/-- The cells of a plain type. -/
def flatSo (P : Program) : Nat → TypeId → Option (List So)
  | 0, _ => none
  | d + 1, t => match P.underlying t with
    | some .bool => some [.bool]
    | some (.int k) => some [.int k]
    | some (.struct fs) => match fieldsSo P (flatSo P d) 0 fs.toList with
      | some ss => if Nat.beq (P.cellsOf t) ss.length then some ss else none
      | none => none
    | _ => none

theorem wf_int {k : IntKind} {n : Int} (h : (Lit.int k n).wf = true) : So.has (.int k) (.int k n) := by
  simp only [Lit.wf, Bool.and_eq_true, decide_eq_true_eq] at h
  have h1 : lowOf k = k.min := by cases k <;> rfl
  have h2 : highOf k = k.max := by cases k <;> rfl
  exact ⟨n, rfl, by rw [h1]; exact h.1, by rw [h2]; exact h.2⟩
section
variable {H : Type} {enc : TypeId × Value → H} {P : Program} {w : World} {base : Nat} {spare : Nat → Bool} {held : Bool}
theorem fields_has {g : TypeId → Option (List So)} {n : Nat} {cs : List Value} (hg : ∀ t ss cs y, g t = some ss → DataW.trod enc P w base spare held n t cs = some y → All2 So.has ss cs) :
    ∀ (fs : List Field) (o : Nat) (ss : List So) (xs : List (DataW H × List MemPlace)), fieldsSo P g o fs = some ss → o + ss.length ≤ cs.length →
    (fs.mapM fun f => DataW.trod enc P w base spare held n f.type ((cs.drop f.offset).take (P.cellsOf f.type))) = some xs → All2 So.has ss ((cs.drop o).take ss.length)
  | [], o, ss, xs, h, _, _ => by
    simp only [fieldsSo, Option.some.injEq] at h
    subst h
    simp only [List.length_nil, List.take_zero]
    exact trivial
  | f :: fs, o, ss, xs, h, hl, hm => by
    simp only [fieldsSo] at h
    split at h
    · rename_i s hs
      split at h
      · rename_i hc
        rw [Bool.and_eq_true] at hc
        have h1 := Nat.eq_of_beq_eq_true hc.1
        have h2 := Nat.eq_of_beq_eq_true hc.2
        simp only [Option.map_eq_some_iff] at h
        obtain ⟨ss', hss, rfl⟩ := h
        rw [List.mapM_cons] at hm
        simp only [Option.bind_eq_bind, Option.bind_eq_some_iff] at hm
        obtain ⟨y, hy, ys, hys, _⟩ := hm
        rw [List.length_append] at hl
        have g1 := hg _ _ _ _ hs hy
        have g2 := fields_has hg fs (o + s.length) ss' ys hss (by omega) hys
        rw [h1, h2] at g1
        rw [List.length_append, List.take_add, List.drop_drop]
        exact All2.append g1 g2
      · exact absurd h (by simp)
    · exact absurd h (by simp)
theorem flat_has : ∀ (d n : Nat) (t : TypeId) (ss : List So) (cs : List Value) (y : DataW H × List MemPlace), flatSo P d t = some ss → DataW.trod enc P w base spare held n t cs = some y → All2 So.has ss cs
  | 0, _, _, _, _, _, h, _ => by simp [flatSo] at h
  | d + 1, 0, _, _, _, _, _, h => by simp [DataW.trod] at h
  | d + 1, n + 1, t, ss, cs, y, h, ht => by
    simp only [flatSo] at h
    simp only [DataW.trod] at ht
    split at h
    · rename_i hu
      rw [hu] at ht
      simp only [Option.some.injEq] at h
      subst h
      split at ht <;> rename_i hu2 <;> first | (simp at hu2; done) | skip
      · exact ⟨⟨_, rfl⟩, trivial⟩
      all_goals exact absurd ht (by simp)
    · rename_i k hu
      rw [hu] at ht
      simp only [Option.some.injEq] at h
      subst h
      split at ht <;> rename_i hu2 <;> first | (simp at hu2; done) | skip
      · rename_i k0 k' m _
        simp only [Option.some.injEq, TypeDesc.int.injEq] at hu2
        split at ht
        · rename_i hw
          obtain ⟨rfl, hw⟩ := hw
          subst hu2
          exact ⟨wf_int hw, trivial⟩
        · exact absurd ht (by simp)
      all_goals exact absurd ht (by simp)
    · rename_i fs hu
      rw [hu] at ht
      split at h
      · rename_i s2 hs2
        split at h
        · rename_i hc
          have hc := Nat.eq_of_beq_eq_true hc
          simp only [Option.some.injEq] at h
          subst h
          simp only at ht
          split at ht
          · rename_i hl
            simp only [Option.map_eq_some_iff] at ht
            obtain ⟨xs, hxs, _⟩ := ht
            have := fields_has (fun t ss cs y => flat_has d n t ss cs y) fs.toList 0 s2 xs hs2 (by omega) hxs
            rw [List.drop_zero, ← hc, ← hl, List.take_length] at this
            exact this
          · exact absurd ht (by simp)
        · exact absurd h (by simp)
      · exact absurd h (by simp)
    · exact absurd h (by simp)
end
end Go.SX
