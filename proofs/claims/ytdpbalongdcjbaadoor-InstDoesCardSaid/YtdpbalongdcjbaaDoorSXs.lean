/- SX: functions that give a new row of cells. -/
import Derived.Test.YtdpbalongdcjbaaDoorSXp
namespace Go.SX
open Go Go.RowKit

def rowE (T : RTree) : Option (Nat × List E) :=
  match T with
  | .leaf (.one ⟨false, [.slc id 0 len cap]⟩) σ => match lookA id σ.boxes with
    | some row => if Nat.beq len row.length && Nat.beq cap len then (exs row).map fun es => (id, es) else none
    | none => none
  | _ => none
def rowOk (cx : Cx) (n k : Nat) (s : So) (T : RTree) : Bool :=
  match rowE T with
  | some (_, es) => Nat.beq es.length k && soOk cx (List.replicate k s) es && es.all fun e => e.lt n
  | none => false
def autoRow (T : RTree) (ss : List So) (φ : Nat → List Value → List Value) (fl : List Value) : List Value :=
  match rowE T with
  | some (_, es) => es.map fun e => e.den (fun i => coe (ss.getD i .any) (fl.getD i undef)) φ
  | none => []
def sigRow (P : Program) (fn : Func) (f : FuncId) (sym k : Nat) (s : So) : Sig :=
  match pksSl P fn.params.toList with
  | some ps => ⟨f, sym, ps, [.row k s], [], [], []⟩
  | none => ⟨f, sym, [], [], [], [], []⟩

theorem exs_len : ∀ {cs : List SC} {es : List E}, exs cs = some es → cs.length = es.length
  | [], es, h => by
    simp only [exs, Option.some.injEq] at h
    subst h
    rfl
  | .e x :: cs, es, h => by
    simp only [exs, Option.map_eq_some_iff] at h
    obtain ⟨es', he, rfl⟩ := h
    simp [exs_len he]
  | .ptr _ _ :: _, _, h => by simp [exs] at h
  | .pti _ _ _ :: _, _, h => by simp [exs] at h
  | .slc _ _ _ _ :: _, _, h => by simp [exs] at h
  | .vad _ _ _ _ :: _, _, h => by simp [exs] at h
theorem exsR_is {ρ : Nat → Value} {φ : Nat → List Value → List Value} {β : Nat → Option Nat} : ∀ {cs : List SC} {es : List E} {vs : List Value}, exs cs = some es → All2 (SC.is ρ φ β) cs vs → vs = es.map (·.den ρ φ)
  | [], es, vs, h, ha => by
    simp only [exs, Option.some.injEq] at h
    subst h
    cases vs with
    | nil => rfl
    | cons v vs => exact ha.elim
  | .e x :: cs, es, vs, h, ha => by
    simp only [exs, Option.map_eq_some_iff] at h
    obtain ⟨es', he, rfl⟩ := h
    cases vs with
    | nil => exact ha.elim
    | cons v vs =>
      obtain ⟨h1, h2⟩ := ha
      simp only [List.map_cons]
      rw [← exsR_is he h2]
      congr 1
  | .ptr _ _ :: _, _, _, h, _ => by simp [exs] at h
  | .pti _ _ _ :: _, _, _, h, _ => by simp [exs] at h
  | .slc _ _ _ _ :: _, _, _, h, _ => by simp [exs] at h
  | .vad _ _ _ _ :: _, _, _, h, _ => by simp [exs] at h
theorem soOkR_has {ρ : Nat → Value} {φ : Nat → List Value → List Value} {cx : Cx} (F : Fits cx.Γ cx.S ρ φ) : ∀ {ss : List So} {es : List E}, soOk cx ss es = true → All2 So.has ss (es.map (·.den ρ φ))
  | [], [], _ => trivial
  | [], _ :: _, h => by simp [soOk] at h
  | _ :: _, [], h => by simp [soOk] at h
  | s :: ss, x :: xs, h => by
    simp only [soOk, Bool.and_eq_true, Bool.or_eq_true, decide_eq_true_eq] at h
    refine ⟨?_, soOkR_has F h.2⟩
    rcases h.1 with h1 | h1
    · rw [h1]; trivial
    · rw [← h1]; exact E.so_has F x

theorem pick_all {vs : List Value} {k : Nat} (h : vs.length = k) : pick vs 0 k = vs := by
  unfold pick
  apply List.ext_getElem?
  intro i
  rw [List.getElem?_map]
  by_cases hi : i < k
  · rw [List.getElem?_range' (by omega)]
    simp only [Option.map_some, Nat.zero_add, Nat.one_mul]
    rw [List.getD_eq_getElem?_getD, List.getElem?_eq_getElem (by omega)]
    rfl
  · rw [List.getElem?_eq_none (by simp; omega), List.getElem?_eq_none (by omega)]
    rfl
theorem Env.autoRow {P : Program} {ct : List Sig} {sy : List (Nat × List So)} {φ : Nat → List Value → List Value} (H : Env P ct sy φ) (lps : List Lp) (n : Nat) (fn : Func) (c : Code) (g : Sig) (k : Nat) (s : So) (hfn : P.funcs[g.f]? = some fn) (hb : fn.body = some c) (hnm : (fn.name == "runtime.NumGoroutine") = false)
    (hfr : freshS g.sym ct = true) (hv : g.ps.all PK.okK = true) (hpr : (g.pre.all fun p => p.1.noApp && p.1.lt (sortsP g.ps).length) = true) (hfl : fixLt (sortsP g.ps).length g.fix = true) (hls : ∀ lp ∈ lps, ∀ l ∈ loops c, firstId l = some lp.key → lp.Sound P φ (g.ps.length + (fn.ntmps - g.ps.length)) l)
    (him : g.imp = []) (hrs : g.rs = [.row k s]) (hT : rowOk (cxP P ct sy g.ps) (sortsP g.ps).length k s (fnT P ct sy lps n fn c g) = true) :
    Env P (g :: ct) ((g.sym, g.rs.flatMap RK.sorts) :: sy) (updF φ g.sym (SX.autoRow (fnT P ct sy lps n fn c g) (sortsP g.ps) φ)) := by
  unfold rowOk at hT
  split at hT
  · rename_i id es hre
    simp only [Bool.and_eq_true] at hT
    obtain ⟨⟨hk, hso⟩, hlt⟩ := hT
    have hk := Nat.eq_of_beq_eq_true hk
    have hauto : ∀ fl, SX.autoRow (fnT P ct sy lps n fn c g) (sortsP g.ps) φ fl = es.map fun e => e.den (fun i => coe ((sortsP g.ps).getD i .any) (fl.getD i undef)) φ := by
      intro fl
      unfold SX.autoRow
      rw [hre]
    have hlts : ∀ {ρ ρ' : Nat → Value}, (∀ i, i < (sortsP g.ps).length → ρ i = ρ' i) → es.map (·.den ρ φ) = es.map (·.den ρ' φ) := by
      intro ρ ρ' hρ
      apply List.map_congr_left
      intro e he
      exact (lt_den φ hρ e (List.all_eq_true.1 hlt e he)).1
    refine H.add g _ hfr (fun args => ?_) ⟨callFunc_run hfn hb hnm, fun w xs fl hr hpx hfx => ?_, fun fl _ _ => by rw [him]; intro q hq; simp at hq⟩
    · rw [hauto, hrs]
      have F : Fits (cxP P ct sy g.ps).Γ (cxP P ct sy g.ps).S (fun i => coe ((sortsP g.ps ++ exS g.ps).getD i .any) (args.getD i undef)) φ := ⟨fun i => coe_has _ _, H.fit⟩
      have := soOkR_has F hso
      rw [hlts (ρ' := fun i => coe ((sortsP g.ps).getD i .any) (args.getD i undef)) (fun i hi => by
        rw [List.getD_eq_getElem?_getD (l := sortsP g.ps ++ _), List.getElem?_append_left hi, List.getD_eq_getElem?_getD (l := sortsP g.ps)])] at this
      simpa [RK.sorts] using this
    · rw [updF_self]
      obtain ⟨hlen, hlx⟩ := readsAll_len hr
      obtain ⟨ρ1, hρ1⟩ : ∃ ρ1 : Nat → Value, ρ1 = fun i => (fl ++ exV g.ps xs).getD i undef := ⟨_, rfl⟩
      have hρa : ∀ i, i < (sortsP g.ps).length → ρ1 i = fl.getD i undef := by
        intro i hi
        rw [hρ1]
        simp only
        rw [List.getD_eq_getElem?_getD, List.getElem?_append_left (by omega), List.getD_eq_getElem?_getD]
      obtain ⟨ha, hhas, hhx, hvw⟩ := argsV_is (φ := φ) (β := fun _ => none) (fm := ⟨((argsV 0 (sortsP g.ps).length g.ps).map (fixV g.fix)).length + (fn.ntmps - ((argsV 0 (sortsP g.ps).length g.ps).map (fixV g.fix)).length), none⟩) (a0 := #[]) [] fl ρ1 hv hr (fun j hj => by
        rw [List.length_nil, Nat.zero_add]; exact hρa j (by omega)) (fun j hj => by
        rw [hρ1]
        simp only
        rw [List.getD_eq_getElem?_getD, List.getElem?_append_right (by omega), show fl.length + j - fl.length = j by omega, List.getD_eq_getElem?_getD])
      rw [hlen] at ha hvw
      simp only [List.length_nil] at ha hvw
      have F : Fits (cxP P ct sy g.ps).Γ (cxP P ct sy g.ps).S ρ1 φ := ⟨fun i => by
        have := all2_get (All2.append hhas hhx) i
        rw [hρ1]
        exact this, H.fit⟩
      have hρc : (fun i => coe ((sortsP g.ps).getD i .any) (fl.getD i undef)) = fun i => fl.getD i undef := by
        funext i
        exact coe_id (all2_get hhas i)
      obtain ⟨T, hTT⟩ : ∃ T, T = fnT P ct sy lps n fn c g := ⟨_, rfl⟩
      refine calls_sx (cx := cxP P ct sy g.ps) (T := T) F H.snd (n := n) (ls := lps) (by rw [List.length_map, argsV_len]; exact hls) hfn hb (by rw [hTT]; rfl) hvw (fixVs_is (fix_here hfl hρa hfx) ha) (preFacts hpr hpx hρa (vwFacts_hold hvw)) ?_
      rw [← hTT] at hre hauto
      rw [← hTT]
      unfold rowE at hre
      split at hre
      · rename_i id' len cap σ
        split at hre
        · rename_i row hrow
          split at hre
          · rename_i hc
            rw [Bool.and_eq_true] at hc
            have hc1 := Nat.eq_of_beq_eq_true hc.1
            have hc2 := Nat.eq_of_beq_eq_true hc.2
            simp only [Option.map_eq_some_iff, Prod.mk.injEq] at hre
            obtain ⟨es', hes, rfl, rfl⟩ := hre
            intro β a w' x hM hx
            refine ⟨x, rfl, ?_, hM.m.low.below⟩
            obtain ⟨b, vs, Ty, hb1, hb2, hb3, hb4⟩ := hM.m.box id' row hrow
            have hvs := exsR_is hes hb4
            have hxl := exs_len hes
            have hx' : (SC.slc id' 0 len cap).is ρ1 φ β x := hx
            obtain ⟨b', hb', rfl⟩ := hx'
            rw [hb1] at hb'
            simp only [Option.some.injEq] at hb'
            subst hb'
            rw [hrs]
            show RK.gives w w' _ 0 (.row k s) _
            have hout : SX.autoRow (RTree.leaf (.one ⟨false, [.slc id' 0 len cap]⟩) σ) (sortsP g.ps) φ fl = vs := by
              rw [hauto, hρc, hvs]
              exact (hlts hρa).symm
            rw [hout]
            have hvl : vs.length = k := by rw [hvs]; simpa using hk
            refine ⟨b, Ty, ?_, ?_, ?_⟩
            · rw [hc2, hc1, hxl, hk]
            · rcases hb2 with h | h
              · exact h
              · exact absurd h (by simp)
            · rw [hb3]
              congr 2
              have : pick vs 0 k = vs := pick_all hvl
              rw [this]
          · exact absurd hre (by simp)
        · exact absurd hre (by simp)
      · exact absurd hre (by simp)
  · exact absurd hT (by simp)
end Go.SX
