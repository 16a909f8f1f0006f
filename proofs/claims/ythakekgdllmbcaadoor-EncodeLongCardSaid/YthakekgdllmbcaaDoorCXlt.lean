/- CX: calls answered by symbols where the start's blocks are known; laid tables; runs over them. -/
import Derived.Test.YthakekgdllmbcaaDoorCXl
import Derived.Lib.LaidTab
namespace Go.CX
open Go Go.RowKit Go.SX

section
variable {ρ : Nat → Value} {φ : Nat → List Value → List Value} {cx : Cx}
/-- A call answers the symbol, where the start's blocks stand. -/
def Con.SoundW (g : Con) (P : Program) (φ : Nat → List Value → List Value) (ws : World) : Prop := Enters P g.f ∧ ∀ (w : World) (xs fl : List Value), (∀ k, k < ws.heap.size → w.heap[k]? = ws.heap[k]?) → packs g.ps xs fl →
  Calls P g.f xs.toArray w fun e w' => e = .returned ((φ g.sym fl).getD 0 undef) ∧ Below w.heap.size w w'
theorem conX_okW {ws : Base} {cx : Cx} {φ : Nat → List Value → List Value} {g : Con} (hg : g.SoundW cx.P φ ws.toWorld) : ExtOk ws cx φ (conX cx g) := by
  intro f svs B n fs d h ρ β w xs N F hf hW hn ha
  unfold conX at h
  split at h
  · rename_i he
    have he := Nat.eq_of_beq_eq_true he
    subst he
    split at h
    · rename_i es hes
      simp only [Option.some.injEq, OR.ok.injEq] at h
      subst h
      refine ⟨hg.1 _ _, (hg.2 w xs _ hW.o.base.1 (flatC_is F hes ha)).mono ?_⟩
      rintro e w' ⟨rfl, hb⟩
      refine ⟨_, β, rfl, Ext.refl _, Newer.refl _ _ _, hW.grow hb, ?_⟩
      show _ = _
      simp only [E.den, toL_dens]
    · exact absurd h (by simp)
  · exact absurd h (by simp)
/-- Two answers. -/
def conX2 (cx : Cx) (g : Con) : ExtT := fun f args _ n _ => if Nat.beq f g.f then (match flatC cx g.ps args with
  | some es => some (.ok ⟨.tup [⟨false, [.e (.app g.sym 0 (toL es))]⟩, ⟨false, [.e (.app g.sym 1 (toL es))]⟩], [], n⟩)
  | none => none) else none
def Con.Sound2 (g : Con) (P : Program) (φ : Nat → List Value → List Value) (ws : World) : Prop := Enters P g.f ∧ ∀ (w : World) (xs fl : List Value), (∀ k, k < ws.heap.size → w.heap[k]? = ws.heap[k]?) → packs g.ps xs fl →
  Calls P g.f xs.toArray w fun e w' => e = .returned (.tuple #[(φ g.sym fl).getD 0 undef, (φ g.sym fl).getD 1 undef]) ∧ Below w.heap.size w w'
theorem conX2_ok {ws : Base} {cx : Cx} {φ : Nat → List Value → List Value} {g : Con} (hg : g.Sound2 cx.P φ ws.toWorld) : ExtOk ws cx φ (conX2 cx g) := by
  intro f svs B n fs d h ρ β w xs N F hf hW hn ha
  unfold conX2 at h
  split at h
  · rename_i he
    have he := Nat.eq_of_beq_eq_true he
    subst he
    split at h
    · rename_i es hes
      simp only [Option.some.injEq, OR.ok.injEq] at h
      subst h
      refine ⟨hg.1 _ _, (hg.2 w xs _ hW.o.base.1 (flatC_is F hes ha)).mono ?_⟩
      rintro e w' ⟨rfl, hb⟩
      refine ⟨_, β, rfl, Ext.refl _, Newer.refl _ _ _, hW.grow hb, ?_⟩
      refine ⟨[_, _], rfl, ?_, ?_, trivial⟩
      · show _ = _
        simp only [E.den, toL_dens]
      · show _ = _
        simp only [E.den, toL_dens]
    · exact absurd h (by simp)
  · exact absurd h (by simp)

/-- A number's text: of one cell, whatever literals stand behind it. -/
def numX (cx : Cx) (f sym : Nat) (s : So) (more : List Value) : ExtT := fun g args _ n _ => if Nat.beq g f then (match args with
  | .one ⟨false, [.e x]⟩ :: rest => if itoaX.sameLits rest more && soOk cx [s] [x] then some (.ok ⟨.one ⟨false, [.e (.app sym 0 (toL [x]))]⟩, [], n⟩) else none
  | _ => none) else none
theorem sameLits_is {β : Bk} : ∀ {ls : List SV} {bs xs : List Value}, itoaX.sameLits ls bs = true → All2 (SV.is ρ φ β) ls xs → xs = bs := by
  intro ls
  induction ls with
  | nil =>
    intro bs xs h ha
    cases bs with
    | nil => cases xs with | nil => rfl | cons _ _ => exact ha.elim
    | cons _ _ => simp [itoaX.sameLits] at h
  | cons a ls ih =>
    intro bs xs h ha
    unfold itoaX.sameLits at h
    split at h
    · rename_i e; cases e
    · rename_i a' ls' b bs' e1
      simp only [List.cons.injEq] at e1
      obtain ⟨rfl, rfl⟩ := e1
      rw [Bool.and_eq_true] at h
      have hb := Nat.eq_of_beq_eq_true h.1
      subst hb
      cases xs with
      | nil => exact ha.elim
      | cons x xs =>
        have hx : x = _ := ha.1
        rw [hx, ih h.2 ha.2]
        rfl
    · exact absurd h (by simp)
theorem numX_ok {ws : Base} {f sym : Nat} {s : So} {more : List Value} (hin : Enters cx.P f)
    (hc : ∀ (w : World) (v : Value), (∀ k, k < ws.heap.size → w.heap[k]? = ws.heap[k]?) → s.has v → Calls cx.P f (v :: more).toArray w fun e w' => e = .returned ((φ sym [v]).getD 0 undef) ∧ Below w.heap.size w w') :
    ExtOk ws cx φ (numX cx f sym s more) := by
  intro g svs B n fs d h ρ β w xs N F hf hW hn ha
  unfold numX at h
  split at h
  · rename_i he
    have he := Nat.eq_of_beq_eq_true he
    subst he
    split at h
    · rename_i x rest
      split at h
      · rename_i hb
        rw [Bool.and_eq_true] at hb
        simp only [Option.some.injEq, OR.ok.injEq] at h
        subst h
        cases xs with
        | nil => exact ha.elim
        | cons v xs =>
          have hv : v = x.den ρ φ := ha.1
          have hx := sameLits_is hb.1 ha.2
          subst hx
          have hs := soOk_has F hb.2
          have hs : s.has v := by rw [hv]; exact hs.1
          refine ⟨hin _ _, (hc w v hW.o.base.1 hs).mono ?_⟩
          rintro e w' ⟨rfl, hbl⟩
          refine ⟨_, β, rfl, Ext.refl _, Newer.refl _ _ _, hW.grow hbl, ?_⟩
          show _ = _
          rw [hv]
          simp only [E.den, toL_dens, List.map]
      · exact absurd h (by simp)
    · exact absurd h (by simp)
  · exact absurd h (by simp)

/-! ### Laid tables -/
def digs (g : Nat) (zs : List Int) : Bool := (List.range zs.length).all fun k => Int.ofNat (g / 2 ^ (64 * k) % 2 ^ 64) == zs.getD k 0
theorem vwT_of {P : Program} {w : World} {name : String} {k : IntKind} {zs : List Int} (h : Lib.TabIs P w name k zs) {b l g : Nat} (hb : P.globalNamed name = some b) (hl : l / 8 = zs.length) (hk : tabK (l % 8) = k) (hd : digs g zs = true) : VwT ⟨b, l, g, []⟩ w := by
  unfold Lib.TabIs World.var? at h
  rw [hb] at h
  simp only [Option.bind_some] at h
  have hlt : b < w.heap.size := by
    cases hq : w.heap[b]? with
    | none => rw [hq] at h; simp at h
    | some o => exact (Array.getElem?_eq_some_iff.1 hq).1
  refine ⟨rfl, hlt, fun i hi => ?_⟩
  have hi : i < zs.length := by rw [← hl]; exact hi
  have hz := List.all_eq_true.1 hd i (List.mem_range.2 hi)
  rw [beq_iff_eq] at hz
  show w.cell? ⟨b, i, none⟩ = some (.int (tabK (l % 8)) (Int.ofNat (g / 2 ^ (64 * i) % 2 ^ 64)))
  rw [hk, hz]
  cases hq : w.heap[b]? with
  | none => rw [hq] at h; simp at h
  | some o =>
    rw [hq] at h
    cases o with
    | cells c t m =>
      simp only [Option.some.injEq] at h
      subst h
      simp [World.cell?, hq]
      rw [List.getElem?_eq_getElem hi]; rfl
    | _ => simp at h

/-- The context of a run over laid tables. -/
def cxT (P : Program) (vw : List Vw) : Cx := { P, Γ := [], ct := [], vw := vw, sy := [] }
def answersT (P : Program) (vw : List Vw) (ext : ExtT) (n : Nat) (f : FuncId) : Bool := isTrue (callD (cxT P vw) ext (runH (cxT P vw) ext 0 hk0 n) 0 f [] (fun _ => none) 0 [])
/-- A function without arguments that answers true, where the laid tables stand as they are laid. -/
theorem calls_trueT {P : Program} (hname : namesOk P = true) {vw : List Vw} {ext : ExtT} {n : Nat} {f : FuncId} (h : answersT P vw ext n f = true) (w : World) (hvw : ∀ v ∈ vw, VwT v w) (hext : ExtOk ⟨w, vw, gt0⟩ (cxT P vw) (fun _ _ => []) ext) :
    Calls P f #[] w fun e w' => e = .returned (.bool true) ∧ Below w.heap.size w w' := by
  unfold answersT isTrue at h
  split at h
  · rename_i d hd
    split at h
    · rename_i hv
      have := calls_runV (cx := cxT P vw) (ρ := fun _ => undef) (φ := fun _ _ => []) (namesOk_spec hname) (xs := []) (w := w) rfl (fun v hv => Or.inl (hvw v hv)) hext (hk0_ok _ _ _) hd (fits0 P) (fun p hp => by simp at hp) trivial
      refine this.mono ?_
      rintro e w' ⟨x, β', rfl, hx, hb⟩
      rw [hv] at hx
      have hx : x = _ := hx
      subst hx
      exact ⟨rfl, hb⟩
    · exact absurd h (by simp)
  · exact absurd h (by simp)
end
end Go.CX

/- CX: calls at a known value of many cells, whose answers, truths, a list tells; runs of the kernel carry the list out. -/
namespace Go.CX
open Go Go.RowKit Go.SX

section
variable {ρ : Nat → Value} {φ : Nat → List Value → List Value} {cx : Cx}
def litF : List (List E × Bool) → List E → Option Bool
  | [], _ => none
  | r :: rs, es => if eqvL es r.1 then some r.2 else litF rs es
def litT (rows : List (List E × Bool)) : List SV → Option Bool
  | [.one ⟨true, cs⟩] => match exsC cs with
    | some es => litF rows es
    | none => none
  | _ => none
theorem litF_mem : ∀ {rows : List (List E × Bool)} {es : List E} {b : Bool}, litF rows es = some b → (es, b) ∈ rows
  | [], _, _, h => by cases h
  | r :: rs, es, b, h => by
    unfold litF at h
    split at h
    · rename_i he
      simp only [Option.some.injEq] at h
      subst h
      rw [eqvL_eq he]
      exact List.mem_cons_self ..
    · exact List.mem_cons_of_mem _ (litF_mem h)
/-- One row, run. -/
def litRun (P : Program) (n : Nat) (f : FuncId) (es : List E) (b : Bool) : Bool :=
  match callD (cxT P []) ext0 (runH (cxT P []) ext0 0 hk0 n) 0 f [.one ⟨true, es.map .e⟩] (fun _ => none) 0 [] with
  | .ok d => match d.v with
    | .one ⟨false, [.e (.bool c)]⟩ => c == b
    | _ => false
  | _ => false
theorem es_is : ∀ (es : List E) (β : Bk), All2 (SC.is ρ φ β) (es.map .e) (es.map (·.den ρ φ))
  | [], _ => trivial
  | _ :: es, β => ⟨rfl, es_is es β⟩
theorem litRun_ok {P : Program} (hname : namesOk P = true) {n : Nat} {f : FuncId} {es : List E} {b : Bool} (h : litRun P n f es b = true) (F : Fits (cxT P []).Γ (cxT P []).S ρ φ) (w : World) :
    Calls P f #[.agg (es.map (·.den ρ φ)).toArray] w fun e w' => e = .returned (.bool b) ∧ Below w.heap.size w w' := by
  unfold litRun at h
  split at h
  · rename_i d hd
    split at h
    · rename_i c hv
      have hcb : c = b := by simpa using h
      subst hcb
      have := calls_runV (gt := gt0) (cx := cxT P []) (ρ := ρ) (φ := φ) (namesOk_spec hname) (xs := [.agg (es.map (·.den ρ φ)).toArray]) (w := w) rfl (fun v hv => by simp [cxT] at hv) (ext0_ok _ _ _) (hk0_ok _ _ _) hd F (fun p hp => by simp at hp) ⟨⟨_, rfl, es_is es _⟩, trivial⟩
      refine Calls.mono this ?_
      rintro e w' ⟨x, β', rfl, hx, hbl⟩
      rw [hv] at hx
      have hx : x = .bool c := hx
      subst hx
      exact ⟨rfl, hbl⟩
    · exact absurd h (by simp)
  · exact absurd h (by simp)
/-- All rows. -/
theorem litX_ok {ws : Base} {n : Nat} {f : FuncId} {rows : List (List E × Bool)} (hname : namesOk cx.P = true) (hin : Enters cx.P f) (hΓ : cx.Γ = []) (hS : cx.sy = []) (h : ∀ r ∈ rows, litRun cx.P n f r.1 r.2 = true) : ExtOk ws cx φ (boolX f (litT rows)) := by
  refine boolX_ok hin fun svs b ρ β xs w hb F ha _ => ?_
  unfold litT at hb
  split at hb
  · rename_i cs
    split at hb
    · rename_i es hes
      obtain ⟨vs, rfl, hv⟩ : ∃ vs : List Value, xs = [.agg vs.toArray] ∧ All2 (SC.is ρ φ β) cs vs := by
        match xs, ha with
        | [x], ha =>
          obtain ⟨vs, rfl, hv⟩ := ha.1
          exact ⟨vs, rfl, hv⟩
      have e := exsC_is hes hv
      subst e
      refine litRun_ok hname (h _ (litF_mem hb)) ?_ w
      have : (cxT cx.P []).Γ = cx.Γ := hΓ.symm
      rw [this]
      have : (cxT cx.P []).S = cx.S := by unfold Cx.S cxT; rw [hS]
      rw [this]
      exact F
    · cases hb
  · cases hb
/-! ### Calls that answer a value that is known -/
def cxV (P : Program) (Γ : List So) (vw : List Vw) : Cx := { P, Γ := Γ, ct := [], vw := vw, sy := [] }
def isVal (a : Bool) (es : List E) : SV → Bool
  | .one ⟨b, cs⟩ => (a == b) && (match exsC cs with
    | some es' => eqvL es' es
    | none => false)
  | _ => false
def isUnit : SV → Bool
  | .tup [] => true
  | _ => false
def valRun (P : Program) (Γ : List So) (vw : List Vw) (n : Nat) (f : FuncId) (args : List SV) (K : SV → Bool) : Bool :=
  match callD (cxV P Γ vw) ext0 (runH (cxV P Γ vw) ext0 0 hk0 n) 0 f args (fun _ => none) 0 [] with
  | .ok d => K d.v
  | _ => false
theorem valRun_any {P : Program} {Γ : List So} {vw : List Vw} (hname : namesOk P = true) {n : Nat} {f : FuncId} {args : List SV} {K : SV → Bool} (h : valRun P Γ vw n f args K = true) (F : Fits Γ (symS []) ρ φ) {w : World} (hvw : ∀ v ∈ vw, VwC v ρ w) {xs : List Value} (ha : All2 (SV.is ρ φ fun _ => none) args xs) :
    Calls P f xs.toArray w fun e w' => (∃ x v β', K v = true ∧ e = .returned x ∧ v.is ρ φ β' x) ∧ Below w.heap.size w w' := by
  unfold valRun at h
  split at h
  · rename_i d hd
    refine (calls_runV (gt := gt0) (cx := cxV P Γ vw) (ρ := ρ) (φ := φ) (namesOk_spec hname) (w := w) rfl hvw (ext0_ok _ _ _) (hk0_ok _ _ _) hd F (fun p hp => by simp at hp) ha).mono ?_
    rintro e w' ⟨x, β', rfl, hx, hbl⟩
    exact ⟨⟨x, d.v, β', h, rfl, hx⟩, hbl⟩
  · exact absurd h (by simp)
theorem isVal_agg {es : List E} {v : SV} {β : Bk} {x : Value} (h : isVal true es v = true) (hx : v.is ρ φ β x) : x = .agg (es.map (·.den ρ φ)).toArray := by
  unfold isVal at h
  split at h
  · rename_i b cs
    rw [Bool.and_eq_true] at h
    have hb : b = true := by simpa using h.1.symm
    subst hb
    split at h
    · rename_i es' he
      obtain ⟨vs, rfl, hv⟩ := hx
      rw [exsC_is he hv, eqvL_eq h.2]
    · cases h.2
  · cases h
theorem isVal_one {e : E} {v : SV} {β : Bk} {x : Value} (h : isVal false [e] v = true) (hx : v.is ρ φ β x) : x = e.den ρ φ := by
  unfold isVal at h
  split at h
  · rename_i b cs
    rw [Bool.and_eq_true] at h
    have hb : b = false := by simpa using h.1.symm
    subst hb
    split at h
    · rename_i es' he
      match cs, he, hx with
      | [c], he, hx =>
        have hx : c.is ρ φ β x := hx
        have := exsC_is (ρ := ρ) (φ := φ) (β := β) he (vs := [x]) ⟨hx, trivial⟩
        rw [eqvL_eq h.2] at this
        simpa using this
    · cases h.2
  · cases h
theorem isUnit_is {v : SV} {β : Bk} {x : Value} (h : isUnit v = true) (hx : v.is ρ φ β x) : x = .tuple #[] := by
  unfold isUnit at h
  split at h
  · obtain ⟨vs, rfl, hv⟩ := hx
    cases vs with
    | nil => rfl
    | cons _ _ => exact hv.elim
  · cases h
end
end Go.CX
