/- CX: calls answered by symbols where the start's blocks are known; laid tables; runs over them. -/
import Derived.Test.YtbfemcblcdfaaaaGreatDoorCXl
import Derived.Lib.LaidTab
namespace Go.CX
open Go Go.RowKit Go.SX

section
variable {ρ : Nat → Value} {φ : Nat → List Value → List Value} {cx : Cx}
/-- A call answers the symbol, where the start's blocks stand. -/
def Con.SoundW (g : Con) (P : Program) (φ : Nat → List Value → List Value) (ws : World) : Prop := Enters P g.f ∧ ∀ (w : World) (xs fl : List Value), (∀ k, k < ws.heap.size → w.heap[k]? = ws.heap[k]?) → packs g.ps xs fl →
  Calls P g.f xs.toArray w fun e w' => e = .returned ((φ g.sym fl).getD 0 undef) ∧ Below w.heap.size w w'
theorem conX_okW {ws : Base} {cx : Cx} {φ : Nat → List Value → List Value} {g : Con} (hg : g.SoundW cx.P φ ws.toWorld) : ExtOk ws cx φ (conX cx g) := by
  intro f svs B n fs d h ρ β w xs N F hf hW hn ha
  unfold conX at h
  split at h
  · rename_i he
    have he := Nat.eq_of_beq_eq_true he
    subst he
    split at h
    · rename_i es hes
      simp only [Option.some.injEq, OR.ok.injEq] at h
      subst h
      refine ⟨hg.1 _ _, (hg.2 w xs _ hW.o.base.1 (flatC_is F hes ha)).mono ?_⟩
      rintro e w' ⟨rfl, hb⟩
      refine ⟨_, β, rfl, Ext.refl _, Newer.refl _ _ _, hW.grow hb, ?_⟩
      show _ = _
      simp only [E.den, toL_dens]
    · exact absurd h (by simp)
  · exact absurd h (by simp)
/-- Two answers. -/
def conX2 (cx : Cx) (g : Con) : ExtT := fun f args _ n _ => if Nat.beq f g.f then (match flatC cx g.ps args with
  | some es => some (.ok ⟨.tup [⟨false, [.e (.app g.sym 0 (toL es))]⟩, ⟨false, [.e (.app g.sym 1 (toL es))]⟩], [], n⟩)
  | none => none) else none
def Con.Sound2 (g : Con) (P : Program) (φ : Nat → List Value → List Value) (ws : World) : Prop := Enters P g.f ∧ ∀ (w : World) (xs fl : List Value), (∀ k, k < ws.heap.size → w.heap[k]? = ws.heap[k]?) → packs g.ps xs fl →
  Calls P g.f xs.toArray w fun e w' => e = .returned (.tuple #[(φ g.sym fl).getD 0 undef, (φ g.sym fl).getD 1 undef]) ∧ Below w.heap.size w w'
theorem conX2_ok {ws : Base} {cx : Cx} {φ : Nat → List Value → List Value} {g : Con} (hg : g.Sound2 cx.P φ ws.toWorld) : ExtOk ws cx φ (conX2 cx g) := by
  intro f svs B n fs d h ρ β w xs N F hf hW hn ha
  unfold conX2 at h
  split at h
  · rename_i he
    have he := Nat.eq_of_beq_eq_true he
    subst he
    split at h
    · rename_i es hes
      simp only [Option.some.injEq, OR.ok.injEq] at h
      subst h
      refine ⟨hg.1 _ _, (hg.2 w xs _ hW.o.base.1 (flatC_is F hes ha)).mono ?_⟩
      rintro e w' ⟨rfl, hb⟩
      refine ⟨_, β, rfl, Ext.refl _, Newer.refl _ _ _, hW.grow hb, ?_⟩
      refine ⟨[_, _], rfl, ?_, ?_, trivial⟩
      · show _ = _
        simp only [E.den, toL_dens]
      · show _ = _
        simp only [E.den, toL_dens]
    · exact absurd h (by simp)
  · exact absurd h (by simp)

/-- A number's text: of one cell, whatever literals stand behind it. -/
def numX (cx : Cx) (f sym : Nat) (s : So) (more : List Value) : ExtT := fun g args _ n _ => if Nat.beq g f then (match args with
  | .one ⟨false, [.e x]⟩ :: rest => if itoaX.sameLits rest more && soOk cx [s] [x] then some (.ok ⟨.one ⟨false, [.e (.app sym 0 (toL [x]))]⟩, [], n⟩) else none
  | _ => none) else none
theorem sameLits_is {β : Bk} : ∀ {ls : List SV} {bs xs : List Value}, itoaX.sameLits ls bs = true → All2 (SV.is ρ φ β) ls xs → xs = bs := by
  intro ls
  induction ls with
  | nil =>
    intro bs xs h ha
    cases bs with
    | nil => cases xs with | nil => rfl | cons _ _ => exact ha.elim
    | cons _ _ => simp [itoaX.sameLits] at h
  | cons a ls ih =>
    intro bs xs h ha
    unfold itoaX.sameLits at h
    split at h
    · rename_i e; cases e
    · rename_i a' ls' b bs' e1
      simp only [List.cons.injEq] at e1
      obtain ⟨rfl, rfl⟩ := e1
      rw [Bool.and_eq_true] at h
      have hb := Nat.eq_of_beq_eq_true h.1
      subst hb
      cases xs with
      | nil => exact ha.elim
      | cons x xs =>
        have hx : x = _ := ha.1
        rw [hx, ih h.2 ha.2]
        rfl
    · exact absurd h (by simp)
theorem numX_ok {ws : Base} {f sym : Nat} {s : So} {more : List Value} (hin : Enters cx.P f)
    (hc : ∀ (w : World) (v : Value), (∀ k, k < ws.heap.size → w.heap[k]? = ws.heap[k]?) → s.has v → Calls cx.P f (v :: more).toArray w fun e w' => e = .returned ((φ sym [v]).getD 0 undef) ∧ Below w.heap.size w w') :
    ExtOk ws cx φ (numX cx f sym s more) := by
  intro g svs B n fs d h ρ β w xs N F hf hW hn ha
  unfold numX at h
  split at h
  · rename_i he
    have he := Nat.eq_of_beq_eq_true he
    subst he
    split at h
    · rename_i x rest
      split at h
      · rename_i hb
        rw [Bool.and_eq_true] at hb
        simp only [Option.some.injEq, OR.ok.injEq] at h
        subst h
        cases xs with
        | nil => exact ha.elim
        | cons v xs =>
          have hv : v = x.den ρ φ := ha.1
          have hx := sameLits_is hb.1 ha.2
          subst hx
          have hs := soOk_has F hb.2
          have hs : s.has v := by rw [hv]; exact hs.1
          refine ⟨hin _ _, (hc w v hW.o.base.1 hs).mono ?_⟩
          rintro e w' ⟨rfl, hbl⟩
          refine ⟨_, β, rfl, Ext.refl _, Newer.refl _ _ _, hW.grow hbl, ?_⟩
          show _ = _
          rw [hv]
          simp only [E.den, toL_dens, List.map]
      · exact absurd h (by simp)
    · exact absurd h (by simp)
  · exact absurd h (by simp)

/-! ### Laid tables -/
def digs (g : Nat) (zs : List Int) : Bool := (List.range zs.length).all fun k => Int.ofNat (g / 2 ^ (64 * k) % 2 ^ 64) == zs.getD k 0
theorem vwT_of {P : Program} {w : World} {name : String} {k : IntKind} {zs : List Int} (h : Lib.TabIs P w name k zs) {b l g : Nat} (hb : P.globalNamed name = some b) (hl : l / 8 = zs.length) (hk : tabK (l % 8) = k) (hd : digs g zs = true) : VwT ⟨b, l, g, []⟩ w := by
  unfold Lib.TabIs World.var? at h
  rw [hb] at h
  simp only [Option.bind_some] at h
  have hlt : b < w.heap.size := by
    cases hq : w.heap[b]? with
    | none => rw [hq] at h; simp at h
    | some o => exact (Array.getElem?_eq_some_iff.1 hq).1
  refine ⟨rfl, hlt, fun i hi => ?_⟩
  have hi : i < zs.length := by rw [← hl]; exact hi
  have hz := List.all_eq_true.1 hd i (List.mem_range.2 hi)
  rw [beq_iff_eq] at hz
  show w.cell? ⟨b, i, none⟩ = some (.int (tabK (l % 8)) (Int.ofNat (g / 2 ^ (64 * i) % 2 ^ 64)))
  rw [hk, hz]
  cases hq : w.heap[b]? with
  | none => rw [hq] at h; simp at h
  | some o =>
    rw [hq] at h
    cases o with
    | cells c t m =>
      simp only [Option.some.injEq] at h
      subst h
      simp [World.cell?, hq]
      rw [List.getElem?_eq_getElem hi]; rfl
    | _ => simp at h

/-- The context of a run over laid tables. -/
def cxT (P : Program) (vw : List Vw) : Cx := { P, Γ := [], ct := [], vw := vw, sy := [] }
def answersT (P : Program) (vw : List Vw) (ext : ExtT) (n : Nat) (f : FuncId) : Bool := isTrue (callD (cxT P vw) ext (runH (cxT P vw) ext 0 hk0 n) 0 f [] (fun _ => none) 0 [])
/-- A function without arguments that answers true, where the laid tables stand as they are laid. -/
theorem calls_trueT {P : Program} (hname : namesOk P = true) {vw : List Vw} {ext : ExtT} {n : Nat} {f : FuncId} (h : answersT P vw ext n f = true) (w : World) (hvw : ∀ v ∈ vw, VwT v w) (hext : ExtOk ⟨w, vw, gt0⟩ (cxT P vw) (fun _ _ => []) ext) :
    Calls P f #[] w fun e w' => e = .returned (.bool true) ∧ Below w.heap.size w w' := by
  unfold answersT isTrue at h
  split at h
  · rename_i d hd
    split at h
    · rename_i hv
      have := calls_runV (cx := cxT P vw) (ρ := fun _ => undef) (φ := fun _ _ => []) (namesOk_spec hname) (xs := []) (w := w) rfl (fun v hv => Or.inl (hvw v hv)) hext (hk0_ok _ _ _) hd (fits0 P) (fun p hp => by simp at hp) trivial
      refine this.mono ?_
      rintro e w' ⟨x, β', rfl, hx, hb⟩
      rw [hv] at hx
      have hx : x = _ := hx
      subst hx
      exact ⟨rfl, hb⟩
    · exact absurd h (by simp)
  · exact absurd h (by simp)
end
end Go.CX

/- CX: trees of truths, carried on at their ends: two functions answer alike. -/
namespace Go.CX
open Go Go.RowKit Go.SX

/-- The number that a variable is known to be. -/
def knownV (cx : Cx) : Facts → Nat → Option Int
  | [], _ => none
  | (.cmp .eql (.var j) (.int k n), true) :: fs, i => if Nat.beq j i && cx.so (.var j) == .int k then some n else knownV cx fs i
  | _ :: fs, i => knownV cx fs i
/-- The number that a term is known to be. -/
def evalE (cx : Cx) (fs : Facts) : E → Option (IntKind × Int)
  | .int k n => some (k, n)
  | .var i => match cx.so (.var i) with
    | .int k => (knownV cx fs i).map fun n => (k, n)
    | _ => none
  | .bin op k a b => match evalE cx fs a, evalE cx fs b with
    | some (_, x), some (_, y) => match (E.bin op k (.int k x) (.int k y)).den (fun _ => undef) (fun _ _ => []) with
      | .int k' n => some (k', n)
      | _ => none
    | _, _ => none
  | _ => none
/-- A truth that the facts decide, or known numbers. -/
def decK (cx : Cx) (fs : Facts) (x : E) : Option Bool := match dec cx fs x with
  | some b => some b
  | none => match x with
    | .cmp op a b => match evalE cx fs a, evalE cx fs b with
      | some (_, m), some (_, n) => some (icmp op m n)
      | _, _ => none
    | _ => none
/-- On, whichever truth a term has. -/
def splitB (cx : Cx) : Nat → Facts → E → (Facts → Bool → Bool) → Bool
  | 0, _, _, _ => false
  | n + 1, fs, x, K => match decK cx fs x with
    | some b => K fs b
    | none => match x with
      | .ite c a b => splitB cx n fs c (fun fs' v => if v then splitB cx n fs' a K else splitB cx n fs' b K)
      | x => match cx.so x with
        | .bool => K (addF cx x true fs) true && K (addF cx x false fs) false
        | _ => false
def trB (cx : Cx) : Tr → Facts → (Facts → Bool → Bool) → Bool
  | .leaf v, fs, K => match v with
    | .one ⟨false, [.e x]⟩ => splitB cx 60 fs x K
    | _ => false
  | .ite c t e, fs, K => splitB cx 60 fs c (fun fs' v => if v then trB cx t fs' K else trB cx e fs' K)
  | .stuck, _, _ => false
section
variable {ρ : Nat → Value} {φ : Nat → List Value → List Value} {cx : Cx}
theorem knownV_ok (F : Fits cx.Γ cx.S ρ φ) : ∀ {fs : Facts} {i : Nat} {n : Int}, fs.hold ρ φ → knownV cx fs i = some n → ∃ k, cx.so (.var i) = .int k ∧ ρ i = .int k n
  | [], _, _, _, h => by simp [knownV] at h
  | p :: fs, i, n, hf, h => by
    have rest : knownV cx fs i = some n → ∃ k, cx.so (.var i) = .int k ∧ ρ i = .int k n := fun h => knownV_ok F (fun q hq => hf q (List.mem_cons_of_mem _ hq)) h
    unfold knownV at h
    split at h
    · rename_i heq; cases heq
    · rename_i j k m fs' heq
      simp only [List.cons.injEq] at heq
      obtain ⟨rfl, rfl⟩ := heq
      split at h
      · rename_i hc
        rw [Bool.and_eq_true, beq_iff_eq] at hc
        obtain ⟨hj, hs⟩ := hc
        have hj := Nat.eq_of_beq_eq_true hj
        subst hj
        simp only [Option.some.injEq] at h
        subst h
        have hv := E.so_has F (.var j)
        rw [show (E.var j).so cx.Γ cx.S = .int k from hs] at hv
        obtain ⟨m', h1, _⟩ := hv
        have h1 : ρ j = .int k m' := h1
        have he := hf (.cmp .eql (.var j) (.int k m), true) List.mem_cons_self
        simp only [E.den, h1, vint_int, icmp, Value.bool.injEq] at he
        have : m' = m := by simpa using he
        subst this
        exact ⟨k, hs, h1⟩
      · exact rest h
    · rename_i q fs' _ heq
      simp only [List.cons.injEq] at heq
      obtain ⟨rfl, rfl⟩ := heq
      exact rest h
theorem evalE_ok (F : Fits cx.Γ cx.S ρ φ) {fs : Facts} (hf : fs.hold ρ φ) : ∀ {e : E} {k : IntKind} {n : Int}, evalE cx fs e = some (k, n) → e.den ρ φ = .int k n := by
  intro e
  induction e with
  | int k' n' => intro k n h; simp only [evalE, Option.some.injEq, Prod.mk.injEq] at h; obtain ⟨rfl, rfl⟩ := h; rfl
  | var i =>
    intro k n h
    simp only [evalE] at h
    split at h
    · rename_i k' hs
      simp only [Option.map_eq_some_iff, Prod.mk.injEq] at h
      obtain ⟨m, hm, rfl, rfl⟩ := h
      obtain ⟨k2, hs2, hv⟩ := knownV_ok F hf hm
      rw [hs] at hs2
      simp only [So.int.injEq] at hs2
      subst hs2
      exact hv
    · cases h
  | bin op k' a b iha ihb =>
    intro k n h
    simp only [evalE] at h
    split at h
    · rename_i ka x kb y ha hb
      split at h
      · rename_i k2 m hd
        simp only [Option.some.injEq, Prod.mk.injEq] at h
        obtain ⟨rfl, rfl⟩ := h
        rw [← hd]
        simp only [E.den, iha ha, ihb hb, vint_int]
      · cases h
    · cases h
  | _ => intro k n h; simp [evalE] at h
theorem decK_sound (F : Fits cx.Γ cx.S ρ φ) {fs : Facts} (hf : fs.hold ρ φ) {x : E} {b : Bool} (h : decK cx fs x = some b) : x.den ρ φ = .bool b := by
  unfold decK at h
  split at h
  · rename_i b' hd
    simp only [Option.some.injEq] at h
    subst h
    exact dec_sound F hf hd
  · split at h
    · rename_i op a c
      split at h
      · rename_i m n ha hb
        simp only [Option.some.injEq] at h
        subst h
        simp only [E.den, evalE_ok F hf ha, evalE_ok F hf hb, vint_int]
      · cases h
    · cases h
theorem splitB_ok (C : CtSound cx φ) (F : Fits cx.Γ cx.S ρ φ) : ∀ (n : Nat) (fs : Facts) (x : E) (K : Facts → Bool → Bool), fs.hold ρ φ → splitB cx n fs x K = true →
    ∃ b fs', fs'.hold ρ φ ∧ K fs' b = true ∧ x.den ρ φ = .bool b
  | 0, _, _, _, _, h => by simp [splitB] at h
  | n + 1, fs, x, K, hf, h => by
    unfold splitB at h
    split at h
    · rename_i b hb
      exact ⟨b, fs, hf, h, decK_sound F hf hb⟩
    · split at h
      · rename_i c a b _
        obtain ⟨v, fs', hf', hK, hc⟩ := splitB_ok C F n fs c _ hf h
        cases v
        · obtain ⟨r, fs2, h1, h2, h3⟩ := splitB_ok C F n fs' b K hf' (by simpa using hK)
          exact ⟨r, fs2, h1, h2, by simp [E.den, hc, h3]⟩
        · obtain ⟨r, fs2, h1, h2, h3⟩ := splitB_ok C F n fs' a K hf' (by simpa using hK)
          exact ⟨r, fs2, h1, h2, by simp [E.den, hc, h3]⟩
      · split at h
        · rename_i hs
          rw [Bool.and_eq_true] at h
          have hb := so_bool F hs
          cases hv : vbool (x.den ρ φ)
          · rw [hv] at hb
            exact ⟨false, _, addF_hold F C x false hf hb, h.2, hb⟩
          · rw [hv] at hb
            exact ⟨true, _, addF_hold F C x true hf hb, h.1, hb⟩
        · cases h
theorem trB_ok (C : CtSound cx φ) (F : Fits cx.Γ cx.S ρ φ) : ∀ (T : Tr) (fs : Facts) (K : Facts → Bool → Bool), fs.hold ρ φ → trB cx T fs K = true →
    ∃ b fs', fs'.hold ρ φ ∧ K fs' b = true ∧ T.all ρ φ (fun v => ∀ x β', v.is ρ φ β' x → x = .bool b)
  | .leaf v, fs, K, hf, h => by
    unfold trB at h
    split at h
    · rename_i x
      obtain ⟨b, fs', h1, h2, h3⟩ := splitB_ok C F 60 fs x K hf h
      refine ⟨b, fs', h1, h2, fun y β' hy => ?_⟩
      have hy : y = x.den ρ φ := hy
      rw [hy, h3]
    · cases h
  | .ite c t e, fs, K, hf, h => by
    unfold trB at h
    obtain ⟨v, fs1, hf1, hK, hb⟩ := splitB_ok C F 60 fs c _ hf h
    cases v
    · obtain ⟨b, fs', h1, h2, h3⟩ := trB_ok C F e fs1 K hf1 (by simpa using hK)
      exact ⟨b, fs', h1, h2, ⟨fun hc => absurd (hb.symm.trans hc) (by simp), fun _ => h3⟩⟩
    · obtain ⟨b, fs', h1, h2, h3⟩ := trB_ok C F t fs1 K hf1 (by simpa using hK)
      exact ⟨b, fs', h1, h2, ⟨fun _ => h3, fun hc => absurd (hb.symm.trans hc) (by simp)⟩⟩
  | .stuck, fs, K, hf, h => by simp [trB] at h
theorem Tr.all_mono {K K' : SV → Prop} (hK : ∀ v, K v → K' v) : ∀ {T : Tr}, T.all ρ φ K → T.all ρ φ K'
  | .leaf v, h => hK v h
  | .ite _ _ _, h => ⟨fun hc => all_mono hK (h.1 hc), fun hc => all_mono hK (h.2 hc)⟩
  | .stuck, h => h.elim
def subC (cx : Cx) (fs : Facts) : SC → SC
  | .e (.var i) => match cx.so (.var i) with
    | .int k => match knownV cx fs i with
      | some n => .e (.int k n)
      | none => .e (.var i)
    | _ => .e (.var i)
  | c => c
def subS (cx : Cx) (fs : Facts) : SV → SV
  | .one p => .one ⟨p.agg, p.cs.map (subC cx fs)⟩
  | s => s
theorem subC_ok (F : Fits cx.Γ cx.S ρ φ) {fs : Facts} (hf : fs.hold ρ φ) {β : Bk} {c : SC} {v : Value} (h : c.is ρ φ β v) : (subC cx fs c).is ρ φ β v := by
  unfold subC
  split
  · rename_i i
    split
    · rename_i k hs
      split
      · rename_i n hk
        obtain ⟨k', hs', hv⟩ := knownV_ok F hf hk
        rw [hs] at hs'
        simp only [So.int.injEq] at hs'
        subst hs'
        have h : v = ρ i := h
        show v = .int k n
        rw [h, hv]
      · exact h
    · exact h
  · exact h
theorem subL_ok (F : Fits cx.Γ cx.S ρ φ) {fs : Facts} (hf : fs.hold ρ φ) {β : Bk} : ∀ {cs : List SC} {vs : List Value}, All2 (SC.is ρ φ β) cs vs → All2 (SC.is ρ φ β) (cs.map (subC cx fs)) vs
  | [], [], _ => trivial
  | _ :: _, _ :: _, h => ⟨subC_ok F hf h.1, subL_ok F hf h.2⟩
  | [], _ :: _, h => h.elim
  | _ :: _, [], h => h.elim
theorem subS_ok (F : Fits cx.Γ cx.S ρ φ) {fs : Facts} (hf : fs.hold ρ φ) {β : Bk} {s : SV} {v : Value} (h : s.is ρ φ β v) : (subS cx fs s).is ρ φ β v := by
  unfold subS
  split
  · rename_i p
    obtain ⟨ag, cs⟩ := p
    cases ag
    · match cs, h with
      | [c], h => exact subC_ok F hf h
    · obtain ⟨vs, hv, ha⟩ := h
      exact ⟨vs, hv, subL_ok F hf ha⟩
  · exact h
theorem subA_ok (F : Fits cx.Γ cx.S ρ φ) {fs : Facts} (hf : fs.hold ρ φ) {β : Bk} : ∀ {ss : List SV} {vs : List Value}, All2 (SV.is ρ φ β) ss vs → All2 (SV.is ρ φ β) (ss.map (subS cx fs)) vs
  | [], [], _ => trivial
  | _ :: _, _ :: _, h => ⟨subS_ok F hf h.1, subA_ok F hf h.2⟩
  | [], _ :: _, h => h.elim
  | _ :: _, [], h => h.elim
/-- Both functions answer the same truth. -/
def alike (cx : Cx) (ext : ExtT) (n D : Nat) (f g : FuncId) (args args' : List SV) (k : Nat) (fs : Facts) : Bool :=
  trB cx (treeD cx ext n D f args k fs) fs (fun fs' b => trB cx (treeD cx ext n D g (args'.map (subS cx fs')) k fs') fs' (fun _ b' => b == b'))
theorem alike_ok {ext : ExtT} {n D : Nat} {f g : FuncId} {args args' : List SV} {xs ys : List Value} {k : Nat} {fs : Facts} (hct : cx.ct = []) (hname : ∀ (f : FuncId) (fn : Func), cx.P.funcs[f]? = some fn → (fn.name == "runtime.NumGoroutine") = false)
    (F : Fits cx.Γ cx.S ρ φ) (hf : fs.hold ρ φ) (ha : All2 (SV.is ρ φ fun _ => none) args xs) (ha' : All2 (SV.is ρ φ fun _ => none) args' ys) (h : alike cx ext n D f g args args' k fs = true) :
    ∃ b, ∀ w : World, (∀ v ∈ cx.vw, VwC v ρ w) → ExtOk ⟨w, cx.vw, gt0⟩ cx φ ext → (Calls cx.P f xs.toArray w fun e w' => e = .returned (.bool b) ∧ Below w.heap.size w w') ∧ (Calls cx.P g ys.toArray w fun e w' => e = .returned (.bool b) ∧ Below w.heap.size w w') := by
  have C : CtSound cx φ := by
    intro g hg
    rw [hct] at hg
    simp at hg
  obtain ⟨b, fs1, h1, h2, h3⟩ := trB_ok C F _ fs _ hf h
  obtain ⟨b', fs2, h4, h5, h6⟩ := trB_ok C F _ fs1 _ h1 h2
  have hb : b = b' := by simpa using h5
  subst hb
  refine ⟨b, fun w hvw hext => ⟨?_, ?_⟩⟩
  · exact tree_sound hct hname hvw hext F ha k fs hf (Tr.all_mono (fun v hv x β' w' hx hbl => ⟨by rw [hv x β' hx], hbl⟩) h3)
  · exact tree_sound hct hname hvw hext F (subA_ok F h1 ha') k fs1 h1 (Tr.all_mono (fun v hv x β' w' hx hbl => ⟨by rw [hv x β' hx], hbl⟩) h6)
/-- The same, each function carried out once. -/
def alikeC (cx : Cx) (ext : ExtT) (n D : Nat) (f g : FuncId) (args args' : List SV) (k : Nat) (fs : Facts) : Bool :=
  trB cx (treeD cx ext n D f args k fs) fs (fun fs' b => trB cx (treeD cx ext n D g args' k fs) fs' (fun _ b' => b == b'))
theorem alikeC_ok {ext : ExtT} {n D : Nat} {f g : FuncId} {args args' : List SV} {xs ys : List Value} {k : Nat} {fs : Facts} (hct : cx.ct = []) (hname : ∀ (f : FuncId) (fn : Func), cx.P.funcs[f]? = some fn → (fn.name == "runtime.NumGoroutine") = false)
    (F : Fits cx.Γ cx.S ρ φ) (hf : fs.hold ρ φ) (ha : All2 (SV.is ρ φ fun _ => none) args xs) (ha' : All2 (SV.is ρ φ fun _ => none) args' ys) (h : alikeC cx ext n D f g args args' k fs = true) :
    ∃ b, ∀ w : World, (∀ v ∈ cx.vw, VwC v ρ w) → ExtOk ⟨w, cx.vw, gt0⟩ cx φ ext → (Calls cx.P f xs.toArray w fun e w' => e = .returned (.bool b) ∧ Below w.heap.size w w') ∧ (Calls cx.P g ys.toArray w fun e w' => e = .returned (.bool b) ∧ Below w.heap.size w w') := by
  have C : CtSound cx φ := by
    intro g hg
    rw [hct] at hg
    simp at hg
  obtain ⟨b, fs1, h1, h2, h3⟩ := trB_ok C F _ fs _ hf h
  obtain ⟨b', fs2, h4, h5, h6⟩ := trB_ok C F _ fs1 _ h1 h2
  have hb : b = b' := by simpa using h5
  subst hb
  refine ⟨b, fun w hvw hext => ⟨?_, ?_⟩⟩
  · exact tree_sound hct hname hvw hext F ha k fs hf (Tr.all_mono (fun v hv x β' w' hx hbl => ⟨by rw [hv x β' hx], hbl⟩) h3)
  · exact tree_sound hct hname hvw hext F ha' k fs hf (Tr.all_mono (fun v hv x β' w' hx hbl => ⟨by rw [hv x β' hx], hbl⟩) h6)
end
end Go.CX

/- CX: whether numbers have so many bits, answered by comparisons. -/
namespace Go.CX
open Go Go.RowKit Go.SX

def fitsUE (cx : Cx) (x : E) (k : Nat) : E := match x with
  | .conv .u64 y => match cx.so y with
    | .int .i64 => .ite (.cmp .lss y (.int .i64 0)) (.bool false) (.cmp .lss y (.int .i64 (Int.ofNat (2 ^ k))))
    | _ => .cmp .lss (.conv .u64 y) (.int .u64 (Int.ofNat (2 ^ k)))
  | x => .cmp .lss x (.int .u64 (Int.ofNat (2 ^ k)))
def fitsUX (cx : Cx) (f : FuncId) : ExtT := fun g args _ n _ => if Nat.beq g f then (match args with
  | [.one ⟨false, [.e x]⟩, .one ⟨false, [.e (.int .i64 (.ofNat k))]⟩] => match cx.so x with
    | .int .u64 => if Nat.blt 0 k && Nat.blt k 63 then some (.ok ⟨.one ⟨false, [.e (fitsUE cx x k)]⟩, [], n⟩) else none
    | _ => none
  | _ => none) else none
def fitsX (cx : Cx) (f : FuncId) : ExtT := fun g args _ n _ => if Nat.beq g f then (match args with
  | [.one ⟨false, [.e x]⟩, .one ⟨false, [.e (.int .i64 (.ofNat k))]⟩] => match cx.so x with
    | .int .i64 => if Nat.beq k 21 || Nat.beq k 28 then some (.ok ⟨.one ⟨false, [.e (.ite (.cmp .lss x (.int .i64 (-Int.ofNat (2 ^ (k - 1))))) (.bool false) (.cmp .lss x (.int .i64 (Int.ofNat (2 ^ (k - 1))))))]⟩, [], n⟩) else none
    | _ => none
  | _ => none) else none
section
variable {ρ : Nat → Value} {φ : Nat → List Value → List Value} {cx : Cx}
theorem fitsUE_den (F : Fits cx.Γ cx.S ρ φ) {x : E} (hs : cx.so x = .int .u64) {k : Nat} (hk : k < 63) : (fitsUE cx x k).den ρ φ = .bool (decide (vint (x.den ρ φ) < 2 ^ k)) := by
  have hp : (2 : Int) ^ k ≤ 2 ^ 62 := by
    have : (2 : Nat) ^ k ≤ 2 ^ 62 := Nat.pow_le_pow_right (by omega) (by omega)
    exact_mod_cast this
  have e62 : (2 : Int) ^ 62 = 4611686018427387904 := by decide
  have ek : Int.ofNat (2 ^ k) = (2 : Int) ^ k := by simp
  have hp0 : (0 : Int) < 2 ^ k := Int.pow_pos (by omega)
  unfold fitsUE
  split
  · rename_i y
    split
    · rename_i hy
      have h := E.so_has F y
      rw [show y.so cx.Γ cx.S = .int .i64 from hy] at h
      obtain ⟨m, h1, h2, h3⟩ := h
      have h2 : -9223372036854775808 ≤ m := h2
      have h3 : m ≤ 9223372036854775807 := h3
      simp only [E.den, h1, vint_int, icmp, ek, vbool_bool, IntKind.wrap_u64]
      by_cases h0 : m < 0
      · rw [decide_eq_true h0, if_pos rfl]
        congr 1; symm; apply decide_eq_false; omega
      · rw [decide_eq_false h0, if_neg (by simp), show m % 18446744073709551616 = m by omega]
    · simp only [E.den, vint_int, icmp, ek]
      exact congrArg _ (decide_eq_decide.2 Iff.rfl)
  · simp only [E.den, vint_int, icmp, ek]
theorem fitsUX_ok {ws : Base} {f : FuncId} (hin : Enters cx.P f)
    (hc : ∀ (w : World) (v : Int) (k : Nat), 0 ≤ v → v ≤ 18446744073709551615 → 0 < k → k < 63 → Calls cx.P f #[.int .u64 v, .int .i64 (Int.ofNat k)] w fun e w' => e = .returned (.bool (decide (v < 2 ^ k))) ∧ Below w.heap.size w w') :
    ExtOk ws cx φ (fitsUX cx f) := by
  intro g svs B n fs d h ρ β w xs N F hf hW hn ha
  unfold fitsUX at h
  split at h
  · rename_i he
    have he := Nat.eq_of_beq_eq_true he
    subst he
    split at h
    · rename_i x k
      split at h
      · rename_i hs
        split at h
        · rename_i hb
          rw [Bool.and_eq_true] at hb
          have k1 := blt_lt hb.1
          have k2 := blt_lt hb.2
          simp only [Option.some.injEq, OR.ok.injEq] at h
          subst h
          match xs, ha with
          | [v, u], ha =>
            have hv : v = x.den ρ φ := ha.1
            have hu : u = .int .i64 (Int.ofNat k) := ha.2.1
            have h := E.so_has F x
            rw [show x.so cx.Γ cx.S = .int .u64 from hs] at h
            obtain ⟨m, h1, h2, h3⟩ := h
            subst hu
            rw [h1] at hv
            subst hv
            refine ⟨hin _ _, (hc w m k h2 h3 k1 k2).mono ?_⟩
            rintro e w' ⟨rfl, hbl⟩
            refine ⟨_, β, rfl, Ext.refl _, Newer.refl _ _ _, hW.grow hbl, ?_⟩
            show _ = _
            rw [fitsUE_den F hs k2, h1]; rfl
        · exact absurd h (by simp)
      · exact absurd h (by simp)
    · exact absurd h (by simp)
  · exact absurd h (by simp)
theorem fitsX_ok {ws : Base} {f : FuncId} (hin : Enters cx.P f)
    (hc : ∀ (w : World) (v : Int) (k : Nat), -9223372036854775808 ≤ v → v ≤ 9223372036854775807 → k = 21 ∨ k = 28 → Calls cx.P f #[.int .i64 v, .int .i64 (Int.ofNat k)] w fun e w' => e = .returned (.bool (decide (-(2 : Int) ^ (k - 1) ≤ v ∧ v < 2 ^ (k - 1)))) ∧ Below w.heap.size w w') :
    ExtOk ws cx φ (fitsX cx f) := by
  intro g svs B n fs d h ρ β w xs N F hf hW hn ha
  unfold fitsX at h
  split at h
  · rename_i he
    have he := Nat.eq_of_beq_eq_true he
    subst he
    split at h
    · rename_i x k
      split at h
      · rename_i hs
        split at h
        · rename_i hb
          have hk : k = 21 ∨ k = 28 := by
            rw [Bool.or_eq_true] at hb
            rcases hb with hb | hb
            · exact Or.inl (Nat.eq_of_beq_eq_true hb)
            · exact Or.inr (Nat.eq_of_beq_eq_true hb)
          simp only [Option.some.injEq, OR.ok.injEq] at h
          subst h
          match xs, ha with
          | [v, u], ha =>
            have hv : v = x.den ρ φ := ha.1
            have hu : u = .int .i64 (Int.ofNat k) := ha.2.1
            have h := E.so_has F x
            rw [show x.so cx.Γ cx.S = .int .i64 from hs] at h
            obtain ⟨m, h1, h2, h3⟩ := h
            subst hu
            rw [h1] at hv
            subst hv
            refine ⟨hin _ _, (hc w m k h2 h3 hk).mono ?_⟩
            rintro e w' ⟨rfl, hbl⟩
            refine ⟨_, β, rfl, Ext.refl _, Newer.refl _ _ _, hW.grow hbl, ?_⟩
            show _ = _
            have ek : Int.ofNat (2 ^ (k - 1)) = (2 : Int) ^ (k - 1) := by simp
            simp only [E.den, h1, vint_int, icmp, ek, vbool_bool]
            by_cases h0 : m < -(2 : Int) ^ (k - 1)
            · rw [decide_eq_true h0, if_pos rfl]
              congr 1; apply decide_eq_false; omega
            · rw [decide_eq_false h0, if_neg (by simp)]
              congr 1; apply decide_eq_decide.2; omega
        · exact absurd h (by simp)
      · exact absurd h (by simp)
    · exact absurd h (by simp)
  · exact absurd h (by simp)
end
end Go.CX

/- Words put together from fields: an or onto zeros is a sum. -/
namespace Go.CX
open Go Go.SX
abbrev W32 := BitVec 32
/-- the word of a number -/
def w32 (n : Int) : W32 := BitVec.ofInt 32 n
theorem w32_add (a b : Int) : w32 (a + b) = w32 a + w32 b := by unfold w32; rw [BitVec.ofInt_add]
theorem w32_mul (a b : Int) : w32 (a * b) = w32 a * w32 b := by unfold w32; rw [BitVec.ofInt_mul]
theorem w32_u32 (n : Int) : w32 (IntKind.u32.wrap n) = w32 n := by
  apply BitVec.eq_of_toNat_eq
  unfold w32; rw [IntKind.wrap_u32, BitVec.toNat_ofInt, BitVec.toNat_ofInt]; omega
theorem w32_u64 (n : Int) : w32 (IntKind.u64.wrap n) = w32 n := by
  apply BitVec.eq_of_toNat_eq
  unfold w32; rw [IntKind.wrap_u64, BitVec.toNat_ofInt, BitVec.toNat_ofInt]; omega
theorem w32_of (x : W32) : w32 (x.toNat : Int) = x := by unfold w32; rw [BitVec.ofInt_natCast]; simp
theorem w32_or (x y : Int) : w32 (bits .or .u32 x y) = w32 x ||| w32 y := by
  show w32 (IntKind.u32.wrap ((w32 x ||| w32 y).toNat : Int)) = _
  rw [w32_u32, w32_of]
theorem w32_and (x y : Int) : w32 (bits .and .u32 x y) = w32 x &&& w32 y := by
  show w32 (IntKind.u32.wrap ((w32 x &&& w32 y).toNat : Int)) = _
  rw [w32_u32, w32_of]
theorem w32_andNot (x y : Int) : w32 (bits .andNot .u32 x y) = w32 x &&& ~~~ w32 y := by
  show w32 (IntKind.u32.wrap ((w32 x &&& ~~~ w32 y).toNat : Int)) = _
  rw [w32_u32, w32_of]
theorem w32_inj {a b : Int} (ha : 0 ≤ a ∧ a < 4294967296) (hb : 0 ≤ b ∧ b < 4294967296) (h : w32 a = w32 b) : a = b := by
  have := congrArg BitVec.toNat h
  unfold w32 at this; rw [BitVec.toNat_ofInt, BitVec.toNat_ofInt] at this; omega
/-- all bits of w lie in M -/
def Within (w M : W32) : Prop := w &&& ~~~ M = 0#32
theorem within_bit {w M : W32} (h : Within w M) (i : Nat) (hi : w.getLsbD i = true) : M.getLsbD i = true := by
  have := congrArg (·.getLsbD i) h
  have hlt : i < 32 := BitVec.lt_of_getLsbD hi
  simp only [BitVec.getLsbD_and, BitVec.getLsbD_not, BitVec.getLsbD_zero, hi, hlt, decide_true, Bool.true_and, Bool.not_eq_false'] at this
  exact this
theorem within_of {w M : W32} (h : ∀ i, w.getLsbD i = true → M.getLsbD i = true) : Within w M := by
  apply BitVec.eq_of_getLsbD_eq
  intro i hi
  rw [BitVec.getLsbD_and, BitVec.getLsbD_not, BitVec.getLsbD_zero]
  cases hw : w.getLsbD i
  · rfl
  · rw [h i hw]; simp
theorem apart_bit {M N : W32} (h : M &&& N = 0#32) (i : Nat) (hi : M.getLsbD i = true) : N.getLsbD i = false := by
  have := congrArg (·.getLsbD i) h
  simp only [BitVec.getLsbD_and, BitVec.getLsbD_zero, hi, Bool.true_and] at this
  exact this
/-- a field cleared that is clear -/
theorem clear_free {w M N : W32} (hw : Within w M) (h : M &&& N = 0#32) : w &&& ~~~ N = w := by
  apply BitVec.eq_of_getLsbD_eq
  intro i hi
  rw [BitVec.getLsbD_and, BitVec.getLsbD_not]
  cases hb : w.getLsbD i
  · rfl
  · rw [apart_bit h i (within_bit hw i hb)]; simp [hi]
/-- an or of words apart is their sum -/
theorem or_apart {w f M N : W32} (hw : Within w M) (hf : Within f N) (h : M &&& N = 0#32) : w ||| f = w + f ∧ Within (w ||| f) (M ||| N) := by
  refine ⟨(BitVec.add_eq_or_of_and_eq_zero _ _ ?_).symm, within_of fun i hi => ?_⟩
  · apply BitVec.eq_of_getLsbD_eq
    intro i hi
    rw [BitVec.getLsbD_and, BitVec.getLsbD_zero]
    cases hb : w.getLsbD i
    · rfl
    · cases hc : f.getLsbD i
      · rfl
      · have := apart_bit h i (within_bit hw i hb)
        rw [within_bit hf i hc] at this; exact this
  · rw [BitVec.getLsbD_or] at hi ⊢
    rcases Bool.or_eq_true _ _ |>.mp hi with h | h
    · rw [within_bit hw i h]; rfl
    · rw [within_bit hf i h]; simp
theorem within_and (w M : W32) : Within (w &&& M) M := within_of fun i hi => by
  rw [BitVec.getLsbD_and, Bool.and_eq_true] at hi; exact hi.2
theorem within_shl {w M : W32} (h : Within w M) (a : Nat) : Within (w <<< a) (M <<< a) := within_of fun i hi => by
  rw [BitVec.getLsbD_shiftLeft] at hi ⊢
  simp only [Bool.and_eq_true] at hi ⊢
  exact ⟨hi.1, within_bit h _ hi.2⟩
/-- a field that holds its number whole -/
theorem field_whole {x : Int} (k : Nat) (h0 : 0 ≤ x) (h1 : x < 2 ^ k) (hk : k ≤ 32) : w32 x &&& BitVec.ofNat 32 (2 ^ k - 1) = w32 x := by
  apply BitVec.eq_of_toNat_eq
  rw [BitVec.toNat_and, BitVec.toNat_ofNat]
  have hp : 2 ^ k ≤ 2 ^ 32 := Nat.pow_le_pow_right (by decide) hk
  have h1' : 1 ≤ 2 ^ k := Nat.one_le_two_pow
  rw [Nat.mod_eq_of_lt (by omega), Nat.and_two_pow_sub_one_eq_mod]
  have : (w32 x).toNat = x.toNat := by
    unfold w32; rw [BitVec.toNat_ofInt]
    have : x < 2 ^ 32 := Int.lt_of_lt_of_le h1 (by exact_mod_cast hp)
    rw [Int.emod_eq_of_lt h0 (by exact_mod_cast this)]
  rw [this, Nat.mod_eq_of_lt]
  have hc : ((2 ^ k : Nat) : Int) = (2 : Int) ^ k := by norm_cast
  omega
theorem shl_mul (w : W32) (a : Nat) : w <<< a = w * BitVec.ofNat 32 (2 ^ a) := by
  apply BitVec.eq_of_toNat_eq
  rw [BitVec.toNat_shiftLeft, BitVec.toNat_mul, BitVec.toNat_ofNat, Nat.shiftLeft_eq, Nat.mul_mod_mod]
end Go.CX

/- Words put together from fields: what a term is made of. -/
namespace Go.CX
open Go Go.SX
/-- a constant, fields (number, width, place), the bits in use -/
structure WF where
  c : Nat
  fl : List (E × Nat × Nat)
  M : Nat
/-- conversions left out: they change no word -/
def bareE : E → E
  | .conv .u64 x => bareE x
  | .conv .u32 x => bareE x
  | x => x
/-- a field: the number, its width, its place -/
def oneF : E → Option (E × Nat × Nat)
  | .shf .shl .u32 (.bin .and .u32 x (.int .u32 (.ofNat m))) (.int _ (.ofNat a)) =>
    let k := Nat.log2 (m + 1)
    if Nat.beq (2 ^ k - 1) m && Nat.ble k 32 && Nat.ble a 32 then some (bareE x, k, a) else none
  | _ => none
def fieldsOf : E → Option WF
  | .int .u32 (.ofNat c) => if Nat.blt c 4294967296 then some ⟨c, [], c⟩ else none
  | .bin .or .u32 w f => match fieldsOf w with
    | some W => (match f with
      | .int .u32 (.ofNat c) => if Nat.blt c 4294967296 && Nat.beq (Nat.land W.M c) 0 then some ⟨W.c + c, W.fl, Nat.lor W.M c⟩ else none
      | f => match oneF f with
        | some (x, k, a) => if Nat.beq (Nat.land W.M ((2 ^ k - 1) * 2 ^ a)) 0 then some ⟨W.c, (x, k, a) :: W.fl, Nat.lor W.M ((2 ^ k - 1) * 2 ^ a)⟩ else none
        | none => none)
    | none => none
  | .bin .andNot .u32 w (.int .u32 (.ofNat n)) => match fieldsOf w with
    | some W => if Nat.beq (Nat.land W.M n) 0 then some W else none
    | none => none
  | _ => none
section
variable (ρ : Nat → Value) (φ : Nat → List Value → List Value)
def fldV (p : E × Nat × Nat) : W32 := (w32 (vint (p.1.den ρ φ)) &&& BitVec.ofNat 32 (2 ^ p.2.1 - 1)) <<< p.2.2
def sumW : List W32 → W32
  | [] => 0
  | x :: xs => x + sumW xs
def WF.val (W : WF) : W32 := BitVec.ofNat 32 W.c + sumW (W.fl.map (fldV ρ φ))
end
variable {ρ : Nat → Value} {φ : Nat → List Value → List Value}
theorem bareE_ok : ∀ e : E, w32 (vint ((bareE e).den ρ φ)) = w32 (vint (e.den ρ φ))
  | .conv .u64 x => by
    rw [bareE, bareE_ok x]
    show _ = w32 (IntKind.u64.wrap (vint (x.den ρ φ)))
    rw [w32_u64]
  | .conv .u32 x => by
    rw [bareE, bareE_ok x]
    show _ = w32 (IntKind.u32.wrap (vint (x.den ρ φ)))
    rw [w32_u32]
  | e => by
    unfold bareE
    split
    · rename_i x
      rw [bareE_ok x]
      show _ = w32 (IntKind.u64.wrap (vint (x.den ρ φ)))
      rw [w32_u64]
    · rename_i x
      rw [bareE_ok x]
      show _ = w32 (IntKind.u32.wrap (vint (x.den ρ φ)))
      rw [w32_u32]
    · rfl
theorem w32_nat (n : Nat) : w32 (Int.ofNat n) = BitVec.ofNat 32 n := BitVec.ofInt_natCast 32 n
theorem oneF_ok {e : E} {p : E × Nat × Nat} (h : oneF e = some p) : w32 (vint (e.den ρ φ)) = fldV ρ φ p ∧ Within (fldV ρ φ p) (BitVec.ofNat 32 ((2 ^ p.2.1 - 1) * 2 ^ p.2.2)) := by
  unfold oneF at h
  split at h
  · rename_i x m kk a
    dsimp only at h
    split at h
    · rename_i hc
      simp only [Bool.and_eq_true] at hc
      obtain ⟨⟨hm, hk⟩, ha⟩ := hc
      have hm := Nat.eq_of_beq_eq_true hm
      have ha := Nat.le_of_ble_eq_true ha
      cases h
      have hsh : ∀ (w : W32), w <<< a = w * BitVec.ofNat 32 (2 ^ a) := fun w => shl_mul w a
      constructor
      · show w32 (IntKind.u32.wrap (bits .and .u32 (vint (x.den ρ φ)) (Int.ofNat m) * 2 ^ (min (Int.ofNat a).toNat IntKind.u32.bits))) = (w32 (vint ((bareE x).den ρ φ)) &&& BitVec.ofNat 32 (2 ^ (m + 1).log2 - 1)) <<< a
        rw [w32_u32, w32_mul, w32_and, bareE_ok, hm, hsh, w32_nat]
        congr 1
        have : min (Int.ofNat a).toNat IntKind.u32.bits = a := by
          show min a 32 = a; omega
        rw [this]
        have : ((2 : Int) ^ a) = Int.ofNat (2 ^ a) := by simp
        rw [this, w32_nat]
      · have := within_shl (within_and (w32 (vint ((bareE x).den ρ φ))) (BitVec.ofNat 32 (2 ^ (m + 1).log2 - 1))) a
        have e : (BitVec.ofNat 32 (2 ^ (m + 1).log2 - 1)) <<< a = BitVec.ofNat 32 ((2 ^ (m + 1).log2 - 1) * 2 ^ a) := by
          rw [hsh]; simp [BitVec.ofNat_mul]
        rw [e] at this; exact this
    · cases h
  · cases h
theorem land_zero {a b : Nat} (h : Nat.beq (Nat.land a b) 0 = true) : BitVec.ofNat 32 a &&& BitVec.ofNat 32 b = 0#32 := by
  have h : a &&& b = 0 := Nat.eq_of_beq_eq_true h
  rw [← BitVec.ofNat_and, h]
theorem within_refl (w : W32) : Within w w := within_of fun _ h => h
theorem lor_ofNat (a b : Nat) : BitVec.ofNat 32 a ||| BitVec.ofNat 32 b = BitVec.ofNat 32 (Nat.lor a b) := (BitVec.ofNat_or).symm
theorem fieldsOf_ok : ∀ (e : E) {W : WF}, fieldsOf e = some W → w32 (vint (e.den ρ φ)) = W.val ρ φ ∧ Within (W.val ρ φ) (BitVec.ofNat 32 W.M) := by
  intro e
  induction e with
  | int k n =>
    intro W h
    unfold fieldsOf at h
    split at h
    · rename_i c heq
      cases heq
      split at h
      · cases h
        have : WF.val ρ φ ⟨c, [], c⟩ = BitVec.ofNat 32 c := by unfold WF.val; simp [sumW]
        rw [this]
        exact ⟨w32_nat c, within_refl _⟩
      · cases h
    · rename_i heq; cases heq
    · rename_i heq; cases heq
    · cases h
  | bin op k w f ihw ihf =>
    intro W h
    unfold fieldsOf at h
    split at h
    · rename_i heq; cases heq
    · rename_i w' f' heq
      cases heq
      split at h
      · rename_i W0 hW0
        obtain ⟨hv, hi⟩ := ihw hW0
        split at h
        · rename_i c
          split at h
          · rename_i hc
            simp only [Bool.and_eq_true] at hc
            cases h
            have hap := land_zero hc.2
            have := or_apart hi (within_refl (BitVec.ofNat 32 c)) hap
            have hval : WF.val ρ φ ⟨W0.c + c, W0.fl, W0.M.lor c⟩ = W0.val ρ φ ||| BitVec.ofNat 32 c := by
              rw [this.1]; unfold WF.val
              show BitVec.ofNat 32 (W0.c + c) + _ = _
              rw [BitVec.ofNat_add]; ac_rfl
            constructor
            · show w32 (bits .or .u32 (vint (w.den ρ φ)) (Int.ofNat c)) = _
              rw [w32_or, hv, w32_nat, hval]
            · rw [hval, ← lor_ofNat]; exact this.2
          · cases h
        · split at h
          · rename_i x k' a hp
            split at h
            · rename_i hc
              cases h
              obtain ⟨hf1, hf2⟩ := oneF_ok (ρ := ρ) (φ := φ) hp
              have hap := land_zero hc
              have := or_apart hi hf2 hap
              have hval : WF.val ρ φ ⟨W0.c, (x, k', a) :: W0.fl, W0.M.lor ((2 ^ k' - 1) * 2 ^ a)⟩ = W0.val ρ φ ||| fldV ρ φ (x, k', a) := by
                rw [this.1]; unfold WF.val
                show BitVec.ofNat 32 W0.c + (fldV ρ φ (x, k', a) + _) = _
                ac_rfl
              constructor
              · show w32 (bits .or .u32 (vint (w.den ρ φ)) (vint (f.den ρ φ))) = _
                rw [w32_or, hv, hf1, hval]
              · rw [hval, ← lor_ofNat]; exact this.2
            · cases h
          · cases h
      · cases h
    · rename_i w' n heq
      cases heq
      split at h
      · rename_i W0 hW0
        obtain ⟨hv, hi⟩ := ihw hW0
        split at h
        · rename_i hc
          cases h
          refine ⟨?_, hi⟩
          show w32 (bits .andNot .u32 (vint (w.den ρ φ)) (Int.ofNat n)) = _
          rw [w32_andNot, hv, w32_nat, clear_free hi (land_zero hc)]
        · cases h
      · cases h
    · cases h
  | _ => intro W h; unfold fieldsOf at h; cases h
end Go.CX

/- Words put together from fields: a sum of the same numbers is the same word. -/
namespace Go.CX
open Go Go.SX
/-- a sum: a constant, numbers with their factors -/
def sumOf : E → Int × List (Int × E)
  | .int _ n => (n, [])
  | .bin .add .u64 a b => ((sumOf a).1 + (sumOf b).1, (sumOf a).2 ++ (sumOf b).2)
  | .bin .mul .u64 a (.int _ n) => ((sumOf a).1 * n, (sumOf a).2.map fun p => (p.1 * n, p.2))
  | .conv .u64 x => sumOf x
  | .conv .u32 x => sumOf x
  | e => (0, [(1, e)])
section
variable (ρ : Nat → Value) (φ : Nat → List Value → List Value)
def trmV (p : Int × E) : W32 := w32 p.1 * w32 (vint (p.2.den ρ φ))
def sumV (s : Int × List (Int × E)) : W32 := w32 s.1 + sumW (s.2.map (trmV ρ φ))
end
variable {ρ : Nat → Value} {φ : Nat → List Value → List Value}
theorem sumW_append : ∀ a b : List W32, sumW (a ++ b) = sumW a + sumW b
  | [], b => by simp [sumW]
  | x :: a, b => by rw [List.cons_append, sumW, sumW_append a b, sumW]; ac_rfl
theorem sumW_scale (n : Int) : ∀ l : List (Int × E), sumW ((l.map fun p => (p.1 * n, p.2)).map (trmV ρ φ)) = sumW (l.map (trmV ρ φ)) * w32 n
  | [] => by simp [sumW]
  | p :: l => by
    show w32 (p.1 * n) * w32 (vint (p.2.den ρ φ)) + _ = (w32 p.1 * w32 (vint (p.2.den ρ φ)) + _) * w32 n
    rw [sumW_scale n l, BitVec.add_mul, w32_mul]; ac_rfl
theorem sum_atom (e : E) : w32 (vint (e.den ρ φ)) = sumV ρ φ (0, [(1, e)]) := by
  show _ = w32 0 + (w32 1 * w32 (vint (e.den ρ φ)) + 0)
  have h0 : w32 0 = 0 := by decide
  have h1 : w32 1 = 1 := by decide
  rw [h0, h1]; simp
theorem sumOf_ok (e : E) : w32 (vint (e.den ρ φ)) = sumV ρ φ (sumOf e) := by
  induction e with
  | int k n =>
    show w32 n = w32 n + 0
    simp
  | bin op k a b iha ihb =>
    unfold sumOf
    split
    · rename_i heq; cases heq
    · rename_i heq
      cases heq
      show w32 (IntKind.u64.wrap (vint (a.den ρ φ) + vint (b.den ρ φ))) = _
      rw [w32_u64, w32_add, iha, ihb]
      unfold sumV
      rw [w32_add, List.map_append, sumW_append]; ac_rfl
    · rename_i heq
      cases heq
      rename_i n
      show w32 (IntKind.u64.wrap (vint (a.den ρ φ) * n)) = _
      rw [w32_u64, w32_mul, iha]
      unfold sumV
      show _ = w32 ((sumOf a).1 * n) + sumW (((sumOf a).2.map fun p => (p.1 * n, p.2)).map (trmV ρ φ))
      rw [sumW_scale, w32_mul, BitVec.add_mul]
    · rename_i heq; cases heq
    · rename_i heq; cases heq
    · exact sum_atom _
  | conv k x ih =>
    unfold sumOf
    split
    · rename_i heq; cases heq
    · rename_i heq; cases heq
    · rename_i heq; cases heq
    · rename_i heq
      cases heq
      show w32 (IntKind.u64.wrap (vint (x.den ρ φ))) = _
      rw [w32_u64, ih]
    · rename_i heq
      cases heq
      show w32 (IntKind.u32.wrap (vint (x.den ρ φ))) = _
      rw [w32_u32, ih]
    · exact sum_atom _
  | _ => unfold sumOf; exact sum_atom _
end Go.CX

/- Words put together from fields: the same word by a path's facts. -/
namespace Go.CX
open Go Go.SX
/-- the same number -/
def sameN (cx : Cx) (y x : E) : Bool := y.eqv x || (match y with
  | .conv .u64 z => (cx.so z == .int .u32) && z.eqv x
  | _ => false)
/-- what a fact says of a number: at least 0; below m; 0 -/
def low1 (cx : Cx) (x : E) : E × Bool → Bool
  | (.cmp .lss y (.int _ (.ofNat _)), false) => sameN cx y x
  | (.cmp .eql y (.int _ (.ofNat _)), true) => sameN cx y x
  | _ => false
def high1 (cx : Cx) (x : E) (m : Nat) : E × Bool → Bool
  | (.cmp .lss (.int _ (.ofNat n)) y, false) => Nat.blt n m && sameN cx y x
  | (.cmp .lss y (.int _ (.ofNat n)), true) => Nat.ble n m && sameN cx y x
  | (.cmp .eql y (.int _ (.ofNat n)), true) => Nat.blt n m && sameN cx y x
  | _ => false
def zero1 (cx : Cx) (x : E) : E × Bool → Bool
  | (.cmp .eql y (.int _ (.ofNat 0)), true) => sameN cx y x
  | _ => false
def lowF (cx : Cx) (fs : Facts) (x : E) : Bool := (cx.so x == .int .u64) || (cx.so x == .int .u32) || fs.any (low1 cx x)
def highF (cx : Cx) (fs : Facts) (x : E) (m : Nat) : Bool := fs.any (high1 cx x m)
def zeroF (cx : Cx) (fs : Facts) (x : E) : Bool := fs.any (zero1 cx x)
def takeF (x : E) (n : Int) : List (E × Nat × Nat) → Option (Nat × List (E × Nat × Nat))
  | [] => none
  | (y, k, a) :: fl => if y.eqv x && (n == Int.ofNat (2 ^ a)) then some (k, fl) else match takeF x n fl with
    | some (k', fl') => some (k', (y, k, a) :: fl')
    | none => none
def sameT (cx : Cx) (fs : Facts) : List (Int × E) → List (E × Nat × Nat) → Bool
  | [], [] => true
  | [], _ :: _ => false
  | (n, x) :: l, fl => match takeF x n fl with
    | some (k, fl') => Nat.ble k 32 && lowF cx fs x && highF cx fs x (2 ^ k) && sameT cx fs l fl'
    | none => zeroF cx fs x && sameT cx fs l fl
/-- the code's word, made of fields, and the document's, a sum, are the same -/
def sameW (cx : Cx) (fs : Facts) (e1 e2 : E) : Bool := match fieldsOf e1, sumOf e2 with
  | some W, (.ofNat c, l) => Nat.beq c W.c && sameT cx fs l W.fl
  | _, _ => false
variable {ρ : Nat → Value} {φ : Nat → List Value → List Value} {cx : Cx}
theorem so_eq {x : E} {k : IntKind} (h : (cx.so x == .int k) = true) : cx.so x = .int k := by
  simpa using h
theorem so_num (F : Fits cx.Γ cx.S ρ φ) {x : E} {k : IntKind} (h : cx.so x = .int k) : ∃ n, x.den ρ φ = .int k n ∧ lowOf k ≤ n ∧ n ≤ highOf k := by
  have hv := E.so_has F x
  rw [show x.so cx.Γ cx.S = .int k from h] at hv
  exact hv
theorem sameN_ok (F : Fits cx.Γ cx.S ρ φ) {y x : E} (h : sameN cx y x = true) : vint (y.den ρ φ) = vint (x.den ρ φ) := by
  unfold sameN at h
  rcases Bool.or_eq_true _ _ |>.mp h with h | h
  · rw [E.eqv_eq h]
  · split at h
    · rename_i z _
      simp only [Bool.and_eq_true] at h
      obtain ⟨hs, he⟩ := h
      obtain ⟨n, hn, h0, h1⟩ := so_num F (so_eq hs)
      rw [← E.eqv_eq he]
      show IntKind.u64.wrap (vint (z.den ρ φ)) = _
      have h0 : 0 ≤ n := h0
      have h1 : n ≤ 4294967295 := h1
      rw [hn]
      show IntKind.u64.wrap n = n
      rw [IntKind.wrap_u64]; omega
    · cases h
theorem low1_ok (F : Fits cx.Γ cx.S ρ φ) {x : E} {p : E × Bool} (hp : p.1.den ρ φ = .bool p.2) (h : low1 cx x p = true) : 0 ≤ vint (x.den ρ φ) := by
  unfold low1 at h
  split at h
  · rename_i y _ n
    rw [← sameN_ok F h]
    have : Value.bool (decide (vint (y.den ρ φ) < Int.ofNat n)) = .bool false := hp
    injection this with this
    have := of_decide_eq_false this
    have : (0 : Int) ≤ Int.ofNat n := Int.natCast_nonneg n
    omega
  · rename_i y _ n
    rw [← sameN_ok F h]
    have : Value.bool (vint (y.den ρ φ) == Int.ofNat n) = .bool true := hp
    injection this with this
    rw [eq_of_beq this]; exact Int.natCast_nonneg n
  · cases h
theorem high1_ok (F : Fits cx.Γ cx.S ρ φ) {x : E} {m : Nat} {p : E × Bool} (hp : p.1.den ρ φ = .bool p.2) (h : high1 cx x m p = true) : vint (x.den ρ φ) < (m : Int) := by
  unfold high1 at h
  split at h
  · rename_i n y
    simp only [Bool.and_eq_true] at h
    rw [← sameN_ok F h.2]
    have : Value.bool (decide (Int.ofNat n < vint (y.den ρ φ))) = .bool false := hp
    injection this with this
    have := of_decide_eq_false this
    have hn : n + 1 ≤ m := Nat.le_of_ble_eq_true h.1
    have e : Int.ofNat n = (n : Int) := rfl
    rw [e] at this
    omega
  · rename_i y _ n
    simp only [Bool.and_eq_true] at h
    rw [← sameN_ok F h.2]
    have : Value.bool (decide (vint (y.den ρ φ) < Int.ofNat n)) = .bool true := hp
    injection this with this
    have := of_decide_eq_true this
    have hn : n ≤ m := Nat.le_of_ble_eq_true h.1
    have e : Int.ofNat n = (n : Int) := rfl
    rw [e] at this
    omega
  · rename_i y _ n
    simp only [Bool.and_eq_true] at h
    rw [← sameN_ok F h.2]
    have : Value.bool (vint (y.den ρ φ) == Int.ofNat n) = .bool true := hp
    injection this with this
    have hn : n + 1 ≤ m := Nat.le_of_ble_eq_true h.1
    rw [eq_of_beq this]
    have e : Int.ofNat n = (n : Int) := rfl
    rw [e]; omega
  · cases h
theorem zero1_ok (F : Fits cx.Γ cx.S ρ φ) {x : E} {p : E × Bool} (hp : p.1.den ρ φ = .bool p.2) (h : zero1 cx x p = true) : vint (x.den ρ φ) = 0 := by
  unfold zero1 at h
  split at h
  · rename_i y _
    rw [← sameN_ok F h]
    have : Value.bool (vint (y.den ρ φ) == 0) = .bool true := hp
    injection this with this
    exact eq_of_beq this
  · cases h
theorem lowF_ok (F : Fits cx.Γ cx.S ρ φ) {fs : Facts} (hf : fs.hold ρ φ) {x : E} (h : lowF cx fs x = true) : 0 ≤ vint (x.den ρ φ) := by
  unfold lowF at h
  simp only [Bool.or_eq_true] at h
  rcases h with (h | h) | h
  · obtain ⟨n, hn, h0, _⟩ := so_num F (so_eq h); rw [hn]; exact h0
  · obtain ⟨n, hn, h0, _⟩ := so_num F (so_eq h); rw [hn]; exact h0
  · obtain ⟨p, hp, h⟩ := List.any_eq_true.mp h
    exact low1_ok F (hf p hp) h
theorem highF_ok (F : Fits cx.Γ cx.S ρ φ) {fs : Facts} (hf : fs.hold ρ φ) {x : E} {m : Nat} (h : highF cx fs x m = true) : vint (x.den ρ φ) < (m : Int) := by
  obtain ⟨p, hp, h⟩ := List.any_eq_true.mp h
  exact high1_ok F (hf p hp) h
theorem zeroF_ok (F : Fits cx.Γ cx.S ρ φ) {fs : Facts} (hf : fs.hold ρ φ) {x : E} (h : zeroF cx fs x = true) : vint (x.den ρ φ) = 0 := by
  obtain ⟨p, hp, h⟩ := List.any_eq_true.mp h
  exact zero1_ok F (hf p hp) h
theorem takeF_ok {x : E} {n : Int} : ∀ {fl : List (E × Nat × Nat)} {k : Nat} {fl' : List (E × Nat × Nat)}, takeF x n fl = some (k, fl') → ∃ a, n = Int.ofNat (2 ^ a) ∧ sumW (fl.map (fldV ρ φ)) = fldV ρ φ (x, k, a) + sumW (fl'.map (fldV ρ φ))
  | [], _, _, h => by simp [takeF] at h
  | (y, k0, a0) :: fl, k, fl', h => by
    unfold takeF at h
    split at h
    · rename_i hc
      simp only [Bool.and_eq_true] at hc
      cases h
      refine ⟨a0, eq_of_beq hc.2, ?_⟩
      rw [← E.eqv_eq hc.1]; rfl
    · split at h
      · rename_i k' fl2 hr
        cases h
        obtain ⟨a, ha, hs⟩ := takeF_ok hr
        refine ⟨a, ha, ?_⟩
        show fldV ρ φ (y, k0, a0) + sumW (fl.map (fldV ρ φ)) = fldV ρ φ (x, k, a) + (fldV ρ φ (y, k0, a0) + sumW (fl2.map (fldV ρ φ)))
        rw [hs]; ac_rfl
      · cases h
theorem sameT_ok (F : Fits cx.Γ cx.S ρ φ) {fs : Facts} (hf : fs.hold ρ φ) : ∀ {l : List (Int × E)} {fl : List (E × Nat × Nat)}, sameT cx fs l fl = true → sumW (l.map (trmV ρ φ)) = sumW (fl.map (fldV ρ φ))
  | [], [], _ => rfl
  | [], _ :: _, h => by simp [sameT] at h
  | (n, x) :: l, fl, h => by
    unfold sameT at h
    split at h
    · rename_i k fl' hr
      simp only [Bool.and_eq_true] at h
      obtain ⟨⟨⟨hk, hl⟩, hh⟩, hs⟩ := h
      obtain ⟨a, ha, e⟩ := takeF_ok (ρ := ρ) (φ := φ) hr
      rw [e, ← sameT_ok F hf hs]
      show w32 n * w32 (vint (x.den ρ φ)) + _ = _
      congr 1
      have h0 := lowF_ok F hf hl
      have h1 := highF_ok F hf hh
      show _ = (w32 (vint (x.den ρ φ)) &&& BitVec.ofNat 32 (2 ^ k - 1)) <<< a
      rw [field_whole k h0 (by have := h1; exact_mod_cast this) (Nat.le_of_ble_eq_true hk), shl_mul, ha, w32_nat, BitVec.mul_comm]
    · simp only [Bool.and_eq_true] at h
      show w32 n * w32 (vint (x.den ρ φ)) + _ = _
      rw [zeroF_ok F hf h.1, sameT_ok F hf h.2]
      have h0 : w32 0 = 0 := by decide
      rw [h0]; simp
theorem sameW_ok (F : Fits cx.Γ cx.S ρ φ) {fs : Facts} (hf : fs.hold ρ φ) {e1 e2 : E} (h : sameW cx fs e1 e2 = true) : w32 (vint (e1.den ρ φ)) = w32 (vint (e2.den ρ φ)) := by
  unfold sameW at h
  split at h
  · rename_i W c l hW hS
    simp only [Bool.and_eq_true] at h
    rw [(fieldsOf_ok e1 hW).1, sumOf_ok e2, hS]
    unfold WF.val sumV
    rw [sameT_ok F hf h.2, ← Nat.eq_of_beq_eq_true h.1]
    show _ = w32 (Int.ofNat c) + _
    rw [w32_nat]
  · cases h
end Go.CX
