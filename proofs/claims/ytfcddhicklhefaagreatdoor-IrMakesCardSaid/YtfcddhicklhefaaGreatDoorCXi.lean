/- CX: code, functions, and the calls that they hold. -/
import Derived.Test.YtfcddhicklhefaaGreatDoorCXy
namespace Go.CX
open Go Go.RowKit Go.SX

inductive RX where
  | ok (x : XX) (σ : St) | split (c : E) | stuck
abbrev RunT := Facts → Nat → BK → Code → St → RX

def resPart (cx : Cx) (B : BK) (σ : St) : ResultVar → Option Part
  | .tmp t => match σ.L t with
    | some (.one p) => some p
    | _ => none
  | .cell t ty => match (σ.L t).bind SV.sc with
    | some (.ptr id off) => match loadX cx B 0 ty (.ptr id off) with
      | .ok ⟨.one p, _, _⟩ => some p
      | _ => none
    | _ => none
def resParts (cx : Cx) (B : BK) (σ : St) : List ResultVar → Option (List Part)
  | [] => some []
  | r :: rs => match resPart cx B σ r, resParts cx B σ rs with
    | some p, some ps => some (p :: ps)
    | _, _ => none
def resX (cx : Cx) (B : BK) (rs : List ResultVar) (σ : St) : Option SV :=
  match rs with
  | [.tmp t] => σ.L t
  | rs => match resParts cx B σ rs with
    | some [p] => some (.one p)
    | some ps => some (.tup ps)
    | none => none
def argT : Nat → List SV → List (Nat × SV)
  | _, [] => []
  | i, s :: ss => (i, s) :: argT (i + 1) ss
def retX (cx : Cx) (fn : Func) (B : BK) (σ : St) : OR :=
  match resX cx (dlB σ.dl B) fn.results.toList σ with
  | some v => .ok ⟨v, σ.dl, σ.next⟩
  | none => .stuck
def endX (cx : Cx) (fn : Func) (B : BK) : RX → OR
  | .ok x σ => match x with
    | .normal => retX cx fn B σ
    | .ret => retX cx fn B σ
    | .exit _ => .stuck
  | .split c => .split c
  | .stuck => .stuck
def xxBeq : XX → XX → Bool
  | .normal, .normal => true
  | .exit i, .exit j => Nat.beq i j
  | .ret, .ret => true
  | _, _ => false
/-- Both ways of what is not decided, made one where they end alike. -/
def joiR (cx : Cx) (n0 : Nat) (pre : List (Nat × SV)) (base : BK) (g : Facts → RX) : Nat → Facts → RX
  | 0, fs => g fs
  | k + 1, fs => match g fs with
    | .split c => (match cx.so c.strip with
      | .bool => (match joiR cx n0 pre base g k (addF cx c.strip true fs), joiR cx n0 pre base g k (addF cx c.strip false fs) with
        | .ok x1 σ1, .ok x2 σ2 => if xxBeq x1 x2 then (match joiSt c.strip n0 pre base σ1 σ2 with
            | some σm => .ok x1 σm
            | none => .split c) else .split c
        | _, _ => .split c)
      | _ => .split c)
    | r => r
def liftX (σ : St) : RX → RX
  | .ok x σ1 => .ok x ⟨σ1.tmps, σ1.dl ++ σ.dl, σ1.next⟩
  | r => r
def joiX (cx : Cx) (D : Nat) (fs : Facts) (base : BK) (f : Facts → BK → St → RX) (σ : St) : RX :=
  match dlB σ.dl base with
  | base' => liftX σ (joiR cx σ.next σ.tmps base' (fun fs => f fs base' ⟨σ.tmps, [], σ.next⟩) D fs)
/-- Calls that are not gone into. -/
abbrev ExtT := FuncId → List SV → BK → Nat → Facts → Option OR
def ext0 : ExtT := fun _ _ _ _ _ => none
def callD (cx : Cx) (ext : ExtT) (r : RunT) (D : Nat) : CallT := fun f args B n fs =>
  match ext f args B n fs with
  | some o => o
  | none => match cx.P.funcs[f]? with
    | some fn => match fn.body with
      | some c => endX cx fn B (joiX cx D fs B (fun fs B σ => r fs (args.length + (fn.ntmps - args.length)) B c σ) ⟨argT 0 args, [], n⟩)
      | none => .stuck
    | none => .stuck
abbrev callI (cx : Cx) (ext : ExtT) (r : RunT) : CallT := callD cx ext r 0
def ofRR : RR → RX
  | .ok σ => .ok .normal σ
  | .split c => .split c
  | .stuck => .stuck
def andThen (r : RX) (f : St → RX) : RX := match r with
  | .ok x σ => match x with
    | .normal => f σ
    | x => .ok x σ
  | r => r
def unblock (id : Nat) : RX → RX
  | .ok x σ => match x with
    | .exit i => if Nat.beq i id then .ok .normal σ else .ok (.exit i) σ
    | x => .ok x σ
  | r => r
def condX (cx : Cx) (fs : Facts) (e : E) (a b : RX) : RX := match dec cx fs e with
  | some true => a
  | some false => b
  | none => match cx.so e with
    | .bool => .split e
    | _ => .stuck
/-- Nothing leaves it. -/
def stays : Code → Bool
  | .skip => true
  | .region _ _ _ => true
  | .seq a b => stays a && stays b
  | .cond _ a b => stays a && stays b
  | .block _ c => stays c
  | .scope c => stays c
  | _ => false
def rep (f : St → RX) : Nat → St → RX
  | 0, _ => .stuck
  | m + 1, σ => andThen (f σ) (rep f m)
/-- Loops that are told of. -/
abbrev HkT := Code → Facts → BK → St → Option RX
def hk0 : HkT := fun _ _ _ _ => none
def runStep (cx : Cx) (ext : ExtT) (D : Nat) (hk : HkT) (m : Nat) (r : RunT) : RunT := fun fs N base c σ =>
  match c with
  | .skip => .ok .normal σ
  | .region _ ops draw => joiX cx D fs base (fun fs base σ => ofRR (if draw then regD cx (callD cx ext r D) fs N base ops σ else regT cx (callD cx ext r D) fs N base ops ops.toList σ)) σ
  | .seq a b => andThen (r fs N base a σ) (r fs N base b)
  | .cond o a b => joiX cx (if stays a && stays b then D else 0) fs base (fun fs base σ => match (opd σ.L o).bind SV.ex with
    | some e => condX cx fs e (r fs N base a σ) (r fs N base b σ)
    | none => .stuck) σ
  | .block id c => joiX cx D fs base (fun fs base σ => unblock id (r fs N base c σ)) σ
  | .loop c => match hk c fs base σ with
    | some x => x
    | none => rep (r fs N base c) m σ
  | .exit id => .ok (.exit id) σ
  | .ret => .ok .ret σ
  | .scope c => r fs N base c σ
  | _ => .stuck
def runH (cx : Cx) (ext : ExtT) (D : Nat) (hk : HkT) : Nat → RunT
  | 0 => fun _ _ _ _ _ => .stuck
  | n + 1 => runStep cx ext D hk n (runH cx ext D hk n)
abbrev runD (cx : Cx) (ext : ExtT) (D : Nat) : Nat → RunT := runH cx ext D hk0
abbrev run (cx : Cx) (ext : ExtT) : Nat → RunT := runD cx ext 0
/-- What is said of such calls. -/
def ExtOk (ws : Base) (cx : Cx) (φ : Nat → List Value → List Value) (ext : ExtT) : Prop := ∀ (f : FuncId) (svs : List SV) (B : BK) (n : Nat) (fs : Facts) (d : Out), ext f svs B n fs = some (.ok d) →
  ∀ (ρ : Nat → Value) (β : Bk) (w : World) (xs : List Value) (N : Nat), Fits cx.Γ cx.S ρ φ → fs.hold ρ φ → W ρ φ ⟨N, Xof B β, B, w, ws⟩ B β w → (∀ id, n ≤ id → id < d.next → β id = none) → All2 (SV.is ρ φ β) svs xs →
    (callFunc f xs.toArray).run cx.P w = .ok (.enter f xs.toArray) w ∧ Calls cx.P f xs.toArray w fun e w' => ∃ x β', e = .returned x ∧ Ext β β' ∧ Newer β β' n d.next ∧ W ρ φ ⟨N, Xof B β, B, w, ws⟩ (dlB d.dl B) β' w' ∧ d.v.is ρ φ β' x
theorem ext0_ok (ws : Base) (cx : Cx) (φ : Nat → List Value → List Value) : ExtOk ws cx φ ext0 := by
  intro f svs B n fs d h
  simp [ext0] at h

/-- What a run says. -/
def Snd (ws : Base) (cx : Cx) (φ : Nat → List Value → List Value) (fs : Facts) (N : Nat) (base : BK) (f : St → RX) (K : (Exit → Act → World → Prop) → Act → World → Prop) : Prop := ∀ (σ : St) (x : XX) (σ' : St), f σ = .ok x σ' → σ.next ≤ σ'.next ∧
  ∀ (ρ : Nat → Value) (fx : Fx) (β : Bk) (a : Act) (w : World) (Q : Exit → Act → World → Prop), Fits cx.Γ cx.S ρ φ → fs.hold ρ φ → fx.N = N → fx.ws = ws → MS ρ φ fx base σ β a w → (∀ id, σ.next ≤ id → id < σ'.next → β id = none) →
    (∀ β' a' w', Ext β β' → Newer β β' σ.next σ'.next → MS ρ φ fx base σ' β' a' w' → Q x.toExit a' w') → K Q a w
/-- What is told of loops holds. -/
def HkOk (ws : Base) (cx : Cx) (φ : Nat → List Value → List Value) (hk : HkT) : Prop := ∀ (c : Code) (fs : Facts) (N : Nat) (base : BK), Snd ws cx φ fs N base (fun σ => (hk c fs base σ).getD .stuck) fun Q => (Code.loop c).wp cx.P Q
theorem hk0_ok (ws : Base) (cx : Cx) (φ : Nat → List Value → List Value) : HkOk ws cx φ hk0 := by
  intro c fs N base σ x σ' h
  simp [hk0] at h
def RunOk (ws : Base) (cx : Cx) (φ : Nat → List Value → List Value) (r : RunT) : Prop := ∀ (fs : Facts) (N : Nat) (base : BK) (c : Code), Snd ws cx φ fs N base (r fs N base c) fun Q => c.wp cx.P Q

section
variable {ρ : Nat → Value} {φ : Nat → List Value → List Value} {cx : Cx} {fx : Fx} {base : BK} {ws : Base} {ext : ExtT}
theorem argT_look {t : Nat} {s : SV} : ∀ {ss : List SV} {i : Nat}, lookA t (argT i ss) = some s → ∃ j, t = i + j ∧ ss[j]? = some s
  | [], i, h => by simp [argT, lookA] at h
  | s' :: ss, i, h => by
    simp only [argT, lookA] at h
    split at h
    · rename_i hb
      simp only [Option.some.injEq] at h
      subst h
      exact ⟨0, by rw [Nat.add_zero]; exact (Nat.eq_of_beq_eq_true hb).symm, rfl⟩
    · obtain ⟨j, h1, h2⟩ := argT_look h
      exact ⟨j + 1, by omega, by simpa using h2⟩
theorem resPart_run {σ : St} {β : Bk} {a : Act} {w : World} (H : MS ρ φ fx base σ β a w) {r : ResultVar} {p : Part} (h : resPart cx (dlB σ.dl base) σ r = some p) :
    ∃ x, (resStep a.tmps r).run cx.P w = .ok x w ∧ p.is ρ φ β x := by
  unfold resPart at h
  split at h
  · rename_i t
    split at h
    · rename_i p' hp
      simp only [Option.some.injEq] at h
      subst h
      exact ⟨_, rfl, opd_is (x := .tmp t) H.m hp⟩
    · exact absurd h (by simp)
  · rename_i t ty
    split at h
    · rename_i id off hc
      split at h
      · rename_i p' _ _ hδ
        simp only [Option.some.injEq] at h
        subst h
        have hcis := scIs H.m (x := .tmp t) hc
        obtain ⟨b, n, hb, hv⟩ := hcis
        have hr := loadX_run H.m hδ (v := .pointer (some ⟨b, off, none⟩)) ⟨b, n, hb, rfl⟩
        obtain ⟨_, _, x, hx, hxv⟩ := hr
        refine ⟨x, ?_, hxv⟩
        have hv : a.tmps.getD t undef = _ := hv
        simp only [resStep]
        rw [hv]
        simpa [asAddr, Instr.loadAt, Instr.sureAddr] using hx
      · exact absurd h (by simp)
    · exact absurd h (by simp)
theorem resParts_run {σ : St} {β : Bk} {a : Act} {w : World} (H : MS ρ φ fx base σ β a w) : ∀ {rs : List ResultVar} {ps : List Part}, resParts cx (dlB σ.dl base) σ rs = some ps →
    ∃ xs : List Value, (rs.mapM (resStep a.tmps)).run cx.P w = .ok xs w ∧ All2 (Part.is ρ φ β) ps xs
  | [], ps, h => by
    simp only [resParts, Option.some.injEq] at h
    subst h
    exact ⟨[], by simp, trivial⟩
  | r :: rs, ps, h => by
    simp only [resParts] at h
    split at h
    · rename_i p ps' hp hps
      simp only [Option.some.injEq] at h
      subst h
      obtain ⟨x, hx1, hx2⟩ := resPart_run H hp
      obtain ⟨xs, hxs1, hxs2⟩ := resParts_run H hps
      refine ⟨x :: xs, ?_, hx2, hxs2⟩
      simp only [List.mapM_cons, Sem.run_bind, hx1, Result.andThen_ok, hxs1, Sem.run_pure]
    · exact absurd h (by simp)
theorem resX_run {fn : Func} {σ : St} {β : Bk} {a : Act} {w : World} (H : MS ρ φ fx base σ β a w) {v : SV} (h : resX cx (dlB σ.dl base) fn.results.toList σ = some v) :
    ∃ x, (results fn a.tmps).run cx.P w = .ok x w ∧ v.is ρ φ β x := by
  have sem : ∀ xs : List Value, (fn.results.toList.mapM (resStep a.tmps)).run cx.P w = .ok xs w → (results fn a.tmps).run cx.P w = .ok (if h : xs.toArray.size = 1 then xs.toArray[0] else .tuple xs.toArray) w := by
    intro xs h1
    rw [results_eq, Array.mapM_eq_mapM_toList]
    simp only [Sem.run_bind, Sem.run_map, h1, Result.andThen_ok, Sem.run_pure]
  have base : ∀ {ps : List Part}, resParts cx (dlB σ.dl base) σ fn.results.toList = some ps → ∃ xs : List Value, (results fn a.tmps).run cx.P w = .ok (if h : xs.toArray.size = 1 then xs.toArray[0] else .tuple xs.toArray) w ∧ All2 (Part.is ρ φ β) ps xs := by
    intro ps hps
    obtain ⟨xs, h1, h2⟩ := resParts_run H hps
    exact ⟨xs, sem xs h1, h2⟩
  unfold resX at h
  split at h
  · rename_i t he
    refine ⟨a.tmps.getD t undef, ?_, opd_is (x := .tmp t) H.m h⟩
    have := sem [a.tmps.getD t undef] (by rw [he]; simp [List.mapM_cons, resStep])
    rw [this]
    rfl
  · split at h
    · rename_i p hps
      simp only [Option.some.injEq] at h
      subst h
      obtain ⟨xs, h1, h2⟩ := base hps
      match xs, h2 with
      | [x], h2 => exact ⟨x, by rw [h1]; rfl, h2.1⟩
    · rename_i ps hne hps
      simp only [Option.some.injEq] at h
      subst h
      obtain ⟨xs, h1, h2⟩ := base hps
      refine ⟨.tuple xs.toArray, ?_, xs, rfl, h2⟩
      rw [h1, dif_neg]
      intro e
      have hl := h2.length
      have e : xs.length = 1 := by simpa using e
      match ps, hne, hl with
      | [p], hne, _ => exact hne p rfl
      | [], _, hl => simp only [List.length_nil] at hl; omega
      | _ :: _ :: _, _, hl => simp only [List.length_cons] at hl; omega
    · exact absurd h (by simp)

theorem xxBeq_eq {x y : XX} (h : xxBeq x y = true) : x = y := by
  unfold xxBeq at h
  split at h
  · rfl
  · rw [Nat.eq_of_beq_eq_true h]
  · rfl
  · exact absurd h (by simp)
theorem joiSt_next {c : E} {n0 : Nat} {pre : List (Nat × SV)} {B : BK} {σ1 σ2 σm : St} (h : joiSt c n0 pre B σ1 σ2 = some σm) : σ1.next ≤ σm.next ∧ σ2.next ≤ σm.next ∧ n0 ≤ σm.next := by
  unfold joiSt at h
  simp only at h
  split at h
  · exact absurd h (by simp)
  split at h
  · exact absurd h (by simp)
  split at h
  · exact absurd h (by simp)
  split at h
  · exact absurd h (by simp)
  split at h
  · rename_i hok
    simp only [Option.some.injEq] at h
    subst h
    simp only [Bool.and_eq_true] at hok
    have h1 := Nat.le_of_ble_eq_true hok.1.2
    simp only
    omega
  · exact absurd h (by simp)
theorem dlB_nil (B : BK) : dlB [] B = B := rfl
/-- Ways made one, what they say. -/
theorem joi_snd (hct : cx.ct = []) {N : Nat} {f : Facts → BK → St → RX} {K : (Exit → Act → World → Prop) → Act → World → Prop} (h : ∀ fs base, Snd ws cx φ fs N base (f fs base) K) (D : Nat) (fs : Facts) (base : BK) : Snd ws cx φ fs N base (joiX cx D fs base f) K := by
  have C : CtSound cx φ := by
    intro g hg
    rw [hct] at hg
    simp at hg
  intro σ x σ' hx
  unfold joiX at hx
  simp only at hx
  obtain ⟨B, hB⟩ : ∃ B, B = dlB σ.dl base := ⟨_, rfl⟩
  rw [← hB] at hx
  have key : ∀ (k : Nat) (fs : Facts) (x : XX) (σ1 : St), joiR cx σ.next σ.tmps B (fun fs => f fs B ⟨σ.tmps, [], σ.next⟩) k fs = .ok x σ1 → σ.next ≤ σ1.next ∧
      ∀ (ρ : Nat → Value) (fx : Fx) (β : Bk) (a : Act) (w : World) (Q : Exit → Act → World → Prop), Fits cx.Γ cx.S ρ φ → fs.hold ρ φ → fx.N = N → fx.ws = ws → MS ρ φ fx B ⟨σ.tmps, [], σ.next⟩ β a w → (∀ id, σ.next ≤ id → id < σ1.next → β id = none) →
        (∀ β' a' w', Ext β β' → Newer β β' σ.next σ1.next → MS ρ φ fx B σ1 β' a' w' → Q x.toExit a' w') → K Q a w := by
    intro k
    induction k with
    | zero =>
      intro fs x σ1 h1
      exact h fs B _ x σ1 h1
    | succ k ih =>
      intro fs x σ1 h1
      simp only [joiR] at h1
      split at h1
      · rename_i c hc
        split at h1
        · rename_i hso
          split at h1
          · rename_i x1 s1 x2 s2 e1 e2
            split at h1
            · rename_i hxx
              have hxx := xxBeq_eq hxx
              subst hxx
              split at h1
              · rename_i sm hj
                simp only [RX.ok.injEq] at h1
                obtain ⟨rfl, rfl⟩ := h1
                obtain ⟨n1, n2, n3⟩ := joiSt_next hj
                obtain ⟨m1, p1⟩ := ih _ _ _ e1
                obtain ⟨m2, p2⟩ := ih _ _ _ e2
                refine ⟨n3, fun ρ fx β a w Q F hf hN hs H hn hQ => ?_⟩
                have hbool := so_bool F hso
                have hW := H.m.wld
                have hbase : ∀ id r, B id = some r → ∃ p, β id = some p := fun id r hr => by
                  obtain ⟨b, n, _, _, hb, _⟩ := hW.box id r hr
                  exact ⟨_, hb⟩
                have hcell : ∀ id r (k : Nat) (q : SC), B id = some r → r[k]? = some q → ∃ u, q.is ρ φ β u := fun id r k q hr hq => by
                  obtain ⟨b, n, arr, T, hb, _, _, _, _, h6⟩ := hW.box id r hr
                  obtain ⟨u, _, hu⟩ := h6 k q hq
                  exact ⟨u, hu⟩
                have hb0 : ∀ id, σ.next ≤ id → id < sm.next → B id = none ∧ β id = none := fun id g1 g2 => by
                  have := hn id g1 g2
                  refine ⟨?_, this⟩
                  cases hq : B id with
                  | none => rfl
                  | some r => obtain ⟨p, hp⟩ := hbase id r hq; rw [this] at hp; simp at hp
                cases hv : vbool (c.strip.den ρ φ) with
                | true =>
                  rw [hv] at hbool
                  refine p1 ρ fx β a w Q F (addF_hold F C c.strip true hf hbool) hN hs H (fun id g1 g2 => hn id g1 (by omega)) fun β' a' w' hE hNw hM => ?_
                  obtain ⟨β'', hE', hN', hM'⟩ := joiSt_ok (pol := true) hj hbool hb0 hbase hcell hE hNw hM
                  exact hQ β'' a' w' hE' hN' hM'
                | false =>
                  rw [hv] at hbool
                  refine p2 ρ fx β a w Q F (addF_hold F C c.strip false hf hbool) hN hs H (fun id g1 g2 => hn id g1 (by omega)) fun β' a' w' hE hNw hM => ?_
                  obtain ⟨β'', hE', hN', hM'⟩ := joiSt_ok (pol := false) hj hbool hb0 hbase hcell hE hNw hM
                  exact hQ β'' a' w' hE' hN' hM'
              · exact absurd h1 (by simp)
            · exact absurd h1 (by simp)
          · exact absurd h1 (by simp)
        · exact absurd h1 (by simp)
      · exact h fs B _ x σ1 h1
  unfold liftX at hx
  split at hx
  · rename_i y σ1 h1
    simp only [RX.ok.injEq] at hx
    obtain ⟨rfl, rfl⟩ := hx
    obtain ⟨m, p⟩ := key D fs y σ1 h1
    refine ⟨m, fun ρ fx β a w Q F hf hN hs H hn hQ => p ρ fx β a w Q F hf hN hs ⟨?_⟩ hn fun β' a' w' hE hNw hM => hQ β' a' w' hE hNw ⟨?_⟩⟩
    · have := H.m
      rw [← hB] at this
      exact this
    · have := hM.m
      rw [hB] at this
      simp only [dlB_append]
      exact this
  · rename_i hne
    exact absurd hx (hne x σ')

theorem callI_ok (hname : ∀ (f : FuncId) (fn : Func), cx.P.funcs[f]? = some fn → (fn.name == "runtime.NumGoroutine") = false) {r : RunT} {D : Nat} (hct : cx.ct = []) (hvw : ws.vw = cx.vw) (hext : ExtOk ws cx φ ext) (hr : RunOk ws cx φ r) : CallOk ws cx φ (callD cx ext r D) := by
  refine ⟨hvw, ?_⟩
  intro f svs B n fs d h ρ β w xs N F hf hW hn ha
  unfold callD at h
  split at h
  · rename_i o ho
    subst h
    exact hext f svs B n fs d ho ρ β w xs N F hf hW hn ha
  split at h
  · rename_i fn hfn
    split at h
    · rename_i c hb
      have hlen := ha.length
      refine ⟨callFunc_run hfn hb (hname f fn hfn) _ _, ?_⟩
      have ends : ∀ (x : XX) (σ : St), (x = .normal ∨ x = .ret) → joiX cx D fs B (fun fs B σ => r fs (svs.length + (fn.ntmps - svs.length)) B c σ) ⟨argT 0 svs, [], n⟩ = .ok x σ → retX cx fn B σ = .ok d →
          Calls cx.P f xs.toArray w fun e w' => ∃ x β', e = .returned x ∧ Ext β β' ∧ Newer β β' n d.next ∧ W ρ φ ⟨N, Xof B β, B, w, ws⟩ (dlB d.dl B) β' w' ∧ d.v.is ρ φ β' x := by
        intro x σ hx hrun hret
        unfold retX at hret
        split at hret
        · rename_i v hv
          simp only [OR.ok.injEq] at hret
          subst hret
          refine calls_of_wp hfn hb ?_
          obtain ⟨_, hs⟩ := joi_snd (N := svs.length + (fn.ntmps - svs.length)) hct (fun fs base => hr fs _ base c) D fs B _ _ _ hrun
          refine hs ρ ⟨svs.length + (fn.ntmps - svs.length), Xof B β, B, w, ws⟩ β _ w _ F hf rfl rfl ⟨⟨fun t s h => ?_, by simp [hlen], rfl, ?_⟩⟩ hn fun β' a' w' hE hN hM => ?_
          · obtain ⟨j, h1, h2⟩ := argT_look h
            rw [Nat.zero_add] at h1
            subst h1
            obtain ⟨x, hx, hsx⟩ := ha.get h2
            refine ⟨x, ?_, hsx⟩
            have hjl := (List.getElem?_eq_some_iff.1 hx).1
            rw [Array.getElem?_append_left (by simpa using hjl)]
            simpa using hx
          · exact ⟨hW.low, hW.box, hW.msk, hW.inj, hW.inh, hW.hi, hW.len, hW.base⟩
          · obtain ⟨y, h1, h2⟩ := resX_run (base := B) hM hv
            have hpost : ∃ x β', (Ending.returned y) = .returned x ∧ Ext β β' ∧ Newer β β' n σ.next ∧ W ρ φ ⟨N, Xof B β, B, w, ws⟩ (dlB σ.dl B) β' w' ∧ v.is ρ φ β' x :=
              ⟨y, β', rfl, hE, hN, ⟨hM.m.wld.low, hM.m.wld.box, hM.m.wld.msk, hM.m.wld.inj, hM.m.wld.inh, hM.m.wld.hi, hM.m.wld.len, hM.m.wld.base⟩, h2⟩
            rcases hx with rfl | rfl
            · exact ⟨hM.m.dfr, y, h1, hpost⟩
            · exact ⟨hM.m.dfr, y, h1, hpost⟩
        · exact absurd hret (by simp)
      unfold endX at h
      split at h
      · rename_i x σ hrun
        split at h
        · exact ends _ σ (Or.inl rfl) hrun h
        · exact ends _ σ (Or.inr rfl) hrun h
        · exact absurd h (by simp)
      · exact absurd h (by simp)
      · exact absurd h (by simp)
    · exact absurd h (by simp)
  · exact absurd h (by simp)

theorem free_left {β : Bk} {n m k : Nat} (h : ∀ id, n ≤ id → id < k → β id = none) (hm : m ≤ k) : ∀ id, n ≤ id → id < m → β id = none := fun id h1 h2 => h id h1 (by omega)
theorem free_right {β β' : Bk} {n m k : Nat} (h : ∀ id, n ≤ id → id < k → β id = none) (hN : Newer β β' n m) (hnm : n ≤ m) : ∀ id, m ≤ id → id < k → β' id = none := by
  intro id h1 h2
  cases hb : β' id with
  | none => rfl
  | some p =>
    rcases hN id p hb with h3 | ⟨h3, h4⟩
    · rw [h id (by omega) h2] at h3; simp at h3
    · omega

theorem Snd.then {fs : Facts} {N : Nat} {f1 f2 : St → RX} {K1 K2 : (Exit → Act → World → Prop) → Act → World → Prop} (h1 : Snd ws cx φ fs N base f1 K1) (h2 : Snd ws cx φ fs N base f2 K2) :
    Snd ws cx φ fs N base (fun σ => andThen (f1 σ) f2) fun Q => K1 (Exit.then (K2 Q) Q) := by
  intro σ x σ' h
  simp only at h
  unfold andThen at h
  split at h
  · rename_i y σ1 e1
    obtain ⟨m1, s1⟩ := h1 _ _ _ e1
    split at h
    · obtain ⟨m2, s2⟩ := h2 _ _ _ h
      refine ⟨Nat.le_trans m1 m2, fun ρ fx β a w Q F hf hN hs H hn hQ => ?_⟩
      refine s1 ρ fx β a w _ F hf hN hs H (free_left hn m2) fun β' a' w' hE hNw hM => ?_
      show K2 Q a' w'
      refine s2 ρ fx β' a' w' Q F hf hN hs hM (free_right hn hNw m1) fun β'' a'' w'' hE' hN' hM' => ?_
      exact hQ β'' a'' w'' (hE.trans hE') (hNw.trans hN' m1 m2) hM'
    · rename_i hne
      simp only [RX.ok.injEq] at h
      obtain ⟨rfl, rfl⟩ := h
      refine ⟨m1, fun ρ fx β a w Q F hf hN hs H hn hQ => ?_⟩
      refine s1 ρ fx β a w _ F hf hN hs H hn fun β' a' w' hE hNw hM => ?_
      have := hQ β' a' w' hE hNw hM
      cases y with
      | normal => exact absurd rfl hne
      | exit id => exact this
      | ret => exact this
  · rename_i hne
    exact absurd h (hne x σ')
theorem Snd.mono {fs : Facts} {N : Nat} {f : St → RX} {K K' : (Exit → Act → World → Prop) → Act → World → Prop} (h : Snd ws cx φ fs N base f K) (hk : ∀ Q a w, K Q a w → K' Q a w) : Snd ws cx φ fs N base f K' :=
  fun σ x σ' hf => ⟨(h σ x σ' hf).1, fun ρ fx β a w Q F hf' hN hs H hn hQ => hk Q a w ((h σ x σ' hf).2 ρ fx β a w Q F hf' hN hs H hn hQ)⟩
theorem rep_snd {fs : Facts} {N : Nat} {f : St → RX} {c : Code} (h : Snd ws cx φ fs N base f fun Q => c.wp cx.P Q) : ∀ m, Snd ws cx φ fs N base (rep f m) fun Q => Code.rounds cx.P c Q m
  | 0 => fun _ _ _ h => by simp [rep] at h
  | m + 1 => fun σ x σ' hf => (h.then (rep_snd h m)) σ x σ' hf

theorem run_ok (hname : ∀ (f : FuncId) (fn : Func), cx.P.funcs[f]? = some fn → (fn.name == "runtime.NumGoroutine") = false) {D : Nat} {hk : HkT} (hct : cx.ct = []) (hvw : ws.vw = cx.vw) (hext : ExtOk ws cx φ ext) (hhk : HkOk ws cx φ hk) : ∀ n, RunOk ws cx φ (runH cx ext D hk n)
  | 0 => fun _ _ _ _ _ _ _ h => by simp [runH] at h
  | n + 1 => by
    have ih := run_ok (D := D) hname hct hvw hext hhk n
    have C := callI_ok (D := D) hname hct hvw hext ih
    intro fs N base c σ x σ' h0
    have h : runStep cx ext D hk n (runH cx ext D hk n) fs N base c σ = .ok x σ' := h0
    clear h0
    have same : ∀ {y : XX} {c : Code}, (∀ (Q : Exit → Act → World → Prop) a w, Q y.toExit a w → c.wp cx.P Q a w) → Snd ws cx φ fs N base (fun σ => .ok y σ) fun Q => c.wp cx.P Q := by
      intro y c hc σ x σ' e
      simp only [RX.ok.injEq] at e
      obtain ⟨rfl, rfl⟩ := e
      exact ⟨Nat.le_refl _, fun ρ fx β a w Q F hf hN hs H hn hQ => hc Q a w (hQ β a w (Ext.refl _) (Newer.refl _ _ _) H)⟩
    unfold runStep at h
    split at h
    · exact same (y := .normal) (fun Q a w hq => wp_skip hq) σ x σ' h
    · rename_i rid ops draw
      refine joi_snd (N := N) hct (fun fs base => ?_) D fs base σ x σ' h
      clear h
      intro σ x σ' h
      replace h : ofRR (if draw then regD cx (callD cx ext (runH cx ext D hk n) D) fs N base ops σ else regT cx (callD cx ext (runH cx ext D hk n) D) fs N base ops ops.toList σ) = .ok x σ' := h
      unfold ofRR at h
      split at h
      · rename_i σ1 h1
        simp only [RX.ok.injEq] at h
        obtain ⟨rfl, rfl⟩ := h
        cases draw with
        | true =>
          simp only [if_true] at h1
          refine ⟨regD_next h1, fun ρ fx β a w Q F hf hN hs H hn hQ => ?_⟩
          subst hN hs
          exact regD_sound F C hf h1 H hn hQ
        | false =>
          simp only [Bool.false_eq_true, if_false] at h1
          refine ⟨regT_next h1, fun ρ fx β a w Q F hf hN hs H hn hQ => ?_⟩
          subst hN hs
          exact wp_region_list (regT_sound F C hf h1 H hn hQ)
      · exact absurd h (by simp)
      · exact absurd h (by simp)
    · rename_i c1 c2
      exact ((ih fs N base c1).then (ih fs N base c2)).mono (fun Q a w hk => wp_seq hk) σ x σ' h
    · rename_i o c1 c2
      refine joi_snd (N := N) hct (fun fs base => ?_) (if stays c1 && stays c2 then D else 0) fs base σ x σ' h
      clear h
      intro σ x σ' h
      simp only at h
      split at h
      · rename_i e he
        unfold condX at h
        split at h
        · rename_i hd
          obtain ⟨m, s⟩ := ih _ _ _ _ _ _ _ h
          refine ⟨m, fun ρ fx β a w Q F hf hN hs H hn hQ => wp_cond_true ?_ (s ρ fx β a w Q F hf hN hs H hn hQ)⟩
          rw [exIs H.m he]
          exact dec_sound F hf hd
        · rename_i hd
          obtain ⟨m, s⟩ := ih _ _ _ _ _ _ _ h
          refine ⟨m, fun ρ fx β a w Q F hf hN hs H hn hQ => wp_cond_false ?_ (s ρ fx β a w Q F hf hN hs H hn hQ)⟩
          rw [exIs H.m he]
          exact dec_sound F hf hd
        · split at h <;> exact absurd h (by simp)
      · exact absurd h (by simp)
    · rename_i id c1
      refine joi_snd (N := N) hct (fun fs base => ?_) D fs base σ x σ' h
      clear h
      intro σ x σ' h
      simp only at h
      unfold unblock at h
      split at h
      · rename_i y σ1 h1
        obtain ⟨m, s⟩ := ih _ _ _ _ _ _ _ h1
        split at h
        · rename_i i
          split at h
          · rename_i hb
            have hb := Nat.eq_of_beq_eq_true hb
            subst hb
            simp only [RX.ok.injEq] at h
            obtain ⟨rfl, rfl⟩ := h
            refine ⟨m, fun ρ fx β a w Q F hf hN hs H hn hQ => wp_block (s ρ fx β a w _ F hf hN hs H hn fun β' a' w' hE hN' hM => ?_)⟩
            show (if i = i then Q .normal a' w' else Q (.exit i) a' w')
            rw [if_pos rfl]
            exact hQ β' a' w' hE hN' hM
          · rename_i hb
            simp only [RX.ok.injEq] at h
            obtain ⟨rfl, rfl⟩ := h
            refine ⟨m, fun ρ fx β a w Q F hf hN hs H hn hQ => wp_block (s ρ fx β a w _ F hf hN hs H hn fun β' a' w' hE hN' hM => ?_)⟩
            show (if i = id then Q .normal a' w' else Q (.exit i) a' w')
            rw [if_neg (by intro e; subst e; simp at hb)]
            exact hQ β' a' w' hE hN' hM
        · rename_i hne
          simp only [RX.ok.injEq] at h
          obtain ⟨rfl, rfl⟩ := h
          refine ⟨m, fun ρ fx β a w Q F hf hN hs H hn hQ => wp_block (s ρ fx β a w _ F hf hN hs H hn fun β' a' w' hE hN' hM => ?_)⟩
          have := hQ β' a' w' hE hN' hM
          cases y with
          | normal => exact this
          | exit i => exact absurd rfl (hne i)
          | ret => exact this
      · rename_i hne
        exact absurd h (hne x σ')
    · rename_i c1
      split at h
      · rename_i y hy
        exact hhk c1 fs N base σ x σ' (by show (hk c1 fs base σ).getD .stuck = _; rw [hy]; exact h)
      · exact (rep_snd (ih fs N base c1) n).mono (fun Q a w hk => wp_loop_rounds n hk) σ x σ' h
    · rename_i id
      exact same (y := .exit id) (fun Q a w hq => wp_exit hq) σ x σ' h
    · exact same (y := .ret) (fun Q a w hq => wp_ret hq) σ x σ' h
    · rename_i c1
      obtain ⟨m, s⟩ := ih _ _ _ _ _ _ _ h
      refine ⟨m, fun ρ fx β a w Q F hf hN hs H hn hQ => wp_scope_straight (s ρ fx β a w _ F hf hN hs H hn fun β' a' w' hE hN' hM => ?_)⟩
      have := hQ β' a' w' hE hN' hM
      cases x with
      | normal => exact this
      | exit i => exact this
      | ret => exact this
    · exact absurd h (by simp)

/-- **A function called does what its run says**: its arguments may be slices that came in. -/
theorem calls_runV (hname : ∀ (f : FuncId) (fn : Func), cx.P.funcs[f]? = some fn → (fn.name == "runtime.NumGoroutine") = false) {n D : Nat} {hk : HkT} {f : FuncId} {args : List SV} {fs : Facts} {d : Out} {xs : List Value} {w : World} (hct : cx.ct = []) (hvw : ∀ v ∈ cx.vw, VwC v ρ w) (hext : ExtOk ⟨w, cx.vw⟩ cx φ ext) (hhk : HkOk ⟨w, cx.vw⟩ cx φ hk)
    (h : callD cx ext (runH cx ext D hk n) D f args (fun _ => none) 0 fs = .ok d) (F : Fits cx.Γ cx.S ρ φ) (hf : fs.hold ρ φ) (ha : All2 (SV.is ρ φ fun _ => none) args xs) :
    Calls cx.P f xs.toArray w fun e w' => ∃ x β', e = .returned x ∧ d.v.is ρ φ β' x ∧ Below w.heap.size w w' := by
  have hW : W ρ φ ⟨0, Xof (fun _ => none) (fun _ => none), fun _ => none, w, ⟨w, cx.vw⟩⟩ (fun _ => none) (fun _ => none) w :=
    ⟨LowP.refl _ _, fun id row h => absurd h (by simp), fun id row k h => absurd h (by simp), fun id id' r r' b n n' h => absurd h (by simp), fun id b n h => absurd h (by simp), fun id b n h => absurd h (by simp), Nat.le_refl _, fun _ _ => rfl, hvw⟩
  refine ((callI_ok hname hct rfl hext (run_ok hname hct rfl hext hhk n)).2 f args _ 0 fs d h ρ (fun _ => none) w xs 0 F hf hW (fun _ _ _ => rfl) ha).2.mono ?_
  rintro e w' ⟨x, β', rfl, _, _, hW', hx⟩
  exact ⟨x, β', rfl, hx, ⟨hW'.low.os, hW'.low.tape, hW'.low.output, hW'.low.size, fun k hk => hW'.low.block k hk (by rintro ⟨id, row, n, h, _⟩; exact absurd h (by simp))⟩⟩
/-- **A function called on what is plain does what its run says.** -/
theorem calls_run (hname : ∀ (f : FuncId) (fn : Func), cx.P.funcs[f]? = some fn → (fn.name == "runtime.NumGoroutine") = false) {n : Nat} {f : FuncId} {args : List SV} {fs : Facts} {d : Out} {xs : List Value} {w : World} (hct : cx.ct = []) (hvw : cx.vw = []) (hext : ExtOk ⟨w, []⟩ cx φ ext)
    (h : callI cx ext (run cx ext n) f args (fun _ => none) 0 fs = .ok d) (F : Fits cx.Γ cx.S ρ φ) (hf : fs.hold ρ φ) (ha : All2 (SV.is ρ φ fun _ => none) args xs) :
    Calls cx.P f xs.toArray w fun e w' => ∃ x β', e = .returned x ∧ d.v.is ρ φ β' x ∧ Below w.heap.size w w' :=
  calls_runV (D := 0) hname hct (fun v hv => by rw [hvw] at hv; simp at hv) (by rw [hvw]; exact hext) (hk0_ok _ _ _) h F hf ha
end
end Go.CX
