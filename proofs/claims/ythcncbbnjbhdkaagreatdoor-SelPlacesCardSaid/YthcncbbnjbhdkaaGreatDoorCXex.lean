/- CX: calls whose answer only has to be there: a symbol for it, its meaning by choice; that it is there, by a run. -/
import Derived.Test.YthcncbbnjbhdkaaGreatDoorCXnm
namespace Go.CX.Cp
open Go Go.RowKit Go.SX Go.CX
def compsV : Value → List Value
  | .tuple vs => vs.toList
  | x => [x]
def plainS : So → Bool
  | .int _ => true
  | .bool => true
  | _ => false
def partT : Part → Option E
  | ⟨false, [.e t]⟩ => some t
  | _ => none
/-- Results of these sorts. -/
def ResOk : List So → Value → Prop
  | [s], x => s.has x ∧ compsV x = [x]
  | ss, x => ∃ vs : List Value, x = .tuple vs.toArray ∧ All2 So.has ss vs
def resK (cx : Cx) : List So → SV → Bool
  | [s], .one ⟨false, [.e t]⟩ => plainS s && soOk cx [s] [t]
  | ss, .tup ps => match ps.mapM partT with
    | some ts => soOk cx ss ts && Nat.ble 2 ss.length
    | none => false
  | _, _ => false
def There (P : Program) (f : FuncId) (ss : List So) (xs : List Value) (x : Value) : Prop := ResOk ss x ∧ ∀ W : World, Calls P f xs.toArray W fun e W' => e = .returned x ∧ Below W.heap.size W W'
noncomputable def answer (P : Program) (f : FuncId) (ss : List So) (xs : List Value) : Value := open Classical in if h : ∃ x, There P f ss xs x then Classical.choose h else undef
theorem answer_is {P : Program} {f : FuncId} {ss : List So} {xs : List Value} (h : ∃ x, There P f ss xs x) : There P f ss xs (answer P f ss xs) := by
  unfold answer
  rw [dif_pos h]
  exact Classical.choose_spec h
/-- A value of a sort, or the least of them. -/
def zeroS : So → Value
  | .int k => .int k 0
  | .bool => .bool false
  | _ => undef
noncomputable def fixS (s : So) (x : Value) : Value := open Classical in if s.has x then x else zeroS s
theorem fixS_has {s : So} (hs : s.has (zeroS s)) (x : Value) : s.has (fixS s x) := by
  unfold fixS
  split
  · assumption
  · exact hs
theorem fixS_id {s : So} {x : Value} (h : s.has x) : fixS s x = x := by
  unfold fixS
  rw [if_pos h]
/-- The symbol's meaning. -/
noncomputable def phA (P : Program) (f : FuncId) (ss : List So) (xs : List Value) : List Value := (List.range ss.length).map fun j => fixS (ss.getD j .any) ((compsV (answer P f ss xs)).getD j undef)
structure Ex where
  f : FuncId
  sym : Nat
  ss : List So
  ps : List So
  pat : List (Option E)
def psE (ss : List So) : List (Bool × List So) := ss.map fun s => (false, [s])
def resE (x : Ex) (es : List E) : SV := match x.ss with
  | [_] => .one ⟨false, [.e (.app x.sym 0 (toL es))]⟩
  | ss => .tup ((List.range ss.length).map fun j => ⟨false, [.e (.app x.sym j (toL es))]⟩)
def exX (cx : Cx) (x : Ex) : ExtT := fun g args _ n _ => if Nat.beq g x.f then (match flatC cx (psE x.ps) args with
  | some es => if es.all notCons && patOk x.pat es then some (.ok ⟨resE x es, [], n⟩) else none
  | none => none) else none
def smE (x : Ex) : Sm := ⟨x.f, [], psE x.ps, false, [], none⟩
def exR (P : Program) (sy : List (Nat × List So)) (x : Ex) (ext : ExtT) (n D k : Nat) : Bool := endsC (cxS P sy (smE x)) ext n D x.f (argsP x.pat 0 (psE x.ps)) k [] fun _ sv => resK (cxS P sy (smE x)) x.ss sv
section
variable {ρ : Nat → Value} {φ : Nat → List Value → List Value} {cx : Cx}
theorem packs_psE : ∀ {ss : List So} {xs fl : List Value}, packs (psE ss) xs fl → xs = fl
  | [], [], fl, h => h.symm
  | [], _ :: _, fl, h => h.elim
  | s :: ss, [], fl, h => h.elim
  | s :: ss, x :: xs, fl, h => by
    obtain ⟨f1, f2, h1, h2, h3, h4⟩ := h
    have h3 : f1 = [x] := h3
    rw [h1, h3, packs_psE h4]
    rfl
theorem mapM_some {α β : Type} {g : α → Option β} : ∀ {l : List α} {r : List β}, l.mapM g = some r → All2 (fun b a => g a = some b) r l
  | [], r, h => by
    simp only [List.mapM_nil, Option.pure_def, Option.some.injEq] at h
    subst h; trivial
  | a :: l, r, h => by
    simp only [List.mapM_cons, Option.bind_eq_bind, Option.bind_eq_some_iff, Option.pure_def, Option.some.injEq] at h
    obtain ⟨b, hb, r', hr, rfl⟩ := h
    exact ⟨hb, mapM_some hr⟩
theorem resK_ok (F : Fits cx.Γ cx.S ρ φ) {ss : List So} {sv : SV} (h : resK cx ss sv = true) : ∃ x, ResOk ss x ∧ ∀ (β : Bk) (y : Value), sv.is ρ φ β y → y = x := by
  unfold resK at h
  split at h
  · rename_i s t
    rw [Bool.and_eq_true] at h
    have hs : s.has (t.den ρ φ) := (soOk_has F h.2).1
    refine ⟨t.den ρ φ, ⟨hs, ?_⟩, fun β y hy => hy⟩
    cases s with
    | int k => obtain ⟨n, hn, _⟩ := hs; rw [hn]; rfl
    | bool => obtain ⟨b, hb⟩ := hs; rw [hb]; rfl
    | _ => cases h.1
  · rename_i ps _
    split at h
    · rename_i ts hts
      rw [Bool.and_eq_true] at h
      have h2 := Nat.le_of_ble_eq_true h.2
      have hall := soOk_has F h.1
      have hm := mapM_some hts
      refine ⟨.tuple (ts.map (·.den ρ φ)).toArray, ?_, fun β y hy => ?_⟩
      · match ss, h2 with
        | _ :: _ :: _, _ => exact ⟨_, rfl, hall⟩
      · obtain ⟨vs, h1, h3⟩ := hy
        have key : ∀ {ts : List E} {ps : List Part} {vs : List Value}, All2 (fun b a => partT a = some b) ts ps → All2 (Part.is ρ φ β) ps vs → vs = ts.map (·.den ρ φ) := by
          intro ts
          induction ts with
          | nil =>
            intro ps vs a b
            cases ps with
            | nil => cases vs with | nil => rfl | cons _ _ => exact b.elim
            | cons _ _ => exact a.elim
          | cons t ts ih =>
            intro ps vs a b
            cases ps with
            | nil => exact a.elim
            | cons p ps =>
              cases vs with
              | nil => exact b.elim
              | cons v vs =>
                have hp : partT p = some t := a.1
                have hv : p.is ρ φ β v := b.1
                rw [ih a.2 b.2]
                unfold partT at hp
                split at hp
                · simp only [Option.some.injEq] at hp
                  subst hp
                  have hv : v = E.den ρ φ _ := hv
                  rw [hv]; rfl
                · cases hp
        rw [h1, key hm h3]
    · cases h
  · cases h
/-- A literal's value. -/
def litV : E → Value
  | .int k n => .int k n
  | .bool b => .bool b
  | _ => undef
def patV (pat : List (Option E)) (vals : List Value) : Prop := ∀ (i : Nat) (q : E), pat[i]? = some (some q) → litE q = true ∧ vals[i]? = some (litV q)
theorem sos_psE : ∀ ss : List So, sosOf (psE ss) = ss
  | [] => rfl
  | s :: ss => by
    show s :: sosOf (psE ss) = _
    rw [sos_psE ss]
theorem exX_by {ws : Base} {x : Ex} (hin : Enters cx.P x.f) (hφ : ∀ xs, φ x.sym xs = phA cx.P x.f x.ss xs) (H : ∀ vals, All2 So.has x.ps vals → patV x.pat vals → ∃ y, There cx.P x.f x.ss vals y) : ExtOk ws cx φ (exX cx x) := by
  intro g svs B n0 fs d hd ρ β w xs N F hf hW hn ha
  unfold exX at hd
  split at hd
  · rename_i he
    have he := Nat.eq_of_beq_eq_true he
    subst he
    split at hd
    · rename_i es hes
      split at hd
      · rename_i hc
        rw [Bool.and_eq_true] at hc
        obtain ⟨hnc, hpat⟩ := hc
        simp only [Option.some.injEq, OR.ok.injEq] at hd
        obtain ⟨a1, a2⟩ := argsS_is (β' := fun _ => none) (cs := []) (rest := []) F hes ha rfl
        rw [List.nil_append, List.append_nil] at a1
        have hxs : xs = es.map (·.den ρ φ) := packs_psE (flatC_is F hes ha)
        have hth : ∃ y, There cx.P x.f x.ss xs y := by
          rw [hxs]
          rw [sos_psE] at a2
          refine H _ a2 fun i q hq => ?_
          obtain ⟨h1, h2⟩ := patOk_at hpat i q hq
          refine ⟨h1, ?_⟩
          rw [List.getElem?_map, h2]
          cases q <;> first | rfl | cases h1
        obtain ⟨hr, hcall⟩ := answer_is hth
        refine ⟨hin _ _, (hcall w).mono ?_⟩
        rintro e w' ⟨rfl, hb⟩
        subst hd
        refine ⟨_, β, rfl, Ext.refl _, Newer.refl _ _ _, hW.grow hb, ?_⟩
        have app : ∀ j, (E.app x.sym j (toL es)).den ρ φ = (phA cx.P x.f x.ss xs).getD j undef := by
          intro j
          show (φ x.sym (E.dens ρ φ (toL es))).getD j undef = _
          rw [toL_dens, hφ, hxs]
        have at_j : ∀ j s, x.ss[j]? = some s → ∀ v, (compsV (answer cx.P x.f x.ss xs))[j]? = some v → s.has v → (phA cx.P x.f x.ss xs).getD j undef = v := by
          intro j s hj v hv hs
          unfold phA
          have hlt : j < x.ss.length := (List.getElem?_eq_some_iff.1 hj).1
          rw [List.getD_eq_getElem?_getD, List.getElem?_map, List.getElem?_range hlt]
          show fixS (x.ss.getD j .any) ((compsV (answer cx.P x.f x.ss xs)).getD j undef) = v
          rw [List.getD_eq_getElem?_getD, List.getD_eq_getElem?_getD, hj, hv]
          exact fixS_id hs
        generalize hA : answer cx.P x.f x.ss xs = A at hr at_j
        show (resE x es).is ρ φ β A
        unfold resE
        cases hss : x.ss with
        | nil =>
          rw [hss] at hr
          obtain ⟨vs, h1, h2⟩ := hr
          cases vs with
          | nil => exact ⟨[], h1, trivial⟩
          | cons _ _ => exact h2.elim
        | cons s ss =>
          cases ss with
          | nil =>
            rw [hss] at hr
            obtain ⟨hr, hcv⟩ := hr
            show A = (E.app x.sym 0 (toL es)).den ρ φ
            rw [app]
            refine (at_j 0 s (by rw [hss]; rfl) A ?_ hr).symm
            rw [hcv]; rfl
          | cons s2 ss =>
            rw [hss] at hr
            obtain ⟨vs, h1, h2⟩ := hr
            refine ⟨vs, h1, ?_⟩
            have hcv : compsV A = vs := by rw [h1]; rfl
            have key : ∀ (ss' : List So) (vs' : List Value) (o : Nat), (∀ j s v, ss'[j]? = some s → vs'[j]? = some v → x.ss[o + j]? = some s ∧ vs[o + j]? = some v) → All2 So.has ss' vs' → All2 (Part.is ρ φ β) ((List.range' o ss'.length).map fun j => (⟨false, [.e (.app x.sym j (toL es))]⟩ : Part)) vs' := by
              intro ss'
              induction ss' with
              | nil => intro vs' o _ h; cases vs' with | nil => trivial | cons _ _ => exact h.elim
              | cons s ss' ih =>
                intro vs' o hj h
                cases vs' with
                | nil => exact h.elim
                | cons v vs' =>
                  refine ⟨?_, ih vs' (o + 1) (fun j s v a b => ?_) h.2⟩
                  · show v = (E.app x.sym o (toL es)).den ρ φ
                    rw [app]
                    obtain ⟨p1, p2⟩ := hj 0 s v rfl rfl
                    exact (at_j o s p1 v (by rw [hcv]; exact p2) h.1).symm
                  · have := hj (j + 1) s v a b
                    rw [show o + 1 + j = o + (j + 1) by omega]
                    exact this
            have := key (s :: s2 :: ss) vs 0 (fun j s v a b => ⟨by rw [Nat.zero_add, hss]; exact a, by rw [Nat.zero_add]; exact b⟩) h2
            rw [List.range_eq_range']
            exact this
      · cases hd
    · cases hd
  · cases hd
theorem argsS_vals {ρ' : Nat → Value} {β : Bk} : ∀ (ss : List So) (o : Nat) (vals : List Value), vals.length = ss.length → (∀ i, i < vals.length → ρ' (o + i) = vals.getD i undef) → All2 (SV.is ρ' φ β) (argsS o (psE ss)) vals
  | [], o, [], _, _ => trivial
  | [], _, _ :: _, h, _ => by simp at h
  | _ :: _, _, [], h, _ => by simp at h
  | s :: ss, o, v :: vals, h, hv => by
    refine ⟨?_, argsS_vals ss (o + 1) vals (by simpa using h) fun i hi => ?_⟩
    · have := hv 0 (by simp)
      exact this.symm
    · have := hv (i + 1) (by simp; omega)
      rw [show o + 1 + i = o + (i + 1) by omega, this]; rfl
theorem exX_ok {ws : Base} {x : Ex} {ext : ExtT} {n D k : Nat} (hname : ∀ (f : FuncId) (fn : Func), cx.P.funcs[f]? = some fn → (fn.name == "runtime.NumGoroutine") = false) (hin : Enters cx.P x.f) (hfit : ∀ f j args, (symS cx.sy f j).has ((φ f args).getD j undef))
    (hext : ∀ w : World, ExtOk ⟨w, []⟩ (cxS cx.P cx.sy (smE x)) φ ext) (hφ : ∀ xs, φ x.sym xs = phA cx.P x.f x.ss xs) (h : exR cx.P cx.sy x ext n D k = true) : ExtOk ws cx φ (exX cx x) := by
  refine exX_by hin hφ fun vals hvals hpat => ?_
  have hl : vals.length = x.ps.length := hvals.length.symm
  have F' : Fits (cxS cx.P cx.sy (smE x)).Γ (cxS cx.P cx.sy (smE x)).S (fun i => vals.getD i undef) φ := by
    refine ⟨fun i => ?_, hfit⟩
    show ((([] : List So) ++ sosOf (psE x.ps)).getD i .any).has _
    rw [List.nil_append, sos_psE]
    exact all2_get hvals i
  have hpt : ∀ i, (E.var i).den (fun i => vals.getD i undef) φ = (patE x.pat i).den (fun i => vals.getD i undef) φ := by
    intro i
    unfold patE
    split
    · rename_i q hq
      obtain ⟨h1, h2⟩ := hpat i q hq
      show vals.getD i undef = _
      rw [List.getD_eq_getElem?_getD, h2]
      cases q <;> first | rfl | cases h1
    · rfl
  unfold exR at h
  obtain ⟨v, fs', h1, h2, h3⟩ := endsC_ok (cx := cxS cx.P cx.sy (smE x)) rfl hname F' (fun c hc => by simp at hc) (argsP_is hpt (argsS_vals (β := fun _ => none) x.ps 0 vals hl fun i _ => by rw [Nat.zero_add])) h
  obtain ⟨y, hy1, hy2⟩ := resK_ok F' h2
  exact ⟨y, hy1, fun W => ((h3 W (fun v hv => by simp [cxS] at hv) (hext W)).mono fun e w' ⟨z, β', h1, h2, h3⟩ => ⟨by rw [h1, hy2 β' z h2], h3⟩)⟩
end
end Go.CX.Cp
