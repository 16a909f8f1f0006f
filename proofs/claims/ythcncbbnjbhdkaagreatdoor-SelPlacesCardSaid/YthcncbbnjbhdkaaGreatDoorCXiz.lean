/- CX: what a call answers and leaves in its receiver's block, as terms of what came in: run once, put in at every call. -/
import Derived.Test.YthcncbbnjbhdkaaGreatDoorCXiy
namespace Go.CX
open Go Go.RowKit Go.SX

/-- Terms for variables. -/
def sbE (σ : List E) : E → E
  | .var i => σ.getD i (.var i)
  | .bin op k a b => .bin op k (sbE σ a) (sbE σ b)
  | .shf op k a b => .shf op k (sbE σ a) (sbE σ b)
  | .cmp op a b => .cmp op (sbE σ a) (sbE σ b)
  | .beq a b => .beq (sbE σ a) (sbE σ b)
  | .seq a b => .seq (sbE σ a) (sbE σ b)
  | .not a => .not (sbE σ a)
  | .conv k a => .conv k (sbE σ a)
  | .ite c a b => .ite (sbE σ c) (sbE σ a) (sbE σ b)
  | .idx i l => .idx (sbE σ i) (sbE σ l)
  | .app f j args => .app f j (sbE σ args)
  | .cons a b => .cons (sbE σ a) (sbE σ b)
  | .len a => .len (sbE σ a)
  | .byte s i => .byte (sbE σ s) (sbE σ i)
  | .cut s lo hi => .cut (sbE σ s) (sbE σ lo) (sbE σ hi)
  | .tup l => .tup (sbE σ l)
  | .el g i sz off s => .el (sbE σ g) (sbE σ i) sz off s
  | e => e
def eqT (cx : Cx) (t u : E) : Bool := t.eqv u || (match cx.so t, cx.so u with
  | .int k, .int k' => kBeq k k' && splitC cx (decK cx) sameR 100 [] (.cmp .eql t u) fun _ b => b
  | .bool, .bool => splitC cx (decK cx) sameR 100 [] (.beq t u) fun _ b => b
  | _, _ => false)
def eqCs (cx : Cx) : List SC → List E → Bool
  | [], [] => true
  | .e t :: cs, u :: us => eqT cx t u && eqCs cx cs us
  | _, _ => false
def eqPs (cx : Cx) : List Part → List (Bool × List E) → Bool
  | [], [] => true
  | p :: ps, q :: qs => (p.agg == q.1) && eqCs cx p.cs q.2 && eqPs cx ps qs
  | _, _ => false
def sbCs (σ : List E) (us : List E) : List SC := us.map fun t => .e (sbE σ t)
def sbP (σ : List E) (q : Bool × List E) : Part := ⟨q.1, sbCs σ q.2⟩
/-- What is said of a call: the sorts of its receiver's block (none: it has none) and of the other arguments; what it answers, what it leaves in the block. -/
structure Sm where
  f : FuncId
  row : List So
  ps : List (Bool × List So)
  tp : Bool
  v : List (Bool × List E)
  dl : Option (List E)
def sbV (σ : List E) (m : Sm) : SV := match m.tp, m.v with
  | false, q :: _ => .one (sbP σ q)
  | _, qs => .tup (qs.map (sbP σ))
def eqV (cx : Cx) (m : Sm) : SV → Bool
  | .one p => (match m.tp, m.v with
    | false, q :: _ => eqPs cx [p] [q]
    | _, _ => false)
  | .tup ps => (match m.tp with
    | true => eqPs cx ps m.v
    | false => false)
  | _ => false
def notCons : E → Bool
  | .cons _ _ => false
  | _ => true
def smX (cx : Cx) (m : Sm) : ExtT := fun f args B n _ => if Nat.beq f m.f then (match m.row with
  | [] => (match flatC cx m.ps args with
    | some es => if es.all notCons then some (.ok ⟨sbV es m, [], n⟩) else none
    | none => none)
  | _ => (match args with
    | .one ⟨false, [.ptr id off]⟩ :: rest => if Nat.beq off 0 then (match rowB B id with
      | some r => (match exsC r, flatC cx m.ps rest with
        | some cs, some es => if soOk cx m.row cs && (cs ++ es).all notCons then some (.ok ⟨sbV (cs ++ es) m, (match m.dl with
          | none => []
          | some us => [(id, some (sbCs (cs ++ es) us))]), n⟩) else none
        | _, _ => none)
      | none => none) else none
    | _ => none)) else none

/-! ### The run that says so -/
def varsE (o n : Nat) : List E := (List.range' o n).map .var
def argsS : Nat → List (Bool × List So) → List SV
  | _, [] => []
  | o, (a, ss) :: ps => .one ⟨a, (varsE o ss.length).map .e⟩ :: argsS (o + ss.length) ps
def sosOf (ps : List (Bool × List So)) : List So := ps.flatMap (·.2)
def cxS (P : Program) (sy : List (Nat × List So)) (m : Sm) : Cx := ⟨P, m.row ++ sosOf m.ps, [], [], sy⟩
def rowS (m : Sm) : BK := fun i => if Nat.beq i 0 then some ((varsE 0 m.row.length).map .e) else none
def smR (P : Program) (sy : List (Nat × List So)) (m : Sm) (call : CallT) : Bool := match m.row with
  | [] => (match call m.f (argsS 0 m.ps) (fun _ => none) 0 [] with
    | .ok d => eqV (cxS P sy m) m d.v
    | _ => false)
  | _ => Nat.ble 2 m.row.length && (match call m.f (.one ⟨false, [.ptr 0 0]⟩ :: argsS m.row.length m.ps) (rowS m) 1 [] with
    | .ok d => eqV (cxS P sy m) m d.v && (match dlB d.dl (rowS m) 0 with
      | some r => eqCs (cxS P sy m) r (m.dl.getD (varsE 0 m.row.length)) && Nat.beq r.length m.row.length
      | none => false)
    | _ => false)

section
variable {ρ : Nat → Value} {φ : Nat → List Value → List Value}
def rhoS (σ : List E) (ρ : Nat → Value) (φ : Nat → List Value → List Value) : Nat → Value := fun i => (σ.getD i (.var i)).den ρ φ
theorem sbE_den {σ : List E} (hσ : σ.all notCons = true) : ∀ e : E, (sbE σ e).den ρ φ = e.den (rhoS σ ρ φ) φ ∧ E.dens ρ φ (sbE σ e) = E.dens (rhoS σ ρ φ) φ e := by
  intro e
  induction e with
  | var i =>
    refine ⟨rfl, ?_⟩
    show E.dens ρ φ (σ.getD i (.var i)) = []
    have key : ∀ e : E, notCons e = true → E.dens ρ φ e = [] := by
      intro e h
      cases e <;> first | rfl | cases h
    refine key _ ?_
    rw [List.getD_eq_getElem?_getD]
    cases hq : σ[i]? with
    | none => rfl
    | some x => exact List.all_eq_true.1 hσ x (List.mem_of_getElem? hq)
  | _ => simp_all [sbE, E.den, E.dens]
theorem eqT_ok {cx : Cx} (hct : cx.ct = []) (F : Fits cx.Γ cx.S ρ φ) {t u : E} (h : eqT cx t u = true) : t.den ρ φ = u.den ρ φ := by
  have C : CtSound cx φ := by
    intro g hg
    rw [hct] at hg
    simp at hg
  have nil : Facts.hold ρ φ [] := fun p hp => by simp at hp
  unfold eqT at h
  rcases Bool.or_eq_true _ _ |>.mp h with h | h
  · rw [E.eqv_eq h]
  · split at h
    · rename_i k k' ht hu
      rw [Bool.and_eq_true] at h
      have hk := kBeq_eq h.1
      subst hk
      obtain ⟨n, hn, _⟩ := so_num F ht
      obtain ⟨n', hn', _⟩ := so_num F hu
      obtain ⟨b, fs', _, hb, he⟩ := splitC_ok C F (fun fs e b hf h => decK_sound F hf h) sameR_ok _ _ _ _ nil h.2
      have hb : b = true := hb
      rw [hb] at he
      have he : Value.bool (vint (t.den ρ φ) == vint (u.den ρ φ)) = .bool true := he
      have he := eq_of_beq (Value.bool.inj he)
      rw [hn, hn'] at he ⊢
      have he : n = n' := he
      rw [he]
    · rename_i ht hu
      have h1 := so_bool F ht
      have h2 := so_bool F hu
      obtain ⟨b, fs', _, hb, he⟩ := splitC_ok C F (fun fs e b hf h => decK_sound F hf h) sameR_ok _ _ _ _ nil h
      have hb : b = true := hb
      rw [hb] at he
      have he : Value.bool (vbool (t.den ρ φ) == vbool (u.den ρ φ)) = .bool true := he
      have he := eq_of_beq (Value.bool.inj he)
      rw [h1, h2, he]
    · cases h
section
variable {cx : Cx} (hct : cx.ct = []) {σ : List E} (hσ : σ.all notCons = true) (F' : Fits cx.Γ cx.S (rhoS σ ρ φ) φ) {β β' : Bk}
 include hct hσ F'
theorem eqCs_is : ∀ {cs : List SC} {us : List E} {vs : List Value}, eqCs cx cs us = true → All2 (SC.is (rhoS σ ρ φ) φ β') cs vs → All2 (SC.is ρ φ β) (sbCs σ us) vs
  | [], [], [], _, _ => trivial
  | [], [], _ :: _, _, h => h.elim
  | .e t :: cs, u :: us, [], _, h => h.elim
  | .e t :: cs, u :: us, v :: vs, h, ha => by
    simp only [eqCs, Bool.and_eq_true] at h
    refine ⟨?_, eqCs_is h.2 ha.2⟩
    have h1 : v = t.den _ φ := ha.1
    show v = (sbE σ u).den ρ φ
    rw [(sbE_den hσ u).1, h1, eqT_ok hct F' h.1]
  | [], _ :: _, _, h, _ => by simp [eqCs] at h
  | .e _ :: _, [], _, h, _ => by simp [eqCs] at h
  | .any :: _, _, _, h, _ => by simp [eqCs] at h
  | .ptr _ _ :: _, _, _, h, _ => by simp [eqCs] at h
  | .slc _ _ _ _ :: _, _, _, h, _ => by simp [eqCs] at h
  | .sla _ _ _ _ :: _, _, _, h, _ => by simp [eqCs] at h
  | .vad _ _ _ _ :: _, _, _, h, _ => by simp [eqCs] at h
  | .vsl _ _ :: _, _, _, h, _ => by simp [eqCs] at h
  | .nul :: _, _, _, h, _ => by simp [eqCs] at h
  | .itr _ _ :: _, _, _, h, _ => by simp [eqCs] at h
  | .gad _ _ :: _, _, _, h, _ => by simp [eqCs] at h
  | .txt _ :: _, _, _, h, _ => by simp [eqCs] at h
theorem eqP_is {p : Part} {q : Bool × List E} {x : Value} (h : (p.agg == q.1) && eqCs cx p.cs q.2) (hx : p.is (rhoS σ ρ φ) φ β' x) : (sbP σ q).is ρ φ β x := by
  obtain ⟨agg, cs⟩ := p
  obtain ⟨a, us⟩ := q
  rw [Bool.and_eq_true] at h
  obtain ⟨h1, h2⟩ := h
  have h1 : agg = a := by simpa using h1
  subst h1
  cases agg with
  | true =>
    obtain ⟨vs, hv, ha⟩ := hx
    exact ⟨vs, hv, eqCs_is hct hσ F' h2 ha⟩
  | false =>
    match cs, us, h2, hx with
    | [c], [u], h2, hx =>
      have := eqCs_is hct hσ F' (β := β) (vs := [x]) h2 ⟨hx, trivial⟩
      exact this.1
    | [], _, _, hx => exact hx.elim
    | _ :: _ :: _, _, _, hx => exact hx.elim
    | [c], [], h2, _ => cases c <;> simp [eqCs] at h2
    | [c], _ :: _ :: _, h2, _ => cases c <;> simp [eqCs] at h2
theorem eqPs_is : ∀ {ps : List Part} {qs : List (Bool × List E)} {vs : List Value}, eqPs cx ps qs = true → All2 (Part.is (rhoS σ ρ φ) φ β') ps vs → All2 (Part.is ρ φ β) (qs.map (sbP σ)) vs
  | [], [], [], _, _ => trivial
  | [], [], _ :: _, _, h => h.elim
  | p :: ps, q :: qs, [], _, h => h.elim
  | p :: ps, q :: qs, v :: vs, h, ha => by
    simp only [eqPs] at h
    rw [Bool.and_eq_true] at h
    exact ⟨eqP_is hct hσ F' h.1 ha.1, eqPs_is h.2 ha.2⟩
  | [], _ :: _, _, h, _ => by simp [eqPs] at h
  | _ :: _, [], _, h, _ => by simp [eqPs] at h
theorem eqV_is {m : Sm} {v : SV} {x : Value} (h : eqV cx m v = true) (hx : v.is (rhoS σ ρ φ) φ β' x) : (sbV σ m).is ρ φ β x := by
  unfold eqV at h
  unfold sbV
  split at h
  · rename_i p
    split at h
    · rename_i q qs htp hv
      simp only [eqPs, Bool.and_true] at h
      exact eqP_is hct hσ F' h hx
    · cases h
  · rename_i ps
    split at h
    · rename_i htp
      try rw [htp]
      obtain ⟨vs, hv, ha⟩ := hx
      exact ⟨vs, hv, eqPs_is hct hσ F' h ha⟩
    · cases h
  · cases h
end
theorem varsE_den (ρ' : Nat → Value) : ∀ (n o : Nat), (varsE o n).map (fun e : E => e.den ρ' φ) = (List.range' o n).map ρ' := by
  intro n o
  unfold varsE
  rw [List.map_map]
  rfl
theorem rhoS_map (es : List E) : ∀ (cs : List E) (o : Nat), o = cs.length → ∀ rest : List E, (List.range' o es.length).map (rhoS (cs ++ es ++ rest) ρ φ) = es.map (·.den ρ φ) := by
  induction es with
  | nil => intro cs o _ rest; rfl
  | cons e es ih =>
    intro cs o ho rest
    rw [List.length_cons, List.range'_succ, List.map_cons, List.map_cons]
    congr 1
    · show E.den ρ φ ((cs ++ e :: es ++ rest).getD o (.var o)) = _
      rw [List.getD_eq_getElem?_getD, List.append_assoc, List.getElem?_append_right (by omega), ho]
      simp
    · have := ih (cs ++ [e]) (o + 1) (by simp [ho]) rest
      rw [show cs ++ e :: es ++ rest = cs ++ [e] ++ es ++ rest by simp]
      exact this
theorem vars_all {β : Bk} {ρ' : Nat → Value} : ∀ {n o : Nat} {vs : List Value}, (List.range' o n).map ρ' = vs → All2 (SC.is ρ' φ β) ((varsE o n).map .e) vs
  | 0, o, vs, h => by subst h; exact trivial
  | n + 1, o, vs, h => by
    subst h
    unfold varsE
    rw [List.range'_succ]
    exact ⟨rfl, vars_all (n := n) (o := o + 1) rfl⟩
theorem soOk_len {cx : Cx} : ∀ {ss : List So} {es : List E}, soOk cx ss es = true → ss.length = es.length
  | [], [], _ => rfl
  | s :: ss, x :: xs, h => by
    simp only [soOk, Bool.and_eq_true] at h
    rw [List.length_cons, List.length_cons, soOk_len h.2]
  | [], _ :: _, h => by simp [soOk] at h
  | _ :: _, [], h => by simp [soOk] at h
/-- The arguments of the run. -/
theorem argsS_is {cx : Cx} (F : Fits cx.Γ cx.S ρ φ) {β β' : Bk} : ∀ {ps : List (Bool × List So)} {svs : List SV} {es cs : List E} {o : Nat} {xs : List Value} {rest : List E}, flatC cx ps svs = some es → All2 (SV.is ρ φ β) svs xs → o = cs.length →
    All2 (SV.is (rhoS (cs ++ es ++ rest) ρ φ) φ β') (argsS o ps) xs ∧ All2 So.has (sosOf ps) (es.map (·.den ρ φ))
  | [], [], es, cs, o, xs, rest, h, ha, ho => by
    simp only [flatC, Option.some.injEq] at h
    subst h
    cases xs with
    | nil => exact ⟨trivial, trivial⟩
    | cons _ _ => exact ha.elim
  | (a, ss) :: ps, .one ⟨a', cs'⟩ :: svs, es, cs, o, xs, rest, h, ha, ho => by
    simp only [flatC] at h
    split at h
    · rename_i haa
      have haa : a = a' := by simpa using haa
      subst haa
      split at h
      · rename_i e1 r he hr
        split at h
        · rename_i hso
          rw [Bool.and_eq_true] at hso
          simp only [Option.some.injEq] at h
          subst h
          cases xs with
          | nil => exact ha.elim
          | cons x xs =>
            have hlen := soOk_len hso.1
            obtain ⟨g1, g2⟩ := argsS_is F (β' := β') (cs := cs ++ e1) (o := o + ss.length) (rest := rest) hr ha.2 (by rw [List.length_append, ho, hlen])
            refine ⟨⟨?_, ?_⟩, ?_⟩
            · have hv : (List.range' o ss.length).map (rhoS (cs ++ (e1 ++ r) ++ rest) ρ φ) = e1.map (·.den ρ φ) := by
                rw [hlen, show cs ++ (e1 ++ r) ++ rest = cs ++ e1 ++ (r ++ rest) by simp]
                exact rhoS_map e1 cs o ho (r ++ rest)
              have hall := vars_all (φ := φ) (β := β') hv
              cases a with
              | true =>
                obtain ⟨vs, hx, hv'⟩ := ha.1
                refine ⟨vs, hx, ?_⟩
                rw [exsC_is he hv']
                exact hall
              | false =>
                have hx := ha.1
                match cs', hx, he with
                | [c], hx, he =>
                  have hx : c.is ρ φ β x := hx
                  have hxx := exsC_is (vs := [x]) he ⟨hx, trivial⟩
                  rw [← hxx] at hall
                  have h1 : ss.length = 1 := by
                    have := hso.2
                    simpa using this
                  rw [h1] at hall
                  show Part.is _ φ β' ⟨false, (varsE o ss.length).map .e⟩ x
                  rw [h1]
                  exact hall.1
            · rw [show cs ++ (e1 ++ r) ++ rest = cs ++ e1 ++ r ++ rest by simp]
              exact g1
            · show All2 So.has (ss ++ sosOf ps) _
              rw [List.map_append]
              exact All2.append (soOk_has F hso.1) g2
        · exact absurd h (by simp)
      · exact absurd h (by simp)
    · exact absurd h (by simp)
  | [], _ :: _, _, _, _, _, _, h, _, _ => by simp [flatC] at h
  | _ :: _, [], _, _, _, _, _, h, _, _ => by simp [flatC] at h
  | _ :: _, .tup _ :: _, _, _, _, _, _, h, _, _ => by simp [flatC] at h
  | _ :: _, .fn _ _ _ :: _, _, _, _, _, _, h, _, _ => by simp [flatC] at h
theorem fits_of {cx : Cx} {m : Sm} {P : Program} {sy : List (Nat × List So)} (hsy : cx.sy = sy) (F : Fits cx.Γ cx.S ρ φ) {es : List E} (h : All2 So.has (m.row ++ sosOf m.ps) (es.map (·.den ρ φ))) : Fits (cxS P sy m).Γ (cxS P sy m).S (rhoS es ρ φ) φ := by
  refine ⟨fun i => ?_, ?_⟩
  · show ((m.row ++ sosOf m.ps).getD i .any).has (rhoS es ρ φ i)
    by_cases hi : i < es.length
    · have := all2_get h i
      rw [List.getD_eq_getElem?_getD (l := es.map _), List.getElem?_map, List.getElem?_eq_getElem hi] at this
      show _
      unfold rhoS
      rw [List.getD_eq_getElem?_getD (l := es), List.getElem?_eq_getElem hi]
      exact this
    · have hl : (m.row ++ sosOf m.ps).length = es.length := by have := h.length; simpa using this
      rw [List.getD_eq_getElem?_getD, List.getElem?_eq_none (by omega)]
      exact trivial
  · have : (cxS P sy m).S = cx.S := by unfold Cx.S cxS; rw [hsy]
    rw [this]
    exact F.app
theorem exsC_eq : ∀ {cs : List SC} {es : List E}, exsC cs = some es → cs = es.map .e
  | [], es, h => by
    simp only [exsC, Option.some.injEq] at h
    subst h; rfl
  | .e x :: cs, es, h => by
    simp only [exsC, Option.map_eq_some_iff] at h
    obtain ⟨es', he, rfl⟩ := h
    rw [exsC_eq he]; rfl
  | .any :: _, _, h => by simp [exsC] at h
  | .ptr _ _ :: _, _, h => by simp [exsC] at h
  | .slc _ _ _ _ :: _, _, h => by simp [exsC] at h
  | .sla _ _ _ _ :: _, _, h => by simp [exsC] at h
  | .vad _ _ _ _ :: _, _, h => by simp [exsC] at h
  | .vsl _ _ :: _, _, h => by simp [exsC] at h
  | .nul :: _, _, h => by simp [exsC] at h
  | .itr _ _ :: _, _, h => by simp [exsC] at h
  | .gad _ _ :: _, _, h => by simp [exsC] at h
  | .txt _ :: _, _, h => by simp [exsC] at h
theorem exsC_len {cs : List SC} {es : List E} (h : exsC cs = some es) : cs.length = es.length := by rw [exsC_eq h, List.length_map]
theorem exsC_get {cs : List SC} {es : List E} (h : exsC cs = some es) (k : Nat) (hk : k < es.length) : ∃ e, cs[k]? = some (.e e) ∧ es[k]? = some e := by
  rw [exsC_eq h, List.getElem?_map, List.getElem?_eq_getElem hk]
  exact ⟨es[k], rfl, rfl⟩
/-- **A call does what was said of it.** -/
theorem smX_ok {cx : Cx} {ws : Base} {m : Sm} {call : CallT} (hcall : ∀ ws' : Base, ws'.vw = [] → CallOk ws' (cxS cx.P cx.sy m) φ call) (h : smR cx.P cx.sy m call = true) : ExtOk ws cx φ (smX cx m) := by
  intro f svs B n fs d hd ρ β w xs N F hf hW hn ha
  unfold smX at hd
  split at hd
  · rename_i he
    have he := Nat.eq_of_beq_eq_true he
    subst he
    unfold smR at h
    have nil : ∀ ρ' : Nat → Value, Facts.hold ρ' φ [] := fun ρ' p hp => by simp at hp
    split at hd
    · rename_i hrow
      rw [hrow] at h
      simp only at h
      split at hd
      · rename_i es hes
        split at hd
        · rename_i hnc
          simp only [Option.some.injEq, OR.ok.injEq] at hd
          subst hd
          split at h
          · rename_i d0 hd0
            obtain ⟨a1, a2⟩ := argsS_is F (β' := fun _ => none) (cs := []) (o := 0) (rest := []) hes ha rfl
            rw [List.nil_append, List.append_nil] at a1
            have F' : Fits (cxS cx.P cx.sy m).Γ (cxS cx.P cx.sy m).S (rhoS es ρ φ) φ := fits_of rfl F (by rw [hrow]; exact a2)
            have hW0 : W (rhoS es ρ φ) φ ⟨0, Xof (fun _ => none) (fun _ => none), fun _ => none, w, ⟨ws.toWorld, []⟩⟩ (fun _ => none) (fun _ => none) w :=
              ⟨LowP.refl _ _, fun id row h => absurd h (by simp), fun id row k h => absurd h (by simp), fun id id' r r' b n n' h => absurd h (by simp), fun id b n h => absurd h (by simp), fun id b n h => absurd h (by simp), hW.len, hW.base.1, fun v hv => by simp at hv⟩
            obtain ⟨h1, h2⟩ := (hcall ⟨ws.toWorld, []⟩ rfl).2 _ _ _ _ _ _ hd0 (rhoS es ρ φ) (fun _ => none) w xs 0 F' (nil _) hW0 (fun _ _ _ => rfl) a1
            refine ⟨h1, h2.mono ?_⟩
            rintro e w' ⟨x, β', rfl, _, _, hW', hx⟩
            have hl := hW'.low
            have hb : Below w.heap.size w w' := ⟨hl.os, hl.tape, hl.output, hl.size, fun k hk => hl.block k hk (by rintro ⟨id, row, n, h, _⟩; exact absurd h (by simp))⟩
            exact ⟨x, β, rfl, Ext.refl _, Newer.refl _ _ _, hW.grow hb, eqV_is rfl hnc F' h hx⟩
          · cases h
        · cases hd
      · cases hd
    · rename_i hrow
      split at h
      · rename_i hrow'; exact absurd hrow' hrow
      · rw [Bool.and_eq_true] at h
        obtain ⟨hL2, h⟩ := h
        have hL2 := Nat.le_of_ble_eq_true hL2
        split at hd
        · rename_i id off rest
          split at hd
          · rename_i hoff
            have hoff := Nat.eq_of_beq_eq_true hoff
            subst hoff
            split at hd
            · rename_i r hr
              obtain ⟨hBr, hnI⟩ := rowB_spec hr
              split at hd
              · rename_i cs es hcs hes
                split at hd
                · rename_i hc
                  rw [Bool.and_eq_true] at hc
                  obtain ⟨hso, hnc⟩ := hc
                  simp only [Option.some.injEq, OR.ok.injEq] at hd
                  split at h
                  · rename_i d0 hd0
                    rw [Bool.and_eq_true] at h
                    obtain ⟨hv, hrw⟩ := h
                    split at hrw
                    · rename_i row' hrow0
                      rw [Bool.and_eq_true] at hrw
                      obtain ⟨hrw, hlen'⟩ := hrw
                      have hlen' := Nat.eq_of_beq_eq_true hlen'
                      cases xs with
                      | nil => exact ha.elim
                      | cons x0 xs =>
                        obtain ⟨ha0, ha⟩ := ha
                        obtain ⟨b, nb, hβ, hx0⟩ := (show (SC.ptr id 0).is ρ φ β x0 from ha0)
                        obtain ⟨a1, a2⟩ := argsS_is F (β' := fun i => if i = 0 then some (b, nb) else none) (cs := cs) (o := cs.length) (rest := []) hes ha rfl
                        rw [List.append_nil] at a1
                        have hlen := soOk_len hso
                        have F' : Fits (cxS cx.P cx.sy m).Γ (cxS cx.P cx.sy m).S (rhoS (cs ++ es) ρ φ) φ := fits_of rfl F (by rw [List.map_append]; exact All2.append (soOk_has F hso) a2)
                        obtain ⟨b', nb', hβ', hX, hR⟩ := hW.box id r hBr
                        rw [hβ] at hβ'
                        simp only [Option.some.injEq, Prod.mk.injEq] at hβ'
                        obtain ⟨rfl, rfl⟩ := hβ'
                        obtain ⟨arr, T, hh, hsz, hle, hcell⟩ := hR.cells hnI
                        have hrl : r.length = m.row.length := by
                          have := exsC_len hcs
                          omega
                        have hvals : ∀ k, k < m.row.length → arr[k]? = some (rhoS (cs ++ es) ρ φ k) := by
                          intro k hk
                          obtain ⟨e, he1, he2⟩ := exsC_get hcs k (by omega)
                          obtain ⟨u, hu, hcu⟩ := hcell k _ he1
                          have hcu : u = e.den ρ φ := hcu
                          rw [hu, hcu]
                          unfold rhoS
                          rw [List.getD_eq_getElem?_getD, List.getElem?_append_left (by omega), he2]
                          rfl
                        have hB0 : ∀ i rr, rowS m i = some rr → i = 0 ∧ rr = (varsE 0 m.row.length).map .e := by
                          intro i rr h
                          unfold rowS at h
                          split at h
                          · rename_i hi
                            simp only [Option.some.injEq] at h
                            exact ⟨Nat.eq_of_beq_eq_true hi, h.symm⟩
                          · cases h
                        have hX0 : ∀ k, Xof (rowS m) (fun i => if i = 0 then some (b, nb) else none) k → k = b := by
                          rintro k ⟨i, rr, nn, h1, h2⟩
                          obtain ⟨rfl, _⟩ := hB0 i rr h1
                          simp only [if_true, Option.some.injEq, Prod.mk.injEq] at h2
                          exact h2.1.symm
                        have hbs : b < w.heap.size := hW.inh id b nb hβ
                        have hvl : ∀ (k : Nat) (c : SC), ((varsE 0 m.row.length).map SC.e)[k]? = some c → k < m.row.length ∧ c = .e (.var k) := by
                          intro k c h
                          rw [List.getElem?_map, Option.map_eq_some_iff] at h
                          obtain ⟨e, h, rfl⟩ := h
                          unfold varsE at h
                          rw [List.getElem?_map, Option.map_eq_some_iff] at h
                          obtain ⟨i, h, rfl⟩ := h
                          by_cases hk : k < m.row.length
                          · rw [List.getElem?_range' hk] at h
                            simp only [Option.some.injEq] at h
                            refine ⟨hk, ?_⟩
                            rw [← h]; simp
                          · rw [List.getElem?_eq_none (by rw [List.length_range']; omega)] at h
                            cases h
                        have hW0 : W (rhoS (cs ++ es) ρ φ) φ ⟨0, Xof (rowS m) (fun i => if i = 0 then some (b, nb) else none), rowS m, w, ⟨ws.toWorld, []⟩⟩ (rowS m) (fun i => if i = 0 then some (b, nb) else none) w := by
                          refine ⟨LowP.refl _ _, ?_, ?_, ?_, ?_, ?_, hW.len, hW.base.1, fun v hv => by simp at hv⟩
                          · intro i rr h
                            obtain ⟨rfl, rfl⟩ := hB0 i rr h
                            refine ⟨b, nb, by simp, Or.inr ⟨0, _, nb, h, by simp⟩, Or.inr ⟨arr, T, hh, hsz, by rw [List.length_map]; unfold varsE; rw [List.length_map, List.length_range']; omega, fun k c hc => ?_⟩⟩
                            obtain ⟨hk, rfl⟩ := hvl k c hc
                            exact ⟨_, hvals k hk, rfl⟩
                          · intro i rr k h hk
                            obtain ⟨rfl, rfl⟩ := hB0 i rr h
                            obtain ⟨_, h⟩ := hvl k _ hk
                            cases h
                          · intro i i' rr rr' b1 n1 n1' h h' _ _
                            obtain ⟨rfl, _⟩ := hB0 i rr h
                            obtain ⟨rfl, _⟩ := hB0 i' rr' h'
                            rfl
                          · intro i b1 n1 h
                            split at h
                            · simp only [Option.some.injEq, Prod.mk.injEq] at h
                              rw [← h.1]; exact hbs
                            · cases h
                          · intro i b1 n1 h
                            split at h
                            · simp only [Option.some.injEq, Prod.mk.injEq] at h
                              rw [← h.1]; exact hW.hi id b nb hβ
                            · cases h
                        have hargs : All2 (SV.is (rhoS (cs ++ es) ρ φ) φ fun i => if i = 0 then some (b, nb) else none) (.one ⟨false, [.ptr 0 0]⟩ :: argsS m.row.length m.ps) (x0 :: xs) := by
                          refine ⟨⟨b, nb, by simp, hx0⟩, ?_⟩
                          rw [hlen]
                          exact a1
                        obtain ⟨h1, h2⟩ := (hcall ⟨ws.toWorld, []⟩ rfl).2 _ _ _ _ _ _ hd0 (rhoS (cs ++ es) ρ φ) (fun i => if i = 0 then some (b, nb) else none) w (x0 :: xs) 0 F' (nil _) hW0 (fun i g1 _ => by simp; omega) hargs
                        refine ⟨h1, h2.mono ?_⟩
                        rintro e w' ⟨x, β', rfl, hE, _, hW', hx⟩
                        have hβ0 : β' 0 = some (b, nb) := hE 0 _ (by simp)
                        have hl := hW'.low
                        have hsame : ∀ k, k < w.heap.size → k ≠ b → w'.heap[k]? = w.heap[k]? := fun k hk hne => hl.block k hk fun hq => hne (hX0 k hq)
                        obtain ⟨b2, n2, hb2, _, hR2⟩ := hW'.box 0 row' hrow0
                        rw [hβ0] at hb2
                        simp only [Option.some.injEq, Prod.mk.injEq] at hb2
                        obtain ⟨rfl, rfl⟩ := hb2
                        have hnI' : notI row' = true := by
                          unfold notI
                          split
                          · simp at hlen'; omega
                          · simp at hlen'; omega
                          · rfl
                        obtain ⟨arr2, T2, hh2, hsz2, hle2, hcell2⟩ := hR2.cells hnI'
                        -- the row that is left, in terms
                        have hnew : ∀ us : List E, eqCs (cxS cx.P cx.sy m) row' us = true → RowO ρ φ β (sbCs (cs ++ es) us) nb w'.heap[b]? := by
                          intro us hus
                          have hall : All2 (SC.is (rhoS (cs ++ es) ρ φ) φ β') row' (arr2.toList.take row'.length) := row_vals row' arr2.toList fun k c h => by
                            obtain ⟨u, hu, hc⟩ := hcell2 k c h
                            exact ⟨u, by rw [Array.getElem?_toList]; exact hu, hc⟩
                          have hq := eqCs_is rfl hnc F' (β := β) hus hall
                          refine Or.inr ⟨arr2, T2, hh2, hsz2, ?_, fun k c hc => ?_⟩
                          · have := hq.length
                            rw [this, List.length_take]
                            omega
                          · obtain ⟨u, hu, hcu⟩ := hq.get hc
                            rw [List.getElem?_take] at hu
                            split at hu
                            · rw [Array.getElem?_toList] at hu
                              exact ⟨u, hu, hcu⟩
                            · cases hu
                        have hlow : LowP (Xof B β) w w' := ⟨hl.os, hl.tape, hl.output, hl.size, fun k hk hX' => hsame k hk fun hkb => hX' (hkb ▸ ⟨id, r, nb, hBr, hβ⟩)⟩
                        have mkW : ∀ B' : BK, (∀ i rr, B' i = some rr → (i = id ∧ RowO ρ φ β rr nb w'.heap[b]? ∧ ∀ k : Nat, rr[k]? ≠ some SC.any) ∨ (i ≠ id ∧ B i = some rr)) → W ρ φ ⟨N, Xof B β, B, w, ws⟩ B' β w' := by
                          intro B' hB'
                          have hin : ∀ i rr, B' i = some rr → ∃ r0, B i = some r0 := fun i rr h => by
                            rcases hB' i rr h with ⟨rfl, _⟩ | ⟨_, h⟩
                            · exact ⟨r, hBr⟩
                            · exact ⟨rr, h⟩
                          have hoth : ∀ i rr, i ≠ id → B i = some rr → ∀ b1 n1, β i = some (b1, n1) → w'.heap[b1]? = w.heap[b1]? := fun i rr hne h b1 n1 h1 => by
                            refine hsame b1 (hW.inh i b1 n1 h1) fun hb => hne ?_
                            subst hb
                            exact hW.inj i id rr r _ _ _ h hBr h1 hβ
                          refine ⟨hlow, ?_, ?_, ?_, ?_, hW.hi, Nat.le_trans hW.len hl.size, hW'.base.1, hW.base.2⟩
                          · intro i rr h
                            rcases hB' i rr h with ⟨rfl, hro, _⟩ | ⟨hne, h⟩
                            · exact ⟨b, nb, hβ, hX, hro⟩
                            · obtain ⟨b1, n1, g1, g2, g3⟩ := hW.box i rr h
                              exact ⟨b1, n1, g1, g2, by rw [hoth i rr hne h b1 n1 g1]; exact g3⟩
                          · intro i rr k h hk
                            rcases hB' i rr h with ⟨rfl, _, hno⟩ | ⟨hne, h⟩
                            · exact absurd hk (hno k)
                            · obtain ⟨g1, g2⟩ := hW.msk i rr k h hk
                              exact ⟨g1, fun b1 n1 g3 => SameC.of_heap (hoth i rr hne h b1 n1 g3)⟩
                          · intro i i' rr rr' b1 n1 n1' h h' g g'
                            obtain ⟨q, hq⟩ := hin i rr h
                            obtain ⟨q', hq'⟩ := hin i' rr' h'
                            exact hW.inj i i' q q' b1 n1 n1' hq hq' g g'
                          · intro i b1 n1 h
                            exact Nat.lt_of_lt_of_le (hW.inh i b1 n1 h) hl.size
                        have hno : ∀ us : List E, ∀ k : Nat, (sbCs (cs ++ es) us)[k]? ≠ some SC.any := by
                          intro us k h
                          unfold sbCs at h
                          rw [List.getElem?_map, Option.map_eq_some_iff] at h
                          obtain ⟨_, _, h⟩ := h
                          cases h
                        subst hd
                        refine ⟨x, β, rfl, Ext.refl _, Newer.refl _ _ _, ?_, eqV_is rfl hnc F' hv hx⟩
                        cases hdl : m.dl with
                        | some us =>
                          rw [hdl] at hrw
                          refine mkW _ fun i rr h => ?_
                          rw [dlB_one] at h
                          split at h
                          · rename_i hi
                            subst hi
                            simp only [Option.some.injEq] at h
                            subst h
                            exact Or.inl ⟨rfl, hnew us hrw, hno us⟩
                          · rename_i hi
                            exact Or.inr ⟨hi, h⟩
                        | none =>
                          rw [hdl] at hrw
                          refine mkW _ fun i rr h => ?_
                          rw [dlB_nil] at h
                          by_cases hi : i = id
                          · subst hi
                            rw [hBr] at h
                            simp only [Option.some.injEq] at h
                            subst h
                            refine Or.inl ⟨rfl, ?_, ?_⟩
                            · have h0 := hnew (varsE 0 m.row.length) hrw
                              have e1 : sbCs (cs ++ es) (varsE 0 m.row.length) = r := by
                                refine (exsC_eq hcs ▸ ?_)
                                unfold sbCs varsE
                                rw [List.map_map, hlen]
                                apply List.ext_getElem?
                                intro k
                                rw [List.getElem?_map, List.getElem?_map]
                                by_cases hk : k < cs.length
                                · rw [List.getElem?_range' hk, List.getElem?_eq_getElem hk]
                                  show some (SC.e ((cs ++ es).getD (0 + 1 * k) (.var (0 + 1 * k)))) = _
                                  rw [show 0 + 1 * k = k by omega, List.getD_eq_getElem?_getD, List.getElem?_append_left hk, List.getElem?_eq_getElem hk]
                                  rfl
                                · rw [List.getElem?_eq_none (by rw [List.length_range']; omega), List.getElem?_eq_none (by omega)]
                                  rfl
                              rw [e1] at h0
                              exact h0
                            · intro k hk
                              rw [exsC_eq hcs, List.getElem?_map, Option.map_eq_some_iff] at hk
                              obtain ⟨_, _, hk⟩ := hk
                              cases hk
                          · exact Or.inr ⟨hi, h⟩
                    · cases hrw
                  · cases h
                · cases hd
              · cases hd
            · cases hd
          · cases hd
        · cases hd
  · cases hd
end
end Go.CX

/- Layer 22's calls, as data: a register is read, a register is written, a condition holds. -/
namespace Go.CX.Cp
open Go Go.RowKit Go.SX Go.CX
def balT (x : E) (f : Nat → E) : Nat → Nat → Nat → E
  | 0, lo, _ => f lo
  | m + 1, lo, n => if Nat.beq n 1 then f lo else .ite (ixLt x (lo + n / 2)) (balT x f m lo (n / 2)) (balT x f m (lo + n / 2) (n - n / 2))
/-- What a number picks, or something else. -/
def tabT (x : E) (f : Nat → E) (N : Nat) (d : E) : E := .ite (ixLt x 0) d (.ite (ixLt x N) (balT x f N 0 N) d)
def regs : List So := List.replicate 31 (.int .u64)
def ssC : List So := regs ++ [.bool, .bool, .bool, .bool, .int .u64, .int .i64, .bool, .bool, .bool, .int .u64, .int .u64, .int .i64]
def ssP : List So := regs ++ [.bool, .bool, .bool, .bool, .int .u64, .bool, .bool, .bool, .bool, .bool, .int .u64, .int .u64, .int .i64]
def i1 : Bool × List So := (false, [.int .i64])
def u1 : Bool × List So := (false, [.int .u64])
def getT (x : E) : E := tabT x .var 31 (.int .u64 0)
def setT (x v : E) (n : Nat) : List E := (List.range n).map fun k => if Nat.blt k 31 then .ite (.cmp .eql x (.int .i64 (Int.ofNat k))) v (.var k) else .var k
def holdT (n z c v x : E) : E := tabT x (fun k => [z, .not z, c, .not c, n, .not n, v, .not v, .ite c (.not z) (.bool false), .not (.ite c (.not z) (.bool false)), .beq n v, .not (.beq n v), .ite (.beq n v) (.not z) (.bool false), .not (.ite (.beq n v) (.not z) (.bool false)), .bool true, .bool true].getD k (.bool true)) 16 (.bool false)
def getM (f : FuncId) : Sm := ⟨f, ssP, [i1], false, [(false, [getT (.var 44)])], none⟩
def setM (f : FuncId) : Sm := ⟨f, ssP, [i1, u1], true, [], some (setT (.var 44) (.var 45) 44)⟩
def rgetM (f : FuncId) : Sm := ⟨f, [], [(true, ssC), i1], false, [(false, [getT (.var 43)])], none⟩
def rsetM (f : FuncId) : Sm := ⟨f, [], [(true, ssC), i1, u1], false, [(true, setT (.var 43) (.var 44) 43)], none⟩
def holdM (f : FuncId) : Sm := ⟨f, [], [(true, [.bool, .bool, .bool, .bool]), i1], false, [(false, [holdT (.var 0) (.var 1) (.var 2) (.var 3) (.var 4)])], none⟩
def rholdM (f : FuncId) : Sm := ⟨f, [], [(true, ssC), i1], false, [(false, [holdT (.var 31) (.var 32) (.var 33) (.var 34) (.var 43)])], none⟩
end Go.CX.Cp

/- CX: truths by cases, where numbers that part stand inside of sums; what is told of two numbers beyond that. -/
namespace Go.CX
open Go Go.RowKit Go.SX

/-- A number that parts, outermost. -/
def outI : E → E
  | .bin o k x (.ite c y z) => .ite c (.bin o k x y) (.bin o k x z)
  | e => e
def splitE (cx : Cx) (R : RuleT) : Nat → Facts → E → (Facts → Bool → Bool) → Bool
  | 0, _, _, _ => false
  | n + 1, fs, x, K => match decK cx fs x with
    | some b => K fs b
    | none => match x with
      | .ite c a b => splitE cx R n fs c (fun fs' v => if v then splitE cx R n fs' a K else splitE cx R n fs' b K)
      | .not a => if cx.so a == .bool then splitE cx R n fs a (fun fs' v => K fs' (!v)) else false
      | .beq a b => if cx.so a == .bool && cx.so b == .bool then splitE cx R n fs a (fun fs1 v => splitE cx R n fs1 b (fun fs2 u => K fs2 (v == u))) else false
      | .cmp op a b => match R fs op a b with
        | some v => K fs v
        | none => match outI a with
          | .ite c a1 a2 => splitE cx R n fs c (fun fs' v => splitE cx R n fs' (.cmp op (if v then a1 else a2) b) K)
          | _ => match outI b with
            | .ite c b1 b2 => splitE cx R n fs c (fun fs' v => splitE cx R n fs' (.cmp op a (if v then b1 else b2)) K)
            | _ => K (addF cx (.cmp op a b) true fs) true && K (addF cx (.cmp op a b) false fs) false
      | x => match cx.so x with
        | .bool => K (addF cx x true fs) true && K (addF cx x false fs) false
        | _ => false
def sureE (cx : Cx) (R : RuleT) (n : Nat) (fs : Facts) : SV → Bool
  | .one ⟨false, [.e x]⟩ => splitE cx R n fs x fun _ b => b
  | _ => false
section
variable {ρ : Nat → Value} {φ : Nat → List Value → List Value} {cx : Cx}
theorem outI_den (e : E) : (outI e).den ρ φ = e.den ρ φ := by
  unfold outI
  split
  · rename_i o k x c y z
    simp only [E.den]
    cases vbool (c.den ρ φ) <;> simp
  · rfl
theorem splitE_ok (C : CtSound cx φ) (F : Fits cx.Γ cx.S ρ φ) {R : RuleT} (hR : RuleOk ρ φ R) : ∀ (n : Nat) (fs : Facts) (x : E) (K : Facts → Bool → Bool), fs.hold ρ φ → splitE cx R n fs x K = true →
    ∃ b fs', fs'.hold ρ φ ∧ K fs' b = true ∧ x.den ρ φ = .bool b
  | 0, _, _, _, _, h => by simp [splitE] at h
  | n + 1, fs, x, K, hf, h => by
    have atom : ∀ x : E, x.den ρ φ = .bool (vbool (x.den ρ φ)) → (K (addF cx x true fs) true && K (addF cx x false fs) false) = true → ∃ b fs', fs'.hold ρ φ ∧ K fs' b = true ∧ x.den ρ φ = .bool b := by
      intro x hb h
      rw [Bool.and_eq_true] at h
      cases hv : vbool (x.den ρ φ)
      · rw [hv] at hb
        exact ⟨false, _, addF_hold F C x false hf hb, h.2, hb⟩
      · rw [hv] at hb
        exact ⟨true, _, addF_hold F C x true hf hb, h.1, hb⟩
    unfold splitE at h
    split at h
    · rename_i b hb
      exact ⟨b, fs, hf, h, decK_sound F hf hb⟩
    · split at h
      · rename_i c a b _
        obtain ⟨v, fs', hf', hK, hc⟩ := splitE_ok C F hR n fs c _ hf h
        cases v
        · obtain ⟨r, fs2, h1, h2, h3⟩ := splitE_ok C F hR n fs' b K hf' (by simpa using hK)
          exact ⟨r, fs2, h1, h2, by simp [E.den, hc, h3]⟩
        · obtain ⟨r, fs2, h1, h2, h3⟩ := splitE_ok C F hR n fs' a K hf' (by simpa using hK)
          exact ⟨r, fs2, h1, h2, by simp [E.den, hc, h3]⟩
      · rename_i a _
        split at h
        · obtain ⟨v, fs', hf', hK, hc⟩ := splitE_ok C F hR n fs a _ hf h
          exact ⟨!v, fs', hf', hK, by simp [E.den, hc]⟩
        · cases h
      · rename_i a b _
        split at h
        · obtain ⟨v, fs1, hf1, hK1, hc1⟩ := splitE_ok C F hR n fs a _ hf h
          obtain ⟨u, fs2, hf2, hK2, hc2⟩ := splitE_ok C F hR n fs1 b _ hf1 hK1
          exact ⟨v == u, fs2, hf2, hK2, by simp [E.den, hc1, hc2]⟩
        · cases h
      · rename_i op a b _
        split at h
        · rename_i v hv
          exact ⟨v, fs, hf, h, hR fs op a b v hf hv⟩
        · split at h
          · rename_i c a1 a2 ho
            obtain ⟨v, fs', hf', hK, hc⟩ := splitE_ok C F hR n fs c _ hf h
            obtain ⟨r, fs2, h1, h2, h3⟩ := splitE_ok C F hR n fs' _ K hf' hK
            refine ⟨r, fs2, h1, h2, ?_⟩
            rw [← h3]
            have hd := outI_den (ρ := ρ) (φ := φ) a
            rw [ho] at hd
            simp only [E.den] at hd ⊢
            rw [← hd]
            cases v <;> simp [hc]
          · split at h
            · rename_i c b1 b2 ho
              obtain ⟨v, fs', hf', hK, hc⟩ := splitE_ok C F hR n fs c _ hf h
              obtain ⟨r, fs2, h1, h2, h3⟩ := splitE_ok C F hR n fs' _ K hf' hK
              refine ⟨r, fs2, h1, h2, ?_⟩
              rw [← h3]
              have hd := outI_den (ρ := ρ) (φ := φ) b
              rw [ho] at hd
              simp only [E.den] at hd ⊢
              rw [← hd]
              cases v <;> simp [hc]
            · exact atom _ rfl h
      · split at h
        · rename_i hs
          exact atom _ (so_bool F hs) h
        · cases h
theorem sureE_ok (hct : cx.ct = []) (F : Fits cx.Γ cx.S ρ φ) {R : RuleT} (hR : RuleOk ρ φ R) {n : Nat} {fs : Facts} (hf : fs.hold ρ φ) {v : SV} (h : sureE cx R n fs v = true) {β : Bk} {x : Value} (hx : v.is ρ φ β x) : x = .bool true := by
  unfold sureE at h
  split at h
  · rename_i e
    have hx : x = e.den ρ φ := hx
    have C : CtSound cx φ := by
      intro g hg
      rw [hct] at hg
      simp at hg
    obtain ⟨b, fs', _, hb, he⟩ := splitE_ok C F hR n fs e _ hf h
    have hb : b = true := hb
    rw [hx, he, hb]
  · cases h
/-- A law, by its run and by cases. -/
theorem law_byE {ext : ExtT} {n D : Nat} {f : FuncId} {args : List SV} {xs : List Value} {k m : Nat} {fs : Facts} {R : RuleT} (hct : cx.ct = []) (hname : ∀ (f : FuncId) (fn : Func), cx.P.funcs[f]? = some fn → (fn.name == "runtime.NumGoroutine") = false)
    (F : Fits cx.Γ cx.S ρ φ) (hR : RuleOk ρ φ R) (hf : fs.hold ρ φ) (ha : All2 (SV.is ρ φ fun _ => none) args xs) (h : endsC cx ext n D f args k fs (sureE cx R m) = true) (w : World) (hvw : ∀ v ∈ cx.vw, VwC v ρ w) (hext : ExtOk ⟨w, cx.vw⟩ cx φ ext) :
    Calls cx.P f xs.toArray w fun e w' => e = .returned (.bool true) ∧ Below w.heap.size w w' := by
  obtain ⟨v, fs', h1, h2, h3⟩ := endsC_ok hct hname F hf ha h
  refine Calls.mono (h3 w hvw hext) ?_
  rintro e w' ⟨x, β', rfl, hx, hb⟩
  rw [sureE_ok hct F hR h1 h2 hx]
  exact ⟨rfl, hb⟩

/-! ### Rules -/
def ruleOr (R S : RuleT) : RuleT := fun fs op a b => match R fs op a b with
  | some v => some v
  | none => S fs op a b
theorem ruleOr_ok {R S : RuleT} (hR : RuleOk ρ φ R) (hS : RuleOk ρ φ S) : RuleOk ρ φ (ruleOr R S) := by
  intro fs op a b v hf h
  unfold ruleOr at h
  split at h
  · rename_i u hu
    simp only [Option.some.injEq] at h
    subst h
    exact hR fs op a b _ hf hu
  · exact hS fs op a b v hf h
def u64m : E := .int .u64 18446744073709551615
/-- All bits turned: from the greatest number. -/
def notR (cx : Cx) : RuleT := fun _ op a b => match op, a, b with
  | .eql, .bin .xor .u64 (.int .u64 18446744073709551615) x, .bin .sub .u64 (.int .u64 18446744073709551615) y => if x.eqv y && (cx.so x == .int .u64) then some true else none
  | _, _, _ => none
/-- p and (y without p) is y. -/
def backR (cx : Cx) : RuleT := fun _ op a b => match op, b with
  | .eql, .bin .add .u64 p (.bin .sub .u64 y q) => if p.eqv q && a.eqv y && (cx.so y == .int .u64) then some true else none
  | _, _ => none
/-- Sixteen bits of a word, from bit k on, are put in. -/
def movkT (g v : E) (k : Nat) : E × E := (.bin .or .u64 (.bin .andNot .u64 g (.int .u64 (Int.ofNat (65535 * 2 ^ k)))) (.shf .shl .u64 v (.int .u64 (Int.ofNat k))),
  .bin .add .u64 (.bin .sub .u64 g (.shf .shl .u64 (.bin .rem .u64 (.shf .shr .u64 g (.int .u64 (Int.ofNat k))) (.int .u64 65536)) (.int .u64 (Int.ofNat k)))) (.shf .shl .u64 v (.int .u64 (Int.ofNat k))))
def movkR (cx : Cx) : RuleT := fun fs op a b => match op, a with
  | .eql, .bin .or .u64 (.bin .andNot .u64 g _) (.shf .shl .u64 v (.int .u64 (.ofNat k))) => if Nat.ble k 48 && (cx.so g == .int .u64) && (cx.so v == .int .u64) && (dec cx fs (.cmp .lss v (.int .u64 65536)) == some true) && a.eqv (movkT g v k).1 && b.eqv (movkT g v k).2 then some true else none
  | _, _ => none
end
end Go.CX
