/- SX: a loop's contract, out of the tree of its body. -/
import Derived.Test.YtfcddhicklhefaaGreatDoorSXo
namespace Go.SX
open Go Go.RowKit

def xxB : XX → XX → Bool
  | .normal, .normal => true
  | .exit i, .exit j => Nat.beq i j
  | .ret, .ret => true
  | _, _ => false
theorem xxB_eq {a b : XX} (h : xxB a b = true) : a = b := by
  cases a <;> cases b <;> simp [xxB] at h <;> simp_all
def Tree.run (ρ : Nat → Value) (φ : Nat → List Value → List Value) : Tree → Option (XX × St)
  | .leaf x σ => some (x, σ)
  | .ite c t e => if vbool (c.den ρ φ) then t.run ρ φ else e.run ρ φ
  | .stuck => none
theorem Tree.all_of_run {ρ : Nat → Value} {φ : Nat → List Value → List Value} {K : XX → St → Prop} : ∀ {T : Tree} {x : XX} {σ : St}, T.run ρ φ = some (x, σ) → K x σ → T.all ρ φ K
  | .leaf _ _, _, _, h, hk => by
    simp only [Tree.run, Option.some.injEq, Prod.mk.injEq] at h
    obtain ⟨rfl, rfl⟩ := h
    exact hk
  | .ite c t e, x, σ, h, hk => by
    simp only [Tree.run] at h
    constructor
    · intro hc
      rw [hc] at h
      exact Tree.all_of_run (by simpa using h) hk
    · intro hc
      rw [hc] at h
      exact Tree.all_of_run (by simpa using h) hk
  | .stuck, _, _, h, _ => by simp [Tree.run] at h

/-! ### One round -/
/-- Where the loop's own temporaries stand at a round's end: the terms of the next round's arguments. -/
def nextE (n : Nat) (cx : Cx) (ws : List Nat) (L : LK) : Nat → List (Nat × PK) → Option (List E)
  | _, [] => some []
  | i, (t, p) :: ins =>
    match nextE n cx ws L (i + p.sorts.length) ins with
    | some r =>
      if hasN t ws then
        match p, L t with
        | .val a ss, some (.one q) => if partOk cx n (.val a ss) q then (exs q.cs).map (· ++ r) else none
        | _, _ => none
      else some (((List.range' i p.sorts.length).map E.var) ++ r)
    | none => none
def outsE (n : Nat) (cx : Cx) (L : LK) : List (Nat × RK) → Option (List E)
  | [] => some []
  | (t, r) :: os =>
    match L t, outsE n cx L os with
    | some (.one q), some es => if partOk cx n r q then (exs q.cs).map (· ++ es) else none
    | _, _ => none
def dfl (ss : List So) : List Value := ss.map fun s => coe s undef
/-- What a way out gives: its own temporaries, something in the place of the other ways'. -/
def exitE (n : Nat) (cx : Cx) (L : LK) (x : XX) : Nat → List (XX × List (Nat × RK)) → Option (Nat × Nat × List E)
  | _, [] => none
  | k, (y, os) :: es =>
    if xxB y x then (outsE n cx L os).map fun l => (k, 0, l)
    else (exitE n cx L x (k + 1) es).map fun r => (r.1, r.2.1 + (outSorts os).length, r.2.2)

/-- What the named temporaries hold does not change. -/
def alsKeep (es : List E) : List (Nat × E) → Bool
  | [] => true
  | (_, e) :: r => (e.subst (atL es)).eqv e && alsKeep es r
/-- Every leaf of the body's tree is as it should be. -/
def leafOk (n : Nat) (cx : Cx) (lp : Lp) (ws : List Nat) (x : XX) (σ : St) : Bool :=
  match x with
  | .normal => match nextE n cx ws σ.L 0 lp.ins with
    | some es => alsKeep es lp.als && preOk cx σ.facts es lp.pre && (match dec cx σ.facts (mkLss (lp.mu.subst (atL es)) lp.mu) with | some b => b | none => false) && (match dec cx σ.facts (mkLss lp.mu (.int .i64 0)) with | some b => !b | none => false)
    | none => false
  | x => match exitE n cx σ.L x 0 lp.exits with
    | some _ => true
    | none => false
def Tree.lok (n : Nat) (cx : Cx) (lp : Lp) (ws : List Nat) : Tree → Bool
  | .leaf x σ => leafOk n cx lp ws x σ
  | .ite c t e => c.lt n && t.lok n cx lp ws && e.lok n cx lp ws
  | .stuck => false

/-- The start of a round. -/
def lpStart (lp : Lp) : St :=
  { tmps := (lp.ins.map (·.1)).zip (argsV 0 (sortsP (lp.ins.map (·.2))).length (lp.ins.map (·.2))) ++ lp.als.map (fun p => (p.1, .one ⟨false, [.e p.2]⟩)), boxes := [], next := 0, facts := lp.pre ++ vwFacts (vwV 0 (sortsP (lp.ins.map (·.2))).length (lp.ins.map (·.2))) }
def lpCx (P : Program) (ct : List Sig) (sy : List (Nat × List So)) (lp : Lp) : Cx := cxP P ct sy (lp.ins.map (·.2))
def lpTree (P : Program) (ct : List Sig) (sy : List (Nat × List So)) (lps : List Lp) (N fuel : Nat) (lp : Lp) (c : Code) : Tree :=
  exec (lpCx P ct sy lp) ⟨N, some (wrs c)⟩ lps fuel c (lpStart lp)

/-- The values of one round: 'none': another round with these. -/
def lpStep (lp : Lp) (cx : Cx) (n : Nat) (ws : List Nat) (T : Tree) (φ : Nat → List Value → List Value) (fl : List Value) : List Value ⊕ List Value :=
  let ρ := fun i => coe ((sortsP (lp.ins.map (·.2))).getD i .any) (fl.getD i undef)
  match T.run ρ φ with
  | some (.normal, σ) => match nextE n cx ws σ.L 0 lp.ins with
    | some es => .inl (es.map (·.den ρ φ))
    | none => .inr (.int .i64 (-1) :: dfl (lp.exits.flatMap fun e => outSorts e.2))
  | some (x, σ) => match exitE n cx σ.L x 0 lp.exits with
    | some (k, a, es) => .inr (.int .i64 (Int.ofNat k) :: (dfl (((lp.exits.flatMap fun e => outSorts e.2)).take a) ++ es.map (·.den ρ φ) ++ dfl (((lp.exits.flatMap fun e => outSorts e.2)).drop (a + es.length))))
    | none => .inr (.int .i64 (-1) :: dfl (lp.exits.flatMap fun e => outSorts e.2))
  | none => .inr (.int .i64 (-1) :: dfl (lp.exits.flatMap fun e => outSorts e.2))
def lpItr (lp : Lp) (cx : Cx) (n : Nat) (ws : List Nat) (T : Tree) (φ : Nat → List Value → List Value) : Nat → List Value → List Value
  | 0, _ => .int .i64 (-1) :: dfl (lp.exits.flatMap fun e => outSorts e.2)
  | m + 1, fl => match lpStep lp cx n ws T φ fl with
    | .inl fl' => lpItr lp cx n ws T φ m fl'
    | .inr out => out
/-- What a loop means. -/
def lpF (lp : Lp) (cx : Cx) (n : Nat) (ws : List Nat) (T : Tree) (φ : Nat → List Value → List Value) (fl : List Value) : List Value :=
  lpItr lp cx n ws T φ ((vint (lp.mu.den (fun i => coe ((sortsP (lp.ins.map (·.2))).getD i .any) (fl.getD i undef)) φ) + 1).toNat + 1) fl

section
variable {ρ : Nat → Value} {φ : Nat → List Value → List Value} {cx : Cx}
theorem PK.reads_mono {p : PK} {w w' : World} {v : Value} {f : List Value} (h : p.reads w v f) (hb : Below w.heap.size w w') : p.reads w' v f := by
  cases p with
  | val a ss => cases a <;> exact h
  | sl ss =>
    obtain ⟨ad, len, cap, vs, h1, h2, h3, h4, h5, h6, h7⟩ := h
    refine ⟨ad, len, cap, vs, h1, h2, h3, h4, h5, h6, ?_⟩
    rcases h7 with h7 | ⟨b, off, h7, h8, h9⟩
    · exact Or.inl h7
    · exact Or.inr ⟨b, off, h7, Nat.lt_of_lt_of_le h8 hb.size, fun i u hu => by rw [hb.cell (p := ⟨b, off + i, none⟩) h8]; exact h9 i u hu⟩

theorem exs_vals : ∀ {cs : List SC} {es : List E}, exs cs = some es → cs.map (SC.val ρ φ) = es.map (·.den ρ φ)
  | [], es, h => by
    simp only [exs, Option.some.injEq] at h
    subst h
    rfl
  | .e x :: cs, es, h => by
    simp only [exs, Option.map_eq_some_iff] at h
    obtain ⟨es', he, rfl⟩ := h
    simp only [List.map_cons, SC.val, exs_vals he]
  | .ptr _ _ :: _, _, h => by simp [exs] at h
  | .pti _ _ _ :: _, _, h => by simp [exs] at h
  | .slc _ _ _ _ :: _, _, h => by simp [exs] at h
  | .vad _ _ _ _ :: _, _, h => by simp [exs] at h

theorem PK.reads_len {p : PK} {w : World} {v : Value} {f : List Value} (h : p.reads w v f) : f.length = p.sorts.length := by
  cases p with
  | val a ss => cases a <;> exact h.2.length.symm
  | sl ss => obtain ⟨_, _, _, _, _, rfl, _⟩ := h; rfl

/-- The next round's arguments. -/
theorem nextE_reads (F : Fits cx.Γ cx.S ρ φ) {n : Nat} {ws : List Nat} {fx : Fx} {L : LK} {B : BK} {β : Nat → Option Nat} {a1 a2 : Act} {w1 w2 : World} (H : M ρ φ fx L B β a2 w2) (hbl : Below w1.heap.size w1 w2)
    (hfr : ∀ t, hasN t ws = false → a2.tmps[t]? = a1.tmps[t]?) : ∀ {ins : List (Nat × PK)} {fl : List Value} {i : Nat} {es : List E}, nextE n cx ws L i ins = some es →
    readsAll w1 (ins.map (·.2)) (ins.map fun p => a1.eval (.tmp p.1)) fl → (∀ j, j < fl.length → ρ (i + j) = fl.getD j undef) → readsAll w2 (ins.map (·.2)) (ins.map fun p => a2.eval (.tmp p.1)) (es.map (·.den ρ φ))
  | [], fl, i, es, h, hr, hρ => by
    simp only [nextE, Option.some.injEq] at h
    subst h
    rfl
  | (t, p) :: ins, fl, i, es, h, hr, hρ => by
    obtain ⟨f1, f2, rfl, hp, hr2⟩ := hr
    have hl := PK.reads_len hp
    simp only [nextE] at h
    split at h
    · rename_i r hnr
      have ih := nextE_reads F H hbl hfr hnr hr2 (fun j hj => by
        have := hρ (f1.length + j) (by simp; omega)
        rw [← hl, show i + f1.length + j = i + (f1.length + j) by omega, this, List.getD_eq_getElem?_getD, List.getElem?_append_right (by omega), show f1.length + j - f1.length = j by omega, List.getD_eq_getElem?_getD])
      split at h
      · split at h
        · rename_i ag ss q hq
          split at h
          · rename_i hok
            simp only [Option.map_eq_some_iff] at h
            obtain ⟨es', he, rfl⟩ := h
            have hx := opd_is (x := .tmp t) H hq
            rw [List.map_append]
            refine ⟨_, _, rfl, ?_, ih⟩
            have := partOk_reads (w := w2) F hok hx
            unfold Part.vals at this
            rw [exs_vals he] at this
            exact this
          · exact absurd h (by simp)
        · exact absurd h (by simp)
      · rename_i ht
        simp only [Option.some.injEq] at h
        subst h
        rw [List.map_append]
        refine ⟨_, _, rfl, ?_, ih⟩
        have he : a2.eval (.tmp t) = a1.eval (.tmp t) := by
          simp only [Act.eval, Array.getD_eq_getD_getElem?, hfr t (by simpa using ht)]
        have hv : ((List.range' i p.sorts.length).map E.var).map (·.den ρ φ) = f1 := by
          rw [List.map_map]
          apply List.ext_getElem
          · simp [hl]
          · intro j h1 h2
            simp only [List.getElem_map, List.getElem_range', Function.comp, E.den, Nat.one_mul]
            have := hρ j (by simp; omega)
            rw [this, List.getD_eq_getElem?_getD, List.getElem?_append_left h2, List.getElem?_eq_getElem h2]
            rfl
        rw [hv]
        show p.reads w2 (a2.eval (.tmp t)) f1
        rw [he]
        exact PK.reads_mono (p := p) (v := a1.eval (.tmp t)) hp hbl
    · exact absurd h (by simp)

theorem nextE_has (F : Fits cx.Γ cx.S ρ φ) {n : Nat} {ws : List Nat} {L : LK} (hΓ : ∀ j, cx.Γ.getD j .any = cx.Γ.getD j .any) : ∀ {ins : List (Nat × PK)} {i : Nat} {es : List E}, nextE n cx ws L i ins = some es →
    (∀ j, (((ins.map (·.2)).flatMap PK.sorts).getD j .any).has (ρ (i + j))) → All2 So.has ((ins.map (·.2)).flatMap PK.sorts) (es.map (·.den ρ φ))
  | [], i, es, h, _ => by
    simp only [nextE, Option.some.injEq] at h
    subst h
    trivial
  | (t, p) :: ins, i, es, h, hs => by
    simp only [nextE] at h
    split at h
    · rename_i r hnr
      have ih := nextE_has F hΓ hnr (fun j => by
        have := hs (p.sorts.length + j)
        simp only [List.map_cons, List.flatMap_cons] at this
        rw [List.getD_eq_getElem?_getD, List.getElem?_append_right (by omega), show p.sorts.length + j - p.sorts.length = j by omega, ← List.getD_eq_getElem?_getD] at this
        rwa [show i + p.sorts.length + j = i + (p.sorts.length + j) by omega])
      split at h
      · split at h
        · rename_i ag ss q hq
          split at h
          · rename_i hok
            simp only [Option.map_eq_some_iff] at h
            obtain ⟨es', he, rfl⟩ := h
            rw [List.map_append]
            simp only [List.map_cons, List.flatMap_cons]
            refine All2.append ?_ ih
            have := (partOk_gives F hok).1
            unfold Part.vals at this
            rw [exs_vals he] at this
            exact this
          · exact absurd h (by simp)
        · exact absurd h (by simp)
      · simp only [Option.some.injEq] at h
        subst h
        rw [List.map_append]
        simp only [List.map_cons, List.flatMap_cons]
        refine All2.append ?_ ih
        have hs' : ∀ j, j < p.sorts.length → (p.sorts.getD j .any).has (ρ (i + j)) := by
          intro j hj
          have := hs j
          simp only [List.map_cons, List.flatMap_cons] at this
          rw [List.getD_eq_getElem?_getD, List.getElem?_append_left hj, ← List.getD_eq_getElem?_getD] at this
          exact this
        clear hs ih hnr
        generalize p.sorts = ss at hs'
        revert i
        induction ss with
        | nil => intro i _; trivial
        | cons s ss ih' =>
          intro i hs'
          simp only [List.length_cons, List.range'_succ, List.map_cons]
          refine ⟨?_, ih' (i + 1) fun j hj => ?_⟩
          · have := hs' 0 (by simp)
            simpa [E.den] using this
          · have := hs' (j + 1) (by simp; omega)
            rw [show i + 1 + j = i + (j + 1) by omega]
            simpa using this
    · exact absurd h (by simp)

theorem nextE_lt {n : Nat} {ws : List Nat} {L : LK} {ρ' : Nat → Value} (hρ : ∀ i, i < n → ρ i = ρ' i) : ∀ {ins : List (Nat × PK)} {i : Nat} {es : List E}, nextE n cx ws L i ins = some es →
    i + ((ins.map (·.2)).flatMap PK.sorts).length ≤ n → es.map (·.den ρ φ) = es.map (·.den ρ' φ)
  | [], i, es, h, _ => by
    simp only [nextE, Option.some.injEq] at h
    subst h
    rfl
  | (t, p) :: ins, i, es, h, hn => by
    simp only [List.map_cons, List.flatMap_cons, List.length_append] at hn
    simp only [nextE] at h
    split at h
    · rename_i r hnr
      have ih := nextE_lt hρ hnr (by omega)
      split at h
      · split at h
        · rename_i ag ss q hq
          split at h
          · rename_i hok
            simp only [Option.map_eq_some_iff] at h
            obtain ⟨es', he, rfl⟩ := h
            rw [List.map_append, List.map_append, ih]
            have := partOk_lt (φ := φ) hρ hok
            unfold Part.vals at this
            rw [exs_vals he, exs_vals he] at this
            rw [this]
          · exact absurd h (by simp)
        · exact absurd h (by simp)
      · simp only [Option.some.injEq] at h
        subst h
        rw [List.map_append, List.map_append, ih]
        congr 1
        rw [List.map_map, List.map_map]
        apply List.map_congr_left
        intro j hj
        simp only [List.mem_range'_1] at hj
        simp only [Function.comp, E.den]
        exact hρ j (by omega)
    · exact absurd h (by simp)

theorem outsE_has (F : Fits cx.Γ cx.S ρ φ) {n : Nat} {L : LK} : ∀ {os : List (Nat × RK)} {es : List E}, outsE n cx L os = some es → All2 So.has (outSorts os) (es.map (·.den ρ φ))
  | [], es, h => by
    simp only [outsE, Option.some.injEq] at h
    subst h
    trivial
  | (t, r) :: os, es, h => by
    simp only [outsE] at h
    split at h
    · rename_i q es' hq hes
      split at h
      · rename_i hok
        simp only [Option.map_eq_some_iff] at h
        obtain ⟨e1, he, rfl⟩ := h
        rw [List.map_append]
        unfold outSorts
        simp only [List.flatMap_cons]
        refine All2.append ?_ (outsE_has F hes)
        have := (partOk_gives F hok).1
        unfold Part.vals at this
        rw [exs_vals he] at this
        exact this
      · exact absurd h (by simp)
    · exact absurd h (by simp)
theorem outsE_lt {n : Nat} {L : LK} {ρ' : Nat → Value} (hρ : ∀ i, i < n → ρ i = ρ' i) : ∀ {os : List (Nat × RK)} {es : List E}, outsE n cx L os = some es → es.map (·.den ρ φ) = es.map (·.den ρ' φ)
  | [], es, h => by
    simp only [outsE, Option.some.injEq] at h
    subst h
    rfl
  | (t, r) :: os, es, h => by
    simp only [outsE] at h
    split at h
    · rename_i q es' hq hes
      split at h
      · rename_i hok
        simp only [Option.map_eq_some_iff] at h
        obtain ⟨e1, he, rfl⟩ := h
        rw [List.map_append, List.map_append, outsE_lt hρ hes]
        have := partOk_lt (φ := φ) hρ hok
        unfold Part.vals at this
        rw [exs_vals he, exs_vals he] at this
        rw [this]
      · exact absurd h (by simp)
    · exact absurd h (by simp)
theorem outsE_at (F : Fits cx.Γ cx.S ρ φ) {n : Nat} {fx : Fx} {L : LK} {B : BK} {β : Nat → Option Nat} {a : Act} {w : World} (H : M ρ φ fx L B β a w) : ∀ {os : List (Nat × RK)} {es : List E} (A C : List Value), outsE n cx L os = some es →
    outsAt a.tmps (A ++ es.map (·.den ρ φ) ++ C) A.length os
  | [], _, _, _, _ => trivial
  | (t, r) :: os, es, A, C, h => by
    simp only [outsE] at h
    split at h
    · rename_i q es' hq hes
      split at h
      · rename_i hok
        simp only [Option.map_eq_some_iff] at h
        obtain ⟨e1, he, rfl⟩ := h
        obtain ⟨g1, g2⟩ := partOk_gives F hok
        unfold Part.vals at g1 g2
        rw [exs_vals he] at g1 g2
        obtain ⟨x, hx, hsx⟩ := H.tmps t _ hq
        rw [List.map_append]
        refine ⟨⟨x, hx, fun w w' => ?_⟩, ?_⟩
        · have := g2 β x w w' A (es'.map (·.den ρ φ) ++ C) hsx
          simpa [List.append_assoc] using this
        · have ih := outsE_at F H (A ++ e1.map (·.den ρ φ)) C hes
          have hl := g1.length
          rw [List.length_append, ← hl] at ih
          simpa [List.append_assoc] using ih
      · exact absurd h (by simp)
    · exact absurd h (by simp)
end

theorem dfl_has (ss : List So) : All2 So.has ss (dfl ss) := by
  induction ss with
  | nil => trivial
  | cons s ss ih => exact ⟨coe_has s _, ih⟩

theorem exitE_spec {n : Nat} {cx : Cx} {L : LK} {x : XX} : ∀ {es : List (XX × List (Nat × RK))} {k m a j : Nat} {l : List E}, exitE n cx L x k es = some (m, a, l) →
    ∃ os, exitAt k j es m = some (x, j + a, os) ∧ outsE n cx L os = some l ∧ k ≤ m ∧ ∃ pre post, (es.flatMap fun e => outSorts e.2) = pre ++ outSorts os ++ post ∧ pre.length = a
  | [], _, _, _, _, _, h => by simp [exitE] at h
  | (y, os) :: es, k, m, a, j, l, h => by
    simp only [exitE] at h
    split at h
    · rename_i hb
      have := xxB_eq hb
      subst this
      simp only [Option.map_eq_some_iff, Prod.mk.injEq] at h
      obtain ⟨l', hl, rfl, rfl, rfl⟩ := h
      exact ⟨os, by simp [exitAt], hl, Nat.le_refl _, [], es.flatMap fun e => outSorts e.2, by simp, rfl⟩
    · simp only [Option.map_eq_some_iff] at h
      obtain ⟨r, hr, h⟩ := h
      simp only [Prod.mk.injEq] at h
      obtain ⟨r1, r2, r3⟩ := r
      simp only at h
      obtain ⟨rfl, rfl, rfl⟩ := h
      obtain ⟨os', h1, h2, h3, pre, post, h4, h5⟩ := exitE_spec (j := j + (outSorts os).length) hr
      refine ⟨os', ?_, h2, by omega, outSorts os ++ pre, post, by simp [h4], by simp [h5]; omega⟩
      simp only [exitAt]
      rw [if_neg (fun e => by have := Nat.eq_of_beq_eq_true e; omega), h1]
      congr 3
      omega

theorem run_lt {ρ ρ' : Nat → Value} {φ : Nat → List Value → List Value} {n : Nat} {cx : Cx} {lp : Lp} {ws : List Nat} (hρ : ∀ i, i < n → ρ i = ρ' i) : ∀ {T : Tree}, T.lok n cx lp ws = true → T.run ρ φ = T.run ρ' φ
  | .leaf _ _, _ => rfl
  | .ite c t e, h => by
    simp only [Tree.lok, Bool.and_eq_true] at h
    simp only [Tree.run, (lt_den φ hρ c h.1.1).1, run_lt hρ h.1.2, run_lt hρ h.2]
  | .stuck, _ => rfl
theorem lok_run (ρ : Nat → Value) (φ : Nat → List Value → List Value) {n : Nat} {cx : Cx} {lp : Lp} {ws : List Nat} : ∀ {T : Tree}, T.lok n cx lp ws = true → ∃ x σ, T.run ρ φ = some (x, σ) ∧ leafOk n cx lp ws x σ = true
  | .leaf x σ, h => ⟨x, σ, rfl, h⟩
  | .ite c t e, h => by
    simp only [Tree.lok, Bool.and_eq_true] at h
    simp only [Tree.run]
    split
    · exact lok_run ρ φ h.1.2
    · exact lok_run ρ φ h.2
  | .stuck, h => by simp [Tree.lok] at h

theorem zip_look {t : Nat} {s : SV} : ∀ {ts : List Nat} {ss : List SV}, lookA t (ts.zip ss) = some s → ∃ j : Nat, ts[j]? = some t ∧ ss[j]? = some s
  | [], _, h => by simp [lookA] at h
  | _ :: _, [], h => by simp [lookA] at h
  | u :: ts, s' :: ss, h => by
    simp only [List.zip_cons_cons, lookA] at h
    split at h
    · rename_i hb
      simp only [Option.some.injEq] at h
      subst h
      exact ⟨0, by simp [Nat.eq_of_beq_eq_true hb], rfl⟩
    · obtain ⟨j, h1, h2⟩ := zip_look h
      exact ⟨j + 1, by simpa using h1, by simpa using h2⟩

theorem look_append {t : Nat} {s : SV} : ∀ {l l' : List (Nat × SV)}, lookA t (l ++ l') = some s → lookA t l = some s ∨ lookA t l' = some s
  | [], _, h => Or.inr h
  | (u, x) :: l, l', h => by
    simp only [List.cons_append, lookA] at h ⊢
    split at h
    · rename_i hb
      rw [if_pos hb]
      exact Or.inl h
    · rename_i hb
      rw [if_neg hb]
      exact look_append h
theorem als_look {t : Nat} {s : SV} : ∀ {l : List (Nat × E)}, lookA t (l.map fun p => (p.1, SV.one ⟨false, [.e p.2]⟩)) = some s → ∃ q ∈ l, q.1 = t ∧ SV.one ⟨false, [.e q.2]⟩ = s
  | [], h => by simp [lookA] at h
  | q :: l, h => by
    simp only [List.map_cons, lookA] at h
    split at h
    · rename_i hb
      simp only [Option.some.injEq] at h
      exact ⟨q, by simp, Nat.eq_of_beq_eq_true hb, h⟩
    · obtain ⟨q', h1, h2⟩ := als_look h
      exact ⟨q', by simp [h1], h2⟩
theorem alsKeep_den {ρ : Nat → Value} {φ : Nat → List Value → List Value} {es : List E} : ∀ {als : List (Nat × E)}, alsKeep es als = true → ∀ p ∈ als, p.2.den (fun i => (es.map (·.den ρ φ)).getD i undef) φ = p.2.den ρ φ
  | [], _, p, hp => by simp at hp
  | (t, e) :: als, h, p, hp => by
    simp only [alsKeep, Bool.and_eq_true] at h
    rcases List.mem_cons.1 hp with rfl | hp
    · have := (subst_den ρ φ (atL es) e).1
      rw [E.eqv_eq h.1, atL_den] at this
      exact this.symm
    · exact alsKeep_den h.2 p hp

theorem readsAll_len {w : World} : ∀ {ps : List PK} {xs fl : List Value}, readsAll w ps xs fl → fl.length = (sortsP ps).length ∧ xs.length = ps.length
  | [], [], fl, h => by
    have h : fl = [] := h
    subst h
    exact ⟨rfl, rfl⟩
  | p :: ps, x :: xs, fl, h => by
    obtain ⟨f1, f2, rfl, h1, h2⟩ := h
    have := readsAll_len h2
    have hl := PK.reads_len h1
    unfold sortsP at *
    simp only [List.flatMap_cons, List.length_append, List.length_cons]
    omega
  | [], _ :: _, _, h => h.elim
  | _ :: _, [], _, h => h.elim

def lpOk (N : Nat) (ws : List Nat) (lp : Lp) : Bool :=
  lp.als.all (fun p => p.2.lt (sortsP (lp.ins.map (·.2))).length && p.2.noApp && !(hasN p.1 ws)) && (lp.ins.map (·.2)).all PK.okK && lp.ins.all (fun p => Nat.blt p.1 N) && lp.pre.all (fun p => p.1.lt (sortsP (lp.ins.map (·.2))).length && p.1.noApp) && lp.mu.lt (sortsP (lp.ins.map (·.2))).length && lp.mu.noApp && Nat.ble lp.exits.length 1000

theorem lp_sound {P : Program} {ct : List Sig} {sy : List (Nat × List So)} {φ φ' : Nat → List Value → List Value} (hfit : ∀ f j args, (symS sy f j).has ((φ f args).getD j undef)) (hsnd : ∀ g ∈ ct, g.Sound P φ) {lps : List Lp} {N fuel : Nat} {lp : Lp} {c : Code}
    (hls : ∀ l ∈ lps, ∀ b ∈ loops c, firstId b = some l.key → l.Sound P φ N b) (hok : lpOk N (wrs c) lp = true)
    (hT : (lpTree P ct sy lps N fuel lp c).lok (sortsP (lp.ins.map (·.2))).length (lpCx P ct sy lp) lp (wrs c) = true)
    (hφ : φ' lp.sym = lpF lp (lpCx P ct sy lp) (sortsP (lp.ins.map (·.2))).length (wrs c) (lpTree P ct sy lps N fuel lp c) φ) : lp.Sound P φ' N c := by
  unfold lpOk at hok
  simp only [Bool.and_eq_true] at hok
  obtain ⟨⟨⟨⟨⟨⟨hals0, hk⟩, hN⟩, hpok⟩, hmu⟩, _⟩, _⟩ := hok
  intro a w fl Q hsz hdf hr hpre hals hQ
  generalize hT0 : lpTree P ct sy lps N fuel lp c = T at hT hφ
  have key : ∀ (m : Nat) (fl1 : List Value) (a1 : Act) (w1 : World), a1.tmps.size = N → a1.defers = [] → (∀ t, hasN t (wrs c) = false → a1.tmps[t]? = a.tmps[t]?) → Below w.heap.size w w1 →
      readsAll w1 (lp.ins.map (·.2)) (lp.ins.map fun p => a1.eval (.tmp p.1)) fl1 → lp.pre.hold (fun i => fl1.getD i undef) φ → (∀ p ∈ lp.als, a1.tmps[p.1]? = some (p.2.den (fun i => fl1.getD i undef) φ)) → (vint (lp.mu.den (fun i => fl1.getD i undef) φ) + 1).toNat < m →
      lpItr lp (lpCx P ct sy lp) (sortsP (lp.ins.map (·.2))).length (wrs c) T φ m fl1 = φ' lp.sym fl → Code.rounds P c Q m a1 w1 := by
    intro m
    induction m with
    | zero => intro fl1 a1 w1 _ _ _ _ _ _ _ hm; omega
    | succ m ih =>
      intro fl1 a1 w1 hsz1 hdf1 hfr1 hbl1 hr1 hpre1 hals1 hm hit
      rw [rounds_succ]
      obtain ⟨hlen, hlx⟩ := readsAll_len hr1
      generalize hxs : (lp.ins.map fun p => a1.eval (.tmp p.1)) = xs1 at hr1 hlx
      obtain ⟨ρ1, hρ1⟩ : ∃ ρ1 : Nat → Value, ρ1 = fun i => (fl1 ++ exV (lp.ins.map (·.2)) xs1).getD i undef := ⟨_, rfl⟩
      have hρa : ∀ i, i < (sortsP (lp.ins.map (·.2))).length → ρ1 i = fl1.getD i undef := by
        intro i hi
        rw [hρ1]
        simp only
        rw [List.getD_eq_getElem?_getD, List.getElem?_append_left (by omega), List.getD_eq_getElem?_getD]
      obtain ⟨ha, hhas, hhx, hvw⟩ := argsV_is (φ := φ) (β := fun _ => none) (fm := ⟨N, some (wrs c)⟩) (a0 := a1.tmps) [] fl1 ρ1 hk hr1 (fun j hj => by
        rw [List.length_nil, Nat.zero_add]; exact hρa j (by omega)) (fun j hj => by
        rw [hρ1]
        simp only
        rw [List.getD_eq_getElem?_getD, List.getElem?_append_right (by omega), show fl1.length + j - fl1.length = j by omega, List.getD_eq_getElem?_getD])
      rw [hlen] at ha hvw
      simp only [List.length_nil] at ha hvw
      have F : Fits (lpCx P ct sy lp).Γ (lpCx P ct sy lp).S ρ1 φ := ⟨fun i => by
        have := all2_get (All2.append hhas hhx) i
        rw [hρ1]
        exact this, hfit⟩
      have hρc : (fun i => coe ((sortsP (lp.ins.map (·.2))).getD i .any) (fl1.getD i undef)) = fun i => fl1.getD i undef := by
        funext i
        exact coe_id (all2_get hhas i)
      have hρb : ∀ i, i < (sortsP (lp.ins.map (·.2))).length → ρ1 i = (fun i => fl1.getD i undef) i := hρa
      have hinit : MS ρ1 φ ⟨⟨N, some (wrs c)⟩, a1.tmps, [], w1⟩ (lpStart lp) (fun _ => none) a1 w1 := by
        refine ⟨⟨?_, hsz1, hdf1, fun _ _ => rfl, LowX.refl _ _, ?_, ?_, ?_⟩, fun _ _ => rfl⟩
        · intro t s h
          rcases look_append h with h | h
          case inr =>
            obtain ⟨q, hq, rfl, rfl⟩ := als_look h
            refine ⟨_, hals1 q hq, ?_⟩
            have := List.all_eq_true.1 hals0 q hq
            rw [Bool.and_eq_true, Bool.and_eq_true] at this
            show _ = _
            rw [(lt_den φ hρb q.2 this.1.1).1]
          obtain ⟨j, h1, h2⟩ := zip_look h
          obtain ⟨x, hx, hsx⟩ := ha.get h2
          simp only [List.getElem?_map, Option.map_eq_some_iff] at h1
          obtain ⟨q, hq, rfl⟩ := h1
          have hxe : x = a1.eval (.tmp q.1) := by
            rw [← hxs, List.getElem?_map, hq] at hx
            simpa using hx.symm
          have hqN : q.1 < a1.tmps.size := by
            have := List.all_eq_true.1 hN q (List.mem_of_getElem? hq)
            simp only [Nat.blt] at this
            have := Nat.le_of_ble_eq_true this
            omega
          refine ⟨x, ?_, hsx⟩
          rw [hxe]
          simp [Act.eval, hqN]
        · intro id row h
          simp [St.B, lpStart, lookA] at h
        · intro id id' b h
          simp at h
        · intro id b h
          simp at h
      have hfacts : (lpStart lp).facts.hold ρ1 φ := by
        intro p hp
        rcases List.mem_append.1 hp with hp | hp
        · have h1 := List.all_eq_true.1 hpok p hp
          rw [Bool.and_eq_true] at h1
          rw [(lt_den φ hρb p.1 h1.1).1]
          exact hpre1 p hp
        · exact vwFacts_hold hvw p hp
      obtain ⟨x, σ, hrun, hleaf⟩ := lok_run ρ1 φ hT
      have hrunc : T.run (fun i => fl1.getD i undef) φ = some (x, σ) := by
        rw [← run_lt hρb hT]; exact hrun
      rw [← hT0] at hrun
      refine exec_sound (cx := lpCx P ct sy lp) (ρ := ρ1) (fx := ⟨⟨N, some (wrs c)⟩, a1.tmps, [], w1⟩) hvw F hsnd c hls fuel c (lpStart lp) _ a1 w1 _ (fun l hl => hl) hinit hfacts (Tree.all_of_run hrun ?_)
      intro β a2 w2 hM2 hf2
      have hbl2 : Below w1.heap.size w1 w2 := hM2.m.low.below
      have hfr2 : ∀ t, hasN t (wrs c) = false → a2.tmps[t]? = a1.tmps[t]? := fun t ht => hM2.m.frm t ht
      have hbl : Below w.heap.size w w2 := hbl1.trans (hbl2.mono hbl1.size)
      have hfr : ∀ t, hasN t (wrs c) = false → a2.tmps[t]? = a.tmps[t]? := fun t ht => (hfr2 t ht).trans (hfr1 t ht)
      have other : x ≠ .normal → (∃ k a b, exitE (sortsP (lp.ins.map (·.2))).length (lpCx P ct sy lp) σ.L x 0 lp.exits = some (k, a, b)) → Q x.toExit a2 w2 := by
        rintro hne ⟨k, off, es, he⟩
        obtain ⟨os, h1, h2, _, pre, post, h4, h5⟩ := exitE_spec (j := 1) he
        have hout : φ' lp.sym fl = .int .i64 (Int.ofNat k) :: (dfl (((lp.exits.flatMap fun e => outSorts e.2)).take off) ++ es.map (·.den ρ1 φ) ++ dfl (((lp.exits.flatMap fun e => outSorts e.2)).drop (off + es.length))) := by
          rw [← hit]
          simp only [lpItr, lpStep, hρc, hrunc]
          cases x with
          | normal => exact absurd rfl hne
          | exit i => simp only [he]; rw [outsE_lt (φ := φ) hρb h2]
          | ret => simp only [he]; rw [outsE_lt (φ := φ) hρb h2]
        refine hQ k x (1 + off) os a2 w2 h1 (by rw [hout]; rfl) hM2.m.size hM2.m.dfr hfr ?_ hbl
        rw [hout]
        have hat := outsE_at F hM2.m (.int .i64 (Int.ofNat k) :: dfl (((lp.exits.flatMap fun e => outSorts e.2)).take off)) (dfl (((lp.exits.flatMap fun e => outSorts e.2)).drop (off + es.length))) h2
        have hpl : (dfl (((lp.exits.flatMap fun e => outSorts e.2)).take off)).length = off := by
          unfold dfl
          rw [List.length_map, List.length_take, h4]
          simp only [List.length_append]
          omega
        simp only [List.length_cons, hpl] at hat
        rw [Nat.add_comm off 1] at hat
        simpa using hat
      cases x with
      | normal =>
        simp only [leafOk] at hleaf
        split at hleaf
        · rename_i es hes
          simp only [Bool.and_eq_true] at hleaf
          obtain ⟨⟨⟨hak, hp2⟩, hmu2⟩, hmu3⟩ := hleaf
          have hreads := nextE_reads (i := 0) F hM2.m hbl2 hfr2 hes (by rw [hxs]; exact hr1) (fun j hj => by
            rw [Nat.zero_add]; exact hρa j (by omega))
          have hmapc := nextE_lt (φ := φ) hρb hes (by rw [Nat.zero_add]; exact Nat.le_refl _)
          have hpre2 := preOk_hold F hf2 hp2
          have hmul := (lt_den φ hρb lp.mu hmu).1
          split at hmu2
          · rename_i b1 hb1
            have hb1 := dec_sound F hf2 hb1
            split at hmu3
            · rename_i b2 hb2
              have hb2 := dec_sound F hf2 hb2
              rw [hmu2] at hb1
              have hmu3 : b2 = false := by simpa using hmu3
              rw [hmu3] at hb2
              rw [mkLss_den] at hb1 hb2
              simp only [E.den, vint_int, Value.bool.injEq] at hb1 hb2
              replace hb1 := of_decide_eq_true hb1
              replace hb2 := of_decide_eq_false hb2
              rw [(subst_den ρ1 φ (atL es) lp.mu).1] at hb1
              rw [atL_den] at hb1
              rw [hmul] at hb1 hb2
              refine ih (es.map (·.den ρ1 φ)) a2 w2 hM2.m.size hM2.m.dfr hfr hbl hreads hpre2 (fun q hq => ?_) (by omega) ?_
              · have h1 := List.all_eq_true.1 hals0 q hq
                rw [Bool.and_eq_true, Bool.and_eq_true] at h1
                rw [hfr2 q.1 (by simpa using h1.2), hals1 q hq, alsKeep_den hak q hq, (lt_den φ hρb q.2 h1.1.1).1]
              rw [← hit]
              simp only [lpItr, lpStep, hρc, hrunc, hes]
              rw [hmapc]
            · exact absurd hmu3 (by simp)
          · exact absurd hmu2 (by simp)
        · exact absurd hleaf (by simp)
      | exit i =>
        simp only [leafOk] at hleaf
        split at hleaf
        · rename_i r hr'
          exact other (by simp) ⟨r.1, r.2.1, r.2.2, hr'⟩
        · exact absurd hleaf (by simp)
      | ret =>
        simp only [leafOk] at hleaf
        split at hleaf
        · rename_i r hr'
          exact other (by simp) ⟨r.1, r.2.1, r.2.2, hr'⟩
        · exact absurd hleaf (by simp)
  have hpre' : lp.pre.hold (fun i => fl.getD i undef) φ := by
    intro p hp
    have h1 := List.all_eq_true.1 hpok p hp
    rw [Bool.and_eq_true] at h1
    rw [(noApp_den _ φ φ' p.1 h1.2).1]
    exact hpre p hp
  have hhas : All2 So.has (sortsP (lp.ins.map (·.2))) fl := by
    obtain ⟨hlen, hlx⟩ := readsAll_len hr
    have := argsV_is (φ := φ) (β := fun _ => none) (fm := ⟨N, none⟩) (a0 := #[]) [] fl (fun i => (fl ++ exV (lp.ins.map (·.2)) (lp.ins.map fun p => a.eval (.tmp p.1))).getD i undef) hk hr (fun j hj => by
      simp only [List.length_nil, Nat.zero_add]
      rw [List.getD_eq_getElem?_getD, List.getElem?_append_left (by omega), List.getD_eq_getElem?_getD]) (fun j hj => by
      rw [List.getD_eq_getElem?_getD, List.getElem?_append_right (by omega), show fl.length + j - fl.length = j by omega, List.getD_eq_getElem?_getD])
    exact this.2.1
  have hρc : (fun i => coe ((sortsP (lp.ins.map (·.2))).getD i .any) (fl.getD i undef)) = fun i => fl.getD i undef := by
    funext i
    exact coe_id (all2_get hhas i)
  refine wp_loop_rounds _ (key ((vint (lp.mu.den (fun i => fl.getD i undef) φ) + 1).toNat + 1) fl a w hsz hdf (fun _ _ => rfl) (Below.refl _ _) hr hpre' (fun q hq => ?_) (by omega) ?_)
  · have h1 := List.all_eq_true.1 hals0 q hq
    rw [Bool.and_eq_true, Bool.and_eq_true] at h1
    rw [(noApp_den _ φ φ' q.2 h1.1.2).1]
    exact hals q hq
  rw [hφ]
  unfold lpF
  rw [hρc]

theorem exitE_lt {n : Nat} {cx : Cx} {L : LK} {x : XX} : ∀ {es : List (XX × List (Nat × RK))} {k m a : Nat} {l : List E}, exitE n cx L x k es = some (m, a, l) → m < k + es.length
  | [], _, _, _, _, h => by simp [exitE] at h
  | (y, os) :: es, k, m, a, l, h => by
    simp only [exitE] at h
    split at h
    · simp only [Option.map_eq_some_iff, Prod.mk.injEq] at h
      obtain ⟨l', hl, rfl, rfl, rfl⟩ := h
      simp
    · simp only [Option.map_eq_some_iff] at h
      obtain ⟨⟨r1, r2, r3⟩, hr, h⟩ := h
      simp only [Prod.mk.injEq] at h
      obtain ⟨rfl, rfl, rfl⟩ := h
      have := exitE_lt hr
      simp only [List.length_cons]
      omega

/-- Whatever comes in, what a loop gives is of its sorts. -/
theorem lpF_has {P : Program} {ct : List Sig} {sy : List (Nat × List So)} {φ : Nat → List Value → List Value} (hfit : ∀ f j args, (symS sy f j).has ((φ f args).getD j undef)) {lp : Lp} {ws : List Nat} {T : Tree} {N : Nat} (hok : lpOk N ws lp = true)
    (hT : T.lok (sortsP (lp.ins.map (·.2))).length (lpCx P ct sy lp) lp ws = true) (fl : List Value) : All2 So.has lp.sorts (lpF lp (lpCx P ct sy lp) (sortsP (lp.ins.map (·.2))).length ws T φ fl) := by
  unfold lpOk at hok
  simp only [Bool.and_eq_true] at hok
  have hlen := Nat.le_of_ble_eq_true hok.2
  have bad : All2 So.has lp.sorts (.int .i64 (-1) :: dfl (lp.exits.flatMap fun e => outSorts e.2)) := ⟨⟨_, rfl, by decide, by decide⟩, dfl_has _⟩
  have key : ∀ (m : Nat) (fl : List Value), All2 So.has lp.sorts (lpItr lp (lpCx P ct sy lp) (sortsP (lp.ins.map (·.2))).length ws T φ m fl) := by
    intro m
    induction m with
    | zero => intro fl; exact bad
    | succ m ih =>
      intro fl
      obtain ⟨ρ2, hρ2⟩ : ∃ ρ2 : Nat → Value, ρ2 = fun i => coe ((sortsP (lp.ins.map (·.2)) ++ exS (lp.ins.map (·.2))).getD i .any) (fl.getD i undef) := ⟨_, rfl⟩
      have hagree : ∀ i, i < (sortsP (lp.ins.map (·.2))).length → ρ2 i = (fun i => coe ((sortsP (lp.ins.map (·.2))).getD i .any) (fl.getD i undef)) i := by
        intro i hi
        rw [hρ2]
        simp only
        rw [List.getD_eq_getElem?_getD (l := sortsP (lp.ins.map (·.2)) ++ _), List.getElem?_append_left hi, List.getD_eq_getElem?_getD (l := sortsP (lp.ins.map (·.2)))]
      have F : Fits (lpCx P ct sy lp).Γ (lpCx P ct sy lp).S ρ2 φ := ⟨fun i => by rw [hρ2]; exact coe_has _ _, hfit⟩
      obtain ⟨x, σ, hrun, hleaf⟩ := lok_run ρ2 φ hT
      rw [run_lt hagree hT] at hrun
      have other : (∃ k a b, exitE (sortsP (lp.ins.map (·.2))).length (lpCx P ct sy lp) σ.L x 0 lp.exits = some (k, a, b)) → x ≠ .normal → All2 So.has lp.sorts (lpItr lp (lpCx P ct sy lp) (sortsP (lp.ins.map (·.2))).length ws T φ (m + 1) fl) := by
        rintro ⟨k, off, es, he⟩ hne
        obtain ⟨os, h1, h2, _, pre, post, h4, h5⟩ := exitE_spec (j := 1) he
        have hk := exitE_lt he
        have hh := outsE_has F h2
        rw [outsE_lt (φ := φ) hagree h2] at hh
        have hol : (outSorts os).length = es.length := by
          have := hh.length
          simpa using this
        have hres : All2 So.has lp.sorts (.int .i64 (Int.ofNat k) :: (dfl (((lp.exits.flatMap fun e => outSorts e.2)).take off) ++ es.map (·.den (fun i => coe ((sortsP (lp.ins.map (·.2))).getD i .any) (fl.getD i undef)) φ) ++ dfl (((lp.exits.flatMap fun e => outSorts e.2)).drop (off + es.length)))) := by
          refine ⟨⟨_, rfl, ?_, ?_⟩, ?_⟩
          · have : (0 : Int) ≤ Int.ofNat k := Int.natCast_nonneg k
            simp only [lowOf]
            omega
          · have hk' : k ≤ 1000 := by omega
            show (k : Int) ≤ _
            simp only [highOf]
            omega
          · rw [h4]
            have e1 : (pre ++ outSorts os ++ post).take off = pre := by
              rw [List.append_assoc, List.take_append_of_le_length (by omega), ← h5, List.take_length]
            have e2 : (pre ++ outSorts os ++ post).drop (off + es.length) = post := by
              rw [← hol, ← h5, ← List.length_append, List.drop_left]
            rw [e1, e2]
            exact All2.append (All2.append (dfl_has pre) hh) (dfl_has post)
        simp only [lpItr, lpStep, hrun]
        cases x with
        | normal => exact absurd rfl hne
        | exit i => simp only [he]; exact hres
        | ret => simp only [he]; exact hres
      cases x with
      | normal =>
        simp only [leafOk] at hleaf
        split at hleaf
        · rename_i es hes
          simp only [lpItr, lpStep, hrun, hes]
          exact ih _
        · exact absurd hleaf (by simp)
      | exit i =>
        simp only [leafOk] at hleaf
        split at hleaf
        · rename_i r hr'
          exact other ⟨r.1, r.2.1, r.2.2, hr'⟩ (by simp)
        · exact absurd hleaf (by simp)
      | ret =>
        simp only [leafOk] at hleaf
        split at hleaf
        · rename_i r hr'
          exact other ⟨r.1, r.2.1, r.2.2, hr'⟩ (by simp)
        · exact absurd hleaf (by simp)
  exact key _ fl
end Go.SX
