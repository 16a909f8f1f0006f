/- CX: what a register holds behind writes at numbers that are no literals: the last one to it, if the facts tell which. -/
import Derived.Test.YthcncbbnjbhdkaaGreatDoorCXiz
import Derived.Test.YthcncbbnjbhdkaaGreatDoorCXlw
namespace Go.CX.Cp
open Go Go.RowKit Go.SX Go.CX

def isC (r v : E) (k : Nat) : E → Option E
  | .ite (.cmp .eql q (.int .i64 (.ofNat j))) u old => if Nat.beq j k && (q.eqv r && u.eqv v) then some old else none
  | _ => none
/-- All cells begin with the same case of a number: what they are else. -/
def olds (r v : E) : Nat → List E → Option (List E)
  | _, [] => some []
  | k, c :: cs => match isC r v k c with
    | some o => (match olds r v (k + 1) cs with
      | some os => some (o :: os)
      | none => none)
    | none => none
def headI : List E → Option (E × E)
  | .ite (.cmp .eql r _) v _ :: _ => some (r, v)
  | _ => none
def apartE (cx : Cx) (fs : Facts) (q r : E) : Bool := (dec cx fs (.cmp .eql q r) == some false) || (dec cx fs (.cmp .eql r q) == some false) || (match q with
  | .int .i64 (.ofNat n) => dec cx fs (ixLt r n) == some true
  | _ => false)
def chainE (cx : Cx) (fs : Facts) (r : E) : Nat → List E → Option E
  | 0, _ => none
  | m + 1, cs => match headI cs with
    | some (q, v) => (match olds q v 0 cs with
      | some os => if q.eqv r then some v else if apartE cx fs q r then chainE cx fs r m os else none
      | none => none)
    | none => none
/-- A register of 31, read. -/
def readE (cx : Cx) (fs : Facts) (es : List E) : Option E := match es[43]? with
  | some r => if (cx.so r == .int .i64) && Nat.beq es.length 44 then (if dec cx fs (ixLt r 31) == some false then some (.int .u64 0) else if (dec cx fs (ixLt r 31) == some true) && (dec cx fs (ixLt r 0) == some false) then chainE cx fs r 40 (es.take 31) else none) else none
  | none => none
def getC (cx : Cx) (f : FuncId) : ExtT := fun g args B n fs => match smX cx (rgetM f) g args B n fs with
  | some (.ok d) => (match flatC cx (rgetM f).ps args with
    | some es => (match readE cx fs es with
      | some t => some (.ok ⟨.one ⟨false, [.e t]⟩, d.dl, d.next⟩)
      | none => some (.ok d))
    | none => some (.ok d))
  | o => o
section
variable {ρ : Nat → Value} {φ : Nat → List Value → List Value} {cx : Cx}
theorem isC_ok {r v c o : E} {k : Nat} (h : isC r v k c = some o) : c.den ρ φ = if vint (r.den ρ φ) = (k : Int) then v.den ρ φ else o.den ρ φ := by
  unfold isC at h
  split at h
  · rename_i q j u old
    split at h
    · rename_i hc
      simp only [Option.some.injEq] at h
      subst h
      simp only [Bool.and_eq_true] at hc
      obtain ⟨h1, h2, h3⟩ := hc
      have h1 := Nat.eq_of_beq_eq_true h1
      subst h1
      rw [E.eqv_eq h2, E.eqv_eq h3]
      show (if vbool (Value.bool (vint (r.den ρ φ) == Int.ofNat j)) then v.den ρ φ else old.den ρ φ) = _
      show (if (vint (r.den ρ φ) == Int.ofNat j) = true then v.den ρ φ else old.den ρ φ) = _
      by_cases e : vint (r.den ρ φ) = (j : Int)
      · rw [if_pos e, if_pos (by rw [e]; simp)]
      · rw [if_neg e, if_neg (by simpa using e)]
    · cases h
  · cases h
theorem olds_ok {r v : E} : ∀ {cs os : List E} {k : Nat}, olds r v k cs = some os → ∀ (i : Nat) (c : E), cs[i]? = some c → ∃ o, os[i]? = some o ∧ c.den ρ φ = if vint (r.den ρ φ) = ((k + i : Nat) : Int) then v.den ρ φ else o.den ρ φ
  | [], _, _, _, i, c, hc => by simp at hc
  | d :: cs, os, k, h, i, c, hc => by
    unfold olds at h
    split at h
    · rename_i o ho
      split at h
      · rename_i os' hos
        simp only [Option.some.injEq] at h
        subst h
        cases i with
        | zero =>
          simp only [List.getElem?_cons_zero, Option.some.injEq] at hc
          subst hc
          exact ⟨o, by simp, isC_ok ho⟩
        | succ i =>
          simp only [List.getElem?_cons_succ] at hc
          obtain ⟨o', h1, h2⟩ := olds_ok hos i c hc
          refine ⟨o', by simpa using h1, ?_⟩
          rw [h2, show k + 1 + i = k + (i + 1) by omega]
      · cases h
    · cases h
theorem apartE_ok (F : Fits cx.Γ cx.S ρ φ) {fs : Facts} (hf : fs.hold ρ φ) {q r : E} {j : Int} (hr : r.den ρ φ = .int .i64 j) (h : apartE cx fs q r = true) : vint (q.den ρ φ) ≠ j := by
  unfold apartE at h
  rw [Bool.or_eq_true, Bool.or_eq_true] at h
  rcases h with (h | h) | h
  · have := dec_sound F hf (eq_of_beq h)
    have : Value.bool (vint (q.den ρ φ) == vint (r.den ρ φ)) = .bool false := this
    rw [hr] at this
    have := Value.bool.inj this
    intro e
    rw [e] at this
    simp [vint] at this
  · have := dec_sound F hf (eq_of_beq h)
    have : Value.bool (vint (r.den ρ φ) == vint (q.den ρ φ)) = .bool false := this
    rw [hr] at this
    have := Value.bool.inj this
    intro e
    rw [e] at this
    simp [vint] at this
  · split at h
    · rename_i n
      have := dec_lt F hf hr (eq_of_beq h)
      have := of_decide_eq_true this
      show Int.ofNat n ≠ j
      intro e
      have : j < (n : Int) := this
      have : Int.ofNat n = (n : Int) := rfl
      omega
    · cases h
theorem chainE_ok (F : Fits cx.Γ cx.S ρ φ) {fs : Facts} (hf : fs.hold ρ φ) {r : E} {j : Nat} (hr : r.den ρ φ = .int .i64 (j : Int)) : ∀ {m : Nat} {cs : List E} {t c : E}, chainE cx fs r m cs = some t → cs[j]? = some c → c.den ρ φ = t.den ρ φ
  | 0, _, _, _, h, _ => by simp [chainE] at h
  | m + 1, cs, t, c, h, hc => by
    unfold chainE at h
    split at h
    · rename_i q v _
      split at h
      · rename_i os hos
        obtain ⟨o, h1, h2⟩ := olds_ok (ρ := ρ) (φ := φ) hos j c hc
        rw [Nat.zero_add] at h2
        split at h
        · rename_i hq
          simp only [Option.some.injEq] at h
          subst h
          rw [h2, E.eqv_eq hq, hr]
          exact if_pos rfl
        · split at h
          · rename_i ha
            rw [h2, if_neg (apartE_ok F hf hr ha)]
            exact chainE_ok F hf hr h h1
          · cases h
      · cases h
    · cases h
theorem balT_den {x : E} {f : Nat → E} {j : Nat} (hx : x.den ρ φ = .int .i64 (j : Int)) : ∀ (m lo n : Nat), lo ≤ j → j < lo + n → n ≤ 2 ^ m → (balT x f m lo n).den ρ φ = (f j).den ρ φ
  | 0, lo, n, h1, h2, h3 => by
    have : lo = j := by simp at h3; omega
    subst this; rfl
  | m + 1, lo, n, h1, h2, h3 => by
    unfold balT
    split
    · rename_i hn
      have hn := Nat.eq_of_beq_eq_true hn
      have : lo = j := by omega
      subst this; rfl
    · have hp : 2 ^ (m + 1) = 2 * 2 ^ m := by rw [Nat.pow_succ]; omega
      show (if vbool ((ixLt x (lo + n / 2)).den ρ φ) then _ else _) = _
      rw [ixLt_den hx]
      show (if decide ((j : Int) < ((lo + n / 2 : Nat) : Int)) = true then _ else _) = _
      by_cases e : j < lo + n / 2
      · rw [if_pos (decide_eq_true (by omega))]
        exact balT_den hx m lo (n / 2) h1 e (by omega)
      · rw [if_neg (by rw [decide_eq_false (by omega)]; simp)]
        exact balT_den hx m (lo + n / 2) (n - n / 2) (by omega) (by omega) (by omega)
theorem tabT_in {x : E} {f : Nat → E} {j N : Nat} {d : E} (hx : x.den ρ φ = .int .i64 (j : Int)) (hj : j < N) : (tabT x f N d).den ρ φ = (f j).den ρ φ := by
  unfold tabT
  show (if vbool ((ixLt x 0).den ρ φ) then _ else if vbool ((ixLt x N).den ρ φ) then _ else _) = _
  rw [ixLt_den hx, ixLt_den hx]
  show (if decide ((j : Int) < ((0 : Nat) : Int)) = true then _ else if decide ((j : Int) < (N : Int)) = true then _ else _) = _
  rw [if_neg (by rw [decide_eq_false (by omega)]; simp), if_pos (decide_eq_true (by omega))]
  exact balT_den hx N 0 N (by omega) (by omega) (Nat.le_of_lt Nat.lt_two_pow_self)
theorem tabT_out {x : E} {f : Nat → E} {N : Nat} {j : Int} {d : E} (hx : x.den ρ φ = .int .i64 j) (hj : (N : Int) ≤ j) : (tabT x f N d).den ρ φ = d.den ρ φ := by
  unfold tabT
  show (if vbool ((ixLt x 0).den ρ φ) then _ else if vbool ((ixLt x N).den ρ φ) then _ else _) = _
  rw [ixLt_den hx, ixLt_den hx]
  show (if decide (j < ((0 : Nat) : Int)) = true then _ else if decide (j < (N : Int)) = true then _ else _) = _
  rw [if_neg (by rw [decide_eq_false (by omega)]; simp), if_neg (by rw [decide_eq_false (by omega)]; simp)]
theorem sb_bal {σ : List E} {x : E} {f : Nat → E} : ∀ (m lo n : Nat), sbE σ (balT x f m lo n) = balT (sbE σ x) (fun k => sbE σ (f k)) m lo n
  | 0, lo, n => rfl
  | m + 1, lo, n => by
    unfold balT
    split
    · rfl
    · simp only [sbE, ixLt, sb_bal m]
theorem sb_tab {σ : List E} {x d : E} {f : Nat → E} {N : Nat} : sbE σ (tabT x f N d) = tabT (sbE σ x) (fun k => sbE σ (f k)) N (sbE σ d) := by
  unfold tabT
  simp only [sbE, ixLt, sb_bal]
theorem getC_ok {f : FuncId} {ws : Base} (h0 : ExtOk ws cx φ (smX cx (rgetM f))) : ExtOk ws cx φ (getC cx f) := by
  intro g svs B n fs d hd ρ β w xs N F hf hW hn ha
  unfold getC at hd
  split at hd
  · rename_i d0 hd0
    have base := h0 g svs B n fs d0 hd0 ρ β w xs N F hf hW
    split at hd
    · rename_i es hes
      split at hd
      · rename_i t ht
        simp only [Option.some.injEq, OR.ok.injEq] at hd
        subst hd
        obtain ⟨b1, b2⟩ := base hn ha
        refine ⟨b1, b2.mono ?_⟩
        rintro e w' ⟨x, β', rfl, hE, hN, hW', hx⟩
        refine ⟨x, β', rfl, hE, hN, hW', ?_⟩
        have hv : d0.v = sbV es (rgetM f) := by
          unfold smX at hd0
          split at hd0
          · split at hd0
            · split at hd0
              · rename_i es' hes'
                rw [hes] at hes'
                simp only [Option.some.injEq] at hes'
                subst hes'
                split at hd0
                · simp only [Option.some.injEq, OR.ok.injEq] at hd0
                  rw [← hd0]
                · cases hd0
              · cases hd0
            · rename_i hrow
              exact absurd rfl hrow
          · cases hd0
        rw [hv] at hx
        have hx : x = (sbE es (getT (.var 43))).den ρ φ := hx
        show x = t.den ρ φ
        rw [hx]
        unfold getT
        rw [sb_tab]
        unfold readE at ht
        split at ht
        · rename_i r hr
          split at ht
          · rename_i hc
            rw [Bool.and_eq_true] at hc
            obtain ⟨j, hj, _⟩ := so_num F (eq_of_beq hc.1)
            have hlen := Nat.eq_of_beq_eq_true hc.2
            have hsr : sbE es (.var 43) = r := by
              show es.getD 43 (.var 43) = r
              rw [List.getD_eq_getElem?_getD, hr]; rfl
            rw [hsr]
            split at ht
            · rename_i hlt
              simp only [Option.some.injEq] at ht
              subst ht
              have := of_decide_eq_false (dec_lt F hf hj (eq_of_beq hlt))
              rw [tabT_out hj (by omega)]
              rfl
            · split at ht
              · rename_i hin
                rw [Bool.and_eq_true] at hin
                have h1 := of_decide_eq_true (dec_lt F hf hj (eq_of_beq hin.1))
                have h2 := of_decide_eq_false (dec_lt F hf hj (eq_of_beq hin.2))
                obtain ⟨i, rfl⟩ := Int.eq_ofNat_of_zero_le (show 0 ≤ j by omega)
                have hi : i < 31 := by omega
                rw [tabT_in hj hi]
                have hc : (es.take 31)[i]? = some (es.getD i (.var i)) := by
                  rw [List.getElem?_take, if_pos hi, List.getD_eq_getElem?_getD, List.getElem?_eq_getElem (by omega)]
                  rfl
                exact chainE_ok F hf hj ht hc
              · cases ht
          · cases ht
        · cases ht
      · simp only [Option.some.injEq, OR.ok.injEq] at hd
        subst hd
        exact base hn ha
    · simp only [Option.some.injEq, OR.ok.injEq] at hd
      subst hd
      exact base hn ha
  · rename_i hno
    exact absurd hd (by
      intro hd
      exact hno _ hd)
end
end Go.CX.Cp

/- CX: a call at arguments of a form: run once with variables for what the form leaves open, put in at every call; registers that it reads are read there. -/
namespace Go.CX.Cp
open Go Go.RowKit Go.SX Go.CX

/-- A form: its literal cells, what is asked of the others, registers that are read (variables behind the cells), what the call answers. -/
structure Pt where
  f : FuncId
  ps : List (Bool × List So)
  pat : List (Option E)
  conds : Facts
  rds : List E
  tp : Bool
  v : List (Bool × List E)
def patE (pat : List (Option E)) (i : Nat) : E := match pat[i]? with
  | some (some e) => e
  | _ => .var i
def argsP (pat : List (Option E)) : Nat → List (Bool × List So) → List SV
  | _, [] => []
  | o, (a, ss) :: ps => .one ⟨a, (List.range' o ss.length).map fun i => .e (patE pat i)⟩ :: argsP pat (o + ss.length) ps
def litE : E → Bool
  | .int _ _ => true
  | .bool _ => true
  | _ => false
def patOk : List (Option E) → List E → Bool
  | [], _ => true
  | none :: ps, _ :: es => patOk ps es
  | some p :: ps, e :: es => litE p && (p.eqv e && patOk ps es)
  | _ :: _, [] => false
def getQ (r : E) : E := tabT r .var 31 (.int .u64 0)
def numP (p : Pt) : Nat := (sosOf p.ps).length
def sig0 (p : Pt) : List E := varsE 0 (numP p) ++ p.rds.map getQ
def smP (p : Pt) : Sm := ⟨p.f, [], p.ps, p.tp, p.v, none⟩
def smQ (p : Pt) : Sm := ⟨p.f, [], p.ps, p.tp, p.v.map fun q => (q.1, q.2.map (sbE (sig0 p))), none⟩
def ptR (P : Program) (sy : List (Nat × List So)) (p : Pt) (ext : ExtT) (n D k : Nat) : Bool := endsC (cxS P sy (smP p)) ext n D p.f (argsP p.pat 0 p.ps) k p.conds fun _ sv => eqV (cxS P sy (smP p)) (smQ p) sv
def readsP (cx : Cx) (fs : Facts) (es : List E) (rds : List E) : List E := rds.map fun r => (readE cx fs (es.take 43 ++ [sbE es r])).getD (sbE es (getQ r))
def ptX (cx : Cx) (p : Pt) : ExtT := fun g args _ n fs => if Nat.beq g p.f then (match flatC cx p.ps args with
  | some es => if es.all notCons && (patOk p.pat es && p.conds.all fun c => decK cx fs (sbE es c.1) == some c.2) then
      (match es ++ readsP cx fs es p.rds with
      | σ => if σ.all notCons then some (.ok ⟨sbV σ (smP p), [], n⟩) else none) else none
  | none => none) else none

section
variable {ρ : Nat → Value} {φ : Nat → List Value → List Value} {cx : Cx}
theorem balT_congr {x : E} {f g : Nat → E} : ∀ (m lo n : Nat), (∀ k, lo ≤ k → k < lo + n → f k = g k) → 1 ≤ n → n ≤ 2 ^ m → balT x f m lo n = balT x g m lo n
  | 0, lo, n, h, h1, h2 => by
    have : n = 1 := by simp at h2; omega
    subst this
    exact h lo (Nat.le_refl _) (by omega)
  | m + 1, lo, n, h, h1, h2 => by
    have hp : 2 ^ (m + 1) = 2 * 2 ^ m := by rw [Nat.pow_succ]; omega
    unfold balT
    split
    · rename_i hn
      have hn := Nat.eq_of_beq_eq_true hn
      exact h lo (Nat.le_refl _) (by omega)
    · rename_i hn
      have hn : n ≠ 1 := fun e => hn (by rw [e]; rfl)
      rw [balT_congr m lo (n / 2) (fun k a b => h k a (by omega)) (by omega) (by omega), balT_congr m (lo + n / 2) (n - n / 2) (fun k a b => h k (by omega) (by omega)) (by omega) (by omega)]
theorem tabT_congr {x d : E} {f g : Nat → E} {N : Nat} (hN : 1 ≤ N) (h : ∀ k, k < N → f k = g k) : tabT x f N d = tabT x g N d := by
  unfold tabT
  rw [balT_congr N 0 N (fun k _ b => h k (by omega)) hN (Nat.le_of_lt Nat.lt_two_pow_self)]
theorem readE_ok (F : Fits cx.Γ cx.S ρ φ) {fs : Facts} (hf : fs.hold ρ φ) {es : List E} {t r : E} (hr : es[43]? = some r) (ht : readE cx fs es = some t) : t.den ρ φ = (tabT r (fun k => es.getD k (.var k)) 31 (.int .u64 0)).den ρ φ := by
  unfold readE at ht
  rw [hr] at ht
  simp only at ht
  split at ht
  · rename_i hc
    rw [Bool.and_eq_true] at hc
    obtain ⟨j, hj, _⟩ := so_num F (eq_of_beq hc.1)
    have hlen := Nat.eq_of_beq_eq_true hc.2
    split at ht
    · rename_i hlt
      simp only [Option.some.injEq] at ht
      subst ht
      have := of_decide_eq_false (dec_lt F hf hj (eq_of_beq hlt))
      rw [tabT_out hj (by omega)]
    · split at ht
      · rename_i hin
        rw [Bool.and_eq_true] at hin
        have h1 := of_decide_eq_true (dec_lt F hf hj (eq_of_beq hin.1))
        have h2 := of_decide_eq_false (dec_lt F hf hj (eq_of_beq hin.2))
        obtain ⟨i, rfl⟩ := Int.eq_ofNat_of_zero_le (show 0 ≤ j by omega)
        have hi : i < 31 := by omega
        rw [tabT_in hj hi]
        have hc : (es.take 31)[i]? = some (es.getD i (.var i)) := by
          rw [List.getElem?_take, if_pos hi, List.getD_eq_getElem?_getD, List.getElem?_eq_getElem (by omega)]
          rfl
        exact (chainE_ok F hf hj ht hc).symm
      · cases ht
  · cases ht
theorem litE_den {e : E} (h : litE e = true) (ρ' : Nat → Value) : e.den ρ' φ = e.den ρ φ := by
  cases e <;> first | rfl | cases h
theorem patOk_at : ∀ {pat : List (Option E)} {es : List E}, patOk pat es = true → ∀ (i : Nat) (p : E), pat[i]? = some (some p) → litE p = true ∧ es[i]? = some p
  | [], _, _, i, p, h => by simp at h
  | none :: ps, _ :: es, h, i, p, hp => by
    cases i with
    | zero => simp at hp
    | succ i =>
      simp only [List.getElem?_cons_succ] at hp ⊢
      exact patOk_at (by simpa [patOk] using h) i p hp
  | some q :: ps, e :: es, h, i, p, hp => by
    simp only [patOk, Bool.and_eq_true] at h
    cases i with
    | zero =>
      simp only [List.getElem?_cons_zero, Option.some.injEq] at hp ⊢
      subst hp
      exact ⟨h.1, (E.eqv_eq h.2.1).symm⟩
    | succ i =>
      simp only [List.getElem?_cons_succ] at hp ⊢
      exact patOk_at h.2.2 i p hp
  | none :: _, [], h, _, _, _ => by simp [patOk] at h
  | some _ :: _, [], h, _, _, _ => by simp [patOk] at h
theorem all2_map {β : Bk} {A B : Nat → E} {ρ' : Nat → Value} (h : ∀ i, (A i).den ρ' φ = (B i).den ρ' φ) : ∀ {l : List Nat} {vs : List Value}, All2 (SC.is ρ' φ β) (l.map fun i => SC.e (A i)) vs → All2 (SC.is ρ' φ β) (l.map fun i => SC.e (B i)) vs
  | [], [], _ => trivial
  | [], _ :: _, hx => hx.elim
  | _ :: _, [], hx => hx.elim
  | i :: l, v :: vs, hx => by
    refine ⟨?_, all2_map h hx.2⟩
    have h1 : v = (A i).den ρ' φ := hx.1
    show v = (B i).den ρ' φ
    rw [h1, h i]
theorem argsP_is {β : Bk} {pat : List (Option E)} {ρ' : Nat → Value} (h : ∀ i, (E.var i).den ρ' φ = (patE pat i).den ρ' φ) : ∀ {ps : List (Bool × List So)} {o : Nat} {xs : List Value}, All2 (SV.is ρ' φ β) (argsS o ps) xs → All2 (SV.is ρ' φ β) (argsP pat o ps) xs
  | [], _, [], _ => trivial
  | [], _, _ :: _, hx => hx.elim
  | (a, ss) :: ps, o, [], hx => hx.elim
  | (a, ss) :: ps, o, x :: xs, hx => by
    refine ⟨?_, argsP_is h hx.2⟩
    have hx1 : (SV.one ⟨a, (varsE o ss.length).map .e⟩).is ρ' φ β x := hx.1
    have hm : (varsE o ss.length).map SC.e = (List.range' o ss.length).map fun i => SC.e (.var i) := by
      unfold varsE
      rw [List.map_map]
      rfl
    rw [hm] at hx1
    cases a with
    | true =>
      obtain ⟨vs, h1, h2⟩ := hx1
      exact ⟨vs, h1, all2_map h h2⟩
    | false =>
      match ss, hx1 with
      | [], hx1 => exact hx1.elim
      | [s], hx1 =>
        have h1 : x = (E.var o).den ρ' φ := hx1
        show x = (patE pat o).den ρ' φ
        rw [h1, h o]
      | _ :: _ :: _, hx1 => exact hx1.elim
theorem part_same {β : Bk} {A B : E → E} (h : ∀ t, (A t).den ρ φ = (B t).den ρ φ) {a : Bool} {us : List E} {x : Value} (hx : (Part.mk a (us.map fun t => SC.e (A t))).is ρ φ β x) : (Part.mk a (us.map fun t => SC.e (B t))).is ρ φ β x := by
  have all : ∀ {us : List E} {vs : List Value}, All2 (SC.is ρ φ β) (us.map fun t => SC.e (A t)) vs → All2 (SC.is ρ φ β) (us.map fun t => SC.e (B t)) vs := by
    intro us
    induction us with
    | nil => intro vs h; exact h
    | cons u us ih =>
      intro vs hx
      cases vs with
      | nil => exact hx.elim
      | cons v vs =>
        refine ⟨?_, ih hx.2⟩
        have h1 : v = (A u).den ρ φ := hx.1
        show v = (B u).den ρ φ
        rw [h1, h u]
  cases a with
  | true =>
    obtain ⟨vs, h1, h2⟩ := hx
    exact ⟨vs, h1, all h2⟩
  | false =>
    match us, hx with
    | [], hx => exact hx.elim
    | [u], hx =>
      have h1 : x = (A u).den ρ φ := hx
      show x = (B u).den ρ φ
      rw [h1, h u]
    | _ :: _ :: _, hx => exact hx.elim
theorem sbV_same {β : Bk} {p : Pt} {σ τ : List E} (h : ∀ t, (sbE σ (sbE (sig0 p) t)).den ρ φ = (sbE τ t).den ρ φ) {x : Value} (hx : (sbV σ (smQ p)).is ρ φ β x) : (sbV τ (smP p)).is ρ φ β x := by
  have one : ∀ {q : Bool × List E} {x : Value}, (sbP σ (q.1, q.2.map (sbE (sig0 p)))).is ρ φ β x → (sbP τ q).is ρ φ β x := by
    intro q x hx
    unfold sbP sbCs at hx ⊢
    rw [List.map_map] at hx
    exact part_same (A := fun t => sbE σ (sbE (sig0 p) t)) (B := fun t => sbE τ t) h hx
  have all : ∀ {qs : List (Bool × List E)} {vs : List Value}, All2 (Part.is ρ φ β) ((qs.map fun q => (q.1, q.2.map (sbE (sig0 p)))).map (sbP σ)) vs → All2 (Part.is ρ φ β) (qs.map (sbP τ)) vs := by
    intro qs
    induction qs with
    | nil => intro vs h; exact h
    | cons q qs ih =>
      intro vs hx
      cases vs with
      | nil => exact hx.elim
      | cons v vs => exact ⟨one hx.1, ih hx.2⟩
  unfold sbV smQ at hx
  unfold sbV smP
  simp only at hx ⊢
  cases htp : p.tp with
  | true =>
    rw [htp] at hx
    obtain ⟨vs, h1, h2⟩ := hx
    exact ⟨vs, h1, all h2⟩
  | false =>
    rw [htp] at hx
    cases hv : p.v with
    | nil =>
      rw [hv] at hx
      exact hx
    | cons q qs =>
      rw [hv] at hx
      exact one hx
theorem range_getD (n i : Nat) (l : List E) : (varsE 0 n ++ l).getD i (.var i) = if i < n then .var i else l.getD (i - n) (.var i) := by
  unfold varsE
  rw [List.getD_eq_getElem?_getD]
  by_cases h : i < n
  · rw [if_pos h, List.getElem?_append_left (by simpa using h), List.getElem?_map, List.getElem?_range' h]
    simp
  · rw [if_neg h, List.getElem?_append_right (by simpa using Nat.le_of_not_lt h), List.getD_eq_getElem?_getD]
    simp
theorem ptX_ok {ws : Base} {p : Pt} {ext : ExtT} {n D k : Nat} (hname : ∀ (f : FuncId) (fn : Func), cx.P.funcs[f]? = some fn → (fn.name == "runtime.NumGoroutine") = false) (hin : Enters cx.P p.f)
    (hext : ∀ w : World, ExtOk ⟨w, []⟩ (cxS cx.P cx.sy (smP p)) φ ext) (h : ptR cx.P cx.sy p ext n D k = true) : ExtOk ws cx φ (ptX cx p) := by
  intro g svs B n0 fs d hd ρ β w xs N F hf hW hn ha
  unfold ptX at hd
  split at hd
  · rename_i he
    have he := Nat.eq_of_beq_eq_true he
    subst he
    split at hd
    · rename_i es hes
      split at hd
      · rename_i hc
        simp only [Bool.and_eq_true] at hc
        obtain ⟨hnc, hpat, hcond⟩ := hc
        have hd : (if (es ++ readsP cx fs es p.rds).all notCons then some (OR.ok ⟨sbV (es ++ readsP cx fs es p.rds) (smP p), [], n0⟩) else none) = some (.ok d) := hd
        split at hd
        · rename_i hncσ
          simp only [Option.some.injEq, OR.ok.injEq] at hd
          obtain ⟨a1, a2⟩ := argsS_is (β' := fun _ => none) (cs := []) (rest := []) F hes ha rfl
          rw [List.nil_append, List.append_nil] at a1
          have hlen : (sosOf p.ps).length = es.length := by have := a2.length; simpa using this
          have F' : Fits (cxS cx.P cx.sy (smP p)).Γ (cxS cx.P cx.sy (smP p)).S (rhoS es ρ φ) φ := fits_of rfl F a2
          have hpt : ∀ i, (E.var i).den (rhoS es ρ φ) φ = (patE p.pat i).den (rhoS es ρ φ) φ := by
            intro i
            unfold patE
            split
            · rename_i q hq
              obtain ⟨h1, h2⟩ := patOk_at hpat i q hq
              rw [litE_den (ρ := ρ) h1]
              show (es.getD i (.var i)).den ρ φ = _
              rw [List.getD_eq_getElem?_getD, h2]
              rfl
            · rfl
          have hargs := argsP_is hpt a1
          have hconds : Facts.hold (rhoS es ρ φ) φ p.conds := by
            intro c hcm
            have := List.all_eq_true.1 hcond c hcm
            rw [← (sbE_den hnc c.1).1]
            exact decK_sound F hf (eq_of_beq this)
          unfold ptR at h
          obtain ⟨v, fs', h1, h2, h3⟩ := endsC_ok (cx := cxS cx.P cx.sy (smP p)) rfl hname F' hconds hargs h
          refine ⟨hin _ _, (h3 w (fun v hv => by simp [cxS] at hv) (hext w)).mono ?_⟩
          rintro e w' ⟨x, β', rfl, hx, hb⟩
          subst hd
          refine ⟨x, β, rfl, Ext.refl _, Newer.refl _ _ _, hW.grow hb, ?_⟩
          have hq := eqV_is rfl hnc F' (β := β) h2 hx
          refine sbV_same ?_ hq
          intro t
          have hn0 : (sig0 p).all notCons = true := by
            unfold sig0 varsE
            rw [List.all_append, Bool.and_eq_true]
            constructor
            · rw [List.all_eq_true]; intro e he
              obtain ⟨i, _, rfl⟩ := List.mem_map.1 he
              rfl
            · rw [List.all_eq_true]; intro e he
              obtain ⟨i, _, rfl⟩ := List.mem_map.1 he
              rfl
          rw [(sbE_den hnc _).1, (sbE_den hn0 _).1, (sbE_den hncσ _).1]
          congr 1
          funext i
          show ((sig0 p).getD i (.var i)).den (rhoS es ρ φ) φ = ((es ++ readsP cx fs es p.rds).getD i (.var i)).den ρ φ
          unfold sig0 numP
          rw [range_getD, hlen]
          by_cases hi : i < es.length
          · rw [if_pos hi]
            show (es.getD i (.var i)).den ρ φ = _
            rw [List.getD_eq_getElem?_getD, List.getD_eq_getElem?_getD, List.getElem?_append_left hi]
          · rw [if_neg hi, List.getD_eq_getElem?_getD (l := es ++ _), List.getElem?_append_right (by omega)]
            unfold readsP
            rw [List.getD_eq_getElem?_getD, List.getElem?_map, List.getElem?_map]
            cases hr : p.rds[i - es.length]? with
            | none =>
              show (E.var i).den (rhoS es ρ φ) φ = (E.var i).den ρ φ
              show (es.getD i (.var i)).den ρ φ = _
              rw [List.getD_eq_getElem?_getD, List.getElem?_eq_none (by omega)]
              rfl
            | some r =>
              show (getQ r).den (rhoS es ρ φ) φ = ((readE cx fs (es.take 43 ++ [sbE es r])).getD (sbE es (getQ r))).den ρ φ
              rw [← (sbE_den hnc (getQ r)).1]
              cases hre : readE cx fs (es.take 43 ++ [sbE es r]) with
              | none => rfl
              | some u =>
                show _ = u.den ρ φ
                by_cases h43 : 43 ≤ es.length
                · have hat : (es.take 43 ++ [sbE es r])[43]? = some (sbE es r) := by
                    rw [List.getElem?_append_right (by rw [List.length_take]; omega), List.length_take]
                    simp [Nat.min_eq_left h43]
                  rw [readE_ok F hf hat hre]
                  unfold getQ
                  rw [sb_tab]
                  refine congrArg (fun e : E => e.den ρ φ) ?_
                  show tabT (sbE es r) (fun k => sbE es (.var k)) 31 (.int .u64 0) = _
                  refine tabT_congr (by decide) fun k hk => ?_
                  show es.getD k (.var k) = _
                  rw [List.getD_eq_getElem?_getD, List.getD_eq_getElem?_getD, List.getElem?_append_left (by rw [List.length_take]; omega), List.getElem?_take, if_pos (by omega)]
                · exfalso
                  have hl : (es.take 43 ++ [sbE es r]).length ≠ 44 := by
                    rw [List.length_append, List.length_take]
                    simp
                    omega
                  unfold readE at hre
                  split at hre
                  · split at hre
                    · rename_i hc
                      rw [Bool.and_eq_true] at hc
                      exact hl (Nat.eq_of_beq_eq_true hc.2)
                    · cases hre
                  · cases hre
        · cases hd
      · cases hd
    · cases hd
  · cases hd
end
end Go.CX.Cp

/- CX: what a call answers, put into a shorter form: a choice behind the same choice is its first one; a term that the facts say is another one. -/
namespace Go.CX
open Go Go.RowKit Go.SX
/-- A term that the facts say is another one. -/
def sameF (a : E) : Facts → E
  | [] => a
  | (.cmp .eql x y, true) :: fs => if x.eqv a then y else sameF a fs
  | _ :: fs => sameF a fs
def dropI (c : E) : E → E
  | .ite d a b => if d.eqv c then b else .ite d a b
  | e => e
def nrmE (cx : Cx) (fs : Facts) : E → E
  | .ite c a b => .ite c (if (cx.so a == .int .u64) && (cx.so (sameF a fs) == .int .u64) then sameF a fs else a) (dropI c b)
  | e => e
def nrmC (cx : Cx) (fs : Facts) : SC → SC
  | .e e => .e (nrmE cx fs e)
  | c => c
def nrmP (cx : Cx) (fs : Facts) (p : Part) : Part := ⟨p.agg, p.cs.map (nrmC cx fs)⟩
def nrmV (cx : Cx) (fs : Facts) : SV → SV
  | .one p => .one (nrmP cx fs p)
  | .tup ps => .tup (ps.map (nrmP cx fs))
  | v => v
def nrmX (cx : Cx) (ext : ExtT) : ExtT := fun f args B n fs => match ext f args B n fs with
  | some (.ok d) => some (.ok ⟨nrmV cx fs d.v, d.dl, d.next⟩)
  | o => o
section
variable {ρ : Nat → Value} {φ : Nat → List Value → List Value} {cx : Cx}
theorem sameF_ok {a : E} : ∀ {fs : Facts}, fs.hold ρ φ → vint ((sameF a fs).den ρ φ) = vint (a.den ρ φ)
  | [], _ => rfl
  | (e, b) :: fs, hf => by
    have hr : Facts.hold ρ φ fs := fun p hp => hf p (List.mem_cons_of_mem _ hp)
    unfold sameF
    split
    · rfl
    · rename_i x y fs' heq
      simp only [List.cons.injEq, Prod.mk.injEq] at heq
      obtain ⟨⟨rfl, rfl⟩, rfl⟩ := heq
      split
      · rename_i hx
        have h := hf (.cmp .eql x y, true) List.mem_cons_self
        have h : Value.bool (vint (x.den ρ φ) == vint (y.den ρ φ)) = .bool true := h
        have h := eq_of_beq (Value.bool.inj h)
        rw [← E.eqv_eq hx]
        exact h.symm
      · exact sameF_ok hr
    · rename_i heq
      simp only [List.cons.injEq] at heq
      obtain ⟨_, rfl⟩ := heq
      exact sameF_ok hr
theorem nrmE_ok (F : Fits cx.Γ cx.S ρ φ) {fs : Facts} (hf : fs.hold ρ φ) (e : E) : (nrmE cx fs e).den ρ φ = e.den ρ φ := by
  unfold nrmE
  split
  · rename_i c a b
    have h1 : (if (cx.so a == .int .u64) && (cx.so (sameF a fs) == .int .u64) then sameF a fs else a).den ρ φ = a.den ρ φ := by
      split
      · rename_i hc
        rw [Bool.and_eq_true] at hc
        obtain ⟨n, hn, _⟩ := so_num F (eq_of_beq hc.1)
        obtain ⟨m, hm, _⟩ := so_num F (eq_of_beq hc.2)
        have h := sameF_ok (a := a) hf
        rw [hn, hm] at h
        rw [hn, hm]
        have h : m = n := h
        rw [h]
      · rfl
    have h2 : vbool (c.den ρ φ) = false → (dropI c b).den ρ φ = b.den ρ φ := by
      intro hc
      unfold dropI
      split
      · rename_i d x y
        split
        · rename_i hd
          show _ = (if vbool (d.den ρ φ) then _ else _)
          rw [E.eqv_eq hd, hc]
          rfl
        · rfl
      · rfl
    show (if vbool (c.den ρ φ) then _ else _) = (if vbool (c.den ρ φ) then _ else _)
    cases hc : vbool (c.den ρ φ)
    · simp only [Bool.false_eq_true, if_false]
      exact h2 hc
    · simp only [if_true]
      exact h1
  · rfl
theorem nrmC_is (F : Fits cx.Γ cx.S ρ φ) {fs : Facts} (hf : fs.hold ρ φ) {β : Bk} {c : SC} {v : Value} (h : c.is ρ φ β v) : (nrmC cx fs c).is ρ φ β v := by
  unfold nrmC
  split
  · rename_i e
    have h : v = e.den ρ φ := h
    show v = (nrmE cx fs e).den ρ φ
    rw [h, nrmE_ok F hf]
  · exact h
theorem nrmA_is (F : Fits cx.Γ cx.S ρ φ) {fs : Facts} (hf : fs.hold ρ φ) {β : Bk} : ∀ {cs : List SC} {vs : List Value}, All2 (SC.is ρ φ β) cs vs → All2 (SC.is ρ φ β) (cs.map (nrmC cx fs)) vs
  | [], [], _ => trivial
  | [], _ :: _, h => h.elim
  | _ :: _, [], h => h.elim
  | _ :: _, _ :: _, h => ⟨nrmC_is F hf h.1, nrmA_is F hf h.2⟩
theorem nrmP_is (F : Fits cx.Γ cx.S ρ φ) {fs : Facts} (hf : fs.hold ρ φ) {β : Bk} {p : Part} {v : Value} (h : p.is ρ φ β v) : (nrmP cx fs p).is ρ φ β v := by
  obtain ⟨agg, cs⟩ := p
  cases agg with
  | true =>
    obtain ⟨vs, h1, h2⟩ := h
    exact ⟨vs, h1, nrmA_is F hf h2⟩
  | false =>
    match cs, h with
    | [], h => exact h.elim
    | [c], h => exact nrmC_is F hf h
    | _ :: _ :: _, h => exact h.elim
theorem nrmPs_is (F : Fits cx.Γ cx.S ρ φ) {fs : Facts} (hf : fs.hold ρ φ) {β : Bk} : ∀ {ps : List Part} {vs : List Value}, All2 (Part.is ρ φ β) ps vs → All2 (Part.is ρ φ β) (ps.map (nrmP cx fs)) vs
  | [], [], _ => trivial
  | [], _ :: _, h => h.elim
  | _ :: _, [], h => h.elim
  | _ :: _, _ :: _, h => ⟨nrmP_is F hf h.1, nrmPs_is F hf h.2⟩
theorem nrmV_is (F : Fits cx.Γ cx.S ρ φ) {fs : Facts} (hf : fs.hold ρ φ) {β : Bk} {s : SV} {v : Value} (h : s.is ρ φ β v) : (nrmV cx fs s).is ρ φ β v := by
  unfold nrmV
  split
  · exact nrmP_is F hf h
  · obtain ⟨vs, h1, h2⟩ := h
    exact ⟨vs, h1, nrmPs_is F hf h2⟩
  · exact h
theorem nrmX_ok {ws : Base} {ext : ExtT} (h : ExtOk ws cx φ ext) : ExtOk ws cx φ (nrmX cx ext) := by
  intro g svs B n fs d hd ρ β w xs N F hf hW hn ha
  unfold nrmX at hd
  split at hd
  · rename_i d0 h0
    simp only [Option.some.injEq, OR.ok.injEq] at hd
    subst hd
    obtain ⟨a1, a2⟩ := h g svs B n fs d0 h0 ρ β w xs N F hf hW hn ha
    refine ⟨a1, a2.mono ?_⟩
    rintro e w' ⟨x, β', h1, h2, h3, h4, h5⟩
    exact ⟨x, β', h1, h2, h3, h4, nrmV_is F hf h5⟩
  · rename_i hno
    exact absurd hd (fun hd => hno _ hd)
end
end Go.CX
