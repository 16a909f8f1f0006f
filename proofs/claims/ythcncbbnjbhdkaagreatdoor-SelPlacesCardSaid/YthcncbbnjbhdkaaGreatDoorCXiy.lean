/- CX: calls at a number that is no literal: the ways part by halves, each is carried out at its literal, and they are made one; what a cell then holds is made flat. -/
import Derived.Test.YthcncbbnjbhdkaaGreatDoorCXlw
namespace Go.CX
open Go Go.RowKit Go.SX

/-- Where a number lies: a literal, what is to be asked first, or outside. -/
inductive Pk where
  | lit (k : Nat) | ask (c : E) | out
def ixLt (x : E) (k : Nat) : E := .cmp .lss x (.int .i64 (Int.ofNat k))
def halve (cx : Cx) (fs : Facts) (x : E) : Nat → Nat → Nat → Pk
  | 0, lo, _ => .ask (ixLt x lo)
  | m + 1, lo, n => if Nat.beq n 1 then .lit lo else match dec cx fs (ixLt x (lo + n / 2)) with
    | some true => halve cx fs x m lo (n / 2)
    | some false => halve cx fs x m (lo + n / 2) (n - n / 2)
    | none => .ask (ixLt x (lo + n / 2))
def pkI (cx : Cx) (fs : Facts) (x : E) (N : Nat) : Pk := match dec cx fs (ixLt x 0) with
  | some true => .out
  | none => .ask (ixLt x 0)
  | some false => match dec cx fs (ixLt x N) with
    | some false => .out
    | none => .ask (ixLt x N)
    | some true => halve cx fs x N 0 N
def litR (cx : Cx) (r : RunT) (c : Code) (N0 i N : Nat) : Facts → BK → St → RX := fun fs B σ => match (σ.L i).bind SV.ex with
  | some x => if cx.so x == .int .i64 then (match pkI cx fs x N with
    | .lit k => r fs N0 B c ⟨(i, .one ⟨false, [.e (.int .i64 (Int.ofNat k))]⟩) :: σ.tmps, σ.dl, σ.next⟩
    | .ask e => .split e
    | .out => r fs N0 B c σ) else .stuck
  | none => .stuck
def isLss (x : E) : E → Option Int
  | .cmp .lss y (.int .i64 m) => if y.eqv x then some m else none
  | _ => none
abbrev Leaf := Option Int × Option Int × E
def leaves (x : E) : Option Int → Option Int → E → List Leaf
  | lo, hi, .ite c a b => match isLss x c with
    | some m => leaves x lo (some m) a ++ leaves x (some m) hi b
    | none => [(lo, hi, .ite c a b)]
  | lo, hi, t => [(lo, hi, t)]
def atK (x : E) (k : Int) : E → E
  | .ite c a b => match isLss x c with
    | some m => if decide (k < m) then atK x k a else atK x k b
    | none => .ite c a b
  | t => t
/-- A term that parts at one number alone. -/
def flatE (x t : E) : E := match t with
  | .ite _ _ _ => (match leaves x none none t with
    | [] => t
    | (_, _, d) :: rest => match rest.filter (fun p => !(p.2.2.eqv d)) with
      | [] => d
      | [(some k, some h, _)] => if decide (h = k + 1) then .ite (.cmp .eql x (.int .i64 k)) (atK x k t) d else t
      | _ => t)
  | t => t
def flatC' (x : E) : SC → SC
  | .e t => .e (flatE x t)
  | c => c
def flatP (x : E) (p : Part) : Part := ⟨p.agg, p.cs.map (flatC' x)⟩
def flatV (x : E) : SV → SV
  | .one p => .one (flatP x p)
  | .tup ps => .tup (ps.map (flatP x))
  | v => v
def flatD (x : E) : Bs → Bs
  | [] => []
  | (id, none) :: l => (id, none) :: flatD x l
  | (id, some row) :: l => (id, some (row.map (flatC' x))) :: flatD x l
def flatO (x : E) : OR → OR
  | .ok d => .ok ⟨flatV x d.v, flatD x d.dl, d.next⟩
  | r => r
def isLit : SV → Bool
  | .one ⟨false, [.e (.int _ _)]⟩ => true
  | _ => false
/-- A call at a number below N: carried out by r at each. -/
def litX (cx : Cx) (r : RunT) (D : Nat) (g : FuncId) (i N : Nat) : ExtT := fun f args B n fs => if Nat.beq g f then (match args[i]? with
  | some s => if isLit s then none else (match s.ex, cx.P.funcs[f]? with
    | some x, some fn => (match fn.body with
      | some c => if cx.so x == .int .i64 then some (flatO x (endX cx fn B (joiX cx D fs B (litR cx r c (args.length + (fn.ntmps - args.length)) i N) ⟨argT 0 args, [], n⟩))) else none
      | none => none)
    | _, _ => none)
  | none => none) else none

section
variable {ρ : Nat → Value} {φ : Nat → List Value → List Value} {cx : Cx} {ws : Base}
theorem ixLt_den {x : E} {v : Int} (hx : x.den ρ φ = .int .i64 v) (k : Nat) : (ixLt x k).den ρ φ = .bool (decide (v < (k : Int))) := by
  show Value.bool (decide (vint (x.den ρ φ) < Int.ofNat k)) = _
  rw [hx]; rfl
theorem dec_lt (F : Fits cx.Γ cx.S ρ φ) {fs : Facts} (hf : fs.hold ρ φ) {x : E} {v : Int} (hx : x.den ρ φ = .int .i64 v) {k : Nat} {b : Bool} (h : dec cx fs (ixLt x k) = some b) : decide (v < (k : Int)) = b := by
  have := dec_sound F hf h
  rw [ixLt_den hx] at this
  exact Value.bool.inj this
theorem halve_ok (F : Fits cx.Γ cx.S ρ φ) {fs : Facts} (hf : fs.hold ρ φ) {x : E} {v : Int} (hx : x.den ρ φ = .int .i64 v) : ∀ {m lo n k : Nat}, (lo : Int) ≤ v → v < (lo : Int) + n → halve cx fs x m lo n = .lit k → v = k
  | 0, lo, n, k, _, _, h => by simp [halve] at h
  | m + 1, lo, n, k, h1, h2, h => by
    unfold halve at h
    split at h
    · rename_i hn
      have hn := Nat.eq_of_beq_eq_true hn
      simp only [Pk.lit.injEq] at h
      omega
    · split at h
      · rename_i hd
        have := of_decide_eq_true (dec_lt F hf hx hd)
        exact halve_ok F hf hx h1 (by omega) h
      · rename_i hd
        have := of_decide_eq_false (dec_lt F hf hx hd)
        exact halve_ok F hf hx (by omega) (by omega) h
      · exact absurd h (by simp)
theorem pkI_ok (F : Fits cx.Γ cx.S ρ φ) {fs : Facts} (hf : fs.hold ρ φ) {x : E} {v : Int} (hx : x.den ρ φ = .int .i64 v) {N k : Nat} (h : pkI cx fs x N = .lit k) : v = k := by
  unfold pkI at h
  split at h
  · exact absurd h (by simp)
  · exact absurd h (by simp)
  · rename_i hd
    have := of_decide_eq_false (dec_lt F hf hx hd)
    split at h
    · exact absurd h (by simp)
    · exact absurd h (by simp)
    · rename_i hd'
      have := of_decide_eq_true (dec_lt F hf hx hd')
      exact halve_ok F hf hx (by omega) (by omega) h
theorem litR_ok {r : RunT} (hr : RunOk ws cx φ r) (c : Code) (N0 i N : Nat) (fs : Facts) (base : BK) : Snd ws cx φ fs N0 base (litR cx r c N0 i N fs base) fun Q => c.wp cx.P Q := by
  intro σ y σ' h
  unfold litR at h
  split at h
  · rename_i x hx
    split at h
    · rename_i hso
      split at h
      · rename_i k hk
        obtain ⟨m, p⟩ := hr fs N0 base c _ _ _ h
        refine ⟨m, fun ρ fx β a w Q F hf hN hs H hn hQ => p ρ fx β a w Q F hf hN hs ⟨⟨fun t s ht => ?_, H.m.size, H.m.dfr, H.m.wld⟩⟩ hn hQ⟩
        have hl : lookA t ((i, SV.one ⟨false, [.e (.int .i64 (Int.ofNat k))]⟩) :: σ.tmps) = some s := ht
        unfold lookA at hl
        split at hl
        · rename_i hi
          have hi := Nat.eq_of_beq_eq_true hi
          subst hi
          have hl := Option.some.inj hl
          subst hl
          rw [Option.bind_eq_some_iff] at hx
          obtain ⟨s0, h0, hx⟩ := hx
          obtain ⟨u, hu, hsu⟩ := H.m.tmps i s0 h0
          refine ⟨u, hu, ?_⟩
          have hv : u = x.den ρ φ := SV.ex_is hx hsu
          obtain ⟨n, hn', _⟩ := so_num F (so_eq hso)
          have := pkI_ok F hf hn' hk
          rw [hn', this] at hv
          exact hv
        · exact H.m.tmps t s hl
      · exact absurd h (by simp)
      · exact hr fs N0 base c _ _ _ h
    · exact absurd h (by simp)
  · exact absurd h (by simp)

/-! ### What is flat -/
def inI (v : Int) (lo hi : Option Int) : Prop := (∀ l, lo = some l → l ≤ v) ∧ ∀ h, hi = some h → v < h
variable {x : E} {v : Int} (hx : x.den ρ φ = .int .i64 v)
 include hx
theorem isLss_ok {c : E} {m : Int} (h : isLss x c = some m) : c.den ρ φ = .bool (decide (v < m)) := by
  unfold isLss at h
  split at h
  · rename_i y m'
    split at h
    · rename_i he
      simp only [Option.some.injEq] at h
      subst h
      have he := E.eqv_eq he
      subst he
      show Value.bool (decide (vint (y.den ρ φ) < m')) = _
      rw [hx]; rfl
    · cases h
  · cases h
theorem ite_lss {c a b : E} {m : Int} (h : isLss x c = some m) : (E.ite c a b).den ρ φ = if v < m then a.den ρ φ else b.den ρ φ := by
  show (if vbool (c.den ρ φ) then a.den ρ φ else b.den ρ φ) = _
  rw [isLss_ok hx h]
  by_cases hv : v < m
  · simp [hv]
  · simp [hv]
theorem leaves_ok : ∀ (t : E) (lo hi : Option Int), inI v lo hi → ∃ p ∈ leaves x lo hi t, inI v p.1 p.2.1 ∧ t.den ρ φ = p.2.2.den ρ φ := by
  have one : ∀ (t : E) (lo hi : Option Int), inI v lo hi → ∃ p ∈ ([(lo, hi, t)] : List Leaf), inI v p.1 p.2.1 ∧ t.den ρ φ = p.2.2.den ρ φ := fun t lo hi h => ⟨_, List.mem_singleton.2 rfl, h, rfl⟩
  intro t
  induction t with
  | ite c a b _ iha ihb =>
    intro lo hi h
    simp only [leaves]
    split
    · rename_i m hm
      rw [ite_lss hx hm]
      by_cases hv : v < m
      · obtain ⟨p, hp, h1, h2⟩ := iha lo (some m) ⟨h.1, fun h' e => by simp only [Option.some.injEq] at e; omega⟩
        exact ⟨p, List.mem_append_left _ hp, h1, by rw [if_pos hv]; exact h2⟩
      · obtain ⟨p, hp, h1, h2⟩ := ihb (some m) hi ⟨fun h' e => by simp only [Option.some.injEq] at e; omega, h.2⟩
        exact ⟨p, List.mem_append_right _ hp, h1, by rw [if_neg hv]; exact h2⟩
    · exact one _ lo hi h
  | _ => intro lo hi h; exact one _ lo hi h
theorem atK_ok : ∀ t : E, (atK x v t).den ρ φ = t.den ρ φ := by
  intro t
  induction t with
  | ite c a b _ iha ihb =>
    simp only [atK]
    split
    · rename_i m hm
      rw [ite_lss hx hm]
      by_cases hv : v < m
      · simp only [hv, decide_true, if_true]; exact iha
      · simp only [hv, decide_false, if_false, Bool.false_eq_true]; exact ihb
    · rfl
  | _ => rfl
theorem flatE_ok (t : E) : (flatE x t).den ρ φ = t.den ρ φ := by
  unfold flatE
  split
  · rename_i c a b
    obtain ⟨p, hp, hi, hd⟩ := leaves_ok hx (.ite c a b) none none ⟨fun _ h => by simp at h, fun _ h => by simp at h⟩
    split
    · rfl
    · rename_i l0 h0 d rest hl
      rw [hl] at hp
      have key : (!(p.2.2.eqv d)) = false → (E.ite c a b).den ρ φ = d.den ρ φ := by
        intro h
        have he : p.2.2 = d := E.eqv_eq (by simpa using h)
        rw [hd, he]
      split
      · rename_i hr
        rcases List.mem_cons.1 hp with rfl | hp
        · exact hd.symm
        · refine (key ?_).symm
          cases hq : (!(p.2.2.eqv d)) with
          | false => rfl
          | true =>
            have : p ∈ rest.filter fun p => !(p.2.2.eqv d) := List.mem_filter.2 ⟨hp, hq⟩
            rw [hr] at this
            simp at this
      · rename_i k h' e' hr
        split
        · rename_i hk
          have hk := of_decide_eq_true hk
          show (if vbool (Value.bool (vint (x.den ρ φ) == k)) then (atK x k (.ite c a b)).den ρ φ else d.den ρ φ) = _
          rw [hx]
          by_cases hv : v = k
          · subst hv
            simp only [vint_int, beq_self_eq_true, vbool_bool, if_true]
            exact atK_ok hx _
          · have hv' : (v == k) = false := by rw [beq_eq_false_iff_ne]; exact hv
            simp only [vint_int, hv', vbool_bool, Bool.false_eq_true, if_false]
            rcases List.mem_cons.1 hp with rfl | hp
            · exact hd.symm
            · refine (key ?_).symm
              cases hq : (!(p.2.2.eqv d)) with
              | false => rfl
              | true =>
                have hm : p ∈ rest.filter fun p => !(p.2.2.eqv d) := List.mem_filter.2 ⟨hp, hq⟩
                rw [hr, List.mem_singleton] at hm
                subst hm
                have h1 := hi.1 k rfl
                have h2 := hi.2 h' rfl
                omega
        · rfl
      · rfl
  · rfl
theorem flatCx_is {β : Bk} {c : SC} {u : Value} (h : c.is ρ φ β u) : (flatC' x c).is ρ φ β u := by
  cases c with
  | e t =>
    have h : u = t.den ρ φ := h
    show u = (flatE x t).den ρ φ
    rw [flatE_ok hx, h]
  | _ => exact h
theorem flat_all {β : Bk} : ∀ {cs : List SC} {vs : List Value}, All2 (SC.is ρ φ β) cs vs → All2 (SC.is ρ φ β) (cs.map (flatC' x)) vs
  | [], [], _ => trivial
  | _ :: _, _ :: _, ⟨h, h'⟩ => ⟨flatCx_is hx h, flat_all h'⟩
theorem flatP_is {β : Bk} {p : Part} {u : Value} (h : p.is ρ φ β u) : (flatP x p).is ρ φ β u := by
  obtain ⟨agg, cs⟩ := p
  cases agg with
  | true => obtain ⟨vs, hv, ha⟩ := h; exact ⟨vs, hv, flat_all hx ha⟩
  | false =>
    match cs, h with
    | [c], h => exact flatCx_is hx h
theorem flatPs_all {β : Bk} : ∀ {ps : List Part} {vs : List Value}, All2 (Part.is ρ φ β) ps vs → All2 (Part.is ρ φ β) (ps.map (flatP x)) vs
  | [], [], _ => trivial
  | _ :: _, _ :: _, ⟨h, h'⟩ => ⟨flatP_is hx h, flatPs_all h'⟩
theorem flatV_is {β : Bk} {s : SV} {u : Value} (h : s.is ρ φ β u) : (flatV x s).is ρ φ β u := by
  cases s with
  | one p => exact flatP_is hx h
  | tup ps => obtain ⟨vs, hv, ha⟩ := h; exact ⟨vs, hv, flatPs_all hx ha⟩
  | fn f fi ca => exact h
 omit hx in
theorem flatD_look (id : Nat) : ∀ l : Bs, lookA id (flatD x l) = (lookA id l).map (·.map (·.map (flatC' x)))
  | [] => rfl
  | (i, none) :: l => by
    unfold flatD lookA
    split
    · rfl
    · exact flatD_look id l
  | (i, some row) :: l => by
    unfold flatD lookA
    split
    · rfl
    · exact flatD_look id l
 omit hx in
theorem flatD_rows {B : BK} {l : Bs} {id : Nat} {row : List SC} (h : dlB (flatD x l) B id = some row) : ∃ r, dlB l B id = some r ∧ (row = r ∨ row = r.map (flatC' x)) := by
  unfold dlB at *
  rw [flatD_look] at h
  cases hq : lookA id l with
  | none => rw [hq] at h; exact ⟨row, h, Or.inl rfl⟩
  | some o =>
    rw [hq] at h
    cases o with
    | none => cases h
    | some r =>
      simp only [Option.map_some, Option.some.injEq] at h
      exact ⟨r, rfl, Or.inr h.symm⟩
 omit hx in
theorem flat_any {r : List SC} {k : Nat} (h : (r.map (flatC' x))[k]? = some .any) : r[k]? = some .any := by
  rw [List.getElem?_map, Option.map_eq_some_iff] at h
  obtain ⟨c, hc, he⟩ := h
  rw [hc]
  cases c with
  | any => rfl
  | _ => simp [flatC'] at he
theorem W.flat {fx : Fx} {B : BK} {l : Bs} {β : Bk} {w : World} (H : W ρ φ fx (dlB l B) β w) : W ρ φ fx (dlB (flatD x l) B) β w := by
  refine ⟨H.low, ?_, ?_, ?_, H.inh, H.hi, H.len, H.base⟩
  · intro id row h
    obtain ⟨r, hr, he⟩ := flatD_rows h
    obtain ⟨b, n, hb, h1, h2⟩ := H.box id r hr
    refine ⟨b, n, hb, h1, ?_⟩
    rcases he with rfl | rfl
    · exact h2
    · rcases h2 with ⟨s, pos, he, ho⟩ | ⟨arr, T, h3, h4, h5, h6⟩
      · refine Or.inl ⟨s, pos, ?_, ho⟩
        rcases he with rfl | rfl
        · exact Or.inl rfl
        · exact Or.inr rfl
      · refine Or.inr ⟨arr, T, h3, h4, by rw [List.length_map]; exact h5, fun k c hc => ?_⟩
        rw [List.getElem?_map, Option.map_eq_some_iff] at hc
        obtain ⟨c0, hc0, rfl⟩ := hc
        obtain ⟨u, hu, hcu⟩ := h6 k c0 hc0
        exact ⟨u, hu, flatCx_is hx hcu⟩
  · intro id row k h ha
    obtain ⟨r, hr, he⟩ := flatD_rows h
    refine H.msk id r k hr ?_
    rcases he with rfl | rfl
    · exact ha
    · exact flat_any ha
  · intro id id' row row' b n n' h h' hb hb'
    obtain ⟨r, hr, _⟩ := flatD_rows h
    obtain ⟨r', hr', _⟩ := flatD_rows h'
    exact H.inj id id' r r' b n n' hr hr' hb hb'
end

section
variable {φ : Nat → List Value → List Value} {cx : Cx} {ws : Base}
theorem litX_ok (hname : ∀ (f : FuncId) (fn : Func), cx.P.funcs[f]? = some fn → (fn.name == "runtime.NumGoroutine") = false) {r : RunT} {D g i N : Nat} (hct : cx.ct = []) (hr : RunOk ws cx φ r) : ExtOk ws cx φ (litX cx r D g i N) := by
  intro f svs B n fs d h ρ β w xs N1 F hf hW hn ha
  unfold litX at h
  split at h
  · split at h
    · rename_i s hs
      split at h
      · cases h
      split at h
      · rename_i x fn hx hfn
        split at h
        · rename_i c hb
          split at h
          · rename_i hso
            simp only [Option.some.injEq] at h
            obtain ⟨v, hv, _⟩ := so_num F (so_eq hso)
            cases hE : endX cx fn B (joiX cx D fs B (litR cx r c (svs.length + (fn.ntmps - svs.length)) i N) ⟨argT 0 svs, [], n⟩) with
            | split e => rw [hE] at h; simp [flatO] at h
            | stuck => rw [hE] at h; simp [flatO] at h
            | ok d0 =>
              rw [hE] at h
              simp only [flatO, OR.ok.injEq] at h
              subst h
              have hlen := ha.length
              refine ⟨callFunc_run hfn hb (hname f fn hfn) _ _, ?_⟩
              have ends : ∀ (y : XX) (σ : St), (y = .normal ∨ y = .ret) → joiX cx D fs B (litR cx r c (svs.length + (fn.ntmps - svs.length)) i N) ⟨argT 0 svs, [], n⟩ = .ok y σ → retX cx fn B σ = .ok d0 →
                  Calls cx.P f xs.toArray w fun e w' => ∃ x β', e = .returned x ∧ Ext β β' ∧ Newer β β' n d0.next ∧ W ρ φ ⟨N1, Xof B β, B, w, ws⟩ (dlB d0.dl B) β' w' ∧ d0.v.is ρ φ β' x := by
                intro y σ hy hrun hret
                unfold retX at hret
                split at hret
                · rename_i u hu
                  simp only [OR.ok.injEq] at hret
                  subst hret
                  refine calls_of_wp hfn hb ?_
                  obtain ⟨_, hs⟩ := joi_snd (N := svs.length + (fn.ntmps - svs.length)) hct (fun fs base => litR_ok hr c _ i N fs base) D fs B _ _ _ hrun
                  refine hs ρ ⟨svs.length + (fn.ntmps - svs.length), Xof B β, B, w, ws⟩ β _ w _ F hf rfl rfl ⟨⟨fun t s h => ?_, by simp [hlen], rfl, ?_⟩⟩ hn fun β' a' w' hE hN hM => ?_
                  · obtain ⟨j, h1, h2⟩ := argT_look h
                    rw [Nat.zero_add] at h1
                    subst h1
                    obtain ⟨x, hx, hsx⟩ := ha.get h2
                    refine ⟨x, ?_, hsx⟩
                    have hjl := (List.getElem?_eq_some_iff.1 hx).1
                    rw [Array.getElem?_append_left (by simpa using hjl)]
                    simpa using hx
                  · exact ⟨hW.low, hW.box, hW.msk, hW.inj, hW.inh, hW.hi, hW.len, hW.base⟩
                  · obtain ⟨y', h1, h2⟩ := resX_run (base := B) hM hu
                    have hpost : ∃ x β', (Ending.returned y') = .returned x ∧ Ext β β' ∧ Newer β β' n σ.next ∧ W ρ φ ⟨N1, Xof B β, B, w, ws⟩ (dlB σ.dl B) β' w' ∧ u.is ρ φ β' x :=
                      ⟨y', β', rfl, hE, hN, ⟨hM.m.wld.low, hM.m.wld.box, hM.m.wld.msk, hM.m.wld.inj, hM.m.wld.inh, hM.m.wld.hi, hM.m.wld.len, hM.m.wld.base⟩, h2⟩
                    rcases hy with rfl | rfl
                    · exact ⟨hM.m.dfr, y', h1, hpost⟩
                    · exact ⟨hM.m.dfr, y', h1, hpost⟩
                · exact absurd hret (by simp)
              have all : Calls cx.P f xs.toArray w fun e w' => ∃ x β', e = .returned x ∧ Ext β β' ∧ Newer β β' n d0.next ∧ W ρ φ ⟨N1, Xof B β, B, w, ws⟩ (dlB d0.dl B) β' w' ∧ d0.v.is ρ φ β' x := by
                unfold endX at hE
                split at hE
                · rename_i y σ hrun
                  split at hE
                  · exact ends _ σ (Or.inl rfl) hrun hE
                  · exact ends _ σ (Or.inr rfl) hrun hE
                  · exact absurd hE (by simp)
                · exact absurd hE (by simp)
                · exact absurd hE (by simp)
              refine all.mono ?_
              rintro e w' ⟨y, β', h1, h2, h3, h4, h5⟩
              exact ⟨y, β', h1, h2, h3, W.flat hv h4, flatV_is hv h5⟩
          · cases h
        · cases h
      · cases h
    · cases h
  · cases h
end
end Go.CX

/- CX: a truth, by cases of what it parts at; a law whose ends are truths that every case tells. -/
namespace Go.CX
open Go Go.RowKit Go.SX

def sureK (cx : Cx) (R : RuleT) (n : Nat) (fs : Facts) : SV → Bool
  | .one ⟨false, [.e x]⟩ => splitC cx (decK cx) R n fs x fun _ b => b
  | _ => false
section
variable {ρ : Nat → Value} {φ : Nat → List Value → List Value} {cx : Cx}
theorem sureK_ok (hct : cx.ct = []) (F : Fits cx.Γ cx.S ρ φ) {R : RuleT} (hR : RuleOk ρ φ R) {n : Nat} {fs : Facts} (hf : fs.hold ρ φ) {v : SV} (h : sureK cx R n fs v = true) {β : Bk} {x : Value} (hx : v.is ρ φ β x) : x = .bool true := by
  unfold sureK at h
  split at h
  · rename_i e
    have hx : x = e.den ρ φ := hx
    have C : CtSound cx φ := by
      intro g hg
      rw [hct] at hg
      simp at hg
    obtain ⟨b, fs', _, hb, he⟩ := splitC_ok C F (fun fs e b hf h => decK_sound F hf h) hR n fs e _ hf h
    have hb : b = true := hb
    rw [hx, he, hb]
  · cases h
/-- A law, by its run and by cases. -/
theorem law_byS {ext : ExtT} {n D : Nat} {f : FuncId} {args : List SV} {xs : List Value} {k m : Nat} {fs : Facts} {R : RuleT} (hct : cx.ct = []) (hname : ∀ (f : FuncId) (fn : Func), cx.P.funcs[f]? = some fn → (fn.name == "runtime.NumGoroutine") = false)
    (F : Fits cx.Γ cx.S ρ φ) (hR : RuleOk ρ φ R) (hf : fs.hold ρ φ) (ha : All2 (SV.is ρ φ fun _ => none) args xs) (h : endsC cx ext n D f args k fs (sureK cx R m) = true) (w : World) (hvw : ∀ v ∈ cx.vw, VwC v ρ w) (hext : ExtOk ⟨w, cx.vw⟩ cx φ ext) :
    Calls cx.P f xs.toArray w fun e w' => e = .returned (.bool true) ∧ Below w.heap.size w w' := by
  obtain ⟨v, fs', h1, h2, h3⟩ := endsC_ok hct hname F hf ha h
  refine Calls.mono (h3 w hvw hext) ?_
  rintro e w' ⟨x, β', rfl, hx, hb⟩
  rw [sureK_ok hct F hR h1 h2 hx]
  exact ⟨rfl, hb⟩
end
end Go.CX
