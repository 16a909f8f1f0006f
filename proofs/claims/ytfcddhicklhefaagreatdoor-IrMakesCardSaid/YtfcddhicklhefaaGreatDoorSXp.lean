/- SX: contracts that come of themselves: a function whose tree is closed, with the tree as its meaning; a loop likewise. -/
import Derived.Test.YtfcddhicklhefaaGreatDoorSXr
namespace Go.SX
open Go Go.RowKit

/-! ### The sorts of a type -/
def sortsOf (P : Program) : Nat → TypeId → Option (Bool × List So)
  | 0, _ => none
  | d + 1, t =>
    match P.underlying t with
    | some (.int k) => some (false, [.int k])
    | some .bool => some (false, [.bool])
    | some .string => some (false, [.str])
    | some (.struct fs) => (fs.toList.foldr (fun f acc => match acc, sortsOf P d f.type with
        | some r, some (_, ss) => some (ss ++ r)
        | _, _ => none) (some [])).map fun ss => (true, ss)
    | some (.array n e) => match sortsOf P d e with
      | some (_, ss) => some (true, (List.range n).flatMap fun _ => ss)
      | none => none
    | some (.slice _) | some (.pointer _) | some (.map _ _) | some (.func _ _ _) | some (.interface _) => some (false, [.one])
    | _ => none
def pksOf (P : Program) : List TypeId → Option (List PK)
  | [] => some []
  | t :: ts => match sortsOf P 12 t, pksOf P ts with
    | some (a, ss), some r => some (.val a ss :: r)
    | _, _ => none
/-- The same, a slice of plain elements read as such. -/
def pksSl (P : Program) : List TypeId → Option (List PK)
  | [] => some []
  | t :: ts => match P.underlying t, pksSl P ts with
    | some (.slice e), some r => match sortsOf P 12 e with
      | some (_, ss) => some (.sl ss :: r)
      | none => none
    | _, some r => match sortsOf P 12 t with
      | some (a, ss) => some (.val a ss :: r)
      | none => none
    | _, none => none
def rksOf (P : Program) : List TypeId → Option (List RK)
  | [] => some []
  | t :: ts => match sortsOf P 12 t, rksOf P ts with
    | some (a, ss), some r => some (.val a ss :: r)
    | _, _ => none
def sigOf (P : Program) (fn : Func) (f : FuncId) (sym : Nat) : Sig :=
  match pksOf P fn.params.toList, rksOf P fn.resultTypes.toList with
  | some ps, some rs => ⟨f, sym, ps, rs, [], [], []⟩
  | _, _ => ⟨f, sym, [], [], [], [], []⟩

/-- A contract for a function some of whose slices are read. -/
def sigSl (P : Program) (fn : Func) (f : FuncId) (sym : Nat) : Sig :=
  match pksSl P fn.params.toList, rksOf P fn.resultTypes.toList with
  | some ps, some rs => ⟨f, sym, ps, rs, [], [], []⟩
  | _, _ => ⟨f, sym, [], [], [], [], []⟩

section
variable (ρ : Nat → Value) (φ : Nat → List Value → List Value)
def SV.vals : SV → List Value
  | .one p => p.vals ρ φ
  | .tup ps => ps.flatMap fun p => p.vals ρ φ
def RTree.vals : RTree → List Value
  | .leaf v _ => v.vals ρ φ
  | .ite c t e => if vbool (c.den ρ φ) then t.vals else e.vals
  | .stuck => []
end
def partsOk (cx : Cx) (n : Nat) : List RK → List Part → Bool
  | [], [] => true
  | r :: rs, p :: ps => partOk cx n r p && partsOk cx n rs ps
  | _, _ => false
def svOk (cx : Cx) (n : Nat) (rs : List RK) (v : SV) : Bool :=
  match rs, v with
  | [r], .one p => partOk cx n r p
  | [_], .tup _ => false
  | rs, .tup ps => partsOk cx n rs ps
  | _, .one _ => false
def RTree.ok (cx : Cx) (n : Nat) (rs : List RK) : RTree → Bool
  | .leaf v _ => svOk cx n rs v
  | .ite c t e => c.lt n && t.ok cx n rs && e.ok cx n rs
  | .stuck => false

/-- What a function means: its tree. -/
def auto (T : RTree) (ss : List So) (φ : Nat → List Value → List Value) (fl : List Value) : List Value :=
  T.vals (fun i => coe (ss.getD i .any) (fl.getD i undef)) φ
def updF (φ : Nat → List Value → List Value) (k : Nat) (f : List Value → List Value) : Nat → List Value → List Value := fun j => if Nat.beq j k then f else φ j
theorem updF_self (φ : Nat → List Value → List Value) (k : Nat) (f : List Value → List Value) : updF φ k f k = f := by simp [updF]
theorem updF_ne (φ : Nat → List Value → List Value) {j k : Nat} (h : j ≠ k) (f : List Value → List Value) : updF φ k f j = φ j := by
  unfold updF
  rw [if_neg]
  exact fun e => h (Nat.eq_of_beq_eq_true e)

/-- Contracts with their meanings. -/
structure Env (P : Program) (ct : List Sig) (sy : List (Nat × List So)) (φ : Nat → List Value → List Value) : Prop where
  fit : ∀ f j args, (symS sy f j).has ((φ f args).getD j undef)
  snd : ∀ g ∈ ct, g.Sound P φ
theorem Env.nil (P : Program) (φ : Nat → List Value → List Value) : Env P [] [] φ := ⟨fun _ _ _ => trivial, fun g h => absurd h (by simp)⟩
theorem Sig.Sound.congr {P : Program} {φ φ' : Nat → List Value → List Value} {g : Sig} (h : φ' g.sym = φ g.sym) (H : g.Sound P φ) : g.Sound P φ' :=
  ⟨H.call, fun w xs fl hr hp hx => by rw [h]; exact H.does w xs fl hr hp hx, fun fl hs => by rw [h]; exact H.tells fl hs⟩
def freshS (k : Nat) : List Sig → Bool
  | [] => true
  | g :: gs => !(Nat.beq g.sym k) && freshS k gs
theorem freshS_ne {k : Nat} : ∀ {ct : List Sig}, freshS k ct = true → ∀ g ∈ ct, g.sym ≠ k
  | [], _, g, hg => by simp at hg
  | g' :: ct, h, g, hg => by
    simp only [freshS, Bool.and_eq_true, Bool.not_eq_true'] at h
    rcases List.mem_cons.1 hg with rfl | hg
    · intro e
      rw [e] at h
      simp at h
    · exact freshS_ne h.2 g hg

theorem fit_add {sy : List (Nat × List So)} {φ : Nat → List Value → List Value} (H : ∀ f j args, (symS sy f j).has ((φ f args).getD j undef)) {k : Nat} {ss : List So} {F : List Value → List Value}
    (hF : ∀ args, All2 So.has ss (F args)) : ∀ f j args, (symS ((k, ss) :: sy) f j).has ((updF φ k F f args).getD j undef) := by
  intro f j args
  by_cases hf : f = k
  · subst hf
    rw [updF_self]
    have e : symS ((f, ss) :: sy) f j = ss.getD j .any := by simp [symS, lookA]
    rw [e]
    exact all2_get (hF args) j
  · rw [updF_ne φ hf]
    have hb : Nat.beq k f = false := by
      cases hq : Nat.beq k f with
      | false => rfl
      | true => exact absurd (Nat.eq_of_beq_eq_true hq).symm hf
    have e : symS ((k, ss) :: sy) f j = symS sy f j := by simp [symS, lookA, hb]
    rw [e]
    exact H f j args

/-- One contract more, however it was shown. -/
theorem Env.add {P : Program} {ct : List Sig} {sy : List (Nat × List So)} {φ : Nat → List Value → List Value} (H : Env P ct sy φ) (g : Sig) (F : List Value → List Value) (hfr : freshS g.sym ct = true)
    (hfit : ∀ args, All2 So.has (g.rs.flatMap RK.sorts) (F args)) (hs : g.Sound P (updF φ g.sym F)) : Env P (g :: ct) ((g.sym, g.rs.flatMap RK.sorts) :: sy) (updF φ g.sym F) := by
  refine ⟨fit_add H.fit hfit, fun g' hg' => ?_⟩
  rcases List.mem_cons.1 hg' with rfl | hg'
  · exact hs
  · exact (H.snd g' hg').congr (updF_ne φ (freshS_ne hfr g' hg') F)
/-- A symbol more that is no function's. -/
theorem Env.sym {P : Program} {ct : List Sig} {sy : List (Nat × List So)} {φ : Nat → List Value → List Value} (H : Env P ct sy φ) (k : Nat) (ss : List So) (F : List Value → List Value) (hfr : freshS k ct = true)
    (hF : ∀ args, All2 So.has ss (F args)) : Env P ct ((k, ss) :: sy) (updF φ k F) :=
  ⟨fit_add H.fit hF, fun g' hg' => (H.snd g' hg').congr (updF_ne φ (freshS_ne hfr g' hg') F)⟩

section
variable {ρ : Nat → Value} {φ : Nat → List Value → List Value} {cx : Cx}
theorem partsOk_gives (F : Fits cx.Γ cx.S ρ φ) {n : Nat} : ∀ {rs : List RK} {ps : List Part}, partsOk cx n rs ps = true → All2 So.has (rs.flatMap RK.sorts) (ps.flatMap fun p => p.vals ρ φ) ∧
    ∀ β (xs : List Value) (w w' : World) (A C : List Value), All2 (Part.is ρ φ β) ps xs → givesAll w w' (A ++ (ps.flatMap fun p => p.vals ρ φ) ++ C) A.length rs xs
  | [], [], _ => ⟨trivial, fun β xs w w' A C h => by cases xs with | nil => trivial | cons _ _ => exact h.elim⟩
  | r :: rs, p :: ps, h => by
    simp only [partsOk, Bool.and_eq_true] at h
    obtain ⟨h1, h2⟩ := partOk_gives F h.1
    obtain ⟨h3, h4⟩ := partsOk_gives F h.2
    refine ⟨by simp only [List.flatMap_cons]; exact All2.append h1 h3, fun β xs w w' A C hx => ?_⟩
    cases xs with
    | nil => exact hx.elim
    | cons x xs =>
      simp only [List.flatMap_cons]
      refine ⟨?_, ?_⟩
      · have := h2 β x w w' A ((ps.flatMap fun p => p.vals ρ φ) ++ C) hx.1
        simpa [List.append_assoc] using this
      · have := h4 β xs w w' (A ++ p.vals ρ φ) C hx.2
        have hl := h1.length
        rw [List.length_append, ← hl] at this
        simpa [List.append_assoc] using this
  | [], _ :: _, h => by simp [partsOk] at h
  | _ :: _, [], h => by simp [partsOk] at h
theorem partsOk_lt {n : Nat} {ρ' : Nat → Value} (hρ : ∀ i, i < n → ρ i = ρ' i) : ∀ {rs : List RK} {ps : List Part}, partsOk cx n rs ps = true → (ps.flatMap fun p => p.vals ρ φ) = ps.flatMap fun p => p.vals ρ' φ
  | [], [], _ => rfl
  | r :: rs, p :: ps, h => by
    simp only [partsOk, Bool.and_eq_true] at h
    simp only [List.flatMap_cons, partOk_lt (φ := φ) hρ h.1, partsOk_lt hρ h.2]
  | [], _ :: _, h => by simp [partsOk] at h
  | _ :: _, [], h => by simp [partsOk] at h

theorem svOk_gives (F : Fits cx.Γ cx.S ρ φ) {n : Nat} {rs : List RK} {v : SV} (h : svOk cx n rs v = true) : All2 So.has (rs.flatMap RK.sorts) (v.vals ρ φ) ∧
    ∀ β x (w w' : World), v.is ρ φ β x → retGives w w' (v.vals ρ φ) rs x := by
  unfold svOk at h
  split at h
  · rename_i r p
    obtain ⟨h1, h2⟩ := partOk_gives F h
    refine ⟨by simpa [SV.vals] using h1, fun β x w w' hx => ?_⟩
    have := h2 β x w w' [] [] hx
    simpa [retGives, SV.vals] using this
  · exact absurd h (by simp)
  · rename_i ps hne
    obtain ⟨h1, h2⟩ := partsOk_gives F h
    refine ⟨h1, fun β x w w' hx => ?_⟩
    obtain ⟨xs, rfl, ha⟩ := hx
    have := h2 β xs w w' [] [] ha
    simp only [List.nil_append, List.append_nil, List.length_nil] at this
    unfold retGives
    split
    · rename_i r
      exact absurd rfl (hne r)
    · exact ⟨xs, rfl, this⟩
  · exact absurd h (by simp)
theorem svOk_lt {n : Nat} {ρ' : Nat → Value} (hρ : ∀ i, i < n → ρ i = ρ' i) {rs : List RK} {v : SV} (h : svOk cx n rs v = true) : v.vals ρ φ = v.vals ρ' φ := by
  unfold svOk at h
  split at h
  · exact partOk_lt (φ := φ) hρ h
  · exact absurd h (by simp)
  · exact partsOk_lt hρ h
  · exact absurd h (by simp)

theorem RTree.ok_has (F : Fits cx.Γ cx.S ρ φ) {n : Nat} {rs : List RK} : ∀ {T : RTree}, T.ok cx n rs = true → All2 So.has (rs.flatMap RK.sorts) (T.vals ρ φ)
  | .leaf _ _, h => (svOk_gives F h).1
  | .ite c t e, h => by
    simp only [RTree.ok, Bool.and_eq_true] at h
    simp only [RTree.vals]
    split
    · exact RTree.ok_has F h.1.2
    · exact RTree.ok_has F h.2
  | .stuck, h => by simp [RTree.ok] at h
theorem RTree.ok_lt {n : Nat} {ρ' : Nat → Value} (hρ : ∀ i, i < n → ρ i = ρ' i) {rs : List RK} : ∀ {T : RTree}, T.ok cx n rs = true → T.vals ρ φ = T.vals ρ' φ
  | .leaf _ _, h => svOk_lt hρ h
  | .ite c t e, h => by
    simp only [RTree.ok, Bool.and_eq_true] at h
    simp only [RTree.vals, (lt_den φ hρ c h.1.1).1, RTree.ok_lt hρ h.1.2, RTree.ok_lt hρ h.2]
  | .stuck, _ => rfl
theorem RTree.ok_all {n : Nat} {rs : List RK} : ∀ {T : RTree}, T.ok cx n rs = true → T.all ρ φ fun v _ => v.vals ρ φ = T.vals ρ φ ∧ svOk cx n rs v = true
  | .leaf _ _, h => ⟨rfl, h⟩
  | .ite c t e, h => by
    simp only [RTree.ok, Bool.and_eq_true] at h
    simp only [RTree.vals]
    constructor
    · intro hc
      rw [hc]
      simp only [vbool_bool, if_true]
      exact RTree.ok_all h.1.2
    · intro hc
      rw [hc]
      simp only [vbool_bool, Bool.false_eq_true, if_false]
      exact RTree.ok_all h.2
  | .stuck, h => by simp [RTree.ok] at h
theorem RTree.all_mono {K K' : SV → St → Prop} (h : ∀ x σ, K x σ → K' x σ) : ∀ {T : RTree}, T.all ρ φ K → T.all ρ φ K'
  | .leaf _ _, H => h _ _ H
  | .ite _ _ _, H => ⟨fun hc => RTree.all_mono h (H.1 hc), fun hc => RTree.all_mono h (H.2 hc)⟩
  | .stuck, H => H.elim
end

theorem callFunc_run {P : Program} {f : FuncId} {fn : Func} {c : Code} (hf : P.funcs[f]? = some fn) (hb : fn.body = some c) (hn : (fn.name == "runtime.NumGoroutine") = false) (args : Array Value) (w : World) :
    (callFunc f args).run P w = .ok (.enter f args) w := by
  have hn : ¬ fn.name = "runtime.NumGoroutine" := by simpa using hn
  simp [callFunc, hf, hb, hn]

/-- Some of the arguments are literals. -/
def fixC (fx : List (Nat × E)) : SC → SC
  | .e (.var j) => match lookA j fx with
    | some e => .e e
    | none => .e (.var j)
  | c => c
def fixP (fx : List (Nat × E)) (p : Part) : Part := ⟨p.agg, p.cs.map (fixC fx)⟩
def fixV (fx : List (Nat × E)) : SV → SV
  | .one p => .one (fixP fx p)
  | .tup ps => .tup (ps.map (fixP fx))
theorem lookA_mem {α : Type} {k : Nat} {x : α} : ∀ {l : List (Nat × α)}, lookA k l = some x → (k, x) ∈ l
  | [], h => by simp [lookA] at h
  | (i, y) :: l, h => by
    simp only [lookA] at h
    split at h
    · rename_i hb
      simp only [Option.some.injEq] at h
      rw [Nat.eq_of_beq_eq_true hb, h]
      simp
    · exact List.mem_cons_of_mem _ (lookA_mem h)
section
variable {ρ : Nat → Value} {φ : Nat → List Value → List Value} {β : Nat → Option Nat} {fx : List (Nat × E)} (h : ∀ p ∈ fx, ρ p.1 = p.2.den ρ φ)
 include h
theorem fixC_is {c : SC} {v : Value} (H : c.is ρ φ β v) : (fixC fx c).is ρ φ β v := by
  unfold fixC
  split
  · rename_i j
    split
    · rename_i e he
      have h1 := h _ (lookA_mem he)
      have h2 : v = ρ j := H
      show v = e.den ρ φ
      rw [h2]
      exact h1
    · exact H
  · exact H
theorem fixCs_is : ∀ {cs : List SC} {vs : List Value}, All2 (SC.is ρ φ β) cs vs → All2 (SC.is ρ φ β) (cs.map (fixC fx)) vs
  | [], [], _ => trivial
  | _ :: _, _ :: _, H => ⟨fixC_is h H.1, fixCs_is H.2⟩
  | [], _ :: _, H => H.elim
  | _ :: _, [], H => H.elim
theorem fixP_is {p : Part} {v : Value} (H : p.is ρ φ β v) : (fixP fx p).is ρ φ β v := by
  obtain ⟨ag, cs⟩ := p
  cases ag with
  | true =>
    obtain ⟨vs, hv, ha⟩ := H
    exact ⟨vs, hv, fixCs_is h ha⟩
  | false =>
    match cs, H with
    | [c], H => exact fixC_is h H
theorem fixPs_is : ∀ {ps : List Part} {vs : List Value}, All2 (Part.is ρ φ β) ps vs → All2 (Part.is ρ φ β) (ps.map (fixP fx)) vs
  | [], [], _ => trivial
  | _ :: _, _ :: _, H => ⟨fixP_is h H.1, fixPs_is H.2⟩
  | [], _ :: _, H => H.elim
  | _ :: _, [], H => H.elim
theorem fixV_is {s : SV} {v : Value} (H : s.is ρ φ β v) : (fixV fx s).is ρ φ β v := by
  cases s with
  | one p => exact fixP_is h H
  | tup ps =>
    obtain ⟨vs, hv, ha⟩ := H
    exact ⟨vs, hv, fixPs_is h ha⟩
theorem fixVs_is : ∀ {ss : List SV} {vs : List Value}, All2 (SV.is ρ φ β) ss vs → All2 (SV.is ρ φ β) (ss.map (fixV fx)) vs
  | [], [], _ => trivial
  | _ :: _, _ :: _, H => ⟨fixV_is h H.1, fixVs_is H.2⟩
  | [], _ :: _, H => H.elim
  | _ :: _, [], H => H.elim
end
def fixLt (n : Nat) (fx : List (Nat × E)) : Bool := fx.all fun p => p.2.isLit && Nat.blt p.1 n
theorem fix_here {n : Nat} {fx : List (Nat × E)} (hl : fixLt n fx = true) {ρ : Nat → Value} {φ : Nat → List Value → List Value} {fl : List Value} (hρ : ∀ i, i < n → ρ i = fl.getD i undef) (h : ∀ p ∈ fx, fl.getD p.1 undef = p.2.den (fun _ => undef) (fun _ _ => [])) :
    ∀ p ∈ fx, ρ p.1 = p.2.den ρ φ := by
  intro p hp
  have := List.all_eq_true.1 hl p hp
  rw [Bool.and_eq_true] at this
  rw [hρ p.1 (by have := this.2; simp only [Nat.blt] at this; exact Nat.lt_of_succ_le (Nat.le_of_ble_eq_true this)), h p hp]
  exact isLit_den this.1 _ _ _ _

/-- A function's tree. -/
def fnT (P : Program) (ct : List Sig) (sy : List (Nat × List So)) (lps : List Lp) (n : Nat) (fn : Func) (c : Code) (g : Sig) : RTree :=
  fnX (cxP P ct sy g.ps) lps n fn c ((argsV 0 (sortsP g.ps).length g.ps).map (fixV g.fix)) (g.pre ++ vwFacts (vwV 0 (sortsP g.ps).length g.ps))
theorem argsV_len : ∀ {ps : List PK} {i e : Nat}, (argsV i e ps).length = ps.length
  | [], _, _ => rfl
  | p :: ps, i, e => by
    cases p <;> simp [argsV, argsV_len]

theorem preFacts {φ : Nat → List Value → List Value} {pre : Facts} {n : Nat} {fl : List Value} {ρ1 : Nat → Value} {fs : Facts} (hpr : (pre.all fun p => p.1.noApp && p.1.lt n) = true) (hpx : pre.hold (fun i => fl.getD i undef) (fun _ _ => []))
    (hρ : ∀ i, i < n → ρ1 i = fl.getD i undef) (h : fs.hold ρ1 φ) : Facts.hold ρ1 φ (pre ++ fs) := by
  intro p hp
  rcases List.mem_append.1 hp with hp | hp
  · have hq := List.all_eq_true.1 hpr p hp
    rw [Bool.and_eq_true] at hq
    rw [(lt_den φ hρ p.1 hq.2).1, (noApp_den _ φ (fun _ _ => []) p.1 hq.1).1]
    exact hpx p hp
  · exact h p hp
/-- Where the first result is yes, this holds. -/
def leafImp (cx : Cx) (fs imp : Facts) : SV → Bool
  | .one ⟨false, [.e e]⟩ => (match dec cx fs e with
    | some b => !b
    | none => false) || imp.all fun q => (match dec cx (addF cx e true fs) q.1 with
      | some b => b == q.2
      | none => false)
  | _ => false
def RTree.impOk (cx : Cx) (imp : Facts) : Facts → RTree → Bool
  | fs, .leaf v _ => leafImp cx fs imp v
  | fs, .ite c t e => decide (cx.so c = .bool) && t.impOk cx imp (addF cx c true fs) && e.impOk cx imp (addF cx c false fs)
  | _, .stuck => true
theorem impOk_hold {ρ : Nat → Value} {φ : Nat → List Value → List Value} {cx : Cx} (F : Fits cx.Γ cx.S ρ φ) (C : CtSound cx φ) {imp : Facts} : ∀ {T : RTree} {fs : Facts}, T.impOk cx imp fs = true → fs.hold ρ φ → (T.vals ρ φ).getD 0 undef = .bool true → imp.hold ρ φ
  | .leaf v _, fs, h, hf, ht => by
    simp only [RTree.impOk] at h
    unfold leafImp at h
    split at h
    · rename_i e
      have ht : e.den ρ φ = .bool true := ht
      rw [Bool.or_eq_true] at h
      rcases h with h | h
      · split at h
        · rename_i b hd
          have := dec_sound F hf hd
          rw [ht] at this
          simp only [Value.bool.injEq] at this
          subst this
          simp at h
        · simp at h
      · intro q hq
        have h1 := List.all_eq_true.1 h q hq
        split at h1
        · rename_i b hd
          have := dec_sound F (addF_hold F C e true hf ht) hd
          rw [this, eq_of_beq h1]
        · simp at h1
    · simp at h
  | .ite c t e, fs, h, hf, ht => by
    simp only [RTree.impOk, Bool.and_eq_true, decide_eq_true_eq] at h
    have hb := so_bool0 F h.1.1
    simp only [RTree.vals] at ht
    split at ht
    · rename_i hv
      exact impOk_hold F C h.1.2 (addF_hold F C c true hf (by rw [hb, hv])) ht
    · rename_i hv
      exact impOk_hold F C h.2 (addF_hold F C c false hf (by rw [hb]; simpa using hv)) ht
  | .stuck, fs, h, hf, ht => by simp [RTree.vals, undef] at ht
/-- **One contract more, by the function's own tree.** -/
theorem Env.auto {P : Program} {ct : List Sig} {sy : List (Nat × List So)} {φ : Nat → List Value → List Value} (H : Env P ct sy φ) (lps : List Lp) (n : Nat) (fn : Func) (c : Code) (g : Sig) (hfn : P.funcs[g.f]? = some fn) (hb : fn.body = some c) (hnm : (fn.name == "runtime.NumGoroutine") = false)
    (hfr : freshS g.sym ct = true) (hv : g.ps.all PK.okK = true) (hpr : (g.pre.all fun p => p.1.noApp && p.1.lt (sortsP g.ps).length) = true) (hfl : fixLt (sortsP g.ps).length g.fix = true) (him : (g.imp.isEmpty || ((g.imp.all fun p => p.1.noApp && p.1.lt (sortsP g.ps).length) && (fnT P ct sy lps n fn c g).impOk (cxP P ct sy g.ps) g.imp [])) = true) (hls : ∀ lp ∈ lps, ∀ l ∈ loops c, firstId l = some lp.key → lp.Sound P φ (g.ps.length + (fn.ntmps - g.ps.length)) l)
    (hT : (fnT P ct sy lps n fn c g).ok (cxP P ct sy g.ps) (sortsP g.ps).length g.rs = true) :
    Env P (g :: ct) ((g.sym, g.rs.flatMap RK.sorts) :: sy) (updF φ g.sym (SX.auto (fnT P ct sy lps n fn c g) (sortsP g.ps) φ)) := by
  refine H.add g _ hfr (fun args => ?_) ⟨callFunc_run hfn hb hnm, fun w xs fl hr hpx hfx => ?_, fun fl hs ht => ?_⟩
  · unfold SX.auto
    have F : Fits (cxP P ct sy g.ps).Γ (cxP P ct sy g.ps).S (fun i => coe ((sortsP g.ps ++ exS g.ps).getD i .any) (args.getD i undef)) φ := ⟨fun i => coe_has _ _, H.fit⟩
    have := RTree.ok_has F hT
    rwa [RTree.ok_lt (ρ' := fun i => coe ((sortsP g.ps).getD i .any) (args.getD i undef)) (fun i hi => by
      rw [List.getD_eq_getElem?_getD (l := sortsP g.ps ++ _), List.getElem?_append_left hi, List.getD_eq_getElem?_getD (l := sortsP g.ps)]) hT] at this
  · rw [updF_self]
    obtain ⟨hlen, hlx⟩ := readsAll_len hr
    obtain ⟨ρ1, hρ1⟩ : ∃ ρ1 : Nat → Value, ρ1 = fun i => (fl ++ exV g.ps xs).getD i undef := ⟨_, rfl⟩
    have hρa : ∀ i, i < (sortsP g.ps).length → ρ1 i = fl.getD i undef := by
      intro i hi
      rw [hρ1]
      simp only
      rw [List.getD_eq_getElem?_getD, List.getElem?_append_left (by omega), List.getD_eq_getElem?_getD]
    obtain ⟨ha, hhas, hhx, hvw⟩ := argsV_is (φ := φ) (β := fun _ => none) (fm := ⟨((argsV 0 (sortsP g.ps).length g.ps).map (fixV g.fix)).length + (fn.ntmps - ((argsV 0 (sortsP g.ps).length g.ps).map (fixV g.fix)).length), none⟩) (a0 := #[]) [] fl ρ1 hv hr (fun j hj => by
      rw [List.length_nil, Nat.zero_add]; exact hρa j (by omega)) (fun j hj => by
      rw [hρ1]
      simp only
      rw [List.getD_eq_getElem?_getD, List.getElem?_append_right (by omega), show fl.length + j - fl.length = j by omega, List.getD_eq_getElem?_getD])
    rw [hlen] at ha hvw
    simp only [List.length_nil] at ha hvw
    have F : Fits (cxP P ct sy g.ps).Γ (cxP P ct sy g.ps).S ρ1 φ := ⟨fun i => by
      have := all2_get (All2.append hhas hhx) i
      rw [hρ1]
      exact this, H.fit⟩
    have hρc : (fun i => coe ((sortsP g.ps).getD i .any) (fl.getD i undef)) = fun i => fl.getD i undef := by
      funext i
      exact coe_id (all2_get hhas i)
    refine calls_sx (cx := cxP P ct sy g.ps) F H.snd (n := n) (ls := lps) (by rw [List.length_map, argsV_len]; exact hls) hfn hb rfl hvw (fixVs_is (fix_here hfl hρa hfx) ha) (preFacts hpr hpx hρa (vwFacts_hold hvw)) ?_
    refine RTree.all_mono ?_ (RTree.ok_all hT)
    rintro v σ ⟨h1, h2⟩ β a w' x hM hx
    refine ⟨x, rfl, ?_, hM.m.low.below⟩
    have := (svOk_gives F h2).2 β x w w' hx
    rw [h1] at this
    unfold SX.auto
    rw [hρc, ← RTree.ok_lt (ρ := ρ1) hρa hT]
    exact this
  · rw [Bool.or_eq_true] at him
    rcases him with him | him
    · rw [List.isEmpty_iff.1 him]
      intro q hq
      simp at hq
    · rw [Bool.and_eq_true] at him
      rw [updF_self] at ht
      unfold SX.auto at ht
      have F : Fits (cxP P ct sy g.ps).Γ (cxP P ct sy g.ps).S (fun i => coe ((sortsP g.ps ++ exS g.ps).getD i .any) (fl.getD i undef)) φ := ⟨fun i => coe_has _ _, H.fit⟩
      have hag : ∀ i, i < (sortsP g.ps).length → (fun i => coe ((sortsP g.ps ++ exS g.ps).getD i .any) (fl.getD i undef)) i = (fun i => coe ((sortsP g.ps).getD i .any) (fl.getD i undef)) i := by
        intro i hi
        simp only
        rw [List.getD_eq_getElem?_getD (l := sortsP g.ps ++ _), List.getElem?_append_left hi, List.getD_eq_getElem?_getD (l := sortsP g.ps)]
      rw [← RTree.ok_lt hag hT] at ht
      have hh := impOk_hold F H.snd him.2 (fun _ hq => by simp at hq) ht
      intro q hq
      have h1 := List.all_eq_true.1 him.1 q hq
      rw [Bool.and_eq_true] at h1
      rw [← hh q hq, (lt_den φ hag q.1 h1.2).1, (noApp_den _ φ (fun _ _ => []) q.1 h1.1).1]
      congr 1
      funext i
      exact (coe_id (all2_get hs i)).symm
/-- **A loop's symbol, and its contract.** -/
theorem Env.loop {P : Program} {ct : List Sig} {sy : List (Nat × List So)} {φ : Nat → List Value → List Value} (H : Env P ct sy φ) (lps : List Lp) (N fuel : Nat) (lp : Lp) (c : Code) (hfr : freshS lp.sym ct = true)
    (hls : ∀ l ∈ lps, ∀ b ∈ loops c, firstId b = some l.key → l.Sound P φ N b) (hok : lpOk N (wrs c) lp = true) (hT : (lpTree P ct sy lps N fuel lp c).lok (sortsP (lp.ins.map (·.2))).length (lpCx P ct sy lp) lp (wrs c) = true) :
    Env P ct ((lp.sym, lp.sorts) :: sy) (updF φ lp.sym (lpF lp (lpCx P ct sy lp) (sortsP (lp.ins.map (·.2))).length (wrs c) (lpTree P ct sy lps N fuel lp c) φ)) ∧
      lp.Sound P (updF φ lp.sym (lpF lp (lpCx P ct sy lp) (sortsP (lp.ins.map (·.2))).length (wrs c) (lpTree P ct sy lps N fuel lp c) φ)) N c :=
  ⟨H.sym lp.sym lp.sorts _ hfr (lpF_has H.fit hok hT), lp_sound H.fit H.snd hls hok hT (updF_self _ _ _)⟩
theorem loops_one {k : Nat} {body c : Code} (h : loopsAt k body = [c]) : ∀ l ∈ loops body, firstId l = some k → l = c := by
  intro l hl hk
  have : l ∈ loopsAt k body := by
    unfold loopsAt
    rw [List.mem_filter]
    refine ⟨hl, ?_⟩
    rw [hk]
    exact Nat.beq_refl _
  rw [h] at this
  simpa using this
end Go.SX
