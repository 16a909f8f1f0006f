/- SX: arguments as variables, slices among them; a loop's contract out of its body. -/
import Derived.Test.YtfcddhicklhefaaGreatDoorSXn
namespace Go.SX
open Go Go.RowKit

/-! ### Arguments -/
def PK.okK : PK → Bool
  | .val false [_] => true
  | .val true _ => true
  | .sl (_ :: _) => true
  | _ => false
def sortsP (ps : List PK) : List So := ps.flatMap PK.sorts
def argsV : Nat → Nat → List PK → List SV
  | _, _, [] => []
  | i, e, p :: ps => match p with
    | .val a ss => .one ⟨a, (List.range' i ss.length).map fun j => .e (.var j)⟩ :: argsV (i + ss.length) e ps
    | .sl _ => .one ⟨false, [.e (.var e)]⟩ :: argsV (i + 2) (e + 1) ps
def vwV : Nat → Nat → List PK → List Vw
  | _, _, [] => []
  | i, e, p :: ps => match p with
    | .val _ ss => vwV (i + ss.length) e ps
    | .sl ss => ⟨e, i, i + 1, ss⟩ :: vwV (i + 2) (e + 1) ps
def exS : List PK → List So
  | [] => []
  | p :: ps => match p with
    | .val _ _ => exS ps
    | .sl _ => .one :: exS ps
def exV : List PK → List Value → List Value
  | p :: ps, x :: xs => match p with
    | .val _ _ => exV ps xs
    | .sl _ => x :: exV ps xs
  | _, _ => []
def vwFacts : List Vw → Facts
  | [] => []
  | v :: vs => (.cmp .lss (.int .i64 4611686018427387904) (.var v.l), false) :: (.cmp .lss (.var v.l) (.int .i64 0), false) :: vwFacts vs
/-- A function's, a loop's context. -/
def cxP (P : Program) (ct : List Sig) (sy : List (Nat × List So)) (ps : List PK) : Cx := ⟨P, sortsP ps ++ exS ps, ct, vwV 0 (sortsP ps).length ps, sy⟩

theorem all2_get {ss : List So} {vs : List Value} (h : All2 So.has ss vs) (i : Nat) : (ss.getD i .any).has (vs.getD i undef) := by
  rw [List.getD_eq_getElem?_getD, List.getD_eq_getElem?_getD]
  cases hs : ss[i]? with
  | none => trivial
  | some s =>
    obtain ⟨v, hv, hh⟩ := h.get hs
    rw [hv]
    exact hh

theorem getD_mid (A B C : List Value) (j : Nat) (h : j < B.length) : (A ++ B ++ C).getD (A.length + j) undef = B.getD j undef := by
  rw [List.getD_eq_getElem?_getD, List.append_assoc, List.getElem?_append_right (by omega), show A.length + j - A.length = j by omega, List.getElem?_append_left h, List.getD_eq_getElem?_getD]

theorem vars_is {ρ : Nat → Value} {φ : Nat → List Value → List Value} {β : Nat → Option Nat} : ∀ (l : List Value) (i : Nat), (∀ j, j < l.length → ρ (i + j) = l.getD j undef) →
    All2 (SC.is ρ φ β) ((List.range' i l.length).map fun j => .e (.var j)) l
  | [], _, _ => trivial
  | v :: l, i, h => by
    simp only [List.length_cons, List.range'_succ, List.map_cons]
    refine ⟨?_, vars_is l (i + 1) fun j hj => ?_⟩
    · have := h 0 (by simp)
      simp only [Nat.add_zero] at this
      exact this.symm
    · have := h (j + 1) (by simp; omega)
      rw [show i + 1 + j = i + (j + 1) by omega, this]
      rfl

/-- What the arguments are: A before them, X the slices' own variables before them. -/
theorem argsV_is {w : World} {φ : Nat → List Value → List Value} {β : Nat → Option Nat} {fm : Fm} {a0 : Array Value} : ∀ {ps : List PK} {xs fl : List Value} (A X : List Value) (ρ : Nat → Value), ps.all PK.okK = true → readsAll w ps xs fl →
    (∀ j, j < fl.length → ρ (A.length + j) = fl.getD j undef) → (∀ j, j < (exV ps xs).length → ρ (X.length + j) = (exV ps xs).getD j undef) →
    All2 (SV.is ρ φ β) (argsV A.length X.length ps) xs ∧ All2 So.has (sortsP ps) fl ∧ All2 So.has (exS ps) (exV ps xs) ∧ (∀ v ∈ vwV A.length X.length ps, v.ok ρ ⟨fm, a0, [], w⟩)
  | [], [], fl, A, X, ρ, _, h, _, _ => by
    have h : fl = [] := h
    subst h
    exact ⟨trivial, trivial, trivial, by simp [vwV]⟩
  | p :: ps, x :: xs, fl, A, X, ρ, hk, h, h1, h2 => by
    obtain ⟨f1, f2, rfl, hp, hr⟩ := h
    simp only [List.all_cons, Bool.and_eq_true] at hk
    have hin1 : ∀ j, j < f1.length → ρ (A.length + j) = f1.getD j undef := by
      intro j hj
      rw [h1 j (by simp; omega), List.getD_eq_getElem?_getD, List.getElem?_append_left hj, List.getD_eq_getElem?_getD]
    have hin2 : ∀ j, j < f2.length → ρ ((A ++ f1).length + j) = f2.getD j undef := by
      intro j hj
      have := h1 (f1.length + j) (by simp; omega)
      rw [List.length_append, Nat.add_assoc, this, List.getD_eq_getElem?_getD, List.getElem?_append_right (by omega), show f1.length + j - f1.length = j by omega, List.getD_eq_getElem?_getD]
    cases p with
    | val a ss =>
      have key : All2 So.has ss f1 ∧ (SV.one ⟨a, (List.range' A.length ss.length).map fun j => .e (.var j)⟩).is ρ φ β x := by
        cases a with
        | true =>
          obtain ⟨rfl, h4⟩ := hp
          refine ⟨h4, f1, rfl, ?_⟩
          have := vars_is (φ := φ) (β := β) f1 A.length hin1
          rw [← h4.length] at this
          exact this
        | false =>
          match ss, hk.1, hp with
          | [s], _, hp =>
            obtain ⟨rfl, h4⟩ := hp
            refine ⟨h4, ?_⟩
            have := hin1 0 (by simp)
            simp only [Nat.add_zero] at this
            exact this.symm
      obtain ⟨k1, k2⟩ := key
      have hlen := k1.length
      obtain ⟨g1, g2, g3, g4⟩ := argsV_is (φ := φ) (β := β) (fm := fm) (a0 := a0) (A ++ f1) X ρ hk.2 hr hin2 (by simpa [exV] using h2)
      have e : (A ++ f1).length = A.length + ss.length := by rw [List.length_append, hlen]
      rw [e] at g1 g4
      refine ⟨⟨k2, g1⟩, ?_, ?_, g4⟩
      · unfold sortsP at *
        simp only [List.flatMap_cons, PK.sorts]
        exact All2.append k1 g2
      · simpa [exS, exV] using g3
    | sl ss =>
      obtain ⟨ad, len, cap, vs, rfl, rfl, h4, h5, h6, h7, h8⟩ := hp
      have hx0 := h2 0 (by simp [exV])
      simp only [exV, Nat.add_zero, List.getD_cons_zero] at hx0
      obtain ⟨g1, g2, g3, g4⟩ := argsV_is (φ := φ) (β := β) (fm := fm) (a0 := a0) (A ++ [.int .i64 (Int.ofNat len), .tuple vs.toArray]) (X ++ [.slice ad len cap]) ρ hk.2 hr hin2 (fun j hj => by
        have := h2 (j + 1) (by simp [exV]; omega)
        simp only [exV, List.getD_cons_succ] at this
        rw [List.length_append, List.length_cons, List.length_nil, show X.length + (0 + 1) + j = X.length + (j + 1) by omega]
        exact this)
      simp only [List.length_append, List.length_cons, List.length_nil] at g1 g4
      refine ⟨⟨hx0.symm, g1⟩, ?_, ⟨rfl, g3⟩, ?_⟩
      · unfold sortsP at *
        simp only [List.flatMap_cons, PK.sorts]
        have hi : (Int.ofNat len) ≤ 4611686018427387904 := Int.ofNat_le.2 h6
        exact ⟨⟨_, rfl, by simp [lowOf], by simp only [highOf]; omega⟩, trivial, g2⟩
      · intro v hv
        simp only [vwV, List.mem_cons] at hv
        rcases hv with rfl | hv
        · have ha := hin1 0 (by simp)
          have hb := hin1 1 (by simp)
          simp only [Nat.add_zero, List.getD_cons_zero, List.getD_cons_succ] at ha hb
          refine ⟨ad, len, cap, vs, hx0, ha, hb, h4, h5, h6, ?_, h7, ?_⟩
          · match ss, hk.1 with
            | _ :: _, _ => simp
          · rcases h8 with h8 | ⟨b, off, h8, hbl, hcell⟩
            · exact Or.inl h8
            · exact Or.inr ⟨b, off, h8, hbl, by simp, hcell⟩
        · exact g4 v hv
  | [], _ :: _, _, _, _, _, _, h, _, _ => h.elim
  | _ :: _, [], _, _, _, _, _, h, _, _ => h.elim

theorem vwFacts_hold {ρ : Nat → Value} {φ : Nat → List Value → List Value} {fx : Fx} : ∀ {vs : List Vw}, (∀ v ∈ vs, v.ok ρ fx) → (vwFacts vs).hold ρ φ
  | [], _, p, hp => by simp [vwFacts] at hp
  | v :: vs, h, p, hp => by
    obtain ⟨ad, len, cap, us, _, h2, _, _, _, h6, _⟩ := h v (by simp)
    have hi : (Int.ofNat len) ≤ 4611686018427387904 := Int.ofNat_le.2 h6
    have h0 : (0 : Int) ≤ Int.ofNat len := Int.natCast_nonneg len
    simp only [vwFacts, List.mem_cons] at hp
    rcases hp with rfl | rfl | hp
    · simp only [E.den, h2, icmp, vint_int]
      exact congrArg Value.bool (decide_eq_false (by omega))
    · simp only [E.den, h2, icmp, vint_int]
      exact congrArg Value.bool (decide_eq_false (by omega))
    · exact vwFacts_hold (fun v hv => h v (by simp [hv])) p hp

/-! ### Terms that name the first variables only -/
def E.lt (n : Nat) : E → Bool
  | .var i => Nat.blt i n
  | .bin _ _ a b | .shf _ _ a b | .cmp _ a b | .beq a b | .seq a b | .idx a b | .cons a b | .byte a b => a.lt n && b.lt n
  | .not a | .conv _ a | .app _ _ a | .len a | .tup a => a.lt n
  | .ite a b c | .cut a b c => a.lt n && b.lt n && c.lt n
  | .el g i _ _ _ => g.lt n && i.lt n
  | .int _ _ | .bool _ | .val _ | .nil => true
theorem lt_den {n : Nat} {ρ ρ' : Nat → Value} (φ : Nat → List Value → List Value) (h : ∀ i, i < n → ρ i = ρ' i) : ∀ e : E, e.lt n = true → e.den ρ φ = e.den ρ' φ ∧ e.dens ρ φ = e.dens ρ' φ := by
  intro e
  induction e with
  | var i =>
    intro hl
    simp only [E.lt, Nat.blt] at hl
    exact ⟨h i (Nat.lt_of_succ_le (Nat.le_of_ble_eq_true hl)), rfl⟩
  | int k n => intro _; exact ⟨rfl, rfl⟩
  | bool b => intro _; exact ⟨rfl, rfl⟩
  | val v => intro _; exact ⟨rfl, rfl⟩
  | nil => intro _; exact ⟨rfl, rfl⟩
  | bin o k a b iha ihb => intro hl; simp only [E.lt, Bool.and_eq_true] at hl; exact ⟨by simp only [E.den, (iha hl.1).1, (ihb hl.2).1], rfl⟩
  | shf o k a b iha ihb => intro hl; simp only [E.lt, Bool.and_eq_true] at hl; exact ⟨by simp only [E.den, (iha hl.1).1, (ihb hl.2).1], rfl⟩
  | cmp o a b iha ihb => intro hl; simp only [E.lt, Bool.and_eq_true] at hl; exact ⟨by simp only [E.den, (iha hl.1).1, (ihb hl.2).1], rfl⟩
  | beq a b iha ihb => intro hl; simp only [E.lt, Bool.and_eq_true] at hl; exact ⟨by simp only [E.den, (iha hl.1).1, (ihb hl.2).1], rfl⟩
  | seq a b iha ihb => intro hl; simp only [E.lt, Bool.and_eq_true] at hl; exact ⟨by simp only [E.den, (iha hl.1).1, (ihb hl.2).1], rfl⟩
  | byte a b iha ihb => intro hl; simp only [E.lt, Bool.and_eq_true] at hl; exact ⟨by simp only [E.den, (iha hl.1).1, (ihb hl.2).1], rfl⟩
  | idx a b iha ihb => intro hl; simp only [E.lt, Bool.and_eq_true] at hl; exact ⟨by simp only [E.den, (iha hl.1).1, (ihb hl.2).2], rfl⟩
  | cons a b iha ihb => intro hl; simp only [E.lt, Bool.and_eq_true] at hl; exact ⟨rfl, by simp only [E.dens, (iha hl.1).1, (ihb hl.2).2]⟩
  | not a iha => intro hl; simp only [E.lt] at hl; exact ⟨by simp only [E.den, (iha hl).1], rfl⟩
  | conv k a iha => intro hl; simp only [E.lt] at hl; exact ⟨by simp only [E.den, (iha hl).1], rfl⟩
  | app g j a iha => intro hl; simp only [E.lt] at hl; exact ⟨by simp only [E.den, (iha hl).2], rfl⟩
  | len a iha => intro hl; simp only [E.lt] at hl; exact ⟨by simp only [E.den, (iha hl).1], rfl⟩
  | tup a iha => intro hl; simp only [E.lt] at hl; exact ⟨by simp only [E.den, (iha hl).2], rfl⟩
  | ite a b c iha ihb ihc => intro hl; simp only [E.lt, Bool.and_eq_true] at hl; exact ⟨by simp only [E.den, (iha hl.1.1).1, (ihb hl.1.2).1, (ihc hl.2).1], rfl⟩
  | cut a b c iha ihb ihc => intro hl; simp only [E.lt, Bool.and_eq_true] at hl; exact ⟨by simp only [E.den, (iha hl.1.1).1, (ihb hl.1.2).1, (ihc hl.2).1], rfl⟩
  | el g i sz o s ihg ihi => intro hl; simp only [E.lt, Bool.and_eq_true] at hl; exact ⟨by simp only [E.den, (ihg hl.1).1, (ihi hl.2).1], rfl⟩

section
variable (ρ : Nat → Value) (φ : Nat → List Value → List Value)
def SC.val : SC → Value
  | .e x => x.den ρ φ
  | _ => undef
def Part.vals (p : Part) : List Value := p.cs.map (SC.val ρ φ)
end
def cellsOk (cx : Cx) (n : Nat) : List So → List SC → Bool
  | [], [] => true
  | s :: ss, .e x :: cs => (decide (s = .any) || decide (cx.so x = s)) && x.lt n && cellsOk cx n ss cs
  | _, _ => false
def partOk (cx : Cx) (n : Nat) (r : RK) (p : Part) : Bool :=
  match r with
  | .val a ss => (a == p.agg) && cellsOk cx n ss p.cs && (a || Nat.beq ss.length 1)
  | .row _ _ => false
section
variable {ρ : Nat → Value} {φ : Nat → List Value → List Value} {cx : Cx}
theorem cellsOk_has (F : Fits cx.Γ cx.S ρ φ) {n : Nat} : ∀ {ss : List So} {cs : List SC}, cellsOk cx n ss cs = true → All2 So.has ss (cs.map (SC.val ρ φ)) ∧ ∀ β, ∀ vs : List Value, All2 (SC.is ρ φ β) cs vs → vs = cs.map (SC.val ρ φ)
  | [], [], _ => ⟨trivial, fun β vs h => by cases vs with | nil => rfl | cons _ _ => exact h.elim⟩
  | s :: ss, .e x :: cs, h => by
    simp only [cellsOk, Bool.and_eq_true] at h
    obtain ⟨h1, h2⟩ := cellsOk_has F h.2
    refine ⟨⟨has_of F h.1.1, h1⟩, fun β vs hv => ?_⟩
    cases vs with
    | nil => exact hv.elim
    | cons v vs =>
      have e1 : v = x.den ρ φ := hv.1
      rw [e1, h2 β vs hv.2]
      rfl
  | [], _ :: _, h => by simp [cellsOk] at h
  | _ :: _, [], h => by simp [cellsOk] at h
  | _ :: _, .ptr _ _ :: _, h => by simp [cellsOk] at h
  | _ :: _, .pti _ _ _ :: _, h => by simp [cellsOk] at h
  | _ :: _, .slc _ _ _ _ :: _, h => by simp [cellsOk] at h
  | _ :: _, .vad _ _ _ _ :: _, h => by simp [cellsOk] at h
theorem cellsOk_lt {n : Nat} {ρ' : Nat → Value} (hρ : ∀ i, i < n → ρ i = ρ' i) : ∀ {ss : List So} {cs : List SC}, cellsOk cx n ss cs = true → cs.map (SC.val ρ φ) = cs.map (SC.val ρ' φ)
  | [], [], _ => rfl
  | s :: ss, .e x :: cs, h => by
    simp only [cellsOk, Bool.and_eq_true] at h
    simp only [List.map_cons, SC.val, (lt_den φ hρ x h.1.2).1, cellsOk_lt hρ h.2]
  | [], _ :: _, h => by simp [cellsOk] at h
  | _ :: _, [], h => by simp [cellsOk] at h
  | _ :: _, .ptr _ _ :: _, h => by simp [cellsOk] at h
  | _ :: _, .pti _ _ _ :: _, h => by simp [cellsOk] at h
  | _ :: _, .slc _ _ _ _ :: _, h => by simp [cellsOk] at h
  | _ :: _, .vad _ _ _ _ :: _, h => by simp [cellsOk] at h
theorem partOk_lt {n : Nat} {ρ' : Nat → Value} (hρ : ∀ i, i < n → ρ i = ρ' i) {r : RK} {p : Part} (h : partOk cx n r p = true) : p.vals ρ φ = p.vals ρ' φ := by
  unfold partOk at h
  split at h
  · simp only [Bool.and_eq_true] at h
    exact cellsOk_lt hρ h.1.2
  · exact absurd h (by simp)

theorem pick_mid (A B C : List Value) : pick (A ++ B ++ C) A.length B.length = B := by
  unfold pick
  apply List.ext_getElem
  · simp
  · intro i h1 h2
    simp only [List.getElem_map, List.getElem_range', Nat.one_mul]
    rw [List.getD_eq_getElem?_getD, List.append_assoc, List.getElem?_append_right (by omega)]
    rw [show A.length + i - A.length = i by omega, List.getElem?_append_left (by omega)]
    simp [h2]

theorem partOk_gives (F : Fits cx.Γ cx.S ρ φ) {n : Nat} {r : RK} {p : Part} (h : partOk cx n r p = true) : All2 So.has r.sorts (p.vals ρ φ) ∧
    ∀ β x (w w' : World) (A C : List Value), p.is ρ φ β x → r.gives w w' (A ++ p.vals ρ φ ++ C) A.length x := by
  unfold partOk at h
  unfold Part.vals
  split at h
  · rename_i a ss
    simp only [Bool.and_eq_true] at h
    obtain ⟨⟨h1, h2⟩, h3⟩ := h
    have h1 : a = p.agg := by simpa using h1
    obtain ⟨g1, g2⟩ := cellsOk_has F h2
    refine ⟨g1, fun β x w w' A C hp => ?_⟩
    have hl := g1.length
    obtain ⟨pa, pc⟩ := p
    simp only at h1 g1 g2 hl
    subst h1
    cases a with
    | true =>
      obtain ⟨vs, rfl, ha⟩ := hp
      have := g2 β vs ha
      subst this
      simp only [RK.gives]
      rw [hl, pick_mid]
    | false =>
      rw [Bool.false_or] at h3
      have h3 := Nat.eq_of_beq_eq_true h3
      match pc, hl, hp, g2 with
      | [c], _, hp, g2 =>
        have := g2 β [x] ⟨hp, trivial⟩
        simp only [List.map_cons, List.map_nil, List.cons.injEq, and_true] at this
        subst this
        simp only [RK.gives, List.map_cons, List.map_nil]
        rw [List.getD_eq_getElem?_getD, List.append_assoc, List.getElem?_append_right (Nat.le_refl _)]
        simp
      | [], hl, _, _ => simp only [List.map_nil, List.length_nil] at hl; omega
      | _ :: _ :: _, hl, _, _ => simp only [List.map_cons, List.length_cons] at hl; omega
  · exact absurd h (by simp)
/-- A value of a kind, as an argument reads it. -/
theorem partOk_reads (F : Fits cx.Γ cx.S ρ φ) {n : Nat} {a : Bool} {ss : List So} {p : Part} (h : partOk cx n (.val a ss) p = true) {β : Nat → Option Nat} {x : Value} {w : World} (hp : p.is ρ φ β x) : (PK.val a ss).reads w x (p.vals ρ φ) := by
  obtain ⟨h1, h2⟩ := partOk_gives F h
  have h3 := h2 β x w w [] [] hp
  simp only [List.nil_append, List.append_nil, List.length_nil] at h3
  have hl : ss.length = (p.vals ρ φ).length := h1.length
  cases a with
  | true =>
    refine ⟨?_, h1⟩
    have e := pick_mid [] (p.vals ρ φ) []
    simp only [List.nil_append, List.append_nil, List.length_nil] at e
    have h3 : x = .agg (pick (p.vals ρ φ) 0 ss.length).toArray := h3
    rw [h3, hl, e]
  | false =>
    have hss : ss.length = 1 := by
      unfold partOk at h
      simp only [Bool.and_eq_true, Bool.false_or] at h
      exact Nat.eq_of_beq_eq_true h.2
    have h3 : x = (p.vals ρ φ).getD 0 undef := h3
    refine ⟨?_, h1⟩
    generalize p.vals ρ φ = l at h3 hl
    match l, hl, h3 with
    | [y], _, h3 => simp at h3; rw [h3]
    | [], hl, _ => simp only [List.length_nil] at hl; omega
    | _ :: _ :: _, hl, _ => simp only [List.length_cons] at hl; omega
end
end Go.SX
