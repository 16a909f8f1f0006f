/- SX: calls by their contracts; all operations. -/
import Derived.Test.YthakekgdllmbcaaDoorSXg
import Derived.ChangeKeysEq
namespace Go.SX
open Go Go.RowKit

/-! ### What a contract says -/
def PK.reads (w : World) : PK → Value → List Value → Prop
  | .val true ss, v, fl => v = .agg fl.toArray ∧ All2 So.has ss fl
  | .val false ss, v, fl => fl = [v] ∧ All2 So.has ss fl
  | .sl ss, v, fl => ∃ a len cap, ∃ vs : List Value, v = .slice a len cap ∧ fl = [.int .i64 (Int.ofNat len), .tuple vs.toArray] ∧ vs.length = len * ss.length ∧ len ≤ cap ∧ len ≤ 4611686018427387904 ∧
      (∀ i u, vs[i]? = some u → (ss.getD (i % ss.length) .any).has u) ∧
      ((a = none ∧ len = 0 ∧ cap = 0) ∨ ∃ b off, a = some ⟨b, off, none⟩ ∧ b < w.heap.size ∧ ∀ i u, vs[i]? = some u → w.cell? ⟨b, off + i, none⟩ = some u)
def readsAll (w : World) : List PK → List Value → List Value → Prop
  | [], [], fl => fl = []
  | p :: ps, v :: vs, fl => ∃ f1 f2, fl = f1 ++ f2 ∧ p.reads w v f1 ∧ readsAll w ps vs f2
  | _, _, _ => False
def pick (out : List Value) (j n : Nat) : List Value := (List.range' j n).map fun i => out.getD i undef
def RK.gives (w w' : World) (out : List Value) (j : Nat) : RK → Value → Prop
  | .val true ss, x => x = .agg (pick out j ss.length).toArray
  | .val false _, x => x = out.getD j undef
  | .row n _, x => ∃ b T, x = .slice (some ⟨b, 0, none⟩) n n ∧ w.heap.size ≤ b ∧ w'.heap[b]? = some (.cells (pick out j n).toArray T (0, 0))
def givesAll (w w' : World) (out : List Value) : Nat → List RK → List Value → Prop
  | _, [], [] => True
  | j, r :: rs, x :: xs => r.gives w w' out j x ∧ givesAll w w' out (j + r.sorts.length) rs xs
  | _, _, _ => False
def retGives (w w' : World) (out : List Value) (rs : List RK) (x : Value) : Prop :=
  match rs with
  | [r] => r.gives w w' out 0 x
  | rs => ∃ xs : List Value, x = .tuple xs.toArray ∧ givesAll w w' out 0 rs xs

structure Sig.Sound (P : Program) (φ : Nat → List Value → List Value) (g : Sig) : Prop where
  call : ∀ (args : Array Value) (w : World), (callFunc g.f args).run P w = .ok (.enter g.f args) w
  does : ∀ (w : World) (xs fl : List Value), readsAll w g.ps xs fl → g.pre.hold (fun i => fl.getD i undef) (fun _ _ => []) → (∀ p ∈ g.fix, fl.getD p.1 undef = p.2.den (fun _ => undef) (fun _ _ => [])) →
    Calls P g.f xs.toArray w fun e w' => ∃ x, e = .returned x ∧ retGives w w' (φ g.sym fl) g.rs x ∧ Below w.heap.size w w'
  tells : ∀ fl : List Value, All2 So.has (g.ps.flatMap PK.sorts) fl → (φ g.sym fl).getD 0 undef = .bool true → g.imp.hold (fun i => fl.getD i undef) (fun _ _ => [])
def CtSound (cx : Cx) (φ : Nat → List Value → List Value) : Prop := ∀ g ∈ cx.ct, g.Sound cx.P φ

/-! ### Arguments -/
def exs : List SC → Option (List E)
  | [] => some []
  | .e x :: cs => (exs cs).map (x :: ·)
  | _ => none
def soOk (cx : Cx) : List So → List E → Bool
  | [], [] => true
  | s :: ss, x :: xs => (decide (s = .any) || decide (cx.so x = s)) && soOk cx ss xs
  | _, _ => false
def soRep (cx : Cx) (ss : List So) : List E → Nat → Bool
  | [], _ => true
  | x :: xs, i => (decide (ss.getD (i % ss.length) .any = .any) || decide (cx.so x = ss.getD (i % ss.length) .any)) && soRep cx ss xs (i + 1)
def toL : List E → E
  | [] => .nil
  | x :: xs => .cons x (toL xs)

def flat1 (cx : Cx) (B : BK) (p : PK) (s : SV) : Option (List E) :=
  match p, s with
  | .val agg ss, .one ⟨agg', cs⟩ =>
    if agg == agg' then match exs cs with
      | some es => if soOk cx ss es then some es else none
      | none => none
    else none
  | .sl ss, .one ⟨false, [.slc id off len cap]⟩ =>
    match B id with
    | some row => match exs ((row.drop off).take (len * ss.length)) with
      | some es => if Nat.beq es.length (len * ss.length) && Nat.ble len cap && Nat.ble len 4611686018427387904 && soRep cx ss es 0 then some [.int .i64 (Int.ofNat len), .tup (toL es)] else none
      | none => none
    | none => none
  | .sl _, .one ⟨false, [.e (.val (.slice none 0 0))]⟩ => some [.int .i64 (Int.ofNat 0), .tup .nil]
  | .sl ss, .one ⟨false, [.e (.var i)]⟩ =>
    match findVw i cx.vw with
    | some v => if decide (v.ss = ss) then some [.var v.l, .var v.g] else none
    | none => none
  | _, _ => none
def flats (cx : Cx) (L : LK) (B : BK) : List PK → List Operand → Option (List E)
  | [], [] => some []
  | p :: ps, x :: xs =>
    match opd L x with
    | some s => match flat1 cx B p s, flats cx L B ps xs with
      | some a, some b => some (a ++ b)
      | _, _ => none
    | none => none
  | _, _ => none
section
variable {ρ : Nat → Value} {φ : Nat → List Value → List Value} {cx : Cx} {fx : Fx} {L : LK} {B : BK} {β : Nat → Option Nat} {a : Act} {w : World}
theorem toL_dens : ∀ es : List E, (toL es).dens ρ φ = es.map (·.den ρ φ)
  | [] => rfl
  | x :: xs => by simp [toL, E.dens, toL_dens xs]
theorem exs_is : ∀ {cs : List SC} {es : List E} {vs : List Value}, exs cs = some es → All2 (SC.is ρ φ β) cs vs → vs = es.map (·.den ρ φ)
  | [], es, vs, h, ha => by
    simp only [exs, Option.some.injEq] at h
    subst h
    cases vs with
    | nil => rfl
    | cons _ _ => exact ha.elim
  | .e x :: cs, es, vs, h, ha => by
    simp only [exs, Option.map_eq_some_iff] at h
    obtain ⟨es', he, rfl⟩ := h
    cases vs with
    | nil => exact ha.elim
    | cons v vs =>
      have h1 : v = x.den ρ φ := ha.1
      rw [h1, exs_is he ha.2]
      rfl
  | .ptr _ _ :: _, _, _, h, _ => by simp [exs] at h
  | .pti _ _ _ :: _, _, _, h, _ => by simp [exs] at h
  | .slc _ _ _ _ :: _, _, _, h, _ => by simp [exs] at h
  | .vad _ _ _ _ :: _, _, _, h, _ => by simp [exs] at h
theorem has_of (F : Fits cx.Γ cx.S ρ φ) {s : So} {x : E} (h : (decide (s = .any) || decide (cx.so x = s)) = true) : s.has (x.den ρ φ) := by
  rw [Bool.or_eq_true] at h
  rcases h with h | h
  · have h := of_decide_eq_true h
    subst h
    trivial
  · have h := of_decide_eq_true h
    rw [← h]
    exact E.so_has F x
theorem soOk_has (F : Fits cx.Γ cx.S ρ φ) : ∀ {ss : List So} {es : List E}, soOk cx ss es = true → All2 So.has ss (es.map (·.den ρ φ))
  | [], [], _ => trivial
  | s :: ss, x :: xs, h => by
    simp only [soOk, Bool.and_eq_true] at h
    exact ⟨has_of F h.1, soOk_has F h.2⟩
  | [], _ :: _, h => by simp [soOk] at h
  | _ :: _, [], h => by simp [soOk] at h
theorem soRep_has (F : Fits cx.Γ cx.S ρ φ) {ss : List So} : ∀ {es : List E} {k : Nat}, soRep cx ss es k = true → ∀ i u, (es.map (·.den ρ φ))[i]? = some u → (ss.getD ((k + i) % ss.length) .any).has u
  | [], k, _, i, u, hu => by simp at hu
  | x :: xs, k, h, 0, u, hu => by
    simp only [soRep, Bool.and_eq_true] at h
    simp at hu
    subst hu
    exact has_of F h.1
  | x :: xs, k, h, i + 1, u, hu => by
    simp only [soRep, Bool.and_eq_true] at h
    have := soRep_has F h.2 i u (by simpa using hu)
    rwa [show k + 1 + i = k + (i + 1) by omega] at this

theorem flat1_reads (V : Views cx ρ fx) (F : Fits cx.Γ cx.S ρ φ) (H : M ρ φ fx L B β a w) {p : PK} {s : SV} {es : List E} {v : Value} (h : flat1 cx B p s = some es) (hv : s.is ρ φ β v) :
    p.reads w v (es.map (·.den ρ φ)) := by
  unfold flat1 at h
  split at h
  · rename_i agg ss agg' cs
    split at h
    · rename_i hag
      have hag : agg = agg' := by simpa using hag
      subst hag
      split at h
      · rename_i es' hes
        split at h
        · rename_i hso
          simp only [Option.some.injEq] at h
          subst h
          cases agg with
          | true =>
            obtain ⟨vs, rfl, ha⟩ := hv
            have := exs_is hes ha
            subst this
            exact ⟨rfl, soOk_has F hso⟩
          | false =>
            match cs, hv, hes with
            | [c], hv, hes =>
              have := exs_is (vs := [v]) hes ⟨hv, trivial⟩
              exact ⟨this.symm, soOk_has F hso⟩
        · exact absurd h (by simp)
      · exact absurd h (by simp)
    · exact absurd h (by simp)
  · rename_i ss id off len cap
    split at h
    · rename_i row hr
      split at h
      · rename_i es' hes
        split at h
        · rename_i hc
          simp only [Bool.and_eq_true] at hc
          obtain ⟨⟨⟨h1, h2⟩, h2'⟩, h3⟩ := hc
          have h1 := Nat.eq_of_beq_eq_true h1
          have h2 := Nat.le_of_ble_eq_true h2
          have h2' := Nat.le_of_ble_eq_true h2'
          simp only [Option.some.injEq] at h
          subst h
          obtain ⟨b, hb, rfl⟩ := hv
          obtain ⟨b', vs, T, hb', hlo, hh, ha⟩ := H.box id row hr
          rw [hb] at hb'
          simp only [Option.some.injEq] at hb'
          subst hb'
          have hvs := exs_is hes ((ha.drop off).take (len * ss.length))
          refine ⟨_, len, cap, es'.map (·.den ρ φ), rfl, by simp [E.den, toL_dens], by simpa using h1, h2, h2', ?_, Or.inr ⟨b, off, rfl, H.inh _ _ hb, ?_⟩⟩
          · intro i u hu
            have := soRep_has F h3 i u hu
            simpa using this
          · intro i u hu
            rw [← hvs] at hu
            have hi : i < len * ss.length := by
              have := (List.getElem?_eq_some_iff.1 hu).1
              have := List.length_take_le (len * ss.length) (vs.drop off)
              omega
            rw [List.getElem?_take, if_pos hi, List.getElem?_drop] at hu
            rw [cell_at hh, hu]
        · exact absurd h (by simp)
      · exact absurd h (by simp)
    · exact absurd h (by simp)
  · rename_i ss
    simp only [Option.some.injEq] at h
    subst h
    have hv : v = .slice none 0 0 := hv
    subst hv
    exact ⟨none, 0, 0, [], rfl, by simp [E.den, E.dens], by simp, Nat.le_refl _, Nat.zero_le _, by simp, Or.inl ⟨rfl, rfl, rfl⟩⟩
  · rename_i ss i
    split at h
    · rename_i v hvw
      obtain ⟨hmem, rfl⟩ := findVw_mem hvw
      split at h
      · rename_i hss
        have hss := of_decide_eq_true hss
        subst hss
        simp only [Option.some.injEq] at h
        subst h
        obtain ⟨ad, len, cap, vs, h1, h2, h3, h4, h4', h5, h6, h7, h8⟩ := V v hmem
        have hv : _ = E.den ρ φ (.var v.i) := hv
        subst hv
        refine ⟨ad, len, cap, vs, h1, by simp [E.den, h2, h3], h4, h4', h5, h7, ?_⟩
        rcases h8 with h8 | ⟨b, off, h8, hbl, hbX, hcell⟩
        · exact Or.inl h8
        · refine Or.inr ⟨b, off, h8, Nat.lt_of_lt_of_le hbl H.low.size, fun i u hu => ?_⟩
          rw [H.old hbl hbX]
          exact hcell i u hu
      · exact absurd h (by simp)
    · exact absurd h (by simp)
  · exact absurd h (by simp)

theorem flats_reads (V : Views cx ρ fx) (F : Fits cx.Γ cx.S ρ φ) (H : M ρ φ fx L B β a w) : ∀ {ps : List PK} {xs : List Operand} {es : List E}, flats cx L B ps xs = some es →
    readsAll w ps (xs.map a.eval) (es.map (·.den ρ φ))
  | [], [], es, h => by
    simp only [flats, Option.some.injEq] at h
    subst h
    rfl
  | p :: ps, x :: xs, es, h => by
    simp only [flats] at h
    split at h
    · rename_i s hs
      split at h
      · rename_i e1 e2 h1 h2
        simp only [Option.some.injEq] at h
        subst h
        exact ⟨_, _, List.map_append, flat1_reads V F H h1 (opd_is H hs), flats_reads V F H h2⟩
      · exact absurd h (by simp)
    · exact absurd h (by simp)
  | [], _ :: _, _, h => by simp [flats] at h
  | _ :: _, [], _, h => by simp [flats] at h
end

/-! ### Results -/
def apps (sym : Nat) (args : E) (j n : Nat) : List SC := (List.range' j n).map fun i => .e (.app sym i args)
def RK.part (sym : Nat) (args : E) (nid j : Nat) : RK → Part
  | .val true ss => ⟨true, apps sym args j ss.length⟩
  | .val false _ => ⟨false, [.e (.app sym j args)]⟩
  | .row n _ => ⟨false, [.slc nid 0 n n]⟩
def parts (sym : Nat) (args : E) (nid : Nat) : Nat → List RK → List Part
  | _, [] => []
  | j, r :: rs => r.part sym args nid j :: parts sym args nid (j + r.sorts.length) rs
def rowsOf (sym : Nat) (args : E) : Nat → List RK → List (List SC)
  | _, [] => []
  | j, r :: rs => match r with
    | .row n _ => apps sym args j n :: rowsOf sym args (j + r.sorts.length) rs
    | _ => rowsOf sym args (j + r.sorts.length) rs
def retX (nid : Nat) (g : Sig) (args : E) : OR :=
  match rowsOf g.sym args 0 g.rs with
  | [] => .ok ⟨match g.rs with | [r] => .one (r.part g.sym args nid 0) | rs => .tup (parts g.sym args nid 0 rs), none, none⟩
  | [row] => .ok ⟨match g.rs with | [r] => .one (r.part g.sym args nid 0) | rs => .tup (parts g.sym args nid 0 rs), some row, none⟩
  | _ => .stuck

/-- Literals. -/
def E.isLit : E → Bool
  | .int _ _ | .bool _ | .val _ => true
  | _ => false
def fixOk (es : List E) (fx : List (Nat × E)) : Bool := fx.all fun p => p.2.isLit && (atL es p.1).eqv p.2
/-- The first contract that fits. -/
def callG (cx : Cx) (L : LK) (B : BK) (fs : Facts) (nid : Nat) (args : List Operand) (f : FuncId) : List Sig → OR
  | [] => .stuck
  | g :: gs =>
    if Nat.beq g.f f then
      match flats cx L B g.ps args with
      | some es => if fixOk es g.fix && preOk cx fs es g.pre && (g.pre.all fun p => p.1.noApp) then retX nid g (toL es) else callG cx L B fs nid args f gs
      | none => callG cx L B fs nid args f gs
    else callG cx L B fs nid args f gs
def callX (cx : Cx) (L : LK) (B : BK) (fs : Facts) (nid : Nat) (c : Call) : OR :=
  match c.callee with
  | .value fo => match (opd L fo).bind SV.ex with
    | some (.val (.func (.func f) fi ca)) =>
      if Nat.beq fi.size 0 && Nat.beq ca.size 0 then callG cx L B fs nid c.args.toList f cx.ct
      else .stuck
    | _ => .stuck
  | _ => .stuck
theorem callG_some {cx : Cx} {L : LK} {B : BK} {fs : Facts} {nid : Nat} {args : List Operand} {f : FuncId} {δ : Dl} : ∀ {gs : List Sig}, callG cx L B fs nid args f gs = .ok δ →
    ∃ g es, g ∈ gs ∧ g.f = f ∧ flats cx L B g.ps args = some es ∧ fixOk es g.fix = true ∧ preOk cx fs es g.pre = true ∧ (g.pre.all fun p => p.1.noApp) = true ∧ retX nid g (toL es) = .ok δ
  | [], h => by simp [callG] at h
  | g :: gs, h => by
    have rec' : callG cx L B fs nid args f gs = .ok δ → ∃ g' es, g' ∈ g :: gs ∧ g'.f = f ∧ flats cx L B g'.ps args = some es ∧ fixOk es g'.fix = true ∧ preOk cx fs es g'.pre = true ∧ (g'.pre.all fun p => p.1.noApp) = true ∧ retX nid g' (toL es) = .ok δ := by
      intro h
      obtain ⟨g', es, h1, h2⟩ := callG_some h
      exact ⟨g', es, List.mem_cons_of_mem _ h1, h2⟩
    simp only [callG] at h
    split at h
    · rename_i hf
      split at h
      · rename_i es hes
        split at h
        · rename_i hc
          simp only [Bool.and_eq_true] at hc
          exact ⟨g, es, by simp, Nat.eq_of_beq_eq_true hf, hes, hc.1.1, hc.1.2, hc.2, h⟩
        · exact rec' h
      · exact rec' h
    · exact rec' h
theorem isLit_den {e : E} (h : e.isLit = true) (ρ ρ' : Nat → Value) (φ φ' : Nat → List Value → List Value) : e.den ρ φ = e.den ρ' φ' := by
  cases e <;> first | rfl | simp [E.isLit] at h
theorem fixOk_fits {ρ : Nat → Value} {φ : Nat → List Value → List Value} {es : List E} {fx : List (Nat × E)} (h : fixOk es fx = true) : ∀ p ∈ fx, (es.map (·.den ρ φ)).getD p.1 undef = p.2.den (fun _ => undef) (fun _ _ => []) := by
  intro p hp
  have := List.all_eq_true.1 h p hp
  rw [Bool.and_eq_true] at this
  have e1 := E.eqv_eq this.2
  have e2 : (atL es p.1).den ρ φ = (es.map (·.den ρ φ)).getD p.1 undef := by
    unfold atL
    rw [List.getD_eq_getElem?_getD, List.getD_eq_getElem?_getD, List.getElem?_map]
    cases es[p.1]? <;> rfl
  rw [← e2, e1]
  exact isLit_den this.1 _ _ _ _

section
variable {ρ : Nat → Value} {φ : Nat → List Value → List Value} {cx : Cx} {fx : Fx} {L : LK} {B : BK} {β : Nat → Option Nat} {a : Act} {w w' : World}
theorem apps_is (sym : Nat) (args : E) (j n : Nat) : All2 (SC.is ρ φ β) (apps sym args j n) (pick (φ sym (args.dens ρ φ)) j n) := by
  unfold apps pick
  induction List.range' j n with
  | nil => trivial
  | cons i is ih => exact ⟨rfl, ih⟩

/-- Where the blocks of a call's rows lie. -/
def RowAt (w' : World) (β' : Nat → Option Nat) (nid : Nat) (vals : List Value) : Prop :=
  ∃ b T, β' nid = some b ∧ w'.heap[b]? = some (.cells vals.toArray T (0, 0))

theorem part_val {sym : Nat} {args : E} {nid j : Nat} {r : RK} {x : Value} (hr : ∀ n s, r ≠ .row n s) (h : r.gives w w' (φ sym (args.dens ρ φ)) j x) :
    (r.part sym args nid j).is ρ φ β x := by
  cases r with
  | val agg ss =>
    cases agg with
    | true => exact ⟨_, h, apps_is _ _ _ _⟩
    | false => exact h
  | row n s => exact absurd rfl (hr n s)

theorem parts_norow {sym : Nat} {args : E} {nid : Nat} : ∀ {rs : List RK} {j : Nat} {xs : List Value}, rowsOf sym args j rs = [] → givesAll w w' (φ sym (args.dens ρ φ)) j rs xs →
    All2 (Part.is ρ φ β) (parts sym args nid j rs) xs
  | [], j, [], _, _ => trivial
  | r :: rs, j, x :: xs, hr, h => by
    cases r with
    | val agg ss =>
      refine ⟨part_val (w := w) (w' := w') (by simp) h.1, parts_norow (by simpa [rowsOf] using hr) h.2⟩
    | row n s => simp [rowsOf] at hr
  | [], _, _ :: _, _, h => h.elim
  | _ :: _, _, [], _, h => h.elim

theorem parts_row {sym : Nat} {args : E} {nid : Nat} (hn : β nid = none) : ∀ {rs : List RK} {j : Nat} {xs : List Value} {row : List SC}, rowsOf sym args j rs = [row] → givesAll w w' (φ sym (args.dens ρ φ)) j rs xs →
    ∃ b vs T, w.heap.size ≤ b ∧ w'.heap[b]? = some (.cells (List.toArray vs) T (0, 0)) ∧ (∀ β : Nat → Option Nat, All2 (SC.is ρ φ β) row vs) ∧ All2 (Part.is ρ φ (updB β nid b)) (parts sym args nid j rs) xs
  | [], j, [], row, hr, _ => by simp [rowsOf] at hr
  | r :: rs, j, x :: xs, row, hr, h => by
    cases r with
    | val agg ss =>
      obtain ⟨b, vs, T, h1, h2, h3, h4⟩ := parts_row hn (rs := rs) (by simpa [rowsOf] using hr) h.2
      exact ⟨b, vs, T, h1, h2, h3, part_val (w := w) (w' := w') (by simp) h.1, h4⟩
    | row n s =>
      simp only [rowsOf, List.cons.injEq] at hr
      obtain ⟨rfl, hr⟩ := hr
      obtain ⟨⟨b, T, hx, hlo, hh⟩, hrest⟩ := h
      refine ⟨b, _, T, hlo, hh, fun β => apps_is _ _ _ _, ⟨b, updB_self _ _ _, hx⟩, parts_norow hr hrest⟩
  | [], _, _ :: _, _, _, h => h.elim
  | _ :: _, _, [], _, _, h => h.elim

theorem retX_ok (H : M ρ φ fx L B β a w) {nid : Nat} {g : Sig} {args : E} {δ : Dl} {x : Value} (hn : β nid = none) (h : retX nid g args = .ok δ)
    (hg : retGives w w' (φ g.sym (args.dens ρ φ)) g.rs x) (hb : Below w.heap.size w w') :
    ∃ β', Eff ρ φ fx.w0.heap.size fx.X δ nid β β' w w' ∧ δ.v.is ρ φ β' x := by
  unfold retX at h
  split at h
  · rename_i hr
    simp only [OR.ok.injEq] at h
    subst h
    refine ⟨β, ⟨Ext.refl _, fun _ _ h => Or.inl h, hb.mono (Nat.zero_le _), fun id b h => Nat.lt_of_lt_of_le (H.inh _ _ h) hb.size, fun b hlt _ => hb.block b hlt, by simp, by simp, by simp⟩, ?_⟩
    generalize hrs : g.rs = rs at *
    unfold retGives at hg
    split at hg
    · rename_i r
      cases r with
      | val agg ss => exact part_val (w := w) (w' := w') (by simp) hg
      | row n s => simp [rowsOf] at hr
    · rename_i hne
      obtain ⟨xs, rfl, hall⟩ := hg
      exact ⟨xs, rfl, parts_norow (β := β) (nid := nid) hr hall⟩
  · rename_i row hr
    simp only [OR.ok.injEq] at h
    subst h
    generalize hrs : g.rs = rs at *
    have key : ∃ b vs T, w.heap.size ≤ b ∧ w'.heap[b]? = some (.cells (List.toArray vs) T (0, 0)) ∧ (∀ β : Nat → Option Nat, All2 (SC.is ρ φ β) row vs) ∧
        (match rs with | [r] => SV.one (r.part g.sym args nid 0) | rs => SV.tup (parts g.sym args nid 0 rs)).is ρ φ (updB β nid b) x := by
      unfold retGives at hg
      split at hg
      · rename_i r
        cases r with
        | val agg ss => simp [rowsOf] at hr
        | row n s =>
          simp only [rowsOf, List.cons.injEq, and_true] at hr
          subst hr
          obtain ⟨b, T, hx, hlo, hh⟩ := hg
          exact ⟨b, _, T, hlo, hh, fun β => apps_is _ _ _ _, b, updB_self _ _ _, hx⟩
      · rename_i hne
        obtain ⟨xs, rfl, hall⟩ := hg
        obtain ⟨b, vs, T, h1, h2, h3, h4⟩ := parts_row hn hr hall
        exact ⟨b, vs, T, h1, h2, h3, xs, rfl, h4⟩
    obtain ⟨b, vs, T, h1, h2, h3, h4⟩ := key
    have hbl : b < w'.heap.size := (Array.getElem?_eq_some_iff.1 h2).1
    refine ⟨updB β nid b, ⟨updB_ext hn, fun id x h => ?_, hb.mono (Nat.zero_le _), fun id x h => ?_, fun b hlt _ => hb.block b hlt, by simp, fun row' hrow => ?_, by simp⟩, h4⟩
    · rcases updB_old h with h | ⟨h5, h6⟩
      · exact Or.inl h
      · exact Or.inr ⟨h5, by omega⟩
    · rcases updB_old h with h | ⟨h5, h6⟩
      · exact Nat.lt_of_lt_of_le (H.inh _ _ h) hb.size
      · omega
    · simp only [Option.some.injEq] at hrow
      subst hrow
      exact ⟨b, vs, T, updB_self _ _ _, h1, h2, h3 _⟩
  · exact absurd h (by simp)

theorem callX_does (V : Views cx ρ fx) (F : Fits cx.Γ cx.S ρ φ) (C : CtSound cx φ) (H : M ρ φ fx L B β a w) {fs : Facts} (hfs : fs.hold ρ φ) {c : Call} {nid : Nat} {δ : Dl} {o : Oper} (hn : β nid = none) (h : callX cx L B fs nid c = .ok δ)
    (ho : o.op = .call c) : Does ρ φ cx.P fx.w0.heap.size fx.X o a w β nid δ := by
  unfold callX at h
  split at h
  · rename_i fo hfo
    split at h
    · rename_i f fi ca hf
      split at h
      · rename_i hz
        rw [Bool.and_eq_true] at hz
        have hfi : fi = #[] := Array.eq_empty_of_size_eq_zero (Nat.eq_of_beq_eq_true hz.1)
        have hca : ca = #[] := Array.eq_empty_of_size_eq_zero (Nat.eq_of_beq_eq_true hz.2)
        subst hfi hca
        obtain ⟨g, es, hmem, rfl, hes, hfix, hpre1, hpre2, hret⟩ := callG_some h
        have hs := C g hmem
        simp only [Option.bind_eq_some_iff] at hf
        obtain ⟨sv, hsv, hex⟩ := hf
        have hfv : a.eval fo = .func (.func g.f) #[] #[] := SV.ex_is hex (opd_is H hsv)
        have hrun : (execOp a.eval o).run cx.P w = .ok (.enter g.f (c.args.map a.eval)) w := by
          simp only [execOp, ho, resolve, hfo, hfv, Deferred.ofValue, pure_bind]
          simp only [invoke, Array.append_empty, Array.empty_append]
          exact hs.call _ _
        intro K Q hk
        simp only [Oper.wp, hrun, Oper.upon]
        have hd := hs.does w (c.args.toList.map a.eval) _ (flats_reads V F H hes) (holdN hpre2 (preOk_hold F hfs hpre1)) (fixOk_fits hfix)
        have e : (c.args.toList.map a.eval).toArray = c.args.map a.eval := by
          apply Array.ext'; simp
        rw [e] at hd
        refine hd.mono ?_
        rintro e w' ⟨x, rfl, hgv, hbl⟩
        rw [← toL_dens] at hgv
        obtain ⟨β', hE, hx⟩ := retX_ok H hn hret hgv hbl
        exact hk β' x w' hE hx
      · exact absurd h (by simp)
    · exact absurd h (by simp)
  · exact absurd h (by simp)
end
end Go.SX

/- SX: equal structs; lengths; every operation. -/
namespace Go.SX
open Go Go.RowKit

def partC (cx : Cx) (t : TypeId) (cs : List SC) (off : Nat) : Option Part :=
  match tyx cx.P t with
  | some (true, n) => some ⟨true, (cs.drop off).take n⟩
  | some (false, _) => match cs[off]? with
    | some c => some ⟨false, [c]⟩
    | none => none
  | none => none
def mkAnd (e r : E) : E :=
  match e with
  | .bool true => r
  | .bool false => .bool false
  | e => match r with
    | .bool true => e
    | r => .ite e r (.bool false)
def eqFs (cx : Cx) (f : TypeId → Part → Part → Option E) (xs ys : List SC) : List Field → Option E
  | [] => some (.bool true)
  | fd :: fs =>
    if fd.name == "_" then none
    else match partC cx fd.type xs fd.offset, partC cx fd.type ys fd.offset with
      | some p, some q => match f fd.type p q, eqFs cx f xs ys fs with
        | some e, some r => some (mkAnd e r)
        | _, _ => none
      | _, _ => none
def eqIs (cx : Cx) (f : TypeId → Part → Part → Option E) (t : TypeId) (c : Nat) (xs ys : List SC) : List Nat → Option E
  | [] => some (.bool true)
  | i :: is => match partC cx t xs (i * c), partC cx t ys (i * c) with
    | some p, some q => match f t p q, eqIs cx f t c xs ys is with
      | some e, some r => some (mkAnd e r)
      | _, _ => none
    | _, _ => none
def eqX (cx : Cx) : Nat → TypeId → Part → Part → Option E
  | 0, _, _, _ => none
  | d + 1, t, p, q =>
    match cx.P.underlying t with
    | some (.struct fs) =>
      if p.agg && q.agg && !cx.P.stoodInHeld t then eqFs cx (eqX cx d) p.cs q.cs fs.toList else none
    | some (.array n u) => if p.agg && q.agg && (cx.P.info? u).isSome then eqIs cx (eqX cx d) u (cx.P.cellsOf u) p.cs q.cs (List.range n) else none
    | some (.int _) => match p, q with
      | ⟨false, [.e x]⟩, ⟨false, [.e y]⟩ => match cx.so x, cx.so y with
        | .int k, .int k' => if kBeq k k' then some (mkEql x y) else none
        | _, _ => none
      | _, _ => none
    | some .bool => match p, q with
      | ⟨false, [.e x]⟩, ⟨false, [.e y]⟩ => match cx.so x, cx.so y with
        | .bool, .bool => some (mkBeq x y)
        | _, _ => none
      | _, _ => none
    | some .string => match p, q with
      | ⟨false, [.e x]⟩, ⟨false, [.e y]⟩ => match cx.so x, cx.so y with
        | .str, .str => some (mkSeq x y)
        | _, _ => none
      | _, _ => none
    | _ => none

def eqlX (cx : Cx) (op : BinOp) (t : TypeId) (p q : Part) : OR :=
  if p.agg && q.agg && !cx.P.eqGuardType cx.P.depth t then
    match eqX cx 20 t p q with
    | some e => match op with
      | .eql => vE e
      | .neq => vE (mkNot e)
      | _ => .stuck
    | none => .stuck
  else .stuck

section
variable {ρ : Nat → Value} {φ : Nat → List Value → List Value} {cx : Cx} {fx : Fx} {L : LK} {B : BK} {β : Nat → Option Nat} {a : Act} {w : World}
theorem partC_run {t : TypeId} {cs : List SC} {off : Nat} {p : Part} {vs : List Value} (h : partC cx t cs off = some p) (ha : All2 (SC.is ρ φ β) cs vs) (w : World) :
    ∃ x, (part t vs.toArray off).run cx.P w = .ok x w ∧ p.is ρ φ β x := by
  unfold partC at h
  split at h
  · rename_i n ht
    simp only [Option.some.injEq] at h
    subst h
    refine ⟨.agg ((vs.drop off).take n).toArray, ?_, _, rfl, (ha.drop _).take n⟩
    simp only [part, Sem.run_bind, (tyx_run ht _).1, Result.andThen_ok, if_true, (tyx_run ht _).2, Sem.run_pure]
    congr 2
    apply Array.ext'
    simp [List.take_drop, Nat.add_sub_cancel_left]
  · rename_i n ht
    split at h
    · rename_i c hc
      simp only [Option.some.injEq] at h
      subst h
      obtain ⟨u, hu, hcu⟩ := ha.get hc
      refine ⟨u, ?_, hcu⟩
      simp [part, (tyx_run ht _).1, hu]
    · exact absurd h (by simp)
  · exact absurd h (by simp)

def IsB (ρ : Nat → Value) (φ : Nat → List Value → List Value) (e : E) : Prop := e.den ρ φ = .bool (vbool (e.den ρ φ))
theorem mkAnd_den {e r : E} (he : IsB ρ φ e) (hr : IsB ρ φ r) : (mkAnd e r).den ρ φ = .bool (vbool (e.den ρ φ) && vbool (r.den ρ φ)) := by
  unfold mkAnd
  split
  · rw [hr]; simp [E.den]
  · simp [E.den]
  · split
    · rw [he]; simp [E.den]
    · simp only [E.den]
      cases hq : vbool (e.den ρ φ) with
      | true => simp only [if_true]; rw [hr]; simp
      | false => simp

theorem eqX_run (F : Fits cx.Γ cx.S ρ φ) : ∀ (d D : Nat) (t : TypeId) (p q : Part) (e : E) (x y : Value) (w : World), d ≤ D → eqX cx d t p q = some e → p.is ρ φ β x → q.is ρ φ β y →
    (Op.equalIn D t x y).run cx.P w = .ok (vbool (e.den ρ φ)) w ∧ IsB ρ φ e := by
  intro d
  induction d with
  | zero => intro D t p q e x y w _ h; simp [eqX] at h
  | succ d ih =>
    intro D t p q e x y w hD h hp hq
    obtain ⟨D, rfl⟩ : ∃ D', D = D' + 1 := ⟨D - 1, by omega⟩
    simp only [eqX] at h
    split at h
    · rename_i fs hu
      split at h
      · rename_i hc
        simp only [Bool.and_eq_true, Bool.not_eq_true'] at hc
        obtain ⟨⟨h1, h2⟩, h3⟩ := hc
        obtain ⟨pa, pc⟩ := p
        obtain ⟨qa, qc⟩ := q
        simp only at h1 h2
        subst h1 h2
        obtain ⟨xs, rfl, hax⟩ := hp
        obtain ⟨ys, rfl, hay⟩ := hq
        have hfo : cx.P.fieldsOf t = fs := by simp [Program.fieldsOf, hu]
        rw [run_equalIn_struct w D t xs.toArray ys.toArray (by rw [hfo]; exact hu) h3, hfo]
        clear hu hfo
        simp only at h
        generalize fs.toList = l at h
        induction l generalizing e with
        | nil =>
          simp only [eqFs, Option.some.injEq] at h
          subst h
          simp [Op.eqFields, E.den, IsB]
        | cons fd l ihl =>
          simp only [eqFs] at h
          split at h
          · exact absurd h (by simp)
          · rename_i hname
            have hname : ¬ fd.name = "_" := by simpa using hname
            split at h
            · rename_i p' q' hp' hq'
              split at h
              · rename_i e' r' he' hr'
                simp only [Option.some.injEq] at h
                subst h
                obtain ⟨u, hu1, hu2⟩ := partC_run hp' hax w
                obtain ⟨v, hv1, hv2⟩ := partC_run hq' hay w
                obtain ⟨g1, g2⟩ := ih D fd.type p' q' e' u v w (by omega) he' hu2 hv2
                obtain ⟨g3, g4⟩ := ihl r' hr'
                have hand := mkAnd_den g2 g4
                refine ⟨?_, by rw [IsB, hand]; rfl⟩
                rw [hand]
                simp only [Op.eqFields, hname, ne_eq, not_false_eq_true, if_true, Sem.run_bind, hu1, Result.andThen_ok, hv1, g1]
                cases hb : vbool (e'.den ρ φ) with
                | true => simp [g3]
                | false => simp
              · exact absurd h (by simp)
            · exact absurd h (by simp)
      · exact absurd h (by simp)
    · rename_i n u hu
      split at h
      · rename_i hc
        simp only [Bool.and_eq_true] at hc
        obtain ⟨⟨h1, h2⟩, h3⟩ := hc
        obtain ⟨i, hi⟩ := Option.isSome_iff_exists.1 h3
        obtain ⟨pa, pc⟩ := p
        obtain ⟨qa, qc⟩ := q
        simp only at h1 h2
        subst h1 h2
        obtain ⟨xs, rfl, hax⟩ := hp
        obtain ⟨ys, rfl, hay⟩ := hq
        rw [run_equalIn_array w D xs.toArray ys.toArray hu hi]
        clear hu hi h3
        simp only at h
        generalize List.range n = l at h
        induction l generalizing e with
        | nil =>
          simp only [eqIs, Option.some.injEq] at h
          subst h
          simp [Op.eqItems, E.den, IsB]
        | cons j l ihl =>
          simp only [eqIs] at h
          split at h
          · rename_i p' q' hp' hq'
            split at h
            · rename_i e' r' he' hr'
              simp only [Option.some.injEq] at h
              subst h
              obtain ⟨a, hu1, hu2⟩ := partC_run hp' hax w
              obtain ⟨v, hv1, hv2⟩ := partC_run hq' hay w
              obtain ⟨g1, g2⟩ := ih D u p' q' e' a v w (by omega) he' hu2 hv2
              obtain ⟨g3, g4⟩ := ihl r' hr'
              have hand := mkAnd_den g2 g4
              refine ⟨?_, by rw [IsB, hand]; rfl⟩
              rw [hand]
              simp only [Op.eqItems, Sem.run_bind, hu1, Result.andThen_ok, hv1, g1]
              cases hb : vbool (e'.den ρ φ) with
              | true => simp [g3]
              | false => simp
            · exact absurd h (by simp)
          · exact absurd h (by simp)
      · exact absurd h (by simp)
    · rename_i k hu
      split at h
      · rename_i x' y'
        split at h
        · rename_i k1 k2 hx hy
          split at h
          · rename_i hk
            simp only [Option.some.injEq] at h
            subst h
            have ex := so_int F hx
            have ey := so_int F hy
            have hp : x = _ := hp
            have hq : y = _ := hq
            subst hp hq
            rw [IsB, mkEql_den, ex, ey]
            rw [← kBeq_eq hk]
            rw [run_equalIn_int w D t k1 k _ _ hu]
            simp
          · exact absurd h (by simp)
        · exact absurd h (by simp)
      · exact absurd h (by simp)
    · rename_i hu
      split at h
      · rename_i x' y'
        split at h
        · rename_i hx hy
          simp only [Option.some.injEq] at h
          subst h
          have ex := so_bool F hx
          have ey := so_bool F hy
          have hp : x = _ := hp
          have hq : y = _ := hq
          subst hp hq
          rw [IsB, mkBeq_den, ex, ey]
          rw [run_equalIn_bool w D t _ _ hu]
          simp
        · exact absurd h (by simp)
      · exact absurd h (by simp)
    · rename_i hu
      split at h
      · rename_i x' y'
        split at h
        · rename_i hx hy
          simp only [Option.some.injEq] at h
          subst h
          obtain ⟨m, ex⟩ := so_str F hx
          obtain ⟨n, ey⟩ := so_str F hy
          have hp : x = _ := hp
          have hq : y = _ := hq
          subst hp hq
          rw [IsB, mkSeq_den, ex, ey]
          rw [run_equalIn_string w D t _ _ hu]
          simp
        · exact absurd h (by simp)
      · exact absurd h (by simp)
    · exact absurd h (by simp)

theorem eqlX_run (F : Fits cx.Γ cx.S ρ φ) {op : BinOp} {t : TypeId} {p q : Part} {δ : Dl} {x y : Value} (h : eqlX cx op t p q = .ok δ) (hp : p.is ρ φ β x) (hq : q.is ρ φ β y) (X Y : Operand) :
    Reads ρ φ β cx.P w δ (do eqGuard op t X Y x y; binOp op t x y) := by
  unfold eqlX at h
  split at h
  · rename_i hc
    simp only [Bool.and_eq_true, Bool.not_eq_true'] at hc
    obtain ⟨⟨h1, h2⟩, h3⟩ := hc
    split at h
    · rename_i e he
      obtain ⟨g1, g2⟩ := eqX_run F 20 10000 t p q e x y w (by omega) he hp hq
      obtain ⟨pa, pc⟩ := p
      obtain ⟨qa, qc⟩ := q
      simp only at h1 h2
      subst h1 h2
      obtain ⟨xs, rfl, hax⟩ := hp
      obtain ⟨ys, rfl, hay⟩ := hq
      have hgd : ∀ op, (eqGuard op t X Y (.agg xs.toArray) (.agg ys.toArray)).run cx.P w = .ok () w := by
        intro op
        unfold eqGuard
        cases op <;> simp [h3]
      have hq : (Op.equal t (.agg xs.toArray) (.agg ys.toArray)).run cx.P w = .ok (vbool (e.den ρ φ)) w := g1
      split at h
      · have := vE_ok h
        subst this
        refine ⟨rfl, rfl, e.den ρ φ, ?_, rfl⟩
        have hb : binOp .eql t (.agg xs.toArray) (.agg ys.toArray) = (do pure (.bool (← Op.equal t (.agg xs.toArray) (.agg ys.toArray)))) := rfl
        simp only [Sem.run_bind, hgd, Result.andThen_ok, hb, hq, Sem.run_pure]
        rw [← g2]
      · have := vE_ok h
        subst this
        refine ⟨rfl, rfl, (mkNot e).den ρ φ, ?_, rfl⟩
        have hb : binOp .neq t (.agg xs.toArray) (.agg ys.toArray) = (do pure (.bool (!(← Op.equal t (.agg xs.toArray) (.agg ys.toArray))))) := rfl
        simp only [Sem.run_bind, hgd, Result.andThen_ok, hb, hq, Sem.run_pure, mkNot_den]
      · exact absurd h (by simp)
    · exact absurd h (by simp)
  · exact absurd h (by simp)
end

/-! ### Builtins -/
def lenX (cx : Cx) (t : TypeId) (c : SC) : OR :=
  match c, cx.P.underlying t with
  | .slc _ _ len _, some (.slice _) => vE (.int .i64 (Int.ofNat len))
  | .e (.val (.slice none 0 0)), some (.slice _) => vE (.int .i64 0)
  | .e (.var i), some (.slice _) => match findVw i cx.vw with
    | some v => vE (.var v.l)
    | none => .stuck
  | .e x, some .string => if cx.so x = .str then vE (mkLen x) else .stuck
  | _, _ => .stuck
def minX (cx : Cx) (x y : E) : OR :=
  match cx.so x, cx.so y with
  | .int k, .int k' => if kBeq k k' then (match mkLss y x with | .bool true => vE y | .bool false => vE x | c => vE (.ite c y x)) else .stuck
  | _, _ => .stuck
def maxX (cx : Cx) (x y : E) : OR :=
  match cx.so x, cx.so y with
  | .int k, .int k' => if kBeq k k' then (match mkLss x y with | .bool true => vE y | .bool false => vE x | c => vE (.ite c y x)) else .stuck
  | _, _ => .stuck
def builtinX (cx : Cx) (L : LK) (b : Builtin) (c : Call) : OR :=
  match b, c.argTypes.toList, c.args.toList with
  | .len, [t], [x] => match (opd L x).bind SV.sc with
    | some s => lenX cx t s
    | none => .stuck
  | .min, _, [x, y] => match (opd L x).bind SV.ex, (opd L y).bind SV.ex with
    | some x, some y => minX cx x y
    | _, _ => .stuck
  | .max, _, [x, y] => match (opd L x).bind SV.ex, (opd L y).bind SV.ex with
    | some x, some y => maxX cx x y
    | _, _ => .stuck
  | _, _, _ => .stuck
end Go.SX

/- SX: every operation, and that it does what it says. -/
namespace Go.SX
open Go Go.RowKit

def binOpX (cx : Cx) (L : LK) (fs : Facts) (op : BinOp) (t : TypeId) (x y : Operand) : OR :=
  match opd L x, opd L y with
  | some s, some u =>
    match s.ex, u.ex with
    | some x, some y => binX cx fs op t x y
    | _, _ => match s, u with
      | .one p, .one q => eqlX cx op t p q
      | _, _ => .stuck
  | _, _ => .stuck

def pickX (cx : Cx) (L : LK) (fs : Facts) (c x y : Operand) : OR :=
  match (opd L c).bind SV.ex with
  | some c =>
    match dec cx fs c with
    | some true => match opd L x with
      | some s => vV s
      | none => .stuck
    | some false => match opd L y with
      | some s => vV s
      | none => .stuck
    | none =>
      if cx.so c = .bool then
        match (opd L x).bind SV.ex, (opd L y).bind SV.ex with
        | some x, some y => vE (.ite c x y)
        | _, _ => .split c
      else .stuck
  | none => .stuck

def optE (L : LK) : Option Operand → Option (Option E)
  | none => some none
  | some x => ((opd L x).bind SV.ex).map some

def opx (cx : Cx) (L : LK) (B : BK) (fs : Facts) (nid : Nat) (o : Op) : OR :=
  match o with
  | .move x => match opd L x with
    | some s => vV s
    | none => .stuck
  | .assign x => match opd L x with
    | some s => vV s
    | none => .stuck
  | .pick c x y => pickX cx L fs c x y
  | .alloc t => allocX cx nid t
  | .box _ x => match opd L x with
    | some s => boxX cx nid s
    | none => .stuck
  | .build t ps => buildX cx L t ps.toList
  | .buildSlice t n ps => buildSliceX cx L nid t n ps.toList
  | .load t x => match (opd L x).bind SV.sc with
    | some c => loadX cx B fs t c
    | none => .stuck
  | .store t x v => match (opd L x).bind SV.sc, opd L v with
    | some c, some s => storeX cx B t c s
    | _, _ => .stuck
  | .nilCheck x => match (opd L x).bind SV.sc with
    | some (.ptr id off) => vC (.ptr id off)
    | _ => .stuck
  | .binOp op t x y _ => binOpX cx L fs op t x y
  | .unOp op _ x => match (opd L x).bind SV.ex with
    | some x => unX cx op x
    | none => .stuck
  | .convert s d x => match (opd L x).bind SV.ex with
    | some x => convX cx s d x
    | none => .stuck
  | .slice t x lo hi none => match (opd L x).bind SV.sc, optE L lo, optE L hi with
    | some (.e x), some lo, some hi => sliceStrX cx fs t x lo hi
    | some c, some lo, some hi => sliceX cx t c lo hi
    | _, _, _ => .stuck
  | .index t x i => match (opd L x).bind SV.ex, (opd L i).bind SV.ex with
    | some x, some i => indexX cx fs t x i
    | _, _ => .stuck
  | .fieldAddr s x f => match (opd L x).bind SV.sc with
    | some c => fieldAddrX cx s c f
    | none => .stuck
  | .field s x f => match opd L x with
    | some v => fieldX cx s v f
    | none => .stuck
  | .indexAddr t x i => match (opd L x).bind SV.sc, (opd L i).bind SV.ex with
    | some c, some i => indexAddrX cx fs t c i
    | _, _ => .stuck
  | .extract x i => match opd L x with
    | some v => extractX v i
    | none => .stuck
  | .call c => match c.callee with
    | .builtin b => builtinX cx L b c
    | _ => callX cx L B fs nid c
  | _ => .stuck

section
variable {ρ : Nat → Value} {φ : Nat → List Value → List Value} {cx : Cx} {fx : Fx} {L : LK} {B : BK} {β : Nat → Option Nat} {a : Act} {w : World}

theorem does_reads (H : M ρ φ fx L B β a w) {o : Oper} {nid : Nat} {δ : Dl} {s : Sem Value} (hr : Reads ρ φ β cx.P w δ s) (ho : (execOp a.eval o) = (do pure (.value (← s)))) :
    Does ρ φ cx.P fx.w0.heap.size fx.X o a w β nid δ := by
  obtain ⟨h1, h2, x, hx, hv⟩ := hr
  obtain ⟨v, new, wr⟩ := δ
  simp only at h1 h2
  subst h1 h2
  exact does_val H.inh (by rw [ho]; simp [hx]) hv

theorem exIs (H : M ρ φ fx L B β a w) {x : Operand} {e : E} (h : (opd L x).bind SV.ex = some e) : a.eval x = e.den ρ φ := by
  simp only [Option.bind_eq_some_iff] at h
  obtain ⟨s, hs, he⟩ := h
  exact SV.ex_is he (opd_is H hs)
theorem scIs (H : M ρ φ fx L B β a w) {x : Operand} {c : SC} (h : (opd L x).bind SV.sc = some c) : c.is ρ φ β (a.eval x) := by
  simp only [Option.bind_eq_some_iff] at h
  obtain ⟨s, hs, he⟩ := h
  exact SV.sc_is he (opd_is H hs)

theorem optE_is (H : M ρ φ fx L B β a w) {x : Option Operand} {e : Option E} (h : optE L x = some e) : x.map a.eval = e.map (·.den ρ φ) := by
  cases x with
  | none => simp only [optE, Option.some.injEq] at h; subst h; rfl
  | some x =>
    simp only [optE, Option.map_eq_some_iff] at h
    obtain ⟨e', he, rfl⟩ := h
    simp [exIs H he]

theorem pickX_run (F : Fits cx.Γ cx.S ρ φ) (H : M ρ φ fx L B β a w) {fs : Facts} (hf : fs.hold ρ φ) {c x y : Operand} {δ : Dl} (h : pickX cx L fs c x y = .ok δ) :
    Reads ρ φ β cx.P w δ (do pure (if ← asBool (a.eval c) then a.eval x else a.eval y)) := by
  unfold pickX at h
  split at h
  · rename_i c' hc
    have hc' := exIs H hc
    split at h
    · rename_i hd
      have hd := dec_sound F hf hd
      split at h
      · rename_i s hs
        have := vV_ok h
        subst this
        refine ⟨rfl, rfl, a.eval x, ?_, opd_is H hs⟩
        simp [hc', hd, asBool]
      · exact absurd h (by simp)
    · rename_i hd
      have hd := dec_sound F hf hd
      split at h
      · rename_i s hs
        have := vV_ok h
        subst this
        refine ⟨rfl, rfl, a.eval y, ?_, opd_is H hs⟩
        simp [hc', hd, asBool]
      · exact absurd h (by simp)
    · split at h
      · rename_i hb
        have hb := so_bool F hb
        split at h
        · rename_i x' y' hx hy
          have := vE_ok h
          subst this
          refine ⟨rfl, rfl, _, ?_, rfl⟩
          rw [exIs H hx, exIs H hy, hc', hb]
          simp only [asBool, E.den, Sem.run_bind, Sem.run_pure, Result.andThen_ok]
        · exact absurd h (by simp)
      · exact absurd h (by simp)
  · exact absurd h (by simp)

theorem binOpX_run (F : Fits cx.Γ cx.S ρ φ) (H : M ρ φ fx L B β a w) {fs : Facts} (hf : fs.hold ρ φ) {op : BinOp} {t : TypeId} {x y : Operand} {δ : Dl} (h : binOpX cx L fs op t x y = .ok δ) :
    Reads ρ φ β cx.P w δ (do eqGuard op t x y (a.eval x) (a.eval y); binOp op t (a.eval x) (a.eval y)) := by
  unfold binOpX at h
  split at h
  · rename_i s u hs hu
    split at h
    · rename_i x' y' hx hy
      obtain ⟨z, rfl, hz⟩ := binX_run F hf h x y w
      rw [← SV.ex_is hx (opd_is H hs), ← SV.ex_is hy (opd_is H hu)] at hz
      exact ⟨rfl, rfl, _, hz, rfl⟩
    · split at h
      · exact eqlX_run F h (opd_is H hs) (opd_is H hu) x y
      · exact absurd h (by simp)
  · exact absurd h (by simp)

theorem lenX_run (V : Views cx ρ fx) (F : Fits cx.Γ cx.S ρ φ) {t ty : TypeId} {c : SC} {δ : Dl} {v : Value} (h : lenX cx t c = .ok δ) (hc : c.is ρ φ β v) : Reads ρ φ β cx.P w δ (Builtin.len_ #[t] ty #[v]) := by
  unfold lenX at h
  split at h
  · rename_i id off len cap e hu
    have := vE_ok h
    subst this
    obtain ⟨b, hb, rfl⟩ := hc
    exact ⟨rfl, rfl, _, by simp [Builtin.len_, run_underlying hu]; rfl, rfl⟩
  · rename_i e hu
    have := vE_ok h
    subst this
    have hc : v = _ := hc
    subst hc
    exact ⟨rfl, rfl, _, by simp [Builtin.len_, run_underlying hu, E.den]; rfl, rfl⟩
  · rename_i i e hu
    split at h
    · rename_i vw hvw
      obtain ⟨hmem, rfl⟩ := findVw_mem hvw
      have := vE_ok h
      subst this
      obtain ⟨ad, len, cap, vs, h1, h2, _⟩ := V vw hmem
      have hc : v = E.den ρ φ (.var vw.i) := hc
      simp only [E.den] at hc
      rw [h1] at hc
      subst hc
      refine ⟨rfl, rfl, .int .i64 (Int.ofNat len), by simp [Builtin.len_, run_underlying hu]; rfl, ?_⟩
      show _ = _
      simp only [E.den]
      rw [h2]
    · exact absurd h (by simp)
  · rename_i x hu
    split at h
    · rename_i hx
      have := vE_ok h
      subst this
      obtain ⟨s, hs, hb⟩ := so_strB F hx
      have hc : v = E.den ρ φ x := hc
      rw [hs] at hc
      subst hc
      refine ⟨rfl, rfl, .int .i64 (Int.ofNat s.size), by simp [Builtin.len_, run_underlying hu]; rfl, ?_⟩
      show _ = _
      rw [mkLen_den hs hb]
    · exact absurd h (by simp)
  · exact absurd h (by simp)

theorem minX_run (F : Fits cx.Γ cx.S ρ φ) {x y : E} {δ : Dl} (h : minX cx x y = .ok δ) : Reads ρ φ β cx.P w δ (Builtin.min2 (x.den ρ φ) (y.den ρ φ)) := by
  unfold minX at h
  split at h
  · rename_i k k' hx hy
    have ex := so_int F hx
    have ey := so_int F hy
    have hl := mkLss_den ρ φ y x
    split at h
    · rename_i hk
      rw [← kBeq_eq hk] at ey
      split at h
      · rename_i e
        have := vE_ok h
        subst this
        rw [e] at hl
        simp only [E.den, Value.bool.injEq] at hl
        have hl := of_decide_eq_true hl.symm
        refine ⟨rfl, rfl, _, ?_, rfl⟩
        rw [ex, ey]
        simp [Builtin.min2, hl]
      · rename_i e
        have := vE_ok h
        subst this
        rw [e] at hl
        simp only [E.den, Value.bool.injEq] at hl
        have hl := of_decide_eq_false hl.symm
        refine ⟨rfl, rfl, _, ?_, rfl⟩
        rw [ex, ey]
        simp [Builtin.min2, hl]
      · have := vE_ok h
        subst this
        refine ⟨rfl, rfl, _, ?_, rfl⟩
        simp only [E.den, hl, vbool_bool]
        rw [ex, ey]
        simp only [Builtin.min2, vint_int, Sem.run_pure]
        congr 1
        by_cases hlt : vint (y.den ρ φ) < vint (x.den ρ φ) <;> simp [hlt]
    · exact absurd h (by simp)
  · exact absurd h (by simp)
theorem maxX_run (F : Fits cx.Γ cx.S ρ φ) {x y : E} {δ : Dl} (h : maxX cx x y = .ok δ) : Reads ρ φ β cx.P w δ (Builtin.max2 (x.den ρ φ) (y.den ρ φ)) := by
  unfold maxX at h
  split at h
  · rename_i k k' hx hy
    have ex := so_int F hx
    have ey := so_int F hy
    have hl := mkLss_den ρ φ x y
    split at h
    · rename_i hk
      rw [← kBeq_eq hk] at ey
      split at h
      · rename_i e
        have := vE_ok h
        subst this
        rw [e] at hl
        simp only [E.den, Value.bool.injEq] at hl
        have hl := of_decide_eq_true hl.symm
        refine ⟨rfl, rfl, _, ?_, rfl⟩
        rw [ex, ey]
        simp [Builtin.max2, hl]
      · rename_i e
        have := vE_ok h
        subst this
        rw [e] at hl
        simp only [E.den, Value.bool.injEq] at hl
        have hl := of_decide_eq_false hl.symm
        refine ⟨rfl, rfl, _, ?_, rfl⟩
        rw [ex, ey]
        simp [Builtin.max2, hl]
      · have := vE_ok h
        subst this
        refine ⟨rfl, rfl, _, ?_, rfl⟩
        simp only [E.den, hl, vbool_bool]
        rw [ex, ey]
        simp only [Builtin.max2, vint_int, Sem.run_pure]
        congr 1
        by_cases hlt : vint (x.den ρ φ) < vint (y.den ρ φ) <;> simp [hlt]
    · exact absurd h (by simp)
  · exact absurd h (by simp)

theorem array_of {α : Type} {xs : Array α} {l : List α} (h : xs.toList = l) : xs = l.toArray := by
  apply Array.ext'; simpa using h

theorem builtinX_run (V : Views cx ρ fx) (F : Fits cx.Γ cx.S ρ φ) (H : M ρ φ fx L B β a w) {b : Builtin} {c : Call} {δ : Dl} {o : Oper} {nid : Nat} (h : builtinX cx L b c = .ok δ) (ho : o.op = .call c) (hcb : c.callee = .builtin b) :
    Does ρ φ cx.P fx.w0.heap.size fx.X o a w β nid δ := by
  unfold builtinX at h
  split at h
  · rename_i t x ht hx
    have ht := array_of ht
    have hx := array_of hx
    split at h
    · rename_i s hs
      refine does_reads H (lenX_run V F (ty := o.type) h (scIs H hs)) ?_
      simp only [execOp, ho, resolve, hcb, ht, hx, pure_bind, invoke]
      simp [builtin]
    · exact absurd h (by simp)
  · rename_i x y hx
    have hx := array_of hx
    split at h
    · rename_i x' y' h1 h2
      have := minX_run (β := β) (w := w) F h
      rw [← exIs H h1, ← exIs H h2] at this
      refine does_reads H this ?_
      simp only [execOp, ho, resolve, hcb, hx, pure_bind, invoke]
      simp [builtin, Builtin.min_]
    · exact absurd h (by simp)
  · rename_i x y hx
    have hx := array_of hx
    split at h
    · rename_i x' y' h1 h2
      have := maxX_run (β := β) (w := w) F h
      rw [← exIs H h1, ← exIs H h2] at this
      refine does_reads H this ?_
      simp only [execOp, ho, resolve, hcb, hx, pure_bind, invoke]
      simp [builtin, Builtin.max_]
    · exact absurd h (by simp)
  · exact absurd h (by simp)

theorem opx_does (V : Views cx ρ fx) (F : Fits cx.Γ cx.S ρ φ) (C : CtSound cx φ) (H : M ρ φ fx L B β a w) {fs : Facts} (hf : fs.hold ρ φ) {nid : Nat} (hn : β nid = none) {o : Oper} {δ : Dl} (h : opx cx L B fs nid o.op = .ok δ) :
    Does ρ φ cx.P fx.w0.heap.size fx.X o a w β nid δ := by
  unfold opx at h
  split at h
  · rename_i x ho
    split at h
    · rename_i s hs
      have := vV_ok h
      subst this
      exact does_val H.inh (by simp [execOp, ho]) (opd_is H hs)
    · exact absurd h (by simp)
  · rename_i x ho
    split at h
    · rename_i s hs
      have := vV_ok h
      subst this
      exact does_val H.inh (by simp [execOp, ho]) (opd_is H hs)
    · exact absurd h (by simp)
  · rename_i c x y ho
    exact does_reads H (pickX_run F H hf h) (by simp [execOp, ho])
  · rename_i t ho
    exact allocX_does H hn h (by simp [execOp, ho])
  · rename_i t x ho
    split at h
    · rename_i s hs
      exact boxX_does F H (t := t) hn h (opd_is H hs) (by simp [execOp, ho])
    · exact absurd h (by simp)
  · rename_i t ps ho
    exact does_reads H (buildX_run F H h) (by simp [execOp, ho])
  · rename_i t n ps ho
    exact buildSliceX_does F H hn h (by simp [execOp, ho])
  · rename_i t x ho
    split at h
    · rename_i c hc
      exact does_reads H (loadX_run V F H hf h (scIs H hc)) (by simp [execOp, ho])
    · exact absurd h (by simp)
  · rename_i t x v ho
    split at h
    · rename_i c s hc hs
      exact storeX_does F H h (scIs H hc) (opd_is H hs) (by simp [execOp, ho])
    · exact absurd h (by simp)
  · rename_i x ho
    split at h
    · rename_i id off hc
      have := vC_ok h
      subst this
      have hx := scIs H hc
      obtain ⟨b, hb, hv⟩ := hx
      exact does_val H.inh (by simp [execOp, ho, hv]) ⟨b, hb, rfl⟩
    · exact absurd h (by simp)
  · rename_i op t x y yt ho
    exact does_reads H (binOpX_run F H hf h) (by simp [execOp, ho])
  · rename_i op t x ho
    split at h
    · rename_i x' hx
      obtain ⟨z, rfl, hz⟩ := unX_run F h w
      rw [← exIs H hx] at hz
      exact does_reads H (s := Op.unary op (a.eval x)) ⟨rfl, rfl, _, hz, rfl⟩ (by simp [execOp, ho])
    · exact absurd h (by simp)
  · rename_i s d x ho
    split at h
    · rename_i x' hx
      obtain ⟨z, rfl, hz⟩ := convX_run F h w
      rw [← exIs H hx] at hz
      exact does_reads H (s := convert s d (a.eval x)) ⟨rfl, rfl, _, hz, rfl⟩ (by simp [execOp, ho])
    · exact absurd h (by simp)
  · rename_i t x lo hi ho
    split at h
    · rename_i x' lo' hi' hx hlo hhi
      have hxe : a.eval x = x'.den ρ φ := scIs H hx
      have := sliceStrX_run (β := β) (w := w) F hf h
      rw [← hxe, ← optE_is H hlo, ← optE_is H hhi] at this
      exact does_reads H this (by simp [execOp, ho])
    · rename_i c lo' hi' _ hc hlo hhi
      have := sliceX_run (w := w) h (scIs H hc)
      rw [← optE_is H hlo, ← optE_is H hhi] at this
      exact does_reads H this (by simp [execOp, ho])
    · exact absurd h (by simp)
  · rename_i t x i ho
    split at h
    · rename_i x' i' hx hi
      have := indexX_run (β := β) (w := w) F hf h
      rw [← exIs H hx, ← exIs H hi] at this
      exact does_reads H this (by simp [execOp, ho])
    · exact absurd h (by simp)
  · rename_i s x f ho
    split at h
    · rename_i c hc
      exact does_reads H (fieldAddrX_run h (scIs H hc)) (by simp [execOp, ho])
    · exact absurd h (by simp)
  · rename_i s x f ho
    split at h
    · rename_i v hv
      exact does_reads H (fieldX_run h (opd_is H hv)) (by simp [execOp, ho])
    · exact absurd h (by simp)
  · rename_i t x i ho
    split at h
    · rename_i c i' hc hi
      have := indexAddrX_run (w := w) V F hf h (scIs H hc)
      rw [← exIs H hi] at this
      exact does_reads H this (by simp [execOp, ho])
    · exact absurd h (by simp)
  · rename_i x i ho
    split at h
    · rename_i v hv
      exact does_reads H (extractX_run h (opd_is H hv)) (by simp [execOp, ho])
    · exact absurd h (by simp)
  · rename_i c ho
    split at h
    · rename_i b hb
      exact builtinX_run V F H h ho hb
    · exact callX_does V F C H hf hn h ho
  · exact absurd h (by simp)
end
end Go.SX

/- SX: regions in the order of the text. -/
namespace Go.SX
open Go Go.RowKit

structure St where
  tmps : List (Nat × SV)
  boxes : List (Nat × List SC)
  next : Nat
  facts : Facts
  deriving Inhabited

def St.L (σ : St) : LK := fun t => lookA t σ.tmps
def St.B (σ : St) : BK := fun i => lookA i σ.boxes

/-- What a state says. -/
structure MS (ρ : Nat → Value) (φ : Nat → List Value → List Value) (fx : Fx) (σ : St) (β : Nat → Option Nat) (a : Act) (w : World) : Prop where
  m : M ρ φ fx σ.L σ.B β a w
  nxt : ∀ id, σ.next ≤ id → β id = none

inductive RR where
  | ok (σ : St) | split (c : E) | stuck

/-- Is an operation carried out: yes, no; it hangs on a term; unknown. -/
inductive GR where
  | yes | no | split (c : E) | stuck
def guardX (cx : Cx) (L : LK) (fs : Facts) (ops : Array Oper) (o : Oper) : GR :=
  match o.guard with
  | none => .yes
  | some (j, want) => match (ops[j]?).bind (·.dst) with
    | some t => match L t with
      | some s => match s.ex with
        | some (.val (.tuple _)) => .no
        | some e => if cx.so e = .bool then (match dec cx fs e with
            | some b => if b == want then .yes else .no
            | none => .split e) else .stuck
        | none => .stuck
      | none => .stuck
    | none => .stuck

def dstOk (fm : Fm) : Option Tmp → Bool
  | some d => Nat.blt d fm.N && fm.may d
  | none => true
theorem dstOk_lt {fm : Fm} {dst : Option Tmp} (h : dstOk fm dst = true) : ∀ d, dst = some d → d < fm.N ∧ fm.may d = true := by
  intro d hd
  subst hd
  simp only [dstOk, Bool.and_eq_true, Nat.blt] at h
  exact ⟨Nat.lt_of_succ_le (Nat.le_of_ble_eq_true h.1), h.2⟩

def putT (dst : Option Tmp) (s : SV) (l : List (Nat × SV)) : List (Nat × SV) :=
  match dst with
  | some d => (d, s) :: l
  | none => l
def wrB (wr : Option (Nat × Nat × List SC)) (l : List (Nat × List SC)) : List (Nat × List SC) :=
  match wr with
  | some (i, off, cs) => match lookA i l with
    | some row => (i, spl row off cs) :: l
    | none => l
  | none => l
def newB (new : Option (List SC)) (nid : Nat) (l : List (Nat × List SC)) : List (Nat × List SC) :=
  match new with
  | some row => (nid, row) :: l
  | none => l
def St.apply (σ : St) (dst : Option Tmp) (δ : Dl) : St :=
  { tmps := putT dst δ.v σ.tmps, boxes := newB δ.new σ.next (wrB δ.wr σ.boxes), next := σ.next + 1, facts := σ.facts }

def regT (cx : Cx) (N : Fm) (ops : Array Oper) : List Oper → St → RR
  | [], σ => .ok σ
  | o :: rest, σ =>
    if dstOk N o.dst then
      match guardX cx σ.L σ.facts ops o with
      | .yes => match opx cx σ.L σ.B σ.facts σ.next o.op with
        | .ok δ => regT cx N ops rest (σ.apply o.dst δ)
        | .split c => .split c
        | .stuck => .stuck
      | .no => regT cx N ops rest { σ with tmps := putT o.dst undefSV σ.tmps }
      | .split c => .split c
      | .stuck => .stuck
    else .stuck

section
variable {ρ : Nat → Value} {φ : Nat → List Value → List Value} {cx : Cx} {fx : Fx} {β : Nat → Option Nat} {a : Act} {w : World}

def asB : Value → Option Bool | .bool b => some b | _ => none
theorem guardX_ok (F : Fits cx.Γ cx.S ρ φ) {L : LK} {B : BK} (H : M ρ φ fx L B β a w) {fs : Facts} (hf : fs.hold ρ φ) {ops : Array Oper} {o : Oper} :
    (guardX cx L fs ops o = .yes → Region.wanted o (yielded ops a.tmps) = true) ∧ (guardX cx L fs ops o = .no → Region.wanted o (yielded ops a.tmps) = false) := by
  unfold guardX Region.wanted
  cases hg : o.guard with
  | none => simp
  | some g =>
    obtain ⟨j, want⟩ := g
    simp only
    cases ht : (ops[j]?).bind (·.dst) with
    | none => simp
    | some t =>
      simp only
      cases hs : L t with
      | none => simp
      | some s =>
        obtain ⟨x, hx, hsx⟩ := H.tmps t s hs
        have hy : yielded ops a.tmps j = asB x := by
          unfold yielded
          rw [ht]
          simp only [Option.bind_some, hx]
          cases x <;> rfl
        cases he : s.ex with
        | none => simp [he]
        | some e =>
          have hxe := SV.ex_is he hsx
          subst hxe
          simp only [he]
          split
          · rename_i vs heq
            simp only [Option.some.injEq] at heq
            subst heq
            rw [hy]
            simp [E.den, asB]
          · rename_i e' _ heq
            simp only [Option.some.injEq] at heq
            subst heq
            split
            · split
              · rename_i b hb
                have hb := dec_sound F hf hb
                rw [hy, hb]
                simp only [asB]
                constructor
                · intro h
                  split at h
                  · rename_i e; have e : b = want := by simpa using e
                    subst e; simp
                  · exact absurd h (by simp)
                · intro h
                  split at h
                  · exact absurd h (by simp)
                  · rename_i e; simpa using e
              · simp
            · simp
          · rename_i heq
            exact absurd heq (by simp)

theorem look_putT {dst : Option Tmp} {s : SV} {l : List (Nat × SV)} (t : Nat) : lookA t (putT dst s l) = putL (fun t => lookA t l) dst s t := by
  cases dst with
  | none => rfl
  | some d =>
    show @ite _ (Nat.beq d t = true) (decT (Nat.beq d t)) (some s) (lookA t l) = if Nat.beq d t then some s else lookA t l
    split <;> rfl

theorem beq_comm' (a b : Nat) : Nat.beq a b = Nat.beq b a := by
  cases h : Nat.beq b a with
  | true => rw [Nat.eq_of_beq_eq_true h]; exact Nat.beq_refl _
  | false =>
    cases h' : Nat.beq a b with
    | true => rw [Nat.eq_of_beq_eq_true h', Nat.beq_refl] at h; exact absurd h (by simp)
    | false => rfl
theorem look_wrB {wr : Option (Nat × Nat × List SC)} {l : List (Nat × List SC)} {id : Nat} {r : List SC} (h : lookA id (wrB wr l) = some r) :
    effW (fun i => lookA i l) wr id = some r := by
  cases wr with
  | none => exact h
  | some p =>
    obtain ⟨i, off, cs⟩ := p
    simp only [wrB] at h
    simp only [effW]
    cases hrow : lookA i l with
    | none =>
      rw [hrow] at h
      simp only at h
      cases hi : Nat.beq i id with
      | false => simpa using h
      | true =>
        have hi' := Nat.eq_of_beq_eq_true hi
        subst hi'
        rw [hrow] at h
        exact absurd h (by simp)
    | some row =>
      rw [hrow] at h
      simp only [lookA] at h
      cases hi : Nat.beq i id with
      | false => rw [hi] at h; simpa using h
      | true =>
        have hi' := Nat.eq_of_beq_eq_true hi
        subst hi'
        rw [hi] at h
        simp only [if_true] at h
        simpa [hrow] using h
theorem look_boxes {δ : Dl} {nid : Nat} {l : List (Nat × List SC)} {id : Nat} {r : List SC} (h : lookA id (newB δ.new nid (wrB δ.wr l)) = some r) : effB (fun i => lookA i l) δ nid id = some r := by
  obtain ⟨v, new, wr⟩ := δ
  simp only at h
  cases new with
  | none => exact look_wrB h
  | some row =>
    simp only [newB, lookA] at h
    simp only [effB]
    rw [beq_comm'] at h
    cases hi : Nat.beq id nid with
    | true => rw [hi] at h; simpa using h
    | false => rw [hi] at h; simpa using look_wrB (by simpa using h)

theorem regT_sound (V : Views cx ρ fx) (F : Fits cx.Γ cx.S ρ φ) (C : CtSound cx φ) {ops : Array Oper} {Q : Exit → Act → World → Prop} : ∀ {rest : List Oper} {σ σ' : St} {β : Nat → Option Nat} {a : Act} {w : World}, regT cx fx.fm ops rest σ = .ok σ' →
    MS ρ φ fx σ β a w → σ.facts.hold ρ φ → (∀ β' a' w', MS ρ φ fx σ' β' a' w' → σ'.facts.hold ρ φ → Q .normal a' w') → wpList cx.P ops Q rest a w
  | [], σ, σ', β, a, w, h, H, hf, hQ => by
    simp only [regT, RR.ok.injEq] at h
    subst h
    exact hQ β a w H hf
  | o :: rest, σ, σ', β, a, w, h, H, hf, hQ => by
    simp only [regT] at h
    split at h
    · rename_i hd
      have hd := dstOk_lt hd
      have hg := guardX_ok (cx := cx) F H.m hf (ops := ops) (o := o)
      unfold wpList
      split at h
      · rename_i hy
        rw [if_pos (hg.1 hy)]
        refine Or.inl ?_
        split at h
        · rename_i δ hδ
          have hn := H.nxt σ.next (Nat.le_refl _)
          refine opx_does V F C H.m hf hn hδ _ _ fun β' x w' hE hx => ?_
          have hm := M.step (dst := o.dst) H.m hn hE hd hx
          refine regT_sound V F C h ⟨hm.less (fun t s ht => ?_) (fun id r hr => look_boxes hr), fun id hid => ?_⟩ hf hQ
          · have ht : lookA t (putT o.dst δ.v σ.tmps) = some s := ht
            rw [look_putT] at ht
            exact ht
          · have hid : σ.next + 1 ≤ id := hid
            cases hb : β' id with
            | none => rfl
            | some b =>
              rcases hE.old id b hb with h1 | ⟨h1, _⟩
              · rw [H.nxt id (by omega)] at h1; simp at h1
              · omega
        · exact absurd h (by simp)
        · exact absurd h (by simp)
      · rename_i hy
        rw [if_neg (by rw [hg.2 hy]; simp)]
        refine regT_sound V F C h ⟨(H.m.skip hd).less (fun t s ht => ?_) (fun _ _ h => h), H.nxt⟩ hf hQ
        have ht : lookA t (putT o.dst undefSV σ.tmps) = some s := ht
        rw [look_putT] at ht
        exact ht
      · exact absurd h (by simp)
      · exact absurd h (by simp)
    · exact absurd h (by simp)
end
end Go.SX
