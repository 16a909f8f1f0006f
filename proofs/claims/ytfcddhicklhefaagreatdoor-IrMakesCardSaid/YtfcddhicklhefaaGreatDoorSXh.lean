/- SX: calls by their contracts; all operations. -/
import Derived.Test.YtfcddhicklhefaaGreatDoorSXg
namespace Go.SX
open Go Go.RowKit

/-! ### What a contract says -/
def PK.reads (w : World) : PK → Value → List Value → Prop
  | .val true ss, v, fl => v = .agg fl.toArray ∧ All2 So.has ss fl
  | .val false ss, v, fl => fl = [v] ∧ All2 So.has ss fl
  | .sl ss, v, fl => ∃ a len cap, ∃ vs : List Value, v = .slice a len cap ∧ fl = [.int .i64 (Int.ofNat len), .tuple vs.toArray] ∧ vs.length = len * ss.length ∧ len ≤ cap ∧ len ≤ 4611686018427387904 ∧
      (∀ i u, vs[i]? = some u → (ss.getD (i % ss.length) .any).has u) ∧
      ((a = none ∧ len = 0 ∧ cap = 0) ∨ ∃ b off, a = some ⟨b, off, none⟩ ∧ b < w.heap.size ∧ ∀ i u, vs[i]? = some u → w.cell? ⟨b, off + i, none⟩ = some u)
def readsAll (w : World) : List PK → List Value → List Value → Prop
  | [], [], fl => fl = []
  | p :: ps, v :: vs, fl => ∃ f1 f2, fl = f1 ++ f2 ∧ p.reads w v f1 ∧ readsAll w ps vs f2
  | _, _, _ => False
def pick (out : List Value) (j n : Nat) : List Value := (List.range' j n).map fun i => out.getD i undef
def RK.gives (w w' : World) (out : List Value) (j : Nat) : RK → Value → Prop
  | .val true ss, x => x = .agg (pick out j ss.length).toArray
  | .val false _, x => x = out.getD j undef
  | .row n _, x => ∃ b T, x = .slice (some ⟨b, 0, none⟩) n n ∧ w.heap.size ≤ b ∧ w'.heap[b]? = some (.cells (pick out j n).toArray T (0, 0))
def givesAll (w w' : World) (out : List Value) : Nat → List RK → List Value → Prop
  | _, [], [] => True
  | j, r :: rs, x :: xs => r.gives w w' out j x ∧ givesAll w w' out (j + r.sorts.length) rs xs
  | _, _, _ => False
def retGives (w w' : World) (out : List Value) (rs : List RK) (x : Value) : Prop :=
  match rs with
  | [r] => r.gives w w' out 0 x
  | rs => ∃ xs : List Value, x = .tuple xs.toArray ∧ givesAll w w' out 0 rs xs

structure Sig.Sound (P : Program) (φ : Nat → List Value → List Value) (g : Sig) : Prop where
  call : ∀ (args : Array Value) (w : World), (callFunc g.f args).run P w = .ok (.enter g.f args) w
  does : ∀ (w : World) (xs fl : List Value), readsAll w g.ps xs fl → g.pre.hold (fun i => fl.getD i undef) (fun _ _ => []) → (∀ p ∈ g.fix, fl.getD p.1 undef = p.2.den (fun _ => undef) (fun _ _ => [])) →
    Calls P g.f xs.toArray w fun e w' => ∃ x, e = .returned x ∧ retGives w w' (φ g.sym fl) g.rs x ∧ Below w.heap.size w w'
  tells : ∀ fl : List Value, All2 So.has (g.ps.flatMap PK.sorts) fl → (φ g.sym fl).getD 0 undef = .bool true → g.imp.hold (fun i => fl.getD i undef) (fun _ _ => [])
def CtSound (cx : Cx) (φ : Nat → List Value → List Value) : Prop := ∀ g ∈ cx.ct, g.Sound cx.P φ

/-! ### Arguments -/
def exs : List SC → Option (List E)
  | [] => some []
  | .e x :: cs => (exs cs).map (x :: ·)
  | _ => none
def soOk (cx : Cx) : List So → List E → Bool
  | [], [] => true
  | s :: ss, x :: xs => (decide (s = .any) || decide (cx.so x = s)) && soOk cx ss xs
  | _, _ => false
def soRep (cx : Cx) (ss : List So) : List E → Nat → Bool
  | [], _ => true
  | x :: xs, i => (decide (ss.getD (i % ss.length) .any = .any) || decide (cx.so x = ss.getD (i % ss.length) .any)) && soRep cx ss xs (i + 1)
def toL : List E → E
  | [] => .nil
  | x :: xs => .cons x (toL xs)

def flat1 (cx : Cx) (B : BK) (p : PK) (s : SV) : Option (List E) :=
  match p, s with
  | .val agg ss, .one ⟨agg', cs⟩ =>
    if agg == agg' then match exs cs with
      | some es => if soOk cx ss es then some es else none
      | none => none
    else none
  | .sl ss, .one ⟨false, [.slc id off len cap]⟩ =>
    match B id with
    | some row => match exs ((row.drop off).take (len * ss.length)) with
      | some es => if Nat.beq es.length (len * ss.length) && Nat.ble len cap && Nat.ble len 4611686018427387904 && soRep cx ss es 0 then some [.int .i64 (Int.ofNat len), .tup (toL es)] else none
      | none => none
    | none => none
  | .sl _, .one ⟨false, [.e (.val (.slice none 0 0))]⟩ => some [.int .i64 (Int.ofNat 0), .tup .nil]
  | .sl ss, .one ⟨false, [.e (.var i)]⟩ =>
    match findVw i cx.vw with
    | some v => if decide (v.ss = ss) then some [.var v.l, .var v.g] else none
    | none => none
  | _, _ => none
def flats (cx : Cx) (L : LK) (B : BK) : List PK → List Operand → Option (List E)
  | [], [] => some []
  | p :: ps, x :: xs =>
    match opd L x with
    | some s => match flat1 cx B p s, flats cx L B ps xs with
      | some a, some b => some (a ++ b)
      | _, _ => none
    | none => none
  | _, _ => none
section
variable {ρ : Nat → Value} {φ : Nat → List Value → List Value} {cx : Cx} {fx : Fx} {L : LK} {B : BK} {β : Nat → Option Nat} {a : Act} {w : World}
theorem toL_dens : ∀ es : List E, (toL es).dens ρ φ = es.map (·.den ρ φ)
  | [] => rfl
  | x :: xs => by simp [toL, E.dens, toL_dens xs]
theorem exs_is : ∀ {cs : List SC} {es : List E} {vs : List Value}, exs cs = some es → All2 (SC.is ρ φ β) cs vs → vs = es.map (·.den ρ φ)
  | [], es, vs, h, ha => by
    simp only [exs, Option.some.injEq] at h
    subst h
    cases vs with
    | nil => rfl
    | cons _ _ => exact ha.elim
  | .e x :: cs, es, vs, h, ha => by
    simp only [exs, Option.map_eq_some_iff] at h
    obtain ⟨es', he, rfl⟩ := h
    cases vs with
    | nil => exact ha.elim
    | cons v vs =>
      have h1 : v = x.den ρ φ := ha.1
      rw [h1, exs_is he ha.2]
      rfl
  | .ptr _ _ :: _, _, _, h, _ => by simp [exs] at h
  | .pti _ _ _ :: _, _, _, h, _ => by simp [exs] at h
  | .slc _ _ _ _ :: _, _, _, h, _ => by simp [exs] at h
  | .vad _ _ _ _ :: _, _, _, h, _ => by simp [exs] at h
theorem has_of (F : Fits cx.Γ cx.S ρ φ) {s : So} {x : E} (h : (decide (s = .any) || decide (cx.so x = s)) = true) : s.has (x.den ρ φ) := by
  rw [Bool.or_eq_true] at h
  rcases h with h | h
  · have h := of_decide_eq_true h
    subst h
    trivial
  · have h := of_decide_eq_true h
    rw [← h]
    exact E.so_has F x
theorem soOk_has (F : Fits cx.Γ cx.S ρ φ) : ∀ {ss : List So} {es : List E}, soOk cx ss es = true → All2 So.has ss (es.map (·.den ρ φ))
  | [], [], _ => trivial
  | s :: ss, x :: xs, h => by
    simp only [soOk, Bool.and_eq_true] at h
    exact ⟨has_of F h.1, soOk_has F h.2⟩
  | [], _ :: _, h => by simp [soOk] at h
  | _ :: _, [], h => by simp [soOk] at h
theorem soRep_has (F : Fits cx.Γ cx.S ρ φ) {ss : List So} : ∀ {es : List E} {k : Nat}, soRep cx ss es k = true → ∀ i u, (es.map (·.den ρ φ))[i]? = some u → (ss.getD ((k + i) % ss.length) .any).has u
  | [], k, _, i, u, hu => by simp at hu
  | x :: xs, k, h, 0, u, hu => by
    simp only [soRep, Bool.and_eq_true] at h
    simp at hu
    subst hu
    exact has_of F h.1
  | x :: xs, k, h, i + 1, u, hu => by
    simp only [soRep, Bool.and_eq_true] at h
    have := soRep_has F h.2 i u (by simpa using hu)
    rwa [show k + 1 + i = k + (i + 1) by omega] at this

theorem flat1_reads (V : Views cx ρ fx) (F : Fits cx.Γ cx.S ρ φ) (H : M ρ φ fx L B β a w) {p : PK} {s : SV} {es : List E} {v : Value} (h : flat1 cx B p s = some es) (hv : s.is ρ φ β v) :
    p.reads w v (es.map (·.den ρ φ)) := by
  unfold flat1 at h
  split at h
  · rename_i agg ss agg' cs
    split at h
    · rename_i hag
      have hag : agg = agg' := by simpa using hag
      subst hag
      split at h
      · rename_i es' hes
        split at h
        · rename_i hso
          simp only [Option.some.injEq] at h
          subst h
          cases agg with
          | true =>
            obtain ⟨vs, rfl, ha⟩ := hv
            have := exs_is hes ha
            subst this
            exact ⟨rfl, soOk_has F hso⟩
          | false =>
            match cs, hv, hes with
            | [c], hv, hes =>
              have := exs_is (vs := [v]) hes ⟨hv, trivial⟩
              exact ⟨this.symm, soOk_has F hso⟩
        · exact absurd h (by simp)
      · exact absurd h (by simp)
    · exact absurd h (by simp)
  · rename_i ss id off len cap
    split at h
    · rename_i row hr
      split at h
      · rename_i es' hes
        split at h
        · rename_i hc
          simp only [Bool.and_eq_true] at hc
          obtain ⟨⟨⟨h1, h2⟩, h2'⟩, h3⟩ := hc
          have h1 := Nat.eq_of_beq_eq_true h1
          have h2 := Nat.le_of_ble_eq_true h2
          have h2' := Nat.le_of_ble_eq_true h2'
          simp only [Option.some.injEq] at h
          subst h
          obtain ⟨b, hb, rfl⟩ := hv
          obtain ⟨b', vs, T, hb', hlo, hh, ha⟩ := H.box id row hr
          rw [hb] at hb'
          simp only [Option.some.injEq] at hb'
          subst hb'
          have hvs := exs_is hes ((ha.drop off).take (len * ss.length))
          refine ⟨_, len, cap, es'.map (·.den ρ φ), rfl, by simp [E.den, toL_dens], by simpa using h1, h2, h2', ?_, Or.inr ⟨b, off, rfl, H.inh _ _ hb, ?_⟩⟩
          · intro i u hu
            have := soRep_has F h3 i u hu
            simpa using this
          · intro i u hu
            rw [← hvs] at hu
            have hi : i < len * ss.length := by
              have := (List.getElem?_eq_some_iff.1 hu).1
              have := List.length_take_le (len * ss.length) (vs.drop off)
              omega
            rw [List.getElem?_take, if_pos hi, List.getElem?_drop] at hu
            rw [cell_at hh, hu]
        · exact absurd h (by simp)
      · exact absurd h (by simp)
    · exact absurd h (by simp)
  · rename_i ss
    simp only [Option.some.injEq] at h
    subst h
    have hv : v = .slice none 0 0 := hv
    subst hv
    exact ⟨none, 0, 0, [], rfl, by simp [E.den, E.dens], by simp, Nat.le_refl _, Nat.zero_le _, by simp, Or.inl ⟨rfl, rfl, rfl⟩⟩
  · rename_i ss i
    split at h
    · rename_i v hvw
      obtain ⟨hmem, rfl⟩ := findVw_mem hvw
      split at h
      · rename_i hss
        have hss := of_decide_eq_true hss
        subst hss
        simp only [Option.some.injEq] at h
        subst h
        obtain ⟨ad, len, cap, vs, h1, h2, h3, h4, h4', h5, h6, h7, h8⟩ := V v hmem
        have hv : _ = E.den ρ φ (.var v.i) := hv
        subst hv
        refine ⟨ad, len, cap, vs, h1, by simp [E.den, h2, h3], h4, h4', h5, h7, ?_⟩
        rcases h8 with h8 | ⟨b, off, h8, hbl, hbX, hcell⟩
        · exact Or.inl h8
        · refine Or.inr ⟨b, off, h8, Nat.lt_of_lt_of_le hbl H.low.size, fun i u hu => ?_⟩
          rw [H.old hbl hbX]
          exact hcell i u hu
      · exact absurd h (by simp)
    · exact absurd h (by simp)
  · exact absurd h (by simp)

theorem flats_reads (V : Views cx ρ fx) (F : Fits cx.Γ cx.S ρ φ) (H : M ρ φ fx L B β a w) : ∀ {ps : List PK} {xs : List Operand} {es : List E}, flats cx L B ps xs = some es →
    readsAll w ps (xs.map a.eval) (es.map (·.den ρ φ))
  | [], [], es, h => by
    simp only [flats, Option.some.injEq] at h
    subst h
    rfl
  | p :: ps, x :: xs, es, h => by
    simp only [flats] at h
    split at h
    · rename_i s hs
      split at h
      · rename_i e1 e2 h1 h2
        simp only [Option.some.injEq] at h
        subst h
        exact ⟨_, _, List.map_append, flat1_reads V F H h1 (opd_is H hs), flats_reads V F H h2⟩
      · exact absurd h (by simp)
    · exact absurd h (by simp)
  | [], _ :: _, _, h => by simp [flats] at h
  | _ :: _, [], _, h => by simp [flats] at h
end

/-! ### Results -/
def apps (sym : Nat) (args : E) (j n : Nat) : List SC := (List.range' j n).map fun i => .e (.app sym i args)
def RK.part (sym : Nat) (args : E) (nid j : Nat) : RK → Part
  | .val true ss => ⟨true, apps sym args j ss.length⟩
  | .val false _ => ⟨false, [.e (.app sym j args)]⟩
  | .row n _ => ⟨false, [.slc nid 0 n n]⟩
def parts (sym : Nat) (args : E) (nid : Nat) : Nat → List RK → List Part
  | _, [] => []
  | j, r :: rs => r.part sym args nid j :: parts sym args nid (j + r.sorts.length) rs
def rowsOf (sym : Nat) (args : E) : Nat → List RK → List (List SC)
  | _, [] => []
  | j, r :: rs => match r with
    | .row n _ => apps sym args j n :: rowsOf sym args (j + r.sorts.length) rs
    | _ => rowsOf sym args (j + r.sorts.length) rs
def retX (nid : Nat) (g : Sig) (args : E) : OR :=
  match rowsOf g.sym args 0 g.rs with
  | [] => .ok ⟨match g.rs with | [r] => .one (r.part g.sym args nid 0) | rs => .tup (parts g.sym args nid 0 rs), none, none⟩
  | [row] => .ok ⟨match g.rs with | [r] => .one (r.part g.sym args nid 0) | rs => .tup (parts g.sym args nid 0 rs), some row, none⟩
  | _ => .stuck

/-- Literals. -/
def E.isLit : E → Bool
  | .int _ _ | .bool _ | .val _ => true
  | _ => false
def fixOk (es : List E) (fx : List (Nat × E)) : Bool := fx.all fun p => p.2.isLit && (atL es p.1).eqv p.2
/-- The first contract that fits. -/
def callG (cx : Cx) (L : LK) (B : BK) (fs : Facts) (nid : Nat) (args : List Operand) (f : FuncId) : List Sig → OR
  | [] => .stuck
  | g :: gs =>
    if Nat.beq g.f f then
      match flats cx L B g.ps args with
      | some es => if fixOk es g.fix && preOk cx fs es g.pre && (g.pre.all fun p => p.1.noApp) then retX nid g (toL es) else callG cx L B fs nid args f gs
      | none => callG cx L B fs nid args f gs
    else callG cx L B fs nid args f gs
def callX (cx : Cx) (L : LK) (B : BK) (fs : Facts) (nid : Nat) (c : Call) : OR :=
  match c.callee with
  | .value fo => match (opd L fo).bind SV.ex with
    | some (.val (.func (.func f) fi ca)) =>
      if Nat.beq fi.size 0 && Nat.beq ca.size 0 then callG cx L B fs nid c.args.toList f cx.ct
      else .stuck
    | _ => .stuck
  | _ => .stuck
theorem callG_some {cx : Cx} {L : LK} {B : BK} {fs : Facts} {nid : Nat} {args : List Operand} {f : FuncId} {δ : Dl} : ∀ {gs : List Sig}, callG cx L B fs nid args f gs = .ok δ →
    ∃ g es, g ∈ gs ∧ g.f = f ∧ flats cx L B g.ps args = some es ∧ fixOk es g.fix = true ∧ preOk cx fs es g.pre = true ∧ (g.pre.all fun p => p.1.noApp) = true ∧ retX nid g (toL es) = .ok δ
  | [], h => by simp [callG] at h
  | g :: gs, h => by
    have rec' : callG cx L B fs nid args f gs = .ok δ → ∃ g' es, g' ∈ g :: gs ∧ g'.f = f ∧ flats cx L B g'.ps args = some es ∧ fixOk es g'.fix = true ∧ preOk cx fs es g'.pre = true ∧ (g'.pre.all fun p => p.1.noApp) = true ∧ retX nid g' (toL es) = .ok δ := by
      intro h
      obtain ⟨g', es, h1, h2⟩ := callG_some h
      exact ⟨g', es, List.mem_cons_of_mem _ h1, h2⟩
    simp only [callG] at h
    split at h
    · rename_i hf
      split at h
      · rename_i es hes
        split at h
        · rename_i hc
          simp only [Bool.and_eq_true] at hc
          exact ⟨g, es, by simp, Nat.eq_of_beq_eq_true hf, hes, hc.1.1, hc.1.2, hc.2, h⟩
        · exact rec' h
      · exact rec' h
    · exact rec' h
theorem isLit_den {e : E} (h : e.isLit = true) (ρ ρ' : Nat → Value) (φ φ' : Nat → List Value → List Value) : e.den ρ φ = e.den ρ' φ' := by
  cases e <;> first | rfl | simp [E.isLit] at h
theorem fixOk_fits {ρ : Nat → Value} {φ : Nat → List Value → List Value} {es : List E} {fx : List (Nat × E)} (h : fixOk es fx = true) : ∀ p ∈ fx, (es.map (·.den ρ φ)).getD p.1 undef = p.2.den (fun _ => undef) (fun _ _ => []) := by
  intro p hp
  have := List.all_eq_true.1 h p hp
  rw [Bool.and_eq_true] at this
  have e1 := E.eqv_eq this.2
  have e2 : (atL es p.1).den ρ φ = (es.map (·.den ρ φ)).getD p.1 undef := by
    unfold atL
    rw [List.getD_eq_getElem?_getD, List.getD_eq_getElem?_getD, List.getElem?_map]
    cases es[p.1]? <;> rfl
  rw [← e2, e1]
  exact isLit_den this.1 _ _ _ _

section
variable {ρ : Nat → Value} {φ : Nat → List Value → List Value} {cx : Cx} {fx : Fx} {L : LK} {B : BK} {β : Nat → Option Nat} {a : Act} {w w' : World}
theorem apps_is (sym : Nat) (args : E) (j n : Nat) : All2 (SC.is ρ φ β) (apps sym args j n) (pick (φ sym (args.dens ρ φ)) j n) := by
  unfold apps pick
  induction List.range' j n with
  | nil => trivial
  | cons i is ih => exact ⟨rfl, ih⟩

/-- Where the blocks of a call's rows lie. -/
def RowAt (w' : World) (β' : Nat → Option Nat) (nid : Nat) (vals : List Value) : Prop :=
  ∃ b T, β' nid = some b ∧ w'.heap[b]? = some (.cells vals.toArray T (0, 0))

theorem part_val {sym : Nat} {args : E} {nid j : Nat} {r : RK} {x : Value} (hr : ∀ n s, r ≠ .row n s) (h : r.gives w w' (φ sym (args.dens ρ φ)) j x) :
    (r.part sym args nid j).is ρ φ β x := by
  cases r with
  | val agg ss =>
    cases agg with
    | true => exact ⟨_, h, apps_is _ _ _ _⟩
    | false => exact h
  | row n s => exact absurd rfl (hr n s)

theorem parts_norow {sym : Nat} {args : E} {nid : Nat} : ∀ {rs : List RK} {j : Nat} {xs : List Value}, rowsOf sym args j rs = [] → givesAll w w' (φ sym (args.dens ρ φ)) j rs xs →
    All2 (Part.is ρ φ β) (parts sym args nid j rs) xs
  | [], j, [], _, _ => trivial
  | r :: rs, j, x :: xs, hr, h => by
    cases r with
    | val agg ss =>
      refine ⟨part_val (w := w) (w' := w') (by simp) h.1, parts_norow (by simpa [rowsOf] using hr) h.2⟩
    | row n s => simp [rowsOf] at hr
  | [], _, _ :: _, _, h => h.elim
  | _ :: _, _, [], _, h => h.elim

theorem parts_row {sym : Nat} {args : E} {nid : Nat} (hn : β nid = none) : ∀ {rs : List RK} {j : Nat} {xs : List Value} {row : List SC}, rowsOf sym args j rs = [row] → givesAll w w' (φ sym (args.dens ρ φ)) j rs xs →
    ∃ b vs T, w.heap.size ≤ b ∧ w'.heap[b]? = some (.cells (List.toArray vs) T (0, 0)) ∧ (∀ β : Nat → Option Nat, All2 (SC.is ρ φ β) row vs) ∧ All2 (Part.is ρ φ (updB β nid b)) (parts sym args nid j rs) xs
  | [], j, [], row, hr, _ => by simp [rowsOf] at hr
  | r :: rs, j, x :: xs, row, hr, h => by
    cases r with
    | val agg ss =>
      obtain ⟨b, vs, T, h1, h2, h3, h4⟩ := parts_row hn (rs := rs) (by simpa [rowsOf] using hr) h.2
      exact ⟨b, vs, T, h1, h2, h3, part_val (w := w) (w' := w') (by simp) h.1, h4⟩
    | row n s =>
      simp only [rowsOf, List.cons.injEq] at hr
      obtain ⟨rfl, hr⟩ := hr
      obtain ⟨⟨b, T, hx, hlo, hh⟩, hrest⟩ := h
      refine ⟨b, _, T, hlo, hh, fun β => apps_is _ _ _ _, ⟨b, updB_self _ _ _, hx⟩, parts_norow hr hrest⟩
  | [], _, _ :: _, _, _, h => h.elim
  | _ :: _, _, [], _, _, h => h.elim

theorem retX_ok (H : M ρ φ fx L B β a w) {nid : Nat} {g : Sig} {args : E} {δ : Dl} {x : Value} (hn : β nid = none) (h : retX nid g args = .ok δ)
    (hg : retGives w w' (φ g.sym (args.dens ρ φ)) g.rs x) (hb : Below w.heap.size w w') :
    ∃ β', Eff ρ φ fx.w0.heap.size fx.X δ nid β β' w w' ∧ δ.v.is ρ φ β' x := by
  unfold retX at h
  split at h
  · rename_i hr
    simp only [OR.ok.injEq] at h
    subst h
    refine ⟨β, ⟨Ext.refl _, fun _ _ h => Or.inl h, hb.mono (Nat.zero_le _), fun id b h => Nat.lt_of_lt_of_le (H.inh _ _ h) hb.size, fun b hlt _ => hb.block b hlt, by simp, by simp, by simp⟩, ?_⟩
    generalize hrs : g.rs = rs at *
    unfold retGives at hg
    split at hg
    · rename_i r
      cases r with
      | val agg ss => exact part_val (w := w) (w' := w') (by simp) hg
      | row n s => simp [rowsOf] at hr
    · rename_i hne
      obtain ⟨xs, rfl, hall⟩ := hg
      exact ⟨xs, rfl, parts_norow (β := β) (nid := nid) hr hall⟩
  · rename_i row hr
    simp only [OR.ok.injEq] at h
    subst h
    generalize hrs : g.rs = rs at *
    have key : ∃ b vs T, w.heap.size ≤ b ∧ w'.heap[b]? = some (.cells (List.toArray vs) T (0, 0)) ∧ (∀ β : Nat → Option Nat, All2 (SC.is ρ φ β) row vs) ∧
        (match rs with | [r] => SV.one (r.part g.sym args nid 0) | rs => SV.tup (parts g.sym args nid 0 rs)).is ρ φ (updB β nid b) x := by
      unfold retGives at hg
      split at hg
      · rename_i r
        cases r with
        | val agg ss => simp [rowsOf] at hr
        | row n s =>
          simp only [rowsOf, List.cons.injEq, and_true] at hr
          subst hr
          obtain ⟨b, T, hx, hlo, hh⟩ := hg
          exact ⟨b, _, T, hlo, hh, fun β => apps_is _ _ _ _, b, updB_self _ _ _, hx⟩
      · rename_i hne
        obtain ⟨xs, rfl, hall⟩ := hg
        obtain ⟨b, vs, T, h1, h2, h3, h4⟩ := parts_row hn hr hall
        exact ⟨b, vs, T, h1, h2, h3, xs, rfl, h4⟩
    obtain ⟨b, vs, T, h1, h2, h3, h4⟩ := key
    have hbl : b < w'.heap.size := (Array.getElem?_eq_some_iff.1 h2).1
    refine ⟨updB β nid b, ⟨updB_ext hn, fun id x h => ?_, hb.mono (Nat.zero_le _), fun id x h => ?_, fun b hlt _ => hb.block b hlt, by simp, fun row' hrow => ?_, by simp⟩, h4⟩
    · rcases updB_old h with h | ⟨h5, h6⟩
      · exact Or.inl h
      · exact Or.inr ⟨h5, by omega⟩
    · rcases updB_old h with h | ⟨h5, h6⟩
      · exact Nat.lt_of_lt_of_le (H.inh _ _ h) hb.size
      · omega
    · simp only [Option.some.injEq] at hrow
      subst hrow
      exact ⟨b, vs, T, updB_self _ _ _, h1, h2, h3 _⟩
  · exact absurd h (by simp)

theorem callX_does (V : Views cx ρ fx) (F : Fits cx.Γ cx.S ρ φ) (C : CtSound cx φ) (H : M ρ φ fx L B β a w) {fs : Facts} (hfs : fs.hold ρ φ) {c : Call} {nid : Nat} {δ : Dl} {o : Oper} (hn : β nid = none) (h : callX cx L B fs nid c = .ok δ)
    (ho : o.op = .call c) : Does ρ φ cx.P fx.w0.heap.size fx.X o a w β nid δ := by
  unfold callX at h
  split at h
  · rename_i fo hfo
    split at h
    · rename_i f fi ca hf
      split at h
      · rename_i hz
        rw [Bool.and_eq_true] at hz
        have hfi : fi = #[] := Array.eq_empty_of_size_eq_zero (Nat.eq_of_beq_eq_true hz.1)
        have hca : ca = #[] := Array.eq_empty_of_size_eq_zero (Nat.eq_of_beq_eq_true hz.2)
        subst hfi hca
        obtain ⟨g, es, hmem, rfl, hes, hfix, hpre1, hpre2, hret⟩ := callG_some h
        have hs := C g hmem
        simp only [Option.bind_eq_some_iff] at hf
        obtain ⟨sv, hsv, hex⟩ := hf
        have hfv : a.eval fo = .func (.func g.f) #[] #[] := SV.ex_is hex (opd_is H hsv)
        have hrun : (execOp a.eval o).run cx.P w = .ok (.enter g.f (c.args.map a.eval)) w := by
          simp only [execOp, ho, resolve, hfo, hfv, Deferred.ofValue, pure_bind]
          simp only [invoke, Array.append_empty, Array.empty_append]
          exact hs.call _ _
        intro K Q hk
        simp only [Oper.wp, hrun, Oper.upon]
        have hd := hs.does w (c.args.toList.map a.eval) _ (flats_reads V F H hes) (holdN hpre2 (preOk_hold F hfs hpre1)) (fixOk_fits hfix)
        have e : (c.args.toList.map a.eval).toArray = c.args.map a.eval := by
          apply Array.ext'; simp
        rw [e] at hd
        refine hd.mono ?_
        rintro e w' ⟨x, rfl, hgv, hbl⟩
        rw [← toL_dens] at hgv
        obtain ⟨β', hE, hx⟩ := retX_ok H hn hret hgv hbl
        exact hk β' x w' hE hx
      · exact absurd h (by simp)
    · exact absurd h (by simp)
  · exact absurd h (by simp)
end
end Go.SX
