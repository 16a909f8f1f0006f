/- SX: what an operation does, symbol by symbol: numbers, cells, structs, slices of the call's own. -/
import Derived.Test.YtfcddhicklhefaaGreatDoorSXc
namespace Go.SX
open Go Go.RowKit

/-- An operation does what 'δ' says. -/
def Does (ρ : Nat → Value) (φ : Nat → List Value → List Value) (P : Program) (lo : Nat) (X : List Nat) (o : Oper) (a : Act) (w : World) (β : Nat → Option Nat) (nid : Nat) (δ : Dl) : Prop :=
  ∀ (K : Act → World → Prop) (Q : Exit → Act → World → Prop), (∀ β' x w', Eff ρ φ lo X δ nid β β' w w' → δ.v.is ρ φ β' x → K (a.put o.dst x) w') → o.wp P a w K Q

section
variable {ρ : Nat → Value} {φ : Nat → List Value → List Value} {P : Program} {lo : Nat} {X : List Nat} {o : Oper} {a : Act} {w : World} {β : Nat → Option Nat} {nid : Nat}
theorem does_val {s : SV} {x : Value} (hin : ∀ id b, β id = some b → b < w.heap.size) (h : (execOp a.eval o).run P w = .ok (.value x) w) (hv : s.is ρ φ β x) :
    Does ρ φ P lo X o a w β nid ⟨s, none, none⟩ := by
  intro K Q hk
  simp only [Oper.wp, h, Oper.upon]
  exact hk β x w ⟨Ext.refl _, fun _ _ h => Or.inl h, Below.refl _ _, hin, fun _ _ _ => rfl, by simp, by simp, by simp⟩ hv

def updB (β : Nat → Option Nat) (nid b : Nat) : Nat → Option Nat := fun id => if id = nid then some b else β id
theorem updB_ext {β : Nat → Option Nat} {nid b : Nat} (h : β nid = none) : Ext β (updB β nid b) := by
  intro id x hx
  unfold updB
  split
  · rename_i e; rw [e, h] at hx; simp at hx
  · exact hx
theorem updB_self (β : Nat → Option Nat) (nid b : Nat) : updB β nid b nid = some b := by simp [updB]
theorem updB_old {β : Nat → Option Nat} {nid b : Nat} {id x : Nat} (h : updB β nid b id = some x) : β id = some x ∨ (id = nid ∧ x = b) := by
  unfold updB at h
  split at h
  · rename_i e; simp only [Option.some.injEq] at h; exact Or.inr ⟨e, h.symm⟩
  · exact Or.inl h

theorem does_new {s : SV} {x : Value} {row : List SC} {vs : List Value} {T : TypeId} (hin : ∀ id b, β id = some b → b < w.heap.size) (hn : β nid = none)
    (h : (execOp a.eval o).run P w = .ok (.value x) (w.alloc (.cells vs.toArray T))) (hv : s.is ρ φ (updB β nid w.heap.size) x) (hr : All2 (SC.is ρ φ β) row vs) :
    Does ρ φ P lo X o a w β nid ⟨s, some row, none⟩ := by
  intro K Q hk
  simp only [Oper.wp, h, Oper.upon]
  refine hk (updB β nid w.heap.size) x _ ⟨updB_ext hn, fun id b h => ?_, ⟨rfl, rfl, rfl, by simp, fun k hk => by omega⟩, fun id b h => ?_, fun b hb _ => ?_, by simp, fun row' hrow => ?_, by simp⟩ hv
  · rcases updB_old h with h | ⟨h1, h2⟩
    · exact Or.inl h
    · exact Or.inr ⟨h1, by omega⟩
  · rcases updB_old h with h | ⟨h1, h2⟩
    · have := hin _ _ h; simp; omega
    · simp; omega
  · exact Below.heap_alloc _ _ _ hb
  · simp only [Option.some.injEq] at hrow
    subst hrow
    refine ⟨w.heap.size, vs, T, updB_self _ _ _, Nat.le_refl _, ?_, hr.mono fun _ _ => SC.is_ext (updB_ext hn)⟩
    show (w.heap.push _)[w.heap.size]? = _
    simp
end

/-! ### Numbers -/
def E.nn : E → Bool
  | .int _ n => decide (0 ≤ n)
  | .conv k _ => !k.signed
  | .bin op k _ _ => !k.signed && (match op with | .add | .sub | .mul | .and | .or | .xor | .andNot => true | _ => false)
  | _ => false
theorem wrap_nn {k : IntKind} (h : k.signed = false) (n : Int) : 0 ≤ k.wrap n := by
  cases k <;> simp [IntKind.signed] at h <;> simp [IntKind.wrap, IntKind.signed, IntKind.bits] <;> omega
theorem bits_nn {k : IntKind} (h : k.signed = false) (op : BinOp) (x y : Int) : 0 ≤ bits op k x y := by
  unfold bits
  exact wrap_nn h _
theorem E.nn_den (ρ : Nat → Value) (φ : Nat → List Value → List Value) {x : E} (h : x.nn = true) : 0 ≤ vint (x.den ρ φ) := by
  cases x <;> simp [E.nn] at h
  · simpa [E.den] using h
  · rename_i op k a b
    simp only [E.den, vint_int]
    obtain ⟨h1, h2⟩ := h
    cases op <;> simp at h2 <;> simp only [ibin] <;> first | exact wrap_nn h1 _ | exact bits_nn h1 _ _ _
  · simp only [E.den, vint_int]
    exact wrap_nn h _

def asg (cx : Cx) (fs : Facts) (c : E) (want : Bool) (x : OR) : OR :=
  match dec cx fs c with
  | some b => if b == want then x else .stuck
  | none => if cx.so c = .bool then .split c else .stuck

def binX (cx : Cx) (fs : Facts) (op : BinOp) (t : TypeId) (x y : E) : OR :=
  match cx.so x, cx.so y with
  | .int k, .int k' =>
    match op with
    | .shl | .shr => if y.nn || !k'.signed then vE (mkShf op k x y) else asg cx fs (mkLss y (.int k' 0)) false (vE (mkShf op k x y))
    | .quo | .rem => if kBeq k k' then asg cx fs (mkEql y (.int k' 0)) false (vE (mkBin op k x y)) else .stuck
    | .add | .sub | .mul | .and | .or | .xor | .andNot => if kBeq k k' then vE (mkBin op k x y) else .stuck
    | _ => if kBeq k k' then vE (mkCmp op x y) else .stuck
  | .bool, .bool =>
    match cx.P.underlying t with
    | some .bool => match op with
      | .eql => vE (mkBeq x y)
      | .neq => vE (mkNot (mkBeq x y))
      | _ => .stuck
    | _ => .stuck
  | .str, .str => match op with
    | .eql => vE (mkSeq x y)
    | .neq => vE (mkNot (mkSeq x y))
    | _ => .stuck
  | _, _ => .stuck

def unX (cx : Cx) (op : UnOp) (x : E) : OR :=
  match cx.so x with
  | .bool => match op with
    | .not => vE (mkNot x)
    | _ => .stuck
  | .int k => match op with
    | .neg => vE (mkBin .sub k (.int k 0) x)
    | .xor => vE (mkBin .xor k (.int k (if k.signed then -1 else highOf k)) x)
    | _ => .stuck
  | _ => .stuck

def convX (cx : Cx) (src dst : TypeId) (x : E) : OR :=
  match cx.P.underlying src, cx.P.underlying dst, cx.so x with
  | some _, some (.int k), .int k' => if kBeq k k' then vE x else vE (mkConv k x)
  | some _, some .string, .str => vE x
  | _, _, _ => .stuck

section
variable {ρ : Nat → Value} {φ : Nat → List Value → List Value} {cx : Cx} (F : Fits cx.Γ cx.S ρ φ)
 include F
theorem so_int {x : E} {k : IntKind} (h : cx.so x = .int k) : x.den ρ φ = .int k (vint (x.den ρ φ)) := by
  have := E.so_has F x
  unfold Cx.so at h
  rw [h] at this
  obtain ⟨n, hn, _⟩ := this
  rw [hn]; rfl
theorem so_range {x : E} {k : IntKind} (h : cx.so x = .int k) : lowOf k ≤ vint (x.den ρ φ) ∧ vint (x.den ρ φ) ≤ highOf k := by
  have := E.so_has F x
  unfold Cx.so at h
  rw [h] at this
  obtain ⟨n, hn, h1, h2⟩ := this
  rw [hn]; exact ⟨h1, h2⟩
theorem so_bool {x : E} (h : cx.so x = .bool) : x.den ρ φ = .bool (vbool (x.den ρ φ)) := by
  have := E.so_has F x
  unfold Cx.so at h
  rw [h] at this
  obtain ⟨n, hn⟩ := this
  rw [hn]; rfl
theorem so_strB {x : E} (h : cx.so x = .str) : ∃ s, x.den ρ φ = .string s ∧ s.size ≤ 140737488355328 := by
  have := E.so_has F x
  unfold Cx.so at h
  rw [h] at this
  exact this
theorem so_str {x : E} (h : cx.so x = .str) : ∃ s, x.den ρ φ = .string s := by
  obtain ⟨s, hs, _⟩ := so_strB F h
  exact ⟨s, hs⟩
theorem nn_or {x : E} {k : IntKind} (h : cx.so x = .int k) (hn : (x.nn || !k.signed) = true) : 0 ≤ vint (x.den ρ φ) := by
  rw [Bool.or_eq_true] at hn
  rcases hn with hn | hn
  · exact E.nn_den ρ φ hn
  · have := (so_range F h).1
    cases k <;> simp [IntKind.signed] at hn <;> simpa [lowOf] using this
theorem asg_ok {fs : Facts} (hf : fs.hold ρ φ) {c : E} {want : Bool} {x : OR} {δ : Dl} (h : asg cx fs c want x = .ok δ) : x = .ok δ ∧ c.den ρ φ = .bool want := by
  unfold asg at h
  split at h
  · rename_i b hb
    split at h
    · rename_i e
      have e : b = want := by simpa using e
      subst e
      exact ⟨h, dec_sound F hf hb⟩
    · exact absurd h (by simp)
  · split at h <;> exact absurd h (by simp)
 omit F in
theorem vE_ok {x : E} {δ : Dl} (h : vE x = .ok δ) : δ = ⟨.one ⟨false, [.e x]⟩, none, none⟩ := by
  unfold vE at h
  simp only [OR.ok.injEq] at h
  exact h.symm
 omit F in
theorem one_e (β : Nat → Option Nat) {x : E} {v : Value} (h : v = x.den ρ φ) : (SV.one ⟨false, [.e x]⟩).is ρ φ β v := h

theorem binX_run {fs : Facts} (hf : fs.hold ρ φ) {op : BinOp} {t : TypeId} {x y : E} {δ : Dl} (h : binX cx fs op t x y = .ok δ) (X Y : Operand) (w : World) :
    ∃ z, δ = ⟨.one ⟨false, [.e z]⟩, none, none⟩ ∧
      (do eqGuard op t X Y (x.den ρ φ) (y.den ρ φ); binOp op t (x.den ρ φ) (y.den ρ φ) : Sem Value).run cx.P w = .ok (z.den ρ φ) w := by
  unfold binX at h
  split at h
  · rename_i k k' hx hy
    have ex := so_int F hx
    have ey := so_int F hy
    generalize vint (x.den ρ φ) = m at ex
    generalize hn : vint (y.den ρ φ) = n at ey
    have hg : ∀ op, (eqGuard op t X Y (Value.int k m) (Value.int k' n)) = pure () := fun op => eqGuard_at_int op t X Y _ k m
    have sh : ∀ op, (op = .shl ∨ op = .shr) → 0 ≤ n → (binOp op t (.int k m) (.int k' n)).run cx.P w = .ok ((mkShf op k x y).den ρ φ) w := by
      intro op ho h0
      have h0' : ¬ n < 0 := by omega
      rw [mkShf_den, ex, ey]
      rcases ho with rfl | rfl <;> simp [binOp, Op.shift, h0', ishf]
    split at h
    · split at h
      · rename_i hnn
        refine ⟨_, vE_ok h, ?_⟩
        rw [ex, ey, hg]
        simpa using sh .shl (Or.inl rfl) (by rw [← hn]; exact nn_or F hy hnn)
      · obtain ⟨h1, h2⟩ := asg_ok F hf h
        refine ⟨_, vE_ok h1, ?_⟩
        rw [mkLss_den] at h2
        simp only [E.den, vint_int, Value.bool.injEq] at h2
        replace h2 := of_decide_eq_false h2
        rw [ex, ey, hg]
        simpa using sh .shl (Or.inl rfl) (by omega)
    · split at h
      · rename_i hnn
        refine ⟨_, vE_ok h, ?_⟩
        rw [ex, ey, hg]
        simpa using sh .shr (Or.inr rfl) (by rw [← hn]; exact nn_or F hy hnn)
      · obtain ⟨h1, h2⟩ := asg_ok F hf h
        refine ⟨_, vE_ok h1, ?_⟩
        rw [mkLss_den] at h2
        simp only [E.den, vint_int, Value.bool.injEq] at h2
        replace h2 := of_decide_eq_false h2
        rw [ex, ey, hg]
        simpa using sh .shr (Or.inr rfl) (by omega)
    · split at h
      · rename_i hk
        have hk := kBeq_eq hk
        subst hk
        obtain ⟨h1, h2⟩ := asg_ok F hf h
        refine ⟨_, vE_ok h1, ?_⟩
        rw [mkEql_den] at h2
        have h0 : n ≠ 0 := by
          simp only [E.den, vint_int, Value.bool.injEq, beq_eq_false_iff_ne, ne_eq] at h2
          rw [← hn]; exact h2
        rw [mkBin_den, ex, ey, hg]
        simp [binOp, Op.intDiv, h0, ibin]
      · exact absurd h (by simp)
    · split at h
      · rename_i hk
        have hk := kBeq_eq hk
        subst hk
        obtain ⟨h1, h2⟩ := asg_ok F hf h
        refine ⟨_, vE_ok h1, ?_⟩
        rw [mkEql_den] at h2
        have h0 : n ≠ 0 := by
          simp only [E.den, vint_int, Value.bool.injEq, beq_eq_false_iff_ne, ne_eq] at h2
          rw [← hn]; exact h2
        rw [mkBin_den, ex, ey, hg]
        simp [binOp, Op.intDiv, h0, ibin]
      · exact absurd h (by simp)
    all_goals
      split at h
      · rename_i hk
        have hk := kBeq_eq hk
        subst hk
        refine ⟨_, vE_ok h, ?_⟩
        rw [ex, ey, hg]
        first
          | (rw [mkBin_den, ex, ey]; simp [binOp, Op.intArith, Op.intBits, ibin, bits]; done)
          | (rw [mkCmp_den, ex, ey]; cases op <;> first | (exfalso; simp_all; done) | (simp [binOp, Op.intCmp, icmp]; done) | (simp [binOp, Op.intCmp, icmp]; rfl))
      · exact absurd h (by simp)
  · rename_i hx hy
    have ex := so_bool F hx
    have ey := so_bool F hy
    generalize vbool (x.den ρ φ) = m at ex
    generalize vbool (y.den ρ φ) = n at ey
    have hg : ∀ op, (eqGuard op t X Y (Value.bool m) (Value.bool n)) = pure () := fun op => eqGuard_at_bool op t X Y _ m
    split at h
    · rename_i hu
      split at h
      · refine ⟨_, vE_ok h, ?_⟩
        rw [mkBeq_den, ex, ey, hg]
        have hq := run_equal_bool w t m n hu
        have hb : binOp .eql t (.bool m) (.bool n) = (do pure (.bool (← Op.equal t (.bool m) (.bool n)))) := rfl
        rw [hb]
        simp [hq]
      · refine ⟨_, vE_ok h, ?_⟩
        rw [mkNot_den, mkBeq_den, ex, ey, hg]
        have hq := run_equal_bool w t m n hu
        have hb : binOp .neq t (.bool m) (.bool n) = (do pure (.bool (!(← Op.equal t (.bool m) (.bool n))))) := rfl
        rw [hb]
        simp [hq]
      · exact absurd h (by simp)
    · exact absurd h (by simp)
  · rename_i hx hy
    obtain ⟨m, ex⟩ := so_str F hx
    obtain ⟨n, ey⟩ := so_str F hy
    have hg : ∀ op, (eqGuard op t X Y (Value.string m) (Value.string n)) = pure () := fun op => eqGuard_at_string op t X Y _ m
    split at h
    · refine ⟨_, vE_ok h, ?_⟩
      rw [mkSeq_den, ex, ey, hg]
      simp [binOp, Op.stringOp]
    · refine ⟨_, vE_ok h, ?_⟩
      rw [mkNot_den, mkSeq_den, ex, ey, hg]
      simp [binOp, Op.stringOp]
    · exact absurd h (by simp)
  · exact absurd h (by simp)

theorem unX_run {op : UnOp} {x : E} {δ : Dl} (h : unX cx op x = .ok δ) (w : World) :
    ∃ z, δ = ⟨.one ⟨false, [.e z]⟩, none, none⟩ ∧ (Op.unary op (x.den ρ φ)).run cx.P w = .ok (z.den ρ φ) w := by
  unfold unX at h
  split at h
  · rename_i hx
    have ex := so_bool F hx
    generalize vbool (x.den ρ φ) = m at ex
    split at h
    · refine ⟨_, vE_ok h, ?_⟩
      rw [mkNot_den, ex]
      simp [Op.unary]
    · exact absurd h (by simp)
  · rename_i k hx
    have ex := so_int F hx
    generalize vint (x.den ρ φ) = m at ex
    split at h
    · refine ⟨_, vE_ok h, ?_⟩
      rw [mkBin_den, ex]
      simp [Op.unary, Op.intArith, ibin, E.den]
    · refine ⟨_, vE_ok h, ?_⟩
      rw [mkBin_den, ex]
      have hm : (if k.signed = true then -1 else highOf k) = (if k.signed = true then -1 else k.max) := by
        cases k <;> decide
      simp only [Op.unary, E.den, vint_int, hm]
      simp [Op.intBits, ibin, bits]
    · exact absurd h (by simp)
  · exact absurd h (by simp)

theorem convX_run {src dst : TypeId} {x : E} {δ : Dl} (h : convX cx src dst x = .ok δ) (w : World) :
    ∃ z, δ = ⟨.one ⟨false, [.e z]⟩, none, none⟩ ∧ (convert src dst (x.den ρ φ)).run cx.P w = .ok (z.den ρ φ) w := by
  unfold convX at h
  split at h
  · rename_i d k k' hs hd hx
    have ex := so_int F hx
    split at h
    · rename_i hk
      refine ⟨_, vE_ok h, ?_⟩
      have hk := kBeq_eq hk
      subst hk
      have hr := so_range F hx
      have hw := wrap_id hr.1 hr.2
      generalize vint (x.den ρ φ) = m at ex hw
      rw [ex]
      simp [convert, run_underlying hs, run_underlying hd, Conv.intToInt, hw]
    · refine ⟨_, vE_ok h, ?_⟩
      rw [mkConv_den, ex]
      simp [convert, run_underlying hs, run_underlying hd, Conv.intToInt]
  · rename_i d hs hd hx
    obtain ⟨m, ex⟩ := so_str F hx
    refine ⟨_, vE_ok h, ?_⟩
    rw [ex]
    cases d <;> simp [convert, run_underlying hs, run_underlying hd]
  · exact absurd h (by simp)
end
end Go.SX
