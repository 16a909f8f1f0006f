/- SX: what is known of numbers: ranges, sums, differences. -/
import Derived.Test.YtfcddhicklhefaaGreatDoorSXb
namespace Go.SX
open Go

def meet (r : Int × Int) (b : Option Int × Option Int) : Int × Int :=
  (match b.1 with | some l => if decide (r.1 < l) then l else r.1 | none => r.1, match b.2 with | some h => if decide (h < r.2) then h else r.2 | none => r.2)
def inR (r : Int × Int) (v : Int) : Prop := r.1 ≤ v ∧ v ≤ r.2
theorem meet_in {r : Int × Int} {b : Option Int × Option Int} {v : Int} (h : inR r v) (hb : inB b v) : inR (meet r b) v := by
  unfold meet inR at *
  obtain ⟨b1, b2⟩ := b
  constructor
  · cases b1 with
    | none => exact h.1
    | some l =>
      have := hb.1 l rfl
      simp only
      split
      · exact this
      · exact h.1
  · cases b2 with
    | none => exact h.2
    | some l =>
      have := hb.2 l rfl
      simp only
      split
      · exact this
      · exact h.2
def within (k : IntKind) (r : Int × Int) : Bool := decide (lowOf k ≤ r.1) && decide (r.2 ≤ highOf k)
theorem within_wrap {k : IntKind} {r : Int × Int} {v : Int} (h : within k r = true) (hv : inR r v) : k.wrap v = v := by
  unfold within at h
  rw [Bool.and_eq_true] at h
  have h1 := of_decide_eq_true h.1
  have h2 := of_decide_eq_true h.2
  exact wrap_id (Int.le_trans h1 hv.1) (Int.le_trans hv.2 h2)
def kRange (k : IntKind) : Int × Int := (lowOf k, highOf k)
def orK (k : IntKind) (r : Int × Int) : Int × Int := if within k r then r else kRange k

/-- The numbers between which a term's value lies, its facts aside. -/
def rng0 (cx : Cx) (rec' : E → Option (Int × Int)) : E → Option (Int × Int)
  | .int _ n => some (n, n)
  | .bin .add k a b => match rec' a, rec' b with
    | some ra, some rb => some (orK k (ra.1 + rb.1, ra.2 + rb.2))
    | _, _ => some (kRange k)
  | .bin .sub k a b => match rec' a, rec' b with
    | some ra, some rb => some (orK k (ra.1 - rb.2, ra.2 - rb.1))
    | _, _ => some (kRange k)
  | .bin .mul k a b => match rec' a, rec' b with
    | some ra, some rb => if decide (0 ≤ ra.1) && decide (0 ≤ rb.1) then some (orK k (ra.1 * rb.1, ra.2 * rb.2)) else some (kRange k)
    | _, _ => some (kRange k)
  | .conv k a => match rec' a with
    | some ra => some (orK k ra)
    | none => some (kRange k)
  | .ite _ a b => match rec' a, rec' b with
    | some ra, some rb => some (min ra.1 rb.1, max ra.2 rb.2)
    | _, _ => none
  | .len a => if cx.so a = .str then some (0, 140737488355328) else some (0, 4611686018427387904)
  | .byte _ _ => some (0, 255)
  | e => match cx.so e with
    | .int k => some (kRange k)
    | _ => none
def rng (cx : Cx) (fs : Facts) : Nat → E → Option (Int × Int)
  | 0, e => match cx.so e with
    | .int k => some (kRange k)
    | _ => none
  | n + 1, e => (rng0 cx (rng cx fs n) e).map fun r => meet r (fs.bounds e)

section
variable {ρ : Nat → Value} {φ : Nat → List Value → List Value} {cx : Cx} (F : Fits cx.Γ cx.S ρ φ)
 include F
theorem so_strC {x : E} (h : cx.so x = .str) : ∃ s, x.den ρ φ = .string s ∧ s.size ≤ 140737488355328 := by
  have := E.so_has F x
  rw [show x.so cx.Γ cx.S = .str from h] at this
  exact this
theorem so_inR {e : E} {k : IntKind} (h : cx.so e = .int k) : inR (kRange k) (vint (e.den ρ φ)) := by
  have := E.so_has F e
  unfold Cx.so at h
  rw [h] at this
  obtain ⟨n, hn, h1, h2⟩ := this
  rw [hn]
  exact ⟨h1, h2⟩
 omit F in
theorem orK_in {k : IntKind} {r : Int × Int} {v : Int} (h : inR r v) : inR (orK k r) (k.wrap v) := by
  unfold orK
  split
  · rename_i hw
    rw [within_wrap hw h]
    exact h
  · exact wrap_range k v
theorem rng0_in {rec' : E → Option (Int × Int)} (hrec : ∀ e r, rec' e = some r → inR r (vint (e.den ρ φ))) {e : E} {r : Int × Int} (h : rng0 cx rec' e = some r) : inR r (vint (e.den ρ φ)) := by
  unfold rng0 at h
  split at h
  · simp only [Option.some.injEq] at h; subst h; exact ⟨Int.le_refl _, Int.le_refl _⟩
  · rename_i k a b
    split at h
    · rename_i ra rb ha hb
      simp only [Option.some.injEq] at h
      subst h
      have h1 := hrec a ra ha
      have h2 := hrec b rb hb
      simp only [E.den, ibin, vint_int]
      exact orK_in ⟨Int.add_le_add h1.1 h2.1, Int.add_le_add h1.2 h2.2⟩
    · simp only [Option.some.injEq] at h; subst h; exact wrap_range k _
  · rename_i k a b
    split at h
    · rename_i ra rb ha hb
      simp only [Option.some.injEq] at h
      subst h
      have h1 := hrec a ra ha
      have h2 := hrec b rb hb
      simp only [E.den, ibin, vint_int]
      exact orK_in ⟨Int.sub_le_sub h1.1 h2.2, Int.sub_le_sub h1.2 h2.1⟩
    · simp only [Option.some.injEq] at h; subst h; exact wrap_range k _
  · rename_i k a b
    split at h
    · rename_i ra rb ha hb
      have h1 := hrec a ra ha
      have h2 := hrec b rb hb
      split at h
      · rename_i hc
        rw [Bool.and_eq_true] at hc
        have c1 := of_decide_eq_true hc.1
        have c2 := of_decide_eq_true hc.2
        simp only [Option.some.injEq] at h
        subst h
        simp only [E.den, ibin, vint_int]
        refine orK_in ⟨?_, ?_⟩
        · exact Int.mul_le_mul h1.1 h2.1 c2 (Int.le_trans c1 h1.1)
        · exact Int.mul_le_mul h1.2 h2.2 (Int.le_trans c2 h2.1) (Int.le_trans c1 (Int.le_trans h1.1 h1.2))
      · simp only [Option.some.injEq] at h; subst h; exact wrap_range k _
    · simp only [Option.some.injEq] at h; subst h; exact wrap_range k _
  · rename_i k a
    split at h
    · rename_i ra ha
      simp only [Option.some.injEq] at h
      subst h
      simp only [E.den, vint_int]
      exact orK_in (hrec a ra ha)
    · simp only [Option.some.injEq] at h; subst h; exact wrap_range k _
  · rename_i c a b
    split at h
    · rename_i ra rb ha hb
      have h1 := hrec a ra ha
      have h2 := hrec b rb hb
      simp only [Option.some.injEq] at h
      subst h
      simp only [E.den]
      unfold inR at *
      simp only
      cases vbool (c.den ρ φ) with
      | true => simp only [if_true]; omega
      | false => simp only [Bool.false_eq_true, if_false]; omega
    · exact absurd h (by simp)
  · rename_i a
    split at h
    · rename_i hs
      simp only [Option.some.injEq] at h
      subst h
      obtain ⟨x, hx, hle⟩ := so_strC F hs
      simp only [E.den, vint_int, hx]
      have : vlen (.string x) ≤ 140737488355328 := by
        unfold vlen
        simp only
        split <;> omega
      exact ⟨Int.natCast_nonneg _, by simp only; omega⟩
    · simp only [Option.some.injEq] at h
      subst h
      have := vlen_le (a.den ρ φ)
      simp only [E.den, vint_int]
      exact ⟨Int.natCast_nonneg _, by simp only; omega⟩
  · rename_i a b
    simp only [Option.some.injEq] at h
    subst h
    simp only [E.den, vint_int]
    generalize (vstr (a.den ρ φ)).getD (vint (b.den ρ φ)).toNat 0 = x
    have := x.toNat_lt
    exact ⟨Int.natCast_nonneg _, by simp only; omega⟩
  · split at h
    · rename_i k hk
      simp only [Option.some.injEq] at h
      subst h
      exact so_inR F hk
    · exact absurd h (by simp)
theorem rng_in {fs : Facts} (hf : fs.hold ρ φ) : ∀ (n : Nat) (e : E) (r : Int × Int), rng cx fs n e = some r → inR r (vint (e.den ρ φ)) := by
  intro n
  induction n with
  | zero =>
    intro e r h
    simp only [rng] at h
    split at h
    · rename_i k hk
      simp only [Option.some.injEq] at h
      subst h
      exact so_inR F hk
    · exact absurd h (by simp)
  | succ n ih =>
    intro e r h
    simp only [rng, Option.map_eq_some_iff] at h
    obtain ⟨r0, h0, rfl⟩ := h
    exact meet_in (rng0_in F ih h0) (Facts.bounds_sound ρ φ e hf)
end

/-! ### Sums -/
structure Lin where
  c : Int
  ts : List (Int × E)
def addT (q : Int) (x : E) : List (Int × E) → List (Int × E)
  | [] => [(q, x)]
  | (p, y) :: ts => if y.eqv x then (p + q, y) :: ts else (p, y) :: addT q x ts
def addTs (s : Int) : List (Int × E) → List (Int × E) → List (Int × E)
  | [], ts => ts
  | (q, x) :: us, ts => addTs s us (addT (s * q) x ts)
def Lin.plus (a : Lin) (s : Int) (b : Lin) : Lin := ⟨a.c + s * b.c, addTs s b.ts a.ts⟩
def lin (cx : Cx) (fs : Facts) : Nat → E → Lin
  | 0, e => ⟨0, [(1, e)]⟩
  | n + 1, e => match e with
    | .int _ m => ⟨m, []⟩
    | .bin .add k a b => match rng cx fs 8 a, rng cx fs 8 b with
      | some ra, some rb => if within k (ra.1 + rb.1, ra.2 + rb.2) then (lin cx fs n a).plus 1 (lin cx fs n b) else ⟨0, [(1, e)]⟩
      | _, _ => ⟨0, [(1, e)]⟩
    | .bin .sub k a b => match rng cx fs 8 a, rng cx fs 8 b with
      | some ra, some rb => if within k (ra.1 - rb.2, ra.2 - rb.1) then (lin cx fs n a).plus (-1) (lin cx fs n b) else ⟨0, [(1, e)]⟩
      | _, _ => ⟨0, [(1, e)]⟩
    | .conv k a => match rng cx fs 8 a with
      | some ra => if within k ra then lin cx fs n a else ⟨0, [(1, e)]⟩
      | none => ⟨0, [(1, e)]⟩
    | e => ⟨0, [(1, e)]⟩
section
variable (ρ : Nat → Value) (φ : Nat → List Value → List Value)
def evT : List (Int × E) → Int
  | [] => 0
  | (q, x) :: ts => q * vint (x.den ρ φ) + evT ts
def Lin.ev (l : Lin) : Int := l.c + evT ρ φ l.ts
theorem addT_ev (q : Int) (x : E) : ∀ ts, evT ρ φ (addT q x ts) = q * vint (x.den ρ φ) + evT ρ φ ts
  | [] => rfl
  | (p, y) :: ts => by
    simp only [addT]
    split
    · rename_i h
      rw [E.eqv_eq h]
      simp only [evT, Int.add_mul]
      omega
    · simp only [evT, addT_ev q x ts]
      omega
theorem addTs_ev (s : Int) : ∀ us ts, evT ρ φ (addTs s us ts) = s * evT ρ φ us + evT ρ φ ts
  | [], ts => by simp [addTs, evT]
  | (q, x) :: us, ts => by
    simp only [addTs, addTs_ev s us, addT_ev, evT, Int.mul_add, Int.mul_assoc]
    omega
theorem Lin.plus_ev (a : Lin) (s : Int) (b : Lin) : (a.plus s b).ev ρ φ = a.ev ρ φ + s * b.ev ρ φ := by
  simp only [Lin.plus, Lin.ev, addTs_ev, Int.mul_add]
  omega
end
theorem lin_ev {ρ : Nat → Value} {φ : Nat → List Value → List Value} {cx : Cx} (F : Fits cx.Γ cx.S ρ φ) {fs : Facts} (hf : fs.hold ρ φ) : ∀ (n : Nat) (e : E), (lin cx fs n e).ev ρ φ = vint (e.den ρ φ) := by
  intro n
  have atom : ∀ e : E, (Lin.mk 0 [(1, e)]).ev ρ φ = vint (e.den ρ φ) := by
    intro e
    simp [Lin.ev, evT]
  induction n with
  | zero => intro e; exact atom e
  | succ n ih =>
    intro e
    unfold lin
    split
    · simp [Lin.ev, evT, E.den]
    · rename_i k a b
      split
      · rename_i ra rb ha hb
        split
        · rename_i hw
          have h1 := rng_in F hf _ a ra ha
          have h2 := rng_in F hf _ b rb hb
          rw [Lin.plus_ev, ih, ih]
          simp only [E.den, ibin, vint_int]
          rw [within_wrap hw ⟨Int.add_le_add h1.1 h2.1, Int.add_le_add h1.2 h2.2⟩]
          omega
        · exact atom _
      · exact atom _
    · rename_i k a b
      split
      · rename_i ra rb ha hb
        split
        · rename_i hw
          have h1 := rng_in F hf _ a ra ha
          have h2 := rng_in F hf _ b rb hb
          rw [Lin.plus_ev, ih, ih]
          simp only [E.den, ibin, vint_int]
          rw [within_wrap hw ⟨Int.sub_le_sub h1.1 h2.2, Int.sub_le_sub h1.2 h2.1⟩]
          omega
        · exact atom _
      · exact atom _
    · rename_i k a
      split
      · rename_i ra ha
        split
        · rename_i hw
          rw [ih]
          simp only [E.den, vint_int]
          rw [within_wrap hw (rng_in F hf _ a ra ha)]
        · exact atom _
      · exact atom _
    · exact atom _

/-- Between which numbers a sum lies. -/
def rngT (cx : Cx) (fs : Facts) : List (Int × E) → Option (Int × Int)
  | [] => some (0, 0)
  | (q, x) :: ts => if intBeq q 0 then rngT cx fs ts else match rng cx fs 8 x, rngT cx fs ts with
    | some r, some s => if decide (0 ≤ q) then some (q * r.1 + s.1, q * r.2 + s.2) else some (q * r.2 + s.1, q * r.1 + s.2)
    | _, _ => none
def Lin.rng (cx : Cx) (fs : Facts) (l : Lin) : Option (Int × Int) := (rngT cx fs l.ts).map fun r => (l.c + r.1, l.c + r.2)
section
variable {ρ : Nat → Value} {φ : Nat → List Value → List Value} {cx : Cx} (F : Fits cx.Γ cx.S ρ φ) {fs : Facts} (hf : fs.hold ρ φ)
 include F hf
theorem rngT_in : ∀ (ts : List (Int × E)) (r : Int × Int), rngT cx fs ts = some r → inR r (evT ρ φ ts)
  | [], r, h => by
    simp only [rngT, Option.some.injEq] at h
    subst h
    exact ⟨Int.le_refl _, Int.le_refl _⟩
  | (q, x) :: ts, r, h => by
    simp only [rngT] at h
    split at h
    · rename_i hq
      have hq := intBeq_eq hq
      subst hq
      have := rngT_in ts r h
      simpa [evT] using this
    · split at h
      · rename_i rx s hx hs
        have h1 := rng_in F hf _ x rx hx
        have h2 := rngT_in ts s hs
        unfold inR at *
        simp only [evT]
        generalize vint (x.den ρ φ) = v at h1
        split at h
        · rename_i hq
          have hq := of_decide_eq_true hq
          simp only [Option.some.injEq] at h
          subst h
          have a1 := Int.mul_le_mul_of_nonneg_left h1.1 hq
          have a2 := Int.mul_le_mul_of_nonneg_left h1.2 hq
          simp only
          omega
        · rename_i hq
          have hq : ¬ 0 ≤ q := fun h => hq (decide_eq_true h)
          simp only [Option.some.injEq] at h
          subst h
          have a1 := Int.mul_le_mul_of_nonpos_left (show q ≤ 0 by omega) h1.1
          have a2 := Int.mul_le_mul_of_nonpos_left (show q ≤ 0 by omega) h1.2
          simp only
          omega
      · exact absurd h (by simp)
theorem Lin.rng_in (l : Lin) (r : Int × Int) (h : l.rng cx fs = some r) : inR r (l.ev ρ φ) := by
  unfold Lin.rng at h
  simp only [Option.map_eq_some_iff] at h
  obtain ⟨s, hs, rfl⟩ := h
  have := rngT_in F hf l.ts s hs
  unfold inR at *
  simp only [Lin.ev]
  omega
end

/-- Is a difference less than 0: by its range, by one fact. -/
def lessByFacts (cx : Cx) (fs : Facts) (d : Lin) : Facts → Option Bool
  | [] => none
  | (e, b) :: r =>
    match (match e with
      | .cmp .lss p q =>
        let f := (lin cx fs 8 p).plus (-1) (lin cx fs 8 q)
        if b then
          (match (d.plus (-1) f).rng cx fs with
          | some g => if decide (g.2 ≤ 0) then some true else match (d.plus 1 f).rng cx fs with
            | some g => if decide (-1 ≤ g.1) then some false else none
            | none => none
          | none => none)
        else
          (match (d.plus (-1) f).rng cx fs with
          | some g => if decide (0 ≤ g.1) then some false else match (d.plus 1 f).rng cx fs with
            | some g => if decide (g.2 < 0) then some true else none
            | none => none
          | none => none)
      | _ => none) with
    | some x => some x
    | none => lessByFacts cx fs d r
def linDecide (cx : Cx) (fs : Facts) : E → Option Bool
  | .cmp .lss a b =>
    let d := (lin cx fs 8 a).plus (-1) (lin cx fs 8 b)
    match d.rng cx fs with
    | some r => if decide (r.2 < 0) then some true else if decide (0 ≤ r.1) then some false else lessByFacts cx fs d fs
    | none => lessByFacts cx fs d fs
  | .cmp .eql a b =>
    let d := (lin cx fs 8 a).plus (-1) (lin cx fs 8 b)
    match d.rng cx fs with
    | some r => if decide (r.2 < 0) || decide (0 < r.1) then some false else if intBeq r.1 0 && intBeq r.2 0 then some true else none
    | none => none
  | _ => none
section
variable {ρ : Nat → Value} {φ : Nat → List Value → List Value} {cx : Cx} (F : Fits cx.Γ cx.S ρ φ) {fs : Facts} (hf : fs.hold ρ φ)
 include F hf
theorem lessByFacts_sound (d : Lin) {x : Bool} : ∀ (r : Facts), (∀ p ∈ r, p ∈ fs) → lessByFacts cx fs d r = some x → decide (d.ev ρ φ < 0) = x
  | [], _, h => by simp [lessByFacts] at h
  | (e, b) :: r, hsub, h => by
    simp only [lessByFacts] at h
    split at h
    · rename_i y hy
      simp only [Option.some.injEq] at h
      subst h
      split at hy
      · rename_i p q
        have hfact := hf (E.cmp .lss p q, b) (hsub _ (by simp))
        simp only [E.den, icmp, Value.bool.injEq] at hfact
        have hfe : ((lin cx fs 8 p).plus (-1) (lin cx fs 8 q)).ev ρ φ = vint (p.den ρ φ) - vint (q.den ρ φ) := by
          rw [Lin.plus_ev, lin_ev F hf, lin_ev F hf]
          omega
        generalize (lin cx fs 8 p).plus (-1) (lin cx fs 8 q) = f at hy hfe
        cases b with
        | true =>
          simp only [if_true] at hy
          have hfact := of_decide_eq_true hfact
          split at hy
          · rename_i g hg
            have h1 := Lin.rng_in F hf _ g hg
            rw [Lin.plus_ev] at h1
            unfold inR at h1
            split at hy
            · rename_i hc
              have hc := of_decide_eq_true hc
              simp only [Option.some.injEq] at hy
              subst hy
              exact decide_eq_true (by omega)
            · split at hy
              · rename_i g' hg'
                have h2 := Lin.rng_in F hf _ g' hg'
                rw [Lin.plus_ev] at h2
                unfold inR at h2
                split at hy
                · rename_i hc
                  have hc := of_decide_eq_true hc
                  simp only [Option.some.injEq] at hy
                  subst hy
                  exact decide_eq_false (by omega)
                · exact absurd hy (by simp)
              · exact absurd hy (by simp)
          · exact absurd hy (by simp)
        | false =>
          simp only [Bool.false_eq_true, if_false] at hy
          have hfact := of_decide_eq_false hfact
          split at hy
          · rename_i g hg
            have h1 := Lin.rng_in F hf _ g hg
            rw [Lin.plus_ev] at h1
            unfold inR at h1
            split at hy
            · rename_i hc
              have hc := of_decide_eq_true hc
              simp only [Option.some.injEq] at hy
              subst hy
              exact decide_eq_false (by omega)
            · split at hy
              · rename_i g' hg'
                have h2 := Lin.rng_in F hf _ g' hg'
                rw [Lin.plus_ev] at h2
                unfold inR at h2
                split at hy
                · rename_i hc
                  have hc := of_decide_eq_true hc
                  simp only [Option.some.injEq] at hy
                  subst hy
                  exact decide_eq_true (by omega)
                · exact absurd hy (by simp)
              · exact absurd hy (by simp)
          · exact absurd hy (by simp)
      · exact absurd hy (by simp)
    · exact lessByFacts_sound d r (fun p hp => hsub p (by simp [hp])) h
theorem linDecide_sound {c : E} {b : Bool} (h : linDecide cx fs c = some b) : c.den ρ φ = .bool b := by
  unfold linDecide at h
  split at h
  · rename_i x y
    have hde : ((lin cx fs 8 x).plus (-1) (lin cx fs 8 y)).ev ρ φ = vint (x.den ρ φ) - vint (y.den ρ φ) := by
      rw [Lin.plus_ev, lin_ev F hf, lin_ev F hf]
      omega
    simp only at h
    generalize (lin cx fs 8 x).plus (-1) (lin cx fs 8 y) = d at h hde
    have key : decide (d.ev ρ φ < 0) = b := by
      split at h
      · rename_i r hr
        have h1 := Lin.rng_in F hf _ r hr
        unfold inR at h1
        split at h
        · rename_i hc
          have hc := of_decide_eq_true hc
          simp only [Option.some.injEq] at h
          subst h
          exact decide_eq_true (by omega)
        · split at h
          · rename_i hc
            have hc := of_decide_eq_true hc
            simp only [Option.some.injEq] at h
            subst h
            exact decide_eq_false (by omega)
          · exact lessByFacts_sound F hf d fs (fun p hp => hp) h
      · exact lessByFacts_sound F hf d fs (fun p hp => hp) h
    simp only [E.den, icmp]
    congr 1
    rw [← key, hde]
    rw [Bool.eq_iff_iff]
    constructor
    · intro h
      have := of_decide_eq_true h
      exact decide_eq_true (by omega)
    · intro h
      have := of_decide_eq_true h
      exact decide_eq_true (by omega)
  · rename_i x y
    have hde : ((lin cx fs 8 x).plus (-1) (lin cx fs 8 y)).ev ρ φ = vint (x.den ρ φ) - vint (y.den ρ φ) := by
      rw [Lin.plus_ev, lin_ev F hf, lin_ev F hf]
      omega
    simp only at h
    generalize (lin cx fs 8 x).plus (-1) (lin cx fs 8 y) = d at h hde
    split at h
    · rename_i r hr
      have h1 := Lin.rng_in F hf _ r hr
      unfold inR at h1
      simp only [E.den, icmp]
      split at h
      · rename_i hc
        rw [Bool.or_eq_true] at hc
        simp only [Option.some.injEq] at h
        subst h
        congr 1
        rw [beq_eq_false_iff_ne]
        rcases hc with hc | hc
        · have := of_decide_eq_true hc; omega
        · have := of_decide_eq_true hc; omega
      · split at h
        · rename_i hc
          rw [Bool.and_eq_true] at hc
          have c1 := intBeq_eq hc.1
          have c2 := intBeq_eq hc.2
          simp only [Option.some.injEq] at h
          subst h
          congr 1
          rw [beq_iff_eq]
          omega
        · exact absurd h (by simp)
    · exact absurd h (by simp)
  · exact absurd h (by simp)
end

/-- What a condition is. -/
def dec (cx : Cx) (fs : Facts) : E → Option Bool
  | .bool b => some b
  | .not a => (dec cx fs a).map (!·)
  | .ite c a b => match dec cx fs c with
    | some true => dec cx fs a
    | some false => dec cx fs b
    | none => fs.look (.ite c a b)
  | c => match fs.look c with
    | some b => some b
    | none => match boundsDecide fs c with
      | some b => some b
      | none => linDecide cx fs c
theorem dec_sound {ρ : Nat → Value} {φ : Nat → List Value → List Value} {cx : Cx} (F : Fits cx.Γ cx.S ρ φ) {fs : Facts} (H : fs.hold ρ φ) : ∀ {c : E} {b : Bool}, dec cx fs c = some b → c.den ρ φ = .bool b := by
  intro c
  have gen : ∀ (c : E) (b : Bool), (match fs.look c with | some b => some b | none => match boundsDecide fs c with | some b => some b | none => linDecide cx fs c) = some b → c.den ρ φ = .bool b := by
    intro c b h
    split at h
    · rename_i b' hb
      simp only [Option.some.injEq] at h
      subst h
      exact Facts.look_sound ρ φ H hb
    · split at h
      · rename_i b' hb
        simp only [Option.some.injEq] at h
        subst h
        exact boundsDecide_sound ρ φ H hb
      · exact linDecide_sound F H h
  induction c with
  | bool b => intro b' h; simp only [dec, Option.some.injEq] at h; subst h; rfl
  | not a ih =>
    intro b h
    simp only [dec, Option.map_eq_some_iff] at h
    obtain ⟨b', h1, h2⟩ := h
    simp only [E.den, ih h1, vbool_bool, h2]
  | ite c x y ihc ihx ihy =>
    intro b h
    simp only [dec] at h
    split at h
    · rename_i hc
      simp only [E.den, ihc hc, vbool_bool, if_true]
      exact ihx h
    · rename_i hc
      simp only [E.den, ihc hc, vbool_bool, Bool.false_eq_true, if_false]
      exact ihy h
    · exact Facts.look_sound ρ φ H h
  | _ => intro b h; exact gen _ b h
/- Terms for variables. -/
mutual
def E.subst (f : Nat → E) : E → E
  | .var i => f i
  | .bin op k a b => mkBin op k (a.subst f) (b.subst f)
  | .shf op k a b => mkShf op k (a.subst f) (b.subst f)
  | .cmp op a b => mkCmp op (a.subst f) (b.subst f)
  | .beq a b => mkBeq (a.subst f) (b.subst f)
  | .seq a b => mkSeq (a.subst f) (b.subst f)
  | .not a => mkNot (a.subst f)
  | .conv k a => mkConv k (a.subst f)
  | .ite c a b => .ite (c.subst f) (a.subst f) (b.subst f)
  | .idx i l => .idx (i.subst f) (l.substL f)
  | .app g j a => .app g j (a.substL f)
  | .cons a b => .cons a b
  | .len a => .len (a.subst f)
  | .byte a b => .byte (a.subst f) (b.subst f)
  | .cut a b c => .cut (a.subst f) (b.subst f) (c.subst f)
  | .tup l => .tup (l.substL f)
  | .el g i sz o s => .el (g.subst f) (i.subst f) sz o s
  | .int k n => .int k n
  | .bool b => .bool b
  | .val v => .val v
  | .nil => .nil
def E.substL (f : Nat → E) : E → E
  | .cons a b => .cons (a.subst f) (b.substL f)
  | _ => .nil
end
theorem subst_den (ρ : Nat → Value) (φ : Nat → List Value → List Value) (f : Nat → E) (e : E) :
    (e.subst f).den ρ φ = e.den (fun i => (f i).den ρ φ) φ ∧ (e.substL f).dens ρ φ = e.dens (fun i => (f i).den ρ φ) φ := by
  induction e with
  | var i => exact ⟨rfl, rfl⟩
  | int k n => exact ⟨rfl, rfl⟩
  | bool b => exact ⟨rfl, rfl⟩
  | val v => exact ⟨rfl, rfl⟩
  | bin o k a b iha ihb => exact ⟨by simp only [E.subst, mkBin_den, E.den, iha.1, ihb.1], rfl⟩
  | shf o k a b iha ihb => exact ⟨by simp only [E.subst, mkShf_den, E.den, iha.1, ihb.1], rfl⟩
  | cmp o a b iha ihb => exact ⟨by simp only [E.subst, mkCmp_den, E.den, iha.1, ihb.1], rfl⟩
  | beq a b iha ihb => exact ⟨by simp only [E.subst, mkBeq_den, E.den, iha.1, ihb.1], rfl⟩
  | seq a b iha ihb => exact ⟨by simp only [E.subst, mkSeq_den, E.den, iha.1, ihb.1], rfl⟩
  | not a iha => exact ⟨by simp only [E.subst, mkNot_den, E.den, iha.1], rfl⟩
  | conv k a iha => exact ⟨by simp only [E.subst, mkConv_den, E.den, iha.1], rfl⟩
  | ite c a b ihc iha ihb => exact ⟨by simp only [E.subst, E.den, ihc.1, iha.1, ihb.1], rfl⟩
  | idx i l ihi ihl => exact ⟨by simp only [E.subst, E.den, ihi.1, ihl.2], rfl⟩
  | app g j a iha => exact ⟨by simp only [E.subst, E.den, iha.2], rfl⟩
  | nil => exact ⟨rfl, rfl⟩
  | cons a b iha ihb => exact ⟨rfl, by simp only [E.substL, E.dens, iha.1, ihb.2]⟩
  | len a iha => exact ⟨by simp only [E.subst, E.den, iha.1], rfl⟩
  | byte a b iha ihb => exact ⟨by simp only [E.subst, E.den, iha.1, ihb.1], rfl⟩
  | cut a b c iha ihb ihc => exact ⟨by simp only [E.subst, E.den, iha.1, ihb.1, ihc.1], rfl⟩
  | tup l ihl => exact ⟨by simp only [E.subst, E.den, ihl.2], rfl⟩
  | el g i sz o s ihg ihi => exact ⟨by simp only [E.subst, E.den, ihg.1, ihi.1], rfl⟩
def atL (es : List E) (i : Nat) : E := es.getD i (.val undef)
def preOk (cx : Cx) (fs : Facts) (es : List E) : Facts → Bool
  | [] => true
  | (e, b) :: r => (match dec cx fs (e.subst (atL es)) with | some x => x == b | none => false) && preOk cx fs es r
section
variable {ρ : Nat → Value} {φ : Nat → List Value → List Value} {cx : Cx}
theorem preOk_hold (F : Fits cx.Γ cx.S ρ φ) {fs : Facts} (hf : fs.hold ρ φ) {es : List E} : ∀ {pre : Facts}, preOk cx fs es pre = true → pre.hold (fun i => (es.map (·.den ρ φ)).getD i undef) φ
  | [], _, p, hp => by simp at hp
  | (e, b) :: pre, h, p, hp => by
    simp only [preOk, Bool.and_eq_true] at h
    rcases List.mem_cons.1 hp with rfl | hp
    · have h1 := h.1
      split at h1
      · rename_i x hx
        have h1 : x = b := by simpa using h1
        subst h1
        have hd := dec_sound F hf hx
        rw [(subst_den ρ φ (atL es) e).1] at hd
        have e1 : (fun i => (atL es i).den ρ φ) = fun i => (es.map (·.den ρ φ)).getD i undef := by
          funext i
          unfold atL
          rw [List.getD_eq_getElem?_getD, List.getD_eq_getElem?_getD, List.getElem?_map]
          cases es[i]? <;> rfl
        rw [e1] at hd
        exact hd
      · exact absurd h1 (by simp)
    · exact preOk_hold F hf h.2 p hp

end
def E.noApp : E → Bool
  | .bin _ _ a b | .shf _ _ a b | .cmp _ a b | .beq a b | .seq a b | .idx a b | .cons a b | .byte a b => a.noApp && b.noApp
  | .not a | .conv _ a | .len a | .tup a => a.noApp
  | .ite a b c | .cut a b c => a.noApp && b.noApp && c.noApp
  | .el g i _ _ _ => g.noApp && i.noApp
  | .app _ _ _ => false
  | .var _ | .int _ _ | .bool _ | .val _ | .nil => true
theorem noApp_den (ρ : Nat → Value) (φ φ' : Nat → List Value → List Value) : ∀ e : E, e.noApp = true → e.den ρ φ = e.den ρ φ' ∧ e.dens ρ φ = e.dens ρ φ' := by
  intro e
  induction e with
  | var i => intro _; exact ⟨rfl, rfl⟩
  | int k n => intro _; exact ⟨rfl, rfl⟩
  | bool b => intro _; exact ⟨rfl, rfl⟩
  | val v => intro _; exact ⟨rfl, rfl⟩
  | nil => intro _; exact ⟨rfl, rfl⟩
  | bin o k a b iha ihb => intro hl; simp only [E.noApp, Bool.and_eq_true] at hl; exact ⟨by simp only [E.den, (iha hl.1).1, (ihb hl.2).1], rfl⟩
  | shf o k a b iha ihb => intro hl; simp only [E.noApp, Bool.and_eq_true] at hl; exact ⟨by simp only [E.den, (iha hl.1).1, (ihb hl.2).1], rfl⟩
  | cmp o a b iha ihb => intro hl; simp only [E.noApp, Bool.and_eq_true] at hl; exact ⟨by simp only [E.den, (iha hl.1).1, (ihb hl.2).1], rfl⟩
  | beq a b iha ihb => intro hl; simp only [E.noApp, Bool.and_eq_true] at hl; exact ⟨by simp only [E.den, (iha hl.1).1, (ihb hl.2).1], rfl⟩
  | seq a b iha ihb => intro hl; simp only [E.noApp, Bool.and_eq_true] at hl; exact ⟨by simp only [E.den, (iha hl.1).1, (ihb hl.2).1], rfl⟩
  | byte a b iha ihb => intro hl; simp only [E.noApp, Bool.and_eq_true] at hl; exact ⟨by simp only [E.den, (iha hl.1).1, (ihb hl.2).1], rfl⟩
  | idx a b iha ihb => intro hl; simp only [E.noApp, Bool.and_eq_true] at hl; exact ⟨by simp only [E.den, (iha hl.1).1, (ihb hl.2).2], rfl⟩
  | cons a b iha ihb => intro hl; simp only [E.noApp, Bool.and_eq_true] at hl; exact ⟨rfl, by simp only [E.dens, (iha hl.1).1, (ihb hl.2).2]⟩
  | not a iha => intro hl; simp only [E.noApp] at hl; exact ⟨by simp only [E.den, (iha hl).1], rfl⟩
  | conv k a iha => intro hl; simp only [E.noApp] at hl; exact ⟨by simp only [E.den, (iha hl).1], rfl⟩
  | app g j a iha => intro hl; simp [E.noApp] at hl
  | len a iha => intro hl; simp only [E.noApp] at hl; exact ⟨by simp only [E.den, (iha hl).1], rfl⟩
  | tup a iha => intro hl; simp only [E.noApp] at hl; exact ⟨by simp only [E.den, (iha hl).2], rfl⟩
  | ite a b c iha ihb ihc => intro hl; simp only [E.noApp, Bool.and_eq_true] at hl; exact ⟨by simp only [E.den, (iha hl.1.1).1, (ihb hl.1.2).1, (ihc hl.2).1], rfl⟩
  | cut a b c iha ihb ihc => intro hl; simp only [E.noApp, Bool.and_eq_true] at hl; exact ⟨by simp only [E.den, (iha hl.1.1).1, (ihb hl.1.2).1, (ihc hl.2).1], rfl⟩
  | el g i sz o s ihg ihi => intro hl; simp only [E.noApp, Bool.and_eq_true] at hl; exact ⟨by simp only [E.den, (ihg hl.1).1, (ihi hl.2).1], rfl⟩

/-- A condition that speaks of no symbol. -/
theorem holdN {ρ : Nat → Value} {φ φ' : Nat → List Value → List Value} {fs : Facts} (hn : (fs.all fun p => p.1.noApp) = true) (h : fs.hold ρ φ) : fs.hold ρ φ' := by
  intro p hp
  rw [← (noApp_den ρ φ φ' p.1 (by simpa using List.all_eq_true.1 hn p hp)).1]
  exact h p hp
end Go.SX
