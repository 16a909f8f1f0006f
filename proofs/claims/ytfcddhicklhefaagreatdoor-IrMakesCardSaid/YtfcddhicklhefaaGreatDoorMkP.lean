/- IrMakes: the law's run, by rounds. -/
import Derived.Test.YtfcddhicklhefaaGreatDoorMkK
import Derived.Test.YtfcddhicklhefaaGreatDoorCXz
namespace Go.Mk
open Go Go.RowKit Go.CX Go.SX Go.Proofs
def wpL (P : Program) : List Code → (Exit → Act → World → Prop) → Act → World → Prop
  | [], Q => Q .normal
  | c :: cs, Q => c.wp P (Exit.then (wpL P cs Q) Q)
theorem then_then {X Y : Act → World → Prop} {Q : Exit → Act → World → Prop} : Exit.then X (Exit.then Y Q) = Exit.then X Q := by
  funext e a w
  cases e <;> rfl
theorem rounds_by {P : Program} {L : Code} {Q : Exit → Act → World → Prop} {J : Nat → Act → World → Prop} (n : Nat)
    (hi : ∀ k, k < n → ∀ a w (R : Act → World → Prop), (∀ a' w', J (k + 1) a' w' → R a' w') → J k a w → L.wp P (Exit.then R Q) a w)
    (he : ∀ a w, J n a w → L.wp P (Exit.then (fun _ _ => False) Q) a w) : ∀ m k, k + m = n → ∀ a w, J k a w → Code.rounds P L Q (m + 1) a w
  | 0, k, h, a, w, hj => by
    have : k = n := by omega
    subst this
    exact he a w hj
  | m + 1, k, h, a, w, hj => hi k (by omega) a w _ (fun a' w' hj' => rounds_by n hi he m (k + 1) (by omega) a' w' hj') hj
section
variable {ws : Base} {cx : Cx} {ρ : Nat → Value} {φ : Nat → List Value → List Value} {r : RunT}
theorem runL_snd (RO : RunOk ws cx φ r) (fs : Facts) (N : Nat) (base : CX.BK) : ∀ cs, Snd ws cx φ fs N base (runL r fs N base cs) (wpL cx.P cs)
  | [] => by
    intro σ x σ' h
    simp only [runL, RX.ok.injEq] at h
    obtain ⟨rfl, rfl⟩ := h
    exact ⟨Nat.le_refl _, fun ρ fx β a w Q F hf hN hs H hn hQ => hQ β a w (Ext.refl _) (Newer.refl _ _ _) H⟩
  | c :: cs => fun σ x σ' h => (Snd.then (RO fs N base c) (runL_snd RO fs N base cs)) σ x σ' h
def J (ρ : Nat → Value) (φ : Nat → List Value → List Value) (fx : CX.Fx) (β0 : CX.Bk) (big : Bool) (k : Nat) (a : Act) (w : World) : Prop :=
  ∃ β', CX.Ext β0 β' ∧ CX.Newer β0 β' 2 5 ∧ MS ρ φ fx b0 (S 0 1 2 [] big k) β' a w
variable {fx : CX.Fx} {β0 : CX.Bk} {big : Bool} {nn k j : Nat} {L : Code}
theorem free5 {β' : CX.Bk} (h0 : ∀ id, 2 ≤ id → β0 id = none) (hN : CX.Newer β0 β' 2 5) : ∀ id, 5 ≤ id → β' id = none := by
  intro id h1
  cases h : β' id with
  | none => rfl
  | some p =>
    rcases hN id p h with g | g
    · rw [h0 id (by omega)] at g
      simp at g
    · omega
theorem iter_ok (RO : RunOk ws cx φ r) (hI : iterOk 0 1 2 [] big r L b0 nn k j = true) (hnn : 5 ≤ nn) (F : Fits cx.Γ cx.S ρ φ) (hf : Facts.hold ρ φ (kindF k j ++ lenF big k))
    (hq : ∀ p ∈ eqs j k, p.1.den ρ φ = p.2.den ρ φ) (hN : fx.N = 190) (hws : fx.ws = ws) (h0 : ∀ id, 2 ≤ id → β0 id = none) {a : Act} {w : World} {Q : Exit → Act → World → Prop} {R : Act → World → Prop}
    (hR : ∀ a' w', J ρ φ fx β0 big (k + 1) a' w' → R a' w') (H : J ρ φ fx β0 big k a w) : L.wp cx.P (Exit.then R Q) a w := by
  unfold iterOk at hI
  split at hI
  · rename_i x σ hr
    simp only [Bool.and_eq_true] at hI
    obtain ⟨⟨hx, hle⟩, hb⟩ := hI
    cases x with
    | exit i => exact absurd hx (by simp)
    | ret => exact absurd hx (by simp)
    | normal =>
      obtain ⟨β', hE, hNw, hM⟩ := H
      obtain ⟨m, s⟩ := RO _ _ _ _ _ _ _ hr
      refine s ρ fx β' a w _ F hf hN hws hM (fun id h1 _ => free5 h0 hNw id h1) fun β'' a' w' hE' hN' hM' => ?_
      obtain ⟨β3, hE3, hN3, hM3⟩ := leSt_ok hle hq (Nat.le_of_ble_eq_true hb) hnn (fun id h1 _ => ⟨rfl, h0 id h1⟩) (fun id r h => absurd h (by simp)) (fun id r k p h => absurd h (by simp)) (hE.trans hE') (hNw.trans hN' (by omega) m) hM'
      exact hR a' w' ⟨β3, hE3, hN3, hM3⟩
  · exact absurd hI (by simp)
theorem exit_ok {R0 : Code} {bd : Nat} (RO : RunOk ws cx φ r) (hX : exitOk 0 1 2 [] big r L R0 bd b0 nn k = true) (F : Fits cx.Γ cx.S ρ φ) (hf : Facts.hold ρ φ (exF big k))
    (hN : fx.N = 190) (hws : fx.ws = ws) (h0 : ∀ id, 2 ≤ id → β0 id = none) {a : Act} {w : World} {Q : Exit → Act → World → Prop} {Z : Act → World → Prop}
    (hQ : ∀ β' σ a' w', MS ρ φ fx b0 σ β' a' w' → isTrue (lookA 4 σ.tmps) = true → Q .ret a' w') (H : J ρ φ fx β0 big k a w) :
    L.wp cx.P (Exit.then Z (Exit.inBlock bd (Exit.then (R0.wp cx.P Q) Q))) a w := by
  unfold exitOk at hX
  split at hX
  · rename_i x σ hr
    simp only [Bool.and_eq_true] at hX
    obtain ⟨⟨hx, hb⟩, hX⟩ := hX
    cases x with
    | normal => exact absurd hx (by simp)
    | ret => exact absurd hx (by simp)
    | exit i =>
      have hi := Nat.eq_of_beq_eq_true hx
      subst hi
      split at hX
      · rename_i y τ hr2
        simp only [Bool.and_eq_true] at hX
        obtain ⟨⟨hy, hb2⟩, hT⟩ := hX
        cases y with
        | normal => exact absurd hy (by simp)
        | exit i => exact absurd hy (by simp)
        | ret =>
          obtain ⟨β', hE, hNw, hM⟩ := H
          obtain ⟨m, s⟩ := RO _ _ _ _ _ _ _ hr
          obtain ⟨m2, s2⟩ := RO _ _ _ _ _ _ _ hr2
          have m' : 5 ≤ σ.next := m
          refine s ρ fx β' a w _ F hf hN hws hM (fun id h1 _ => free5 h0 hNw id h1) fun β'' a' w' hE' hN' hM' => ?_
          show (if i = i then R0.wp cx.P Q a' w' else Q (.exit i) a' w')
          rw [if_pos rfl]
          refine s2 ρ fx β'' a' w' _ F hf hN hws hM' (free_right (n := (S 0 1 2 [] big k).next) (k := τ.next) (fun id h1 _ => free5 h0 hNw id h1) hN' m) fun β3 a3 w3 _ _ hM3 => ?_
          exact hQ β3 τ a3 w3 hM3 hT
      · exact absurd hX (by simp)
  · exact absurd hX (by simp)
theorem all_ok {R0 : Code} {bd N : Nat} {cs : List Code} (RO : RunOk ws cx φ r) (F : Fits cx.Γ cx.S ρ φ) (hN : fx.N = 190) (hws : fx.ws = ws) (hnn : 5 ≤ nn) {a : Act} {w : World} {Q : Exit → Act → World → Prop}
    (hM0 : MS ρ φ fx b0 ⟨argT 0 [.one ⟨false, [.e (.var 0)]⟩, .one ⟨false, [.e (.var 3)]⟩], [], 0⟩ (fun _ => none) a w) (hen : entryOk 0 1 2 [] big r cs b0 = true) (hef : Facts.hold ρ φ (enF big))
    (hit : ∀ k, k < N → ∃ j, iterOk 0 1 2 [] big r L b0 nn k j = true ∧ Facts.hold ρ φ (kindF k j ++ lenF big k) ∧ ∀ p ∈ eqs j k, p.1.den ρ φ = p.2.den ρ φ)
    (hex : exitOk 0 1 2 [] big r L R0 bd b0 nn N = true) (hxf : Facts.hold ρ φ (exF big N)) (fin : ∀ β' σ a' w', MS ρ φ fx b0 σ β' a' w' → isTrue (lookA 4 σ.tmps) = true → Q .ret a' w') :
    wpL cx.P cs (Exit.then ((Code.block bd (.loop L)).wp cx.P (Exit.then (R0.wp cx.P Q) Q)) Q) a w := by
  unfold entryOk at hen
  split at hen
  · rename_i x σ hr
    simp only [Bool.and_eq_true] at hen
    obtain ⟨⟨hx, hnx⟩, hle⟩ := hen
    have hnx : σ.next = 2 := Nat.eq_of_beq_eq_true hnx
    cases x with
    | exit i => exact absurd hx (by simp)
    | ret => exact absurd hx (by simp)
    | normal =>
      obtain ⟨m, s⟩ := runL_snd RO _ _ _ _ _ _ _ hr
      refine s ρ fx (fun _ => none) _ w _ F hef hN hws hM0 (fun _ _ _ => rfl) fun β' a' w' hE hNw hM => ?_
      have h0 : ∀ id, 2 ≤ id → β' id = none := by
        intro id h1
        cases h : β' id with
        | none => rfl
        | some p =>
          rcases hNw id p h with g | g
          · exact absurd g (by simp)
          · rw [hnx] at g
            omega
      have hj0 : J ρ φ fx β' big 0 a' w' :=
        leSt_ok hle (fun p hp => by simp at hp) (by omega) hnn (fun id h1 _ => ⟨rfl, h0 id h1⟩) (fun id r h => by simp [b0] at h) (fun id r k p h => by simp [b0] at h) (CX.Ext.refl _) (CX.Newer.refl _ _ _) hM
      show (Code.block bd (.loop L)).wp cx.P (Exit.then (R0.wp cx.P Q) Q) a' w'
      refine wp_block (wp_loop_rounds (N + 1) (rounds_by (J := J ρ φ fx β' big) N (fun k hk a w R hR hj => ?_) (fun a w hj => ?_) N 0 (by omega) a' w' hj0))
      · obtain ⟨j, hi, hkl, hq⟩ := hit k hk
        exact iter_ok RO hi hnn F hkl hq hN hws h0 hR hj
      · exact exit_ok RO hex F hxf hN hws h0 fin hj
  · exact absurd hen (by simp)
end
end Go.Mk
