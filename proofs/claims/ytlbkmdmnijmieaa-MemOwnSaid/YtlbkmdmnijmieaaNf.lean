/- Layer 9 (memory): Own, whatever is asked; what a shut area gives. -/
import Derived.Test.YtlbkmdmnijmieaaNe
namespace Go.Proofs.Ytlbkmdmnijmieaa
open Go Go.RowKit Rp Go.Maps
open Cq (U64 I64 isW nb mask)

def OwnV (B : Nat) (W : World) (g : Nat) (v : Value) (bv : List Value) (L : List Ar) (t k : Int) (e : Ending) (W' : World) : Prop :=
  (e = .returned (.bool false) ∧ W = W' ∧ ∀ (j : Nat) (a : Ar), k = j → L[j]? = some a → knB t = true → a.pv = true → a.ow ≠ -1) ∨
  (e = .returned (.bool true) ∧ knB t = true ∧ ∃ (j : Nat) (a : Ar), k = j ∧ L[j]? = some a ∧ a.pv = true ∧ a.ow = -1 ∧ MS B W' g v bv (L.set j (a.own t)) ∧ Chg (fun k => v.ownBlock = some k) W W')
theorem own_any {B g : Nat} {v : Value} {bv : List Value} {L : List Ar} {W : World} (h : MS B W g v bv L) (t k : Int) :
    Calls Try.prog 27 #[.pointer (some ⟨g, 0, none⟩), .int .i64 t, .int .i64 k] W (OwnV B W g v bv L t k) := by
  cases ht : knB t
  · exact (own_know t k g W ht).mono fun e W' ⟨h1, h2⟩ => .inl ⟨h1, h2, fun _ _ _ _ h _ => by rw [ht] at h; cases h⟩
  by_cases hk : k < 0
  · exact (own_neg t k g W ht hk).mono fun e W' ⟨h1, h2⟩ => .inl ⟨h1, h2, fun j _ e _ _ _ => by omega⟩
  obtain ⟨j, rfl⟩ := Int.eq_ofNat_of_zero_le (by omega : 0 ≤ k)
  obtain ⟨A, c, hv⟩ := own_shape h.own
  have hc : W.cell? ⟨g, 0, none⟩ = some (.slice A L.length c) := by rw [h.box.cell 0, ← hv]; rfl
  by_cases hj : L.length ≤ j
  · exact (own_past t j g L.length c A W ht hj hc).mono fun e W' ⟨h1, h2⟩ => .inl ⟨h1, h2, fun i a e hi _ _ => by
      have := (List.getElem?_eq_some_iff.1 hi).1
      omega⟩
  obtain ⟨a, ha⟩ : ∃ a, L[j]? = some a := ⟨_, List.getElem?_eq_getElem (by omega)⟩
  obtain ⟨ga, cap, hv2, _, _⟩ := h.own.form (by omega)
  have ho := h.own
  rw [hv2] at ho
  have hA : A = some ⟨ga, 0, none⟩ := by rw [hv] at hv2; simp at hv2; exact hv2.1
  rw [hA] at hc
  have c3 : W.cell? ⟨ga, j * 5 + 3, none⟩ = some (.bool a.pv) := by rw [ho.cellAt _ (by omega), recs_get L j a ha 3 (by omega)]; rfl
  have c4 : W.cell? ⟨ga, j * 5 + 4, none⟩ = some (.int .i64 a.ow) := by rw [ho.cellAt _ (by omega), recs_get L j a ha 4 (by omega)]; rfl
  cases hp : a.pv
  · rw [hp] at c3
    exact (own_public t a.ow j g L.length c ga W ht (by omega) hc c3 c4).mono fun e W' ⟨h1, h2⟩ => .inl ⟨h1, h2, fun i b e hi _ hb => by
      obtain rfl : i = j := by omega
      obtain rfl := Option.some.inj (ha.symm.trans hi)
      rw [hp] at hb; cases hb⟩
  rw [hp] at c3
  by_cases how : a.ow = -1
  · rw [how] at c4
    refine (own_free t j g L.length c ga W ht (by omega) hc c3 c4 (ho.frozenAt _)).mono fun e W' ⟨h1, h2⟩ => .inr ⟨h1, ht, j, a, rfl, ha, hp, how, ?_, ?_⟩
    · rw [h2]; exact h.own' ha hv2 t
    · rw [h2]; exact (Chg.refl _ W).setCell (p := ⟨ga, j * 5 + 4, none⟩) (fun _ => by rw [hv2]; rfl) _
  · exact (own_taken t a.ow j g L.length c ga W ht (by omega) hc c3 c4 how).mono fun e W' ⟨h1, h2⟩ => .inl ⟨h1, h2, fun i b e hi _ _ => by
      obtain rfl : i = j := by omega
      obtain rfl := Option.some.inj (ha.symm.trans hi)
      exact how⟩
theorem put_no {B g : Nat} {v : Value} {bv : List Value} {L : List Ar} {W : World} (h : MS B W g v bv L) (t x w sv : Int) (hx : U64 x) (hm : mayB L t x w true = false) :
    Calls Try.prog 23 #[.pointer (some ⟨g, 0, none⟩), .int .i64 t, .int .u64 x, .int .i64 w, .int .u64 sv] W fun e W' => e = .returned (.bool false) ∧ Kp W W' := by
  obtain ⟨ga, c, hr⟩ := h.rd
  have H := Lib.hid (may_any g ga c L t x w true W hr hx)
  rw [hm] at H
  clear hm hr h hx
  go_enter Try.func23, Try.ntmps23
  go_wp2_with fail
  refine H.out.mono ?_; rintro e w1 ⟨rfl, hk⟩
  go_wp2_with fail
  go_ret
  exact ⟨rfl, hk⟩
theorem mayB_shut {L : List Ar} {u x w : Int} {wt : Bool} (h : openB L u x wt = false) : mayB L u x w wt = false := by
  unfold mayB
  cases hw : isW w
  · simp
  · obtain ⟨n, rfl, hn, _⟩ := isW_nat hw
    have : opnAll L u x wt n = false := opnAll_no (k := 0) (by omega) (by simpa using h)
    simp [this]
/-- no stores wait anywhere: what is read is told -/
theorem load_tells {B g : Nat} {v : Value} {L : List Ar} {W : World} (h : MS B W g v noRows L) (t x w : Int) (hx : U64 x) :
    Calls Try.prog 20 #[.pointer (some ⟨g, 0, none⟩), .int .i64 t, .int .u64 x, .int .i64 w] W fun e W' => (∃ r, e = .returned (.tuple #[.int .u64 r, .bool (mayB L t x w false)])) ∧ Kp W W' := by
  cases hm : mayB L t x w false
  · exact (load_no h t x w hx hm).mono fun e W' ⟨h1, h2⟩ => ⟨⟨_, h1⟩, h2⟩
  · have hm' := hm
    unfold mayB at hm'
    simp only [Bool.and_eq_true, decide_eq_true_eq] at hm'
    obtain ⟨n, rfl, _, _⟩ := isW_nat hm'.1.1.2
    have hk := hm'.1.1.1
    unfold knB at hk
    simp only [Bool.and_eq_true, decide_eq_true_eq] at hk
    obtain ⟨i, rfl⟩ := Int.eq_ofNat_of_zero_le hk.1
    have hi : i < 8 := by omega
    have hb : noRows[i]? = some (.slice none 0 0) := by
      match i, hi with
      | 0, _ => rfl
      | 1, _ => rfl
      | 2, _ => rfl
      | 3, _ => rfl
      | 4, _ => rfl
      | 5, _ => rfl
      | 6, _ => rfl
      | 7, _ => rfl
    exact (load_any h i hi _ hb [] (QB.nil _ _) (by simp) x n hx hm).mono fun e W' ⟨r, h1, _, h2⟩ => ⟨⟨r, h1⟩, h2⟩
end Go.Proofs.Ytlbkmdmnijmieaa
