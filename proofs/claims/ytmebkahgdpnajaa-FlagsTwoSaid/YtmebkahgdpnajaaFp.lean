/- Walks of layer 8: operations of two numbers, by the document's own answers: whatever operation. -/
import Derived.Test.YtmebkahgdpnajaaFo
namespace Go.Proofs.Ytmebkahgdpnajaa
open Go Go.RowKit
open Cq (U64 I64 isW nb zx sx neg bit oneI)

set_option maxRecDepth 100000 in
theorem far_two (n : Nat) (h : n ≤ 47) (hn : n ≠ 1 ∧ n ≠ 2 ∧ n ≠ 3 ∧ n ≠ 4 ∧ n ≠ 5 ∧ n ≠ 6 ∧ n ≠ 7 ∧ n ≠ 8 ∧ n ≠ 9) : (tab.getD n [] == [97, 100, 100]) = false ∧ (tab.getD n [] == [111, 114]) = false ∧ (tab.getD n [] == [97, 100, 99]) = false ∧ (tab.getD n [] == [115, 98, 98]) = false ∧ (tab.getD n [] == [97, 110, 100]) = false ∧ (tab.getD n [] == [115, 117, 98]) = false ∧ (tab.getD n [] == [120, 111, 114]) = false ∧ (tab.getD n [] == [99, 109, 112]) = false ∧ (tab.getD n [] == [116, 101, 115, 116]) = false := by
  have H : ∀ m : Fin 48, (m.val = 1 ∨ m.val = 2 ∨ m.val = 3 ∨ m.val = 4 ∨ m.val = 5 ∨ m.val = 6 ∨ m.val = 7 ∨ m.val = 8 ∨ m.val = 9) ∨ ((tab.getD m.val [] == [97, 100, 100]) = false ∧ (tab.getD m.val [] == [111, 114]) = false ∧ (tab.getD m.val [] == [97, 100, 99]) = false ∧ (tab.getD m.val [] == [115, 98, 98]) = false ∧ (tab.getD m.val [] == [97, 110, 100]) = false ∧ (tab.getD m.val [] == [115, 117, 98]) = false ∧ (tab.getD m.val [] == [120, 111, 114]) = false ∧ (tab.getD m.val [] == [99, 109, 112]) = false ∧ (tab.getD m.val [] == [116, 101, 115, 116]) = false) := by decide
  rcases H ⟨n, by omega⟩ with g | g
  · simp only at g; omega
  · exact g
set_option maxRecDepth 100000 in
theorem rtwo_any (op a b : Int) (c o : Bool) (s w : Int) (ha : U64 a) (hb : U64 b) (W : World) : Calls Try.prog 10 #[.int .i64 op, .int .u64 a, .int .u64 b, th c o s, .int .i64 w] W fun e W' => e = .returned (two op a b c o s w) ∧ Kp W W' := by
  cases h : isW w
  · rw [two_bad op a b c o s w h]
    unfold th
    go_enter Try.func10, Try.ntmps10
    go_wp2_with fail
    refine (ris_any _ _).mono ?_; rintro e w' ⟨rfl, rfl⟩
    rw [h]
    go_wp2_with fail
    go_region
    all_goals
      go_wp2_with fail
      refine bodyPost_ret (v := T0 c o s) (by simp [results, Try.results10, go_sem, T0, th]) rfl ⟨rfl, ?_⟩
      exact (((Kp.rfl W).new _).new _).draws _
  · by_cases h1 : op = 1
    · subst h1; exact rtwo_at_1 a b c o s w ha hb h W
    by_cases h2 : op = 2
    · subst h2; exact rtwo_at_2 a b c o s w ha hb h W
    by_cases h3 : op = 3
    · subst h3; exact rtwo_at_3 a b c o s w ha hb h W
    by_cases h4 : op = 4
    · subst h4; exact rtwo_at_4 a b c o s w ha hb h W
    by_cases h5 : op = 5
    · subst h5; exact rtwo_at_5 a b c o s w ha hb h W
    by_cases h6 : op = 6
    · subst h6; exact rtwo_at_6 a b c o s w ha hb h W
    by_cases h7 : op = 7
    · subst h7; exact rtwo_at_7 a b c o s w ha hb h W
    by_cases h8 : op = 8
    · subst h8; exact rtwo_at_8 a b c o s w ha hb h W
    by_cases h9 : op = 9
    · subst h9; exact rtwo_at_9 a b c o s w ha hb h W
    rw [two_other op a b c o s w ⟨h1, h2, h3, h4, h5, h6, h7, h8, h9⟩]
    by_cases hr : op < 1 ∨ 47 < op
    · unfold th
      go_enter Try.func10, Try.ntmps10
      go_wp2_with fail
      refine (ris_any _ _).mono ?_; rintro e w' ⟨rfl, rfl⟩
      rw [h]
      go_wp2_with fail
      refine (word_out _ hr _).mono ?_; rintro e w' ⟨rfl, rfl⟩
      rw [show str [] = .string ⟨#[]⟩ from rfl]
      go_wp2_with fail
      go_region
      all_goals
        go_wp2_with fail
        refine bodyPost_ret (v := T0 c o s) (by simp [results, Try.results10, go_sem, T0, th]) rfl ⟨rfl, ?_⟩
        exact (((Kp.rfl W).new _).new _).draws _
    · obtain ⟨n, rfl⟩ : ∃ n : Nat, op = n := ⟨op.toNat, by omega⟩
      have hW := fun W => word_in n (by omega) (by omega) W
      have hx := far_two n (by omega) (by omega)
      generalize tab.getD n [] = x at *
      have HW := Lib.hid hW
      clear hW h1 h2 h3 h4 h5 h6 h7 h8 h9 hr
      unfold str at HW
      obtain ⟨x1, x2, x3, x4, x5, x6, x7, x8, x9⟩ := hx
      unfold th
      go_enter Try.func10, Try.ntmps10
      go_wp2_with fail
      refine (ris_any _ _).mono ?_; rintro e w' ⟨rfl, rfl⟩
      rw [h]
      go_wp2_with fail
      refine (HW.out _).mono ?_; rintro e w' ⟨rfl, rfl⟩
      go_wp2_with fail
      go_region
      all_goals
        go_wp2_with fail
        refine bodyPost_ret (v := T0 c o s) (by simp [results, Try.results10, go_sem, T0, th]) rfl ⟨rfl, ?_⟩
        exact ((((Kp.rfl W).new _).new _).new _).draws _
end Go.Proofs.Ytmebkahgdpnajaa
