/- Walks of layer 8: Turn, by the document's own answers: whatever operation. -/
import Derived.Test.YtmebkahgdpnajaaFu
namespace Go.Proofs.Ytmebkahgdpnajaa
open Go Go.RowKit
open Cq (U64 I64 isW nb zx sx neg bit oneI)

set_option maxRecDepth 100000 in
theorem far_turn (n : Nat) (h : n ≤ 47) (hn : n ≠ 26 ∧ n ≠ 27 ∧ n ≠ 28 ∧ n ≠ 29 ∧ n ≠ 30) : ((tab.getD n [] == [114, 111, 108]) = false ∧ (tab.getD n [] != [114, 111, 108]) = true) ∧ ((tab.getD n [] == [114, 111, 114]) = false ∧ (tab.getD n [] != [114, 111, 114]) = true) ∧ ((tab.getD n [] == [115, 104, 108]) = false ∧ (tab.getD n [] != [115, 104, 108]) = true) ∧ ((tab.getD n [] == [115, 104, 114]) = false ∧ (tab.getD n [] != [115, 104, 114]) = true) ∧ ((tab.getD n [] == [115, 97, 114]) = false ∧ (tab.getD n [] != [115, 97, 114]) = true) := by
  have H : ∀ m : Fin 48, (m.val = 26 ∨ m.val = 27 ∨ m.val = 28 ∨ m.val = 29 ∨ m.val = 30) ∨ (((tab.getD m.val [] == [114, 111, 108]) = false ∧ (tab.getD m.val [] != [114, 111, 108]) = true) ∧ ((tab.getD m.val [] == [114, 111, 114]) = false ∧ (tab.getD m.val [] != [114, 111, 114]) = true) ∧ ((tab.getD m.val [] == [115, 104, 108]) = false ∧ (tab.getD m.val [] != [115, 104, 108]) = true) ∧ ((tab.getD m.val [] == [115, 104, 114]) = false ∧ (tab.getD m.val [] != [115, 104, 114]) = true) ∧ ((tab.getD m.val [] == [115, 97, 114]) = false ∧ (tab.getD m.val [] != [115, 97, 114]) = true)) := by decide
  rcases H ⟨n, by omega⟩ with g | g
  · simp only at g; omega
  · exact g
set_option maxHeartbeats 2000000 in
set_option maxRecDepth 100000 in
theorem rturn_bad (op a n : Int) (c o : Bool) (s w : Int) (h : isW w = false) (W : World) : Calls Try.prog 16 #[.int .i64 op, .int .u64 a, .int .i64 n, th c o s, .int .i64 w] W fun e W' => e = .returned (T0 c o s) ∧ Kp W W' := by
  have h8 : (w == 8) = false := by
    cases g : (w == 8)
    · rfl
    · rw [show w = 8 by simpa using g] at h; exact absurd h (by decide)
  unfold th
  by_cases hr : op < 1 ∨ 47 < op
  · have HW := Lib.hid (fun W => word_out op hr W)
    clear hr
    go_enter Try.func16, Try.ntmps16
    go_wp2_with fail
    refine (HW.out _).mono ?_; rintro e w' ⟨rfl, rfl⟩
    go_wp2_with fail
    refine (ris_any _ _).mono ?_; rintro e w' ⟨rfl, rfl⟩
    rw [h]
    go_wp2_with fail
    go_region
    all_goals
      go_wp2_with fail
      refine bodyPost_ret (v := T0 c o s) (by simp [results, Try.results16, go_sem, T0, th]) rfl ⟨rfl, ?_⟩
      exact (((Kp.rfl W).new _).new _).draws _
  · obtain ⟨k, rfl⟩ : ∃ k : Nat, op = k := ⟨op.toNat, by omega⟩
    have hW := fun W => word_in k (by omega) (by omega) W
    generalize tab.getD k [] = x at *
    have HW := Lib.hid hW
    clear hW hr
    unfold str at HW
    go_enter Try.func16, Try.ntmps16
    go_wp2_with fail
    refine (HW.out _).mono ?_; rintro e w' ⟨rfl, rfl⟩
    go_wp2_with fail
    refine (ris_any _ _).mono ?_; rintro e w' ⟨rfl, rfl⟩
    rw [h]
    go_wp2_with fail
    go_region
    all_goals
      go_wp2_with fail
      refine bodyPost_ret (v := T0 c o s) (by simp [results, Try.results16, go_sem, T0, th]) rfl ⟨rfl, ?_⟩
      exact ((((Kp.rfl W).new _).new _).new _).draws _
set_option maxHeartbeats 4000000 in
set_option maxRecDepth 100000 in
theorem rturn_other (op a n : Int) (c o : Bool) (s w : Int) (h : isW w = true) (ho : op ≠ 26 ∧ op ≠ 27 ∧ op ≠ 28 ∧ op ≠ 29 ∧ op ≠ 30) (W : World) : Calls Try.prog 16 #[.int .i64 op, .int .u64 a, .int .i64 n, th c o s, .int .i64 w] W fun e W' => e = .returned (T0 c o s) ∧ Kp W W' := by
  unfold th
  cases h8 : (w == 8)
  all_goals
    by_cases hr : op < 1 ∨ 47 < op
    · have hW := fun W => word_out op hr W
      obtain ⟨x, hx0⟩ : ∃ x : List UInt8, x = [] := ⟨_, rfl⟩
      rw [← hx0] at hW
      have hx : ((x == [114, 111, 108]) = false ∧ (x != [114, 111, 108]) = true) ∧ ((x == [114, 111, 114]) = false ∧ (x != [114, 111, 114]) = true) ∧ ((x == [115, 104, 108]) = false ∧ (x != [115, 104, 108]) = true) ∧ ((x == [115, 104, 114]) = false ∧ (x != [115, 104, 114]) = true) ∧ ((x == [115, 97, 114]) = false ∧ (x != [115, 97, 114]) = true) := by subst hx0; decide
      have HW := Lib.hid hW
      clear hW hr ho hx0
      unfold str at HW
      obtain ⟨⟨x1, y1⟩, ⟨x2, y2⟩, ⟨x3, y3⟩, ⟨x4, y4⟩, ⟨x5, y5⟩⟩ := hx
      go_enter Try.func16, Try.ntmps16
      go_wp2_with fail
      refine (HW.out _).mono ?_; rintro e w' ⟨rfl, rfl⟩
      go_wp2_with fail
      refine (ris_any _ _).mono ?_; rintro e w' ⟨rfl, rfl⟩
      rw [h]
      go_wp2_with fail
      go_region
      all_goals
        go_wp2_with fail
        refine bodyPost_ret (v := T0 c o s) (by simp [results, Try.results16, go_sem, T0, th]) rfl ⟨rfl, ?_⟩
        exact (((Kp.rfl W).new _).new _).draws _
    · obtain ⟨k, rfl⟩ : ∃ k : Nat, op = k := ⟨op.toNat, by omega⟩
      have hW := fun W => word_in k (by omega) (by omega) W
      have hx := far_turn k (by omega) (by omega)
      generalize tab.getD k [] = x at *
      have HW := Lib.hid hW
      clear hW hr ho
      unfold str at HW
      obtain ⟨⟨x1, y1⟩, ⟨x2, y2⟩, ⟨x3, y3⟩, ⟨x4, y4⟩, ⟨x5, y5⟩⟩ := hx
      go_enter Try.func16, Try.ntmps16
      go_wp2_with fail
      refine (HW.out _).mono ?_; rintro e w' ⟨rfl, rfl⟩
      go_wp2_with fail
      refine (ris_any _ _).mono ?_; rintro e w' ⟨rfl, rfl⟩
      rw [h]
      go_wp2_with fail
      go_region
      all_goals
        go_wp2_with fail
        refine bodyPost_ret (v := T0 c o s) (by simp [results, Try.results16, go_sem, T0, th]) rfl ⟨rfl, ?_⟩
        exact ((((Kp.rfl W).new _).new _).new _).draws _
theorem rturn_any (op a n : Int) (c o : Bool) (s w : Int) (ha : U64 a) (W : World) : Calls Try.prog 16 #[.int .i64 op, .int .u64 a, .int .i64 n, th c o s, .int .i64 w] W fun e W' => e = .returned (trn op a n c o s w) ∧ Kp W W' := by
  cases h : isW w
  · rw [trn_bad op a n c o s w h]; exact rturn_bad op a n c o s w h W
  · by_cases h1 : op = 28
    · subst h1; exact rturn_at_28 a n c o s w ha h W
    by_cases h2 : op = 29
    · subst h2; exact rturn_at_29 a n c o s w ha h W
    by_cases h3 : op = 30
    · subst h3; exact rturn_at_30 a n c o s w ha h W
    by_cases h4 : op = 26
    · subst h4; exact rturn_at_26 a n c o s w ha h W
    by_cases h5 : op = 27
    · subst h5; exact rturn_at_27 a n c o s w ha h W
    rw [trn_other op a n c o s w ⟨h1, h2, h3, h4, h5⟩]
    exact rturn_other op a n c o s w h (by omega) W
end Go.Proofs.Ytmebkahgdpnajaa
