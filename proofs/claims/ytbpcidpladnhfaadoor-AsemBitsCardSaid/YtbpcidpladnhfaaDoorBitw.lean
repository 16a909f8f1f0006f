/- Walks of layer 1: widths, masks, numbers of a width, with and without sign; of the code and of the document's own answers. -/
import Derived.Test.YtbpcidpladnhfaaDoorRows
import Derived.Test.YtbpcidpladnhfaaDoorLq
import Derived.Test.YtbpcidpladnhfaaDoorBitv
import Derived.WalkKit
import Derived.WalkLawsBesides
import Derived.WalkSpells
import Derived.LoopTactic
import Derived.Lib.Hide
import Derived.Deep.QuietTactic
import Derived.BigQuiet
namespace Go.Proofs.YtbpcidpladnhfaaDoor
open Go.RowKit
open Cq (U64 I64 isW nb zx mask neg sx oneI bit)

theorem is_any (w : Int) (W : World) : Calls Tryd.prog 17 #[.int .i64 w] W fun e W' => e = .returned (.bool (isW w)) ∧ W = W' := by
  by_cases h1 : w = 1
  · subst h1; go_enter Tryd.func17, Tryd.ntmps17; go_wp2; go_ret; exact ⟨rfl, rfl⟩
  by_cases h2 : w = 2
  · subst h2; go_enter Tryd.func17, Tryd.ntmps17; go_wp2; go_ret; exact ⟨rfl, rfl⟩
  by_cases h4 : w = 4
  · subst h4; go_enter Tryd.func17, Tryd.ntmps17; go_wp2; go_ret; exact ⟨rfl, rfl⟩
  by_cases h8 : w = 8
  · subst h8; go_enter Tryd.func17, Tryd.ntmps17; go_wp2; go_ret; exact ⟨rfl, rfl⟩
  have g1 : (w == 1) = false := by simpa using h1
  have g2 : (w == 2) = false := by simpa using h2
  have g4 : (w == 4) = false := by simpa using h4
  have g8 : (w == 8) = false := by simpa using h8
  have gg : isW w = false := by simp [isW, h1, h2, h4, h8]
  rw [gg]
  go_enter Tryd.func17, Tryd.ntmps17; go_wp2; go_ret; exact ⟨rfl, rfl⟩
def sz (w : Int) : Int := IntKind.u64.wrap (8 * IntKind.u64.wrap w)
theorem size_any (w : Int) (W : World) : Calls Tryd.prog 69 #[.int .i64 w] W fun e W' => e = .returned (.int .u64 (sz w)) ∧ W = W' := by
  go_enter Tryd.func69, Tryd.ntmps69; go_wp2; go_ret; exact ⟨rfl, rfl⟩
theorem mask_any (w : Int) (W : World) : Calls Tryd.prog 54 #[.int .i64 w] W fun e W' => e = .returned (.int .u64 (mask w)) ∧ W = W' := by
  by_cases h : isW w = true
  · rcases Cq.isW_cases h with rfl | rfl | rfl | rfl
    all_goals
      go_enter Tryd.func54, Tryd.ntmps54
      go_wp2
      go_ret
      exact ⟨rfl, rfl⟩
  · have h' : isW w = false := by simpa using h
    have e : mask w = 0 := by unfold mask; rw [Cq.nb_not h']; rfl
    rw [e]
    go_enter Tryd.func54, Tryd.ntmps54
    go_wp2_with (go_at_call 17; refine (is_any _ _).mono ?_; rintro e w' ⟨rfl, rfl⟩)
    go_ret
    exact ⟨rfl, rfl⟩
theorem zx_any (v w : Int) (W : World) : Calls Tryd.prog 37 #[.int .u64 v, .int .i64 w] W fun e W' => e = .returned (.int .u64 (zx v w)) ∧ W = W' := by
  rw [← Cq.and_mask]
  go_enter Tryd.func37, Tryd.ntmps37
  go_wp2_with (go_at_call 54; refine (mask_any _ _).mono ?_; rintro e w' ⟨rfl, rfl⟩)
  go_ret
  exact ⟨rfl, rfl⟩
end Go.Proofs.YtbpcidpladnhfaaDoor
