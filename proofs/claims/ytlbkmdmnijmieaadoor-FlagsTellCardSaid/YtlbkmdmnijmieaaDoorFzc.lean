/- Walks of layer 8: quotients, whatever the numbers. -/
import Derived.Test.YtlbkmdmnijmieaaDoorFz
namespace Go.Proofs.YtlbkmdmnijmieaaDoor
open Go Go.RowKit
open Cq (U64 I64 isW nb zx sx neg mask sg isQ qN qA qS qOk)

theorem quo_is_U (hi lo d w : Int) (h : isQ w = true) (hz : zx d w ≠ 0) : quo hi lo d false w = quoU hi lo d w := by unfold quo; rw [if_pos ⟨h, hz⟩]; rfl
theorem quo_is_S (hi lo d w : Int) (h : isQ w = true) (hz : zx d w ≠ 0) : quo hi lo d true w = quoS hi lo d w := by unfold quo; rw [if_pos ⟨h, hz⟩]; rfl
theorem quo_bad_w (hi lo d : Int) (s : Bool) (w : Int) (h : isW w = false) (W : World) : Calls Tryd.prog 23 #[.int .u64 hi, .int .u64 lo, .int .u64 d, .bool s, .int .i64 w] W fun e W' => e = .returned Q0 ∧ Drawn W W' := by
  go_enter Tryd.func23, Tryd.ntmps23
  go_wp2_with fail
  refine (is_any _ _).mono ?_; rintro e w' ⟨rfl, rfl⟩
  rw [h]
  go_wp2_with fail
  go_ret3
  exact ⟨rfl, Drawn.refl _⟩
theorem quo_bad_8 (hi lo d : Int) (s : Bool) (W : World) : Calls Tryd.prog 23 #[.int .u64 hi, .int .u64 lo, .int .u64 d, .bool s, .int .i64 8] W fun e W' => e = .returned Q0 ∧ Drawn W W' := by
  go_enter Tryd.func23, Tryd.ntmps23
  go_wp2_with fail
  refine (is_any _ _).mono ?_; rintro e w' ⟨rfl, rfl⟩
  rw [show isW 8 = true from rfl]
  go_wp2_with fail
  go_ret3
  exact ⟨rfl, Drawn.refl _⟩
theorem quo_bad_0 (hi lo d : Int) (s : Bool) (w : Int) (_hd : U64 d) (hq : isQ w = true) (h : zx d w = 0) (W : World) : Calls Tryd.prog 23 #[.int .u64 hi, .int .u64 lo, .int .u64 d, .bool s, .int .i64 w] W fun e W' => e = .returned Q0 ∧ Drawn W W' := by
  rcases Cq.isQ_cases hq with rfl | rfl | rfl
  all_goals
    clear hq
    have H := Lib.hid h
    clear h
    go_enter Tryd.func23, Tryd.ntmps23
    go_wp2_with fail
    refine (is_any _ _).mono ?_; rintro e w' ⟨rfl, rfl⟩
    rw [show isW _ = true from rfl]
    go_wp2_with fail
    refine (zx_any _ _ _).mono ?_; rintro e w' ⟨rfl, rfl⟩
    rw [H.out]
    go_wp2_with fail
    go_ret3
    exact ⟨rfl, Drawn.refl _⟩
theorem quotient_any (hi lo d : Int) (s : Bool) (w : Int) (_hh : U64 hi) (_hl : U64 lo) (hd : U64 d) (W : World) : Calls Tryd.prog 23 #[.int .u64 hi, .int .u64 lo, .int .u64 d, .bool s, .int .i64 w] W fun e W' => e = .returned (quo hi lo d s w) ∧ Drawn W W' := by
  cases h : isW w
  · rw [quo_bad hi lo d s w (fun g => by rw [Cq.isQ_isW g.1] at h; exact absurd h (by decide))]; exact quo_bad_w hi lo d s w h W
  by_cases h8 : w = 8
  · subst h8; rw [quo_bad hi lo d s 8 (fun g => absurd g.1 (by decide))]; exact quo_bad_8 hi lo d s W
  have hq : isQ w = true := by rcases Cq.isW_cases h with rfl | rfl | rfl | rfl <;> first | rfl | exact absurd rfl h8
  by_cases hz : zx d w = 0
  · rw [quo_bad hi lo d s w (fun g => g.2 hz)]; exact quo_bad_0 hi lo d s w hd hq hz W
  cases s
  · rw [quo_is_U hi lo d w hq hz]
    rcases Cq.isQ_cases hq with rfl | rfl | rfl
    · by_cases hk : qN hi lo 1 / zx d 1 ≤ zx 18446744073709551615 1
      · exact quoU_1_yes hi lo d hz hk W
      · exact quoU_1_no hi lo d hz hk W
    · by_cases hk : qN hi lo 2 / zx d 2 ≤ zx 18446744073709551615 2
      · exact quoU_2_yes hi lo d hz hk W
      · exact quoU_2_no hi lo d hz hk W
    · by_cases hk : qN hi lo 4 / zx d 4 ≤ zx 18446744073709551615 4
      · exact quoU_4_yes hi lo d hz hk W
      · exact quoU_4_no hi lo d hz hk W
  · rw [quo_is_S hi lo d w hq hz]
    rcases Cq.isQ_cases hq with rfl | rfl | rfl
    · cases hk : qOk (qq hi lo d 1) (qm hi lo d 1) 1
      · exact quoS_1_no hi lo d hd hz hk W
      · exact quoS_1_yes hi lo d hd hz hk W
    · cases hk : qOk (qq hi lo d 2) (qm hi lo d 2) 2
      · exact quoS_2_no hi lo d hd hz hk W
      · exact quoS_2_yes hi lo d hd hz hk W
    · cases hk : qOk (qq hi lo d 4) (qm hi lo d 4) 4
      · exact quoS_4_no hi lo d hd hz hk W
      · exact quoS_4_yes hi lo d hd hz hk W
end Go.Proofs.YtlbkmdmnijmieaaDoor
