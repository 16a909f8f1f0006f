/- Walks of layer 8: quotients, by the document's own answers, whatever the numbers. -/
import Derived.Test.YtmebkahgdpnajaaFza
import Derived.Test.YtmebkahgdpnajaaFzc
namespace Go.Proofs.Ytmebkahgdpnajaa
open Go Go.RowKit
open Cq (U64 I64 isW nb zx sx neg mask sg isQ qN qA qS qOk)

theorem rquo_bad_w (hi lo d : Int) (s : Bool) (w : Int) (h : isW w = false) (W : World) : Calls Try.prog 20 #[.int .u64 hi, .int .u64 lo, .int .u64 d, .bool s, .int .i64 w] W fun e W' => e = .returned Q0 ∧ W = W' := by
  go_enter Try.func20, Try.ntmps20
  go_wp2_with fail
  refine (ris_any _ _).mono ?_; rintro e w' ⟨rfl, rfl⟩
  rw [h]
  go_wp2_with fail
  go_ret3
  exact ⟨rfl, rfl⟩
theorem rquo_bad_8 (hi lo d : Int) (s : Bool) (W : World) : Calls Try.prog 20 #[.int .u64 hi, .int .u64 lo, .int .u64 d, .bool s, .int .i64 8] W fun e W' => e = .returned Q0 ∧ W = W' := by
  go_enter Try.func20, Try.ntmps20
  go_wp2_with fail
  refine (ris_any _ _).mono ?_; rintro e w' ⟨rfl, rfl⟩
  rw [show isW 8 = true from rfl]
  go_wp2_with fail
  go_ret3
  exact ⟨rfl, rfl⟩
theorem rquo_bad_0 (hi lo d : Int) (s : Bool) (w : Int) (hd : U64 d) (hq : isQ w = true) (h : zx d w = 0) (W : World) : Calls Try.prog 20 #[.int .u64 hi, .int .u64 lo, .int .u64 d, .bool s, .int .i64 w] W fun e W' => e = .returned Q0 ∧ W = W' := by
  rcases Cq.isQ_cases hq with rfl | rfl | rfl
  all_goals
    clear hq
    have H := Lib.hid h
    clear h
    go_enter Try.func20, Try.ntmps20
    go_wp2_with fail
    refine (ris_any _ _).mono ?_; rintro e w' ⟨rfl, rfl⟩
    rw [show isW _ = true from rfl]
    go_wp2_with fail
    refine (rzx_any _ _ hd _).mono ?_; rintro e w' ⟨rfl, rfl⟩
    rw [H.out]
    go_wp2_with fail
    go_ret3
    exact ⟨rfl, rfl⟩
theorem rquotient_any (hi lo d : Int) (s : Bool) (w : Int) (hh : U64 hi) (hl : U64 lo) (hd : U64 d) (W : World) : Calls Try.prog 20 #[.int .u64 hi, .int .u64 lo, .int .u64 d, .bool s, .int .i64 w] W fun e W' => e = .returned (quo hi lo d s w) ∧ W = W' := by
  cases h : isW w
  · rw [quo_bad hi lo d s w (fun g => by rw [Cq.isQ_isW g.1] at h; exact absurd h (by decide))]; exact rquo_bad_w hi lo d s w h W
  by_cases h8 : w = 8
  · subst h8; rw [quo_bad hi lo d s 8 (fun g => absurd g.1 (by decide))]; exact rquo_bad_8 hi lo d s W
  have hq : isQ w = true := by rcases Cq.isW_cases h with rfl | rfl | rfl | rfl <;> first | rfl | exact absurd rfl h8
  by_cases hz : zx d w = 0
  · rw [quo_bad hi lo d s w (fun g => g.2 hz)]; exact rquo_bad_0 hi lo d s w hd hq hz W
  cases s
  · rw [quo_is_U hi lo d w hq hz]
    rcases Cq.isQ_cases hq with rfl | rfl | rfl
    · by_cases hk : qN hi lo 1 / zx d 1 ≤ zx 18446744073709551615 1
      · exact rquoU_1_yes hi lo d hh hl hd hz hk W
      · exact rquoU_1_no hi lo d hh hl hd hz hk W
    · by_cases hk : qN hi lo 2 / zx d 2 ≤ zx 18446744073709551615 2
      · exact rquoU_2_yes hi lo d hh hl hd hz hk W
      · exact rquoU_2_no hi lo d hh hl hd hz hk W
    · by_cases hk : qN hi lo 4 / zx d 4 ≤ zx 18446744073709551615 4
      · exact rquoU_4_yes hi lo d hh hl hd hz hk W
      · exact rquoU_4_no hi lo d hh hl hd hz hk W
  · rw [quo_is_S hi lo d w hq hz]
    rcases Cq.isQ_cases hq with rfl | rfl | rfl
    · cases hk : qOk (qq hi lo d 1) (qm hi lo d 1) 1 <;> cases hnv : neg hi 1 <;> cases hnd : neg d 1
      · exact rquoS_1_false_false_no hi lo d hh hl hd hz hnv hnd hk W
      · exact rquoS_1_false_true_no hi lo d hh hl hd hz hnv hnd hk W
      · exact rquoS_1_true_false_no hi lo d hh hl hd hz hnv hnd hk W
      · exact rquoS_1_true_true_no hi lo d hh hl hd hz hnv hnd hk W
      · exact rquoS_1_false_false_yes hi lo d hh hl hd hz hnv hnd hk W
      · exact rquoS_1_false_true_yes hi lo d hh hl hd hz hnv hnd hk W
      · exact rquoS_1_true_false_yes hi lo d hh hl hd hz hnv hnd hk W
      · exact rquoS_1_true_true_yes hi lo d hh hl hd hz hnv hnd hk W
    · cases hk : qOk (qq hi lo d 2) (qm hi lo d 2) 2 <;> cases hnv : neg hi 2 <;> cases hnd : neg d 2
      · exact rquoS_2_false_false_no hi lo d hh hl hd hz hnv hnd hk W
      · exact rquoS_2_false_true_no hi lo d hh hl hd hz hnv hnd hk W
      · exact rquoS_2_true_false_no hi lo d hh hl hd hz hnv hnd hk W
      · exact rquoS_2_true_true_no hi lo d hh hl hd hz hnv hnd hk W
      · exact rquoS_2_false_false_yes hi lo d hh hl hd hz hnv hnd hk W
      · exact rquoS_2_false_true_yes hi lo d hh hl hd hz hnv hnd hk W
      · exact rquoS_2_true_false_yes hi lo d hh hl hd hz hnv hnd hk W
      · exact rquoS_2_true_true_yes hi lo d hh hl hd hz hnv hnd hk W
    · cases hk : qOk (qq hi lo d 4) (qm hi lo d 4) 4 <;> cases hnv : neg hi 4 <;> cases hnd : neg d 4
      · exact rquoS_4_false_false_no hi lo d hh hl hd hz hnv hnd hk W
      · exact rquoS_4_false_true_no hi lo d hh hl hd hz hnv hnd hk W
      · exact rquoS_4_true_false_no hi lo d hh hl hd hz hnv hnd hk W
      · exact rquoS_4_true_true_no hi lo d hh hl hd hz hnv hnd hk W
      · exact rquoS_4_false_false_yes hi lo d hh hl hd hz hnv hnd hk W
      · exact rquoS_4_false_true_yes hi lo d hh hl hd hz hnv hnd hk W
      · exact rquoS_4_true_false_yes hi lo d hh hl hd hz hnv hnd hk W
      · exact rquoS_4_true_true_yes hi lo d hh hl hd hz hnv hnd hk W
end Go.Proofs.Ytmebkahgdpnajaa
