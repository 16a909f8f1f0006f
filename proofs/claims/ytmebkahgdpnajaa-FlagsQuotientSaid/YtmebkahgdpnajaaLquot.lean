/- Walk of the statement of layer 8 on quotients. -/
import Derived.Test.YtmebkahgdpnajaaFd
import Derived.Test.YtmebkahgdpnajaaFzb
namespace Go.Proofs.Ytmebkahgdpnajaa
open Go Go.RowKit
open Cq (U64 I64 isW nb zx sx neg mask sg isQ qN qA qS qOk)

theorem law_quot_no (hi lo d : Int) (sn : Bool) (w : Int) (hh : U64 hi) (hl : U64 lo) (hd : U64 d) (hq : quo hi lo d sn w = Q0) (W : World) : Calls Try.prog 7 #[.int .u64 hi, .int .u64 lo, .int .u64 d, .bool sn, .int .i64 w] W fun e W' => e = .returned (.bool true) ∧ Kp W W' := by
  have hp := fun W => quotient_any hi lo d sn w hh hl hd W
  have hr := fun W => rquotient_any hi lo d sn w hh hl hd W
  rw [hq] at hp hr
  unfold Q0 at hp hr
  have HP := Lib.hid hp
  have HR := Lib.hid hr
  clear hq hp hr
  go_enter Try.func7, Try.ntmps7
  go_wp2_with fail
  refine (HP.out _).mono ?_; rintro e w' ⟨rfl, n, rfl⟩
  go_wp2_with fail
  refine (HR.out _).mono ?_; rintro e w' ⟨rfl, rfl⟩
  go_wp2_with fail
  refine (awake_any _).mono ?_; rintro e we ⟨rfl, ke⟩
  replace ke := Lib.hid ke
  go_wp2_with fail
  go_ret
  exact ⟨rfl, ((Kp.rfl W).draws n).next ke.out⟩
theorem law_quot_U_1 (hi lo d : Int) (hh : U64 hi) (hl : U64 lo) (hd : U64 d) (hz : zx d 1 ≠ 0) (hk : qN hi lo 1 / zx d 1 ≤ zx 18446744073709551615 1) (W : World) : Calls Try.prog 7 #[.int .u64 hi, .int .u64 lo, .int .u64 d, .bool false, .int .i64 1] W fun e W' => e = .returned (.bool true) ∧ Kp W W' := by
  have hp := fun W => quotient_any hi lo d false 1 hh hl hd W
  have hr := fun W => rquotient_any hi lo d false 1 hh hl hd W
  rw [quo_is_U hi lo d 1 rfl hz] at hp hr
  unfold quoU at hp hr
  rw [if_pos hk] at hp hr
  have hb := Cq.qN_bd hi lo (w := 1) (by decide)
  have e1 := Cq.qN_or hi lo (w := 1) (by decide)
  rw [show (2 : Int) ^ nb 1 = 256 from rfl] at e1
  have zl := Cq.zx_lt d 1
  obtain ⟨X, hX⟩ : ∃ X, X = qN hi lo 1 := ⟨_, rfl⟩
  obtain ⟨D, hD⟩ : ∃ D, D = zx d 1 := ⟨_, rfl⟩
  rw [← hX] at hb e1 hp hr
  rw [← hD] at hz zl hp hr
  have hx := Int.mul_ediv_add_emod X D
  have hm := Int.emod_lt_of_pos X (b := D) (by omega)
  obtain ⟨q, hq⟩ : ∃ q, q = X / D := ⟨_, rfl⟩
  obtain ⟨r, hr2⟩ : ∃ r, r = X % D := ⟨_, rfl⟩
  rw [← hq] at hx hp hr
  rw [← hr2] at hx hm hp hr
  have HM : Hid (IntKind.u64.wrap (IntKind.u64.wrap (q * D) + r) = X) := Lib.hid (by
    rw [Int.mul_comm, IntKind.wrap_u64, IntKind.wrap_u64]
    have := hb.2.2
    unfold U64 at this
    rw [Int.add_emod, Int.emod_emod_of_dvd _ (Int.dvd_refl _), ← Int.add_emod, hx]
    omega)
  have HP := Lib.hid hp
  have HR := Lib.hid hr
  have HX := Lib.hid e1
  have HD := Lib.hid hD.symm
  clear hk hp hr hb e1 zl hX hD hz hx hq hr2
  go_enter Try.func7, Try.ntmps7
  go_wp2_with fail
  refine (HP.out _).mono ?_; rintro e w' ⟨rfl, n, rfl⟩
  go_wp2_with fail
  refine (HR.out _).mono ?_; rintro e w' ⟨rfl, rfl⟩
  go_wp2_with fail
  refine (zx_any _ _ _).mono ?_; rintro e w' ⟨rfl, rfl⟩
  go_wp2_with fail
  refine (zx_any _ _ _).mono ?_; rintro e w' ⟨rfl, rfl⟩
  go_wp2_with fail
  rw [HX.out]
  refine (zx_any _ _ _).mono ?_; rintro e w' ⟨rfl, rfl⟩
  rw [HD.out]
  go_wp2_with fail
  refine (zx_any _ _ _).mono ?_; rintro e w' ⟨rfl, rfl⟩
  rw [HD.out]
  go_wp2_with fail
  refine (awake_any _).mono ?_; rintro e we ⟨rfl, ke⟩
  replace ke := Lib.hid ke
  go_wp2_with fail
  go_ret
  exact ⟨rfl, ((Kp.rfl W).draws n).next ke.out⟩
theorem law_quot_S_1 (hi lo d : Int) (hh : U64 hi) (hl : U64 lo) (hd : U64 d) (hz : zx d 1 ≠ 0) (hk : qOk (qq hi lo d 1) (qm hi lo d 1) 1 = true) (W : World) : Calls Try.prog 7 #[.int .u64 hi, .int .u64 lo, .int .u64 d, .bool true, .int .i64 1] W fun e W' => e = .returned (.bool true) ∧ Kp W W' := by
  have hp := fun W => quotient_any hi lo d true 1 hh hl hd W
  have hr := fun W => rquotient_any hi lo d true 1 hh hl hd W
  rw [quo_is_S hi lo d 1 rfl hz] at hp hr
  unfold quoS at hp hr
  rw [if_pos hk] at hp hr
  unfold qq qm at hk
  have hB := Cq.quo_back (w := 1) (qN hi lo 1) d (by decide) hz hk
  rw [Cq.zx_qN hi lo (w := 1) (by decide)] at hB
  have e1 := Cq.qN_or hi lo (w := 1) (by decide)
  rw [show (2 : Int) ^ nb 1 = 256 from rfl] at e1
  rw [show (2 * 1 : Int) = 2 from rfl] at hB hp hr
  obtain ⟨X, hX⟩ : ∃ X, X = qN hi lo 1 := ⟨_, rfl⟩
  rw [← hX] at hB e1 hp hr
  have uq : U64 (zx ((sg X 2).tdiv (sg d 1)) 1) := Cq.zx_u64 1
  have ur : U64 (zx ((sg X 2).tmod (sg d 1)) 1) := Cq.zx_u64 1
  generalize zx ((sg X 2).tdiv (sg d 1)) 1 = q at *
  generalize zx ((sg X 2).tmod (sg d 1)) 1 = r at *
  have HB := Lib.hid hB
  have HP := Lib.hid hp
  have HR := Lib.hid hr
  have HX := Lib.hid e1
  clear hk hp hr hB e1 hX hz
  go_enter Try.func7, Try.ntmps7
  go_wp2_with fail
  refine (HP.out _).mono ?_; rintro e w' ⟨rfl, n, rfl⟩
  go_wp2_with fail
  refine (HR.out _).mono ?_; rintro e w' ⟨rfl, rfl⟩
  go_wp2_with fail
  refine (zx_any _ _ _).mono ?_; rintro e w' ⟨rfl, rfl⟩
  go_wp2_with fail
  refine (zx_any _ _ _).mono ?_; rintro e w' ⟨rfl, rfl⟩
  go_wp2_with fail
  rw [HX.out]
  refine (sx_any _ _ uq _).mono ?_; rintro e w' ⟨rfl, rfl⟩
  go_wp2_with fail
  refine (sx_any _ _ hd _).mono ?_; rintro e w' ⟨rfl, rfl⟩
  go_wp2_with fail
  refine (sx_any _ _ ur _).mono ?_; rintro e w' ⟨rfl, rfl⟩
  go_wp2_with fail
  refine (zx_any _ _ _).mono ?_; rintro e w' ⟨rfl, rfl⟩
  rw [HB.out]
  go_wp2_with fail
  refine (awake_any _).mono ?_; rintro e we ⟨rfl, ke⟩
  replace ke := Lib.hid ke
  go_wp2_with fail
  go_ret
  exact ⟨rfl, ((Kp.rfl W).draws n).next ke.out⟩
theorem law_quot_U_2 (hi lo d : Int) (hh : U64 hi) (hl : U64 lo) (hd : U64 d) (hz : zx d 2 ≠ 0) (hk : qN hi lo 2 / zx d 2 ≤ zx 18446744073709551615 2) (W : World) : Calls Try.prog 7 #[.int .u64 hi, .int .u64 lo, .int .u64 d, .bool false, .int .i64 2] W fun e W' => e = .returned (.bool true) ∧ Kp W W' := by
  have hp := fun W => quotient_any hi lo d false 2 hh hl hd W
  have hr := fun W => rquotient_any hi lo d false 2 hh hl hd W
  rw [quo_is_U hi lo d 2 rfl hz] at hp hr
  unfold quoU at hp hr
  rw [if_pos hk] at hp hr
  have hb := Cq.qN_bd hi lo (w := 2) (by decide)
  have e1 := Cq.qN_or hi lo (w := 2) (by decide)
  rw [show (2 : Int) ^ nb 2 = 65536 from rfl] at e1
  have zl := Cq.zx_lt d 2
  obtain ⟨X, hX⟩ : ∃ X, X = qN hi lo 2 := ⟨_, rfl⟩
  obtain ⟨D, hD⟩ : ∃ D, D = zx d 2 := ⟨_, rfl⟩
  rw [← hX] at hb e1 hp hr
  rw [← hD] at hz zl hp hr
  have hx := Int.mul_ediv_add_emod X D
  have hm := Int.emod_lt_of_pos X (b := D) (by omega)
  obtain ⟨q, hq⟩ : ∃ q, q = X / D := ⟨_, rfl⟩
  obtain ⟨r, hr2⟩ : ∃ r, r = X % D := ⟨_, rfl⟩
  rw [← hq] at hx hp hr
  rw [← hr2] at hx hm hp hr
  have HM : Hid (IntKind.u64.wrap (IntKind.u64.wrap (q * D) + r) = X) := Lib.hid (by
    rw [Int.mul_comm, IntKind.wrap_u64, IntKind.wrap_u64]
    have := hb.2.2
    unfold U64 at this
    rw [Int.add_emod, Int.emod_emod_of_dvd _ (Int.dvd_refl _), ← Int.add_emod, hx]
    omega)
  have HP := Lib.hid hp
  have HR := Lib.hid hr
  have HX := Lib.hid e1
  have HD := Lib.hid hD.symm
  clear hk hp hr hb e1 zl hX hD hz hx hq hr2
  go_enter Try.func7, Try.ntmps7
  go_wp2_with fail
  refine (HP.out _).mono ?_; rintro e w' ⟨rfl, n, rfl⟩
  go_wp2_with fail
  refine (HR.out _).mono ?_; rintro e w' ⟨rfl, rfl⟩
  go_wp2_with fail
  refine (zx_any _ _ _).mono ?_; rintro e w' ⟨rfl, rfl⟩
  go_wp2_with fail
  refine (zx_any _ _ _).mono ?_; rintro e w' ⟨rfl, rfl⟩
  go_wp2_with fail
  rw [HX.out]
  refine (zx_any _ _ _).mono ?_; rintro e w' ⟨rfl, rfl⟩
  rw [HD.out]
  go_wp2_with fail
  refine (zx_any _ _ _).mono ?_; rintro e w' ⟨rfl, rfl⟩
  rw [HD.out]
  go_wp2_with fail
  refine (awake_any _).mono ?_; rintro e we ⟨rfl, ke⟩
  replace ke := Lib.hid ke
  go_wp2_with fail
  go_ret
  exact ⟨rfl, ((Kp.rfl W).draws n).next ke.out⟩
theorem law_quot_S_2 (hi lo d : Int) (hh : U64 hi) (hl : U64 lo) (hd : U64 d) (hz : zx d 2 ≠ 0) (hk : qOk (qq hi lo d 2) (qm hi lo d 2) 2 = true) (W : World) : Calls Try.prog 7 #[.int .u64 hi, .int .u64 lo, .int .u64 d, .bool true, .int .i64 2] W fun e W' => e = .returned (.bool true) ∧ Kp W W' := by
  have hp := fun W => quotient_any hi lo d true 2 hh hl hd W
  have hr := fun W => rquotient_any hi lo d true 2 hh hl hd W
  rw [quo_is_S hi lo d 2 rfl hz] at hp hr
  unfold quoS at hp hr
  rw [if_pos hk] at hp hr
  unfold qq qm at hk
  have hB := Cq.quo_back (w := 2) (qN hi lo 2) d (by decide) hz hk
  rw [Cq.zx_qN hi lo (w := 2) (by decide)] at hB
  have e1 := Cq.qN_or hi lo (w := 2) (by decide)
  rw [show (2 : Int) ^ nb 2 = 65536 from rfl] at e1
  rw [show (2 * 2 : Int) = 4 from rfl] at hB hp hr
  obtain ⟨X, hX⟩ : ∃ X, X = qN hi lo 2 := ⟨_, rfl⟩
  rw [← hX] at hB e1 hp hr
  have uq : U64 (zx ((sg X 4).tdiv (sg d 2)) 2) := Cq.zx_u64 2
  have ur : U64 (zx ((sg X 4).tmod (sg d 2)) 2) := Cq.zx_u64 2
  generalize zx ((sg X 4).tdiv (sg d 2)) 2 = q at *
  generalize zx ((sg X 4).tmod (sg d 2)) 2 = r at *
  have HB := Lib.hid hB
  have HP := Lib.hid hp
  have HR := Lib.hid hr
  have HX := Lib.hid e1
  clear hk hp hr hB e1 hX hz
  go_enter Try.func7, Try.ntmps7
  go_wp2_with fail
  refine (HP.out _).mono ?_; rintro e w' ⟨rfl, n, rfl⟩
  go_wp2_with fail
  refine (HR.out _).mono ?_; rintro e w' ⟨rfl, rfl⟩
  go_wp2_with fail
  refine (zx_any _ _ _).mono ?_; rintro e w' ⟨rfl, rfl⟩
  go_wp2_with fail
  refine (zx_any _ _ _).mono ?_; rintro e w' ⟨rfl, rfl⟩
  go_wp2_with fail
  rw [HX.out]
  refine (sx_any _ _ uq _).mono ?_; rintro e w' ⟨rfl, rfl⟩
  go_wp2_with fail
  refine (sx_any _ _ hd _).mono ?_; rintro e w' ⟨rfl, rfl⟩
  go_wp2_with fail
  refine (sx_any _ _ ur _).mono ?_; rintro e w' ⟨rfl, rfl⟩
  go_wp2_with fail
  refine (zx_any _ _ _).mono ?_; rintro e w' ⟨rfl, rfl⟩
  rw [HB.out]
  go_wp2_with fail
  refine (awake_any _).mono ?_; rintro e we ⟨rfl, ke⟩
  replace ke := Lib.hid ke
  go_wp2_with fail
  go_ret
  exact ⟨rfl, ((Kp.rfl W).draws n).next ke.out⟩
theorem law_quot_U_4 (hi lo d : Int) (hh : U64 hi) (hl : U64 lo) (hd : U64 d) (hz : zx d 4 ≠ 0) (hk : qN hi lo 4 / zx d 4 ≤ zx 18446744073709551615 4) (W : World) : Calls Try.prog 7 #[.int .u64 hi, .int .u64 lo, .int .u64 d, .bool false, .int .i64 4] W fun e W' => e = .returned (.bool true) ∧ Kp W W' := by
  have hp := fun W => quotient_any hi lo d false 4 hh hl hd W
  have hr := fun W => rquotient_any hi lo d false 4 hh hl hd W
  rw [quo_is_U hi lo d 4 rfl hz] at hp hr
  unfold quoU at hp hr
  rw [if_pos hk] at hp hr
  have hb := Cq.qN_bd hi lo (w := 4) (by decide)
  have e1 := Cq.qN_or hi lo (w := 4) (by decide)
  rw [show (2 : Int) ^ nb 4 = 4294967296 from rfl] at e1
  have zl := Cq.zx_lt d 4
  obtain ⟨X, hX⟩ : ∃ X, X = qN hi lo 4 := ⟨_, rfl⟩
  obtain ⟨D, hD⟩ : ∃ D, D = zx d 4 := ⟨_, rfl⟩
  rw [← hX] at hb e1 hp hr
  rw [← hD] at hz zl hp hr
  have hx := Int.mul_ediv_add_emod X D
  have hm := Int.emod_lt_of_pos X (b := D) (by omega)
  obtain ⟨q, hq⟩ : ∃ q, q = X / D := ⟨_, rfl⟩
  obtain ⟨r, hr2⟩ : ∃ r, r = X % D := ⟨_, rfl⟩
  rw [← hq] at hx hp hr
  rw [← hr2] at hx hm hp hr
  have HM : Hid (IntKind.u64.wrap (IntKind.u64.wrap (q * D) + r) = X) := Lib.hid (by
    rw [Int.mul_comm, IntKind.wrap_u64, IntKind.wrap_u64]
    have := hb.2.2
    unfold U64 at this
    rw [Int.add_emod, Int.emod_emod_of_dvd _ (Int.dvd_refl _), ← Int.add_emod, hx]
    omega)
  have HP := Lib.hid hp
  have HR := Lib.hid hr
  have HX := Lib.hid e1
  have HD := Lib.hid hD.symm
  clear hk hp hr hb e1 zl hX hD hz hx hq hr2
  go_enter Try.func7, Try.ntmps7
  go_wp2_with fail
  refine (HP.out _).mono ?_; rintro e w' ⟨rfl, n, rfl⟩
  go_wp2_with fail
  refine (HR.out _).mono ?_; rintro e w' ⟨rfl, rfl⟩
  go_wp2_with fail
  refine (zx_any _ _ _).mono ?_; rintro e w' ⟨rfl, rfl⟩
  go_wp2_with fail
  refine (zx_any _ _ _).mono ?_; rintro e w' ⟨rfl, rfl⟩
  go_wp2_with fail
  rw [HX.out]
  refine (zx_any _ _ _).mono ?_; rintro e w' ⟨rfl, rfl⟩
  rw [HD.out]
  go_wp2_with fail
  refine (zx_any _ _ _).mono ?_; rintro e w' ⟨rfl, rfl⟩
  rw [HD.out]
  go_wp2_with fail
  refine (awake_any _).mono ?_; rintro e we ⟨rfl, ke⟩
  replace ke := Lib.hid ke
  go_wp2_with fail
  go_ret
  exact ⟨rfl, ((Kp.rfl W).draws n).next ke.out⟩
theorem law_quot_S_4 (hi lo d : Int) (hh : U64 hi) (hl : U64 lo) (hd : U64 d) (hz : zx d 4 ≠ 0) (hk : qOk (qq hi lo d 4) (qm hi lo d 4) 4 = true) (W : World) : Calls Try.prog 7 #[.int .u64 hi, .int .u64 lo, .int .u64 d, .bool true, .int .i64 4] W fun e W' => e = .returned (.bool true) ∧ Kp W W' := by
  have hp := fun W => quotient_any hi lo d true 4 hh hl hd W
  have hr := fun W => rquotient_any hi lo d true 4 hh hl hd W
  rw [quo_is_S hi lo d 4 rfl hz] at hp hr
  unfold quoS at hp hr
  rw [if_pos hk] at hp hr
  unfold qq qm at hk
  have hB := Cq.quo_back (w := 4) (qN hi lo 4) d (by decide) hz hk
  rw [Cq.zx_qN hi lo (w := 4) (by decide)] at hB
  have e1 := Cq.qN_or hi lo (w := 4) (by decide)
  rw [show (2 : Int) ^ nb 4 = 4294967296 from rfl] at e1
  rw [show (2 * 4 : Int) = 8 from rfl] at hB hp hr
  obtain ⟨X, hX⟩ : ∃ X, X = qN hi lo 4 := ⟨_, rfl⟩
  rw [← hX] at hB e1 hp hr
  have uq : U64 (zx ((sg X 8).tdiv (sg d 4)) 4) := Cq.zx_u64 4
  have ur : U64 (zx ((sg X 8).tmod (sg d 4)) 4) := Cq.zx_u64 4
  generalize zx ((sg X 8).tdiv (sg d 4)) 4 = q at *
  generalize zx ((sg X 8).tmod (sg d 4)) 4 = r at *
  have HB := Lib.hid hB
  have HP := Lib.hid hp
  have HR := Lib.hid hr
  have HX := Lib.hid e1
  clear hk hp hr hB e1 hX hz
  go_enter Try.func7, Try.ntmps7
  go_wp2_with fail
  refine (HP.out _).mono ?_; rintro e w' ⟨rfl, n, rfl⟩
  go_wp2_with fail
  refine (HR.out _).mono ?_; rintro e w' ⟨rfl, rfl⟩
  go_wp2_with fail
  refine (zx_any _ _ _).mono ?_; rintro e w' ⟨rfl, rfl⟩
  go_wp2_with fail
  refine (zx_any _ _ _).mono ?_; rintro e w' ⟨rfl, rfl⟩
  go_wp2_with fail
  rw [HX.out]
  refine (sx_any _ _ uq _).mono ?_; rintro e w' ⟨rfl, rfl⟩
  go_wp2_with fail
  refine (sx_any _ _ hd _).mono ?_; rintro e w' ⟨rfl, rfl⟩
  go_wp2_with fail
  refine (sx_any _ _ ur _).mono ?_; rintro e w' ⟨rfl, rfl⟩
  go_wp2_with fail
  refine (zx_any _ _ _).mono ?_; rintro e w' ⟨rfl, rfl⟩
  rw [HB.out]
  go_wp2_with fail
  refine (awake_any _).mono ?_; rintro e we ⟨rfl, ke⟩
  replace ke := Lib.hid ke
  go_wp2_with fail
  go_ret
  exact ⟨rfl, ((Kp.rfl W).draws n).next ke.out⟩
theorem law_quot (hi lo d : Int) (sn : Bool) (w : Int) (hh : U64 hi) (hl : U64 lo) (hd : U64 d) (W : World) : Calls Try.prog 7 #[.int .u64 hi, .int .u64 lo, .int .u64 d, .bool sn, .int .i64 w] W fun e W' => e = .returned (.bool true) ∧ Kp W W' := by
  by_cases h : isQ w = true ∧ zx d w ≠ 0
  · obtain ⟨hq, hz⟩ := h
    cases sn
    · by_cases hk : qN hi lo w / zx d w ≤ zx 18446744073709551615 w
      · rcases Cq.isQ_cases hq with rfl | rfl | rfl
        · exact law_quot_U_1 hi lo d hh hl hd hz hk W
        · exact law_quot_U_2 hi lo d hh hl hd hz hk W
        · exact law_quot_U_4 hi lo d hh hl hd hz hk W
      · exact law_quot_no hi lo d false w hh hl hd (by rw [quo_is_U hi lo d w hq hz]; unfold quoU; rw [if_neg hk]) W
    · cases hk : qOk (qq hi lo d w) (qm hi lo d w) w
      · exact law_quot_no hi lo d true w hh hl hd (by rw [quo_is_S hi lo d w hq hz]; unfold quoS; rw [if_neg (by rw [hk]; decide)]) W
      · rcases Cq.isQ_cases hq with rfl | rfl | rfl
        · exact law_quot_S_1 hi lo d hh hl hd hz hk W
        · exact law_quot_S_2 hi lo d hh hl hd hz hk W
        · exact law_quot_S_4 hi lo d hh hl hd hz hk W
  · exact law_quot_no hi lo d sn w hh hl hd (quo_bad hi lo d sn w h) W
end Go.Proofs.Ytmebkahgdpnajaa
