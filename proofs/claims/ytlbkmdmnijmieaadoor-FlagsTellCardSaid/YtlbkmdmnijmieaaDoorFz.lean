/- Walks of layer 8: quotients, of the code. -/
import Derived.Test.YtlbkmdmnijmieaaDoorFc
import Derived.Test.YtlbkmdmnijmieaaDoorFf
import Derived.Test.YtlbkmdmnijmieaaDoorBitx
import Derived.IntWalk
import Derived.Deep.DeepCutAuto
import Derived.Deep.CutBlock
namespace Go.Proofs.YtlbkmdmnijmieaaDoor
open Go Go.RowKit
open Cq (U64 I64 isW nb zx sx neg mask sg isQ qN qA qS qOk fits fitsU)

theorem w64 (x : Int) : IntKind.i64.wrap x = wrap64 x := by rw [IntKind.wrap_i64]; unfold wrap64; rfl
theorem iw (x : Int) : I64 (wrap64 x) := by rw [← w64]; exact Cq.i64_wrap x
/-- nothing -/
def Q0 : Value := .tuple #[.int .u64 0, .int .u64 0, .bool false]
/-- what a quotient comes to -/
def quoU (hi lo d w : Int) : Value :=
  if qN hi lo w / zx d w ≤ zx 18446744073709551615 w then .tuple #[.int .u64 (qN hi lo w / zx d w), .int .u64 (qN hi lo w % zx d w), .bool true] else Q0
def qq (hi lo d w : Int) : Int := qA (zx (qN hi lo w) (2 * w)) (neg (qN hi lo w) (2 * w)) (nb (2 * w)) / qA (zx d w) (neg d w) (nb w)
def qm (hi lo d w : Int) : Bool := neg (qN hi lo w) (2 * w) != neg d w
def quoS (hi lo d w : Int) : Value :=
  if qOk (qq hi lo d w) (qm hi lo d w) w = true then .tuple #[.int .u64 (zx ((sg (qN hi lo w) (2 * w)).tdiv (sg d w)) w), .int .u64 (zx ((sg (qN hi lo w) (2 * w)).tmod (sg d w)) w), .bool true] else Q0
def quo (hi lo d : Int) (s : Bool) (w : Int) : Value :=
  if isQ w = true ∧ zx d w ≠ 0 then (if s then quoS hi lo d w else quoU hi lo d w) else Q0
theorem quo_bad (hi lo d : Int) (s : Bool) (w : Int) (h : ¬ (isQ w = true ∧ zx d w ≠ 0)) : quo hi lo d s w = Q0 := by unfold quo; rw [if_neg h]

theorem quoU_1_yes (hi lo d : Int) (hz : zx d 1 ≠ 0) (hk : qN hi lo 1 / zx d 1 ≤ zx 18446744073709551615 1) (W : World) : Calls Tryd.prog 23 #[.int .u64 hi, .int .u64 lo, .int .u64 d, .bool false, .int .i64 1] W fun e W' => e = .returned (quoU hi lo d 1) ∧ Drawn W W' := by
  have hb := Cq.qN_bd hi lo (w := 1) (by decide)
  have e1 := Cq.qN_or hi lo (w := 1) (by decide)
  rw [show (2 : Int) ^ nb 1 = 256 from rfl] at e1
  unfold quoU
  rw [if_pos hk]
  have zl := Cq.zx_lt d 1
  obtain ⟨X, hX⟩ : ∃ X, X = qN hi lo 1 := ⟨_, rfl⟩
  obtain ⟨D, hD⟩ : ∃ D, D = zx d 1 := ⟨_, rfl⟩
  rw [← hX] at hb e1 hk ⊢
  rw [← hD] at hz zl hk ⊢
  have hf : fitsU (X / D) 8 = _ := Cq.fitsU_is (w := 1) (X / D) (by decide) (Int.ediv_nonneg hb.1 zl.1)
  rw [decide_eq_true hk] at hf
  have HX := Lib.hid e1
  have HD := Lib.hid hD.symm
  have HF := Lib.hid hf
  have x0 := hb.1
  have ux := hb.2.2
  have d0 : 0 < D := by omega
  have hz1 : (D == 0) = false := by simpa using hz
  have uq : U64 (X / D) := ⟨Int.ediv_nonneg x0 (by omega), Int.lt_of_le_of_lt (Int.ediv_le_self _ x0) ux.2⟩
  have HQ : Hid (IntKind.u64.wrap (X.tdiv D) = X / D) := Lib.hid (by rw [Int.tdiv_eq_ediv_of_nonneg x0]; exact Cq.wrap_of_u64 uq)
  clear hb e1 hX hD zl hz hf hk
  go_enter Tryd.func23, Tryd.ntmps23
  go_wp2_with fail
  refine (is_any _ _).mono ?_; rintro e w' ⟨rfl, rfl⟩
  rw [show isW 1 = true from rfl]
  go_wp2_with fail
  refine (zx_any _ _ _).mono ?_; rintro e w' ⟨rfl, rfl⟩
  rw [HD.out]
  go_wp2_with fail
  go_quiet ((go_at_call 27; exact quiet_left (zx_any _ _ _)))
  rw [HX.out]
  go_wp2_with fail
  refine (zx_any _ _ _).mono ?_; rintro e w' ⟨rfl, rfl⟩
  rw [HD.out]
  go_wp2_with fail
  rw [HQ.out]
  refine (fitsU_any _ _ uq (by unfold I64; omega) _).mono ?_; rintro e w' ⟨rfl, rfl⟩
  rw [HF.out]
  go_wp2_with fail
  go_region
  all_goals
    go_wp2_with fail
    go_ret3
    exact ⟨by rw [HQ.out]; rfl, by first | exact ⟨_, rfl⟩ | exact ⟨nq + 1, rfl⟩⟩
theorem quoU_1_no (hi lo d : Int) (hz : zx d 1 ≠ 0) (hk : ¬ qN hi lo 1 / zx d 1 ≤ zx 18446744073709551615 1) (W : World) : Calls Tryd.prog 23 #[.int .u64 hi, .int .u64 lo, .int .u64 d, .bool false, .int .i64 1] W fun e W' => e = .returned (quoU hi lo d 1) ∧ Drawn W W' := by
  have hb := Cq.qN_bd hi lo (w := 1) (by decide)
  have e1 := Cq.qN_or hi lo (w := 1) (by decide)
  rw [show (2 : Int) ^ nb 1 = 256 from rfl] at e1
  unfold quoU
  rw [if_neg hk]
  have zl := Cq.zx_lt d 1
  obtain ⟨X, hX⟩ : ∃ X, X = qN hi lo 1 := ⟨_, rfl⟩
  obtain ⟨D, hD⟩ : ∃ D, D = zx d 1 := ⟨_, rfl⟩
  rw [← hX] at hb e1 hk 
  rw [← hD] at hz zl hk 
  have hf : fitsU (X / D) 8 = _ := Cq.fitsU_is (w := 1) (X / D) (by decide) (Int.ediv_nonneg hb.1 zl.1)
  rw [decide_eq_false hk] at hf
  have HX := Lib.hid e1
  have HD := Lib.hid hD.symm
  have HF := Lib.hid hf
  have x0 := hb.1
  have ux := hb.2.2
  have d0 : 0 < D := by omega
  have hz1 : (D == 0) = false := by simpa using hz
  have uq : U64 (X / D) := ⟨Int.ediv_nonneg x0 (by omega), Int.lt_of_le_of_lt (Int.ediv_le_self _ x0) ux.2⟩
  have HQ : Hid (IntKind.u64.wrap (X.tdiv D) = X / D) := Lib.hid (by rw [Int.tdiv_eq_ediv_of_nonneg x0]; exact Cq.wrap_of_u64 uq)
  clear hb e1 hX hD zl hz hf hk
  go_enter Tryd.func23, Tryd.ntmps23
  go_wp2_with fail
  refine (is_any _ _).mono ?_; rintro e w' ⟨rfl, rfl⟩
  rw [show isW 1 = true from rfl]
  go_wp2_with fail
  refine (zx_any _ _ _).mono ?_; rintro e w' ⟨rfl, rfl⟩
  rw [HD.out]
  go_wp2_with fail
  go_quiet ((go_at_call 27; exact quiet_left (zx_any _ _ _)))
  rw [HX.out]
  go_wp2_with fail
  refine (zx_any _ _ _).mono ?_; rintro e w' ⟨rfl, rfl⟩
  rw [HD.out]
  go_wp2_with fail
  rw [HQ.out]
  refine (fitsU_any _ _ uq (by unfold I64; omega) _).mono ?_; rintro e w' ⟨rfl, rfl⟩
  rw [HF.out]
  go_wp2_with fail
  go_ret3
  exact ⟨rfl, ⟨_, rfl⟩⟩
theorem quoS_1_yes (hi lo d : Int) (hd : U64 d) (hz : zx d 1 ≠ 0) (hk : qOk (qq hi lo d 1) (qm hi lo d 1) 1 = true) (W : World) : Calls Tryd.prog 23 #[.int .u64 hi, .int .u64 lo, .int .u64 d, .bool true, .int .i64 1] W fun e W' => e = .returned (quoS hi lo d 1) ∧ Drawn W W' := by
  have hb := Cq.qN_bd hi lo (w := 1) (by decide)
  have e1 := Cq.qN_or hi lo (w := 1) (by decide)
  rw [show (2 : Int) ^ nb 1 = 256 from rfl] at e1
  unfold quoS
  rw [if_pos hk]
  unfold qq qm at hk
  have zl := Cq.zx_lt d 1
  obtain ⟨X, hX⟩ : ∃ X, X = qN hi lo 1 := ⟨_, rfl⟩
  rw [← hX] at hb e1 hk ⊢
  have HX := Lib.hid e1
  have x0 := hb.1
  have ux := hb.2.2
  rw [show (2 * 1 : Int) = 2 from rfl] at hk ⊢
  have e2 : wrap64 (sx X 2) = sg X 2 := by have e := Cq.i64_sx (w := 2) X (by decide); rw [IntKind.wrap_i64] at e; unfold wrap64; exact e
  have e3 : wrap64 (sx d 1) = sg d 1 := by have e := Cq.i64_sx (w := 1) d (by decide); rw [IntKind.wrap_i64] at e; unfold wrap64; exact e
  have hA := Cq.qA_bd (w := 2) X (by decide)
  have hE := Cq.qA_bd (w := 1) d (by decide)
  have q0 := Int.ediv_nonneg hA.1 hE.1
  have q1 : qA (zx X 2) (neg X 2) (nb 2) / qA (zx d 1) (neg d 1) (nb 1) ≤ 9223372036854775808 :=
    Int.le_trans (Int.ediv_le_self _ hA.1) (Int.le_trans hA.2.1 (by decide))
  have t1 := Cq.tdiv_sign (qA (zx X 2) (neg X 2) (nb 2)) (qA (zx d 1) (neg d 1) (nb 1)) (neg X 2) (neg d 1) hA.1
  rw [← Cq.sg_size, ← Cq.sg_size] at t1
  have hf : fits (IntKind.i64.wrap ((sg X 2).tdiv (sg d 1))) 8 = _ := (congrArg (fun z => fits (IntKind.i64.wrap z) 8) t1).trans (Cq.fits_is (w := 1) _ _ (by decide) ⟨q0, q1⟩)
  rw [hk] at hf
  have dn : sg d 1 ≠ 0 := by
    intro g
    have e := Cq.zx_sg d 1
    rw [g] at e
    exact hz (by rw [← e]; rfl)
  have HZ := Lib.hid (show zx d 1 = zx d 1 from rfl)
  have hz1 : (zx d 1 == 0) = false := by simpa using hz
  clear hA hE q0 q1 t1 hk hX hb e1 zl hz
  obtain ⟨S, hS⟩ : ∃ S, S = sg X 2 := ⟨_, rfl⟩
  obtain ⟨D, hD⟩ : ∃ D, D = sg d 1 := ⟨_, rfl⟩
  have iS : I64 S := by rw [hS]; exact Cq.sg_i64 _ _
  have iD : I64 D := by rw [hD]; exact Cq.sg_i64 _ _
  rw [← hS] at e2 hf ⊢
  rw [← hD] at e3 hf dn ⊢
  have hz2 : (D == 0) = false := by simpa using dn
  have E2 := Lib.hid e2
  have E3 := Lib.hid e3
  rw [w64] at hf
  have HF := Lib.hid hf
  have HZ1 : Hid (zx (IntKind.u64.wrap (wrap64 (S.tdiv D))) 1 = zx (S.tdiv D) 1) := Lib.hid (by rw [← w64]; exact Cq.zx_i64 (S.tdiv D) 1)
  have HZ2 := Lib.hid (Cq.zx_wrap (S.tmod D) 1)
  clear e2 e3 hf hS hD HZ
  go_enter Tryd.func23, Tryd.ntmps23
  go_wp2_with fail
  refine (is_any _ _).mono ?_; rintro e w' ⟨rfl, rfl⟩
  rw [show isW 1 = true from rfl]
  go_wp2_with fail
  refine (zx_any _ _ _).mono ?_; rintro e w' ⟨rfl, rfl⟩
  go_wp2_with fail
  go_quiet ((go_at_call 27; exact quiet_left (zx_any _ _ _)))
  rw [HX.out]
  go_wp2_with fail
  refine (sx_any _ _ ux _).mono ?_; rintro e w' ⟨rfl, rfl⟩
  go_wp2_with fail
  refine (sx_any _ _ hd _).mono ?_; rintro e w' ⟨rfl, rfl⟩
  rw [E2.out]
  go_upto_region 10 with fail
  rw [E3.out]
  go_wp2_with fail
  refine (fits_any _ _ (iw _) (by unfold I64; omega) _).mono ?_; rintro e w' ⟨rfl, rfl⟩
  rw [HF.out]
  go_wp2_with fail
  have HW : Hid (Drawn W (W.drewN nq)) := Lib.hid ⟨_, rfl⟩
  generalize W.drewN nq = W2 at *
  go_quiet ((go_at_call 27; exact quiet_left (zx_any _ _ _)))
  go_wp2_with fail
  go_ret3
  exact ⟨by rw [HZ1.out, HZ2.out]; rfl, HW.out.drewN _⟩
theorem quoS_1_no (hi lo d : Int) (hd : U64 d) (hz : zx d 1 ≠ 0) (hk : qOk (qq hi lo d 1) (qm hi lo d 1) 1 = false) (W : World) : Calls Tryd.prog 23 #[.int .u64 hi, .int .u64 lo, .int .u64 d, .bool true, .int .i64 1] W fun e W' => e = .returned (quoS hi lo d 1) ∧ Drawn W W' := by
  have hb := Cq.qN_bd hi lo (w := 1) (by decide)
  have e1 := Cq.qN_or hi lo (w := 1) (by decide)
  rw [show (2 : Int) ^ nb 1 = 256 from rfl] at e1
  unfold quoS
  rw [if_neg (by rw [hk]; decide)]
  unfold qq qm at hk
  have zl := Cq.zx_lt d 1
  obtain ⟨X, hX⟩ : ∃ X, X = qN hi lo 1 := ⟨_, rfl⟩
  rw [← hX] at hb e1 hk 
  have HX := Lib.hid e1
  have x0 := hb.1
  have ux := hb.2.2
  rw [show (2 * 1 : Int) = 2 from rfl] at hk 
  have e2 : wrap64 (sx X 2) = sg X 2 := by have e := Cq.i64_sx (w := 2) X (by decide); rw [IntKind.wrap_i64] at e; unfold wrap64; exact e
  have e3 : wrap64 (sx d 1) = sg d 1 := by have e := Cq.i64_sx (w := 1) d (by decide); rw [IntKind.wrap_i64] at e; unfold wrap64; exact e
  have hA := Cq.qA_bd (w := 2) X (by decide)
  have hE := Cq.qA_bd (w := 1) d (by decide)
  have q0 := Int.ediv_nonneg hA.1 hE.1
  have q1 : qA (zx X 2) (neg X 2) (nb 2) / qA (zx d 1) (neg d 1) (nb 1) ≤ 9223372036854775808 :=
    Int.le_trans (Int.ediv_le_self _ hA.1) (Int.le_trans hA.2.1 (by decide))
  have t1 := Cq.tdiv_sign (qA (zx X 2) (neg X 2) (nb 2)) (qA (zx d 1) (neg d 1) (nb 1)) (neg X 2) (neg d 1) hA.1
  rw [← Cq.sg_size, ← Cq.sg_size] at t1
  have hf : fits (IntKind.i64.wrap ((sg X 2).tdiv (sg d 1))) 8 = _ := (congrArg (fun z => fits (IntKind.i64.wrap z) 8) t1).trans (Cq.fits_is (w := 1) _ _ (by decide) ⟨q0, q1⟩)
  rw [hk] at hf
  have dn : sg d 1 ≠ 0 := by
    intro g
    have e := Cq.zx_sg d 1
    rw [g] at e
    exact hz (by rw [← e]; rfl)
  have HZ := Lib.hid (show zx d 1 = zx d 1 from rfl)
  have hz1 : (zx d 1 == 0) = false := by simpa using hz
  clear hA hE q0 q1 t1 hk hX hb e1 zl hz
  obtain ⟨S, hS⟩ : ∃ S, S = sg X 2 := ⟨_, rfl⟩
  obtain ⟨D, hD⟩ : ∃ D, D = sg d 1 := ⟨_, rfl⟩
  have iS : I64 S := by rw [hS]; exact Cq.sg_i64 _ _
  have iD : I64 D := by rw [hD]; exact Cq.sg_i64 _ _
  rw [← hS] at e2 hf 
  rw [← hD] at e3 hf dn 
  have hz2 : (D == 0) = false := by simpa using dn
  have E2 := Lib.hid e2
  have E3 := Lib.hid e3
  rw [w64] at hf
  have HF := Lib.hid hf
  clear e2 e3 hf hS hD HZ
  go_enter Tryd.func23, Tryd.ntmps23
  go_wp2_with fail
  refine (is_any _ _).mono ?_; rintro e w' ⟨rfl, rfl⟩
  rw [show isW 1 = true from rfl]
  go_wp2_with fail
  refine (zx_any _ _ _).mono ?_; rintro e w' ⟨rfl, rfl⟩
  go_wp2_with fail
  go_quiet ((go_at_call 27; exact quiet_left (zx_any _ _ _)))
  rw [HX.out]
  go_wp2_with fail
  refine (sx_any _ _ ux _).mono ?_; rintro e w' ⟨rfl, rfl⟩
  go_wp2_with fail
  refine (sx_any _ _ hd _).mono ?_; rintro e w' ⟨rfl, rfl⟩
  rw [E2.out]
  go_upto_region 10 with fail
  rw [E3.out]
  go_wp2_with fail
  refine (fits_any _ _ (iw _) (by unfold I64; omega) _).mono ?_; rintro e w' ⟨rfl, rfl⟩
  rw [HF.out]
  go_wp2_with fail
  go_ret3
  exact ⟨rfl, ⟨_, rfl⟩⟩
theorem quoU_2_yes (hi lo d : Int) (hz : zx d 2 ≠ 0) (hk : qN hi lo 2 / zx d 2 ≤ zx 18446744073709551615 2) (W : World) : Calls Tryd.prog 23 #[.int .u64 hi, .int .u64 lo, .int .u64 d, .bool false, .int .i64 2] W fun e W' => e = .returned (quoU hi lo d 2) ∧ Drawn W W' := by
  have hb := Cq.qN_bd hi lo (w := 2) (by decide)
  have e1 := Cq.qN_or hi lo (w := 2) (by decide)
  rw [show (2 : Int) ^ nb 2 = 65536 from rfl] at e1
  unfold quoU
  rw [if_pos hk]
  have zl := Cq.zx_lt d 2
  obtain ⟨X, hX⟩ : ∃ X, X = qN hi lo 2 := ⟨_, rfl⟩
  obtain ⟨D, hD⟩ : ∃ D, D = zx d 2 := ⟨_, rfl⟩
  rw [← hX] at hb e1 hk ⊢
  rw [← hD] at hz zl hk ⊢
  have hf : fitsU (X / D) 16 = _ := Cq.fitsU_is (w := 2) (X / D) (by decide) (Int.ediv_nonneg hb.1 zl.1)
  rw [decide_eq_true hk] at hf
  have HX := Lib.hid e1
  have HD := Lib.hid hD.symm
  have HF := Lib.hid hf
  have x0 := hb.1
  have ux := hb.2.2
  have d0 : 0 < D := by omega
  have hz1 : (D == 0) = false := by simpa using hz
  have uq : U64 (X / D) := ⟨Int.ediv_nonneg x0 (by omega), Int.lt_of_le_of_lt (Int.ediv_le_self _ x0) ux.2⟩
  have HQ : Hid (IntKind.u64.wrap (X.tdiv D) = X / D) := Lib.hid (by rw [Int.tdiv_eq_ediv_of_nonneg x0]; exact Cq.wrap_of_u64 uq)
  clear hb e1 hX hD zl hz hf hk
  go_enter Tryd.func23, Tryd.ntmps23
  go_wp2_with fail
  refine (is_any _ _).mono ?_; rintro e w' ⟨rfl, rfl⟩
  rw [show isW 2 = true from rfl]
  go_wp2_with fail
  refine (zx_any _ _ _).mono ?_; rintro e w' ⟨rfl, rfl⟩
  rw [HD.out]
  go_wp2_with fail
  go_quiet ((go_at_call 27; exact quiet_left (zx_any _ _ _)))
  rw [HX.out]
  go_wp2_with fail
  refine (zx_any _ _ _).mono ?_; rintro e w' ⟨rfl, rfl⟩
  rw [HD.out]
  go_wp2_with fail
  rw [HQ.out]
  refine (fitsU_any _ _ uq (by unfold I64; omega) _).mono ?_; rintro e w' ⟨rfl, rfl⟩
  rw [HF.out]
  go_wp2_with fail
  go_region
  all_goals
    go_wp2_with fail
    go_ret3
    exact ⟨by rw [HQ.out]; rfl, by first | exact ⟨_, rfl⟩ | exact ⟨nq + 1, rfl⟩⟩
theorem quoU_2_no (hi lo d : Int) (hz : zx d 2 ≠ 0) (hk : ¬ qN hi lo 2 / zx d 2 ≤ zx 18446744073709551615 2) (W : World) : Calls Tryd.prog 23 #[.int .u64 hi, .int .u64 lo, .int .u64 d, .bool false, .int .i64 2] W fun e W' => e = .returned (quoU hi lo d 2) ∧ Drawn W W' := by
  have hb := Cq.qN_bd hi lo (w := 2) (by decide)
  have e1 := Cq.qN_or hi lo (w := 2) (by decide)
  rw [show (2 : Int) ^ nb 2 = 65536 from rfl] at e1
  unfold quoU
  rw [if_neg hk]
  have zl := Cq.zx_lt d 2
  obtain ⟨X, hX⟩ : ∃ X, X = qN hi lo 2 := ⟨_, rfl⟩
  obtain ⟨D, hD⟩ : ∃ D, D = zx d 2 := ⟨_, rfl⟩
  rw [← hX] at hb e1 hk 
  rw [← hD] at hz zl hk 
  have hf : fitsU (X / D) 16 = _ := Cq.fitsU_is (w := 2) (X / D) (by decide) (Int.ediv_nonneg hb.1 zl.1)
  rw [decide_eq_false hk] at hf
  have HX := Lib.hid e1
  have HD := Lib.hid hD.symm
  have HF := Lib.hid hf
  have x0 := hb.1
  have ux := hb.2.2
  have d0 : 0 < D := by omega
  have hz1 : (D == 0) = false := by simpa using hz
  have uq : U64 (X / D) := ⟨Int.ediv_nonneg x0 (by omega), Int.lt_of_le_of_lt (Int.ediv_le_self _ x0) ux.2⟩
  have HQ : Hid (IntKind.u64.wrap (X.tdiv D) = X / D) := Lib.hid (by rw [Int.tdiv_eq_ediv_of_nonneg x0]; exact Cq.wrap_of_u64 uq)
  clear hb e1 hX hD zl hz hf hk
  go_enter Tryd.func23, Tryd.ntmps23
  go_wp2_with fail
  refine (is_any _ _).mono ?_; rintro e w' ⟨rfl, rfl⟩
  rw [show isW 2 = true from rfl]
  go_wp2_with fail
  refine (zx_any _ _ _).mono ?_; rintro e w' ⟨rfl, rfl⟩
  rw [HD.out]
  go_wp2_with fail
  go_quiet ((go_at_call 27; exact quiet_left (zx_any _ _ _)))
  rw [HX.out]
  go_wp2_with fail
  refine (zx_any _ _ _).mono ?_; rintro e w' ⟨rfl, rfl⟩
  rw [HD.out]
  go_wp2_with fail
  rw [HQ.out]
  refine (fitsU_any _ _ uq (by unfold I64; omega) _).mono ?_; rintro e w' ⟨rfl, rfl⟩
  rw [HF.out]
  go_wp2_with fail
  go_ret3
  exact ⟨rfl, ⟨_, rfl⟩⟩
theorem quoS_2_yes (hi lo d : Int) (hd : U64 d) (hz : zx d 2 ≠ 0) (hk : qOk (qq hi lo d 2) (qm hi lo d 2) 2 = true) (W : World) : Calls Tryd.prog 23 #[.int .u64 hi, .int .u64 lo, .int .u64 d, .bool true, .int .i64 2] W fun e W' => e = .returned (quoS hi lo d 2) ∧ Drawn W W' := by
  have hb := Cq.qN_bd hi lo (w := 2) (by decide)
  have e1 := Cq.qN_or hi lo (w := 2) (by decide)
  rw [show (2 : Int) ^ nb 2 = 65536 from rfl] at e1
  unfold quoS
  rw [if_pos hk]
  unfold qq qm at hk
  have zl := Cq.zx_lt d 2
  obtain ⟨X, hX⟩ : ∃ X, X = qN hi lo 2 := ⟨_, rfl⟩
  rw [← hX] at hb e1 hk ⊢
  have HX := Lib.hid e1
  have x0 := hb.1
  have ux := hb.2.2
  rw [show (2 * 2 : Int) = 4 from rfl] at hk ⊢
  have e2 : wrap64 (sx X 4) = sg X 4 := by have e := Cq.i64_sx (w := 4) X (by decide); rw [IntKind.wrap_i64] at e; unfold wrap64; exact e
  have e3 : wrap64 (sx d 2) = sg d 2 := by have e := Cq.i64_sx (w := 2) d (by decide); rw [IntKind.wrap_i64] at e; unfold wrap64; exact e
  have hA := Cq.qA_bd (w := 4) X (by decide)
  have hE := Cq.qA_bd (w := 2) d (by decide)
  have q0 := Int.ediv_nonneg hA.1 hE.1
  have q1 : qA (zx X 4) (neg X 4) (nb 4) / qA (zx d 2) (neg d 2) (nb 2) ≤ 9223372036854775808 :=
    Int.le_trans (Int.ediv_le_self _ hA.1) (Int.le_trans hA.2.1 (by decide))
  have t1 := Cq.tdiv_sign (qA (zx X 4) (neg X 4) (nb 4)) (qA (zx d 2) (neg d 2) (nb 2)) (neg X 4) (neg d 2) hA.1
  rw [← Cq.sg_size, ← Cq.sg_size] at t1
  have hf : fits (IntKind.i64.wrap ((sg X 4).tdiv (sg d 2))) 16 = _ := (congrArg (fun z => fits (IntKind.i64.wrap z) 16) t1).trans (Cq.fits_is (w := 2) _ _ (by decide) ⟨q0, q1⟩)
  rw [hk] at hf
  have dn : sg d 2 ≠ 0 := by
    intro g
    have e := Cq.zx_sg d 2
    rw [g] at e
    exact hz (by rw [← e]; rfl)
  have HZ := Lib.hid (show zx d 2 = zx d 2 from rfl)
  have hz1 : (zx d 2 == 0) = false := by simpa using hz
  clear hA hE q0 q1 t1 hk hX hb e1 zl hz
  obtain ⟨S, hS⟩ : ∃ S, S = sg X 4 := ⟨_, rfl⟩
  obtain ⟨D, hD⟩ : ∃ D, D = sg d 2 := ⟨_, rfl⟩
  have iS : I64 S := by rw [hS]; exact Cq.sg_i64 _ _
  have iD : I64 D := by rw [hD]; exact Cq.sg_i64 _ _
  rw [← hS] at e2 hf ⊢
  rw [← hD] at e3 hf dn ⊢
  have hz2 : (D == 0) = false := by simpa using dn
  have E2 := Lib.hid e2
  have E3 := Lib.hid e3
  rw [w64] at hf
  have HF := Lib.hid hf
  have HZ1 : Hid (zx (IntKind.u64.wrap (wrap64 (S.tdiv D))) 2 = zx (S.tdiv D) 2) := Lib.hid (by rw [← w64]; exact Cq.zx_i64 (S.tdiv D) 2)
  have HZ2 := Lib.hid (Cq.zx_wrap (S.tmod D) 2)
  clear e2 e3 hf hS hD HZ
  go_enter Tryd.func23, Tryd.ntmps23
  go_wp2_with fail
  refine (is_any _ _).mono ?_; rintro e w' ⟨rfl, rfl⟩
  rw [show isW 2 = true from rfl]
  go_wp2_with fail
  refine (zx_any _ _ _).mono ?_; rintro e w' ⟨rfl, rfl⟩
  go_wp2_with fail
  go_quiet ((go_at_call 27; exact quiet_left (zx_any _ _ _)))
  rw [HX.out]
  go_wp2_with fail
  refine (sx_any _ _ ux _).mono ?_; rintro e w' ⟨rfl, rfl⟩
  go_wp2_with fail
  refine (sx_any _ _ hd _).mono ?_; rintro e w' ⟨rfl, rfl⟩
  rw [E2.out]
  go_upto_region 10 with fail
  rw [E3.out]
  go_wp2_with fail
  refine (fits_any _ _ (iw _) (by unfold I64; omega) _).mono ?_; rintro e w' ⟨rfl, rfl⟩
  rw [HF.out]
  go_wp2_with fail
  have HW : Hid (Drawn W (W.drewN nq)) := Lib.hid ⟨_, rfl⟩
  generalize W.drewN nq = W2 at *
  go_quiet ((go_at_call 27; exact quiet_left (zx_any _ _ _)))
  go_wp2_with fail
  go_ret3
  exact ⟨by rw [HZ1.out, HZ2.out]; rfl, HW.out.drewN _⟩
theorem quoS_2_no (hi lo d : Int) (hd : U64 d) (hz : zx d 2 ≠ 0) (hk : qOk (qq hi lo d 2) (qm hi lo d 2) 2 = false) (W : World) : Calls Tryd.prog 23 #[.int .u64 hi, .int .u64 lo, .int .u64 d, .bool true, .int .i64 2] W fun e W' => e = .returned (quoS hi lo d 2) ∧ Drawn W W' := by
  have hb := Cq.qN_bd hi lo (w := 2) (by decide)
  have e1 := Cq.qN_or hi lo (w := 2) (by decide)
  rw [show (2 : Int) ^ nb 2 = 65536 from rfl] at e1
  unfold quoS
  rw [if_neg (by rw [hk]; decide)]
  unfold qq qm at hk
  have zl := Cq.zx_lt d 2
  obtain ⟨X, hX⟩ : ∃ X, X = qN hi lo 2 := ⟨_, rfl⟩
  rw [← hX] at hb e1 hk 
  have HX := Lib.hid e1
  have x0 := hb.1
  have ux := hb.2.2
  rw [show (2 * 2 : Int) = 4 from rfl] at hk 
  have e2 : wrap64 (sx X 4) = sg X 4 := by have e := Cq.i64_sx (w := 4) X (by decide); rw [IntKind.wrap_i64] at e; unfold wrap64; exact e
  have e3 : wrap64 (sx d 2) = sg d 2 := by have e := Cq.i64_sx (w := 2) d (by decide); rw [IntKind.wrap_i64] at e; unfold wrap64; exact e
  have hA := Cq.qA_bd (w := 4) X (by decide)
  have hE := Cq.qA_bd (w := 2) d (by decide)
  have q0 := Int.ediv_nonneg hA.1 hE.1
  have q1 : qA (zx X 4) (neg X 4) (nb 4) / qA (zx d 2) (neg d 2) (nb 2) ≤ 9223372036854775808 :=
    Int.le_trans (Int.ediv_le_self _ hA.1) (Int.le_trans hA.2.1 (by decide))
  have t1 := Cq.tdiv_sign (qA (zx X 4) (neg X 4) (nb 4)) (qA (zx d 2) (neg d 2) (nb 2)) (neg X 4) (neg d 2) hA.1
  rw [← Cq.sg_size, ← Cq.sg_size] at t1
  have hf : fits (IntKind.i64.wrap ((sg X 4).tdiv (sg d 2))) 16 = _ := (congrArg (fun z => fits (IntKind.i64.wrap z) 16) t1).trans (Cq.fits_is (w := 2) _ _ (by decide) ⟨q0, q1⟩)
  rw [hk] at hf
  have dn : sg d 2 ≠ 0 := by
    intro g
    have e := Cq.zx_sg d 2
    rw [g] at e
    exact hz (by rw [← e]; rfl)
  have HZ := Lib.hid (show zx d 2 = zx d 2 from rfl)
  have hz1 : (zx d 2 == 0) = false := by simpa using hz
  clear hA hE q0 q1 t1 hk hX hb e1 zl hz
  obtain ⟨S, hS⟩ : ∃ S, S = sg X 4 := ⟨_, rfl⟩
  obtain ⟨D, hD⟩ : ∃ D, D = sg d 2 := ⟨_, rfl⟩
  have iS : I64 S := by rw [hS]; exact Cq.sg_i64 _ _
  have iD : I64 D := by rw [hD]; exact Cq.sg_i64 _ _
  rw [← hS] at e2 hf 
  rw [← hD] at e3 hf dn 
  have hz2 : (D == 0) = false := by simpa using dn
  have E2 := Lib.hid e2
  have E3 := Lib.hid e3
  rw [w64] at hf
  have HF := Lib.hid hf
  clear e2 e3 hf hS hD HZ
  go_enter Tryd.func23, Tryd.ntmps23
  go_wp2_with fail
  refine (is_any _ _).mono ?_; rintro e w' ⟨rfl, rfl⟩
  rw [show isW 2 = true from rfl]
  go_wp2_with fail
  refine (zx_any _ _ _).mono ?_; rintro e w' ⟨rfl, rfl⟩
  go_wp2_with fail
  go_quiet ((go_at_call 27; exact quiet_left (zx_any _ _ _)))
  rw [HX.out]
  go_wp2_with fail
  refine (sx_any _ _ ux _).mono ?_; rintro e w' ⟨rfl, rfl⟩
  go_wp2_with fail
  refine (sx_any _ _ hd _).mono ?_; rintro e w' ⟨rfl, rfl⟩
  rw [E2.out]
  go_upto_region 10 with fail
  rw [E3.out]
  go_wp2_with fail
  refine (fits_any _ _ (iw _) (by unfold I64; omega) _).mono ?_; rintro e w' ⟨rfl, rfl⟩
  rw [HF.out]
  go_wp2_with fail
  go_ret3
  exact ⟨rfl, ⟨_, rfl⟩⟩
theorem quoU_4_yes (hi lo d : Int) (hz : zx d 4 ≠ 0) (hk : qN hi lo 4 / zx d 4 ≤ zx 18446744073709551615 4) (W : World) : Calls Tryd.prog 23 #[.int .u64 hi, .int .u64 lo, .int .u64 d, .bool false, .int .i64 4] W fun e W' => e = .returned (quoU hi lo d 4) ∧ Drawn W W' := by
  have hb := Cq.qN_bd hi lo (w := 4) (by decide)
  have e1 := Cq.qN_or hi lo (w := 4) (by decide)
  rw [show (2 : Int) ^ nb 4 = 4294967296 from rfl] at e1
  unfold quoU
  rw [if_pos hk]
  have zl := Cq.zx_lt d 4
  obtain ⟨X, hX⟩ : ∃ X, X = qN hi lo 4 := ⟨_, rfl⟩
  obtain ⟨D, hD⟩ : ∃ D, D = zx d 4 := ⟨_, rfl⟩
  rw [← hX] at hb e1 hk ⊢
  rw [← hD] at hz zl hk ⊢
  have hf : fitsU (X / D) 32 = _ := Cq.fitsU_is (w := 4) (X / D) (by decide) (Int.ediv_nonneg hb.1 zl.1)
  rw [decide_eq_true hk] at hf
  have HX := Lib.hid e1
  have HD := Lib.hid hD.symm
  have HF := Lib.hid hf
  have x0 := hb.1
  have ux := hb.2.2
  have d0 : 0 < D := by omega
  have hz1 : (D == 0) = false := by simpa using hz
  have uq : U64 (X / D) := ⟨Int.ediv_nonneg x0 (by omega), Int.lt_of_le_of_lt (Int.ediv_le_self _ x0) ux.2⟩
  have HQ : Hid (IntKind.u64.wrap (X.tdiv D) = X / D) := Lib.hid (by rw [Int.tdiv_eq_ediv_of_nonneg x0]; exact Cq.wrap_of_u64 uq)
  clear hb e1 hX hD zl hz hf hk
  go_enter Tryd.func23, Tryd.ntmps23
  go_wp2_with fail
  refine (is_any _ _).mono ?_; rintro e w' ⟨rfl, rfl⟩
  rw [show isW 4 = true from rfl]
  go_wp2_with fail
  refine (zx_any _ _ _).mono ?_; rintro e w' ⟨rfl, rfl⟩
  rw [HD.out]
  go_wp2_with fail
  go_quiet ((go_at_call 27; exact quiet_left (zx_any _ _ _)))
  rw [HX.out]
  go_wp2_with fail
  refine (zx_any _ _ _).mono ?_; rintro e w' ⟨rfl, rfl⟩
  rw [HD.out]
  go_wp2_with fail
  rw [HQ.out]
  refine (fitsU_any _ _ uq (by unfold I64; omega) _).mono ?_; rintro e w' ⟨rfl, rfl⟩
  rw [HF.out]
  go_wp2_with fail
  go_region
  all_goals
    go_wp2_with fail
    go_ret3
    exact ⟨by rw [HQ.out]; rfl, by first | exact ⟨_, rfl⟩ | exact ⟨nq + 1, rfl⟩⟩
theorem quoU_4_no (hi lo d : Int) (hz : zx d 4 ≠ 0) (hk : ¬ qN hi lo 4 / zx d 4 ≤ zx 18446744073709551615 4) (W : World) : Calls Tryd.prog 23 #[.int .u64 hi, .int .u64 lo, .int .u64 d, .bool false, .int .i64 4] W fun e W' => e = .returned (quoU hi lo d 4) ∧ Drawn W W' := by
  have hb := Cq.qN_bd hi lo (w := 4) (by decide)
  have e1 := Cq.qN_or hi lo (w := 4) (by decide)
  rw [show (2 : Int) ^ nb 4 = 4294967296 from rfl] at e1
  unfold quoU
  rw [if_neg hk]
  have zl := Cq.zx_lt d 4
  obtain ⟨X, hX⟩ : ∃ X, X = qN hi lo 4 := ⟨_, rfl⟩
  obtain ⟨D, hD⟩ : ∃ D, D = zx d 4 := ⟨_, rfl⟩
  rw [← hX] at hb e1 hk 
  rw [← hD] at hz zl hk 
  have hf : fitsU (X / D) 32 = _ := Cq.fitsU_is (w := 4) (X / D) (by decide) (Int.ediv_nonneg hb.1 zl.1)
  rw [decide_eq_false hk] at hf
  have HX := Lib.hid e1
  have HD := Lib.hid hD.symm
  have HF := Lib.hid hf
  have x0 := hb.1
  have ux := hb.2.2
  have d0 : 0 < D := by omega
  have hz1 : (D == 0) = false := by simpa using hz
  have uq : U64 (X / D) := ⟨Int.ediv_nonneg x0 (by omega), Int.lt_of_le_of_lt (Int.ediv_le_self _ x0) ux.2⟩
  have HQ : Hid (IntKind.u64.wrap (X.tdiv D) = X / D) := Lib.hid (by rw [Int.tdiv_eq_ediv_of_nonneg x0]; exact Cq.wrap_of_u64 uq)
  clear hb e1 hX hD zl hz hf hk
  go_enter Tryd.func23, Tryd.ntmps23
  go_wp2_with fail
  refine (is_any _ _).mono ?_; rintro e w' ⟨rfl, rfl⟩
  rw [show isW 4 = true from rfl]
  go_wp2_with fail
  refine (zx_any _ _ _).mono ?_; rintro e w' ⟨rfl, rfl⟩
  rw [HD.out]
  go_wp2_with fail
  go_quiet ((go_at_call 27; exact quiet_left (zx_any _ _ _)))
  rw [HX.out]
  go_wp2_with fail
  refine (zx_any _ _ _).mono ?_; rintro e w' ⟨rfl, rfl⟩
  rw [HD.out]
  go_wp2_with fail
  rw [HQ.out]
  refine (fitsU_any _ _ uq (by unfold I64; omega) _).mono ?_; rintro e w' ⟨rfl, rfl⟩
  rw [HF.out]
  go_wp2_with fail
  go_ret3
  exact ⟨rfl, ⟨_, rfl⟩⟩
theorem quoS_4_yes (hi lo d : Int) (hd : U64 d) (hz : zx d 4 ≠ 0) (hk : qOk (qq hi lo d 4) (qm hi lo d 4) 4 = true) (W : World) : Calls Tryd.prog 23 #[.int .u64 hi, .int .u64 lo, .int .u64 d, .bool true, .int .i64 4] W fun e W' => e = .returned (quoS hi lo d 4) ∧ Drawn W W' := by
  have hb := Cq.qN_bd hi lo (w := 4) (by decide)
  have e1 := Cq.qN_or hi lo (w := 4) (by decide)
  rw [show (2 : Int) ^ nb 4 = 4294967296 from rfl] at e1
  unfold quoS
  rw [if_pos hk]
  unfold qq qm at hk
  have zl := Cq.zx_lt d 4
  obtain ⟨X, hX⟩ : ∃ X, X = qN hi lo 4 := ⟨_, rfl⟩
  rw [← hX] at hb e1 hk ⊢
  have HX := Lib.hid e1
  have x0 := hb.1
  have ux := hb.2.2
  rw [show (2 * 4 : Int) = 8 from rfl] at hk ⊢
  have e2 : wrap64 (sx X 8) = sg X 8 := by have e := Cq.i64_sx (w := 8) X (by decide); rw [IntKind.wrap_i64] at e; unfold wrap64; exact e
  have e3 : wrap64 (sx d 4) = sg d 4 := by have e := Cq.i64_sx (w := 4) d (by decide); rw [IntKind.wrap_i64] at e; unfold wrap64; exact e
  have hA := Cq.qA_bd (w := 8) X (by decide)
  have hE := Cq.qA_bd (w := 4) d (by decide)
  have q0 := Int.ediv_nonneg hA.1 hE.1
  have q1 : qA (zx X 8) (neg X 8) (nb 8) / qA (zx d 4) (neg d 4) (nb 4) ≤ 9223372036854775808 :=
    Int.le_trans (Int.ediv_le_self _ hA.1) (Int.le_trans hA.2.1 (by decide))
  have t1 := Cq.tdiv_sign (qA (zx X 8) (neg X 8) (nb 8)) (qA (zx d 4) (neg d 4) (nb 4)) (neg X 8) (neg d 4) hA.1
  rw [← Cq.sg_size, ← Cq.sg_size] at t1
  have hf : fits (IntKind.i64.wrap ((sg X 8).tdiv (sg d 4))) 32 = _ := (congrArg (fun z => fits (IntKind.i64.wrap z) 32) t1).trans (Cq.fits_is (w := 4) _ _ (by decide) ⟨q0, q1⟩)
  rw [hk] at hf
  have dn : sg d 4 ≠ 0 := by
    intro g
    have e := Cq.zx_sg d 4
    rw [g] at e
    exact hz (by rw [← e]; rfl)
  have HZ := Lib.hid (show zx d 4 = zx d 4 from rfl)
  have hz1 : (zx d 4 == 0) = false := by simpa using hz
  clear hA hE q0 q1 t1 hk hX hb e1 zl hz
  obtain ⟨S, hS⟩ : ∃ S, S = sg X 8 := ⟨_, rfl⟩
  obtain ⟨D, hD⟩ : ∃ D, D = sg d 4 := ⟨_, rfl⟩
  have iS : I64 S := by rw [hS]; exact Cq.sg_i64 _ _
  have iD : I64 D := by rw [hD]; exact Cq.sg_i64 _ _
  rw [← hS] at e2 hf ⊢
  rw [← hD] at e3 hf dn ⊢
  have hz2 : (D == 0) = false := by simpa using dn
  have E2 := Lib.hid e2
  have E3 := Lib.hid e3
  rw [w64] at hf
  have HF := Lib.hid hf
  have HZ1 : Hid (zx (IntKind.u64.wrap (wrap64 (S.tdiv D))) 4 = zx (S.tdiv D) 4) := Lib.hid (by rw [← w64]; exact Cq.zx_i64 (S.tdiv D) 4)
  have HZ2 := Lib.hid (Cq.zx_wrap (S.tmod D) 4)
  clear e2 e3 hf hS hD HZ
  go_enter Tryd.func23, Tryd.ntmps23
  go_wp2_with fail
  refine (is_any _ _).mono ?_; rintro e w' ⟨rfl, rfl⟩
  rw [show isW 4 = true from rfl]
  go_wp2_with fail
  refine (zx_any _ _ _).mono ?_; rintro e w' ⟨rfl, rfl⟩
  go_wp2_with fail
  go_quiet ((go_at_call 27; exact quiet_left (zx_any _ _ _)))
  rw [HX.out]
  go_wp2_with fail
  refine (sx_any _ _ ux _).mono ?_; rintro e w' ⟨rfl, rfl⟩
  go_wp2_with fail
  refine (sx_any _ _ hd _).mono ?_; rintro e w' ⟨rfl, rfl⟩
  rw [E2.out]
  go_upto_region 10 with fail
  rw [E3.out]
  go_wp2_with fail
  refine (fits_any _ _ (iw _) (by unfold I64; omega) _).mono ?_; rintro e w' ⟨rfl, rfl⟩
  rw [HF.out]
  go_wp2_with fail
  have HW : Hid (Drawn W (W.drewN nq)) := Lib.hid ⟨_, rfl⟩
  generalize W.drewN nq = W2 at *
  go_quiet ((go_at_call 27; exact quiet_left (zx_any _ _ _)))
  go_wp2_with fail
  go_ret3
  exact ⟨by rw [HZ1.out, HZ2.out]; rfl, HW.out.drewN _⟩
theorem quoS_4_no (hi lo d : Int) (hd : U64 d) (hz : zx d 4 ≠ 0) (hk : qOk (qq hi lo d 4) (qm hi lo d 4) 4 = false) (W : World) : Calls Tryd.prog 23 #[.int .u64 hi, .int .u64 lo, .int .u64 d, .bool true, .int .i64 4] W fun e W' => e = .returned (quoS hi lo d 4) ∧ Drawn W W' := by
  have hb := Cq.qN_bd hi lo (w := 4) (by decide)
  have e1 := Cq.qN_or hi lo (w := 4) (by decide)
  rw [show (2 : Int) ^ nb 4 = 4294967296 from rfl] at e1
  unfold quoS
  rw [if_neg (by rw [hk]; decide)]
  unfold qq qm at hk
  have zl := Cq.zx_lt d 4
  obtain ⟨X, hX⟩ : ∃ X, X = qN hi lo 4 := ⟨_, rfl⟩
  rw [← hX] at hb e1 hk 
  have HX := Lib.hid e1
  have x0 := hb.1
  have ux := hb.2.2
  rw [show (2 * 4 : Int) = 8 from rfl] at hk 
  have e2 : wrap64 (sx X 8) = sg X 8 := by have e := Cq.i64_sx (w := 8) X (by decide); rw [IntKind.wrap_i64] at e; unfold wrap64; exact e
  have e3 : wrap64 (sx d 4) = sg d 4 := by have e := Cq.i64_sx (w := 4) d (by decide); rw [IntKind.wrap_i64] at e; unfold wrap64; exact e
  have hA := Cq.qA_bd (w := 8) X (by decide)
  have hE := Cq.qA_bd (w := 4) d (by decide)
  have q0 := Int.ediv_nonneg hA.1 hE.1
  have q1 : qA (zx X 8) (neg X 8) (nb 8) / qA (zx d 4) (neg d 4) (nb 4) ≤ 9223372036854775808 :=
    Int.le_trans (Int.ediv_le_self _ hA.1) (Int.le_trans hA.2.1 (by decide))
  have t1 := Cq.tdiv_sign (qA (zx X 8) (neg X 8) (nb 8)) (qA (zx d 4) (neg d 4) (nb 4)) (neg X 8) (neg d 4) hA.1
  rw [← Cq.sg_size, ← Cq.sg_size] at t1
  have hf : fits (IntKind.i64.wrap ((sg X 8).tdiv (sg d 4))) 32 = _ := (congrArg (fun z => fits (IntKind.i64.wrap z) 32) t1).trans (Cq.fits_is (w := 4) _ _ (by decide) ⟨q0, q1⟩)
  rw [hk] at hf
  have dn : sg d 4 ≠ 0 := by
    intro g
    have e := Cq.zx_sg d 4
    rw [g] at e
    exact hz (by rw [← e]; rfl)
  have HZ := Lib.hid (show zx d 4 = zx d 4 from rfl)
  have hz1 : (zx d 4 == 0) = false := by simpa using hz
  clear hA hE q0 q1 t1 hk hX hb e1 zl hz
  obtain ⟨S, hS⟩ : ∃ S, S = sg X 8 := ⟨_, rfl⟩
  obtain ⟨D, hD⟩ : ∃ D, D = sg d 4 := ⟨_, rfl⟩
  have iS : I64 S := by rw [hS]; exact Cq.sg_i64 _ _
  have iD : I64 D := by rw [hD]; exact Cq.sg_i64 _ _
  rw [← hS] at e2 hf 
  rw [← hD] at e3 hf dn 
  have hz2 : (D == 0) = false := by simpa using dn
  have E2 := Lib.hid e2
  have E3 := Lib.hid e3
  rw [w64] at hf
  have HF := Lib.hid hf
  clear e2 e3 hf hS hD HZ
  go_enter Tryd.func23, Tryd.ntmps23
  go_wp2_with fail
  refine (is_any _ _).mono ?_; rintro e w' ⟨rfl, rfl⟩
  rw [show isW 4 = true from rfl]
  go_wp2_with fail
  refine (zx_any _ _ _).mono ?_; rintro e w' ⟨rfl, rfl⟩
  go_wp2_with fail
  go_quiet ((go_at_call 27; exact quiet_left (zx_any _ _ _)))
  rw [HX.out]
  go_wp2_with fail
  refine (sx_any _ _ ux _).mono ?_; rintro e w' ⟨rfl, rfl⟩
  go_wp2_with fail
  refine (sx_any _ _ hd _).mono ?_; rintro e w' ⟨rfl, rfl⟩
  rw [E2.out]
  go_upto_region 10 with fail
  rw [E3.out]
  go_wp2_with fail
  refine (fits_any _ _ (iw _) (by unfold I64; omega) _).mono ?_; rintro e w' ⟨rfl, rfl⟩
  rw [HF.out]
  go_wp2_with fail
  go_ret3
  exact ⟨rfl, ⟨_, rfl⟩⟩
end Go.Proofs.YtlbkmdmnijmieaaDoor
