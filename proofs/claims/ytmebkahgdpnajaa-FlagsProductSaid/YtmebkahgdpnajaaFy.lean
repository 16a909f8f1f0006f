/- Walks of layer 8: products, by the document's own answers. -/
import Derived.Test.YtmebkahgdpnajaaFx
namespace Go.Proofs.Ytmebkahgdpnajaa
open Go Go.RowKit
open Cq (U64 I64 isW nb zx sx neg mask mhi mlo shi pHi pLo pUp pOver)

theorem rproduct_1_false (a b : Int) (ha : U64 a) (hb : U64 b) (W : World) : Calls Try.prog 18 #[.int .u64 a, .int .u64 b, .bool false, .int .i64 1] W fun e W' => e = .returned (prd a b false 1) ∧ Kp W W' := by
  rw [prd_is a b false 1 (by decide)]
  have ua : U64 (zx a 1) := Cq.zx_u64 1
  have ub : U64 (zx b 1) := Cq.zx_u64 1
  obtain ⟨h, hh⟩ : ∃ h, h = pHi a b false 1 := ⟨_, rfl⟩
  obtain ⟨l, hl⟩ : ∃ l, l = pLo a b false 1 := ⟨_, rfl⟩
  obtain ⟨u, hu⟩ : ∃ u, u = pUp a b false 1 := ⟨_, rfl⟩
  obtain ⟨ov, hov⟩ : ∃ ov, ov = pOver a b false 1 := ⟨_, rfl⟩
  have ul : U64 l := by rw [hl]; exact Cq.pLo_u64 _ _ _ _
  have uh : U64 h := by rw [hh]; exact Cq.pHi_u64 _ _ _ _
  have uu : U64 u := by rw [hu]; exact Cq.pUp_u64 _ _ _ _
  have uz : U64 (zx l 1) := Cq.zx_u64 1
  rw [← hov, ← hu, ← hl]
  have hu2 : u = zx (l / 2 ^ 8) 1 := by rw [hu, hl]; rfl
  have HU : Hid (zx (l / 256) 1 = u) := Lib.hid hu2.symm
  have uq : U64 (l / 256) := by unfold U64 at *; omega
  have HO : Hid ((u != 0) = ov) := Lib.hid (by rw [hov, hu]; unfold pOver; rfl)
  have HH : Hid (mhi (zx a 1 * zx b 1) = h) := Lib.hid hh.symm
  have HL : Hid (mlo (zx a 1 * zx b 1) = l) := Lib.hid hl.symm
  clear hh hl hu hu2 hov
  have ul0 := ul.1
  unfold th
  go_enter Try.func18, Try.ntmps18
  go_wp2_with fail
  refine (ris_any _ _).mono ?_; rintro e w' ⟨rfl, rfl⟩
  rw [show isW 1 = true from rfl]
  go_wp2_with fail
  refine (rzx_any _ _ ha _).mono ?_; rintro e w' ⟨rfl, rfl⟩
  go_wp2_with fail
  refine (rzx_any _ _ hb _).mono ?_; rintro e w' ⟨rfl, rfl⟩
  go_wp2_with fail
  refine (rmulU_any _ _ ua ub _).mono ?_; rintro e w' ⟨rfl, rfl⟩
  rw [HH.out, HL.out]
  go_wp2_with fail
  refine (rzx_any _ _ ul _).mono ?_; rintro e w' ⟨rfl, rfl⟩
  go_wp2_with fail
  refine (rzx_any _ _ uq _).mono ?_; rintro e w' ⟨rfl, rfl⟩
  rw [HU.out]
  go_wp2_with fail
  refine (rsx_any _ _ uz _).mono ?_; rintro e w' ⟨rfl, rfl⟩
  go_wp2_with fail
  refine bodyPost_ret (v := .tuple #[.int .u64 (zx l 1), .int .u64 u, .agg #[.bool (u != 0), .bool (u != 0), .int .u64 (sx (zx l 1) 1)]]) (by simp [results, Try.results18, go_sem, bne]) rfl ⟨by rw [← HO.out], ?_⟩
  exact (Kp.rfl W).new _
theorem rproduct_1_true_false_true (a b : Int) (ha : U64 a) (hb : U64 b) (hng : neg (zx (pLo a b true 1) 1) 1 = false) (hz : (pUp a b true 1 == 0) = true) (W : World) : Calls Try.prog 18 #[.int .u64 a, .int .u64 b, .bool true, .int .i64 1] W fun e W' => e = .returned (prd a b true 1) ∧ Kp W W' := by
  rw [prd_is a b true 1 (by decide)]
  have ua : U64 (zx a 1) := Cq.zx_u64 1
  have ub : U64 (zx b 1) := Cq.zx_u64 1
  have va : U64 (sx a 1) := Cq.sx_u64 1
  have vb : U64 (sx b 1) := Cq.sx_u64 1
  obtain ⟨h, hh⟩ : ∃ h, h = pHi a b true 1 := ⟨_, rfl⟩
  obtain ⟨l, hl⟩ : ∃ l, l = pLo a b true 1 := ⟨_, rfl⟩
  obtain ⟨u, hu⟩ : ∃ u, u = pUp a b true 1 := ⟨_, rfl⟩
  obtain ⟨ov, hov⟩ : ∃ ov, ov = pOver a b true 1 := ⟨_, rfl⟩
  have ul : U64 l := by rw [hl]; exact Cq.pLo_u64 _ _ _ _
  have uh : U64 h := by rw [hh]; exact Cq.pHi_u64 _ _ _ _
  have uu : U64 u := by rw [hu]; exact Cq.pUp_u64 _ _ _ _
  have uz : U64 (zx l 1) := Cq.zx_u64 1
  rw [← hov, ← hu, ← hl]
  rw [← hl] at hng
  rw [← hu] at hz
  have hz2 : (u != 0) = false := by rw [bne, hz]; rfl
  have hu2 : u = zx (l / 2 ^ 8) 1 := by rw [hu, hl]; rfl
  have HU : Hid (zx (l / 256) 1 = u) := Lib.hid hu2.symm
  have uq : U64 (l / 256) := by unfold U64 at *; omega
  have HO : Hid ((u != 0) = ov) := Lib.hid (by rw [hov, hu]; unfold pOver; rw [← hl, hng]; rfl)
  have HH : Hid (shi (sx a 1) (sx b 1) = h) := Lib.hid hh.symm
  have HL : Hid (mlo (sx a 1 * sx b 1) = l) := Lib.hid hl.symm
  replace hng := Lib.hid hng
  have hz3 := hz2
  replace hz2 := Lib.hid hz2
  clear hh hl hu hu2 hov
  have ul0 := ul.1
  unfold th
  go_enter Try.func18, Try.ntmps18
  go_wp2_with fail
  refine (ris_any _ _).mono ?_; rintro e w' ⟨rfl, rfl⟩
  rw [show isW 1 = true from rfl]
  go_wp2_with fail
  refine (rzx_any _ _ ha _).mono ?_; rintro e w' ⟨rfl, rfl⟩
  go_wp2_with fail
  refine (rzx_any _ _ hb _).mono ?_; rintro e w' ⟨rfl, rfl⟩
  go_wp2_with fail
  refine (rmulU_any _ _ ua ub _).mono ?_; rintro e w' ⟨rfl, rfl⟩
  go_wp2_with fail
  refine (rsx_any _ _ ha _).mono ?_; rintro e w' ⟨rfl, rfl⟩
  go_wp2_with fail
  refine (rsx_any _ _ hb _).mono ?_; rintro e w' ⟨rfl, rfl⟩
  go_wp2_with fail
  refine (rmulS_any _ _ va vb _).mono ?_; rintro e w' ⟨rfl, rfl⟩
  rw [HH.out, HL.out]
  go_wp2_with fail
  refine (rzx_any _ _ ul _).mono ?_; rintro e w' ⟨rfl, rfl⟩
  go_wp2_with fail
  refine (rzx_any _ _ uq _).mono ?_; rintro e w' ⟨rfl, rfl⟩
  rw [HU.out]
  go_wp2_with fail
  refine (rneg_any _ _ uz _).mono ?_; rintro e w' ⟨rfl, rfl⟩
  rw [hng.out]
  go_wp2_with fail
  refine (rneg_any _ _ uz _).mono ?_; rintro e w' ⟨rfl, rfl⟩
  rw [hng.out]
  go_wp2_with fail
  refine (rsx_any _ _ uz _).mono ?_; rintro e w' ⟨rfl, rfl⟩
  go_wp2_with fail
  refine bodyPost_ret (v := .tuple #[.int .u64 (zx l 1), .int .u64 u, .agg #[.bool false, .bool false, .int .u64 (sx (zx l 1) 1)]]) (by simp [results, Try.results18, go_sem]) rfl ⟨by rw [← HO.out, hz2.out], ?_⟩
  exact (Kp.rfl W).new _
theorem rproduct_1_true_false_false (a b : Int) (ha : U64 a) (hb : U64 b) (hng : neg (zx (pLo a b true 1) 1) 1 = false) (hz : (pUp a b true 1 == 0) = false) (W : World) : Calls Try.prog 18 #[.int .u64 a, .int .u64 b, .bool true, .int .i64 1] W fun e W' => e = .returned (prd a b true 1) ∧ Kp W W' := by
  rw [prd_is a b true 1 (by decide)]
  have ua : U64 (zx a 1) := Cq.zx_u64 1
  have ub : U64 (zx b 1) := Cq.zx_u64 1
  have va : U64 (sx a 1) := Cq.sx_u64 1
  have vb : U64 (sx b 1) := Cq.sx_u64 1
  obtain ⟨h, hh⟩ : ∃ h, h = pHi a b true 1 := ⟨_, rfl⟩
  obtain ⟨l, hl⟩ : ∃ l, l = pLo a b true 1 := ⟨_, rfl⟩
  obtain ⟨u, hu⟩ : ∃ u, u = pUp a b true 1 := ⟨_, rfl⟩
  obtain ⟨ov, hov⟩ : ∃ ov, ov = pOver a b true 1 := ⟨_, rfl⟩
  have ul : U64 l := by rw [hl]; exact Cq.pLo_u64 _ _ _ _
  have uh : U64 h := by rw [hh]; exact Cq.pHi_u64 _ _ _ _
  have uu : U64 u := by rw [hu]; exact Cq.pUp_u64 _ _ _ _
  have uz : U64 (zx l 1) := Cq.zx_u64 1
  rw [← hov, ← hu, ← hl]
  rw [← hl] at hng
  rw [← hu] at hz
  have hz2 : (u != 0) = true := by rw [bne, hz]; rfl
  have hu2 : u = zx (l / 2 ^ 8) 1 := by rw [hu, hl]; rfl
  have HU : Hid (zx (l / 256) 1 = u) := Lib.hid hu2.symm
  have uq : U64 (l / 256) := by unfold U64 at *; omega
  have HO : Hid ((u != 0) = ov) := Lib.hid (by rw [hov, hu]; unfold pOver; rw [← hl, hng]; rfl)
  have HH : Hid (shi (sx a 1) (sx b 1) = h) := Lib.hid hh.symm
  have HL : Hid (mlo (sx a 1 * sx b 1) = l) := Lib.hid hl.symm
  replace hng := Lib.hid hng
  have hz3 := hz2
  replace hz2 := Lib.hid hz2
  clear hh hl hu hu2 hov
  have ul0 := ul.1
  unfold th
  go_enter Try.func18, Try.ntmps18
  go_wp2_with fail
  refine (ris_any _ _).mono ?_; rintro e w' ⟨rfl, rfl⟩
  rw [show isW 1 = true from rfl]
  go_wp2_with fail
  refine (rzx_any _ _ ha _).mono ?_; rintro e w' ⟨rfl, rfl⟩
  go_wp2_with fail
  refine (rzx_any _ _ hb _).mono ?_; rintro e w' ⟨rfl, rfl⟩
  go_wp2_with fail
  refine (rmulU_any _ _ ua ub _).mono ?_; rintro e w' ⟨rfl, rfl⟩
  go_wp2_with fail
  refine (rsx_any _ _ ha _).mono ?_; rintro e w' ⟨rfl, rfl⟩
  go_wp2_with fail
  refine (rsx_any _ _ hb _).mono ?_; rintro e w' ⟨rfl, rfl⟩
  go_wp2_with fail
  refine (rmulS_any _ _ va vb _).mono ?_; rintro e w' ⟨rfl, rfl⟩
  rw [HH.out, HL.out]
  go_wp2_with fail
  refine (rzx_any _ _ ul _).mono ?_; rintro e w' ⟨rfl, rfl⟩
  go_wp2_with fail
  refine (rzx_any _ _ uq _).mono ?_; rintro e w' ⟨rfl, rfl⟩
  rw [HU.out]
  go_wp2_with fail
  refine (rneg_any _ _ uz _).mono ?_; rintro e w' ⟨rfl, rfl⟩
  rw [hng.out]
  go_wp2_with fail
  refine (rsx_any _ _ uz _).mono ?_; rintro e w' ⟨rfl, rfl⟩
  go_wp2_with fail
  refine bodyPost_ret (v := .tuple #[.int .u64 (zx l 1), .int .u64 u, .agg #[.bool true, .bool true, .int .u64 (sx (zx l 1) 1)]]) (by simp [results, Try.results18, go_sem]) rfl ⟨by rw [← HO.out, hz2.out], ?_⟩
  exact (Kp.rfl W).new _
theorem rproduct_1_true_true_true (a b : Int) (ha : U64 a) (hb : U64 b) (hng : neg (zx (pLo a b true 1) 1) 1 = true) (hz : (pUp a b true 1 == 0) = true) (W : World) : Calls Try.prog 18 #[.int .u64 a, .int .u64 b, .bool true, .int .i64 1] W fun e W' => e = .returned (prd a b true 1) ∧ Kp W W' := by
  rw [prd_is a b true 1 (by decide)]
  have ua : U64 (zx a 1) := Cq.zx_u64 1
  have ub : U64 (zx b 1) := Cq.zx_u64 1
  have va : U64 (sx a 1) := Cq.sx_u64 1
  have vb : U64 (sx b 1) := Cq.sx_u64 1
  obtain ⟨h, hh⟩ : ∃ h, h = pHi a b true 1 := ⟨_, rfl⟩
  obtain ⟨l, hl⟩ : ∃ l, l = pLo a b true 1 := ⟨_, rfl⟩
  obtain ⟨u, hu⟩ : ∃ u, u = pUp a b true 1 := ⟨_, rfl⟩
  obtain ⟨ov, hov⟩ : ∃ ov, ov = pOver a b true 1 := ⟨_, rfl⟩
  have ul : U64 l := by rw [hl]; exact Cq.pLo_u64 _ _ _ _
  have uh : U64 h := by rw [hh]; exact Cq.pHi_u64 _ _ _ _
  have uu : U64 u := by rw [hu]; exact Cq.pUp_u64 _ _ _ _
  have uz : U64 (zx l 1) := Cq.zx_u64 1
  rw [← hov, ← hu, ← hl]
  rw [← hl] at hng
  rw [← hu] at hz
  have hz2 : (u != 0) = false := by rw [bne, hz]; rfl
  have hu2 : u = zx (l / 2 ^ 8) 1 := by rw [hu, hl]; rfl
  have HU : Hid (zx (l / 256) 1 = u) := Lib.hid hu2.symm
  have uq : U64 (l / 256) := by unfold U64 at *; omega
  have HO : Hid ((u != zx 18446744073709551615 1) = ov) := Lib.hid (by rw [hov, hu]; unfold pOver; rw [← hl, hng]; exact congrArg _ (by decide))
  have HH : Hid (shi (sx a 1) (sx b 1) = h) := Lib.hid hh.symm
  have HL : Hid (mlo (sx a 1 * sx b 1) = l) := Lib.hid hl.symm
  replace hng := Lib.hid hng
  have um : U64 18446744073709551615 := ⟨by decide, by decide⟩
  clear hh hl hu hu2 hov
  have ul0 := ul.1
  unfold th
  go_enter Try.func18, Try.ntmps18
  go_wp2_with fail
  refine (ris_any _ _).mono ?_; rintro e w' ⟨rfl, rfl⟩
  rw [show isW 1 = true from rfl]
  go_wp2_with fail
  refine (rzx_any _ _ ha _).mono ?_; rintro e w' ⟨rfl, rfl⟩
  go_wp2_with fail
  refine (rzx_any _ _ hb _).mono ?_; rintro e w' ⟨rfl, rfl⟩
  go_wp2_with fail
  refine (rmulU_any _ _ ua ub _).mono ?_; rintro e w' ⟨rfl, rfl⟩
  go_wp2_with fail
  refine (rsx_any _ _ ha _).mono ?_; rintro e w' ⟨rfl, rfl⟩
  go_wp2_with fail
  refine (rsx_any _ _ hb _).mono ?_; rintro e w' ⟨rfl, rfl⟩
  go_wp2_with fail
  refine (rmulS_any _ _ va vb _).mono ?_; rintro e w' ⟨rfl, rfl⟩
  rw [HH.out, HL.out]
  go_wp2_with fail
  refine (rzx_any _ _ ul _).mono ?_; rintro e w' ⟨rfl, rfl⟩
  go_wp2_with fail
  refine (rzx_any _ _ uq _).mono ?_; rintro e w' ⟨rfl, rfl⟩
  rw [HU.out]
  go_wp2_with fail
  refine (rneg_any _ _ uz _).mono ?_; rintro e w' ⟨rfl, rfl⟩
  rw [hng.out]
  go_wp2_with fail
  refine (rneg_any _ _ uz _).mono ?_; rintro e w' ⟨rfl, rfl⟩
  rw [hng.out]
  go_wp2_with fail
  refine (rzx_any _ _ um _).mono ?_; rintro e w' ⟨rfl, rfl⟩
  go_wp2_with fail
  refine (rsx_any _ _ uz _).mono ?_; rintro e w' ⟨rfl, rfl⟩
  go_wp2_with fail
  refine bodyPost_ret (v := .tuple #[.int .u64 (zx l 1), .int .u64 u, .agg #[.bool (u != zx 18446744073709551615 1), .bool (u != zx 18446744073709551615 1), .int .u64 (sx (zx l 1) 1)]]) (by simp [results, Try.results18, go_sem, bne]) rfl ⟨by rw [← HO.out], ?_⟩
  exact (Kp.rfl W).new _
theorem rproduct_1_true_true_false (a b : Int) (ha : U64 a) (hb : U64 b) (hng : neg (zx (pLo a b true 1) 1) 1 = true) (hz : (pUp a b true 1 == 0) = false) (W : World) : Calls Try.prog 18 #[.int .u64 a, .int .u64 b, .bool true, .int .i64 1] W fun e W' => e = .returned (prd a b true 1) ∧ Kp W W' := by
  rw [prd_is a b true 1 (by decide)]
  have ua : U64 (zx a 1) := Cq.zx_u64 1
  have ub : U64 (zx b 1) := Cq.zx_u64 1
  have va : U64 (sx a 1) := Cq.sx_u64 1
  have vb : U64 (sx b 1) := Cq.sx_u64 1
  obtain ⟨h, hh⟩ : ∃ h, h = pHi a b true 1 := ⟨_, rfl⟩
  obtain ⟨l, hl⟩ : ∃ l, l = pLo a b true 1 := ⟨_, rfl⟩
  obtain ⟨u, hu⟩ : ∃ u, u = pUp a b true 1 := ⟨_, rfl⟩
  obtain ⟨ov, hov⟩ : ∃ ov, ov = pOver a b true 1 := ⟨_, rfl⟩
  have ul : U64 l := by rw [hl]; exact Cq.pLo_u64 _ _ _ _
  have uh : U64 h := by rw [hh]; exact Cq.pHi_u64 _ _ _ _
  have uu : U64 u := by rw [hu]; exact Cq.pUp_u64 _ _ _ _
  have uz : U64 (zx l 1) := Cq.zx_u64 1
  rw [← hov, ← hu, ← hl]
  rw [← hl] at hng
  rw [← hu] at hz
  have hz2 : (u != 0) = true := by rw [bne, hz]; rfl
  have hu2 : u = zx (l / 2 ^ 8) 1 := by rw [hu, hl]; rfl
  have HU : Hid (zx (l / 256) 1 = u) := Lib.hid hu2.symm
  have uq : U64 (l / 256) := by unfold U64 at *; omega
  have HO : Hid ((u != zx 18446744073709551615 1) = ov) := Lib.hid (by rw [hov, hu]; unfold pOver; rw [← hl, hng]; exact congrArg _ (by decide))
  have HH : Hid (shi (sx a 1) (sx b 1) = h) := Lib.hid hh.symm
  have HL : Hid (mlo (sx a 1 * sx b 1) = l) := Lib.hid hl.symm
  replace hng := Lib.hid hng
  have um : U64 18446744073709551615 := ⟨by decide, by decide⟩
  clear hh hl hu hu2 hov
  have ul0 := ul.1
  unfold th
  go_enter Try.func18, Try.ntmps18
  go_wp2_with fail
  refine (ris_any _ _).mono ?_; rintro e w' ⟨rfl, rfl⟩
  rw [show isW 1 = true from rfl]
  go_wp2_with fail
  refine (rzx_any _ _ ha _).mono ?_; rintro e w' ⟨rfl, rfl⟩
  go_wp2_with fail
  refine (rzx_any _ _ hb _).mono ?_; rintro e w' ⟨rfl, rfl⟩
  go_wp2_with fail
  refine (rmulU_any _ _ ua ub _).mono ?_; rintro e w' ⟨rfl, rfl⟩
  go_wp2_with fail
  refine (rsx_any _ _ ha _).mono ?_; rintro e w' ⟨rfl, rfl⟩
  go_wp2_with fail
  refine (rsx_any _ _ hb _).mono ?_; rintro e w' ⟨rfl, rfl⟩
  go_wp2_with fail
  refine (rmulS_any _ _ va vb _).mono ?_; rintro e w' ⟨rfl, rfl⟩
  rw [HH.out, HL.out]
  go_wp2_with fail
  refine (rzx_any _ _ ul _).mono ?_; rintro e w' ⟨rfl, rfl⟩
  go_wp2_with fail
  refine (rzx_any _ _ uq _).mono ?_; rintro e w' ⟨rfl, rfl⟩
  rw [HU.out]
  go_wp2_with fail
  refine (rneg_any _ _ uz _).mono ?_; rintro e w' ⟨rfl, rfl⟩
  rw [hng.out]
  go_wp2_with fail
  refine (rzx_any _ _ um _).mono ?_; rintro e w' ⟨rfl, rfl⟩
  go_wp2_with fail
  refine (rsx_any _ _ uz _).mono ?_; rintro e w' ⟨rfl, rfl⟩
  go_wp2_with fail
  refine bodyPost_ret (v := .tuple #[.int .u64 (zx l 1), .int .u64 u, .agg #[.bool (u != zx 18446744073709551615 1), .bool (u != zx 18446744073709551615 1), .int .u64 (sx (zx l 1) 1)]]) (by simp [results, Try.results18, go_sem, bne]) rfl ⟨by rw [← HO.out], ?_⟩
  exact (Kp.rfl W).new _
theorem rproduct_2_false (a b : Int) (ha : U64 a) (hb : U64 b) (W : World) : Calls Try.prog 18 #[.int .u64 a, .int .u64 b, .bool false, .int .i64 2] W fun e W' => e = .returned (prd a b false 2) ∧ Kp W W' := by
  rw [prd_is a b false 2 (by decide)]
  have ua : U64 (zx a 2) := Cq.zx_u64 2
  have ub : U64 (zx b 2) := Cq.zx_u64 2
  obtain ⟨h, hh⟩ : ∃ h, h = pHi a b false 2 := ⟨_, rfl⟩
  obtain ⟨l, hl⟩ : ∃ l, l = pLo a b false 2 := ⟨_, rfl⟩
  obtain ⟨u, hu⟩ : ∃ u, u = pUp a b false 2 := ⟨_, rfl⟩
  obtain ⟨ov, hov⟩ : ∃ ov, ov = pOver a b false 2 := ⟨_, rfl⟩
  have ul : U64 l := by rw [hl]; exact Cq.pLo_u64 _ _ _ _
  have uh : U64 h := by rw [hh]; exact Cq.pHi_u64 _ _ _ _
  have uu : U64 u := by rw [hu]; exact Cq.pUp_u64 _ _ _ _
  have uz : U64 (zx l 2) := Cq.zx_u64 2
  rw [← hov, ← hu, ← hl]
  have hu2 : u = zx (l / 2 ^ 16) 2 := by rw [hu, hl]; rfl
  have HU : Hid (zx (l / 65536) 2 = u) := Lib.hid hu2.symm
  have uq : U64 (l / 65536) := by unfold U64 at *; omega
  have HO : Hid ((u != 0) = ov) := Lib.hid (by rw [hov, hu]; unfold pOver; rfl)
  have HH : Hid (mhi (zx a 2 * zx b 2) = h) := Lib.hid hh.symm
  have HL : Hid (mlo (zx a 2 * zx b 2) = l) := Lib.hid hl.symm
  clear hh hl hu hu2 hov
  have ul0 := ul.1
  unfold th
  go_enter Try.func18, Try.ntmps18
  go_wp2_with fail
  refine (ris_any _ _).mono ?_; rintro e w' ⟨rfl, rfl⟩
  rw [show isW 2 = true from rfl]
  go_wp2_with fail
  refine (rzx_any _ _ ha _).mono ?_; rintro e w' ⟨rfl, rfl⟩
  go_wp2_with fail
  refine (rzx_any _ _ hb _).mono ?_; rintro e w' ⟨rfl, rfl⟩
  go_wp2_with fail
  refine (rmulU_any _ _ ua ub _).mono ?_; rintro e w' ⟨rfl, rfl⟩
  rw [HH.out, HL.out]
  go_wp2_with fail
  refine (rzx_any _ _ ul _).mono ?_; rintro e w' ⟨rfl, rfl⟩
  go_wp2_with fail
  refine (rzx_any _ _ uq _).mono ?_; rintro e w' ⟨rfl, rfl⟩
  rw [HU.out]
  go_wp2_with fail
  refine (rsx_any _ _ uz _).mono ?_; rintro e w' ⟨rfl, rfl⟩
  go_wp2_with fail
  refine bodyPost_ret (v := .tuple #[.int .u64 (zx l 2), .int .u64 u, .agg #[.bool (u != 0), .bool (u != 0), .int .u64 (sx (zx l 2) 2)]]) (by simp [results, Try.results18, go_sem, bne]) rfl ⟨by rw [← HO.out], ?_⟩
  exact (Kp.rfl W).new _
theorem rproduct_2_true_false_true (a b : Int) (ha : U64 a) (hb : U64 b) (hng : neg (zx (pLo a b true 2) 2) 2 = false) (hz : (pUp a b true 2 == 0) = true) (W : World) : Calls Try.prog 18 #[.int .u64 a, .int .u64 b, .bool true, .int .i64 2] W fun e W' => e = .returned (prd a b true 2) ∧ Kp W W' := by
  rw [prd_is a b true 2 (by decide)]
  have ua : U64 (zx a 2) := Cq.zx_u64 2
  have ub : U64 (zx b 2) := Cq.zx_u64 2
  have va : U64 (sx a 2) := Cq.sx_u64 2
  have vb : U64 (sx b 2) := Cq.sx_u64 2
  obtain ⟨h, hh⟩ : ∃ h, h = pHi a b true 2 := ⟨_, rfl⟩
  obtain ⟨l, hl⟩ : ∃ l, l = pLo a b true 2 := ⟨_, rfl⟩
  obtain ⟨u, hu⟩ : ∃ u, u = pUp a b true 2 := ⟨_, rfl⟩
  obtain ⟨ov, hov⟩ : ∃ ov, ov = pOver a b true 2 := ⟨_, rfl⟩
  have ul : U64 l := by rw [hl]; exact Cq.pLo_u64 _ _ _ _
  have uh : U64 h := by rw [hh]; exact Cq.pHi_u64 _ _ _ _
  have uu : U64 u := by rw [hu]; exact Cq.pUp_u64 _ _ _ _
  have uz : U64 (zx l 2) := Cq.zx_u64 2
  rw [← hov, ← hu, ← hl]
  rw [← hl] at hng
  rw [← hu] at hz
  have hz2 : (u != 0) = false := by rw [bne, hz]; rfl
  have hu2 : u = zx (l / 2 ^ 16) 2 := by rw [hu, hl]; rfl
  have HU : Hid (zx (l / 65536) 2 = u) := Lib.hid hu2.symm
  have uq : U64 (l / 65536) := by unfold U64 at *; omega
  have HO : Hid ((u != 0) = ov) := Lib.hid (by rw [hov, hu]; unfold pOver; rw [← hl, hng]; rfl)
  have HH : Hid (shi (sx a 2) (sx b 2) = h) := Lib.hid hh.symm
  have HL : Hid (mlo (sx a 2 * sx b 2) = l) := Lib.hid hl.symm
  replace hng := Lib.hid hng
  have hz3 := hz2
  replace hz2 := Lib.hid hz2
  clear hh hl hu hu2 hov
  have ul0 := ul.1
  unfold th
  go_enter Try.func18, Try.ntmps18
  go_wp2_with fail
  refine (ris_any _ _).mono ?_; rintro e w' ⟨rfl, rfl⟩
  rw [show isW 2 = true from rfl]
  go_wp2_with fail
  refine (rzx_any _ _ ha _).mono ?_; rintro e w' ⟨rfl, rfl⟩
  go_wp2_with fail
  refine (rzx_any _ _ hb _).mono ?_; rintro e w' ⟨rfl, rfl⟩
  go_wp2_with fail
  refine (rmulU_any _ _ ua ub _).mono ?_; rintro e w' ⟨rfl, rfl⟩
  go_wp2_with fail
  refine (rsx_any _ _ ha _).mono ?_; rintro e w' ⟨rfl, rfl⟩
  go_wp2_with fail
  refine (rsx_any _ _ hb _).mono ?_; rintro e w' ⟨rfl, rfl⟩
  go_wp2_with fail
  refine (rmulS_any _ _ va vb _).mono ?_; rintro e w' ⟨rfl, rfl⟩
  rw [HH.out, HL.out]
  go_wp2_with fail
  refine (rzx_any _ _ ul _).mono ?_; rintro e w' ⟨rfl, rfl⟩
  go_wp2_with fail
  refine (rzx_any _ _ uq _).mono ?_; rintro e w' ⟨rfl, rfl⟩
  rw [HU.out]
  go_wp2_with fail
  refine (rneg_any _ _ uz _).mono ?_; rintro e w' ⟨rfl, rfl⟩
  rw [hng.out]
  go_wp2_with fail
  refine (rneg_any _ _ uz _).mono ?_; rintro e w' ⟨rfl, rfl⟩
  rw [hng.out]
  go_wp2_with fail
  refine (rsx_any _ _ uz _).mono ?_; rintro e w' ⟨rfl, rfl⟩
  go_wp2_with fail
  refine bodyPost_ret (v := .tuple #[.int .u64 (zx l 2), .int .u64 u, .agg #[.bool false, .bool false, .int .u64 (sx (zx l 2) 2)]]) (by simp [results, Try.results18, go_sem]) rfl ⟨by rw [← HO.out, hz2.out], ?_⟩
  exact (Kp.rfl W).new _
theorem rproduct_2_true_false_false (a b : Int) (ha : U64 a) (hb : U64 b) (hng : neg (zx (pLo a b true 2) 2) 2 = false) (hz : (pUp a b true 2 == 0) = false) (W : World) : Calls Try.prog 18 #[.int .u64 a, .int .u64 b, .bool true, .int .i64 2] W fun e W' => e = .returned (prd a b true 2) ∧ Kp W W' := by
  rw [prd_is a b true 2 (by decide)]
  have ua : U64 (zx a 2) := Cq.zx_u64 2
  have ub : U64 (zx b 2) := Cq.zx_u64 2
  have va : U64 (sx a 2) := Cq.sx_u64 2
  have vb : U64 (sx b 2) := Cq.sx_u64 2
  obtain ⟨h, hh⟩ : ∃ h, h = pHi a b true 2 := ⟨_, rfl⟩
  obtain ⟨l, hl⟩ : ∃ l, l = pLo a b true 2 := ⟨_, rfl⟩
  obtain ⟨u, hu⟩ : ∃ u, u = pUp a b true 2 := ⟨_, rfl⟩
  obtain ⟨ov, hov⟩ : ∃ ov, ov = pOver a b true 2 := ⟨_, rfl⟩
  have ul : U64 l := by rw [hl]; exact Cq.pLo_u64 _ _ _ _
  have uh : U64 h := by rw [hh]; exact Cq.pHi_u64 _ _ _ _
  have uu : U64 u := by rw [hu]; exact Cq.pUp_u64 _ _ _ _
  have uz : U64 (zx l 2) := Cq.zx_u64 2
  rw [← hov, ← hu, ← hl]
  rw [← hl] at hng
  rw [← hu] at hz
  have hz2 : (u != 0) = true := by rw [bne, hz]; rfl
  have hu2 : u = zx (l / 2 ^ 16) 2 := by rw [hu, hl]; rfl
  have HU : Hid (zx (l / 65536) 2 = u) := Lib.hid hu2.symm
  have uq : U64 (l / 65536) := by unfold U64 at *; omega
  have HO : Hid ((u != 0) = ov) := Lib.hid (by rw [hov, hu]; unfold pOver; rw [← hl, hng]; rfl)
  have HH : Hid (shi (sx a 2) (sx b 2) = h) := Lib.hid hh.symm
  have HL : Hid (mlo (sx a 2 * sx b 2) = l) := Lib.hid hl.symm
  replace hng := Lib.hid hng
  have hz3 := hz2
  replace hz2 := Lib.hid hz2
  clear hh hl hu hu2 hov
  have ul0 := ul.1
  unfold th
  go_enter Try.func18, Try.ntmps18
  go_wp2_with fail
  refine (ris_any _ _).mono ?_; rintro e w' ⟨rfl, rfl⟩
  rw [show isW 2 = true from rfl]
  go_wp2_with fail
  refine (rzx_any _ _ ha _).mono ?_; rintro e w' ⟨rfl, rfl⟩
  go_wp2_with fail
  refine (rzx_any _ _ hb _).mono ?_; rintro e w' ⟨rfl, rfl⟩
  go_wp2_with fail
  refine (rmulU_any _ _ ua ub _).mono ?_; rintro e w' ⟨rfl, rfl⟩
  go_wp2_with fail
  refine (rsx_any _ _ ha _).mono ?_; rintro e w' ⟨rfl, rfl⟩
  go_wp2_with fail
  refine (rsx_any _ _ hb _).mono ?_; rintro e w' ⟨rfl, rfl⟩
  go_wp2_with fail
  refine (rmulS_any _ _ va vb _).mono ?_; rintro e w' ⟨rfl, rfl⟩
  rw [HH.out, HL.out]
  go_wp2_with fail
  refine (rzx_any _ _ ul _).mono ?_; rintro e w' ⟨rfl, rfl⟩
  go_wp2_with fail
  refine (rzx_any _ _ uq _).mono ?_; rintro e w' ⟨rfl, rfl⟩
  rw [HU.out]
  go_wp2_with fail
  refine (rneg_any _ _ uz _).mono ?_; rintro e w' ⟨rfl, rfl⟩
  rw [hng.out]
  go_wp2_with fail
  refine (rsx_any _ _ uz _).mono ?_; rintro e w' ⟨rfl, rfl⟩
  go_wp2_with fail
  refine bodyPost_ret (v := .tuple #[.int .u64 (zx l 2), .int .u64 u, .agg #[.bool true, .bool true, .int .u64 (sx (zx l 2) 2)]]) (by simp [results, Try.results18, go_sem]) rfl ⟨by rw [← HO.out, hz2.out], ?_⟩
  exact (Kp.rfl W).new _
theorem rproduct_2_true_true_true (a b : Int) (ha : U64 a) (hb : U64 b) (hng : neg (zx (pLo a b true 2) 2) 2 = true) (hz : (pUp a b true 2 == 0) = true) (W : World) : Calls Try.prog 18 #[.int .u64 a, .int .u64 b, .bool true, .int .i64 2] W fun e W' => e = .returned (prd a b true 2) ∧ Kp W W' := by
  rw [prd_is a b true 2 (by decide)]
  have ua : U64 (zx a 2) := Cq.zx_u64 2
  have ub : U64 (zx b 2) := Cq.zx_u64 2
  have va : U64 (sx a 2) := Cq.sx_u64 2
  have vb : U64 (sx b 2) := Cq.sx_u64 2
  obtain ⟨h, hh⟩ : ∃ h, h = pHi a b true 2 := ⟨_, rfl⟩
  obtain ⟨l, hl⟩ : ∃ l, l = pLo a b true 2 := ⟨_, rfl⟩
  obtain ⟨u, hu⟩ : ∃ u, u = pUp a b true 2 := ⟨_, rfl⟩
  obtain ⟨ov, hov⟩ : ∃ ov, ov = pOver a b true 2 := ⟨_, rfl⟩
  have ul : U64 l := by rw [hl]; exact Cq.pLo_u64 _ _ _ _
  have uh : U64 h := by rw [hh]; exact Cq.pHi_u64 _ _ _ _
  have uu : U64 u := by rw [hu]; exact Cq.pUp_u64 _ _ _ _
  have uz : U64 (zx l 2) := Cq.zx_u64 2
  rw [← hov, ← hu, ← hl]
  rw [← hl] at hng
  rw [← hu] at hz
  have hz2 : (u != 0) = false := by rw [bne, hz]; rfl
  have hu2 : u = zx (l / 2 ^ 16) 2 := by rw [hu, hl]; rfl
  have HU : Hid (zx (l / 65536) 2 = u) := Lib.hid hu2.symm
  have uq : U64 (l / 65536) := by unfold U64 at *; omega
  have HO : Hid ((u != zx 18446744073709551615 2) = ov) := Lib.hid (by rw [hov, hu]; unfold pOver; rw [← hl, hng]; exact congrArg _ (by decide))
  have HH : Hid (shi (sx a 2) (sx b 2) = h) := Lib.hid hh.symm
  have HL : Hid (mlo (sx a 2 * sx b 2) = l) := Lib.hid hl.symm
  replace hng := Lib.hid hng
  have um : U64 18446744073709551615 := ⟨by decide, by decide⟩
  clear hh hl hu hu2 hov
  have ul0 := ul.1
  unfold th
  go_enter Try.func18, Try.ntmps18
  go_wp2_with fail
  refine (ris_any _ _).mono ?_; rintro e w' ⟨rfl, rfl⟩
  rw [show isW 2 = true from rfl]
  go_wp2_with fail
  refine (rzx_any _ _ ha _).mono ?_; rintro e w' ⟨rfl, rfl⟩
  go_wp2_with fail
  refine (rzx_any _ _ hb _).mono ?_; rintro e w' ⟨rfl, rfl⟩
  go_wp2_with fail
  refine (rmulU_any _ _ ua ub _).mono ?_; rintro e w' ⟨rfl, rfl⟩
  go_wp2_with fail
  refine (rsx_any _ _ ha _).mono ?_; rintro e w' ⟨rfl, rfl⟩
  go_wp2_with fail
  refine (rsx_any _ _ hb _).mono ?_; rintro e w' ⟨rfl, rfl⟩
  go_wp2_with fail
  refine (rmulS_any _ _ va vb _).mono ?_; rintro e w' ⟨rfl, rfl⟩
  rw [HH.out, HL.out]
  go_wp2_with fail
  refine (rzx_any _ _ ul _).mono ?_; rintro e w' ⟨rfl, rfl⟩
  go_wp2_with fail
  refine (rzx_any _ _ uq _).mono ?_; rintro e w' ⟨rfl, rfl⟩
  rw [HU.out]
  go_wp2_with fail
  refine (rneg_any _ _ uz _).mono ?_; rintro e w' ⟨rfl, rfl⟩
  rw [hng.out]
  go_wp2_with fail
  refine (rneg_any _ _ uz _).mono ?_; rintro e w' ⟨rfl, rfl⟩
  rw [hng.out]
  go_wp2_with fail
  refine (rzx_any _ _ um _).mono ?_; rintro e w' ⟨rfl, rfl⟩
  go_wp2_with fail
  refine (rsx_any _ _ uz _).mono ?_; rintro e w' ⟨rfl, rfl⟩
  go_wp2_with fail
  refine bodyPost_ret (v := .tuple #[.int .u64 (zx l 2), .int .u64 u, .agg #[.bool (u != zx 18446744073709551615 2), .bool (u != zx 18446744073709551615 2), .int .u64 (sx (zx l 2) 2)]]) (by simp [results, Try.results18, go_sem, bne]) rfl ⟨by rw [← HO.out], ?_⟩
  exact (Kp.rfl W).new _
theorem rproduct_2_true_true_false (a b : Int) (ha : U64 a) (hb : U64 b) (hng : neg (zx (pLo a b true 2) 2) 2 = true) (hz : (pUp a b true 2 == 0) = false) (W : World) : Calls Try.prog 18 #[.int .u64 a, .int .u64 b, .bool true, .int .i64 2] W fun e W' => e = .returned (prd a b true 2) ∧ Kp W W' := by
  rw [prd_is a b true 2 (by decide)]
  have ua : U64 (zx a 2) := Cq.zx_u64 2
  have ub : U64 (zx b 2) := Cq.zx_u64 2
  have va : U64 (sx a 2) := Cq.sx_u64 2
  have vb : U64 (sx b 2) := Cq.sx_u64 2
  obtain ⟨h, hh⟩ : ∃ h, h = pHi a b true 2 := ⟨_, rfl⟩
  obtain ⟨l, hl⟩ : ∃ l, l = pLo a b true 2 := ⟨_, rfl⟩
  obtain ⟨u, hu⟩ : ∃ u, u = pUp a b true 2 := ⟨_, rfl⟩
  obtain ⟨ov, hov⟩ : ∃ ov, ov = pOver a b true 2 := ⟨_, rfl⟩
  have ul : U64 l := by rw [hl]; exact Cq.pLo_u64 _ _ _ _
  have uh : U64 h := by rw [hh]; exact Cq.pHi_u64 _ _ _ _
  have uu : U64 u := by rw [hu]; exact Cq.pUp_u64 _ _ _ _
  have uz : U64 (zx l 2) := Cq.zx_u64 2
  rw [← hov, ← hu, ← hl]
  rw [← hl] at hng
  rw [← hu] at hz
  have hz2 : (u != 0) = true := by rw [bne, hz]; rfl
  have hu2 : u = zx (l / 2 ^ 16) 2 := by rw [hu, hl]; rfl
  have HU : Hid (zx (l / 65536) 2 = u) := Lib.hid hu2.symm
  have uq : U64 (l / 65536) := by unfold U64 at *; omega
  have HO : Hid ((u != zx 18446744073709551615 2) = ov) := Lib.hid (by rw [hov, hu]; unfold pOver; rw [← hl, hng]; exact congrArg _ (by decide))
  have HH : Hid (shi (sx a 2) (sx b 2) = h) := Lib.hid hh.symm
  have HL : Hid (mlo (sx a 2 * sx b 2) = l) := Lib.hid hl.symm
  replace hng := Lib.hid hng
  have um : U64 18446744073709551615 := ⟨by decide, by decide⟩
  clear hh hl hu hu2 hov
  have ul0 := ul.1
  unfold th
  go_enter Try.func18, Try.ntmps18
  go_wp2_with fail
  refine (ris_any _ _).mono ?_; rintro e w' ⟨rfl, rfl⟩
  rw [show isW 2 = true from rfl]
  go_wp2_with fail
  refine (rzx_any _ _ ha _).mono ?_; rintro e w' ⟨rfl, rfl⟩
  go_wp2_with fail
  refine (rzx_any _ _ hb _).mono ?_; rintro e w' ⟨rfl, rfl⟩
  go_wp2_with fail
  refine (rmulU_any _ _ ua ub _).mono ?_; rintro e w' ⟨rfl, rfl⟩
  go_wp2_with fail
  refine (rsx_any _ _ ha _).mono ?_; rintro e w' ⟨rfl, rfl⟩
  go_wp2_with fail
  refine (rsx_any _ _ hb _).mono ?_; rintro e w' ⟨rfl, rfl⟩
  go_wp2_with fail
  refine (rmulS_any _ _ va vb _).mono ?_; rintro e w' ⟨rfl, rfl⟩
  rw [HH.out, HL.out]
  go_wp2_with fail
  refine (rzx_any _ _ ul _).mono ?_; rintro e w' ⟨rfl, rfl⟩
  go_wp2_with fail
  refine (rzx_any _ _ uq _).mono ?_; rintro e w' ⟨rfl, rfl⟩
  rw [HU.out]
  go_wp2_with fail
  refine (rneg_any _ _ uz _).mono ?_; rintro e w' ⟨rfl, rfl⟩
  rw [hng.out]
  go_wp2_with fail
  refine (rzx_any _ _ um _).mono ?_; rintro e w' ⟨rfl, rfl⟩
  go_wp2_with fail
  refine (rsx_any _ _ uz _).mono ?_; rintro e w' ⟨rfl, rfl⟩
  go_wp2_with fail
  refine bodyPost_ret (v := .tuple #[.int .u64 (zx l 2), .int .u64 u, .agg #[.bool (u != zx 18446744073709551615 2), .bool (u != zx 18446744073709551615 2), .int .u64 (sx (zx l 2) 2)]]) (by simp [results, Try.results18, go_sem, bne]) rfl ⟨by rw [← HO.out], ?_⟩
  exact (Kp.rfl W).new _
theorem rproduct_4_false (a b : Int) (ha : U64 a) (hb : U64 b) (W : World) : Calls Try.prog 18 #[.int .u64 a, .int .u64 b, .bool false, .int .i64 4] W fun e W' => e = .returned (prd a b false 4) ∧ Kp W W' := by
  rw [prd_is a b false 4 (by decide)]
  have ua : U64 (zx a 4) := Cq.zx_u64 4
  have ub : U64 (zx b 4) := Cq.zx_u64 4
  obtain ⟨h, hh⟩ : ∃ h, h = pHi a b false 4 := ⟨_, rfl⟩
  obtain ⟨l, hl⟩ : ∃ l, l = pLo a b false 4 := ⟨_, rfl⟩
  obtain ⟨u, hu⟩ : ∃ u, u = pUp a b false 4 := ⟨_, rfl⟩
  obtain ⟨ov, hov⟩ : ∃ ov, ov = pOver a b false 4 := ⟨_, rfl⟩
  have ul : U64 l := by rw [hl]; exact Cq.pLo_u64 _ _ _ _
  have uh : U64 h := by rw [hh]; exact Cq.pHi_u64 _ _ _ _
  have uu : U64 u := by rw [hu]; exact Cq.pUp_u64 _ _ _ _
  have uz : U64 (zx l 4) := Cq.zx_u64 4
  rw [← hov, ← hu, ← hl]
  have hu2 : u = zx (l / 2 ^ 32) 4 := by rw [hu, hl]; rfl
  have HU : Hid (zx (l / 4294967296) 4 = u) := Lib.hid hu2.symm
  have uq : U64 (l / 4294967296) := by unfold U64 at *; omega
  have HO : Hid ((u != 0) = ov) := Lib.hid (by rw [hov, hu]; unfold pOver; rfl)
  have HH : Hid (mhi (zx a 4 * zx b 4) = h) := Lib.hid hh.symm
  have HL : Hid (mlo (zx a 4 * zx b 4) = l) := Lib.hid hl.symm
  clear hh hl hu hu2 hov
  have ul0 := ul.1
  unfold th
  go_enter Try.func18, Try.ntmps18
  go_wp2_with fail
  refine (ris_any _ _).mono ?_; rintro e w' ⟨rfl, rfl⟩
  rw [show isW 4 = true from rfl]
  go_wp2_with fail
  refine (rzx_any _ _ ha _).mono ?_; rintro e w' ⟨rfl, rfl⟩
  go_wp2_with fail
  refine (rzx_any _ _ hb _).mono ?_; rintro e w' ⟨rfl, rfl⟩
  go_wp2_with fail
  refine (rmulU_any _ _ ua ub _).mono ?_; rintro e w' ⟨rfl, rfl⟩
  rw [HH.out, HL.out]
  go_wp2_with fail
  refine (rzx_any _ _ ul _).mono ?_; rintro e w' ⟨rfl, rfl⟩
  go_wp2_with fail
  refine (rzx_any _ _ uq _).mono ?_; rintro e w' ⟨rfl, rfl⟩
  rw [HU.out]
  go_wp2_with fail
  refine (rsx_any _ _ uz _).mono ?_; rintro e w' ⟨rfl, rfl⟩
  go_wp2_with fail
  refine bodyPost_ret (v := .tuple #[.int .u64 (zx l 4), .int .u64 u, .agg #[.bool (u != 0), .bool (u != 0), .int .u64 (sx (zx l 4) 4)]]) (by simp [results, Try.results18, go_sem, bne]) rfl ⟨by rw [← HO.out], ?_⟩
  exact (Kp.rfl W).new _
theorem rproduct_4_true_false_true (a b : Int) (ha : U64 a) (hb : U64 b) (hng : neg (zx (pLo a b true 4) 4) 4 = false) (hz : (pUp a b true 4 == 0) = true) (W : World) : Calls Try.prog 18 #[.int .u64 a, .int .u64 b, .bool true, .int .i64 4] W fun e W' => e = .returned (prd a b true 4) ∧ Kp W W' := by
  rw [prd_is a b true 4 (by decide)]
  have ua : U64 (zx a 4) := Cq.zx_u64 4
  have ub : U64 (zx b 4) := Cq.zx_u64 4
  have va : U64 (sx a 4) := Cq.sx_u64 4
  have vb : U64 (sx b 4) := Cq.sx_u64 4
  obtain ⟨h, hh⟩ : ∃ h, h = pHi a b true 4 := ⟨_, rfl⟩
  obtain ⟨l, hl⟩ : ∃ l, l = pLo a b true 4 := ⟨_, rfl⟩
  obtain ⟨u, hu⟩ : ∃ u, u = pUp a b true 4 := ⟨_, rfl⟩
  obtain ⟨ov, hov⟩ : ∃ ov, ov = pOver a b true 4 := ⟨_, rfl⟩
  have ul : U64 l := by rw [hl]; exact Cq.pLo_u64 _ _ _ _
  have uh : U64 h := by rw [hh]; exact Cq.pHi_u64 _ _ _ _
  have uu : U64 u := by rw [hu]; exact Cq.pUp_u64 _ _ _ _
  have uz : U64 (zx l 4) := Cq.zx_u64 4
  rw [← hov, ← hu, ← hl]
  rw [← hl] at hng
  rw [← hu] at hz
  have hz2 : (u != 0) = false := by rw [bne, hz]; rfl
  have hu2 : u = zx (l / 2 ^ 32) 4 := by rw [hu, hl]; rfl
  have HU : Hid (zx (l / 4294967296) 4 = u) := Lib.hid hu2.symm
  have uq : U64 (l / 4294967296) := by unfold U64 at *; omega
  have HO : Hid ((u != 0) = ov) := Lib.hid (by rw [hov, hu]; unfold pOver; rw [← hl, hng]; rfl)
  have HH : Hid (shi (sx a 4) (sx b 4) = h) := Lib.hid hh.symm
  have HL : Hid (mlo (sx a 4 * sx b 4) = l) := Lib.hid hl.symm
  replace hng := Lib.hid hng
  have hz3 := hz2
  replace hz2 := Lib.hid hz2
  clear hh hl hu hu2 hov
  have ul0 := ul.1
  unfold th
  go_enter Try.func18, Try.ntmps18
  go_wp2_with fail
  refine (ris_any _ _).mono ?_; rintro e w' ⟨rfl, rfl⟩
  rw [show isW 4 = true from rfl]
  go_wp2_with fail
  refine (rzx_any _ _ ha _).mono ?_; rintro e w' ⟨rfl, rfl⟩
  go_wp2_with fail
  refine (rzx_any _ _ hb _).mono ?_; rintro e w' ⟨rfl, rfl⟩
  go_wp2_with fail
  refine (rmulU_any _ _ ua ub _).mono ?_; rintro e w' ⟨rfl, rfl⟩
  go_wp2_with fail
  refine (rsx_any _ _ ha _).mono ?_; rintro e w' ⟨rfl, rfl⟩
  go_wp2_with fail
  refine (rsx_any _ _ hb _).mono ?_; rintro e w' ⟨rfl, rfl⟩
  go_wp2_with fail
  refine (rmulS_any _ _ va vb _).mono ?_; rintro e w' ⟨rfl, rfl⟩
  rw [HH.out, HL.out]
  go_wp2_with fail
  refine (rzx_any _ _ ul _).mono ?_; rintro e w' ⟨rfl, rfl⟩
  go_wp2_with fail
  refine (rzx_any _ _ uq _).mono ?_; rintro e w' ⟨rfl, rfl⟩
  rw [HU.out]
  go_wp2_with fail
  refine (rneg_any _ _ uz _).mono ?_; rintro e w' ⟨rfl, rfl⟩
  rw [hng.out]
  go_wp2_with fail
  refine (rneg_any _ _ uz _).mono ?_; rintro e w' ⟨rfl, rfl⟩
  rw [hng.out]
  go_wp2_with fail
  refine (rsx_any _ _ uz _).mono ?_; rintro e w' ⟨rfl, rfl⟩
  go_wp2_with fail
  refine bodyPost_ret (v := .tuple #[.int .u64 (zx l 4), .int .u64 u, .agg #[.bool false, .bool false, .int .u64 (sx (zx l 4) 4)]]) (by simp [results, Try.results18, go_sem]) rfl ⟨by rw [← HO.out, hz2.out], ?_⟩
  exact (Kp.rfl W).new _
theorem rproduct_4_true_false_false (a b : Int) (ha : U64 a) (hb : U64 b) (hng : neg (zx (pLo a b true 4) 4) 4 = false) (hz : (pUp a b true 4 == 0) = false) (W : World) : Calls Try.prog 18 #[.int .u64 a, .int .u64 b, .bool true, .int .i64 4] W fun e W' => e = .returned (prd a b true 4) ∧ Kp W W' := by
  rw [prd_is a b true 4 (by decide)]
  have ua : U64 (zx a 4) := Cq.zx_u64 4
  have ub : U64 (zx b 4) := Cq.zx_u64 4
  have va : U64 (sx a 4) := Cq.sx_u64 4
  have vb : U64 (sx b 4) := Cq.sx_u64 4
  obtain ⟨h, hh⟩ : ∃ h, h = pHi a b true 4 := ⟨_, rfl⟩
  obtain ⟨l, hl⟩ : ∃ l, l = pLo a b true 4 := ⟨_, rfl⟩
  obtain ⟨u, hu⟩ : ∃ u, u = pUp a b true 4 := ⟨_, rfl⟩
  obtain ⟨ov, hov⟩ : ∃ ov, ov = pOver a b true 4 := ⟨_, rfl⟩
  have ul : U64 l := by rw [hl]; exact Cq.pLo_u64 _ _ _ _
  have uh : U64 h := by rw [hh]; exact Cq.pHi_u64 _ _ _ _
  have uu : U64 u := by rw [hu]; exact Cq.pUp_u64 _ _ _ _
  have uz : U64 (zx l 4) := Cq.zx_u64 4
  rw [← hov, ← hu, ← hl]
  rw [← hl] at hng
  rw [← hu] at hz
  have hz2 : (u != 0) = true := by rw [bne, hz]; rfl
  have hu2 : u = zx (l / 2 ^ 32) 4 := by rw [hu, hl]; rfl
  have HU : Hid (zx (l / 4294967296) 4 = u) := Lib.hid hu2.symm
  have uq : U64 (l / 4294967296) := by unfold U64 at *; omega
  have HO : Hid ((u != 0) = ov) := Lib.hid (by rw [hov, hu]; unfold pOver; rw [← hl, hng]; rfl)
  have HH : Hid (shi (sx a 4) (sx b 4) = h) := Lib.hid hh.symm
  have HL : Hid (mlo (sx a 4 * sx b 4) = l) := Lib.hid hl.symm
  replace hng := Lib.hid hng
  have hz3 := hz2
  replace hz2 := Lib.hid hz2
  clear hh hl hu hu2 hov
  have ul0 := ul.1
  unfold th
  go_enter Try.func18, Try.ntmps18
  go_wp2_with fail
  refine (ris_any _ _).mono ?_; rintro e w' ⟨rfl, rfl⟩
  rw [show isW 4 = true from rfl]
  go_wp2_with fail
  refine (rzx_any _ _ ha _).mono ?_; rintro e w' ⟨rfl, rfl⟩
  go_wp2_with fail
  refine (rzx_any _ _ hb _).mono ?_; rintro e w' ⟨rfl, rfl⟩
  go_wp2_with fail
  refine (rmulU_any _ _ ua ub _).mono ?_; rintro e w' ⟨rfl, rfl⟩
  go_wp2_with fail
  refine (rsx_any _ _ ha _).mono ?_; rintro e w' ⟨rfl, rfl⟩
  go_wp2_with fail
  refine (rsx_any _ _ hb _).mono ?_; rintro e w' ⟨rfl, rfl⟩
  go_wp2_with fail
  refine (rmulS_any _ _ va vb _).mono ?_; rintro e w' ⟨rfl, rfl⟩
  rw [HH.out, HL.out]
  go_wp2_with fail
  refine (rzx_any _ _ ul _).mono ?_; rintro e w' ⟨rfl, rfl⟩
  go_wp2_with fail
  refine (rzx_any _ _ uq _).mono ?_; rintro e w' ⟨rfl, rfl⟩
  rw [HU.out]
  go_wp2_with fail
  refine (rneg_any _ _ uz _).mono ?_; rintro e w' ⟨rfl, rfl⟩
  rw [hng.out]
  go_wp2_with fail
  refine (rsx_any _ _ uz _).mono ?_; rintro e w' ⟨rfl, rfl⟩
  go_wp2_with fail
  refine bodyPost_ret (v := .tuple #[.int .u64 (zx l 4), .int .u64 u, .agg #[.bool true, .bool true, .int .u64 (sx (zx l 4) 4)]]) (by simp [results, Try.results18, go_sem]) rfl ⟨by rw [← HO.out, hz2.out], ?_⟩
  exact (Kp.rfl W).new _
theorem rproduct_4_true_true_true (a b : Int) (ha : U64 a) (hb : U64 b) (hng : neg (zx (pLo a b true 4) 4) 4 = true) (hz : (pUp a b true 4 == 0) = true) (W : World) : Calls Try.prog 18 #[.int .u64 a, .int .u64 b, .bool true, .int .i64 4] W fun e W' => e = .returned (prd a b true 4) ∧ Kp W W' := by
  rw [prd_is a b true 4 (by decide)]
  have ua : U64 (zx a 4) := Cq.zx_u64 4
  have ub : U64 (zx b 4) := Cq.zx_u64 4
  have va : U64 (sx a 4) := Cq.sx_u64 4
  have vb : U64 (sx b 4) := Cq.sx_u64 4
  obtain ⟨h, hh⟩ : ∃ h, h = pHi a b true 4 := ⟨_, rfl⟩
  obtain ⟨l, hl⟩ : ∃ l, l = pLo a b true 4 := ⟨_, rfl⟩
  obtain ⟨u, hu⟩ : ∃ u, u = pUp a b true 4 := ⟨_, rfl⟩
  obtain ⟨ov, hov⟩ : ∃ ov, ov = pOver a b true 4 := ⟨_, rfl⟩
  have ul : U64 l := by rw [hl]; exact Cq.pLo_u64 _ _ _ _
  have uh : U64 h := by rw [hh]; exact Cq.pHi_u64 _ _ _ _
  have uu : U64 u := by rw [hu]; exact Cq.pUp_u64 _ _ _ _
  have uz : U64 (zx l 4) := Cq.zx_u64 4
  rw [← hov, ← hu, ← hl]
  rw [← hl] at hng
  rw [← hu] at hz
  have hz2 : (u != 0) = false := by rw [bne, hz]; rfl
  have hu2 : u = zx (l / 2 ^ 32) 4 := by rw [hu, hl]; rfl
  have HU : Hid (zx (l / 4294967296) 4 = u) := Lib.hid hu2.symm
  have uq : U64 (l / 4294967296) := by unfold U64 at *; omega
  have HO : Hid ((u != zx 18446744073709551615 4) = ov) := Lib.hid (by rw [hov, hu]; unfold pOver; rw [← hl, hng]; exact congrArg _ (by decide))
  have HH : Hid (shi (sx a 4) (sx b 4) = h) := Lib.hid hh.symm
  have HL : Hid (mlo (sx a 4 * sx b 4) = l) := Lib.hid hl.symm
  replace hng := Lib.hid hng
  have um : U64 18446744073709551615 := ⟨by decide, by decide⟩
  clear hh hl hu hu2 hov
  have ul0 := ul.1
  unfold th
  go_enter Try.func18, Try.ntmps18
  go_wp2_with fail
  refine (ris_any _ _).mono ?_; rintro e w' ⟨rfl, rfl⟩
  rw [show isW 4 = true from rfl]
  go_wp2_with fail
  refine (rzx_any _ _ ha _).mono ?_; rintro e w' ⟨rfl, rfl⟩
  go_wp2_with fail
  refine (rzx_any _ _ hb _).mono ?_; rintro e w' ⟨rfl, rfl⟩
  go_wp2_with fail
  refine (rmulU_any _ _ ua ub _).mono ?_; rintro e w' ⟨rfl, rfl⟩
  go_wp2_with fail
  refine (rsx_any _ _ ha _).mono ?_; rintro e w' ⟨rfl, rfl⟩
  go_wp2_with fail
  refine (rsx_any _ _ hb _).mono ?_; rintro e w' ⟨rfl, rfl⟩
  go_wp2_with fail
  refine (rmulS_any _ _ va vb _).mono ?_; rintro e w' ⟨rfl, rfl⟩
  rw [HH.out, HL.out]
  go_wp2_with fail
  refine (rzx_any _ _ ul _).mono ?_; rintro e w' ⟨rfl, rfl⟩
  go_wp2_with fail
  refine (rzx_any _ _ uq _).mono ?_; rintro e w' ⟨rfl, rfl⟩
  rw [HU.out]
  go_wp2_with fail
  refine (rneg_any _ _ uz _).mono ?_; rintro e w' ⟨rfl, rfl⟩
  rw [hng.out]
  go_wp2_with fail
  refine (rneg_any _ _ uz _).mono ?_; rintro e w' ⟨rfl, rfl⟩
  rw [hng.out]
  go_wp2_with fail
  refine (rzx_any _ _ um _).mono ?_; rintro e w' ⟨rfl, rfl⟩
  go_wp2_with fail
  refine (rsx_any _ _ uz _).mono ?_; rintro e w' ⟨rfl, rfl⟩
  go_wp2_with fail
  refine bodyPost_ret (v := .tuple #[.int .u64 (zx l 4), .int .u64 u, .agg #[.bool (u != zx 18446744073709551615 4), .bool (u != zx 18446744073709551615 4), .int .u64 (sx (zx l 4) 4)]]) (by simp [results, Try.results18, go_sem, bne]) rfl ⟨by rw [← HO.out], ?_⟩
  exact (Kp.rfl W).new _
theorem rproduct_4_true_true_false (a b : Int) (ha : U64 a) (hb : U64 b) (hng : neg (zx (pLo a b true 4) 4) 4 = true) (hz : (pUp a b true 4 == 0) = false) (W : World) : Calls Try.prog 18 #[.int .u64 a, .int .u64 b, .bool true, .int .i64 4] W fun e W' => e = .returned (prd a b true 4) ∧ Kp W W' := by
  rw [prd_is a b true 4 (by decide)]
  have ua : U64 (zx a 4) := Cq.zx_u64 4
  have ub : U64 (zx b 4) := Cq.zx_u64 4
  have va : U64 (sx a 4) := Cq.sx_u64 4
  have vb : U64 (sx b 4) := Cq.sx_u64 4
  obtain ⟨h, hh⟩ : ∃ h, h = pHi a b true 4 := ⟨_, rfl⟩
  obtain ⟨l, hl⟩ : ∃ l, l = pLo a b true 4 := ⟨_, rfl⟩
  obtain ⟨u, hu⟩ : ∃ u, u = pUp a b true 4 := ⟨_, rfl⟩
  obtain ⟨ov, hov⟩ : ∃ ov, ov = pOver a b true 4 := ⟨_, rfl⟩
  have ul : U64 l := by rw [hl]; exact Cq.pLo_u64 _ _ _ _
  have uh : U64 h := by rw [hh]; exact Cq.pHi_u64 _ _ _ _
  have uu : U64 u := by rw [hu]; exact Cq.pUp_u64 _ _ _ _
  have uz : U64 (zx l 4) := Cq.zx_u64 4
  rw [← hov, ← hu, ← hl]
  rw [← hl] at hng
  rw [← hu] at hz
  have hz2 : (u != 0) = true := by rw [bne, hz]; rfl
  have hu2 : u = zx (l / 2 ^ 32) 4 := by rw [hu, hl]; rfl
  have HU : Hid (zx (l / 4294967296) 4 = u) := Lib.hid hu2.symm
  have uq : U64 (l / 4294967296) := by unfold U64 at *; omega
  have HO : Hid ((u != zx 18446744073709551615 4) = ov) := Lib.hid (by rw [hov, hu]; unfold pOver; rw [← hl, hng]; exact congrArg _ (by decide))
  have HH : Hid (shi (sx a 4) (sx b 4) = h) := Lib.hid hh.symm
  have HL : Hid (mlo (sx a 4 * sx b 4) = l) := Lib.hid hl.symm
  replace hng := Lib.hid hng
  have um : U64 18446744073709551615 := ⟨by decide, by decide⟩
  clear hh hl hu hu2 hov
  have ul0 := ul.1
  unfold th
  go_enter Try.func18, Try.ntmps18
  go_wp2_with fail
  refine (ris_any _ _).mono ?_; rintro e w' ⟨rfl, rfl⟩
  rw [show isW 4 = true from rfl]
  go_wp2_with fail
  refine (rzx_any _ _ ha _).mono ?_; rintro e w' ⟨rfl, rfl⟩
  go_wp2_with fail
  refine (rzx_any _ _ hb _).mono ?_; rintro e w' ⟨rfl, rfl⟩
  go_wp2_with fail
  refine (rmulU_any _ _ ua ub _).mono ?_; rintro e w' ⟨rfl, rfl⟩
  go_wp2_with fail
  refine (rsx_any _ _ ha _).mono ?_; rintro e w' ⟨rfl, rfl⟩
  go_wp2_with fail
  refine (rsx_any _ _ hb _).mono ?_; rintro e w' ⟨rfl, rfl⟩
  go_wp2_with fail
  refine (rmulS_any _ _ va vb _).mono ?_; rintro e w' ⟨rfl, rfl⟩
  rw [HH.out, HL.out]
  go_wp2_with fail
  refine (rzx_any _ _ ul _).mono ?_; rintro e w' ⟨rfl, rfl⟩
  go_wp2_with fail
  refine (rzx_any _ _ uq _).mono ?_; rintro e w' ⟨rfl, rfl⟩
  rw [HU.out]
  go_wp2_with fail
  refine (rneg_any _ _ uz _).mono ?_; rintro e w' ⟨rfl, rfl⟩
  rw [hng.out]
  go_wp2_with fail
  refine (rzx_any _ _ um _).mono ?_; rintro e w' ⟨rfl, rfl⟩
  go_wp2_with fail
  refine (rsx_any _ _ uz _).mono ?_; rintro e w' ⟨rfl, rfl⟩
  go_wp2_with fail
  refine bodyPost_ret (v := .tuple #[.int .u64 (zx l 4), .int .u64 u, .agg #[.bool (u != zx 18446744073709551615 4), .bool (u != zx 18446744073709551615 4), .int .u64 (sx (zx l 4) 4)]]) (by simp [results, Try.results18, go_sem, bne]) rfl ⟨by rw [← HO.out], ?_⟩
  exact (Kp.rfl W).new _
theorem rproduct_8_false (a b : Int) (ha : U64 a) (hb : U64 b) (W : World) : Calls Try.prog 18 #[.int .u64 a, .int .u64 b, .bool false, .int .i64 8] W fun e W' => e = .returned (prd a b false 8) ∧ Kp W W' := by
  rw [prd_is a b false 8 (by decide)]
  have ua : U64 (zx a 8) := Cq.zx_u64 8
  have ub : U64 (zx b 8) := Cq.zx_u64 8
  obtain ⟨h, hh⟩ : ∃ h, h = pHi a b false 8 := ⟨_, rfl⟩
  obtain ⟨l, hl⟩ : ∃ l, l = pLo a b false 8 := ⟨_, rfl⟩
  obtain ⟨u, hu⟩ : ∃ u, u = pUp a b false 8 := ⟨_, rfl⟩
  obtain ⟨ov, hov⟩ : ∃ ov, ov = pOver a b false 8 := ⟨_, rfl⟩
  have ul : U64 l := by rw [hl]; exact Cq.pLo_u64 _ _ _ _
  have uh : U64 h := by rw [hh]; exact Cq.pHi_u64 _ _ _ _
  have uu : U64 u := by rw [hu]; exact Cq.pUp_u64 _ _ _ _
  have uz : U64 (zx l 8) := Cq.zx_u64 8
  rw [← hov, ← hu, ← hl]
  have hu2 : u = h := by rw [hu, hh]; rfl
  have HU : Hid (zx h 8 = u) := Lib.hid (by rw [hu2]; exact Cq.zx8 uh)
  have HO : Hid ((u != 0) = ov) := Lib.hid (by rw [hov, hu]; unfold pOver; rfl)
  have HH : Hid (mhi (zx a 8 * zx b 8) = h) := Lib.hid hh.symm
  have HL : Hid (mlo (zx a 8 * zx b 8) = l) := Lib.hid hl.symm
  clear hh hl hu hu2 hov
  have ul0 := ul.1
  unfold th
  go_enter Try.func18, Try.ntmps18
  go_wp2_with fail
  refine (ris_any _ _).mono ?_; rintro e w' ⟨rfl, rfl⟩
  rw [show isW 8 = true from rfl]
  go_wp2_with fail
  refine (rzx_any _ _ ha _).mono ?_; rintro e w' ⟨rfl, rfl⟩
  go_wp2_with fail
  refine (rzx_any _ _ hb _).mono ?_; rintro e w' ⟨rfl, rfl⟩
  go_wp2_with fail
  refine (rmulU_any _ _ ua ub _).mono ?_; rintro e w' ⟨rfl, rfl⟩
  rw [HH.out, HL.out]
  go_wp2_with fail
  refine (rzx_any _ _ ul _).mono ?_; rintro e w' ⟨rfl, rfl⟩
  go_wp2_with fail
  refine (rzx_any _ _ uh _).mono ?_; rintro e w' ⟨rfl, rfl⟩
  rw [HU.out]
  go_wp2_with fail
  refine (rsx_any _ _ uz _).mono ?_; rintro e w' ⟨rfl, rfl⟩
  go_wp2_with fail
  refine bodyPost_ret (v := .tuple #[.int .u64 (zx l 8), .int .u64 u, .agg #[.bool (u != 0), .bool (u != 0), .int .u64 (sx (zx l 8) 8)]]) (by simp [results, Try.results18, go_sem, bne]) rfl ⟨by rw [← HO.out], ?_⟩
  exact (Kp.rfl W).new _
theorem rproduct_8_true_false_true (a b : Int) (ha : U64 a) (hb : U64 b) (hng : neg (zx (pLo a b true 8) 8) 8 = false) (hz : (pUp a b true 8 == 0) = true) (W : World) : Calls Try.prog 18 #[.int .u64 a, .int .u64 b, .bool true, .int .i64 8] W fun e W' => e = .returned (prd a b true 8) ∧ Kp W W' := by
  rw [prd_is a b true 8 (by decide)]
  have ua : U64 (zx a 8) := Cq.zx_u64 8
  have ub : U64 (zx b 8) := Cq.zx_u64 8
  have va : U64 (sx a 8) := Cq.sx_u64 8
  have vb : U64 (sx b 8) := Cq.sx_u64 8
  obtain ⟨h, hh⟩ : ∃ h, h = pHi a b true 8 := ⟨_, rfl⟩
  obtain ⟨l, hl⟩ : ∃ l, l = pLo a b true 8 := ⟨_, rfl⟩
  obtain ⟨u, hu⟩ : ∃ u, u = pUp a b true 8 := ⟨_, rfl⟩
  obtain ⟨ov, hov⟩ : ∃ ov, ov = pOver a b true 8 := ⟨_, rfl⟩
  have ul : U64 l := by rw [hl]; exact Cq.pLo_u64 _ _ _ _
  have uh : U64 h := by rw [hh]; exact Cq.pHi_u64 _ _ _ _
  have uu : U64 u := by rw [hu]; exact Cq.pUp_u64 _ _ _ _
  have uz : U64 (zx l 8) := Cq.zx_u64 8
  rw [← hov, ← hu, ← hl]
  rw [← hl] at hng
  rw [← hu] at hz
  have hz2 : (u != 0) = false := by rw [bne, hz]; rfl
  have hu2 : u = h := by rw [hu, hh]; rfl
  have HU : Hid (zx h 8 = u) := Lib.hid (by rw [hu2]; exact Cq.zx8 uh)
  have HO : Hid ((u != 0) = ov) := Lib.hid (by rw [hov, hu]; unfold pOver; rw [← hl, hng]; rfl)
  have HH : Hid (shi (sx a 8) (sx b 8) = h) := Lib.hid hh.symm
  have HL : Hid (mlo (sx a 8 * sx b 8) = l) := Lib.hid hl.symm
  replace hng := Lib.hid hng
  have hz3 := hz2
  replace hz2 := Lib.hid hz2
  clear hh hl hu hu2 hov
  have ul0 := ul.1
  unfold th
  go_enter Try.func18, Try.ntmps18
  go_wp2_with fail
  refine (ris_any _ _).mono ?_; rintro e w' ⟨rfl, rfl⟩
  rw [show isW 8 = true from rfl]
  go_wp2_with fail
  refine (rzx_any _ _ ha _).mono ?_; rintro e w' ⟨rfl, rfl⟩
  go_wp2_with fail
  refine (rzx_any _ _ hb _).mono ?_; rintro e w' ⟨rfl, rfl⟩
  go_wp2_with fail
  refine (rmulU_any _ _ ua ub _).mono ?_; rintro e w' ⟨rfl, rfl⟩
  go_wp2_with fail
  refine (rsx_any _ _ ha _).mono ?_; rintro e w' ⟨rfl, rfl⟩
  go_wp2_with fail
  refine (rsx_any _ _ hb _).mono ?_; rintro e w' ⟨rfl, rfl⟩
  go_wp2_with fail
  refine (rmulS_any _ _ va vb _).mono ?_; rintro e w' ⟨rfl, rfl⟩
  rw [HH.out, HL.out]
  go_wp2_with fail
  refine (rzx_any _ _ ul _).mono ?_; rintro e w' ⟨rfl, rfl⟩
  go_wp2_with fail
  refine (rzx_any _ _ uh _).mono ?_; rintro e w' ⟨rfl, rfl⟩
  rw [HU.out]
  go_wp2_with fail
  refine (rneg_any _ _ uz _).mono ?_; rintro e w' ⟨rfl, rfl⟩
  rw [hng.out]
  go_wp2_with fail
  refine (rneg_any _ _ uz _).mono ?_; rintro e w' ⟨rfl, rfl⟩
  rw [hng.out]
  go_wp2_with fail
  refine (rsx_any _ _ uz _).mono ?_; rintro e w' ⟨rfl, rfl⟩
  go_wp2_with fail
  refine bodyPost_ret (v := .tuple #[.int .u64 (zx l 8), .int .u64 u, .agg #[.bool false, .bool false, .int .u64 (sx (zx l 8) 8)]]) (by simp [results, Try.results18, go_sem]) rfl ⟨by rw [← HO.out, hz2.out], ?_⟩
  exact (Kp.rfl W).new _
theorem rproduct_8_true_false_false (a b : Int) (ha : U64 a) (hb : U64 b) (hng : neg (zx (pLo a b true 8) 8) 8 = false) (hz : (pUp a b true 8 == 0) = false) (W : World) : Calls Try.prog 18 #[.int .u64 a, .int .u64 b, .bool true, .int .i64 8] W fun e W' => e = .returned (prd a b true 8) ∧ Kp W W' := by
  rw [prd_is a b true 8 (by decide)]
  have ua : U64 (zx a 8) := Cq.zx_u64 8
  have ub : U64 (zx b 8) := Cq.zx_u64 8
  have va : U64 (sx a 8) := Cq.sx_u64 8
  have vb : U64 (sx b 8) := Cq.sx_u64 8
  obtain ⟨h, hh⟩ : ∃ h, h = pHi a b true 8 := ⟨_, rfl⟩
  obtain ⟨l, hl⟩ : ∃ l, l = pLo a b true 8 := ⟨_, rfl⟩
  obtain ⟨u, hu⟩ : ∃ u, u = pUp a b true 8 := ⟨_, rfl⟩
  obtain ⟨ov, hov⟩ : ∃ ov, ov = pOver a b true 8 := ⟨_, rfl⟩
  have ul : U64 l := by rw [hl]; exact Cq.pLo_u64 _ _ _ _
  have uh : U64 h := by rw [hh]; exact Cq.pHi_u64 _ _ _ _
  have uu : U64 u := by rw [hu]; exact Cq.pUp_u64 _ _ _ _
  have uz : U64 (zx l 8) := Cq.zx_u64 8
  rw [← hov, ← hu, ← hl]
  rw [← hl] at hng
  rw [← hu] at hz
  have hz2 : (u != 0) = true := by rw [bne, hz]; rfl
  have hu2 : u = h := by rw [hu, hh]; rfl
  have HU : Hid (zx h 8 = u) := Lib.hid (by rw [hu2]; exact Cq.zx8 uh)
  have HO : Hid ((u != 0) = ov) := Lib.hid (by rw [hov, hu]; unfold pOver; rw [← hl, hng]; rfl)
  have HH : Hid (shi (sx a 8) (sx b 8) = h) := Lib.hid hh.symm
  have HL : Hid (mlo (sx a 8 * sx b 8) = l) := Lib.hid hl.symm
  replace hng := Lib.hid hng
  have hz3 := hz2
  replace hz2 := Lib.hid hz2
  clear hh hl hu hu2 hov
  have ul0 := ul.1
  unfold th
  go_enter Try.func18, Try.ntmps18
  go_wp2_with fail
  refine (ris_any _ _).mono ?_; rintro e w' ⟨rfl, rfl⟩
  rw [show isW 8 = true from rfl]
  go_wp2_with fail
  refine (rzx_any _ _ ha _).mono ?_; rintro e w' ⟨rfl, rfl⟩
  go_wp2_with fail
  refine (rzx_any _ _ hb _).mono ?_; rintro e w' ⟨rfl, rfl⟩
  go_wp2_with fail
  refine (rmulU_any _ _ ua ub _).mono ?_; rintro e w' ⟨rfl, rfl⟩
  go_wp2_with fail
  refine (rsx_any _ _ ha _).mono ?_; rintro e w' ⟨rfl, rfl⟩
  go_wp2_with fail
  refine (rsx_any _ _ hb _).mono ?_; rintro e w' ⟨rfl, rfl⟩
  go_wp2_with fail
  refine (rmulS_any _ _ va vb _).mono ?_; rintro e w' ⟨rfl, rfl⟩
  rw [HH.out, HL.out]
  go_wp2_with fail
  refine (rzx_any _ _ ul _).mono ?_; rintro e w' ⟨rfl, rfl⟩
  go_wp2_with fail
  refine (rzx_any _ _ uh _).mono ?_; rintro e w' ⟨rfl, rfl⟩
  rw [HU.out]
  go_wp2_with fail
  refine (rneg_any _ _ uz _).mono ?_; rintro e w' ⟨rfl, rfl⟩
  rw [hng.out]
  go_wp2_with fail
  refine (rsx_any _ _ uz _).mono ?_; rintro e w' ⟨rfl, rfl⟩
  go_wp2_with fail
  refine bodyPost_ret (v := .tuple #[.int .u64 (zx l 8), .int .u64 u, .agg #[.bool true, .bool true, .int .u64 (sx (zx l 8) 8)]]) (by simp [results, Try.results18, go_sem]) rfl ⟨by rw [← HO.out, hz2.out], ?_⟩
  exact (Kp.rfl W).new _
theorem rproduct_8_true_true_true (a b : Int) (ha : U64 a) (hb : U64 b) (hng : neg (zx (pLo a b true 8) 8) 8 = true) (hz : (pUp a b true 8 == 0) = true) (W : World) : Calls Try.prog 18 #[.int .u64 a, .int .u64 b, .bool true, .int .i64 8] W fun e W' => e = .returned (prd a b true 8) ∧ Kp W W' := by
  rw [prd_is a b true 8 (by decide)]
  have ua : U64 (zx a 8) := Cq.zx_u64 8
  have ub : U64 (zx b 8) := Cq.zx_u64 8
  have va : U64 (sx a 8) := Cq.sx_u64 8
  have vb : U64 (sx b 8) := Cq.sx_u64 8
  obtain ⟨h, hh⟩ : ∃ h, h = pHi a b true 8 := ⟨_, rfl⟩
  obtain ⟨l, hl⟩ : ∃ l, l = pLo a b true 8 := ⟨_, rfl⟩
  obtain ⟨u, hu⟩ : ∃ u, u = pUp a b true 8 := ⟨_, rfl⟩
  obtain ⟨ov, hov⟩ : ∃ ov, ov = pOver a b true 8 := ⟨_, rfl⟩
  have ul : U64 l := by rw [hl]; exact Cq.pLo_u64 _ _ _ _
  have uh : U64 h := by rw [hh]; exact Cq.pHi_u64 _ _ _ _
  have uu : U64 u := by rw [hu]; exact Cq.pUp_u64 _ _ _ _
  have uz : U64 (zx l 8) := Cq.zx_u64 8
  rw [← hov, ← hu, ← hl]
  rw [← hl] at hng
  rw [← hu] at hz
  have hz2 : (u != 0) = false := by rw [bne, hz]; rfl
  have hu2 : u = h := by rw [hu, hh]; rfl
  have HU : Hid (zx h 8 = u) := Lib.hid (by rw [hu2]; exact Cq.zx8 uh)
  have HO : Hid ((u != zx 18446744073709551615 8) = ov) := Lib.hid (by rw [hov, hu]; unfold pOver; rw [← hl, hng]; exact congrArg _ (by decide))
  have HH : Hid (shi (sx a 8) (sx b 8) = h) := Lib.hid hh.symm
  have HL : Hid (mlo (sx a 8 * sx b 8) = l) := Lib.hid hl.symm
  replace hng := Lib.hid hng
  have um : U64 18446744073709551615 := ⟨by decide, by decide⟩
  clear hh hl hu hu2 hov
  have ul0 := ul.1
  unfold th
  go_enter Try.func18, Try.ntmps18
  go_wp2_with fail
  refine (ris_any _ _).mono ?_; rintro e w' ⟨rfl, rfl⟩
  rw [show isW 8 = true from rfl]
  go_wp2_with fail
  refine (rzx_any _ _ ha _).mono ?_; rintro e w' ⟨rfl, rfl⟩
  go_wp2_with fail
  refine (rzx_any _ _ hb _).mono ?_; rintro e w' ⟨rfl, rfl⟩
  go_wp2_with fail
  refine (rmulU_any _ _ ua ub _).mono ?_; rintro e w' ⟨rfl, rfl⟩
  go_wp2_with fail
  refine (rsx_any _ _ ha _).mono ?_; rintro e w' ⟨rfl, rfl⟩
  go_wp2_with fail
  refine (rsx_any _ _ hb _).mono ?_; rintro e w' ⟨rfl, rfl⟩
  go_wp2_with fail
  refine (rmulS_any _ _ va vb _).mono ?_; rintro e w' ⟨rfl, rfl⟩
  rw [HH.out, HL.out]
  go_wp2_with fail
  refine (rzx_any _ _ ul _).mono ?_; rintro e w' ⟨rfl, rfl⟩
  go_wp2_with fail
  refine (rzx_any _ _ uh _).mono ?_; rintro e w' ⟨rfl, rfl⟩
  rw [HU.out]
  go_wp2_with fail
  refine (rneg_any _ _ uz _).mono ?_; rintro e w' ⟨rfl, rfl⟩
  rw [hng.out]
  go_wp2_with fail
  refine (rneg_any _ _ uz _).mono ?_; rintro e w' ⟨rfl, rfl⟩
  rw [hng.out]
  go_wp2_with fail
  refine (rzx_any _ _ um _).mono ?_; rintro e w' ⟨rfl, rfl⟩
  go_wp2_with fail
  refine (rsx_any _ _ uz _).mono ?_; rintro e w' ⟨rfl, rfl⟩
  go_wp2_with fail
  refine bodyPost_ret (v := .tuple #[.int .u64 (zx l 8), .int .u64 u, .agg #[.bool (u != zx 18446744073709551615 8), .bool (u != zx 18446744073709551615 8), .int .u64 (sx (zx l 8) 8)]]) (by simp [results, Try.results18, go_sem, bne]) rfl ⟨by rw [← HO.out], ?_⟩
  exact (Kp.rfl W).new _
theorem rproduct_8_true_true_false (a b : Int) (ha : U64 a) (hb : U64 b) (hng : neg (zx (pLo a b true 8) 8) 8 = true) (hz : (pUp a b true 8 == 0) = false) (W : World) : Calls Try.prog 18 #[.int .u64 a, .int .u64 b, .bool true, .int .i64 8] W fun e W' => e = .returned (prd a b true 8) ∧ Kp W W' := by
  rw [prd_is a b true 8 (by decide)]
  have ua : U64 (zx a 8) := Cq.zx_u64 8
  have ub : U64 (zx b 8) := Cq.zx_u64 8
  have va : U64 (sx a 8) := Cq.sx_u64 8
  have vb : U64 (sx b 8) := Cq.sx_u64 8
  obtain ⟨h, hh⟩ : ∃ h, h = pHi a b true 8 := ⟨_, rfl⟩
  obtain ⟨l, hl⟩ : ∃ l, l = pLo a b true 8 := ⟨_, rfl⟩
  obtain ⟨u, hu⟩ : ∃ u, u = pUp a b true 8 := ⟨_, rfl⟩
  obtain ⟨ov, hov⟩ : ∃ ov, ov = pOver a b true 8 := ⟨_, rfl⟩
  have ul : U64 l := by rw [hl]; exact Cq.pLo_u64 _ _ _ _
  have uh : U64 h := by rw [hh]; exact Cq.pHi_u64 _ _ _ _
  have uu : U64 u := by rw [hu]; exact Cq.pUp_u64 _ _ _ _
  have uz : U64 (zx l 8) := Cq.zx_u64 8
  rw [← hov, ← hu, ← hl]
  rw [← hl] at hng
  rw [← hu] at hz
  have hz2 : (u != 0) = true := by rw [bne, hz]; rfl
  have hu2 : u = h := by rw [hu, hh]; rfl
  have HU : Hid (zx h 8 = u) := Lib.hid (by rw [hu2]; exact Cq.zx8 uh)
  have HO : Hid ((u != zx 18446744073709551615 8) = ov) := Lib.hid (by rw [hov, hu]; unfold pOver; rw [← hl, hng]; exact congrArg _ (by decide))
  have HH : Hid (shi (sx a 8) (sx b 8) = h) := Lib.hid hh.symm
  have HL : Hid (mlo (sx a 8 * sx b 8) = l) := Lib.hid hl.symm
  replace hng := Lib.hid hng
  have um : U64 18446744073709551615 := ⟨by decide, by decide⟩
  clear hh hl hu hu2 hov
  have ul0 := ul.1
  unfold th
  go_enter Try.func18, Try.ntmps18
  go_wp2_with fail
  refine (ris_any _ _).mono ?_; rintro e w' ⟨rfl, rfl⟩
  rw [show isW 8 = true from rfl]
  go_wp2_with fail
  refine (rzx_any _ _ ha _).mono ?_; rintro e w' ⟨rfl, rfl⟩
  go_wp2_with fail
  refine (rzx_any _ _ hb _).mono ?_; rintro e w' ⟨rfl, rfl⟩
  go_wp2_with fail
  refine (rmulU_any _ _ ua ub _).mono ?_; rintro e w' ⟨rfl, rfl⟩
  go_wp2_with fail
  refine (rsx_any _ _ ha _).mono ?_; rintro e w' ⟨rfl, rfl⟩
  go_wp2_with fail
  refine (rsx_any _ _ hb _).mono ?_; rintro e w' ⟨rfl, rfl⟩
  go_wp2_with fail
  refine (rmulS_any _ _ va vb _).mono ?_; rintro e w' ⟨rfl, rfl⟩
  rw [HH.out, HL.out]
  go_wp2_with fail
  refine (rzx_any _ _ ul _).mono ?_; rintro e w' ⟨rfl, rfl⟩
  go_wp2_with fail
  refine (rzx_any _ _ uh _).mono ?_; rintro e w' ⟨rfl, rfl⟩
  rw [HU.out]
  go_wp2_with fail
  refine (rneg_any _ _ uz _).mono ?_; rintro e w' ⟨rfl, rfl⟩
  rw [hng.out]
  go_wp2_with fail
  refine (rzx_any _ _ um _).mono ?_; rintro e w' ⟨rfl, rfl⟩
  go_wp2_with fail
  refine (rsx_any _ _ uz _).mono ?_; rintro e w' ⟨rfl, rfl⟩
  go_wp2_with fail
  refine bodyPost_ret (v := .tuple #[.int .u64 (zx l 8), .int .u64 u, .agg #[.bool (u != zx 18446744073709551615 8), .bool (u != zx 18446744073709551615 8), .int .u64 (sx (zx l 8) 8)]]) (by simp [results, Try.results18, go_sem, bne]) rfl ⟨by rw [← HO.out], ?_⟩
  exact (Kp.rfl W).new _
theorem rproduct_bad (a b : Int) (s : Bool) (w : Int) (h : isW w = false) (W : World) : Calls Try.prog 18 #[.int .u64 a, .int .u64 b, .bool s, .int .i64 w] W fun e W' => e = .returned (prd a b s w) ∧ Kp W W' := by
  rw [prd_bad a b s w h]
  go_enter Try.func18, Try.ntmps18
  go_wp2_with fail
  refine (ris_any _ _).mono ?_; rintro e w' ⟨rfl, rfl⟩
  rw [h]
  go_wp2_with fail
  refine bodyPost_ret (v := .tuple #[.int .u64 0, .int .u64 0, th false false 0]) (by simp [results, Try.results18, go_sem, th]) rfl ⟨rfl, ?_⟩
  exact (Kp.rfl W).new _
theorem rproduct_any (a b : Int) (s : Bool) (w : Int) (ha : U64 a) (hb : U64 b) (W : World) : Calls Try.prog 18 #[.int .u64 a, .int .u64 b, .bool s, .int .i64 w] W fun e W' => e = .returned (prd a b s w) ∧ Kp W W' := by
  cases h : isW w
  · exact rproduct_bad a b s w h W
  · rcases Cq.isW_cases h with rfl | rfl | rfl | rfl
    · cases s
      · exact rproduct_1_false a b ha hb W
      · cases hng : neg (zx (pLo a b true 1) 1) 1
        · cases hz : (pUp a b true 1 == 0)
          · exact rproduct_1_true_false_false a b ha hb hng hz W
          · exact rproduct_1_true_false_true a b ha hb hng hz W
        · cases hz : (pUp a b true 1 == 0)
          · exact rproduct_1_true_true_false a b ha hb hng hz W
          · exact rproduct_1_true_true_true a b ha hb hng hz W
    · cases s
      · exact rproduct_2_false a b ha hb W
      · cases hng : neg (zx (pLo a b true 2) 2) 2
        · cases hz : (pUp a b true 2 == 0)
          · exact rproduct_2_true_false_false a b ha hb hng hz W
          · exact rproduct_2_true_false_true a b ha hb hng hz W
        · cases hz : (pUp a b true 2 == 0)
          · exact rproduct_2_true_true_false a b ha hb hng hz W
          · exact rproduct_2_true_true_true a b ha hb hng hz W
    · cases s
      · exact rproduct_4_false a b ha hb W
      · cases hng : neg (zx (pLo a b true 4) 4) 4
        · cases hz : (pUp a b true 4 == 0)
          · exact rproduct_4_true_false_false a b ha hb hng hz W
          · exact rproduct_4_true_false_true a b ha hb hng hz W
        · cases hz : (pUp a b true 4 == 0)
          · exact rproduct_4_true_true_false a b ha hb hng hz W
          · exact rproduct_4_true_true_true a b ha hb hng hz W
    · cases s
      · exact rproduct_8_false a b ha hb W
      · cases hng : neg (zx (pLo a b true 8) 8) 8
        · cases hz : (pUp a b true 8 == 0)
          · exact rproduct_8_true_false_false a b ha hb hng hz W
          · exact rproduct_8_true_false_true a b ha hb hng hz W
        · cases hz : (pUp a b true 8 == 0)
          · exact rproduct_8_true_true_false a b ha hb hng hz W
          · exact rproduct_8_true_true_true a b ha hb hng hz W
end Go.Proofs.Ytmebkahgdpnajaa
