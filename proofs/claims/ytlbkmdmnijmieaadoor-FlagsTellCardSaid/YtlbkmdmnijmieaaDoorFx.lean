/- Walks of layer 8: products, of the code and of the document's own answers. -/
import Derived.Test.YtlbkmdmnijmieaaDoorFk
import Derived.Test.YtlbkmdmnijmieaaDoorFm
import Derived.Test.YtlbkmdmnijmieaaDoorFb
import Derived.IntWalk
namespace Go.Proofs.YtlbkmdmnijmieaaDoor
open Go Go.RowKit
open Cq (U64 I64 isW nb zx sx neg mask mhi mlo shi pHi pLo pUp pOver)

/-- what a product comes to -/
def prd (a b : Int) (s : Bool) (w : Int) : Value :=
  if isW w = true then .tuple #[.int .u64 (zx (pLo a b s w) w), .int .u64 (pUp a b s w), th (pOver a b s w) (pOver a b s w) (sx (zx (pLo a b s w) w) w)]
  else .tuple #[.int .u64 0, .int .u64 0, th false false 0]
theorem prd_bad (a b : Int) (s : Bool) (w : Int) (h : isW w = false) : prd a b s w = .tuple #[.int .u64 0, .int .u64 0, th false false 0] := by
  unfold prd; rw [if_neg (by rw [h]; decide)]
theorem prd_is (a b : Int) (s : Bool) (w : Int) (h : isW w = true) : prd a b s w = .tuple #[.int .u64 (zx (pLo a b s w) w), .int .u64 (pUp a b s w), th (pOver a b s w) (pOver a b s w) (sx (zx (pLo a b s w) w) w)] := by
  unfold prd; rw [if_pos h]

theorem product_1_false (a b : Int) (_ha : U64 a) (_hb : U64 b) (W : World) : Calls Tryd.prog 22 #[.int .u64 a, .int .u64 b, .bool false, .int .i64 1] W fun e W' => e = .returned (prd a b false 1) ∧ Kp W W' := by
  rw [prd_is a b false 1 (by decide)]
  have ua : U64 (zx a 1) := Cq.zx_u64 1
  have ub : U64 (zx b 1) := Cq.zx_u64 1
  obtain ⟨h, hh⟩ : ∃ h, h = pHi a b false 1 := ⟨_, rfl⟩
  obtain ⟨l, hl⟩ : ∃ l, l = pLo a b false 1 := ⟨_, rfl⟩
  obtain ⟨u, hu⟩ : ∃ u, u = pUp a b false 1 := ⟨_, rfl⟩
  obtain ⟨ov, hov⟩ : ∃ ov, ov = pOver a b false 1 := ⟨_, rfl⟩
  have ul : U64 l := by rw [hl]; exact Cq.pLo_u64 _ _ _ _
  have uh : U64 h := by rw [hh]; exact Cq.pHi_u64 _ _ _ _
  have uu : U64 u := by rw [hu]; exact Cq.pUp_u64 _ _ _ _
  have uz : U64 (zx l 1) := Cq.zx_u64 1
  rw [← hov, ← hu, ← hl]
  have hu2 : u = zx (l / 2 ^ 8) 1 := by rw [hu, hl]; rfl
  have HU := Lib.hid ((Cq.up_1 ul (h := h)).trans hu2.symm)
  have HO : Hid ((u != 0) = ov) := Lib.hid (by rw [hov, hu]; unfold pOver; rfl)
  have HH : Hid (mhi (zx a 1 * zx b 1) = h) := Lib.hid hh.symm
  have HL : Hid (mlo (zx a 1 * zx b 1) = l) := Lib.hid hl.symm
  clear hh hl hu hu2 hov
  have ul0 := ul.1
  unfold th
  go_enter Tryd.func22, Tryd.ntmps22
  go_wp2_with fail
  refine (is_any _ _).mono ?_; rintro e w' ⟨rfl, rfl⟩
  rw [show isW 1 = true from rfl]
  go_wp2_with fail
  refine (zx_any _ _ _).mono ?_; rintro e w' ⟨rfl, rfl⟩
  go_wp2_with fail
  refine (zx_any _ _ _).mono ?_; rintro e w' ⟨rfl, rfl⟩
  go_wp2_with fail
  refine (mulU_any _ _ ua ub _).mono ?_; rintro e w' ⟨rfl, rfl⟩
  rw [HH.out, HL.out]
  go_wp2_with fail
  go_quiet ((go_at_call 27; exact quiet_left (zx_any _ _ _)))
  rw [HU.out]
  go_wp2_with fail
  refine (zx_any _ _ _).mono ?_; rintro e w' ⟨rfl, rfl⟩
  go_wp2_with fail
  rw [HO.out]
  refine (of_any _ _ _ _ uz _).mono ?_; rintro e w' ⟨rfl, rfl⟩
  unfold th
  go_wp2_with fail
  refine bodyPost_ret (v := .tuple #[.int .u64 (zx l 1), .int .u64 u, .agg #[.bool ov, .bool ov, .int .u64 (sx (zx l 1) 1)]]) (by simp [results, Tryd.results22, go_sem]) rfl ⟨rfl, ?_⟩
  exact ((((((Kp.rfl W).new _).draws _).put (by simp) _).put (by simp) _).put (by simp) _).new _
theorem product_1_true_false (a b : Int) (ha : U64 a) (hb : U64 b) (hng : neg (zx (pLo a b true 1) 1) 1 = false) (W : World) : Calls Tryd.prog 22 #[.int .u64 a, .int .u64 b, .bool true, .int .i64 1] W fun e W' => e = .returned (prd a b true 1) ∧ Kp W W' := by
  rw [prd_is a b true 1 (by decide)]
  have ua : U64 (zx a 1) := Cq.zx_u64 1
  have ub : U64 (zx b 1) := Cq.zx_u64 1
  have va : U64 (sx a 1) := Cq.sx_u64 1
  have vb : U64 (sx b 1) := Cq.sx_u64 1
  obtain ⟨h, hh⟩ : ∃ h, h = pHi a b true 1 := ⟨_, rfl⟩
  obtain ⟨l, hl⟩ : ∃ l, l = pLo a b true 1 := ⟨_, rfl⟩
  obtain ⟨u, hu⟩ : ∃ u, u = pUp a b true 1 := ⟨_, rfl⟩
  obtain ⟨ov, hov⟩ : ∃ ov, ov = pOver a b true 1 := ⟨_, rfl⟩
  have ul : U64 l := by rw [hl]; exact Cq.pLo_u64 _ _ _ _
  have uh : U64 h := by rw [hh]; exact Cq.pHi_u64 _ _ _ _
  have uu : U64 u := by rw [hu]; exact Cq.pUp_u64 _ _ _ _
  have uz : U64 (zx l 1) := Cq.zx_u64 1
  rw [← hov, ← hu, ← hl]
  rw [← hl] at hng
  have hu2 : u = zx (l / 2 ^ 8) 1 := by rw [hu, hl]; rfl
  have HU := Lib.hid ((Cq.up_1 ul (h := h)).trans hu2.symm)
  have HO : Hid ((u != 0) = ov) := Lib.hid (by rw [hov, hu]; unfold pOver; rw [← hl, hng]; rfl)
  have HH : Hid (shi (sx a 1) (sx b 1) = h) := Lib.hid hh.symm
  have HL : Hid (mlo (sx a 1 * sx b 1) = l) := Lib.hid hl.symm
  replace hng := Lib.hid hng
  clear hh hl hu hu2 hov
  have ul0 := ul.1
  unfold th
  go_enter Tryd.func22, Tryd.ntmps22
  go_wp2_with fail
  refine (is_any _ _).mono ?_; rintro e w' ⟨rfl, rfl⟩
  rw [show isW 1 = true from rfl]
  go_wp2_with fail
  refine (zx_any _ _ _).mono ?_; rintro e w' ⟨rfl, rfl⟩
  go_wp2_with fail
  refine (zx_any _ _ _).mono ?_; rintro e w' ⟨rfl, rfl⟩
  go_wp2_with fail
  refine (mulU_any _ _ ua ub _).mono ?_; rintro e w' ⟨rfl, rfl⟩
  go_wp2_with fail
  refine (sx_any _ _ ha _).mono ?_; rintro e w' ⟨rfl, rfl⟩
  go_wp2_with fail
  refine (sx_any _ _ hb _).mono ?_; rintro e w' ⟨rfl, rfl⟩
  go_wp2_with fail
  refine (mulS_any _ _ va vb _).mono ?_; rintro e w' ⟨rfl, rfl⟩
  rw [HH.out, HL.out]
  go_wp2_with fail
  go_quiet ((go_at_call 27; exact quiet_left (zx_any _ _ _)))
  rw [HU.out]
  go_wp2_with fail
  refine (zx_any _ _ _).mono ?_; rintro e w' ⟨rfl, rfl⟩
  go_wp2_with fail
  refine (neg_any _ _ uz _).mono ?_; rintro e w' ⟨rfl, rfl⟩
  rw [hng.out]
  go_wp2_with fail
  rw [HO.out]
  refine (of_any _ _ _ _ uz _).mono ?_; rintro e w' ⟨rfl, rfl⟩
  unfold th
  go_wp2_with fail
  refine bodyPost_ret (v := .tuple #[.int .u64 (zx l 1), .int .u64 u, .agg #[.bool ov, .bool ov, .int .u64 (sx (zx l 1) 1)]]) (by simp [results, Tryd.results22, go_sem]) rfl ⟨rfl, ?_⟩
  exact ((((((Kp.rfl W).new _).draws _).put (by simp) _).put (by simp) _).put (by simp) _).new _
theorem product_1_true_true (a b : Int) (ha : U64 a) (hb : U64 b) (hng : neg (zx (pLo a b true 1) 1) 1 = true) (W : World) : Calls Tryd.prog 22 #[.int .u64 a, .int .u64 b, .bool true, .int .i64 1] W fun e W' => e = .returned (prd a b true 1) ∧ Kp W W' := by
  rw [prd_is a b true 1 (by decide)]
  have ua : U64 (zx a 1) := Cq.zx_u64 1
  have ub : U64 (zx b 1) := Cq.zx_u64 1
  have va : U64 (sx a 1) := Cq.sx_u64 1
  have vb : U64 (sx b 1) := Cq.sx_u64 1
  obtain ⟨h, hh⟩ : ∃ h, h = pHi a b true 1 := ⟨_, rfl⟩
  obtain ⟨l, hl⟩ : ∃ l, l = pLo a b true 1 := ⟨_, rfl⟩
  obtain ⟨u, hu⟩ : ∃ u, u = pUp a b true 1 := ⟨_, rfl⟩
  obtain ⟨ov, hov⟩ : ∃ ov, ov = pOver a b true 1 := ⟨_, rfl⟩
  have ul : U64 l := by rw [hl]; exact Cq.pLo_u64 _ _ _ _
  have uh : U64 h := by rw [hh]; exact Cq.pHi_u64 _ _ _ _
  have uu : U64 u := by rw [hu]; exact Cq.pUp_u64 _ _ _ _
  have uz : U64 (zx l 1) := Cq.zx_u64 1
  rw [← hov, ← hu, ← hl]
  rw [← hl] at hng
  have hu2 : u = zx (l / 2 ^ 8) 1 := by rw [hu, hl]; rfl
  have HU := Lib.hid ((Cq.up_1 ul (h := h)).trans hu2.symm)
  have HO : Hid ((u != mask 1) = ov) := Lib.hid (by rw [hov, hu]; unfold pOver; rw [← hl, hng]; rfl)
  have HH : Hid (shi (sx a 1) (sx b 1) = h) := Lib.hid hh.symm
  have HL : Hid (mlo (sx a 1 * sx b 1) = l) := Lib.hid hl.symm
  replace hng := Lib.hid hng
  clear hh hl hu hu2 hov
  have ul0 := ul.1
  unfold th
  go_enter Tryd.func22, Tryd.ntmps22
  go_wp2_with fail
  refine (is_any _ _).mono ?_; rintro e w' ⟨rfl, rfl⟩
  rw [show isW 1 = true from rfl]
  go_wp2_with fail
  refine (zx_any _ _ _).mono ?_; rintro e w' ⟨rfl, rfl⟩
  go_wp2_with fail
  refine (zx_any _ _ _).mono ?_; rintro e w' ⟨rfl, rfl⟩
  go_wp2_with fail
  refine (mulU_any _ _ ua ub _).mono ?_; rintro e w' ⟨rfl, rfl⟩
  go_wp2_with fail
  refine (sx_any _ _ ha _).mono ?_; rintro e w' ⟨rfl, rfl⟩
  go_wp2_with fail
  refine (sx_any _ _ hb _).mono ?_; rintro e w' ⟨rfl, rfl⟩
  go_wp2_with fail
  refine (mulS_any _ _ va vb _).mono ?_; rintro e w' ⟨rfl, rfl⟩
  rw [HH.out, HL.out]
  go_wp2_with fail
  go_quiet ((go_at_call 27; exact quiet_left (zx_any _ _ _)))
  rw [HU.out]
  go_wp2_with fail
  refine (zx_any _ _ _).mono ?_; rintro e w' ⟨rfl, rfl⟩
  go_wp2_with fail
  refine (neg_any _ _ uz _).mono ?_; rintro e w' ⟨rfl, rfl⟩
  rw [hng.out]
  go_wp2_with fail
  refine (mask_any _ _).mono ?_; rintro e w' ⟨rfl, rfl⟩
  go_wp2_with fail
  rw [HO.out]
  refine (of_any _ _ _ _ uz _).mono ?_; rintro e w' ⟨rfl, rfl⟩
  unfold th
  go_wp2_with fail
  refine bodyPost_ret (v := .tuple #[.int .u64 (zx l 1), .int .u64 u, .agg #[.bool ov, .bool ov, .int .u64 (sx (zx l 1) 1)]]) (by simp [results, Tryd.results22, go_sem]) rfl ⟨rfl, ?_⟩
  exact ((((((Kp.rfl W).new _).draws _).put (by simp) _).put (by simp) _).put (by simp) _).new _
theorem product_2_false (a b : Int) (_ha : U64 a) (_hb : U64 b) (W : World) : Calls Tryd.prog 22 #[.int .u64 a, .int .u64 b, .bool false, .int .i64 2] W fun e W' => e = .returned (prd a b false 2) ∧ Kp W W' := by
  rw [prd_is a b false 2 (by decide)]
  have ua : U64 (zx a 2) := Cq.zx_u64 2
  have ub : U64 (zx b 2) := Cq.zx_u64 2
  obtain ⟨h, hh⟩ : ∃ h, h = pHi a b false 2 := ⟨_, rfl⟩
  obtain ⟨l, hl⟩ : ∃ l, l = pLo a b false 2 := ⟨_, rfl⟩
  obtain ⟨u, hu⟩ : ∃ u, u = pUp a b false 2 := ⟨_, rfl⟩
  obtain ⟨ov, hov⟩ : ∃ ov, ov = pOver a b false 2 := ⟨_, rfl⟩
  have ul : U64 l := by rw [hl]; exact Cq.pLo_u64 _ _ _ _
  have uh : U64 h := by rw [hh]; exact Cq.pHi_u64 _ _ _ _
  have uu : U64 u := by rw [hu]; exact Cq.pUp_u64 _ _ _ _
  have uz : U64 (zx l 2) := Cq.zx_u64 2
  rw [← hov, ← hu, ← hl]
  have hu2 : u = zx (l / 2 ^ 16) 2 := by rw [hu, hl]; rfl
  have HU := Lib.hid ((Cq.up_2 ul (h := h)).trans hu2.symm)
  have HO : Hid ((u != 0) = ov) := Lib.hid (by rw [hov, hu]; unfold pOver; rfl)
  have HH : Hid (mhi (zx a 2 * zx b 2) = h) := Lib.hid hh.symm
  have HL : Hid (mlo (zx a 2 * zx b 2) = l) := Lib.hid hl.symm
  clear hh hl hu hu2 hov
  have ul0 := ul.1
  unfold th
  go_enter Tryd.func22, Tryd.ntmps22
  go_wp2_with fail
  refine (is_any _ _).mono ?_; rintro e w' ⟨rfl, rfl⟩
  rw [show isW 2 = true from rfl]
  go_wp2_with fail
  refine (zx_any _ _ _).mono ?_; rintro e w' ⟨rfl, rfl⟩
  go_wp2_with fail
  refine (zx_any _ _ _).mono ?_; rintro e w' ⟨rfl, rfl⟩
  go_wp2_with fail
  refine (mulU_any _ _ ua ub _).mono ?_; rintro e w' ⟨rfl, rfl⟩
  rw [HH.out, HL.out]
  go_wp2_with fail
  go_quiet ((go_at_call 27; exact quiet_left (zx_any _ _ _)))
  rw [HU.out]
  go_wp2_with fail
  refine (zx_any _ _ _).mono ?_; rintro e w' ⟨rfl, rfl⟩
  go_wp2_with fail
  rw [HO.out]
  refine (of_any _ _ _ _ uz _).mono ?_; rintro e w' ⟨rfl, rfl⟩
  unfold th
  go_wp2_with fail
  refine bodyPost_ret (v := .tuple #[.int .u64 (zx l 2), .int .u64 u, .agg #[.bool ov, .bool ov, .int .u64 (sx (zx l 2) 2)]]) (by simp [results, Tryd.results22, go_sem]) rfl ⟨rfl, ?_⟩
  exact ((((((Kp.rfl W).new _).draws _).put (by simp) _).put (by simp) _).put (by simp) _).new _
theorem product_2_true_false (a b : Int) (ha : U64 a) (hb : U64 b) (hng : neg (zx (pLo a b true 2) 2) 2 = false) (W : World) : Calls Tryd.prog 22 #[.int .u64 a, .int .u64 b, .bool true, .int .i64 2] W fun e W' => e = .returned (prd a b true 2) ∧ Kp W W' := by
  rw [prd_is a b true 2 (by decide)]
  have ua : U64 (zx a 2) := Cq.zx_u64 2
  have ub : U64 (zx b 2) := Cq.zx_u64 2
  have va : U64 (sx a 2) := Cq.sx_u64 2
  have vb : U64 (sx b 2) := Cq.sx_u64 2
  obtain ⟨h, hh⟩ : ∃ h, h = pHi a b true 2 := ⟨_, rfl⟩
  obtain ⟨l, hl⟩ : ∃ l, l = pLo a b true 2 := ⟨_, rfl⟩
  obtain ⟨u, hu⟩ : ∃ u, u = pUp a b true 2 := ⟨_, rfl⟩
  obtain ⟨ov, hov⟩ : ∃ ov, ov = pOver a b true 2 := ⟨_, rfl⟩
  have ul : U64 l := by rw [hl]; exact Cq.pLo_u64 _ _ _ _
  have uh : U64 h := by rw [hh]; exact Cq.pHi_u64 _ _ _ _
  have uu : U64 u := by rw [hu]; exact Cq.pUp_u64 _ _ _ _
  have uz : U64 (zx l 2) := Cq.zx_u64 2
  rw [← hov, ← hu, ← hl]
  rw [← hl] at hng
  have hu2 : u = zx (l / 2 ^ 16) 2 := by rw [hu, hl]; rfl
  have HU := Lib.hid ((Cq.up_2 ul (h := h)).trans hu2.symm)
  have HO : Hid ((u != 0) = ov) := Lib.hid (by rw [hov, hu]; unfold pOver; rw [← hl, hng]; rfl)
  have HH : Hid (shi (sx a 2) (sx b 2) = h) := Lib.hid hh.symm
  have HL : Hid (mlo (sx a 2 * sx b 2) = l) := Lib.hid hl.symm
  replace hng := Lib.hid hng
  clear hh hl hu hu2 hov
  have ul0 := ul.1
  unfold th
  go_enter Tryd.func22, Tryd.ntmps22
  go_wp2_with fail
  refine (is_any _ _).mono ?_; rintro e w' ⟨rfl, rfl⟩
  rw [show isW 2 = true from rfl]
  go_wp2_with fail
  refine (zx_any _ _ _).mono ?_; rintro e w' ⟨rfl, rfl⟩
  go_wp2_with fail
  refine (zx_any _ _ _).mono ?_; rintro e w' ⟨rfl, rfl⟩
  go_wp2_with fail
  refine (mulU_any _ _ ua ub _).mono ?_; rintro e w' ⟨rfl, rfl⟩
  go_wp2_with fail
  refine (sx_any _ _ ha _).mono ?_; rintro e w' ⟨rfl, rfl⟩
  go_wp2_with fail
  refine (sx_any _ _ hb _).mono ?_; rintro e w' ⟨rfl, rfl⟩
  go_wp2_with fail
  refine (mulS_any _ _ va vb _).mono ?_; rintro e w' ⟨rfl, rfl⟩
  rw [HH.out, HL.out]
  go_wp2_with fail
  go_quiet ((go_at_call 27; exact quiet_left (zx_any _ _ _)))
  rw [HU.out]
  go_wp2_with fail
  refine (zx_any _ _ _).mono ?_; rintro e w' ⟨rfl, rfl⟩
  go_wp2_with fail
  refine (neg_any _ _ uz _).mono ?_; rintro e w' ⟨rfl, rfl⟩
  rw [hng.out]
  go_wp2_with fail
  rw [HO.out]
  refine (of_any _ _ _ _ uz _).mono ?_; rintro e w' ⟨rfl, rfl⟩
  unfold th
  go_wp2_with fail
  refine bodyPost_ret (v := .tuple #[.int .u64 (zx l 2), .int .u64 u, .agg #[.bool ov, .bool ov, .int .u64 (sx (zx l 2) 2)]]) (by simp [results, Tryd.results22, go_sem]) rfl ⟨rfl, ?_⟩
  exact ((((((Kp.rfl W).new _).draws _).put (by simp) _).put (by simp) _).put (by simp) _).new _
theorem product_2_true_true (a b : Int) (ha : U64 a) (hb : U64 b) (hng : neg (zx (pLo a b true 2) 2) 2 = true) (W : World) : Calls Tryd.prog 22 #[.int .u64 a, .int .u64 b, .bool true, .int .i64 2] W fun e W' => e = .returned (prd a b true 2) ∧ Kp W W' := by
  rw [prd_is a b true 2 (by decide)]
  have ua : U64 (zx a 2) := Cq.zx_u64 2
  have ub : U64 (zx b 2) := Cq.zx_u64 2
  have va : U64 (sx a 2) := Cq.sx_u64 2
  have vb : U64 (sx b 2) := Cq.sx_u64 2
  obtain ⟨h, hh⟩ : ∃ h, h = pHi a b true 2 := ⟨_, rfl⟩
  obtain ⟨l, hl⟩ : ∃ l, l = pLo a b true 2 := ⟨_, rfl⟩
  obtain ⟨u, hu⟩ : ∃ u, u = pUp a b true 2 := ⟨_, rfl⟩
  obtain ⟨ov, hov⟩ : ∃ ov, ov = pOver a b true 2 := ⟨_, rfl⟩
  have ul : U64 l := by rw [hl]; exact Cq.pLo_u64 _ _ _ _
  have uh : U64 h := by rw [hh]; exact Cq.pHi_u64 _ _ _ _
  have uu : U64 u := by rw [hu]; exact Cq.pUp_u64 _ _ _ _
  have uz : U64 (zx l 2) := Cq.zx_u64 2
  rw [← hov, ← hu, ← hl]
  rw [← hl] at hng
  have hu2 : u = zx (l / 2 ^ 16) 2 := by rw [hu, hl]; rfl
  have HU := Lib.hid ((Cq.up_2 ul (h := h)).trans hu2.symm)
  have HO : Hid ((u != mask 2) = ov) := Lib.hid (by rw [hov, hu]; unfold pOver; rw [← hl, hng]; rfl)
  have HH : Hid (shi (sx a 2) (sx b 2) = h) := Lib.hid hh.symm
  have HL : Hid (mlo (sx a 2 * sx b 2) = l) := Lib.hid hl.symm
  replace hng := Lib.hid hng
  clear hh hl hu hu2 hov
  have ul0 := ul.1
  unfold th
  go_enter Tryd.func22, Tryd.ntmps22
  go_wp2_with fail
  refine (is_any _ _).mono ?_; rintro e w' ⟨rfl, rfl⟩
  rw [show isW 2 = true from rfl]
  go_wp2_with fail
  refine (zx_any _ _ _).mono ?_; rintro e w' ⟨rfl, rfl⟩
  go_wp2_with fail
  refine (zx_any _ _ _).mono ?_; rintro e w' ⟨rfl, rfl⟩
  go_wp2_with fail
  refine (mulU_any _ _ ua ub _).mono ?_; rintro e w' ⟨rfl, rfl⟩
  go_wp2_with fail
  refine (sx_any _ _ ha _).mono ?_; rintro e w' ⟨rfl, rfl⟩
  go_wp2_with fail
  refine (sx_any _ _ hb _).mono ?_; rintro e w' ⟨rfl, rfl⟩
  go_wp2_with fail
  refine (mulS_any _ _ va vb _).mono ?_; rintro e w' ⟨rfl, rfl⟩
  rw [HH.out, HL.out]
  go_wp2_with fail
  go_quiet ((go_at_call 27; exact quiet_left (zx_any _ _ _)))
  rw [HU.out]
  go_wp2_with fail
  refine (zx_any _ _ _).mono ?_; rintro e w' ⟨rfl, rfl⟩
  go_wp2_with fail
  refine (neg_any _ _ uz _).mono ?_; rintro e w' ⟨rfl, rfl⟩
  rw [hng.out]
  go_wp2_with fail
  refine (mask_any _ _).mono ?_; rintro e w' ⟨rfl, rfl⟩
  go_wp2_with fail
  rw [HO.out]
  refine (of_any _ _ _ _ uz _).mono ?_; rintro e w' ⟨rfl, rfl⟩
  unfold th
  go_wp2_with fail
  refine bodyPost_ret (v := .tuple #[.int .u64 (zx l 2), .int .u64 u, .agg #[.bool ov, .bool ov, .int .u64 (sx (zx l 2) 2)]]) (by simp [results, Tryd.results22, go_sem]) rfl ⟨rfl, ?_⟩
  exact ((((((Kp.rfl W).new _).draws _).put (by simp) _).put (by simp) _).put (by simp) _).new _
theorem product_4_false (a b : Int) (_ha : U64 a) (_hb : U64 b) (W : World) : Calls Tryd.prog 22 #[.int .u64 a, .int .u64 b, .bool false, .int .i64 4] W fun e W' => e = .returned (prd a b false 4) ∧ Kp W W' := by
  rw [prd_is a b false 4 (by decide)]
  have ua : U64 (zx a 4) := Cq.zx_u64 4
  have ub : U64 (zx b 4) := Cq.zx_u64 4
  obtain ⟨h, hh⟩ : ∃ h, h = pHi a b false 4 := ⟨_, rfl⟩
  obtain ⟨l, hl⟩ : ∃ l, l = pLo a b false 4 := ⟨_, rfl⟩
  obtain ⟨u, hu⟩ : ∃ u, u = pUp a b false 4 := ⟨_, rfl⟩
  obtain ⟨ov, hov⟩ : ∃ ov, ov = pOver a b false 4 := ⟨_, rfl⟩
  have ul : U64 l := by rw [hl]; exact Cq.pLo_u64 _ _ _ _
  have uh : U64 h := by rw [hh]; exact Cq.pHi_u64 _ _ _ _
  have uu : U64 u := by rw [hu]; exact Cq.pUp_u64 _ _ _ _
  have uz : U64 (zx l 4) := Cq.zx_u64 4
  rw [← hov, ← hu, ← hl]
  have hu2 : u = zx (l / 2 ^ 32) 4 := by rw [hu, hl]; rfl
  have HU := Lib.hid ((Cq.up_4 ul (h := h)).trans hu2.symm)
  have HO : Hid ((u != 0) = ov) := Lib.hid (by rw [hov, hu]; unfold pOver; rfl)
  have HH : Hid (mhi (zx a 4 * zx b 4) = h) := Lib.hid hh.symm
  have HL : Hid (mlo (zx a 4 * zx b 4) = l) := Lib.hid hl.symm
  clear hh hl hu hu2 hov
  have ul0 := ul.1
  unfold th
  go_enter Tryd.func22, Tryd.ntmps22
  go_wp2_with fail
  refine (is_any _ _).mono ?_; rintro e w' ⟨rfl, rfl⟩
  rw [show isW 4 = true from rfl]
  go_wp2_with fail
  refine (zx_any _ _ _).mono ?_; rintro e w' ⟨rfl, rfl⟩
  go_wp2_with fail
  refine (zx_any _ _ _).mono ?_; rintro e w' ⟨rfl, rfl⟩
  go_wp2_with fail
  refine (mulU_any _ _ ua ub _).mono ?_; rintro e w' ⟨rfl, rfl⟩
  rw [HH.out, HL.out]
  go_wp2_with fail
  go_quiet ((go_at_call 27; exact quiet_left (zx_any _ _ _)))
  rw [HU.out]
  go_wp2_with fail
  refine (zx_any _ _ _).mono ?_; rintro e w' ⟨rfl, rfl⟩
  go_wp2_with fail
  rw [HO.out]
  refine (of_any _ _ _ _ uz _).mono ?_; rintro e w' ⟨rfl, rfl⟩
  unfold th
  go_wp2_with fail
  refine bodyPost_ret (v := .tuple #[.int .u64 (zx l 4), .int .u64 u, .agg #[.bool ov, .bool ov, .int .u64 (sx (zx l 4) 4)]]) (by simp [results, Tryd.results22, go_sem]) rfl ⟨rfl, ?_⟩
  exact ((((((Kp.rfl W).new _).draws _).put (by simp) _).put (by simp) _).put (by simp) _).new _
theorem product_4_true_false (a b : Int) (ha : U64 a) (hb : U64 b) (hng : neg (zx (pLo a b true 4) 4) 4 = false) (W : World) : Calls Tryd.prog 22 #[.int .u64 a, .int .u64 b, .bool true, .int .i64 4] W fun e W' => e = .returned (prd a b true 4) ∧ Kp W W' := by
  rw [prd_is a b true 4 (by decide)]
  have ua : U64 (zx a 4) := Cq.zx_u64 4
  have ub : U64 (zx b 4) := Cq.zx_u64 4
  have va : U64 (sx a 4) := Cq.sx_u64 4
  have vb : U64 (sx b 4) := Cq.sx_u64 4
  obtain ⟨h, hh⟩ : ∃ h, h = pHi a b true 4 := ⟨_, rfl⟩
  obtain ⟨l, hl⟩ : ∃ l, l = pLo a b true 4 := ⟨_, rfl⟩
  obtain ⟨u, hu⟩ : ∃ u, u = pUp a b true 4 := ⟨_, rfl⟩
  obtain ⟨ov, hov⟩ : ∃ ov, ov = pOver a b true 4 := ⟨_, rfl⟩
  have ul : U64 l := by rw [hl]; exact Cq.pLo_u64 _ _ _ _
  have uh : U64 h := by rw [hh]; exact Cq.pHi_u64 _ _ _ _
  have uu : U64 u := by rw [hu]; exact Cq.pUp_u64 _ _ _ _
  have uz : U64 (zx l 4) := Cq.zx_u64 4
  rw [← hov, ← hu, ← hl]
  rw [← hl] at hng
  have hu2 : u = zx (l / 2 ^ 32) 4 := by rw [hu, hl]; rfl
  have HU := Lib.hid ((Cq.up_4 ul (h := h)).trans hu2.symm)
  have HO : Hid ((u != 0) = ov) := Lib.hid (by rw [hov, hu]; unfold pOver; rw [← hl, hng]; rfl)
  have HH : Hid (shi (sx a 4) (sx b 4) = h) := Lib.hid hh.symm
  have HL : Hid (mlo (sx a 4 * sx b 4) = l) := Lib.hid hl.symm
  replace hng := Lib.hid hng
  clear hh hl hu hu2 hov
  have ul0 := ul.1
  unfold th
  go_enter Tryd.func22, Tryd.ntmps22
  go_wp2_with fail
  refine (is_any _ _).mono ?_; rintro e w' ⟨rfl, rfl⟩
  rw [show isW 4 = true from rfl]
  go_wp2_with fail
  refine (zx_any _ _ _).mono ?_; rintro e w' ⟨rfl, rfl⟩
  go_wp2_with fail
  refine (zx_any _ _ _).mono ?_; rintro e w' ⟨rfl, rfl⟩
  go_wp2_with fail
  refine (mulU_any _ _ ua ub _).mono ?_; rintro e w' ⟨rfl, rfl⟩
  go_wp2_with fail
  refine (sx_any _ _ ha _).mono ?_; rintro e w' ⟨rfl, rfl⟩
  go_wp2_with fail
  refine (sx_any _ _ hb _).mono ?_; rintro e w' ⟨rfl, rfl⟩
  go_wp2_with fail
  refine (mulS_any _ _ va vb _).mono ?_; rintro e w' ⟨rfl, rfl⟩
  rw [HH.out, HL.out]
  go_wp2_with fail
  go_quiet ((go_at_call 27; exact quiet_left (zx_any _ _ _)))
  rw [HU.out]
  go_wp2_with fail
  refine (zx_any _ _ _).mono ?_; rintro e w' ⟨rfl, rfl⟩
  go_wp2_with fail
  refine (neg_any _ _ uz _).mono ?_; rintro e w' ⟨rfl, rfl⟩
  rw [hng.out]
  go_wp2_with fail
  rw [HO.out]
  refine (of_any _ _ _ _ uz _).mono ?_; rintro e w' ⟨rfl, rfl⟩
  unfold th
  go_wp2_with fail
  refine bodyPost_ret (v := .tuple #[.int .u64 (zx l 4), .int .u64 u, .agg #[.bool ov, .bool ov, .int .u64 (sx (zx l 4) 4)]]) (by simp [results, Tryd.results22, go_sem]) rfl ⟨rfl, ?_⟩
  exact ((((((Kp.rfl W).new _).draws _).put (by simp) _).put (by simp) _).put (by simp) _).new _
theorem product_4_true_true (a b : Int) (ha : U64 a) (hb : U64 b) (hng : neg (zx (pLo a b true 4) 4) 4 = true) (W : World) : Calls Tryd.prog 22 #[.int .u64 a, .int .u64 b, .bool true, .int .i64 4] W fun e W' => e = .returned (prd a b true 4) ∧ Kp W W' := by
  rw [prd_is a b true 4 (by decide)]
  have ua : U64 (zx a 4) := Cq.zx_u64 4
  have ub : U64 (zx b 4) := Cq.zx_u64 4
  have va : U64 (sx a 4) := Cq.sx_u64 4
  have vb : U64 (sx b 4) := Cq.sx_u64 4
  obtain ⟨h, hh⟩ : ∃ h, h = pHi a b true 4 := ⟨_, rfl⟩
  obtain ⟨l, hl⟩ : ∃ l, l = pLo a b true 4 := ⟨_, rfl⟩
  obtain ⟨u, hu⟩ : ∃ u, u = pUp a b true 4 := ⟨_, rfl⟩
  obtain ⟨ov, hov⟩ : ∃ ov, ov = pOver a b true 4 := ⟨_, rfl⟩
  have ul : U64 l := by rw [hl]; exact Cq.pLo_u64 _ _ _ _
  have uh : U64 h := by rw [hh]; exact Cq.pHi_u64 _ _ _ _
  have uu : U64 u := by rw [hu]; exact Cq.pUp_u64 _ _ _ _
  have uz : U64 (zx l 4) := Cq.zx_u64 4
  rw [← hov, ← hu, ← hl]
  rw [← hl] at hng
  have hu2 : u = zx (l / 2 ^ 32) 4 := by rw [hu, hl]; rfl
  have HU := Lib.hid ((Cq.up_4 ul (h := h)).trans hu2.symm)
  have HO : Hid ((u != mask 4) = ov) := Lib.hid (by rw [hov, hu]; unfold pOver; rw [← hl, hng]; rfl)
  have HH : Hid (shi (sx a 4) (sx b 4) = h) := Lib.hid hh.symm
  have HL : Hid (mlo (sx a 4 * sx b 4) = l) := Lib.hid hl.symm
  replace hng := Lib.hid hng
  clear hh hl hu hu2 hov
  have ul0 := ul.1
  unfold th
  go_enter Tryd.func22, Tryd.ntmps22
  go_wp2_with fail
  refine (is_any _ _).mono ?_; rintro e w' ⟨rfl, rfl⟩
  rw [show isW 4 = true from rfl]
  go_wp2_with fail
  refine (zx_any _ _ _).mono ?_; rintro e w' ⟨rfl, rfl⟩
  go_wp2_with fail
  refine (zx_any _ _ _).mono ?_; rintro e w' ⟨rfl, rfl⟩
  go_wp2_with fail
  refine (mulU_any _ _ ua ub _).mono ?_; rintro e w' ⟨rfl, rfl⟩
  go_wp2_with fail
  refine (sx_any _ _ ha _).mono ?_; rintro e w' ⟨rfl, rfl⟩
  go_wp2_with fail
  refine (sx_any _ _ hb _).mono ?_; rintro e w' ⟨rfl, rfl⟩
  go_wp2_with fail
  refine (mulS_any _ _ va vb _).mono ?_; rintro e w' ⟨rfl, rfl⟩
  rw [HH.out, HL.out]
  go_wp2_with fail
  go_quiet ((go_at_call 27; exact quiet_left (zx_any _ _ _)))
  rw [HU.out]
  go_wp2_with fail
  refine (zx_any _ _ _).mono ?_; rintro e w' ⟨rfl, rfl⟩
  go_wp2_with fail
  refine (neg_any _ _ uz _).mono ?_; rintro e w' ⟨rfl, rfl⟩
  rw [hng.out]
  go_wp2_with fail
  refine (mask_any _ _).mono ?_; rintro e w' ⟨rfl, rfl⟩
  go_wp2_with fail
  rw [HO.out]
  refine (of_any _ _ _ _ uz _).mono ?_; rintro e w' ⟨rfl, rfl⟩
  unfold th
  go_wp2_with fail
  refine bodyPost_ret (v := .tuple #[.int .u64 (zx l 4), .int .u64 u, .agg #[.bool ov, .bool ov, .int .u64 (sx (zx l 4) 4)]]) (by simp [results, Tryd.results22, go_sem]) rfl ⟨rfl, ?_⟩
  exact ((((((Kp.rfl W).new _).draws _).put (by simp) _).put (by simp) _).put (by simp) _).new _
theorem product_8_false (a b : Int) (_ha : U64 a) (_hb : U64 b) (W : World) : Calls Tryd.prog 22 #[.int .u64 a, .int .u64 b, .bool false, .int .i64 8] W fun e W' => e = .returned (prd a b false 8) ∧ Kp W W' := by
  rw [prd_is a b false 8 (by decide)]
  have ua : U64 (zx a 8) := Cq.zx_u64 8
  have ub : U64 (zx b 8) := Cq.zx_u64 8
  obtain ⟨h, hh⟩ : ∃ h, h = pHi a b false 8 := ⟨_, rfl⟩
  obtain ⟨l, hl⟩ : ∃ l, l = pLo a b false 8 := ⟨_, rfl⟩
  obtain ⟨u, hu⟩ : ∃ u, u = pUp a b false 8 := ⟨_, rfl⟩
  obtain ⟨ov, hov⟩ : ∃ ov, ov = pOver a b false 8 := ⟨_, rfl⟩
  have ul : U64 l := by rw [hl]; exact Cq.pLo_u64 _ _ _ _
  have uh : U64 h := by rw [hh]; exact Cq.pHi_u64 _ _ _ _
  have uu : U64 u := by rw [hu]; exact Cq.pUp_u64 _ _ _ _
  have uz : U64 (zx l 8) := Cq.zx_u64 8
  rw [← hov, ← hu, ← hl]
  have hu2 : u = h := by rw [hu, hh]; rfl
  have HU := Lib.hid ((Cq.up_8' uh ul).trans hu2.symm)
  have HO : Hid ((u != 0) = ov) := Lib.hid (by rw [hov, hu]; unfold pOver; rfl)
  have HH : Hid (mhi (zx a 8 * zx b 8) = h) := Lib.hid hh.symm
  have HL : Hid (mlo (zx a 8 * zx b 8) = l) := Lib.hid hl.symm
  clear hh hl hu hu2 hov
  have ul0 := ul.1
  unfold th
  go_enter Tryd.func22, Tryd.ntmps22
  go_wp2_with fail
  refine (is_any _ _).mono ?_; rintro e w' ⟨rfl, rfl⟩
  rw [show isW 8 = true from rfl]
  go_wp2_with fail
  refine (zx_any _ _ _).mono ?_; rintro e w' ⟨rfl, rfl⟩
  go_wp2_with fail
  refine (zx_any _ _ _).mono ?_; rintro e w' ⟨rfl, rfl⟩
  go_wp2_with fail
  refine (mulU_any _ _ ua ub _).mono ?_; rintro e w' ⟨rfl, rfl⟩
  rw [HH.out, HL.out]
  go_wp2_with fail
  go_quiet ((go_at_call 27; exact quiet_left (zx_any _ _ _)))
  rw [HU.out]
  go_wp2_with fail
  refine (zx_any _ _ _).mono ?_; rintro e w' ⟨rfl, rfl⟩
  go_wp2_with fail
  rw [HO.out]
  refine (of_any _ _ _ _ uz _).mono ?_; rintro e w' ⟨rfl, rfl⟩
  unfold th
  go_wp2_with fail
  refine bodyPost_ret (v := .tuple #[.int .u64 (zx l 8), .int .u64 u, .agg #[.bool ov, .bool ov, .int .u64 (sx (zx l 8) 8)]]) (by simp [results, Tryd.results22, go_sem]) rfl ⟨rfl, ?_⟩
  exact ((((((Kp.rfl W).new _).draws _).put (by simp) _).put (by simp) _).put (by simp) _).new _
theorem product_8_true_false (a b : Int) (ha : U64 a) (hb : U64 b) (hng : neg (zx (pLo a b true 8) 8) 8 = false) (W : World) : Calls Tryd.prog 22 #[.int .u64 a, .int .u64 b, .bool true, .int .i64 8] W fun e W' => e = .returned (prd a b true 8) ∧ Kp W W' := by
  rw [prd_is a b true 8 (by decide)]
  have ua : U64 (zx a 8) := Cq.zx_u64 8
  have ub : U64 (zx b 8) := Cq.zx_u64 8
  have va : U64 (sx a 8) := Cq.sx_u64 8
  have vb : U64 (sx b 8) := Cq.sx_u64 8
  obtain ⟨h, hh⟩ : ∃ h, h = pHi a b true 8 := ⟨_, rfl⟩
  obtain ⟨l, hl⟩ : ∃ l, l = pLo a b true 8 := ⟨_, rfl⟩
  obtain ⟨u, hu⟩ : ∃ u, u = pUp a b true 8 := ⟨_, rfl⟩
  obtain ⟨ov, hov⟩ : ∃ ov, ov = pOver a b true 8 := ⟨_, rfl⟩
  have ul : U64 l := by rw [hl]; exact Cq.pLo_u64 _ _ _ _
  have uh : U64 h := by rw [hh]; exact Cq.pHi_u64 _ _ _ _
  have uu : U64 u := by rw [hu]; exact Cq.pUp_u64 _ _ _ _
  have uz : U64 (zx l 8) := Cq.zx_u64 8
  rw [← hov, ← hu, ← hl]
  rw [← hl] at hng
  have hu2 : u = h := by rw [hu, hh]; rfl
  have HU := Lib.hid ((Cq.up_8' uh ul).trans hu2.symm)
  have HO : Hid ((u != 0) = ov) := Lib.hid (by rw [hov, hu]; unfold pOver; rw [← hl, hng]; rfl)
  have HH : Hid (shi (sx a 8) (sx b 8) = h) := Lib.hid hh.symm
  have HL : Hid (mlo (sx a 8 * sx b 8) = l) := Lib.hid hl.symm
  replace hng := Lib.hid hng
  clear hh hl hu hu2 hov
  have ul0 := ul.1
  unfold th
  go_enter Tryd.func22, Tryd.ntmps22
  go_wp2_with fail
  refine (is_any _ _).mono ?_; rintro e w' ⟨rfl, rfl⟩
  rw [show isW 8 = true from rfl]
  go_wp2_with fail
  refine (zx_any _ _ _).mono ?_; rintro e w' ⟨rfl, rfl⟩
  go_wp2_with fail
  refine (zx_any _ _ _).mono ?_; rintro e w' ⟨rfl, rfl⟩
  go_wp2_with fail
  refine (mulU_any _ _ ua ub _).mono ?_; rintro e w' ⟨rfl, rfl⟩
  go_wp2_with fail
  refine (sx_any _ _ ha _).mono ?_; rintro e w' ⟨rfl, rfl⟩
  go_wp2_with fail
  refine (sx_any _ _ hb _).mono ?_; rintro e w' ⟨rfl, rfl⟩
  go_wp2_with fail
  refine (mulS_any _ _ va vb _).mono ?_; rintro e w' ⟨rfl, rfl⟩
  rw [HH.out, HL.out]
  go_wp2_with fail
  go_quiet ((go_at_call 27; exact quiet_left (zx_any _ _ _)))
  rw [HU.out]
  go_wp2_with fail
  refine (zx_any _ _ _).mono ?_; rintro e w' ⟨rfl, rfl⟩
  go_wp2_with fail
  refine (neg_any _ _ uz _).mono ?_; rintro e w' ⟨rfl, rfl⟩
  rw [hng.out]
  go_wp2_with fail
  rw [HO.out]
  refine (of_any _ _ _ _ uz _).mono ?_; rintro e w' ⟨rfl, rfl⟩
  unfold th
  go_wp2_with fail
  refine bodyPost_ret (v := .tuple #[.int .u64 (zx l 8), .int .u64 u, .agg #[.bool ov, .bool ov, .int .u64 (sx (zx l 8) 8)]]) (by simp [results, Tryd.results22, go_sem]) rfl ⟨rfl, ?_⟩
  exact ((((((Kp.rfl W).new _).draws _).put (by simp) _).put (by simp) _).put (by simp) _).new _
theorem product_8_true_true (a b : Int) (ha : U64 a) (hb : U64 b) (hng : neg (zx (pLo a b true 8) 8) 8 = true) (W : World) : Calls Tryd.prog 22 #[.int .u64 a, .int .u64 b, .bool true, .int .i64 8] W fun e W' => e = .returned (prd a b true 8) ∧ Kp W W' := by
  rw [prd_is a b true 8 (by decide)]
  have ua : U64 (zx a 8) := Cq.zx_u64 8
  have ub : U64 (zx b 8) := Cq.zx_u64 8
  have va : U64 (sx a 8) := Cq.sx_u64 8
  have vb : U64 (sx b 8) := Cq.sx_u64 8
  obtain ⟨h, hh⟩ : ∃ h, h = pHi a b true 8 := ⟨_, rfl⟩
  obtain ⟨l, hl⟩ : ∃ l, l = pLo a b true 8 := ⟨_, rfl⟩
  obtain ⟨u, hu⟩ : ∃ u, u = pUp a b true 8 := ⟨_, rfl⟩
  obtain ⟨ov, hov⟩ : ∃ ov, ov = pOver a b true 8 := ⟨_, rfl⟩
  have ul : U64 l := by rw [hl]; exact Cq.pLo_u64 _ _ _ _
  have uh : U64 h := by rw [hh]; exact Cq.pHi_u64 _ _ _ _
  have uu : U64 u := by rw [hu]; exact Cq.pUp_u64 _ _ _ _
  have uz : U64 (zx l 8) := Cq.zx_u64 8
  rw [← hov, ← hu, ← hl]
  rw [← hl] at hng
  have hu2 : u = h := by rw [hu, hh]; rfl
  have HU := Lib.hid ((Cq.up_8' uh ul).trans hu2.symm)
  have HO : Hid ((u != mask 8) = ov) := Lib.hid (by rw [hov, hu]; unfold pOver; rw [← hl, hng]; rfl)
  have HH : Hid (shi (sx a 8) (sx b 8) = h) := Lib.hid hh.symm
  have HL : Hid (mlo (sx a 8 * sx b 8) = l) := Lib.hid hl.symm
  replace hng := Lib.hid hng
  clear hh hl hu hu2 hov
  have ul0 := ul.1
  unfold th
  go_enter Tryd.func22, Tryd.ntmps22
  go_wp2_with fail
  refine (is_any _ _).mono ?_; rintro e w' ⟨rfl, rfl⟩
  rw [show isW 8 = true from rfl]
  go_wp2_with fail
  refine (zx_any _ _ _).mono ?_; rintro e w' ⟨rfl, rfl⟩
  go_wp2_with fail
  refine (zx_any _ _ _).mono ?_; rintro e w' ⟨rfl, rfl⟩
  go_wp2_with fail
  refine (mulU_any _ _ ua ub _).mono ?_; rintro e w' ⟨rfl, rfl⟩
  go_wp2_with fail
  refine (sx_any _ _ ha _).mono ?_; rintro e w' ⟨rfl, rfl⟩
  go_wp2_with fail
  refine (sx_any _ _ hb _).mono ?_; rintro e w' ⟨rfl, rfl⟩
  go_wp2_with fail
  refine (mulS_any _ _ va vb _).mono ?_; rintro e w' ⟨rfl, rfl⟩
  rw [HH.out, HL.out]
  go_wp2_with fail
  go_quiet ((go_at_call 27; exact quiet_left (zx_any _ _ _)))
  rw [HU.out]
  go_wp2_with fail
  refine (zx_any _ _ _).mono ?_; rintro e w' ⟨rfl, rfl⟩
  go_wp2_with fail
  refine (neg_any _ _ uz _).mono ?_; rintro e w' ⟨rfl, rfl⟩
  rw [hng.out]
  go_wp2_with fail
  refine (mask_any _ _).mono ?_; rintro e w' ⟨rfl, rfl⟩
  go_wp2_with fail
  rw [HO.out]
  refine (of_any _ _ _ _ uz _).mono ?_; rintro e w' ⟨rfl, rfl⟩
  unfold th
  go_wp2_with fail
  refine bodyPost_ret (v := .tuple #[.int .u64 (zx l 8), .int .u64 u, .agg #[.bool ov, .bool ov, .int .u64 (sx (zx l 8) 8)]]) (by simp [results, Tryd.results22, go_sem]) rfl ⟨rfl, ?_⟩
  exact ((((((Kp.rfl W).new _).draws _).put (by simp) _).put (by simp) _).put (by simp) _).new _
theorem product_bad (a b : Int) (s : Bool) (w : Int) (h : isW w = false) (W : World) : Calls Tryd.prog 22 #[.int .u64 a, .int .u64 b, .bool s, .int .i64 w] W fun e W' => e = .returned (prd a b s w) ∧ Kp W W' := by
  rw [prd_bad a b s w h]
  go_enter Tryd.func22, Tryd.ntmps22
  go_wp2_with fail
  refine (is_any _ _).mono ?_; rintro e w' ⟨rfl, rfl⟩
  rw [h]
  go_wp2_with fail
  refine bodyPost_ret (v := .tuple #[.int .u64 0, .int .u64 0, th false false 0]) (by simp [results, Tryd.results22, go_sem, th]) rfl ⟨rfl, ?_⟩
  exact (Kp.rfl W).new _
theorem product_any (a b : Int) (s : Bool) (w : Int) (ha : U64 a) (hb : U64 b) (W : World) : Calls Tryd.prog 22 #[.int .u64 a, .int .u64 b, .bool s, .int .i64 w] W fun e W' => e = .returned (prd a b s w) ∧ Kp W W' := by
  cases h : isW w
  · exact product_bad a b s w h W
  · rcases Cq.isW_cases h with rfl | rfl | rfl | rfl
    · cases s
      · exact product_1_false a b ha hb W
      · cases hng : neg (zx (pLo a b true 1) 1) 1
        · exact product_1_true_false a b ha hb hng W
        · exact product_1_true_true a b ha hb hng W
    · cases s
      · exact product_2_false a b ha hb W
      · cases hng : neg (zx (pLo a b true 2) 2) 2
        · exact product_2_true_false a b ha hb hng W
        · exact product_2_true_true a b ha hb hng W
    · cases s
      · exact product_4_false a b ha hb W
      · cases hng : neg (zx (pLo a b true 4) 4) 4
        · exact product_4_true_false a b ha hb hng W
        · exact product_4_true_true a b ha hb hng W
    · cases s
      · exact product_8_false a b ha hb W
      · cases hng : neg (zx (pLo a b true 8) 8) 8
        · exact product_8_true_false a b ha hb hng W
        · exact product_8_true_true a b ha hb hng W
end Go.Proofs.YtlbkmdmnijmieaaDoor
