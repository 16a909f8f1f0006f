/- Walks of layer 8: operations of two numbers, by the document's own answers: sums and differences. -/
import Derived.Test.YtmebkahgdpnajaaFl
namespace Go.Proofs.Ytmebkahgdpnajaa
open Go Go.RowKit
open Cq (U64 I64 isW nb zx sx neg sumV sumC sumO lessV lessC lessO bit oneI)

theorem word_1 (W : World) : Calls Try.prog 28 #[.int .i64 1] W fun e W' => e = .returned (.string ⟨#[97, 100, 100]⟩) ∧ W' = W.alloc tabObj := word_in 1 (by omega) (by omega) W
theorem word_2 (W : World) : Calls Try.prog 28 #[.int .i64 2] W fun e W' => e = .returned (.string ⟨#[111, 114]⟩) ∧ W' = W.alloc tabObj := word_in 2 (by omega) (by omega) W
theorem word_3 (W : World) : Calls Try.prog 28 #[.int .i64 3] W fun e W' => e = .returned (.string ⟨#[97, 100, 99]⟩) ∧ W' = W.alloc tabObj := word_in 3 (by omega) (by omega) W
theorem word_4 (W : World) : Calls Try.prog 28 #[.int .i64 4] W fun e W' => e = .returned (.string ⟨#[115, 98, 98]⟩) ∧ W' = W.alloc tabObj := word_in 4 (by omega) (by omega) W
theorem word_5 (W : World) : Calls Try.prog 28 #[.int .i64 5] W fun e W' => e = .returned (.string ⟨#[97, 110, 100]⟩) ∧ W' = W.alloc tabObj := word_in 5 (by omega) (by omega) W
theorem word_6 (W : World) : Calls Try.prog 28 #[.int .i64 6] W fun e W' => e = .returned (.string ⟨#[115, 117, 98]⟩) ∧ W' = W.alloc tabObj := word_in 6 (by omega) (by omega) W
theorem word_7 (W : World) : Calls Try.prog 28 #[.int .i64 7] W fun e W' => e = .returned (.string ⟨#[120, 111, 114]⟩) ∧ W' = W.alloc tabObj := word_in 7 (by omega) (by omega) W
theorem word_8 (W : World) : Calls Try.prog 28 #[.int .i64 8] W fun e W' => e = .returned (.string ⟨#[99, 109, 112]⟩) ∧ W' = W.alloc tabObj := word_in 8 (by omega) (by omega) W
theorem word_9 (W : World) : Calls Try.prog 28 #[.int .i64 9] W fun e W' => e = .returned (.string ⟨#[116, 101, 115, 116]⟩) ∧ W' = W.alloc tabObj := word_in 9 (by omega) (by omega) W
theorem word_16 (W : World) : Calls Try.prog 28 #[.int .i64 16] W fun e W' => e = .returned (.string ⟨#[105, 110, 99]⟩) ∧ W' = W.alloc tabObj := word_in 16 (by omega) (by omega) W
theorem word_17 (W : World) : Calls Try.prog 28 #[.int .i64 17] W fun e W' => e = .returned (.string ⟨#[100, 101, 99]⟩) ∧ W' = W.alloc tabObj := word_in 17 (by omega) (by omega) W
theorem word_18 (W : World) : Calls Try.prog 28 #[.int .i64 18] W fun e W' => e = .returned (.string ⟨#[110, 111, 116]⟩) ∧ W' = W.alloc tabObj := word_in 18 (by omega) (by omega) W
theorem word_19 (W : World) : Calls Try.prog 28 #[.int .i64 19] W fun e W' => e = .returned (.string ⟨#[110, 101, 103]⟩) ∧ W' = W.alloc tabObj := word_in 19 (by omega) (by omega) W
theorem word_26 (W : World) : Calls Try.prog 28 #[.int .i64 26] W fun e W' => e = .returned (.string ⟨#[114, 111, 108]⟩) ∧ W' = W.alloc tabObj := word_in 26 (by omega) (by omega) W
theorem word_27 (W : World) : Calls Try.prog 28 #[.int .i64 27] W fun e W' => e = .returned (.string ⟨#[114, 111, 114]⟩) ∧ W' = W.alloc tabObj := word_in 27 (by omega) (by omega) W
theorem word_28 (W : World) : Calls Try.prog 28 #[.int .i64 28] W fun e W' => e = .returned (.string ⟨#[115, 104, 108]⟩) ∧ W' = W.alloc tabObj := word_in 28 (by omega) (by omega) W
theorem word_29 (W : World) : Calls Try.prog 28 #[.int .i64 29] W fun e W' => e = .returned (.string ⟨#[115, 104, 114]⟩) ∧ W' = W.alloc tabObj := word_in 29 (by omega) (by omega) W
theorem word_30 (W : World) : Calls Try.prog 28 #[.int .i64 30] W fun e W' => e = .returned (.string ⟨#[115, 97, 114]⟩) ∧ W' = W.alloc tabObj := word_in 30 (by omega) (by omega) W
theorem rtwo_at_1 (a b : Int) (c o : Bool) (s w : Int) (ha : U64 a) (hb : U64 b) (h : isW w = true) (W : World) : Calls Try.prog 10 #[.int .i64 1, .int .u64 a, .int .u64 b, th c o s, .int .i64 w] W fun e W' => e = .returned (two 1 a b c o s w) ∧ Kp W W' := by
  rw [two_1 a b c o s w h]
  have HZ := Lib.hid (Cq.zx_sumV a b false w)
  unfold th
  go_enter Try.func10, Try.ntmps10
  go_wp2_with fail
  refine (ris_any _ _).mono ?_; rintro e w' ⟨rfl, rfl⟩
  rw [h]
  go_wp2_with fail
  refine (word_1 _).mono ?_; rintro e w' ⟨rfl, rfl⟩
  go_wp2_with fail
  refine (rsum_any _ _ _ _ ha hb _).mono ?_; rintro e w' ⟨rfl, rfl⟩
  go_wp2_with fail
  refine (rof_any _ _ _ _ (Cq.sumV_u64 _ _ _ _) _).mono ?_; rintro e w' ⟨rfl, rfl⟩
  rw [HZ.out]
  unfold th
  go_wp2_with fail
  refine bodyPost_ret (v := T (sumV a b false w) (sumC a b false w) (sumO a b false w) w) (by simp [results, Try.results10, go_sem, T, th]) rfl ⟨rfl, ?_⟩
  exact ((((Kp.rfl W).new _).new _).new _).new _
theorem rtwo_at_3 (a b : Int) (c o : Bool) (s w : Int) (ha : U64 a) (hb : U64 b) (h : isW w = true) (W : World) : Calls Try.prog 10 #[.int .i64 3, .int .u64 a, .int .u64 b, th c o s, .int .i64 w] W fun e W' => e = .returned (two 3 a b c o s w) ∧ Kp W W' := by
  rw [two_3 a b c o s w h]
  have HZ := Lib.hid (Cq.zx_sumV a b c w)
  unfold th
  go_enter Try.func10, Try.ntmps10
  go_wp2_with fail
  refine (ris_any _ _).mono ?_; rintro e w' ⟨rfl, rfl⟩
  rw [h]
  go_wp2_with fail
  refine (word_3 _).mono ?_; rintro e w' ⟨rfl, rfl⟩
  go_wp2_with fail
  refine (rsum_any _ _ _ _ ha hb _).mono ?_; rintro e w' ⟨rfl, rfl⟩
  go_wp2_with fail
  refine (rof_any _ _ _ _ (Cq.sumV_u64 _ _ _ _) _).mono ?_; rintro e w' ⟨rfl, rfl⟩
  rw [HZ.out]
  unfold th
  go_wp2_with fail
  refine bodyPost_ret (v := T (sumV a b c w) (sumC a b c w) (sumO a b c w) w) (by simp [results, Try.results10, go_sem, T, th]) rfl ⟨rfl, ?_⟩
  exact ((((Kp.rfl W).new _).new _).new _).new _
theorem rtwo_at_6 (a b : Int) (c o : Bool) (s w : Int) (ha : U64 a) (hb : U64 b) (h : isW w = true) (W : World) : Calls Try.prog 10 #[.int .i64 6, .int .u64 a, .int .u64 b, th c o s, .int .i64 w] W fun e W' => e = .returned (two 6 a b c o s w) ∧ Kp W W' := by
  rw [two_6 a b c o s w h]
  have HZ := Lib.hid (Cq.zx_lessV a b false w)
  unfold th
  go_enter Try.func10, Try.ntmps10
  go_wp2_with fail
  refine (ris_any _ _).mono ?_; rintro e w' ⟨rfl, rfl⟩
  rw [h]
  go_wp2_with fail
  refine (word_6 _).mono ?_; rintro e w' ⟨rfl, rfl⟩
  go_wp2_with fail
  refine (rless_any _ _ _ _ ha hb _).mono ?_; rintro e w' ⟨rfl, rfl⟩
  go_wp2_with fail
  refine (rof_any _ _ _ _ (Cq.lessV_u64 _ _ _ _) _).mono ?_; rintro e w' ⟨rfl, rfl⟩
  rw [HZ.out]
  unfold th
  go_wp2_with fail
  refine bodyPost_ret (v := T (lessV a b false w) (lessC a b false w) (lessO a b false w) w) (by simp [results, Try.results10, go_sem, T, th]) rfl ⟨rfl, ?_⟩
  exact ((((Kp.rfl W).new _).new _).new _).new _
theorem rtwo_at_8 (a b : Int) (c o : Bool) (s w : Int) (ha : U64 a) (hb : U64 b) (h : isW w = true) (W : World) : Calls Try.prog 10 #[.int .i64 8, .int .u64 a, .int .u64 b, th c o s, .int .i64 w] W fun e W' => e = .returned (two 8 a b c o s w) ∧ Kp W W' := by
  rw [two_8 a b c o s w h]
  have HZ := Lib.hid (Cq.zx_lessV a b false w)
  unfold th
  go_enter Try.func10, Try.ntmps10
  go_wp2_with fail
  refine (ris_any _ _).mono ?_; rintro e w' ⟨rfl, rfl⟩
  rw [h]
  go_wp2_with fail
  refine (word_8 _).mono ?_; rintro e w' ⟨rfl, rfl⟩
  go_wp2_with fail
  refine (rless_any _ _ _ _ ha hb _).mono ?_; rintro e w' ⟨rfl, rfl⟩
  go_wp2_with fail
  refine (rof_any _ _ _ _ (Cq.lessV_u64 _ _ _ _) _).mono ?_; rintro e w' ⟨rfl, rfl⟩
  rw [HZ.out]
  unfold th
  go_wp2_with fail
  refine bodyPost_ret (v := T (lessV a b false w) (lessC a b false w) (lessO a b false w) w) (by simp [results, Try.results10, go_sem, T, th]) rfl ⟨rfl, ?_⟩
  exact ((((Kp.rfl W).new _).new _).new _).new _
theorem rtwo_at_4 (a b : Int) (c o : Bool) (s w : Int) (ha : U64 a) (hb : U64 b) (h : isW w = true) (W : World) : Calls Try.prog 10 #[.int .i64 4, .int .u64 a, .int .u64 b, th c o s, .int .i64 w] W fun e W' => e = .returned (two 4 a b c o s w) ∧ Kp W W' := by
  rw [two_4 a b c o s w h]
  have HZ := Lib.hid (Cq.zx_lessV a b c w)
  unfold th
  go_enter Try.func10, Try.ntmps10
  go_wp2_with fail
  refine (ris_any _ _).mono ?_; rintro e w' ⟨rfl, rfl⟩
  rw [h]
  go_wp2_with fail
  refine (word_4 _).mono ?_; rintro e w' ⟨rfl, rfl⟩
  go_wp2_with fail
  refine (rless_any _ _ _ _ ha hb _).mono ?_; rintro e w' ⟨rfl, rfl⟩
  go_wp2_with fail
  refine (rof_any _ _ _ _ (Cq.lessV_u64 _ _ _ _) _).mono ?_; rintro e w' ⟨rfl, rfl⟩
  rw [HZ.out]
  unfold th
  go_wp2_with fail
  refine bodyPost_ret (v := T (lessV a b c w) (lessC a b c w) (lessO a b c w) w) (by simp [results, Try.results10, go_sem, T, th]) rfl ⟨rfl, ?_⟩
  exact ((((Kp.rfl W).new _).new _).new _).new _
end Go.Proofs.Ytmebkahgdpnajaa
