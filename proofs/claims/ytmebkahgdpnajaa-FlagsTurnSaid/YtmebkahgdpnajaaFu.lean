/- Walks of layer 8: Turn, by the document's own answers. -/
import Derived.Test.YtmebkahgdpnajaaFs
import Derived.Test.YtmebkahgdpnajaaFn
import Derived.LoopTactic
import Derived.Deep.DeepCutAuto
import Derived.Deep.CutBlock
import Derived.IntWalk
namespace Go.Proofs.Ytmebkahgdpnajaa
open Go Go.RowKit
open Cq (U64 I64 isW nb zx sx neg bit oneI turn sg sarV)

theorem kk_32 (n w : Int) (h : (w == 8) = false) : wrap64 ((IntKind.u64.wrap n).tmod 32) = (kk n w : Int) := by
  have h' : ¬ w = 8 := by simpa using h
  rw [Int.tmod_eq_emod_of_nonneg (Cq.u64_wrap n).1]
  unfold kk wrap64; rw [if_neg h', IntKind.wrap_u64]; omega
theorem kk_64 (n w : Int) (h : (w == 8) = true) : wrap64 ((IntKind.u64.wrap n).tmod 64) = (kk n w : Int) := by
  have h' : w = 8 := by simpa using h
  rw [Int.tmod_eq_emod_of_nonneg (Cq.u64_wrap n).1]
  unfold kk wrap64; rw [if_pos h', IntKind.wrap_u64]; omega
set_option maxHeartbeats 2000000 in
set_option maxRecDepth 100000 in
theorem rturn_at_28 (a n : Int) (c o : Bool) (s w : Int) (ha : U64 a) (h : isW w = true) (W : World) : Calls Try.prog 16 #[.int .i64 28, .int .u64 a, .int .i64 n, th c o s, .int .i64 w] W fun e W' => e = .returned (trn 28 a n c o s w) ∧ Kp W W' := by
  have ⟨hn, g8, g64⟩ := Cq.nb_is h
  have hw : 1 ≤ w ∧ w ≤ 8 := by omega
  have uz := Cq.zx_u64 (v := a) w
  have hl := kk_le n w
  clear hn g8 g64
  have w1 := hw.1
  have w2 := hw.2
  clear hw
  cases hk : kk n w with
  | zero =>
    rw [trn_zero 28 a n c o s w h (by omega) hk]
    have HK := Lib.hid hk
    clear hk hl
    unfold th
    cases h8 : (w == 8)
    · have H1 := Lib.hid (kk_32 n w h8)
      go_enter Try.func16, Try.ntmps16
      go_upto_region 4 with fail
      rw [H1.out, HK.out]
      go_wp2_with fail
      refine (word_28 _).mono ?_; rintro e w' ⟨rfl, rfl⟩
      go_wp2_with fail
      refine (ris_any _ _).mono ?_; rintro e w' ⟨rfl, rfl⟩
      rw [h]
      go_wp2_with fail
      refine (rzx_any _ _ ha _).mono ?_; rintro e w' ⟨rfl, rfl⟩
      go_wp2_with fail
      refine (rneg_any _ _ uz _).mono ?_; rintro e w' ⟨rfl, rfl⟩
      go_wp2_with fail
      go_region
      all_goals
        go_wp2_with fail
        refine bodyPost_ret (v := .tuple #[.int .u64 (zx a w), th c o s]) (by simp [results, Try.results16, go_sem, th]) rfl ⟨rfl, ?_⟩
        exact ((((Kp.rfl W).new _).new _).new _).draws _
    · have H1 := Lib.hid (kk_64 n w h8)
      go_enter Try.func16, Try.ntmps16
      go_upto_region 4 with fail
      rw [H1.out, HK.out]
      go_wp2_with fail
      refine (word_28 _).mono ?_; rintro e w' ⟨rfl, rfl⟩
      go_wp2_with fail
      refine (ris_any _ _).mono ?_; rintro e w' ⟨rfl, rfl⟩
      rw [h]
      go_wp2_with fail
      refine (rzx_any _ _ ha _).mono ?_; rintro e w' ⟨rfl, rfl⟩
      go_wp2_with fail
      refine (rneg_any _ _ uz _).mono ?_; rintro e w' ⟨rfl, rfl⟩
      go_wp2_with fail
      go_region
      all_goals
        go_wp2_with fail
        refine bodyPost_ret (v := .tuple #[.int .u64 (zx a w), th c o s]) (by simp [results, Try.results16, go_sem, th]) rfl ⟨rfl, ?_⟩
        exact ((((Kp.rfl W).new _).new _).new _).draws _
  | succ j =>
    rw [trn_step 28 a n c o s w h (by omega) j hk, trnS_28]
    have hj : j ≤ 62 := by omega
    have hj0 : ((j : Int) + 1 == 0) = false := by simp; omega
    have HK : Hid ((kk n w : Int) = (j : Int) + 1) := Lib.hid (by omega)
    clear hk hl
    have AU : ∀ i, U64 (shlV a w i) := fun i => Cq.zx_u64 w
    have AS : ∀ i, zx (IntKind.u64.wrap (shlV a w i * 2)) w = shlV a w (i + 1) := fun i => Cq.shl_step a w i
    have AC : ∀ i, (bit (shlV a w i) (8 * w - 1) == 1) = neg (shlV a w i) w := fun i => Cq.bit_eq_one (AU i) h
    have A0 : shlV a w 0 = zx a w := by unfold shlV; rw [Int.pow_zero, Int.mul_one, Cq.zx_zx]
    have AZ : zx (shlV a w (j + 1)) w = shlV a w (j + 1) := Cq.zx_zx _ _
    obtain ⟨C, C0, CS⟩ : ∃ C : Nat → Bool, C 0 = false ∧ ∀ i, C (i + 1) = neg (shlV a w (i)) w := ⟨fun i => match i with | 0 => false | i + 1 => neg (shlV a w (i)) w, rfl, fun _ => rfl⟩
    obtain ⟨Q, hQ⟩ : ∃ Q : Nat → Int, ∀ i, Q i = shlV a w (i) := ⟨fun i => shlV a w (i), fun _ => rfl⟩
    simp only [← hQ] at AU AS A0 CS AC
    replace C0 := Lib.hid C0
    replace CS := Lib.hid CS
    replace hQ := Lib.hid hQ
    replace AU := Lib.hid AU
    replace AS := Lib.hid AS
    replace AC := Lib.hid AC
    replace A0 := Lib.hid A0
    replace AZ := Lib.hid AZ
    (try unfold T)
    unfold th
    cases h8 : (w == 8)
    · have H1 := Lib.hid (kk_32 n w h8)
      go_enter Try.func16, Try.ntmps16
      go_upto_region 4 with fail
      rw [H1.out, HK.out]
      go_wp2_with fail
      refine (word_28 _).mono ?_; rintro e w' ⟨rfl, rfl⟩
      go_wp2_with fail
      refine (ris_any _ _).mono ?_; rintro e w' ⟨rfl, rfl⟩
      rw [h]
      go_wp2_with fail
      refine (rzx_any _ _ ha _).mono ?_; rintro e w' ⟨rfl, rfl⟩
      go_wp2_with fail
      refine (rneg_any _ _ uz _).mono ?_; rintro e w' ⟨rfl, rfl⟩
      go_wp2_with fail
      go_loop [1, 16, 17, 18, 19] (fun x cc k _ _ => ∃ i : Nat, i ≤ j + 1 ∧ k = .int .i64 i ∧ x = .int .u64 (Q i) ∧ cc = .bool (C i)) (fun _ _ k _ _ => j + 1 - (intOf k).toNat)
      case atStart => exact ⟨0, by omega, rfl, by rw [A0.out], by rw [C0.out]⟩
      case round =>
        obtain ⟨i, hi, rfl, rfl, rfl⟩ := hrel
        by_cases hlt : i < j + 1
        · have ui := AU.out i
          have ui0 := ui.1
          go_wp2_with fail
          refine (bit_any _ _ (by omega) ui _).mono ?_; rintro e w' ⟨rfl, rfl⟩
          go_wp2_with fail
          refine (bit_any _ _ (by omega) ui _).mono ?_; rintro e w' ⟨rfl, rfl⟩
          go_wp2_with fail
          refine (rzx_any _ _ (Cq.u64_wrap _) _).mono ?_; rintro e w' ⟨rfl, rfl⟩
          go_wp2_with fail
          go_round
          case rel => exact ⟨i + 1, by omega, by go_num, by rw [AS.out], by rw [CS.out, AC.out]⟩
          case measure => simp [intOf]; omega
        · obtain rfl : i = j + 1 := by omega
          have ui := AU.out (j + 1)
          go_wp2_with fail
          refine (rneg_any _ _ ui _).mono ?_; rintro e w' ⟨rfl, rfl⟩
          go_wp2_with fail
          refine (rof_any _ _ _ _ ui _).mono ?_; rintro e w' ⟨rfl, rfl⟩
          unfold th
          go_wp2_with fail
          refine bodyPost_ret (v := .tuple #[.int .u64 (zx (Q (j + 1)) w), .agg #[.bool (C (j + 1)), .bool (neg (Q (j + 1)) w != C (j + 1)), .int .u64 (sx (Q (j + 1)) w)]]) (by simp [results, Try.results16, go_sem, bne]) rfl ⟨by simp only [CS.out, hQ.out, AZ.out], ?_⟩
          exact ((((Kp.rfl W).new _).new _).new _).new _
    · have H1 := Lib.hid (kk_64 n w h8)
      go_enter Try.func16, Try.ntmps16
      go_upto_region 4 with fail
      rw [H1.out, HK.out]
      go_wp2_with fail
      refine (word_28 _).mono ?_; rintro e w' ⟨rfl, rfl⟩
      go_wp2_with fail
      refine (ris_any _ _).mono ?_; rintro e w' ⟨rfl, rfl⟩
      rw [h]
      go_wp2_with fail
      refine (rzx_any _ _ ha _).mono ?_; rintro e w' ⟨rfl, rfl⟩
      go_wp2_with fail
      refine (rneg_any _ _ uz _).mono ?_; rintro e w' ⟨rfl, rfl⟩
      go_wp2_with fail
      go_loop [1, 16, 17, 18, 19] (fun x cc k _ _ => ∃ i : Nat, i ≤ j + 1 ∧ k = .int .i64 i ∧ x = .int .u64 (Q i) ∧ cc = .bool (C i)) (fun _ _ k _ _ => j + 1 - (intOf k).toNat)
      case atStart => exact ⟨0, by omega, rfl, by rw [A0.out], by rw [C0.out]⟩
      case round =>
        obtain ⟨i, hi, rfl, rfl, rfl⟩ := hrel
        by_cases hlt : i < j + 1
        · have ui := AU.out i
          have ui0 := ui.1
          go_wp2_with fail
          refine (bit_any _ _ (by omega) ui _).mono ?_; rintro e w' ⟨rfl, rfl⟩
          go_wp2_with fail
          refine (bit_any _ _ (by omega) ui _).mono ?_; rintro e w' ⟨rfl, rfl⟩
          go_wp2_with fail
          refine (rzx_any _ _ (Cq.u64_wrap _) _).mono ?_; rintro e w' ⟨rfl, rfl⟩
          go_wp2_with fail
          go_round
          case rel => exact ⟨i + 1, by omega, by go_num, by rw [AS.out], by rw [CS.out, AC.out]⟩
          case measure => simp [intOf]; omega
        · obtain rfl : i = j + 1 := by omega
          have ui := AU.out (j + 1)
          go_wp2_with fail
          refine (rneg_any _ _ ui _).mono ?_; rintro e w' ⟨rfl, rfl⟩
          go_wp2_with fail
          refine (rof_any _ _ _ _ ui _).mono ?_; rintro e w' ⟨rfl, rfl⟩
          unfold th
          go_wp2_with fail
          refine bodyPost_ret (v := .tuple #[.int .u64 (zx (Q (j + 1)) w), .agg #[.bool (C (j + 1)), .bool (neg (Q (j + 1)) w != C (j + 1)), .int .u64 (sx (Q (j + 1)) w)]]) (by simp [results, Try.results16, go_sem, bne]) rfl ⟨by simp only [CS.out, hQ.out, AZ.out], ?_⟩
          exact ((((Kp.rfl W).new _).new _).new _).new _
set_option maxHeartbeats 2000000 in
set_option maxRecDepth 100000 in
theorem rturn_at_29 (a n : Int) (c o : Bool) (s w : Int) (ha : U64 a) (h : isW w = true) (W : World) : Calls Try.prog 16 #[.int .i64 29, .int .u64 a, .int .i64 n, th c o s, .int .i64 w] W fun e W' => e = .returned (trn 29 a n c o s w) ∧ Kp W W' := by
  have ⟨hn, g8, g64⟩ := Cq.nb_is h
  have hw : 1 ≤ w ∧ w ≤ 8 := by omega
  have uz := Cq.zx_u64 (v := a) w
  have hl := kk_le n w
  clear hn g8 g64
  have w1 := hw.1
  have w2 := hw.2
  clear hw
  cases hk : kk n w with
  | zero =>
    rw [trn_zero 29 a n c o s w h (by omega) hk]
    have HK := Lib.hid hk
    clear hk hl
    unfold th
    cases h8 : (w == 8)
    · have H1 := Lib.hid (kk_32 n w h8)
      go_enter Try.func16, Try.ntmps16
      go_upto_region 4 with fail
      rw [H1.out, HK.out]
      go_wp2_with fail
      refine (word_29 _).mono ?_; rintro e w' ⟨rfl, rfl⟩
      go_wp2_with fail
      refine (ris_any _ _).mono ?_; rintro e w' ⟨rfl, rfl⟩
      rw [h]
      go_wp2_with fail
      refine (rzx_any _ _ ha _).mono ?_; rintro e w' ⟨rfl, rfl⟩
      go_wp2_with fail
      refine (rneg_any _ _ uz _).mono ?_; rintro e w' ⟨rfl, rfl⟩
      go_wp2_with fail
      go_region
      all_goals
        go_wp2_with fail
        refine bodyPost_ret (v := .tuple #[.int .u64 (zx a w), th c o s]) (by simp [results, Try.results16, go_sem, th]) rfl ⟨rfl, ?_⟩
        exact ((((Kp.rfl W).new _).new _).new _).draws _
    · have H1 := Lib.hid (kk_64 n w h8)
      go_enter Try.func16, Try.ntmps16
      go_upto_region 4 with fail
      rw [H1.out, HK.out]
      go_wp2_with fail
      refine (word_29 _).mono ?_; rintro e w' ⟨rfl, rfl⟩
      go_wp2_with fail
      refine (ris_any _ _).mono ?_; rintro e w' ⟨rfl, rfl⟩
      rw [h]
      go_wp2_with fail
      refine (rzx_any _ _ ha _).mono ?_; rintro e w' ⟨rfl, rfl⟩
      go_wp2_with fail
      refine (rneg_any _ _ uz _).mono ?_; rintro e w' ⟨rfl, rfl⟩
      go_wp2_with fail
      go_region
      all_goals
        go_wp2_with fail
        refine bodyPost_ret (v := .tuple #[.int .u64 (zx a w), th c o s]) (by simp [results, Try.results16, go_sem, th]) rfl ⟨rfl, ?_⟩
        exact ((((Kp.rfl W).new _).new _).new _).draws _
  | succ j =>
    rw [trn_step 29 a n c o s w h (by omega) j hk, trnS_29]
    have hj : j ≤ 62 := by omega
    have hj0 : ((j : Int) + 1 == 0) = false := by simp; omega
    have HK : Hid ((kk n w : Int) = (j : Int) + 1) := Lib.hid (by omega)
    clear hk hl
    have AU : ∀ i, U64 (zx a w / 2 ^ i) := fun i => Cq.shr_u64 uz i
    have AS : ∀ i, zx a w / 2 ^ i / 2 = zx a w / 2 ^ (i + 1) := fun i => Cq.half_half _ i
    have A0 : zx a w / 2 ^ 0 = zx a w := by rw [Int.pow_zero, Int.ediv_one]
    have AZ : zx (zx a w / 2 ^ (j + 1)) w = zx a w / 2 ^ (j + 1) := Cq.shr_zx a w _
    have AN := Cq.neg_zx a w
    obtain ⟨C, C0, CS⟩ : ∃ C : Nat → Bool, C 0 = false ∧ ∀ i, C (i + 1) = (bit (zx a w / 2 ^ (i)) 0 == 1) := ⟨fun i => match i with | 0 => false | i + 1 => (bit (zx a w / 2 ^ (i)) 0 == 1), rfl, fun _ => rfl⟩
    obtain ⟨Q, hQ⟩ : ∃ Q : Nat → Int, ∀ i, Q i = zx a w / 2 ^ (i) := ⟨fun i => zx a w / 2 ^ (i), fun _ => rfl⟩
    simp only [← hQ] at AU AS A0 CS
    have HD : Hid (∀ i, IntKind.u64.wrap ((Q i).tdiv 2) = Q i / 2) := Lib.hid (fun i => by rw [Int.tdiv_eq_ediv_of_nonneg (AU i).1]; exact Cq.wrap_of_u64 (by have g := AU i; unfold U64 at *; omega))
    replace C0 := Lib.hid C0
    replace CS := Lib.hid CS
    replace hQ := Lib.hid hQ
    replace AU := Lib.hid AU
    replace AS := Lib.hid AS
    replace A0 := Lib.hid A0
    replace AZ := Lib.hid AZ
    replace AN := Lib.hid AN
    (try unfold T)
    unfold th
    cases h8 : (w == 8)
    · have H1 := Lib.hid (kk_32 n w h8)
      go_enter Try.func16, Try.ntmps16
      go_upto_region 4 with fail
      rw [H1.out, HK.out]
      go_wp2_with fail
      refine (word_29 _).mono ?_; rintro e w' ⟨rfl, rfl⟩
      go_wp2_with fail
      refine (ris_any _ _).mono ?_; rintro e w' ⟨rfl, rfl⟩
      rw [h]
      go_wp2_with fail
      refine (rzx_any _ _ ha _).mono ?_; rintro e w' ⟨rfl, rfl⟩
      go_wp2_with fail
      refine (rneg_any _ _ uz _).mono ?_; rintro e w' ⟨rfl, rfl⟩
      go_wp2_with fail
      go_loop [1, 16, 17, 18, 19] (fun x cc k _ _ => ∃ i : Nat, i ≤ j + 1 ∧ k = .int .i64 i ∧ x = .int .u64 (Q i) ∧ cc = .bool (C i)) (fun _ _ k _ _ => j + 1 - (intOf k).toNat)
      case atStart => exact ⟨0, by omega, rfl, by rw [A0.out], by rw [C0.out]⟩
      case round =>
        obtain ⟨i, hi, rfl, rfl, rfl⟩ := hrel
        by_cases hlt : i < j + 1
        · have ui := AU.out i
          have ui0 := ui.1
          go_wp2_with fail
          refine (bit_any _ _ (by omega) ui _).mono ?_; rintro e w' ⟨rfl, rfl⟩
          go_wp2_with fail
          refine (bit_any _ _ (by omega) ui _).mono ?_; rintro e w' ⟨rfl, rfl⟩
          go_wp2_with fail
          go_round
          case rel => exact ⟨i + 1, by omega, by go_num, by rw [HD.out, AS.out], by rw [CS.out]⟩
          case measure => simp [intOf]; omega
        · obtain rfl : i = j + 1 := by omega
          have ui := AU.out (j + 1)
          go_wp2_with fail
          refine (rneg_any _ _ ui _).mono ?_; rintro e w' ⟨rfl, rfl⟩
          go_wp2_with fail
          refine (rof_any _ _ _ _ ui _).mono ?_; rintro e w' ⟨rfl, rfl⟩
          unfold th
          go_wp2_with fail
          refine bodyPost_ret (v := .tuple #[.int .u64 (zx (Q (j + 1)) w), .agg #[.bool (C (j + 1)), .bool (neg (zx a w) w), .int .u64 (sx (Q (j + 1)) w)]]) (by simp [results, Try.results16, go_sem]) rfl ⟨by simp only [CS.out, hQ.out, AZ.out, AN.out], ?_⟩
          exact ((((Kp.rfl W).new _).new _).new _).new _
    · have H1 := Lib.hid (kk_64 n w h8)
      go_enter Try.func16, Try.ntmps16
      go_upto_region 4 with fail
      rw [H1.out, HK.out]
      go_wp2_with fail
      refine (word_29 _).mono ?_; rintro e w' ⟨rfl, rfl⟩
      go_wp2_with fail
      refine (ris_any _ _).mono ?_; rintro e w' ⟨rfl, rfl⟩
      rw [h]
      go_wp2_with fail
      refine (rzx_any _ _ ha _).mono ?_; rintro e w' ⟨rfl, rfl⟩
      go_wp2_with fail
      refine (rneg_any _ _ uz _).mono ?_; rintro e w' ⟨rfl, rfl⟩
      go_wp2_with fail
      go_loop [1, 16, 17, 18, 19] (fun x cc k _ _ => ∃ i : Nat, i ≤ j + 1 ∧ k = .int .i64 i ∧ x = .int .u64 (Q i) ∧ cc = .bool (C i)) (fun _ _ k _ _ => j + 1 - (intOf k).toNat)
      case atStart => exact ⟨0, by omega, rfl, by rw [A0.out], by rw [C0.out]⟩
      case round =>
        obtain ⟨i, hi, rfl, rfl, rfl⟩ := hrel
        by_cases hlt : i < j + 1
        · have ui := AU.out i
          have ui0 := ui.1
          go_wp2_with fail
          refine (bit_any _ _ (by omega) ui _).mono ?_; rintro e w' ⟨rfl, rfl⟩
          go_wp2_with fail
          refine (bit_any _ _ (by omega) ui _).mono ?_; rintro e w' ⟨rfl, rfl⟩
          go_wp2_with fail
          go_round
          case rel => exact ⟨i + 1, by omega, by go_num, by rw [HD.out, AS.out], by rw [CS.out]⟩
          case measure => simp [intOf]; omega
        · obtain rfl : i = j + 1 := by omega
          have ui := AU.out (j + 1)
          go_wp2_with fail
          refine (rneg_any _ _ ui _).mono ?_; rintro e w' ⟨rfl, rfl⟩
          go_wp2_with fail
          refine (rof_any _ _ _ _ ui _).mono ?_; rintro e w' ⟨rfl, rfl⟩
          unfold th
          go_wp2_with fail
          refine bodyPost_ret (v := .tuple #[.int .u64 (zx (Q (j + 1)) w), .agg #[.bool (C (j + 1)), .bool (neg (zx a w) w), .int .u64 (sx (Q (j + 1)) w)]]) (by simp [results, Try.results16, go_sem]) rfl ⟨by simp only [CS.out, hQ.out, AZ.out, AN.out], ?_⟩
          exact ((((Kp.rfl W).new _).new _).new _).new _
set_option maxHeartbeats 2000000 in
set_option maxRecDepth 100000 in
theorem rturn_at_30 (a n : Int) (c o : Bool) (s w : Int) (ha : U64 a) (h : isW w = true) (W : World) : Calls Try.prog 16 #[.int .i64 30, .int .u64 a, .int .i64 n, th c o s, .int .i64 w] W fun e W' => e = .returned (trn 30 a n c o s w) ∧ Kp W W' := by
  have ⟨hn, g8, g64⟩ := Cq.nb_is h
  have hw : 1 ≤ w ∧ w ≤ 8 := by omega
  have uz := Cq.zx_u64 (v := a) w
  have hl := kk_le n w
  clear hn g8 g64
  have w1 := hw.1
  have w2 := hw.2
  clear hw
  cases hk : kk n w with
  | zero =>
    rw [trn_zero 30 a n c o s w h (by omega) hk]
    have HK := Lib.hid hk
    clear hk hl
    unfold th
    cases h8 : (w == 8)
    · have H1 := Lib.hid (kk_32 n w h8)
      go_enter Try.func16, Try.ntmps16
      go_upto_region 4 with fail
      rw [H1.out, HK.out]
      go_wp2_with fail
      refine (word_30 _).mono ?_; rintro e w' ⟨rfl, rfl⟩
      go_wp2_with fail
      refine (ris_any _ _).mono ?_; rintro e w' ⟨rfl, rfl⟩
      rw [h]
      go_wp2_with fail
      refine (rzx_any _ _ ha _).mono ?_; rintro e w' ⟨rfl, rfl⟩
      go_wp2_with fail
      refine (rneg_any _ _ uz _).mono ?_; rintro e w' ⟨rfl, rfl⟩
      go_wp2_with fail
      go_region
      all_goals
        go_wp2_with fail
        refine bodyPost_ret (v := .tuple #[.int .u64 (zx a w), th c o s]) (by simp [results, Try.results16, go_sem, th]) rfl ⟨rfl, ?_⟩
        exact ((((Kp.rfl W).new _).new _).new _).draws _
    · have H1 := Lib.hid (kk_64 n w h8)
      go_enter Try.func16, Try.ntmps16
      go_upto_region 4 with fail
      rw [H1.out, HK.out]
      go_wp2_with fail
      refine (word_30 _).mono ?_; rintro e w' ⟨rfl, rfl⟩
      go_wp2_with fail
      refine (ris_any _ _).mono ?_; rintro e w' ⟨rfl, rfl⟩
      rw [h]
      go_wp2_with fail
      refine (rzx_any _ _ ha _).mono ?_; rintro e w' ⟨rfl, rfl⟩
      go_wp2_with fail
      refine (rneg_any _ _ uz _).mono ?_; rintro e w' ⟨rfl, rfl⟩
      go_wp2_with fail
      go_region
      all_goals
        go_wp2_with fail
        refine bodyPost_ret (v := .tuple #[.int .u64 (zx a w), th c o s]) (by simp [results, Try.results16, go_sem, th]) rfl ⟨rfl, ?_⟩
        exact ((((Kp.rfl W).new _).new _).new _).draws _
  | succ j =>
    rw [trn_step 30 a n c o s w h (by omega) j hk, trnS_30]
    have hj : j ≤ 62 := by omega
    have HT : Hid ((8 * w).toNat - 1 = (8 * w - 1).toNat) := Lib.hid (by omega)
    have hj0 : ((j : Int) + 1 == 0) = false := by simp; omega
    have HK : Hid ((kk n w : Int) = (j : Int) + 1) := Lib.hid (by omega)
    clear hk hl
    have AU : ∀ i, U64 (sarV a w i) := fun i => Cq.zx_u64 w
    have AS : ∀ i, IntKind.u64.wrap (sarV a w i / 2 + IntKind.u64.wrap (bit (sarV a w i) (8 * w - 1) * 2 ^ (8 * w - 1).toNat)) = sarV a w (i + 1) := fun i => Cq.sar_step a h i
    have A0 := Cq.sar_at a w
    have AZ : zx (sarV a w (j + 1)) w = sarV a w (j + 1) := Cq.zx_zx _ _
    obtain ⟨C, C0, CS⟩ : ∃ C : Nat → Bool, C 0 = false ∧ ∀ i, C (i + 1) = (bit (sarV a w (i)) 0 == 1) := ⟨fun i => match i with | 0 => false | i + 1 => (bit (sarV a w (i)) 0 == 1), rfl, fun _ => rfl⟩
    obtain ⟨Q, hQ⟩ : ∃ Q : Nat → Int, ∀ i, Q i = sarV a w (i) := ⟨fun i => sarV a w (i), fun _ => rfl⟩
    simp only [← hQ] at AU AS A0 CS
    have HD : Hid (∀ i, IntKind.u64.wrap ((Q i).tdiv 2) = Q i / 2) := Lib.hid (fun i => by rw [Int.tdiv_eq_ediv_of_nonneg (AU i).1]; exact Cq.wrap_of_u64 (by have g := AU i; unfold U64 at *; omega))
    replace C0 := Lib.hid C0
    replace CS := Lib.hid CS
    replace hQ := Lib.hid hQ
    replace AU := Lib.hid AU
    replace AS := Lib.hid AS
    replace A0 := Lib.hid A0
    replace AZ := Lib.hid AZ
    (try unfold T)
    unfold th
    cases h8 : (w == 8)
    · have H1 := Lib.hid (kk_32 n w h8)
      go_enter Try.func16, Try.ntmps16
      go_upto_region 4 with fail
      rw [H1.out, HK.out]
      go_wp2_with fail
      refine (word_30 _).mono ?_; rintro e w' ⟨rfl, rfl⟩
      go_wp2_with fail
      refine (ris_any _ _).mono ?_; rintro e w' ⟨rfl, rfl⟩
      rw [h]
      go_wp2_with fail
      refine (rzx_any _ _ ha _).mono ?_; rintro e w' ⟨rfl, rfl⟩
      go_wp2_with fail
      refine (rneg_any _ _ uz _).mono ?_; rintro e w' ⟨rfl, rfl⟩
      go_wp2_with fail
      go_loop [1, 16, 17, 18, 19] (fun x cc k _ _ => ∃ i : Nat, i ≤ j + 1 ∧ k = .int .i64 i ∧ x = .int .u64 (Q i) ∧ cc = .bool (C i)) (fun _ _ k _ _ => j + 1 - (intOf k).toNat)
      case atStart => exact ⟨0, by omega, rfl, by rw [A0.out], by rw [C0.out]⟩
      case round =>
        obtain ⟨i, hi, rfl, rfl, rfl⟩ := hrel
        by_cases hlt : i < j + 1
        · have ui := AU.out i
          have ui0 := ui.1
          go_wp2_with fail
          refine (bit_any _ _ (by omega) ui _).mono ?_; rintro e w' ⟨rfl, rfl⟩
          go_wp2_with fail
          refine (bit_any _ _ (by omega) ui _).mono ?_; rintro e w' ⟨rfl, rfl⟩
          go_wp2_with fail
          go_round
          case rel => exact ⟨i + 1, by omega, by go_num, by rw [HD.out, HT.out, AS.out], by rw [CS.out]⟩
          case measure => simp [intOf]; omega
        · obtain rfl : i = j + 1 := by omega
          have ui := AU.out (j + 1)
          go_wp2_with fail
          refine (rneg_any _ _ ui _).mono ?_; rintro e w' ⟨rfl, rfl⟩
          go_wp2_with fail
          refine (rof_any _ _ _ _ ui _).mono ?_; rintro e w' ⟨rfl, rfl⟩
          unfold th
          go_wp2_with fail
          refine bodyPost_ret (v := .tuple #[.int .u64 (zx (Q (j + 1)) w), .agg #[.bool (C (j + 1)), .bool false, .int .u64 (sx (Q (j + 1)) w)]]) (by simp [results, Try.results16, go_sem]) rfl ⟨by simp only [CS.out, hQ.out, AZ.out], ?_⟩
          exact ((((Kp.rfl W).new _).new _).new _).new _
    · have H1 := Lib.hid (kk_64 n w h8)
      go_enter Try.func16, Try.ntmps16
      go_upto_region 4 with fail
      rw [H1.out, HK.out]
      go_wp2_with fail
      refine (word_30 _).mono ?_; rintro e w' ⟨rfl, rfl⟩
      go_wp2_with fail
      refine (ris_any _ _).mono ?_; rintro e w' ⟨rfl, rfl⟩
      rw [h]
      go_wp2_with fail
      refine (rzx_any _ _ ha _).mono ?_; rintro e w' ⟨rfl, rfl⟩
      go_wp2_with fail
      refine (rneg_any _ _ uz _).mono ?_; rintro e w' ⟨rfl, rfl⟩
      go_wp2_with fail
      go_loop [1, 16, 17, 18, 19] (fun x cc k _ _ => ∃ i : Nat, i ≤ j + 1 ∧ k = .int .i64 i ∧ x = .int .u64 (Q i) ∧ cc = .bool (C i)) (fun _ _ k _ _ => j + 1 - (intOf k).toNat)
      case atStart => exact ⟨0, by omega, rfl, by rw [A0.out], by rw [C0.out]⟩
      case round =>
        obtain ⟨i, hi, rfl, rfl, rfl⟩ := hrel
        by_cases hlt : i < j + 1
        · have ui := AU.out i
          have ui0 := ui.1
          go_wp2_with fail
          refine (bit_any _ _ (by omega) ui _).mono ?_; rintro e w' ⟨rfl, rfl⟩
          go_wp2_with fail
          refine (bit_any _ _ (by omega) ui _).mono ?_; rintro e w' ⟨rfl, rfl⟩
          go_wp2_with fail
          go_round
          case rel => exact ⟨i + 1, by omega, by go_num, by rw [HD.out, HT.out, AS.out], by rw [CS.out]⟩
          case measure => simp [intOf]; omega
        · obtain rfl : i = j + 1 := by omega
          have ui := AU.out (j + 1)
          go_wp2_with fail
          refine (rneg_any _ _ ui _).mono ?_; rintro e w' ⟨rfl, rfl⟩
          go_wp2_with fail
          refine (rof_any _ _ _ _ ui _).mono ?_; rintro e w' ⟨rfl, rfl⟩
          unfold th
          go_wp2_with fail
          refine bodyPost_ret (v := .tuple #[.int .u64 (zx (Q (j + 1)) w), .agg #[.bool (C (j + 1)), .bool false, .int .u64 (sx (Q (j + 1)) w)]]) (by simp [results, Try.results16, go_sem]) rfl ⟨by simp only [CS.out, hQ.out, AZ.out], ?_⟩
          exact ((((Kp.rfl W).new _).new _).new _).new _
set_option maxHeartbeats 2000000 in
set_option maxRecDepth 100000 in
theorem rturn_at_26 (a n : Int) (c o : Bool) (s w : Int) (ha : U64 a) (h : isW w = true) (W : World) : Calls Try.prog 16 #[.int .i64 26, .int .u64 a, .int .i64 n, th c o s, .int .i64 w] W fun e W' => e = .returned (trn 26 a n c o s w) ∧ Kp W W' := by
  have ⟨hn, g8, g64⟩ := Cq.nb_is h
  have hw : 1 ≤ w ∧ w ≤ 8 := by omega
  have uz := Cq.zx_u64 (v := a) w
  have hl := kk_le n w
  clear hn g8 g64
  have w1 := hw.1
  have w2 := hw.2
  clear hw
  cases hk : kk n w with
  | zero =>
    rw [trn_zero 26 a n c o s w h (by omega) hk]
    have HK := Lib.hid hk
    clear hk hl
    unfold th
    cases h8 : (w == 8)
    · have H1 := Lib.hid (kk_32 n w h8)
      go_enter Try.func16, Try.ntmps16
      go_upto_region 4 with fail
      rw [H1.out, HK.out]
      go_wp2_with fail
      refine (word_26 _).mono ?_; rintro e w' ⟨rfl, rfl⟩
      go_wp2_with fail
      refine (ris_any _ _).mono ?_; rintro e w' ⟨rfl, rfl⟩
      rw [h]
      go_wp2_with fail
      refine (rzx_any _ _ ha _).mono ?_; rintro e w' ⟨rfl, rfl⟩
      go_wp2_with fail
      refine (rneg_any _ _ uz _).mono ?_; rintro e w' ⟨rfl, rfl⟩
      go_wp2_with fail
      go_region
      all_goals
        go_wp2_with fail
        refine bodyPost_ret (v := .tuple #[.int .u64 (zx a w), th c o s]) (by simp [results, Try.results16, go_sem, th]) rfl ⟨rfl, ?_⟩
        exact ((((Kp.rfl W).new _).new _).new _).draws _
    · have H1 := Lib.hid (kk_64 n w h8)
      go_enter Try.func16, Try.ntmps16
      go_upto_region 4 with fail
      rw [H1.out, HK.out]
      go_wp2_with fail
      refine (word_26 _).mono ?_; rintro e w' ⟨rfl, rfl⟩
      go_wp2_with fail
      refine (ris_any _ _).mono ?_; rintro e w' ⟨rfl, rfl⟩
      rw [h]
      go_wp2_with fail
      refine (rzx_any _ _ ha _).mono ?_; rintro e w' ⟨rfl, rfl⟩
      go_wp2_with fail
      refine (rneg_any _ _ uz _).mono ?_; rintro e w' ⟨rfl, rfl⟩
      go_wp2_with fail
      go_region
      all_goals
        go_wp2_with fail
        refine bodyPost_ret (v := .tuple #[.int .u64 (zx a w), th c o s]) (by simp [results, Try.results16, go_sem, th]) rfl ⟨rfl, ?_⟩
        exact ((((Kp.rfl W).new _).new _).new _).draws _
  | succ j =>
    rw [trn_step 26 a n c o s w h (by omega) j hk, trnS_26]
    have hj : j ≤ 62 := by omega
    have hj0 : ((j : Int) + 1 == 0) = false := by simp; omega
    have HK : Hid ((kk n w : Int) = (j : Int) + 1) := Lib.hid (by omega)
    clear hk hl
    have AU : ∀ i : Nat, U64 (turn a i w) := fun i => Cq.turn_u64 a i w
    have AS : ∀ i : Nat, IntKind.u64.wrap (zx (IntKind.u64.wrap (turn a i w * 2)) w + bit (turn a i w) (8 * w - 1)) = turn a ((i + 1 : Nat) : Int) w := fun i => (Cq.rol_step a i h).1
    have AC : ∀ i : Nat, bit (turn a i w) (8 * w - 1) = bit (turn a ((i + 1 : Nat) : Int) w) 0 := fun i => (Cq.rol_step a i h).2
    have A0 : turn a ((0 : Nat) : Int) w = zx a w := Cq.turn_zx h ha.1
    obtain ⟨C, C0, CS⟩ : ∃ C : Nat → Bool, C 0 = false ∧ ∀ i, C (i + 1) = (bit (turn a ((i + 1 : Nat) : Int) w) 0 == 1) := ⟨fun i => match i with | 0 => false | i + 1 => (bit (turn a ((i + 1 : Nat) : Int) w) 0 == 1), rfl, fun _ => rfl⟩
    obtain ⟨Q, hQ⟩ : ∃ Q : Nat → Int, ∀ i, Q i = turn a ((i : Nat) : Int) w := ⟨fun i => turn a ((i : Nat) : Int) w, fun _ => rfl⟩
    simp only [← hQ] at AU AS A0 CS AC
    replace C0 := Lib.hid C0
    replace CS := Lib.hid CS
    replace hQ := Lib.hid hQ
    replace AU := Lib.hid AU
    replace AS := Lib.hid AS
    replace AC := Lib.hid AC
    replace A0 := Lib.hid A0
    (try unfold T)
    unfold th
    cases h8 : (w == 8)
    · have H1 := Lib.hid (kk_32 n w h8)
      go_enter Try.func16, Try.ntmps16
      go_upto_region 4 with fail
      rw [H1.out, HK.out]
      go_wp2_with fail
      refine (word_26 _).mono ?_; rintro e w' ⟨rfl, rfl⟩
      go_wp2_with fail
      refine (ris_any _ _).mono ?_; rintro e w' ⟨rfl, rfl⟩
      rw [h]
      go_wp2_with fail
      refine (rzx_any _ _ ha _).mono ?_; rintro e w' ⟨rfl, rfl⟩
      go_wp2_with fail
      refine (rneg_any _ _ uz _).mono ?_; rintro e w' ⟨rfl, rfl⟩
      go_wp2_with fail
      go_loop [1, 16, 17, 18, 19] (fun x cc k _ _ => ∃ i : Nat, i ≤ j + 1 ∧ k = .int .i64 i ∧ x = .int .u64 (Q i) ∧ cc = .bool (C i)) (fun _ _ k _ _ => j + 1 - (intOf k).toNat)
      case atStart => exact ⟨0, by omega, rfl, by rw [A0.out], by rw [C0.out]⟩
      case round =>
        obtain ⟨i, hi, rfl, rfl, rfl⟩ := hrel
        by_cases hlt : i < j + 1
        · have ui := AU.out i
          have ui0 := ui.1
          go_wp2_with fail
          refine (bit_any _ _ (by omega) ui _).mono ?_; rintro e w' ⟨rfl, rfl⟩
          go_wp2_with fail
          refine (bit_any _ _ (by omega) ui _).mono ?_; rintro e w' ⟨rfl, rfl⟩
          go_wp2_with fail
          refine (rzx_any _ _ (Cq.u64_wrap _) _).mono ?_; rintro e w' ⟨rfl, rfl⟩
          go_wp2_with fail
          go_round
          case rel => exact ⟨i + 1, by omega, by go_num, by rw [AS.out], by rw [CS.out, ← AC.out]⟩
          case measure => simp [intOf]; omega
        · obtain rfl : i = j + 1 := by omega
          have ui := AU.out (j + 1)
          go_wp2_with fail
          refine (rneg_any _ _ ui _).mono ?_; rintro e w' ⟨rfl, rfl⟩
          go_wp2_with fail
          go_region
          all_goals
            go_wp2_with fail
            refine bodyPost_ret (v := .tuple #[.int .u64 (Q (j + 1)), .agg #[.bool (C (j + 1)), .bool (neg (Q (j + 1)) w != C (j + 1)), .int .u64 s]]) (by simp [results, Try.results16, go_sem, bne]) rfl ⟨by simp only [CS.out, hQ.out]; rfl, ?_⟩
            exact ((((Kp.rfl W).new _).new _).new _).draws _
    · have H1 := Lib.hid (kk_64 n w h8)
      go_enter Try.func16, Try.ntmps16
      go_upto_region 4 with fail
      rw [H1.out, HK.out]
      go_wp2_with fail
      refine (word_26 _).mono ?_; rintro e w' ⟨rfl, rfl⟩
      go_wp2_with fail
      refine (ris_any _ _).mono ?_; rintro e w' ⟨rfl, rfl⟩
      rw [h]
      go_wp2_with fail
      refine (rzx_any _ _ ha _).mono ?_; rintro e w' ⟨rfl, rfl⟩
      go_wp2_with fail
      refine (rneg_any _ _ uz _).mono ?_; rintro e w' ⟨rfl, rfl⟩
      go_wp2_with fail
      go_loop [1, 16, 17, 18, 19] (fun x cc k _ _ => ∃ i : Nat, i ≤ j + 1 ∧ k = .int .i64 i ∧ x = .int .u64 (Q i) ∧ cc = .bool (C i)) (fun _ _ k _ _ => j + 1 - (intOf k).toNat)
      case atStart => exact ⟨0, by omega, rfl, by rw [A0.out], by rw [C0.out]⟩
      case round =>
        obtain ⟨i, hi, rfl, rfl, rfl⟩ := hrel
        by_cases hlt : i < j + 1
        · have ui := AU.out i
          have ui0 := ui.1
          go_wp2_with fail
          refine (bit_any _ _ (by omega) ui _).mono ?_; rintro e w' ⟨rfl, rfl⟩
          go_wp2_with fail
          refine (bit_any _ _ (by omega) ui _).mono ?_; rintro e w' ⟨rfl, rfl⟩
          go_wp2_with fail
          refine (rzx_any _ _ (Cq.u64_wrap _) _).mono ?_; rintro e w' ⟨rfl, rfl⟩
          go_wp2_with fail
          go_round
          case rel => exact ⟨i + 1, by omega, by go_num, by rw [AS.out], by rw [CS.out, ← AC.out]⟩
          case measure => simp [intOf]; omega
        · obtain rfl : i = j + 1 := by omega
          have ui := AU.out (j + 1)
          go_wp2_with fail
          refine (rneg_any _ _ ui _).mono ?_; rintro e w' ⟨rfl, rfl⟩
          go_wp2_with fail
          go_region
          all_goals
            go_wp2_with fail
            refine bodyPost_ret (v := .tuple #[.int .u64 (Q (j + 1)), .agg #[.bool (C (j + 1)), .bool (neg (Q (j + 1)) w != C (j + 1)), .int .u64 s]]) (by simp [results, Try.results16, go_sem, bne]) rfl ⟨by simp only [CS.out, hQ.out]; rfl, ?_⟩
            exact ((((Kp.rfl W).new _).new _).new _).draws _
set_option maxHeartbeats 2000000 in
set_option maxRecDepth 100000 in
theorem rturn_at_27 (a n : Int) (c o : Bool) (s w : Int) (ha : U64 a) (h : isW w = true) (W : World) : Calls Try.prog 16 #[.int .i64 27, .int .u64 a, .int .i64 n, th c o s, .int .i64 w] W fun e W' => e = .returned (trn 27 a n c o s w) ∧ Kp W W' := by
  have ⟨hn, g8, g64⟩ := Cq.nb_is h
  have hw : 1 ≤ w ∧ w ≤ 8 := by omega
  have uz := Cq.zx_u64 (v := a) w
  have hl := kk_le n w
  clear hn g8 g64
  have w1 := hw.1
  have w2 := hw.2
  clear hw
  cases hk : kk n w with
  | zero =>
    rw [trn_zero 27 a n c o s w h (by omega) hk]
    have HK := Lib.hid hk
    clear hk hl
    unfold th
    cases h8 : (w == 8)
    · have H1 := Lib.hid (kk_32 n w h8)
      go_enter Try.func16, Try.ntmps16
      go_upto_region 4 with fail
      rw [H1.out, HK.out]
      go_wp2_with fail
      refine (word_27 _).mono ?_; rintro e w' ⟨rfl, rfl⟩
      go_wp2_with fail
      refine (ris_any _ _).mono ?_; rintro e w' ⟨rfl, rfl⟩
      rw [h]
      go_wp2_with fail
      refine (rzx_any _ _ ha _).mono ?_; rintro e w' ⟨rfl, rfl⟩
      go_wp2_with fail
      refine (rneg_any _ _ uz _).mono ?_; rintro e w' ⟨rfl, rfl⟩
      go_wp2_with fail
      go_region
      all_goals
        go_wp2_with fail
        refine bodyPost_ret (v := .tuple #[.int .u64 (zx a w), th c o s]) (by simp [results, Try.results16, go_sem, th]) rfl ⟨rfl, ?_⟩
        exact ((((Kp.rfl W).new _).new _).new _).draws _
    · have H1 := Lib.hid (kk_64 n w h8)
      go_enter Try.func16, Try.ntmps16
      go_upto_region 4 with fail
      rw [H1.out, HK.out]
      go_wp2_with fail
      refine (word_27 _).mono ?_; rintro e w' ⟨rfl, rfl⟩
      go_wp2_with fail
      refine (ris_any _ _).mono ?_; rintro e w' ⟨rfl, rfl⟩
      rw [h]
      go_wp2_with fail
      refine (rzx_any _ _ ha _).mono ?_; rintro e w' ⟨rfl, rfl⟩
      go_wp2_with fail
      refine (rneg_any _ _ uz _).mono ?_; rintro e w' ⟨rfl, rfl⟩
      go_wp2_with fail
      go_region
      all_goals
        go_wp2_with fail
        refine bodyPost_ret (v := .tuple #[.int .u64 (zx a w), th c o s]) (by simp [results, Try.results16, go_sem, th]) rfl ⟨rfl, ?_⟩
        exact ((((Kp.rfl W).new _).new _).new _).draws _
  | succ j =>
    rw [trn_step 27 a n c o s w h (by omega) j hk, trnS_27]
    have hj : j ≤ 62 := by omega
    have HT : Hid ((8 * w).toNat - 1 = (8 * w - 1).toNat) := Lib.hid (by omega)
    have hj0 : ((j : Int) + 1 == 0) = false := by simp; omega
    have HK : Hid ((kk n w : Int) = (j : Int) + 1) := Lib.hid (by omega)
    clear hk hl
    have AU : ∀ i : Nat, U64 (turn a (-i) w) := fun i => Cq.turn_u64 a _ w
    have AS : ∀ i : Nat, IntKind.u64.wrap (turn a (-i) w / 2 + IntKind.u64.wrap (bit (turn a (-i) w) 0 * 2 ^ (8 * w - 1).toNat)) = turn a (-((i + 1 : Nat) : Int)) w := fun i => by have e := (Cq.ror_step a (-i) h).1; rw [show (-(i : Int) - 1) = -((i + 1 : Nat) : Int) by omega] at e; exact e
    have A0 : turn a (-((0 : Nat) : Int)) w = zx a w := Cq.turn_zx h ha.1
    have AB : ∀ i : Nat, bit (turn a (-i) w) 0 = oneI (neg (turn a (-((i + 1 : Nat) : Int)) w) w) := fun i => by have e := (Cq.ror_step a (-i) h).2; rw [show (-(i : Int) - 1) = -((i + 1 : Nat) : Int) by omega] at e; exact e
    have AO : ∀ i : Nat, neg (IntKind.u64.wrap (turn a (-i) w * 2)) w = (bit (turn a (-i) w) (8 * w - 1 - 1) == 1) := fun i => Cq.ror_o a (-i) h
    obtain ⟨C, C0, CS⟩ : ∃ C : Nat → Bool, C 0 = false ∧ ∀ i, C (i + 1) = (bit (turn a (-((i : Nat) : Int)) w) 0 == 1) := ⟨fun i => match i with | 0 => false | i + 1 => (bit (turn a (-((i : Nat) : Int)) w) 0 == 1), rfl, fun _ => rfl⟩
    obtain ⟨Q, hQ⟩ : ∃ Q : Nat → Int, ∀ i, Q i = turn a (-((i : Nat) : Int)) w := ⟨fun i => turn a (-((i : Nat) : Int)) w, fun _ => rfl⟩
    simp only [← hQ] at AU AS A0 CS
    have AF : Value.tuple #[.int .u64 (turn a (-((j : Int) + 1)) w), .agg #[.bool (neg (turn a (-((j : Int) + 1)) w) w), .bool (neg (IntKind.u64.wrap (turn a (-((j : Int) + 1)) w * 2)) w != neg (turn a (-((j : Int) + 1)) w) w), .int .u64 s]] = .tuple #[.int .u64 (Q (j + 1)), .agg #[.bool (C (j + 1)), .bool (neg (Q (j + 1)) w != (bit (Q (j + 1)) (8 * w - 1 - 1) == 1)), .int .u64 s]] := by
      have e1 := AB j
      have e2 := AO (j + 1)
      have e3 := CS j
      rw [hQ] at e3
      rw [e3, e1, hQ, ← e2]
      show Value.tuple #[.int .u64 (turn a (-((j + 1 : Nat) : Int)) w), .agg #[.bool (neg (turn a (-((j + 1 : Nat) : Int)) w) w), .bool (neg (IntKind.u64.wrap (turn a (-((j + 1 : Nat) : Int)) w * 2)) w != neg (turn a (-((j + 1 : Nat) : Int)) w) w), .int .u64 s]] = _
      generalize neg (turn a (-((j + 1 : Nat) : Int)) w) w = y
      generalize neg (IntKind.u64.wrap (turn a (-((j + 1 : Nat) : Int)) w * 2)) w = z
      cases y <;> cases z <;> rfl
    replace AF := Lib.hid AF
    have HD : Hid (∀ i, IntKind.u64.wrap ((Q i).tdiv 2) = Q i / 2) := Lib.hid (fun i => by rw [Int.tdiv_eq_ediv_of_nonneg (AU i).1]; exact Cq.wrap_of_u64 (by have g := AU i; unfold U64 at *; omega))
    replace C0 := Lib.hid C0
    replace CS := Lib.hid CS
    replace hQ := Lib.hid hQ
    replace AU := Lib.hid AU
    replace AS := Lib.hid AS
    replace A0 := Lib.hid A0
    replace AB := Lib.hid AB
    replace AO := Lib.hid AO
    (try unfold T)
    unfold th
    cases h8 : (w == 8)
    · have H1 := Lib.hid (kk_32 n w h8)
      go_enter Try.func16, Try.ntmps16
      go_upto_region 4 with fail
      rw [H1.out, HK.out]
      go_wp2_with fail
      refine (word_27 _).mono ?_; rintro e w' ⟨rfl, rfl⟩
      go_wp2_with fail
      refine (ris_any _ _).mono ?_; rintro e w' ⟨rfl, rfl⟩
      rw [h]
      go_wp2_with fail
      refine (rzx_any _ _ ha _).mono ?_; rintro e w' ⟨rfl, rfl⟩
      go_wp2_with fail
      refine (rneg_any _ _ uz _).mono ?_; rintro e w' ⟨rfl, rfl⟩
      go_wp2_with fail
      go_loop [1, 16, 17, 18, 19] (fun x cc k _ _ => ∃ i : Nat, i ≤ j + 1 ∧ k = .int .i64 i ∧ x = .int .u64 (Q i) ∧ cc = .bool (C i)) (fun _ _ k _ _ => j + 1 - (intOf k).toNat)
      case atStart => exact ⟨0, by omega, rfl, by rw [A0.out], by rw [C0.out]⟩
      case round =>
        obtain ⟨i, hi, rfl, rfl, rfl⟩ := hrel
        by_cases hlt : i < j + 1
        · have ui := AU.out i
          have ui0 := ui.1
          go_wp2_with fail
          refine (bit_any _ _ (by omega) ui _).mono ?_; rintro e w' ⟨rfl, rfl⟩
          go_wp2_with fail
          refine (bit_any _ _ (by omega) ui _).mono ?_; rintro e w' ⟨rfl, rfl⟩
          go_wp2_with fail
          go_round
          case rel => exact ⟨i + 1, by omega, by go_num, by rw [HD.out, HT.out, AS.out], by rw [CS.out]⟩
          case measure => simp [intOf]; omega
        · obtain rfl : i = j + 1 := by omega
          have ui := AU.out (j + 1)
          go_wp2_with fail
          refine (rneg_any _ _ ui _).mono ?_; rintro e w' ⟨rfl, rfl⟩
          go_wp2_with fail
          have hs : IntKind.i64.wrap (8 * w - 1 - 1) = 8 * w - 1 - 1 := IntWalk.i64_in _ (by omega)
          go_region_with ((go_at_call 32; refine (bit_any _ _ (by omega) ui _).mono ?_; rintro e w' ⟨rfl, rfl⟩))
          all_goals
            go_wp2_with fail
            refine bodyPost_ret (v := .tuple #[.int .u64 (Q (j + 1)), .agg #[.bool (C (j + 1)), .bool (neg (Q (j + 1)) w != (bit (Q (j + 1)) (8 * w - 1 - 1) == 1)), .int .u64 s]]) (by simp [results, Try.results16, go_sem, bne]) rfl ⟨by rw [AF.out], ?_⟩
            exact ((((Kp.rfl W).new _).new _).new _).draws _
    · have H1 := Lib.hid (kk_64 n w h8)
      go_enter Try.func16, Try.ntmps16
      go_upto_region 4 with fail
      rw [H1.out, HK.out]
      go_wp2_with fail
      refine (word_27 _).mono ?_; rintro e w' ⟨rfl, rfl⟩
      go_wp2_with fail
      refine (ris_any _ _).mono ?_; rintro e w' ⟨rfl, rfl⟩
      rw [h]
      go_wp2_with fail
      refine (rzx_any _ _ ha _).mono ?_; rintro e w' ⟨rfl, rfl⟩
      go_wp2_with fail
      refine (rneg_any _ _ uz _).mono ?_; rintro e w' ⟨rfl, rfl⟩
      go_wp2_with fail
      go_loop [1, 16, 17, 18, 19] (fun x cc k _ _ => ∃ i : Nat, i ≤ j + 1 ∧ k = .int .i64 i ∧ x = .int .u64 (Q i) ∧ cc = .bool (C i)) (fun _ _ k _ _ => j + 1 - (intOf k).toNat)
      case atStart => exact ⟨0, by omega, rfl, by rw [A0.out], by rw [C0.out]⟩
      case round =>
        obtain ⟨i, hi, rfl, rfl, rfl⟩ := hrel
        by_cases hlt : i < j + 1
        · have ui := AU.out i
          have ui0 := ui.1
          go_wp2_with fail
          refine (bit_any _ _ (by omega) ui _).mono ?_; rintro e w' ⟨rfl, rfl⟩
          go_wp2_with fail
          refine (bit_any _ _ (by omega) ui _).mono ?_; rintro e w' ⟨rfl, rfl⟩
          go_wp2_with fail
          go_round
          case rel => exact ⟨i + 1, by omega, by go_num, by rw [HD.out, HT.out, AS.out], by rw [CS.out]⟩
          case measure => simp [intOf]; omega
        · obtain rfl : i = j + 1 := by omega
          have ui := AU.out (j + 1)
          go_wp2_with fail
          refine (rneg_any _ _ ui _).mono ?_; rintro e w' ⟨rfl, rfl⟩
          go_wp2_with fail
          have hs : IntKind.i64.wrap (8 * w - 1 - 1) = 8 * w - 1 - 1 := IntWalk.i64_in _ (by omega)
          go_region_with ((go_at_call 32; refine (bit_any _ _ (by omega) ui _).mono ?_; rintro e w' ⟨rfl, rfl⟩))
          all_goals
            go_wp2_with fail
            refine bodyPost_ret (v := .tuple #[.int .u64 (Q (j + 1)), .agg #[.bool (C (j + 1)), .bool (neg (Q (j + 1)) w != (bit (Q (j + 1)) (8 * w - 1 - 1) == 1)), .int .u64 s]]) (by simp [results, Try.results16, go_sem, bne]) rfl ⟨by rw [AF.out], ?_⟩
            exact ((((Kp.rfl W).new _).new _).new _).draws _
end Go.Proofs.Ytmebkahgdpnajaa
