/- Walks of layer 1: turning, of the code and of the document's own answer; the chapter's examples. -/
import Derived.Test.YtkjbhhbgfhicgaaBitx
import Derived.Test.YtkjbhhbgfhicgaaBito
namespace Go.Proofs.Ytkjbhhbgfhicgaa
open Go.RowKit
open Cq (U64 I64 isW nb zx mask neg sx oneI bit sumV sumC sumO lessV lessC lessO turn rot rotTo)

theorem turn_any (v k w : Int) (hv : U64 v) (W : World) : Calls Try.prog 29 #[.int .u64 v, .int .i64 k, .int .i64 w] W
    fun e W' => e = .returned (.int .u64 (turn v k w)) ∧ W = W' := by
  cases h : isW w
  · rw [Cq.turn_not h]
    have HZ : ∀ x, zx x w = 0 := by intro x; unfold zx; rw [Cq.nb_not h]; simp
    have Hz := Lib.hid HZ; clear HZ
    go_enter Try.func29, Try.ntmps29
    go_wp2_with fail
    refine (size_any _ _).mono ?_; rintro e w' ⟨rfl, rfl⟩
    go_wp2_with fail
    refine (zx_any _ _ _).mono ?_; rintro e w' ⟨rfl, rfl⟩
    rw [Hz.out]
    have hL := (Cq.bits_u64 .and (IntKind.u64.wrap k) (IntKind.u64.wrap (sz w - 1))).bd.1
    go_wp2_with fail
    refine (zx_any _ _ _).mono ?_; rintro e w' ⟨rfl, rfl⟩
    rw [Hz.out]
    go_wp2_with fail
    go_ret
    exact ⟨rfl, rfl⟩
  · have ⟨hn, h8, h64⟩ := Cq.nb_is h
    have hf := Cq.nb_five w
    have hm0 : 0 ≤ k % (nb w : Int) := Int.emod_nonneg _ (by omega)
    have hm1 : k % (nb w : Int) < nb w := Int.emod_lt_of_pos _ (by omega)
    have HSZ : sz w = nb w := by
      unfold sz; rcases Cq.isW_cases h with rfl | rfl | rfl | rfl <;> rfl
    have Hsz := Lib.hid HSZ
    have HL := Lib.hid (Cq.low_mask k (nb w) (by omega))
    have hm : (k % (nb w : Int)).toNat < nb w := by omega
    have HT := Lib.hid (Cq.turn_is (v := v) (k := k) h)
    have HC := Lib.hid (Cq.code_turn hv w h (k % (nb w : Int)).toNat hm)
    have HN := Lib.hid hn
    clear hf hm0 hm1 HSZ hn
    go_enter Try.func29, Try.ntmps29
    go_wp2_with fail
    refine (size_any _ _).mono ?_; rintro e w' ⟨rfl, rfl⟩
    rw [Hsz.out]
    go_wp2_with fail
    rw [HL.out]
    generalize (k % (nb w : Int)).toNat = m at *
    refine (zx_any _ _ _).mono ?_; rintro e w' ⟨rfl, rfl⟩
    go_wp2_with fail
    refine (zx_any _ _ _).mono ?_; rintro e w' ⟨rfl, rfl⟩
    rw [HC.out]
    go_wp2_with fail
    go_ret
    exact ⟨by rw [HT.out]; rfl, rfl⟩
theorem rturn_any (v k w : Int) (hv : U64 v) (_hk : I64 k) (W : World) : Calls Try.prog 32 #[.int .u64 v, .int .i64 k, .int .i64 w] W
    fun e W' => e = .returned (.int .u64 (turn v k w)) ∧ Drawn W W' := by
  cases h : isW w
  · rw [Cq.turn_not h]
    go_enter Try.func32, Try.ntmps32
    go_wp2_with fail
    refine (ris_any _ _).mono ?_; rintro e w' ⟨rfl, rfl⟩
    rw [h]
    go_wp2_with fail
    go_ret
    exact ⟨rfl, Drawn.refl _⟩
  · have ⟨_, h8, h64⟩ := Cq.nb_is h
    have HT := Lib.hid (Cq.turn_is (v := v) (k := k) h)
    unfold I64 at _hk
    have hw := Cq.isW_cases h
    obtain ⟨n, hn⟩ : ∃ n, n = nb w := ⟨_, rfl⟩
    rw [← hn] at h8 h64 HT
    have hm0 : 0 ≤ k % (n : Int) := Int.emod_nonneg _ (by omega)
    have hm1 : k % (n : Int) < n := Int.emod_lt_of_pos _ (by omega)
    obtain ⟨m, hm⟩ : ∃ m : Nat, k % (n : Int) = m := ⟨(k % (n : Int)).toNat, by omega⟩
    have hmn : m < n := by omega
    have HRE := Lib.hid (Cq.rotTo_end v.toNat m n)
    have hrz := Cq.rotTo_zero v.toNat m n
    rw [hm, Int.toNat_natCast] at HT
    clear hm0 hm1
    rcases hw with rfl | rfl | rfl | rfl
    · rw [show nb 1 = 8 from rfl] at hn
      subst hn
      by_cases hneg : k.tmod 8 < 0
      · have HK : Hid (wrap64 (k.tmod 8 + 8) = m) := by
          have := Cq.tmod_neg (by decide) hneg
          show wrap64 _ = _
          unfold wrap64; omega
        clear hm
        go_enter Try.func32, Try.ntmps32
        go_wp2_with fail
        refine (ris_any _ _).mono ?_; rintro e w' ⟨rfl, rfl⟩
        rw [h]
        go_wp2_with fail
        rw [HK.out]
        go_loopw [8, 9] (fun r i wr => ∃ j : Nat, j ≤ 8 ∧ i = .int .i64 j ∧ r = .int .u64 (rotTo v.toNat m 8 j : Int) ∧ Drawn W wr) (fun _ i _ => 8 - (intOf i).toNat)
        case atStart => exact ⟨0, by omega, rfl, by rw [hrz]; rfl, Drawn.refl _⟩
        case round =>
          obtain ⟨j, hj, rfl, rfl, hd⟩ := hrel
          by_cases hlt : j < 8
          · have e1 : IntKind.i64.wrap ((j : Int) + m) = (j : Int) + m := IntWalk.i64_in _ (by omega)
            have e2 : ((j : Int) + m).tmod 8 = ((j + m) % 8 : Nat) := by rw [Int.tmod_eq_emod_of_nonneg (by omega)]; omega
            have b1 : (j + m) % 8 ≤ 63 := by omega
            have hr := Cq.rotTo_round hv m 8 j hmn hlt (by decide)
            have HR := Lib.hid hr; clear hr
            go_wp2_with fail
            go_quiet ((go_at_call 42; exact quiet_left (bit_any v _ (by omega) hv _)))
            go_wp2_with fail
            go_roundw
            case rel => exact ⟨j + 1, by omega, by go_num, congrArg (Value.int .u64) HR.out, hd.drewN _⟩
            case measure => simp [intOf]; omega
          · have hj8 : j = 8 := by omega
            subst hj8
            go_wp2_with fail
            go_ret
            exact ⟨by rw [HT.out, ← HRE.out]; rfl, hd⟩
      · have HK : Hid (k.tmod 8 = m) := by
          have := Cq.tmod_pos (by decide) (Int.not_lt.mp hneg)
          show k.tmod 8 = _
          omega
        have hpos := Int.not_lt.mp hneg
        clear hm hneg
        go_enter Try.func32, Try.ntmps32
        go_wp2_with fail
        refine (ris_any _ _).mono ?_; rintro e w' ⟨rfl, rfl⟩
        rw [h]
        go_wp2_with fail
        rw [HK.out]
        go_loopw [8, 9] (fun r i wr => ∃ j : Nat, j ≤ 8 ∧ i = .int .i64 j ∧ r = .int .u64 (rotTo v.toNat m 8 j : Int) ∧ Drawn W wr) (fun _ i _ => 8 - (intOf i).toNat)
        case atStart => exact ⟨0, by omega, rfl, by rw [hrz]; rfl, Drawn.refl _⟩
        case round =>
          obtain ⟨j, hj, rfl, rfl, hd⟩ := hrel
          by_cases hlt : j < 8
          · have e1 : IntKind.i64.wrap ((j : Int) + m) = (j : Int) + m := IntWalk.i64_in _ (by omega)
            have e2 : ((j : Int) + m).tmod 8 = ((j + m) % 8 : Nat) := by rw [Int.tmod_eq_emod_of_nonneg (by omega)]; omega
            have b1 : (j + m) % 8 ≤ 63 := by omega
            have hr := Cq.rotTo_round hv m 8 j hmn hlt (by decide)
            have HR := Lib.hid hr; clear hr
            go_wp2_with fail
            go_quiet ((go_at_call 42; exact quiet_left (bit_any v _ (by omega) hv _)))
            go_wp2_with fail
            go_roundw
            case rel => exact ⟨j + 1, by omega, by go_num, congrArg (Value.int .u64) HR.out, hd.drewN _⟩
            case measure => simp [intOf]; omega
          · have hj8 : j = 8 := by omega
            subst hj8
            go_wp2_with fail
            go_ret
            exact ⟨by rw [HT.out, ← HRE.out]; rfl, hd⟩
    · rw [show nb 2 = 16 from rfl] at hn
      subst hn
      by_cases hneg : k.tmod 16 < 0
      · have HK : Hid (wrap64 (k.tmod 16 + 16) = m) := by
          have := Cq.tmod_neg (by decide) hneg
          show wrap64 _ = _
          unfold wrap64; omega
        clear hm
        go_enter Try.func32, Try.ntmps32
        go_wp2_with fail
        refine (ris_any _ _).mono ?_; rintro e w' ⟨rfl, rfl⟩
        rw [h]
        go_wp2_with fail
        rw [HK.out]
        go_loopw [8, 9] (fun r i wr => ∃ j : Nat, j ≤ 16 ∧ i = .int .i64 j ∧ r = .int .u64 (rotTo v.toNat m 16 j : Int) ∧ Drawn W wr) (fun _ i _ => 16 - (intOf i).toNat)
        case atStart => exact ⟨0, by omega, rfl, by rw [hrz]; rfl, Drawn.refl _⟩
        case round =>
          obtain ⟨j, hj, rfl, rfl, hd⟩ := hrel
          by_cases hlt : j < 16
          · have e1 : IntKind.i64.wrap ((j : Int) + m) = (j : Int) + m := IntWalk.i64_in _ (by omega)
            have e2 : ((j : Int) + m).tmod 16 = ((j + m) % 16 : Nat) := by rw [Int.tmod_eq_emod_of_nonneg (by omega)]; omega
            have b1 : (j + m) % 16 ≤ 63 := by omega
            have hr := Cq.rotTo_round hv m 16 j hmn hlt (by decide)
            have HR := Lib.hid hr; clear hr
            go_wp2_with fail
            go_quiet ((go_at_call 42; exact quiet_left (bit_any v _ (by omega) hv _)))
            go_wp2_with fail
            go_roundw
            case rel => exact ⟨j + 1, by omega, by go_num, congrArg (Value.int .u64) HR.out, hd.drewN _⟩
            case measure => simp [intOf]; omega
          · have hj8 : j = 16 := by omega
            subst hj8
            go_wp2_with fail
            go_ret
            exact ⟨by rw [HT.out, ← HRE.out]; rfl, hd⟩
      · have HK : Hid (k.tmod 16 = m) := by
          have := Cq.tmod_pos (by decide) (Int.not_lt.mp hneg)
          show k.tmod 16 = _
          omega
        have hpos := Int.not_lt.mp hneg
        clear hm hneg
        go_enter Try.func32, Try.ntmps32
        go_wp2_with fail
        refine (ris_any _ _).mono ?_; rintro e w' ⟨rfl, rfl⟩
        rw [h]
        go_wp2_with fail
        rw [HK.out]
        go_loopw [8, 9] (fun r i wr => ∃ j : Nat, j ≤ 16 ∧ i = .int .i64 j ∧ r = .int .u64 (rotTo v.toNat m 16 j : Int) ∧ Drawn W wr) (fun _ i _ => 16 - (intOf i).toNat)
        case atStart => exact ⟨0, by omega, rfl, by rw [hrz]; rfl, Drawn.refl _⟩
        case round =>
          obtain ⟨j, hj, rfl, rfl, hd⟩ := hrel
          by_cases hlt : j < 16
          · have e1 : IntKind.i64.wrap ((j : Int) + m) = (j : Int) + m := IntWalk.i64_in _ (by omega)
            have e2 : ((j : Int) + m).tmod 16 = ((j + m) % 16 : Nat) := by rw [Int.tmod_eq_emod_of_nonneg (by omega)]; omega
            have b1 : (j + m) % 16 ≤ 63 := by omega
            have hr := Cq.rotTo_round hv m 16 j hmn hlt (by decide)
            have HR := Lib.hid hr; clear hr
            go_wp2_with fail
            go_quiet ((go_at_call 42; exact quiet_left (bit_any v _ (by omega) hv _)))
            go_wp2_with fail
            go_roundw
            case rel => exact ⟨j + 1, by omega, by go_num, congrArg (Value.int .u64) HR.out, hd.drewN _⟩
            case measure => simp [intOf]; omega
          · have hj8 : j = 16 := by omega
            subst hj8
            go_wp2_with fail
            go_ret
            exact ⟨by rw [HT.out, ← HRE.out]; rfl, hd⟩
    · rw [show nb 4 = 32 from rfl] at hn
      subst hn
      by_cases hneg : k.tmod 32 < 0
      · have HK : Hid (wrap64 (k.tmod 32 + 32) = m) := by
          have := Cq.tmod_neg (by decide) hneg
          show wrap64 _ = _
          unfold wrap64; omega
        clear hm
        go_enter Try.func32, Try.ntmps32
        go_wp2_with fail
        refine (ris_any _ _).mono ?_; rintro e w' ⟨rfl, rfl⟩
        rw [h]
        go_wp2_with fail
        rw [HK.out]
        go_loopw [8, 9] (fun r i wr => ∃ j : Nat, j ≤ 32 ∧ i = .int .i64 j ∧ r = .int .u64 (rotTo v.toNat m 32 j : Int) ∧ Drawn W wr) (fun _ i _ => 32 - (intOf i).toNat)
        case atStart => exact ⟨0, by omega, rfl, by rw [hrz]; rfl, Drawn.refl _⟩
        case round =>
          obtain ⟨j, hj, rfl, rfl, hd⟩ := hrel
          by_cases hlt : j < 32
          · have e1 : IntKind.i64.wrap ((j : Int) + m) = (j : Int) + m := IntWalk.i64_in _ (by omega)
            have e2 : ((j : Int) + m).tmod 32 = ((j + m) % 32 : Nat) := by rw [Int.tmod_eq_emod_of_nonneg (by omega)]; omega
            have b1 : (j + m) % 32 ≤ 63 := by omega
            have hr := Cq.rotTo_round hv m 32 j hmn hlt (by decide)
            have HR := Lib.hid hr; clear hr
            go_wp2_with fail
            go_quiet ((go_at_call 42; exact quiet_left (bit_any v _ (by omega) hv _)))
            go_wp2_with fail
            go_roundw
            case rel => exact ⟨j + 1, by omega, by go_num, congrArg (Value.int .u64) HR.out, hd.drewN _⟩
            case measure => simp [intOf]; omega
          · have hj8 : j = 32 := by omega
            subst hj8
            go_wp2_with fail
            go_ret
            exact ⟨by rw [HT.out, ← HRE.out]; rfl, hd⟩
      · have HK : Hid (k.tmod 32 = m) := by
          have := Cq.tmod_pos (by decide) (Int.not_lt.mp hneg)
          show k.tmod 32 = _
          omega
        have hpos := Int.not_lt.mp hneg
        clear hm hneg
        go_enter Try.func32, Try.ntmps32
        go_wp2_with fail
        refine (ris_any _ _).mono ?_; rintro e w' ⟨rfl, rfl⟩
        rw [h]
        go_wp2_with fail
        rw [HK.out]
        go_loopw [8, 9] (fun r i wr => ∃ j : Nat, j ≤ 32 ∧ i = .int .i64 j ∧ r = .int .u64 (rotTo v.toNat m 32 j : Int) ∧ Drawn W wr) (fun _ i _ => 32 - (intOf i).toNat)
        case atStart => exact ⟨0, by omega, rfl, by rw [hrz]; rfl, Drawn.refl _⟩
        case round =>
          obtain ⟨j, hj, rfl, rfl, hd⟩ := hrel
          by_cases hlt : j < 32
          · have e1 : IntKind.i64.wrap ((j : Int) + m) = (j : Int) + m := IntWalk.i64_in _ (by omega)
            have e2 : ((j : Int) + m).tmod 32 = ((j + m) % 32 : Nat) := by rw [Int.tmod_eq_emod_of_nonneg (by omega)]; omega
            have b1 : (j + m) % 32 ≤ 63 := by omega
            have hr := Cq.rotTo_round hv m 32 j hmn hlt (by decide)
            have HR := Lib.hid hr; clear hr
            go_wp2_with fail
            go_quiet ((go_at_call 42; exact quiet_left (bit_any v _ (by omega) hv _)))
            go_wp2_with fail
            go_roundw
            case rel => exact ⟨j + 1, by omega, by go_num, congrArg (Value.int .u64) HR.out, hd.drewN _⟩
            case measure => simp [intOf]; omega
          · have hj8 : j = 32 := by omega
            subst hj8
            go_wp2_with fail
            go_ret
            exact ⟨by rw [HT.out, ← HRE.out]; rfl, hd⟩
    · rw [show nb 8 = 64 from rfl] at hn
      subst hn
      by_cases hneg : k.tmod 64 < 0
      · have HK : Hid (wrap64 (k.tmod 64 + 64) = m) := by
          have := Cq.tmod_neg (by decide) hneg
          show wrap64 _ = _
          unfold wrap64; omega
        clear hm
        go_enter Try.func32, Try.ntmps32
        go_wp2_with fail
        refine (ris_any _ _).mono ?_; rintro e w' ⟨rfl, rfl⟩
        rw [h]
        go_wp2_with fail
        rw [HK.out]
        go_loopw [8, 9] (fun r i wr => ∃ j : Nat, j ≤ 64 ∧ i = .int .i64 j ∧ r = .int .u64 (rotTo v.toNat m 64 j : Int) ∧ Drawn W wr) (fun _ i _ => 64 - (intOf i).toNat)
        case atStart => exact ⟨0, by omega, rfl, by rw [hrz]; rfl, Drawn.refl _⟩
        case round =>
          obtain ⟨j, hj, rfl, rfl, hd⟩ := hrel
          by_cases hlt : j < 64
          · have e1 : IntKind.i64.wrap ((j : Int) + m) = (j : Int) + m := IntWalk.i64_in _ (by omega)
            have e2 : ((j : Int) + m).tmod 64 = ((j + m) % 64 : Nat) := by rw [Int.tmod_eq_emod_of_nonneg (by omega)]; omega
            have b1 : (j + m) % 64 ≤ 63 := by omega
            have hr := Cq.rotTo_round hv m 64 j hmn hlt (by decide)
            have HR := Lib.hid hr; clear hr
            go_wp2_with fail
            go_quiet ((go_at_call 42; exact quiet_left (bit_any v _ (by omega) hv _)))
            go_wp2_with fail
            go_roundw
            case rel => exact ⟨j + 1, by omega, by go_num, congrArg (Value.int .u64) HR.out, hd.drewN _⟩
            case measure => simp [intOf]; omega
          · have hj8 : j = 64 := by omega
            subst hj8
            go_wp2_with fail
            go_ret
            exact ⟨by rw [HT.out, ← HRE.out]; rfl, hd⟩
      · have HK : Hid (k.tmod 64 = m) := by
          have := Cq.tmod_pos (by decide) (Int.not_lt.mp hneg)
          show k.tmod 64 = _
          omega
        have hpos := Int.not_lt.mp hneg
        clear hm hneg
        go_enter Try.func32, Try.ntmps32
        go_wp2_with fail
        refine (ris_any _ _).mono ?_; rintro e w' ⟨rfl, rfl⟩
        rw [h]
        go_wp2_with fail
        rw [HK.out]
        go_loopw [8, 9] (fun r i wr => ∃ j : Nat, j ≤ 64 ∧ i = .int .i64 j ∧ r = .int .u64 (rotTo v.toNat m 64 j : Int) ∧ Drawn W wr) (fun _ i _ => 64 - (intOf i).toNat)
        case atStart => exact ⟨0, by omega, rfl, by rw [hrz]; rfl, Drawn.refl _⟩
        case round =>
          obtain ⟨j, hj, rfl, rfl, hd⟩ := hrel
          by_cases hlt : j < 64
          · have e1 : IntKind.i64.wrap ((j : Int) + m) = (j : Int) + m := IntWalk.i64_in _ (by omega)
            have e2 : ((j : Int) + m).tmod 64 = ((j + m) % 64 : Nat) := by rw [Int.tmod_eq_emod_of_nonneg (by omega)]; omega
            have b1 : (j + m) % 64 ≤ 63 := by omega
            have hr := Cq.rotTo_round hv m 64 j hmn hlt (by decide)
            have HR := Lib.hid hr; clear hr
            go_wp2_with fail
            go_quiet ((go_at_call 42; exact quiet_left (bit_any v _ (by omega) hv _)))
            go_wp2_with fail
            go_roundw
            case rel => exact ⟨j + 1, by omega, by go_num, congrArg (Value.int .u64) HR.out, hd.drewN _⟩
            case measure => simp [intOf]; omega
          · have hj8 : j = 64 := by omega
            subst hj8
            go_wp2_with fail
            go_ret
            exact ⟨by rw [HT.out, ← HRE.out]; rfl, hd⟩
theorem awake_any (W : World) : Calls Try.prog 24 #[] W fun e W' => e = .returned (.bool true) ∧ W = W' := by
  go_enter Try.func24, Try.ntmps24
  go_wp2_with fail
  refine (sum_any 255 1 false 1 _).mono ?_; rintro e w' ⟨rfl, rfl⟩
  rw [show sumV 255 1 false 1 = 0 from by decide, show sumC 255 1 false 1 = true from by decide, show sumO 255 1 false 1 = false from by decide]
  go_wp2_with fail
  refine (less_any 0 1 false 1 _).mono ?_; rintro e w' ⟨rfl, rfl⟩
  rw [show lessV 0 1 false 1 = 255 from by decide, show lessC 0 1 false 1 = true from by decide, show lessO 0 1 false 1 = false from by decide]
  go_wp2_with fail
  refine (sum_any 127 1 false 1 _).mono ?_; rintro e w' ⟨rfl, rfl⟩
  rw [show sumV 127 1 false 1 = 128 from by decide, show sumC 127 1 false 1 = false from by decide, show sumO 127 1 false 1 = true from by decide]
  go_wp2_with fail
  refine (sx_any 128 1 (by unfold U64; omega) _).mono ?_; rintro e w' ⟨rfl, rfl⟩
  rw [show sx 128 1 = 18446744073709551488 from by decide]
  go_wp2_with fail
  refine (turn_any 129 1 1 (by unfold U64; omega) _).mono ?_; rintro e w' ⟨rfl, rfl⟩
  rw [show turn 129 1 1 = 3 from by decide]
  go_wp2
  go_ret
  exact ⟨rfl, rfl⟩
end Go.Proofs.Ytkjbhhbgfhicgaa
