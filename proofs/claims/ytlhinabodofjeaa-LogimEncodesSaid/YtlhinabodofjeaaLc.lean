/- Walks of layer 19: the document's words of elements. -/
import Derived.Test.YtlhinabodofjeaaLb
namespace Go.Proofs.Ytlhinabodofjeaa
open Go.RowKit
open Cq (U64 I64 oneI bit)
open Lg

set_option maxHeartbeats 4000000 in
theorem rturned2_in (o t : Nat) (h1 : (1 : Int) ≤ o) (h2 : (o : Int) ≤ 1) (h4 : (t : Int) ≤ 1) (W : World) : Calls Try.prog 13 #[.int .i64 2, .int .i64 o, .int .i64 t] W
    fun e W' => e = .returned (.int .u64 (tws 2 o t 64 : Int)) ∧ W = W' := by
  have h3 : (0 : Int) ≤ t := by omega
  go_enter Try.func13, Try.ntmps13
  go_wp2_with fail
  go_loop [8, 9] (fun v i => ∃ k : Nat, k ≤ 64 ∧ i = .int .i64 k ∧ v = .int .u64 (tws 2 o t k : Int)) (fun _ i => 64 - (intOf i).toNat)
  case atStart => exact ⟨0, by omega, rfl, rfl⟩
  case round =>
    obtain ⟨k, hk, rfl, rfl⟩ := hrel
    by_cases hm : (k : Int) < 64
    · have hk' : k < 64 := by omega
      generalize hT : tws 2 o t k = T at *
      go_wp2_with fail
      all_goals
        rename_i hb
        refine ⟨⟨k + 1, by omega, by rw [Int.natCast_add]; rfl, ?_⟩, ?_⟩
      case roundEnd.refine_2 => show 64 - ((k : Int) + 1).toNat < 64 - (k : Int).toNat; omega
      case roundEnd.refine_2 => show 64 - ((k : Int) + 1).toNat < 64 - (k : Int).toNat; omega
      · first
        | (rw [← hT, step_no hb])
        | (rw [← hT]; exact congrArg _ (step_yes hk' hb))
      · first
        | (rw [← hT, step_no hb])
        | (rw [← hT]; exact congrArg _ (step_yes hk' hb))
    · have HM : Hid (k = 64) := by show _ = _; omega
      have hm' := Int.not_lt.mp hm
      clear hm hk
      go_wp2_with fail
      go_ret
      exact ⟨by have := HM.out; subst this; rfl, rfl⟩
set_option maxHeartbeats 4000000 in
theorem rturned4_in (o t : Nat) (h1 : (1 : Int) ≤ o) (h2 : (o : Int) ≤ 3) (h4 : (t : Int) ≤ 3) (W : World) : Calls Try.prog 13 #[.int .i64 4, .int .i64 o, .int .i64 t] W
    fun e W' => e = .returned (.int .u64 (tws 4 o t 64 : Int)) ∧ W = W' := by
  have h3 : (0 : Int) ≤ t := by omega
  go_enter Try.func13, Try.ntmps13
  go_wp2_with fail
  go_loop [8, 9] (fun v i => ∃ k : Nat, k ≤ 64 ∧ i = .int .i64 k ∧ v = .int .u64 (tws 4 o t k : Int)) (fun _ i => 64 - (intOf i).toNat)
  case atStart => exact ⟨0, by omega, rfl, rfl⟩
  case round =>
    obtain ⟨k, hk, rfl, rfl⟩ := hrel
    by_cases hm : (k : Int) < 64
    · have hk' : k < 64 := by omega
      generalize hT : tws 4 o t k = T at *
      go_wp2_with fail
      all_goals
        rename_i hb
        refine ⟨⟨k + 1, by omega, by rw [Int.natCast_add]; rfl, ?_⟩, ?_⟩
      case roundEnd.refine_2 => show 64 - ((k : Int) + 1).toNat < 64 - (k : Int).toNat; omega
      case roundEnd.refine_2 => show 64 - ((k : Int) + 1).toNat < 64 - (k : Int).toNat; omega
      · first
        | (rw [← hT, step_no hb])
        | (rw [← hT]; exact congrArg _ (step_yes hk' hb))
      · first
        | (rw [← hT, step_no hb])
        | (rw [← hT]; exact congrArg _ (step_yes hk' hb))
    · have HM : Hid (k = 64) := by show _ = _; omega
      have hm' := Int.not_lt.mp hm
      clear hm hk
      go_wp2_with fail
      go_ret
      exact ⟨by have := HM.out; subst this; rfl, rfl⟩
set_option maxHeartbeats 4000000 in
theorem rturned8_in (o t : Nat) (h1 : (1 : Int) ≤ o) (h2 : (o : Int) ≤ 7) (h4 : (t : Int) ≤ 7) (W : World) : Calls Try.prog 13 #[.int .i64 8, .int .i64 o, .int .i64 t] W
    fun e W' => e = .returned (.int .u64 (tws 8 o t 64 : Int)) ∧ W = W' := by
  have h3 : (0 : Int) ≤ t := by omega
  go_enter Try.func13, Try.ntmps13
  go_wp2_with fail
  go_loop [8, 9] (fun v i => ∃ k : Nat, k ≤ 64 ∧ i = .int .i64 k ∧ v = .int .u64 (tws 8 o t k : Int)) (fun _ i => 64 - (intOf i).toNat)
  case atStart => exact ⟨0, by omega, rfl, rfl⟩
  case round =>
    obtain ⟨k, hk, rfl, rfl⟩ := hrel
    by_cases hm : (k : Int) < 64
    · have hk' : k < 64 := by omega
      generalize hT : tws 8 o t k = T at *
      go_wp2_with fail
      all_goals
        rename_i hb
        refine ⟨⟨k + 1, by omega, by rw [Int.natCast_add]; rfl, ?_⟩, ?_⟩
      case roundEnd.refine_2 => show 64 - ((k : Int) + 1).toNat < 64 - (k : Int).toNat; omega
      case roundEnd.refine_2 => show 64 - ((k : Int) + 1).toNat < 64 - (k : Int).toNat; omega
      · first
        | (rw [← hT, step_no hb])
        | (rw [← hT]; exact congrArg _ (step_yes hk' hb))
      · first
        | (rw [← hT, step_no hb])
        | (rw [← hT]; exact congrArg _ (step_yes hk' hb))
    · have HM : Hid (k = 64) := by show _ = _; omega
      have hm' := Int.not_lt.mp hm
      clear hm hk
      go_wp2_with fail
      go_ret
      exact ⟨by have := HM.out; subst this; rfl, rfl⟩
set_option maxHeartbeats 4000000 in
theorem rturned16_in (o t : Nat) (h1 : (1 : Int) ≤ o) (h2 : (o : Int) ≤ 15) (h4 : (t : Int) ≤ 15) (W : World) : Calls Try.prog 13 #[.int .i64 16, .int .i64 o, .int .i64 t] W
    fun e W' => e = .returned (.int .u64 (tws 16 o t 64 : Int)) ∧ W = W' := by
  have h3 : (0 : Int) ≤ t := by omega
  go_enter Try.func13, Try.ntmps13
  go_wp2_with fail
  go_loop [8, 9] (fun v i => ∃ k : Nat, k ≤ 64 ∧ i = .int .i64 k ∧ v = .int .u64 (tws 16 o t k : Int)) (fun _ i => 64 - (intOf i).toNat)
  case atStart => exact ⟨0, by omega, rfl, rfl⟩
  case round =>
    obtain ⟨k, hk, rfl, rfl⟩ := hrel
    by_cases hm : (k : Int) < 64
    · have hk' : k < 64 := by omega
      generalize hT : tws 16 o t k = T at *
      go_wp2_with fail
      all_goals
        rename_i hb
        refine ⟨⟨k + 1, by omega, by rw [Int.natCast_add]; rfl, ?_⟩, ?_⟩
      case roundEnd.refine_2 => show 64 - ((k : Int) + 1).toNat < 64 - (k : Int).toNat; omega
      case roundEnd.refine_2 => show 64 - ((k : Int) + 1).toNat < 64 - (k : Int).toNat; omega
      · first
        | (rw [← hT, step_no hb])
        | (rw [← hT]; exact congrArg _ (step_yes hk' hb))
      · first
        | (rw [← hT, step_no hb])
        | (rw [← hT]; exact congrArg _ (step_yes hk' hb))
    · have HM : Hid (k = 64) := by show _ = _; omega
      have hm' := Int.not_lt.mp hm
      clear hm hk
      go_wp2_with fail
      go_ret
      exact ⟨by have := HM.out; subst this; rfl, rfl⟩
set_option maxHeartbeats 4000000 in
theorem rturned32_in (o t : Nat) (h1 : (1 : Int) ≤ o) (h2 : (o : Int) ≤ 31) (h4 : (t : Int) ≤ 31) (W : World) : Calls Try.prog 13 #[.int .i64 32, .int .i64 o, .int .i64 t] W
    fun e W' => e = .returned (.int .u64 (tws 32 o t 64 : Int)) ∧ W = W' := by
  have h3 : (0 : Int) ≤ t := by omega
  go_enter Try.func13, Try.ntmps13
  go_wp2_with fail
  go_loop [8, 9] (fun v i => ∃ k : Nat, k ≤ 64 ∧ i = .int .i64 k ∧ v = .int .u64 (tws 32 o t k : Int)) (fun _ i => 64 - (intOf i).toNat)
  case atStart => exact ⟨0, by omega, rfl, rfl⟩
  case round =>
    obtain ⟨k, hk, rfl, rfl⟩ := hrel
    by_cases hm : (k : Int) < 64
    · have hk' : k < 64 := by omega
      generalize hT : tws 32 o t k = T at *
      go_wp2_with fail
      all_goals
        rename_i hb
        refine ⟨⟨k + 1, by omega, by rw [Int.natCast_add]; rfl, ?_⟩, ?_⟩
      case roundEnd.refine_2 => show 64 - ((k : Int) + 1).toNat < 64 - (k : Int).toNat; omega
      case roundEnd.refine_2 => show 64 - ((k : Int) + 1).toNat < 64 - (k : Int).toNat; omega
      · first
        | (rw [← hT, step_no hb])
        | (rw [← hT]; exact congrArg _ (step_yes hk' hb))
      · first
        | (rw [← hT, step_no hb])
        | (rw [← hT]; exact congrArg _ (step_yes hk' hb))
    · have HM : Hid (k = 64) := by show _ = _; omega
      have hm' := Int.not_lt.mp hm
      clear hm hk
      go_wp2_with fail
      go_ret
      exact ⟨by have := HM.out; subst this; rfl, rfl⟩
set_option maxHeartbeats 4000000 in
theorem rturned64_in (o t : Nat) (h1 : (1 : Int) ≤ o) (h2 : (o : Int) ≤ 63) (h4 : (t : Int) ≤ 63) (W : World) : Calls Try.prog 13 #[.int .i64 64, .int .i64 o, .int .i64 t] W
    fun e W' => e = .returned (.int .u64 (tws 64 o t 64 : Int)) ∧ W = W' := by
  have h3 : (0 : Int) ≤ t := by omega
  go_enter Try.func13, Try.ntmps13
  go_wp2_with fail
  go_loop [8, 9] (fun v i => ∃ k : Nat, k ≤ 64 ∧ i = .int .i64 k ∧ v = .int .u64 (tws 64 o t k : Int)) (fun _ i => 64 - (intOf i).toNat)
  case atStart => exact ⟨0, by omega, rfl, rfl⟩
  case round =>
    obtain ⟨k, hk, rfl, rfl⟩ := hrel
    by_cases hm : (k : Int) < 64
    · have hk' : k < 64 := by omega
      generalize hT : tws 64 o t k = T at *
      go_wp2_with fail
      all_goals
        rename_i hb
        refine ⟨⟨k + 1, by omega, by rw [Int.natCast_add]; rfl, ?_⟩, ?_⟩
      case roundEnd.refine_2 => show 64 - ((k : Int) + 1).toNat < 64 - (k : Int).toNat; omega
      case roundEnd.refine_2 => show 64 - ((k : Int) + 1).toNat < 64 - (k : Int).toNat; omega
      · first
        | (rw [← hT, step_no hb])
        | (rw [← hT]; exact congrArg _ (step_yes hk' hb))
      · first
        | (rw [← hT, step_no hb])
        | (rw [← hT]; exact congrArg _ (step_yes hk' hb))
    · have HM : Hid (k = 64) := by show _ = _; omega
      have hm' := Int.not_lt.mp hm
      clear hm hk
      go_wp2_with fail
      go_ret
      exact ⟨by have := HM.out; subst this; rfl, rfl⟩
set_option maxHeartbeats 4000000 in
theorem rturned_out (a b c : Int) (ha : I64 a) (hb : I64 b) (hc : I64 c) (g : okT a b c = false) (W : World) : Calls Try.prog 13 #[.int .i64 a, .int .i64 b, .int .i64 c] W
    fun e W' => e = .returned (.int .u64 0) ∧ W = W' := by
  cases hs : isSz a
  · have ⟨e1, e2, e3, e4, e5, e6⟩ := isSz_not hs
    clear g hs
    go_enter Try.func13, Try.ntmps13
    go_wp2
    go_ret
    exact ⟨rfl, rfl⟩
  · unfold I64 at ha hb hc
    have hg : b < 1 ∨ a ≤ b ∨ c < 0 ∨ a ≤ c := by
      unfold okT at g; rw [hs, Bool.true_and] at g; have := of_decide_eq_false g; omega
    have hs' := isSz_cases hs
    clear hs g
    by_cases h1 : b < 1
    · clear hg
      rcases hs' with rfl | rfl | rfl | rfl | rfl | rfl
      all_goals
        go_enter Try.func13, Try.ntmps13
        go_wp2
        go_ret
        exact ⟨rfl, rfl⟩
    · have h1' := Int.not_lt.mp h1
      clear h1
      by_cases h2 : a ≤ b
      · clear hg
        rcases hs' with rfl | rfl | rfl | rfl | rfl | rfl
        all_goals
          go_enter Try.func13, Try.ntmps13
          go_wp2
          go_ret
          exact ⟨rfl, rfl⟩
      · have h2' : b ≤ a - 1 := by omega
        clear h2
        by_cases h3 : c < 0
        · clear hg
          rcases hs' with rfl | rfl | rfl | rfl | rfl | rfl
          all_goals
            go_enter Try.func13, Try.ntmps13
            go_wp2
            go_ret
            exact ⟨rfl, rfl⟩
        · have h3' := Int.not_lt.mp h3
          clear h3
          have h4 : a ≤ c := by omega
          clear hg
          rcases hs' with rfl | rfl | rfl | rfl | rfl | rfl
          all_goals
            go_enter Try.func13, Try.ntmps13
            go_wp2
            go_ret
            exact ⟨rfl, rfl⟩
theorem rturned_any (a b c : Int) (ha : I64 a) (hb : I64 b) (hc : I64 c) (W : World) : Calls Try.prog 13 #[.int .i64 a, .int .i64 b, .int .i64 c] W
    fun e W' => e = .returned (.int .u64 (TW a b c)) ∧ W = W' := by
  cases g : okT a b c
  · rw [show TW a b c = 0 by unfold TW; rw [g]; rfl]
    exact rturned_out a b c ha hb hc g W
  · have ⟨hs, h1, h2, h3, h4⟩ := okT_is g
    obtain ⟨o, rfl⟩ := Int.eq_ofNat_of_zero_le (show 0 ≤ b by omega)
    obtain ⟨t, rfl⟩ := Int.eq_ofNat_of_zero_le h3
    rw [show TW a o t = (tws a.toNat o t 64 : Int) by unfold TW; rw [g]; rfl]
    rcases isSz_cases hs with rfl | rfl | rfl | rfl | rfl | rfl
    · exact rturned2_in o t h1 (by omega) (by omega) W
    · exact rturned4_in o t h1 (by omega) (by omega) W
    · exact rturned8_in o t h1 (by omega) (by omega) W
    · exact rturned16_in o t h1 (by omega) (by omega) W
    · exact rturned32_in o t h1 (by omega) (by omega) W
    · exact rturned64_in o t h1 (by omega) (by omega) W
end Go.Proofs.Ytlhinabodofjeaa
