/- Walks of layer 19: words of elements. -/
import Derived.Test.YtlhinabodofjeaaRows
import Derived.Test.YtlhinabodofjeaaLa
import Derived.WalkKit
import Derived.WalkLawsBesides
import Derived.WalkSpells
import Derived.LoopTactic
import Derived.Lib.Hide
import Derived.Deep.QuietTactic
import Derived.BigQuiet
namespace Go.Proofs.Ytlhinabodofjeaa
open Go.RowKit
open Cq (U64 I64 oneI bit)
open Lg

theorem isSize_any (n : Int) (hn : I64 n) (W : World) : Calls Try.prog 21 #[.int .i64 n] W fun e W' => e = .returned (.bool (isSz n)) ∧ W = W' := by
  unfold I64 at hn
  by_cases h1 : n < 2
  · rw [show isSz n = false by simp [isSz]; omega]
    go_enter Try.func21, Try.ntmps21
    go_wp2
    go_ret
    exact ⟨rfl, rfl⟩
  · by_cases h2 : 64 < n
    · rw [show isSz n = false by simp [isSz]; omega]
      have h1' := Int.not_lt.mp h1
      clear h1
      go_enter Try.func21, Try.ntmps21
      go_wp2
      go_ret
      exact ⟨rfl, rfl⟩
    · obtain ⟨k, rfl⟩ : ∃ k : Nat, n = (k : Int) := ⟨n.toNat, by omega⟩
      have H := Lib.hid (and_size k (by omega) (by omega))
      have h1' := Int.not_lt.mp h1
      have h2' := Int.not_lt.mp h2
      clear h1 h2 hn
      go_enter Try.func21, Try.ntmps21
      go_wp2
      go_ret
      exact ⟨by rw [← H.out]; rfl, rfl⟩
theorem turned_any (a b c : Int) (ha : I64 a) (hb : I64 b) (hc : I64 c) (W : World) : Calls Try.prog 12 #[.int .i64 a, .int .i64 b, .int .i64 c] W
    fun e W' => e = .returned (.int .u64 (TW a b c)) ∧ W = W' := by
  cases g : okT a b c
  · rw [show TW a b c = 0 by unfold TW; rw [g]; rfl]
    cases hs : isSz a
    · go_enter Try.func12, Try.ntmps12
      go_wp2_with fail
      refine (isSize_any _ ha _).mono ?_; rintro e w' ⟨rfl, rfl⟩
      rw [hs]
      go_wp2_with fail
      go_ret
      exact ⟨rfl, rfl⟩
    · have HS := Lib.hid hs
      unfold I64 at ha hb hc
      have hg : b < 1 ∨ a ≤ b ∨ c < 0 ∨ a ≤ c := by
        unfold okT at g; rw [hs, Bool.true_and] at g; have := of_decide_eq_false g; omega
      have ha64 : 2 ≤ a ∧ a ≤ 64 := by have := isSz_cases hs; omega
      obtain ⟨ha2, ha64⟩ := ha64
      clear hs g
      by_cases h1 : b < 1
      · clear hg
        go_enter Try.func12, Try.ntmps12
        go_wp2_with fail
        refine (isSize_any _ (by unfold I64; omega) _).mono ?_; rintro e w' ⟨rfl, rfl⟩
        rw [HS.out]
        go_wp2_with fail
        go_ret
        exact ⟨rfl, rfl⟩
      · have h1' := Int.not_lt.mp h1
        clear h1
        by_cases h2 : a ≤ b
        · clear hg
          go_enter Try.func12, Try.ntmps12
          go_wp2_with fail
          refine (isSize_any _ (by unfold I64; omega) _).mono ?_; rintro e w' ⟨rfl, rfl⟩
          rw [HS.out]
          go_wp2_with fail
          go_ret
          exact ⟨rfl, rfl⟩
        · have h2' := Int.not_le.mp h2
          clear h2
          by_cases h3 : c < 0
          · clear hg
            go_enter Try.func12, Try.ntmps12
            go_wp2_with fail
            refine (isSize_any _ (by unfold I64; omega) _).mono ?_; rintro e w' ⟨rfl, rfl⟩
            rw [HS.out]
            go_wp2_with fail
            go_ret
            exact ⟨rfl, rfl⟩
          · have h3' := Int.not_lt.mp h3
            clear h3
            have h4 : a ≤ c := by omega
            clear hg
            go_enter Try.func12, Try.ntmps12
            go_wp2_with fail
            refine (isSize_any _ (by unfold I64; omega) _).mono ?_; rintro e w' ⟨rfl, rfl⟩
            rw [HS.out]
            go_wp2_with fail
            go_ret
            exact ⟨rfl, rfl⟩
  · have ⟨hs, h1, h2, h3, h4⟩ := okT_is g
    have hs' := isSz_cases hs
    obtain ⟨o, rfl⟩ := Int.eq_ofNat_of_zero_le (show 0 ≤ b by omega)
    obtain ⟨t, rfl⟩ := Int.eq_ofNat_of_zero_le h3
    obtain ⟨n, rfl⟩ := Int.eq_ofNat_of_zero_le (show 0 ≤ a by omega)
    have HS := Lib.hid hs
    have HS' := Lib.hid hs'
    have HT : Hid (TW n o t = (tws n o t 64 : Int)) := by show _ = _; unfold TW; rw [g]; rfl
    have hn : (n : Int) ≤ 64 := by omega
    have HE := Lib.hid (elem_is (n := n) (o := o) (t := t) (by omega) (by omega) (by omega))
    clear g hs hs' ha hb hc
    go_enter Try.func12, Try.ntmps12
    go_wp2_with fail
    refine (isSize_any _ (by unfold I64; omega) _).mono ?_; rintro e w' ⟨rfl, rfl⟩
    rw [HS.out]
    go_wp2_with fail
    rw [HE.out]
    go_loop [0, 8] (fun x e => ∃ m : Nat, Hid (isSz (m : Int) = true) ∧ Hid (n ∣ m) ∧ x = .int .i64 m ∧ e = .int .u64 (tws n o t m : Int)) (fun x _ => 64 - (intOf x).toNat)
    case atStart => exact ⟨n, HS, Nat.dvd_refl n, rfl, rfl⟩
    case round =>
      obtain ⟨m, hz, hd, rfl, rfl⟩ := hrel
      by_cases hm : (m : Int) < 64
      · have ⟨z1, z2⟩ := isSz_twice hz.out hm
        have HD := Lib.hid (twice_is o t hd.out z2)
        have Z1 := Lib.hid z1
        clear z1
        have hm0 : 0 ≤ (m : Int) := by omega
        generalize hT : tws n o t m = T at *
        go_wp2_with fail
        go_round
        case rel => exact ⟨m * 2, Z1.out, Nat.dvd_trans hd.out (Nat.dvd_mul_right _ _), by rw [Int.natCast_mul]; rfl, by rw [HD.out]⟩
        case measure =>
          show 64 - ((m : Int) * 2).toNat < 64 - (m : Int).toNat
          have := isSz_cases hz.out; omega
      · have HM := Lib.hid (isSz_full hz.out hm)
        have hm' := Int.not_lt.mp hm
        clear hm
        go_wp2_with fail
        go_ret
        exact ⟨by rw [HT.out]; have := HM.out; subst this; rfl, rfl⟩
end Go.Proofs.Ytlhinabodofjeaa
