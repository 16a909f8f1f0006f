/- The statement of layer 1 on numbers of so many bits, and on which bits any of several words has. -/
import Derived.Test.YtkjbhhbgfhicgaaBita
import Derived.Below
namespace Go.Proofs.Ytkjbhhbgfhicgaa
open Go.RowKit
open Cq (U64 I64 fits fitsU logF orTo inTo bit)

theorem law_fits_none (v n : Int) (hv : I64 v) (hn : I64 n) (a : Option Addr) (cap : Nat) (W : World) : Calls Try.prog 9 #[.int .i64 v, .int .i64 n, .slice a 0 cap] W
    fun e W' => e = .returned (.bool true) ∧ W = W' := by
  have uv := Cq.u64_wrap v
  have u0 : U64 0 := ⟨by decide, by decide⟩
  go_enter Try.func9, Try.ntmps9
  go_wp2_with fail
  refine (any_none _ _ _).mono ?_; rintro e w' ⟨rfl, rfl⟩
  go_wp2_with fail
  go_loop [8, 9, 11] (fun i _ _ => ∃ k : Nat, k ≤ 64 ∧ i = .int .i64 k) (fun i _ _ => 64 - (intOf i).toNat)
  case atStart => exact ⟨0, by omega, rfl⟩
  case round =>
    obtain ⟨k, hk, rfl⟩ := hrel
    by_cases hlt : k < 64
    · have HB : Hid (bit 0 (k : Int) = 0) := by show bit 0 (k : Int) = 0; unfold bit; simp
      go_wp2_with fail
      obtain ⟨wo, rfl⟩ : ∃ wo : World, wo = W := ⟨_, rfl⟩
      go_loop [9, 11, 26] (fun r _ j => r = .int .u64 0 ∧ j = .int .i64 0) (fun _ _ _ => 0)
      case atStart => exact ⟨rfl, rfl⟩
      case round =>
        obtain ⟨rfl, rfl⟩ := hrel
        go_wp2_with fail
        refine (bit_any _ _ (by omega) u0 _).mono ?_; rintro e w' ⟨rfl, rfl⟩
        rw [HB.out]
        go_wp2_with fail
        go_round
        case rel => exact ⟨k + 1, by omega, by go_num⟩
        case measure => simp [intOf]; omega
    · have : k = 64 := by omega
      subst this
      go_wp2_with fail
      refine (log_any _ hn _).mono ?_; rintro e w' ⟨rfl, rfl⟩
      go_wp2_with fail
      refine (fits_any _ _ hv hn _).mono ?_; rintro e w' ⟨rfl, rfl⟩
      go_wp2_with fail
      refine (rfits_any _ _ hv hn _).mono ?_; rintro e w' ⟨rfl, rfl⟩
      go_wp2_with fail
      refine (fitsU_any _ _ uv hn _).mono ?_; rintro e w' ⟨rfl, rfl⟩
      go_wp2_with fail
      refine (rfitsU_any _ _ uv hn _).mono ?_; rintro e w' ⟨rfl, rfl⟩
      go_wp2_with fail
      refine (ones_any _ uv _).mono ?_; rintro e w' ⟨rfl, rfl⟩
      go_wp2_with fail
      refine (rones_any _ uv _).mono ?_; rintro e w' ⟨rfl, rfl⟩
      go_wp2_with fail
      refine (rlog_any _ hn _).mono ?_; rintro e w' ⟨rfl, rfl⟩
      go_wp2_with fail
      refine (awake_any _).mono ?_; rintro e w' ⟨rfl, rfl⟩
      go_wp2_with fail
      go_ret
      exact ⟨rfl, rfl⟩
theorem law_fits_few (v n : Int) (hv : I64 v) (hn : I64 n) (b off len cap : Nat) (z : List Int) (W : World) (hz : ∀ x ∈ z, U64 x) (hc : Words W b off len z) (hcap : len ≤ cap) (_hmax : cap ≤ 9223372036854775807) (hl : len ≤ 9) :
    Calls Try.prog 9 #[.int .i64 v, .int .i64 n, .slice (some ⟨b, off, none⟩) len cap] W fun e W' => e = .returned (.bool true) ∧ W = W' := by
  have uv := Cq.u64_wrap v
  have HCW : Words W b off len z := fun i hi => hc i (by omega)
  have ha := Cq.orTo_u64 z len
  go_enter Try.func9, Try.ntmps9
  go_wp2_with fail
  refine (any_row _ _ len _ z _ HCW (by omega)).mono ?_; rintro e w' ⟨rfl, rfl⟩
  go_wp2_with fail
  go_loop [8, 9, 11] (fun i _ _ => ∃ k : Nat, k ≤ 64 ∧ i = .int .i64 k) (fun i _ _ => 64 - (intOf i).toNat)
  case atStart => exact ⟨0, by omega, rfl⟩
  case round =>
    obtain ⟨k, hk, rfl⟩ := hrel
    by_cases hlt : k < 64
    · have HB := Lib.hid (Cq.bit_orTo z hz k hlt len)
      go_wp2_with fail
      obtain ⟨wo, rfl⟩ : ∃ wo : World, wo = W := ⟨_, rfl⟩
      go_loop [9, 11, 26] (fun r _ j => ∃ m : Nat, m ≤ len ∧ j = .int .i64 m ∧ r = .int .u64 (inTo z k m)) (fun _ _ j => len - (intOf j).toNat)
      case atStart => exact ⟨0, by omega, rfl, rfl⟩
      case round =>
        obtain ⟨m, hm, rfl, rfl⟩ := hrel
        by_cases hlm : m < len
        · have hcell := HCW m hlm
          have hg := Cq.getD_u64 hz m
          rw [List.getD_eq_getElem?_getD] at hg
          go_wp2_with fail
          refine (bit_any _ _ (by omega) hg _).mono ?_; rintro e w' ⟨rfl, rfl⟩
          go_wp2_with fail
          go_round
          case rel => exact ⟨m + 1, by omega, by go_num, by rw [inTo, List.getD_eq_getElem?_getD]⟩
          case measure => simp [intOf]; omega
        · have : m = len := by omega
          subst this
          go_wp2_with fail
          refine (bit_any _ _ (by omega) ha _).mono ?_; rintro e w' ⟨rfl, rfl⟩
          rw [HB.out]
          go_wp2_with fail
          go_round
          case rel => exact ⟨k + 1, by omega, by go_num⟩
          case measure => simp [intOf]; omega
    · have : k = 64 := by omega
      subst this
      go_wp2_with fail
      refine (log_any _ hn _).mono ?_; rintro e w' ⟨rfl, rfl⟩
      go_wp2_with fail
      refine (fits_any _ _ hv hn _).mono ?_; rintro e w' ⟨rfl, rfl⟩
      go_wp2_with fail
      refine (rfits_any _ _ hv hn _).mono ?_; rintro e w' ⟨rfl, rfl⟩
      go_wp2_with fail
      refine (fitsU_any _ _ uv hn _).mono ?_; rintro e w' ⟨rfl, rfl⟩
      go_wp2_with fail
      refine (rfitsU_any _ _ uv hn _).mono ?_; rintro e w' ⟨rfl, rfl⟩
      go_wp2_with fail
      refine (ones_any _ uv _).mono ?_; rintro e w' ⟨rfl, rfl⟩
      go_wp2_with fail
      refine (rones_any _ uv _).mono ?_; rintro e w' ⟨rfl, rfl⟩
      go_wp2_with fail
      refine (rlog_any _ hn _).mono ?_; rintro e w' ⟨rfl, rfl⟩
      go_wp2_with fail
      refine (awake_any _).mono ?_; rintro e w' ⟨rfl, rfl⟩
      go_wp2_with fail
      go_ret
      exact ⟨rfl, rfl⟩
theorem law_fits_many (v n : Int) (hv : I64 v) (hn : I64 n) (b off len cap : Nat) (z : List Int) (W : World) (hz : ∀ x ∈ z, U64 x) (hc : Words W b off len z) (hcap : len ≤ cap) (hmax : cap ≤ 9223372036854775807) (hl : 9 < len) :
    Calls Try.prog 9 #[.int .i64 v, .int .i64 n, .slice (some ⟨b, off, none⟩) len cap] W fun e W' => e = .returned (.bool true) ∧ W = W' := by
  have uv := Cq.u64_wrap v
  have HCW : Words W b off 9 z := fun i hi => hc i (by omega)
  have ha := Cq.orTo_u64 z 9
  go_enter Try.func9, Try.ntmps9
  go_wp2_with fail
  refine (any_row _ _ 9 _ z _ HCW (by omega)).mono ?_; rintro e w' ⟨rfl, rfl⟩
  go_wp2_with fail
  go_loop [8, 9, 11] (fun i _ _ => ∃ k : Nat, k ≤ 64 ∧ i = .int .i64 k) (fun i _ _ => 64 - (intOf i).toNat)
  case atStart => exact ⟨0, by omega, rfl⟩
  case round =>
    obtain ⟨k, hk, rfl⟩ := hrel
    by_cases hlt : k < 64
    · have HB := Lib.hid (Cq.bit_orTo z hz k hlt 9)
      go_wp2_with fail
      obtain ⟨wo, rfl⟩ : ∃ wo : World, wo = W := ⟨_, rfl⟩
      go_loop [9, 11, 26] (fun r _ j => ∃ m : Nat, m ≤ 9 ∧ j = .int .i64 m ∧ r = .int .u64 (inTo z k m)) (fun _ _ j => 9 - (intOf j).toNat)
      case atStart => exact ⟨0, by omega, rfl, rfl⟩
      case round =>
        obtain ⟨m, hm, rfl, rfl⟩ := hrel
        by_cases hlm : m < 9
        · have hcell := HCW m hlm
          have hg := Cq.getD_u64 hz m
          rw [List.getD_eq_getElem?_getD] at hg
          go_wp2_with fail
          refine (bit_any _ _ (by omega) hg _).mono ?_; rintro e w' ⟨rfl, rfl⟩
          go_wp2_with fail
          go_round
          case rel => exact ⟨m + 1, by omega, by go_num, by rw [inTo, List.getD_eq_getElem?_getD]⟩
          case measure => simp [intOf]; omega
        · have : m = 9 := by omega
          subst this
          go_wp2_with fail
          refine (bit_any _ _ (by omega) ha _).mono ?_; rintro e w' ⟨rfl, rfl⟩
          rw [HB.out]
          go_wp2_with fail
          go_round
          case rel => exact ⟨k + 1, by omega, by go_num⟩
          case measure => simp [intOf]; omega
    · have : k = 64 := by omega
      subst this
      go_wp2_with fail
      refine (log_any _ hn _).mono ?_; rintro e w' ⟨rfl, rfl⟩
      go_wp2_with fail
      refine (fits_any _ _ hv hn _).mono ?_; rintro e w' ⟨rfl, rfl⟩
      go_wp2_with fail
      refine (rfits_any _ _ hv hn _).mono ?_; rintro e w' ⟨rfl, rfl⟩
      go_wp2_with fail
      refine (fitsU_any _ _ uv hn _).mono ?_; rintro e w' ⟨rfl, rfl⟩
      go_wp2_with fail
      refine (rfitsU_any _ _ uv hn _).mono ?_; rintro e w' ⟨rfl, rfl⟩
      go_wp2_with fail
      refine (ones_any _ uv _).mono ?_; rintro e w' ⟨rfl, rfl⟩
      go_wp2_with fail
      refine (rones_any _ uv _).mono ?_; rintro e w' ⟨rfl, rfl⟩
      go_wp2_with fail
      refine (rlog_any _ hn _).mono ?_; rintro e w' ⟨rfl, rfl⟩
      go_wp2_with fail
      refine (awake_any _).mono ?_; rintro e w' ⟨rfl, rfl⟩
      go_wp2_with fail
      go_ret
      exact ⟨rfl, rfl⟩
theorem law_fits (v n : Int) (hv : I64 v) (hn : I64 n) (a : Option Addr) (len cap : Nat) (z : List Int) (W : World)
    (h : (a = none ∧ len = 0 ∧ cap = 0 ∧ z = []) ∨ ∃ x, a = some x ∧ len ≤ cap ∧ cap ≤ maxLen ∧ z.length = cap ∧ (∀ i, i < z.length → W.cell? (x.add i) = some (.int .u64 (z.getD i 0))) ∧ ∀ n ∈ z, (Lit.int .u64 n).wf = true) :
    Calls Try.prog 9 #[.int .i64 v, .int .i64 n, .slice a len cap] W fun e W' => e = .returned (.bool true) ∧ Below W.heap.size W W' := by
  rcases h with ⟨rfl, rfl, rfl, rfl⟩ | ⟨x, rfl, hl, hm, hz, hcell, hwz⟩
  · exact (law_fits_none v n hv hn none 0 W).mono fun e w' h => ⟨h.1, h.2 ▸ Below.refl _ _⟩
  · by_cases h0 : len = 0
    · subst h0
      exact (law_fits_none v n hv hn (some x) cap W).mono fun e w' h => ⟨h.1, h.2 ▸ Below.refl _ _⟩
    · obtain ⟨b, off, spot⟩ := x
      have hc := hcell 0 (by omega)
      have hspot : spot = none := by simpa [Addr.add] using World.cell?_spot hc
      subst hspot
      have hW : Words W b off len z := by
        intro i hi
        have h := hcell i (by omega)
        by_cases g : i = 0
        · subst g; simpa [Addr.add] using h
        · simpa [Addr.add, g] using h
      have hu : ∀ x ∈ z, U64 x := fun x hx => Cq.u64_of_wf (hwz x hx)
      unfold maxLen at hm
      by_cases h9 : len ≤ 9
      · exact (law_fits_few v n hv hn b off len cap z W hu hW hl (by omega) h9).mono fun e w' h => ⟨h.1, h.2 ▸ Below.refl _ _⟩
      · exact (law_fits_many v n hv hn b off len cap z W hu hW hl (by omega) (by omega)).mono fun e w' h => ⟨h.1, h.2 ▸ Below.refl _ _⟩
end Go.Proofs.Ytkjbhhbgfhicgaa
