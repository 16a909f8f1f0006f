/- Layer 19's statements: the walks. -/
import Derived.Test.YtlhinabodofjeaaLq
import Derived.Test.YtlhinabodofjeaaLs
namespace Go.Proofs.Ytlhinabodofjeaa
open Go.RowKit
open Cq (U32 U64 I64)
open Lg

theorem law_decodes (b : Int) (hb : U32 b) (W : World) : Calls Try.prog 3 #[.int .u32 b] W
    fun e W' => e = .returned (.bool true) ∧ Below W.heap.size W W' := by
  obtain ⟨n, rfl⟩ := Int.eq_ofNat_of_zero_le hb.1
  have hn := hb.2
  have HN : Hid (n < 4294967296) := by show n < 4294967296; omega
  clear hn hb
  go_enter Try.func3, Try.ntmps3
  go_wp2_with fail
  refine (decode_any n HN.out _).mono ?_; rintro e w1 ⟨rfl, b1⟩
  have B1 := Lib.hid b1.below
  clear b1
  go_wp2_with fail
  refine (rdecode_any n (by omega) (by have := HN.out; omega) _).mono ?_; rintro e w2 ⟨rfl, b2⟩
  have B2 := Lib.hid b2
  clear b2
  rw [show ((n : Int)).toNat = n from rfl]
  go_wp2_with fail
  refine (awake_any _).mono ?_; rintro e w3 ⟨rfl, b3⟩
  go_wp2_with fail
  go_ret
  exact ⟨rfl, B1.out.trans ((B2.out.mono B1.out.size).trans (b3.mono (Nat.le_trans B1.out.size B2.out.size)))⟩
theorem law_turned (a b c : Int) (ha : I64 a) (hb : I64 b) (hc : I64 c) (W : World) : Calls Try.prog 5 #[.int .i64 a, .int .i64 b, .int .i64 c] W
    fun e W' => e = .returned (.bool true) ∧ Below W.heap.size W W' := by
  go_enter Try.func5, Try.ntmps5
  go_wp2_with fail
  refine (turned_any _ _ _ ha hb hc _).mono ?_; rintro e w' ⟨rfl, rfl⟩
  go_wp2_with fail
  refine (rturned_any _ _ _ ha hb hc _).mono ?_; rintro e w' ⟨rfl, rfl⟩
  go_wp2_with fail
  refine (encode_any _ (TW_u64 a b c) _).mono ?_; rintro e w1 ⟨⟨d, ok, rfl, he⟩, b1⟩
  have B1 := Lib.hid b1.below
  have E := turned_found he
  subst E
  clear he b1
  go_wp2_with fail
  refine (awake_any _).mono ?_; rintro e w3 ⟨rfl, b3⟩
  go_wp2_with fail
  go_ret
  exact ⟨rfl, B1.out.trans (b3.mono B1.out.size)⟩
theorem law_encodes (v : Int) (hv : U64 v) (W : World) : Calls Try.prog 4 #[.int .u64 v] W
    fun e W' => e = .returned (.bool true) ∧ Below W.heap.size W W' := by
  go_enter Try.func4, Try.ntmps4
  go_wp2_with fail
  refine (encode_any _ hv _).mono ?_; rintro e w1 ⟨⟨c, ok, rfl, he⟩, b1⟩
  have B1 := Lib.hid b1.below
  clear b1
  go_wp2_with fail
  refine (rencode_any _ hv _).mono ?_; rintro e w2 ⟨⟨c', ok', rfl, he'⟩, b2⟩
  have B2 := Lib.hid b2
  clear b2
  obtain ⟨rfl, rfl⟩ := agree hv he he'
  clear he'
  cases ok
  · obtain rfl := he.no
    clear he
    go_wp2_with fail
    refine (decode_any 0 (by omega) _).mono ?_; rintro e w3 ⟨rfl, b3⟩
    have B3 := Lib.hid b3.below
    clear b3
    go_wp2_with fail
    refine (awake_any _).mono ?_; rintro e w4 ⟨rfl, b4⟩
    go_wp2_with fail
    go_ret
    exact ⟨rfl, B1.out.trans ((B2.out.mono B1.out.size).trans ((B3.out.mono (Nat.le_trans B1.out.size B2.out.size)).trans (b4.mono (Nat.le_trans B1.out.size (Nat.le_trans B2.out.size B3.out.size)))))⟩
  · have ⟨⟨c0, c1⟩, hd, h0, h1⟩ := he.yes hv
    obtain ⟨n, rfl⟩ := Int.eq_ofNat_of_zero_le c0
    have HN : Hid (n < 4294967296) := by show n < 4294967296; omega
    have HD : Hid (dec n = v) := hd
    have z0 : (v == 0) = false := by simpa using h0
    have z1 : (v == 18446744073709551615) = false := by simpa using h1
    have z2 : (v != 0) = true := by simpa using h0
    clear he hd h0 h1 c0 c1
    go_wp2_with fail
    refine (decode_any n HN.out _).mono ?_; rintro e w3 ⟨rfl, b3⟩
    have B3 := Lib.hid b3.below
    clear b3
    rw [HD.out]
    go_wp2_with fail
    refine (awake_any _).mono ?_; rintro e w4 ⟨rfl, b4⟩
    go_wp2_with fail
    go_ret
    exact ⟨rfl, B1.out.trans ((B2.out.mono B1.out.size).trans ((B3.out.mono (Nat.le_trans B1.out.size B2.out.size)).trans (b4.mono (Nat.le_trans B1.out.size (Nat.le_trans B2.out.size B3.out.size)))))⟩
theorem law_alike (v : Int) (hv : U64 v) (W : World) : Calls Try.prog 6 #[.int .u64 v] W
    fun e W' => e = .returned (.bool true) ∧ Below W.heap.size W W' := by
  go_enter Try.func6, Try.ntmps6
  go_wp2_with fail
  refine (encode_any _ hv _).mono ?_; rintro e w1 ⟨⟨c, ok, rfl, he⟩, b1⟩
  have B1 := Lib.hid b1.below
  clear b1
  have E := Lib.hid (alike_agree hv he)
  clear he
  go_wp2_with fail
  go_loop [5, 6] (fun a n => ∃ A : Bool, a = .bool A ∧ (n = .int .i64 2 ∧ Hid (A = (false)) ∨ n = .int .i64 4 ∧ Hid (A = (al v.toNat 2)) ∨ n = .int .i64 8 ∧ Hid (A = (al v.toNat 2 || al v.toNat 4)) ∨ n = .int .i64 16 ∧ Hid (A = (al v.toNat 2 || al v.toNat 4 || al v.toNat 8)) ∨ n = .int .i64 32 ∧ Hid (A = (al v.toNat 2 || al v.toNat 4 || al v.toNat 8 || al v.toNat 16)) ∨ n = .int .i64 64 ∧ Hid (A = (al v.toNat 2 || al v.toNat 4 || al v.toNat 8 || al v.toNat 16 || al v.toNat 32)) ∨ n = .int .i64 128 ∧ Hid (A = (al v.toNat 2 || al v.toNat 4 || al v.toNat 8 || al v.toNat 16 || al v.toNat 32 || al v.toNat 64)))) (fun _ n => 128 - (intOf n).toNat)
  case atStart => exact ⟨false, rfl, Or.inl ⟨rfl, rfl⟩⟩
  case round =>
    obtain ⟨A, rfl, hrel⟩ := hrel
    rcases hrel with ⟨rfl, hz⟩ | ⟨rfl, hz⟩ | ⟨rfl, hz⟩ | ⟨rfl, hz⟩ | ⟨rfl, hz⟩ | ⟨rfl, hz⟩ | ⟨rfl, hz⟩
    · cases A
      · go_wp2_with fail
        refine (alike_any v hv 2 (by omega) (by omega) _).mono ?_; rintro e w' ⟨rfl, rfl⟩
        go_wp2_with fail
        go_round
        case rel => exact ⟨_, rfl, Or.inr (Or.inl ⟨rfl, by have := hz.out; show _ = _; rfl⟩)⟩
        case measure => decide
      · go_wp2_with fail
        go_round
        case rel => exact ⟨true, rfl, Or.inr (Or.inl ⟨rfl, by have := hz.out; show _ = _; cases this⟩)⟩
        case measure => decide
    · cases A
      · go_wp2_with fail
        refine (alike_any v hv 4 (by omega) (by omega) _).mono ?_; rintro e w' ⟨rfl, rfl⟩
        go_wp2_with fail
        go_round
        case rel => exact ⟨_, rfl, Or.inr (Or.inr (Or.inl ⟨rfl, by have := hz.out; show _ = _; rw [← this]; rfl⟩))⟩
        case measure => decide
      · go_wp2_with fail
        go_round
        case rel => exact ⟨true, rfl, Or.inr (Or.inr (Or.inl ⟨rfl, by have := hz.out; show _ = _; rw [← this]; rfl⟩))⟩
        case measure => decide
    · cases A
      · go_wp2_with fail
        refine (alike_any v hv 8 (by omega) (by omega) _).mono ?_; rintro e w' ⟨rfl, rfl⟩
        go_wp2_with fail
        go_round
        case rel => exact ⟨_, rfl, Or.inr (Or.inr (Or.inr (Or.inl ⟨rfl, by have := hz.out; show _ = _; rw [← this]; rfl⟩)))⟩
        case measure => decide
      · go_wp2_with fail
        go_round
        case rel => exact ⟨true, rfl, Or.inr (Or.inr (Or.inr (Or.inl ⟨rfl, by have := hz.out; show _ = _; rw [← this]; rfl⟩)))⟩
        case measure => decide
    · cases A
      · go_wp2_with fail
        refine (alike_any v hv 16 (by omega) (by omega) _).mono ?_; rintro e w' ⟨rfl, rfl⟩
        go_wp2_with fail
        go_round
        case rel => exact ⟨_, rfl, Or.inr (Or.inr (Or.inr (Or.inr (Or.inl ⟨rfl, by have := hz.out; show _ = _; rw [← this]; rfl⟩))))⟩
        case measure => decide
      · go_wp2_with fail
        go_round
        case rel => exact ⟨true, rfl, Or.inr (Or.inr (Or.inr (Or.inr (Or.inl ⟨rfl, by have := hz.out; show _ = _; rw [← this]; rfl⟩))))⟩
        case measure => decide
    · cases A
      · go_wp2_with fail
        refine (alike_any v hv 32 (by omega) (by omega) _).mono ?_; rintro e w' ⟨rfl, rfl⟩
        go_wp2_with fail
        go_round
        case rel => exact ⟨_, rfl, Or.inr (Or.inr (Or.inr (Or.inr (Or.inr (Or.inl ⟨rfl, by have := hz.out; show _ = _; rw [← this]; rfl⟩)))))⟩
        case measure => decide
      · go_wp2_with fail
        go_round
        case rel => exact ⟨true, rfl, Or.inr (Or.inr (Or.inr (Or.inr (Or.inr (Or.inl ⟨rfl, by have := hz.out; show _ = _; rw [← this]; rfl⟩)))))⟩
        case measure => decide
    · cases A
      · go_wp2_with fail
        refine (alike_any v hv 64 (by omega) (by omega) _).mono ?_; rintro e w' ⟨rfl, rfl⟩
        go_wp2_with fail
        go_round
        case rel => exact ⟨_, rfl, Or.inr (Or.inr (Or.inr (Or.inr (Or.inr (Or.inr (⟨rfl, by have := hz.out; show _ = _; rw [← this]; rfl⟩))))))⟩
        case measure => decide
      · go_wp2_with fail
        go_round
        case rel => exact ⟨true, rfl, Or.inr (Or.inr (Or.inr (Or.inr (Or.inr (Or.inr (⟨rfl, by have := hz.out; show _ = _; rw [← this]; rfl⟩))))))⟩
        case measure => decide
    · have HA : Hid (A = ok) := by have := hz.out; show _ = _; rw [E.out]; exact this
      obtain rfl := HA.out
      go_wp2_with fail
      refine (awake_any _).mono ?_; rintro e w3 ⟨rfl, b3⟩
      go_wp2_with fail
      go_ret
      exact ⟨rfl, B1.out.trans (b3.mono B1.out.size)⟩
end Go.Proofs.Ytlhinabodofjeaa
