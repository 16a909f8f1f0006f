/- Walks of layer 19: the word of thirteen bits, of the document. -/
import Derived.Test.YtlhinabodofjeaaLe
namespace Go.Proofs.Ytlhinabodofjeaa
open Go.RowKit
open Cq (U32 U64 I64)
open Lg

def tabA : Obj := .cells #[.int .i64 32, .int .i64 16, .int .i64 8, .int .i64 4, .int .i64 2] 3
theorem dec_at {b s r : Int} {n : Nat} (h0 : 0 ≤ b) (hb : b ≤ 8191) (hS : b % 64 = s) (hR : b / 64 % 64 = r) (hz : szB b.toNat = n) (hn : n ≠ 0) : dec b.toNat = TW n (s % n + 1) (r % n) := by
  obtain ⟨m, rfl⟩ := Int.eq_ofNat_of_zero_le h0
  show dec m = _
  rw [show ((m : Int)).toNat = m from rfl] at hz
  unfold dec
  rw [if_neg (by omega), hz, if_neg hn, ← hS, ← hR, Int.natCast_add, Int.natCast_emod, Int.natCast_emod, Int.natCast_emod, Int.natCast_emod, Int.natCast_ediv]; rfl
theorem ok_ne {n s r : Int} (h : okT n s r = true) : (TW n s r != 0) = true := by
  have := TW_pos h; simp; omega
theorem ok_sz {n s r : Int} (hn : isSz n = true) (h1 : 0 ≤ s % n) (h2 : s % n ≠ n - 1) (h3 : 0 ≤ r % n) (h4 : r % n < n) (h5 : s % n < n) : okT n (s % n + 1) (r % n) = true := by
  unfold okT; rw [hn, Bool.true_and]; exact decide_eq_true (by omega)
theorem ko_sz {n s r : Int} (h2 : s % n = n - 1) : TW n (s % n + 1) (r % n) = 0 := by
  apply TW_zero; unfold okT; rw [Bool.and_eq_false_iff]; right; exact decide_eq_false (by omega)
/-- the search of the size, from its loop on -/
theorem bit32_of (s : Int) (h0 : 0 ≤ s) : ((s / 32 % 2 == 0) = true ↔ s.toNat / 32 % 2 = 0) := by
  rw [beq_iff_eq]; omega
theorem bit16_of (s : Int) (h0 : 0 ≤ s) : ((s / 16 % 2 == 0) = true ↔ s.toNat / 16 % 2 = 0) := by
  rw [beq_iff_eq]; omega
theorem bit8_of (s : Int) (h0 : 0 ≤ s) : ((s / 8 % 2 == 0) = true ↔ s.toNat / 8 % 2 = 0) := by
  rw [beq_iff_eq]; omega
theorem bit4_of (s : Int) (h0 : 0 ≤ s) : ((s / 4 % 2 == 0) = true ↔ s.toNat / 4 % 2 = 0) := by
  rw [beq_iff_eq]; omega
theorem bit2_of (s : Int) (h0 : 0 ≤ s) : ((s / 2 % 2 == 0) = true ↔ s.toNat / 2 % 2 = 0) := by
  rw [beq_iff_eq]; omega

set_option maxHeartbeats 4000000 in
theorem rdecode_any (b : Int) (hb0 : 0 ≤ b) (hb1 : b < 4294967296) (W : World) : Calls Try.prog 8 #[.int .u32 b] W
    fun e W' => e = .returned (.tuple #[.int .u64 (dec b.toNat), .bool (dec b.toNat != 0)]) ∧ Below W.heap.size W W' := by
  by_cases hbig : 8191 < b
  · have HD := Lib.hid (show dec b.toNat = 0 by unfold dec; rw [if_pos (by omega)])
    go_enter Try.func8, Try.ntmps8
    go_wp2_with fail
    go_ret2
    exact ⟨by rw [HD.out]; rfl, Below.refl _ _⟩
  · have hbig' : b ≤ 8191 := by omega
    obtain ⟨s, hS⟩ : ∃ s, b % 64 = s := ⟨_, rfl⟩
    obtain ⟨r, hR⟩ : ∃ r, b / 64 % 64 = r := ⟨_, rfl⟩
    have hs1 : s < 64 := by omega
    have hr1 : r < 64 := by omega
    have hs0 : 0 ≤ s := by omega
    have hr0 : 0 ≤ r := by omega
    have HB := Lib.hid hbig'
    have HS' := Lib.hid hS
    have HR' := Lib.hid hR
    clear hbig
    by_cases hN : b < 4096
    · have HZ := Lib.hid (show szB b.toNat = szN s.toNat by unfold szB; rw [if_pos (by omega), show b.toNat % 64 = s.toNat by omega])
      go_enter Try.func8, Try.ntmps8
      go_wp2_with fail
      go_loop [6, 22] (fun z i => ∃ Z : Int, z = .int .i64 Z ∧ (i = .int .i64 0 ∧ Hid (Z = (szK s.toNat 0 : Int)) ∨ i = .int .i64 1 ∧ Hid (Z = (szK s.toNat 1 : Int)) ∨ i = .int .i64 2 ∧ Hid (Z = (szK s.toNat 2 : Int)) ∨ i = .int .i64 3 ∧ Hid (Z = (szK s.toNat 3 : Int)) ∨ i = .int .i64 4 ∧ Hid (Z = (szK s.toNat 4 : Int)) ∨ i = .int .i64 5 ∧ Hid (Z = (szK s.toNat 5 : Int)))) (fun _ i => 5 - (intOf i).toNat)
      case atStart => exact ⟨0, rfl, Or.inl ⟨rfl, rfl⟩⟩
      case round =>
        obtain ⟨Z, rfl, hrel⟩ := hrel
        rcases hrel with ⟨rfl, hz⟩ | ⟨rfl, hz⟩ | ⟨rfl, hz⟩ | ⟨rfl, hz⟩ | ⟨rfl, hz⟩ | ⟨rfl, hz⟩
        · by_cases hZ : Z = 0
          · have hz0 : szK s.toNat 0 = 0 := by have := hz.out; omega
            subst hZ
            by_cases c : s / 32 % 2 = 0
            · have F := Lib.hid (szK_found (k := 0) hz0 (show s.toNat / 32 % 2 = 0 by omega))
              clear hz0
              go_wp2_with fail
              go_round
              case rel => exact ⟨32, rfl, Or.inr (Or.inl ⟨rfl, by show _ = _; rw [F.out]; rfl⟩)⟩
              case measure => decide
            · have F := Lib.hid (szK_not (k := 0) hz0 (show ¬ s.toNat / 32 % 2 = 0 by omega))
              clear hz0
              go_wp2_with fail
              go_round
              case rel => exact ⟨0, rfl, Or.inr (Or.inl ⟨rfl, by show _ = _; rw [F.out]; rfl⟩)⟩
              case measure => decide
          · have F := Lib.hid (szK_stay (s := s.toNat) (k := 0) (by have := hz.out; omega))
            have hZ' : (Z == 0) = false := by simpa using hZ
            clear hZ
            go_wp2_with fail
            go_round
            case rel => exact ⟨Z, rfl, Or.inr (Or.inl ⟨rfl, by show _ = _; rw [F.out]; exact hz.out⟩)⟩
            case measure => decide
        · by_cases hZ : Z = 0
          · have hz0 : szK s.toNat 1 = 0 := by have := hz.out; omega
            subst hZ
            by_cases c : s / 16 % 2 = 0
            · have F := Lib.hid (szK_found (k := 1) hz0 (show s.toNat / 16 % 2 = 0 by omega))
              clear hz0
              go_wp2_with fail
              go_round
              case rel => exact ⟨16, rfl, Or.inr (Or.inr (Or.inl ⟨rfl, by show _ = _; rw [F.out]; rfl⟩))⟩
              case measure => decide
            · have F := Lib.hid (szK_not (k := 1) hz0 (show ¬ s.toNat / 16 % 2 = 0 by omega))
              clear hz0
              go_wp2_with fail
              go_round
              case rel => exact ⟨0, rfl, Or.inr (Or.inr (Or.inl ⟨rfl, by show _ = _; rw [F.out]; rfl⟩))⟩
              case measure => decide
          · have F := Lib.hid (szK_stay (s := s.toNat) (k := 1) (by have := hz.out; omega))
            have hZ' : (Z == 0) = false := by simpa using hZ
            clear hZ
            go_wp2_with fail
            go_round
            case rel => exact ⟨Z, rfl, Or.inr (Or.inr (Or.inl ⟨rfl, by show _ = _; rw [F.out]; exact hz.out⟩))⟩
            case measure => decide
        · by_cases hZ : Z = 0
          · have hz0 : szK s.toNat 2 = 0 := by have := hz.out; omega
            subst hZ
            by_cases c : s / 8 % 2 = 0
            · have F := Lib.hid (szK_found (k := 2) hz0 (show s.toNat / 8 % 2 = 0 by omega))
              clear hz0
              go_wp2_with fail
              go_round
              case rel => exact ⟨8, rfl, Or.inr (Or.inr (Or.inr (Or.inl ⟨rfl, by show _ = _; rw [F.out]; rfl⟩)))⟩
              case measure => decide
            · have F := Lib.hid (szK_not (k := 2) hz0 (show ¬ s.toNat / 8 % 2 = 0 by omega))
              clear hz0
              go_wp2_with fail
              go_round
              case rel => exact ⟨0, rfl, Or.inr (Or.inr (Or.inr (Or.inl ⟨rfl, by show _ = _; rw [F.out]; rfl⟩)))⟩
              case measure => decide
          · have F := Lib.hid (szK_stay (s := s.toNat) (k := 2) (by have := hz.out; omega))
            have hZ' : (Z == 0) = false := by simpa using hZ
            clear hZ
            go_wp2_with fail
            go_round
            case rel => exact ⟨Z, rfl, Or.inr (Or.inr (Or.inr (Or.inl ⟨rfl, by show _ = _; rw [F.out]; exact hz.out⟩)))⟩
            case measure => decide
        · by_cases hZ : Z = 0
          · have hz0 : szK s.toNat 3 = 0 := by have := hz.out; omega
            subst hZ
            by_cases c : s / 4 % 2 = 0
            · have F := Lib.hid (szK_found (k := 3) hz0 (show s.toNat / 4 % 2 = 0 by omega))
              clear hz0
              go_wp2_with fail
              go_round
              case rel => exact ⟨4, rfl, Or.inr (Or.inr (Or.inr (Or.inr (Or.inl ⟨rfl, by show _ = _; rw [F.out]; rfl⟩))))⟩
              case measure => decide
            · have F := Lib.hid (szK_not (k := 3) hz0 (show ¬ s.toNat / 4 % 2 = 0 by omega))
              clear hz0
              go_wp2_with fail
              go_round
              case rel => exact ⟨0, rfl, Or.inr (Or.inr (Or.inr (Or.inr (Or.inl ⟨rfl, by show _ = _; rw [F.out]; rfl⟩))))⟩
              case measure => decide
          · have F := Lib.hid (szK_stay (s := s.toNat) (k := 3) (by have := hz.out; omega))
            have hZ' : (Z == 0) = false := by simpa using hZ
            clear hZ
            go_wp2_with fail
            go_round
            case rel => exact ⟨Z, rfl, Or.inr (Or.inr (Or.inr (Or.inr (Or.inl ⟨rfl, by show _ = _; rw [F.out]; exact hz.out⟩))))⟩
            case measure => decide
        · by_cases hZ : Z = 0
          · have hz0 : szK s.toNat 4 = 0 := by have := hz.out; omega
            subst hZ
            by_cases c : s / 2 % 2 = 0
            · have F := Lib.hid (szK_found (k := 4) hz0 (show s.toNat / 2 % 2 = 0 by omega))
              clear hz0
              go_wp2_with fail
              go_round
              case rel => exact ⟨2, rfl, Or.inr (Or.inr (Or.inr (Or.inr (Or.inr (⟨rfl, by show _ = _; rw [F.out]; rfl⟩)))))⟩
              case measure => decide
            · have F := Lib.hid (szK_not (k := 4) hz0 (show ¬ s.toNat / 2 % 2 = 0 by omega))
              clear hz0
              go_wp2_with fail
              go_round
              case rel => exact ⟨0, rfl, Or.inr (Or.inr (Or.inr (Or.inr (Or.inr (⟨rfl, by show _ = _; rw [F.out]; rfl⟩)))))⟩
              case measure => decide
          · have F := Lib.hid (szK_stay (s := s.toNat) (k := 4) (by have := hz.out; omega))
            have hZ' : (Z == 0) = false := by simpa using hZ
            clear hZ
            go_wp2_with fail
            go_round
            case rel => exact ⟨Z, rfl, Or.inr (Or.inr (Or.inr (Or.inr (Or.inr (⟨rfl, by show _ = _; rw [F.out]; exact hz.out⟩)))))⟩
            case measure => decide
        · have HZ6 := Lib.hid (szN_is s.toNat (by omega))
          have hz5 : Hid (Z = (szN s.toNat : Int)) := hz
          have bel : Below W.heap.size W (W.alloc (.cells #[.int .i64 32, .int .i64 16, .int .i64 8, .int .i64 4, .int .i64 2] 3)) := (Below.refl _ _).alloc (Nat.le_refl _) _
          rcases HZ6.out with h | h | h | h | h | h
          · have HD := Lib.hid (show dec b.toNat = 0 by unfold dec; rw [HZ.out, h, if_pos rfl]; split <;> rfl)
            obtain rfl : Z = 0 := by have := hz5.out; omega
            go_wp2_with fail
            go_ret2
            exact ⟨by rw [HD.out]; rfl, bel⟩
          · obtain rfl : Z = 2 := by have := hz5.out; omega
            have HZN : Hid (szB b.toNat = 2) := by show _ = _; rw [HZ.out, h]
            clear h hz5 HZ
            by_cases c : s % 2 = 1
            · have HD : Hid (dec b.toNat = 0) := by show _ = _; rw [dec_at hb0 HB.out HS'.out HR'.out HZN.out (by omega)]; exact ko_sz c
              go_wp2_with fail
              go_ret2
              exact ⟨by rw [HD.out]; rfl, bel⟩
            · have HO := Lib.hid (ok_sz (n := 2) (s := s) (r := r) rfl (by omega) c (by omega) (by omega) (by omega))
              have HD : Hid (dec b.toNat = TW 2 (s % 2 + 1) (r % 2)) := dec_at (n := 2) hb0 HB.out HS'.out HR'.out HZN.out (by omega)
              go_wp2_with fail
              go_quiet ((go_at_call 13; exact quiet_left (rturned_any 2 (s % 2 + 1) (r % 2) (by unfold I64; omega) (by unfold I64; omega) (by unfold I64; omega) _)))
              go_wp2_with fail
              go_ret2
              exact ⟨by rw [HD.out, ok_ne HO.out]; rfl, bel.trans (Drawn.below (Drawn.drewN (Drawn.refl _) _) |>.mono (by simp))⟩
          · obtain rfl : Z = 4 := by have := hz5.out; omega
            have HZN : Hid (szB b.toNat = 4) := by show _ = _; rw [HZ.out, h]
            clear h hz5 HZ
            by_cases c : s % 4 = 3
            · have HD : Hid (dec b.toNat = 0) := by show _ = _; rw [dec_at hb0 HB.out HS'.out HR'.out HZN.out (by omega)]; exact ko_sz c
              go_wp2_with fail
              go_ret2
              exact ⟨by rw [HD.out]; rfl, bel⟩
            · have HO := Lib.hid (ok_sz (n := 4) (s := s) (r := r) rfl (by omega) c (by omega) (by omega) (by omega))
              have HD : Hid (dec b.toNat = TW 4 (s % 4 + 1) (r % 4)) := dec_at (n := 4) hb0 HB.out HS'.out HR'.out HZN.out (by omega)
              go_wp2_with fail
              go_quiet ((go_at_call 13; exact quiet_left (rturned_any 4 (s % 4 + 1) (r % 4) (by unfold I64; omega) (by unfold I64; omega) (by unfold I64; omega) _)))
              go_wp2_with fail
              go_ret2
              exact ⟨by rw [HD.out, ok_ne HO.out]; rfl, bel.trans (Drawn.below (Drawn.drewN (Drawn.refl _) _) |>.mono (by simp))⟩
          · obtain rfl : Z = 8 := by have := hz5.out; omega
            have HZN : Hid (szB b.toNat = 8) := by show _ = _; rw [HZ.out, h]
            clear h hz5 HZ
            by_cases c : s % 8 = 7
            · have HD : Hid (dec b.toNat = 0) := by show _ = _; rw [dec_at hb0 HB.out HS'.out HR'.out HZN.out (by omega)]; exact ko_sz c
              go_wp2_with fail
              go_ret2
              exact ⟨by rw [HD.out]; rfl, bel⟩
            · have HO := Lib.hid (ok_sz (n := 8) (s := s) (r := r) rfl (by omega) c (by omega) (by omega) (by omega))
              have HD : Hid (dec b.toNat = TW 8 (s % 8 + 1) (r % 8)) := dec_at (n := 8) hb0 HB.out HS'.out HR'.out HZN.out (by omega)
              go_wp2_with fail
              go_quiet ((go_at_call 13; exact quiet_left (rturned_any 8 (s % 8 + 1) (r % 8) (by unfold I64; omega) (by unfold I64; omega) (by unfold I64; omega) _)))
              go_wp2_with fail
              go_ret2
              exact ⟨by rw [HD.out, ok_ne HO.out]; rfl, bel.trans (Drawn.below (Drawn.drewN (Drawn.refl _) _) |>.mono (by simp))⟩
          · obtain rfl : Z = 16 := by have := hz5.out; omega
            have HZN : Hid (szB b.toNat = 16) := by show _ = _; rw [HZ.out, h]
            clear h hz5 HZ
            by_cases c : s % 16 = 15
            · have HD : Hid (dec b.toNat = 0) := by show _ = _; rw [dec_at hb0 HB.out HS'.out HR'.out HZN.out (by omega)]; exact ko_sz c
              go_wp2_with fail
              go_ret2
              exact ⟨by rw [HD.out]; rfl, bel⟩
            · have HO := Lib.hid (ok_sz (n := 16) (s := s) (r := r) rfl (by omega) c (by omega) (by omega) (by omega))
              have HD : Hid (dec b.toNat = TW 16 (s % 16 + 1) (r % 16)) := dec_at (n := 16) hb0 HB.out HS'.out HR'.out HZN.out (by omega)
              go_wp2_with fail
              go_quiet ((go_at_call 13; exact quiet_left (rturned_any 16 (s % 16 + 1) (r % 16) (by unfold I64; omega) (by unfold I64; omega) (by unfold I64; omega) _)))
              go_wp2_with fail
              go_ret2
              exact ⟨by rw [HD.out, ok_ne HO.out]; rfl, bel.trans (Drawn.below (Drawn.drewN (Drawn.refl _) _) |>.mono (by simp))⟩
          · obtain rfl : Z = 32 := by have := hz5.out; omega
            have HZN : Hid (szB b.toNat = 32) := by show _ = _; rw [HZ.out, h]
            clear h hz5 HZ
            by_cases c : s % 32 = 31
            · have HD : Hid (dec b.toNat = 0) := by show _ = _; rw [dec_at hb0 HB.out HS'.out HR'.out HZN.out (by omega)]; exact ko_sz c
              go_wp2_with fail
              go_ret2
              exact ⟨by rw [HD.out]; rfl, bel⟩
            · have HO := Lib.hid (ok_sz (n := 32) (s := s) (r := r) rfl (by omega) c (by omega) (by omega) (by omega))
              have HD : Hid (dec b.toNat = TW 32 (s % 32 + 1) (r % 32)) := dec_at (n := 32) hb0 HB.out HS'.out HR'.out HZN.out (by omega)
              go_wp2_with fail
              go_quiet ((go_at_call 13; exact quiet_left (rturned_any 32 (s % 32 + 1) (r % 32) (by unfold I64; omega) (by unfold I64; omega) (by unfold I64; omega) _)))
              go_wp2_with fail
              go_ret2
              exact ⟨by rw [HD.out, ok_ne HO.out]; rfl, bel.trans (Drawn.below (Drawn.drewN (Drawn.refl _) _) |>.mono (by simp))⟩
    · have HZN := Lib.hid (show szB b.toNat = 64 by unfold szB; rw [if_neg (by omega)])
      have bel : Below W.heap.size W W := Below.refl _ _
      go_enter Try.func8, Try.ntmps8
      by_cases c : s % 64 = 63
      · have HD : Hid (dec b.toNat = 0) := by show _ = _; rw [dec_at hb0 HB.out HS'.out HR'.out HZN.out (by omega)]; exact ko_sz c
        go_wp2_with fail
        go_ret2
        exact ⟨by rw [HD.out]; rfl, bel⟩
      · have HO := Lib.hid (ok_sz (n := 64) (s := s) (r := r) rfl (by omega) c (by omega) (by omega) (by omega))
        have HD : Hid (dec b.toNat = TW 64 (s % 64 + 1) (r % 64)) := dec_at (n := 64) hb0 HB.out HS'.out HR'.out HZN.out (by omega)
        go_wp2_with fail
        go_quiet ((go_at_call 13; exact quiet_left (rturned_any 64 (s % 64 + 1) (r % 64) (by unfold I64; omega) (by unfold I64; omega) (by unfold I64; omega) _)))
        go_wp2_with fail
        go_ret2
        exact ⟨by rw [HD.out, ok_ne HO.out]; rfl, bel.trans (Drawn.below (Drawn.drewN (Drawn.refl _) _) |>.mono (by simp))⟩
end Go.Proofs.Ytlhinabodofjeaa
