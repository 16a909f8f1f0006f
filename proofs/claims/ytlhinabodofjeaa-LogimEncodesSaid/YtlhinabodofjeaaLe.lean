/- Walks of layer 19: the word of thirteen bits, of the code. -/
import Derived.Test.YtlhinabodofjeaaLd
namespace Go.Proofs.Ytlhinabodofjeaa
open Go.RowKit
open Cq (U32 U64 I64 inF field withF onesF fieldN withN ones fitsU)
open Lg

def Drawn (W W' : World) : Prop := ∃ n, W' = W.drewN n
theorem quiet_left {P : Program} {f : FuncId} {args : Array Value} {w : World} {n : Nat} {v : Value}
    (h : Calls P f args (w.drewN n) fun e w' => e = .returned v ∧ w.drewN n = w') : Calls P f args (w.drewN n) fun e w'' => e = .returned v ∧ ∃ m, w'' = w.drewN m :=
  h.mono fun _ _ ⟨he, hm⟩ => ⟨he, n, hm.symm⟩
theorem Drawn.below {W W' : World} (h : Drawn W W') : Below W.heap.size W W' := by
  obtain ⟨n, rfl⟩ := h
  induction n with
  | zero => exact Below.refl _ _
  | succ n ih => exact Below.drew ih
theorem Drawn.refl (W : World) : Drawn W W := ⟨0, rfl⟩
theorem Drawn.drewN {W W' : World} (h : Drawn W W') (n : Nat) : Drawn W (W'.drewN n) := by
  obtain ⟨m, rfl⟩ := h; exact ⟨m + n, World.drewN_drewN _ _ _⟩

theorem field_s (b : Nat) : field b 0 6 = ((b % 64 : Nat) : Int) := by
  show ((fieldN (b : Int).toNat 0 6 : Nat) : Int) = _
  unfold fieldN; simp
theorem field_r (b : Nat) : field b 6 6 = ((b / 64 % 64 : Nat) : Int) := by
  show ((fieldN (b : Int).toNat 6 6 : Nat) : Int) = _
  unfold fieldN; simp
theorem field_n (b : Nat) : field b 12 1 = ((b / 4096 % 2 : Nat) : Int) := by
  show ((fieldN (b : Int).toNat 12 1 : Nat) : Int) = _
  unfold fieldN; simp

set_option maxHeartbeats 4000000 in
theorem decode_any (b : Nat) (hb : b < 4294967296) (W : World) : Calls Try.prog 7 #[.int .u32 b] W
    fun e W' => e = .returned (.tuple #[.int .u64 (dec b), .bool (dec b != 0)]) ∧ Drawn W W' := by
  have hU : U32 (b : Int) := ⟨by omega, by omega⟩
  have hU6 : U64 (b : Int) := ⟨by omega, by omega⟩
  have FS := Lib.hid (field_s b)
  have FR := Lib.hid (field_r b)
  have FN := Lib.hid (field_n b)
  have hb0 : (0 : Int) ≤ b := by omega
  have hb1 : (b : Int) < 4294967296 := by omega
  by_cases hbig : 8191 < b
  · have HD := Lib.hid (show dec b = 0 by unfold dec; rw [if_pos hbig])
    have FU := Lib.hid (show fitsU b 13 = false by
      unfold fitsU; rw [Bool.and_eq_false_iff]; right; apply decide_eq_false; show ¬ (b : Int) / 2 ^ 13 = 0; omega)
    clear hbig hb
    go_enter Try.func7, Try.ntmps7
    go_wp2_with fail
    refine (fitsU_any _ _ hU6 (by unfold I64; omega) _).mono ?_; rintro e w' ⟨rfl, rfl⟩
    rw [FU.out]
    go_wp2_with fail
    go_ret2
    exact ⟨by rw [HD.out]; rfl, Drawn.refl _⟩
  · have FU := Lib.hid (show fitsU b 13 = true by
      unfold fitsU; rw [Bool.and_eq_true]; refine ⟨rfl, decide_eq_true ?_⟩; show (b : Int) / 2 ^ 13 = 0; omega)
    have hs : b % 64 < 64 := Nat.mod_lt _ (by omega)
    have hr : b / 64 % 64 < 64 := Nat.mod_lt _ (by omega)
    have hN2 : (b < 4096 ∧ b / 4096 % 2 = 0) ∨ (¬ b < 4096 ∧ b / 4096 % 2 = 1) := by omega
    generalize hS : b % 64 = s at *
    generalize hR : b / 64 % 64 = r at *
    have hs1 : (s : Int) < 64 := by omega
    have hr1 : (r : Int) < 64 := by omega
    have hs0 : (0 : Int) ≤ s := by omega
    have hr0 : (0 : Int) ≤ r := by omega
    have HS := Lib.hid hs
    have HB : Hid (¬ 8191 < b) := hbig
    have HS' := Lib.hid hS
    have HR' := Lib.hid hR
    clear hS hR hs hr hbig
    rcases hN2 with ⟨hN, hn⟩ | ⟨hN, hn⟩
    · rw [hn] at FN
      have HZ := Lib.hid (show szB b = szN s by unfold szB; rw [if_pos hN, HS'.out])
      have HZ6 := Lib.hid (szN_is s HS.out)
      clear hn hN hb
      rcases HZ6.out with h | h | h | h | h | h
      · have HD := Lib.hid (show dec b = 0 by unfold dec; rw [HZ.out, h, if_neg HB.out]; rfl)
        go_enter Try.func7, Try.ntmps7
        go_wp2_with fail
        refine (fitsU_any _ _ hU6 (by unfold I64; omega) _).mono ?_; rintro e w' ⟨rfl, rfl⟩
        rw [FU.out]
        go_wp2_with fail
        refine (field_any _ _ _ hU (by unfold I64; omega) (by unfold I64; omega) _).mono ?_; rintro e w' ⟨rfl, rfl⟩
        rw [FS.out]
        go_wp2_with fail
        refine (field_any _ _ _ hU (by unfold I64; omega) (by unfold I64; omega) _).mono ?_; rintro e w' ⟨rfl, rfl⟩
        rw [FR.out]
        go_wp2_with fail
        refine (field_any _ _ _ hU (by unfold I64; omega) (by unfold I64; omega) _).mono ?_; rintro e w' ⟨rfl, rfl⟩
        rw [FN.out]
        go_wp2_with fail
        refine (sizeIn_any s HS.out _).mono ?_; rintro e w' ⟨rfl, rfl⟩
        rw [h]
        go_wp2_with fail
        go_ret2
        exact ⟨by rw [HD.out]; rfl, Drawn.refl _⟩
      · have HD := Lib.hid (show dec b = TW 2 ((s : Int) % 2 + 1) ((r : Int) % 2) by unfold dec; rw [HZ.out, h, if_neg HB.out, HS'.out, HR'.out]; rfl)
        go_enter Try.func7, Try.ntmps7
        go_wp2_with fail
        refine (fitsU_any _ _ hU6 (by unfold I64; omega) _).mono ?_; rintro e w' ⟨rfl, rfl⟩
        rw [FU.out]
        go_wp2_with fail
        refine (field_any _ _ _ hU (by unfold I64; omega) (by unfold I64; omega) _).mono ?_; rintro e w' ⟨rfl, rfl⟩
        rw [FS.out]
        go_wp2_with fail
        refine (field_any _ _ _ hU (by unfold I64; omega) (by unfold I64; omega) _).mono ?_; rintro e w' ⟨rfl, rfl⟩
        rw [FR.out]
        go_wp2_with fail
        refine (field_any _ _ _ hU (by unfold I64; omega) (by unfold I64; omega) _).mono ?_; rintro e w' ⟨rfl, rfl⟩
        rw [FN.out]
        go_wp2_with fail
        refine (sizeIn_any s HS.out _).mono ?_; rintro e w' ⟨rfl, rfl⟩
        rw [h]
        go_wp2_with fail
        go_quiet ((go_at_call 12; exact quiet_left (turned_any 2 ((s : Int) % 2 + 1) ((r : Int) % 2) (by unfold I64; omega) (by unfold I64; omega) (by unfold I64; omega) _)))
        go_wp2_with fail
        go_ret2
        exact ⟨by rw [HD.out]; rfl, Drawn.drewN (Drawn.refl _) _⟩
      · have HD := Lib.hid (show dec b = TW 4 ((s : Int) % 4 + 1) ((r : Int) % 4) by unfold dec; rw [HZ.out, h, if_neg HB.out, HS'.out, HR'.out]; rfl)
        go_enter Try.func7, Try.ntmps7
        go_wp2_with fail
        refine (fitsU_any _ _ hU6 (by unfold I64; omega) _).mono ?_; rintro e w' ⟨rfl, rfl⟩
        rw [FU.out]
        go_wp2_with fail
        refine (field_any _ _ _ hU (by unfold I64; omega) (by unfold I64; omega) _).mono ?_; rintro e w' ⟨rfl, rfl⟩
        rw [FS.out]
        go_wp2_with fail
        refine (field_any _ _ _ hU (by unfold I64; omega) (by unfold I64; omega) _).mono ?_; rintro e w' ⟨rfl, rfl⟩
        rw [FR.out]
        go_wp2_with fail
        refine (field_any _ _ _ hU (by unfold I64; omega) (by unfold I64; omega) _).mono ?_; rintro e w' ⟨rfl, rfl⟩
        rw [FN.out]
        go_wp2_with fail
        refine (sizeIn_any s HS.out _).mono ?_; rintro e w' ⟨rfl, rfl⟩
        rw [h]
        go_wp2_with fail
        go_quiet ((go_at_call 12; exact quiet_left (turned_any 4 ((s : Int) % 4 + 1) ((r : Int) % 4) (by unfold I64; omega) (by unfold I64; omega) (by unfold I64; omega) _)))
        go_wp2_with fail
        go_ret2
        exact ⟨by rw [HD.out]; rfl, Drawn.drewN (Drawn.refl _) _⟩
      · have HD := Lib.hid (show dec b = TW 8 ((s : Int) % 8 + 1) ((r : Int) % 8) by unfold dec; rw [HZ.out, h, if_neg HB.out, HS'.out, HR'.out]; rfl)
        go_enter Try.func7, Try.ntmps7
        go_wp2_with fail
        refine (fitsU_any _ _ hU6 (by unfold I64; omega) _).mono ?_; rintro e w' ⟨rfl, rfl⟩
        rw [FU.out]
        go_wp2_with fail
        refine (field_any _ _ _ hU (by unfold I64; omega) (by unfold I64; omega) _).mono ?_; rintro e w' ⟨rfl, rfl⟩
        rw [FS.out]
        go_wp2_with fail
        refine (field_any _ _ _ hU (by unfold I64; omega) (by unfold I64; omega) _).mono ?_; rintro e w' ⟨rfl, rfl⟩
        rw [FR.out]
        go_wp2_with fail
        refine (field_any _ _ _ hU (by unfold I64; omega) (by unfold I64; omega) _).mono ?_; rintro e w' ⟨rfl, rfl⟩
        rw [FN.out]
        go_wp2_with fail
        refine (sizeIn_any s HS.out _).mono ?_; rintro e w' ⟨rfl, rfl⟩
        rw [h]
        go_wp2_with fail
        go_quiet ((go_at_call 12; exact quiet_left (turned_any 8 ((s : Int) % 8 + 1) ((r : Int) % 8) (by unfold I64; omega) (by unfold I64; omega) (by unfold I64; omega) _)))
        go_wp2_with fail
        go_ret2
        exact ⟨by rw [HD.out]; rfl, Drawn.drewN (Drawn.refl _) _⟩
      · have HD := Lib.hid (show dec b = TW 16 ((s : Int) % 16 + 1) ((r : Int) % 16) by unfold dec; rw [HZ.out, h, if_neg HB.out, HS'.out, HR'.out]; rfl)
        go_enter Try.func7, Try.ntmps7
        go_wp2_with fail
        refine (fitsU_any _ _ hU6 (by unfold I64; omega) _).mono ?_; rintro e w' ⟨rfl, rfl⟩
        rw [FU.out]
        go_wp2_with fail
        refine (field_any _ _ _ hU (by unfold I64; omega) (by unfold I64; omega) _).mono ?_; rintro e w' ⟨rfl, rfl⟩
        rw [FS.out]
        go_wp2_with fail
        refine (field_any _ _ _ hU (by unfold I64; omega) (by unfold I64; omega) _).mono ?_; rintro e w' ⟨rfl, rfl⟩
        rw [FR.out]
        go_wp2_with fail
        refine (field_any _ _ _ hU (by unfold I64; omega) (by unfold I64; omega) _).mono ?_; rintro e w' ⟨rfl, rfl⟩
        rw [FN.out]
        go_wp2_with fail
        refine (sizeIn_any s HS.out _).mono ?_; rintro e w' ⟨rfl, rfl⟩
        rw [h]
        go_wp2_with fail
        go_quiet ((go_at_call 12; exact quiet_left (turned_any 16 ((s : Int) % 16 + 1) ((r : Int) % 16) (by unfold I64; omega) (by unfold I64; omega) (by unfold I64; omega) _)))
        go_wp2_with fail
        go_ret2
        exact ⟨by rw [HD.out]; rfl, Drawn.drewN (Drawn.refl _) _⟩
      · have HD := Lib.hid (show dec b = TW 32 ((s : Int) % 32 + 1) ((r : Int) % 32) by unfold dec; rw [HZ.out, h, if_neg HB.out, HS'.out, HR'.out]; rfl)
        go_enter Try.func7, Try.ntmps7
        go_wp2_with fail
        refine (fitsU_any _ _ hU6 (by unfold I64; omega) _).mono ?_; rintro e w' ⟨rfl, rfl⟩
        rw [FU.out]
        go_wp2_with fail
        refine (field_any _ _ _ hU (by unfold I64; omega) (by unfold I64; omega) _).mono ?_; rintro e w' ⟨rfl, rfl⟩
        rw [FS.out]
        go_wp2_with fail
        refine (field_any _ _ _ hU (by unfold I64; omega) (by unfold I64; omega) _).mono ?_; rintro e w' ⟨rfl, rfl⟩
        rw [FR.out]
        go_wp2_with fail
        refine (field_any _ _ _ hU (by unfold I64; omega) (by unfold I64; omega) _).mono ?_; rintro e w' ⟨rfl, rfl⟩
        rw [FN.out]
        go_wp2_with fail
        refine (sizeIn_any s HS.out _).mono ?_; rintro e w' ⟨rfl, rfl⟩
        rw [h]
        go_wp2_with fail
        go_quiet ((go_at_call 12; exact quiet_left (turned_any 32 ((s : Int) % 32 + 1) ((r : Int) % 32) (by unfold I64; omega) (by unfold I64; omega) (by unfold I64; omega) _)))
        go_wp2_with fail
        go_ret2
        exact ⟨by rw [HD.out]; rfl, Drawn.drewN (Drawn.refl _) _⟩
    · rw [hn] at FN
      have HZ := Lib.hid (show szB b = 64 by unfold szB; rw [if_neg hN])
      have HD := Lib.hid (show dec b = TW 64 ((s : Int) % 64 + 1) ((r : Int) % 64) by unfold dec; rw [HZ.out, if_neg HB.out, HS'.out, HR'.out]; rfl)
      clear hn hN hb
      go_enter Try.func7, Try.ntmps7
      go_wp2_with fail
      refine (fitsU_any _ _ hU6 (by unfold I64; omega) _).mono ?_; rintro e w' ⟨rfl, rfl⟩
      rw [FU.out]
      go_wp2_with fail
      refine (field_any _ _ _ hU (by unfold I64; omega) (by unfold I64; omega) _).mono ?_; rintro e w' ⟨rfl, rfl⟩
      rw [FS.out]
      go_wp2_with fail
      refine (field_any _ _ _ hU (by unfold I64; omega) (by unfold I64; omega) _).mono ?_; rintro e w' ⟨rfl, rfl⟩
      rw [FR.out]
      go_wp2_with fail
      refine (field_any _ _ _ hU (by unfold I64; omega) (by unfold I64; omega) _).mono ?_; rintro e w' ⟨rfl, rfl⟩
      rw [FN.out]
      go_wp2_with fail
      go_quiet ((go_at_call 12; exact quiet_left (turned_any 64 ((s : Int) % 64 + 1) ((r : Int) % 64) (by unfold I64; omega) (by unfold I64; omega) (by unfold I64; omega) _)))
      go_wp2_with fail
      go_ret2
      exact ⟨by rw [HD.out]; rfl, Drawn.drewN (Drawn.refl _) _⟩
end Go.Proofs.Ytlhinabodofjeaa
