/- Walks of layer 1: widths, masks, numbers of a width, with and without sign; of the code and of the document's own answers. -/
import Derived.Test.YtbpcidpladnhfaaGreatDoorRows
import Derived.Test.YtbpcidpladnhfaaGreatDoorBitv
import Derived.WalkKit
import Derived.WalkLawsBesides
import Derived.WalkSpells
import Derived.LoopTactic
import Derived.Lib.Hide
import Derived.Deep.QuietTactic
import Derived.BigQuiet
namespace Go.Proofs.YtbpcidpladnhfaaGreatDoor
open Go.RowKit
open Cq (U64 I64 isW nb zx mask neg sx oneI bit)

/-- at most draws apart -/
def Drawn (W W' : World) : Prop := ∃ n, W' = W.drewN n
theorem Drawn.refl (W : World) : Drawn W W := ⟨0, rfl⟩
theorem Drawn.drewN {W W' : World} (h : Drawn W W') (n : Nat) : Drawn W (W'.drewN n) := by
  obtain ⟨m, rfl⟩ := h; exact ⟨m + n, World.drewN_drewN _ _ _⟩
theorem Drawn.drew {W W' : World} (h : Drawn W W') : Drawn W W'.drew := by
  obtain ⟨m, rfl⟩ := h; exact ⟨m + 1, rfl⟩
theorem Drawn.trans {W W' W'' : World} (h : Drawn W W') (g : Drawn W' W'') : Drawn W W'' := by
  obtain ⟨m, rfl⟩ := g; exact h.drewN m
theorem Drawn.grown {W W' : World} (h : Drawn W W') : Grown W W' := by
  obtain ⟨n, rfl⟩ := h
  induction n with
  | zero => exact Grown.refl _
  | succ n ih => exact Grown.drew ih
theorem quiet_left {P : Program} {f : FuncId} {args : Array Value} {w : World} {n : Nat} {v : Value}
    (h : Calls P f args (w.drewN n) fun e w' => e = .returned v ∧ w.drewN n = w') : Calls P f args (w.drewN n) fun e w'' => e = .returned v ∧ ∃ m, w'' = w.drewN m :=
  h.mono fun _ _ ⟨he, hm⟩ => ⟨he, n, hm.symm⟩

theorem is_any (w : Int) (W : World) : Calls Tryz.prog 35 #[.int .i64 w] W fun e W' => e = .returned (.bool (isW w)) ∧ W = W' := by
  by_cases h1 : w = 1
  · subst h1; go_enter Tryz.func35, Tryz.ntmps35; go_wp2; go_ret; exact ⟨rfl, rfl⟩
  by_cases h2 : w = 2
  · subst h2; go_enter Tryz.func35, Tryz.ntmps35; go_wp2; go_ret; exact ⟨rfl, rfl⟩
  by_cases h4 : w = 4
  · subst h4; go_enter Tryz.func35, Tryz.ntmps35; go_wp2; go_ret; exact ⟨rfl, rfl⟩
  by_cases h8 : w = 8
  · subst h8; go_enter Tryz.func35, Tryz.ntmps35; go_wp2; go_ret; exact ⟨rfl, rfl⟩
  have g1 : (w == 1) = false := by simpa using h1
  have g2 : (w == 2) = false := by simpa using h2
  have g4 : (w == 4) = false := by simpa using h4
  have g8 : (w == 8) = false := by simpa using h8
  have gg : isW w = false := by simp [isW, h1, h2, h4, h8]
  rw [gg]
  go_enter Tryz.func35, Tryz.ntmps35; go_wp2; go_ret; exact ⟨rfl, rfl⟩
theorem ris_any (w : Int) (W : World) : Calls Tryz.prog 47 #[.int .i64 w] W fun e W' => e = .returned (.bool (isW w)) ∧ W = W' := by
  by_cases h1 : w = 1
  · subst h1; go_enter Tryz.func47, Tryz.ntmps47; go_wp2; go_ret; exact ⟨rfl, rfl⟩
  by_cases h2 : w = 2
  · subst h2; go_enter Tryz.func47, Tryz.ntmps47; go_wp2; go_ret; exact ⟨rfl, rfl⟩
  by_cases h4 : w = 4
  · subst h4; go_enter Tryz.func47, Tryz.ntmps47; go_wp2; go_ret; exact ⟨rfl, rfl⟩
  by_cases h8 : w = 8
  · subst h8; go_enter Tryz.func47, Tryz.ntmps47; go_wp2; go_ret; exact ⟨rfl, rfl⟩
  have g1 : (w == 1) = false := by simpa using h1
  have g2 : (w == 2) = false := by simpa using h2
  have g4 : (w == 4) = false := by simpa using h4
  have g8 : (w == 8) = false := by simpa using h8
  have gg : isW w = false := by simp [isW, h1, h2, h4, h8]
  rw [gg]
  go_enter Tryz.func47, Tryz.ntmps47; go_wp2; go_ret; exact ⟨rfl, rfl⟩
def sz (w : Int) : Int := IntKind.u64.wrap (8 * IntKind.u64.wrap w)
theorem size_any (w : Int) (W : World) : Calls Tryz.prog 93 #[.int .i64 w] W fun e W' => e = .returned (.int .u64 (sz w)) ∧ W = W' := by
  go_enter Tryz.func93, Tryz.ntmps93; go_wp2; go_ret; exact ⟨rfl, rfl⟩
theorem one_any (c : Bool) (W : World) : Calls Tryz.prog 120 #[.bool c] W fun e W' => e = .returned (.int .u64 (oneI c)) ∧ W = W' := by
  cases c
  all_goals (go_enter Tryz.func120, Tryz.ntmps120; go_wp2; go_ret; exact ⟨rfl, rfl⟩)
theorem rone_any (c : Bool) (W : World) : Calls Tryz.prog 84 #[.bool c] W fun e W' => e = .returned (.int .u64 (oneI c)) ∧ W = W' := by
  cases c
  all_goals (go_enter Tryz.func84, Tryz.ntmps84; go_wp2; go_ret; exact ⟨rfl, rfl⟩)
theorem mask_any (w : Int) (W : World) : Calls Tryz.prog 61 #[.int .i64 w] W fun e W' => e = .returned (.int .u64 (mask w)) ∧ W = W' := by
  by_cases h : isW w = true
  · rcases Cq.isW_cases h with rfl | rfl | rfl | rfl
    all_goals
      go_enter Tryz.func61, Tryz.ntmps61
      go_wp2
      go_ret
      exact ⟨rfl, rfl⟩
  · have h' : isW w = false := by simpa using h
    have e : mask w = 0 := by unfold mask; rw [Cq.nb_not h']; rfl
    rw [e]
    go_enter Tryz.func61, Tryz.ntmps61
    go_wp2_with (go_at_call 35; refine (is_any _ _).mono ?_; rintro e w' ⟨rfl, rfl⟩)
    go_ret
    exact ⟨rfl, rfl⟩
theorem zx_any (v w : Int) (W : World) : Calls Tryz.prog 41 #[.int .u64 v, .int .i64 w] W fun e W' => e = .returned (.int .u64 (zx v w)) ∧ W = W' := by
  rw [← Cq.and_mask]
  go_enter Tryz.func41, Tryz.ntmps41
  go_wp2_with (go_at_call 61; refine (mask_any _ _).mono ?_; rintro e w' ⟨rfl, rfl⟩)
  go_ret
  exact ⟨rfl, rfl⟩
theorem neg_any (v w : Int) (h0 : U64 v) (W : World) : Calls Tryz.prog 111 #[.int .u64 v, .int .i64 w] W fun e W' => e = .returned (.bool (neg v w)) ∧ W = W' := by
  by_cases h : isW w = true
  · rcases Cq.isW_cases h with rfl | rfl | rfl | rfl
    · rw [← Cq.neg_code1 h0]
      go_enter Tryz.func111, Tryz.ntmps111
      go_wp2
      go_ret
      exact ⟨rfl, rfl⟩
    · rw [← Cq.neg_code2 h0]
      go_enter Tryz.func111, Tryz.ntmps111
      go_wp2
      go_ret
      exact ⟨rfl, rfl⟩
    · rw [← Cq.neg_code4 h0]
      go_enter Tryz.func111, Tryz.ntmps111
      go_wp2
      go_ret
      exact ⟨rfl, rfl⟩
    · rw [← Cq.neg_code8 h0]
      go_enter Tryz.func111, Tryz.ntmps111
      go_wp2
      go_ret
      exact ⟨rfl, rfl⟩
  · have h' : isW w = false := by simpa using h
    have e : neg v w = false := by unfold neg; rw [h']; rfl
    rw [e]
    go_enter Tryz.func111, Tryz.ntmps111
    go_wp2_with (go_at_call 35; refine (is_any _ _).mono ?_; rintro e w' ⟨rfl, rfl⟩)
    go_ret
    exact ⟨rfl, rfl⟩
theorem bit_any (v : Int) (i : Int) (hi : 0 ≤ i ∧ i ≤ 63) (h0 : U64 v) (W : World) : Calls Tryz.prog 48 #[.int .u64 v, .int .i64 i] W fun e W' => e = .returned (.int .u64 (bit v i)) ∧ W = W' := by
  obtain ⟨k, rfl⟩ := Int.eq_ofNat_of_zero_le hi.1
  have hk : k ≤ 63 := by omega
  have hv := h0.1
  go_enter Tryz.func48, Tryz.ntmps48
  go_wp2_with fail
  go_ret
  exact ⟨congrArg (fun n => Ending.returned (Value.int .u64 n)) (Cq.bit_tmod h0 k), rfl⟩
theorem rzx_any (v w : Int) (h0 : U64 v) (W : World) : Calls Tryz.prog 27 #[.int .u64 v, .int .i64 w] W fun e W' => e = .returned (.int .u64 (zx v w)) ∧ W = W' := by
  cases h : isW w
  · have e : zx v w = 0 := by unfold zx; rw [Cq.nb_not h]; simp
    rw [e]
    go_enter Tryz.func27, Tryz.ntmps27
    go_wp2_with fail
    go_loop [5, 6] (fun r i => r = .int .u64 0 ∧ i = .int .i64 0) (fun _ _ => 0)
    case atStart => exact ⟨rfl, rfl⟩
    case round =>
      obtain ⟨rfl, rfl⟩ := hrel
      go_wp2_with fail
      refine (ris_any _ _).mono ?_; rintro e w' ⟨rfl, rfl⟩
      rw [h]
      go_wp2_with fail
      go_ret
      exact ⟨rfl, rfl⟩
  · have ⟨hn, h8, h64⟩ := Cq.nb_is h
    have hz : zx v w = v % 2 ^ nb w := rfl
    generalize hN : nb w = n at *
    have hb : 1 ≤ w ∧ w ≤ 8 := by omega
    have HN := Lib.hid hn; clear hn
    have HZ := Lib.hid hz; clear hz hN
    go_enter Tryz.func27, Tryz.ntmps27
    go_wp2_with fail
    go_loop [5, 6] (fun r i => ∃ k : Nat, k ≤ n ∧ i = .int .i64 k ∧ r = .int .u64 (v % 2 ^ k)) (fun _ i => n - (intOf i).toNat)
    case atStart => exact ⟨0, by omega, rfl, by simp⟩
    case round =>
      obtain ⟨k, hk, rfl, rfl⟩ := hrel
      by_cases hlt : k < n
      · have hlt' : (k : Int) < 8 * w := by have := HN.out; omega
        go_wp2_with fail
        refine (ris_any _ _).mono ?_; rintro e w' ⟨rfl, rfl⟩
        rw [h]
        go_wp2_with fail
        refine (bit_any v k (by omega) h0 _).mono ?_; rintro e w' ⟨rfl, rfl⟩
        go_wp2_with fail
        go_round
        case rel => exact ⟨k + 1, by omega, by go_num, congrArg (Value.int .u64) (Cq.zx_round h0 k (by omega))⟩
        case measure => simp [intOf]; omega
      · have hlt' : ¬ (k : Int) < 8 * w := by have := HN.out; omega
        have hlt2 : 8 * w ≤ (k : Int) := by omega
        go_wp2_with fail
        refine (ris_any _ _).mono ?_; rintro e w' ⟨rfl, rfl⟩
        rw [h]
        go_wp2_with fail
        go_ret
        exact ⟨by rw [HZ.out]; have : k = n := by omega
                  subst this; rfl, rfl⟩
theorem rneg_any (v w : Int) (h0 : U64 v) (W : World) : Calls Tryz.prog 85 #[.int .u64 v, .int .i64 w] W fun e W' => e = .returned (.bool (neg v w)) ∧ W = W' := by
  cases h : isW w
  · have e : neg v w = false := by unfold neg; rw [h]; rfl
    rw [e]
    go_enter Tryz.func85, Tryz.ntmps85
    go_wp2_with fail
    refine (ris_any _ _).mono ?_; rintro e w' ⟨rfl, rfl⟩
    rw [h]
    go_wp2_with fail
    go_ret
    exact ⟨rfl, rfl⟩
  · rw [← Cq.bit_eq_one h0 h]
    have hw := Cq.isW_cases h
    have hb : 1 ≤ w ∧ w ≤ 8 := by omega
    clear hw
    go_enter Tryz.func85, Tryz.ntmps85
    go_wp2_with fail
    refine (ris_any _ _).mono ?_; rintro e w' ⟨rfl, rfl⟩
    rw [h]
    go_wp2_with fail
    refine (bit_any v _ (by omega) h0 _).mono ?_; rintro e w' ⟨rfl, rfl⟩
    go_wp2_with fail
    go_ret
    exact ⟨rfl, rfl⟩
end Go.Proofs.YtbpcidpladnhfaaGreatDoor

/- Walks of layer 1: sums and differences of the code and of the document's own answers. -/
namespace Go.Proofs.YtbpcidpladnhfaaGreatDoor
open Go.RowKit
open Cq (U64 I64 isW nb zx mask neg sx oneI bit sumV sumC sumO lessV lessC lessO)

theorem sum_any (a b : Int) (c : Bool) (w : Int) (W : World) : Calls Tryz.prog 109 #[.int .u64 a, .int .u64 b, .bool c, .int .i64 w] W
    fun e W' => e = .returned (.tuple #[.int .u64 (sumV a b c w), .bool (sumC a b c w), .bool (sumO a b c w)]) ∧ W = W' := by
  have H1 := Lib.hid (Cq.code_sumV a b c w)
  have H2 := Lib.hid (Cq.code_sumC (Cq.code_sumB a b c) w)
  have H3 := Lib.hid (Cq.code_sumO (Cq.code_sumB a b c) w)
  go_enter Tryz.func109, Tryz.ntmps109
  go_wp2_with fail
  refine (one_any _ _).mono ?_; rintro e w' ⟨rfl, rfl⟩
  go_wp2_with fail
  refine (zx_any _ _ _).mono ?_; rintro e w' ⟨rfl, rfl⟩
  go_wp2_with fail
  refine (neg_any _ _ (Cq.bits_u64 _ _ _) _).mono ?_; rintro e w' ⟨rfl, rfl⟩
  go_wp2_with fail
  refine (neg_any _ _ (Cq.bits_u64 _ _ _) _).mono ?_; rintro e w' ⟨rfl, rfl⟩
  go_wp2_with fail
  go_ret3
  exact ⟨by rw [H1.out, H2.out, H3.out]; rfl, rfl⟩
theorem less_any (a b : Int) (c : Bool) (w : Int) (W : World) : Calls Tryz.prog 110 #[.int .u64 a, .int .u64 b, .bool c, .int .i64 w] W
    fun e W' => e = .returned (.tuple #[.int .u64 (lessV a b c w), .bool (lessC a b c w), .bool (lessO a b c w)]) ∧ W = W' := by
  have H1 := Lib.hid (Cq.code_lessV a b c w)
  have H2 := Lib.hid (Cq.code_lessC' (Cq.code_lessB a b c) w)
  have H3 := Lib.hid (Cq.code_lessO (Cq.code_lessB a b c) w)
  go_enter Tryz.func110, Tryz.ntmps110
  go_wp2_with fail
  refine (one_any _ _).mono ?_; rintro e w' ⟨rfl, rfl⟩
  go_wp2_with fail
  refine (zx_any _ _ _).mono ?_; rintro e w' ⟨rfl, rfl⟩
  go_wp2_with fail
  refine (neg_any _ _ (Cq.bits_u64 _ _ _) _).mono ?_; rintro e w' ⟨rfl, rfl⟩
  go_wp2_with fail
  refine (neg_any _ _ (Cq.bits_u64 _ _ _) _).mono ?_; rintro e w' ⟨rfl, rfl⟩
  go_wp2_with fail
  go_ret3
  exact ⟨by rw [H1.out, H2.out, H3.out]; rfl, rfl⟩

def car (a b : Int) (c : Bool) (k : Nat) : Int := oneI (BitVec.carry k (Cq.B a) (Cq.B b) c)
theorem car_01 (a b : Int) (c : Bool) (k : Nat) : 0 ≤ car a b c k ∧ car a b c k ≤ 1 := by
  have := Cq.oneI_01 (BitVec.carry k (Cq.B a) (Cq.B b) c); unfold car; omega
theorem car_v {a b : Int} {c : Bool} (ha : U64 a) (hb : U64 b) (k : Nat) (hk : k < 64) :
    IntKind.u64.wrap ((a + b + oneI c) % 2 ^ k + IntKind.u64.wrap ((bit a ↑k + bit b ↑k + car a b c k) % 2 * 2 ^ k)) = (a + b + oneI c) % 2 ^ (k + 1)
    ∧ (bit a ↑k + bit b ↑k + car a b c k) / 2 = car a b c (k + 1) := by
  have ⟨e1, e2⟩ := Cq.column a b ha.1 hb.1 c k hk
  refine ⟨?_, e2⟩
  have ⟨p, q⟩ := Cq.pow_le (k + 1) (by omega)
  have ⟨p', q'⟩ := Cq.pow_le k (by omega)
  have r1 := Int.emod_nonneg (a + b + oneI c) (b := 2 ^ (k + 1)) (by omega)
  have r2 := Int.emod_lt_of_pos (a + b + oneI c) p
  have r3 := Int.emod_nonneg (a + b + oneI c) (b := 2 ^ k) (by omega)
  have e1' : (a + b + oneI c) % 2 ^ k + (bit a ↑k + bit b ↑k + car a b c k) % 2 * 2 ^ k = (a + b + oneI c) % 2 ^ (k + 1) := e1
  have hb : 0 ≤ (bit a ↑k + bit b ↑k + car a b c k) % 2 * 2 ^ k := Int.mul_nonneg (by omega) (by omega)
  rw [Cq.wrap_of_u64 (n := (bit a ↑k + bit b ↑k + car a b c k) % 2 * 2 ^ k) ⟨hb, by omega⟩, e1']
  exact Cq.wrap_of_u64 ⟨r1, by omega⟩
theorem car_c (a b : Int) (c : Bool) (w : Int) (h : isW w = true) : (car a b c (nb w) == 1) = sumC a b c w := by
  unfold car sumC; rw [h]; cases BitVec.carry (nb w) (Cq.B a) (Cq.B b) c <;> rfl
theorem car_o (a b : Int) (c : Bool) (w : Int) (h : isW w = true) : (car a b c (nb w) != car a b c (nb w - 1)) = sumO a b c w := by
  unfold car sumO; rw [h]
  cases BitVec.carry (nb w) (Cq.B a) (Cq.B b) c <;> cases BitVec.carry (nb w - 1) (Cq.B a) (Cq.B b) c <;> rfl
theorem rsum_any (a b : Int) (c : Bool) (w : Int) (ha : U64 a) (hb : U64 b) (W : World) : Calls Tryz.prog 53 #[.int .u64 a, .int .u64 b, .bool c, .int .i64 w] W
    fun e W' => e = .returned (.tuple #[.int .u64 (sumV a b c w), .bool (sumC a b c w), .bool (sumO a b c w)]) ∧ W = W' := by
  cases h : isW w
  · rw [show sumV a b c w = 0 by unfold sumV; rw [Cq.nb_not h]; simp]
    rw [show sumC a b c w = false by unfold sumC; rw [h]; rfl]
    rw [show sumO a b c w = false by unfold sumO; rw [h]; rfl]
    go_enter Tryz.func53, Tryz.ntmps53
    go_wp2_with fail
    refine (ris_any _ _).mono ?_; rintro e w' ⟨rfl, rfl⟩
    rw [h]
    go_wp2_with fail
    go_ret3
    exact ⟨rfl, rfl⟩
  · have ⟨hn, h8, h64⟩ := Cq.nb_is h
    have hw : 1 ≤ w ∧ w ≤ 8 := by omega
    have HN := Lib.hid hn
    have HC := Lib.hid (car_c a b c w h)
    have HO := Lib.hid (car_o a b c w h)
    clear hn
    go_enter Tryz.func53, Tryz.ntmps53
    go_wp2_with fail
    refine (ris_any _ _).mono ?_; rintro e w' ⟨rfl, rfl⟩
    rw [h]
    go_wp2_with fail
    refine (rone_any _ _).mono ?_; rintro e w' ⟨rfl, rfl⟩
    go_wp2_with fail
    go_loop [11, 12, 13, 14, 15] (fun r cc l i _ => ∃ k : Nat, k ≤ nb w ∧ i = .int .i64 k ∧ r = .int .u64 ((a + b + oneI c) % 2 ^ k) ∧ cc = .int .u64 (car a b c k) ∧ l = .int .u64 (car a b c (k - 1))) (fun _ _ _ i _ => nb w - (intOf i).toNat)
    case atStart => exact ⟨0, by omega, rfl, by simp, congrArg (Value.int .u64) (Cq.carry_zero a b c).symm, congrArg (Value.int .u64) (Cq.carry_zero a b c).symm⟩
    case round =>
      obtain ⟨k, hk, rfl, rfl, rfl, rfl⟩ := hrel
      by_cases hlt : k < nb w
      · have hlt' : (k : Int) < 8 * w := by have := HN.out; omega
        have hc := car_01 a b c k
        have hx := Cq.bit_01 a k
        have hy := Cq.bit_01 b k
        go_wp2_with fail
        refine (bit_any a k (by omega) ha _).mono ?_; rintro e w' ⟨rfl, rfl⟩
        go_wp2_with fail
        refine (bit_any b k (by omega) hb _).mono ?_; rintro e w' ⟨rfl, rfl⟩
        go_wp2_with fail
        have hv := car_v (c := c) ha hb k (by omega)
        go_round
        case rel => exact ⟨k + 1, by omega, by go_num, congrArg (Value.int .u64) hv.1, congrArg (Value.int .u64) hv.2, rfl⟩
        case measure => simp [intOf]; omega
      · have hlt' : 8 * w ≤ (k : Int) := by have := HN.out; omega
        go_wp2_with fail
        go_ret3
        have : k = nb w := by omega
        subst this
        exact ⟨by rw [HC.out, HO.out]; rfl, rfl⟩
theorem rless_any (a b : Int) (c : Bool) (w : Int) (ha : U64 a) (hb : U64 b) (W : World) : Calls Tryz.prog 55 #[.int .u64 a, .int .u64 b, .bool c, .int .i64 w] W
    fun e W' => e = .returned (.tuple #[.int .u64 (lessV a b c w), .bool (lessC a b c w), .bool (lessO a b c w)]) ∧ W = W' := by
  have hb' : U64 (18446744073709551615 - b) := by unfold U64 at *; omega
  have e1 := Lib.hid (Cq.wrap_of_u64 hb')
  have e2 := Lib.hid (Cq.lessC_sumC a b c w)
  go_enter Tryz.func55, Tryz.ntmps55
  go_wp2_with fail
  rw [e1.out]
  refine (rsum_any _ _ _ _ ha hb' _).mono ?_; rintro e w' ⟨rfl, rfl⟩
  go_wp2_with fail
  refine (ris_any _ _).mono ?_; rintro e w' ⟨rfl, rfl⟩
  cases h : isW w
  · go_wp2_with fail
    go_ret3
    exact ⟨by rw [e2.out, h]; rfl, rfl⟩
  · go_wp2_with fail
    go_ret3
    exact ⟨by rw [e2.out, h]; rfl, rfl⟩
end Go.Proofs.YtbpcidpladnhfaaGreatDoor

/- Walks of layer 1: turning, of the code and of the document's own answer; the chapter's examples. -/
namespace Go.Proofs.YtbpcidpladnhfaaGreatDoor
open Go.RowKit
open Cq (U64 I64 isW nb zx mask neg sx oneI bit sumV sumC sumO lessV lessC lessO turn rot rotTo)

theorem turn_any (v k w : Int) (hv : U64 v) (W : World) : Calls Tryz.prog 107 #[.int .u64 v, .int .i64 k, .int .i64 w] W
    fun e W' => e = .returned (.int .u64 (turn v k w)) ∧ W = W' := by
  cases h : isW w
  · rw [Cq.turn_not h]
    have HZ : ∀ x, zx x w = 0 := by intro x; unfold zx; rw [Cq.nb_not h]; simp
    have Hz := Lib.hid HZ; clear HZ
    go_enter Tryz.func107, Tryz.ntmps107
    go_wp2_with fail
    refine (size_any _ _).mono ?_; rintro e w' ⟨rfl, rfl⟩
    go_wp2_with fail
    refine (zx_any _ _ _).mono ?_; rintro e w' ⟨rfl, rfl⟩
    rw [Hz.out]
    have hL := (Cq.bits_u64 .and (IntKind.u64.wrap k) (IntKind.u64.wrap (sz w - 1))).bd.1
    go_wp2_with fail
    refine (zx_any _ _ _).mono ?_; rintro e w' ⟨rfl, rfl⟩
    rw [Hz.out]
    go_wp2_with fail
    go_ret
    exact ⟨rfl, rfl⟩
  · have ⟨hn, h8, h64⟩ := Cq.nb_is h
    have hf := Cq.nb_five w
    have hm0 : 0 ≤ k % (nb w : Int) := Int.emod_nonneg _ (by omega)
    have hm1 : k % (nb w : Int) < nb w := Int.emod_lt_of_pos _ (by omega)
    have HSZ : sz w = nb w := by
      unfold sz; rcases Cq.isW_cases h with rfl | rfl | rfl | rfl <;> rfl
    have Hsz := Lib.hid HSZ
    have HL := Lib.hid (Cq.low_mask k (nb w) (by omega))
    have hm : (k % (nb w : Int)).toNat < nb w := by omega
    have HT := Lib.hid (Cq.turn_is (v := v) (k := k) h)
    have HC := Lib.hid (Cq.code_turn hv w h (k % (nb w : Int)).toNat hm)
    have HN := Lib.hid hn
    clear hf hm0 hm1 HSZ hn
    go_enter Tryz.func107, Tryz.ntmps107
    go_wp2_with fail
    refine (size_any _ _).mono ?_; rintro e w' ⟨rfl, rfl⟩
    rw [Hsz.out]
    go_wp2_with fail
    rw [HL.out]
    generalize (k % (nb w : Int)).toNat = m at *
    refine (zx_any _ _ _).mono ?_; rintro e w' ⟨rfl, rfl⟩
    go_wp2_with fail
    refine (zx_any _ _ _).mono ?_; rintro e w' ⟨rfl, rfl⟩
    rw [HC.out]
    go_wp2_with fail
    go_ret
    exact ⟨by rw [HT.out]; rfl, rfl⟩
theorem rturn_any (v k w : Int) (hv : U64 v) (_hk : I64 k) (W : World) : Calls Tryz.prog 57 #[.int .u64 v, .int .i64 k, .int .i64 w] W
    fun e W' => e = .returned (.int .u64 (turn v k w)) ∧ Drawn W W' := by
  cases h : isW w
  · rw [Cq.turn_not h]
    go_enter Tryz.func57, Tryz.ntmps57
    go_wp2_with fail
    refine (ris_any _ _).mono ?_; rintro e w' ⟨rfl, rfl⟩
    rw [h]
    go_wp2_with fail
    go_ret
    exact ⟨rfl, Drawn.refl _⟩
  · have ⟨_, h8, h64⟩ := Cq.nb_is h
    have HT := Lib.hid (Cq.turn_is (v := v) (k := k) h)
    unfold I64 at _hk
    have hw := Cq.isW_cases h
    obtain ⟨n, hn⟩ : ∃ n, n = nb w := ⟨_, rfl⟩
    rw [← hn] at h8 h64 HT
    have hm0 : 0 ≤ k % (n : Int) := Int.emod_nonneg _ (by omega)
    have hm1 : k % (n : Int) < n := Int.emod_lt_of_pos _ (by omega)
    obtain ⟨m, hm⟩ : ∃ m : Nat, k % (n : Int) = m := ⟨(k % (n : Int)).toNat, by omega⟩
    have hmn : m < n := by omega
    have HRE := Lib.hid (Cq.rotTo_end v.toNat m n)
    have hrz := Cq.rotTo_zero v.toNat m n
    rw [hm, Int.toNat_natCast] at HT
    clear hm0 hm1
    rcases hw with rfl | rfl | rfl | rfl
    · rw [show nb 1 = 8 from rfl] at hn
      subst hn
      by_cases hneg : k.tmod 8 < 0
      · have HK : Hid (wrap64 (k.tmod 8 + 8) = m) := by
          have := Cq.tmod_neg (by decide) hneg
          show wrap64 _ = _
          unfold wrap64; omega
        clear hm
        go_enter Tryz.func57, Tryz.ntmps57
        go_wp2_with fail
        refine (ris_any _ _).mono ?_; rintro e w' ⟨rfl, rfl⟩
        rw [h]
        go_wp2_with fail
        rw [HK.out]
        go_loopw [8, 9] (fun r i wr => ∃ j : Nat, j ≤ 8 ∧ i = .int .i64 j ∧ r = .int .u64 (rotTo v.toNat m 8 j : Int) ∧ Drawn W wr) (fun _ i _ => 8 - (intOf i).toNat)
        case atStart => exact ⟨0, by omega, rfl, by rw [hrz]; rfl, Drawn.refl _⟩
        case round =>
          obtain ⟨j, hj, rfl, rfl, hd⟩ := hrel
          by_cases hlt : j < 8
          · have e1 : IntKind.i64.wrap ((j : Int) + m) = (j : Int) + m := IntWalk.i64_in _ (by omega)
            have e2 : ((j : Int) + m).tmod 8 = ((j + m) % 8 : Nat) := by rw [Int.tmod_eq_emod_of_nonneg (by omega)]; omega
            have b1 : (j + m) % 8 ≤ 63 := by omega
            have hr := Cq.rotTo_round hv m 8 j hmn hlt (by decide)
            have HR := Lib.hid hr; clear hr
            go_wp2_with fail
            go_quiet ((go_at_call 48; exact quiet_left (bit_any v _ (by omega) hv _)))
            go_wp2_with fail
            go_roundw
            case rel => exact ⟨j + 1, by omega, by go_num, congrArg (Value.int .u64) HR.out, hd.drewN _⟩
            case measure => simp [intOf]; omega
          · have hj8 : j = 8 := by omega
            subst hj8
            go_wp2_with fail
            go_ret
            exact ⟨by rw [HT.out, ← HRE.out]; rfl, hd⟩
      · have HK : Hid (k.tmod 8 = m) := by
          have := Cq.tmod_pos (by decide) (Int.not_lt.mp hneg)
          show k.tmod 8 = _
          omega
        have hpos := Int.not_lt.mp hneg
        clear hm hneg
        go_enter Tryz.func57, Tryz.ntmps57
        go_wp2_with fail
        refine (ris_any _ _).mono ?_; rintro e w' ⟨rfl, rfl⟩
        rw [h]
        go_wp2_with fail
        rw [HK.out]
        go_loopw [8, 9] (fun r i wr => ∃ j : Nat, j ≤ 8 ∧ i = .int .i64 j ∧ r = .int .u64 (rotTo v.toNat m 8 j : Int) ∧ Drawn W wr) (fun _ i _ => 8 - (intOf i).toNat)
        case atStart => exact ⟨0, by omega, rfl, by rw [hrz]; rfl, Drawn.refl _⟩
        case round =>
          obtain ⟨j, hj, rfl, rfl, hd⟩ := hrel
          by_cases hlt : j < 8
          · have e1 : IntKind.i64.wrap ((j : Int) + m) = (j : Int) + m := IntWalk.i64_in _ (by omega)
            have e2 : ((j : Int) + m).tmod 8 = ((j + m) % 8 : Nat) := by rw [Int.tmod_eq_emod_of_nonneg (by omega)]; omega
            have b1 : (j + m) % 8 ≤ 63 := by omega
            have hr := Cq.rotTo_round hv m 8 j hmn hlt (by decide)
            have HR := Lib.hid hr; clear hr
            go_wp2_with fail
            go_quiet ((go_at_call 48; exact quiet_left (bit_any v _ (by omega) hv _)))
            go_wp2_with fail
            go_roundw
            case rel => exact ⟨j + 1, by omega, by go_num, congrArg (Value.int .u64) HR.out, hd.drewN _⟩
            case measure => simp [intOf]; omega
          · have hj8 : j = 8 := by omega
            subst hj8
            go_wp2_with fail
            go_ret
            exact ⟨by rw [HT.out, ← HRE.out]; rfl, hd⟩
    · rw [show nb 2 = 16 from rfl] at hn
      subst hn
      by_cases hneg : k.tmod 16 < 0
      · have HK : Hid (wrap64 (k.tmod 16 + 16) = m) := by
          have := Cq.tmod_neg (by decide) hneg
          show wrap64 _ = _
          unfold wrap64; omega
        clear hm
        go_enter Tryz.func57, Tryz.ntmps57
        go_wp2_with fail
        refine (ris_any _ _).mono ?_; rintro e w' ⟨rfl, rfl⟩
        rw [h]
        go_wp2_with fail
        rw [HK.out]
        go_loopw [8, 9] (fun r i wr => ∃ j : Nat, j ≤ 16 ∧ i = .int .i64 j ∧ r = .int .u64 (rotTo v.toNat m 16 j : Int) ∧ Drawn W wr) (fun _ i _ => 16 - (intOf i).toNat)
        case atStart => exact ⟨0, by omega, rfl, by rw [hrz]; rfl, Drawn.refl _⟩
        case round =>
          obtain ⟨j, hj, rfl, rfl, hd⟩ := hrel
          by_cases hlt : j < 16
          · have e1 : IntKind.i64.wrap ((j : Int) + m) = (j : Int) + m := IntWalk.i64_in _ (by omega)
            have e2 : ((j : Int) + m).tmod 16 = ((j + m) % 16 : Nat) := by rw [Int.tmod_eq_emod_of_nonneg (by omega)]; omega
            have b1 : (j + m) % 16 ≤ 63 := by omega
            have hr := Cq.rotTo_round hv m 16 j hmn hlt (by decide)
            have HR := Lib.hid hr; clear hr
            go_wp2_with fail
            go_quiet ((go_at_call 48; exact quiet_left (bit_any v _ (by omega) hv _)))
            go_wp2_with fail
            go_roundw
            case rel => exact ⟨j + 1, by omega, by go_num, congrArg (Value.int .u64) HR.out, hd.drewN _⟩
            case measure => simp [intOf]; omega
          · have hj8 : j = 16 := by omega
            subst hj8
            go_wp2_with fail
            go_ret
            exact ⟨by rw [HT.out, ← HRE.out]; rfl, hd⟩
      · have HK : Hid (k.tmod 16 = m) := by
          have := Cq.tmod_pos (by decide) (Int.not_lt.mp hneg)
          show k.tmod 16 = _
          omega
        have hpos := Int.not_lt.mp hneg
        clear hm hneg
        go_enter Tryz.func57, Tryz.ntmps57
        go_wp2_with fail
        refine (ris_any _ _).mono ?_; rintro e w' ⟨rfl, rfl⟩
        rw [h]
        go_wp2_with fail
        rw [HK.out]
        go_loopw [8, 9] (fun r i wr => ∃ j : Nat, j ≤ 16 ∧ i = .int .i64 j ∧ r = .int .u64 (rotTo v.toNat m 16 j : Int) ∧ Drawn W wr) (fun _ i _ => 16 - (intOf i).toNat)
        case atStart => exact ⟨0, by omega, rfl, by rw [hrz]; rfl, Drawn.refl _⟩
        case round =>
          obtain ⟨j, hj, rfl, rfl, hd⟩ := hrel
          by_cases hlt : j < 16
          · have e1 : IntKind.i64.wrap ((j : Int) + m) = (j : Int) + m := IntWalk.i64_in _ (by omega)
            have e2 : ((j : Int) + m).tmod 16 = ((j + m) % 16 : Nat) := by rw [Int.tmod_eq_emod_of_nonneg (by omega)]; omega
            have b1 : (j + m) % 16 ≤ 63 := by omega
            have hr := Cq.rotTo_round hv m 16 j hmn hlt (by decide)
            have HR := Lib.hid hr; clear hr
            go_wp2_with fail
            go_quiet ((go_at_call 48; exact quiet_left (bit_any v _ (by omega) hv _)))
            go_wp2_with fail
            go_roundw
            case rel => exact ⟨j + 1, by omega, by go_num, congrArg (Value.int .u64) HR.out, hd.drewN _⟩
            case measure => simp [intOf]; omega
          · have hj8 : j = 16 := by omega
            subst hj8
            go_wp2_with fail
            go_ret
            exact ⟨by rw [HT.out, ← HRE.out]; rfl, hd⟩
    · rw [show nb 4 = 32 from rfl] at hn
      subst hn
      by_cases hneg : k.tmod 32 < 0
      · have HK : Hid (wrap64 (k.tmod 32 + 32) = m) := by
          have := Cq.tmod_neg (by decide) hneg
          show wrap64 _ = _
          unfold wrap64; omega
        clear hm
        go_enter Tryz.func57, Tryz.ntmps57
        go_wp2_with fail
        refine (ris_any _ _).mono ?_; rintro e w' ⟨rfl, rfl⟩
        rw [h]
        go_wp2_with fail
        rw [HK.out]
        go_loopw [8, 9] (fun r i wr => ∃ j : Nat, j ≤ 32 ∧ i = .int .i64 j ∧ r = .int .u64 (rotTo v.toNat m 32 j : Int) ∧ Drawn W wr) (fun _ i _ => 32 - (intOf i).toNat)
        case atStart => exact ⟨0, by omega, rfl, by rw [hrz]; rfl, Drawn.refl _⟩
        case round =>
          obtain ⟨j, hj, rfl, rfl, hd⟩ := hrel
          by_cases hlt : j < 32
          · have e1 : IntKind.i64.wrap ((j : Int) + m) = (j : Int) + m := IntWalk.i64_in _ (by omega)
            have e2 : ((j : Int) + m).tmod 32 = ((j + m) % 32 : Nat) := by rw [Int.tmod_eq_emod_of_nonneg (by omega)]; omega
            have b1 : (j + m) % 32 ≤ 63 := by omega
            have hr := Cq.rotTo_round hv m 32 j hmn hlt (by decide)
            have HR := Lib.hid hr; clear hr
            go_wp2_with fail
            go_quiet ((go_at_call 48; exact quiet_left (bit_any v _ (by omega) hv _)))
            go_wp2_with fail
            go_roundw
            case rel => exact ⟨j + 1, by omega, by go_num, congrArg (Value.int .u64) HR.out, hd.drewN _⟩
            case measure => simp [intOf]; omega
          · have hj8 : j = 32 := by omega
            subst hj8
            go_wp2_with fail
            go_ret
            exact ⟨by rw [HT.out, ← HRE.out]; rfl, hd⟩
      · have HK : Hid (k.tmod 32 = m) := by
          have := Cq.tmod_pos (by decide) (Int.not_lt.mp hneg)
          show k.tmod 32 = _
          omega
        have hpos := Int.not_lt.mp hneg
        clear hm hneg
        go_enter Tryz.func57, Tryz.ntmps57
        go_wp2_with fail
        refine (ris_any _ _).mono ?_; rintro e w' ⟨rfl, rfl⟩
        rw [h]
        go_wp2_with fail
        rw [HK.out]
        go_loopw [8, 9] (fun r i wr => ∃ j : Nat, j ≤ 32 ∧ i = .int .i64 j ∧ r = .int .u64 (rotTo v.toNat m 32 j : Int) ∧ Drawn W wr) (fun _ i _ => 32 - (intOf i).toNat)
        case atStart => exact ⟨0, by omega, rfl, by rw [hrz]; rfl, Drawn.refl _⟩
        case round =>
          obtain ⟨j, hj, rfl, rfl, hd⟩ := hrel
          by_cases hlt : j < 32
          · have e1 : IntKind.i64.wrap ((j : Int) + m) = (j : Int) + m := IntWalk.i64_in _ (by omega)
            have e2 : ((j : Int) + m).tmod 32 = ((j + m) % 32 : Nat) := by rw [Int.tmod_eq_emod_of_nonneg (by omega)]; omega
            have b1 : (j + m) % 32 ≤ 63 := by omega
            have hr := Cq.rotTo_round hv m 32 j hmn hlt (by decide)
            have HR := Lib.hid hr; clear hr
            go_wp2_with fail
            go_quiet ((go_at_call 48; exact quiet_left (bit_any v _ (by omega) hv _)))
            go_wp2_with fail
            go_roundw
            case rel => exact ⟨j + 1, by omega, by go_num, congrArg (Value.int .u64) HR.out, hd.drewN _⟩
            case measure => simp [intOf]; omega
          · have hj8 : j = 32 := by omega
            subst hj8
            go_wp2_with fail
            go_ret
            exact ⟨by rw [HT.out, ← HRE.out]; rfl, hd⟩
    · rw [show nb 8 = 64 from rfl] at hn
      subst hn
      by_cases hneg : k.tmod 64 < 0
      · have HK : Hid (wrap64 (k.tmod 64 + 64) = m) := by
          have := Cq.tmod_neg (by decide) hneg
          show wrap64 _ = _
          unfold wrap64; omega
        clear hm
        go_enter Tryz.func57, Tryz.ntmps57
        go_wp2_with fail
        refine (ris_any _ _).mono ?_; rintro e w' ⟨rfl, rfl⟩
        rw [h]
        go_wp2_with fail
        rw [HK.out]
        go_loopw [8, 9] (fun r i wr => ∃ j : Nat, j ≤ 64 ∧ i = .int .i64 j ∧ r = .int .u64 (rotTo v.toNat m 64 j : Int) ∧ Drawn W wr) (fun _ i _ => 64 - (intOf i).toNat)
        case atStart => exact ⟨0, by omega, rfl, by rw [hrz]; rfl, Drawn.refl _⟩
        case round =>
          obtain ⟨j, hj, rfl, rfl, hd⟩ := hrel
          by_cases hlt : j < 64
          · have e1 : IntKind.i64.wrap ((j : Int) + m) = (j : Int) + m := IntWalk.i64_in _ (by omega)
            have e2 : ((j : Int) + m).tmod 64 = ((j + m) % 64 : Nat) := by rw [Int.tmod_eq_emod_of_nonneg (by omega)]; omega
            have b1 : (j + m) % 64 ≤ 63 := by omega
            have hr := Cq.rotTo_round hv m 64 j hmn hlt (by decide)
            have HR := Lib.hid hr; clear hr
            go_wp2_with fail
            go_quiet ((go_at_call 48; exact quiet_left (bit_any v _ (by omega) hv _)))
            go_wp2_with fail
            go_roundw
            case rel => exact ⟨j + 1, by omega, by go_num, congrArg (Value.int .u64) HR.out, hd.drewN _⟩
            case measure => simp [intOf]; omega
          · have hj8 : j = 64 := by omega
            subst hj8
            go_wp2_with fail
            go_ret
            exact ⟨by rw [HT.out, ← HRE.out]; rfl, hd⟩
      · have HK : Hid (k.tmod 64 = m) := by
          have := Cq.tmod_pos (by decide) (Int.not_lt.mp hneg)
          show k.tmod 64 = _
          omega
        have hpos := Int.not_lt.mp hneg
        clear hm hneg
        go_enter Tryz.func57, Tryz.ntmps57
        go_wp2_with fail
        refine (ris_any _ _).mono ?_; rintro e w' ⟨rfl, rfl⟩
        rw [h]
        go_wp2_with fail
        rw [HK.out]
        go_loopw [8, 9] (fun r i wr => ∃ j : Nat, j ≤ 64 ∧ i = .int .i64 j ∧ r = .int .u64 (rotTo v.toNat m 64 j : Int) ∧ Drawn W wr) (fun _ i _ => 64 - (intOf i).toNat)
        case atStart => exact ⟨0, by omega, rfl, by rw [hrz]; rfl, Drawn.refl _⟩
        case round =>
          obtain ⟨j, hj, rfl, rfl, hd⟩ := hrel
          by_cases hlt : j < 64
          · have e1 : IntKind.i64.wrap ((j : Int) + m) = (j : Int) + m := IntWalk.i64_in _ (by omega)
            have e2 : ((j : Int) + m).tmod 64 = ((j + m) % 64 : Nat) := by rw [Int.tmod_eq_emod_of_nonneg (by omega)]; omega
            have b1 : (j + m) % 64 ≤ 63 := by omega
            have hr := Cq.rotTo_round hv m 64 j hmn hlt (by decide)
            have HR := Lib.hid hr; clear hr
            go_wp2_with fail
            go_quiet ((go_at_call 48; exact quiet_left (bit_any v _ (by omega) hv _)))
            go_wp2_with fail
            go_roundw
            case rel => exact ⟨j + 1, by omega, by go_num, congrArg (Value.int .u64) HR.out, hd.drewN _⟩
            case measure => simp [intOf]; omega
          · have hj8 : j = 64 := by omega
            subst hj8
            go_wp2_with fail
            go_ret
            exact ⟨by rw [HT.out, ← HRE.out]; rfl, hd⟩
end Go.Proofs.YtbpcidpladnhfaaGreatDoor
