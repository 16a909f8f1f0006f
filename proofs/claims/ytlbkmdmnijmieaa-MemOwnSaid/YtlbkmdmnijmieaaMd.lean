/- Layer 9 (memory): may a thread read, or write, some bytes? of the code. -/
import Derived.Test.YtlbkmdmnijmieaaMc
import Derived.IntWalk
namespace Go.Proofs.Ytlbkmdmnijmieaa
open Go Go.RowKit Rp
open Cq (U64 I64 isW nb mask)

/-- the bytes from x on, n of them: may a thread come to all? -/
def opnAll (L : List Ar) (t x : Int) (w : Bool) (n : Nat) : Bool := (List.range n).all fun k => openB L t (x + k) w
theorem opnAll_yes {L : List Ar} {t x : Int} {w : Bool} {n : Nat} (h : ∀ j : Nat, j < n → openB L t (x + j) w = true) : opnAll L t x w n = true := by
  unfold opnAll; rw [List.all_eq_true]; intro k hk; exact h k (List.mem_range.1 hk)
theorem opnAll_no {L : List Ar} {t x : Int} {w : Bool} {n k : Nat} (hk : k < n) (h : openB L t (x + k) w = false) : opnAll L t x w n = false := by
  unfold opnAll; rw [List.all_eq_false]; exact ⟨k, List.mem_range.2 hk, by simp [h]⟩
theorem opnAll_at {L : List Ar} {t x : Int} {w : Bool} {n : Nat} (h : opnAll L t x w n = true) (j : Nat) (hj : j < n) : openB L t (x + j) w = true := by
  unfold opnAll at h; rw [List.all_eq_true] at h; exact h j (List.mem_range.2 hj)
/-- may it? -/
def mayB (L : List Ar) (t x w : Int) (wt : Bool) : Bool := knB t && isW w && decide (x + w ≤ 18446744073709551616) && opnAll L t x wt w.toNat
set_option maxHeartbeats 1000000 in
theorem may_in (g ga c : Nat) (L : List Ar) (t x : Int) (n : Nat) (wt : Bool) (W : World) (h : MRd W g ga c L) (ht : knB t = true) (hw : isW n = true) (hx : 0 ≤ x) (hxn : x + n ≤ 18446744073709551616) (hn : 1 ≤ n) (hn8 : n ≤ 8) :
    Calls Try.prog 25 #[.pointer (some ⟨g, 0, none⟩), .int .i64 t, .int .u64 x, .int .i64 n, .bool wt] W fun e W' => e = .returned (.bool (opnAll L t x wt n)) ∧ Kp W W' := by
  have H := Lib.hid h
  have HT := Lib.hid ht
  have HW := Lib.hid hw
  have hd : decide (18446744073709551615 - ((n : Int) - 1) < x) = false := decide_eq_false (by omega)
  clear h ht hw
  go_enter Try.func25, Try.ntmps25
  go_wp2_with fail
  refine (knows_any t g _).mono ?_; rintro e w1 ⟨rfl, rfl⟩
  rw [HT.out]
  go_wp2_with fail
  refine (is_any n _).mono ?_; rintro e w1 ⟨rfl, rfl⟩
  rw [HW.out]
  go_wp2_with fail
  go_loopw [31] (fun i w => ∃ k : Nat, k ≤ n ∧ i = .int .u64 k ∧ (∀ j : Nat, j < k → openB L t (x + j) wt = true) ∧ Kp W w) (fun i _ => n - (intOf i).toNat)
  case atStart => exact ⟨0, Nat.zero_le _, rfl, fun _ h => absurd h (by omega), Kp.rfl _⟩
  case round =>
    obtain ⟨k, hk, rfl, hno, hkp⟩ := hrel
    have HNO := Lib.hid hno
    have HKP := Lib.hid hkp
    clear hno hkp
    by_cases hlt : k < n
    · go_wp2_with fail
      refine (open_any g ga c L t (x + k) wt _ (H.out.kp HKP.out)).mono ?_; rintro e w2 ⟨rfl, hk2⟩
      have HK2 := Lib.hid hk2
      clear hk2
      cases hb : openB L t (x + k) wt
      · have HB := Lib.hid (opnAll_no hlt hb)
        clear hb
        go_wp2_with fail
        go_ret
        exact ⟨by rw [HB.out]; rfl, HKP.out.next HK2.out⟩
      · have HB : Hid (∀ j : Nat, j < k + 1 → openB L t (x + j) wt = true) := fun j hj => by
          rcases Nat.lt_succ_iff_lt_or_eq.1 hj with h | rfl
          · exact HNO.out j h
          · exact hb
        clear hb
        go_wp2_with fail
        go_roundw
        case rel => exact ⟨k + 1, by omega, by go_num, HB.out, HKP.out.next HK2.out⟩
        case measure => simp [intOf]; omega
    · have HB := Lib.hid (opnAll_yes (n := n) (fun j hj => HNO.out j (by omega)))
      go_wp2_with fail
      go_ret
      exact ⟨by rw [HB.out]; rfl, HKP.out⟩
theorem isW_nat {w : Int} (h : isW w = true) : ∃ n : Nat, w = n ∧ 1 ≤ n ∧ n ≤ 8 := by
  rcases Cq.isW_cases h with rfl | rfl | rfl | rfl
  · exact ⟨1, rfl, by omega, by omega⟩
  · exact ⟨2, rfl, by omega, by omega⟩
  · exact ⟨4, rfl, by omega, by omega⟩
  · exact ⟨8, rfl, by omega, by omega⟩
theorem may_any (g ga c : Nat) (L : List Ar) (t x w : Int) (wt : Bool) (W : World) (h : MRd W g ga c L) (hx : U64 x) :
    Calls Try.prog 25 #[.pointer (some ⟨g, 0, none⟩), .int .i64 t, .int .u64 x, .int .i64 w, .bool wt] W fun e W' => e = .returned (.bool (mayB L t x w wt)) ∧ Kp W W' := by
  unfold mayB
  cases ht : knB t
  · have HT := Lib.hid ht
    clear ht h hx
    go_enter Try.func25, Try.ntmps25
    go_wp2_with fail
    refine (knows_any t g _).mono ?_; rintro e w1 ⟨rfl, rfl⟩
    rw [HT.out]
    go_wp2_with fail
    go_ret
    exact ⟨by simp, Kp.rfl _⟩
  · cases hw : isW w
    · have HT := Lib.hid ht
      have HW := Lib.hid hw
      clear ht h hx hw
      go_enter Try.func25, Try.ntmps25
      go_wp2_with fail
      refine (knows_any t g _).mono ?_; rintro e w1 ⟨rfl, rfl⟩
      rw [HT.out]
      go_wp2_with fail
      refine (is_any w _).mono ?_; rintro e w1 ⟨rfl, rfl⟩
      rw [HW.out]
      go_wp2_with fail
      go_ret
      exact ⟨by simp, Kp.rfl _⟩
    · obtain ⟨n, rfl, hn, hn8⟩ := isW_nat hw
      by_cases hd : x + n ≤ 18446744073709551616
      · refine (may_in g ga c L t x n wt W h ht hw hx.1 hd hn hn8).mono fun e W' ⟨h1, h2⟩ => ⟨?_, h2⟩
        rw [h1]; simp [hd]
      · rw [decide_eq_false hd]
        have hx1 := hx.1
        have hx2 := hx.2
        have HT := Lib.hid ht
        have HW := Lib.hid hw
        have hd' := Int.not_le.mp hd
        clear ht hw hd h hx
        go_enter Try.func25, Try.ntmps25
        go_wp2_with fail
        refine (knows_any t g _).mono ?_; rintro e w1 ⟨rfl, rfl⟩
        rw [HT.out]
        go_wp2_with fail
        refine (is_any n _).mono ?_; rintro e w1 ⟨rfl, rfl⟩
        rw [HW.out]
        go_wp2_with fail
        go_ret
        exact ⟨by simp, Kp.rfl _⟩
end Go.Proofs.Ytlbkmdmnijmieaa
