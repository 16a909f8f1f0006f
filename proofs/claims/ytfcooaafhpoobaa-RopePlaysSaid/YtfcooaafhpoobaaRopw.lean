/- Walks of layer 2: what a store tells without writing. -/
import Derived.Test.YtfcooaafhpoobaaBitw
import Derived.Test.YtfcooaafhpoobaaRopm
namespace Go.Proofs.Ytfcooaafhpoobaa
open Go.RowKit Rp
open Cq (U64 I64 isW)

theorem stsize_any (g : Nat) (A : Option Addr) (n c : Nat) (W : World) (hc : W.cell? ⟨g, 0, none⟩ = some (.slice A n c)) :
    Calls Try.prog 54 #[.pointer (some ⟨g, 0, none⟩)] W fun e W' => e = .returned (.int .i64 n) ∧ W = W' := by
  go_enter Try.func54, Try.ntmps54
  go_wp2
  go_ret
  exact ⟨rfl, rfl⟩
theorem room_any (g : Nat) (A : Option Addr) (n c : Nat) (W : World) (hc : W.cell? ⟨g, 0, none⟩ = some (.slice A n c)) (hn : n ≤ 1048576) :
    Calls Try.prog 44 #[.pointer (some ⟨g, 0, none⟩)] W fun e W' => e = .returned (.int .i64 (1048576 - n)) ∧ W = W' := by
  go_enter Try.func44, Try.ntmps44
  go_wp2
  go_ret
  exact ⟨rfl, rfl⟩
def inB (a : Int) (n : Nat) : Bool := decide (0 ≤ a) && decide (a ≤ (n : Int))
theorem inside_any (g : Nat) (A : Option Addr) (n c : Nat) (a : Int) (W : World) (hc : W.cell? ⟨g, 0, none⟩ = some (.slice A n c)) :
    Calls Try.prog 56 #[.pointer (some ⟨g, 0, none⟩), .int .i64 a] W fun e W' => e = .returned (.bool (inB a n)) ∧ W = W' := by
  by_cases h : 0 ≤ a
  · go_enter Try.func56, Try.ntmps56
    go_wp2
    go_ret
    exact ⟨by simp [inB, h], rfl⟩
  · have h' := Int.not_le.mp h
    have hd : decide (0 ≤ a) = false := decide_eq_false h
    go_enter Try.func56, Try.ntmps56
    go_wp2
    go_ret
    exact ⟨by simp [inB, hd], rfl⟩
def hasB (a m : Int) (n : Nat) : Bool := inB a n && decide (0 ≤ m) && decide (m ≤ (n : Int) - a)
theorem has_any (g : Nat) (A : Option Addr) (n c : Nat) (a m : Int) (W : World) (hc : W.cell? ⟨g, 0, none⟩ = some (.slice A n c)) (hn : n ≤ 9223372036854775807) :
    Calls Try.prog 103 #[.pointer (some ⟨g, 0, none⟩), .int .i64 a, .int .i64 m] W fun e W' => e = .returned (.bool (hasB a m n)) ∧ W = W' := by
  cases h : inB a n
  · go_enter Try.func103, Try.ntmps103
    go_wp2_with fail
    refine (inside_any g A n c a _ hc).mono ?_; rintro e w' ⟨rfl, rfl⟩
    rw [h]
    go_wp2_with fail
    go_ret
    exact ⟨by simp [hasB, h], rfl⟩
  · have hb : 0 ≤ a ∧ a ≤ n := by simpa [inB] using h
    by_cases hm : 0 ≤ m
    · go_enter Try.func103, Try.ntmps103
      go_wp2_with fail
      refine (inside_any g A n c a _ hc).mono ?_; rintro e w' ⟨rfl, rfl⟩
      rw [h]
      go_wp2_with fail
      go_ret
      exact ⟨by simp [hasB, h, hm], rfl⟩
    · have hd : decide (0 ≤ m) = false := decide_eq_false hm
      have hm' := Int.not_le.mp hm
      clear hm
      go_enter Try.func103, Try.ntmps103
      go_wp2_with fail
      refine (inside_any g A n c a _ hc).mono ?_; rintro e w' ⟨rfl, rfl⟩
      rw [h]
      go_wp2_with fail
      go_ret
      exact ⟨by simp [hasB, h, hd], rfl⟩
def placeE (a w : Int) (n : Nat) : Int := if isW w then (if hasB a w n then 0 else 7) else 2
theorem place_any (g : Nat) (A : Option Addr) (n c : Nat) (a w : Int) (W : World) (hc : W.cell? ⟨g, 0, none⟩ = some (.slice A n c)) (hn : n ≤ 9223372036854775807) :
    Calls Try.prog 101 #[.pointer (some ⟨g, 0, none⟩), .int .i64 a, .int .i64 w] W fun e W' => e = .returned (.int .i64 (placeE a w n)) ∧ W = W' := by
  cases h : isW w
  · go_enter Try.func101, Try.ntmps101
    go_wp2_with fail
    refine (is_any _ _).mono ?_; rintro e w' ⟨rfl, rfl⟩
    rw [h]
    go_wp2_with fail
    go_ret
    exact ⟨by simp [placeE, h], rfl⟩
  · cases h2 : hasB a w n
    all_goals
      go_enter Try.func101, Try.ntmps101
      go_wp2_with fail
      refine (is_any _ _).mono ?_; rintro e w' ⟨rfl, rfl⟩
      rw [h]
      go_wp2_with fail
      refine (has_any g A n c a w _ hc hn).mono ?_; rintro e w' ⟨rfl, rfl⟩
      rw [h2]
      go_wp2_with fail
      go_ret
      exact ⟨by simp [placeE, h, h2], rfl⟩
end Go.Proofs.Ytfcooaafhpoobaa
