/- Layer 9 (memory): a store over a word, of the code. -/
import Derived.Test.YtlbkmdmnijmieaaMd
import Derived.Deep.QuietTactic
import Derived.BigQuiet
namespace Go.Proofs.Ytlbkmdmnijmieaa
open Go Go.RowKit Rp
open Cq (U64 I64 isW nb mask)

/-- what of v (a number that lies at sat) lies over the word at x -/
def ovV (sat v x : Int) : Int :=
  if IntKind.u64.wrap (sat - x) < 8 then IntKind.u64.wrap (v * 2 ^ (8 * IntKind.u64.wrap (sat - x)).toNat)
  else if IntKind.u64.wrap (x - sat) < 8 then v / 2 ^ (8 * IntKind.u64.wrap (x - sat)).toNat else 0
theorem over_any (sat sw sv x : Int) (W : World) (h2 : U64 sv) :
    Calls Try.prog 44 #[.agg #[.int .u64 sat, .int .i64 sw, .int .u64 sv], .int .u64 x] W fun e W' => e = .returned (.tuple #[.int .u64 (ovV sat sv x), .int .u64 (ovV sat (mask sw) x)]) ∧ Kp W W' := by
  have h20 := h2.1
  have h21 := h2.2
  clear h2
  have hm : 0 ≤ mask sw ∧ mask sw ≤ 18446744073709551615 := by have := Cq.mask_u64 sw; unfold U64 at this; omega
  obtain ⟨m, hM⟩ : ∃ m, m = mask sw := ⟨_, rfl⟩
  rw [← hM] at hm ⊢
  obtain ⟨hm0, hm1⟩ := hm
  have HM := Lib.hid hM
  clear hM
  unfold ovV
  by_cases hd : IntKind.u64.wrap (sat - x) < 8
  · rw [if_pos hd, if_pos hd]
    have hd0 : 0 ≤ IntKind.u64.wrap (sat - x) := (Cq.u64_wrap _).1
    generalize hD : IntKind.u64.wrap (sat - x) = d at *
    go_enter Try.func44, Try.ntmps44
    go_wp2_with fail
    go_quiet ((go_at_call 42; exact quiet_left (mask_any _ _)))
    rw [← HM.out]
    go_wp2_with fail
    go_ret2
    exact ⟨rfl, ((Kp.rfl _).new _).draws _⟩
  · rw [if_neg hd, if_neg hd]
    have hdd := decide_eq_false hd
    clear hd
    generalize hD : IntKind.u64.wrap (sat - x) = d at *
    by_cases hb : IntKind.u64.wrap (x - sat) < 8
    · rw [if_pos hb, if_pos hb]
      have hb0 : 0 ≤ IntKind.u64.wrap (x - sat) := (Cq.u64_wrap _).1
      generalize hB : IntKind.u64.wrap (x - sat) = b at *
      go_enter Try.func44, Try.ntmps44
      go_wp2_with fail
      go_quiet ((go_at_call 42; exact quiet_left (mask_any _ _)))
      rw [← HM.out]
      go_wp2_with fail
      go_ret2
      exact ⟨rfl, ((Kp.rfl _).new _).draws _⟩
    · rw [if_neg hb, if_neg hb]
      have hbb := decide_eq_false hb
      clear hb
      generalize hB : IntKind.u64.wrap (x - sat) = b at *
      go_enter Try.func44, Try.ntmps44
      go_wp2_with fail
      go_ret2
      exact ⟨rfl, (Kp.rfl _).new _⟩
end Go.Proofs.Ytlbkmdmnijmieaa
