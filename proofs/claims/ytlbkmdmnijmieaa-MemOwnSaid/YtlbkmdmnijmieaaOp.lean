/- Layer 9 (memory): a thread reads its own one store. -/
import Derived.Test.YtlbkmdmnijmieaaOo
namespace Go.Proofs.Ytlbkmdmnijmieaa
open Go Go.RowKit Rp Go.Maps
open Cq (U64 I64 isW nb mask)

theorem ovV_self (x y : Int) (hy : U64 y) : ovV x y x = y := by
  unfold ovV
  have e : IntKind.u64.wrap (x - x) = 0 := by rw [Int.sub_self]; rfl
  rw [e, if_pos (by omega)]
  show IntKind.u64.wrap (y * 2 ^ 0) = y
  rw [Int.pow_zero, Int.mul_one]
  exact Cq.wrap_of_u64 hy
def ownR (q : Sto) : Int := (stS q.a q.w (lastK [q] 1)).1
theorem lastK_one (q : Sto) : lastK [q] 1 = [(0, q)] := by rfl
theorem lastK_nil (q : Sto) : lastK [q] 0 = [] := by rfl
theorem u0 : U64 0 := by unfold Cq.U64; omega
theorem andNot_self (m : Int) : bits .andNot .u64 m m = 0 := by
  refine Cq.eq_of_B (Cq.bits_u64 _ _ _) u0 ?_
  rw [Cq.B_andNot, show Cq.B 0 = 0#64 by rfl]
  exact BitVec.and_not_self _
theorem and_zero (z : Int) : bits .and .u64 z 0 = 0 := by
  refine Cq.eq_of_B (Cq.bits_u64 _ _ _) u0 ?_
  rw [Cq.B_and, show Cq.B 0 = 0#64 by rfl, BitVec.and_zero]
theorem or_or_zero (a b : Int) : bits .or .u64 (bits .or .u64 a b) 0 = bits .or .u64 a b := by
  refine Cq.eq_of_B (Cq.bits_u64 _ _ _) (Cq.bits_u64 _ _ _) ?_
  rw [Cq.B_or, show Cq.B 0 = 0#64 by rfl, BitVec.or_zero]
theorem own_two (q : Sto) : (stS q.a q.w (lastK [q] 1)).2 = 0 := by
  rw [lastK_one]
  show (stepS q.a (0, mask q.w) q).2 = 0
  unfold stepS
  rw [ovV_self q.a (mask q.w) (Cq.mask_u64 q.w)]
  exact andNot_self _
theorem own_or (q : Sto) : bits .or .u64 (ownR q) 0 = ownR q := by
  unfold ownR
  rw [lastK_one]
  show bits .or .u64 (stepS q.a (0, mask q.w) q).1 0 = (stepS q.a (0, mask q.w) q).1
  exact or_or_zero _ _
theorem mask_ne {n : Nat} (h : isW n = true) : mask n ≠ 0 := by
  rcases Cq.isW_cases h with e | e | e | e
  all_goals rw [e]; decide
theorem ld_own {L : List Ar} {q : Sto} {n : Nat} (hq : q.w = n) (hw : isW n = true) {W W' : World} {e : Ending} (h : LdV L q.a n n [q] W e W') : e = .returned (.tuple #[.int .u64 (ownR q), .bool true]) := by
  obtain ⟨r, h1, h2, _⟩ := h
  rw [h1]
  have hr : r = ownR q := by
    rcases h2 with ⟨k, hk, h3, h4⟩ | h3
    · simp only [List.length_singleton] at hk
      have : k = 0 ∨ k = 1 := by omega
      rcases this with rfl | rfl
      · exfalso
        rw [lastK_nil] at h3
        exact mask_ne hw h3
      · rw [h4]; unfold ownR; rw [hq]
    · have e2 := own_two q
      have e3 := own_or q
      rw [hq] at e2
      unfold ownR at e3 ⊢
      rw [hq] at e3 ⊢
      rw [h3]
      simp only [List.length_singleton]
      rw [e2, and_zero]
      exact e3
  rw [hr]
theorem mayB_rd {L : List Ar} {t x w : Int} (h : mayB L t x w true = true) : mayB L t x w false = true := by
  unfold mayB at *
  simp only [Bool.and_eq_true] at h ⊢
  refine ⟨h.1, opnAll_yes fun k hk => ?_⟩
  have := opnAll_at h.2 k hk
  unfold openB at *
  split at this
  · unfold Ar.opn at *
    simp only [Bool.and_eq_true] at this ⊢
    exact ⟨this.1, by simp⟩
  · cases this
end Go.Proofs.Ytlbkmdmnijmieaa
