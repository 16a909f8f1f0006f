/- Walks of layer 19: elements all alike, of the document. -/
import Derived.Test.YtlhinabodofjeaaLn
import Derived.Test.YtlhinabodofjeaaRows
import Derived.WalkKit
import Derived.WalkLawsBesides
import Derived.WalkSpells
import Derived.LoopTactic
import Derived.Lib.Hide
import Derived.Deep.QuietTactic
import Derived.BigQuiet
import Derived.Below
namespace Lg
open Go
open Cq
/-- does the word turned by n stand as it stood, as far as k? -/
def sameTo (v n k : Nat) : Prop := ∀ i, i < k → v.testBit i = v.testBit ((i + n) % 64)
/-- how many of the first k places of an element are edges -/
def edg (v n : Nat) : Nat → Nat
  | 0 => 0
  | k + 1 => edg v n k + if k < n ∧ v.testBit k ≠ v.testBit ((k + 1) % 64) then 1 else 0
instance (v n k : Nat) : Decidable (sameTo v n k) := by unfold sameTo; infer_instance
def al (v n : Nat) : Bool := decide (sameTo v n 64) && edg v n 64 == 2
theorem al_no {v n i : Nat} (hi : i < 64) (h : v.testBit i ≠ v.testBit ((i + n) % 64)) : al v n = false := by
  unfold al; rw [decide_eq_false (fun g : sameTo v n 64 => h (g i hi))]; rfl
theorem edg_le (v n k : Nat) : edg v n k ≤ k := by
  induction k with
  | zero => exact Nat.le_refl _
  | succ k ih => rw [edg]; split <;> omega
theorem bit_nez {v : Int} (hv : U64 v) (a b : Nat) : ((v / 2 ^ a).tmod 2 != (v / 2 ^ b).tmod 2) = (v.toNat.testBit a != v.toNat.testBit b) := by
  rw [← bit_ne hv a b]
  have h0 := hv.1
  obtain ⟨n, rfl⟩ := Int.eq_ofNat_of_zero_le h0
  have u : ∀ j : Nat, U64 ((n : Int) / 2 ^ j) := fun j => by
    rw [div_nat]
    have h1 := Nat.div_le_self n (2 ^ j)
    have h2 := hv.2
    generalize n / 2 ^ j = q at *
    exact ⟨by omega, by omega⟩
  rw [and_one _ (u a), and_one _ (u b), Int.tmod_eq_emod_of_nonneg (u a).1, Int.tmod_eq_emod_of_nonneg (u b).1]
theorem int_beq (a b : Nat) : (a == b) = ((a : Int) == (b : Int)) := by
  cases h : a == b
  · symm; rw [beq_eq_false_iff_ne] at h ⊢; omega
  · symm; rw [beq_iff_eq] at h ⊢; omega
end Lg
namespace Go.Proofs.Ytlhinabodofjeaa
open Go.RowKit
open Cq (U32 U64 I64 ones bit)
open Lg

set_option maxHeartbeats 4000000 in
theorem alike_any (v : Int) (hv : U64 v) (n : Nat) (h1 : 2 ≤ n) (h2 : n ≤ 64) (W : World) : Calls Try.prog 14 #[.int .u64 v, .int .i64 n] W
    fun e W' => e = .returned (.bool (al v.toNat n)) ∧ W = W' := by
  have hv0 := hv.1
  have g1 : (2 : Int) ≤ n := by omega
  have g2 : (n : Int) ≤ 64 := by omega
  have H1 := Lib.hid h1
  have H2 := Lib.hid h2
  clear h1 h2
  go_enter Try.func14, Try.ntmps14
  go_wp2_with fail
  go_loop [5, 6] (fun x i => ∃ j : Nat, j ≤ 64 ∧ i = .int .i64 j ∧ x = .int .i64 (edg v.toNat n j : Int) ∧ Hid (sameTo v.toNat n j)) (fun _ i => 64 - (intOf i).toNat)
  case atStart => exact ⟨0, by omega, rfl, rfl, fun k hk => absurd hk (by omega)⟩
  case round =>
    obtain ⟨j, hj, rfl, rfl, hq⟩ := hrel
    by_cases hlt : (j : Int) < 64
    · have hjn : Hid (j < 64) := by show j < 64; omega
      have A := bit_nez hv j ((j + n) % 64)
      by_cases hb : v.toNat.testBit j = v.toNat.testBit ((j + n) % 64)
      · have HB := Lib.hid hb
        rw [hb, bne_self_eq_false] at A
        have E := bit_nez hv j ((j + 1) % 64)
        by_cases hn : j < n
        · by_cases he : v.toNat.testBit j = v.toNat.testBit ((j + 1) % 64)
          · rw [he, bne_self_eq_false] at E
            have F : Hid (edg v.toNat n (j + 1) = edg v.toNat n j) := by
              show _ = _; rw [edg, if_neg (fun g => g.2 he)]; rfl
            clear hb he
            go_wp2_with fail
            go_round
            case rel => exact ⟨j + 1, by have := hjn.out; omega, by rw [Int.natCast_add]; rfl, by rw [F.out], fun k hk => by
              by_cases g : k = j
              · subst g; exact HB.out
              · exact hq.out k (by omega)⟩
            case measure =>
              have := hjn.out
              show 64 - ((j : Int) + 1).toNat < 64 - (j : Int).toNat; omega
          · rw [show (v.toNat.testBit j != v.toNat.testBit ((j + 1) % 64)) = true by rw [bne_iff_ne]; exact he] at E
            have F : Hid (edg v.toNat n (j + 1) = edg v.toNat n j + 1) := by
              show _ = _; rw [edg, if_pos ⟨hn, he⟩]
            have hl := edg_le v.toNat n j
            generalize hx : edg v.toNat n j = x at *
            clear hb he
            go_wp2_with fail
            go_round
            case rel => exact ⟨j + 1, by have := hjn.out; omega, by rw [Int.natCast_add]; rfl, by rw [F.out, Int.natCast_add]; rfl, fun k hk => by
              by_cases g : k = j
              · subst g; exact HB.out
              · exact hq.out k (by omega)⟩
            case measure =>
              have := hjn.out
              show 64 - ((j : Int) + 1).toNat < 64 - (j : Int).toNat; omega
        · have F : Hid (edg v.toNat n (j + 1) = edg v.toNat n j) := by
              show _ = _; rw [edg, if_neg (fun g => hn g.1)]; rfl
          clear hb E
          go_wp2_with fail
          go_round
          case rel => exact ⟨j + 1, by have := hjn.out; omega, by rw [Int.natCast_add]; rfl, by rw [F.out], fun k hk => by
            by_cases g : k = j
            · subst g; exact HB.out
            · exact hq.out k (by omega)⟩
          case measure =>
            have := hjn.out
            show 64 - ((j : Int) + 1).toNat < 64 - (j : Int).toNat; omega
      · rw [show (v.toNat.testBit j != v.toNat.testBit ((j + n) % 64)) = true by rw [bne_iff_ne]; exact hb] at A
        have F := Lib.hid (al_no hjn.out hb)
        clear hb
        go_wp2_with fail
        go_ret
        exact ⟨by rw [F.out]; rfl, rfl⟩
    · have HM : Hid (j = 64) := by show j = 64; omega
      have hlt' := Int.not_lt.mp hlt
      clear hlt hj
      go_wp2_with fail
      go_ret
      exact ⟨by
        have := HM.out; subst this
        unfold al; rw [decide_eq_true hq.out, Bool.true_and, int_beq]; rfl, rfl⟩
end Go.Proofs.Ytlhinabodofjeaa
