/- Walks of layer 19: elements all alike, of the document. -/
import Derived.Test.YthcncbbnjbhdkaaGreatDoorLw
import Derived.Test.YthcncbbnjbhdkaaGreatDoorRows
import Derived.WalkKit
import Derived.WalkLawsBesides
import Derived.WalkSpells
import Derived.LoopTactic
import Derived.Lib.Hide
import Derived.Deep.QuietTactic
import Derived.BigQuiet
import Derived.Below
import Derived.WalkMore
namespace Lg
open Go
open Cq
/-- does the word turned by n stand as it stood, as far as k? -/
def sameTo (v n k : Nat) : Prop := ∀ i, i < k → v.testBit i = v.testBit ((i + n) % 64)
/-- how many of the first k places of an element are edges -/
def edg (v n : Nat) : Nat → Nat
  | 0 => 0
  | k + 1 => edg v n k + if k < n ∧ v.testBit k ≠ v.testBit ((k + 1) % 64) then 1 else 0
instance (v n k : Nat) : Decidable (sameTo v n k) := by unfold sameTo; infer_instance
def al (v n : Nat) : Bool := decide (sameTo v n 64) && edg v n 64 == 2
theorem al_no {v n i : Nat} (hi : i < 64) (h : v.testBit i ≠ v.testBit ((i + n) % 64)) : al v n = false := by
  unfold al; rw [decide_eq_false (fun g : sameTo v n 64 => h (g i hi))]; rfl
theorem edg_le (v n k : Nat) : edg v n k ≤ k := by
  induction k with
  | zero => exact Nat.le_refl _
  | succ k ih => rw [edg]; split <;> omega
theorem bit_nez {v : Int} (hv : U64 v) (a b : Nat) : ((v / 2 ^ a).tmod 2 != (v / 2 ^ b).tmod 2) = (v.toNat.testBit a != v.toNat.testBit b) := by
  rw [← bit_ne hv a b]
  have h0 := hv.1
  obtain ⟨n, rfl⟩ := Int.eq_ofNat_of_zero_le h0
  have u : ∀ j : Nat, U64 ((n : Int) / 2 ^ j) := fun j => by
    rw [div_nat]
    have h1 := Nat.div_le_self n (2 ^ j)
    have h2 := hv.2
    generalize n / 2 ^ j = q at *
    exact ⟨by omega, by omega⟩
  rw [and_one _ (u a), and_one _ (u b), Int.tmod_eq_emod_of_nonneg (u a).1, Int.tmod_eq_emod_of_nonneg (u b).1]
theorem int_beq (a b : Nat) : (a == b) = ((a : Int) == (b : Int)) := by
  cases h : a == b
  · symm; rw [beq_eq_false_iff_ne] at h ⊢; omega
  · symm; rw [beq_iff_eq] at h ⊢; omega
end Lg
namespace Go.Proofs.YthcncbbnjbhdkaaGreatDoor
open Go.RowKit
open Cq (U32 U64 I64 ones bit)
open Lg

set_option maxHeartbeats 4000000 in
theorem alike_any (v : Int) (hv : U64 v) (n : Nat) (h1 : 2 ≤ n) (h2 : n ≤ 64) (W : World) : Calls Tryz.prog 98 #[.int .u64 v, .int .i64 n] W
    fun e W' => e = .returned (.bool (al v.toNat n)) ∧ W = W' := by
  have hv0 := hv.1
  have g1 : (2 : Int) ≤ n := by omega
  have g2 : (n : Int) ≤ 64 := by omega
  have H1 := Lib.hid h1
  have H2 := Lib.hid h2
  clear h1 h2
  go_enter Tryz.func98, Tryz.ntmps98
  go_wp2_with fail
  go_loop [5, 6] (fun x i => ∃ j : Nat, j ≤ 64 ∧ i = .int .i64 j ∧ x = .int .i64 (edg v.toNat n j : Int) ∧ Hid (sameTo v.toNat n j)) (fun _ i => 64 - (intOf i).toNat)
  case atStart => exact ⟨0, by omega, rfl, rfl, fun k hk => absurd hk (by omega)⟩
  case round =>
    obtain ⟨j, hj, rfl, rfl, hq⟩ := hrel
    by_cases hlt : (j : Int) < 64
    · have hjn : Hid (j < 64) := by show j < 64; omega
      have A := bit_nez hv j ((j + n) % 64)
      by_cases hb : v.toNat.testBit j = v.toNat.testBit ((j + n) % 64)
      · have HB := Lib.hid hb
        rw [hb, bne_self_eq_false] at A
        have E := bit_nez hv j ((j + 1) % 64)
        by_cases hn : j < n
        · by_cases he : v.toNat.testBit j = v.toNat.testBit ((j + 1) % 64)
          · rw [he, bne_self_eq_false] at E
            have F : Hid (edg v.toNat n (j + 1) = edg v.toNat n j) := by
              show _ = _; rw [edg, if_neg (fun g => g.2 he)]; rfl
            clear hb he
            go_wp2_with fail
            go_round
            case rel => exact ⟨j + 1, by have := hjn.out; omega, by rw [Int.natCast_add]; rfl, by rw [F.out], fun k hk => by
              by_cases g : k = j
              · subst g; exact HB.out
              · exact hq.out k (by omega)⟩
            case measure =>
              have := hjn.out
              show 64 - ((j : Int) + 1).toNat < 64 - (j : Int).toNat; omega
          · rw [show (v.toNat.testBit j != v.toNat.testBit ((j + 1) % 64)) = true by rw [bne_iff_ne]; exact he] at E
            have F : Hid (edg v.toNat n (j + 1) = edg v.toNat n j + 1) := by
              show _ = _; rw [edg, if_pos ⟨hn, he⟩]
            have hl := edg_le v.toNat n j
            generalize hx : edg v.toNat n j = x at *
            clear hb he
            go_wp2_with fail
            go_round
            case rel => exact ⟨j + 1, by have := hjn.out; omega, by rw [Int.natCast_add]; rfl, by rw [F.out, Int.natCast_add]; rfl, fun k hk => by
              by_cases g : k = j
              · subst g; exact HB.out
              · exact hq.out k (by omega)⟩
            case measure =>
              have := hjn.out
              show 64 - ((j : Int) + 1).toNat < 64 - (j : Int).toNat; omega
        · have F : Hid (edg v.toNat n (j + 1) = edg v.toNat n j) := by
              show _ = _; rw [edg, if_neg (fun g => hn g.1)]; rfl
          clear hb E
          go_wp2_with fail
          go_round
          case rel => exact ⟨j + 1, by have := hjn.out; omega, by rw [Int.natCast_add]; rfl, by rw [F.out], fun k hk => by
            by_cases g : k = j
            · subst g; exact HB.out
            · exact hq.out k (by omega)⟩
          case measure =>
            have := hjn.out
            show 64 - ((j : Int) + 1).toNat < 64 - (j : Int).toNat; omega
      · rw [show (v.toNat.testBit j != v.toNat.testBit ((j + n) % 64)) = true by rw [bne_iff_ne]; exact hb] at A
        have F := Lib.hid (al_no hjn.out hb)
        clear hb
        go_wp2_with fail
        go_ret
        exact ⟨by rw [F.out]; rfl, rfl⟩
    · have HM : Hid (j = 64) := by show j = 64; omega
      have hlt' := Int.not_lt.mp hlt
      clear hlt hj
      go_wp2_with fail
      go_ret
      exact ⟨by
        have := HM.out; subst this
        unfold al; rw [decide_eq_true hq.out, Bool.true_and, int_beq]; rfl, rfl⟩
end Go.Proofs.YthcncbbnjbhdkaaGreatDoor

/- Walks of layer 19: the size of elements of a word, of the code. -/
namespace Go.Proofs.YthcncbbnjbhdkaaGreatDoor
open Go.RowKit
open Cq (U32 U64 I64 ones)
open Lg

set_option maxHeartbeats 1000000 in
theorem sizeOf_any (v : Int) (hv : U64 v) (W : World) : Calls Tryz.prog 94 #[.int .u64 v] W fun e W' => e = .returned (.int .i64 (szO v.toNat : Int)) ∧ W = W' := by
  have hv0 := hv.1
  go_enter Tryz.func94, Tryz.ntmps94
  go_wp2_with fail
  go_step3
  go_wp2_with fail
  go_step3
  go_wp2_with fail
  go_loop [3, 4] (fun z h => 
       z = .int .i64 64 ∧ h = .int .i64 32
     ∨ z = .int .i64 32 ∧ h = .int .i64 16 ∧ Hid (per v.toNat 32 = true)
     ∨ z = .int .i64 16 ∧ h = .int .i64 8 ∧ Hid (per v.toNat 32 = true ∧ per v.toNat 16 = true)
     ∨ z = .int .i64 8 ∧ h = .int .i64 4 ∧ Hid (per v.toNat 32 = true ∧ per v.toNat 16 = true ∧ per v.toNat 8 = true)
     ∨ z = .int .i64 4 ∧ h = .int .i64 2 ∧ Hid (per v.toNat 32 = true ∧ per v.toNat 16 = true ∧ per v.toNat 8 = true ∧ per v.toNat 4 = true)
     ∨ z = .int .i64 2 ∧ h = .int .i64 1 ∧ Hid (per v.toNat 32 = true ∧ per v.toNat 16 = true ∧ per v.toNat 8 = true ∧ per v.toNat 4 = true ∧ per v.toNat 2 = true)) (fun _ h => (intOf h).toNat)
  case atStart => exact Or.inl ⟨rfl, rfl⟩
  case round =>
    rcases hrel with ⟨rfl, rfl⟩ | ⟨rfl, rfl, hp⟩ | ⟨rfl, rfl, hp⟩ | ⟨rfl, rfl, hp⟩ | ⟨rfl, rfl, hp⟩ | ⟨rfl, rfl, hp⟩
    · go_wp2_with fail
      go_loop [5, 13] (fun _ i => ∃ j : Nat, j ≤ 32 ∧ i = .int .i64 j ∧ Hid (∀ k, k < j → v.toNat.testBit k = v.toNat.testBit (k + 32))) (fun _ i => 32 - (intOf i).toNat)
      case atStart => exact ⟨0, by omega, rfl, fun k hk => absurd hk (by omega)⟩
      case round =>
        obtain ⟨j, hj, rfl, hq⟩ := hrel
        by_cases hlt : (j : Int) < 32
        · have hjn : Hid (j < 32) := by show j < 32; omega
          have H := bit_ne hv j (j + 32)
          by_cases hb : v.toNat.testBit j = v.toNat.testBit (j + 32)
          · have HB := Lib.hid hb
            rw [hb, bne_self_eq_false] at H
            clear hb
            go_wp2_with fail
            go_round
            case rel => exact ⟨j + 1, by have := hjn.out; omega, by rw [Int.natCast_add]; rfl, fun k hk => by
              by_cases e : k = j
              · subst e; exact HB.out
              · exact hq.out k (by omega)⟩
            case measure =>
              have := hjn.out
              show 32 - ((j : Int) + 1).toNat < 32 - (j : Int).toNat; omega
          · have hne : (v.toNat.testBit j != v.toNat.testBit (j + 32)) = true := by rw [bne_iff_ne]; exact hb
            rw [hne] at H
            have F : Hid (szO v.toNat = 64) := by
              have Q := per_not hjn.out hb
              show _ = _
              unfold szO; rw [Q]; rfl
            clear hb hne
            go_wp2_with fail
            go_ret
            exact ⟨by rw [F.out]; rfl, rfl⟩
        · have P0 : per v.toNat 32 = true := per_is.2 fun k hk => hq.out k (by omega)
          have P := Lib.hid P0
          have hlt' := Int.not_lt.mp hlt
          clear P0 hlt hj
          go_wp2_with fail
          go_round
          case rel => exact Or.inr (Or.inl ⟨rfl, rfl, P⟩)
          case measure => decide
    · go_wp2_with fail
      go_loop [5, 13] (fun _ i => ∃ j : Nat, j ≤ 16 ∧ i = .int .i64 j ∧ Hid (∀ k, k < j → v.toNat.testBit k = v.toNat.testBit (k + 16))) (fun _ i => 16 - (intOf i).toNat)
      case atStart => exact ⟨0, by omega, rfl, fun k hk => absurd hk (by omega)⟩
      case round =>
        obtain ⟨j, hj, rfl, hq⟩ := hrel
        by_cases hlt : (j : Int) < 16
        · have hjn : Hid (j < 16) := by show j < 16; omega
          have H := bit_ne hv j (j + 16)
          by_cases hb : v.toNat.testBit j = v.toNat.testBit (j + 16)
          · have HB := Lib.hid hb
            rw [hb, bne_self_eq_false] at H
            clear hb
            go_wp2_with fail
            go_round
            case rel => exact ⟨j + 1, by have := hjn.out; omega, by rw [Int.natCast_add]; rfl, fun k hk => by
              by_cases e : k = j
              · subst e; exact HB.out
              · exact hq.out k (by omega)⟩
            case measure =>
              have := hjn.out
              show 16 - ((j : Int) + 1).toNat < 16 - (j : Int).toNat; omega
          · have hne : (v.toNat.testBit j != v.toNat.testBit (j + 16)) = true := by rw [bne_iff_ne]; exact hb
            rw [hne] at H
            have F : Hid (szO v.toNat = 32) := by
              have Q := per_not hjn.out hb
              have p0 := hp.out; show _ = _
              unfold szO; rw [p0, Q]; rfl
            clear hb hne
            go_wp2_with fail
            go_ret
            exact ⟨by rw [F.out]; rfl, rfl⟩
        · have P0 : per v.toNat 16 = true := per_is.2 fun k hk => hq.out k (by omega)
          have P := Lib.hid P0
          have hlt' := Int.not_lt.mp hlt
          clear P0 hlt hj
          go_wp2_with fail
          go_round
          case rel => have p0 := hp.out; exact Or.inr (Or.inr (Or.inl ⟨rfl, rfl, ⟨p0, P.out⟩⟩))
          case measure => decide
    · go_wp2_with fail
      go_loop [5, 13] (fun _ i => ∃ j : Nat, j ≤ 8 ∧ i = .int .i64 j ∧ Hid (∀ k, k < j → v.toNat.testBit k = v.toNat.testBit (k + 8))) (fun _ i => 8 - (intOf i).toNat)
      case atStart => exact ⟨0, by omega, rfl, fun k hk => absurd hk (by omega)⟩
      case round =>
        obtain ⟨j, hj, rfl, hq⟩ := hrel
        by_cases hlt : (j : Int) < 8
        · have hjn : Hid (j < 8) := by show j < 8; omega
          have H := bit_ne hv j (j + 8)
          by_cases hb : v.toNat.testBit j = v.toNat.testBit (j + 8)
          · have HB := Lib.hid hb
            rw [hb, bne_self_eq_false] at H
            clear hb
            go_wp2_with fail
            go_round
            case rel => exact ⟨j + 1, by have := hjn.out; omega, by rw [Int.natCast_add]; rfl, fun k hk => by
              by_cases e : k = j
              · subst e; exact HB.out
              · exact hq.out k (by omega)⟩
            case measure =>
              have := hjn.out
              show 8 - ((j : Int) + 1).toNat < 8 - (j : Int).toNat; omega
          · have hne : (v.toNat.testBit j != v.toNat.testBit (j + 8)) = true := by rw [bne_iff_ne]; exact hb
            rw [hne] at H
            have F : Hid (szO v.toNat = 16) := by
              have Q := per_not hjn.out hb
              have ⟨p0, p1⟩ := hp.out; show _ = _
              unfold szO; rw [p0, p1, Q]; rfl
            clear hb hne
            go_wp2_with fail
            go_ret
            exact ⟨by rw [F.out]; rfl, rfl⟩
        · have P0 : per v.toNat 8 = true := per_is.2 fun k hk => hq.out k (by omega)
          have P := Lib.hid P0
          have hlt' := Int.not_lt.mp hlt
          clear P0 hlt hj
          go_wp2_with fail
          go_round
          case rel => have ⟨p0, p1⟩ := hp.out; exact Or.inr (Or.inr (Or.inr (Or.inl ⟨rfl, rfl, ⟨p0, p1, P.out⟩⟩)))
          case measure => decide
    · go_wp2_with fail
      go_loop [5, 13] (fun _ i => ∃ j : Nat, j ≤ 4 ∧ i = .int .i64 j ∧ Hid (∀ k, k < j → v.toNat.testBit k = v.toNat.testBit (k + 4))) (fun _ i => 4 - (intOf i).toNat)
      case atStart => exact ⟨0, by omega, rfl, fun k hk => absurd hk (by omega)⟩
      case round =>
        obtain ⟨j, hj, rfl, hq⟩ := hrel
        by_cases hlt : (j : Int) < 4
        · have hjn : Hid (j < 4) := by show j < 4; omega
          have H := bit_ne hv j (j + 4)
          by_cases hb : v.toNat.testBit j = v.toNat.testBit (j + 4)
          · have HB := Lib.hid hb
            rw [hb, bne_self_eq_false] at H
            clear hb
            go_wp2_with fail
            go_round
            case rel => exact ⟨j + 1, by have := hjn.out; omega, by rw [Int.natCast_add]; rfl, fun k hk => by
              by_cases e : k = j
              · subst e; exact HB.out
              · exact hq.out k (by omega)⟩
            case measure =>
              have := hjn.out
              show 4 - ((j : Int) + 1).toNat < 4 - (j : Int).toNat; omega
          · have hne : (v.toNat.testBit j != v.toNat.testBit (j + 4)) = true := by rw [bne_iff_ne]; exact hb
            rw [hne] at H
            have F : Hid (szO v.toNat = 8) := by
              have Q := per_not hjn.out hb
              have ⟨p0, p1, p2⟩ := hp.out; show _ = _
              unfold szO; rw [p0, p1, p2, Q]; rfl
            clear hb hne
            go_wp2_with fail
            go_ret
            exact ⟨by rw [F.out]; rfl, rfl⟩
        · have P0 : per v.toNat 4 = true := per_is.2 fun k hk => hq.out k (by omega)
          have P := Lib.hid P0
          have hlt' := Int.not_lt.mp hlt
          clear P0 hlt hj
          go_wp2_with fail
          go_round
          case rel => have ⟨p0, p1, p2⟩ := hp.out; exact Or.inr (Or.inr (Or.inr (Or.inr (Or.inl ⟨rfl, rfl, ⟨p0, p1, p2, P.out⟩⟩))))
          case measure => decide
    · go_wp2_with fail
      go_loop [5, 13] (fun _ i => ∃ j : Nat, j ≤ 2 ∧ i = .int .i64 j ∧ Hid (∀ k, k < j → v.toNat.testBit k = v.toNat.testBit (k + 2))) (fun _ i => 2 - (intOf i).toNat)
      case atStart => exact ⟨0, by omega, rfl, fun k hk => absurd hk (by omega)⟩
      case round =>
        obtain ⟨j, hj, rfl, hq⟩ := hrel
        by_cases hlt : (j : Int) < 2
        · have hjn : Hid (j < 2) := by show j < 2; omega
          have H := bit_ne hv j (j + 2)
          by_cases hb : v.toNat.testBit j = v.toNat.testBit (j + 2)
          · have HB := Lib.hid hb
            rw [hb, bne_self_eq_false] at H
            clear hb
            go_wp2_with fail
            go_round
            case rel => exact ⟨j + 1, by have := hjn.out; omega, by rw [Int.natCast_add]; rfl, fun k hk => by
              by_cases e : k = j
              · subst e; exact HB.out
              · exact hq.out k (by omega)⟩
            case measure =>
              have := hjn.out
              show 2 - ((j : Int) + 1).toNat < 2 - (j : Int).toNat; omega
          · have hne : (v.toNat.testBit j != v.toNat.testBit (j + 2)) = true := by rw [bne_iff_ne]; exact hb
            rw [hne] at H
            have F : Hid (szO v.toNat = 4) := by
              have Q := per_not hjn.out hb
              have ⟨p0, p1, p2, p3⟩ := hp.out; show _ = _
              unfold szO; rw [p0, p1, p2, p3, Q]; rfl
            clear hb hne
            go_wp2_with fail
            go_ret
            exact ⟨by rw [F.out]; rfl, rfl⟩
        · have P0 : per v.toNat 2 = true := per_is.2 fun k hk => hq.out k (by omega)
          have P := Lib.hid P0
          have hlt' := Int.not_lt.mp hlt
          clear P0 hlt hj
          go_wp2_with fail
          go_round
          case rel => have ⟨p0, p1, p2, p3⟩ := hp.out; exact Or.inr (Or.inr (Or.inr (Or.inr (Or.inr (⟨rfl, rfl, ⟨p0, p1, p2, p3, P.out⟩⟩)))))
          case measure => decide
    · have F : Hid (szO v.toNat = 2) := by
        have ⟨p0, p1, p2, p3, p4⟩ := hp.out; show _ = _
        unfold szO; rw [p0, p1, p2, p3, p4]; rfl
      go_wp2_with fail
      go_ret
      exact ⟨by rw [F.out]; rfl, rfl⟩
end Go.Proofs.YthcncbbnjbhdkaaGreatDoor

/- Walks of layer 19: thirteen bits put together, of the code. -/
namespace Lg
open Go
open Cq
/-- the thirteen bits of elements of n bits, q + 1 ones, turned by t -/
def code (n q t : Nat) : Nat := (if n = 64 then 4096 else 64 - 2 * n) + 64 * t + q
theorem xor2 : bits .xor .u32 IntKind.u32.max 3 = 4294967292 := by decide +kernel
theorem fld2 : field 4294967292 0 6 = 60 := by decide +kernel
theorem or2 : ∀ q : Nat, q < 1 → bits .or .u32 (q : Int) 60 = ((60 + q : Nat) : Int) := by decide +kernel
theorem with2 : ∀ q : Nat, q < 1 → ∀ t : Nat, t < 2 → withF ((60 + q : Nat) : Int) 6 6 (t : Int) = (code 2 q t : Int) := by decide +kernel
theorem xor4 : bits .xor .u32 IntKind.u32.max 7 = 4294967288 := by decide +kernel
theorem fld4 : field 4294967288 0 6 = 56 := by decide +kernel
theorem or4 : ∀ q : Nat, q < 3 → bits .or .u32 (q : Int) 56 = ((56 + q : Nat) : Int) := by decide +kernel
theorem with4 : ∀ q : Nat, q < 3 → ∀ t : Nat, t < 4 → withF ((56 + q : Nat) : Int) 6 6 (t : Int) = (code 4 q t : Int) := by decide +kernel
theorem xor8 : bits .xor .u32 IntKind.u32.max 15 = 4294967280 := by decide +kernel
theorem fld8 : field 4294967280 0 6 = 48 := by decide +kernel
theorem or8 : ∀ q : Nat, q < 7 → bits .or .u32 (q : Int) 48 = ((48 + q : Nat) : Int) := by decide +kernel
theorem with8 : ∀ q : Nat, q < 7 → ∀ t : Nat, t < 8 → withF ((48 + q : Nat) : Int) 6 6 (t : Int) = (code 8 q t : Int) := by decide +kernel
theorem xor16 : bits .xor .u32 IntKind.u32.max 31 = 4294967264 := by decide +kernel
theorem fld16 : field 4294967264 0 6 = 32 := by decide +kernel
theorem or16 : ∀ q : Nat, q < 15 → bits .or .u32 (q : Int) 32 = ((32 + q : Nat) : Int) := by decide +kernel
theorem with16 : ∀ q : Nat, q < 15 → ∀ t : Nat, t < 16 → withF ((32 + q : Nat) : Int) 6 6 (t : Int) = (code 16 q t : Int) := by decide +kernel
theorem xor32 : bits .xor .u32 IntKind.u32.max 63 = 4294967232 := by decide +kernel
theorem fld32 : field 4294967232 0 6 = 0 := by decide +kernel
theorem or32 : ∀ q : Nat, q < 31 → bits .or .u32 (q : Int) 0 = ((0 + q : Nat) : Int) := by decide +kernel
theorem with32 : ∀ q : Nat, q < 31 → ∀ t : Nat, t < 32 → withF ((0 + q : Nat) : Int) 6 6 (t : Int) = (code 32 q t : Int) := by decide +kernel
theorem top64 : ∀ q : Nat, q < 63 → withF (q : Int) 12 1 1 = 4096 + (q : Int) := by decide +kernel
theorem with64 : ∀ q : Nat, q < 63 → ∀ t : Nat, t < 64 → withF (4096 + (q : Int)) 6 6 (t : Int) = (code 64 q t : Int) := by decide +kernel
end Lg
namespace Go.Proofs.YthcncbbnjbhdkaaGreatDoor
open Go.RowKit
open Cq (U32 U64 I64 inF field withF onesF fieldN withN ones fitsU)
open Lg

theorem joined2 (q t : Nat) (hq : q < 1) (ht : t < 2) (W : World) : Calls Tryz.prog 97 #[.int .i64 2, .int .i64 ((q : Int) + 1), .int .i64 t] W
    fun e W' => e = .returned (.int .u32 (code 2 q t : Int)) ∧ W = W' := by
  have F0 := Lib.hid xor2
  have F1 := Lib.hid fld2
  have F2 := Lib.hid (or2 q hq)
  have F3 := Lib.hid (with2 q hq t ht)
  have hq0 : (0 : Int) ≤ q := by omega
  have hq1 : (q : Int) < 1 := by omega
  have ht0 : (0 : Int) ≤ t := by omega
  have ht1 : (t : Int) < 2 := by omega
  clear hq ht
  go_enter Tryz.func97, Tryz.ntmps97
  go_wp2_with fail
  rw [F0.out]
  refine (field_any _ _ _ (by unfold U32; omega) (by unfold I64; omega) (by unfold I64; omega) _).mono ?_; rintro e w' ⟨rfl, rfl⟩
  rw [F1.out]
  go_wp2_with fail
  rw [F2.out]
  refine (with_any _ _ _ _ (by unfold U32; omega) (by unfold U32; omega) (by unfold I64; omega) (by unfold I64; omega) _).mono ?_; rintro e w' ⟨rfl, rfl⟩
  rw [F3.out]
  go_wp2_with fail
  go_ret
  exact ⟨rfl, rfl⟩
theorem joined4 (q t : Nat) (hq : q < 3) (ht : t < 4) (W : World) : Calls Tryz.prog 97 #[.int .i64 4, .int .i64 ((q : Int) + 1), .int .i64 t] W
    fun e W' => e = .returned (.int .u32 (code 4 q t : Int)) ∧ W = W' := by
  have F0 := Lib.hid xor4
  have F1 := Lib.hid fld4
  have F2 := Lib.hid (or4 q hq)
  have F3 := Lib.hid (with4 q hq t ht)
  have hq0 : (0 : Int) ≤ q := by omega
  have hq1 : (q : Int) < 3 := by omega
  have ht0 : (0 : Int) ≤ t := by omega
  have ht1 : (t : Int) < 4 := by omega
  clear hq ht
  go_enter Tryz.func97, Tryz.ntmps97
  go_wp2_with fail
  rw [F0.out]
  refine (field_any _ _ _ (by unfold U32; omega) (by unfold I64; omega) (by unfold I64; omega) _).mono ?_; rintro e w' ⟨rfl, rfl⟩
  rw [F1.out]
  go_wp2_with fail
  rw [F2.out]
  refine (with_any _ _ _ _ (by unfold U32; omega) (by unfold U32; omega) (by unfold I64; omega) (by unfold I64; omega) _).mono ?_; rintro e w' ⟨rfl, rfl⟩
  rw [F3.out]
  go_wp2_with fail
  go_ret
  exact ⟨rfl, rfl⟩
theorem joined8 (q t : Nat) (hq : q < 7) (ht : t < 8) (W : World) : Calls Tryz.prog 97 #[.int .i64 8, .int .i64 ((q : Int) + 1), .int .i64 t] W
    fun e W' => e = .returned (.int .u32 (code 8 q t : Int)) ∧ W = W' := by
  have F0 := Lib.hid xor8
  have F1 := Lib.hid fld8
  have F2 := Lib.hid (or8 q hq)
  have F3 := Lib.hid (with8 q hq t ht)
  have hq0 : (0 : Int) ≤ q := by omega
  have hq1 : (q : Int) < 7 := by omega
  have ht0 : (0 : Int) ≤ t := by omega
  have ht1 : (t : Int) < 8 := by omega
  clear hq ht
  go_enter Tryz.func97, Tryz.ntmps97
  go_wp2_with fail
  rw [F0.out]
  refine (field_any _ _ _ (by unfold U32; omega) (by unfold I64; omega) (by unfold I64; omega) _).mono ?_; rintro e w' ⟨rfl, rfl⟩
  rw [F1.out]
  go_wp2_with fail
  rw [F2.out]
  refine (with_any _ _ _ _ (by unfold U32; omega) (by unfold U32; omega) (by unfold I64; omega) (by unfold I64; omega) _).mono ?_; rintro e w' ⟨rfl, rfl⟩
  rw [F3.out]
  go_wp2_with fail
  go_ret
  exact ⟨rfl, rfl⟩
theorem joined16 (q t : Nat) (hq : q < 15) (ht : t < 16) (W : World) : Calls Tryz.prog 97 #[.int .i64 16, .int .i64 ((q : Int) + 1), .int .i64 t] W
    fun e W' => e = .returned (.int .u32 (code 16 q t : Int)) ∧ W = W' := by
  have F0 := Lib.hid xor16
  have F1 := Lib.hid fld16
  have F2 := Lib.hid (or16 q hq)
  have F3 := Lib.hid (with16 q hq t ht)
  have hq0 : (0 : Int) ≤ q := by omega
  have hq1 : (q : Int) < 15 := by omega
  have ht0 : (0 : Int) ≤ t := by omega
  have ht1 : (t : Int) < 16 := by omega
  clear hq ht
  go_enter Tryz.func97, Tryz.ntmps97
  go_wp2_with fail
  rw [F0.out]
  refine (field_any _ _ _ (by unfold U32; omega) (by unfold I64; omega) (by unfold I64; omega) _).mono ?_; rintro e w' ⟨rfl, rfl⟩
  rw [F1.out]
  go_wp2_with fail
  rw [F2.out]
  refine (with_any _ _ _ _ (by unfold U32; omega) (by unfold U32; omega) (by unfold I64; omega) (by unfold I64; omega) _).mono ?_; rintro e w' ⟨rfl, rfl⟩
  rw [F3.out]
  go_wp2_with fail
  go_ret
  exact ⟨rfl, rfl⟩
theorem joined32 (q t : Nat) (hq : q < 31) (ht : t < 32) (W : World) : Calls Tryz.prog 97 #[.int .i64 32, .int .i64 ((q : Int) + 1), .int .i64 t] W
    fun e W' => e = .returned (.int .u32 (code 32 q t : Int)) ∧ W = W' := by
  have F0 := Lib.hid xor32
  have F1 := Lib.hid fld32
  have F2 := Lib.hid (or32 q hq)
  have F3 := Lib.hid (with32 q hq t ht)
  have hq0 : (0 : Int) ≤ q := by omega
  have hq1 : (q : Int) < 31 := by omega
  have ht0 : (0 : Int) ≤ t := by omega
  have ht1 : (t : Int) < 32 := by omega
  clear hq ht
  go_enter Tryz.func97, Tryz.ntmps97
  go_wp2_with fail
  rw [F0.out]
  refine (field_any _ _ _ (by unfold U32; omega) (by unfold I64; omega) (by unfold I64; omega) _).mono ?_; rintro e w' ⟨rfl, rfl⟩
  rw [F1.out]
  go_wp2_with fail
  rw [F2.out]
  refine (with_any _ _ _ _ (by unfold U32; omega) (by unfold U32; omega) (by unfold I64; omega) (by unfold I64; omega) _).mono ?_; rintro e w' ⟨rfl, rfl⟩
  rw [F3.out]
  go_wp2_with fail
  go_ret
  exact ⟨rfl, rfl⟩
theorem joined64 (q t : Nat) (hq : q < 63) (ht : t < 64) (W : World) : Calls Tryz.prog 97 #[.int .i64 64, .int .i64 ((q : Int) + 1), .int .i64 t] W
    fun e W' => e = .returned (.int .u32 (code 64 q t : Int)) ∧ W = W' := by
  have F2 := Lib.hid (top64 q hq)
  have F3 := Lib.hid (with64 q hq t ht)
  have hq0 : (0 : Int) ≤ q := by omega
  have hq1 : (q : Int) < 63 := by omega
  have ht0 : (0 : Int) ≤ t := by omega
  have ht1 : (t : Int) < 64 := by omega
  clear hq ht
  go_enter Tryz.func97, Tryz.ntmps97
  go_wp2_with fail
  refine (with_any _ _ _ _ (by unfold U32; omega) (by unfold U32; omega) (by unfold I64; omega) (by unfold I64; omega) _).mono ?_; rintro e w' ⟨rfl, rfl⟩
  rw [F2.out]
  go_wp2_with fail
  refine (with_any _ _ _ _ (by unfold U32; omega) (by unfold U32; omega) (by unfold I64; omega) (by unfold I64; omega) _).mono ?_; rintro e w' ⟨rfl, rfl⟩
  rw [F3.out]
  go_wp2_with fail
  go_ret
  exact ⟨rfl, rfl⟩
theorem joined_any (n q t : Nat) (hs : isSz (n : Int) = true) (hq : q + 1 < n) (ht : t < n) (W : World) : Calls Tryz.prog 97 #[.int .i64 n, .int .i64 ((q : Int) + 1), .int .i64 t] W
    fun e W' => e = .returned (.int .u32 (code n q t : Int)) ∧ W = W' := by
  rcases isSz_cases hs with h | h | h | h | h | h
  · obtain rfl : n = 2 := by omega
    exact joined2 q t (by omega) ht W
  · obtain rfl : n = 4 := by omega
    exact joined4 q t (by omega) ht W
  · obtain rfl : n = 8 := by omega
    exact joined8 q t (by omega) ht W
  · obtain rfl : n = 16 := by omega
    exact joined16 q t (by omega) ht W
  · obtain rfl : n = 32 := by omega
    exact joined32 q t (by omega) ht W
  · obtain rfl : n = 64 := by omega
    exact joined64 q t (by omega) ht W
end Go.Proofs.YthcncbbnjbhdkaaGreatDoor

/- Walks of layer 19: thirteen bits of a word, of the code. -/
namespace Lg
open Go
open Cq
/-- how many ones each element has, if all are alike -/
def cnt (v : Int) : Nat := ones v / (64 / szO v.toNat)
/-- what Encode answers of v -/
def Enc (v : Int) (c : Int) (ok : Bool) : Prop :=
  (c = 0 ∧ ok = false ∧ (v = 0 ∨ v ≠ 0 ∧ ∀ t : Nat, t < szO v.toNat → TW (szO v.toNat) (cnt v) t ≠ v))
  ∨ (v ≠ 0 ∧ ok = true ∧ ∃ t : Nat, t < szO v.toNat ∧ TW (szO v.toNat) (cnt v) t = v ∧ (∀ k : Nat, k < t → TW (szO v.toNat) (cnt v) k ≠ v) ∧ c = (code (szO v.toNat) (cnt v - 1) t : Int))
/-- how Encode ends -/
def EncE (v : Int) (e : Ending) : Prop := ∃ c ok, e = .returned (.tuple #[.int .u32 c, .bool ok]) ∧ Enc v c ok
theorem EncE.mk {v c : Int} {ok : Bool} {e : Ending} (he : e = .returned (.tuple #[.int .u32 c, .bool ok])) (h : Enc v c ok) : EncE v e := ⟨c, ok, he, h⟩
theorem cnt_le (v : Int) : cnt v ≤ 64 := by
  unfold cnt; exact Nat.le_trans (Nat.div_le_self _ _) (ones_le v)
end Lg
namespace Go.Proofs.YthcncbbnjbhdkaaGreatDoor
open Go.RowKit
open Cq (U32 U64 I64 ones)
open Lg

set_option maxHeartbeats 4000000 in
theorem encode_any (v : Int) (hv : U64 v) (W : World) : Calls Tryz.prog 45 #[.int .u64 v] W
    fun e W' => EncE v e ∧ Drawn W W' := by
  by_cases h0 : v = 0
  · subst h0
    go_enter Tryz.func45, Tryz.ntmps45
    go_wp2_with fail
    go_ret2
    exact ⟨EncE.mk (c := 0) (ok := false) rfl (Or.inl ⟨rfl, rfl, Or.inl rfl⟩), Drawn.refl _⟩
  · have H0 := Lib.hid h0
    have hne : (v == 0) = false := by simpa using h0
    clear h0
    have hsz := Lib.hid (szO_is v.toNat)
    have hol := Cq.ones_le v
    have HC := Lib.hid (show cnt v = ones v / (64 / szO v.toNat) from rfl)
    obtain ⟨n, hn⟩ : ∃ n, szO v.toNat = n := ⟨_, rfl⟩
    have HN := Lib.hid hn
    obtain ⟨p, hp⟩ : ∃ p, ones v = p := ⟨_, rfl⟩
    have HP := Lib.hid hp
    have hp0 : (0 : Int) ≤ p := by omega
    have hp1 : (p : Int) ≤ 64 := by omega
    clear hol
    rw [hn] at hsz HC
    rw [hp] at HC
    clear hn hp
    rcases hsz.out with rfl | rfl | rfl | rfl | rfl | rfl
    · have EC : Hid (wrap64 ((ones v : Int) / 32) = (cnt v : Int)) := by
        have a := HC.out; have b := HP.out
        show _ = _
        rw [IntWalk.wrap64_in _ (by omega)]; omega
      have HM := Lib.hid (cnt_le v)
      generalize hm : cnt v = m at *
      have HMM := Lib.hid hm
      clear hm
      go_enter Tryz.func45, Tryz.ntmps45
      go_wp2_with fail
      refine (sizeOf_any _ hv _).mono ?_; rintro e w' ⟨rfl, rfl⟩
      rw [HN.out]
      go_wp2_with fail
      go_quiet ((go_at_call 95; exact quiet_left (ones_any v hv _)))
      rw [EC.out]
      go_wp2_with fail
      go_loop [6, 17] (fun _ i => ∃ j : Nat, j ≤ 2 ∧ i = .int .i64 j ∧ Hid (∀ k : Nat, k < j → TW 2 m k ≠ v)) (fun _ i => 2 - (intOf i).toNat)
      case atStart => exact ⟨0, by omega, rfl, fun k hk => absurd hk (by omega)⟩
      case round =>
        obtain ⟨j, hj, rfl, hq⟩ := hrel
        by_cases hlt : (j : Int) < 2
        · have hjn : Hid (j < 2) := by show j < 2; omega
          by_cases hb : TW 2 m j = v
          · have hok : okT 2 m j = true := by
              cases g : okT 2 m j
              · rw [TW_zero g] at hb; exact absurd hb.symm H0.out
              · rfl
            have ⟨_, o1, o2, _, _⟩ := okT_is hok
            obtain ⟨q, rfl⟩ : ∃ q, m = q + 1 := ⟨m - 1, by omega⟩
            have HB := Lib.hid hb
            have q1 : (q : Int) < 1 := by omega
            have q0 : (0 : Int) ≤ q := by omega
            have HE : Hid (Enc v (code 2 q j : Int) true) := by
              refine Or.inr ⟨H0.out, rfl, j, ?_⟩
              rw [HN.out, HMM.out]
              exact ⟨hjn.out, hb, hq.out, rfl⟩
            have hb' : (TW 2 ((q : Int) + 1) j == v) = true := by rw [beq_iff_eq]; exact hb
            clear hok o1 o2 hb hj
            go_wp2_with fail
            refine (turned_any _ _ _ (by unfold I64; omega) (by unfold I64; omega) (by unfold I64; omega) _).mono ?_; rintro e w' ⟨rfl, rfl⟩
            go_wp2_with fail
            refine (joined_any 2 q j rfl (by have := HM.out; omega) hjn.out _).mono ?_; rintro e w' ⟨rfl, rfl⟩
            go_wp2_with fail
            go_ret2
            exact ⟨EncE.mk rfl HE.out, Drawn.drewN (Drawn.refl _) _⟩
          · have HB := Lib.hid hb
            have hb' : (TW 2 m j == v) = false := by simpa using hb
            have HM' := HM.out
            clear hb
            go_wp2_with fail
            refine (turned_any _ _ _ (by unfold I64; omega) (by unfold I64; omega) (by unfold I64; omega) _).mono ?_; rintro e w' ⟨rfl, rfl⟩
            go_wp2_with fail
            go_round
            case rel => exact ⟨j + 1, by have := hjn.out; omega, by rw [Int.natCast_add]; rfl, fun k hk => by
              by_cases e : k = j
              · subst e; exact HB.out
              · exact hq.out k (by omega)⟩
            case measure =>
              have := hjn.out
              show 2 - ((j : Int) + 1).toNat < 2 - (j : Int).toNat; omega
        · have HE : Hid (Enc v 0 false) := by
            refine Or.inl ⟨rfl, rfl, Or.inr ⟨H0.out, ?_⟩⟩
            rw [HN.out, HMM.out]
            exact fun t ht => hq.out t (by omega)
          have hlt' := Int.not_lt.mp hlt
          clear hlt hj
          go_wp2_with fail
          go_ret2
          exact ⟨EncE.mk rfl HE.out, Drawn.drewN (Drawn.refl _) _⟩
    · have EC : Hid (wrap64 ((ones v : Int) / 16) = (cnt v : Int)) := by
        have a := HC.out; have b := HP.out
        show _ = _
        rw [IntWalk.wrap64_in _ (by omega)]; omega
      have HM := Lib.hid (cnt_le v)
      generalize hm : cnt v = m at *
      have HMM := Lib.hid hm
      clear hm
      go_enter Tryz.func45, Tryz.ntmps45
      go_wp2_with fail
      refine (sizeOf_any _ hv _).mono ?_; rintro e w' ⟨rfl, rfl⟩
      rw [HN.out]
      go_wp2_with fail
      go_quiet ((go_at_call 95; exact quiet_left (ones_any v hv _)))
      rw [EC.out]
      go_wp2_with fail
      go_loop [6, 17] (fun _ i => ∃ j : Nat, j ≤ 4 ∧ i = .int .i64 j ∧ Hid (∀ k : Nat, k < j → TW 4 m k ≠ v)) (fun _ i => 4 - (intOf i).toNat)
      case atStart => exact ⟨0, by omega, rfl, fun k hk => absurd hk (by omega)⟩
      case round =>
        obtain ⟨j, hj, rfl, hq⟩ := hrel
        by_cases hlt : (j : Int) < 4
        · have hjn : Hid (j < 4) := by show j < 4; omega
          by_cases hb : TW 4 m j = v
          · have hok : okT 4 m j = true := by
              cases g : okT 4 m j
              · rw [TW_zero g] at hb; exact absurd hb.symm H0.out
              · rfl
            have ⟨_, o1, o2, _, _⟩ := okT_is hok
            obtain ⟨q, rfl⟩ : ∃ q, m = q + 1 := ⟨m - 1, by omega⟩
            have HB := Lib.hid hb
            have q1 : (q : Int) < 3 := by omega
            have q0 : (0 : Int) ≤ q := by omega
            have HE : Hid (Enc v (code 4 q j : Int) true) := by
              refine Or.inr ⟨H0.out, rfl, j, ?_⟩
              rw [HN.out, HMM.out]
              exact ⟨hjn.out, hb, hq.out, rfl⟩
            have hb' : (TW 4 ((q : Int) + 1) j == v) = true := by rw [beq_iff_eq]; exact hb
            clear hok o1 o2 hb hj
            go_wp2_with fail
            refine (turned_any _ _ _ (by unfold I64; omega) (by unfold I64; omega) (by unfold I64; omega) _).mono ?_; rintro e w' ⟨rfl, rfl⟩
            go_wp2_with fail
            refine (joined_any 4 q j rfl (by have := HM.out; omega) hjn.out _).mono ?_; rintro e w' ⟨rfl, rfl⟩
            go_wp2_with fail
            go_ret2
            exact ⟨EncE.mk rfl HE.out, Drawn.drewN (Drawn.refl _) _⟩
          · have HB := Lib.hid hb
            have hb' : (TW 4 m j == v) = false := by simpa using hb
            have HM' := HM.out
            clear hb
            go_wp2_with fail
            refine (turned_any _ _ _ (by unfold I64; omega) (by unfold I64; omega) (by unfold I64; omega) _).mono ?_; rintro e w' ⟨rfl, rfl⟩
            go_wp2_with fail
            go_round
            case rel => exact ⟨j + 1, by have := hjn.out; omega, by rw [Int.natCast_add]; rfl, fun k hk => by
              by_cases e : k = j
              · subst e; exact HB.out
              · exact hq.out k (by omega)⟩
            case measure =>
              have := hjn.out
              show 4 - ((j : Int) + 1).toNat < 4 - (j : Int).toNat; omega
        · have HE : Hid (Enc v 0 false) := by
            refine Or.inl ⟨rfl, rfl, Or.inr ⟨H0.out, ?_⟩⟩
            rw [HN.out, HMM.out]
            exact fun t ht => hq.out t (by omega)
          have hlt' := Int.not_lt.mp hlt
          clear hlt hj
          go_wp2_with fail
          go_ret2
          exact ⟨EncE.mk rfl HE.out, Drawn.drewN (Drawn.refl _) _⟩
    · have EC : Hid (wrap64 ((ones v : Int) / 8) = (cnt v : Int)) := by
        have a := HC.out; have b := HP.out
        show _ = _
        rw [IntWalk.wrap64_in _ (by omega)]; omega
      have HM := Lib.hid (cnt_le v)
      generalize hm : cnt v = m at *
      have HMM := Lib.hid hm
      clear hm
      go_enter Tryz.func45, Tryz.ntmps45
      go_wp2_with fail
      refine (sizeOf_any _ hv _).mono ?_; rintro e w' ⟨rfl, rfl⟩
      rw [HN.out]
      go_wp2_with fail
      go_quiet ((go_at_call 95; exact quiet_left (ones_any v hv _)))
      rw [EC.out]
      go_wp2_with fail
      go_loop [6, 17] (fun _ i => ∃ j : Nat, j ≤ 8 ∧ i = .int .i64 j ∧ Hid (∀ k : Nat, k < j → TW 8 m k ≠ v)) (fun _ i => 8 - (intOf i).toNat)
      case atStart => exact ⟨0, by omega, rfl, fun k hk => absurd hk (by omega)⟩
      case round =>
        obtain ⟨j, hj, rfl, hq⟩ := hrel
        by_cases hlt : (j : Int) < 8
        · have hjn : Hid (j < 8) := by show j < 8; omega
          by_cases hb : TW 8 m j = v
          · have hok : okT 8 m j = true := by
              cases g : okT 8 m j
              · rw [TW_zero g] at hb; exact absurd hb.symm H0.out
              · rfl
            have ⟨_, o1, o2, _, _⟩ := okT_is hok
            obtain ⟨q, rfl⟩ : ∃ q, m = q + 1 := ⟨m - 1, by omega⟩
            have HB := Lib.hid hb
            have q1 : (q : Int) < 7 := by omega
            have q0 : (0 : Int) ≤ q := by omega
            have HE : Hid (Enc v (code 8 q j : Int) true) := by
              refine Or.inr ⟨H0.out, rfl, j, ?_⟩
              rw [HN.out, HMM.out]
              exact ⟨hjn.out, hb, hq.out, rfl⟩
            have hb' : (TW 8 ((q : Int) + 1) j == v) = true := by rw [beq_iff_eq]; exact hb
            clear hok o1 o2 hb hj
            go_wp2_with fail
            refine (turned_any _ _ _ (by unfold I64; omega) (by unfold I64; omega) (by unfold I64; omega) _).mono ?_; rintro e w' ⟨rfl, rfl⟩
            go_wp2_with fail
            refine (joined_any 8 q j rfl (by have := HM.out; omega) hjn.out _).mono ?_; rintro e w' ⟨rfl, rfl⟩
            go_wp2_with fail
            go_ret2
            exact ⟨EncE.mk rfl HE.out, Drawn.drewN (Drawn.refl _) _⟩
          · have HB := Lib.hid hb
            have hb' : (TW 8 m j == v) = false := by simpa using hb
            have HM' := HM.out
            clear hb
            go_wp2_with fail
            refine (turned_any _ _ _ (by unfold I64; omega) (by unfold I64; omega) (by unfold I64; omega) _).mono ?_; rintro e w' ⟨rfl, rfl⟩
            go_wp2_with fail
            go_round
            case rel => exact ⟨j + 1, by have := hjn.out; omega, by rw [Int.natCast_add]; rfl, fun k hk => by
              by_cases e : k = j
              · subst e; exact HB.out
              · exact hq.out k (by omega)⟩
            case measure =>
              have := hjn.out
              show 8 - ((j : Int) + 1).toNat < 8 - (j : Int).toNat; omega
        · have HE : Hid (Enc v 0 false) := by
            refine Or.inl ⟨rfl, rfl, Or.inr ⟨H0.out, ?_⟩⟩
            rw [HN.out, HMM.out]
            exact fun t ht => hq.out t (by omega)
          have hlt' := Int.not_lt.mp hlt
          clear hlt hj
          go_wp2_with fail
          go_ret2
          exact ⟨EncE.mk rfl HE.out, Drawn.drewN (Drawn.refl _) _⟩
    · have EC : Hid (wrap64 ((ones v : Int) / 4) = (cnt v : Int)) := by
        have a := HC.out; have b := HP.out
        show _ = _
        rw [IntWalk.wrap64_in _ (by omega)]; omega
      have HM := Lib.hid (cnt_le v)
      generalize hm : cnt v = m at *
      have HMM := Lib.hid hm
      clear hm
      go_enter Tryz.func45, Tryz.ntmps45
      go_wp2_with fail
      refine (sizeOf_any _ hv _).mono ?_; rintro e w' ⟨rfl, rfl⟩
      rw [HN.out]
      go_wp2_with fail
      go_quiet ((go_at_call 95; exact quiet_left (ones_any v hv _)))
      rw [EC.out]
      go_wp2_with fail
      go_loop [6, 17] (fun _ i => ∃ j : Nat, j ≤ 16 ∧ i = .int .i64 j ∧ Hid (∀ k : Nat, k < j → TW 16 m k ≠ v)) (fun _ i => 16 - (intOf i).toNat)
      case atStart => exact ⟨0, by omega, rfl, fun k hk => absurd hk (by omega)⟩
      case round =>
        obtain ⟨j, hj, rfl, hq⟩ := hrel
        by_cases hlt : (j : Int) < 16
        · have hjn : Hid (j < 16) := by show j < 16; omega
          by_cases hb : TW 16 m j = v
          · have hok : okT 16 m j = true := by
              cases g : okT 16 m j
              · rw [TW_zero g] at hb; exact absurd hb.symm H0.out
              · rfl
            have ⟨_, o1, o2, _, _⟩ := okT_is hok
            obtain ⟨q, rfl⟩ : ∃ q, m = q + 1 := ⟨m - 1, by omega⟩
            have HB := Lib.hid hb
            have q1 : (q : Int) < 15 := by omega
            have q0 : (0 : Int) ≤ q := by omega
            have HE : Hid (Enc v (code 16 q j : Int) true) := by
              refine Or.inr ⟨H0.out, rfl, j, ?_⟩
              rw [HN.out, HMM.out]
              exact ⟨hjn.out, hb, hq.out, rfl⟩
            have hb' : (TW 16 ((q : Int) + 1) j == v) = true := by rw [beq_iff_eq]; exact hb
            clear hok o1 o2 hb hj
            go_wp2_with fail
            refine (turned_any _ _ _ (by unfold I64; omega) (by unfold I64; omega) (by unfold I64; omega) _).mono ?_; rintro e w' ⟨rfl, rfl⟩
            go_wp2_with fail
            refine (joined_any 16 q j rfl (by have := HM.out; omega) hjn.out _).mono ?_; rintro e w' ⟨rfl, rfl⟩
            go_wp2_with fail
            go_ret2
            exact ⟨EncE.mk rfl HE.out, Drawn.drewN (Drawn.refl _) _⟩
          · have HB := Lib.hid hb
            have hb' : (TW 16 m j == v) = false := by simpa using hb
            have HM' := HM.out
            clear hb
            go_wp2_with fail
            refine (turned_any _ _ _ (by unfold I64; omega) (by unfold I64; omega) (by unfold I64; omega) _).mono ?_; rintro e w' ⟨rfl, rfl⟩
            go_wp2_with fail
            go_round
            case rel => exact ⟨j + 1, by have := hjn.out; omega, by rw [Int.natCast_add]; rfl, fun k hk => by
              by_cases e : k = j
              · subst e; exact HB.out
              · exact hq.out k (by omega)⟩
            case measure =>
              have := hjn.out
              show 16 - ((j : Int) + 1).toNat < 16 - (j : Int).toNat; omega
        · have HE : Hid (Enc v 0 false) := by
            refine Or.inl ⟨rfl, rfl, Or.inr ⟨H0.out, ?_⟩⟩
            rw [HN.out, HMM.out]
            exact fun t ht => hq.out t (by omega)
          have hlt' := Int.not_lt.mp hlt
          clear hlt hj
          go_wp2_with fail
          go_ret2
          exact ⟨EncE.mk rfl HE.out, Drawn.drewN (Drawn.refl _) _⟩
    · have EC : Hid (wrap64 ((ones v : Int) / 2) = (cnt v : Int)) := by
        have a := HC.out; have b := HP.out
        show _ = _
        rw [IntWalk.wrap64_in _ (by omega)]; omega
      have HM := Lib.hid (cnt_le v)
      generalize hm : cnt v = m at *
      have HMM := Lib.hid hm
      clear hm
      go_enter Tryz.func45, Tryz.ntmps45
      go_wp2_with fail
      refine (sizeOf_any _ hv _).mono ?_; rintro e w' ⟨rfl, rfl⟩
      rw [HN.out]
      go_wp2_with fail
      go_quiet ((go_at_call 95; exact quiet_left (ones_any v hv _)))
      rw [EC.out]
      go_wp2_with fail
      go_loop [6, 17] (fun _ i => ∃ j : Nat, j ≤ 32 ∧ i = .int .i64 j ∧ Hid (∀ k : Nat, k < j → TW 32 m k ≠ v)) (fun _ i => 32 - (intOf i).toNat)
      case atStart => exact ⟨0, by omega, rfl, fun k hk => absurd hk (by omega)⟩
      case round =>
        obtain ⟨j, hj, rfl, hq⟩ := hrel
        by_cases hlt : (j : Int) < 32
        · have hjn : Hid (j < 32) := by show j < 32; omega
          by_cases hb : TW 32 m j = v
          · have hok : okT 32 m j = true := by
              cases g : okT 32 m j
              · rw [TW_zero g] at hb; exact absurd hb.symm H0.out
              · rfl
            have ⟨_, o1, o2, _, _⟩ := okT_is hok
            obtain ⟨q, rfl⟩ : ∃ q, m = q + 1 := ⟨m - 1, by omega⟩
            have HB := Lib.hid hb
            have q1 : (q : Int) < 31 := by omega
            have q0 : (0 : Int) ≤ q := by omega
            have HE : Hid (Enc v (code 32 q j : Int) true) := by
              refine Or.inr ⟨H0.out, rfl, j, ?_⟩
              rw [HN.out, HMM.out]
              exact ⟨hjn.out, hb, hq.out, rfl⟩
            have hb' : (TW 32 ((q : Int) + 1) j == v) = true := by rw [beq_iff_eq]; exact hb
            clear hok o1 o2 hb hj
            go_wp2_with fail
            refine (turned_any _ _ _ (by unfold I64; omega) (by unfold I64; omega) (by unfold I64; omega) _).mono ?_; rintro e w' ⟨rfl, rfl⟩
            go_wp2_with fail
            refine (joined_any 32 q j rfl (by have := HM.out; omega) hjn.out _).mono ?_; rintro e w' ⟨rfl, rfl⟩
            go_wp2_with fail
            go_ret2
            exact ⟨EncE.mk rfl HE.out, Drawn.drewN (Drawn.refl _) _⟩
          · have HB := Lib.hid hb
            have hb' : (TW 32 m j == v) = false := by simpa using hb
            have HM' := HM.out
            clear hb
            go_wp2_with fail
            refine (turned_any _ _ _ (by unfold I64; omega) (by unfold I64; omega) (by unfold I64; omega) _).mono ?_; rintro e w' ⟨rfl, rfl⟩
            go_wp2_with fail
            go_round
            case rel => exact ⟨j + 1, by have := hjn.out; omega, by rw [Int.natCast_add]; rfl, fun k hk => by
              by_cases e : k = j
              · subst e; exact HB.out
              · exact hq.out k (by omega)⟩
            case measure =>
              have := hjn.out
              show 32 - ((j : Int) + 1).toNat < 32 - (j : Int).toNat; omega
        · have HE : Hid (Enc v 0 false) := by
            refine Or.inl ⟨rfl, rfl, Or.inr ⟨H0.out, ?_⟩⟩
            rw [HN.out, HMM.out]
            exact fun t ht => hq.out t (by omega)
          have hlt' := Int.not_lt.mp hlt
          clear hlt hj
          go_wp2_with fail
          go_ret2
          exact ⟨EncE.mk rfl HE.out, Drawn.drewN (Drawn.refl _) _⟩
    · have EC : Hid (wrap64 (ones v : Int) = (cnt v : Int)) := by
        have a := HC.out; have b := HP.out
        show _ = _
        rw [IntWalk.wrap64_in _ (by omega)]; omega
      have HM := Lib.hid (cnt_le v)
      generalize hm : cnt v = m at *
      have HMM := Lib.hid hm
      clear hm
      go_enter Tryz.func45, Tryz.ntmps45
      go_wp2_with fail
      refine (sizeOf_any _ hv _).mono ?_; rintro e w' ⟨rfl, rfl⟩
      rw [HN.out]
      go_wp2_with fail
      go_quiet ((go_at_call 95; exact quiet_left (ones_any v hv _)))
      rw [EC.out]
      go_wp2_with fail
      go_loop [6, 17] (fun _ i => ∃ j : Nat, j ≤ 64 ∧ i = .int .i64 j ∧ Hid (∀ k : Nat, k < j → TW 64 m k ≠ v)) (fun _ i => 64 - (intOf i).toNat)
      case atStart => exact ⟨0, by omega, rfl, fun k hk => absurd hk (by omega)⟩
      case round =>
        obtain ⟨j, hj, rfl, hq⟩ := hrel
        by_cases hlt : (j : Int) < 64
        · have hjn : Hid (j < 64) := by show j < 64; omega
          by_cases hb : TW 64 m j = v
          · have hok : okT 64 m j = true := by
              cases g : okT 64 m j
              · rw [TW_zero g] at hb; exact absurd hb.symm H0.out
              · rfl
            have ⟨_, o1, o2, _, _⟩ := okT_is hok
            obtain ⟨q, rfl⟩ : ∃ q, m = q + 1 := ⟨m - 1, by omega⟩
            have HB := Lib.hid hb
            have q1 : (q : Int) < 63 := by omega
            have q0 : (0 : Int) ≤ q := by omega
            have HE : Hid (Enc v (code 64 q j : Int) true) := by
              refine Or.inr ⟨H0.out, rfl, j, ?_⟩
              rw [HN.out, HMM.out]
              exact ⟨hjn.out, hb, hq.out, rfl⟩
            have hb' : (TW 64 ((q : Int) + 1) j == v) = true := by rw [beq_iff_eq]; exact hb
            clear hok o1 o2 hb hj
            go_wp2_with fail
            refine (turned_any _ _ _ (by unfold I64; omega) (by unfold I64; omega) (by unfold I64; omega) _).mono ?_; rintro e w' ⟨rfl, rfl⟩
            go_wp2_with fail
            refine (joined_any 64 q j rfl (by have := HM.out; omega) hjn.out _).mono ?_; rintro e w' ⟨rfl, rfl⟩
            go_wp2_with fail
            go_ret2
            exact ⟨EncE.mk rfl HE.out, Drawn.drewN (Drawn.refl _) _⟩
          · have HB := Lib.hid hb
            have hb' : (TW 64 m j == v) = false := by simpa using hb
            have HM' := HM.out
            clear hb
            go_wp2_with fail
            refine (turned_any _ _ _ (by unfold I64; omega) (by unfold I64; omega) (by unfold I64; omega) _).mono ?_; rintro e w' ⟨rfl, rfl⟩
            go_wp2_with fail
            go_round
            case rel => exact ⟨j + 1, by have := hjn.out; omega, by rw [Int.natCast_add]; rfl, fun k hk => by
              by_cases e : k = j
              · subst e; exact HB.out
              · exact hq.out k (by omega)⟩
            case measure =>
              have := hjn.out
              show 64 - ((j : Int) + 1).toNat < 64 - (j : Int).toNat; omega
        · have HE : Hid (Enc v 0 false) := by
            refine Or.inl ⟨rfl, rfl, Or.inr ⟨H0.out, ?_⟩⟩
            rw [HN.out, HMM.out]
            exact fun t ht => hq.out t (by omega)
          have hlt' := Int.not_lt.mp hlt
          clear hlt hj
          go_wp2_with fail
          go_ret2
          exact ⟨EncE.mk rfl HE.out, Drawn.drewN (Drawn.refl _) _⟩
end Go.Proofs.YthcncbbnjbhdkaaGreatDoor

/- Walks of layer 19: thirteen bits of a word, of the document. -/
namespace Lg
open Go
open Cq
/-- no bits of elements of n bits are found -/
def Fail (v : Int) (n : Nat) : Prop := al v.toNat n = false ∨ ∀ t : Nat, t < n → TW n (popTo v.toNat n) t ≠ v
/-- bits of elements of n bits are found -/
def Got (v c : Int) (n : Nat) : Prop := al v.toNat n = true ∧ ∃ t : Nat, t < n ∧ TW n (popTo v.toNat n) t = v ∧ (∀ k : Nat, k < t → TW n (popTo v.toNat n) k ≠ v) ∧ c = (code n (popTo v.toNat n - 1) t : Int)
/-- all of the first k sizes fail -/
def Fails (v : Int) (k : Nat) : Prop := ∀ m : Nat, m < k → Fail v (2 ^ (m + 1))
/-- what the document's Encode answers of v -/
def EncR (v : Int) (c : Int) (ok : Bool) : Prop :=
  (c = 0 ∧ ok = false ∧ Fails v 6) ∨ (ok = true ∧ ∃ k : Nat, k < 6 ∧ Fails v k ∧ v ≠ 0 ∧ Got v c (2 ^ (k + 1)))
def EncRE (v : Int) (e : Ending) : Prop := ∃ c ok, e = .returned (.tuple #[.int .u32 c, .bool ok]) ∧ EncR v c ok
theorem EncRE.mk {v c : Int} {ok : Bool} {e : Ending} (he : e = .returned (.tuple #[.int .u32 c, .bool ok])) (h : EncR v c ok) : EncRE v e := ⟨c, ok, he, h⟩
theorem Fails.more {v : Int} {k : Nat} (h : Fails v k) (g : Fail v (2 ^ (k + 1))) : Fails v (k + 1) := fun m hm => by
  by_cases e : m = k
  · subst e; exact g
  · exact h m (by omega)
theorem al_zero (n : Nat) : al 0 n = false := by
  have : ∀ k, edg 0 n k = 0 := by
    intro k
    induction k with
    | zero => rfl
    | succ k ih => rw [edg, ih, if_neg]; intro g; exact g.2 (by simp)
  unfold al; rw [this]; exact Bool.and_false _
end Lg
namespace Go.Proofs.YthcncbbnjbhdkaaGreatDoor
open Go.RowKit
open Cq (U32 U64 I64 ones bit popTo)
open Lg

set_option maxRecDepth 100000 in
set_option maxHeartbeats 8000000 in
theorem rencode_any (v : Int) (hv : U64 v) (W : World) : Calls Tryz.prog 48 #[.int .u64 v] W
    fun e W' => EncRE v e ∧ Below W.heap.size W W' := by
  have hv0 := hv.1
  go_enter Tryz.func48, Tryz.ntmps48
  go_wp2_with fail
  go_loop [11] (fun i => i = .int .i64 0 ∧ Hid (Fails v 0) ∨ i = .int .i64 1 ∧ Hid (Fails v 1) ∨ i = .int .i64 2 ∧ Hid (Fails v 2) ∨ i = .int .i64 3 ∧ Hid (Fails v 3) ∨ i = .int .i64 4 ∧ Hid (Fails v 4) ∨ i = .int .i64 5 ∧ Hid (Fails v 5) ∨ i = .int .i64 6 ∧ Hid (Fails v 6)) (fun i => 6 - (intOf i).toNat)
  case atStart => exact Or.inl ⟨rfl, fun m hm => absurd hm (by omega)⟩
  case round =>
    rcases hrel with ⟨rfl, hf⟩ | ⟨rfl, hf⟩ | ⟨rfl, hf⟩ | ⟨rfl, hf⟩ | ⟨rfl, hf⟩ | ⟨rfl, hf⟩ | ⟨rfl, hf⟩
    · cases ha : al v.toNat 2
      · have HA := Lib.hid ha
        go_wp2_with fail
        refine (alike_any v hv 2 (by omega) (by omega) _).mono ?_; rintro e w' ⟨rfl, rfl⟩
        rw [HA.out]
        go_wp2_with fail
        go_round
        case rel => exact Or.inr (Or.inl ⟨rfl, hf.out.more (Or.inl HA.out)⟩)
        case measure => decide
      · have HA := Lib.hid ha
        have HV : Hid (v ≠ 0) := fun g => by
          have := HA.out; rw [g] at this; exact absurd (show al 0 2 = true from this) (by rw [al_zero]; decide)
        clear ha
        go_wp2_with fail
        refine (alike_any v hv 2 (by omega) (by omega) _).mono ?_; rintro e w' ⟨rfl, rfl⟩
        rw [HA.out]
        go_wp2_with fail
        go_loop [6, 7] (fun o i => ∃ j : Nat, j ≤ 2 ∧ i = .int .i64 j ∧ o = .int .i64 (popTo v.toNat j : Int)) (fun _ i => 2 - (intOf i).toNat)
        case atStart => exact ⟨0, by omega, rfl, rfl⟩
        case round =>
          obtain ⟨j, hj, rfl, rfl⟩ := hrel
          by_cases hlt : (j : Int) < 2
          · have hjn : Hid (j < 2) := by show j < 2; omega
            have R := Lib.hid (Cq.popTo_round hv j)
            have hp := Cq.popTo_le v.toNat j
            have hb := Cq.bit_tmod hv j
            have hb2 := Cq.bit_01 v j
            obtain ⟨b1, b2⟩ := hb2
            generalize bit v j = b at *
            generalize hx : popTo v.toNat j = x at *
            go_wp2_with fail
            go_round
            case rel => exact ⟨j + 1, by have := hjn.out; omega, by rw [Int.natCast_add]; rfl, by rw [← R.out]⟩
            case measure =>
              have := hjn.out
              show 2 - ((j : Int) + 1).toNat < 2 - (j : Int).toNat; omega
          · have HM : Hid (j = 2) := by show j = 2; omega
            have hlt' := Int.not_lt.mp hlt
            have hp := Cq.popTo_le v.toNat 2
            rw [show popTo v.toNat j = popTo v.toNat 2 by rw [HM.out]]
            have HX := Lib.hid (rfl : popTo v.toNat 2 = popTo v.toNat 2)
            generalize hx : popTo v.toNat 2 = x at *
            have HXX := Lib.hid hx
            clear hlt hj hx
            go_wp2_with fail
            go_loop [8] (fun i => ∃ t : Nat, t ≤ 2 ∧ i = .int .i64 t ∧ Hid (∀ k : Nat, k < t → TW 2 x k ≠ v)) (fun i => 2 - (intOf i).toNat)
            case atStart => exact ⟨0, by omega, rfl, fun k hk => absurd hk (by omega)⟩
            case round =>
              obtain ⟨t, ht, rfl, hq⟩ := hrel
              by_cases hlt : (t : Int) < 2
              · have hjn : Hid (t < 2) := by show t < 2; omega
                by_cases hb : TW 2 x t = v
                · have hok : okT 2 x t = true := by
                    cases g : okT 2 x t
                    · rw [TW_zero g] at hb; exact absurd hb.symm HV.out
                    · rfl
                  have ⟨_, o1, o2, _, _⟩ := okT_is hok
                  obtain ⟨q, rfl⟩ : ∃ q, x = q + 1 := ⟨x - 1, by omega⟩
                  have HB := Lib.hid hb
                  have q1 : (q : Int) < 1 := by omega
                  have q0 : (0 : Int) ≤ q := by omega
                  have HE : Hid (EncR v (code 2 q t : Int) true) := by
                    refine Or.inr ⟨rfl, 0, by omega, hf.out, HV.out, HA.out, t, hjn.out, ?_⟩
                    rw [show popTo v.toNat (2 ^ (0 + 1)) = q + 1 from HXX.out]
                    exact ⟨hb, hq.out, rfl⟩
                  have hb' : (TW 2 ((q : Int) + 1) t == v) = true := by rw [beq_iff_eq]; exact hb
                  clear hok o1 o2 hb ht hp
                  go_wp2_with fail
                  refine (rturned_any _ _ _ (by unfold I64; omega) (by unfold I64; omega) (by unfold I64; omega) _).mono ?_; rintro e w' ⟨rfl, rfl⟩
                  go_wp2_with fail
                  go_ret2
                  exact ⟨EncRE.mk (c := (code 2 q t : Int)) (ok := true) (congrArg (fun z => Ending.returned (.tuple #[.int .u32 z, .bool true])) (by unfold code; simp; omega)) HE.out, ((Below.refl _ _).alloc (Nat.le_refl _) _).alloc (by simp) _⟩
                · have HB := Lib.hid hb
                  have hb' : (TW 2 x t == v) = false := by simpa using hb
                  clear hb
                  go_wp2_with fail
                  refine (rturned_any _ _ _ (by unfold I64; omega) (by unfold I64; omega) (by unfold I64; omega) _).mono ?_; rintro e w' ⟨rfl, rfl⟩
                  go_wp2_with fail
                  go_round
                  case rel => exact ⟨t + 1, by have := hjn.out; omega, by rw [Int.natCast_add]; rfl, fun k hk => by
                    by_cases e : k = t
                    · subst e; exact HB.out
                    · exact hq.out k (by omega)⟩
                  case measure =>
                    have := hjn.out
                    show 2 - ((t : Int) + 1).toNat < 2 - (t : Int).toNat; omega
              · have HF : Hid (Fail v 2) := Or.inr (by rw [HXX.out]; exact fun k hk => hq.out k (by omega))
                have hlt' := Int.not_lt.mp hlt
                clear hlt ht
                go_wp2_with fail
                go_round
                case rel => exact Or.inr (Or.inl ⟨rfl, hf.out.more HF.out⟩)
                case measure => decide
    · cases ha : al v.toNat 4
      · have HA := Lib.hid ha
        go_wp2_with fail
        refine (alike_any v hv 4 (by omega) (by omega) _).mono ?_; rintro e w' ⟨rfl, rfl⟩
        rw [HA.out]
        go_wp2_with fail
        go_round
        case rel => exact Or.inr (Or.inr (Or.inl ⟨rfl, hf.out.more (Or.inl HA.out)⟩))
        case measure => decide
      · have HA := Lib.hid ha
        have HV : Hid (v ≠ 0) := fun g => by
          have := HA.out; rw [g] at this; exact absurd (show al 0 4 = true from this) (by rw [al_zero]; decide)
        clear ha
        go_wp2_with fail
        refine (alike_any v hv 4 (by omega) (by omega) _).mono ?_; rintro e w' ⟨rfl, rfl⟩
        rw [HA.out]
        go_wp2_with fail
        go_loop [6, 7] (fun o i => ∃ j : Nat, j ≤ 4 ∧ i = .int .i64 j ∧ o = .int .i64 (popTo v.toNat j : Int)) (fun _ i => 4 - (intOf i).toNat)
        case atStart => exact ⟨0, by omega, rfl, rfl⟩
        case round =>
          obtain ⟨j, hj, rfl, rfl⟩ := hrel
          by_cases hlt : (j : Int) < 4
          · have hjn : Hid (j < 4) := by show j < 4; omega
            have R := Lib.hid (Cq.popTo_round hv j)
            have hp := Cq.popTo_le v.toNat j
            have hb := Cq.bit_tmod hv j
            have hb2 := Cq.bit_01 v j
            obtain ⟨b1, b2⟩ := hb2
            generalize bit v j = b at *
            generalize hx : popTo v.toNat j = x at *
            go_wp2_with fail
            go_round
            case rel => exact ⟨j + 1, by have := hjn.out; omega, by rw [Int.natCast_add]; rfl, by rw [← R.out]⟩
            case measure =>
              have := hjn.out
              show 4 - ((j : Int) + 1).toNat < 4 - (j : Int).toNat; omega
          · have HM : Hid (j = 4) := by show j = 4; omega
            have hlt' := Int.not_lt.mp hlt
            have hp := Cq.popTo_le v.toNat 4
            rw [show popTo v.toNat j = popTo v.toNat 4 by rw [HM.out]]
            have HX := Lib.hid (rfl : popTo v.toNat 4 = popTo v.toNat 4)
            generalize hx : popTo v.toNat 4 = x at *
            have HXX := Lib.hid hx
            clear hlt hj hx
            go_wp2_with fail
            go_loop [8] (fun i => ∃ t : Nat, t ≤ 4 ∧ i = .int .i64 t ∧ Hid (∀ k : Nat, k < t → TW 4 x k ≠ v)) (fun i => 4 - (intOf i).toNat)
            case atStart => exact ⟨0, by omega, rfl, fun k hk => absurd hk (by omega)⟩
            case round =>
              obtain ⟨t, ht, rfl, hq⟩ := hrel
              by_cases hlt : (t : Int) < 4
              · have hjn : Hid (t < 4) := by show t < 4; omega
                by_cases hb : TW 4 x t = v
                · have hok : okT 4 x t = true := by
                    cases g : okT 4 x t
                    · rw [TW_zero g] at hb; exact absurd hb.symm HV.out
                    · rfl
                  have ⟨_, o1, o2, _, _⟩ := okT_is hok
                  obtain ⟨q, rfl⟩ : ∃ q, x = q + 1 := ⟨x - 1, by omega⟩
                  have HB := Lib.hid hb
                  have q1 : (q : Int) < 3 := by omega
                  have q0 : (0 : Int) ≤ q := by omega
                  have HE : Hid (EncR v (code 4 q t : Int) true) := by
                    refine Or.inr ⟨rfl, 1, by omega, hf.out, HV.out, HA.out, t, hjn.out, ?_⟩
                    rw [show popTo v.toNat (2 ^ (1 + 1)) = q + 1 from HXX.out]
                    exact ⟨hb, hq.out, rfl⟩
                  have hb' : (TW 4 ((q : Int) + 1) t == v) = true := by rw [beq_iff_eq]; exact hb
                  clear hok o1 o2 hb ht hp
                  go_wp2_with fail
                  refine (rturned_any _ _ _ (by unfold I64; omega) (by unfold I64; omega) (by unfold I64; omega) _).mono ?_; rintro e w' ⟨rfl, rfl⟩
                  go_wp2_with fail
                  go_ret2
                  exact ⟨EncRE.mk (c := (code 4 q t : Int)) (ok := true) (congrArg (fun z => Ending.returned (.tuple #[.int .u32 z, .bool true])) (by unfold code; simp; omega)) HE.out, ((Below.refl _ _).alloc (Nat.le_refl _) _).alloc (by simp) _⟩
                · have HB := Lib.hid hb
                  have hb' : (TW 4 x t == v) = false := by simpa using hb
                  clear hb
                  go_wp2_with fail
                  refine (rturned_any _ _ _ (by unfold I64; omega) (by unfold I64; omega) (by unfold I64; omega) _).mono ?_; rintro e w' ⟨rfl, rfl⟩
                  go_wp2_with fail
                  go_round
                  case rel => exact ⟨t + 1, by have := hjn.out; omega, by rw [Int.natCast_add]; rfl, fun k hk => by
                    by_cases e : k = t
                    · subst e; exact HB.out
                    · exact hq.out k (by omega)⟩
                  case measure =>
                    have := hjn.out
                    show 4 - ((t : Int) + 1).toNat < 4 - (t : Int).toNat; omega
              · have HF : Hid (Fail v 4) := Or.inr (by rw [HXX.out]; exact fun k hk => hq.out k (by omega))
                have hlt' := Int.not_lt.mp hlt
                clear hlt ht
                go_wp2_with fail
                go_round
                case rel => exact Or.inr (Or.inr (Or.inl ⟨rfl, hf.out.more HF.out⟩))
                case measure => decide
    · cases ha : al v.toNat 8
      · have HA := Lib.hid ha
        go_wp2_with fail
        refine (alike_any v hv 8 (by omega) (by omega) _).mono ?_; rintro e w' ⟨rfl, rfl⟩
        rw [HA.out]
        go_wp2_with fail
        go_round
        case rel => exact Or.inr (Or.inr (Or.inr (Or.inl ⟨rfl, hf.out.more (Or.inl HA.out)⟩)))
        case measure => decide
      · have HA := Lib.hid ha
        have HV : Hid (v ≠ 0) := fun g => by
          have := HA.out; rw [g] at this; exact absurd (show al 0 8 = true from this) (by rw [al_zero]; decide)
        clear ha
        go_wp2_with fail
        refine (alike_any v hv 8 (by omega) (by omega) _).mono ?_; rintro e w' ⟨rfl, rfl⟩
        rw [HA.out]
        go_wp2_with fail
        go_loop [6, 7] (fun o i => ∃ j : Nat, j ≤ 8 ∧ i = .int .i64 j ∧ o = .int .i64 (popTo v.toNat j : Int)) (fun _ i => 8 - (intOf i).toNat)
        case atStart => exact ⟨0, by omega, rfl, rfl⟩
        case round =>
          obtain ⟨j, hj, rfl, rfl⟩ := hrel
          by_cases hlt : (j : Int) < 8
          · have hjn : Hid (j < 8) := by show j < 8; omega
            have R := Lib.hid (Cq.popTo_round hv j)
            have hp := Cq.popTo_le v.toNat j
            have hb := Cq.bit_tmod hv j
            have hb2 := Cq.bit_01 v j
            obtain ⟨b1, b2⟩ := hb2
            generalize bit v j = b at *
            generalize hx : popTo v.toNat j = x at *
            go_wp2_with fail
            go_round
            case rel => exact ⟨j + 1, by have := hjn.out; omega, by rw [Int.natCast_add]; rfl, by rw [← R.out]⟩
            case measure =>
              have := hjn.out
              show 8 - ((j : Int) + 1).toNat < 8 - (j : Int).toNat; omega
          · have HM : Hid (j = 8) := by show j = 8; omega
            have hlt' := Int.not_lt.mp hlt
            have hp := Cq.popTo_le v.toNat 8
            rw [show popTo v.toNat j = popTo v.toNat 8 by rw [HM.out]]
            have HX := Lib.hid (rfl : popTo v.toNat 8 = popTo v.toNat 8)
            generalize hx : popTo v.toNat 8 = x at *
            have HXX := Lib.hid hx
            clear hlt hj hx
            go_wp2_with fail
            go_loop [8] (fun i => ∃ t : Nat, t ≤ 8 ∧ i = .int .i64 t ∧ Hid (∀ k : Nat, k < t → TW 8 x k ≠ v)) (fun i => 8 - (intOf i).toNat)
            case atStart => exact ⟨0, by omega, rfl, fun k hk => absurd hk (by omega)⟩
            case round =>
              obtain ⟨t, ht, rfl, hq⟩ := hrel
              by_cases hlt : (t : Int) < 8
              · have hjn : Hid (t < 8) := by show t < 8; omega
                by_cases hb : TW 8 x t = v
                · have hok : okT 8 x t = true := by
                    cases g : okT 8 x t
                    · rw [TW_zero g] at hb; exact absurd hb.symm HV.out
                    · rfl
                  have ⟨_, o1, o2, _, _⟩ := okT_is hok
                  obtain ⟨q, rfl⟩ : ∃ q, x = q + 1 := ⟨x - 1, by omega⟩
                  have HB := Lib.hid hb
                  have q1 : (q : Int) < 7 := by omega
                  have q0 : (0 : Int) ≤ q := by omega
                  have HE : Hid (EncR v (code 8 q t : Int) true) := by
                    refine Or.inr ⟨rfl, 2, by omega, hf.out, HV.out, HA.out, t, hjn.out, ?_⟩
                    rw [show popTo v.toNat (2 ^ (2 + 1)) = q + 1 from HXX.out]
                    exact ⟨hb, hq.out, rfl⟩
                  have hb' : (TW 8 ((q : Int) + 1) t == v) = true := by rw [beq_iff_eq]; exact hb
                  clear hok o1 o2 hb ht hp
                  go_wp2_with fail
                  refine (rturned_any _ _ _ (by unfold I64; omega) (by unfold I64; omega) (by unfold I64; omega) _).mono ?_; rintro e w' ⟨rfl, rfl⟩
                  go_wp2_with fail
                  go_ret2
                  exact ⟨EncRE.mk (c := (code 8 q t : Int)) (ok := true) (congrArg (fun z => Ending.returned (.tuple #[.int .u32 z, .bool true])) (by unfold code; simp; omega)) HE.out, ((Below.refl _ _).alloc (Nat.le_refl _) _).alloc (by simp) _⟩
                · have HB := Lib.hid hb
                  have hb' : (TW 8 x t == v) = false := by simpa using hb
                  clear hb
                  go_wp2_with fail
                  refine (rturned_any _ _ _ (by unfold I64; omega) (by unfold I64; omega) (by unfold I64; omega) _).mono ?_; rintro e w' ⟨rfl, rfl⟩
                  go_wp2_with fail
                  go_round
                  case rel => exact ⟨t + 1, by have := hjn.out; omega, by rw [Int.natCast_add]; rfl, fun k hk => by
                    by_cases e : k = t
                    · subst e; exact HB.out
                    · exact hq.out k (by omega)⟩
                  case measure =>
                    have := hjn.out
                    show 8 - ((t : Int) + 1).toNat < 8 - (t : Int).toNat; omega
              · have HF : Hid (Fail v 8) := Or.inr (by rw [HXX.out]; exact fun k hk => hq.out k (by omega))
                have hlt' := Int.not_lt.mp hlt
                clear hlt ht
                go_wp2_with fail
                go_round
                case rel => exact Or.inr (Or.inr (Or.inr (Or.inl ⟨rfl, hf.out.more HF.out⟩)))
                case measure => decide
    · cases ha : al v.toNat 16
      · have HA := Lib.hid ha
        go_wp2_with fail
        refine (alike_any v hv 16 (by omega) (by omega) _).mono ?_; rintro e w' ⟨rfl, rfl⟩
        rw [HA.out]
        go_wp2_with fail
        go_round
        case rel => exact Or.inr (Or.inr (Or.inr (Or.inr (Or.inl ⟨rfl, hf.out.more (Or.inl HA.out)⟩))))
        case measure => decide
      · have HA := Lib.hid ha
        have HV : Hid (v ≠ 0) := fun g => by
          have := HA.out; rw [g] at this; exact absurd (show al 0 16 = true from this) (by rw [al_zero]; decide)
        clear ha
        go_wp2_with fail
        refine (alike_any v hv 16 (by omega) (by omega) _).mono ?_; rintro e w' ⟨rfl, rfl⟩
        rw [HA.out]
        go_wp2_with fail
        go_loop [6, 7] (fun o i => ∃ j : Nat, j ≤ 16 ∧ i = .int .i64 j ∧ o = .int .i64 (popTo v.toNat j : Int)) (fun _ i => 16 - (intOf i).toNat)
        case atStart => exact ⟨0, by omega, rfl, rfl⟩
        case round =>
          obtain ⟨j, hj, rfl, rfl⟩ := hrel
          by_cases hlt : (j : Int) < 16
          · have hjn : Hid (j < 16) := by show j < 16; omega
            have R := Lib.hid (Cq.popTo_round hv j)
            have hp := Cq.popTo_le v.toNat j
            have hb := Cq.bit_tmod hv j
            have hb2 := Cq.bit_01 v j
            obtain ⟨b1, b2⟩ := hb2
            generalize bit v j = b at *
            generalize hx : popTo v.toNat j = x at *
            go_wp2_with fail
            go_round
            case rel => exact ⟨j + 1, by have := hjn.out; omega, by rw [Int.natCast_add]; rfl, by rw [← R.out]⟩
            case measure =>
              have := hjn.out
              show 16 - ((j : Int) + 1).toNat < 16 - (j : Int).toNat; omega
          · have HM : Hid (j = 16) := by show j = 16; omega
            have hlt' := Int.not_lt.mp hlt
            have hp := Cq.popTo_le v.toNat 16
            rw [show popTo v.toNat j = popTo v.toNat 16 by rw [HM.out]]
            have HX := Lib.hid (rfl : popTo v.toNat 16 = popTo v.toNat 16)
            generalize hx : popTo v.toNat 16 = x at *
            have HXX := Lib.hid hx
            clear hlt hj hx
            go_wp2_with fail
            go_loop [8] (fun i => ∃ t : Nat, t ≤ 16 ∧ i = .int .i64 t ∧ Hid (∀ k : Nat, k < t → TW 16 x k ≠ v)) (fun i => 16 - (intOf i).toNat)
            case atStart => exact ⟨0, by omega, rfl, fun k hk => absurd hk (by omega)⟩
            case round =>
              obtain ⟨t, ht, rfl, hq⟩ := hrel
              by_cases hlt : (t : Int) < 16
              · have hjn : Hid (t < 16) := by show t < 16; omega
                by_cases hb : TW 16 x t = v
                · have hok : okT 16 x t = true := by
                    cases g : okT 16 x t
                    · rw [TW_zero g] at hb; exact absurd hb.symm HV.out
                    · rfl
                  have ⟨_, o1, o2, _, _⟩ := okT_is hok
                  obtain ⟨q, rfl⟩ : ∃ q, x = q + 1 := ⟨x - 1, by omega⟩
                  have HB := Lib.hid hb
                  have q1 : (q : Int) < 15 := by omega
                  have q0 : (0 : Int) ≤ q := by omega
                  have HE : Hid (EncR v (code 16 q t : Int) true) := by
                    refine Or.inr ⟨rfl, 3, by omega, hf.out, HV.out, HA.out, t, hjn.out, ?_⟩
                    rw [show popTo v.toNat (2 ^ (3 + 1)) = q + 1 from HXX.out]
                    exact ⟨hb, hq.out, rfl⟩
                  have hb' : (TW 16 ((q : Int) + 1) t == v) = true := by rw [beq_iff_eq]; exact hb
                  clear hok o1 o2 hb ht hp
                  go_wp2_with fail
                  refine (rturned_any _ _ _ (by unfold I64; omega) (by unfold I64; omega) (by unfold I64; omega) _).mono ?_; rintro e w' ⟨rfl, rfl⟩
                  go_wp2_with fail
                  go_ret2
                  exact ⟨EncRE.mk (c := (code 16 q t : Int)) (ok := true) (congrArg (fun z => Ending.returned (.tuple #[.int .u32 z, .bool true])) (by unfold code; simp; omega)) HE.out, ((Below.refl _ _).alloc (Nat.le_refl _) _).alloc (by simp) _⟩
                · have HB := Lib.hid hb
                  have hb' : (TW 16 x t == v) = false := by simpa using hb
                  clear hb
                  go_wp2_with fail
                  refine (rturned_any _ _ _ (by unfold I64; omega) (by unfold I64; omega) (by unfold I64; omega) _).mono ?_; rintro e w' ⟨rfl, rfl⟩
                  go_wp2_with fail
                  go_round
                  case rel => exact ⟨t + 1, by have := hjn.out; omega, by rw [Int.natCast_add]; rfl, fun k hk => by
                    by_cases e : k = t
                    · subst e; exact HB.out
                    · exact hq.out k (by omega)⟩
                  case measure =>
                    have := hjn.out
                    show 16 - ((t : Int) + 1).toNat < 16 - (t : Int).toNat; omega
              · have HF : Hid (Fail v 16) := Or.inr (by rw [HXX.out]; exact fun k hk => hq.out k (by omega))
                have hlt' := Int.not_lt.mp hlt
                clear hlt ht
                go_wp2_with fail
                go_round
                case rel => exact Or.inr (Or.inr (Or.inr (Or.inr (Or.inl ⟨rfl, hf.out.more HF.out⟩))))
                case measure => decide
    · cases ha : al v.toNat 32
      · have HA := Lib.hid ha
        go_wp2_with fail
        refine (alike_any v hv 32 (by omega) (by omega) _).mono ?_; rintro e w' ⟨rfl, rfl⟩
        rw [HA.out]
        go_wp2_with fail
        go_round
        case rel => exact Or.inr (Or.inr (Or.inr (Or.inr (Or.inr (Or.inl ⟨rfl, hf.out.more (Or.inl HA.out)⟩)))))
        case measure => decide
      · have HA := Lib.hid ha
        have HV : Hid (v ≠ 0) := fun g => by
          have := HA.out; rw [g] at this; exact absurd (show al 0 32 = true from this) (by rw [al_zero]; decide)
        clear ha
        go_wp2_with fail
        refine (alike_any v hv 32 (by omega) (by omega) _).mono ?_; rintro e w' ⟨rfl, rfl⟩
        rw [HA.out]
        go_wp2_with fail
        go_loop [6, 7] (fun o i => ∃ j : Nat, j ≤ 32 ∧ i = .int .i64 j ∧ o = .int .i64 (popTo v.toNat j : Int)) (fun _ i => 32 - (intOf i).toNat)
        case atStart => exact ⟨0, by omega, rfl, rfl⟩
        case round =>
          obtain ⟨j, hj, rfl, rfl⟩ := hrel
          by_cases hlt : (j : Int) < 32
          · have hjn : Hid (j < 32) := by show j < 32; omega
            have R := Lib.hid (Cq.popTo_round hv j)
            have hp := Cq.popTo_le v.toNat j
            have hb := Cq.bit_tmod hv j
            have hb2 := Cq.bit_01 v j
            obtain ⟨b1, b2⟩ := hb2
            generalize bit v j = b at *
            generalize hx : popTo v.toNat j = x at *
            go_wp2_with fail
            go_round
            case rel => exact ⟨j + 1, by have := hjn.out; omega, by rw [Int.natCast_add]; rfl, by rw [← R.out]⟩
            case measure =>
              have := hjn.out
              show 32 - ((j : Int) + 1).toNat < 32 - (j : Int).toNat; omega
          · have HM : Hid (j = 32) := by show j = 32; omega
            have hlt' := Int.not_lt.mp hlt
            have hp := Cq.popTo_le v.toNat 32
            rw [show popTo v.toNat j = popTo v.toNat 32 by rw [HM.out]]
            have HX := Lib.hid (rfl : popTo v.toNat 32 = popTo v.toNat 32)
            generalize hx : popTo v.toNat 32 = x at *
            have HXX := Lib.hid hx
            clear hlt hj hx
            go_wp2_with fail
            go_loop [8] (fun i => ∃ t : Nat, t ≤ 32 ∧ i = .int .i64 t ∧ Hid (∀ k : Nat, k < t → TW 32 x k ≠ v)) (fun i => 32 - (intOf i).toNat)
            case atStart => exact ⟨0, by omega, rfl, fun k hk => absurd hk (by omega)⟩
            case round =>
              obtain ⟨t, ht, rfl, hq⟩ := hrel
              by_cases hlt : (t : Int) < 32
              · have hjn : Hid (t < 32) := by show t < 32; omega
                by_cases hb : TW 32 x t = v
                · have hok : okT 32 x t = true := by
                    cases g : okT 32 x t
                    · rw [TW_zero g] at hb; exact absurd hb.symm HV.out
                    · rfl
                  have ⟨_, o1, o2, _, _⟩ := okT_is hok
                  obtain ⟨q, rfl⟩ : ∃ q, x = q + 1 := ⟨x - 1, by omega⟩
                  have HB := Lib.hid hb
                  have q1 : (q : Int) < 31 := by omega
                  have q0 : (0 : Int) ≤ q := by omega
                  have HE : Hid (EncR v (code 32 q t : Int) true) := by
                    refine Or.inr ⟨rfl, 4, by omega, hf.out, HV.out, HA.out, t, hjn.out, ?_⟩
                    rw [show popTo v.toNat (2 ^ (4 + 1)) = q + 1 from HXX.out]
                    exact ⟨hb, hq.out, rfl⟩
                  have hb' : (TW 32 ((q : Int) + 1) t == v) = true := by rw [beq_iff_eq]; exact hb
                  clear hok o1 o2 hb ht hp
                  go_wp2_with fail
                  refine (rturned_any _ _ _ (by unfold I64; omega) (by unfold I64; omega) (by unfold I64; omega) _).mono ?_; rintro e w' ⟨rfl, rfl⟩
                  go_wp2_with fail
                  go_ret2
                  exact ⟨EncRE.mk (c := (code 32 q t : Int)) (ok := true) (congrArg (fun z => Ending.returned (.tuple #[.int .u32 z, .bool true])) (by unfold code; simp; omega)) HE.out, ((Below.refl _ _).alloc (Nat.le_refl _) _).alloc (by simp) _⟩
                · have HB := Lib.hid hb
                  have hb' : (TW 32 x t == v) = false := by simpa using hb
                  clear hb
                  go_wp2_with fail
                  refine (rturned_any _ _ _ (by unfold I64; omega) (by unfold I64; omega) (by unfold I64; omega) _).mono ?_; rintro e w' ⟨rfl, rfl⟩
                  go_wp2_with fail
                  go_round
                  case rel => exact ⟨t + 1, by have := hjn.out; omega, by rw [Int.natCast_add]; rfl, fun k hk => by
                    by_cases e : k = t
                    · subst e; exact HB.out
                    · exact hq.out k (by omega)⟩
                  case measure =>
                    have := hjn.out
                    show 32 - ((t : Int) + 1).toNat < 32 - (t : Int).toNat; omega
              · have HF : Hid (Fail v 32) := Or.inr (by rw [HXX.out]; exact fun k hk => hq.out k (by omega))
                have hlt' := Int.not_lt.mp hlt
                clear hlt ht
                go_wp2_with fail
                go_round
                case rel => exact Or.inr (Or.inr (Or.inr (Or.inr (Or.inr (Or.inl ⟨rfl, hf.out.more HF.out⟩)))))
                case measure => decide
    · cases ha : al v.toNat 64
      · have HA := Lib.hid ha
        go_wp2_with fail
        refine (alike_any v hv 64 (by omega) (by omega) _).mono ?_; rintro e w' ⟨rfl, rfl⟩
        rw [HA.out]
        go_wp2_with fail
        go_round
        case rel => exact Or.inr (Or.inr (Or.inr (Or.inr (Or.inr (Or.inr (⟨rfl, hf.out.more (Or.inl HA.out)⟩))))))
        case measure => decide
      · have HA := Lib.hid ha
        have HV : Hid (v ≠ 0) := fun g => by
          have := HA.out; rw [g] at this; exact absurd (show al 0 64 = true from this) (by rw [al_zero]; decide)
        clear ha
        go_wp2_with fail
        refine (alike_any v hv 64 (by omega) (by omega) _).mono ?_; rintro e w' ⟨rfl, rfl⟩
        rw [HA.out]
        go_wp2_with fail
        go_loop [6, 7] (fun o i => ∃ j : Nat, j ≤ 64 ∧ i = .int .i64 j ∧ o = .int .i64 (popTo v.toNat j : Int)) (fun _ i => 64 - (intOf i).toNat)
        case atStart => exact ⟨0, by omega, rfl, rfl⟩
        case round =>
          obtain ⟨j, hj, rfl, rfl⟩ := hrel
          by_cases hlt : (j : Int) < 64
          · have hjn : Hid (j < 64) := by show j < 64; omega
            have R := Lib.hid (Cq.popTo_round hv j)
            have hp := Cq.popTo_le v.toNat j
            have hb := Cq.bit_tmod hv j
            have hb2 := Cq.bit_01 v j
            obtain ⟨b1, b2⟩ := hb2
            generalize bit v j = b at *
            generalize hx : popTo v.toNat j = x at *
            go_wp2_with fail
            go_round
            case rel => exact ⟨j + 1, by have := hjn.out; omega, by rw [Int.natCast_add]; rfl, by rw [← R.out]⟩
            case measure =>
              have := hjn.out
              show 64 - ((j : Int) + 1).toNat < 64 - (j : Int).toNat; omega
          · have HM : Hid (j = 64) := by show j = 64; omega
            have hlt' := Int.not_lt.mp hlt
            have hp := Cq.popTo_le v.toNat 64
            rw [show popTo v.toNat j = popTo v.toNat 64 by rw [HM.out]]
            have HX := Lib.hid (rfl : popTo v.toNat 64 = popTo v.toNat 64)
            generalize hx : popTo v.toNat 64 = x at *
            have HXX := Lib.hid hx
            clear hlt hj hx
            go_wp2_with fail
            go_loop [8] (fun i => ∃ t : Nat, t ≤ 64 ∧ i = .int .i64 t ∧ Hid (∀ k : Nat, k < t → TW 64 x k ≠ v)) (fun i => 64 - (intOf i).toNat)
            case atStart => exact ⟨0, by omega, rfl, fun k hk => absurd hk (by omega)⟩
            case round =>
              obtain ⟨t, ht, rfl, hq⟩ := hrel
              by_cases hlt : (t : Int) < 64
              · have hjn : Hid (t < 64) := by show t < 64; omega
                by_cases hb : TW 64 x t = v
                · have hok : okT 64 x t = true := by
                    cases g : okT 64 x t
                    · rw [TW_zero g] at hb; exact absurd hb.symm HV.out
                    · rfl
                  have ⟨_, o1, o2, _, _⟩ := okT_is hok
                  obtain ⟨q, rfl⟩ : ∃ q, x = q + 1 := ⟨x - 1, by omega⟩
                  have HB := Lib.hid hb
                  have q1 : (q : Int) < 63 := by omega
                  have q0 : (0 : Int) ≤ q := by omega
                  have HE : Hid (EncR v (code 64 q t : Int) true) := by
                    refine Or.inr ⟨rfl, 5, by omega, hf.out, HV.out, HA.out, t, hjn.out, ?_⟩
                    rw [show popTo v.toNat (2 ^ (5 + 1)) = q + 1 from HXX.out]
                    exact ⟨hb, hq.out, rfl⟩
                  have hb' : (TW 64 ((q : Int) + 1) t == v) = true := by rw [beq_iff_eq]; exact hb
                  clear hok o1 o2 hb ht hp
                  go_wp2_with fail
                  refine (rturned_any _ _ _ (by unfold I64; omega) (by unfold I64; omega) (by unfold I64; omega) _).mono ?_; rintro e w' ⟨rfl, rfl⟩
                  go_wp2_with fail
                  go_ret2
                  exact ⟨EncRE.mk (c := (code 64 q t : Int)) (ok := true) (congrArg (fun z => Ending.returned (.tuple #[.int .u32 z, .bool true])) (by unfold code; simp; omega)) HE.out, ((Below.refl _ _).alloc (Nat.le_refl _) _).alloc (by simp) _⟩
                · have HB := Lib.hid hb
                  have hb' : (TW 64 x t == v) = false := by simpa using hb
                  clear hb
                  go_wp2_with fail
                  refine (rturned_any _ _ _ (by unfold I64; omega) (by unfold I64; omega) (by unfold I64; omega) _).mono ?_; rintro e w' ⟨rfl, rfl⟩
                  go_wp2_with fail
                  go_round
                  case rel => exact ⟨t + 1, by have := hjn.out; omega, by rw [Int.natCast_add]; rfl, fun k hk => by
                    by_cases e : k = t
                    · subst e; exact HB.out
                    · exact hq.out k (by omega)⟩
                  case measure =>
                    have := hjn.out
                    show 64 - ((t : Int) + 1).toNat < 64 - (t : Int).toNat; omega
              · have HF : Hid (Fail v 64) := Or.inr (by rw [HXX.out]; exact fun k hk => hq.out k (by omega))
                have hlt' := Int.not_lt.mp hlt
                clear hlt ht
                go_wp2_with fail
                go_round
                case rel => exact Or.inr (Or.inr (Or.inr (Or.inr (Or.inr (Or.inr (⟨rfl, hf.out.more HF.out⟩))))))
                case measure => decide
    · go_wp2_with fail
      go_ret2
      exact ⟨EncRE.mk (c := 0) (ok := false) rfl (Or.inl ⟨rfl, rfl, hf.out⟩), (Below.refl _ _).alloc (Nat.le_refl _) _⟩
end Go.Proofs.YthcncbbnjbhdkaaGreatDoor

/- Plain mathematics of layer 19: periods, ones and edges of words. -/
namespace Lg
open Go
open Cq

/-- how many of the first k hold -/
def cf (f : Nat → Bool) : Nat → Nat
  | 0 => 0
  | k + 1 => cf f k + if f k then 1 else 0
theorem cf_congr {f g : Nat → Bool} {k : Nat} (h : ∀ i, i < k → f i = g i) : cf f k = cf g k := by
  induction k with
  | zero => rfl
  | succ k ih => rw [cf, cf, ih (fun i hi => h i (by omega)), h k (by omega)]
theorem cf_front (f : Nat → Bool) (k : Nat) : cf f (k + 1) = (if f 0 then 1 else 0) + cf (fun i => f (i + 1)) k := by
  induction k with
  | zero => simp [cf]
  | succ k ih => rw [cf, ih, cf]; omega
/-- round and round: from any place on, a whole turn counts the same -/
theorem cf_turn {f : Nat → Bool} {n : Nat} (hp : ∀ i, f (i + n) = f i) (t : Nat) : cf (fun i => f (i + t)) n = cf f n := by
  induction t with
  | zero => rfl
  | succ t ih =>
    have a := cf_front (fun i => f (i + t)) n
    have b : cf (fun i => f (i + t)) (n + 1) = cf (fun i => f (i + t)) n + if f (n + t) then 1 else 0 := rfl
    have c : f (n + t) = f (0 + t) := by rw [Nat.add_comm n t, hp, Nat.zero_add]
    rw [c] at b
    have d : (fun i => f (i + 1 + t)) = fun i => f (i + (t + 1)) := by funext i; congr 1; omega
    rw [d] at a
    omega
theorem cf_lt (o n : Nat) (h : o ≤ n) : cf (fun i => decide (i < o)) n = o := by
  induction n with
  | zero => simp [cf]; omega
  | succ n ih =>
    rw [cf]
    by_cases e : o = n + 1
    · subst e
      have : cf (fun i => decide (i < n + 1)) n = cf (fun i => decide (i < n)) n := cf_congr fun i hi => by
        rw [decide_eq_true (show i < n + 1 by omega), decide_eq_true hi]
      rw [this, decide_eq_true (show n < n + 1 by omega), if_pos rfl]
      have : ∀ k m, k ≤ m → cf (fun i => decide (i < m)) k = k := by
        intro k
        induction k with
        | zero => intro m _; rfl
        | succ k ih => intro m hm; rw [cf, ih m (by omega), decide_eq_true (by omega), if_pos rfl]
      rw [this n n (Nat.le_refl _)]
    · rw [ih (by omega), decide_eq_false (by omega)]; rfl
theorem cf_eq (e n : Nat) : cf (fun i => decide (i = e)) n = if e < n then 1 else 0 := by
  induction n with
  | zero => rfl
  | succ n ih =>
    rw [cf, ih]
    by_cases h : n = e
    · subst h; rw [decide_eq_true rfl, if_pos rfl, if_neg (by omega), if_pos (by omega)]
    · rw [decide_eq_false h]; show (if e < n then 1 else 0) + 0 = _; rw [Nat.add_zero]
      by_cases g : e < n
      · rw [if_pos g, if_pos (by omega)]
      · rw [if_neg g, if_neg (by omega)]
theorem cf_or {f g : Nat → Bool} (n : Nat) (h : ∀ i, i < n → ¬ (f i = true ∧ g i = true)) : cf (fun i => f i || g i) n = cf f n + cf g n := by
  induction n with
  | zero => rfl
  | succ n ih =>
    rw [cf, cf, cf, ih (fun i hi => h i (by omega))]
    have := h n (by omega)
    cases hf : f n <;> cases hg : g n <;> simp_all <;> omega
theorem cf_zero {f : Nat → Bool} {k : Nat} (h : cf f k = 0) : ∀ i, i < k → f i = false := by
  induction k with
  | zero => intro i hi; omega
  | succ k ih =>
    rw [cf] at h
    intro i hi
    by_cases e : i = k
    · subst e; cases g : f i
      · rfl
      · rw [g] at h; simp at h
    · exact ih (by omega) i (by omega)
theorem cf_one {f : Nat → Bool} {k : Nat} (h : cf f k = 1) : ∃ e, e < k ∧ f e = true ∧ ∀ i, i < k → f i = true → i = e := by
  induction k with
  | zero => simp [cf] at h
  | succ k ih =>
    rw [cf] at h
    cases g : f k
    · rw [g] at h
      obtain ⟨e, h1, h2, h3⟩ := ih (by simpa using h)
      refine ⟨e, by omega, h2, fun i hi hf => ?_⟩
      by_cases x : i = k
      · subst x; rw [g] at hf; cases hf
      · exact h3 i (by omega) hf
    · rw [g] at h
      have z := cf_zero (f := f) (k := k) (by simpa using h)
      refine ⟨k, by omega, g, fun i hi hf => ?_⟩
      by_cases x : i = k
      · exact x
      · rw [z i (by omega)] at hf; cases hf
theorem cf_two {f : Nat → Bool} {k : Nat} (h : cf f k = 2) : ∃ a b, a < b ∧ b < k ∧ f a = true ∧ f b = true ∧ ∀ i, i < k → f i = true → i = a ∨ i = b := by
  induction k with
  | zero => simp [cf] at h
  | succ k ih =>
    rw [cf] at h
    cases g : f k
    · rw [g] at h
      obtain ⟨a, b, h0, h1, h2, h2', h3⟩ := ih (by simpa using h)
      refine ⟨a, b, h0, by omega, h2, h2', fun i hi hf => ?_⟩
      by_cases x : i = k
      · subst x; rw [g] at hf; cases hf
      · exact h3 i (by omega) hf
    · rw [g] at h
      obtain ⟨e, h1, h2, h3⟩ := cf_one (f := f) (k := k) (by simpa using h)
      refine ⟨e, k, h1, by omega, h2, g, fun i hi hf => ?_⟩
      by_cases x : i = k
      · exact Or.inr x
      · exact Or.inl (h3 i (by omega) hf)

theorem popTo_cf (v k : Nat) : popTo v k = cf v.testBit k := by
  induction k with
  | zero => rfl
  | succ k ih =>
    rw [popTo, cf, ih, Nat.testBit_eq_decide_div_mod_eq]
    have : v / 2 ^ k % 2 < 2 := Nat.mod_lt _ (by omega)
    by_cases h : v / 2 ^ k % 2 = 1
    · rw [h]; rfl
    · have h0 : v / 2 ^ k % 2 = 0 := by omega
      rw [h0]; rfl
theorem edg_cf (v n k : Nat) (h : k ≤ n) : edg v n k = cf (fun i => v.testBit i != v.testBit ((i + 1) % 64)) k := by
  induction k with
  | zero => rfl
  | succ k ih =>
    rw [edg, cf, ih (by omega)]
    by_cases e : v.testBit k = v.testBit ((k + 1) % 64)
    · rw [if_neg (fun g => g.2 e), e, bne_self_eq_false]; rfl
    · rw [if_pos ⟨by omega, e⟩]
      have : (v.testBit k != v.testBit ((k + 1) % 64)) = true := by rw [bne_iff_ne]; exact e
      rw [this]; rfl
theorem edg_past (v n j : Nat) : edg v n (n + j) = edg v n n := by
  induction j with
  | zero => rfl
  | succ j ih => rw [← Nat.add_assoc, edg, if_neg (fun g => by omega), ih]; rfl

/-- all bits stand again n further -/
def Per (v n : Nat) : Prop := ∀ i, i < 64 → v.testBit i = v.testBit (i % n)
theorem sz_dvd {n : Nat} (h : isSz (n : Int) = true) : n ∣ 64 ∧ 2 ≤ n ∧ n ≤ 64 := by
  have : ∀ n : Nat, n < 65 → isSz (n : Int) = true → n ∣ 64 ∧ 2 ≤ n ∧ n ≤ 64 := by decide +kernel
  exact this n (by have := isSz_cases h; omega) h
theorem sz_dvd2 {m n : Nat} (hm : isSz (m : Int) = true) (hn : isSz (n : Int) = true) (h : m ≤ n) : m ∣ n := by
  have : ∀ m : Nat, m < 65 → isSz (m : Int) = true → ∀ n : Nat, n < 65 → isSz (n : Int) = true → m ≤ n → m ∣ n := by decide +kernel
  exact this m (by have := isSz_cases hm; omega) hm n (by have := isSz_cases hn; omega) hn h
theorem same_per {v n : Nat} (hn : n ∣ 64) (h1 : 1 ≤ n) : sameTo v n 64 ↔ Per v n := by
  constructor
  · intro h i
    induction i using Nat.strongRecOn with
    | _ i ih =>
      intro hi
      by_cases g : i < n
      · rw [Nat.mod_eq_of_lt g]
      · have a := h (i - n) (by omega)
        rw [Nat.sub_add_cancel (by omega), Nat.mod_eq_of_lt hi] at a
        rw [← a, ih (i - n) (by omega) (by omega), Nat.mod_eq_sub_mod (a := i) (by omega)]
  · intro h i hi
    rw [h i hi, h ((i + n) % 64) (Nat.mod_lt _ (by omega)), Nat.mod_mod_of_dvd _ hn, Nat.add_mod_right]
theorem Per.up {v m n : Nat} (h : Per v m) (hd : m ∣ n) : Per v n := by
  intro i hi
  have hl : i % n < 64 := Nat.lt_of_le_of_lt (Nat.mod_le _ _) hi
  rw [h i hi, h (i % n) hl, Nat.mod_mod_of_dvd _ hd]
theorem Per.half {v h : Nat} (hp : Per v (2 * h)) (hq : per v h = true) (h64 : 2 * h ≤ 64) (h1 : 1 ≤ h) : Per v h := by
  intro i hi
  rw [hp i hi]
  have hl : i % (2 * h) < 2 * h := Nat.mod_lt _ (by omega)
  have e : i % (2 * h) % h = i % h := Nat.mod_mod_of_dvd _ (Nat.dvd_mul_left _ _)
  by_cases g : i % (2 * h) < h
  · rw [← e, Nat.mod_eq_of_lt g]
  · have := per_is.1 hq (i % (2 * h) - h) (by omega)
    rw [Nat.sub_add_cancel (by omega)] at this
    rw [← this]
    congr 1
    generalize i % (2 * h) = r at *
    rw [← e, Nat.mod_eq_sub_mod (show r ≥ h by omega), Nat.mod_eq_of_lt (by omega)]
theorem Per.top (v : Nat) : Per v 64 := fun i hi => by rw [Nat.mod_eq_of_lt hi]
theorem Per.per {v n h : Nat} (hp : Per v n) (hd : n ∣ h) (h64 : 2 * h ≤ 64) : per v h = true := by
  rw [per_is]; intro k hk
  rw [hp k (by omega), hp (k + h) (by omega)]
  obtain ⟨c, rfl⟩ := hd
  rw [Nat.add_mul_mod_self_left]
/-- the least size of which a word is made: it stands again so, and not sooner -/
theorem szO_spec (v : Nat) : isSz (szO v : Int) = true ∧ Per v (szO v) ∧ (∀ n : Nat, isSz (n : Int) = true → n < szO v → ¬ Per v n) := by
  have low : ∀ h : Nat, isSz (h : Int) = true → 2 * h ≤ 64 → per v h = false → ∀ n : Nat, isSz (n : Int) = true → n < 2 * h → ¬ Per v n := by
    intro h hh h64 hf n hn hlt hp
    have : n ≤ h := by
      have a := isSz_cases hn; have b := isSz_cases hh; omega
    rw [hp.per (sz_dvd2 hn hh this) h64] at hf; cases hf
  unfold szO
  cases h32 : per v 32
  · exact ⟨rfl, Per.top v, low 32 rfl (by decide) h32⟩
  have p32 := (Per.top v).half (h := 32) h32 (by decide) (by decide)
  cases h16 : per v 16
  · exact ⟨rfl, p32, low 16 rfl (by decide) h16⟩
  have p16 := p32.half (h := 16) h16 (by decide) (by decide)
  cases h8 : per v 8
  · exact ⟨rfl, p16, low 8 rfl (by decide) h8⟩
  have p8 := p16.half (h := 8) h8 (by decide) (by decide)
  cases h4 : per v 4
  · exact ⟨rfl, p8, low 4 rfl (by decide) h4⟩
  have p4 := p8.half (h := 4) h4 (by decide) (by decide)
  cases h2 : per v 2
  · exact ⟨rfl, p4, low 2 rfl (by decide) h2⟩
  have p2 := p4.half (h := 2) h2 (by decide) (by decide)
  exact ⟨rfl, p2, fun n hn hlt => absurd hlt (by have := isSz_cases hn; show ¬ n < 2; omega)⟩
theorem szO_of {v n : Nat} (hn : isSz (n : Int) = true) (hp : Per v n) (hm : ∀ m : Nat, isSz (m : Int) = true → m < n → ¬ Per v m) : szO v = n := by
  have ⟨a, b, c⟩ := szO_spec v
  by_cases h1 : szO v < n
  · exact absurd b (hm _ a h1)
  · by_cases h2 : n < szO v
    · exact absurd hp (c n hn h2)
    · omega
end Lg

/- Plain mathematics of layer 19: words of elements are found, and no other words; both Encodes agree. -/
namespace Lg
open Go
open Cq

theorem tb_mod (n o t i : Nat) : tb n o t i = decide ((i + t) % n < o) := by unfold tb; rw [Nat.mod_add_mod]
theorem tb_per (n o t i : Nat) : tb n o t (i % n) = tb n o t i := by unfold tb; rw [Nat.mod_mod]
theorem tws_at {i : Nat} (n o t : Nat) (h : i < 64) : (tws n o t 64).testBit i = tb n o t i := by rw [tws_bit, decide_eq_true h, Bool.true_and]
theorem tws_per {n : Nat} (o t : Nat) : Per (tws n o t 64) n := fun i hi => by
  rw [tws_at n o t hi, tws_at n o t (Nat.lt_of_le_of_lt (Nat.mod_le _ _) hi), tb_per]
theorem tws_not {n o t m : Nat} (hn : isSz (n : Int) = true) (h1 : 1 ≤ o) (h2 : o < n) (h4 : t < n) (hm : isSz (m : Int) = true) (hlt : m < n) : ¬ Per (tws n o t 64) m := by
  intro hp
  obtain ⟨h, hh, hhs⟩ : ∃ h : Nat, n = 2 * h ∧ isSz (h : Int) = true ∧ m ≤ h := by
    have a := isSz_cases hn; have b := isSz_cases hm
    refine ⟨n / 2, by omega, ?_, by omega⟩
    simp only [isSz, Bool.or_eq_true, beq_iff_eq]; omega
  have hq := hp.up (sz_dvd2 hm hhs.1 hhs.2)
  have h64 := sz_dvd hn
  have hd : h ∣ n := ⟨2, by omega⟩
  have key : ∀ i, tb n o t i = tb n o t (i % h) := by
    intro i
    have hl : i % n < 64 := Nat.lt_of_lt_of_le (Nat.mod_lt _ (by omega)) h64.2.2
    have a := hq (i % n) hl
    rw [Nat.mod_mod_of_dvd _ hd, tws_at n o t hl, tws_at n o t (Nat.lt_of_lt_of_le (Nat.mod_lt _ (by omega)) (show h ≤ 64 by omega)), tb_per] at a
    exact a
  have step : ∀ i, tb n o t (i + h) = tb n o t i := fun i => by rw [key (i + h), Nat.add_mod_right, ← key]
  have a1 := step (n - t)
  rw [tb_mod, tb_mod, show n - t + h + t = h + n by omega, show n - t + t = 0 + n by omega, Nat.add_mod_right, Nat.add_mod_right, Nat.mod_eq_of_lt (show h < n by omega), Nat.zero_mod, decide_eq_true (show 0 < o by omega)] at a1
  have ho := of_decide_eq_true a1
  have a2 := step (n - t + (o - h))
  rw [tb_mod, tb_mod, show n - t + (o - h) + h + t = o + n by omega, show n - t + (o - h) + t = (o - h) + n by omega, Nat.add_mod_right, Nat.add_mod_right, Nat.mod_eq_of_lt h2, Nat.mod_eq_of_lt (show o - h < n by omega), decide_eq_false (show ¬ o < o by omega), decide_eq_true (show o - h < o by omega)] at a2
  cases a2
theorem szO_tws {n o t : Nat} (hn : isSz (n : Int) = true) (h1 : 1 ≤ o) (h2 : o < n) (h4 : t < n) : szO (tws n o t 64) = n :=
  szO_of hn (tws_per o t) fun _ hm hlt => tws_not hn h1 h2 h4 hm hlt
theorem cf_mul {f : Nat → Bool} {n : Nat} (hp : ∀ i, f (i + n) = f i) (c : Nat) : cf f (n * c) = c * cf f n := by
  have add : ∀ a b, cf f (a + b) = cf f a + cf (fun i => f (i + a)) b := by
    intro a b
    induction b with
    | zero => rfl
    | succ b ih => rw [← Nat.add_assoc, cf, cf, ih, Nat.add_comm a b]; omega
  induction c with
  | zero => simp [cf]
  | succ c ih =>
    rw [Nat.mul_succ, Nat.add_comm, add, show (fun i => f (i + n)) = f from funext hp, ih, Nat.succ_mul]; omega
theorem pop_mul {v n : Nat} (hp : Per v n) (hd : n ∣ 64) (h1 : 1 ≤ n) : popTo v 64 = (64 / n) * popTo v n := by
  obtain ⟨c, hc⟩ := hd
  have hn : n ≤ 64 := Nat.le_of_dvd (by omega) ⟨c, hc⟩
  rw [popTo_cf, popTo_cf, cf_congr (g := fun i => v.testBit (i % n)) (fun i hi => hp i hi), cf_congr (f := v.testBit) (g := fun i => v.testBit (i % n)) (k := n) (fun i hi => hp i (by omega))]
  have e : 64 / n = c := by rw [hc]; exact Nat.mul_div_cancel_left _ (by omega)
  rw [e, show cf (fun i => v.testBit (i % n)) 64 = cf (fun i => v.testBit (i % n)) (n * c) by rw [← hc]]
  exact cf_mul (fun i => by simp) c
theorem cnt_pop (v : Int) : cnt v = popTo v.toNat (szO v.toNat) := by
  have ⟨a, b, _⟩ := szO_spec v.toNat
  have h := sz_dvd a
  unfold cnt ones
  rw [pop_mul b h.1 (by omega)]
  exact Nat.mul_div_cancel_left _ (Nat.div_pos h.2.2 (by omega))
theorem cf_tb {n o : Nat} (t : Nat) (h2 : o ≤ n) : cf (fun i => decide ((i + t) % n < o)) n = o := by
  rw [cf_turn (f := fun i => decide (i % n < o)) (fun i => by simp) t, cf_congr (g := fun i => decide (i < o)) (fun i hi => by simp [Nat.mod_eq_of_lt hi])]
  exact cf_lt o n h2
theorem pop_tws {n o t : Nat} (h2 : o < n) (hn : n ≤ 64) : popTo (tws n o t 64) n = o := by
  rw [popTo_cf, cf_congr (g := fun i => decide ((i + t) % n < o)) (fun i hi => by rw [tws_at n o t (by omega), tb_mod])]
  exact cf_tb t (by omega)
theorem al_tws {n o t : Nat} (hn : isSz (n : Int) = true) (h1 : 1 ≤ o) (h2 : o < n) : al (tws n o t 64) n = true := by
  have h64 := sz_dvd hn
  unfold al
  rw [decide_eq_true ((same_per h64.1 (by omega)).2 (tws_per o t)), Bool.true_and, beq_iff_eq]
  rw [show 64 = n + (64 - n) by omega, edg_past, edg_cf _ _ _ (Nat.le_refl _), ← show 64 = n + (64 - n) by omega]
  rw [cf_congr (g := fun i => decide ((i + t) % n = o - 1) || decide ((i + t) % n = n - 1)) (fun i hi => by
    rw [tws_at n o t (by omega), tws_at n o t (Nat.mod_lt _ (by omega)), tb_mod, ← tb_per, Nat.mod_mod_of_dvd _ h64.1, tb_per, tb_mod]
    have hr : (i + t) % n < n := Nat.mod_lt _ (by omega)
    have e : (i + 1 + t) % n = ((i + t) % n + 1) % n := by rw [Nat.mod_add_mod]; congr 1; omega
    rw [e]
    generalize (i + t) % n = r at *
    by_cases g : r = n - 1
    · subst g
      rw [show n - 1 + 1 = n by omega, Nat.mod_self, decide_eq_true (show 0 < o by omega), decide_eq_true (rfl : n - 1 = n - 1), Bool.or_true, decide_eq_false (show ¬ n - 1 < o by omega)]; rfl
    · rw [Nat.mod_eq_of_lt (show r + 1 < n by omega), decide_eq_false g, Bool.or_false]
      by_cases q : r = o - 1
      · rw [decide_eq_true q, decide_eq_true (show r < o by omega), decide_eq_false (show ¬ r + 1 < o by omega)]; rfl
      · rw [decide_eq_false q]
        by_cases z : r < o
        · rw [decide_eq_true z, decide_eq_true (show r + 1 < o by omega)]; rfl
        · rw [decide_eq_false z, decide_eq_false (show ¬ r + 1 < o by omega)]; rfl)]
  rw [cf_turn (f := fun i => decide (i % n = o - 1) || decide (i % n = n - 1)) (fun i => by simp) t,
    cf_congr (g := fun i => decide (i = o - 1) || decide (i = n - 1)) (fun i hi => by rw [Nat.mod_eq_of_lt hi]),
    cf_or (f := fun i => decide (i = o - 1)) (g := fun i => decide (i = n - 1)) n (fun i _ g => by
      have a := of_decide_eq_true g.1; have b := of_decide_eq_true g.2; omega), cf_eq, cf_eq, if_pos (by omega), if_pos (by omega)]
/-- a word of equal elements with two edges each is one of those words -/
theorem al_word {v n : Nat} (hv : v < 2 ^ 64) (hn : isSz (n : Int) = true) (h : al v n = true) : ∃ o t, 1 ≤ o ∧ o < n ∧ t < n ∧ v = tws n o t 64 := by
  have h64 := sz_dvd hn
  unfold al at h
  rw [Bool.and_eq_true, beq_iff_eq] at h
  have hp := (same_per h64.1 (by omega)).1 (of_decide_eq_true h.1)
  have he := h.2
  rw [show 64 = n + (64 - n) by omega, edg_past, edg_cf _ _ _ (Nat.le_refl _)] at he
  obtain ⟨e1, e2, h12, h2n, f1, f2, only⟩ := cf_two he
  have edge : ∀ i, i < n → (v.testBit i != v.testBit ((i + 1) % 64)) = (v.testBit (i % n) != v.testBit ((i + 1) % n)) := fun i hi => by
    rw [hp i (by omega), hp ((i + 1) % 64) (Nat.mod_lt _ (by omega)), Nat.mod_mod_of_dvd _ h64.1]
  have run : ∀ i, i ≤ n → v.testBit (i % n) = if i ≤ e1 then v.testBit 0 else if i ≤ e2 then !v.testBit 0 else v.testBit 0 := by
    intro i
    induction i with
    | zero => intro _; rw [Nat.zero_mod, if_pos (by omega)]
    | succ i ih =>
      intro hi
      have a := ih (by omega)
      have b := edge i (by omega)
      have g := only i (by omega)
      by_cases x1 : i = e1
      · subst x1
        rw [b, a, if_pos (Nat.le_refl _)] at f1
        rw [if_neg (by omega), if_pos (by omega)]
        revert f1; cases v.testBit 0 <;> cases v.testBit ((i + 1) % n) <;> simp
      · by_cases x2 : i = e2
        · subst x2
          rw [b, a, if_neg (by omega), if_pos (Nat.le_refl _)] at f2
          rw [if_neg (by omega), if_neg (by omega)]
          revert f2; cases v.testBit 0 <;> cases v.testBit ((i + 1) % n) <;> simp
        · have c : v.testBit (i % n) = v.testBit ((i + 1) % n) := by
            cases q : (v.testBit (i % n) != v.testBit ((i + 1) % n))
            · simpa using q
            · rw [b, q] at g
              rcases g rfl with rfl | rfl
              · exact absurd rfl x1
              · exact absurd rfl x2
          rw [← c, a]
          by_cases y1 : i ≤ e1
          · rw [if_pos y1, if_pos (show i + 1 ≤ e1 by omega)]
          · rw [if_neg y1, if_neg (show ¬ i + 1 ≤ e1 by omega)]
            by_cases y2 : i ≤ e2
            · rw [if_pos y2, if_pos (show i + 1 ≤ e2 by omega)]
            · rw [if_neg y2, if_neg (show ¬ i + 1 ≤ e2 by omega)]
  have big : ∀ i, ¬ i < 64 → v.testBit i = false := fun i hi => Nat.testBit_lt_two_pow (Nat.lt_of_lt_of_le hv (Nat.pow_le_pow_right (by omega) (by omega)))
  have ext : ∀ o t, t < n → (∀ j, j < n → v.testBit (j % n) = decide ((if j + t < n then j + t else j + t - n) < o)) → v = tws n o t 64 := by
    intro o t ht hj
    apply Nat.eq_of_testBit_eq
    intro i
    by_cases hi : i < 64
    · have hl : i % n < n := Nat.mod_lt _ (by omega)
      rw [tws_at n o t hi, ← tb_per, hp i hi]
      have := hj (i % n) hl
      rw [Nat.mod_eq_of_lt hl] at this
      rw [this]; unfold tb; rw [mod_add hl ht]
    · rw [big i hi, tws_bit, decide_eq_false hi]; rfl
  cases v0 : v.testBit 0
  · refine ⟨e2 - e1, n - 1 - e1, by omega, by omega, by omega, ext _ _ (by omega) fun j hj => ?_⟩
    rw [run j (by omega), v0]
    by_cases y1 : j ≤ e1
    · rw [if_pos y1, if_pos (by omega), decide_eq_false (by omega)]
    · rw [if_neg y1, if_neg (show ¬ j + (n - 1 - e1) < n by omega)]
      by_cases y2 : j ≤ e2
      · rw [if_pos y2, decide_eq_true (by omega)]; rfl
      · rw [if_neg y2, decide_eq_false (by omega)]
  · refine ⟨n - (e2 - e1), n - 1 - e2, by omega, by omega, by omega, ext _ _ (by omega) fun j hj => ?_⟩
    rw [run j (by omega), v0]
    by_cases y1 : j ≤ e1
    · rw [if_pos y1, if_pos (by omega), decide_eq_true (by omega)]
    · rw [if_neg y1]
      by_cases y2 : j ≤ e2
      · rw [if_pos y2, if_pos (show j + (n - 1 - e2) < n by omega), decide_eq_false (by omega)]; rfl
      · rw [if_neg y2, if_neg (show ¬ j + (n - 1 - e2) < n by omega), decide_eq_true (by omega)]
theorem al_ones (n : Nat) : al 18446744073709551615 n = false := by
  have : ∀ k, k ≤ 64 → edg 18446744073709551615 n k = 0 := by
    intro k
    induction k with
    | zero => intro _; rfl
    | succ k ih =>
      intro hk
      rw [edg, ih (by omega), if_neg]
      intro g
      have : ∀ i, i < 64 → (18446744073709551615 : Nat).testBit i = true := by decide +kernel
      exact g.2 (by rw [this k (by omega), this _ (Nat.mod_lt _ (by omega))])
  unfold al; rw [this 64 (Nat.le_refl _)]; exact Bool.and_false _
end Lg

/- Plain mathematics of layer 19: both Encodes agree; what is encoded is decoded. -/
namespace Lg
open Go
open Cq

theorem word_of {v : Int} (hv : U64 v) {n o t : Nat} (hok : okT n o t = true) (h : TW n o t = v) : v.toNat = tws n o t 64 := by
  have e : TW n o t = (tws n o t 64 : Int) := by unfold TW; rw [hok]; rfl
  rw [e] at h; subst h; rfl
theorem ok_of {v : Int} (h0 : v ≠ 0) {n o t : Int} (h : TW n o t = v) : okT n o t = true := by
  cases g : okT n o t
  · rw [TW_zero g] at h; exact absurd h.symm h0
  · rfl
theorem found {v : Int} (hv : U64 v) (h0 : v ≠ 0) {n o t : Nat} (h : TW n o t = v) : isSz (n : Int) = true ∧ 1 ≤ o ∧ o < n ∧ t < n ∧ v.toNat = tws n o t 64 ∧ szO v.toNat = n ∧ popTo v.toNat n = o ∧ al v.toNat n = true := by
  have hok := ok_of h0 h
  have ⟨hs, h1, h2, _, h4⟩ := okT_is hok
  have e := word_of hv hok h
  have h64 := sz_dvd hs
  refine ⟨hs, by omega, by omega, by omega, e, ?_, ?_, ?_⟩
  · rw [e]; exact szO_tws hs (by omega) (by omega) (by omega)
  · rw [e]; exact pop_tws (by omega) (by omega)
  · rw [e]; exact al_tws hs (by omega) (by omega)
theorem sz_pow {n : Nat} (h : isSz (n : Int) = true) : ∃ k, k < 6 ∧ n = 2 ^ (k + 1) := by
  rcases isSz_cases h with h | h | h | h | h | h
  · exact ⟨0, by omega, by omega⟩
  · exact ⟨1, by omega, by omega⟩
  · exact ⟨2, by omega, by omega⟩
  · exact ⟨3, by omega, by omega⟩
  · exact ⟨4, by omega, by omega⟩
  · exact ⟨5, by omega, by omega⟩
theorem pow_sz {k : Nat} (h : k < 6) : isSz ((2 ^ (k + 1) : Nat) : Int) = true := by
  have : ∀ k : Nat, k < 6 → isSz ((2 ^ (k + 1) : Nat) : Int) = true := by decide +kernel
  exact this k h
/-- at every other size nothing is found -/
theorem fail_else {v : Int} (hv : U64 v) {n : Nat} (h : n ≠ szO v.toNat) : Fail v n := by
  by_cases h0 : v = 0
  · subst h0; exact Or.inl (al_zero n)
  · exact Or.inr fun t _ ht => h ((found hv h0 ht).2.2.2.2.2.1).symm
theorem fail_got {v c : Int} {n : Nat} (h : Fail v n) (g : Got v c n) : False := by
  rcases h with h | h
  · rw [g.1] at h; cases h
  · obtain ⟨_, t, ht, hw, _⟩ := g; exact h t ht hw
theorem fails_at {v : Int} (h : Fails v 6) {n : Nat} (hn : isSz (n : Int) = true) : Fail v n := by
  obtain ⟨k, hk, rfl⟩ := sz_pow hn
  exact h k hk
theorem agree {v c c' : Int} {ok ok' : Bool} (hv : U64 v) (h : Enc v c ok) (h' : EncR v c' ok') : c = c' ∧ ok = ok' := by
  have ⟨hs, hp, hm⟩ := szO_spec v.toNat
  have hc := cnt_pop v
  rcases h with ⟨rfl, rfl, h⟩ | ⟨h0, rfl, t, ht, hw, first, rfl⟩
  · have hf : Fail v (szO v.toNat) := by
      rcases h with h | ⟨_, h⟩
      · subst h; exact Or.inl (al_zero _)
      · refine Or.inr ?_; rw [← hc]; exact h
    rcases h' with ⟨rfl, rfl, _⟩ | ⟨rfl, k, hk, _, _, g⟩
    · exact ⟨rfl, rfl⟩
    · exfalso
      by_cases e : 2 ^ (k + 1) = szO v.toNat
      · rw [e] at g; exact fail_got hf g
      · exact fail_got (fail_else hv e) g
  · have f := found hv h0 hw
    have g0 : Got v ((code (szO v.toNat) (cnt v - 1) t : Nat) : Int) (szO v.toNat) := by
      refine ⟨f.2.2.2.2.2.2.2, t, ht, ?_⟩
      rw [← hc]; exact ⟨hw, first, rfl⟩
    rcases h' with ⟨rfl, rfl, hf⟩ | ⟨rfl, k, hk, _, _, g⟩
    · exact (fail_got (fails_at hf hs) g0).elim
    · by_cases e : 2 ^ (k + 1) = szO v.toNat
      · rw [e] at g
        obtain ⟨_, t', ht', hw', first', rfl⟩ := g
        rw [← hc] at hw' first'
        have : t = t' := by
          by_cases a : t < t'
          · exact absurd hw (first' t a)
          · by_cases b : t' < t
            · exact absurd hw' (first t' b)
            · omega
        subst this
        exact ⟨by rw [hc], rfl⟩
      · exact (fail_got (fail_else hv e) g).elim
theorem szN_code : ∀ n : Nat, n < 33 → isSz (n : Int) = true → ∀ q : Nat, q < 31 → q + 1 < n → szN (64 - 2 * n + q) = n := by decide +kernel
theorem dec_code {n q t : Nat} (hn : isSz (n : Int) = true) (hq : q + 1 < n) (ht : t < n) : dec (code n q t) = TW n (q + 1 : Nat) t := by
  have h64 := sz_dvd hn
  unfold dec code
  by_cases e : n = 64
  · subst e
    rw [if_pos rfl, if_neg (by omega)]
    have z : szB (4096 + 64 * t + q) = 64 := by unfold szB; rw [if_neg (by omega)]
    rw [z, if_neg (by omega), show (4096 + 64 * t + q) % 64 % 64 = q by omega, show (4096 + 64 * t + q) / 64 % 64 % 64 = t by omega]
  · have hn32 : n < 33 := by have := isSz_cases hn; omega
    rw [if_neg e, if_neg (by omega)]
    have a : (64 - 2 * n + 64 * t + q) % 64 = 64 - 2 * n + q := by omega
    have b : (64 - 2 * n + 64 * t + q) / 64 = t := by omega
    have z : szB (64 - 2 * n + 64 * t + q) = n := by
      unfold szB; rw [if_pos (by omega), a]; exact szN_code n hn32 hn q (by omega) hq
    rw [z, if_neg (by omega), a, b]
    have r : (64 - 2 * n + q) % n = q := by
      rcases isSz_cases hn with h | h | h | h | h | h
      · obtain rfl : n = 2 := by omega
        omega
      · obtain rfl : n = 4 := by omega
        omega
      · obtain rfl : n = 8 := by omega
        omega
      · obtain rfl : n = 16 := by omega
        omega
      · obtain rfl : n = 32 := by omega
        omega
      · omega
    rw [r, Nat.mod_eq_of_lt (show t < 64 by omega), Nat.mod_eq_of_lt ht]
theorem code_lt {n q t : Nat} (hn : n ≤ 64) (hq : q + 1 < n) (ht : t < n) : code n q t < 4294967296 := by unfold code; split <;> omega
/-- what Encode finds -/
theorem Enc.yes {v c : Int} (hv : U64 v) (h : Enc v c true) : (0 ≤ c ∧ c < 4294967296) ∧ dec c.toNat = v ∧ v ≠ 0 ∧ v ≠ 18446744073709551615 := by
  rcases h with ⟨_, h, _⟩ | ⟨h0, _, t, ht, hw, _, rfl⟩
  · cases h
  · have ⟨hs, h1, h2, h4, e, _, _, ha⟩ := found hv h0 hw
    have h64 := sz_dvd hs
    have l := code_lt (n := szO v.toNat) (q := cnt v - 1) (t := t) h64.2.2 (by omega) ht
    refine ⟨⟨by omega, by omega⟩, ?_, h0, fun g => ?_⟩
    · show dec (code _ _ _) = v
      rw [dec_code hs (by omega) ht, Nat.sub_add_cancel h1]; exact hw
    · subst g
      rw [show (18446744073709551615 : Int).toNat = 18446744073709551615 from rfl, al_ones] at ha; cases ha
theorem Enc.no {v c : Int} (h : Enc v c false) : c = 0 := by
  rcases h with ⟨h, _⟩ | ⟨_, h, _⟩
  · exact h
  · cases h
/-- Encode finds bits where some size has alike elements with two edges -/
def alAny (v : Nat) : Bool := al v 2 || al v 4 || al v 8 || al v 16 || al v 32 || al v 64
theorem alAny_of {v n : Nat} (hn : isSz (n : Int) = true) (h : al v n = true) : alAny v = true := by
  unfold alAny
  simp only [Bool.or_eq_true]
  rcases isSz_cases hn with g | g | g | g | g | g
  · obtain rfl : n = 2 := by omega
    simp [h]
  · obtain rfl : n = 4 := by omega
    simp [h]
  · obtain rfl : n = 8 := by omega
    simp [h]
  · obtain rfl : n = 16 := by omega
    simp [h]
  · obtain rfl : n = 32 := by omega
    simp [h]
  · obtain rfl : n = 64 := by omega
    simp [h]
theorem alAny_is {v : Nat} (h : alAny v = true) : ∃ n : Nat, isSz (n : Int) = true ∧ al v n = true := by
  unfold alAny at h
  simp only [Bool.or_eq_true] at h
  rcases h with ((((h | h) | h) | h) | h) | h
  · exact ⟨2, rfl, h⟩
  · exact ⟨4, rfl, h⟩
  · exact ⟨8, rfl, h⟩
  · exact ⟨16, rfl, h⟩
  · exact ⟨32, rfl, h⟩
  · exact ⟨64, rfl, h⟩
theorem Enc.word {v c : Int} {ok : Bool} (hv : U64 v) (h : Enc v c ok) {n o t : Nat} (hn : isSz (n : Int) = true) (h1 : 1 ≤ o) (h2 : o < n) (h4 : t < n) (e : v.toNat = tws n o t 64) : ok = true := by
  have h64 := sz_dvd hn
  have hz : szO v.toNat = n := by rw [e]; exact szO_tws hn h1 h2 h4
  have hpop : popTo v.toNat n = o := by rw [e]; exact pop_tws h2 h64.2.2
  have hc : cnt v = o := by rw [cnt_pop, hz, hpop]
  have hok : okT n o t = true := by unfold okT; rw [hn, Bool.true_and]; exact decide_eq_true (by omega)
  have hw : TW n o t = v := by
    unfold TW; rw [hok]
    show (tws n o t 64 : Int) = v
    rw [← e]; have := hv.1; omega
  rcases h with ⟨_, _, h⟩ | ⟨_, h, _⟩
  · exfalso
    rcases h with h | ⟨_, h⟩
    · subst h
      have := TW_pos hok; omega
    · rw [hz, hc] at h; exact h t h4 hw
  · exact h
theorem alike_agree {v c : Int} {ok : Bool} (hv : U64 v) (h : Enc v c ok) : ok = alAny v.toNat := by
  cases g : alAny v.toNat
  · rcases h with ⟨_, h, _⟩ | ⟨h0, _, t, ht, hw, _, _⟩
    · exact h
    · have f := found hv h0 hw
      rw [alAny_of f.1 f.2.2.2.2.2.2.2] at g; cases g
  · obtain ⟨n, hn, ha⟩ := alAny_is g
    obtain ⟨o, t, h1, h2, h4, e⟩ := al_word (by have := hv.2; have := hv.1; have : (2 : Nat) ^ 64 = 18446744073709551616 := by decide
                                                omega) hn ha
    exact h.word hv hn h1 h2 h4 e
theorem turned_found {n o t c : Int} {ok : Bool} (h : Enc (TW n o t) c ok) : ok = (TW n o t != 0) := by
  cases g : okT n o t
  · rw [TW_zero g] at h ⊢
    rcases h with ⟨_, h, _⟩ | ⟨h0, _⟩
    · exact h
    · exact absurd rfl h0
  · have ⟨hs, h1, h2, h3, h4⟩ := okT_is g
    have hp := TW_pos g
    have e : (TW n o t).toNat = tws n.toNat o.toNat t.toNat 64 := by unfold TW; rw [g]; rfl
    have hn0 : 0 ≤ n := by omega
    have : ok = true := h.word (TW_u64 _ _ _) (n := n.toNat) (o := o.toNat) (t := t.toNat) (by rw [show ((n.toNat : Nat) : Int) = n by omega]; exact hs) (by omega) (by omega) (by omega) e
    rw [this]; symm; rw [bne_iff_ne]; omega
end Lg
