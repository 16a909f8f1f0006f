/- Walks of layer 19: the size of elements of a word, of the code. -/
import Derived.Test.YtlhinabodofjeaaLf
import Derived.Test.YtlhinabodofjeaaLn
import Derived.WalkMore
namespace Go.Proofs.Ytlhinabodofjeaa
open Go.RowKit
open Cq (U32 U64 I64 ones)
open Lg

set_option maxHeartbeats 1000000 in
theorem sizeOf_any (v : Int) (hv : U64 v) (W : World) : Calls Try.prog 18 #[.int .u64 v] W fun e W' => e = .returned (.int .i64 (szO v.toNat : Int)) ∧ W = W' := by
  have hv0 := hv.1
  go_enter Try.func18, Try.ntmps18
  go_wp2_with fail
  go_step3
  go_wp2_with fail
  go_step3
  go_wp2_with fail
  go_loop [3, 4] (fun z h => 
       z = .int .i64 64 ∧ h = .int .i64 32
     ∨ z = .int .i64 32 ∧ h = .int .i64 16 ∧ Hid (per v.toNat 32 = true)
     ∨ z = .int .i64 16 ∧ h = .int .i64 8 ∧ Hid (per v.toNat 32 = true ∧ per v.toNat 16 = true)
     ∨ z = .int .i64 8 ∧ h = .int .i64 4 ∧ Hid (per v.toNat 32 = true ∧ per v.toNat 16 = true ∧ per v.toNat 8 = true)
     ∨ z = .int .i64 4 ∧ h = .int .i64 2 ∧ Hid (per v.toNat 32 = true ∧ per v.toNat 16 = true ∧ per v.toNat 8 = true ∧ per v.toNat 4 = true)
     ∨ z = .int .i64 2 ∧ h = .int .i64 1 ∧ Hid (per v.toNat 32 = true ∧ per v.toNat 16 = true ∧ per v.toNat 8 = true ∧ per v.toNat 4 = true ∧ per v.toNat 2 = true)) (fun _ h => (intOf h).toNat)
  case atStart => exact Or.inl ⟨rfl, rfl⟩
  case round =>
    rcases hrel with ⟨rfl, rfl⟩ | ⟨rfl, rfl, hp⟩ | ⟨rfl, rfl, hp⟩ | ⟨rfl, rfl, hp⟩ | ⟨rfl, rfl, hp⟩ | ⟨rfl, rfl, hp⟩
    · go_wp2_with fail
      go_loop [5, 13] (fun _ i => ∃ j : Nat, j ≤ 32 ∧ i = .int .i64 j ∧ Hid (∀ k, k < j → v.toNat.testBit k = v.toNat.testBit (k + 32))) (fun _ i => 32 - (intOf i).toNat)
      case atStart => exact ⟨0, by omega, rfl, fun k hk => absurd hk (by omega)⟩
      case round =>
        obtain ⟨j, hj, rfl, hq⟩ := hrel
        by_cases hlt : (j : Int) < 32
        · have hjn : Hid (j < 32) := by show j < 32; omega
          have H := bit_ne hv j (j + 32)
          by_cases hb : v.toNat.testBit j = v.toNat.testBit (j + 32)
          · have HB := Lib.hid hb
            rw [hb, bne_self_eq_false] at H
            clear hb
            go_wp2_with fail
            go_round
            case rel => exact ⟨j + 1, by have := hjn.out; omega, by rw [Int.natCast_add]; rfl, fun k hk => by
              by_cases e : k = j
              · subst e; exact HB.out
              · exact hq.out k (by omega)⟩
            case measure =>
              have := hjn.out
              show 32 - ((j : Int) + 1).toNat < 32 - (j : Int).toNat; omega
          · have hne : (v.toNat.testBit j != v.toNat.testBit (j + 32)) = true := by rw [bne_iff_ne]; exact hb
            rw [hne] at H
            have F : Hid (szO v.toNat = 64) := by
              have Q := per_not hjn.out hb
              show _ = _
              unfold szO; rw [Q]; rfl
            clear hb hne
            go_wp2_with fail
            go_ret
            exact ⟨by rw [F.out]; rfl, rfl⟩
        · have P0 : per v.toNat 32 = true := per_is.2 fun k hk => hq.out k (by omega)
          have P := Lib.hid P0
          have hlt' := Int.not_lt.mp hlt
          clear P0 hlt hj
          go_wp2_with fail
          go_round
          case rel => exact Or.inr (Or.inl ⟨rfl, rfl, P⟩)
          case measure => decide
    · go_wp2_with fail
      go_loop [5, 13] (fun _ i => ∃ j : Nat, j ≤ 16 ∧ i = .int .i64 j ∧ Hid (∀ k, k < j → v.toNat.testBit k = v.toNat.testBit (k + 16))) (fun _ i => 16 - (intOf i).toNat)
      case atStart => exact ⟨0, by omega, rfl, fun k hk => absurd hk (by omega)⟩
      case round =>
        obtain ⟨j, hj, rfl, hq⟩ := hrel
        by_cases hlt : (j : Int) < 16
        · have hjn : Hid (j < 16) := by show j < 16; omega
          have H := bit_ne hv j (j + 16)
          by_cases hb : v.toNat.testBit j = v.toNat.testBit (j + 16)
          · have HB := Lib.hid hb
            rw [hb, bne_self_eq_false] at H
            clear hb
            go_wp2_with fail
            go_round
            case rel => exact ⟨j + 1, by have := hjn.out; omega, by rw [Int.natCast_add]; rfl, fun k hk => by
              by_cases e : k = j
              · subst e; exact HB.out
              · exact hq.out k (by omega)⟩
            case measure =>
              have := hjn.out
              show 16 - ((j : Int) + 1).toNat < 16 - (j : Int).toNat; omega
          · have hne : (v.toNat.testBit j != v.toNat.testBit (j + 16)) = true := by rw [bne_iff_ne]; exact hb
            rw [hne] at H
            have F : Hid (szO v.toNat = 32) := by
              have Q := per_not hjn.out hb
              have p0 := hp.out; show _ = _
              unfold szO; rw [p0, Q]; rfl
            clear hb hne
            go_wp2_with fail
            go_ret
            exact ⟨by rw [F.out]; rfl, rfl⟩
        · have P0 : per v.toNat 16 = true := per_is.2 fun k hk => hq.out k (by omega)
          have P := Lib.hid P0
          have hlt' := Int.not_lt.mp hlt
          clear P0 hlt hj
          go_wp2_with fail
          go_round
          case rel => have p0 := hp.out; exact Or.inr (Or.inr (Or.inl ⟨rfl, rfl, ⟨p0, P.out⟩⟩))
          case measure => decide
    · go_wp2_with fail
      go_loop [5, 13] (fun _ i => ∃ j : Nat, j ≤ 8 ∧ i = .int .i64 j ∧ Hid (∀ k, k < j → v.toNat.testBit k = v.toNat.testBit (k + 8))) (fun _ i => 8 - (intOf i).toNat)
      case atStart => exact ⟨0, by omega, rfl, fun k hk => absurd hk (by omega)⟩
      case round =>
        obtain ⟨j, hj, rfl, hq⟩ := hrel
        by_cases hlt : (j : Int) < 8
        · have hjn : Hid (j < 8) := by show j < 8; omega
          have H := bit_ne hv j (j + 8)
          by_cases hb : v.toNat.testBit j = v.toNat.testBit (j + 8)
          · have HB := Lib.hid hb
            rw [hb, bne_self_eq_false] at H
            clear hb
            go_wp2_with fail
            go_round
            case rel => exact ⟨j + 1, by have := hjn.out; omega, by rw [Int.natCast_add]; rfl, fun k hk => by
              by_cases e : k = j
              · subst e; exact HB.out
              · exact hq.out k (by omega)⟩
            case measure =>
              have := hjn.out
              show 8 - ((j : Int) + 1).toNat < 8 - (j : Int).toNat; omega
          · have hne : (v.toNat.testBit j != v.toNat.testBit (j + 8)) = true := by rw [bne_iff_ne]; exact hb
            rw [hne] at H
            have F : Hid (szO v.toNat = 16) := by
              have Q := per_not hjn.out hb
              have ⟨p0, p1⟩ := hp.out; show _ = _
              unfold szO; rw [p0, p1, Q]; rfl
            clear hb hne
            go_wp2_with fail
            go_ret
            exact ⟨by rw [F.out]; rfl, rfl⟩
        · have P0 : per v.toNat 8 = true := per_is.2 fun k hk => hq.out k (by omega)
          have P := Lib.hid P0
          have hlt' := Int.not_lt.mp hlt
          clear P0 hlt hj
          go_wp2_with fail
          go_round
          case rel => have ⟨p0, p1⟩ := hp.out; exact Or.inr (Or.inr (Or.inr (Or.inl ⟨rfl, rfl, ⟨p0, p1, P.out⟩⟩)))
          case measure => decide
    · go_wp2_with fail
      go_loop [5, 13] (fun _ i => ∃ j : Nat, j ≤ 4 ∧ i = .int .i64 j ∧ Hid (∀ k, k < j → v.toNat.testBit k = v.toNat.testBit (k + 4))) (fun _ i => 4 - (intOf i).toNat)
      case atStart => exact ⟨0, by omega, rfl, fun k hk => absurd hk (by omega)⟩
      case round =>
        obtain ⟨j, hj, rfl, hq⟩ := hrel
        by_cases hlt : (j : Int) < 4
        · have hjn : Hid (j < 4) := by show j < 4; omega
          have H := bit_ne hv j (j + 4)
          by_cases hb : v.toNat.testBit j = v.toNat.testBit (j + 4)
          · have HB := Lib.hid hb
            rw [hb, bne_self_eq_false] at H
            clear hb
            go_wp2_with fail
            go_round
            case rel => exact ⟨j + 1, by have := hjn.out; omega, by rw [Int.natCast_add]; rfl, fun k hk => by
              by_cases e : k = j
              · subst e; exact HB.out
              · exact hq.out k (by omega)⟩
            case measure =>
              have := hjn.out
              show 4 - ((j : Int) + 1).toNat < 4 - (j : Int).toNat; omega
          · have hne : (v.toNat.testBit j != v.toNat.testBit (j + 4)) = true := by rw [bne_iff_ne]; exact hb
            rw [hne] at H
            have F : Hid (szO v.toNat = 8) := by
              have Q := per_not hjn.out hb
              have ⟨p0, p1, p2⟩ := hp.out; show _ = _
              unfold szO; rw [p0, p1, p2, Q]; rfl
            clear hb hne
            go_wp2_with fail
            go_ret
            exact ⟨by rw [F.out]; rfl, rfl⟩
        · have P0 : per v.toNat 4 = true := per_is.2 fun k hk => hq.out k (by omega)
          have P := Lib.hid P0
          have hlt' := Int.not_lt.mp hlt
          clear P0 hlt hj
          go_wp2_with fail
          go_round
          case rel => have ⟨p0, p1, p2⟩ := hp.out; exact Or.inr (Or.inr (Or.inr (Or.inr (Or.inl ⟨rfl, rfl, ⟨p0, p1, p2, P.out⟩⟩))))
          case measure => decide
    · go_wp2_with fail
      go_loop [5, 13] (fun _ i => ∃ j : Nat, j ≤ 2 ∧ i = .int .i64 j ∧ Hid (∀ k, k < j → v.toNat.testBit k = v.toNat.testBit (k + 2))) (fun _ i => 2 - (intOf i).toNat)
      case atStart => exact ⟨0, by omega, rfl, fun k hk => absurd hk (by omega)⟩
      case round =>
        obtain ⟨j, hj, rfl, hq⟩ := hrel
        by_cases hlt : (j : Int) < 2
        · have hjn : Hid (j < 2) := by show j < 2; omega
          have H := bit_ne hv j (j + 2)
          by_cases hb : v.toNat.testBit j = v.toNat.testBit (j + 2)
          · have HB := Lib.hid hb
            rw [hb, bne_self_eq_false] at H
            clear hb
            go_wp2_with fail
            go_round
            case rel => exact ⟨j + 1, by have := hjn.out; omega, by rw [Int.natCast_add]; rfl, fun k hk => by
              by_cases e : k = j
              · subst e; exact HB.out
              · exact hq.out k (by omega)⟩
            case measure =>
              have := hjn.out
              show 2 - ((j : Int) + 1).toNat < 2 - (j : Int).toNat; omega
          · have hne : (v.toNat.testBit j != v.toNat.testBit (j + 2)) = true := by rw [bne_iff_ne]; exact hb
            rw [hne] at H
            have F : Hid (szO v.toNat = 4) := by
              have Q := per_not hjn.out hb
              have ⟨p0, p1, p2, p3⟩ := hp.out; show _ = _
              unfold szO; rw [p0, p1, p2, p3, Q]; rfl
            clear hb hne
            go_wp2_with fail
            go_ret
            exact ⟨by rw [F.out]; rfl, rfl⟩
        · have P0 : per v.toNat 2 = true := per_is.2 fun k hk => hq.out k (by omega)
          have P := Lib.hid P0
          have hlt' := Int.not_lt.mp hlt
          clear P0 hlt hj
          go_wp2_with fail
          go_round
          case rel => have ⟨p0, p1, p2, p3⟩ := hp.out; exact Or.inr (Or.inr (Or.inr (Or.inr (Or.inr (⟨rfl, rfl, ⟨p0, p1, p2, p3, P.out⟩⟩)))))
          case measure => decide
    · have F : Hid (szO v.toNat = 2) := by
        have ⟨p0, p1, p2, p3, p4⟩ := hp.out; show _ = _
        unfold szO; rw [p0, p1, p2, p3, p4]; rfl
      go_wp2_with fail
      go_ret
      exact ⟨by rw [F.out]; rfl, rfl⟩
end Go.Proofs.Ytlhinabodofjeaa
