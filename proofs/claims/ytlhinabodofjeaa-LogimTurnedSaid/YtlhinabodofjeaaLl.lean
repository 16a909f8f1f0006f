/- Walks of layer 19: thirteen bits of a word, of the document. -/
import Derived.Test.YtlhinabodofjeaaLk
import Derived.Test.YtlhinabodofjeaaLj
namespace Lg
open Go
open Cq
/-- no bits of elements of n bits are found -/
def Fail (v : Int) (n : Nat) : Prop := al v.toNat n = false ∨ ∀ t : Nat, t < n → TW n (popTo v.toNat n) t ≠ v
/-- bits of elements of n bits are found -/
def Got (v c : Int) (n : Nat) : Prop := al v.toNat n = true ∧ ∃ t : Nat, t < n ∧ TW n (popTo v.toNat n) t = v ∧ (∀ k : Nat, k < t → TW n (popTo v.toNat n) k ≠ v) ∧ c = (code n (popTo v.toNat n - 1) t : Int)
/-- all of the first k sizes fail -/
def Fails (v : Int) (k : Nat) : Prop := ∀ m : Nat, m < k → Fail v (2 ^ (m + 1))
/-- what the document's Encode answers of v -/
def EncR (v : Int) (c : Int) (ok : Bool) : Prop :=
  (c = 0 ∧ ok = false ∧ Fails v 6) ∨ (ok = true ∧ ∃ k : Nat, k < 6 ∧ Fails v k ∧ v ≠ 0 ∧ Got v c (2 ^ (k + 1)))
def EncRE (v : Int) (e : Ending) : Prop := ∃ c ok, e = .returned (.tuple #[.int .u32 c, .bool ok]) ∧ EncR v c ok
theorem EncRE.mk {v c : Int} {ok : Bool} {e : Ending} (he : e = .returned (.tuple #[.int .u32 c, .bool ok])) (h : EncR v c ok) : EncRE v e := ⟨c, ok, he, h⟩
theorem Fails.more {v : Int} {k : Nat} (h : Fails v k) (g : Fail v (2 ^ (k + 1))) : Fails v (k + 1) := fun m hm => by
  by_cases e : m = k
  · subst e; exact g
  · exact h m (by omega)
theorem al_zero (n : Nat) : al 0 n = false := by
  have : ∀ k, edg 0 n k = 0 := by
    intro k
    induction k with
    | zero => rfl
    | succ k ih => rw [edg, ih, if_neg]; intro g; exact g.2 (by simp)
  unfold al; rw [this]; exact Bool.and_false _
end Lg
namespace Go.Proofs.Ytlhinabodofjeaa
open Go.RowKit
open Cq (U32 U64 I64 ones bit popTo)
open Lg

set_option maxRecDepth 100000 in
set_option maxHeartbeats 8000000 in
theorem rencode_any (v : Int) (hv : U64 v) (W : World) : Calls Try.prog 11 #[.int .u64 v] W
    fun e W' => EncRE v e ∧ Below W.heap.size W W' := by
  have hv0 := hv.1
  go_enter Try.func11, Try.ntmps11
  go_wp2_with fail
  go_loop [11] (fun i => i = .int .i64 0 ∧ Hid (Fails v 0) ∨ i = .int .i64 1 ∧ Hid (Fails v 1) ∨ i = .int .i64 2 ∧ Hid (Fails v 2) ∨ i = .int .i64 3 ∧ Hid (Fails v 3) ∨ i = .int .i64 4 ∧ Hid (Fails v 4) ∨ i = .int .i64 5 ∧ Hid (Fails v 5) ∨ i = .int .i64 6 ∧ Hid (Fails v 6)) (fun i => 6 - (intOf i).toNat)
  case atStart => exact Or.inl ⟨rfl, fun m hm => absurd hm (by omega)⟩
  case round =>
    rcases hrel with ⟨rfl, hf⟩ | ⟨rfl, hf⟩ | ⟨rfl, hf⟩ | ⟨rfl, hf⟩ | ⟨rfl, hf⟩ | ⟨rfl, hf⟩ | ⟨rfl, hf⟩
    · cases ha : al v.toNat 2
      · have HA := Lib.hid ha
        go_wp2_with fail
        refine (alike_any v hv 2 (by omega) (by omega) _).mono ?_; rintro e w' ⟨rfl, rfl⟩
        rw [HA.out]
        go_wp2_with fail
        go_round
        case rel => exact Or.inr (Or.inl ⟨rfl, hf.out.more (Or.inl HA.out)⟩)
        case measure => decide
      · have HA := Lib.hid ha
        have HV : Hid (v ≠ 0) := fun g => by
          have := HA.out; rw [g] at this; exact absurd (show al 0 2 = true from this) (by rw [al_zero]; decide)
        clear ha
        go_wp2_with fail
        refine (alike_any v hv 2 (by omega) (by omega) _).mono ?_; rintro e w' ⟨rfl, rfl⟩
        rw [HA.out]
        go_wp2_with fail
        go_loop [6, 7] (fun o i => ∃ j : Nat, j ≤ 2 ∧ i = .int .i64 j ∧ o = .int .i64 (popTo v.toNat j : Int)) (fun _ i => 2 - (intOf i).toNat)
        case atStart => exact ⟨0, by omega, rfl, rfl⟩
        case round =>
          obtain ⟨j, hj, rfl, rfl⟩ := hrel
          by_cases hlt : (j : Int) < 2
          · have hjn : Hid (j < 2) := by show j < 2; omega
            have R := Lib.hid (Cq.popTo_round hv j)
            have hp := Cq.popTo_le v.toNat j
            have hb := Cq.bit_tmod hv j
            have hb2 := Cq.bit_01 v j
            obtain ⟨b1, b2⟩ := hb2
            generalize bit v j = b at *
            generalize hx : popTo v.toNat j = x at *
            go_wp2_with fail
            go_round
            case rel => exact ⟨j + 1, by have := hjn.out; omega, by rw [Int.natCast_add]; rfl, by rw [← R.out]⟩
            case measure =>
              have := hjn.out
              show 2 - ((j : Int) + 1).toNat < 2 - (j : Int).toNat; omega
          · have HM : Hid (j = 2) := by show j = 2; omega
            have hlt' := Int.not_lt.mp hlt
            have hp := Cq.popTo_le v.toNat 2
            rw [show popTo v.toNat j = popTo v.toNat 2 by rw [HM.out]]
            have HX := Lib.hid (rfl : popTo v.toNat 2 = popTo v.toNat 2)
            generalize hx : popTo v.toNat 2 = x at *
            have HXX := Lib.hid hx
            clear hlt hj hx
            go_wp2_with fail
            go_loop [8] (fun i => ∃ t : Nat, t ≤ 2 ∧ i = .int .i64 t ∧ Hid (∀ k : Nat, k < t → TW 2 x k ≠ v)) (fun i => 2 - (intOf i).toNat)
            case atStart => exact ⟨0, by omega, rfl, fun k hk => absurd hk (by omega)⟩
            case round =>
              obtain ⟨t, ht, rfl, hq⟩ := hrel
              by_cases hlt : (t : Int) < 2
              · have hjn : Hid (t < 2) := by show t < 2; omega
                by_cases hb : TW 2 x t = v
                · have hok : okT 2 x t = true := by
                    cases g : okT 2 x t
                    · rw [TW_zero g] at hb; exact absurd hb.symm HV.out
                    · rfl
                  have ⟨_, o1, o2, _, _⟩ := okT_is hok
                  obtain ⟨q, rfl⟩ : ∃ q, x = q + 1 := ⟨x - 1, by omega⟩
                  have HB := Lib.hid hb
                  have q1 : (q : Int) < 1 := by omega
                  have q0 : (0 : Int) ≤ q := by omega
                  have HE : Hid (EncR v (code 2 q t : Int) true) := by
                    refine Or.inr ⟨rfl, 0, by omega, hf.out, HV.out, HA.out, t, hjn.out, ?_⟩
                    rw [show popTo v.toNat (2 ^ (0 + 1)) = q + 1 from HXX.out]
                    exact ⟨hb, hq.out, rfl⟩
                  have hb' : (TW 2 ((q : Int) + 1) t == v) = true := by rw [beq_iff_eq]; exact hb
                  clear hok o1 o2 hb ht hp
                  go_wp2_with fail
                  refine (rturned_any _ _ _ (by unfold I64; omega) (by unfold I64; omega) (by unfold I64; omega) _).mono ?_; rintro e w' ⟨rfl, rfl⟩
                  go_wp2_with fail
                  go_ret2
                  exact ⟨EncRE.mk (c := (code 2 q t : Int)) (ok := true) (congrArg (fun z => Ending.returned (.tuple #[.int .u32 z, .bool true])) (by unfold code; simp; omega)) HE.out, ((Below.refl _ _).alloc (Nat.le_refl _) _).alloc (by simp) _⟩
                · have HB := Lib.hid hb
                  have hb' : (TW 2 x t == v) = false := by simpa using hb
                  clear hb
                  go_wp2_with fail
                  refine (rturned_any _ _ _ (by unfold I64; omega) (by unfold I64; omega) (by unfold I64; omega) _).mono ?_; rintro e w' ⟨rfl, rfl⟩
                  go_wp2_with fail
                  go_round
                  case rel => exact ⟨t + 1, by have := hjn.out; omega, by rw [Int.natCast_add]; rfl, fun k hk => by
                    by_cases e : k = t
                    · subst e; exact HB.out
                    · exact hq.out k (by omega)⟩
                  case measure =>
                    have := hjn.out
                    show 2 - ((t : Int) + 1).toNat < 2 - (t : Int).toNat; omega
              · have HF : Hid (Fail v 2) := Or.inr (by rw [HXX.out]; exact fun k hk => hq.out k (by omega))
                have hlt' := Int.not_lt.mp hlt
                clear hlt ht
                go_wp2_with fail
                go_round
                case rel => exact Or.inr (Or.inl ⟨rfl, hf.out.more HF.out⟩)
                case measure => decide
    · cases ha : al v.toNat 4
      · have HA := Lib.hid ha
        go_wp2_with fail
        refine (alike_any v hv 4 (by omega) (by omega) _).mono ?_; rintro e w' ⟨rfl, rfl⟩
        rw [HA.out]
        go_wp2_with fail
        go_round
        case rel => exact Or.inr (Or.inr (Or.inl ⟨rfl, hf.out.more (Or.inl HA.out)⟩))
        case measure => decide
      · have HA := Lib.hid ha
        have HV : Hid (v ≠ 0) := fun g => by
          have := HA.out; rw [g] at this; exact absurd (show al 0 4 = true from this) (by rw [al_zero]; decide)
        clear ha
        go_wp2_with fail
        refine (alike_any v hv 4 (by omega) (by omega) _).mono ?_; rintro e w' ⟨rfl, rfl⟩
        rw [HA.out]
        go_wp2_with fail
        go_loop [6, 7] (fun o i => ∃ j : Nat, j ≤ 4 ∧ i = .int .i64 j ∧ o = .int .i64 (popTo v.toNat j : Int)) (fun _ i => 4 - (intOf i).toNat)
        case atStart => exact ⟨0, by omega, rfl, rfl⟩
        case round =>
          obtain ⟨j, hj, rfl, rfl⟩ := hrel
          by_cases hlt : (j : Int) < 4
          · have hjn : Hid (j < 4) := by show j < 4; omega
            have R := Lib.hid (Cq.popTo_round hv j)
            have hp := Cq.popTo_le v.toNat j
            have hb := Cq.bit_tmod hv j
            have hb2 := Cq.bit_01 v j
            obtain ⟨b1, b2⟩ := hb2
            generalize bit v j = b at *
            generalize hx : popTo v.toNat j = x at *
            go_wp2_with fail
            go_round
            case rel => exact ⟨j + 1, by have := hjn.out; omega, by rw [Int.natCast_add]; rfl, by rw [← R.out]⟩
            case measure =>
              have := hjn.out
              show 4 - ((j : Int) + 1).toNat < 4 - (j : Int).toNat; omega
          · have HM : Hid (j = 4) := by show j = 4; omega
            have hlt' := Int.not_lt.mp hlt
            have hp := Cq.popTo_le v.toNat 4
            rw [show popTo v.toNat j = popTo v.toNat 4 by rw [HM.out]]
            have HX := Lib.hid (rfl : popTo v.toNat 4 = popTo v.toNat 4)
            generalize hx : popTo v.toNat 4 = x at *
            have HXX := Lib.hid hx
            clear hlt hj hx
            go_wp2_with fail
            go_loop [8] (fun i => ∃ t : Nat, t ≤ 4 ∧ i = .int .i64 t ∧ Hid (∀ k : Nat, k < t → TW 4 x k ≠ v)) (fun i => 4 - (intOf i).toNat)
            case atStart => exact ⟨0, by omega, rfl, fun k hk => absurd hk (by omega)⟩
            case round =>
              obtain ⟨t, ht, rfl, hq⟩ := hrel
              by_cases hlt : (t : Int) < 4
              · have hjn : Hid (t < 4) := by show t < 4; omega
                by_cases hb : TW 4 x t = v
                · have hok : okT 4 x t = true := by
                    cases g : okT 4 x t
                    · rw [TW_zero g] at hb; exact absurd hb.symm HV.out
                    · rfl
                  have ⟨_, o1, o2, _, _⟩ := okT_is hok
                  obtain ⟨q, rfl⟩ : ∃ q, x = q + 1 := ⟨x - 1, by omega⟩
                  have HB := Lib.hid hb
                  have q1 : (q : Int) < 3 := by omega
                  have q0 : (0 : Int) ≤ q := by omega
                  have HE : Hid (EncR v (code 4 q t : Int) true) := by
                    refine Or.inr ⟨rfl, 1, by omega, hf.out, HV.out, HA.out, t, hjn.out, ?_⟩
                    rw [show popTo v.toNat (2 ^ (1 + 1)) = q + 1 from HXX.out]
                    exact ⟨hb, hq.out, rfl⟩
                  have hb' : (TW 4 ((q : Int) + 1) t == v) = true := by rw [beq_iff_eq]; exact hb
                  clear hok o1 o2 hb ht hp
                  go_wp2_with fail
                  refine (rturned_any _ _ _ (by unfold I64; omega) (by unfold I64; omega) (by unfold I64; omega) _).mono ?_; rintro e w' ⟨rfl, rfl⟩
                  go_wp2_with fail
                  go_ret2
                  exact ⟨EncRE.mk (c := (code 4 q t : Int)) (ok := true) (congrArg (fun z => Ending.returned (.tuple #[.int .u32 z, .bool true])) (by unfold code; simp; omega)) HE.out, ((Below.refl _ _).alloc (Nat.le_refl _) _).alloc (by simp) _⟩
                · have HB := Lib.hid hb
                  have hb' : (TW 4 x t == v) = false := by simpa using hb
                  clear hb
                  go_wp2_with fail
                  refine (rturned_any _ _ _ (by unfold I64; omega) (by unfold I64; omega) (by unfold I64; omega) _).mono ?_; rintro e w' ⟨rfl, rfl⟩
                  go_wp2_with fail
                  go_round
                  case rel => exact ⟨t + 1, by have := hjn.out; omega, by rw [Int.natCast_add]; rfl, fun k hk => by
                    by_cases e : k = t
                    · subst e; exact HB.out
                    · exact hq.out k (by omega)⟩
                  case measure =>
                    have := hjn.out
                    show 4 - ((t : Int) + 1).toNat < 4 - (t : Int).toNat; omega
              · have HF : Hid (Fail v 4) := Or.inr (by rw [HXX.out]; exact fun k hk => hq.out k (by omega))
                have hlt' := Int.not_lt.mp hlt
                clear hlt ht
                go_wp2_with fail
                go_round
                case rel => exact Or.inr (Or.inr (Or.inl ⟨rfl, hf.out.more HF.out⟩))
                case measure => decide
    · cases ha : al v.toNat 8
      · have HA := Lib.hid ha
        go_wp2_with fail
        refine (alike_any v hv 8 (by omega) (by omega) _).mono ?_; rintro e w' ⟨rfl, rfl⟩
        rw [HA.out]
        go_wp2_with fail
        go_round
        case rel => exact Or.inr (Or.inr (Or.inr (Or.inl ⟨rfl, hf.out.more (Or.inl HA.out)⟩)))
        case measure => decide
      · have HA := Lib.hid ha
        have HV : Hid (v ≠ 0) := fun g => by
          have := HA.out; rw [g] at this; exact absurd (show al 0 8 = true from this) (by rw [al_zero]; decide)
        clear ha
        go_wp2_with fail
        refine (alike_any v hv 8 (by omega) (by omega) _).mono ?_; rintro e w' ⟨rfl, rfl⟩
        rw [HA.out]
        go_wp2_with fail
        go_loop [6, 7] (fun o i => ∃ j : Nat, j ≤ 8 ∧ i = .int .i64 j ∧ o = .int .i64 (popTo v.toNat j : Int)) (fun _ i => 8 - (intOf i).toNat)
        case atStart => exact ⟨0, by omega, rfl, rfl⟩
        case round =>
          obtain ⟨j, hj, rfl, rfl⟩ := hrel
          by_cases hlt : (j : Int) < 8
          · have hjn : Hid (j < 8) := by show j < 8; omega
            have R := Lib.hid (Cq.popTo_round hv j)
            have hp := Cq.popTo_le v.toNat j
            have hb := Cq.bit_tmod hv j
            have hb2 := Cq.bit_01 v j
            obtain ⟨b1, b2⟩ := hb2
            generalize bit v j = b at *
            generalize hx : popTo v.toNat j = x at *
            go_wp2_with fail
            go_round
            case rel => exact ⟨j + 1, by have := hjn.out; omega, by rw [Int.natCast_add]; rfl, by rw [← R.out]⟩
            case measure =>
              have := hjn.out
              show 8 - ((j : Int) + 1).toNat < 8 - (j : Int).toNat; omega
          · have HM : Hid (j = 8) := by show j = 8; omega
            have hlt' := Int.not_lt.mp hlt
            have hp := Cq.popTo_le v.toNat 8
            rw [show popTo v.toNat j = popTo v.toNat 8 by rw [HM.out]]
            have HX := Lib.hid (rfl : popTo v.toNat 8 = popTo v.toNat 8)
            generalize hx : popTo v.toNat 8 = x at *
            have HXX := Lib.hid hx
            clear hlt hj hx
            go_wp2_with fail
            go_loop [8] (fun i => ∃ t : Nat, t ≤ 8 ∧ i = .int .i64 t ∧ Hid (∀ k : Nat, k < t → TW 8 x k ≠ v)) (fun i => 8 - (intOf i).toNat)
            case atStart => exact ⟨0, by omega, rfl, fun k hk => absurd hk (by omega)⟩
            case round =>
              obtain ⟨t, ht, rfl, hq⟩ := hrel
              by_cases hlt : (t : Int) < 8
              · have hjn : Hid (t < 8) := by show t < 8; omega
                by_cases hb : TW 8 x t = v
                · have hok : okT 8 x t = true := by
                    cases g : okT 8 x t
                    · rw [TW_zero g] at hb; exact absurd hb.symm HV.out
                    · rfl
                  have ⟨_, o1, o2, _, _⟩ := okT_is hok
                  obtain ⟨q, rfl⟩ : ∃ q, x = q + 1 := ⟨x - 1, by omega⟩
                  have HB := Lib.hid hb
                  have q1 : (q : Int) < 7 := by omega
                  have q0 : (0 : Int) ≤ q := by omega
                  have HE : Hid (EncR v (code 8 q t : Int) true) := by
                    refine Or.inr ⟨rfl, 2, by omega, hf.out, HV.out, HA.out, t, hjn.out, ?_⟩
                    rw [show popTo v.toNat (2 ^ (2 + 1)) = q + 1 from HXX.out]
                    exact ⟨hb, hq.out, rfl⟩
                  have hb' : (TW 8 ((q : Int) + 1) t == v) = true := by rw [beq_iff_eq]; exact hb
                  clear hok o1 o2 hb ht hp
                  go_wp2_with fail
                  refine (rturned_any _ _ _ (by unfold I64; omega) (by unfold I64; omega) (by unfold I64; omega) _).mono ?_; rintro e w' ⟨rfl, rfl⟩
                  go_wp2_with fail
                  go_ret2
                  exact ⟨EncRE.mk (c := (code 8 q t : Int)) (ok := true) (congrArg (fun z => Ending.returned (.tuple #[.int .u32 z, .bool true])) (by unfold code; simp; omega)) HE.out, ((Below.refl _ _).alloc (Nat.le_refl _) _).alloc (by simp) _⟩
                · have HB := Lib.hid hb
                  have hb' : (TW 8 x t == v) = false := by simpa using hb
                  clear hb
                  go_wp2_with fail
                  refine (rturned_any _ _ _ (by unfold I64; omega) (by unfold I64; omega) (by unfold I64; omega) _).mono ?_; rintro e w' ⟨rfl, rfl⟩
                  go_wp2_with fail
                  go_round
                  case rel => exact ⟨t + 1, by have := hjn.out; omega, by rw [Int.natCast_add]; rfl, fun k hk => by
                    by_cases e : k = t
                    · subst e; exact HB.out
                    · exact hq.out k (by omega)⟩
                  case measure =>
                    have := hjn.out
                    show 8 - ((t : Int) + 1).toNat < 8 - (t : Int).toNat; omega
              · have HF : Hid (Fail v 8) := Or.inr (by rw [HXX.out]; exact fun k hk => hq.out k (by omega))
                have hlt' := Int.not_lt.mp hlt
                clear hlt ht
                go_wp2_with fail
                go_round
                case rel => exact Or.inr (Or.inr (Or.inr (Or.inl ⟨rfl, hf.out.more HF.out⟩)))
                case measure => decide
    · cases ha : al v.toNat 16
      · have HA := Lib.hid ha
        go_wp2_with fail
        refine (alike_any v hv 16 (by omega) (by omega) _).mono ?_; rintro e w' ⟨rfl, rfl⟩
        rw [HA.out]
        go_wp2_with fail
        go_round
        case rel => exact Or.inr (Or.inr (Or.inr (Or.inr (Or.inl ⟨rfl, hf.out.more (Or.inl HA.out)⟩))))
        case measure => decide
      · have HA := Lib.hid ha
        have HV : Hid (v ≠ 0) := fun g => by
          have := HA.out; rw [g] at this; exact absurd (show al 0 16 = true from this) (by rw [al_zero]; decide)
        clear ha
        go_wp2_with fail
        refine (alike_any v hv 16 (by omega) (by omega) _).mono ?_; rintro e w' ⟨rfl, rfl⟩
        rw [HA.out]
        go_wp2_with fail
        go_loop [6, 7] (fun o i => ∃ j : Nat, j ≤ 16 ∧ i = .int .i64 j ∧ o = .int .i64 (popTo v.toNat j : Int)) (fun _ i => 16 - (intOf i).toNat)
        case atStart => exact ⟨0, by omega, rfl, rfl⟩
        case round =>
          obtain ⟨j, hj, rfl, rfl⟩ := hrel
          by_cases hlt : (j : Int) < 16
          · have hjn : Hid (j < 16) := by show j < 16; omega
            have R := Lib.hid (Cq.popTo_round hv j)
            have hp := Cq.popTo_le v.toNat j
            have hb := Cq.bit_tmod hv j
            have hb2 := Cq.bit_01 v j
            obtain ⟨b1, b2⟩ := hb2
            generalize bit v j = b at *
            generalize hx : popTo v.toNat j = x at *
            go_wp2_with fail
            go_round
            case rel => exact ⟨j + 1, by have := hjn.out; omega, by rw [Int.natCast_add]; rfl, by rw [← R.out]⟩
            case measure =>
              have := hjn.out
              show 16 - ((j : Int) + 1).toNat < 16 - (j : Int).toNat; omega
          · have HM : Hid (j = 16) := by show j = 16; omega
            have hlt' := Int.not_lt.mp hlt
            have hp := Cq.popTo_le v.toNat 16
            rw [show popTo v.toNat j = popTo v.toNat 16 by rw [HM.out]]
            have HX := Lib.hid (rfl : popTo v.toNat 16 = popTo v.toNat 16)
            generalize hx : popTo v.toNat 16 = x at *
            have HXX := Lib.hid hx
            clear hlt hj hx
            go_wp2_with fail
            go_loop [8] (fun i => ∃ t : Nat, t ≤ 16 ∧ i = .int .i64 t ∧ Hid (∀ k : Nat, k < t → TW 16 x k ≠ v)) (fun i => 16 - (intOf i).toNat)
            case atStart => exact ⟨0, by omega, rfl, fun k hk => absurd hk (by omega)⟩
            case round =>
              obtain ⟨t, ht, rfl, hq⟩ := hrel
              by_cases hlt : (t : Int) < 16
              · have hjn : Hid (t < 16) := by show t < 16; omega
                by_cases hb : TW 16 x t = v
                · have hok : okT 16 x t = true := by
                    cases g : okT 16 x t
                    · rw [TW_zero g] at hb; exact absurd hb.symm HV.out
                    · rfl
                  have ⟨_, o1, o2, _, _⟩ := okT_is hok
                  obtain ⟨q, rfl⟩ : ∃ q, x = q + 1 := ⟨x - 1, by omega⟩
                  have HB := Lib.hid hb
                  have q1 : (q : Int) < 15 := by omega
                  have q0 : (0 : Int) ≤ q := by omega
                  have HE : Hid (EncR v (code 16 q t : Int) true) := by
                    refine Or.inr ⟨rfl, 3, by omega, hf.out, HV.out, HA.out, t, hjn.out, ?_⟩
                    rw [show popTo v.toNat (2 ^ (3 + 1)) = q + 1 from HXX.out]
                    exact ⟨hb, hq.out, rfl⟩
                  have hb' : (TW 16 ((q : Int) + 1) t == v) = true := by rw [beq_iff_eq]; exact hb
                  clear hok o1 o2 hb ht hp
                  go_wp2_with fail
                  refine (rturned_any _ _ _ (by unfold I64; omega) (by unfold I64; omega) (by unfold I64; omega) _).mono ?_; rintro e w' ⟨rfl, rfl⟩
                  go_wp2_with fail
                  go_ret2
                  exact ⟨EncRE.mk (c := (code 16 q t : Int)) (ok := true) (congrArg (fun z => Ending.returned (.tuple #[.int .u32 z, .bool true])) (by unfold code; simp; omega)) HE.out, ((Below.refl _ _).alloc (Nat.le_refl _) _).alloc (by simp) _⟩
                · have HB := Lib.hid hb
                  have hb' : (TW 16 x t == v) = false := by simpa using hb
                  clear hb
                  go_wp2_with fail
                  refine (rturned_any _ _ _ (by unfold I64; omega) (by unfold I64; omega) (by unfold I64; omega) _).mono ?_; rintro e w' ⟨rfl, rfl⟩
                  go_wp2_with fail
                  go_round
                  case rel => exact ⟨t + 1, by have := hjn.out; omega, by rw [Int.natCast_add]; rfl, fun k hk => by
                    by_cases e : k = t
                    · subst e; exact HB.out
                    · exact hq.out k (by omega)⟩
                  case measure =>
                    have := hjn.out
                    show 16 - ((t : Int) + 1).toNat < 16 - (t : Int).toNat; omega
              · have HF : Hid (Fail v 16) := Or.inr (by rw [HXX.out]; exact fun k hk => hq.out k (by omega))
                have hlt' := Int.not_lt.mp hlt
                clear hlt ht
                go_wp2_with fail
                go_round
                case rel => exact Or.inr (Or.inr (Or.inr (Or.inr (Or.inl ⟨rfl, hf.out.more HF.out⟩))))
                case measure => decide
    · cases ha : al v.toNat 32
      · have HA := Lib.hid ha
        go_wp2_with fail
        refine (alike_any v hv 32 (by omega) (by omega) _).mono ?_; rintro e w' ⟨rfl, rfl⟩
        rw [HA.out]
        go_wp2_with fail
        go_round
        case rel => exact Or.inr (Or.inr (Or.inr (Or.inr (Or.inr (Or.inl ⟨rfl, hf.out.more (Or.inl HA.out)⟩)))))
        case measure => decide
      · have HA := Lib.hid ha
        have HV : Hid (v ≠ 0) := fun g => by
          have := HA.out; rw [g] at this; exact absurd (show al 0 32 = true from this) (by rw [al_zero]; decide)
        clear ha
        go_wp2_with fail
        refine (alike_any v hv 32 (by omega) (by omega) _).mono ?_; rintro e w' ⟨rfl, rfl⟩
        rw [HA.out]
        go_wp2_with fail
        go_loop [6, 7] (fun o i => ∃ j : Nat, j ≤ 32 ∧ i = .int .i64 j ∧ o = .int .i64 (popTo v.toNat j : Int)) (fun _ i => 32 - (intOf i).toNat)
        case atStart => exact ⟨0, by omega, rfl, rfl⟩
        case round =>
          obtain ⟨j, hj, rfl, rfl⟩ := hrel
          by_cases hlt : (j : Int) < 32
          · have hjn : Hid (j < 32) := by show j < 32; omega
            have R := Lib.hid (Cq.popTo_round hv j)
            have hp := Cq.popTo_le v.toNat j
            have hb := Cq.bit_tmod hv j
            have hb2 := Cq.bit_01 v j
            obtain ⟨b1, b2⟩ := hb2
            generalize bit v j = b at *
            generalize hx : popTo v.toNat j = x at *
            go_wp2_with fail
            go_round
            case rel => exact ⟨j + 1, by have := hjn.out; omega, by rw [Int.natCast_add]; rfl, by rw [← R.out]⟩
            case measure =>
              have := hjn.out
              show 32 - ((j : Int) + 1).toNat < 32 - (j : Int).toNat; omega
          · have HM : Hid (j = 32) := by show j = 32; omega
            have hlt' := Int.not_lt.mp hlt
            have hp := Cq.popTo_le v.toNat 32
            rw [show popTo v.toNat j = popTo v.toNat 32 by rw [HM.out]]
            have HX := Lib.hid (rfl : popTo v.toNat 32 = popTo v.toNat 32)
            generalize hx : popTo v.toNat 32 = x at *
            have HXX := Lib.hid hx
            clear hlt hj hx
            go_wp2_with fail
            go_loop [8] (fun i => ∃ t : Nat, t ≤ 32 ∧ i = .int .i64 t ∧ Hid (∀ k : Nat, k < t → TW 32 x k ≠ v)) (fun i => 32 - (intOf i).toNat)
            case atStart => exact ⟨0, by omega, rfl, fun k hk => absurd hk (by omega)⟩
            case round =>
              obtain ⟨t, ht, rfl, hq⟩ := hrel
              by_cases hlt : (t : Int) < 32
              · have hjn : Hid (t < 32) := by show t < 32; omega
                by_cases hb : TW 32 x t = v
                · have hok : okT 32 x t = true := by
                    cases g : okT 32 x t
                    · rw [TW_zero g] at hb; exact absurd hb.symm HV.out
                    · rfl
                  have ⟨_, o1, o2, _, _⟩ := okT_is hok
                  obtain ⟨q, rfl⟩ : ∃ q, x = q + 1 := ⟨x - 1, by omega⟩
                  have HB := Lib.hid hb
                  have q1 : (q : Int) < 31 := by omega
                  have q0 : (0 : Int) ≤ q := by omega
                  have HE : Hid (EncR v (code 32 q t : Int) true) := by
                    refine Or.inr ⟨rfl, 4, by omega, hf.out, HV.out, HA.out, t, hjn.out, ?_⟩
                    rw [show popTo v.toNat (2 ^ (4 + 1)) = q + 1 from HXX.out]
                    exact ⟨hb, hq.out, rfl⟩
                  have hb' : (TW 32 ((q : Int) + 1) t == v) = true := by rw [beq_iff_eq]; exact hb
                  clear hok o1 o2 hb ht hp
                  go_wp2_with fail
                  refine (rturned_any _ _ _ (by unfold I64; omega) (by unfold I64; omega) (by unfold I64; omega) _).mono ?_; rintro e w' ⟨rfl, rfl⟩
                  go_wp2_with fail
                  go_ret2
                  exact ⟨EncRE.mk (c := (code 32 q t : Int)) (ok := true) (congrArg (fun z => Ending.returned (.tuple #[.int .u32 z, .bool true])) (by unfold code; simp; omega)) HE.out, ((Below.refl _ _).alloc (Nat.le_refl _) _).alloc (by simp) _⟩
                · have HB := Lib.hid hb
                  have hb' : (TW 32 x t == v) = false := by simpa using hb
                  clear hb
                  go_wp2_with fail
                  refine (rturned_any _ _ _ (by unfold I64; omega) (by unfold I64; omega) (by unfold I64; omega) _).mono ?_; rintro e w' ⟨rfl, rfl⟩
                  go_wp2_with fail
                  go_round
                  case rel => exact ⟨t + 1, by have := hjn.out; omega, by rw [Int.natCast_add]; rfl, fun k hk => by
                    by_cases e : k = t
                    · subst e; exact HB.out
                    · exact hq.out k (by omega)⟩
                  case measure =>
                    have := hjn.out
                    show 32 - ((t : Int) + 1).toNat < 32 - (t : Int).toNat; omega
              · have HF : Hid (Fail v 32) := Or.inr (by rw [HXX.out]; exact fun k hk => hq.out k (by omega))
                have hlt' := Int.not_lt.mp hlt
                clear hlt ht
                go_wp2_with fail
                go_round
                case rel => exact Or.inr (Or.inr (Or.inr (Or.inr (Or.inr (Or.inl ⟨rfl, hf.out.more HF.out⟩)))))
                case measure => decide
    · cases ha : al v.toNat 64
      · have HA := Lib.hid ha
        go_wp2_with fail
        refine (alike_any v hv 64 (by omega) (by omega) _).mono ?_; rintro e w' ⟨rfl, rfl⟩
        rw [HA.out]
        go_wp2_with fail
        go_round
        case rel => exact Or.inr (Or.inr (Or.inr (Or.inr (Or.inr (Or.inr (⟨rfl, hf.out.more (Or.inl HA.out)⟩))))))
        case measure => decide
      · have HA := Lib.hid ha
        have HV : Hid (v ≠ 0) := fun g => by
          have := HA.out; rw [g] at this; exact absurd (show al 0 64 = true from this) (by rw [al_zero]; decide)
        clear ha
        go_wp2_with fail
        refine (alike_any v hv 64 (by omega) (by omega) _).mono ?_; rintro e w' ⟨rfl, rfl⟩
        rw [HA.out]
        go_wp2_with fail
        go_loop [6, 7] (fun o i => ∃ j : Nat, j ≤ 64 ∧ i = .int .i64 j ∧ o = .int .i64 (popTo v.toNat j : Int)) (fun _ i => 64 - (intOf i).toNat)
        case atStart => exact ⟨0, by omega, rfl, rfl⟩
        case round =>
          obtain ⟨j, hj, rfl, rfl⟩ := hrel
          by_cases hlt : (j : Int) < 64
          · have hjn : Hid (j < 64) := by show j < 64; omega
            have R := Lib.hid (Cq.popTo_round hv j)
            have hp := Cq.popTo_le v.toNat j
            have hb := Cq.bit_tmod hv j
            have hb2 := Cq.bit_01 v j
            obtain ⟨b1, b2⟩ := hb2
            generalize bit v j = b at *
            generalize hx : popTo v.toNat j = x at *
            go_wp2_with fail
            go_round
            case rel => exact ⟨j + 1, by have := hjn.out; omega, by rw [Int.natCast_add]; rfl, by rw [← R.out]⟩
            case measure =>
              have := hjn.out
              show 64 - ((j : Int) + 1).toNat < 64 - (j : Int).toNat; omega
          · have HM : Hid (j = 64) := by show j = 64; omega
            have hlt' := Int.not_lt.mp hlt
            have hp := Cq.popTo_le v.toNat 64
            rw [show popTo v.toNat j = popTo v.toNat 64 by rw [HM.out]]
            have HX := Lib.hid (rfl : popTo v.toNat 64 = popTo v.toNat 64)
            generalize hx : popTo v.toNat 64 = x at *
            have HXX := Lib.hid hx
            clear hlt hj hx
            go_wp2_with fail
            go_loop [8] (fun i => ∃ t : Nat, t ≤ 64 ∧ i = .int .i64 t ∧ Hid (∀ k : Nat, k < t → TW 64 x k ≠ v)) (fun i => 64 - (intOf i).toNat)
            case atStart => exact ⟨0, by omega, rfl, fun k hk => absurd hk (by omega)⟩
            case round =>
              obtain ⟨t, ht, rfl, hq⟩ := hrel
              by_cases hlt : (t : Int) < 64
              · have hjn : Hid (t < 64) := by show t < 64; omega
                by_cases hb : TW 64 x t = v
                · have hok : okT 64 x t = true := by
                    cases g : okT 64 x t
                    · rw [TW_zero g] at hb; exact absurd hb.symm HV.out
                    · rfl
                  have ⟨_, o1, o2, _, _⟩ := okT_is hok
                  obtain ⟨q, rfl⟩ : ∃ q, x = q + 1 := ⟨x - 1, by omega⟩
                  have HB := Lib.hid hb
                  have q1 : (q : Int) < 63 := by omega
                  have q0 : (0 : Int) ≤ q := by omega
                  have HE : Hid (EncR v (code 64 q t : Int) true) := by
                    refine Or.inr ⟨rfl, 5, by omega, hf.out, HV.out, HA.out, t, hjn.out, ?_⟩
                    rw [show popTo v.toNat (2 ^ (5 + 1)) = q + 1 from HXX.out]
                    exact ⟨hb, hq.out, rfl⟩
                  have hb' : (TW 64 ((q : Int) + 1) t == v) = true := by rw [beq_iff_eq]; exact hb
                  clear hok o1 o2 hb ht hp
                  go_wp2_with fail
                  refine (rturned_any _ _ _ (by unfold I64; omega) (by unfold I64; omega) (by unfold I64; omega) _).mono ?_; rintro e w' ⟨rfl, rfl⟩
                  go_wp2_with fail
                  go_ret2
                  exact ⟨EncRE.mk (c := (code 64 q t : Int)) (ok := true) (congrArg (fun z => Ending.returned (.tuple #[.int .u32 z, .bool true])) (by unfold code; simp; omega)) HE.out, ((Below.refl _ _).alloc (Nat.le_refl _) _).alloc (by simp) _⟩
                · have HB := Lib.hid hb
                  have hb' : (TW 64 x t == v) = false := by simpa using hb
                  clear hb
                  go_wp2_with fail
                  refine (rturned_any _ _ _ (by unfold I64; omega) (by unfold I64; omega) (by unfold I64; omega) _).mono ?_; rintro e w' ⟨rfl, rfl⟩
                  go_wp2_with fail
                  go_round
                  case rel => exact ⟨t + 1, by have := hjn.out; omega, by rw [Int.natCast_add]; rfl, fun k hk => by
                    by_cases e : k = t
                    · subst e; exact HB.out
                    · exact hq.out k (by omega)⟩
                  case measure =>
                    have := hjn.out
                    show 64 - ((t : Int) + 1).toNat < 64 - (t : Int).toNat; omega
              · have HF : Hid (Fail v 64) := Or.inr (by rw [HXX.out]; exact fun k hk => hq.out k (by omega))
                have hlt' := Int.not_lt.mp hlt
                clear hlt ht
                go_wp2_with fail
                go_round
                case rel => exact Or.inr (Or.inr (Or.inr (Or.inr (Or.inr (Or.inr (⟨rfl, hf.out.more HF.out⟩))))))
                case measure => decide
    · go_wp2_with fail
      go_ret2
      exact ⟨EncRE.mk (c := 0) (ok := false) rfl (Or.inl ⟨rfl, rfl, hf.out⟩), (Below.refl _ _).alloc (Nat.le_refl _) _⟩
end Go.Proofs.Ytlhinabodofjeaa
