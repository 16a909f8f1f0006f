/- Walks of layer 19: thirteen bits of a word, of the code. -/
import Derived.Test.YtlhinabodofjeaaLi
import Derived.Test.YtlhinabodofjeaaLe
namespace Lg
open Go
open Cq
/-- how many ones each element has, if all are alike -/
def cnt (v : Int) : Nat := ones v / (64 / szO v.toNat)
/-- what Encode answers of v -/
def Enc (v : Int) (c : Int) (ok : Bool) : Prop :=
  (c = 0 ∧ ok = false ∧ (v = 0 ∨ v ≠ 0 ∧ ∀ t : Nat, t < szO v.toNat → TW (szO v.toNat) (cnt v) t ≠ v))
  ∨ (v ≠ 0 ∧ ok = true ∧ ∃ t : Nat, t < szO v.toNat ∧ TW (szO v.toNat) (cnt v) t = v ∧ (∀ k : Nat, k < t → TW (szO v.toNat) (cnt v) k ≠ v) ∧ c = (code (szO v.toNat) (cnt v - 1) t : Int))
/-- how Encode ends -/
def EncE (v : Int) (e : Ending) : Prop := ∃ c ok, e = .returned (.tuple #[.int .u32 c, .bool ok]) ∧ Enc v c ok
theorem EncE.mk {v c : Int} {ok : Bool} {e : Ending} (he : e = .returned (.tuple #[.int .u32 c, .bool ok])) (h : Enc v c ok) : EncE v e := ⟨c, ok, he, h⟩
theorem cnt_le (v : Int) : cnt v ≤ 64 := by
  unfold cnt; exact Nat.le_trans (Nat.div_le_self _ _) (ones_le v)
end Lg
namespace Go.Proofs.Ytlhinabodofjeaa
open Go.RowKit
open Cq (U32 U64 I64 ones)
open Lg

set_option maxHeartbeats 4000000 in
theorem encode_any (v : Int) (hv : U64 v) (W : World) : Calls Try.prog 10 #[.int .u64 v] W
    fun e W' => EncE v e ∧ Drawn W W' := by
  by_cases h0 : v = 0
  · subst h0
    go_enter Try.func10, Try.ntmps10
    go_wp2_with fail
    go_ret2
    exact ⟨EncE.mk (c := 0) (ok := false) rfl (Or.inl ⟨rfl, rfl, Or.inl rfl⟩), Drawn.refl _⟩
  · have H0 := Lib.hid h0
    have hne : (v == 0) = false := by simpa using h0
    clear h0
    have hsz := Lib.hid (szO_is v.toNat)
    have hol := Cq.ones_le v
    have HC := Lib.hid (show cnt v = ones v / (64 / szO v.toNat) from rfl)
    obtain ⟨n, hn⟩ : ∃ n, szO v.toNat = n := ⟨_, rfl⟩
    have HN := Lib.hid hn
    obtain ⟨p, hp⟩ : ∃ p, ones v = p := ⟨_, rfl⟩
    have HP := Lib.hid hp
    have hp0 : (0 : Int) ≤ p := by omega
    have hp1 : (p : Int) ≤ 64 := by omega
    clear hol
    rw [hn] at hsz HC
    rw [hp] at HC
    clear hn hp
    rcases hsz.out with rfl | rfl | rfl | rfl | rfl | rfl
    · have EC : Hid (wrap64 ((ones v : Int) / 32) = (cnt v : Int)) := by
        have a := HC.out; have b := HP.out
        show _ = _
        rw [IntWalk.wrap64_in _ (by omega)]; omega
      have HM := Lib.hid (cnt_le v)
      generalize hm : cnt v = m at *
      have HMM := Lib.hid hm
      clear hm
      go_enter Try.func10, Try.ntmps10
      go_wp2_with fail
      refine (sizeOf_any _ hv _).mono ?_; rintro e w' ⟨rfl, rfl⟩
      rw [HN.out]
      go_wp2_with fail
      go_quiet ((go_at_call 19; exact quiet_left (ones_any v hv _)))
      rw [EC.out]
      go_wp2_with fail
      go_loop [6, 17] (fun _ i => ∃ j : Nat, j ≤ 2 ∧ i = .int .i64 j ∧ Hid (∀ k : Nat, k < j → TW 2 m k ≠ v)) (fun _ i => 2 - (intOf i).toNat)
      case atStart => exact ⟨0, by omega, rfl, fun k hk => absurd hk (by omega)⟩
      case round =>
        obtain ⟨j, hj, rfl, hq⟩ := hrel
        by_cases hlt : (j : Int) < 2
        · have hjn : Hid (j < 2) := by show j < 2; omega
          by_cases hb : TW 2 m j = v
          · have hok : okT 2 m j = true := by
              cases g : okT 2 m j
              · rw [TW_zero g] at hb; exact absurd hb.symm H0.out
              · rfl
            have ⟨_, o1, o2, _, _⟩ := okT_is hok
            obtain ⟨q, rfl⟩ : ∃ q, m = q + 1 := ⟨m - 1, by omega⟩
            have HB := Lib.hid hb
            have q1 : (q : Int) < 1 := by omega
            have q0 : (0 : Int) ≤ q := by omega
            have HE : Hid (Enc v (code 2 q j : Int) true) := by
              refine Or.inr ⟨H0.out, rfl, j, ?_⟩
              rw [HN.out, HMM.out]
              exact ⟨hjn.out, hb, hq.out, rfl⟩
            have hb' : (TW 2 ((q : Int) + 1) j == v) = true := by rw [beq_iff_eq]; exact hb
            clear hok o1 o2 hb hj
            go_wp2_with fail
            refine (turned_any _ _ _ (by unfold I64; omega) (by unfold I64; omega) (by unfold I64; omega) _).mono ?_; rintro e w' ⟨rfl, rfl⟩
            go_wp2_with fail
            refine (joined_any 2 q j rfl (by have := HM.out; omega) hjn.out _).mono ?_; rintro e w' ⟨rfl, rfl⟩
            go_wp2_with fail
            go_ret2
            exact ⟨EncE.mk rfl HE.out, Drawn.drewN (Drawn.refl _) _⟩
          · have HB := Lib.hid hb
            have hb' : (TW 2 m j == v) = false := by simpa using hb
            have HM' := HM.out
            clear hb
            go_wp2_with fail
            refine (turned_any _ _ _ (by unfold I64; omega) (by unfold I64; omega) (by unfold I64; omega) _).mono ?_; rintro e w' ⟨rfl, rfl⟩
            go_wp2_with fail
            go_round
            case rel => exact ⟨j + 1, by have := hjn.out; omega, by rw [Int.natCast_add]; rfl, fun k hk => by
              by_cases e : k = j
              · subst e; exact HB.out
              · exact hq.out k (by omega)⟩
            case measure =>
              have := hjn.out
              show 2 - ((j : Int) + 1).toNat < 2 - (j : Int).toNat; omega
        · have HE : Hid (Enc v 0 false) := by
            refine Or.inl ⟨rfl, rfl, Or.inr ⟨H0.out, ?_⟩⟩
            rw [HN.out, HMM.out]
            exact fun t ht => hq.out t (by omega)
          have hlt' := Int.not_lt.mp hlt
          clear hlt hj
          go_wp2_with fail
          go_ret2
          exact ⟨EncE.mk rfl HE.out, Drawn.drewN (Drawn.refl _) _⟩
    · have EC : Hid (wrap64 ((ones v : Int) / 16) = (cnt v : Int)) := by
        have a := HC.out; have b := HP.out
        show _ = _
        rw [IntWalk.wrap64_in _ (by omega)]; omega
      have HM := Lib.hid (cnt_le v)
      generalize hm : cnt v = m at *
      have HMM := Lib.hid hm
      clear hm
      go_enter Try.func10, Try.ntmps10
      go_wp2_with fail
      refine (sizeOf_any _ hv _).mono ?_; rintro e w' ⟨rfl, rfl⟩
      rw [HN.out]
      go_wp2_with fail
      go_quiet ((go_at_call 19; exact quiet_left (ones_any v hv _)))
      rw [EC.out]
      go_wp2_with fail
      go_loop [6, 17] (fun _ i => ∃ j : Nat, j ≤ 4 ∧ i = .int .i64 j ∧ Hid (∀ k : Nat, k < j → TW 4 m k ≠ v)) (fun _ i => 4 - (intOf i).toNat)
      case atStart => exact ⟨0, by omega, rfl, fun k hk => absurd hk (by omega)⟩
      case round =>
        obtain ⟨j, hj, rfl, hq⟩ := hrel
        by_cases hlt : (j : Int) < 4
        · have hjn : Hid (j < 4) := by show j < 4; omega
          by_cases hb : TW 4 m j = v
          · have hok : okT 4 m j = true := by
              cases g : okT 4 m j
              · rw [TW_zero g] at hb; exact absurd hb.symm H0.out
              · rfl
            have ⟨_, o1, o2, _, _⟩ := okT_is hok
            obtain ⟨q, rfl⟩ : ∃ q, m = q + 1 := ⟨m - 1, by omega⟩
            have HB := Lib.hid hb
            have q1 : (q : Int) < 3 := by omega
            have q0 : (0 : Int) ≤ q := by omega
            have HE : Hid (Enc v (code 4 q j : Int) true) := by
              refine Or.inr ⟨H0.out, rfl, j, ?_⟩
              rw [HN.out, HMM.out]
              exact ⟨hjn.out, hb, hq.out, rfl⟩
            have hb' : (TW 4 ((q : Int) + 1) j == v) = true := by rw [beq_iff_eq]; exact hb
            clear hok o1 o2 hb hj
            go_wp2_with fail
            refine (turned_any _ _ _ (by unfold I64; omega) (by unfold I64; omega) (by unfold I64; omega) _).mono ?_; rintro e w' ⟨rfl, rfl⟩
            go_wp2_with fail
            refine (joined_any 4 q j rfl (by have := HM.out; omega) hjn.out _).mono ?_; rintro e w' ⟨rfl, rfl⟩
            go_wp2_with fail
            go_ret2
            exact ⟨EncE.mk rfl HE.out, Drawn.drewN (Drawn.refl _) _⟩
          · have HB := Lib.hid hb
            have hb' : (TW 4 m j == v) = false := by simpa using hb
            have HM' := HM.out
            clear hb
            go_wp2_with fail
            refine (turned_any _ _ _ (by unfold I64; omega) (by unfold I64; omega) (by unfold I64; omega) _).mono ?_; rintro e w' ⟨rfl, rfl⟩
            go_wp2_with fail
            go_round
            case rel => exact ⟨j + 1, by have := hjn.out; omega, by rw [Int.natCast_add]; rfl, fun k hk => by
              by_cases e : k = j
              · subst e; exact HB.out
              · exact hq.out k (by omega)⟩
            case measure =>
              have := hjn.out
              show 4 - ((j : Int) + 1).toNat < 4 - (j : Int).toNat; omega
        · have HE : Hid (Enc v 0 false) := by
            refine Or.inl ⟨rfl, rfl, Or.inr ⟨H0.out, ?_⟩⟩
            rw [HN.out, HMM.out]
            exact fun t ht => hq.out t (by omega)
          have hlt' := Int.not_lt.mp hlt
          clear hlt hj
          go_wp2_with fail
          go_ret2
          exact ⟨EncE.mk rfl HE.out, Drawn.drewN (Drawn.refl _) _⟩
    · have EC : Hid (wrap64 ((ones v : Int) / 8) = (cnt v : Int)) := by
        have a := HC.out; have b := HP.out
        show _ = _
        rw [IntWalk.wrap64_in _ (by omega)]; omega
      have HM := Lib.hid (cnt_le v)
      generalize hm : cnt v = m at *
      have HMM := Lib.hid hm
      clear hm
      go_enter Try.func10, Try.ntmps10
      go_wp2_with fail
      refine (sizeOf_any _ hv _).mono ?_; rintro e w' ⟨rfl, rfl⟩
      rw [HN.out]
      go_wp2_with fail
      go_quiet ((go_at_call 19; exact quiet_left (ones_any v hv _)))
      rw [EC.out]
      go_wp2_with fail
      go_loop [6, 17] (fun _ i => ∃ j : Nat, j ≤ 8 ∧ i = .int .i64 j ∧ Hid (∀ k : Nat, k < j → TW 8 m k ≠ v)) (fun _ i => 8 - (intOf i).toNat)
      case atStart => exact ⟨0, by omega, rfl, fun k hk => absurd hk (by omega)⟩
      case round =>
        obtain ⟨j, hj, rfl, hq⟩ := hrel
        by_cases hlt : (j : Int) < 8
        · have hjn : Hid (j < 8) := by show j < 8; omega
          by_cases hb : TW 8 m j = v
          · have hok : okT 8 m j = true := by
              cases g : okT 8 m j
              · rw [TW_zero g] at hb; exact absurd hb.symm H0.out
              · rfl
            have ⟨_, o1, o2, _, _⟩ := okT_is hok
            obtain ⟨q, rfl⟩ : ∃ q, m = q + 1 := ⟨m - 1, by omega⟩
            have HB := Lib.hid hb
            have q1 : (q : Int) < 7 := by omega
            have q0 : (0 : Int) ≤ q := by omega
            have HE : Hid (Enc v (code 8 q j : Int) true) := by
              refine Or.inr ⟨H0.out, rfl, j, ?_⟩
              rw [HN.out, HMM.out]
              exact ⟨hjn.out, hb, hq.out, rfl⟩
            have hb' : (TW 8 ((q : Int) + 1) j == v) = true := by rw [beq_iff_eq]; exact hb
            clear hok o1 o2 hb hj
            go_wp2_with fail
            refine (turned_any _ _ _ (by unfold I64; omega) (by unfold I64; omega) (by unfold I64; omega) _).mono ?_; rintro e w' ⟨rfl, rfl⟩
            go_wp2_with fail
            refine (joined_any 8 q j rfl (by have := HM.out; omega) hjn.out _).mono ?_; rintro e w' ⟨rfl, rfl⟩
            go_wp2_with fail
            go_ret2
            exact ⟨EncE.mk rfl HE.out, Drawn.drewN (Drawn.refl _) _⟩
          · have HB := Lib.hid hb
            have hb' : (TW 8 m j == v) = false := by simpa using hb
            have HM' := HM.out
            clear hb
            go_wp2_with fail
            refine (turned_any _ _ _ (by unfold I64; omega) (by unfold I64; omega) (by unfold I64; omega) _).mono ?_; rintro e w' ⟨rfl, rfl⟩
            go_wp2_with fail
            go_round
            case rel => exact ⟨j + 1, by have := hjn.out; omega, by rw [Int.natCast_add]; rfl, fun k hk => by
              by_cases e : k = j
              · subst e; exact HB.out
              · exact hq.out k (by omega)⟩
            case measure =>
              have := hjn.out
              show 8 - ((j : Int) + 1).toNat < 8 - (j : Int).toNat; omega
        · have HE : Hid (Enc v 0 false) := by
            refine Or.inl ⟨rfl, rfl, Or.inr ⟨H0.out, ?_⟩⟩
            rw [HN.out, HMM.out]
            exact fun t ht => hq.out t (by omega)
          have hlt' := Int.not_lt.mp hlt
          clear hlt hj
          go_wp2_with fail
          go_ret2
          exact ⟨EncE.mk rfl HE.out, Drawn.drewN (Drawn.refl _) _⟩
    · have EC : Hid (wrap64 ((ones v : Int) / 4) = (cnt v : Int)) := by
        have a := HC.out; have b := HP.out
        show _ = _
        rw [IntWalk.wrap64_in _ (by omega)]; omega
      have HM := Lib.hid (cnt_le v)
      generalize hm : cnt v = m at *
      have HMM := Lib.hid hm
      clear hm
      go_enter Try.func10, Try.ntmps10
      go_wp2_with fail
      refine (sizeOf_any _ hv _).mono ?_; rintro e w' ⟨rfl, rfl⟩
      rw [HN.out]
      go_wp2_with fail
      go_quiet ((go_at_call 19; exact quiet_left (ones_any v hv _)))
      rw [EC.out]
      go_wp2_with fail
      go_loop [6, 17] (fun _ i => ∃ j : Nat, j ≤ 16 ∧ i = .int .i64 j ∧ Hid (∀ k : Nat, k < j → TW 16 m k ≠ v)) (fun _ i => 16 - (intOf i).toNat)
      case atStart => exact ⟨0, by omega, rfl, fun k hk => absurd hk (by omega)⟩
      case round =>
        obtain ⟨j, hj, rfl, hq⟩ := hrel
        by_cases hlt : (j : Int) < 16
        · have hjn : Hid (j < 16) := by show j < 16; omega
          by_cases hb : TW 16 m j = v
          · have hok : okT 16 m j = true := by
              cases g : okT 16 m j
              · rw [TW_zero g] at hb; exact absurd hb.symm H0.out
              · rfl
            have ⟨_, o1, o2, _, _⟩ := okT_is hok
            obtain ⟨q, rfl⟩ : ∃ q, m = q + 1 := ⟨m - 1, by omega⟩
            have HB := Lib.hid hb
            have q1 : (q : Int) < 15 := by omega
            have q0 : (0 : Int) ≤ q := by omega
            have HE : Hid (Enc v (code 16 q j : Int) true) := by
              refine Or.inr ⟨H0.out, rfl, j, ?_⟩
              rw [HN.out, HMM.out]
              exact ⟨hjn.out, hb, hq.out, rfl⟩
            have hb' : (TW 16 ((q : Int) + 1) j == v) = true := by rw [beq_iff_eq]; exact hb
            clear hok o1 o2 hb hj
            go_wp2_with fail
            refine (turned_any _ _ _ (by unfold I64; omega) (by unfold I64; omega) (by unfold I64; omega) _).mono ?_; rintro e w' ⟨rfl, rfl⟩
            go_wp2_with fail
            refine (joined_any 16 q j rfl (by have := HM.out; omega) hjn.out _).mono ?_; rintro e w' ⟨rfl, rfl⟩
            go_wp2_with fail
            go_ret2
            exact ⟨EncE.mk rfl HE.out, Drawn.drewN (Drawn.refl _) _⟩
          · have HB := Lib.hid hb
            have hb' : (TW 16 m j == v) = false := by simpa using hb
            have HM' := HM.out
            clear hb
            go_wp2_with fail
            refine (turned_any _ _ _ (by unfold I64; omega) (by unfold I64; omega) (by unfold I64; omega) _).mono ?_; rintro e w' ⟨rfl, rfl⟩
            go_wp2_with fail
            go_round
            case rel => exact ⟨j + 1, by have := hjn.out; omega, by rw [Int.natCast_add]; rfl, fun k hk => by
              by_cases e : k = j
              · subst e; exact HB.out
              · exact hq.out k (by omega)⟩
            case measure =>
              have := hjn.out
              show 16 - ((j : Int) + 1).toNat < 16 - (j : Int).toNat; omega
        · have HE : Hid (Enc v 0 false) := by
            refine Or.inl ⟨rfl, rfl, Or.inr ⟨H0.out, ?_⟩⟩
            rw [HN.out, HMM.out]
            exact fun t ht => hq.out t (by omega)
          have hlt' := Int.not_lt.mp hlt
          clear hlt hj
          go_wp2_with fail
          go_ret2
          exact ⟨EncE.mk rfl HE.out, Drawn.drewN (Drawn.refl _) _⟩
    · have EC : Hid (wrap64 ((ones v : Int) / 2) = (cnt v : Int)) := by
        have a := HC.out; have b := HP.out
        show _ = _
        rw [IntWalk.wrap64_in _ (by omega)]; omega
      have HM := Lib.hid (cnt_le v)
      generalize hm : cnt v = m at *
      have HMM := Lib.hid hm
      clear hm
      go_enter Try.func10, Try.ntmps10
      go_wp2_with fail
      refine (sizeOf_any _ hv _).mono ?_; rintro e w' ⟨rfl, rfl⟩
      rw [HN.out]
      go_wp2_with fail
      go_quiet ((go_at_call 19; exact quiet_left (ones_any v hv _)))
      rw [EC.out]
      go_wp2_with fail
      go_loop [6, 17] (fun _ i => ∃ j : Nat, j ≤ 32 ∧ i = .int .i64 j ∧ Hid (∀ k : Nat, k < j → TW 32 m k ≠ v)) (fun _ i => 32 - (intOf i).toNat)
      case atStart => exact ⟨0, by omega, rfl, fun k hk => absurd hk (by omega)⟩
      case round =>
        obtain ⟨j, hj, rfl, hq⟩ := hrel
        by_cases hlt : (j : Int) < 32
        · have hjn : Hid (j < 32) := by show j < 32; omega
          by_cases hb : TW 32 m j = v
          · have hok : okT 32 m j = true := by
              cases g : okT 32 m j
              · rw [TW_zero g] at hb; exact absurd hb.symm H0.out
              · rfl
            have ⟨_, o1, o2, _, _⟩ := okT_is hok
            obtain ⟨q, rfl⟩ : ∃ q, m = q + 1 := ⟨m - 1, by omega⟩
            have HB := Lib.hid hb
            have q1 : (q : Int) < 31 := by omega
            have q0 : (0 : Int) ≤ q := by omega
            have HE : Hid (Enc v (code 32 q j : Int) true) := by
              refine Or.inr ⟨H0.out, rfl, j, ?_⟩
              rw [HN.out, HMM.out]
              exact ⟨hjn.out, hb, hq.out, rfl⟩
            have hb' : (TW 32 ((q : Int) + 1) j == v) = true := by rw [beq_iff_eq]; exact hb
            clear hok o1 o2 hb hj
            go_wp2_with fail
            refine (turned_any _ _ _ (by unfold I64; omega) (by unfold I64; omega) (by unfold I64; omega) _).mono ?_; rintro e w' ⟨rfl, rfl⟩
            go_wp2_with fail
            refine (joined_any 32 q j rfl (by have := HM.out; omega) hjn.out _).mono ?_; rintro e w' ⟨rfl, rfl⟩
            go_wp2_with fail
            go_ret2
            exact ⟨EncE.mk rfl HE.out, Drawn.drewN (Drawn.refl _) _⟩
          · have HB := Lib.hid hb
            have hb' : (TW 32 m j == v) = false := by simpa using hb
            have HM' := HM.out
            clear hb
            go_wp2_with fail
            refine (turned_any _ _ _ (by unfold I64; omega) (by unfold I64; omega) (by unfold I64; omega) _).mono ?_; rintro e w' ⟨rfl, rfl⟩
            go_wp2_with fail
            go_round
            case rel => exact ⟨j + 1, by have := hjn.out; omega, by rw [Int.natCast_add]; rfl, fun k hk => by
              by_cases e : k = j
              · subst e; exact HB.out
              · exact hq.out k (by omega)⟩
            case measure =>
              have := hjn.out
              show 32 - ((j : Int) + 1).toNat < 32 - (j : Int).toNat; omega
        · have HE : Hid (Enc v 0 false) := by
            refine Or.inl ⟨rfl, rfl, Or.inr ⟨H0.out, ?_⟩⟩
            rw [HN.out, HMM.out]
            exact fun t ht => hq.out t (by omega)
          have hlt' := Int.not_lt.mp hlt
          clear hlt hj
          go_wp2_with fail
          go_ret2
          exact ⟨EncE.mk rfl HE.out, Drawn.drewN (Drawn.refl _) _⟩
    · have EC : Hid (wrap64 (ones v : Int) = (cnt v : Int)) := by
        have a := HC.out; have b := HP.out
        show _ = _
        rw [IntWalk.wrap64_in _ (by omega)]; omega
      have HM := Lib.hid (cnt_le v)
      generalize hm : cnt v = m at *
      have HMM := Lib.hid hm
      clear hm
      go_enter Try.func10, Try.ntmps10
      go_wp2_with fail
      refine (sizeOf_any _ hv _).mono ?_; rintro e w' ⟨rfl, rfl⟩
      rw [HN.out]
      go_wp2_with fail
      go_quiet ((go_at_call 19; exact quiet_left (ones_any v hv _)))
      rw [EC.out]
      go_wp2_with fail
      go_loop [6, 17] (fun _ i => ∃ j : Nat, j ≤ 64 ∧ i = .int .i64 j ∧ Hid (∀ k : Nat, k < j → TW 64 m k ≠ v)) (fun _ i => 64 - (intOf i).toNat)
      case atStart => exact ⟨0, by omega, rfl, fun k hk => absurd hk (by omega)⟩
      case round =>
        obtain ⟨j, hj, rfl, hq⟩ := hrel
        by_cases hlt : (j : Int) < 64
        · have hjn : Hid (j < 64) := by show j < 64; omega
          by_cases hb : TW 64 m j = v
          · have hok : okT 64 m j = true := by
              cases g : okT 64 m j
              · rw [TW_zero g] at hb; exact absurd hb.symm H0.out
              · rfl
            have ⟨_, o1, o2, _, _⟩ := okT_is hok
            obtain ⟨q, rfl⟩ : ∃ q, m = q + 1 := ⟨m - 1, by omega⟩
            have HB := Lib.hid hb
            have q1 : (q : Int) < 63 := by omega
            have q0 : (0 : Int) ≤ q := by omega
            have HE : Hid (Enc v (code 64 q j : Int) true) := by
              refine Or.inr ⟨H0.out, rfl, j, ?_⟩
              rw [HN.out, HMM.out]
              exact ⟨hjn.out, hb, hq.out, rfl⟩
            have hb' : (TW 64 ((q : Int) + 1) j == v) = true := by rw [beq_iff_eq]; exact hb
            clear hok o1 o2 hb hj
            go_wp2_with fail
            refine (turned_any _ _ _ (by unfold I64; omega) (by unfold I64; omega) (by unfold I64; omega) _).mono ?_; rintro e w' ⟨rfl, rfl⟩
            go_wp2_with fail
            refine (joined_any 64 q j rfl (by have := HM.out; omega) hjn.out _).mono ?_; rintro e w' ⟨rfl, rfl⟩
            go_wp2_with fail
            go_ret2
            exact ⟨EncE.mk rfl HE.out, Drawn.drewN (Drawn.refl _) _⟩
          · have HB := Lib.hid hb
            have hb' : (TW 64 m j == v) = false := by simpa using hb
            have HM' := HM.out
            clear hb
            go_wp2_with fail
            refine (turned_any _ _ _ (by unfold I64; omega) (by unfold I64; omega) (by unfold I64; omega) _).mono ?_; rintro e w' ⟨rfl, rfl⟩
            go_wp2_with fail
            go_round
            case rel => exact ⟨j + 1, by have := hjn.out; omega, by rw [Int.natCast_add]; rfl, fun k hk => by
              by_cases e : k = j
              · subst e; exact HB.out
              · exact hq.out k (by omega)⟩
            case measure =>
              have := hjn.out
              show 64 - ((j : Int) + 1).toNat < 64 - (j : Int).toNat; omega
        · have HE : Hid (Enc v 0 false) := by
            refine Or.inl ⟨rfl, rfl, Or.inr ⟨H0.out, ?_⟩⟩
            rw [HN.out, HMM.out]
            exact fun t ht => hq.out t (by omega)
          have hlt' := Int.not_lt.mp hlt
          clear hlt hj
          go_wp2_with fail
          go_ret2
          exact ⟨EncE.mk rfl HE.out, Drawn.drewN (Drawn.refl _) _⟩
end Go.Proofs.Ytlhinabodofjeaa
