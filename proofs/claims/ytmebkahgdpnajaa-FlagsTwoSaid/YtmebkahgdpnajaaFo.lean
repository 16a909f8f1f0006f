/- Walks of layer 8: operations of two numbers, by the document's own answers: bit by bit. -/
import Derived.Test.YtmebkahgdpnajaaFn
import Derived.LoopTactic
namespace Go.Proofs.Ytmebkahgdpnajaa
open Go Go.RowKit
open Cq (U64 I64 isW nb zx sx neg bit oneI)

theorem bcell {W w1 : World} (hb : Below W.heap.size W w1) : (∀ b o, b < W.heap.size → w1.cell? ⟨b, o, none⟩ = W.cell? ⟨b, o, none⟩) ∧ (∀ b o, b < W.heap.size → w1.frozen? ⟨b, o, none⟩ = W.frozen? ⟨b, o, none⟩) :=
  ⟨fun b o h => hb.cell (p := ⟨b, o, none⟩) h, fun b o h => hb.frozen (p := ⟨b, o, none⟩) h⟩

set_option maxRecDepth 100000 in
theorem rtwo_at_5 (a b : Int) (c o : Bool) (s w : Int) (ha : U64 a) (hb : U64 b) (h : isW w = true) (W : World) : Calls Try.prog 10 #[.int .i64 5, .int .u64 a, .int .u64 b, th c o s, .int .i64 w] W fun e W' => e = .returned (two 5 a b c o s w) ∧ Kp W W' := by
  rw [two_5 a b c o s w h]
  have HS := Lib.hid (Cq.sx_zx (bits .and .u64 a b) w)
  have uv : U64 (bits .and .u64 a b) := Cq.bits_u64 _ _ _
  have HV := Lib.hid (Cq.put_round uv)
  have HB := Lib.hid (fun k hk => Cq.bit_and (a := a) (b := b) k hk)
  have HE : Hid (bits .and .u64 a b % 2 ^ 64 = bits .and .u64 a b) := Lib.hid (by unfold U64 at uv; exact Int.emod_eq_of_lt uv.1 uv.2)
  generalize bits .and .u64 a b = v at *
  unfold th
  go_enter Try.func10, Try.ntmps10
  go_wp2_with fail
  refine (ris_any _ _).mono ?_; rintro e w' ⟨rfl, rfl⟩
  rw [h]
  go_wp2_with fail
  refine (word_5 _).mono ?_; rintro e w' ⟨rfl, rfl⟩
  go_wp2_with fail
  go_loopw [24, 25, 26] (fun r i _ wr => ∃ k : Nat, k ≤ 64 ∧ i = .int .i64 k ∧ r = .int .u64 (v % 2 ^ k) ∧ Kp (((W.alloc (.cells #[.bool c, .bool o, .int .u64 s] 24)).alloc (.cells #[.bool false, .bool false, .int .u64 0] 24)).alloc tabObj) wr) (fun _ i _ _ => 64 - (intOf i).toNat)
  case atStart => exact ⟨0, by omega, rfl, by simp, Kp.rfl _⟩
  case round =>
    obtain ⟨k, hk, rfl, rfl, hkp⟩ := hrel
    replace hkp := Lib.hid hkp
    by_cases hlt : k < 64
    · have ea := Cq.bit_is ha k hlt
      have eb := Cq.bit_is hb k hlt
      have ev := HB.out k hlt
      have HR := HV.out k hlt
      generalize (Cq.B a).getLsbD k = p at *
      generalize (Cq.B b).getLsbD k = q at *
      cases p <;> cases q
      · replace ea := Lib.hid (show bit a k = 0 from ea)
        replace eb := Lib.hid (show bit b k = 0 from eb)
        replace ev := Lib.hid (show bit v k = 0 from ev)
        replace HR := Lib.hid (HR.2 ev.out)
        go_wp2_with fail
        refine (bit_any a k (by omega) ha _).mono ?_; rintro e w' ⟨rfl, rfl⟩
        rw [ea.out]
        go_wp2_with fail
        refine (bit_any b k (by omega) hb _).mono ?_; rintro e w' ⟨rfl, rfl⟩
        rw [eb.out]
        go_wp2_with fail
        go_roundw
        case rel => exact ⟨k + 1, by omega, by go_num, by rw [HR.out], hkp.out⟩
        case measure => simp [intOf]; omega
      · replace ea := Lib.hid (show bit a k = 0 from ea)
        replace eb := Lib.hid (show bit b k = 1 from eb)
        replace ev := Lib.hid (show bit v k = 0 from ev)
        replace HR := Lib.hid (HR.2 ev.out)
        go_wp2_with fail
        refine (bit_any a k (by omega) ha _).mono ?_; rintro e w' ⟨rfl, rfl⟩
        rw [ea.out]
        go_wp2_with fail
        refine (bit_any b k (by omega) hb _).mono ?_; rintro e w' ⟨rfl, rfl⟩
        rw [eb.out]
        go_wp2_with fail
        refine (word_5 _).mono ?_; rintro e w' ⟨rfl, rfl⟩
        go_wp2_with fail
        refine (word_5 _).mono ?_; rintro e w' ⟨rfl, rfl⟩
        go_wp2_with fail
        go_roundw
        case rel => exact ⟨k + 1, by omega, by go_num, by rw [HR.out], ((hkp.out).new _).new _⟩
        case measure => simp [intOf]; omega
      · replace ea := Lib.hid (show bit a k = 1 from ea)
        replace eb := Lib.hid (show bit b k = 0 from eb)
        replace ev := Lib.hid (show bit v k = 0 from ev)
        replace HR := Lib.hid (HR.2 ev.out)
        go_wp2_with fail
        refine (bit_any a k (by omega) ha _).mono ?_; rintro e w' ⟨rfl, rfl⟩
        rw [ea.out]
        go_wp2_with fail
        refine (bit_any b k (by omega) hb _).mono ?_; rintro e w' ⟨rfl, rfl⟩
        rw [eb.out]
        go_wp2_with fail
        refine (word_5 _).mono ?_; rintro e w' ⟨rfl, rfl⟩
        go_wp2_with fail
        refine (word_5 _).mono ?_; rintro e w' ⟨rfl, rfl⟩
        go_wp2_with fail
        go_roundw
        case rel => exact ⟨k + 1, by omega, by go_num, by rw [HR.out], ((hkp.out).new _).new _⟩
        case measure => simp [intOf]; omega
      · replace ea := Lib.hid (show bit a k = 1 from ea)
        replace eb := Lib.hid (show bit b k = 1 from eb)
        replace ev := Lib.hid (show bit v k = 1 from ev)
        replace HR := Lib.hid (HR.1 ev.out)
        go_wp2_with fail
        refine (bit_any a k (by omega) ha _).mono ?_; rintro e w' ⟨rfl, rfl⟩
        rw [ea.out]
        go_wp2_with fail
        refine (bit_any b k (by omega) hb _).mono ?_; rintro e w' ⟨rfl, rfl⟩
        rw [eb.out]
        go_wp2_with fail
        refine (word_5 _).mono ?_; rintro e w' ⟨rfl, rfl⟩
        go_wp2_with fail
        go_roundw
        case rel => exact ⟨k + 1, by omega, by go_num, by rw [HR.out], (hkp.out).new _⟩
        case measure => simp [intOf]; omega
    · have : k = 64 := by omega
      subst this
      rw [HE.out]
      have hc0 := hkp.out.cell (p := ⟨W.heap.size + 1, 0, none⟩) (by simp)
      have hc1 := hkp.out.cell (p := ⟨W.heap.size + 1, 1, none⟩) (by simp)
      have hc2 := hkp.out.cell (p := ⟨W.heap.size + 1, 2, none⟩) (by simp)
      have hf0 := hkp.out.frozen (p := ⟨W.heap.size + 1, 0, none⟩) (by simp)
      have hf1 := hkp.out.frozen (p := ⟨W.heap.size + 1, 1, none⟩) (by simp)
      have hf2 := hkp.out.frozen (p := ⟨W.heap.size + 1, 2, none⟩) (by simp)
      replace hc0 := hc0.trans (show _ = some (.bool false) by simp [go_sem])
      replace hc1 := hc1.trans (show _ = some (.bool false) by simp [go_sem])
      replace hc2 := hc2.trans (show _ = some (.int .u64 0) by simp [go_sem])
      replace hf0 := hf0.trans (show _ = false by simp [go_sem])
      replace hf1 := hf1.trans (show _ = false by simp [go_sem])
      replace hf2 := hf2.trans (show _ = false by simp [go_sem])
      have hz : W.heap.size + 1 < wr.heap.size := by have := hkp.out.size; simp at this; omega
      go_wp2_with fail
      refine (rof_any _ _ _ _ uv _).mono ?_; rintro e w' ⟨rfl, rfl⟩
      unfold th
      go_wp2_with fail
      refine bodyPost_ret (v := .tuple #[.int .u64 (zx v w), th false false (sx v w)]) (by simp [results, Try.results10, go_sem, th, hc0, hc1, hc2, hz]) rfl ⟨by rw [T, HS.out], ?_⟩
      exact ((((((((Kp.rfl W).new _).new _).new _).next hkp.out).put (by simp) _).put (by simp) _).put (by simp) _).new _
set_option maxRecDepth 100000 in
theorem rtwo_at_9 (a b : Int) (c o : Bool) (s w : Int) (ha : U64 a) (hb : U64 b) (h : isW w = true) (W : World) : Calls Try.prog 10 #[.int .i64 9, .int .u64 a, .int .u64 b, th c o s, .int .i64 w] W fun e W' => e = .returned (two 9 a b c o s w) ∧ Kp W W' := by
  rw [two_9 a b c o s w h]
  have HS := Lib.hid (Cq.sx_zx (bits .and .u64 a b) w)
  have uv : U64 (bits .and .u64 a b) := Cq.bits_u64 _ _ _
  have HV := Lib.hid (Cq.put_round uv)
  have HB := Lib.hid (fun k hk => Cq.bit_and (a := a) (b := b) k hk)
  have HE : Hid (bits .and .u64 a b % 2 ^ 64 = bits .and .u64 a b) := Lib.hid (by unfold U64 at uv; exact Int.emod_eq_of_lt uv.1 uv.2)
  generalize bits .and .u64 a b = v at *
  unfold th
  go_enter Try.func10, Try.ntmps10
  go_wp2_with fail
  refine (ris_any _ _).mono ?_; rintro e w' ⟨rfl, rfl⟩
  rw [h]
  go_wp2_with fail
  refine (word_9 _).mono ?_; rintro e w' ⟨rfl, rfl⟩
  go_wp2_with fail
  go_loopw [24, 25, 26] (fun r i _ wr => ∃ k : Nat, k ≤ 64 ∧ i = .int .i64 k ∧ r = .int .u64 (v % 2 ^ k) ∧ Kp (((W.alloc (.cells #[.bool c, .bool o, .int .u64 s] 24)).alloc (.cells #[.bool false, .bool false, .int .u64 0] 24)).alloc tabObj) wr) (fun _ i _ _ => 64 - (intOf i).toNat)
  case atStart => exact ⟨0, by omega, rfl, by simp, Kp.rfl _⟩
  case round =>
    obtain ⟨k, hk, rfl, rfl, hkp⟩ := hrel
    replace hkp := Lib.hid hkp
    by_cases hlt : k < 64
    · have ea := Cq.bit_is ha k hlt
      have eb := Cq.bit_is hb k hlt
      have ev := HB.out k hlt
      have HR := HV.out k hlt
      generalize (Cq.B a).getLsbD k = p at *
      generalize (Cq.B b).getLsbD k = q at *
      cases p <;> cases q
      · replace ea := Lib.hid (show bit a k = 0 from ea)
        replace eb := Lib.hid (show bit b k = 0 from eb)
        replace ev := Lib.hid (show bit v k = 0 from ev)
        replace HR := Lib.hid (HR.2 ev.out)
        go_wp2_with fail
        refine (bit_any a k (by omega) ha _).mono ?_; rintro e w' ⟨rfl, rfl⟩
        rw [ea.out]
        go_wp2_with fail
        refine (bit_any b k (by omega) hb _).mono ?_; rintro e w' ⟨rfl, rfl⟩
        rw [eb.out]
        go_wp2_with fail
        go_roundw
        case rel => exact ⟨k + 1, by omega, by go_num, by rw [HR.out], hkp.out⟩
        case measure => simp [intOf]; omega
      · replace ea := Lib.hid (show bit a k = 0 from ea)
        replace eb := Lib.hid (show bit b k = 1 from eb)
        replace ev := Lib.hid (show bit v k = 0 from ev)
        replace HR := Lib.hid (HR.2 ev.out)
        go_wp2_with fail
        refine (bit_any a k (by omega) ha _).mono ?_; rintro e w' ⟨rfl, rfl⟩
        rw [ea.out]
        go_wp2_with fail
        refine (bit_any b k (by omega) hb _).mono ?_; rintro e w' ⟨rfl, rfl⟩
        rw [eb.out]
        go_wp2_with fail
        refine (word_9 _).mono ?_; rintro e w' ⟨rfl, rfl⟩
        go_wp2_with fail
        refine (word_9 _).mono ?_; rintro e w' ⟨rfl, rfl⟩
        go_wp2_with fail
        go_roundw
        case rel => exact ⟨k + 1, by omega, by go_num, by rw [HR.out], ((hkp.out).new _).new _⟩
        case measure => simp [intOf]; omega
      · replace ea := Lib.hid (show bit a k = 1 from ea)
        replace eb := Lib.hid (show bit b k = 0 from eb)
        replace ev := Lib.hid (show bit v k = 0 from ev)
        replace HR := Lib.hid (HR.2 ev.out)
        go_wp2_with fail
        refine (bit_any a k (by omega) ha _).mono ?_; rintro e w' ⟨rfl, rfl⟩
        rw [ea.out]
        go_wp2_with fail
        refine (bit_any b k (by omega) hb _).mono ?_; rintro e w' ⟨rfl, rfl⟩
        rw [eb.out]
        go_wp2_with fail
        refine (word_9 _).mono ?_; rintro e w' ⟨rfl, rfl⟩
        go_wp2_with fail
        refine (word_9 _).mono ?_; rintro e w' ⟨rfl, rfl⟩
        go_wp2_with fail
        go_roundw
        case rel => exact ⟨k + 1, by omega, by go_num, by rw [HR.out], ((hkp.out).new _).new _⟩
        case measure => simp [intOf]; omega
      · replace ea := Lib.hid (show bit a k = 1 from ea)
        replace eb := Lib.hid (show bit b k = 1 from eb)
        replace ev := Lib.hid (show bit v k = 1 from ev)
        replace HR := Lib.hid (HR.1 ev.out)
        go_wp2_with fail
        refine (bit_any a k (by omega) ha _).mono ?_; rintro e w' ⟨rfl, rfl⟩
        rw [ea.out]
        go_wp2_with fail
        refine (bit_any b k (by omega) hb _).mono ?_; rintro e w' ⟨rfl, rfl⟩
        rw [eb.out]
        go_wp2_with fail
        refine (word_9 _).mono ?_; rintro e w' ⟨rfl, rfl⟩
        go_wp2_with fail
        go_roundw
        case rel => exact ⟨k + 1, by omega, by go_num, by rw [HR.out], (hkp.out).new _⟩
        case measure => simp [intOf]; omega
    · have : k = 64 := by omega
      subst this
      rw [HE.out]
      have hc0 := hkp.out.cell (p := ⟨W.heap.size + 1, 0, none⟩) (by simp)
      have hc1 := hkp.out.cell (p := ⟨W.heap.size + 1, 1, none⟩) (by simp)
      have hc2 := hkp.out.cell (p := ⟨W.heap.size + 1, 2, none⟩) (by simp)
      have hf0 := hkp.out.frozen (p := ⟨W.heap.size + 1, 0, none⟩) (by simp)
      have hf1 := hkp.out.frozen (p := ⟨W.heap.size + 1, 1, none⟩) (by simp)
      have hf2 := hkp.out.frozen (p := ⟨W.heap.size + 1, 2, none⟩) (by simp)
      replace hc0 := hc0.trans (show _ = some (.bool false) by simp [go_sem])
      replace hc1 := hc1.trans (show _ = some (.bool false) by simp [go_sem])
      replace hc2 := hc2.trans (show _ = some (.int .u64 0) by simp [go_sem])
      replace hf0 := hf0.trans (show _ = false by simp [go_sem])
      replace hf1 := hf1.trans (show _ = false by simp [go_sem])
      replace hf2 := hf2.trans (show _ = false by simp [go_sem])
      have hz : W.heap.size + 1 < wr.heap.size := by have := hkp.out.size; simp at this; omega
      go_wp2_with fail
      refine (rof_any _ _ _ _ uv _).mono ?_; rintro e w' ⟨rfl, rfl⟩
      unfold th
      go_wp2_with fail
      refine bodyPost_ret (v := .tuple #[.int .u64 (zx v w), th false false (sx v w)]) (by simp [results, Try.results10, go_sem, th, hc0, hc1, hc2, hz]) rfl ⟨by rw [T, HS.out], ?_⟩
      exact ((((((((Kp.rfl W).new _).new _).new _).next hkp.out).put (by simp) _).put (by simp) _).put (by simp) _).new _
set_option maxRecDepth 100000 in
theorem rtwo_at_2 (a b : Int) (c o : Bool) (s w : Int) (ha : U64 a) (hb : U64 b) (h : isW w = true) (W : World) : Calls Try.prog 10 #[.int .i64 2, .int .u64 a, .int .u64 b, th c o s, .int .i64 w] W fun e W' => e = .returned (two 2 a b c o s w) ∧ Kp W W' := by
  rw [two_2 a b c o s w h]
  have HS := Lib.hid (Cq.sx_zx (bits .or .u64 a b) w)
  have uv : U64 (bits .or .u64 a b) := Cq.bits_u64 _ _ _
  have HV := Lib.hid (Cq.put_round uv)
  have HB := Lib.hid (fun k hk => Cq.bit_or' (a := a) (b := b) k hk)
  have HE : Hid (bits .or .u64 a b % 2 ^ 64 = bits .or .u64 a b) := Lib.hid (by unfold U64 at uv; exact Int.emod_eq_of_lt uv.1 uv.2)
  generalize bits .or .u64 a b = v at *
  unfold th
  go_enter Try.func10, Try.ntmps10
  go_wp2_with fail
  refine (ris_any _ _).mono ?_; rintro e w' ⟨rfl, rfl⟩
  rw [h]
  go_wp2_with fail
  refine (word_2 _).mono ?_; rintro e w' ⟨rfl, rfl⟩
  go_wp2_with fail
  go_loopw [24, 25, 26] (fun r i _ wr => ∃ k : Nat, k ≤ 64 ∧ i = .int .i64 k ∧ r = .int .u64 (v % 2 ^ k) ∧ Kp (((W.alloc (.cells #[.bool c, .bool o, .int .u64 s] 24)).alloc (.cells #[.bool false, .bool false, .int .u64 0] 24)).alloc tabObj) wr) (fun _ i _ _ => 64 - (intOf i).toNat)
  case atStart => exact ⟨0, by omega, rfl, by simp, Kp.rfl _⟩
  case round =>
    obtain ⟨k, hk, rfl, rfl, hkp⟩ := hrel
    replace hkp := Lib.hid hkp
    by_cases hlt : k < 64
    · have ea := Cq.bit_is ha k hlt
      have eb := Cq.bit_is hb k hlt
      have ev := HB.out k hlt
      have HR := HV.out k hlt
      generalize (Cq.B a).getLsbD k = p at *
      generalize (Cq.B b).getLsbD k = q at *
      cases p <;> cases q
      · replace ea := Lib.hid (show bit a k = 0 from ea)
        replace eb := Lib.hid (show bit b k = 0 from eb)
        replace ev := Lib.hid (show bit v k = 0 from ev)
        replace HR := Lib.hid (HR.2 ev.out)
        go_wp2_with fail
        refine (bit_any a k (by omega) ha _).mono ?_; rintro e w' ⟨rfl, rfl⟩
        rw [ea.out]
        go_wp2_with fail
        refine (bit_any b k (by omega) hb _).mono ?_; rintro e w' ⟨rfl, rfl⟩
        rw [eb.out]
        go_wp2_with fail
        go_roundw
        case rel => exact ⟨k + 1, by omega, by go_num, by rw [HR.out], hkp.out⟩
        case measure => simp [intOf]; omega
      · replace ea := Lib.hid (show bit a k = 0 from ea)
        replace eb := Lib.hid (show bit b k = 1 from eb)
        replace ev := Lib.hid (show bit v k = 1 from ev)
        replace HR := Lib.hid (HR.1 ev.out)
        go_wp2_with fail
        refine (bit_any a k (by omega) ha _).mono ?_; rintro e w' ⟨rfl, rfl⟩
        rw [ea.out]
        go_wp2_with fail
        refine (bit_any b k (by omega) hb _).mono ?_; rintro e w' ⟨rfl, rfl⟩
        rw [eb.out]
        go_wp2_with fail
        refine (word_2 _).mono ?_; rintro e w' ⟨rfl, rfl⟩
        go_wp2_with fail
        go_roundw
        case rel => exact ⟨k + 1, by omega, by go_num, by rw [HR.out], (hkp.out).new _⟩
        case measure => simp [intOf]; omega
      · replace ea := Lib.hid (show bit a k = 1 from ea)
        replace eb := Lib.hid (show bit b k = 0 from eb)
        replace ev := Lib.hid (show bit v k = 1 from ev)
        replace HR := Lib.hid (HR.1 ev.out)
        go_wp2_with fail
        refine (bit_any a k (by omega) ha _).mono ?_; rintro e w' ⟨rfl, rfl⟩
        rw [ea.out]
        go_wp2_with fail
        refine (bit_any b k (by omega) hb _).mono ?_; rintro e w' ⟨rfl, rfl⟩
        rw [eb.out]
        go_wp2_with fail
        refine (word_2 _).mono ?_; rintro e w' ⟨rfl, rfl⟩
        go_wp2_with fail
        go_roundw
        case rel => exact ⟨k + 1, by omega, by go_num, by rw [HR.out], (hkp.out).new _⟩
        case measure => simp [intOf]; omega
      · replace ea := Lib.hid (show bit a k = 1 from ea)
        replace eb := Lib.hid (show bit b k = 1 from eb)
        replace ev := Lib.hid (show bit v k = 1 from ev)
        replace HR := Lib.hid (HR.1 ev.out)
        go_wp2_with fail
        refine (bit_any a k (by omega) ha _).mono ?_; rintro e w' ⟨rfl, rfl⟩
        rw [ea.out]
        go_wp2_with fail
        refine (bit_any b k (by omega) hb _).mono ?_; rintro e w' ⟨rfl, rfl⟩
        rw [eb.out]
        go_wp2_with fail
        refine (word_2 _).mono ?_; rintro e w' ⟨rfl, rfl⟩
        go_wp2_with fail
        go_roundw
        case rel => exact ⟨k + 1, by omega, by go_num, by rw [HR.out], (hkp.out).new _⟩
        case measure => simp [intOf]; omega
    · have : k = 64 := by omega
      subst this
      rw [HE.out]
      have hc0 := hkp.out.cell (p := ⟨W.heap.size + 1, 0, none⟩) (by simp)
      have hc1 := hkp.out.cell (p := ⟨W.heap.size + 1, 1, none⟩) (by simp)
      have hc2 := hkp.out.cell (p := ⟨W.heap.size + 1, 2, none⟩) (by simp)
      have hf0 := hkp.out.frozen (p := ⟨W.heap.size + 1, 0, none⟩) (by simp)
      have hf1 := hkp.out.frozen (p := ⟨W.heap.size + 1, 1, none⟩) (by simp)
      have hf2 := hkp.out.frozen (p := ⟨W.heap.size + 1, 2, none⟩) (by simp)
      replace hc0 := hc0.trans (show _ = some (.bool false) by simp [go_sem])
      replace hc1 := hc1.trans (show _ = some (.bool false) by simp [go_sem])
      replace hc2 := hc2.trans (show _ = some (.int .u64 0) by simp [go_sem])
      replace hf0 := hf0.trans (show _ = false by simp [go_sem])
      replace hf1 := hf1.trans (show _ = false by simp [go_sem])
      replace hf2 := hf2.trans (show _ = false by simp [go_sem])
      have hz : W.heap.size + 1 < wr.heap.size := by have := hkp.out.size; simp at this; omega
      go_wp2_with fail
      refine (rof_any _ _ _ _ uv _).mono ?_; rintro e w' ⟨rfl, rfl⟩
      unfold th
      go_wp2_with fail
      refine bodyPost_ret (v := .tuple #[.int .u64 (zx v w), th false false (sx v w)]) (by simp [results, Try.results10, go_sem, th, hc0, hc1, hc2, hz]) rfl ⟨by rw [T, HS.out], ?_⟩
      exact ((((((((Kp.rfl W).new _).new _).new _).next hkp.out).put (by simp) _).put (by simp) _).put (by simp) _).new _
set_option maxRecDepth 100000 in
theorem rtwo_at_7 (a b : Int) (c o : Bool) (s w : Int) (ha : U64 a) (hb : U64 b) (h : isW w = true) (W : World) : Calls Try.prog 10 #[.int .i64 7, .int .u64 a, .int .u64 b, th c o s, .int .i64 w] W fun e W' => e = .returned (two 7 a b c o s w) ∧ Kp W W' := by
  rw [two_7 a b c o s w h]
  have HS := Lib.hid (Cq.sx_zx (bits .xor .u64 a b) w)
  have uv : U64 (bits .xor .u64 a b) := Cq.bits_u64 _ _ _
  have HV := Lib.hid (Cq.put_round uv)
  have HB := Lib.hid (fun k hk => Cq.bit_xor (a := a) (b := b) k hk)
  have HE : Hid (bits .xor .u64 a b % 2 ^ 64 = bits .xor .u64 a b) := Lib.hid (by unfold U64 at uv; exact Int.emod_eq_of_lt uv.1 uv.2)
  generalize bits .xor .u64 a b = v at *
  unfold th
  go_enter Try.func10, Try.ntmps10
  go_wp2_with fail
  refine (ris_any _ _).mono ?_; rintro e w' ⟨rfl, rfl⟩
  rw [h]
  go_wp2_with fail
  refine (word_7 _).mono ?_; rintro e w' ⟨rfl, rfl⟩
  go_wp2_with fail
  go_loopw [24, 25, 26] (fun r i _ wr => ∃ k : Nat, k ≤ 64 ∧ i = .int .i64 k ∧ r = .int .u64 (v % 2 ^ k) ∧ Kp (((W.alloc (.cells #[.bool c, .bool o, .int .u64 s] 24)).alloc (.cells #[.bool false, .bool false, .int .u64 0] 24)).alloc tabObj) wr) (fun _ i _ _ => 64 - (intOf i).toNat)
  case atStart => exact ⟨0, by omega, rfl, by simp, Kp.rfl _⟩
  case round =>
    obtain ⟨k, hk, rfl, rfl, hkp⟩ := hrel
    replace hkp := Lib.hid hkp
    by_cases hlt : k < 64
    · have ea := Cq.bit_is ha k hlt
      have eb := Cq.bit_is hb k hlt
      have ev := HB.out k hlt
      have HR := HV.out k hlt
      generalize (Cq.B a).getLsbD k = p at *
      generalize (Cq.B b).getLsbD k = q at *
      cases p <;> cases q
      · replace ea := Lib.hid (show bit a k = 0 from ea)
        replace eb := Lib.hid (show bit b k = 0 from eb)
        replace ev := Lib.hid (show bit v k = 0 from ev)
        replace HR := Lib.hid (HR.2 ev.out)
        go_wp2_with fail
        refine (bit_any a k (by omega) ha _).mono ?_; rintro e w' ⟨rfl, rfl⟩
        rw [ea.out]
        go_wp2_with fail
        refine (bit_any b k (by omega) hb _).mono ?_; rintro e w' ⟨rfl, rfl⟩
        rw [eb.out]
        go_wp2_with fail
        go_roundw
        case rel => exact ⟨k + 1, by omega, by go_num, by rw [HR.out], hkp.out⟩
        case measure => simp [intOf]; omega
      · replace ea := Lib.hid (show bit a k = 0 from ea)
        replace eb := Lib.hid (show bit b k = 1 from eb)
        replace ev := Lib.hid (show bit v k = 1 from ev)
        replace HR := Lib.hid (HR.1 ev.out)
        go_wp2_with fail
        refine (bit_any a k (by omega) ha _).mono ?_; rintro e w' ⟨rfl, rfl⟩
        rw [ea.out]
        go_wp2_with fail
        refine (bit_any b k (by omega) hb _).mono ?_; rintro e w' ⟨rfl, rfl⟩
        rw [eb.out]
        go_wp2_with fail
        refine (word_7 _).mono ?_; rintro e w' ⟨rfl, rfl⟩
        go_wp2_with fail
        refine (word_7 _).mono ?_; rintro e w' ⟨rfl, rfl⟩
        go_wp2_with fail
        go_roundw
        case rel => exact ⟨k + 1, by omega, by go_num, by rw [HR.out], ((hkp.out).new _).new _⟩
        case measure => simp [intOf]; omega
      · replace ea := Lib.hid (show bit a k = 1 from ea)
        replace eb := Lib.hid (show bit b k = 0 from eb)
        replace ev := Lib.hid (show bit v k = 1 from ev)
        replace HR := Lib.hid (HR.1 ev.out)
        go_wp2_with fail
        refine (bit_any a k (by omega) ha _).mono ?_; rintro e w' ⟨rfl, rfl⟩
        rw [ea.out]
        go_wp2_with fail
        refine (bit_any b k (by omega) hb _).mono ?_; rintro e w' ⟨rfl, rfl⟩
        rw [eb.out]
        go_wp2_with fail
        refine (word_7 _).mono ?_; rintro e w' ⟨rfl, rfl⟩
        go_wp2_with fail
        refine (word_7 _).mono ?_; rintro e w' ⟨rfl, rfl⟩
        go_wp2_with fail
        go_roundw
        case rel => exact ⟨k + 1, by omega, by go_num, by rw [HR.out], ((hkp.out).new _).new _⟩
        case measure => simp [intOf]; omega
      · replace ea := Lib.hid (show bit a k = 1 from ea)
        replace eb := Lib.hid (show bit b k = 1 from eb)
        replace ev := Lib.hid (show bit v k = 0 from ev)
        replace HR := Lib.hid (HR.2 ev.out)
        go_wp2_with fail
        refine (bit_any a k (by omega) ha _).mono ?_; rintro e w' ⟨rfl, rfl⟩
        rw [ea.out]
        go_wp2_with fail
        refine (bit_any b k (by omega) hb _).mono ?_; rintro e w' ⟨rfl, rfl⟩
        rw [eb.out]
        go_wp2_with fail
        refine (word_7 _).mono ?_; rintro e w' ⟨rfl, rfl⟩
        go_wp2_with fail
        go_roundw
        case rel => exact ⟨k + 1, by omega, by go_num, by rw [HR.out], (hkp.out).new _⟩
        case measure => simp [intOf]; omega
    · have : k = 64 := by omega
      subst this
      rw [HE.out]
      have hc0 := hkp.out.cell (p := ⟨W.heap.size + 1, 0, none⟩) (by simp)
      have hc1 := hkp.out.cell (p := ⟨W.heap.size + 1, 1, none⟩) (by simp)
      have hc2 := hkp.out.cell (p := ⟨W.heap.size + 1, 2, none⟩) (by simp)
      have hf0 := hkp.out.frozen (p := ⟨W.heap.size + 1, 0, none⟩) (by simp)
      have hf1 := hkp.out.frozen (p := ⟨W.heap.size + 1, 1, none⟩) (by simp)
      have hf2 := hkp.out.frozen (p := ⟨W.heap.size + 1, 2, none⟩) (by simp)
      replace hc0 := hc0.trans (show _ = some (.bool false) by simp [go_sem])
      replace hc1 := hc1.trans (show _ = some (.bool false) by simp [go_sem])
      replace hc2 := hc2.trans (show _ = some (.int .u64 0) by simp [go_sem])
      replace hf0 := hf0.trans (show _ = false by simp [go_sem])
      replace hf1 := hf1.trans (show _ = false by simp [go_sem])
      replace hf2 := hf2.trans (show _ = false by simp [go_sem])
      have hz : W.heap.size + 1 < wr.heap.size := by have := hkp.out.size; simp at this; omega
      go_wp2_with fail
      refine (rof_any _ _ _ _ uv _).mono ?_; rintro e w' ⟨rfl, rfl⟩
      unfold th
      go_wp2_with fail
      refine bodyPost_ret (v := .tuple #[.int .u64 (zx v w), th false false (sx v w)]) (by simp [results, Try.results10, go_sem, th, hc0, hc1, hc2, hz]) rfl ⟨by rw [T, HS.out], ?_⟩
      exact ((((((((Kp.rfl W).new _).new _).new _).next hkp.out).put (by simp) _).put (by simp) _).put (by simp) _).new _
end Go.Proofs.Ytmebkahgdpnajaa
