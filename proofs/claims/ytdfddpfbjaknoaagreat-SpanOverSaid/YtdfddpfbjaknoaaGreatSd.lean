import Derived.Test.YtdfddpfbjaknoaaGreatSc
import Derived.Deep.CutBlock
namespace Go.Proofs.YtdfddpfbjaknoaaGreat
open Go Go.Proofs Go.RowKit
/-- What the law's loop leaves. -/
def OR4 (g : Nat → Nat → Int) (W : World) (k : Nat) (v : Value) (W' : World) : Prop := W'.ownsRow W.heap.size 25 4 v k (rowsOf g k) ∧ Below W.heap.size W W'
theorem row_lt {W : World} {B e size n : Nat} {v : Value} {xs : List Value} (h : W.ownsRow B e size v n xs) {k : Nat} (hk : v.ownBlock = some k) : k < W.heap.size := by
  rcases h.2 with ⟨rfl, _⟩ | ⟨g, cap, cur, rfl, hB, hg, _⟩
  · simp [Value.ownBlock] at hk
  · simp [Value.ownBlock] at hk
    subst hk
    exact (Array.getElem?_eq_some_iff.1 hg).1
set_option maxRecDepth 100000 in
set_option maxHeartbeats 4000000 in
theorem law3 (haw : ∀ w, Calls Tryz.prog 7 #[] w fun e w' => e = .returned (.bool true) ∧ Below w.heap.size w w') (A : Option Addr) (n c : Nat) (f : Nat → Nat → Int) (W : World) (sp lo size : Int) (h : In4 W A n f) (hnc : n ≤ c) (h4 : 0 ≤ size) (h5 : size ≤ 18446744073709551615) :
    Calls Tryz.prog 3 #[.slice A n c, .int .u64 sp, .int .u64 lo, .int .u64 size] W fun e W' => e = .returned (.bool true) ∧ Below W.heap.size W W' := by
  obtain ⟨i0, z0, hi0, hz0, hz1, hz2, hz3⟩ := parts25
  have H := Lib.hid h
  have HS : Hid (OR4 (cut4 f) W 0 (.slice none 0 0) W) := ⟨World.ownsRow_nil _ _ _ _, Below.refl _ _⟩
  clear h
  go_enter Tryz.func3, Tryz.ntmps3
  go_upto_block 0 with fail
  go_cut [9, 10, 11] (fun o a b wx => ∃ m : Nat, m ≤ 20 ∧ a = .int .i64 (lowA (cut4 f) m) ∧ b = .int .i64 (highA (cut4 f) m) ∧ OR4 (cut4 f) W m o wx)
  case first =>
    go_wp2_with fail
    go_loopw [9, 10, 11, 19] (fun o a b i wr => ∃ k : Nat, k ≤ n ∧ k ≤ 20 ∧ i = .int .i64 k ∧ a = .int .i64 (lowA (cut4 f) k) ∧ b = .int .i64 (highA (cut4 f) k) ∧ OR4 (cut4 f) W k o wr) (fun _ _ _ i _ => n - (intOf i).toNat)
    case atStart => exact ⟨0, Nat.zero_le _, Nat.zero_le _, rfl, rfl, rfl, HS.out⟩
    case round =>
      obtain ⟨k, hk, hk20, rfl, rfl, rfl, hO, hK⟩ := hrel
      obtain ⟨A3, c3', rfl⟩ := own_shape hO
      have HO := Lib.hid hO
      have HK := Lib.hid hK
      clear hO hK
      by_cases hlt : k < n
      · obtain ⟨b, off, hA, hb, hcell⟩ : ∃ b off, A = some ⟨b, off, none⟩ ∧ b < wr.heap.size ∧ ∀ i, i < n → ∀ j, j < 4 → wr.cell? ⟨b, off + i * 4 + j, none⟩ = some (.int .i64 (f i j)) := by
          rcases (H.out.low HK.out).at' with ⟨_, h0⟩ | hx
          · omega
          · exact hx
        subst hA
        have e0 := hcell k hlt 0 (by omega)
        have e1 := hcell k hlt 1 (by omega)
        have e2 := hcell k hlt 2 (by omega)
        have e3 := hcell k hlt 3 (by omega)
        simp only [Nat.add_zero] at e0
        have HLD : Hid ((loadVar 25 ⟨b, off + k * 4, none⟩).run Tryz.prog wr = .ok (.agg #[.int .i64 (f k 0), .int .i64 (f k 1), .int .i64 (f k 2), .int .i64 (f k 3)]) wr) := load4 wr b (off + k * 4) 25 _ _ _ _ _ e0 e1 e2 e3 Tryz.underlying25 rfl (by kernel_rfl)
        clear hcell e0 e1 e2 e3
        by_cases hk2 : k < 20
        · go_upto_region 9 with (refine wpList_load_any (by rfl) 25 _ rfl _ rfl _ HLD.out ?_)
          obtain ⟨y2, hy2⟩ : ∃ y, (f k 2).tmod 2097152 = y := ⟨_, rfl⟩
          obtain ⟨y3, hy3⟩ : ∃ y, bits .and .i64 (f k 3) 15 = y := ⟨_, rfl⟩
          have g2 : cut4 f k 2 = y2 := hy2
          have g3 : cut4 f k 3 = y3 := hy3
          have hmild := mild_cut f n k hlt
          rw [g2, g3] at hmild
          have L : lowA (cut4 f) (k + 1) = if k = 0 ∨ y2 < lowA (cut4 f) k then y2 else lowA (cut4 f) k := by rw [← g2]; rfl
          have M : highA (cut4 f) (k + 1) = if k = 0 ∨ highA (cut4 f) k < y2 + y3 then y2 + y3 else highA (cut4 f) k := by rw [← g2, ← g3]; rfl
          have RN : rowsOf (cut4 f) (k + 1) = rowsOf (cut4 f) k ++ [.int .i64 (f k 0), .int .i64 (f k 1), .int .i64 y2, .int .i64 y3] := by rw [← g2, ← g3]; rfl
          rw [hy2, hy3]
          clear hy2 hy3 g2 g3
          have ey : wrap64 (y2 + y3) = y2 + y3 := w64 (by omega) (by omega)
          have HL := Lib.hid L
          have HM := Lib.hid M
          have HRN := Lib.hid RN
          clear L M RN hmild
          obtain ⟨w1, hw1⟩ : ∃ w1, w1 = wr.alloc (.cells #[.int .i64 (f k 0), .int .i64 (f k 1), .int .i64 y2, .int .i64 y3] 25) := ⟨_, rfl⟩
          have HB1 : Hid (w1.heap[wr.heap.size]? = some (.cells #[.int .i64 (f k 0), .int .i64 (f k 1), .int .i64 y2, .int .i64 y3] 25 (0, 0))) := by
            rw [hw1]
            exact heap_alloc_new wr _
          have HK1 : Hid (Below wr.heap.size wr w1) := by
            rw [hw1]
            exact (Below.refl _ _).alloc (Nat.le_refl _) _
          have hs1 : wr.heap.size < w1.heap.size := by rw [hw1]; simp
          rw [← hw1]
          clear hw1
          have HLD4 : Hid ((loadVar 25 ⟨wr.heap.size, 0, none⟩).run Tryz.prog w1 = .ok (.agg #[.int .i64 (f k 0), .int .i64 (f k 1), .int .i64 y2, .int .i64 y3]) w1) :=
            run_loadVar_row _ _ 25 25 _ (0, 0) _ HB1.out Tryz.underlying25 rfl (by kernel_rfl)
          have HR1 : Hid (Below W.heap.size W w1) := HK.out.trans (HK1.out.mono HK.out.size)
          have HO1 : Hid (w1.ownsRow W.heap.size 25 4 (.slice A3 k c3') k (rowsOf (cut4 f) k)) := own_low HO.out HK1.out
          have hbl : ∀ j, (Value.slice A3 k c3').ownBlock = some j → j < wr.heap.size := fun j hj => row_lt HO.out hj
          go_upto_region 10 with (first | (refine wpList_load_any (by rfl) 25 _ rfl _ rfl _ HLD4.out ?_) | (at_builtin; refine wpList_append_lies _ (by rfl) _ _ _ (by rfl) W.heap.size 25 i0 z0 4 32 Tryz.underlying22 hi0 hz0 hz1 hz2 hz3 (by omega) (.slice A3 k c3') k (rowsOf (cut4 f) k) (by rfl) (own_low HO1.out ((Below.refl _ _).alloc (Nat.le_refl _) _)) ⟨w1.heap.size, 0, none⟩ 1 1 [.int .i64 (f k 0), .int .i64 (f k 1), .int .i64 y2, .int .i64 y3] (by rfl) (by rfl) (World.news_of_block (cs := #[.int .i64 (f k 0), .int .i64 (f k 1), .int .i64 y2, .int .i64 y3]) (t := 25) (fr := (0, 0)) (new_at _ _ _ (by simp))) (by simp [Value.oneCell']) (by omega) (by unfold maxLen; omega) (by omega) (by have := HR1.out.size; simp; omega) _ rfl ?_))
          intro gg cap w5 hown5 hgrow5 hat5 hlt5
          have HR5 : Hid (OR4 (cut4 f) W (k + 1) (.slice (some ⟨gg, 0, none⟩) (k + 1) cap) w5) := by
            refine ⟨?_, low_grown (HR1.out.alloc HR1.out.size _) hgrow5 (by have := HR1.out.size; simp; omega) (fun j e => row_low HO1.out e)⟩
            rw [HRN.out]
            exact hown5
          have HB5 : Hid (w5.heap[wr.heap.size]? = some (.cells #[.int .i64 (f k 0), .int .i64 (f k 1), .int .i64 y2, .int .i64 y3] 25 (0, 0))) := by
            rw [hgrow5.block wr.heap.size (by simp; omega) (fun e => Nat.lt_irrefl _ (hbl _ e.symm)), heap_alloc_old _ _ hs1]
            exact HB1.out
          have c2 : w5.cell? ⟨wr.heap.size, 2, none⟩ = some (.int .i64 y2) := cell_of_row _ _ 2 _ 25 (0, 0) HB5.out
          have c3 : w5.cell? ⟨wr.heap.size, 3, none⟩ = some (.int .i64 y3) := cell_of_row _ _ 3 _ 25 (0, 0) HB5.out
          clear hown5 hgrow5 hat5 hlt5 hbl
          by_cases hk0 : (k : Int) = 0
          · have L' : lowA (cut4 f) (k + 1) = y2 := HL.out.trans (if_pos (Or.inl (by omega)))
            have M' : highA (cut4 f) (k + 1) = y2 + y3 := HM.out.trans (if_pos (Or.inl (by omega)))
            go_wp2_with fail
            go_roundw
            case rel => exact ⟨k + 1, by omega, by omega, by go_num, by rw [L'], by rw [M', ey], HR5.out⟩
            case measure => simp [intOf]; omega
          · by_cases hl : y2 < lowA (cut4 f) k
            · have L' : lowA (cut4 f) (k + 1) = y2 := HL.out.trans (if_pos (Or.inr hl))
              by_cases hh : highA (cut4 f) k < y2 + y3
              · have M' : highA (cut4 f) (k + 1) = y2 + y3 := HM.out.trans (if_pos (Or.inr hh))
                go_wp2_with fail
                go_roundw
                case rel => exact ⟨k + 1, by omega, by omega, by go_num, by rw [L'], by rw [M', ey], HR5.out⟩
                case measure => simp [intOf]; omega
              · have M' : highA (cut4 f) (k + 1) = highA (cut4 f) k := HM.out.trans (if_neg (by rintro (h3 | h3); exact hk0 (by omega); exact hh h3))
                go_wp2_with fail
                go_roundw
                case rel => exact ⟨k + 1, by omega, by omega, by go_num, by rw [L'], by rw [M'], HR5.out⟩
                case measure => simp [intOf]; omega
            · have L' : lowA (cut4 f) (k + 1) = lowA (cut4 f) k := HL.out.trans (if_neg (by rintro (h3 | h3); exact hk0 (by omega); exact hl h3))
              by_cases hh : highA (cut4 f) k < y2 + y3
              · have M' : highA (cut4 f) (k + 1) = y2 + y3 := HM.out.trans (if_pos (Or.inr hh))
                go_wp2_with fail
                go_roundw
                case rel => exact ⟨k + 1, by omega, by omega, by go_num, by rw [L'], by rw [M', ey], HR5.out⟩
                case measure => simp [intOf]; omega
              · have M' : highA (cut4 f) (k + 1) = highA (cut4 f) k := HM.out.trans (if_neg (by rintro (h3 | h3); exact hk0 (by omega); exact hh h3))
                go_wp2_with fail
                go_roundw
                case rel => exact ⟨k + 1, by omega, by omega, by go_num, by rw [L'], by rw [M'], HR5.out⟩
                case measure => simp [intOf]; omega
        · obtain rfl : k = 20 := by omega
          go_wp2_with (refine wpList_load_any (by rfl) 25 _ rfl _ rfl _ HLD.out ?_)
          go_meet
          case rel => exact ⟨_, by omega, rfl, rfl, own_low HO.out ((Below.refl _ _).alloc (Nat.le_refl _) _), HK.out.alloc HK.out.size _⟩
      · obtain rfl : k = n := by omega
        go_wp2_with fail
        go_meet
        case rel => exact ⟨_, hk20, rfl, rfl, HO.out, HK.out⟩
  case rest =>
    obtain ⟨m, hm, rfl, rfl, hO, hK⟩ := hcut
    obtain ⟨A2, c2, rfl, hmc, hI⟩ := In4.own hO
    have HI := Lib.hid hI
    have HK := Lib.hid hK
    have hb := low_mild (mild_cut f m) m (Nat.le_refl _)
    have HM := Lib.hid (mild_cut f m)
    clear hO hI hK
    have hmi : (m : Int) ≤ 20 := by omega
    have OV := Lib.hid (fun w (hw : Below wc.heap.size wc w) => over_any A2 m c2 (cut4 f) w (HI.out.low hw) HM.out hm hmc)
    obtain ⟨a, ha⟩ : ∃ a, lowA (cut4 f) m = a := ⟨_, rfl⟩
    obtain ⟨b, hb'⟩ : ∃ b, highA (cut4 f) m = b := ⟨_, rfl⟩
    rw [ha, hb'] at hb OV
    rw [ha, hb']
    clear ha hb'
    go_wp2_with fail
    refine (OV.out _ (Below.refl _ _)).mono ?_
    rintro e w2 ⟨rfl, hb2⟩
    have HK2 : Hid (Below W.heap.size W w2) := HK.out.trans (hb2.mono HK.out.size)
    clear hb2
    go_wp2_with fail
    have HKA : Hid (Below W.heap.size W (w2.alloc (.cells #[.int .i64 a, .int .i64 b] 27))) := HK2.out.alloc HK2.out.size _
    have HBA : Hid ((w2.alloc (.cells #[.int .i64 a, .int .i64 b] 27)).heap[w2.heap.size]? = some (.cells #[.int .i64 a, .int .i64 b] 27 (0, 0))) := heap_alloc_new w2 _
    have hsA : w2.heap.size < (w2.alloc (.cells #[.int .i64 a, .int .i64 b] 27)).heap.size := by simp
    refine (within_any sp lo _ (by omega) (by omega) (by omega) h4 h5).mono ?_
    rintro e w3 ⟨rfl, hb3⟩
    have HK3 : Hid (Below W.heap.size W w3) := HKA.out.trans (hb3.mono HKA.out.size)
    have HB3 : Hid (w3.heap[w2.heap.size]? = some (.cells #[.int .i64 a, .int .i64 b] 27 (0, 0))) := (hb3.block _ hsA).trans HBA.out
    clear hb3
    go_wp2_with fail
    refine (ref_any sp lo _ (by omega) (by omega) (by omega) h4 h5).mono ?_
    rintro e w4 ⟨rfl, hb4⟩
    have HK4 : Hid (Below W.heap.size W w4) := HK3.out.trans (hb4.mono HK3.out.size)
    have HB4 : Hid (w4.heap[w2.heap.size]? = some (.cells #[.int .i64 a, .int .i64 b] 27 (0, 0))) := (hb4.block _ (Array.getElem?_eq_some_iff.1 HB3.out).1).trans HB3.out
    clear hb4
    have x0 : w4.cell? ⟨w2.heap.size, 0, none⟩ = some (.int .i64 a) := cell_of_row _ _ 0 _ 27 (0, 0) HB4.out
    have x1 : w4.cell? ⟨w2.heap.size, 1, none⟩ = some (.int .i64 b) := cell_of_row _ _ 1 _ 27 (0, 0) HB4.out
    go_wp2_with fail
    refine (within_any _ _ _ (by omega) (by omega) (by omega) h4 h5).mono ?_
    rintro e w5 ⟨rfl, hb5⟩
    have HK5 : Hid (Below W.heap.size W w5) := HK4.out.trans (hb5.mono HK4.out.size)
    clear hb5
    go_wp2_with fail
    refine (ref_any _ _ _ (by omega) (by omega) (by omega) h4 h5).mono ?_
    rintro e w6 ⟨rfl, hb6⟩
    have HK6 : Hid (Below W.heap.size W w6) := HK5.out.trans (hb6.mono HK5.out.size)
    clear hb6
    go_wp2_with fail
    refine (haw _).mono ?_
    rintro e w7 ⟨rfl, hb7⟩
    have HK7 : Hid (Below W.heap.size W w7) := HK6.out.trans (hb7.mono HK6.out.size)
    clear hb7
    go_wp2_with fail
    go_ret
    exact ⟨rfl, HK7.out⟩
end Go.Proofs.YtdfddpfbjaknoaaGreat
