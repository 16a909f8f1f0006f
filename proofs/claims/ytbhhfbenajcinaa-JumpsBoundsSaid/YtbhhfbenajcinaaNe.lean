import Derived.Test.YtbhhfbenajcinaaNd
import Derived.Deep.DeepCutAuto
namespace Go.Proofs.Ytbhhfbenajcinaa
open Go Go.SX Go.Proofs Go.RowKit
attribute [local irreducible] wpList Code.wp
set_option maxRecDepth 100000 in
set_option maxHeartbeats 4000000 in
theorem ours12_le (A : Option Addr) (n c : Nat) (vs : List Value) (W : World) (h : In20 W A n vs) (h12 : n ≤ 12) :
    Calls Try.prog 12 #[.slice A n c] W (OV12 A n c vs W) := by
  obtain ⟨i0, z0, hi0, hz0, hz1, hz2, hz3⟩ := parts33
  have H := Lib.hid h
  have HS : Hid (OR12 vs W 0 (.slice none 0 0) W) := ⟨World.ownsRow_nil _ _ _ _, Below.refl _ _⟩
  clear h
  go_enter Try.func12, Try.ntmps12
  go_wp2_with fail
  go_loopw [4, 14] (fun v i wr => ∃ k : Nat, k ≤ n ∧ i = .int .i64 k ∧ OR12 vs W k v wr) (fun _ i _ => n - (intOf i).toNat)
  case atStart => exact ⟨0, Nat.zero_le _, rfl, HS.out⟩
  case round =>
    obtain ⟨k, hk, rfl, hO, hK⟩ := hrel
    obtain ⟨A3, c3', rfl⟩ := own_shape hO
    have HO := Lib.hid hO
    have HK := Lib.hid hK
    clear hO hK
    by_cases hlt : k < n
    · have HI := H.out.low HK.out
      obtain ⟨b, off, hA, hb, hcell⟩ : ∃ b off, A = some ⟨b, off, none⟩ ∧ b < wr.heap.size ∧ ∀ i u, vs[i]? = some u → wr.cell? ⟨b, off + i, none⟩ = some u := by
        rcases HI.at' with ⟨_, h0⟩ | hx
        · omega
        · exact hx
      subst hA
      obtain ⟨fl, hfl⟩ : ∃ fl, fl = (vs.drop (k * 20)).take 20 := ⟨_, rfl⟩
      obtain ⟨hhas, hlen⟩ := HI.elem hlt
      rw [← hfl] at hhas hlen
      have HF := Lib.hid hfl
      have HH := Lib.hid hhas
      have HL := Lib.hid hlen
      have HLD : Hid ((loadVar 25 ⟨b, off + k * 20, none⟩).run Try.prog wr = .ok (.agg fl.toArray) wr) := by
        refine load20 wr b (off + k * 20) 25 fl _ (fun j v hv => ?_) Try.underlying25 rfl (by rw [HL.out]; kernel_rfl)
        rw [HF.out, List.getElem?_take] at hv
        split at hv
        · rw [List.getElem?_drop] at hv
          have := hcell _ v hv
          rwa [show off + (k * 20 + j) = off + k * 20 + j by omega] at this
        · simp at hv
      clear HI hfl hhas hlen hcell
      obtain ⟨x0, x1, x2, x3, x4, x5, x6, x7, x8, x9, x10, x11, x12, x13, x14, x15, x16, x17, x18, x19, hsh⟩ := shape20 HH.out
      have HC6 : ∀ w, Hid (Calls Try.prog 6 #[.agg #[.int .i64 x0, .int .i64 x1, .int .i64 x2, .int .i64 x3, .int .i64 x4, .int .i64 x5, .int .i64 x6, .int .i64 x7, .int .i64 x8, .int .i64 x9, .int .i64 x10, .int .i64 x11, .int .i64 x12, .int .i64 x13, .int .i64 x14, .int .i64 x15, .int .i64 x16, .bool x17, .bool x18, .int .i64 x19]] w fun e W' => e = .returned (.agg #[.int .i64 x0, .int .i64 x1, .int .i64 x2, .int .i64 x3, .int .i64 x4, .int .i64 x5, .int .i64 x6, .int .i64 x7, .int .i64 x8, .int .i64 x9, .int .i64 x10, .int .i64 x11, .int .i64 x12, .int .i64 x13, .int .i64 x14, .int .i64 x15, .int .i64 x16, .bool x17, .bool x18, .int .i64 x19]) ∧ Below w.heap.size w W') := fun w => by
        have := ours6 (W := w) HH.out
        rw [hsh] at this
        exact this
      have HLD2 : Hid ((loadVar 25 ⟨b, off + k * 20, none⟩).run Try.prog wr = .ok (.agg #[.int .i64 x0, .int .i64 x1, .int .i64 x2, .int .i64 x3, .int .i64 x4, .int .i64 x5, .int .i64 x6, .int .i64 x7, .int .i64 x8, .int .i64 x9, .int .i64 x10, .int .i64 x11, .int .i64 x12, .int .i64 x13, .int .i64 x14, .int .i64 x15, .int .i64 x16, .bool x17, .bool x18, .int .i64 x19]) wr) := by
        have := HLD.out
        rw [hsh] at this
        exact this
      have HE : Hid (fl = [.int .i64 x0, .int .i64 x1, .int .i64 x2, .int .i64 x3, .int .i64 x4, .int .i64 x5, .int .i64 x6, .int .i64 x7, .int .i64 x8, .int .i64 x9, .int .i64 x10, .int .i64 x11, .int .i64 x12, .int .i64 x13, .int .i64 x14, .int .i64 x15, .int .i64 x16, .bool x17, .bool x18, .int .i64 x19]) := hsh
      have HLD3 : Hid ((loadVar 25 ⟨wr.heap.size, 0, none⟩).run Try.prog (wr.alloc (.cells #[.int .i64 x0, .int .i64 x1, .int .i64 x2, .int .i64 x3, .int .i64 x4, .int .i64 x5, .int .i64 x6, .int .i64 x7, .int .i64 x8, .int .i64 x9, .int .i64 x10, .int .i64 x11, .int .i64 x12, .int .i64 x13, .int .i64 x14, .int .i64 x15, .int .i64 x16, .bool x17, .bool x18, .int .i64 x19] 25)) = .ok (.agg #[.int .i64 x0, .int .i64 x1, .int .i64 x2, .int .i64 x3, .int .i64 x4, .int .i64 x5, .int .i64 x6, .int .i64 x7, .int .i64 x8, .int .i64 x9, .int .i64 x10, .int .i64 x11, .int .i64 x12, .int .i64 x13, .int .i64 x14, .int .i64 x15, .int .i64 x16, .bool x17, .bool x18, .int .i64 x19]) (wr.alloc (.cells #[.int .i64 x0, .int .i64 x1, .int .i64 x2, .int .i64 x3, .int .i64 x4, .int .i64 x5, .int .i64 x6, .int .i64 x7, .int .i64 x8, .int .i64 x9, .int .i64 x10, .int .i64 x11, .int .i64 x12, .int .i64 x13, .int .i64 x14, .int .i64 x15, .int .i64 x16, .bool x17, .bool x18, .int .i64 x19] 25))) :=
        run_loadVar_row _ _ 25 25 _ (0, 0) _ (heap_alloc_new wr _) Try.underlying25 rfl (by kernel_rfl)
      clear hsh HLD
      go_upto_region 7 with (first | (refine wpList_load_any (by rfl) 25 _ rfl _ rfl _ HLD2.out ?_) | (refine wpList_store_row rfl 25 _ _ rfl wr.heap.size #[.int .i64 x0, .int .i64 x1, .int .i64 x2, .int .i64 x3, .int .i64 x4, .int .i64 x5, .int .i64 x6, .int .i64 x7, .int .i64 x8, .int .i64 x9, .int .i64 x10, .int .i64 x11, .int .i64 x12, .int .i64 x13, .int .i64 x14, .int .i64 x15, .int .i64 x16, .bool x17, .bool x18, .int .i64 x19] rfl rfl 25 #[.int .i64 0, .int .i64 0, .int .i64 0, .int .i64 0, .int .i64 0, .int .i64 0, .int .i64 0, .int .i64 0, .int .i64 0, .int .i64 0, .int .i64 0, .int .i64 0, .int .i64 0, .int .i64 0, .int .i64 0, .int .i64 0, .int .i64 0, .bool false, .bool false, .int .i64 0] (heap_alloc_new wr _) (by kernel_rfl) rfl (by kernel_rfl) ?_))
      have HW1 : ∃ w1, w1 = (wr.alloc (.cells #[.int .i64 0, .int .i64 0, .int .i64 0, .int .i64 0, .int .i64 0, .int .i64 0, .int .i64 0, .int .i64 0, .int .i64 0, .int .i64 0, .int .i64 0, .int .i64 0, .int .i64 0, .int .i64 0, .int .i64 0, .int .i64 0, .int .i64 0, .bool false, .bool false, .int .i64 0] 25)).setRow wr.heap.size #[.int .i64 x0, .int .i64 x1, .int .i64 x2, .int .i64 x3, .int .i64 x4, .int .i64 x5, .int .i64 x6, .int .i64 x7, .int .i64 x8, .int .i64 x9, .int .i64 x10, .int .i64 x11, .int .i64 x12, .int .i64 x13, .int .i64 x14, .int .i64 x15, .int .i64 x16, .bool x17, .bool x18, .int .i64 x19] := ⟨_, rfl⟩
      obtain ⟨w1, hw1⟩ := HW1
      have HB1 : Hid (w1.heap[wr.heap.size]? = some (.cells #[.int .i64 x0, .int .i64 x1, .int .i64 x2, .int .i64 x3, .int .i64 x4, .int .i64 x5, .int .i64 x6, .int .i64 x7, .int .i64 x8, .int .i64 x9, .int .i64 x10, .int .i64 x11, .int .i64 x12, .int .i64 x13, .int .i64 x14, .int .i64 x15, .int .i64 x16, .bool x17, .bool x18, .int .i64 x19] 25 (0, 0))) := by
        rw [hw1]
        exact setRow_heap _ _ _ _ _ _ (heap_alloc_new wr _)
      have HK1 : Hid (Below wr.heap.size wr w1) := by
        rw [hw1]
        exact below_setRow ((Below.refl _ _).alloc (Nat.le_refl _) _) (Nat.le_refl _) _
      simp only [Act.put]
      rw [← hw1]
      clear hw1
      have HLD4 : Hid ((loadVar 25 ⟨wr.heap.size, 0, none⟩).run Try.prog w1 = .ok (.agg #[.int .i64 x0, .int .i64 x1, .int .i64 x2, .int .i64 x3, .int .i64 x4, .int .i64 x5, .int .i64 x6, .int .i64 x7, .int .i64 x8, .int .i64 x9, .int .i64 x10, .int .i64 x11, .int .i64 x12, .int .i64 x13, .int .i64 x14, .int .i64 x15, .int .i64 x16, .bool x17, .bool x18, .int .i64 x19]) w1) :=
        run_loadVar_row _ _ 25 25 _ (0, 0) _ HB1.out Try.underlying25 rfl (by kernel_rfl)
      have HR1 : Hid (Below W.heap.size W w1) := HK.out.trans (HK1.out.mono HK.out.size)
      have HO1 : Hid (w1.ownsRow W.heap.size 33 20 (.slice A3 k c3') k (List.take (k * 20) vs)) := own_low HO.out HK1.out
      go_wp2_with (refine wpList_load_any (by rfl) 25 _ rfl _ rfl _ HLD4.out ?_)
      refine (HC6 _).out.mono ?_
      rintro e w2 ⟨rfl, hb2⟩
      have HR2 : Hid (Below W.heap.size W w2) := HR1.out.trans (hb2.mono HR1.out.size)
      have HO2 : Hid (w2.ownsRow W.heap.size 33 20 (.slice A3 k c3') k (List.take (k * 20) vs)) := own_low HO1.out hb2
      clear hb2
      go_wp2_with (at_builtin; refine wpList_append_lies _ (by rfl) _ _ _ (by rfl) W.heap.size 33 i0 z0 20 152 Try.underlying40 hi0 hz0 hz1 hz2 hz3 (by omega) (.slice A3 k c3') k (List.take (k * 20) vs) (by rfl) (own_low HO2.out ((Below.refl _ _).alloc (Nat.le_refl _) _)) ⟨w2.heap.size, 0, none⟩ 1 1 [.int .i64 x0, .int .i64 x1, .int .i64 x2, .int .i64 x3, .int .i64 x4, .int .i64 x5, .int .i64 x6, .int .i64 x7, .int .i64 x8, .int .i64 x9, .int .i64 x10, .int .i64 x11, .int .i64 x12, .int .i64 x13, .int .i64 x14, .int .i64 x15, .int .i64 x16, .bool x17, .bool x18, .int .i64 x19] (by rfl) (by rfl) (World.news_of_block (cs := #[.int .i64 x0, .int .i64 x1, .int .i64 x2, .int .i64 x3, .int .i64 x4, .int .i64 x5, .int .i64 x6, .int .i64 x7, .int .i64 x8, .int .i64 x9, .int .i64 x10, .int .i64 x11, .int .i64 x12, .int .i64 x13, .int .i64 x14, .int .i64 x15, .int .i64 x16, .bool x17, .bool x18, .int .i64 x19]) (t := 33) (fr := (0, 0)) (new_at _ _ _ (by simp))) (by simp [Value.oneCell']) (by omega) (by unfold maxLen; omega) (by omega) (by have := HR2.out.size; simp; omega) _ rfl ?_)
      intro gg cap w5 hown5 hgrow5 hat5 hlt5
      have HR5 : Hid (OR12 vs W (k + 1) (.slice (some ⟨gg, 0, none⟩) (k + 1) cap) w5) := by
        refine ⟨?_, low_grown (HR2.out.alloc HR2.out.size _) hgrow5 (by have := HR2.out.size; simp; omega) (fun j e => row_low HO2.out e)⟩
        rw [take_next, ← HF.out, HE.out]
        exact hown5
      clear hown5 hgrow5 hat5 hlt5
      go_wp2_with fail
      go_roundw
      case rel => exact ⟨k + 1, by omega, by go_num, HR5.out⟩
      case measure => simp [intOf]; omega
    · obtain rfl : k = n := by omega
      go_wp2_with fail
      go_ret2
      exact ⟨_, _, (by omega : k = min k 12), rfl, HO.out, HK.out⟩
set_option maxRecDepth 100000 in
set_option maxHeartbeats 4000000 in
theorem ours12_gt (A : Option Addr) (n c : Nat) (vs : List Value) (W : World) (h : In20 W A n vs) (h12 : 12 < n) (hnc : n ≤ c) :
    Calls Try.prog 12 #[.slice A n c] W (OV12 A n c vs W) := by
  obtain ⟨i0, z0, hi0, hz0, hz1, hz2, hz3⟩ := parts33
  have H := Lib.hid h
  have HS : Hid (OR12 vs W 0 (.slice none 0 0) W) := ⟨World.ownsRow_nil _ _ _ _, Below.refl _ _⟩
  have h12c : 12 ≤ c := by omega
  clear h
  obtain ⟨b, off, hA0, _, _⟩ : ∃ b off, A = some ⟨b, off, none⟩ ∧ b < W.heap.size ∧ ∀ i u, vs[i]? = some u → W.cell? ⟨b, off + i, none⟩ = some u := by
    rcases H.out.at' with ⟨_, h0⟩ | hx
    · omega
    · exact hx
  subst hA0
  go_enter Try.func12, Try.ntmps12
  go_wp2_with fail
  go_loopw [4, 14] (fun v i wr => ∃ k : Nat, k ≤ 12 ∧ i = .int .i64 k ∧ OR12 vs W k v wr) (fun _ i _ => 12 - (intOf i).toNat)
  case atStart => exact ⟨0, Nat.zero_le _, rfl, HS.out⟩
  case round =>
    obtain ⟨k, hk, rfl, hO, hK⟩ := hrel
    obtain ⟨A3, c3', rfl⟩ := own_shape hO
    have HO := Lib.hid hO
    have HK := Lib.hid hK
    clear hO hK
    by_cases hlt : k < 12
    · have HI := H.out.low HK.out
      obtain ⟨hb, hcell⟩ : b < wr.heap.size ∧ ∀ i u, vs[i]? = some u → wr.cell? ⟨b, off + i, none⟩ = some u := by
        rcases HI.at' with ⟨h0, _⟩ | ⟨b', off', he, h2, h3⟩
        · cases h0
        · cases he
          exact ⟨h2, h3⟩
      obtain ⟨fl, hfl⟩ : ∃ fl, fl = (vs.drop (k * 20)).take 20 := ⟨_, rfl⟩
      obtain ⟨hhas, hlen⟩ := HI.elem (k := k) (by omega)
      rw [← hfl] at hhas hlen
      have HF := Lib.hid hfl
      have HH := Lib.hid hhas
      have HL := Lib.hid hlen
      have HLD : Hid ((loadVar 25 ⟨b, off + k * 20, none⟩).run Try.prog wr = .ok (.agg fl.toArray) wr) := by
        refine load20 wr b (off + k * 20) 25 fl _ (fun j v hv => ?_) Try.underlying25 rfl (by rw [HL.out]; kernel_rfl)
        rw [HF.out, List.getElem?_take] at hv
        split at hv
        · rw [List.getElem?_drop] at hv
          have := hcell _ v hv
          rwa [show off + (k * 20 + j) = off + k * 20 + j by omega] at this
        · simp at hv
      clear HI hfl hhas hlen hcell
      obtain ⟨x0, x1, x2, x3, x4, x5, x6, x7, x8, x9, x10, x11, x12, x13, x14, x15, x16, x17, x18, x19, hsh⟩ := shape20 HH.out
      have HC6 : ∀ w, Hid (Calls Try.prog 6 #[.agg #[.int .i64 x0, .int .i64 x1, .int .i64 x2, .int .i64 x3, .int .i64 x4, .int .i64 x5, .int .i64 x6, .int .i64 x7, .int .i64 x8, .int .i64 x9, .int .i64 x10, .int .i64 x11, .int .i64 x12, .int .i64 x13, .int .i64 x14, .int .i64 x15, .int .i64 x16, .bool x17, .bool x18, .int .i64 x19]] w fun e W' => e = .returned (.agg #[.int .i64 x0, .int .i64 x1, .int .i64 x2, .int .i64 x3, .int .i64 x4, .int .i64 x5, .int .i64 x6, .int .i64 x7, .int .i64 x8, .int .i64 x9, .int .i64 x10, .int .i64 x11, .int .i64 x12, .int .i64 x13, .int .i64 x14, .int .i64 x15, .int .i64 x16, .bool x17, .bool x18, .int .i64 x19]) ∧ Below w.heap.size w W') := fun w => by
        have := ours6 (W := w) HH.out
        rw [hsh] at this
        exact this
      have HLD2 : Hid ((loadVar 25 ⟨b, off + k * 20, none⟩).run Try.prog wr = .ok (.agg #[.int .i64 x0, .int .i64 x1, .int .i64 x2, .int .i64 x3, .int .i64 x4, .int .i64 x5, .int .i64 x6, .int .i64 x7, .int .i64 x8, .int .i64 x9, .int .i64 x10, .int .i64 x11, .int .i64 x12, .int .i64 x13, .int .i64 x14, .int .i64 x15, .int .i64 x16, .bool x17, .bool x18, .int .i64 x19]) wr) := by
        have := HLD.out
        rw [hsh] at this
        exact this
      have HE : Hid (fl = [.int .i64 x0, .int .i64 x1, .int .i64 x2, .int .i64 x3, .int .i64 x4, .int .i64 x5, .int .i64 x6, .int .i64 x7, .int .i64 x8, .int .i64 x9, .int .i64 x10, .int .i64 x11, .int .i64 x12, .int .i64 x13, .int .i64 x14, .int .i64 x15, .int .i64 x16, .bool x17, .bool x18, .int .i64 x19]) := hsh
      have HLD3 : Hid ((loadVar 25 ⟨wr.heap.size, 0, none⟩).run Try.prog (wr.alloc (.cells #[.int .i64 x0, .int .i64 x1, .int .i64 x2, .int .i64 x3, .int .i64 x4, .int .i64 x5, .int .i64 x6, .int .i64 x7, .int .i64 x8, .int .i64 x9, .int .i64 x10, .int .i64 x11, .int .i64 x12, .int .i64 x13, .int .i64 x14, .int .i64 x15, .int .i64 x16, .bool x17, .bool x18, .int .i64 x19] 25)) = .ok (.agg #[.int .i64 x0, .int .i64 x1, .int .i64 x2, .int .i64 x3, .int .i64 x4, .int .i64 x5, .int .i64 x6, .int .i64 x7, .int .i64 x8, .int .i64 x9, .int .i64 x10, .int .i64 x11, .int .i64 x12, .int .i64 x13, .int .i64 x14, .int .i64 x15, .int .i64 x16, .bool x17, .bool x18, .int .i64 x19]) (wr.alloc (.cells #[.int .i64 x0, .int .i64 x1, .int .i64 x2, .int .i64 x3, .int .i64 x4, .int .i64 x5, .int .i64 x6, .int .i64 x7, .int .i64 x8, .int .i64 x9, .int .i64 x10, .int .i64 x11, .int .i64 x12, .int .i64 x13, .int .i64 x14, .int .i64 x15, .int .i64 x16, .bool x17, .bool x18, .int .i64 x19] 25))) :=
        run_loadVar_row _ _ 25 25 _ (0, 0) _ (heap_alloc_new wr _) Try.underlying25 rfl (by kernel_rfl)
      clear hsh HLD
      go_upto_region 7 with (first | (refine wpList_load_any (by rfl) 25 _ rfl _ rfl _ HLD2.out ?_) | (refine wpList_store_row rfl 25 _ _ rfl wr.heap.size #[.int .i64 x0, .int .i64 x1, .int .i64 x2, .int .i64 x3, .int .i64 x4, .int .i64 x5, .int .i64 x6, .int .i64 x7, .int .i64 x8, .int .i64 x9, .int .i64 x10, .int .i64 x11, .int .i64 x12, .int .i64 x13, .int .i64 x14, .int .i64 x15, .int .i64 x16, .bool x17, .bool x18, .int .i64 x19] rfl rfl 25 #[.int .i64 0, .int .i64 0, .int .i64 0, .int .i64 0, .int .i64 0, .int .i64 0, .int .i64 0, .int .i64 0, .int .i64 0, .int .i64 0, .int .i64 0, .int .i64 0, .int .i64 0, .int .i64 0, .int .i64 0, .int .i64 0, .int .i64 0, .bool false, .bool false, .int .i64 0] (heap_alloc_new wr _) (by kernel_rfl) rfl (by kernel_rfl) ?_))
      have HW1 : ∃ w1, w1 = (wr.alloc (.cells #[.int .i64 0, .int .i64 0, .int .i64 0, .int .i64 0, .int .i64 0, .int .i64 0, .int .i64 0, .int .i64 0, .int .i64 0, .int .i64 0, .int .i64 0, .int .i64 0, .int .i64 0, .int .i64 0, .int .i64 0, .int .i64 0, .int .i64 0, .bool false, .bool false, .int .i64 0] 25)).setRow wr.heap.size #[.int .i64 x0, .int .i64 x1, .int .i64 x2, .int .i64 x3, .int .i64 x4, .int .i64 x5, .int .i64 x6, .int .i64 x7, .int .i64 x8, .int .i64 x9, .int .i64 x10, .int .i64 x11, .int .i64 x12, .int .i64 x13, .int .i64 x14, .int .i64 x15, .int .i64 x16, .bool x17, .bool x18, .int .i64 x19] := ⟨_, rfl⟩
      obtain ⟨w1, hw1⟩ := HW1
      have HB1 : Hid (w1.heap[wr.heap.size]? = some (.cells #[.int .i64 x0, .int .i64 x1, .int .i64 x2, .int .i64 x3, .int .i64 x4, .int .i64 x5, .int .i64 x6, .int .i64 x7, .int .i64 x8, .int .i64 x9, .int .i64 x10, .int .i64 x11, .int .i64 x12, .int .i64 x13, .int .i64 x14, .int .i64 x15, .int .i64 x16, .bool x17, .bool x18, .int .i64 x19] 25 (0, 0))) := by
        rw [hw1]
        exact setRow_heap _ _ _ _ _ _ (heap_alloc_new wr _)
      have HK1 : Hid (Below wr.heap.size wr w1) := by
        rw [hw1]
        exact below_setRow ((Below.refl _ _).alloc (Nat.le_refl _) _) (Nat.le_refl _) _
      simp only [Act.put]
      rw [← hw1]
      clear hw1
      have HLD4 : Hid ((loadVar 25 ⟨wr.heap.size, 0, none⟩).run Try.prog w1 = .ok (.agg #[.int .i64 x0, .int .i64 x1, .int .i64 x2, .int .i64 x3, .int .i64 x4, .int .i64 x5, .int .i64 x6, .int .i64 x7, .int .i64 x8, .int .i64 x9, .int .i64 x10, .int .i64 x11, .int .i64 x12, .int .i64 x13, .int .i64 x14, .int .i64 x15, .int .i64 x16, .bool x17, .bool x18, .int .i64 x19]) w1) :=
        run_loadVar_row _ _ 25 25 _ (0, 0) _ HB1.out Try.underlying25 rfl (by kernel_rfl)
      have HR1 : Hid (Below W.heap.size W w1) := HK.out.trans (HK1.out.mono HK.out.size)
      have HO1 : Hid (w1.ownsRow W.heap.size 33 20 (.slice A3 k c3') k (List.take (k * 20) vs)) := own_low HO.out HK1.out
      go_wp2_with (refine wpList_load_any (by rfl) 25 _ rfl _ rfl _ HLD4.out ?_)
      refine (HC6 _).out.mono ?_
      rintro e w2 ⟨rfl, hb2⟩
      have HR2 : Hid (Below W.heap.size W w2) := HR1.out.trans (hb2.mono HR1.out.size)
      have HO2 : Hid (w2.ownsRow W.heap.size 33 20 (.slice A3 k c3') k (List.take (k * 20) vs)) := own_low HO1.out hb2
      clear hb2
      go_wp2_with (at_builtin; refine wpList_append_lies _ (by rfl) _ _ _ (by rfl) W.heap.size 33 i0 z0 20 152 Try.underlying40 hi0 hz0 hz1 hz2 hz3 (by omega) (.slice A3 k c3') k (List.take (k * 20) vs) (by rfl) (own_low HO2.out ((Below.refl _ _).alloc (Nat.le_refl _) _)) ⟨w2.heap.size, 0, none⟩ 1 1 [.int .i64 x0, .int .i64 x1, .int .i64 x2, .int .i64 x3, .int .i64 x4, .int .i64 x5, .int .i64 x6, .int .i64 x7, .int .i64 x8, .int .i64 x9, .int .i64 x10, .int .i64 x11, .int .i64 x12, .int .i64 x13, .int .i64 x14, .int .i64 x15, .int .i64 x16, .bool x17, .bool x18, .int .i64 x19] (by rfl) (by rfl) (World.news_of_block (cs := #[.int .i64 x0, .int .i64 x1, .int .i64 x2, .int .i64 x3, .int .i64 x4, .int .i64 x5, .int .i64 x6, .int .i64 x7, .int .i64 x8, .int .i64 x9, .int .i64 x10, .int .i64 x11, .int .i64 x12, .int .i64 x13, .int .i64 x14, .int .i64 x15, .int .i64 x16, .bool x17, .bool x18, .int .i64 x19]) (t := 33) (fr := (0, 0)) (new_at _ _ _ (by simp))) (by simp [Value.oneCell']) (by omega) (by unfold maxLen; omega) (by omega) (by have := HR2.out.size; simp; omega) _ rfl ?_)
      intro gg cap w5 hown5 hgrow5 hat5 hlt5
      have HR5 : Hid (OR12 vs W (k + 1) (.slice (some ⟨gg, 0, none⟩) (k + 1) cap) w5) := by
        refine ⟨?_, low_grown (HR2.out.alloc HR2.out.size _) hgrow5 (by have := HR2.out.size; simp; omega) (fun j e => row_low HO2.out e)⟩
        rw [take_next, ← HF.out, HE.out]
        exact hown5
      clear hown5 hgrow5 hat5 hlt5
      go_wp2_with fail
      go_roundw
      case rel =>
        have hdd : decide ((12 : Int) < (n : Int)) = true := decide_eq_true (by omega)
        rw [hdd]
        exact ⟨_, _, _, _, _, _, _, _, _, _, _, _, ⟨k + 1, by omega, by go_num, HR5.out⟩, rfl⟩
      case measure => simp [intOf]; omega
    · obtain rfl : k = 12 := by omega
      go_wp2_with fail
      go_ret2
      exact ⟨_, _, (by omega : 12 = min n 12), rfl, HO.out, HK.out⟩
theorem ours12 (A : Option Addr) (n c : Nat) (vs : List Value) (W : World) (h : In20 W A n vs) (hnc : n ≤ c) : Calls Try.prog 12 #[.slice A n c] W (OV12 A n c vs W) := by
  by_cases h12 : n ≤ 12
  · exact ours12_le A n c vs W h h12
  · exact ours12_gt A n c vs W h (by omega) hnc
end Go.Proofs.Ytbhhfbenajcinaa
