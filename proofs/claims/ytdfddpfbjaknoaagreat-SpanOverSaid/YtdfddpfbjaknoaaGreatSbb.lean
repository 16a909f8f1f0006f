import Derived.Test.YtdfddpfbjaknoaaGreatSba
namespace Go.Proofs.YtdfddpfbjaknoaaGreat
open Go Go.Proofs Go.RowKit
set_option maxRecDepth 100000 in
set_option maxHeartbeats 4000000 in
theorem over_some (A : Option Addr) (n c : Nat) (f : Nat → Nat → Int) (W : World) (h : In4 W A n f) (hm : Mild f n) (hn : 0 < n) (hn2 : n ≤ 20) (hc : n ≤ c) : Calls Tryz.prog 4 #[.slice A n c] W fun e W' => e = .returned (.tuple #[.agg #[.int .i64 (lowO f n), .int .i64 (highO f n)], .bool true]) ∧ Below W.heap.size W W' := by
  obtain ⟨b, off, rfl, hb, hcells⟩ : ∃ b off, A = some ⟨b, off, none⟩ ∧ b < W.heap.size ∧ ∀ i, i < n → ∀ j, j < 4 → W.cell? ⟨b, off + i * 4 + j, none⟩ = some (.int .i64 (f i j)) := by
    rcases h.at' with ⟨_, h0⟩ | hx
    · omega
    · exact hx
  have HC := Lib.hid hcells
  have HM := Lib.hid hm
  have e00 := hcells 0 hn 0 (by omega)
  have e01 := hcells 0 hn 1 (by omega)
  have e02 := hcells 0 hn 2 (by omega)
  have e03 := hcells 0 hn 3 (by omega)
  simp only [Nat.zero_mul, Nat.add_zero] at e00 e01 e02 e03
  have m0 := hm 0 hn
  have hw : wrap64 (f 0 2 + f 0 3) = f 0 2 + f 0 3 := w64 (by omega) (by omega)
  have hnz : ¬ ((n : Int) = 0) := by omega
  have H0 := Lib.hid (show W.cell? ⟨b, off, none⟩ = some (.int .i64 (f 0 0)) ∧ W.cell? ⟨b, off + 1, none⟩ = some (.int .i64 (f 0 1)) ∧ W.cell? ⟨b, off + 2, none⟩ = some (.int .i64 (f 0 2)) ∧ W.cell? ⟨b, off + 3, none⟩ = some (.int .i64 (f 0 3)) from ⟨e00, e01, e02, e03⟩)
  have hne : b ≠ W.heap.size + 1 := by omega
  clear hcells h hm e00 e01 e02 e03
  go_enter Tryz.func4, Tryz.ntmps4
  go_upto_region 3 with fail
  go_cut [4] (fun p wx => ∃ s, p = .pointer (some ⟨s, 0, none⟩) ∧ W.heap.size < s ∧ wx.heap[s]? = some (.cells #[.int .i64 (f 0 2), .int .i64 (f 0 2 + f 0 3)] 27 (0, 0)) ∧ wx.heap[W.heap.size]? = some (.cells #[.int .i64 0, .int .i64 0] 27 (0, 0)) ∧ Below W.heap.size W wx)
  case first =>
    have HK0 := Lib.hid (show Below W.heap.size W (W.alloc (.cells #[.int .i64 0, .int .i64 0] 27)).drew from ((Below.refl _ _).alloc (Nat.le_refl _) _).drew)
    have HZ : Hid ((W.alloc (.cells #[.int .i64 0, .int .i64 0] 27)).heap[W.heap.size]? = some (.cells #[.int .i64 0, .int .i64 0] 27 (0, 0))) := heap_alloc_new W _
    go_region_held3 (fun w' => w'.cell? ⟨b, off, none⟩ = some (.int .i64 (f 0 0)) ∧ w'.cell? ⟨b, off + 1, none⟩ = some (.int .i64 (f 0 1)) ∧ w'.cell? ⟨b, off + 2, none⟩ = some (.int .i64 (f 0 2)) ∧ w'.cell? ⟨b, off + 3, none⟩ = some (.int .i64 (f 0 3)))
      (first | exact s4_low H0.out ((Below.refl _ _).alloc (Nat.le_refl _) _).drew hb | exact H1.out | exact s4_low H1.out ((Below.refl _ _).alloc (Nat.le_refl _) _) (Nat.lt_of_lt_of_le hb HK2.out.size) | exact s4_low H0.out (((Below.refl _ _).alloc (Nat.le_refl _) _).alloc (by simp) _).drew hb | exact s4_set (s4_set H1.out hne) hne)
      (first | (go_at_call 8; refine (end_any _ _ _ hw).mono ?_; rintro e w2 ⟨rfl, hb2⟩; have HK2 : Hid (Below W.heap.size W w2) := Below.trans (by first | exact ((Below.refl _ _).alloc (Nat.le_refl _) _).drew | exact (((Below.refl _ _).alloc (Nat.le_refl _) _).alloc (by simp) _).drew) (hb2.mono (by simp <;> omega)); have H1 := Lib.hid (s4_low H0.out HK2.out hb); try (have z : w2.heap[W.heap.size + 1]? = some (.cells #[.int .i64 0, .int .i64 0] 27 (0, 0)) := (hb2.block (W.heap.size + 1) (by simp)).trans (new_at (W.alloc (.cells #[.int .i64 0, .int .i64 0] 27)) _ _ (by simp)); have z0 := cell_of_row w2 (W.heap.size + 1) 0 _ 27 (0, 0) z; have z1 := cell_of_row w2 (W.heap.size + 1) 1 _ 27 (0, 0) z; have f0 := unfrozen (o := 0) z; have f1 := unfrozen (o := 1) z; have Z := Lib.hid z; simp at z0 z1)))
    · have c0 : w2.heap[W.heap.size]? = some (.cells #[.int .i64 0, .int .i64 0] 27 (0, 0)) := (hb2.block W.heap.size (by simp <;> omega)).trans (heap_alloc_new W _)
      have hlt : W.heap.size < w2.heap.size := (Array.getElem?_eq_some_iff.1 c0).1
      have r1 : (w2.alloc (.cells #[.int .i64 (f 0 2), .int .i64 (f 0 2 + f 0 3)] 27)).heap[w2.heap.size]? = some (.cells #[.int .i64 (f 0 2), .int .i64 (f 0 2 + f 0 3)] 27 (0, 0)) := heap_alloc_new _ _
      have r2 : (w2.alloc (.cells #[.int .i64 (f 0 2), .int .i64 (f 0 2 + f 0 3)] 27)).heap[W.heap.size]? = some (.cells #[.int .i64 0, .int .i64 0] 27 (0, 0)) := by
        rw [heap_alloc_old _ _ hlt]
        exact c0
      have r3 : Below W.heap.size W (w2.alloc (.cells #[.int .i64 (f 0 2), .int .i64 (f 0 2 + f 0 3)] 27)) := HK2.out.alloc (by omega) _
      go_wp2_with fail
      go_meet
      case rel => exact ⟨_, rfl, hlt, r1, r2, r3⟩
    · have c0 : w2.heap[W.heap.size]? = some (.cells #[.int .i64 0, .int .i64 0] 27 (0, 0)) := (hb2.block W.heap.size (by simp <;> omega)).trans ((heap_alloc_old (W.alloc _) _ (by simp)).trans (heap_alloc_new W _))
      have r1 := pair_set (.int .i64 (f 0 2)) (.int .i64 (f 0 2 + f 0 3)) Z.out
      have r2 : ((w2.setCell ⟨W.heap.size + 1, 0, none⟩ (.int .i64 (f 0 2))).setCell ⟨W.heap.size + 1, 1, none⟩ (.int .i64 (f 0 2 + f 0 3))).heap[W.heap.size]? = some (.cells #[.int .i64 0, .int .i64 0] 27 (0, 0)) := by
        rw [heap_setCell_other _ _ _ _ (by simp), heap_setCell_other _ _ _ _ (by simp)]
        exact c0
      have r3 : Below W.heap.size W ((w2.setCell ⟨W.heap.size + 1, 0, none⟩ (.int .i64 (f 0 2))).setCell ⟨W.heap.size + 1, 1, none⟩ (.int .i64 (f 0 2 + f 0 3))) := (HK2.out.setCell (by simp) _).setCell (by simp) _
      go_wp2_with fail
      go_meet
      case rel => exact ⟨_, rfl, by omega, r1, r2, r3⟩
  case rest =>
    obtain ⟨s, rfl, hs, hrow, hz, hK⟩ := hcut
    have HR := Lib.hid hrow
    have HZ := Lib.hid hz
    have HK := Lib.hid hK
    clear hrow hz hK H0 hw m0
    go_wp2_with fail
    go_loopw [22] (fun i wr => ∃ k : Nat, k ≤ n ∧ i = .int .i64 k ∧ wr.heap[s]? = some (.cells #[.int .i64 (lowO f k), .int .i64 (highO f k)] 27 (0, 0)) ∧ wr.heap[W.heap.size]? = some (.cells #[.int .i64 0, .int .i64 0] 27 (0, 0)) ∧ Below W.heap.size W wr) (fun i _ => n - (intOf i).toNat)
    case atStart => exact ⟨0, Nat.zero_le _, rfl, HR.out, HZ.out, HK.out⟩
    case round =>
      obtain ⟨k, hk, rfl, hrow, hz, hK⟩ := hrel
      have HR := Lib.hid hrow
      have HZ := Lib.hid hz
      have HK := Lib.hid hK
      clear hrow hz hK
      by_cases hlt : k < n
      · have q := HC.out k hlt
        have m0 := HM.out k hlt
        have hw : wrap64 (f k 2 + f k 3) = f k 2 + f k 3 := w64 (by omega) (by omega)
        have e0 := (HK.out.cell (p := ⟨b, off + k * 4 + 0, none⟩) hb).trans (q 0 (by omega))
        have e1 := (HK.out.cell (p := ⟨b, off + k * 4 + 1, none⟩) hb).trans (q 1 (by omega))
        have e2 := (HK.out.cell (p := ⟨b, off + k * 4 + 2, none⟩) hb).trans (q 2 (by omega))
        have e3 := (HK.out.cell (p := ⟨b, off + k * 4 + 3, none⟩) hb).trans (q 3 (by omega))
        simp only [Nat.add_zero] at e0
        have HLD : Hid ((loadVar 25 ⟨b, off + k * 4, none⟩).run Tryz.prog wr = .ok (.agg #[.int .i64 (f k 0), .int .i64 (f k 1), .int .i64 (f k 2), .int .i64 (f k 3)]) wr) := load4 wr b (off + k * 4) 25 _ _ _ _ _ e0 e1 e2 e3 Tryz.underlying25 rfl (by kernel_rfl)
        clear q m0 e0 e1 e2 e3
        go_upto_region 7 with (refine wpList_load_any (by rfl) 25 _ rfl _ rfl _ HLD.out ?_)
        have hsw : s < wr.heap.size := (Array.getElem?_eq_some_iff.1 HR.out).1
        have HAL := Lib.hid (show Below wr.heap.size wr (wr.alloc (.cells #[.int .i64 (f k 0), .int .i64 (f k 1), .int .i64 (f k 2), .int .i64 (f k 3)] 25)) from (Below.refl _ _).alloc (Nat.le_refl _) _)
        have z : Hid ((wr.alloc (.cells #[.int .i64 (f k 0), .int .i64 (f k 1), .int .i64 (f k 2), .int .i64 (f k 3)] 25)).heap[s]? = some (.cells #[.int .i64 (lowO f k), .int .i64 (highO f k)] 27 (0, 0))) := (heap_alloc_old _ _ hsw).trans HR.out
        have c0 : (wr.alloc (.cells #[.int .i64 (f k 0), .int .i64 (f k 1), .int .i64 (f k 2), .int .i64 (f k 3)] 25)).cell? ⟨s, 0, none⟩ = some (.int .i64 (lowO f k)) := cell_of_row _ s 0 _ 27 (0, 0) z.out
        have c1 : (wr.alloc (.cells #[.int .i64 (f k 0), .int .i64 (f k 1), .int .i64 (f k 2), .int .i64 (f k 3)] 25)).cell? ⟨s, 1, none⟩ = some (.int .i64 (highO f k)) := cell_of_row _ s 1 _ 27 (0, 0) z.out
        have d0 := unfrozen (o := 0) z.out
        have d1 := unfrozen (o := 1) z.out
        have hsw' : wr.heap.size ≠ s := by omega
        have S0 : (fun w' : World => w'.cell? ⟨wr.heap.size, 0, none⟩ = some (.int .i64 (f k 0)) ∧ w'.cell? ⟨wr.heap.size, 1, none⟩ = some (.int .i64 (f k 1)) ∧ w'.cell? ⟨wr.heap.size, 2, none⟩ = some (.int .i64 (f k 2)) ∧ w'.cell? ⟨wr.heap.size, 3, none⟩ = some (.int .i64 (f k 3))) (wr.alloc (.cells #[.int .i64 (f k 0), .int .i64 (f k 1), .int .i64 (f k 2), .int .i64 (f k 3)] 25)).drew :=
          ⟨cell_of_row _ _ 0 _ 25 (0, 0) (heap_alloc_new wr _), cell_of_row _ _ 1 _ 25 (0, 0) (heap_alloc_new wr _), cell_of_row _ _ 2 _ 25 (0, 0) (heap_alloc_new wr _), cell_of_row _ _ 3 _ 25 (0, 0) (heap_alloc_new wr _)⟩
        have S4 : ∀ w4 : World, Below (wr.alloc (.cells #[.int .i64 (f k 0), .int .i64 (f k 1), .int .i64 (f k 2), .int .i64 (f k 3)] 25)).drew.heap.size (wr.alloc (.cells #[.int .i64 (f k 0), .int .i64 (f k 1), .int .i64 (f k 2), .int .i64 (f k 3)] 25)).drew w4 → (fun w' : World => w'.cell? ⟨wr.heap.size, 0, none⟩ = some (.int .i64 (f k 0)) ∧ w'.cell? ⟨wr.heap.size, 1, none⟩ = some (.int .i64 (f k 1)) ∧ w'.cell? ⟨wr.heap.size, 2, none⟩ = some (.int .i64 (f k 2)) ∧ w'.cell? ⟨wr.heap.size, 3, none⟩ = some (.int .i64 (f k 3))) w4 := fun w4 hb4 => by
          have u := (hb4.block wr.heap.size (by simp)).trans (heap_alloc_new wr (.cells #[.int .i64 (f k 0), .int .i64 (f k 1), .int .i64 (f k 2), .int .i64 (f k 3)] 25))
          exact ⟨cell_of_row _ _ 0 _ 25 (0, 0) u, cell_of_row _ _ 1 _ 25 (0, 0) u, cell_of_row _ _ 2 _ 25 (0, 0) u, cell_of_row _ _ 3 _ 25 (0, 0) u⟩
        have X4 : ∀ w4 : World, Below (wr.alloc (.cells #[.int .i64 (f k 0), .int .i64 (f k 1), .int .i64 (f k 2), .int .i64 (f k 3)] 25)).drew.heap.size (wr.alloc (.cells #[.int .i64 (f k 0), .int .i64 (f k 1), .int .i64 (f k 2), .int .i64 (f k 3)] 25)).drew w4 → w4.cell? ⟨s, 0, none⟩ = some (.int .i64 (lowO f k)) ∧ w4.cell? ⟨s, 1, none⟩ = some (.int .i64 (highO f k)) ∧ w4.frozen? ⟨s, 0, none⟩ = false ∧ w4.frozen? ⟨s, 1, none⟩ = false ∧ Hid (w4.heap[s]? = some (.cells #[.int .i64 (lowO f k), .int .i64 (highO f k)] 27 (0, 0)) ∧ w4.heap[W.heap.size]? = some (.cells #[.int .i64 0, .int .i64 0] 27 (0, 0)) ∧ Below W.heap.size W w4) := fun w4 hb4 => by
          have y := (hb4.block s (by simp; omega)).trans z.out
          have y0 := (hb4.block W.heap.size (by simp; omega)).trans ((heap_alloc_old wr (.cells #[.int .i64 (f k 0), .int .i64 (f k 1), .int .i64 (f k 2), .int .i64 (f k 3)] 25) (by omega)).trans HZ.out)
          exact ⟨cell_of_row _ s 0 _ 27 (0, 0) y, cell_of_row _ s 1 _ 27 (0, 0) y, unfrozen y, unfrozen y, y, y0, ((HK.out.trans (HAL.out.mono HK.out.size)).drew).trans (hb4.mono (by have := HK.out.size; simp; omega))⟩
        refine wp_region_held_drew (S := fun w' : World => w'.cell? ⟨wr.heap.size, 0, none⟩ = some (.int .i64 (f k 0)) ∧ w'.cell? ⟨wr.heap.size, 1, none⟩ = some (.int .i64 (f k 1)) ∧ w'.cell? ⟨wr.heap.size, 2, none⟩ = some (.int .i64 (f k 2)) ∧ w'.cell? ⟨wr.heap.size, 3, none⟩ = some (.int .i64 (f k 3))) (by kernel_rfl) S0 (fun hHeld => ?_)
        refine held_take (i := 0) (d := some 26) (v := (.pointer (some ⟨s, 0, none⟩))) rfl rfl (by kernel_rfl) (by kernel_rfl) (by kernel_rfl) (fun _ _ _ h => h) (Or.inl ⟨by rfl, ?_⟩) hHeld ?_
        · intro w hSw
          (try dsimp only at hSw)
          go_simp
        (try simp only [Act.put, List.setIfInBounds_toArray, List.set_cons_zero, List.set_cons_succ])
        refine held_take (i := 2) (d := some 28) (v := (.pointer (some ⟨wr.heap.size, 2, none⟩))) rfl rfl (by kernel_rfl) (by kernel_rfl) (by kernel_rfl) (fun _ _ _ h => h) (Or.inl ⟨by rfl, ?_⟩) hHeld ?_
        · intro w hSw
          (try dsimp only at hSw)
          go_simp
        (try simp only [Act.put, List.setIfInBounds_toArray, List.set_cons_zero, List.set_cons_succ])
        refine held_take (i := 3) (d := some 29) (v := (.int .i64 (f k 2))) rfl rfl (by kernel_rfl) (by kernel_rfl) (by kernel_rfl) (fun _ _ _ h => h) (Or.inl ⟨by rfl, ?_⟩) hHeld ?_
        · intro w hSw
          (try dsimp only at hSw)
          go_simp
        (try simp only [Act.put, List.setIfInBounds_toArray, List.set_cons_zero, List.set_cons_succ])
        refine held_take (i := 5) (d := some 31) (v := (.pointer (some ⟨s, 1, none⟩))) rfl rfl (by kernel_rfl) (by kernel_rfl) (by kernel_rfl) (fun _ _ _ h => h) (Or.inl ⟨by rfl, ?_⟩) hHeld ?_
        · intro w hSw
          (try dsimp only at hSw)
          go_simp
        (try simp only [Act.put, List.setIfInBounds_toArray, List.set_cons_zero, List.set_cons_succ])
        refine held_take (i := 7) (d := some 33) (v := (.agg #[.int .i64 (f k 0), .int .i64 (f k 1), .int .i64 (f k 2), .int .i64 (f k 3)])) rfl rfl (by kernel_rfl) (by kernel_rfl) (by kernel_rfl) (fun _ _ _ h => h) (Or.inl ⟨by rfl, ?_⟩) hHeld ?_
        · intro w hSw
          (try dsimp only at hSw)
          go_simp
        (try simp only [Act.put, List.setIfInBounds_toArray, List.set_cons_zero, List.set_cons_succ])
        refine wpAnyH_ready (rs := [1, 6, 8]) (by kernel_rfl) (by simp) ?_
        refine AllReadyH.cons rfl (fun K hK => ?_) ?_
        · go_simp
          refine hK.out _ _ hHeld (fun _ => ?_)
          clear hK K
          (try simp only [Act.put, List.setIfInBounds_toArray, List.set_cons_zero, List.set_cons_succ])
          refine held_take (i := 4) (d := some 30) (v := (.int .i64 (min (lowO f k) (f k 2)))) rfl rfl (by kernel_rfl) (by kernel_rfl) (by kernel_rfl) (fun _ _ _ h => h) (Or.inl ⟨by rfl, ?_⟩) hHeld ?_
          · intro w hSw
            (try dsimp only at hSw)
            go_simp
          (try simp only [Act.put, List.setIfInBounds_toArray, List.set_cons_zero, List.set_cons_succ])
          refine wpAnyH_ready (rs := [6, 8]) (by kernel_rfl) (by simp) ?_
          refine AllReadyH.cons rfl (fun K hK => ?_) ?_
          · go_simp
            refine hK.out _ _ hHeld (fun _ => ?_)
            clear hK K
            (try simp only [Act.put, List.setIfInBounds_toArray, List.set_cons_zero, List.set_cons_succ])
            refine wpAnyH_ready (rs := [8]) (by kernel_rfl) (by simp) ?_
            refine AllReadyH.cons rfl (fun K hK => ?_) ?_
            · go_simp
              go_at_call 8
              refine (end_any _ _ _ hw).mono ?_
              rintro e w4 ⟨rfl, hb4⟩
              have hHeld := S4 _ hb4
              obtain ⟨x0, x1, x2, x3, y⟩ := X4 _ hb4
              refine hK.out _ _ hHeld (fun _ => ?_)
              clear hK K
              (try simp only [Act.put, List.setIfInBounds_toArray, List.set_cons_zero, List.set_cons_succ])
              refine held_take (i := 9) (d := some 35) (v := (.int .i64 (max (highO f k) (f k 2 + f k 3)))) rfl rfl (by kernel_rfl) (by kernel_rfl) (by kernel_rfl) (fun _ _ _ h => h) (Or.inl ⟨by rfl, ?_⟩) hHeld ?_
              · intro w hSw
                (try dsimp only at hSw)
                go_simp
              (try simp only [Act.put, List.setIfInBounds_toArray, List.set_cons_zero, List.set_cons_succ])
              refine held_take (i := 10) (d := some 36) (v := (.agg #[.int .i64 (min (lowO f k) (f k 2)), .int .i64 (max (highO f k) (f k 2 + f k 3))])) rfl rfl (by kernel_rfl) (by kernel_rfl) (by kernel_rfl) (fun _ _ _ h => h) (Or.inl ⟨by rfl, ?_⟩) hHeld ?_
              · intro w hSw
                (try dsimp only at hSw)
                go_simp
              (try simp only [Act.put, List.setIfInBounds_toArray, List.set_cons_zero, List.set_cons_succ])
              refine wpAnyH_ready (rs := [11]) (by kernel_rfl) (by simp) ?_
              refine AllReadyH.cons rfl (fun K hK => ?_) ?_
              · go_simp
                refine hK.out _ _ (s4_set (s4_set (off := 0) hHeld hsw') hsw') (fun _ => ?_)
                clear hK K
                (try simp only [Act.put, List.setIfInBounds_toArray, List.set_cons_zero, List.set_cons_succ])
                refine wpAnyH_done (by kernel_rfl) ?_ _
                have HQ := Lib.hid (fin_pair (.int .i64 (min (lowO f k) (f k 2))) (.int .i64 (max (highO f k) (f k 2 + f k 3))) y.out.1 y.out.2.1 y.out.2.2 hs)
                go_wp2_with fail
                go_roundw
                case rel => exact ⟨k + 1, by omega, by go_num, HQ.out⟩
                case measure => simp [intOf]; omega
              exact AllReadyH.nil
            exact AllReadyH.nil
          refine AllReadyH.cons rfl (fun K hK => ?_) ?_
          · go_simp
            go_at_call 8
            refine (end_any _ _ _ hw).mono ?_
            rintro e w4 ⟨rfl, hb4⟩
            have hHeld := S4 _ hb4
            obtain ⟨x0, x1, x2, x3, y⟩ := X4 _ hb4
            refine hK.out _ _ hHeld (fun _ => ?_)
            clear hK K
            (try simp only [Act.put, List.setIfInBounds_toArray, List.set_cons_zero, List.set_cons_succ])
            refine wpAnyH_ready (rs := [6]) (by kernel_rfl) (by simp) ?_
            refine AllReadyH.cons rfl (fun K hK => ?_) ?_
            · go_simp
              refine hK.out _ _ hHeld (fun _ => ?_)
              clear hK K
              (try simp only [Act.put, List.setIfInBounds_toArray, List.set_cons_zero, List.set_cons_succ])
              refine held_take (i := 9) (d := some 35) (v := (.int .i64 (max (highO f k) (f k 2 + f k 3)))) rfl rfl (by kernel_rfl) (by kernel_rfl) (by kernel_rfl) (fun _ _ _ h => h) (Or.inl ⟨by rfl, ?_⟩) hHeld ?_
              · intro w hSw
                (try dsimp only at hSw)
                go_simp
              (try simp only [Act.put, List.setIfInBounds_toArray, List.set_cons_zero, List.set_cons_succ])
              refine held_take (i := 10) (d := some 36) (v := (.agg #[.int .i64 (min (lowO f k) (f k 2)), .int .i64 (max (highO f k) (f k 2 + f k 3))])) rfl rfl (by kernel_rfl) (by kernel_rfl) (by kernel_rfl) (fun _ _ _ h => h) (Or.inl ⟨by rfl, ?_⟩) hHeld ?_
              · intro w hSw
                (try dsimp only at hSw)
                go_simp
              (try simp only [Act.put, List.setIfInBounds_toArray, List.set_cons_zero, List.set_cons_succ])
              refine wpAnyH_ready (rs := [11]) (by kernel_rfl) (by simp) ?_
              refine AllReadyH.cons rfl (fun K hK => ?_) ?_
              · go_simp
                refine hK.out _ _ (s4_set (s4_set (off := 0) hHeld hsw') hsw') (fun _ => ?_)
                clear hK K
                (try simp only [Act.put, List.setIfInBounds_toArray, List.set_cons_zero, List.set_cons_succ])
                refine wpAnyH_done (by kernel_rfl) ?_ _
                have HQ := Lib.hid (fin_pair (.int .i64 (min (lowO f k) (f k 2))) (.int .i64 (max (highO f k) (f k 2 + f k 3))) y.out.1 y.out.2.1 y.out.2.2 hs)
                go_wp2_with fail
                go_roundw
                case rel => exact ⟨k + 1, by omega, by go_num, HQ.out⟩
                case measure => simp [intOf]; omega
              exact AllReadyH.nil
            exact AllReadyH.nil
          exact AllReadyH.nil
        refine AllReadyH.cons rfl (fun K hK => ?_) ?_
        · go_simp
          refine hK.out _ _ hHeld (fun _ => ?_)
          clear hK K
          (try simp only [Act.put, List.setIfInBounds_toArray, List.set_cons_zero, List.set_cons_succ])
          refine wpAnyH_ready (rs := [1, 8]) (by kernel_rfl) (by simp) ?_
          refine AllReadyH.cons rfl (fun K hK => ?_) ?_
          · go_simp
            refine hK.out _ _ hHeld (fun _ => ?_)
            clear hK K
            (try simp only [Act.put, List.setIfInBounds_toArray, List.set_cons_zero, List.set_cons_succ])
            refine held_take (i := 4) (d := some 30) (v := (.int .i64 (min (lowO f k) (f k 2)))) rfl rfl (by kernel_rfl) (by kernel_rfl) (by kernel_rfl) (fun _ _ _ h => h) (Or.inl ⟨by rfl, ?_⟩) hHeld ?_
            · intro w hSw
              (try dsimp only at hSw)
              go_simp
            (try simp only [Act.put, List.setIfInBounds_toArray, List.set_cons_zero, List.set_cons_succ])
            refine wpAnyH_ready (rs := [8]) (by kernel_rfl) (by simp) ?_
            refine AllReadyH.cons rfl (fun K hK => ?_) ?_
            · go_simp
              go_at_call 8
              refine (end_any _ _ _ hw).mono ?_
              rintro e w4 ⟨rfl, hb4⟩
              have hHeld := S4 _ hb4
              obtain ⟨x0, x1, x2, x3, y⟩ := X4 _ hb4
              refine hK.out _ _ hHeld (fun _ => ?_)
              clear hK K
              (try simp only [Act.put, List.setIfInBounds_toArray, List.set_cons_zero, List.set_cons_succ])
              refine held_take (i := 9) (d := some 35) (v := (.int .i64 (max (highO f k) (f k 2 + f k 3)))) rfl rfl (by kernel_rfl) (by kernel_rfl) (by kernel_rfl) (fun _ _ _ h => h) (Or.inl ⟨by rfl, ?_⟩) hHeld ?_
              · intro w hSw
                (try dsimp only at hSw)
                go_simp
              (try simp only [Act.put, List.setIfInBounds_toArray, List.set_cons_zero, List.set_cons_succ])
              refine held_take (i := 10) (d := some 36) (v := (.agg #[.int .i64 (min (lowO f k) (f k 2)), .int .i64 (max (highO f k) (f k 2 + f k 3))])) rfl rfl (by kernel_rfl) (by kernel_rfl) (by kernel_rfl) (fun _ _ _ h => h) (Or.inl ⟨by rfl, ?_⟩) hHeld ?_
              · intro w hSw
                (try dsimp only at hSw)
                go_simp
              (try simp only [Act.put, List.setIfInBounds_toArray, List.set_cons_zero, List.set_cons_succ])
              refine wpAnyH_ready (rs := [11]) (by kernel_rfl) (by simp) ?_
              refine AllReadyH.cons rfl (fun K hK => ?_) ?_
              · go_simp
                refine hK.out _ _ (s4_set (s4_set (off := 0) hHeld hsw') hsw') (fun _ => ?_)
                clear hK K
                (try simp only [Act.put, List.setIfInBounds_toArray, List.set_cons_zero, List.set_cons_succ])
                refine wpAnyH_done (by kernel_rfl) ?_ _
                have HQ := Lib.hid (fin_pair (.int .i64 (min (lowO f k) (f k 2))) (.int .i64 (max (highO f k) (f k 2 + f k 3))) y.out.1 y.out.2.1 y.out.2.2 hs)
                go_wp2_with fail
                go_roundw
                case rel => exact ⟨k + 1, by omega, by go_num, HQ.out⟩
                case measure => simp [intOf]; omega
              exact AllReadyH.nil
            exact AllReadyH.nil
          refine AllReadyH.cons rfl (fun K hK => ?_) ?_
          · go_simp
            go_at_call 8
            refine (end_any _ _ _ hw).mono ?_
            rintro e w4 ⟨rfl, hb4⟩
            have hHeld := S4 _ hb4
            obtain ⟨x0, x1, x2, x3, y⟩ := X4 _ hb4
            refine hK.out _ _ hHeld (fun _ => ?_)
            clear hK K
            (try simp only [Act.put, List.setIfInBounds_toArray, List.set_cons_zero, List.set_cons_succ])
            refine held_take (i := 9) (d := some 35) (v := (.int .i64 (max (highO f k) (f k 2 + f k 3)))) rfl rfl (by kernel_rfl) (by kernel_rfl) (by kernel_rfl) (fun _ _ _ h => h) (Or.inl ⟨by rfl, ?_⟩) hHeld ?_
            · intro w hSw
              (try dsimp only at hSw)
              go_simp
            (try simp only [Act.put, List.setIfInBounds_toArray, List.set_cons_zero, List.set_cons_succ])
            refine wpAnyH_ready (rs := [1]) (by kernel_rfl) (by simp) ?_
            refine AllReadyH.cons rfl (fun K hK => ?_) ?_
            · go_simp
              refine hK.out _ _ hHeld (fun _ => ?_)
              clear hK K
              (try simp only [Act.put, List.setIfInBounds_toArray, List.set_cons_zero, List.set_cons_succ])
              refine held_take (i := 4) (d := some 30) (v := (.int .i64 (min (lowO f k) (f k 2)))) rfl rfl (by kernel_rfl) (by kernel_rfl) (by kernel_rfl) (fun _ _ _ h => h) (Or.inl ⟨by rfl, ?_⟩) hHeld ?_
              · intro w hSw
                (try dsimp only at hSw)
                go_simp
              (try simp only [Act.put, List.setIfInBounds_toArray, List.set_cons_zero, List.set_cons_succ])
              refine held_take (i := 10) (d := some 36) (v := (.agg #[.int .i64 (min (lowO f k) (f k 2)), .int .i64 (max (highO f k) (f k 2 + f k 3))])) rfl rfl (by kernel_rfl) (by kernel_rfl) (by kernel_rfl) (fun _ _ _ h => h) (Or.inl ⟨by rfl, ?_⟩) hHeld ?_
              · intro w hSw
                (try dsimp only at hSw)
                go_simp
              (try simp only [Act.put, List.setIfInBounds_toArray, List.set_cons_zero, List.set_cons_succ])
              refine wpAnyH_ready (rs := [11]) (by kernel_rfl) (by simp) ?_
              refine AllReadyH.cons rfl (fun K hK => ?_) ?_
              · go_simp
                refine hK.out _ _ (s4_set (s4_set (off := 0) hHeld hsw') hsw') (fun _ => ?_)
                clear hK K
                (try simp only [Act.put, List.setIfInBounds_toArray, List.set_cons_zero, List.set_cons_succ])
                refine wpAnyH_done (by kernel_rfl) ?_ _
                have HQ := Lib.hid (fin_pair (.int .i64 (min (lowO f k) (f k 2))) (.int .i64 (max (highO f k) (f k 2 + f k 3))) y.out.1 y.out.2.1 y.out.2.2 hs)
                go_wp2_with fail
                go_roundw
                case rel => exact ⟨k + 1, by omega, by go_num, HQ.out⟩
                case measure => simp [intOf]; omega
              exact AllReadyH.nil
            exact AllReadyH.nil
          exact AllReadyH.nil
        refine AllReadyH.cons rfl (fun K hK => ?_) ?_
        · go_simp
          go_at_call 8
          refine (end_any _ _ _ hw).mono ?_
          rintro e w4 ⟨rfl, hb4⟩
          have hHeld := S4 _ hb4
          obtain ⟨x0, x1, x2, x3, y⟩ := X4 _ hb4
          refine hK.out _ _ hHeld (fun _ => ?_)
          clear hK K
          (try simp only [Act.put, List.setIfInBounds_toArray, List.set_cons_zero, List.set_cons_succ])
          refine wpAnyH_ready (rs := [1, 6]) (by kernel_rfl) (by simp) ?_
          refine AllReadyH.cons rfl (fun K hK => ?_) ?_
          · go_simp
            refine hK.out _ _ hHeld (fun _ => ?_)
            clear hK K
            (try simp only [Act.put, List.setIfInBounds_toArray, List.set_cons_zero, List.set_cons_succ])
            refine held_take (i := 4) (d := some 30) (v := (.int .i64 (min (lowO f k) (f k 2)))) rfl rfl (by kernel_rfl) (by kernel_rfl) (by kernel_rfl) (fun _ _ _ h => h) (Or.inl ⟨by rfl, ?_⟩) hHeld ?_
            · intro w hSw
              (try dsimp only at hSw)
              go_simp
            (try simp only [Act.put, List.setIfInBounds_toArray, List.set_cons_zero, List.set_cons_succ])
            refine wpAnyH_ready (rs := [6]) (by kernel_rfl) (by simp) ?_
            refine AllReadyH.cons rfl (fun K hK => ?_) ?_
            · go_simp
              refine hK.out _ _ hHeld (fun _ => ?_)
              clear hK K
              (try simp only [Act.put, List.setIfInBounds_toArray, List.set_cons_zero, List.set_cons_succ])
              refine held_take (i := 9) (d := some 35) (v := (.int .i64 (max (highO f k) (f k 2 + f k 3)))) rfl rfl (by kernel_rfl) (by kernel_rfl) (by kernel_rfl) (fun _ _ _ h => h) (Or.inl ⟨by rfl, ?_⟩) hHeld ?_
              · intro w hSw
                (try dsimp only at hSw)
                go_simp
              (try simp only [Act.put, List.setIfInBounds_toArray, List.set_cons_zero, List.set_cons_succ])
              refine held_take (i := 10) (d := some 36) (v := (.agg #[.int .i64 (min (lowO f k) (f k 2)), .int .i64 (max (highO f k) (f k 2 + f k 3))])) rfl rfl (by kernel_rfl) (by kernel_rfl) (by kernel_rfl) (fun _ _ _ h => h) (Or.inl ⟨by rfl, ?_⟩) hHeld ?_
              · intro w hSw
                (try dsimp only at hSw)
                go_simp
              (try simp only [Act.put, List.setIfInBounds_toArray, List.set_cons_zero, List.set_cons_succ])
              refine wpAnyH_ready (rs := [11]) (by kernel_rfl) (by simp) ?_
              refine AllReadyH.cons rfl (fun K hK => ?_) ?_
              · go_simp
                refine hK.out _ _ (s4_set (s4_set (off := 0) hHeld hsw') hsw') (fun _ => ?_)
                clear hK K
                (try simp only [Act.put, List.setIfInBounds_toArray, List.set_cons_zero, List.set_cons_succ])
                refine wpAnyH_done (by kernel_rfl) ?_ _
                have HQ := Lib.hid (fin_pair (.int .i64 (min (lowO f k) (f k 2))) (.int .i64 (max (highO f k) (f k 2 + f k 3))) y.out.1 y.out.2.1 y.out.2.2 hs)
                go_wp2_with fail
                go_roundw
                case rel => exact ⟨k + 1, by omega, by go_num, HQ.out⟩
                case measure => simp [intOf]; omega
              exact AllReadyH.nil
            exact AllReadyH.nil
          refine AllReadyH.cons rfl (fun K hK => ?_) ?_
          · go_simp
            refine hK.out _ _ hHeld (fun _ => ?_)
            clear hK K
            (try simp only [Act.put, List.setIfInBounds_toArray, List.set_cons_zero, List.set_cons_succ])
            refine held_take (i := 9) (d := some 35) (v := (.int .i64 (max (highO f k) (f k 2 + f k 3)))) rfl rfl (by kernel_rfl) (by kernel_rfl) (by kernel_rfl) (fun _ _ _ h => h) (Or.inl ⟨by rfl, ?_⟩) hHeld ?_
            · intro w hSw
              (try dsimp only at hSw)
              go_simp
            (try simp only [Act.put, List.setIfInBounds_toArray, List.set_cons_zero, List.set_cons_succ])
            refine wpAnyH_ready (rs := [1]) (by kernel_rfl) (by simp) ?_
            refine AllReadyH.cons rfl (fun K hK => ?_) ?_
            · go_simp
              refine hK.out _ _ hHeld (fun _ => ?_)
              clear hK K
              (try simp only [Act.put, List.setIfInBounds_toArray, List.set_cons_zero, List.set_cons_succ])
              refine held_take (i := 4) (d := some 30) (v := (.int .i64 (min (lowO f k) (f k 2)))) rfl rfl (by kernel_rfl) (by kernel_rfl) (by kernel_rfl) (fun _ _ _ h => h) (Or.inl ⟨by rfl, ?_⟩) hHeld ?_
              · intro w hSw
                (try dsimp only at hSw)
                go_simp
              (try simp only [Act.put, List.setIfInBounds_toArray, List.set_cons_zero, List.set_cons_succ])
              refine held_take (i := 10) (d := some 36) (v := (.agg #[.int .i64 (min (lowO f k) (f k 2)), .int .i64 (max (highO f k) (f k 2 + f k 3))])) rfl rfl (by kernel_rfl) (by kernel_rfl) (by kernel_rfl) (fun _ _ _ h => h) (Or.inl ⟨by rfl, ?_⟩) hHeld ?_
              · intro w hSw
                (try dsimp only at hSw)
                go_simp
              (try simp only [Act.put, List.setIfInBounds_toArray, List.set_cons_zero, List.set_cons_succ])
              refine wpAnyH_ready (rs := [11]) (by kernel_rfl) (by simp) ?_
              refine AllReadyH.cons rfl (fun K hK => ?_) ?_
              · go_simp
                refine hK.out _ _ (s4_set (s4_set (off := 0) hHeld hsw') hsw') (fun _ => ?_)
                clear hK K
                (try simp only [Act.put, List.setIfInBounds_toArray, List.set_cons_zero, List.set_cons_succ])
                refine wpAnyH_done (by kernel_rfl) ?_ _
                have HQ := Lib.hid (fin_pair (.int .i64 (min (lowO f k) (f k 2))) (.int .i64 (max (highO f k) (f k 2 + f k 3))) y.out.1 y.out.2.1 y.out.2.2 hs)
                go_wp2_with fail
                go_roundw
                case rel => exact ⟨k + 1, by omega, by go_num, HQ.out⟩
                case measure => simp [intOf]; omega
              exact AllReadyH.nil
            exact AllReadyH.nil
          exact AllReadyH.nil
        exact AllReadyH.nil
      · obtain rfl : k = n := by omega
        have c0 : wr.cell? ⟨s, 0, none⟩ = some (.int .i64 (lowO f k)) := cell_of_row _ s 0 _ 27 (0, 0) HR.out
        have c1 : wr.cell? ⟨s, 1, none⟩ = some (.int .i64 (highO f k)) := cell_of_row _ s 1 _ 27 (0, 0) HR.out
        have z0 : wr.cell? ⟨W.heap.size, 0, none⟩ = some (.int .i64 0) := cell_of_row _ _ 0 _ 27 (0, 0) HZ.out
        have z1 : wr.cell? ⟨W.heap.size, 1, none⟩ = some (.int .i64 0) := cell_of_row _ _ 1 _ 27 (0, 0) HZ.out
        have d0 := unfrozen (o := 0) HZ.out
        have d1 := unfrozen (o := 1) HZ.out
        go_wp2_with fail
        refine bodyPost_ret (results_cell rfl rfl (run_loadVar_row _ _ 27 27 _ (0, 0) _ (pair_set _ _ HZ.out) Tryz.underlying27 rfl (by kernel_rfl)) rfl) rfl ?_
        exact ⟨rfl, (HK.out.setCell (by simp) _).setCell (by simp) _⟩
end Go.Proofs.YtdfddpfbjaknoaaGreat
