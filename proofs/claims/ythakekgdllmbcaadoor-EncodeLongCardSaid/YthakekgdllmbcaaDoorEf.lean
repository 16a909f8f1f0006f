/- Layer 7: instructions Nop written. -/
import Derived.Test.YthakekgdllmbcaaDoorEe
import Derived.Test.YthakekgdllmbcaaDoorRope
namespace Go.Proofs.YthakekgdllmbcaaDoor
open Go.RowKit Rp Go.Maps
open Cq (U64 I64 isW)
/-- A slice of so many Nops. -/
def NopsAt (W : World) (b n : Nat) : Prop := ∀ k, k < n → W.rangeAt b (k * 20) (nopV 0)
theorem NopsAt.kept {W W' : World} {b n : Nat} (h : NopsAt W b n) (e : W'.heap[b]? = W.heap[b]?) : NopsAt W' b n := fun k hk j u hu => by
  rw [World.cell?_of_block e]
  exact h k hk j u hu
theorem below_chg {S : Nat → Prop} {B : Nat} {W W' W'' : World} (h : Below B W W') (c : Chg S W' W'') (hB : B ≤ W'.heap.size) (hs : ∀ q, q < B → ¬ S q) : Below B W W'' := h.trans (c.below B hB hs)
/-- What write leaves. -/
def WriteV (W : World) (n : Nat) (W' : World) (e : Ending) : Prop :=
  ∃ wb g v bs sv xs, e = .returned (.tuple #[.pointer (some ⟨wb, 0, none⟩), .int .i64 0]) ∧ Wr W.heap.size W' wb g v bs sv (n + 1) xs ∧ bs.length = n ∧ Below W.heap.size W W' ∧ ∀ x ∈ xs, ∃ i : Nat, x = .int .i64 i ∧ i ≤ 4096
/-- The writer behind k instructions. -/
def WriteR (W : World) (k : Nat) (w : World) (wb : Nat) : Prop :=
  ∃ g v bs sv xs, Wr W.heap.size w wb g v bs sv k xs ∧ bs.length = k ∧ Below W.heap.size W w ∧ ∀ x ∈ xs, ∃ i : Nat, x = .int .i64 i ∧ i ≤ 4096
set_option maxHeartbeats 4000000 in
set_option maxRecDepth 100000 in
theorem write_ok (W : World) (hT : TabsA W) (hW2 : 2 ≤ W.heap.size) (lb n c : Nat) (hn : n ≤ 4096) (hlb : lb < W.heap.size) (hN : NopsAt W lb n) :
    Calls Tryd.prog 7 #[.slice (some ⟨lb, 0, none⟩) n c] W fun e W' => WriteV W n W' e := by
  have HT' := Lib.hid hT
  have HN := Lib.hid hN
  clear hT hN
  go_enter Tryd.func7, Tryd.ntmps7
  go_wp2_with fail
  refine (new_none W).mono ?_
  rintro e w1 ⟨rfl, hst, hb1⟩
  obtain ⟨w2, hw2⟩ : ∃ w2, w2 = w1.alloc (.cells #[.pointer (some ⟨W.heap.size, 0, none⟩), .slice none 0 0] 44) := ⟨_, rfl⟩
  have HS : Hid (WriteR W 0 w2 w1.heap.size) := by
    have hb2 : Below w1.heap.size w1 w2 := by rw [hw2]; exact (Below.refl _ _).alloc (Nat.le_refl _) _
    refine ⟨W.heap.size, .slice none 0 0, [], .slice none 0 0, [], ⟨hst.below hb2, ?_, World.ownsRow_nil _ _ _ _, hb1.size⟩, rfl, hb1.trans (hb2.mono hb1.size), fun x hx => by simp at hx⟩
    rw [hw2]
    exact Box.fresh w1 _ [.pointer (some ⟨W.heap.size, 0, none⟩), .slice none 0 0]
  obtain ⟨wb, hwb⟩ : ∃ wb, wb = w1.heap.size := ⟨_, rfl⟩
  rw [← hwb] at HS
  clear hst hb1
  go_upto_region 4 with fail
  rw [← hw2, ← hwb]
  clear hw2 hwb
  go_wp2_with fail
  go_loopw [6, 15] (fun _ i wr => ∃ k : Nat, k ≤ n ∧ i = .int .i64 k ∧ WriteR W k wr wb) (fun _ i _ => n - (intOf i).toNat)
  case atStart => exact ⟨0, Nat.zero_le _, rfl, HS.out⟩
  case round =>
    obtain ⟨k, hk, rfl, hR⟩ := hrel
    have HR := Lib.hid hR
    clear hR
    by_cases hlt : k < n
    · have HNk : Hid (wr.rangeAt lb (k * 20) (nopV 0)) := by
        obtain ⟨g, v, bs, sv, xs, _, _, hb, _⟩ := HR.out
        exact (HN.out.kept (hb.block lb hlb)) k hlt
      go_upto_region 7 with (first | (refine wpList_load_mid (by rfl) 28 _ rfl lb (k * 20) rfl (nopV 0) _ HNk.out Tryd.underlying28 rfl (by kernel_rfl) ?_) | (refine wpList_store_row rfl 28 _ _ rfl wr.heap.size (nopV 0).toArray rfl rfl 28 #[.int .i64 0, .int .i64 0, .int .i64 0, .int .i64 0, .int .i64 0, .int .i64 0, .int .i64 0, .int .i64 0, .int .i64 0, .int .i64 0, .int .i64 0, .int .i64 0, .int .i64 0, .int .i64 0, .int .i64 0, .int .i64 0, .int .i64 0, .bool false, .bool false, .int .i64 0] (heap_alloc_new wr _) (by kernel_rfl) rfl (by kernel_rfl) ?_))
      obtain ⟨wq, hwq⟩ : ∃ wq, wq = (wr.alloc (.cells #[.int .i64 0, .int .i64 0, .int .i64 0, .int .i64 0, .int .i64 0, .int .i64 0, .int .i64 0, .int .i64 0, .int .i64 0, .int .i64 0, .int .i64 0, .int .i64 0, .int .i64 0, .int .i64 0, .int .i64 0, .int .i64 0, .int .i64 0, .bool false, .bool false, .int .i64 0] 28)).setRow wr.heap.size (nopV 0).toArray := ⟨_, rfl⟩
      have hxq : Box wq wr.heap.size 28 (nopV 0) := by
        rw [hwq]
        exact setRow_heap _ _ _ _ _ _ (heap_alloc_new wr _)
      have hbq : Below wr.heap.size wr wq := by
        rw [hwq]
        exact below_setRow ((Below.refl _ _).alloc (Nat.le_refl _) _) (Nat.le_refl _) _
      simp only [Act.put]
      rw [← hwq]
      clear hwq
      have HXQ := Lib.hid hxq
      have HBQ := Lib.hid hbq
      have HRQ : Hid (wq.rangeAt wr.heap.size 0 (nopV 0)) := fun j u hu => by rw [Nat.zero_add, hxq.cell]; exact hu
      clear hxq hbq
      go_wp2_with (refine wpList_load_mid (by rfl) 28 _ rfl wr.heap.size 0 rfl (nopV 0) _ HRQ.out Tryd.underlying28 rfl (by kernel_rfl) ?_)
      refine (may_nop _).mono ?_
      rintro e w3 ⟨rfl, hb3⟩
      have HB3 := Lib.hid (HBQ.out.trans (hb3.mono HBQ.out.size))
      have HX3 := HXQ.out.kept (hb3.block _ HXQ.out.lt)
      have HR3 : Hid (w3.rangeAt wr.heap.size 0 (nopV 0)) := fun j u hu => by rw [Nat.zero_add, HX3.cell]; exact hu
      clear hb3 HX3
      go_wp2_with (refine wpList_load_mid (by rfl) 28 _ rfl wr.heap.size 0 rfl (nopV 0) _ HR3.out Tryd.underlying28 rfl (by kernel_rfl) ?_)
      obtain ⟨g, v, bs, sv, xs, hw, hbs, hb, hxs⟩ := HR.out
      have hW3 : Below W.heap.size W w3 := hb.trans (HB3.out.mono hb.size)
      have hw3 := hw.below HB3.out
      have HH := Lib.hid (show Wr W.heap.size w3 wb g v bs sv k xs ∧ bs.length = k ∧ Below W.heap.size W w3 ∧ ∀ x ∈ xs, ∃ i : Nat, x = .int .i64 i ∧ i ≤ 4096 from ⟨hw3, hbs, hW3, hxs⟩)
      have hT3 : TabsA w3 := tabs_low HT'.out fun q hq => hW3.block q (by omega)
      refine (put_ok W.heap.size w3 hT3 wb g v bs sv k xs hw3 hW3.size hW2 (by omega) (by omega)).mono ?_
      clear hw hbs hb hxs hW3 hw3 hT3
      rintro e w4 ⟨rfl, hp⟩
      have HP := Lib.hid hp
      clear hp
      go_wp2_with fail
      go_roundw
      case rel =>
        refine ⟨k + 1, by omega, by go_num, ?_⟩
        obtain ⟨h1, h2, h3, h4⟩ := HH.out
        obtain ⟨v', sv', p1, p2, p3⟩ := HP.out
        refine ⟨g, v', _, sv', _, p1, by simp [h2], below_chg h3 p2 h3.size (fun q hq hm => ?_), fun x hx => ?_⟩
        · exact absurd (h1.lt q hm).1 (by omega)
        · rcases List.mem_append.1 hx with hx | hx
          · exact h4 x hx
          · obtain rfl := List.mem_singleton.1 hx
            exact ⟨bs.length, rfl, by omega⟩
      case measure => simp [intOf]; omega
    · obtain rfl : k = n := by omega
      obtain ⟨i0, z0, hi0, hz0, hz1, hz2, hz3⟩ := parts_int
      obtain ⟨g, v, bs, sv, xs, hw, hbs, hb, hxs⟩ := HR.out
      obtain ⟨A, sc, hsv⟩ : ∃ A c, sv = .slice A k c := by
        rcases hw.own.2 with ⟨rfl, rfl⟩ | ⟨r, cap, cur, rfl, _⟩
        · exact ⟨none, 0, rfl⟩
        · exact ⟨_, _, rfl⟩
      subst hsv
      have c0 := hw.box.cell 0
      have c1 := hw.box.cell 1
      have f1 := hw.box.frozen 1
      simp only [List.getElem?_cons_zero, List.getElem?_cons_succ] at c0 c1
      have H1 := Lib.hid hw
      have HH := Lib.hid (show bs.length = k ∧ Below W.heap.size W wr ∧ ∀ x ∈ xs, ∃ i : Nat, x = .int .i64 i ∧ i ≤ 4096 from ⟨hbs, hb, hxs⟩)
      have HFAR : Hid ((Value.slice A k sc).ownBlock ≠ some wb) := hw.far
      have HLEN : Hid (∀ wd, wd = wr.drew → Calls Tryd.prog 17 #[.pointer (some ⟨g, 0, none⟩)] wd fun e W' => e = .returned (.int .i64 bs.length) ∧ wd = W') := by
        rintro wd rfl
        exact len_any (hw.st.chg (Chg.refl (fun _ => False) wr).drew (fun _ _ a => a))
      have hwlt := hw.box.lt
      have hBw : W.heap.size ≤ wr.heap.size := hb.size
      clear hw hbs hb hxs
      go_upto_region 11 with fail
      go_region_law
        (first
          | (go_simp; go_at_call 17; refine (HLEN.out _ rfl).mono ?_; rintro e w4 ⟨rfl, rfl⟩; have z1 : ∀ o, (wr.drew.alloc o).cell? ⟨wb, 1, none⟩ = some (.slice A k sc) := fun o => by rw [World.cell?_alloc_past _ _ _ (show wb < wr.drew.heap.size from hwlt)]; exact c1)
          | (refine step_append_lies _ (by rfl) _ _ _ (by rfl) W.heap.size 3 i0 _ 1 8 Tryd.underlying30 hi0 hz0 hz1 hz2 hz3 (by omega) (.slice A k sc) k xs (by rfl) ((H1.out.below ((Below.refl _ _).drew.alloc (Nat.le_refl _) _)).own)
              ⟨wr.heap.size, 0, none⟩ 1 1 [.int .i64 bs.length] (by rfl) (by rfl) (World.news_of_block (cs := #[.int .i64 bs.length]) (t := 3) (fr := (0, 0)) (heap_alloc_new wr.drew _)) (by simp [Value.oneCell'])
              (by omega) (by unfold maxLen; omega) (by omega) (by simp; omega) (wr.heap.size + 1) (by simp) ?_; intro gg cap w5 hown5 hgrow5 hat5 hlt5; have x1 : w5.cell? ⟨wb, 1, none⟩ = some (.slice A k sc) := (hgrow5.cell_far ⟨wb, 1, none⟩ (by simp; omega) (Ne.symm HFAR.out)).trans (z1 _); have x2 : w5.frozen? ⟨wb, 1, none⟩ = false := (hgrow5.frozen_far ⟨wb, 1, none⟩ (by simp; omega) (Ne.symm HFAR.out)).trans ((H1.out.below ((Below.refl _ _).drew.alloc (Nat.le_refl _) _)).box.frozen 1)))
      all_goals
        have HE : Hid (WriteV W k (w5.setCell ⟨wb, 1, none⟩ (.slice (some ⟨gg, 0, none⟩) (k + 1) cap)) (.returned (.tuple #[.pointer (some ⟨wb, 0, none⟩), .int .i64 0]))) := by
          obtain ⟨h2, h3, h4⟩ := HH.out
          obtain ⟨q1, q2, q3⟩ := H1.out.add ((Below.refl wr.heap.size wr).drew.alloc (Nat.le_refl _) (.cells #[.int .i64 bs.length] 3)) hown5 hgrow5 (hat5.imp id fun e => by omega)
          refine ⟨wb, g, v, bs, _, _, rfl, q1, h2, below_chg h3 q2 h3.size (fun q hq hm => absurd (H1.out.lt q hm).1 (by omega)), fun x hx => ?_⟩
          rcases List.mem_append.1 hx with hx | hx
          · exact h4 x hx
          · obtain rfl := List.mem_singleton.1 hx
            exact ⟨bs.length, rfl, by omega⟩
        clear hown5 hgrow5 hat5 hlt5 x1 x2 z1
        go_wp2_with fail
        go_ret2
        exact HE.out
end Go.Proofs.YthakekgdllmbcaaDoor
