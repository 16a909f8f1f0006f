/- Layer 9 (memory), the document's own, on a fresh memory: Store. -/
import Derived.Test.YtlbkmdmnijmieaaOi
import Derived.Deep.RegionLaw
import Derived.Deep.AppendLies
namespace Go.Proofs.Ytlbkmdmnijmieaa
open Go Go.RowKit Rp Go.Maps
open Cq (U64 I64 isW nb mask)

theorem infoRS : (Try.prog.info? 99).map (fun i => (i.zero, i.size, i.bytes)) = some (some (.agg #[.int .u64 0, .slice none 0 0]), 2, 32) := by kernel_rfl
set_option maxRecDepth 100000 in
set_option maxHeartbeats 4000000 in
theorem rstore_any {B g : Nat} {v : Value} {L : List Ar} {W : World} (h : RS B W g v noRows L) (t x w sv : Int) (hx : U64 x) (hv : U64 sv) :
    Calls Try.prog 34 #[.pointer (some ⟨g, 0, none⟩), .int .i64 t, .int .u64 x, .int .i64 w, .int .u64 sv] W fun e W' => BV e ∧ Chg (MBlk g v L) W W' := by
  obtain ⟨ga, c, hm⟩ := h.rd
  have HMY := Lib.hid (rmay_any hm t x w true hx)
  cases hmy : mayB L t x w true
  · rw [hmy] at HMY
    clear h hm hx hv hmy
    go_enter Try.func34, Try.ntmps34
    go_wp2_with fail
    refine HMY.out.mono ?_; rintro e w2 ⟨rfl, hk2⟩
    have HK2 := Lib.hid hk2
    clear hk2
    go_wp2_with fail
    go_ret
    exact ⟨⟨_, rfl⟩, (Chg.refl _ _).thenBelow HK2.out⟩
  · rw [hmy] at HMY
    have hkn := mayB_kn hmy
    unfold mayB at hmy
    simp only [Bool.and_eq_true, decide_eq_true_eq] at hmy
    obtain ⟨⟨⟨-, hw⟩, -⟩, -⟩ := hmy
    obtain ⟨i, rfl, hi⟩ := knB_cases hkn
    obtain ⟨n, rfl, hn, hn8⟩ := isW_nat hw
    obtain ⟨i0, hi0, hz0, hz1, hz2⟩ := info_parts infoRS
    have H := Lib.hid h
    have HV := Lib.hid hv
    have HBY := Lib.hid (fun w' => rbytes_any n hn8 sv hv w')
    have HLL := Lib.hid (low_length n sv)
    clear h hm hx hw hv hkn
    go_enter Try.func34, Try.ntmps34
    go_wp2_with fail
    refine HMY.out.mono ?_; rintro e w2 ⟨rfl, hk2⟩
    have hb2 := (H.out.kp hk2).box
    have g0 := norow_cell hb2 i hi
    have g1 := hb2.frozen (1 + i)
    have hg2 := hb2.lt
    have HK2 := Lib.hid hk2
    have hi8 : (i : Int) < 8 := by omega
    clear hk2 hb2
    go_wp2_with fail
    go_region_law
      (first
        | (go_simp; go_at_call 55; refine (HBY.out _).mono ?_; rintro e w4 ⟨y, rfl, hown, hk4⟩; obtain ⟨A, cc, rfl, -, -⟩ := own_slice hown; rw [HLL.out]; have e0 : w4.cell? ⟨g, 1 + i, none⟩ = some (.slice none 0 0) := (hk4.cell (p := ⟨g, 1 + i, none⟩) (show g < w2.heap.size by omega)).trans g0; have hk24 : Kp w2 w4 := (Kp.rfl w2).draw.next hk4; have hz24 := hk24.size; have z0 : ∀ o, (w4.alloc o).cell? ⟨g, 1 + i, none⟩ = some (.slice none 0 0) := fun o => (((Kp.rfl w4).new o).cell (p := ⟨g, 1 + i, none⟩) (show g < w4.heap.size by omega)).trans e0; have z1 : ∀ o, (w4.alloc o).frozen? ⟨g, 1 + i, none⟩ = false := fun o => ((hk24.new o).frozen (p := ⟨g, 1 + i, none⟩) (show g < w2.heap.size by omega)).trans g1)
        | (refine step_append_lies _ (by rfl) _ _ _ (by rfl) w4.heap.size 99 i0 _ 2 32 Try.underlying63 hi0 hz0 hz1 hz2 rfl (by omega) (.slice none 0 0) 0 [] (by rfl) (World.ownsRow_nil _ _ _ _)
            ⟨w4.heap.size, 0, none⟩ 1 1 [.int .u64 x, .slice A n cc] (by rfl) (by rfl) (World.news_of_block (cs := #[.int .u64 x, .slice A n cc]) (t := 99) (fr := (0, 0)) (heap_alloc_new w4 _)) (by simp [Value.oneCell'])
            (by omega) (by unfold maxLen; omega) (by omega) (by simp) (w4.heap.size + 1) (by simp) ?_; intro gg cap w5 hown5 hgrow5 hat5 hlt5; have x0 : w5.cell? ⟨g, 1 + i, none⟩ = some (.slice none 0 0) := (hgrow5.cell_far ⟨g, 1 + i, none⟩ (by simp; omega) (by simp [Value.ownBlock])).trans (z0 _); have x1 : w5.frozen? ⟨g, 1 + i, none⟩ = false := (hgrow5.frozen_far ⟨g, 1 + i, none⟩ (by simp; omega) (by simp [Value.ownBlock])).trans (z1 _)))
    all_goals
      have HR : Hid (Chg (MBlk g v L) W (w5.setCell ⟨g, 1 + i, none⟩ (.slice (some ⟨gg, 0, none⟩) 1 cap))) :=
        ((((((Chg.refl (MBlk g v L) W).thenBelow HK2.out).thenBelow hk24).alloc _).grown hgrow5 (fun k e => by simp [Value.ownBlock] at e)).setCell (p := ⟨g, 1 + i, none⟩) (fun _ => .inl rfl) _)
      clear hown hk4 e0 hk24 z0 z1 hown5 hgrow5 hat5 hlt5 x0 x1 g0 g1
      go_wp2_with fail
      go_ret
      exact ⟨⟨_, rfl⟩, HR.out⟩
end Go.Proofs.Ytlbkmdmnijmieaa
