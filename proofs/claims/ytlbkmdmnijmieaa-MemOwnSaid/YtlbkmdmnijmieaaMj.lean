/- Layer 9 (memory): New, of the code. -/
import Derived.Test.YtlbkmdmnijmieaaMi
import Derived.Deep.RegionLaw
namespace Go.Proofs.Ytlbkmdmnijmieaa
open Go Go.RowKit Rp Go.Maps
open Cq (U64 I64 isW nb mask)

theorem av_len {L I : List Ar} (h : L.map Ar.av = I.map Ar.av) : L.length = I.length := by
  have := congrArg List.length h; simpa using this
abbrev noRows : List Value := [.slice none 0 0, .slice none 0 0, .slice none 0 0, .slice none 0 0, .slice none 0 0, .slice none 0 0, .slice none 0 0, .slice none 0 0]
def NewV (I : List Ar) (W : World) (e : Ending) (W' : World) : Prop :=
  ∃ g v L, e = .returned (.pointer (some ⟨g, 0, none⟩)) ∧ MS W.heap.size W' g v noRows L ∧ L.map Ar.av = I.map Ar.av ∧ (∀ a ∈ L, a.ow = -1) ∧ Kp W W'
def NewR (I : List Ar) (W : World) (k : Nat) (W' : World) : Prop :=
  ∃ v L, MS W.heap.size W' W.heap.size v noRows L ∧ L.map Ar.av = (I.take k).map Ar.av ∧ (∀ a ∈ L, a.ow = -1) ∧ Kp W W'
theorem keep_alloc (w : World) (g b : Nat) (v v1 v2 v3 v4 : Value) (hg : g < w.heap.size) (hb : b < w.heap.size) (h : w.cell? ⟨g, 0, none⟩ = some v ∧ w.frozen? ⟨g, 0, none⟩ = false ∧ w.cell? ⟨b, 0, none⟩ = some v1 ∧ w.cell? ⟨b, 1, none⟩ = some v2 ∧ w.cell? ⟨b, 2, none⟩ = some v3 ∧ w.cell? ⟨b, 3, none⟩ = some v4) (o : Obj) :
    (w.alloc o).cell? ⟨g, 0, none⟩ = some v ∧ (w.alloc o).frozen? ⟨g, 0, none⟩ = false ∧ (w.alloc o).cell? ⟨b, 0, none⟩ = some v1 ∧ (w.alloc o).cell? ⟨b, 1, none⟩ = some v2 ∧ (w.alloc o).cell? ⟨b, 2, none⟩ = some v3 ∧ (w.alloc o).cell? ⟨b, 3, none⟩ = some v4 := by
  have k : Kp w (w.alloc o) := (Kp.rfl w).new o
  exact ⟨(k.cell (p := ⟨g, 0, none⟩) hg).trans h.1, (k.frozen (p := ⟨g, 0, none⟩) hg).trans h.2.1, (k.cell (p := ⟨b, 0, none⟩) hb).trans h.2.2.1, (k.cell (p := ⟨b, 1, none⟩) hb).trans h.2.2.2.1, (k.cell (p := ⟨b, 2, none⟩) hb).trans h.2.2.2.2.1, (k.cell (p := ⟨b, 3, none⟩) hb).trans h.2.2.2.2.2⟩
theorem keep_grown {w w' : World} {row : Option Nat} (hgr : w.grownBy w' row) (g b : Nat) (v v1 v2 v3 v4 : Value) (hg : g < w.heap.size) (hb : b < w.heap.size) (ng : some g ≠ row) (nb : some b ≠ row) (h : w.cell? ⟨g, 0, none⟩ = some v ∧ w.frozen? ⟨g, 0, none⟩ = false ∧ w.cell? ⟨b, 0, none⟩ = some v1 ∧ w.cell? ⟨b, 1, none⟩ = some v2 ∧ w.cell? ⟨b, 2, none⟩ = some v3 ∧ w.cell? ⟨b, 3, none⟩ = some v4) :
    w'.cell? ⟨g, 0, none⟩ = some v ∧ w'.frozen? ⟨g, 0, none⟩ = false ∧ w'.cell? ⟨b, 0, none⟩ = some v1 ∧ w'.cell? ⟨b, 1, none⟩ = some v2 ∧ w'.cell? ⟨b, 2, none⟩ = some v3 ∧ w'.cell? ⟨b, 3, none⟩ = some v4 :=
  ⟨(hgr.cell_far ⟨g, 0, none⟩ hg ng).trans h.1, (hgr.frozen_far ⟨g, 0, none⟩ hg ng).trans h.2.1, (hgr.cell_far ⟨b, 0, none⟩ hb nb).trans h.2.2.1, (hgr.cell_far ⟨b, 1, none⟩ hb nb).trans h.2.2.2.1, (hgr.cell_far ⟨b, 2, none⟩ hb nb).trans h.2.2.2.2.1, (hgr.cell_far ⟨b, 3, none⟩ hb nb).trans h.2.2.2.2.2⟩
set_option maxRecDepth 100000 in
set_option maxHeartbeats 4000000 in
theorem new_any (A : Option Addr) (c : Nat) (I : List Ar) (W : World) (h : AIn W A I) :
    Calls Try.prog 30 #[.slice A I.length c] W (NewV I W) := by
  obtain ⟨i0, hi0, hz0, hz1, hz2⟩ := info_parts infoRec
  have H := Lib.hid h
  obtain ⟨n, hn⟩ : ∃ n, n = I.length := ⟨_, rfl⟩
  have hn16 : n ≤ 16 := by have := h.few; omega
  rw [← hn]
  have HN := Lib.hid hn
  clear h hn
  go_enter Try.func30, Try.ntmps30
  go_wp2_with fail
  have HS : Hid (NewR I W 0 (W.alloc (.cells #[.slice none 0 0, .slice none 0 0, .slice none 0 0, .slice none 0 0, .slice none 0 0, .slice none 0 0, .slice none 0 0, .slice none 0 0, .slice none 0 0] 71))) := 
    ⟨.slice none 0 0, [], ⟨Nat.le_refl _, heap_alloc_new W _, World.ownsRow_nil _ _ _ _, by simp, fun _ => rfl, by simp, List.Pairwise.nil⟩, by simp, by simp, (Kp.rfl W).new _⟩
  generalize W.alloc (.cells #[.slice none 0 0, .slice none 0 0, .slice none 0 0, .slice none 0 0, .slice none 0 0, .slice none 0 0, .slice none 0 0, .slice none 0 0, .slice none 0 0] 71) = w1 at *
  go_loopw [10] (fun i wr => ∃ k : Nat, k ≤ n ∧ i = .int .i64 k ∧ NewR I W k wr) (fun i _ => n - (intOf i).toNat)
  case atStart => exact ⟨0, Nat.zero_le _, rfl, HS.out⟩
  case round =>
    obtain ⟨k, hk, rfl, v, L, hM, hL, hO, hK⟩ := hrel
    by_cases hlt : k < n
    · obtain ⟨a, ha⟩ : ∃ a, I[k]? = some a := ⟨_, List.getElem?_eq_getElem (by have := HN.out; omega)⟩
      have HI := H.out.kp hK
      obtain ⟨gb, off, hA, hgb, hc⟩ := HI.at' (by have := HN.out; omega)
      subst hA
      have c0 := hc k a ha 0 (by omega)
      rw [Nat.add_zero] at c0
      have c1 := hc k a ha 1 (by omega)
      have c2 := hc k a ha 2 (by omega)
      have c3 := hc k a ha 3 (by omega)
      simp only [Ar.row4, List.getElem?_cons_zero, List.getElem?_cons_succ] at c0 c1 c2 c3
      obtain ⟨d1, d2, d3, d4, d5, d6⟩ := HI.dat a (List.mem_of_getElem? ha)
      have cg := hM.box.cell 0
      have fg := hM.box.frozen 0
      simp only [List.getElem?_cons_zero] at cg
      have HM := Lib.hid hM
      have HL := Lib.hid hL
      have HO := Lib.hid hO
      have HK := Lib.hid hK
      have HD := Lib.hid (show a.bs.length = a.n ∧ Reads wr a.A a.bs ∧ Bytes8 a.bs ∧ (a.A = none → a.c = 0 ∧ a.n = 0) ∧ a.n ≤ 64 ∧ U64 a.lo from ⟨d1, d2, d3, d4, d5, d6⟩)
      have HAk := Lib.hid ha
      clear hM hL hO hK HI hc ha d1 d2 d3 d4 d5 d6
      go_wp2_with fail
      obtain ⟨w2, hw2⟩ : ∃ w2, w2 = wr.alloc (.cells #[.int .u64 a.lo, .slice a.A a.n a.c, .bool a.wr, .bool a.pv] 61) := ⟨_, rfl⟩
      rw [← hw2]
      have hk2 : Kp wr w2 := by rw [hw2]; exact (Kp.rfl wr).new _
      have hsz2 : w2.heap.size = wr.heap.size + 1 := by rw [hw2]; simp
      have hl2 : w2.heap[wr.heap.size]? = some (.cells #[.int .u64 a.lo, .slice a.A a.n a.c, .bool a.wr, .bool a.pv] 61 (0, 0)) := by rw [hw2]; exact heap_alloc_new wr _
      have l0 := cell_of_row w2 wr.heap.size 0 _ _ _ hl2
      have l1 := cell_of_row w2 wr.heap.size 1 _ _ _ hl2
      have l2 := cell_of_row w2 wr.heap.size 2 _ _ _ hl2
      have l3 := cell_of_row w2 wr.heap.size 3 _ _ _ hl2
      simp at l0 l1 l2 l3
      have hgw : W.heap.size < wr.heap.size := HM.out.box.lt
      have g0 : w2.cell? ⟨W.heap.size, 0, none⟩ = some v := (hk2.cell (p := ⟨W.heap.size, 0, none⟩) hgw).trans cg
      have g1 : w2.frozen? ⟨W.heap.size, 0, none⟩ = false := (hk2.frozen (p := ⟨W.heap.size, 0, none⟩) hgw).trans fg
      have HCL : Hid (∀ wd, wd = w2.drew → Calls Try.prog 31 #[.agg #[.int .u64 a.lo, .slice a.A a.n a.c, .bool a.wr, .bool a.pv]] wd (ClA a.lo a.n a.wr a.pv a.bs wd)) := by
        rintro wd rfl
        obtain ⟨d1, d2, d3, d4, d5, d6⟩ := HD.out
        exact clonea_any a.lo a.A a.n a.c a.wr a.pv a.bs _ d1 (reads_kp d2 (hk2.draw)) d4 (by omega)
      have HV : Hid (∀ w', Kp w2 w' → w'.ownsRow W.heap.size 73 5 v L.length (recs L)) := fun w' hk => own_kp HM.out.own (hk2.next hk)
      have HVG : Hid (v.ownBlock ≠ some W.heap.size) := ownBlock_ne HM.out.own HM.out.box (by decide)
      have HVR : Hid (v.ownBlock ≠ some wr.heap.size) := fun e => absurd (row_block HM.out.own e).2.1 (Nat.lt_irrefl _)
      have HLn : Hid (L.length = k) := by
        have := av_len HL.out
        rw [List.length_take_of_le (by have := HN.out; omega)] at this
        exact this
      have HK2 := Lib.hid hk2
      have HL2 := Lib.hid hl2
      clear hw2 hk2 hl2 cg fg c0 c1 c2 c3
      go_region_law
        (first
          | (go_simp; go_at_call 31; refine (HCL.out _ rfl).mono ?_; rintro e w4 ⟨A', c', rfl, ho4, hk4⟩; have e0 : w4.cell? ⟨W.heap.size, 0, none⟩ = some v := (hk4.cell (p := ⟨W.heap.size, 0, none⟩) (show W.heap.size < w2.heap.size by omega)).trans g0; have e1 : w4.frozen? ⟨W.heap.size, 0, none⟩ = false := (hk4.frozen (p := ⟨W.heap.size, 0, none⟩) (show W.heap.size < w2.heap.size by omega)).trans g1; have e2 : w4.cell? ⟨wr.heap.size, 0, none⟩ = some (.int .u64 a.lo) := (hk4.cell (p := ⟨wr.heap.size, 0, none⟩) (show wr.heap.size < w2.heap.size by omega)).trans l0; have e3 : w4.cell? ⟨wr.heap.size, 1, none⟩ = some (.slice a.A a.n a.c) := (hk4.cell (p := ⟨wr.heap.size, 1, none⟩) (show wr.heap.size < w2.heap.size by omega)).trans l1; have e4 : w4.cell? ⟨wr.heap.size, 2, none⟩ = some (.bool a.wr) := (hk4.cell (p := ⟨wr.heap.size, 2, none⟩) (show wr.heap.size < w2.heap.size by omega)).trans l2; have e5 : w4.cell? ⟨wr.heap.size, 3, none⟩ = some (.bool a.pv) := (hk4.cell (p := ⟨wr.heap.size, 3, none⟩) (show wr.heap.size < w2.heap.size by omega)).trans l3; have hk24 : Kp w2 w4 := (Kp.rfl w2).draw.next hk4; have hz24 := hk24.size; have HZ := Lib.hid (keep_alloc w4 W.heap.size wr.heap.size _ _ _ _ _ (by omega) (by omega) ⟨e0, e1, e2, e3, e4, e5⟩); have z0 : ∀ o, (w4.alloc o).cell? ⟨W.heap.size, 0, none⟩ = some v := fun o => (HZ.out o).1)
          | (refine step_append_lies _ (by rfl) _ _ _ (by rfl) W.heap.size 73 i0 _ 5 48 Try.underlying67 hi0 hz0 hz1 hz2 rfl (by omega) v L.length (recs L) (by rfl) (HV.out _ (hk24.new _))
              ⟨w4.heap.size, 0, none⟩ 1 1 [.int .u64 a.lo, .slice A' a.n c', .bool a.wr, .bool a.pv, .int .i64 (-1)] (by rfl) (by rfl) (World.news_of_block (cs := #[.int .u64 a.lo, .slice A' a.n c', .bool a.wr, .bool a.pv, .int .i64 (-1)]) (t := 73) (fr := (0, 0)) (heap_alloc_new w4 _)) (by simp [Value.oneCell'])
              (by omega) (by have := HLn.out; unfold maxLen; omega) (by have := HLn.out; omega) (by have := hk24.size; simp; omega) (w4.heap.size + 1) (by simp) ?_; intro gg cap w5 hown5 hgrow5 hat5 hlt5; have HX := Lib.hid (keep_grown hgrow5 W.heap.size wr.heap.size _ _ _ _ _ (by simp; omega) (by simp; omega) (Ne.symm HVG.out) (Ne.symm HVR.out) (HZ.out _)); obtain ⟨x0, x1, x2, x3, x4, x5⟩ := HX.out))
      all_goals
        have HR : Hid (NewR I W (k + 1) (w5.setCell ⟨W.heap.size, 0, none⟩ (.slice (some ⟨gg, 0, none⟩) (L.length + 1) cap))) := by
          obtain ⟨d1, d2, d3, d4, d5, d6⟩ := HD.out
          have hle : L.length + 1 ≤ 16 := by have := HLn.out; omega
          refine ⟨_, L ++ [⟨a.lo, A', a.n, c', a.wr, a.pv, -1, a.bs⟩], MS.add (a := ⟨a.lo, A', a.n, c', a.wr, a.pv, -1, a.bs⟩) HM.out (own_base ho4 HK2.out.size) (HK2.out.next hk24) ((Kp.rfl w4).new _) HK.out.size hown5 hgrow5 (hat5.imp id fun e => by rw [e]; simp) d3 d5 d6 hle, ?_, ?_, ?_⟩
          · rw [List.map_append, HL.out, List.take_add_one, HAk.out]
            simp [Ar.av]
          · intro b hb
            rcases List.mem_append.1 hb with hb | hb
            · exact HO.out b hb
            · obtain rfl := List.mem_singleton.1 hb; rfl
          · exact Kp.put (((HK.out.next (HK2.out.next hk24)).new _).grown hgrow5 ((HK.out.next (HK2.out.next hk24)).new _).size (fun j e => (row_block HM.out.own e).1)) (p := ⟨W.heap.size, 0, none⟩) (Nat.le_refl _) _
        clear ho4 hk4 hown5 hgrow5 hat5 hlt5 e0 e1 e2 e3 e4 e5 z0 x0 x1 x2 x3 x4 x5
        go_wp2_with fail
        go_roundw
        case rel => exact ⟨k + 1, by omega, by go_num, HR.out⟩
        case measure => simp [intOf]; omega
    · obtain rfl : k = n := by omega
      have HR : Hid (NewV I W (.returned (.pointer (some ⟨W.heap.size, 0, none⟩))) wr) := ⟨_, v, L, rfl, hM, by rw [hL, HN.out, List.take_length], hO, hK⟩
      clear hM hL hO hK
      go_wp2_with fail
      go_ret
      exact HR.out
end Go.Proofs.Ytlbkmdmnijmieaa
