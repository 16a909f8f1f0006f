/- Layer 9 (memory), the law's side: the document's own memory; New, Find. -/
import Derived.Test.YtlbkmdmnijmieaaNb
import Derived.Deep.RegionLaw
namespace Go.Proofs.Ytlbkmdmnijmieaa
open Go Go.RowKit Rp Go.Maps
open Cq (U64 I64 isW nb mask)

/-- memory at block g: areas' slice v, buffers' slices bv; everything from block B on -/
structure RS (B : Nat) (W : World) (g : Nat) (v : Value) (bv : List Value) (L : List Ar) : Prop where
  low : B ≤ g
  box : Box W g 66 (v :: bv)
  own : W.ownsRow B 57 5 v L.length (recs L)
  few : L.length ≤ 16
  nil : L.length = 0 → v = .slice none 0 0
  dat : ∀ a ∈ L, W.ownsRow B 5 1 a.val a.n (cellsOf a.bs) ∧ Bytes8 a.bs ∧ a.n ≤ 64 ∧ U64 a.lo
  apart : L.Pairwise fun a b => ∀ k, a.val.ownBlock = some k → b.val.ownBlock ≠ some k
theorem RS.lt {B : Nat} {W : World} {g : Nat} {v : Value} {bv : List Value} {L : List Ar} (h : RS B W g v bv L) {k : Nat} (hk : MBlk g v L k) : B ≤ k ∧ k < W.heap.size := by
  rcases hk with rfl | hk | ⟨a, ha, hk⟩
  · exact ⟨h.low, h.box.lt⟩
  · exact ⟨(row_block h.own hk).1, (row_block h.own hk).2.1⟩
  · exact ⟨(row_block (h.dat a ha).1 hk).1, (row_block (h.dat a ha).1 hk).2.1⟩
theorem RS.keep {B : Nat} {W W' : World} {g : Nat} {v : Value} {bv : List Value} {L : List Ar} (h : RS B W g v bv L) (hk : ∀ k, MBlk g v L k → W'.heap[k]? = W.heap[k]?) : RS B W' g v bv L :=
  ⟨h.low, h.box.kept (hk g (.inl rfl)), own_keep h.own (fun k _ e => hk k (.inr (.inl e))), h.few, h.nil, fun a ha => ⟨own_keep (h.dat a ha).1 (fun k _ e => hk k (.inr (.inr ⟨a, ha, e⟩))), (h.dat a ha).2⟩, h.apart⟩
theorem RS.kp {B : Nat} {W W' : World} {g : Nat} {v : Value} {bv : List Value} {L : List Ar} (h : RS B W g v bv L) (k : Kp W W') : RS B W' g v bv L :=
  h.keep fun j hj => k.block j (h.lt hj).2
theorem RS.rd {B : Nat} {W : World} {g : Nat} {v : Value} {bv : List Value} {L : List Ar} (h : RS B W g v bv L) : ∃ ga c, MRd W g ga c L := by
  have hf := h.few
  rcases h.own.2 with ⟨hv, h0⟩ | ⟨ga, cap, cur, hv, hB, hg, hn, hc, hs, ht⟩
  · refine ⟨0, 0, h.box.lt, ?_, by omega, fun i a e => ?_⟩
    · have := h.box.cell 0
      rw [hv] at this
      simpa [h0] using this
    · have := List.length_eq_zero_iff.1 h0
      subst this
      simp at e
  · by_cases h0 : L.length = 0
    · rw [h.nil h0] at hv; cases hv
    · refine ⟨ga, cap, h.box.lt, ?_, by omega, fun i a e => ?_⟩
      · have := h.box.cell 0
        rw [hv] at this
        simpa [h0] using this
      · have hi := (List.getElem?_eq_some_iff.1 e).1
        have ha : a ∈ L := List.mem_of_getElem? e
        refine ⟨(Array.getElem?_eq_some_iff.1 hg).1, by have := (h.dat a ha).2.2.1; omega, fun k hk => ?_⟩
        rw [cell_of_row W ga _ cur _ _ hg, ← recs_get L i a e k hk, ← ht, List.getElem?_take_of_lt (by omega)]
        simp
theorem RS.drd {B : Nat} {W : World} {g : Nat} {v : Value} {bv : List Value} {L : List Ar} (h : RS B W g v bv L) : DRd W L := fun a ha => by
  obtain ⟨h1, h2, h3, _⟩ := h.dat a ha
  have hl : a.bs.length = a.n := by have := h1.1; rw [cellsOf_length] at this; omega
  exact ⟨hl, own_reads (n := a.n) (c := a.c) (by rw [hl]; exact h1), h2⟩
/-- one area more -/
theorem RS.add {B : Nat} {W W1 W2 W3 : World} {g : Nat} {v : Value} {bv : List Value} {L : List Ar} (h : RS B W g v bv L) {a : Ar} (h1 : W1.ownsRow W.heap.size 5 1 a.val a.n (cellsOf a.bs)) (k1 : Kp W W1) (k2 : Kp W1 W2) (hB : B ≤ W.heap.size)
    {g' cap : Nat} (ho : W3.ownsRow B 57 5 (.slice (some ⟨g', 0, none⟩) (L.length + 1) cap) (L.length + 1) (recs L ++ a.row)) (hgr : W2.grownBy W3 v.ownBlock) (hat : v.ownBlock = some g' ∨ g' = W2.heap.size)
    (hb : Bytes8 a.bs) (hn : a.n ≤ 64) (hu : U64 a.lo) (hf : L.length + 1 ≤ 16) :
    RS B (W3.setCell ⟨g, 0, none⟩ (.slice (some ⟨g', 0, none⟩) (L.length + 1) cap)) g (.slice (some ⟨g', 0, none⟩) (L.length + 1) cap) bv (L ++ [a]) := by
  have hk2 : Kp W W2 := k1.next k2
  have hg2 : g < W2.heap.size := Nat.lt_of_lt_of_le h.box.lt hk2.size
  have hvg : v.ownBlock ≠ some g := ownBlock_ne h.own h.box (by decide)
  have hbox : Box W3 g 66 (v :: bv) := (h.box.kept (hk2.block g h.box.lt)).kept (hgr.block g hg2 (fun e => hvg e.symm))
  have hb2 := hbox.put 0 (.slice (some ⟨g', 0, none⟩) (L.length + 1) cap)
  simp only [List.set_cons_zero] at hb2
  have hgg : g' ≠ g := by
    rintro rfl
    rcases hat with e | e
    · exact hvg e
    · omega
  have hkeep : ∀ (b : Ar), W2.ownsRow B 5 1 b.val b.n (cellsOf b.bs) → W3.ownsRow B 5 1 b.val b.n (cellsOf b.bs) ∧ b.val.ownBlock ≠ some g := fun b hb => by
    have hbl : ∀ k, b.val.ownBlock = some k → W3.heap[k]? = W2.heap[k]? := fun k e =>
      hgr.block k (row_block hb e).2.1 (fun e' => (row_ne (own_kp h.own hk2) hb (by decide : (57 : Nat) ≠ 5) e'.symm) e)
    exact ⟨own_keep hb (fun k _ e => hbl k e), fun e => by
      obtain ⟨_, _, cur, hh⟩ := row_block hb e
      have := hk2.block g h.box.lt
      rw [h.box] at this
      rw [this] at hh
      simp at hh⟩
  have hset : ∀ k, k ≠ g → (W3.setCell ⟨g, 0, none⟩ (.slice (some ⟨g', 0, none⟩) (L.length + 1) cap)).heap[k]? = W3.heap[k]? := fun k hk => Below.heap_setCell W3 ⟨g, 0, none⟩ _ k hk
  have hdat : ∀ (b : Ar), W2.ownsRow B 5 1 b.val b.n (cellsOf b.bs) → (W3.setCell ⟨g, 0, none⟩ (.slice (some ⟨g', 0, none⟩) (L.length + 1) cap)).ownsRow B 5 1 b.val b.n (cellsOf b.bs) := fun b hb => by
    obtain ⟨h3, h4⟩ := hkeep b hb
    exact own_keep h3 (fun k _ e => hset k (fun e' => h4 (e' ▸ e)))
  have ha2 : W2.ownsRow B 5 1 a.val a.n (cellsOf a.bs) := own_base (own_kp h1 k2) hB
  refine ⟨h.low, hb2, ?_, by simpa using hf, fun e => by simp at e, fun b hb' => ?_, ?_⟩
  · rw [recs_snoc, List.length_append, List.length_singleton]
    exact own_keep ho (fun k _ e => hset k (fun e' => by
      simp [Value.ownBlock] at e
      exact hgg (e.trans e')))
  · rcases List.mem_append.1 hb' with hb' | hb'
    · exact ⟨hdat b (own_kp (h.dat b hb').1 hk2), (h.dat b hb').2⟩
    · obtain rfl := List.mem_singleton.1 hb'
      exact ⟨hdat b ha2, hb, hn, hu⟩
  · rw [List.pairwise_append]
    refine ⟨h.apart, List.pairwise_singleton _ _, fun b hb' c hc k e e' => ?_⟩
    obtain rfl := List.mem_singleton.1 hc
    have := (row_block h1 e').1
    have := (row_block (h.dat b hb').1 e).2.1
    omega

def RNewV (J : List Ar) (W : World) (e : Ending) (W' : World) : Prop :=
  ∃ g v L, e = .returned (.pointer (some ⟨g, 0, none⟩)) ∧ RS W.heap.size W' g v noRows L ∧ L.map Ar.av = J.map Ar.av ∧ (∀ a ∈ L, a.ow = -1) ∧ Kp W W'
def RNewR (J : List Ar) (W : World) (k : Nat) (W' : World) : Prop :=
  ∃ v L, RS W.heap.size W' W.heap.size v noRows L ∧ L.map Ar.av = (J.take k).map Ar.av ∧ (∀ a ∈ L, a.ow = -1) ∧ Kp W W'
set_option maxRecDepth 100000 in
set_option maxHeartbeats 4000000 in
theorem rnew_any (A : Option Addr) (c : Nat) (J : List Ar) (W : World) (h : Small W A J) :
    Calls Try.prog 10 #[.slice A J.length c] W (RNewV J W) := by
  obtain ⟨i0, hi0, hz0, hz1, hz2⟩ := info_parts infoRA
  have H := Lib.hid h
  obtain ⟨n, hn⟩ : ∃ n, n = J.length := ⟨_, rfl⟩
  have hn8 : n ≤ 8 := by have := h.few; omega
  rw [← hn]
  have HN := Lib.hid hn
  clear h hn
  go_enter Try.func10, Try.ntmps10
  go_wp2_with fail
  have HS : Hid (RNewR J W 0 (W.alloc (.cells #[.slice none 0 0, .slice none 0 0, .slice none 0 0, .slice none 0 0, .slice none 0 0, .slice none 0 0, .slice none 0 0, .slice none 0 0, .slice none 0 0] 66))) :=
    ⟨.slice none 0 0, [], ⟨Nat.le_refl _, heap_alloc_new W _, World.ownsRow_nil _ _ _ _, by simp, fun _ => rfl, by simp, List.Pairwise.nil⟩, by simp, by simp, (Kp.rfl W).new _⟩
  generalize W.alloc (.cells #[.slice none 0 0, .slice none 0 0, .slice none 0 0, .slice none 0 0, .slice none 0 0, .slice none 0 0, .slice none 0 0, .slice none 0 0, .slice none 0 0] 66) = w1 at *
  go_loopw [10] (fun i wr => ∃ k : Nat, k ≤ n ∧ i = .int .i64 k ∧ RNewR J W k wr) (fun i _ => n - (intOf i).toNat)
  case atStart => exact ⟨0, Nat.zero_le _, rfl, HS.out⟩
  case round =>
    obtain ⟨k, hk, rfl, v, L, hM, hL, hO, hK⟩ := hrel
    have HM := Lib.hid hM
    have HL := Lib.hid hL
    have HO := Lib.hid hO
    have HK := Lib.hid hK
    clear hM hL hO hK
    by_cases hlt : k < n
    · obtain ⟨a, ha⟩ : ∃ a, J[k]? = some a := ⟨_, List.getElem?_eq_getElem (by have := HN.out; omega)⟩
      have HI := H.out.kp HK.out
      obtain ⟨gb, off, hA, hgb, hc⟩ := HI.rin.at' (by have := HN.out; omega)
      subst hA
      have c0 := hc k a ha 0 (by omega)
      rw [Nat.add_zero] at c0
      have c1 := hc k a ha 1 (by omega)
      have c2 := hc k a ha 2 (by omega)
      have c3 := hc k a ha 3 (by omega)
      have c4 := hc k a ha 4 (by omega)
      simp only [Ar.row, List.getElem?_cons_zero, List.getElem?_cons_succ] at c0 c1 c2 c3 c4
      have HD := Lib.hid (HI.rin.dat a (List.mem_of_getElem? ha))
      have HD64 := Lib.hid (HI.n64 a (List.mem_of_getElem? ha))
      have HAk := Lib.hid ha
      have HOW : Hid (((wr.alloc (.cells #[.int .u64 a.lo, .slice a.A a.n a.c, .bool a.wr, .bool a.pv, .int .i64 a.ow] 57)).alloc (.cells #[] 5)).ownsRow wr.heap.size 5 1 (.slice (some ⟨wr.heap.size + 1, 0, none⟩) 0 0) 0 (cellsOf [])) := by
        have := own_none (wr.alloc (.cells #[.int .u64 a.lo, .slice a.A a.n a.c, .bool a.wr, .bool a.pv, .int .i64 a.ow] 57)) wr.heap.size (by simp)
        rwa [World.size_alloc] at this
      have HRD : Hid (Reads ((wr.alloc (.cells #[.int .u64 a.lo, .slice a.A a.n a.c, .bool a.wr, .bool a.pv, .int .i64 a.ow] 57)).alloc (.cells #[] 5)) a.A a.bs) := reads_kp HD.out.2.1 (((Kp.rfl wr).new _).new _)
      clear HI hc ha
      go_wp2_with (at_builtin; refine wpList_append_src rfl _ _ rfl wr.heap.size _ 0 [] rfl HOW.out a.A a.n a.c a.bs rfl HD.out.1 HRD.out (HD.out.2.2.2.1) (by have := HD64.out; omega) (by simp; omega) ?_)
      intro v' w4 h1 h2 h3
      obtain ⟨A', c', hv, -, -⟩ := own_slice h1
      rw [HD.out.1] at hv
      subst hv
      have hk4 : Kp wr w4 := (((Kp.rfl wr).new _).new _).grown h2 (by simp; omega) (fun j e => by simp [Value.ownBlock] at e; omega)
      have b0 : Box w4 wr.heap.size 57 [.int .u64 a.lo, .slice a.A a.n a.c, .bool a.wr, .bool a.pv, .int .i64 a.ow] :=
        (h2.block wr.heap.size (by simp; omega) (by simp [Value.ownBlock])).trans ((Below.heap_alloc _ _ _ (by simp)).trans (heap_alloc_new wr _))
      have HB4 := Lib.hid b0
      have e0 := b0.cell 0
      have e1 := b0.cell 1
      have e2 := b0.cell 2
      have e3 := b0.cell 3
      have e4 := b0.cell 4
      have f1 := b0.frozen 1
      have f4 := b0.frozen 4
      simp only [List.getElem?_cons_zero, List.getElem?_cons_succ] at e0 e1 e2 e3 e4
      have HO4 := Lib.hid h1
      have HK4 := Lib.hid hk4
      have hlt4 : wr.heap.size < w4.heap.size := b0.lt
      have B5 := (b0.put 1 (.slice A' a.n c')).put 4 (.int .i64 (-1))
      simp only [List.set_cons_zero, List.set_cons_succ] at B5
      have HB5 := Lib.hid B5
      clear h1 h2 h3 hk4 b0 B5 c0 c1 c2 c3 c4 HRD HOW
      go_wp2_with fail
      obtain ⟨w5, hw5⟩ : ∃ w5, w5 = (w4.setCell ⟨wr.heap.size, 1, none⟩ (.slice A' a.n c')).setCell ⟨wr.heap.size, 4, none⟩ (.int .i64 (-1)) := ⟨_, rfl⟩
      rw [← hw5]
      have hx5 : Box w5 wr.heap.size 57 [.int .u64 a.lo, .slice A' a.n c', .bool a.wr, .bool a.pv, .int .i64 (-1)] := by rw [hw5]; exact HB5.out
      have hk5 : Kp wr w5 := by rw [hw5]; exact (HK4.out.put (p := ⟨wr.heap.size, 1, none⟩) (Nat.le_refl _) _).put (p := ⟨wr.heap.size, 4, none⟩) (Nat.le_refl _) _
      have HO5 : Hid (w5.ownsRow wr.heap.size 5 1 (.slice A' a.n c') a.n (cellsOf a.bs)) := by
        rw [hw5]
        have hne : ∀ j, (Value.slice A' a.n c').ownBlock = some j → j ≠ wr.heap.size := fun j e e' => by
          obtain ⟨_, _, cur, hh⟩ := row_block HO4.out e
          have hb := HB5.out
          rw [← hw5] at hb
          have hz : w5.heap[wr.heap.size]? ≠ none := by rw [show w5.heap[wr.heap.size]? = _ from hb]; simp
          have h4 := HK4.out
          rw [e'] at hh
          have hB4 : w4.heap[wr.heap.size]? = some (.cells #[.int .u64 a.lo, .slice a.A a.n a.c, .bool a.wr, .bool a.pv, .int .i64 a.ow] 57 (0, 0)) := HB4.out
          rw [hB4] at hh
          simp at hh
        exact own_keep HO4.out (fun j _ e => (Below.heap_setCell _ ⟨wr.heap.size, 4, none⟩ _ j (hne j e)).trans (Below.heap_setCell _ ⟨wr.heap.size, 1, none⟩ _ j (hne j e)))
      have l0 := hx5.cell 0
      have l1 := hx5.cell 1
      have l2 := hx5.cell 2
      have l3 := hx5.cell 3
      have l4 := hx5.cell 4
      simp only [List.getElem?_cons_zero, List.getElem?_cons_succ] at l0 l1 l2 l3 l4
      have hgw : W.heap.size < wr.heap.size := HM.out.box.lt
      have g0 : w5.cell? ⟨W.heap.size, 0, none⟩ = some v := (hk5.cell (p := ⟨W.heap.size, 0, none⟩) hgw).trans (by simpa using HM.out.box.cell 0)
      have g1 : w5.frozen? ⟨W.heap.size, 0, none⟩ = false := (hk5.frozen (p := ⟨W.heap.size, 0, none⟩) hgw).trans (HM.out.box.frozen 0)
      have hgw5 : W.heap.size < w5.heap.size := by have := hk5.size; omega
      have z0 : ∀ o, (w5.alloc o).cell? ⟨W.heap.size, 0, none⟩ = some v := fun o => (((Kp.rfl w5).new o).cell (p := ⟨W.heap.size, 0, none⟩) hgw5).trans g0
      have HVG : Hid (v.ownBlock ≠ some W.heap.size) := ownBlock_ne HM.out.own HM.out.box (by decide)
      have HLn : Hid (L.length = k) := by
        have := av_len HL.out
        rw [List.length_take_of_le (by have := HN.out; omega)] at this
        exact this
      have HK5 := Lib.hid hk5
      have HZ1 := Lib.hid (fun o => (((Kp.rfl w5).new o).frozen (p := ⟨W.heap.size, 0, none⟩) hgw5).trans g1)
      clear hw5 hx5 hk5 e0 e1 e2 e3 e4 f1 f4 HB5 HB4 HK4 HO4
      go_region_law
        ((refine step_append_lies _ (by rfl) _ _ _ (by rfl) W.heap.size 57 i0 _ 5 48 Try.underlying22 hi0 hz0 hz1 hz2 rfl (by omega) v L.length (recs L) (by rfl) (own_kp HM.out.own ((HK5.out.new _).draw))
            ⟨w5.heap.size, 0, none⟩ 1 1 [.int .u64 a.lo, .slice A' a.n c', .bool a.wr, .bool a.pv, .int .i64 (-1)] (by rfl) (by rfl) (World.news_of_block (cs := #[.int .u64 a.lo, .slice A' a.n c', .bool a.wr, .bool a.pv, .int .i64 (-1)]) (t := 57) (fr := (0, 0)) (heap_alloc_new w5 _)) (by simp [Value.oneCell'])
            (by omega) (by have := HLn.out; unfold maxLen; omega) (by have := HLn.out; omega) (by simp; omega) (w5.heap.size + 1) (by simp) ?_; intro gg cap w6 hown6 hgrow6 hat6 hlt6; have x0 : w6.cell? ⟨W.heap.size, 0, none⟩ = some v := (hgrow6.cell_far ⟨W.heap.size, 0, none⟩ (by simp; omega) (Ne.symm HVG.out)).trans (z0 _); have x1 : w6.frozen? ⟨W.heap.size, 0, none⟩ = false := (hgrow6.frozen_far ⟨W.heap.size, 0, none⟩ (by simp; omega) (Ne.symm HVG.out)).trans (HZ1.out _)))
      all_goals
        have HR : Hid (RNewR J W (k + 1) (w6.setCell ⟨W.heap.size, 0, none⟩ (.slice (some ⟨gg, 0, none⟩) (L.length + 1) cap))) := by
          have hle : L.length + 1 ≤ 16 := by have := HLn.out; omega
          obtain ⟨q1, q2, q3, q4, q5, q6, q7⟩ := HD.out
          refine ⟨_, L ++ [⟨a.lo, A', a.n, c', a.wr, a.pv, -1, a.bs⟩], RS.add (a := ⟨a.lo, A', a.n, c', a.wr, a.pv, -1, a.bs⟩) (W1 := w5) HM.out HO5.out HK5.out (((Kp.rfl w5).new _).draw) HK.out.size hown6 hgrow6 (hat6.imp id fun e => by rw [e]; simp) q3 HD64.out q7 hle, ?_, ?_, ?_⟩
          · rw [List.map_append, HL.out, List.take_add_one, HAk.out]
            simp [Ar.av]
          · intro b hb
            rcases List.mem_append.1 hb with hb | hb
            · exact HO.out b hb
            · obtain rfl := List.mem_singleton.1 hb; rfl
          · exact Kp.put ((((HK.out.next HK5.out).new _).draw).grown hgrow6 (((HK.out.next HK5.out).new _).draw).size (fun j e => (row_block HM.out.own e).1)) (p := ⟨W.heap.size, 0, none⟩) (Nat.le_refl _) _
        clear hown6 hgrow6 hat6 hlt6 z0 x0 x1 g0 g1 l0 l1 l2 l3 l4
        go_wp2_with fail
        go_roundw
        case rel => exact ⟨k + 1, by omega, by go_num, HR.out⟩
        case measure => simp [intOf]; omega
    · obtain rfl : k = n := by omega
      have HR : Hid (RNewV J W (.returned (.pointer (some ⟨W.heap.size, 0, none⟩))) wr) := ⟨_, v, L, rfl, HM.out, by rw [HL.out, HN.out, List.take_length], HO.out, HK.out⟩
      go_wp2_with fail
      go_ret
      exact HR.out
end Go.Proofs.Ytlbkmdmnijmieaa
