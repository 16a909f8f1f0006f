/- Layer 9 (memory): Store behind whatever stores. -/
import Derived.Test.YtlbkmdmnijmieaaOa
import Derived.Deep.RegionLaw
import Derived.Deep.RegionLawGrows
namespace Go.Proofs.Ytlbkmdmnijmieaa
open Go Go.RowKit Rp Go.Maps
open Cq (U64 I64 isW nb mask)

def cur3 (cur : Array Value) (o : Nat) (x y z : Value) : Array Value := ((cur.setIfInBounds o x).setIfInBounds (o + 1) y).setIfInBounds (o + 1 + 1) z
theorem cur3_size (cur : Array Value) (o : Nat) (x y z : Value) : (cur3 cur o x y z).size = cur.size := by simp [cur3]
theorem cur3_old (cur : Array Value) (o : Nat) (x y z : Value) (j : Nat) (h : j < o) : (cur3 cur o x y z)[j]? = cur[j]? := by
  unfold cur3
  rw [Array.getElem?_setIfInBounds_ne (by omega), Array.getElem?_setIfInBounds_ne (by omega), Array.getElem?_setIfInBounds_ne (by omega)]
theorem cur3_new (cur : Array Value) (o : Nat) (x y z : Value) (h : o + 3 ≤ cur.size) (k : Nat) (hk : k < 3) : (cur3 cur o x y z)[o + k]? = [x, y, z][k]? := by
  unfold cur3
  match k, hk with
  | 0, _ => rw [Array.getElem?_setIfInBounds_ne (by omega), Array.getElem?_setIfInBounds_ne (by omega), Nat.add_zero, Array.getElem?_setIfInBounds_self_of_lt (by omega)]; rfl
  | 1, _ => rw [Array.getElem?_setIfInBounds_ne (by omega), Array.getElem?_setIfInBounds_self_of_lt (by simp; omega)]; rfl
  | 2, _ => rw [Array.getElem?_setIfInBounds_self_of_lt (by simp; omega)]; rfl
theorem heap_set3 (w : World) (g o : Nat) (cur : Array Value) (t : TypeId) (x y z : Value) (h : w.heap[g]? = some (.cells cur t (0, 0))) : (w.setCells g o [x, y, z]).heap[g]? = some (.cells (cur3 cur o x y z) t (0, 0)) :=
  heap_setCell_same _ _ _ _ _ _ (heap_setCell_same _ _ _ _ _ _ (heap_setCell_same _ _ _ _ _ _ h))
theorem heap_set3_ne (w : World) (g o k : Nat) (x y z : Value) (h : k ≠ g) : (w.setCells g o [x, y, z]).heap[k]? = w.heap[k]? :=
  (Below.heap_setCell _ ⟨g, o + 1 + 1, none⟩ _ k h).trans ((Below.heap_setCell _ ⟨g, o + 1, none⟩ _ k h).trans (Below.heap_setCell _ ⟨g, o, none⟩ _ k h))
theorem chg_set3 {S : Nat → Prop} {W w : World} (c : Chg S W w) (g o : Nat) (x y z : Value) (hS : S g) : Chg S W (w.setCells g o [x, y, z]) :=
  ((c.setCell (p := ⟨g, o, none⟩) (fun _ => hS) x).setCell (p := ⟨g, o + 1, none⟩) (fun _ => hS) y).setCell (p := ⟨g, o + 1 + 1, none⟩) (fun _ => hS) z
def SqV (B : Nat) (W : World) (g : Nat) (v : Value) (bv : List Value) (L : List Ar) (t : Nat) (ob : Option Nat) (q : Sto) (Q : List Sto) (e : Ending) (W' : World) : Prop :=
  e = .returned (.bool true) ∧ ∃ b', MS B W' g v (bv.set t b') L ∧ QC B W' b' (Q ++ [q]) ∧ (∀ k, bblk b' = some k → ob = some k ∨ W.heap.size ≤ k) ∧ Chg (fun k => k = g ∨ ob = some k) W W'
set_option maxRecDepth 100000 in
set_option maxHeartbeats 8000000 in
theorem store_qc {B g : Nat} {v : Value} {bv : List Value} {L : List Ar} {W : World} (h : MS B W g v bv L) (t : Nat) (ht : t < 8) (b : Value) (hb : bv[t]? = some b) (q : Sto) (Q : List Sto) (hQ : QC B W b Q) (hl : Q.length < 1000)
    (hm : mayB L t q.a q.w true = true) :
    Calls Try.prog 19 #[.pointer (some ⟨g, 0, none⟩), .int .i64 t, .int .u64 q.a, .int .i64 q.w, .int .u64 q.v] W (SqV B W g v bv L t (bblk b) q Q) := by
  obtain ⟨ob, hob⟩ : ∃ ob, ob = bblk b := ⟨_, rfl⟩
  rw [← hob]
  obtain ⟨ga, c, hr⟩ := h.rd
  obtain ⟨i0, hi0, hz0, hz1, hz2⟩ := info_parts infoSto
  have H := Lib.hid (may_any g ga c L t q.a q.w true W hr q.ha)
  rw [hm] at H
  have HM := Lib.hid h
  have HQ0 := Lib.hid hQ
  obtain ⟨A, cb, rfl, hc1, hc2, hc3⟩ := hQ
  obtain ⟨n, hn⟩ : ∃ n, n = Q.length := ⟨_, rfl⟩
  rw [← hn] at hb hc1 hl hob HQ0
  have HN := Lib.hid hn
  have HL := Lib.hid hl
  have HOB := Lib.hid hob
  have hd : decide ((65536 : Int) ≤ (n : Int)) = false := decide_eq_false (by omega)
  have HC := Lib.hid (And.intro hc2 hc3)
  have HBV := Lib.hid hb
  clear hm hr h hb hn hl hob hc2 hc3
  go_enter Try.func19, Try.ntmps19
  go_wp2_with fail
  refine H.out.mono ?_; rintro e w1 ⟨rfl, hk⟩
  have HM1 := Lib.hid (HM.out.kp hk)
  have HQ1 := Lib.hid (HQ0.out.kp hk)
  have HK1 := Lib.hid hk
  have hcell : w1.cell? ⟨g, 1 + t, none⟩ = some (.slice A n cb) := by
    rw [HM1.out.box.cell, Nat.add_comm, List.getElem?_cons_succ, HBV.out]
  have hfz := HM1.out.box.frozen (1 + t)
  have hgw := HM1.out.box.lt
  have HBW : Hid (B ≤ w1.heap.size) := Nat.le_trans HM1.out.low (Nat.le_of_lt hgw)
  have hkw := hk.size
  clear hk H
  go_wp2_with fail
  have z0 : ∀ o, (w1.alloc o).cell? ⟨g, 1 + t, none⟩ = some (.slice A n cb) := fun o => (((Kp.rfl w1).new o).cell (p := ⟨g, 1 + t, none⟩) hgw).trans hcell
  have HF : Hid (∀ o, (w1.alloc o).frozen? ⟨g, 1 + t, none⟩ = false) := fun o => (((Kp.rfl w1).new o).frozen (p := ⟨g, 1 + t, none⟩) hgw).trans hfz
  have ht8 : (t : Int) < 8 := by omega
  by_cases hroom : n + 1 ≤ cb
  · obtain ⟨gb, off, cur, rfl, hB, hg, hsz, hcur⟩ := HC.out.2 (by omega)
    have hglt := (Array.getElem?_eq_some_iff.1 hg).1
    have HG1 : Hid (w1.heap[gb]? = some (.cells cur 77 (0, 0))) := (HK1.out.block gb hglt).trans hg
    have HGG : Hid (gb ≠ g) := fun e => HM1.out.apart_q HG1.out (.inl e)
    have HGA : Hid (∀ o, ((w1.alloc o).drew).heap[gb]? = some (.cells cur 77 (0, 0))) := fun o => (Below.heap_alloc w1 o gb (Array.getElem?_eq_some_iff.1 HG1.out).1).trans HG1.out
    have HSP : Hid (∀ o j, j < 3 → (((w1.alloc o).drew).cell? ⟨gb, off + n * 3 + j, none⟩).isSome = true ∧ ((w1.alloc o).drew).frozen? ⟨gb, off + n * 3 + j, none⟩ = false) := fun o j hj => by
      constructor
      · rw [cell_of_row _ gb _ cur _ _ (HGA.out o), Array.getElem?_eq_getElem (by omega)]; rfl
      · have := HGA.out o; simp [World.frozen?, this]
    have HCU := Lib.hid (And.intro hsz hcur)
    have y0 : ∀ o x y z, (((w1.alloc o).drew).setCells gb (off + n * 3) [x, y, z]).cell? ⟨g, 1 + t, none⟩ = some (.slice (some ⟨gb, off, none⟩) n cb) := fun o x y z => (World.cell?_of_block (a := ⟨g, 1 + t, none⟩) (heap_set3_ne _ gb _ g _ _ _ (fun e => HGG.out e.symm))).trans (z0 o)
    have y1 : ∀ o x y z, (((w1.alloc o).drew).setCells gb (off + n * 3) [x, y, z]).frozen? ⟨g, 1 + t, none⟩ = false := fun o x y z => (World.frozen?_of_block (a := ⟨g, 1 + t, none⟩) (heap_set3_ne _ gb _ g _ _ _ (fun e => HGG.out e.symm))).trans (HF.out o)
    clear hg hsz hcur hglt
    go_region_law
      ((refine step_append_room (by rfl) _ _ _ (by rfl) 77 i0 3 Try.underlying68 hi0 hz1 gb off n cb (by rfl) ⟨w1.heap.size, 0, none⟩ 1 1 [.int .u64 q.a, .int .i64 q.w, .int .u64 q.v] (by rfl) (by rfl)
          (World.news_of_block (cs := #[.int .u64 q.a, .int .i64 q.w, .int .u64 q.v]) (t := 77) (fr := (0, 0)) (heap_alloc_new w1 _)) (by simp [Value.oneCell']) hroom (fun j hj => HSP.out _ j hj) ?_))
    all_goals
      obtain ⟨w5, hw5⟩ : ∃ w5, w5 = ((w1.alloc (.cells #[.int .u64 q.a, .int .i64 q.w, .int .u64 q.v] 77)).drew).setCells gb (off + n * 3) [.int .u64 q.a, .int .i64 q.w, .int .u64 q.v] := ⟨_, rfl⟩
      rw [← hw5]
      have HR : Hid (SqV B W g v bv L t ob q Q (.returned (.bool true)) (w5.setCell ⟨g, 1 + t, none⟩ (.slice (some ⟨gb, off, none⟩) (n + 1) cb))) := by
        have hka : Kp w1 ((w1.alloc (.cells #[.int .u64 q.a, .int .i64 q.w, .int .u64 q.v] 77)).drew) := ((Kp.rfl w1).new _).draw
        have HMa := HM1.out.kp hka
        have hga := HGA.out (.cells #[.int .u64 q.a, .int .i64 q.w, .int .u64 q.v] 77)
        have HM5 := HMa.keep (W' := w5) fun k hk => by
          rw [hw5]
          exact heap_set3_ne _ gb _ k _ _ _ (fun e => HMa.apart_q hga (e ▸ hk))
        have hobg : ob = some gb := by rw [HOB.out, bblk_slice, if_neg (by omega)]; rfl
        obtain ⟨hsz, hcur⟩ := HCU.out
        refine ⟨rfl, .slice (some ⟨gb, off, none⟩) (n + 1) cb, HM5.buf t _, ?_, ?_, ?_⟩
        · refine ⟨some ⟨gb, off, none⟩, cb, by rw [List.length_append, List.length_singleton, HN.out], by rw [List.length_append, List.length_singleton, ← HN.out]; exact hroom, HC.out.1, fun _ => ⟨gb, off, cur3 cur (off + n * 3) (.int .u64 q.a) (.int .i64 q.w) (.int .u64 q.v), rfl, hB, ?_, by rw [cur3_size]; exact hsz, fun i p hi k hk => ?_⟩⟩
          · rw [Below.heap_setCell w5 ⟨g, 1 + t, none⟩ _ gb HGG.out, hw5]
            exact heap_set3 _ gb _ cur _ _ _ _ hga
          · by_cases hin : i < n
            · rw [List.getElem?_append_left (by have := HN.out; omega)] at hi
              rw [cur3_old _ _ _ _ _ _ (by omega)]
              exact hcur i p hi k hk
            · have hie := (List.getElem?_eq_some_iff.1 hi).1
              rw [List.length_append, List.length_singleton, ← HN.out] at hie
              obtain rfl : i = n := by omega
              rw [HN.out, List.getElem?_append_right (Nat.le_refl _), Nat.sub_self] at hi
              simp at hi
              subst hi
              rw [cur3_new _ _ _ _ _ (by omega) k hk]
              rfl
        · intro k hk
          rw [bblk_slice, if_neg (by omega)] at hk
          simp at hk
          exact .inl (by rw [hobg, hk])
        · have hch : Chg (fun k => k = g ∨ ob = some k) W w5 := by
            rw [hw5]
            exact chg_set3 (((Chg.refl _ W).thenBelow HK1.out).thenBelow hka) gb _ _ _ _ (.inr hobg)
          exact hch.setCell (p := ⟨g, 1 + t, none⟩) (fun _ => .inl rfl) _
      clear z0 y0 y1 hw5 hcell hfz
      go_wp2_with fail
      go_ret
      exact HR.out
  · have HNO : Hid (A = none → n = 0 ∧ cb = 0) := fun e => by
      by_cases h0 : 0 < cb
      · obtain ⟨gb, off, cur, e', _⟩ := HC.out.2 h0
        rw [e] at e'; cases e'
      · omega
    have HOL : Hid (∀ o b, A = some b → ∀ j u, (stos Q)[j]? = some u → ((w1.alloc o).drew).cell? (b.add j) = some u) := fun o b e j u hu => by
      have hj := (List.getElem?_eq_some_iff.1 hu).1
      rw [stos_length] at hj
      have hp : 0 < cb := by have := HN.out; omega
      obtain ⟨gb, off, cur, e', hB, hg, hsz, hcur⟩ := HC.out.2 hp
      rw [e] at e'
      injection e' with e'
      subst e'
      have hglt := (Array.getElem?_eq_some_iff.1 hg).1
      have hgx : ((w1.alloc o).drew).heap[gb]? = some (.cells cur 77 (0, 0)) := (Below.heap_alloc w1 o gb (Nat.lt_of_lt_of_le hglt hkw)).trans ((HK1.out.block gb hglt).trans hg)
      have hji : j / 3 < Q.length := by omega
      obtain ⟨p, hp'⟩ : ∃ p, Q[j / 3]? = some p := ⟨_, List.getElem?_eq_getElem hji⟩
      have h1 := hcur (j / 3) p hp' (j % 3) (by omega)
      rw [← stos_get Q (j / 3) p hp' (j % 3) (by omega)] at h1
      have hjj : j / 3 * 3 + j % 3 = j := by omega
      rw [hjj, hu] at h1
      have hadd : (⟨gb, off, none⟩ : Addr).add j = ⟨gb, off + j, none⟩ := by unfold Addr.add; split <;> simp_all
      rw [hadd, cell_of_row _ gb _ cur _ _ hgx, ← h1]
      congr 1
      omega
    have HLEN : Hid ((stos Q).length = n * 3) := (stos_length Q).trans (by rw [HN.out])
    have hfull : cb < n + 1 := by omega
    go_region_law
      ((refine step_append_grows (by rfl) _ _ _ (by rfl) 77 i0 _ 3 24 Try.underlying68 hi0 hz0 hz1 hz2 rfl (by omega) A n cb (stos Q) (by rfl) HNO.out HLEN.out (HOL.out _) ⟨w1.heap.size, 0, none⟩ 1 1 [.int .u64 q.a, .int .i64 q.w, .int .u64 q.v] (by rfl) (by rfl)
          (World.news_of_block (cs := #[.int .u64 q.a, .int .i64 q.w, .int .u64 q.v]) (t := 77) (fr := (0, 0)) (heap_alloc_new w1 _)) (by simp [Value.oneCell']) hfull (by have := HL.out; unfold maxLen; omega) (by have := HL.out; omega) ?_; intro v' w5 hown5 hgrow5; obtain ⟨gg, cap, rfl, hgg1, hgg2⟩ := hown5.form (by omega); have x0 : w5.cell? ⟨g, 1 + t, none⟩ = some (.slice A n cb) := (hgrow5.cell_far ⟨g, 1 + t, none⟩ (by simp; omega) (by simp)).trans (z0 _); have x1 : w5.frozen? ⟨g, 1 + t, none⟩ = false := (hgrow5.frozen_far ⟨g, 1 + t, none⟩ (by simp; omega) (by simp)).trans (HF.out _)))
    all_goals
      have HR : Hid (SqV B W g v bv L t ob q Q (.returned (.bool true)) (w5.setCell ⟨g, 1 + t, none⟩ (.slice (some ⟨gg, 0, none⟩) (n + 1) cap))) := by
        have hka : Kp w1 ((w1.alloc (.cells #[.int .u64 q.a, .int .i64 q.w, .int .u64 q.v] 77)).drew) := ((Kp.rfl w1).new _).draw
        have HMa := HM1.out.kp hka
        have HM5 := HMa.keep (W' := w5) fun k hk => hgrow5.block k (HMa.lt hk).2 (by simp)
        have hgg3 : w1.heap.size + 1 ≤ gg := by simpa using hgg1
        refine ⟨rfl, .slice (some ⟨gg, 0, none⟩) (n + 1) cap, HM5.buf t _, ?_, ?_, ?_⟩
        · refine QC.of_own (own_keep (own_base (B' := B) (by rw [stos_snoc, List.length_append, List.length_singleton, ← HN.out]; exact hown5) (by have := HBW.out; simp; omega)) fun k _ e => Below.heap_setCell w5 ⟨g, 1 + t, none⟩ _ k (fun e' => ?_))
          simp [Value.ownBlock] at e
          simp at e'
          omega
        · intro k hk
          rw [bblk_slice] at hk
          by_cases hz : cap = 0
          · rw [if_pos hz] at hk; cases hk
          · rw [if_neg hz] at hk
            simp at hk
            exact .inr (by omega)
        · have hch : Chg (fun k => k = g ∨ ob = some k) W w5 := (((Chg.refl _ W).thenBelow HK1.out).thenBelow hka).grown hgrow5 (fun k e _ => by cases e)
          exact hch.setCell (p := ⟨g, 1 + t, none⟩) (fun _ => .inl rfl) _
      clear z0 x0 x1 hcell hfz hown5 hgrow5 hgg1
      go_wp2_with fail
      go_ret
      exact HR.out
end Go.Proofs.Ytlbkmdmnijmieaa
