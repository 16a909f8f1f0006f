/- Layer 9 (memory): Drain, of the code. -/
import Derived.Test.YtlbkmdmnijmieaaMm
namespace Go.Proofs.Ytlbkmdmnijmieaa
open Go Go.RowKit Rp Go.Maps
open Cq (U64 I64 isW nb mask)

theorem drain_nil (t : Int) (W : World) : Calls Try.prog 22 #[.pointer none, .int .i64 t] W fun e W' => e = .returned (.bool false) ∧ W = W' := by
  go_enter Try.func22, Try.ntmps22
  go_wp2_with fail
  refine (pend_nil t _).mono ?_; rintro e w1 ⟨rfl, rfl⟩
  go_wp2_with fail
  go_ret
  exact ⟨rfl, rfl⟩
theorem drain_no (t : Int) (g : Nat) (W : World) (ht : knB t = false) : Calls Try.prog 22 #[.pointer (some ⟨g, 0, none⟩), .int .i64 t] W fun e W' => e = .returned (.bool false) ∧ W = W' := by
  have HT := Lib.hid (pend_no t g W ht)
  clear ht
  go_enter Try.func22, Try.ntmps22
  go_wp2_with fail
  refine HT.out.mono ?_; rintro e w1 ⟨rfl, rfl⟩
  go_wp2_with fail
  go_ret
  exact ⟨rfl, rfl⟩
theorem drain_empty (t g : Nat) (A : Option Addr) (c : Nat) (W : World) (ht : t < 8) (hc : W.cell? ⟨g, 1 + t, none⟩ = some (.slice A 0 c)) :
    Calls Try.prog 22 #[.pointer (some ⟨g, 0, none⟩), .int .i64 t] W fun e W' => e = .returned (.bool false) ∧ W = W' := by
  have HT := Lib.hid (pend_any t g A 0 c W ht hc)
  clear hc
  go_enter Try.func22, Try.ntmps22
  go_wp2_with fail
  refine HT.out.mono ?_; rintro e w1 ⟨rfl, rfl⟩
  go_wp2_with fail
  go_ret
  exact ⟨rfl, rfl⟩
/-- a buffer's slice is another one -/
theorem MS.buf {B : Nat} {W : World} {g : Nat} {v : Value} {bv : List Value} {L : List Ar} (h : MS B W g v bv L) (t : Nat) (u : Value) : MS B (W.setCell ⟨g, 1 + t, none⟩ u) g v (bv.set t u) L := by
  have hb := h.box.put (1 + t) u
  rw [Nat.add_comm, List.set_cons_succ] at hb
  have hx : ∀ k, k ≠ g → (W.setCell ⟨g, 1 + t, none⟩ u).heap[k]? = W.heap[k]? := fun k hk => Below.heap_setCell W ⟨g, 1 + t, none⟩ u k hk
  rw [Nat.add_comm] at hb
  refine ⟨h.low, hb, own_keep h.own (fun k _ e => hx k (fun e' => ?_)), h.few, h.nil, fun a ha => ⟨own_keep (h.dat a ha).1 (fun k _ e => hx k (fun e' => ?_)), (h.dat a ha).2⟩, h.apart⟩
  · obtain ⟨_, _, c, hc⟩ := row_block h.own e
    have := h.box
    unfold Box at this
    rw [e', this] at hc
    simp at hc
  · obtain ⟨_, _, c, hc⟩ := row_block (h.dat a ha).1 e
    have := h.box
    unfold Box at this
    rw [e', this] at hc
    simp at hc
def DrV (B : Nat) (W : World) (g : Nat) (v : Value) (bv : List Value) (L : List Ar) (t : Nat) (q : Sto) (Q : List Sto) (e : Ending) (W' : World) : Prop :=
  e = .returned (.bool true) ∧ ∃ b', MS B W' g v (bv.set t b') (wrF L q.a q.v q.w.toNat) ∧ QB B W' b' Q ∧ Chg (fun k => DBlk L k ∨ k = g) W W'
set_option maxRecDepth 100000 in
set_option maxHeartbeats 4000000 in
theorem drain_any {B g : Nat} {v : Value} {bv : List Value} {L : List Ar} {W : World} (h : MS B W g v bv L) (t : Nat) (ht : t < 8) (b : Value) (hb : bv[t]? = some b) (q : Sto) (Q : List Sto) (hq : q.ok) (hQ : QB B W b (q :: Q)) :
    Calls Try.prog 22 #[.pointer (some ⟨g, 0, none⟩), .int .i64 t] W (DrV B W g v bv L t q Q) := by
  obtain ⟨A, c, rfl, hc1, hc2, hc3⟩ := hQ
  obtain ⟨gb, off, cur, rfl, hB, hg, hcur⟩ := hc3 (by simp)
  rw [List.length_cons] at hc1 hb
  obtain ⟨n, hn⟩ : ∃ n, n = Q.length := ⟨_, rfl⟩
  rw [← hn] at hb hc1
  unfold maxLen at hc2
  have hcell : W.cell? ⟨g, 1 + t, none⟩ = some (.slice (some ⟨gb, off, none⟩) (n + 1) c) := by
    rw [h.box.cell, Nat.add_comm, List.getElem?_cons_succ, hb]
  have k0 := hcur 0 q rfl 0 (by omega)
  have k1 := hcur 0 q rfl 1 (by omega)
  have k2 := hcur 0 q rfl 2 (by omega)
  simp only [Sto.row, List.getElem?_cons_zero, List.getElem?_cons_succ, Nat.zero_mul, Nat.add_zero] at k0 k1 k2
  rw [← cell_of_row W gb _ cur _ _ hg] at k0 k1 k2
  obtain ⟨w, hw, hw1, hw8⟩ : ∃ w : Nat, q.w = w ∧ 1 ≤ w ∧ w ≤ 8 := by
    rcases Cq.isW_cases hq.1 with e | e | e | e <;> rw [e]
    · exact ⟨1, rfl, by omega, by omega⟩
    · exact ⟨2, rfl, by omega, by omega⟩
    · exact ⟨4, rfl, by omega, by omega⟩
    · exact ⟨8, rfl, by omega, by omega⟩
  have HP := Lib.hid (pend_any t g _ (n + 1) c W ht hcell)
  have HW := Lib.hid (write_any h q.a q.v w q.ha.1 (by have := hq.2; rw [hw] at this; exact this) hw8 q.hv)
  have hWd : Hid (wrF L q.a q.v q.w.toNat = wrF L q.a q.v w) := by rw [hw]; rfl
  rw [hw] at k1
  have HM := Lib.hid h
  have HCU := Lib.hid hcur
  have HG := Lib.hid hg
  have HBV := Lib.hid hb
  have HN := Lib.hid hn
  clear h hcur hg hb hq hw hn
  go_enter Try.func22, Try.ntmps22
  go_wp2_with fail
  refine HP.out.mono ?_; rintro e w1 ⟨rfl, rfl⟩
  go_wp2_with fail
  refine HW.out.mono ?_
  rintro e w1 ⟨rfl, hM1, hC1⟩
  clear HP HW
  have hb1 := hM1.box
  have hgq : w1.heap[gb]? = some (.cells cur 77 (0, 0)) := (hC1.block gb (Array.getElem?_eq_some_iff.1 HG.out).1 (fun hs => HM.out.apart_q HG.out (.inr (.inr hs)))).trans HG.out
  have hcell1 : w1.cell? ⟨g, 1 + t, none⟩ = some (.slice (some ⟨gb, off, none⟩) (n + 1) c) := by
    rw [hb1.cell, Nat.add_comm, List.getElem?_cons_succ, HBV.out]
  have hfz1 := hb1.frozen (1 + t)
  have HM1 := Lib.hid hM1
  have HC1 := Lib.hid hC1
  have HQ1 := Lib.hid hgq
  clear hb1 hM1 hC1 hgq hcell k0 k1 k2
  have HR : Hid (∀ A2 c2, n ≤ c2 → c2 ≤ maxLen → (0 < n → A2 = some ⟨gb, off + 3, none⟩) → DrV B W g v bv L t q Q (.returned (.bool true)) (w1.setCell ⟨g, 1 + t, none⟩ (.slice A2 n c2)).drew) := by
    intro A2 c2 h1 h2 h3
    refine ⟨rfl, .slice A2 n c2, ?_, ?_, ?_⟩
    · rw [hWd.out]; exact (HM1.out.buf t _).kp (Kp.rfl _).draw
    · refine ⟨A2, c2, by rw [HN.out], by rw [← HN.out]; exact h1, h2, fun hp => ?_⟩
      have hgg : gb ≠ g := fun e => HM1.out.apart_q HQ1.out (.inl e)
      refine ⟨gb, off + 3, cur, h3 (by rw [HN.out]; exact hp), hB, (Below.heap_setCell w1 ⟨g, 1 + t, none⟩ _ gb hgg).trans HQ1.out, fun i p hi k hk => ?_⟩
      have := HCU.out (i + 1) p (by simpa using hi) k hk
      rw [← this]
      congr 1
      omega
    · exact ((HC1.out.mono (fun k _ hk => .inl hk)).setCell (p := ⟨g, 1 + t, none⟩) (fun _ => .inr rfl) _).drew
  go_wp2_with fail
  go_region
  all_goals go_wp2_with fail
  all_goals go_ret
  · exact HR.out _ 0 (by omega) (by unfold maxLen; omega) (fun hp => by omega)
  · exact HR.out _ (c - 1) (by omega) (by unfold maxLen; omega) (fun hp => rfl)
end Go.Proofs.Ytlbkmdmnijmieaa
