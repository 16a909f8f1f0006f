/- Layer 9 (memory): a thread's stores with what room they have; Drain of them. -/
import Derived.Test.YtlbkmdmnijmieaaNk
import Derived.Test.YtlbkmdmnijmieaaLord
import Derived.RegionTactic
import Derived.BigRegion
namespace Go.Proofs.Ytlbkmdmnijmieaa
open Go Go.RowKit Rp Go.Maps
open Cq (U64 I64 isW nb mask)

/-- a thread's stores, and the room behind them -/
def QC (B : Nat) (W : World) (b : Value) (Q : List Sto) : Prop :=
  ∃ A c, b = .slice A Q.length c ∧ Q.length ≤ c ∧ c ≤ maxLen ∧ (0 < c → ∃ gb off cur, A = some ⟨gb, off, none⟩ ∧ B ≤ gb ∧ W.heap[gb]? = some (.cells cur 77 (0, 0)) ∧ off + c * 3 ≤ cur.size ∧ ∀ (i : Nat) (q : Sto), Q[i]? = some q → ∀ k, k < 3 → cur[off + i * 3 + k]? = q.row[k]?)
/-- the block that a slice may write in -/
def bblk : Value → Option Nat
  | .slice A _ c => if c = 0 then none else A.map (·.block)
  | _ => none
theorem bblk_slice (A : Option Addr) (n c : Nat) : bblk (.slice A n c) = if c = 0 then none else A.map (·.block) := rfl
theorem QC.qb {B : Nat} {W : World} {b : Value} {Q : List Sto} (h : QC B W b Q) : QB B W b Q := by
  obtain ⟨A, c, h1, h2, h3, h4⟩ := h
  refine ⟨A, c, h1, h2, h3, fun hp => ?_⟩
  obtain ⟨gb, off, cur, e, hB, hg, _, hc⟩ := h4 (by omega)
  exact ⟨gb, off, cur, e, hB, hg, hc⟩
theorem QC.blk {B : Nat} {W : World} {b : Value} {Q : List Sto} (h : QC B W b Q) {k : Nat} (hk : bblk b = some k) : B ≤ k ∧ k < W.heap.size ∧ ∃ cur, W.heap[k]? = some (.cells cur 77 (0, 0)) := by
  obtain ⟨A, c, rfl, h2, h3, h4⟩ := h
  rw [bblk_slice] at hk
  by_cases hc : c = 0
  · rw [if_pos hc] at hk; cases hk
  · rw [if_neg hc] at hk
    obtain ⟨gb, off, cur, rfl, hB, hg, _⟩ := h4 (by omega)
    simp at hk
    subst hk
    exact ⟨hB, (Array.getElem?_eq_some_iff.1 hg).1, cur, hg⟩
theorem QC.keep {B : Nat} {W W' : World} {b : Value} {Q : List Sto} (h : QC B W b Q) (hk : ∀ k, bblk b = some k → W'.heap[k]? = W.heap[k]?) : QC B W' b Q := by
  obtain ⟨A, c, rfl, h2, h3, h4⟩ := h
  refine ⟨A, c, rfl, h2, h3, fun hp => ?_⟩
  obtain ⟨gb, off, cur, rfl, hB, hg, hs, hc⟩ := h4 hp
  exact ⟨gb, off, cur, rfl, hB, (hk gb (by rw [bblk_slice, if_neg (by omega)]; rfl)).trans hg, hs, hc⟩
theorem QC.kp {B : Nat} {W W' : World} {b : Value} {Q : List Sto} (h : QC B W b Q) (k : Kp W W') : QC B W' b Q := h.keep fun j hj => k.block j (h.blk hj).2.1
theorem QC.nil (B : Nat) (W : World) : QC B W (.slice none 0 0) [] := ⟨none, 0, rfl, Nat.le_refl _, Nat.zero_le _, fun h => absurd h (by omega)⟩
theorem QC.of_own {B : Nat} {W : World} {b : Value} {Q : List Sto} (h : W.ownsRow B 77 3 b Q.length (stos Q)) : QC B W b Q := by
  rcases h.2 with ⟨rfl, h0⟩ | ⟨g, cap, cur, rfl, hB, hg, hn, hc, hs, ht⟩
  · have e := List.length_eq_zero_iff.1 h0
    subst e
    exact QC.nil B W
  · refine ⟨_, cap, rfl, hn, hc, fun _ => ⟨g, 0, cur, rfl, hB, hg, by omega, fun i q hq k hk => ?_⟩⟩
    have hi := (List.getElem?_eq_some_iff.1 hq).1
    rw [← stos_get Q i q hq k hk, ← ht, List.getElem?_take_of_lt (by omega), Nat.zero_add]
    simp
def DqV (B : Nat) (W : World) (g : Nat) (v : Value) (bv : List Value) (L : List Ar) (t : Nat) (ob : Option Nat) (q : Sto) (Q : List Sto) (e : Ending) (W' : World) : Prop :=
  e = .returned (.bool true) ∧ ∃ b', MS B W' g v (bv.set t b') (wrF L q.a q.v q.w.toNat) ∧ QC B W' b' Q ∧ (∀ k, bblk b' = some k → ob = some k) ∧ Chg (fun k => DBlk L k ∨ k = g) W W'
set_option maxRecDepth 100000 in
set_option maxHeartbeats 4000000 in
theorem drain_qc {B g : Nat} {v : Value} {bv : List Value} {L : List Ar} {W : World} (h : MS B W g v bv L) (t : Nat) (ht : t < 8) (b : Value) (hb : bv[t]? = some b) (q : Sto) (Q : List Sto) (hq : q.ok) (hQ : QC B W b (q :: Q)) :
    Calls Try.prog 22 #[.pointer (some ⟨g, 0, none⟩), .int .i64 t] W (DqV B W g v bv L t (bblk b) q Q) := by
  obtain ⟨ob, hob⟩ : ∃ ob, ob = bblk b := ⟨_, rfl⟩
  rw [← hob]
  obtain ⟨A, c, rfl, hc1, hc2, hc3⟩ := hQ
  obtain ⟨gb, off, cur, rfl, hB, hg, hsz, hcur⟩ := hc3 (by simp at hc1; omega)
  rw [List.length_cons] at hc1 hb
  obtain ⟨n, hn⟩ : ∃ n, n = Q.length := ⟨_, rfl⟩
  rw [← hn] at hb hc1
  unfold maxLen at hc2
  have hcell : W.cell? ⟨g, 1 + t, none⟩ = some (.slice (some ⟨gb, off, none⟩) (n + 1) c) := by
    rw [h.box.cell, Nat.add_comm, List.getElem?_cons_succ, hb]
  have k0 := hcur 0 q rfl 0 (by omega)
  have k1 := hcur 0 q rfl 1 (by omega)
  have k2 := hcur 0 q rfl 2 (by omega)
  simp only [Sto.row, List.getElem?_cons_zero, List.getElem?_cons_succ, Nat.zero_mul, Nat.add_zero] at k0 k1 k2
  rw [← cell_of_row W gb _ cur _ _ hg] at k0 k1 k2
  obtain ⟨w, hw, hw1, hw8⟩ : ∃ w : Nat, q.w = w ∧ 1 ≤ w ∧ w ≤ 8 := by
    rcases Cq.isW_cases hq.1 with e | e | e | e <;> rw [e]
    · exact ⟨1, rfl, by omega, by omega⟩
    · exact ⟨2, rfl, by omega, by omega⟩
    · exact ⟨4, rfl, by omega, by omega⟩
    · exact ⟨8, rfl, by omega, by omega⟩
  have HP := Lib.hid (pend_any t g _ (n + 1) c W ht hcell)
  have HW := Lib.hid (write_any h q.a q.v w q.ha.1 (by have := hq.2; rw [hw] at this; exact this) hw8 q.hv)
  have hWd : Hid (wrF L q.a q.v q.w.toNat = wrF L q.a q.v w) := by rw [hw]; rfl
  rw [hw] at k1
  have HM := Lib.hid h
  have HCU := Lib.hid hcur
  have HG := Lib.hid hg
  have HBV := Lib.hid hb
  have HOB := Lib.hid hob
  have HN := Lib.hid hn
  clear h hob hcur hg hb hq hw hn
  go_enter Try.func22, Try.ntmps22
  go_wp2_with fail
  refine HP.out.mono ?_; rintro e w1 ⟨rfl, rfl⟩
  go_wp2_with fail
  refine HW.out.mono ?_
  rintro e w1 ⟨rfl, hM1, hC1⟩
  clear HP HW
  have hb1 := hM1.box
  have hgq : w1.heap[gb]? = some (.cells cur 77 (0, 0)) := (hC1.block gb (Array.getElem?_eq_some_iff.1 HG.out).1 (fun hs => HM.out.apart_q HG.out (.inr (.inr hs)))).trans HG.out
  have hcell1 : w1.cell? ⟨g, 1 + t, none⟩ = some (.slice (some ⟨gb, off, none⟩) (n + 1) c) := by
    rw [hb1.cell, Nat.add_comm, List.getElem?_cons_succ, HBV.out]
  have hfz1 := hb1.frozen (1 + t)
  have HM1 := Lib.hid hM1
  have HC1 := Lib.hid hC1
  have HQ1 := Lib.hid hgq
  clear hb1 hM1 hC1 hgq hcell k0 k1 k2
  have HR : Hid (∀ A2 c2, n ≤ c2 → c2 ≤ maxLen → (0 < c2 → A2 = some ⟨gb, off + 3, none⟩ ∧ c2 + 1 = c) → DqV B W g v bv L t ob q Q (.returned (.bool true)) (w1.setCell ⟨g, 1 + t, none⟩ (.slice A2 n c2)).drew) := by
    intro A2 c2 h1 h2 h3
    refine ⟨rfl, .slice A2 n c2, ?_, ?_, ?_, ?_⟩
    · rw [hWd.out]; exact (HM1.out.buf t _).kp (Kp.rfl _).draw
    · refine ⟨A2, c2, by rw [HN.out], by rw [← HN.out]; exact h1, h2, fun hp => ?_⟩
      have hgg : gb ≠ g := fun e => HM1.out.apart_q HQ1.out (.inl e)
      refine ⟨gb, off + 3, cur, (h3 hp).1, hB, (Below.heap_setCell w1 ⟨g, 1 + t, none⟩ _ gb hgg).trans HQ1.out, by have := (h3 hp).2; omega, fun i p hi k hk => ?_⟩
      have := HCU.out (i + 1) p (by simpa using hi) k hk
      rw [← this]
      congr 1
      omega
    · intro k hk
      rw [HOB.out, bblk_slice]
      rw [bblk_slice] at hk
      by_cases hz : c2 = 0
      · rw [hz] at hk; simp at hk
      · rw [(h3 (by omega)).1] at hk
        have hcz : c ≠ 0 := by omega
        simp [hz] at hk
        simp [hcz, hk]
    · exact ((HC1.out.mono (fun k _ hk => .inl hk)).setCell (p := ⟨g, 1 + t, none⟩) (fun _ => .inr rfl) _).drew
  go_wp2_with fail
  go_region
  all_goals go_wp2_with fail
  all_goals go_ret
  · exact HR.out _ 0 (by omega) (by unfold maxLen; omega) (fun hp => by omega)
  · exact HR.out _ (c - 1) (by omega) (by unfold maxLen; omega) (fun hp => ⟨rfl, by omega⟩)
end Go.Proofs.Ytlbkmdmnijmieaa
