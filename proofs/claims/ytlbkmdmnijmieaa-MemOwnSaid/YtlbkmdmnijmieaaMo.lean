/- Layer 9 (memory): Store, of the code. -/
import Derived.Test.YtlbkmdmnijmieaaMn
import Derived.Deep.RegionLaw
namespace Go.Proofs.Ytlbkmdmnijmieaa
open Go Go.RowKit Rp Go.Maps
open Cq (U64 I64 isW nb mask)

theorem infoSto : (Try.prog.info? 77).map (fun i => (i.zero, i.size, i.bytes)) = some (some (.agg #[.int .u64 0, .int .i64 0, .int .u64 0]), 3, 24) := by kernel_rfl
theorem store_no {B g : Nat} {v : Value} {bv : List Value} {L : List Ar} {W : World} (h : MS B W g v bv L) (t x w sv : Int) (hx : U64 x) (hm : mayB L t x w true = false) :
    Calls Try.prog 19 #[.pointer (some ⟨g, 0, none⟩), .int .i64 t, .int .u64 x, .int .i64 w, .int .u64 sv] W fun e W' => e = .returned (.bool false) ∧ Kp W W' := by
  obtain ⟨ga, c, hr⟩ := h.rd
  have H := Lib.hid (may_any g ga c L t x w true W hr hx)
  rw [hm] at H
  clear hm hr h hx
  go_enter Try.func19, Try.ntmps19
  go_wp2_with fail
  refine H.out.mono ?_; rintro e w1 ⟨rfl, hk⟩
  go_wp2_with fail
  go_ret
  exact ⟨rfl, hk⟩
def StV (B : Nat) (W : World) (g : Nat) (v : Value) (bv : List Value) (L : List Ar) (t : Nat) (b : Value) (q : Sto) (Q : List Sto) (e : Ending) (W' : World) : Prop :=
  e = .returned (.bool true) ∧ ∃ b', MS B W' g v (bv.set t b') L ∧ W'.ownsRow B 77 3 b' (Q.length + 1) (stos (Q ++ [q])) ∧ Chg (fun k => k = g ∨ b.ownBlock = some k) W W'
set_option maxRecDepth 100000 in
set_option maxHeartbeats 4000000 in
theorem store_any {B g : Nat} {v : Value} {bv : List Value} {L : List Ar} {W : World} (h : MS B W g v bv L) (t : Nat) (ht : t < 8) (b : Value) (hb : bv[t]? = some b) (q : Sto) (Q : List Sto) (hQ : W.ownsRow B 77 3 b Q.length (stos Q)) (hl : Q.length < 1000)
    (hm : mayB L t q.a q.w true = true) :
    Calls Try.prog 19 #[.pointer (some ⟨g, 0, none⟩), .int .i64 t, .int .u64 q.a, .int .i64 q.w, .int .u64 q.v] W (StV B W g v bv L t b q Q) := by
  obtain ⟨ga, c, hr⟩ := h.rd
  obtain ⟨i0, hi0, hz0, hz1, hz2⟩ := info_parts infoSto
  have H := Lib.hid (may_any g ga c L t q.a q.w true W hr q.ha)
  rw [hm] at H
  obtain ⟨n, hn⟩ : ∃ n, n = Q.length := ⟨_, rfl⟩
  rw [← hn] at hQ hl
  have HN := Lib.hid hn
  have HL := Lib.hid hl
  have hd : decide ((65536 : Int) ≤ (n : Int)) = false := decide_eq_false (by omega)
  have HM := Lib.hid h
  have HQ := Lib.hid hQ
  have HBV := Lib.hid hb
  clear hm hr h hQ hb hn hl
  obtain ⟨A, cb, hbv⟩ : ∃ A cb, b = .slice A n cb := by
    rcases HQ.out.2 with ⟨e, h0⟩ | ⟨_, _, _, e, _⟩
    · exact ⟨none, 0, by rw [e, h0]⟩
    · exact ⟨_, _, e⟩
  subst hbv
  go_enter Try.func19, Try.ntmps19
  go_wp2_with fail
  refine H.out.mono ?_; rintro e w1 ⟨rfl, hk⟩
  have HM1 := Lib.hid (HM.out.kp hk)
  have HQ1 := Lib.hid (own_kp HQ.out hk)
  have HK1 := Lib.hid hk
  have hcell : w1.cell? ⟨g, 1 + t, none⟩ = some (.slice A n cb) := by
    rw [HM1.out.box.cell, Nat.add_comm, List.getElem?_cons_succ, HBV.out]
  have hfz := HM1.out.box.frozen (1 + t)
  have hgw := HM1.out.box.lt
  have hbg : Hid ((Value.slice A n cb).ownBlock ≠ some g) := fun e => by
    obtain ⟨_, _, cc, hc⟩ := row_block HQ1.out e
    have := HM1.out.box
    unfold Box at this
    rw [this] at hc
    simp at hc
  have HBW : Hid (B ≤ w1.heap.size) := Nat.le_trans HM1.out.low (Nat.le_of_lt hgw)
  clear hk H
  go_wp2_with fail
  have z0 : ∀ o, (w1.alloc o).cell? ⟨g, 1 + t, none⟩ = some (.slice A n cb) := fun o => (((Kp.rfl w1).new o).cell (p := ⟨g, 1 + t, none⟩) hgw).trans hcell
  have HF : Hid (∀ o, (w1.alloc o).frozen? ⟨g, 1 + t, none⟩ = false) := fun o => (((Kp.rfl w1).new o).frozen (p := ⟨g, 1 + t, none⟩) hgw).trans hfz
  have ht8 : (t : Int) < 8 := by omega
  go_region_law
    ((refine step_append_lies _ (by rfl) _ _ _ (by rfl) B 77 i0 _ 3 24 Try.underlying68 hi0 hz0 hz1 hz2 rfl (by omega) (.slice A n cb) n (stos Q) (by rfl) (own_kp HQ1.out (((Kp.rfl w1).new _).draw))
        ⟨w1.heap.size, 0, none⟩ 1 1 [.int .u64 q.a, .int .i64 q.w, .int .u64 q.v] (by rfl) (by rfl) (World.news_of_block (cs := #[.int .u64 q.a, .int .i64 q.w, .int .u64 q.v]) (t := 77) (fr := (0, 0)) (heap_alloc_new w1 _)) (by simp [Value.oneCell'])
        (by omega) (by have := HL.out; unfold maxLen; omega) (by have := HL.out; omega) (by have := HBW.out; simp; omega) (w1.heap.size + 1) (by simp) ?_; intro gg cap w5 hown5 hgrow5 hat5 hlt5; have x0 : w5.cell? ⟨g, 1 + t, none⟩ = some (.slice A n cb) := (hgrow5.cell_far ⟨g, 1 + t, none⟩ (by simp; omega) (Ne.symm hbg.out)).trans (z0 _); have x1 : w5.frozen? ⟨g, 1 + t, none⟩ = false := (hgrow5.frozen_far ⟨g, 1 + t, none⟩ (by simp; omega) (Ne.symm hbg.out)).trans (HF.out _)))
  all_goals
    have HR : Hid (StV B W g v bv L t (.slice A n cb) q Q (.returned (.bool true)) (w5.setCell ⟨g, 1 + t, none⟩ (.slice (some ⟨gg, 0, none⟩) (n + 1) cap))) := by
      have HMa := (HM1.out.kp ((Kp.rfl w1).new (.cells #[.int .u64 q.a, .int .i64 q.w, .int .u64 q.v] 77))).kp (Kp.rfl _).draw
      have hqa := own_kp HQ1.out (((Kp.rfl w1).new (.cells #[.int .u64 q.a, .int .i64 q.w, .int .u64 q.v] 77)).draw)
      have HM5 := HMa.keep (W' := w5) fun k hk => hgrow5.block k (HMa.lt hk).2 (fun e => by
        obtain ⟨_, _, cc, hc⟩ := row_block hqa e.symm
        exact HMa.apart_q hc hk)
      refine ⟨rfl, .slice (some ⟨gg, 0, none⟩) (n + 1) cap, HM5.buf t _, ?_, ?_⟩
      · rw [stos_snoc, ← HN.out]
        refine own_keep hown5 fun k _ e => Below.heap_setCell w5 ⟨g, 1 + t, none⟩ _ k (fun e' => ?_)
        simp [Value.ownBlock] at e
        rcases hat5 with h | h
        · exact hbg.out (h.trans (by rw [e, e']))
        · simp at e'
          omega
      · exact (((((Chg.refl _ W).thenBelow HK1.out).alloc _).drew).grown hgrow5 (fun k e _ => .inr e)).setCell (p := ⟨g, 1 + t, none⟩) (fun _ => .inl rfl) _
    clear z0 x0 x1 hgrow5 hown5 hat5 hlt5 hcell hfz
    go_wp2_with fail
    go_ret
    exact HR.out
end Go.Proofs.Ytlbkmdmnijmieaa
