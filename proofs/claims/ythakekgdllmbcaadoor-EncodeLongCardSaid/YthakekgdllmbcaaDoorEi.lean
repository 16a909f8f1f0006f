/- Layer 7: Fix of Nops. -/
import Derived.Test.YthakekgdllmbcaaDoorEh
namespace Go.Proofs.YthakekgdllmbcaaDoor
open Go.RowKit Rp Go.Maps
open Cq (U64 I64 isW)
theorem nopV_parts (x : Int) : nopV x = (nopV 0).take 19 ++ [.int .i64 x] := rfl
theorem nopV_head (x : Int) (t : Nat) (ht : t < 19) : (nopV x)[t]? = (nopV 0)[t]? := by
  rw [nopV_parts x, List.getElem?_append_left (by show t < 19; omega), List.getElem?_take, if_pos ht]
theorem nopV_last (x : Int) : (nopV x)[19]? = some (.int .i64 x) := rfl
/-- A slice whose elements from k on are Nops. -/
def OutR (W : World) (ob n k : Nat) : Prop := ∃ cs, Box W ob 28 cs ∧ ∀ j t u, k ≤ j → j < n → (nopV 0)[t]? = some u → cs[j * 20 + t]? = some u
theorem OutR.cell {W : World} {ob n k : Nat} (h : OutR W ob n k) (hk : k < n) : W.cell? ⟨ob, k * 20 + 19, none⟩ = some (.int .i64 0) ∧ W.frozen? ⟨ob, k * 20 + 19, none⟩ = false := by
  obtain ⟨cs, hb, hc⟩ := h
  exact ⟨by rw [hb.cell]; exact hc k 19 _ (Nat.le_refl _) hk rfl, hb.frozen _⟩
theorem OutR.put {W : World} {ob n k : Nat} (h : OutR W ob n k) (hk : k < n) (x : Int) :
    OutR (W.setCell ⟨ob, k * 20 + 19, none⟩ (.int .i64 x)) ob n (k + 1) ∧ (W.setCell ⟨ob, k * 20 + 19, none⟩ (.int .i64 x)).rangeAt ob (k * 20) (nopV x) := by
  obtain ⟨cs, hb, hc⟩ := h
  have hb' := hb.put (k * 20 + 19) (.int .i64 x)
  have hlen : k * 20 + 19 < cs.length := (List.getElem?_eq_some_iff.1 (hc k 19 _ (Nat.le_refl _) hk rfl)).1
  have ht20 : ∀ (y : Int) (t : Nat) (u : Value), (nopV y)[t]? = some u → t < 20 := fun y t u hu => by
    have := (List.getElem?_eq_some_iff.1 hu).1
    rwa [nopV_len] at this
  refine ⟨⟨_, hb', fun j t u hj hjn hu => ?_⟩, fun t u hu => ?_⟩
  · have := ht20 0 t u hu
    rw [List.getElem?_set_ne (by omega)]
    exact hc j t u (by omega) hjn hu
  · have h20 := ht20 x t u hu
    rw [hb'.cell]
    by_cases e : t = 19
    · subst e
      rw [List.getElem?_set_self hlen]
      rw [nopV_last] at hu
      exact hu
    · rw [List.getElem?_set_ne (by omega)]
      rw [nopV_head x t (by omega)] at hu
      exact hc k t u (Nat.le_refl _) hk hu
theorem OutR.chg {S : Nat → Prop} {W W' : World} {ob n k : Nat} (h : OutR W ob n k) (c : Chg S W W') (hn : ¬ S ob) : OutR W' ob n k := by
  obtain ⟨cs, hb, hc⟩ := h
  exact ⟨cs, hb.chg c hn, hc⟩
/-- A start. -/
theorem Wr.start {B : Nat} {W : World} {wb g : Nat} {v : Value} {bs : List Int} {r c n : Nat} {xs : List Value} (h : Wr B W wb g v bs (.slice (some ⟨r, 0, none⟩) n c) n xs) (hx : ∀ x ∈ xs, ∃ i : Nat, x = .int .i64 i ∧ i ≤ 4096) (k : Nat) (hk : k < n) :
    ∃ i : Nat, W.cell? ⟨r, k, none⟩ = some (.int .i64 i) ∧ i ≤ 4096 := by
  have hl : xs.length = n := by have := h.own.1; omega
  obtain ⟨i, hi, hi2⟩ := hx (xs[k]'(by omega)) (List.getElem_mem _)
  have := h.own.cells (g := r) rfl k (xs[k]'(by omega)) (List.getElem?_eq_getElem (by omega))
  have ea : (⟨r, 0, none⟩ : Addr).add k = ⟨r, k, none⟩ := by
    unfold Addr.add
    split
    · rename_i h0; rw [h0]
    · simp
  rw [ea, hi] at this
  exact ⟨i, this, hi2⟩
/-- Fix's state behind k instructions. -/
def FixR (W : World) (wb g : Nat) (v : Value) (bs : List Int) (r c : Nat) (xs : List Value) (ob n k : Nat) (w : World) : Prop :=
  Wr W.heap.size w wb g v bs (.slice (some ⟨r, 0, none⟩) (n + 1) c) (n + 1) xs ∧ OutR w ob n k ∧ Below W.heap.size W w
set_option maxHeartbeats 4000000 in
set_option maxRecDepth 100000 in
theorem fix_ok (W : World) (hT : TabsA W) (hW2 : 2 ≤ W.heap.size) (lb n c : Nat) (hn : n ≤ 4096) (h0 : 0 < n) (hlb : lb < W.heap.size) (hN : NopsAt W lb n) :
    Calls Tryd.prog 5 #[.slice (some ⟨lb, 0, none⟩) n c] W fun e W' => (∃ o, e = .returned (.tuple #[o, .int .i64 0])) ∧ Below W.heap.size W W' := by
  have HW := Lib.hid (write_ok W hT hW2 lb n c hn hlb hN)
  have HN := Lib.hid hN
  clear hT hN
  go_enter Tryd.func5, Tryd.ntmps5
  go_wp2_with fail
  refine HW.out.mono ?_
  rintro e w1 ⟨wb, g, v, bs, sv, xs, rfl, hw, hbs, hb, hxs⟩
  obtain ⟨r, cap, hsv⟩ : ∃ r cap, sv = .slice (some ⟨r, 0, none⟩) (n + 1) cap := by
    rcases hw.own.2 with ⟨_, h⟩ | ⟨r, cap, cur, rfl, _⟩
    · omega
    · exact ⟨r, cap, rfl⟩
  subst hsv
  have H1 := Lib.hid (show Wr W.heap.size w1 wb g v bs (.slice (some ⟨r, 0, none⟩) (n + 1) cap) (n + 1) xs ∧ Below W.heap.size W w1 ∧ ∀ x ∈ xs, ∃ i : Nat, x = .int .i64 i ∧ i ≤ 4096 from ⟨hw, hb, hxs⟩)
  have HN1 : Hid (NopsAt w1 lb n ∧ lb < w1.heap.size) := ⟨HN.out.kept (hb.block lb hlb), Nat.lt_of_lt_of_le hlb hb.size⟩
  clear hw hb hxs hbs
  go_wp2_with fail
  refine (clone_ok w1 lb n c hn h0 HN1.out.2 HN1.out.1).mono ?_
  rintro e w2 ⟨ob, oc, cur, rfl, hob, hk2, hcur, hb2⟩
  have HS : Hid (FixR W wb g v bs r cap xs ob n 0 w2) := by
    obtain ⟨h1, h2, h3⟩ := H1.out
    refine ⟨h1.below hb2, ⟨cur.toList, by unfold Box; simpa using hk2, fun j t u _ hj hu => by simpa using hcur j t u hj hu⟩, h2.trans (hb2.mono h2.size)⟩
  have HO : Hid (∀ q, MineW wb g v (.slice (some ⟨r, 0, none⟩) (n + 1) cap) q → q ≠ ob) := fun q hq e => by
    have := (H1.out.1.lt q hq).2
    omega
  have HOW : Hid (W.heap.size ≤ ob) := Nat.le_trans H1.out.2.1.size hob
  have HX : Hid (∀ x ∈ xs, ∃ i : Nat, x = .int .i64 i ∧ i ≤ 4096) := H1.out.2.2
  clear hob hk2 hcur hb2
  go_wp2_with fail
  go_loopw [7, 8, 9, 22] (fun _ _ _ i wr => ∃ k : Nat, k ≤ n ∧ i = .int .i64 k ∧ FixR W wb g v bs r cap xs ob n k wr) (fun _ _ _ i _ => n - (intOf i).toNat)
  case atStart => exact ⟨0, Nat.zero_le _, rfl, HS.out⟩
  case round =>
    obtain ⟨k, hk, rfl, hR⟩ := hrel
    have HR := Lib.hid hR
    have c0 := hR.1.box.cell 0
    have c1 := hR.1.box.cell 1
    simp only [List.getElem?_cons_zero, List.getElem?_cons_succ] at c0 c1
    by_cases hlt : k < n
    · obtain ⟨i1, hi1, hi1b⟩ := hR.1.start HX.out k (by omega)
      obtain ⟨i2, hi2, hi2b⟩ := hR.1.start HX.out (k + 1) (by omega)
      obtain ⟨o1, o2⟩ := hR.2.1.cell hlt
      clear hR
      go_upto_region 8 with fail
      go_region
      go_upto_region 10 with fail
      obtain ⟨w3, hw3⟩ : ∃ w3, w3 = (wr.setCell ⟨ob, k * 20 + 19, none⟩ (.int .i64 ((i2 : Int) - i1))).drew := ⟨_, rfl⟩
      rw [← hw3]
      have hc3 : Chg (fun q => q = ob) wr w3 := by
        rw [hw3]
        exact ((Chg.refl (fun q => q = ob) wr).setCell (p := ⟨ob, k * 20 + 19, none⟩) (fun _ => rfl) _).drew
      obtain ⟨p1, p2⟩ := HR.out.2.1.put hlt ((i2 : Int) - i1)
      have HF3 : Hid (FixR W wb g v bs r cap xs ob n (k + 1) w3) := by
        refine ⟨HR.out.1.chg hc3 HO.out, ?_, below_chg HR.out.2.2 hc3 HR.out.2.2.size (fun q hq e => by have := HOW.out; omega)⟩
        rw [hw3]
        exact p1.chg (Chg.refl (fun _ => False) _).drew (fun h => h)
      have HRA : Hid (w3.rangeAt ob (k * 20) (nopV ((i2 : Int) - i1))) := by
        rw [hw3]
        exact p2
      have HBD : Hid (-9223372036854775808 ≤ (i2 : Int) - i1 ∧ (i2 : Int) - i1 ≤ 9223372036854775807) := ⟨by omega, by omega⟩
      clear hw3 hc3 p1 p2 hi1 hi2 o1 o2 c0 c1
      go_wp2_with (refine wpList_load_mid (by rfl) 28 _ rfl ob (k * 20) rfl (nopV ((i2 : Int) - i1)) _ HRA.out Tryd.underlying28 rfl (by kernel_rfl) ?_)
      refine (jumps_nop _ _ HBD.out).mono ?_
      rintro e w4 ⟨rfl, hb4⟩
      have HF4 : Hid (FixR W wb g v bs r cap xs ob n (k + 1) w4) := by
        obtain ⟨q1, q2, q3⟩ := HF3.out
        obtain ⟨cs, hbx, _⟩ := id q2
        exact ⟨q1.below hb4, q2.chg (Chg.ofBelow (S := fun q => w3.heap.size ≤ q) hb4 (fun _ _ a => a)) (fun a => by have := hbx.lt; omega), q3.trans (hb4.mono q3.size)⟩
      clear hb4
      go_wp2_with fail
      go_roundw
      case rel => exact ⟨k + 1, by omega, by go_num, HF4.out⟩
      case measure => simp [intOf]; omega
    · obtain rfl : k = n := by omega
      clear hR
      go_wp2_with fail
      go_ret2
      exact ⟨⟨_, rfl⟩, HR.out.2.2⟩
end Go.Proofs.YthakekgdllmbcaaDoor
