/- Walks of layer 2: copies of a store's bytes. -/
import Derived.Test.YthakekgdllmbcaaDoorRopn
import Derived.Laws.IdiomCopy
namespace Go.Proofs.YthakekgdllmbcaaDoor
open Go.RowKit Rp

open Cq (U64 I64 isW)

/-- a slice of n bytes of its own -/
def Copy (W W' : World) (v : Value) (bs : List Int) : Prop :=
  ∃ g, v = .slice (some ⟨g, 0, none⟩) bs.length bs.length ∧ W.heap.size ≤ g ∧ Box W' g 5 (cellsOf bs) ∧ Below W.heap.size W W'
theorem made_box {W' : World} {g n e : Nat} {xs : List Value} (h : W'.ownsRow 0 e 1 (.slice (some ⟨g, 0, none⟩) n n) n xs) : Box W' g e xs := by
  rcases h.2 with ⟨h1, _⟩ | ⟨k, cap, cur, hv, _, hk, _, _, hs, ht⟩
  · cases h1
  · injection hv with h1 h2 h3
    injection h1 with h1
    injection h1 with h1
    subst h1 h3
    have hl := h.1
    have : cur.toList = xs := by
      rw [← ht]; exact (List.take_of_length_le (by simpa using Nat.le_of_eq hs)).symm
    unfold Box
    rw [hk, ← this]
def cut (bs : List Int) (a n : Nat) : List Int := (bs.drop a).take n
theorem own_cases {W : World} {B e : Nat} {v : Value} {bs : List Int} (h : W.ownsRow B e 1 v bs.length (cellsOf bs)) :
    (v = .slice none 0 0 ∧ bs = []) ∨ ∃ k c cs, v = .slice (some ⟨k, 0, none⟩) bs.length c ∧ bs.length ≤ c ∧ c ≤ maxLen ∧ Box W k e cs ∧ cs.length = c ∧ ∀ i, i < bs.length → cs[i]? = some (.int .u8 (bs.getD i 0)) := by
  rcases h.2 with ⟨rfl, h0⟩ | ⟨k, cap, cur, rfl, _, hk, h1, h2, h3, h4⟩
  · exact .inl ⟨rfl, List.eq_nil_of_length_eq_zero h0⟩
  · refine .inr ⟨k, cap, cur.toList, rfl, h1, h2, ?_, by simpa using h3, fun i hi => ?_⟩
    · unfold Box; rw [hk]
    · rw [← cellsOf_get bs i hi, ← h4, List.getElem?_take_of_lt (by omega)]
set_option maxRecDepth 100000 in
theorem clone_some (sb k c : Nat) (cs : List Value) (bs : List Int) (W : World) (hc : W.cell? ⟨sb, 0, none⟩ = some (.slice (some ⟨k, 0, none⟩) bs.length c))
    (hbx : Box W k 5 cs) (hcs : ∀ i, i < bs.length → cs[i]? = some (.int .u8 (bs.getD i 0))) (a n : Nat) (han : a + n ≤ bs.length) (hb : bs.length ≤ 1048576) (hca : a < c) :
    Calls Tryd.prog 18 #[.pointer (some ⟨sb, 0, none⟩), .int .i64 a, .int .i64 n] W fun e W' => ∃ v, e = .returned v ∧ Copy W W' v (cut bs a n) := by
  obtain ⟨i0, hi, hz0, hz1, hz2⟩ := info_parts infoU8
  have hsz : sb < W.heap.size := block_lt_of_cell (a := ⟨sb, 0, none⟩) hc
  have hlen : (cut bs a n).length = n := by unfold cut; rw [List.length_take, List.length_drop]; omega
  have hget : ∀ i, i < n → (cut bs a n).getD i 0 = bs.getD (a + i) 0 := by
    intro i hi; unfold cut
    rw [List.getD_eq_getElem?_getD, List.getD_eq_getElem?_getD, List.getElem?_take_of_lt hi, List.getElem?_drop]
  have HLEN := Lib.hid hlen
  have HGET := Lib.hid hget
  clear hlen hget
  go_enter Tryd.func18, Tryd.ntmps18
  go_wp2_with (refine wpList_make_full _ rfl _ _ 29 rfl 0 5 i0 (.int .u8 0) 1 Tryd.underlying29 hi hz0 hz1 .i64 .i64 n n n rfl rfl rfl rfl ?c1 ?c2 ?c3 ?_)
  case c1 => rw [hz2]; omega
  case c2 => unfold maxLen; omega
  case c3 => omega
  intro w1 hown hgrow
  have hc1 : w1.cell? ⟨sb, 0, none⟩ = some (.slice (some ⟨k, 0, none⟩) bs.length c) := (World.cell?_of_block (hgrow.block sb hsz (by simp))).trans hc
  obtain ⟨zs, hb1, hl1⟩ : ∃ zs : List Value, Box w1 W.heap.size 5 zs ∧ zs.length = n := ⟨_, made_box hown, by have := hown.1; omega⟩
  have HBOX := Lib.hid hb1
  have HLZ := Lib.hid hl1
  clear hb1 hl1
  have HSRC := Lib.hid (hbx.kept (hgrow.block k hbx.lt (by simp)))
  have HBEL : Hid (Below W.heap.size W w1) := (Below.refl _ W).grown hgrow (Nat.le_refl _) (fun _ h => by cases h)
  have HI := Lib.hid hi
  have HC := Lib.hid hc
  have HCS := Lib.hid hcs
  clear hown hgrow hi hz0 hz1 hz2 hc hsz hbx hcs
  generalize hg1 : W.heap.size = g1 at *
  have HG1 := Lib.hid hg1
  clear hg1
  obtain ⟨w2, hcp, hb2, hw2⟩ : ∃ w2, (Builtin.copy_ #[29, 29] 3 #[.slice (some ⟨g1, 0, none⟩) n n, .slice (some ⟨k, a, none⟩) (bs.length - a) (c - a)]).run Tryd.prog w1 = .ok (goInt n) w2
      ∧ Box w2 g1 5 (cellsOf (cut bs a n)) ∧ Below g1 W w2 := by
    have hl : (cellsOf (cut bs a n)).length = n := by rw [cellsOf_length]; exact HLEN.out
    have hz := HLZ.out
    have hrun := run_copy_row (P := Tryd.prog) w1 29 29 3 5 g1 0 n n ⟨k, a, none⟩ (bs.length - a) (c - a) _ 5 (cellsOf (cut bs a n)) Tryd.underlying29 (by kernel_rfl) HBOX.out (by rw [hl]; exact (Nat.min_eq_right (by omega)).symm)
      (by
        intro j u hu
        have hj : j < n := by have := (List.getElem?_eq_some_iff.1 hu).1; omega
        rw [cellsOf_get _ _ (by rw [HLEN.out]; exact hj), HGET.out j hj] at hu
        have hs := HSRC.out.cell (a + j)
        rw [HCS.out (a + j) (by omega), hu] at hs
        by_cases h0 : j = 0
        · subst h0; simpa [Addr.add] using hs
        · simpa [Addr.add, h0] using hs)
      (by rw [hl]; simpa using Nat.le_of_eq hz.symm) (by intro u hu; obtain ⟨x, _, rfl⟩ := List.mem_map.1 hu; rfl)
    rw [hl] at hrun
    refine ⟨_, hrun, ?_, below_setRow HBEL.out (Nat.le_refl _) _⟩
    have := setRow_heap w1 g1 _ (((zs.toArray.toList.take 0 ++ cellsOf (cut bs a n) ++ zs.toArray.toList.drop (0 + n))).toArray) _ _ HBOX.out
    unfold Box
    rw [this]
    have hd : zs.drop (0 + n) = [] := List.drop_eq_nil_of_le (by omega)
    simp only [List.take_zero, List.nil_append, hd, List.append_nil]
  have HFIN : Hid (Copy W w2 (.slice (some ⟨g1, 0, none⟩) n n) (cut bs a n)) := ⟨g1, by rw [HLEN.out], by have := HG1.out; omega, hb2, by rw [HG1.out]; exact hw2⟩
  clear hb2 hw2
  go_wp2_with fail
  go_ret
  exact ⟨_, rfl, HFIN.out⟩
set_option maxRecDepth 100000 in
theorem clone_none (sb : Nat) (A : Option Addr) (hA : A = none ∨ ∃ k, A = some ⟨k, 0, none⟩) (a : Nat) (W : World) (hc : W.cell? ⟨sb, 0, none⟩ = some (.slice A a a)) :
    Calls Tryd.prog 18 #[.pointer (some ⟨sb, 0, none⟩), .int .i64 a, .int .i64 0] W fun e W' => ∃ v, e = .returned v ∧ Copy W W' v [] := by
  obtain ⟨i0, hi, hz0, hz1, hz2⟩ := info_parts infoU8
  have hsz : sb < W.heap.size := block_lt_of_cell (a := ⟨sb, 0, none⟩) hc
  have e0 : (0 : Int) = ((0 : Nat) : Int) := rfl
  rw [e0]
  clear e0
  go_enter Tryd.func18, Tryd.ntmps18
  go_wp2_with (refine wpList_make_full _ rfl _ _ 29 rfl 0 5 i0 (.int .u8 0) 1 Tryd.underlying29 hi hz0 hz1 .i64 .i64 0 0 0 rfl rfl rfl rfl ?c1 ?c2 ?c3 ?_)
  case c1 => rw [hz2]; omega
  case c2 => unfold maxLen; omega
  case c3 => omega
  intro w1 hown hgrow
  have hc1 : w1.cell? ⟨sb, 0, none⟩ = some (.slice A a a) := (World.cell?_of_block (hgrow.block sb hsz (by simp))).trans hc
  have hbx := made_box hown
  rw [List.eq_nil_of_length_eq_zero hown.1] at hbx
  have HFIN : Hid (Copy W w1 (.slice (some ⟨W.heap.size, 0, none⟩) 0 0) []) :=
    ⟨W.heap.size, rfl, Nat.le_refl _, hbx, (Below.refl _ W).grown hgrow (Nat.le_refl _) (fun _ h => by cases h)⟩
  have HI := Lib.hid hi
  clear hown hgrow hbx hi hz0 hz1 hz2 hc hsz
  generalize W.heap.size = g1 at *
  have hcp : ∀ x : Option Addr, (Builtin.copy_ #[29, 29] 3 #[.slice (some ⟨g1, 0, none⟩) 0 0, .slice x 0 0]).run Tryd.prog w1 = .ok (goInt 0) w1 :=
    fun x => run_copy_none (P := Tryd.prog) w1 29 29 3 5 _ x 0 0 0 0 Tryd.underlying29 (by kernel_rfl) rfl
  rcases hA with rfl | ⟨k, rfl⟩
  · go_wp2_with fail
    go_ret
    exact ⟨_, rfl, HFIN.out⟩
  · go_wp2_with fail
    go_ret
    exact ⟨_, rfl, HFIN.out⟩
theorem cut_zero (bs : List Int) (a : Nat) : cut bs a 0 = [] := by simp [cut]
theorem cut_all (bs : List Int) : cut bs 0 bs.length = bs := by simp [cut]
theorem cut_length (bs : List Int) (a n : Nat) (h : a + n ≤ bs.length) : (cut bs a n).length = n := by unfold cut; rw [List.length_take, List.length_drop]; omega
theorem cut_get (bs : List Int) (a n i : Nat) (h : i < n) : (cut bs a n).getD i 0 = bs.getD (a + i) 0 := by
  unfold cut
  rw [List.getD_eq_getElem?_getD, List.getD_eq_getElem?_getD, List.getElem?_take_of_lt h, List.getElem?_drop]
theorem clone_any {B : Nat} {W : World} {sb t : Nat} {rest : List Value} {v : Value} {bs : List Int} (h : St B 5 W sb t rest v bs) (a n : Nat) (han : a + n ≤ bs.length) (hb : bs.length ≤ 1048576) :
    Calls Tryd.prog 18 #[.pointer (some ⟨sb, 0, none⟩), .int .i64 a, .int .i64 n] W fun e W' => ∃ v, e = .returned v ∧ Copy W W' v (cut bs a n) := by
  have hc := h.box.cell 0
  simp only [List.getElem?_cons_zero] at hc
  rcases own_cases h.own with ⟨rfl, rfl⟩ | ⟨k, c, cs, rfl, hnc, hcm, hbx, hl, hcs⟩
  · obtain rfl : a = 0 := by simp at han; omega
    obtain rfl : n = 0 := by simp at han; omega
    exact clone_none sb none (.inl rfl) 0 W hc
  · by_cases hca : a < c
    · exact clone_some sb k c cs bs W hc hbx hcs a n han hb hca
    · obtain rfl : n = 0 := by omega
      have e : bs.length = a := by omega
      have e2 : c = a := by omega
      rw [e, e2] at hc
      rw [cut_zero]
      exact clone_none sb (some ⟨k, 0, none⟩) (.inr ⟨k, rfl⟩) a W hc
/-- the length and the bytes -/
theorem len_any {B : Nat} {W : World} {sb t : Nat} {rest : List Value} {v : Value} {bs : List Int} (h : St B 5 W sb t rest v bs) :
    Calls Tryd.prog 17 #[.pointer (some ⟨sb, 0, none⟩)] W fun e W' => e = .returned (.int .i64 bs.length) ∧ W = W' := by
  obtain ⟨A, c, hv, _, _⟩ := own_form h.own
  have hc := h.box.cell 0
  simp only [List.getElem?_cons_zero] at hc
  rw [hv] at hc
  clear h hv
  go_enter Tryd.func17, Tryd.ntmps17
  go_wp2_with fail
  refine (stsize_any sb A bs.length c _ hc).mono ?_; rintro e w' ⟨rfl, rfl⟩
  go_wp2_with fail
  go_ret
  exact ⟨rfl, rfl⟩
theorem bytes_any {B : Nat} {W : World} {sb t : Nat} {rest : List Value} {v : Value} {bs : List Int} (h : St B 5 W sb t rest v bs) (hb : bs.length ≤ 1048576) :
    Calls Tryd.prog 8 #[.pointer (some ⟨sb, 0, none⟩)] W fun e W' => ∃ v, e = .returned v ∧ Copy W W' v bs := by
  obtain ⟨A, c, hv, _, _⟩ := own_form h.own
  have hc := h.box.cell 0
  simp only [List.getElem?_cons_zero] at hc
  rw [hv] at hc
  have hcl : ∀ wd : World, (∃ nd, wd = W.drewN nd) → Calls Tryd.prog 18 #[.pointer (some ⟨sb, 0, none⟩), .int .i64 0, .int .i64 bs.length] wd fun e W' => ∃ v, e = .returned v ∧ Copy W W' v bs := by
    rintro wd ⟨nd, rfl⟩
    have h' : St B 5 (W.drewN nd) sb t rest v bs := h.chg ((Chg.refl (fun _ => False) W).drewN nd) (fun _ _ a => a)
    have := clone_any h' 0 bs.length (by omega) hb
    rw [cut_all] at this
    exact this.mono fun e W' ⟨v, h1, g, h2, h3, h4, b⟩ => ⟨v, h1, g, h2, h3, h4, ⟨b.os, b.tape, b.output, b.size, b.block⟩⟩
  have HCL := Lib.hid hcl
  clear h hv hcl
  go_enter Tryd.func8, Tryd.ntmps8
  go_wp2_with fail
  go_region_with (first | (go_at_call 19; refine (stsize_any sb A bs.length c _ (by simpa using hc)).mono ?_; rintro e w' ⟨rfl, rfl⟩) | (go_at_call 18; refine (HCL.out _ ⟨1, rfl⟩).mono ?_; rintro e w' ⟨vv, rfl, hcp⟩))
  have HF := Lib.hid hcp
  clear hcp hc
  go_wp2_with fail
  go_ret
  exact ⟨_, rfl, HF.out⟩
end Go.Proofs.YthakekgdllmbcaaDoor
