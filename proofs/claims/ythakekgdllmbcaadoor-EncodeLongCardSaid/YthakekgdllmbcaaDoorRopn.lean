/- Walks of layer 2: numbers written behind a rope. -/
import Derived.Test.YthakekgdllmbcaaDoorRopo
import Derived.StillTailTactics
import Derived.Deep.RegionWith
import Derived.Test.YthakekgdllmbcaaDoorBitv
namespace Go.Proofs.YthakekgdllmbcaaDoor
open Go.RowKit Rp

open Cq (U64 I64 isW)

/-- the w lowest bytes of a word -/
def low (w : Nat) (v : Int) : List Int := (List.range w).map (by8 v)
def lows (w : Nat) (z : List Int) (k : Nat) : List Int := (z.take k).flatMap (low w)
theorem low_length (w : Nat) (v : Int) : (low w v).length = w := by simp [low]
theorem low_get (w : Nat) (v : Int) (i : Nat) (h : i < w) : (low w v).getD i 0 = by8 v i := by
  simp [low, List.getD_eq_getElem?_getD, h]
theorem oct_get (v : Int) (i : Nat) (h : i < 8) : (oct v)[i]? = some (.int .u8 (by8 v i)) := by
  have hk : i = 0 ∨ i = 1 ∨ i = 2 ∨ i = 3 ∨ i = 4 ∨ i = 5 ∨ i = 6 ∨ i = 7 := by omega
  rcases hk with rfl | rfl | rfl | rfl | rfl | rfl | rfl | rfl <;> rfl
theorem num_nil (w : Int) (l : Value) (W : World) : Calls Tryd.prog 37 #[.pointer none, .int .i64 w, l] W fun e W' => e = .returned (.int .i64 1) ∧ W = W' := by
  go_enter Tryd.func37, Tryd.ntmps37
  go_wp2_with fail
  go_ret
  exact ⟨rfl, rfl⟩
theorem num_arg (g : Nat) (w : Int) (h : isW w = false) (l : Value) (W : World) : Calls Tryd.prog 37 #[.pointer (some ⟨g, 0, none⟩), .int .i64 w, l] W fun e W' => e = .returned (.int .i64 2) ∧ W = W' := by
  go_enter Tryd.func37, Tryd.ntmps37
  go_wp2_with fail
  refine (is_any _ _).mono ?_; rintro e w' ⟨rfl, rfl⟩
  rw [h]
  go_wp2_with fail
  go_ret
  exact ⟨rfl, rfl⟩
theorem num_full (g : Nat) (A : Option Addr) (n c : Nat) (w : Nat) (h : isW w = true) (A2 : Option Addr) (m c2 : Nat) (W : World) (hc : W.cell? ⟨g, 0, none⟩ = some (.slice A n c)) (hn : n ≤ 1048576)
    (hf : (1048576 - n) / w < m) : Calls Tryd.prog 37 #[.pointer (some ⟨g, 0, none⟩), .int .i64 w, .slice A2 m c2] W fun e W' => e = .returned (.int .i64 4) ∧ W = W' := by
  have hw := Cq.isW_cases h
  have hw1 : 1 ≤ w ∧ w ≤ 8 := by omega
  have hf' : ((1048576 : Int) - n) / w < m := by
    have : (((1048576 - n) / w : Nat) : Int) = ((1048576 : Int) - n) / w := by
      rw [Int.natCast_ediv]; congr 1; omega
    omega
  clear hw
  go_enter Tryd.func37, Tryd.ntmps37
  go_wp2_with fail
  refine (is_any _ _).mono ?_; rintro e w' ⟨rfl, rfl⟩
  rw [h]
  go_wp2_with fail
  refine (room_any g A n c _ hc hn).mono ?_; rintro e w' ⟨rfl, rfl⟩
  go_wp2_with fail
  go_ret
  exact ⟨rfl, rfl⟩
theorem lows_succ (w : Nat) (z : List Int) (k : Nat) (h : k < z.length) : lows w z (k + 1) = lows w z k ++ low w (z.getD k 0) := by
  unfold lows
  rw [List.take_succ_eq_append_getElem h, List.flatMap_append, List.getD_eq_getElem?_getD, List.getElem?_eq_getElem h]
  simp
theorem lows_length (w : Nat) (z : List Int) (k : Nat) (h : k ≤ z.length) : (lows w z k).length = w * k := by
  induction k with
  | zero => simp [lows]
  | succ k ih => rw [lows_succ w z k (by omega), List.length_append, ih (by omega), low_length, Nat.mul_succ]
theorem slice8 (g w : Nat) (h : w = 1 ∨ w = 2 ∨ w = 4 ∨ w = 8) (W : World) :
    (Instr.sliceAt 86 (.pointer (some ⟨g, 0, none⟩)) none (some (.int .i64 (w : Int))) none).run Tryd.prog W = .ok (.slice (some ⟨g, 0, none⟩) w 8) W := by
  rcases h with rfl | rfl | rfl | rfl <;> kernel_rfl
set_option maxRecDepth 100000 in
theorem num_ok (B : Nat) (W : World) (g : Nat) (rest : List Value) (v : Value) (bs : List Int) (hst : St B 5 W g 59 rest v bs) (hB : B ≤ W.heap.size) (hbs : bs.length ≤ 1048576)
    (w : Nat) (h : isW w = true) (b2 off m c2 : Nat) (z : List Int) (hz : z.length = m) (hu : ∀ x ∈ z, U64 x) (hm : m ≤ (1048576 - bs.length) / w) (hws : Words W b2 off m z) (hb2 : b2 < W.heap.size) (hn2 : ¬ Mine g v b2) :
    Calls Tryd.prog 37 #[.pointer (some ⟨g, 0, none⟩), .int .i64 w, .slice (some ⟨b2, off, none⟩) m c2] W fun e W' => e = .returned (.int .i64 0) ∧
      Grew B 5 W W' g 59 rest v (bs ++ lows w z m) := by
  have hw := Cq.isW_cases h
  have hw1 : 1 ≤ w ∧ w ≤ 8 := by omega
  have hf' : (m : Int) ≤ ((1048576 : Int) - bs.length) / w := by
    have : (((1048576 - bs.length) / w : Nat) : Int) = ((1048576 : Int) - bs.length) / w := by
      rw [Int.natCast_ediv]; congr 1; omega
    omega
  have htot : w * m ≤ 1048576 - bs.length := by
    rw [Nat.le_div_iff_mul_le (by omega)] at hm; rw [Nat.mul_comm]; exact hm
  have hm20 : m ≤ 1048576 := by
    have := Nat.div_le_self (1048576 - bs.length) w; omega
  obtain ⟨A, c, hv, _, _⟩ := own_form hst.own
  have hc : W.cell? ⟨g, 0, none⟩ = some (.slice A bs.length c) := by
    have := hst.box.cell 0; rw [hv] at this; simpa using this
  have HG := Lib.hid (Grew.refl hst)
  have HS := Lib.hid hst
  have HV := Lib.hid hv
  have HT := Lib.hid htot
  have HZ := Lib.hid hz
  have HU := Lib.hid hu
  have hw4 : w = 1 ∨ w = 2 ∨ w = 4 ∨ w = 8 := by omega
  have HW := Lib.hid hw4
  clear hw hw4 hm hst hv htot hz hu
  go_enter Tryd.func37, Tryd.ntmps37
  go_wp2_with fail
  refine (is_any _ _).mono ?_; rintro e w' ⟨rfl, rfl⟩
  rw [h]
  go_wp2_with fail
  refine (room_any g A bs.length c _ hc hbs).mono ?_; rintro e w' ⟨rfl, rfl⟩
  clear hc
  go_wp2_with fail
  clear hf'
  go_loopw [8, 9, 29] (fun _ _ i wr => ∃ k : Nat, k ≤ m ∧ i = .int .i64 k ∧ Grew B 5 W wr g 59 rest v (bs ++ lows w z k)) (fun _ _ i _ => m - (intOf i).toNat)
  case atStart => exact ⟨0, by omega, rfl, by simpa [lows] using HG.out⟩
  case round =>
    obtain ⟨k, hk, rfl, hg⟩ := hrel
    by_cases hlt : k < m
    · obtain ⟨v1, st1, ch1, ow1⟩ := hg
      have hcell := (hws.chg ch1 hb2 hn2) k hlt
      have hux := Cq.getD_u64 HU.out k
      rw [List.getD_eq_getElem?_getD] at hux
      have S1 := Lib.hid st1
      have C1 := Lib.hid ch1
      have O1 := Lib.hid ow1
      clear st1 ch1 ow1
      go_wp2_with fail
      refine (octets_any _ hux _).mono ?_; rintro e w1 ⟨rfl, hb1⟩
      have HB1 := Lib.hid hb1; clear hb1 hcell
      have HF := Lib.hid (Box.fresh w1 86 [.int .u8 0, .int .u8 0, .int .u8 0, .int .u8 0, .int .u8 0, .int .u8 0, .int .u8 0, .int .u8 0])
      generalize hx : z[k]?.getD 0 = x at *
      have HX := Lib.hid hx; clear hx
      go_wp2_with (refine wpList_store_row rfl 86 _ _ rfl w1.heap.size (oct x).toArray rfl rfl 86 _ HF.out (by kernel_rfl) rfl (by kernel_rfl) ?_)
      have hb2 : Below w1.heap.size w1 ((w1.alloc (.cells #[.int .u8 0, .int .u8 0, .int .u8 0, .int .u8 0, .int .u8 0, .int .u8 0, .int .u8 0, .int .u8 0] 86)).setRow w1.heap.size (oct x).toArray) :=
        below_setRow ((Below.refl _ _).alloc (Nat.le_refl _) _) (Nat.le_refl _) _
      have hx2 : Box ((w1.alloc (.cells #[.int .u8 0, .int .u8 0, .int .u8 0, .int .u8 0, .int .u8 0, .int .u8 0, .int .u8 0, .int .u8 0] 86)).setRow w1.heap.size (oct x).toArray) w1.heap.size 86 (oct x) := setRow_heap _ _ _ _ _ _ HF.out
      generalize (w1.alloc (.cells #[.int .u8 0, .int .u8 0, .int .u8 0, .int .u8 0, .int .u8 0, .int .u8 0, .int .u8 0, .int .u8 0] 86)).setRow w1.heap.size (oct x).toArray = w2 at *
      have hlo : w1.heap.size ≤ w2.heap.size := hb2.size
      have hlt2 : w1.heap.size < w2.heap.size := hx2.lt
      generalize hg2 : w1.heap.size = g2 at *
      have HB2 := Lib.hid hb2
      have HX2 := Lib.hid hx2
      have HG2 := Lib.hid hg2
      clear hb2 hx2 hg2 HF
      go_wp2_with fail
      have hb3 : Below w1.heap.size w1 w2 := by have := HG2.out; rw [this]; exact HB2.out
      have hb4 : Below wr.heap.size wr w2 := below_trans HB1.out hb3
      have st2 : St B 5 w2.drew g 59 rest v1 (bs ++ lows w z k) := (S1.out.below hb4).chg ((Chg.refl (fun _ => False) w2).drew) (fun _ _ a => a)
      have ch2 : Chg (Mine g v1) wr w2.drew := (Chg.thenBelow (Chg.refl _ wr) hb4).drew
      have hadd : Calls Tryd.prog 20 #[.pointer (some ⟨g, 0, none⟩), .slice (some ⟨g2, 0, none⟩) w 8] w2.drew fun e W' => e = .returned (.tuple #[]) ∧ Grew B 5 w2.drew W' g 59 rest v1 (bs ++ lows w z k ++ low w x) := by
        have hl := lows_length w z k (by have := HZ.out; omega)
        refine add_some B w2.drew g 59 rest v1 (bs ++ lows w z k) st2 ?_ ⟨g2, 0, none⟩ w 8 (low w x) (low_length w x) ?_ ?_
        · have h1 := C1.out.size
          have h2 := hb4.size
          show B ≤ w2.heap.size
          omega
        · intro i hi
          have hci := HX2.out.cell i
          rw [oct_get x i (by omega)] at hci
          rw [low_get w x i hi]
          show w2.cell? _ = _
          by_cases h0 : i = 0
          · subst h0; simpa [Addr.add] using hci
          · simpa [Addr.add, h0] using hci
        · rw [List.length_append, hl]
          have : w * (k + 1) ≤ w * m := Nat.mul_le_mul_left _ hlt
          have := HT.out
          rw [Nat.mul_succ] at *; omega
      have ST2 := Lib.hid st2
      have CH2 := Lib.hid ch2
      clear hb3 hb4 st2 ch2
      have HA := Lib.hid hadd; clear hadd
      have hsl := slice8 g2 w HW.out
      go_region_with (go_at_call 20; refine HA.out.mono ?_; rintro e w3 ⟨rfl, hg3⟩)
      have hl := lows_succ w z k (by have := HZ.out; omega)
      rw [List.getD_eq_getElem?_getD, HX.out] at hl
      have hfin : Grew B 5 W w3 g 59 rest v (bs ++ lows w z (k + 1)) := by
        rw [hl, ← List.append_assoc]
        exact Grew.trans C1.out O1.out (Grew.trans CH2.out (fun _ a => .inl a) hg3)
      have HFIN := Lib.hid hfin
      clear hfin hg3 hl hsl
      go_wp2_with fail
      go_roundw
      case rel => exact ⟨k + 1, by omega, by go_num, HFIN.out⟩
      case measure => simp [intOf]; omega
    · have : k = m := by omega
      subst this
      have HE := Lib.hid hg
      clear hg
      go_wp2_with fail
      go_ret
      exact ⟨rfl, HE.out⟩
end Go.Proofs.YthakekgdllmbcaaDoor
