/- Layer 9 (memory): a store reaches memory, of the code. -/
import Derived.Test.YtlbkmdmnijmieaaMk
import Derived.IntWalk
import Derived.Deep.RegionHeld3
namespace Go.Proofs.Ytlbkmdmnijmieaa
open Go Go.RowKit Rp Go.Maps
open Cq (U64 I64 isW nb mask)

def WrV (B : Nat) (W : World) (g : Nat) (v : Value) (bv : List Value) (L : List Ar) (at' sv : Int) (n : Nat) (W' : World) : Prop :=
  MS B W' g v bv (wrF L at' sv n) ∧ Chg (DBlk L) W W'
def Kc6 (w : World) (b c : Nat) (v0 v1 v2 v3 u0 u2 : Value) : Prop := w.cell? ⟨b, 0, none⟩ = some v0 ∧ w.cell? ⟨b, 1, none⟩ = some v1 ∧ w.cell? ⟨b, 2, none⟩ = some v2 ∧ w.cell? ⟨b, 3, none⟩ = some v3 ∧ w.cell? ⟨c, 0, none⟩ = some u0 ∧ w.cell? ⟨c, 2, none⟩ = some u2
theorem keep6_alloc (w : World) (b c : Nat) (v0 v1 v2 v3 u0 u2 : Value) (hb : b < w.heap.size) (hc : c < w.heap.size) (h : Kc6 w b c v0 v1 v2 v3 u0 u2) (o : Obj) : Kc6 (w.alloc o) b c v0 v1 v2 v3 u0 u2 := by
  have k : Kp w (w.alloc o) := (Kp.rfl w).new o
  exact ⟨(k.cell (p := ⟨b, 0, none⟩) hb).trans h.1, (k.cell (p := ⟨b, 1, none⟩) hb).trans h.2.1, (k.cell (p := ⟨b, 2, none⟩) hb).trans h.2.2.1, (k.cell (p := ⟨b, 3, none⟩) hb).trans h.2.2.2.1, (k.cell (p := ⟨c, 0, none⟩) hc).trans h.2.2.2.2.1, (k.cell (p := ⟨c, 2, none⟩) hc).trans h.2.2.2.2.2⟩
theorem keep6_set (w : World) (b c g j : Nat) (u : Value) (v0 v1 v2 v3 u0 u2 : Value) (hb : b ≠ g) (hc : c ≠ g) (h : Kc6 w b c v0 v1 v2 v3 u0 u2) : Kc6 (w.setCell ⟨g, j, none⟩ u) b c v0 v1 v2 v3 u0 u2 := by
  have kb := Below.heap_setCell w ⟨g, j, none⟩ u b hb
  have kc := Below.heap_setCell w ⟨g, j, none⟩ u c hc
  exact ⟨(World.cell?_of_block kb).trans h.1, (World.cell?_of_block kb).trans h.2.1, (World.cell?_of_block kb).trans h.2.2.1, (World.cell?_of_block kb).trans h.2.2.2.1, (World.cell?_of_block kc).trans h.2.2.2.2.1, (World.cell?_of_block kc).trans h.2.2.2.2.2⟩
set_option maxRecDepth 100000 in
set_option maxHeartbeats 4000000 in
theorem write_any {B g : Nat} {v : Value} {bv : List Value} {L : List Ar} {W : World} (h : MS B W g v bv L) (at' sv : Int) (n : Nat) (hx : 0 ≤ at') (hxn : at' + n ≤ 18446744073709551616) (hn8 : n ≤ 8) (hv : U64 sv) :
    Calls Try.prog 47 #[.pointer (some ⟨g, 0, none⟩), .agg #[.int .u64 at', .int .i64 n, .int .u64 sv]] W fun e W' => e = .returned (.tuple #[]) ∧ WrV B W g v bv L at' sv n W' := by
  have hv0 := hv.1
  have hv1 := hv.2
  have HS : Hid (∃ (W1 : World), W1 = W.alloc (.cells #[.int .u64 at', .int .i64 n, .int .u64 sv] 77) ∧ W1.heap[W.heap.size]? = some (.cells #[.int .u64 at', .int .i64 n, .int .u64 sv] 77 (0, 0)) ∧ WrV B W g v bv L at' sv 0 W1) :=
    ⟨_, rfl, heap_alloc_new W _, h.kp ((Kp.rfl W).new _), (Chg.refl _ W).alloc _⟩
  have hBW : B ≤ W.heap.size := Nat.le_trans h.low (Nat.le_of_lt h.box.lt)
  have hgw := h.box.lt
  have HDW : Hid (∀ k, DBlk L k → k < W.heap.size) := fun k ⟨a, ha, e⟩ => (row_block (h.dat a ha).1 e).2.1
  clear h hv
  go_enter Try.func47, Try.ntmps47
  go_wp2_with fail
  obtain ⟨w1, hw1, hb1, hr1⟩ := HS.out
  rw [← hw1]
  have HB1 := Lib.hid hb1
  have HR1 := Lib.hid hr1
  clear hw1 hb1 hr1 HS
  go_loopw [10] (fun i w => ∃ k : Nat, k ≤ n ∧ i = .int .u64 k ∧ WrV B W g v bv L at' sv k w ∧ w.heap[W.heap.size]? = some (.cells #[.int .u64 at', .int .i64 n, .int .u64 sv] 77 (0, 0))) (fun i _ => n - (intOf i).toNat)
  case atStart => exact ⟨0, Nat.zero_le _, rfl, HR1.out, HB1.out⟩
  case round =>
    obtain ⟨k, hk, rfl, ⟨hM, hC⟩, hb⟩ := hrel
    have HM := Lib.hid hM
    have HC := Lib.hid hC
    have HB := Lib.hid hb
    have s0 := cell_of_row wr W.heap.size 0 _ _ _ hb
    have s1 := cell_of_row wr W.heap.size 1 _ _ _ hb
    have s2 := cell_of_row wr W.heap.size 2 _ _ _ hb
    simp at s0 s1 s2
    clear hM hC hb
    by_cases hlt : k < n
    · obtain ⟨ga, cc, hrd⟩ := HM.out.rd
      cases hf : findA (wrF L at' sv k) (at' + k) with
      | none =>
        have HF := Lib.hid (find_no hrd hf)
        have HE : Hid (wrF L at' sv (k + 1) = wrF L at' sv k) := setB_none _ _ _ hf
        clear hrd hf
        go_wp2_with fail
        refine HF.out.mono ?_
        rintro e w2 ⟨rfl, hk2⟩
        have HB2 : Hid (w2.heap[W.heap.size]? = some (.cells #[.int .u64 at', .int .i64 n, .int .u64 sv] 77 (0, 0))) := (hk2.block _ (Array.getElem?_eq_some_iff.1 HB.out).1).trans HB.out
        have HK2 := Lib.hid hk2
        clear hk2
        go_wp2_with fail
        go_roundw
        case rel => exact ⟨k + 1, by omega, by go_num, ⟨by rw [HE.out]; exact HM.out.kp (HK2.out.new _), HC.out.thenBelow (HK2.out.new _)⟩, by rw [Below.heap_alloc _ _ _ (Array.getElem?_eq_some_iff.1 HB2.out).1]; exact HB2.out⟩
        case measure => simp [intOf]; omega
      | some a =>
        have HF := Lib.hid (find_yes hrd hf)
        have hat := HM.out.at hf
        obtain ⟨j, gb, hj, hjn, hA, hD, hcb, hfb, hgb, hBg⟩ := hat
        have hb8 : 0 ≤ sv / 2 ^ (8 * k) % 256 ∧ sv / 2 ^ (8 * k) % 256 ≤ 255 := by omega
        rw [hA] at HF
        go_wp2_with fail
        refine HF.out.mono ?_
        rintro e w2 ⟨rfl, hk2⟩
        go_wp2_with fail
        have hbl := (Array.getElem?_eq_some_iff.1 HB.out).1
        have hsz2 := hk2.size
        have HB2 : Hid (w2.heap[W.heap.size]? = some (.cells #[.int .u64 at', .int .i64 n, .int .u64 sv] 77 (0, 0))) := (hk2.block _ hbl).trans HB.out
        have q0 : w2.cell? ⟨gb, j, none⟩ = some (.int .u8 (a.byte (at' + k))) := (hk2.cell (p := ⟨gb, j, none⟩) hgb).trans hcb
        have q1 : w2.frozen? ⟨gb, j, none⟩ = false := (hk2.frozen (p := ⟨gb, j, none⟩) hgb).trans hfb
        have HM2 := Lib.hid (HM.out.kp hk2)
        have HC2 := Lib.hid (HC.out.thenBelow hk2)
        clear hk2 hcb hfb s0 s1 s2
        obtain ⟨w3, hw3⟩ : ∃ w3, w3 = w2.alloc (.cells #[.int .u64 a.lo, .slice (some ⟨gb, 0, none⟩) a.n a.c, .bool a.wr, .bool a.pv, .int .i64 a.ow] 73) := ⟨_, rfl⟩
        rw [← hw3]
        have hk3 : Kp w2 w3 := by rw [hw3]; exact (Kp.rfl w2).new _
        have hsz3 : w3.heap.size = w2.heap.size + 1 := by rw [hw3]; simp
        have hl3 : w3.heap[w2.heap.size]? = some (.cells #[.int .u64 a.lo, .slice (some ⟨gb, 0, none⟩) a.n a.c, .bool a.wr, .bool a.pv, .int .i64 a.ow] 73 (0, 0)) := by rw [hw3]; exact heap_alloc_new w2 _
        have HB3 : Hid (w3.heap[W.heap.size]? = some (.cells #[.int .u64 at', .int .i64 n, .int .u64 sv] 77 (0, 0))) := (hk3.block _ (by omega)).trans HB2.out
        have s0 := cell_of_row w3 W.heap.size 0 _ _ _ HB3.out
        have s2 := cell_of_row w3 W.heap.size 2 _ _ _ HB3.out
        have r0 := cell_of_row w3 w2.heap.size 0 _ _ _ hl3
        have r1 := cell_of_row w3 w2.heap.size 1 _ _ _ hl3
        have r2 := cell_of_row w3 w2.heap.size 2 _ _ _ hl3
        have r3 := cell_of_row w3 w2.heap.size 3 _ _ _ hl3
        simp at s0 s2 r0 r1 r2 r3
        have q0 : w3.cell? ⟨gb, j, none⟩ = some (.int .u8 (a.byte (at' + k))) := (hk3.cell (p := ⟨gb, j, none⟩) (show gb < _ by omega)).trans q0
        have q1 : w3.frozen? ⟨gb, j, none⟩ = false := (hk3.frozen (p := ⟨gb, j, none⟩) (show gb < _ by omega)).trans q1
        have HM3 := Lib.hid (HM2.out.kp hk3)
        have HC3 := Lib.hid (HC2.out.thenBelow hk3)
        have hgbW : gb < W.heap.size := HDW.out gb ((dblk_iff (wrF_val L at' sv k) gb).1 hD)
        have HN := Lib.hid (show IntKind.u64.wrap (at' + k - a.lo) = j ∧ j < a.n from ⟨hj, hjn⟩)
        have HP := Lib.hid (fun w => place_any a.lo (at' + k) gb 0 j a.n a.c a.wr a.pv hj hjn w)
        have HA := Lib.hid hA
        have HD := Lib.hid hD
        have HFa := Lib.hid hf
        have n1 : ¬ gb = W.heap.size := by omega
        have n2 : ¬ gb = w2.heap.size := by omega
        have n3 : ¬ gb = w3.heap.size := by omega
        have n4 : ¬ W.heap.size = w3.heap.size := by omega
        have n5 : ¬ w2.heap.size = w3.heap.size := by omega
        have HS0 := Lib.hid (show Kc6 w3 w2.heap.size W.heap.size _ _ _ _ _ _ from ⟨r0, r1, r2, r3, s0, s2⟩)
        have HS1 := Lib.hid (keep6_alloc w3 w2.heap.size W.heap.size _ _ _ _ _ _ (by omega) (by omega) HS0.out)
        have HS2 := Lib.hid (fun o u => keep6_set (w3.alloc o) w2.heap.size W.heap.size gb j u _ _ _ _ _ _ (by omega) (by omega) (HS1.out o))
        clear hw3 hk3 hl3 hrd hf hA hD hj hjn HB HB2 HM HC HM2 HC2 HF
        have z0 : ∀ o, (w3.alloc o).cell? ⟨gb, j, none⟩ = some (.int .u8 (a.byte (at' + k))) := fun o => (((Kp.rfl w3).new o).cell (p := ⟨gb, j, none⟩) (show gb < _ by omega)).trans q0
        have z1 : ∀ o, (w3.alloc o).frozen? ⟨gb, j, none⟩ = false := fun o => (((Kp.rfl w3).new o).frozen (p := ⟨gb, j, none⟩) (show gb < _ by omega)).trans q1
        clear q0 q1
        have hsum : IntKind.u64.wrap (at' + k) = at' + k := Cq.wrap_of_u64 ⟨by omega, by omega⟩
        have hmul : IntKind.u64.wrap (8 * (k : Int)) = 8 * (k : Int) := Cq.wrap_of_u64 ⟨by omega, by omega⟩
        go_region_held3 (fun w' => w'.cell? ⟨w2.heap.size, 0, none⟩ = some (.int .u64 a.lo) ∧ w'.cell? ⟨w2.heap.size, 1, none⟩ = some (.slice (some ⟨gb, 0, none⟩) a.n a.c) ∧ w'.cell? ⟨w2.heap.size, 2, none⟩ = some (.bool a.wr) ∧ w'.cell? ⟨w2.heap.size, 3, none⟩ = some (.bool a.pv) ∧
            w'.cell? ⟨W.heap.size, 0, none⟩ = some (.int .u64 at') ∧ w'.cell? ⟨W.heap.size, 2, none⟩ = some (.int .u64 sv))
          (first
            | exact HS0.out
            | exact HS1.out _
            | exact HS2.out _ _)
          ((go_at_call 49; refine (HP.out _).mono ?_; rintro e w4 ⟨rfl, rfl⟩))
        have HR : Hid (∀ o, WrV B W g v bv L at' sv (k + 1) ((w3.alloc o).setCell ⟨gb, j, none⟩ (.int .u8 (sv / 2 ^ (8 * k) % 256))).drew ∧ ((w3.alloc o).setCell ⟨gb, j, none⟩ (.int .u8 (sv / 2 ^ (8 * k) % 256))).drew.heap[W.heap.size]? = some (.cells #[.int .u64 at', .int .i64 n, .int .u64 sv] 77 (0, 0))) := fun o =>
          ⟨⟨((HM3.out.kp ((Kp.rfl w3).new o)).put HFa.out HA.out HN.out.1 (by omega)).kp (Kp.rfl _).draw, ((HC3.out.alloc o).setCell (p := ⟨gb, j, none⟩) (fun _ => (dblk_iff (wrF_val L at' sv k) gb).1 HD.out) _).drew⟩,
            (Below.heap_setCell _ ⟨gb, j, none⟩ _ _ (fun e => n1 e.symm)).trans ((Below.heap_alloc _ o _ (by omega)).trans HB3.out)⟩
        clear z0 z1 hsum hmul
        go_wp2_with fail
        go_roundw
        case rel => exact ⟨k + 1, by omega, by go_num, (HR.out _).1, (HR.out _).2⟩
        case measure => simp [intOf]; omega
    · obtain rfl : k = n := by omega
      go_wp2_with fail
      go_end0
      exact ⟨rfl, HM.out, HC.out⟩
end Go.Proofs.Ytlbkmdmnijmieaa
