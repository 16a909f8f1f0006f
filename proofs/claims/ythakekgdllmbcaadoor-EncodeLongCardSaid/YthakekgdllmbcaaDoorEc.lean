/- Layer 7: one byte written: octets and code. -/
import Derived.Test.YthakekgdllmbcaaDoorEa
import Derived.Test.YthakekgdllmbcaaDoorEb
import Derived.Deep.MidRow
import Derived.Deep.DeepCutAuto
namespace Go.Proofs.YthakekgdllmbcaaDoor
open Go.RowKit Rp Go.Maps
open Cq (U64 I64 isW)
theorem ws144 : wsB 1 [144] = [144] := by decide
set_option maxHeartbeats 2000000 in
set_option maxRecDepth 100000 in
theorem octets_ok (B : Nat) (W : World) (g : Nat) (v : Value) (bs : List Int) (h : St B 5 W g 59 [] v bs) (hB : B ≤ W.heap.size) (wb : Nat) (sv : Value) (hw : Box W wb 44 [.pointer (some ⟨g, 0, none⟩), sv]) (hne : ¬ Mine g v wb)
    (ob : Nat) (ho : W.cell? ⟨ob, 0, none⟩ = some (.int .i64 144)) (hl : bs.length + 1 ≤ 1048576) :
    Calls Tryd.prog 34 #[.pointer (some ⟨wb, 0, none⟩), .slice (some ⟨ob, 0, none⟩) 1 1] W fun e W' => e = .returned (.tuple #[]) ∧ ∃ v', Grw B W W' g v v' (bs ++ [144]) := by
  have hw0 := hw.cell 0
  simp only [List.getElem?_cons_zero] at hw0
  have HST := Lib.hid h
  have HN := Lib.hid hne
  have HG0 := Lib.hid (Grw.refl h)
  have HU : Hid (∀ x ∈ [(144 : Int)], U64 x) := by intro x hx; simp at hx; subst hx; simp [U64]
  clear h hne hw
  go_enter Tryd.func34, Tryd.ntmps34
  go_wp2_with fail
  go_loopw [5, 8] (fun _ i wr => (i = .int .i64 0 ∧ wr = W) ∨ (i = .int .i64 1 ∧ ∃ v', Grw B W wr g v v' (bs ++ [144]))) (fun _ i _ => 1 - (intOf i).toNat)
  case atStart => exact .inl ⟨rfl, rfl⟩
  case round =>
    rcases hrel with ⟨rfl, rfl⟩ | ⟨rfl, hg⟩
    · go_wp2_with fail
      refine (num_fresh B _ g v bs HST.out hB 1 rfl [144] HU.out (by show bs.length + 1 * 1 ≤ _; omega)).mono ?_
      rintro e w1 ⟨rfl, v1, hg1⟩
      rw [ws144] at hg1
      have HG := Lib.hid hg1
      clear hg1
      go_wp2_with fail
      go_roundw
      case rel => exact .inr ⟨by go_num, v1, HG.out⟩
      case measure => simp [intOf]
    · have HG := Lib.hid hg
      clear hg
      go_wp2_with fail
      go_end0
      exact ⟨rfl, HG.out⟩
set_option maxHeartbeats 2000000 in
set_option maxRecDepth 100000 in
theorem code_ok (B : Nat) (W : World) (g : Nat) (v : Value) (bs : List Int) (h : St B 5 W g 59 [] v bs) (hB : B ≤ W.heap.size) (wb : Nat) (sv : Value) (hw : Box W wb 44 [.pointer (some ⟨g, 0, none⟩), sv]) (hne : ¬ Mine g v wb) (hl : bs.length + 1 ≤ 1048576) :
    Calls Tryd.prog 33 #[.pointer (some ⟨wb, 0, none⟩), .int .i64 144] W fun e W' => e = .returned (.tuple #[]) ∧ ∃ v', Grw B W W' g v v' (bs ++ [144]) := by
  have hb : Below W.heap.size W (W.alloc (.cells #[.int .i64 144] 3)) := (Below.refl _ _).alloc (Nat.le_refl _) _
  have HB := Lib.hid hb
  have HST := Lib.hid (h.below hb)
  have HW := Lib.hid (hw.kept (Below.heap_alloc W (.cells #[.int .i64 144] 3) _ hw.lt))
  have HN := Lib.hid hne
  have HX : Hid ((W.alloc (.cells #[.int .i64 144] 3)).cell? ⟨W.heap.size, 0, none⟩ = some (.int .i64 144)) := (Box.fresh W 3 [.int .i64 144]).cell 0
  clear hb h hw hne
  go_enter Tryd.func33, Tryd.ntmps33
  go_wp2_with fail
  refine (octets_ok B _ g v bs HST.out (by have := HB.out.size; omega) wb sv HW.out HN.out W.heap.size HX.out hl).mono ?_
  rintro e w1 ⟨rfl, v1, hg1⟩
  have HG := Lib.hid (Grw.from HB.out hg1)
  clear hg1
  go_wp2_with fail
  go_end0
  exact ⟨rfl, v1, HG.out⟩
end Go.Proofs.YthakekgdllmbcaaDoor
