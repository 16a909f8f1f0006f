/- Walks of layer 5 (instructions): whether a number is one of a list; the makers of operands. -/
import Derived.Test.YtdpbalongdcjbaaDoorProg
import Derived.Test.YtdpbalongdcjbaaDoorShelf
import Derived.WalkKit
import Derived.Below
namespace Go.Proofs.YtdpbalongdcjbaaDoor
open Go Go.RowKit

/-- what was there before is as it was -/
abbrev Kp (W W' : World) : Prop := Below W.heap.size W W'
theorem Kp.rfl (W : World) : Kp W W := Below.refl _ W
theorem Kp.next {W W1 W2 : World} (h : Kp W W1) (k : Kp W1 W2) : Kp W W2 := h.trans (k.mono h.size)
theorem Kp.new {W W1 : World} (h : Kp W W1) (o : Obj) : Kp W (W1.alloc o) := h.alloc h.size o
theorem Kp.draw {W W1 : World} (h : Kp W W1) : Kp W W1.drew := h.drew
theorem Kp.draws {W W1 : World} (h : Kp W W1) (n : Nat) : Kp W (W1.drewN n) := ⟨h.os, h.tape, h.output, h.size, h.block⟩
theorem Kp.grow {W W1 : World} (h : Kp W W1) (os : Array Obj) : Kp W (Sort.grow W1 os) :=
  ⟨h.os, h.tape, h.output, by simp only [Sort.grow, Array.size_append]; exact Nat.le_trans h.size (Nat.le_add_right _ _), fun k hk => by
    have : k < W1.heap.size := Nat.lt_of_lt_of_le hk h.size
    simp only [Sort.grow]; rw [Array.getElem?_append_left this]; exact h.block k hk⟩

/-- the numbers of a list, as cells -/
def nums (zs : List Int) : Array Value := (zs.map (Value.int .i64)).toArray
theorem nums_cell (W : World) (zs : List Int) (t j : Nat) (h : j < zs.length) : (W.alloc (.cells (nums zs) t)).cell? ⟨W.heap.size, 0 + j, none⟩ = some (.int .i64 (zs.getD j 0)) := by
  rw [World.cell?, heap_alloc_new]; simp [nums, List.getElem?_eq_getElem h]

set_option maxRecDepth 100000 in
theorem in_any (W : World) (b c : Nat) (zs : List Int) (x : Int) (hb : zs.length ≤ 1000) (hc : ∀ j, j < zs.length → W.cell? ⟨b, 0 + j, none⟩ = some (.int .i64 (zs.getD j 0))) :
    Calls Tryd.prog 33 #[.int .i64 x, .slice (some ⟨b, 0, none⟩) zs.length c] W fun e W' => e = .returned (.bool (zs.contains x)) ∧ W' = W := by
  have H := Lib.hid (Tryd.slices_Contains_int b 0 zs.length c zs x W (Nat.le_refl _) (by omega) hc)
  rw [List.take_length] at H
  go_enter Tryd.func33, Tryd.ntmps33
  go_wp2_with fail
  refine H.out.mono ?_
  rintro e w' ⟨rfl, rfl⟩
  go_wp2_with fail
  go_ret
  exact ⟨by simp, rfl⟩
theorem in_new (W : World) (n c : Nat) (zs : List Int) (t : Nat) (x : Int) (hb : zs.length ≤ 1000) (hn : n = zs.length) :
    Calls Tryd.prog 33 #[.int .i64 x, .slice (some ⟨W.heap.size, 0, none⟩) n c] (W.alloc (.cells (nums zs) t)) fun e W' => e = .returned (.bool (zs.contains x)) ∧ W' = W.alloc (.cells (nums zs) t) := by
  subst hn
  exact in_any _ _ _ _ _ hb (nums_cell W zs t)

end Go.Proofs.YtdpbalongdcjbaaDoor
