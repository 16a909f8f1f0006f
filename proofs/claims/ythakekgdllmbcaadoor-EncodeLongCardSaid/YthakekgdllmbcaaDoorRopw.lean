/- Walks of layer 2: what a store tells without writing. -/
import Derived.Test.YthakekgdllmbcaaDoorBitw
import Derived.Test.YthakekgdllmbcaaDoorRopm
namespace Go.Proofs.YthakekgdllmbcaaDoor
open Go.RowKit Rp

open Cq (U64 I64 isW)

theorem stsize_any (g : Nat) (A : Option Addr) (n c : Nat) (W : World) (hc : W.cell? ⟨g, 0, none⟩ = some (.slice A n c)) :
    Calls Tryd.prog 19 #[.pointer (some ⟨g, 0, none⟩)] W fun e W' => e = .returned (.int .i64 n) ∧ W = W' := by
  go_enter Tryd.func19, Tryd.ntmps19
  go_wp2
  go_ret
  exact ⟨rfl, rfl⟩
theorem room_any (g : Nat) (A : Option Addr) (n c : Nat) (W : World) (hc : W.cell? ⟨g, 0, none⟩ = some (.slice A n c)) (hn : n ≤ 1048576) :
    Calls Tryd.prog 21 #[.pointer (some ⟨g, 0, none⟩)] W fun e W' => e = .returned (.int .i64 (1048576 - n)) ∧ W = W' := by
  go_enter Tryd.func21, Tryd.ntmps21
  go_wp2
  go_ret
  exact ⟨rfl, rfl⟩
def inB (a : Int) (n : Nat) : Bool := decide (0 ≤ a) && decide (a ≤ (n : Int))
def hasB (a m : Int) (n : Nat) : Bool := inB a n && decide (0 ≤ m) && decide (m ≤ (n : Int) - a)
def placeE (a w : Int) (n : Nat) : Int := if isW w then (if hasB a w n then 0 else 7) else 2
end Go.Proofs.YthakekgdllmbcaaDoor
