/- Walks of layer 8: thunks, and the words of operations. -/
import Derived.Test.YtmebkahgdpnajaaBitx
import Derived.Test.YtmebkahgdpnajaaFa
import Derived.Below
import Derived.Deep.RegionWith
namespace Go.Proofs.Ytmebkahgdpnajaa
open Go Go.RowKit
open Cq (U64 I64 nb zx sx neg)

/-- what was there before is as it was -/
abbrev Kp (W W' : World) : Prop := Below W.heap.size W W'
theorem Kp.rfl (W : World) : Kp W W := Below.refl _ W
theorem Kp.next {W W1 W2 : World} (h : Kp W W1) (k : Kp W1 W2) : Kp W W2 := h.trans (k.mono h.size)
theorem Kp.new {W W1 : World} (h : Kp W W1) (o : Obj) : Kp W (W1.alloc o) := h.alloc h.size o
theorem Kp.draw {W W1 : World} (h : Kp W W1) : Kp W W1.drew := h.drew
theorem Kp.draws {W W1 : World} (h : Kp W W1) (n : Nat) : Kp W (W1.drewN n) := ⟨h.os, h.tape, h.output, h.size, h.block⟩
theorem Kp.put {W W1 : World} (h : Kp W W1) {p : Addr} (hp : W.heap.size ≤ p.block) (v : Value) : Kp W (W1.setCell p v) := h.setCell hp v
/-- a thunk -/
def th (c o : Bool) (r : Int) : Value := .agg #[.bool c, .bool o, .int .u64 r]

/-- the words of the operations, from 1 on -/
def tab : List (List UInt8) := [[], [97, 100, 100], [111, 114], [97, 100, 99], [115, 98, 98], [97, 110, 100], [115, 117, 98], [120, 111, 114], [99, 109, 112], [116, 101, 115, 116], [109, 111, 118], [109, 111, 118, 122, 120], [109, 111, 118, 115, 120], [108, 101, 97], [112, 117, 115, 104], [112, 111, 112], [105, 110, 99], [100, 101, 99], [110, 111, 116], [110, 101, 103], [109, 117, 108], [115, 109, 117, 108], [100, 105, 118], [115, 100, 105, 118], [105, 109, 117, 108], [105, 109, 117, 108, 105], [114, 111, 108], [114, 111, 114], [115, 104, 108], [115, 104, 114], [115, 97, 114], [120, 99, 104, 103], [99, 97, 115], [120, 97, 100, 100], [99, 109, 111, 118], [115, 101, 116], [106, 99, 99], [106, 109, 112], [99, 97, 108, 108], [114, 101, 116], [119, 105, 100, 101], [115, 105, 103, 110], [109, 111, 118, 115], [115, 116, 111, 115], [102, 101, 110, 99, 101], [110, 111, 112], [115, 121, 115], [117, 100]]
/-- a text's cell -/
def str (l : List UInt8) : Value := .string ⟨l.toArray⟩
/-- the words as they lie in memory -/
def tabObj : Obj := .cells (tab.map str).toArray 9
theorem tab_cell (W : World) (n : Nat) (h : n < 48) : (W.alloc tabObj).cell? ⟨W.heap.size, n, none⟩ = some (str (tab.getD n [])) := by
  rw [World.cell?, heap_alloc_new]
  have : n < tab.length := h
  simp [tabObj, List.getElem?_eq_getElem this]
set_option maxRecDepth 100000 in
theorem words_any (W : World) : Calls Try.prog 49 #[] W fun e W' => e = .returned (.slice (some ⟨W.heap.size, 0, none⟩) 48 48) ∧ W' = W.alloc tabObj := by
  go_enter Try.func49, Try.ntmps49
  go_wp2_with fail
  go_ret
  exact ⟨by simp, by kernel_rfl⟩
/-- an operation's word -/
def wd (op : Int) : List UInt8 := if op < 1 ∨ 47 < op then [] else tab.getD op.toNat []
theorem word_any (op : Int) (W : World) : Calls Try.prog 28 #[.int .i64 op] W fun e W' => e = .returned (str (wd op)) ∧ Kp W W' := by
  unfold wd
  by_cases h1 : op < 1
  · rw [if_pos (.inl h1)]
    go_enter Try.func28, Try.ntmps28
    go_wp2_with fail
    go_ret
    exact ⟨rfl, Kp.rfl W⟩
  · by_cases h2 : 47 < op
    · rw [if_pos (.inr h2)]
      have h1' := Int.not_lt.mp h1
      clear h1
      go_enter Try.func28, Try.ntmps28
      go_wp2_with fail
      go_ret
      exact ⟨rfl, Kp.rfl W⟩
    · rw [if_neg (by omega)]
      obtain ⟨n, rfl⟩ : ∃ n : Nat, op = n := ⟨op.toNat, by omega⟩
      rw [Int.toNat_natCast]
      have hc := tab_cell W n (by omega)
      generalize str (tab.getD n []) = x at *
      have hn : n ≤ 47 := by omega
      have h1' := Int.not_lt.mp h1
      have h2' := Int.not_lt.mp h2
      clear h1 h2
      go_enter Try.func28, Try.ntmps28
      go_wp2_with fail
      refine (words_any _).mono ?_; rintro e w' ⟨rfl, rfl⟩
      go_wp2_with fail
      go_ret
      exact ⟨rfl, (Kp.rfl W).new _⟩
theorem word_in (n : Nat) (h1 : 1 ≤ n) (h2 : n ≤ 47) (W : World) : Calls Try.prog 28 #[.int .i64 n] W fun e W' => e = .returned (str (tab.getD n [])) ∧ W' = W.alloc tabObj := by
  have hc := tab_cell W n (by omega)
  generalize str (tab.getD n []) = x at *
  have h3 : (1 : Int) ≤ n := by omega
  have h4 : (n : Int) ≤ 47 := by omega
  go_enter Try.func28, Try.ntmps28
  go_wp2_with fail
  refine (words_any _).mono ?_; rintro e w' ⟨rfl, rfl⟩
  go_wp2_with fail
  go_ret
  exact ⟨rfl, rfl⟩
theorem word_out (op : Int) (h : op < 1 ∨ 47 < op) (W : World) : Calls Try.prog 28 #[.int .i64 op] W fun e W' => e = .returned (str []) ∧ W = W' := by
  by_cases h1 : op < 1
  · go_enter Try.func28, Try.ntmps28
    go_wp2_with fail
    go_ret
    exact ⟨rfl, rfl⟩
  · have h2 : 47 < op := by omega
    have h1' := Int.not_lt.mp h1
    clear h1 h
    go_enter Try.func28, Try.ntmps28
    go_wp2_with fail
    go_ret
    exact ⟨rfl, rfl⟩
/-- a thunk's cells -/
def tcs (c o : Bool) (r : Int) : Array Value := #[.bool c, .bool o, .int .u64 r]
theorem of_any (r : Int) (c o : Bool) (w : Int) (hr : U64 r) (W : World) : Calls Try.prog 26 #[.int .u64 r, .bool c, .bool o, .int .i64 w] W fun e W' => e = .returned (th c o (sx r w)) ∧ W' = W.alloc (.cells #[.bool c, .bool o, .int .u64 (sx r w)] 25) := by
  go_enter Try.func26, Try.ntmps26
  go_wp2_with fail
  refine (sx_any _ _ hr _).mono ?_; rintro e w' ⟨rfl, rfl⟩
  go_wp2_with fail
  exact bodyPost_ret (v := th c o (sx r w)) (by simp [results, Try.results26, go_sem, th]) rfl ⟨rfl, rfl⟩
theorem rof_any (r : Int) (c o : Bool) (w : Int) (hr : U64 r) (W : World) : Calls Try.prog 30 #[.int .u64 r, .bool c, .bool o, .int .i64 w] W
    fun e W' => e = .returned (.tuple #[.int .u64 (zx r w), th c o (sx r w)]) ∧ W' = W.alloc (.cells #[.bool c, .bool o, .int .u64 (sx r w)] 24) := by
  go_enter Try.func30, Try.ntmps30
  go_wp2_with fail
  refine (rzx_any _ _ hr _).mono ?_; rintro e w' ⟨rfl, rfl⟩
  go_wp2_with fail
  refine (rsx_any _ _ hr _).mono ?_; rintro e w' ⟨rfl, rfl⟩
  go_wp2_with fail
  exact bodyPost_ret (v := .tuple #[.int .u64 (zx r w), th c o (sx r w)]) (by simp [results, Try.results30, go_sem, th]) rfl ⟨rfl, rfl⟩
theorem ours_any (c o : Bool) (r : Int) (W : World) : Calls Try.prog 9 #[th c o r] W fun e W' => e = .returned (th c o r) ∧ Kp W W' := by
  unfold th
  go_enter Try.func9, Try.ntmps9
  go_wp2_with fail
  exact bodyPost_ret (v := th c o r) (by simp [results, Try.results9, go_sem, th]) rfl ⟨rfl, ((Kp.rfl W).new _).new _⟩
theorem same_any (c o : Bool) (r : Int) (W : World) : Calls Try.prog 11 #[th c o r, th c o r] W fun e W' => e = .returned (.bool true) ∧ Kp W W' := by
  unfold th
  go_enter Try.func11, Try.ntmps11
  cases c <;> cases o
  all_goals
    go_wp2_with fail
    go_ret
    exact ⟨rfl, ((Kp.rfl W).new _).new _⟩
end Go.Proofs.Ytmebkahgdpnajaa
