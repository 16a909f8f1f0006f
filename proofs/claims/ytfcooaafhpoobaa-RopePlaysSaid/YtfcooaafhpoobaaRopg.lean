/- Walks of layer 2: the width asked of the document's own; numbers behind one another. -/
import Derived.Test.YtfcooaafhpoobaaRopv
namespace Go.Proofs.Ytfcooaafhpoobaa
open Go.RowKit Rp
open Cq (U64 I64 isW)

theorem ris2_any (w : Int) (W : World) : Calls Try.prog 17 #[.int .i64 w] W fun e W' => e = .returned (.bool (isW w)) ∧ W = W' := by
  by_cases h1 : w = 1
  · subst h1; go_enter Try.func17, Try.ntmps17; go_wp2; go_ret; exact ⟨rfl, rfl⟩
  by_cases h2 : w = 2
  · subst h2; go_enter Try.func17, Try.ntmps17; go_wp2; go_ret; exact ⟨rfl, rfl⟩
  by_cases h4 : w = 4
  · subst h4; go_enter Try.func17, Try.ntmps17; go_wp2; go_ret; exact ⟨rfl, rfl⟩
  by_cases h8 : w = 8
  · subst h8; go_enter Try.func17, Try.ntmps17; go_wp2; go_ret; exact ⟨rfl, rfl⟩
  have g1 : (w == 1) = false := by simpa using h1
  have g2 : (w == 2) = false := by simpa using h2
  have g4 : (w == 4) = false := by simpa using h4
  have g8 : (w == 8) = false := by simpa using h8
  have gg : isW w = false := by simp [isW, h1, h2, h4, h8]
  rw [gg]
  go_enter Try.func17, Try.ntmps17; go_wp2; go_ret; exact ⟨rfl, rfl⟩
theorem num_zero (B : Nat) (W : World) (g : Nat) (rest : List Value) (v : Value) (bs : List Int) (hst : St B 5 W g 98 rest v bs) (hbs : bs.length ≤ 1048576)
    (w : Nat) (h : isW w = true) (A2 : Option Addr) (c2 : Nat) :
    Calls Try.prog 55 #[.pointer (some ⟨g, 0, none⟩), .int .i64 w, .slice A2 0 c2] W fun e W' => e = .returned (.int .i64 0) ∧ W = W' := by
  have hw := Cq.isW_cases h
  have hw1 : 1 ≤ w ∧ w ≤ 8 := by omega
  obtain ⟨A, c, hv, _, _⟩ := own_form hst.own
  have hc : W.cell? ⟨g, 0, none⟩ = some (.slice A bs.length c) := by
    have := hst.box.cell 0; rw [hv] at this; simpa using this
  have hf' : (0 : Int) ≤ ((1048576 : Int) - bs.length) / w := Int.ediv_nonneg (by omega) (by omega)
  clear hw hst hv
  go_enter Try.func55, Try.ntmps55
  go_wp2_with fail
  refine (is_any _ _).mono ?_; rintro e w' ⟨rfl, rfl⟩
  rw [h]
  go_wp2_with fail
  refine (room_any g A bs.length c _ hc hbs).mono ?_; rintro e w' ⟨rfl, rfl⟩
  clear hc
  go_wp2_with fail
  go_loop [8, 9, 29] (fun _ _ i => i = .int .i64 0) (fun _ _ _ => 0)
  case atStart => rfl
  case round =>
    subst hrel
    go_wp2_with fail
    go_ret
    exact ⟨rfl, rfl⟩
theorem lows_bytes (w : Nat) (z : List Int) (k : Nat) : Bytes8 (lows w z k) := by
  intro y hy
  unfold lows at hy
  obtain ⟨x, _, hx⟩ := List.mem_flatMap.1 hy
  exact low_bytes w x y hx
theorem lows_more (w : Nat) (z : List Int) (k m : Nat) : lows w z (k + m) = lows w z k ++ lows w (z.drop k) m := by
  unfold lows
  rw [List.take_add, List.flatMap_append]
theorem cut_lows (w : Nat) (z : List Int) (n k : Nat) (hk : k < n) (hn : n ≤ z.length) : cut (lows w z n) (w * k) w = low w (z.getD k 0) := by
  have e : lows w z n = lows w z k ++ (low w (z.getD k 0) ++ lows w (z.drop (k + 1)) (n - (k + 1))) := by
    rw [← List.append_assoc, ← lows_succ w z k (by omega), ← lows_more]; congr 1; omega
  have hl := lows_length w z k (by omega)
  unfold cut
  rw [e, ← hl, List.drop_left, List.take_append_of_le_length (by rw [low_length]; exact Nat.le_refl _), List.take_of_length_le (by rw [low_length]; exact Nat.le_refl _)]
end Go.Proofs.Ytfcooaafhpoobaa
