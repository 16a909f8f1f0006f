/- Layer 9 (memory): the library's iterator over a thread's stores, the last one first. -/
import Derived.RangeFuncNested
import Derived.RangeFuncBound
import Derived.RangeFuncCalls
import Derived.RangeFuncLeaves
import Derived.RangeFuncBox
import Derived.Shelf.Abstract
import Derived.Shelf.RegionOpen
import Derived.WalkKit
import Derived.OwnWalkIn
import Derived.TacticsInMore
import Derived.LoopNIn
import Derived.LoopIn
import Derived.Test.YtlbkmdmnijmieaaMe
import Derived.Test.YtlbkmdmnijmieaaMf
import Derived.Test.YtlbkmdmnijmieaaMo
namespace Go.Proofs.Ytlbkmdmnijmieaa
open Go Go.RowKit Go.Shelf Rp
open Cq (U64 I64 isW nb mask)
attribute [local go_sem] Oper.semAt_some

/-- the stores Q lie from A on, below block n₀ -/
def QRd (n₀ : Nat) (W : World) (A : Option Addr) (Q : List Sto) : Prop :=
  0 < Q.length → ∃ gb off, A = some ⟨gb, off, none⟩ ∧ gb < n₀ ∧ ∀ i q, Q[i]? = some q → ∀ k, k < 3 → W.cell? ⟨gb, off + i * 3 + k, none⟩ = q.row[k]?
theorem QRd.below {n₀ : Nat} {W W' : World} {A : Option Addr} {Q : List Sto} (h : QRd n₀ W A Q) (b : Below n₀ W W') : QRd n₀ W' A Q := fun hp => by
  obtain ⟨gb, off, e, hg, hc⟩ := h hp
  exact ⟨gb, off, e, hg, fun i q hq k hk => (b.cell (p := ⟨gb, off + i * 3 + k, none⟩) hg).trans (hc i q hq k hk)⟩
/-- what a round of the loop keeps -/
def KB (n₀ Bs : Nat) (W W' : World) : Prop := Below n₀ W W' ∧ W'.heap[Bs]? = W.heap[Bs]?
theorem KB.trans {n₀ Bs : Nat} {A B C : World} (h : KB n₀ Bs A B) (k : KB n₀ Bs B C) : KB n₀ Bs A C := ⟨h.1.trans k.1, k.2.trans h.2⟩
theorem KB.refl (n₀ Bs : Nat) (W : World) : KB n₀ Bs W W := ⟨Below.refl _ _, rfl⟩
theorem QRd.mono {n₀ n₁ : Nat} {W : World} {A : Option Addr} {Q : List Sto} (h : QRd n₀ W A Q) (hn : n₀ ≤ n₁) : QRd n₁ W A Q := fun hp => by
  obtain ⟨gb, off, e, hg, hc⟩ := h hp
  exact ⟨gb, off, e, by omega, hc⟩
/-- what has come when k rounds are over: the last k, the last first -/
def lastK (Q : List Sto) (k : Nat) : List (Int × Sto) := (List.range k).filterMap fun j => (Q[Q.length - 1 - j]?).map fun q => (((Q.length - 1 - j : Nat) : Int), q)
theorem lastK_succ (Q : List Sto) (k i : Nat) (q : Sto) (hi : i + 1 + k = Q.length) (hq : Q[i]? = some q) : lastK Q (k + 1) = lastK Q k ++ [((i : Int), q)] := by
  have e : Q.length - 1 - k = i := by omega
  unfold lastK
  rw [List.range_succ, List.filterMap_append]
  simp [e, hq]
theorem lastK_length (Q : List Sto) (k : Nat) (hk : k ≤ Q.length) : (lastK Q k).length = k := by
  induction k with
  | zero => rfl
  | succ k ih =>
    obtain ⟨q, hq⟩ : ∃ q, Q[Q.length - 1 - k]? = some q := ⟨_, List.getElem?_eq_getElem (by omega)⟩
    rw [lastK_succ Q k (Q.length - 1 - k) q (by omega) hq, List.length_append, ih (by omega)]; rfl
set_option maxRecDepth 100000 in
set_option maxHeartbeats 2000000 in
theorem back1_in (F : Fence) (n : Nat) (h7 : F.fn 60) (hro : F.round = none) (hn : 1 ≤ n) (l Bs n₀ gb off cap : Nat) (Q : List Sto) (hreach : Q.length * 24 ≤ 140737488351232) (hb : gb < n₀) (J Jx : List (Int × Sto) → World → Prop)
    (hY : ∀ pre x W, J pre W → pre.length < Q.length → YieldAt F (n - 1) Try.prog l #[.int .i64 x.1, .agg #[.int .u64 x.2.a, .int .i64 x.2.w, .int .u64 x.2.v]] W fun e W' =>
      (e = .returned (.bool true) ∧ J (pre ++ [x]) W' ∧ KB n₀ Bs W W') ∨ (e = .returned (.bool false) ∧ Jx (pre ++ [x]) W'))
    (W : World) (hBs : W.cell? ⟨Bs, 0, none⟩ = some (.slice (some ⟨gb, off, none⟩) Q.length cap)) (hc : ∀ i q, Q[i]? = some q → ∀ k, k < 3 → W.cell? ⟨gb, off + i * 3 + k, none⟩ = q.row[k]?) (h0 : J [] W) :
    CallsIn F n Try.prog 60 #[.func (.yield l) #[] #[], .pointer (some ⟨Bs, 0, none⟩)] W fun e W' => (∃ v, e = .returned v) ∧
      ((∃ ys, ys = lastK Q Q.length ∧ J ys W') ∨ (∃ pre, (∃ k, k ≤ Q.length ∧ pre = lastK Q k) ∧ Jx pre W')) := by
  obtain ⟨len, hL⟩ : ∃ len, len = Q.length := ⟨_, rfl⟩
  rw [← hL] at hreach hY hBs ⊢
  have HL := Lib.hid hL
  have HC := Lib.hid hc
  clear hL hc
  refine callsIn_of_wp Try.func60 rfl h7 ?_ hro
  simp only [Try.ntmps60, List.size_toArray, List.length_cons, List.length_nil, Nat.reduceAdd, Nat.reduceSub, Array.replicate_succ, Array.replicate_zero, List.push_toArray, List.append_toArray, List.nil_append, List.cons_append]
  gi_wp2
  gi_loopw [3] (fun i wr => ∃ k : Nat, k ≤ len ∧ i = .int .i64 ((len : Int) - 1 - k) ∧ J (lastK Q k) wr ∧ KB n₀ Bs W wr)
    (fun i _ => (intOf i + 1).toNat)
  case atStart => exact ⟨0, Nat.zero_le _, by simp, h0, KB.refl _ _ _⟩
  case round =>
    obtain ⟨k, hk, rfl, hJs, hnx⟩ := hrel
    by_cases hlt : k < len
    · obtain ⟨i, hi⟩ : ∃ i : Nat, i + 1 + k = len := ⟨len - 1 - k, by omega⟩
      have e1 : (len : Int) - 1 - k = i := by omega
      rw [e1]
      obtain ⟨q, hq⟩ : ∃ q, Q[i]? = some q := ⟨_, List.getElem?_eq_getElem (by have := HL.out; omega)⟩
      have c0 := (hnx.1.cell (p := ⟨gb, off + i * 3 + 0, none⟩) hb).trans (HC.out i q hq 0 (by omega))
      have c1 := (hnx.1.cell (p := ⟨gb, off + i * 3 + 1, none⟩) hb).trans (HC.out i q hq 1 (by omega))
      have c2 := (hnx.1.cell (p := ⟨gb, off + i * 3 + 2, none⟩) hb).trans (HC.out i q hq 2 (by omega))
      have hbs := (World.cell?_of_block (a := ⟨Bs, 0, none⟩) hnx.2).trans hBs
      simp only [Sto.row, List.getElem?_cons_zero, List.getElem?_cons_succ, Nat.add_zero] at c0 c1 c2
      obtain ⟨fn, tmps, assign, body, hy, hR⟩ := hY _ ((i : Int), q) wr hJs (by rw [lastK_length Q k (by have := HL.out; omega)]; exact hlt)
      dsimp only at hy
      have HS := Lib.hid (lastK_succ Q k i q (by have := HL.out; omega) hq)
      have HK := Lib.hid hnx
      clear hq hnx e1 hJs
      gi_wp2
      refine hR.mono ?_
      rintro e W3 (⟨rfl, hJ3, hk3⟩ | ⟨rfl, hJx3⟩)
      · have HJ3 := Lib.hid hJ3
        have HK3 := Lib.hid hk3
        clear hJ3 hk3
        gi_wp2
        go_roundw
        case rel => exact ⟨k + 1, by omega, by congr 1; omega, by rw [HS.out]; exact HJ3.out, HK.out.trans HK3.out⟩
        case measure => simp [intOf]
      · gi_wp2
        refine bodyPost_ret (results_none rfl _ _ _) rfl ?_
        exact ⟨⟨_, rfl⟩, .inr ⟨_, ⟨k + 1, by omega, HS.out.symm⟩, hJx3⟩⟩
    · obtain rfl : k = len := by omega
      have e1 : (k : Int) - 1 - k = -1 := by omega
      rw [e1]
      gi_wp2
      go_end0
      exact ⟨⟨_, rfl⟩, .inl ⟨_, rfl, hJs⟩⟩
set_option maxRecDepth 100000 in
set_option maxHeartbeats 1000000 in
/-- .. where there is none -/
theorem back1_nil (F : Fence) (n : Nat) (h7 : F.fn 60) (hro : F.round = none) (l Bs : Nat) (A : Option Addr) (cap : Nat) (J : List (Int × Sto) → World → Prop) (W : World) (hBs : W.cell? ⟨Bs, 0, none⟩ = some (.slice A 0 cap)) (h0 : J [] W) :
    CallsIn F n Try.prog 60 #[.func (.yield l) #[] #[], .pointer (some ⟨Bs, 0, none⟩)] W fun e W' => (∃ v, e = .returned v) ∧ J [] W' := by
  refine callsIn_of_wp Try.func60 rfl h7 ?_ hro
  simp only [Try.ntmps60, List.size_toArray, List.length_cons, List.length_nil, Nat.reduceAdd, Nat.reduceSub, Array.replicate_succ, Array.replicate_zero, List.push_toArray, List.append_toArray, List.nil_append, List.cons_append]
  gi_wp2
  gi_loopw [3] (fun i wr => i = .int .i64 (-1) ∧ J [] wr) (fun _ _ => 0)
  case atStart => exact ⟨rfl, h0⟩
  case round =>
    obtain ⟨rfl, hJs⟩ := hrel
    gi_wp2
    go_end0
    exact ⟨⟨_, rfl⟩, hJs⟩
theorem back_in (F : Fence) (n : Nat) (h5 : F.fn 43) (hro : F.round = none) (a : Option Addr) (len cap : Nat) (w : World) :
    CallsIn F n Try.prog 43 #[.slice a len cap] w fun e w' => e = .returned (.func (.func 60) #[] #[.pointer (some ⟨w.heap.size, 0, none⟩)]) ∧ w' = w.alloc (.cells #[.slice a len cap] 68) := by
  refine callsIn_of_wp Try.func43 rfl h5 ?_ hro
  simp only [Try.ntmps43, List.size_toArray, List.length_cons, List.length_nil, Nat.reduceAdd, Nat.reduceSub, Array.replicate_succ, Array.replicate_zero, List.push_toArray, List.append_toArray, List.nil_append, List.cons_append]
  gi_wp2
  go_ret
  exact ⟨rfl, rfl⟩
/-- the iterator tells the stores, the last one first: all, or some and no more -/
theorem back_stops (F : Fence) (n : Nat) (h7 : F.fn 60) (hro : F.round = none) (hn : 1 ≤ n) (Bs n₀ : Nat) (A : Option Addr) (cap : Nat) (Q : List Sto) (hreach : Q.length * 24 ≤ 140737488351232) (w : World) (hBs : Bs < w.heap.size) (hn₀ : n₀ ≤ w.heap.size)
    (hc : w.cell? ⟨Bs, 0, none⟩ = some (.slice A Q.length cap)) (hI : QRd n₀ w A Q) :
    SeqStopsK F n Try.prog 60 #[.pointer (some ⟨Bs, 0, none⟩)] (fun x : Int × Sto => #[Value.int .i64 x.1, .agg #[.int .u64 x.2.a, .int .i64 x.2.w, .int .u64 x.2.v]]) (KB n₀ Bs) (fun ys => ys = lastK Q Q.length)
      (fun pre => ∃ k, k ≤ Q.length ∧ pre = lastK Q k) Q.length w := fun l J Jx W hW _ _ hY h0 => by
  have hc' := (hW.cell (p := ⟨Bs, 0, none⟩) hBs).trans hc
  rcases Nat.eq_zero_or_pos Q.length with hz | hp
  · have e : Q = [] := List.length_eq_zero_iff.1 hz
    subst e
    exact (back1_nil F n h7 hro l Bs A cap J W hc' h0).mono fun e W' ⟨he, hj⟩ => ⟨he, .inl ⟨_, rfl, hj⟩⟩
  · obtain ⟨gb, off, rfl, hb, hcs⟩ := (hI.below (hW.mono hn₀)) hp
    exact back1_in F n h7 hro hn l Bs n₀ gb off cap Q hreach hb J Jx hY W hc' hcs h0
end Go.Proofs.Ytlbkmdmnijmieaa
