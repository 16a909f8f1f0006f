/- Layer 9 (memory): a thread's stores; Pending, Drain, of the code. -/
import Derived.Test.YtlbkmdmnijmieaaMl
import Derived.RegionTactic
import Derived.BigRegion
namespace Go.Proofs.Ytlbkmdmnijmieaa
open Go Go.RowKit Rp Go.Maps
open Cq (U64 I64 isW nb mask)

/-- a store: the w lowest bytes of v, at a -/
structure Sto where
  a : Int
  w : Int
  v : Int
  ha : U64 a
  hv : U64 v
def Sto.row (q : Sto) : List Value := [.int .u64 q.a, .int .i64 q.w, .int .u64 q.v]
def Sto.ok (q : Sto) : Prop := isW q.w = true ∧ q.a + q.w ≤ 18446744073709551616
def stos (Q : List Sto) : List Value := Q.flatMap Sto.row
theorem stos_snoc (Q : List Sto) (q : Sto) : stos (Q ++ [q]) = stos Q ++ q.row := by simp [stos]
theorem stos_length (Q : List Sto) : (stos Q).length = Q.length * 3 := by
  induction Q with
  | nil => rfl
  | cons q Q ih => simp only [stos, List.flatMap_cons, List.length_append, List.length_cons] at ih ⊢; rw [ih]; simp [Sto.row]; omega
theorem stos_get (Q : List Sto) (i : Nat) (q : Sto) (h : Q[i]? = some q) (k : Nat) (hk : k < 3) : (stos Q)[i * 3 + k]? = q.row[k]? := by
  induction Q generalizing i with
  | nil => simp at h
  | cons b Q ih =>
    have hb : b.row.length = 3 := rfl
    simp only [stos, List.flatMap_cons]
    cases i with
    | zero =>
      simp only [List.getElem?_cons_zero, Option.some.injEq] at h
      subst h
      rw [Nat.zero_mul, Nat.zero_add, List.getElem?_append_left (by omega)]
    | succ i =>
      rw [List.getElem?_append_right (by omega), hb, show (i + 1) * 3 + k - 3 = i * 3 + k by omega]
      exact ih i (by simpa using h)
/-- a thread's stores, as memory has them -/
def QB (B : Nat) (W : World) (b : Value) (Q : List Sto) : Prop :=
  ∃ A c, b = .slice A Q.length c ∧ Q.length ≤ c ∧ c ≤ maxLen ∧ (0 < Q.length → ∃ gb off cur, A = some ⟨gb, off, none⟩ ∧ B ≤ gb ∧ W.heap[gb]? = some (.cells cur 77 (0, 0)) ∧ ∀ (i : Nat) (q : Sto), Q[i]? = some q → ∀ k, k < 3 → cur[off + i * 3 + k]? = q.row[k]?)
theorem QB.keep {B : Nat} {W W' : World} {b : Value} {Q : List Sto} (h : QB B W b Q) (hk : ∀ k cur, W.heap[k]? = some (.cells cur 77 (0, 0)) → B ≤ k → W'.heap[k]? = W.heap[k]?) : QB B W' b Q := by
  obtain ⟨A, c, h1, h2, h2', h3⟩ := h
  refine ⟨A, c, h1, h2, h2', fun hp => ?_⟩
  obtain ⟨gb, off, cur, e, hB, hg, hc⟩ := h3 hp
  exact ⟨gb, off, cur, e, hB, (hk gb cur hg hB).trans hg, hc⟩
theorem QB.kp {B : Nat} {W W' : World} {b : Value} {Q : List Sto} (h : QB B W b Q) (k : Kp W W') : QB B W' b Q :=
  h.keep fun j _ e _ => k.block j (Array.getElem?_eq_some_iff.1 e).1
theorem QB.nil (B : Nat) (W : World) : QB B W (.slice none 0 0) [] := ⟨none, 0, rfl, Nat.le_refl _, Nat.zero_le _, fun h => absurd h (by simp)⟩
theorem QB.of_own {B : Nat} {W : World} {b : Value} {Q : List Sto} (h : W.ownsRow B 77 3 b Q.length (stos Q)) : QB B W b Q := by
  rcases h.2 with ⟨rfl, h0⟩ | ⟨g, cap, cur, rfl, hB, hg, hn, hc, hs, ht⟩
  · have e := List.length_eq_zero_iff.1 h0
    subst e
    exact QB.nil B W
  · refine ⟨_, cap, rfl, hn, hc, fun _ => ⟨g, 0, cur, rfl, hB, hg, fun i q hq k hk => ?_⟩⟩
    have hi := (List.getElem?_eq_some_iff.1 hq).1
    rw [← stos_get Q i q hq k hk, ← ht, List.getElem?_take_of_lt (by omega), Nat.zero_add]
    simp
/-- none of memory's bytes, nor memory itself, is where stores are -/
theorem MS.apart_q {B : Nat} {W : World} {g : Nat} {v : Value} {bv : List Value} {L : List Ar} (h : MS B W g v bv L) {k : Nat} {cur : Array Value} (hk : W.heap[k]? = some (.cells cur 77 (0, 0))) : ¬ MBlk g v L k := by
  rintro (rfl | e | ⟨a, ha, e⟩)
  · have := h.box
    unfold Box at this
    rw [this] at hk
    simp at hk
  · obtain ⟨_, _, c, hc⟩ := row_block h.own e
    rw [hc] at hk
    simp at hk
  · obtain ⟨_, _, c, hc⟩ := row_block (h.dat a ha).1 e
    rw [hc] at hk
    simp at hk
theorem QB.chg {B : Nat} {W W' : World} {g : Nat} {v : Value} {bv : List Value} {L : List Ar} {S : Nat → Prop} {b : Value} {Q : List Sto} (h : QB B W b Q) (m : MS B W g v bv L) (c : Chg S W W') (hS : ∀ k, S k → MBlk g v L k) : QB B W' b Q :=
  h.keep fun k _ hk _ => c.block k (Array.getElem?_eq_some_iff.1 hk).1 (fun hs => m.apart_q hk (hS k hs))
theorem pend_nil (t : Int) (W : World) : Calls Try.prog 21 #[.pointer none, .int .i64 t] W fun e W' => e = .returned (.int .i64 0) ∧ W = W' := by
  go_enter Try.func21, Try.ntmps21
  go_wp2_with fail
  refine (knows_nil t _).mono ?_; rintro e w1 ⟨rfl, rfl⟩
  go_wp2_with fail
  go_ret
  exact ⟨rfl, rfl⟩
theorem pend_no (t : Int) (g : Nat) (W : World) (ht : knB t = false) : Calls Try.prog 21 #[.pointer (some ⟨g, 0, none⟩), .int .i64 t] W fun e W' => e = .returned (.int .i64 0) ∧ W = W' := by
  have HT := Lib.hid ht
  clear ht
  go_enter Try.func21, Try.ntmps21
  go_wp2_with fail
  refine (knows_any t g _).mono ?_; rintro e w1 ⟨rfl, rfl⟩
  rw [HT.out]
  go_wp2_with fail
  go_ret
  exact ⟨rfl, rfl⟩
theorem knB_nat {t : Nat} (h : t < 8) : knB t = true := by unfold knB; simp; omega
theorem pend_any (t g : Nat) (A : Option Addr) (n c : Nat) (W : World) (ht : t < 8) (hc : W.cell? ⟨g, 1 + t, none⟩ = some (.slice A n c)) :
    Calls Try.prog 21 #[.pointer (some ⟨g, 0, none⟩), .int .i64 t] W fun e W' => e = .returned (.int .i64 n) ∧ W = W' := by
  have HT := Lib.hid (knB_nat ht)
  go_enter Try.func21, Try.ntmps21
  go_wp2_with fail
  refine (knows_any t g _).mono ?_; rintro e w1 ⟨rfl, rfl⟩
  rw [HT.out]
  go_wp2_with fail
  go_ret
  exact ⟨rfl, rfl⟩
end Go.Proofs.Ytlbkmdmnijmieaa
