/- Layer 9 (memory): Own, of the code. -/
import Derived.Test.YtlbkmdmnijmieaaNd
namespace Go.Proofs.Ytlbkmdmnijmieaa
open Go Go.RowKit Rp Go.Maps
open Cq (U64 I64 isW nb mask)

def Ar.own (a : Ar) (t : Int) : Ar := { a with ow := t }
theorem recs_own (L : List Ar) (k : Nat) (a : Ar) (t : Int) (h : L[k]? = some a) : recs (L.set k (a.own t)) = (recs L).set (k * 5 + 4) (.int .i64 t) := by
  induction L generalizing k with
  | nil => simp at h
  | cons b L ih =>
    have hb : b.row.length = 5 := rfl
    cases k with
    | zero =>
      simp only [List.getElem?_cons_zero, Option.some.injEq] at h
      subst h
      simp only [List.set_cons_zero, recs, List.flatMap_cons, Nat.zero_mul, Nat.zero_add]
      rw [List.set_append_left _ _ (by omega)]
      rfl
    | succ k =>
      simp only [List.set_cons_succ, recs, List.flatMap_cons]
      rw [List.set_append_right _ _ (by omega), hb, show (k + 1) * 5 + 4 - 5 = k * 5 + 4 by omega]
      have := ih k (by simpa using h)
      unfold recs at this
      rw [this]
theorem own_map {α : Type} (f : Ar → α) (hf : ∀ a t, f (Ar.own a t) = f a) (L : List Ar) (k : Nat) (a : Ar) (t : Int) (h : L[k]? = some a) : (L.set k (a.own t)).map f = L.map f := by
  rw [List.map_set, hf]
  obtain ⟨hk, rfl⟩ := List.getElem?_eq_some_iff.1 h
  apply List.ext_getElem?
  intro i
  rw [List.getElem?_set]
  split
  · rename_i e
    subst e
    simp [hk]
  · rfl
theorem MS.own' {B : Nat} {W : World} {g : Nat} {v : Value} {bv : List Value} {L : List Ar} (h : MS B W g v bv L) {k ga n cap : Nat} {a : Ar} (hk : L[k]? = some a) (hv : v = .slice (some ⟨ga, 0, none⟩) n cap) (t : Int) :
    MS B (W.setCell ⟨ga, k * 5 + 4, none⟩ (.int .i64 t)) g v bv (L.set k (a.own t)) := by
  have hvb : v.ownBlock = some ga := by rw [hv]; rfl
  have hx : ∀ j, j ≠ ga → (W.setCell ⟨ga, k * 5 + 4, none⟩ (.int .i64 t)).heap[j]? = W.heap[j]? := fun j hj => Below.heap_setCell W ⟨ga, k * 5 + 4, none⟩ _ j hj
  obtain ⟨_, _, cur, hcur⟩ := row_block h.own hvb
  have hgg : g ≠ ga := fun e => by
    have hb := h.box
    unfold Box at hb
    rw [← e, hb] at hcur
    simp at hcur
  refine ⟨h.low, h.box.kept (hx g hgg), ?_, by rw [List.length_set]; exact h.few, fun e => h.nil (by rwa [List.length_set] at e), fun b hb => ?_, ?_⟩
  · rw [List.length_set, recs_own L k a t hk]
    have hn : n = L.length := by
      rcases h.own.2 with ⟨e, _⟩ | ⟨_, _, _, e, _⟩
      · rw [hv] at e; cases e
      · rw [hv] at e
        simp at e
        exact e.2.1
    subst hn
    rw [hv]
    have := h.own
    rw [hv] at this
    exact (this.stored (k * 5 + 4) (.int .i64 t)).1
  · have hd : ∀ c : Ar, DatB B W c → DatB B (W.setCell ⟨ga, k * 5 + 4, none⟩ (.int .i64 t)) c := fun c hc =>
      ⟨own_keep hc.1 (fun j _ e => hx j (fun e' => row_ne h.own hc.1 (by decide : (73 : Nat) ≠ 5) hvb (by rw [e, e']))), hc.2⟩
    rcases List.mem_or_eq_of_mem_set hb with hb | rfl
    · exact hd b (h.dat b hb)
    · exact hd a (h.dat a (List.mem_of_getElem? hk))
  · have e : ∀ M : List Ar, M.Pairwise (fun a b => ∀ k, a.val.ownBlock = some k → b.val.ownBlock ≠ some k) ↔ (M.map Ar.val).Pairwise (fun a b => ∀ k, a.ownBlock = some k → b.ownBlock ≠ some k) := fun M => (List.pairwise_map (f := Ar.val) (R := fun a b => ∀ k, a.ownBlock = some k → b.ownBlock ≠ some k)).symm
    rw [e, own_map Ar.val (fun _ _ => rfl) L k a t hk, ← e]
    exact h.apart
theorem own_know (t k : Int) (g : Nat) (W : World) (ht : knB t = false) : Calls Try.prog 27 #[.pointer (some ⟨g, 0, none⟩), .int .i64 t, .int .i64 k] W fun e W' => e = .returned (.bool false) ∧ W = W' := by
  have HT := Lib.hid ht
  clear ht
  go_enter Try.func27, Try.ntmps27
  go_wp2_with fail
  refine (knows_any t g _).mono ?_; rintro e w1 ⟨rfl, rfl⟩
  rw [HT.out]
  go_wp2_with fail
  go_ret
  exact ⟨rfl, rfl⟩
theorem own_neg (t k : Int) (g : Nat) (W : World) (ht : knB t = true) (hk : k < 0) : Calls Try.prog 27 #[.pointer (some ⟨g, 0, none⟩), .int .i64 t, .int .i64 k] W fun e W' => e = .returned (.bool false) ∧ W = W' := by
  have HT := Lib.hid ht
  clear ht
  go_enter Try.func27, Try.ntmps27
  go_wp2_with fail
  refine (knows_any t g _).mono ?_; rintro e w1 ⟨rfl, rfl⟩
  rw [HT.out]
  go_wp2_with fail
  go_ret
  exact ⟨rfl, rfl⟩
theorem own_past (t : Int) (k g n c : Nat) (A : Option Addr) (W : World) (ht : knB t = true) (hk : n ≤ k) (hc : W.cell? ⟨g, 0, none⟩ = some (.slice A n c)) : Calls Try.prog 27 #[.pointer (some ⟨g, 0, none⟩), .int .i64 t, .int .i64 k] W fun e W' => e = .returned (.bool false) ∧ W = W' := by
  have HT := Lib.hid ht
  have hk1 : (n : Int) ≤ k := by omega
  clear ht
  go_enter Try.func27, Try.ntmps27
  go_wp2_with fail
  refine (knows_any t g _).mono ?_; rintro e w1 ⟨rfl, rfl⟩
  rw [HT.out]
  go_wp2_with fail
  go_ret
  exact ⟨rfl, rfl⟩
theorem own_public (t ow : Int) (k g n c ga : Nat) (W : World) (ht : knB t = true) (hk : k < n) (hc : W.cell? ⟨g, 0, none⟩ = some (.slice (some ⟨ga, 0, none⟩) n c)) (h3 : W.cell? ⟨ga, k * 5 + 3, none⟩ = some (.bool false)) (_h4 : W.cell? ⟨ga, k * 5 + 4, none⟩ = some (.int .i64 ow)) :
    Calls Try.prog 27 #[.pointer (some ⟨g, 0, none⟩), .int .i64 t, .int .i64 k] W fun e W' => e = .returned (.bool false) ∧ W = W' := by
  have HT := Lib.hid ht
  have hk1 : (k : Int) < n := by omega
  clear ht
  go_enter Try.func27, Try.ntmps27
  go_wp2_with fail
  refine (knows_any t g _).mono ?_; rintro e w1 ⟨rfl, rfl⟩
  rw [HT.out]
  go_wp2_with fail
  go_ret
  exact ⟨rfl, rfl⟩
theorem own_taken (t ow : Int) (k g n c ga : Nat) (W : World) (ht : knB t = true) (hk : k < n) (hc : W.cell? ⟨g, 0, none⟩ = some (.slice (some ⟨ga, 0, none⟩) n c)) (h3 : W.cell? ⟨ga, k * 5 + 3, none⟩ = some (.bool true)) (h4 : W.cell? ⟨ga, k * 5 + 4, none⟩ = some (.int .i64 ow)) (ho : ow ≠ -1) :
    Calls Try.prog 27 #[.pointer (some ⟨g, 0, none⟩), .int .i64 t, .int .i64 k] W fun e W' => e = .returned (.bool false) ∧ W = W' := by
  have HT := Lib.hid ht
  have hk1 : (k : Int) < n := by omega
  have hne : (ow != -1) = true := by simpa using ho
  clear ht ho
  go_enter Try.func27, Try.ntmps27
  go_wp2_with fail
  refine (knows_any t g _).mono ?_; rintro e w1 ⟨rfl, rfl⟩
  rw [HT.out]
  go_wp2_with fail
  go_ret
  exact ⟨rfl, rfl⟩
theorem own_free (t : Int) (k g n c ga : Nat) (W : World) (ht : knB t = true) (hk : k < n) (hc : W.cell? ⟨g, 0, none⟩ = some (.slice (some ⟨ga, 0, none⟩) n c)) (h3 : W.cell? ⟨ga, k * 5 + 3, none⟩ = some (.bool true)) (h4 : W.cell? ⟨ga, k * 5 + 4, none⟩ = some (.int .i64 (-1))) (hf : W.frozen? ⟨ga, k * 5 + 4, none⟩ = false) :
    Calls Try.prog 27 #[.pointer (some ⟨g, 0, none⟩), .int .i64 t, .int .i64 k] W fun e W' => e = .returned (.bool true) ∧ W' = W.setCell ⟨ga, k * 5 + 4, none⟩ (.int .i64 t) := by
  have HT := Lib.hid ht
  have hk1 : (k : Int) < n := by omega
  clear ht
  go_enter Try.func27, Try.ntmps27
  go_wp2_with fail
  refine (knows_any t g _).mono ?_; rintro e w1 ⟨rfl, rfl⟩
  rw [HT.out]
  go_wp2_with fail
  go_ret
  exact ⟨rfl, rfl⟩
end Go.Proofs.Ytlbkmdmnijmieaa
