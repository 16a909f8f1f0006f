/- Layer 9 (memory): the area of an address, of the code. -/
import Derived.Test.YtlbkmdmnijmieaaMa
import Derived.LoopTactic
namespace Go.Proofs.Ytlbkmdmnijmieaa
open Go Go.RowKit Rp
open Cq (U64 I64 isW nb mask)

/-- an area, as memory tells of it -/
structure Ar where
  lo : Int
  A : Option Addr
  n : Nat
  c : Nat
  wr : Bool
  pv : Bool
  ow : Int
  bs : List Int
def Ar.row (a : Ar) : List Value := [.int .u64 a.lo, .slice a.A a.n a.c, .bool a.wr, .bool a.pv, .int .i64 a.ow]
def Ar.has (a : Ar) (x : Int) : Bool := hasB a.lo a.n x
/-- the areas of memory at block g, in a row at block ga -/
structure MRd (W : World) (g ga c : Nat) (L : List Ar) : Prop where
  lt : g < W.heap.size
  head : W.cell? ⟨g, 0, none⟩ = some (.slice (if L.length = 0 then none else some ⟨ga, 0, none⟩) L.length (if L.length = 0 then 0 else c))
  few : L.length ≤ 140737488355328
  rows : ∀ i a, L[i]? = some a → ga < W.heap.size ∧ a.n ≤ 140737488355328 ∧ ∀ k, k < 5 → W.cell? ⟨ga, i * 5 + k, none⟩ = a.row[k]?
theorem MRd.kp {W W' : World} {g ga c : Nat} {L : List Ar} (h : MRd W g ga c L) (k : Kp W W') : MRd W' g ga c L :=
  ⟨Nat.lt_of_lt_of_le h.lt k.size, (k.cell (p := ⟨g, 0, none⟩) h.lt).trans h.head, h.few, fun i a e => by
    obtain ⟨h1, h2, h3⟩ := h.rows i a e
    exact ⟨Nat.lt_of_lt_of_le h1 k.size, h2, fun j hj => (k.cell (p := ⟨ga, i * 5 + j, none⟩) h1).trans (h3 j hj)⟩⟩
/-- what find tells -/
def findV (L : List Ar) (x : Int) : Value := match L.find? (fun a => a.has x) with
  | some a => .tuple #[.agg a.row.toArray, .bool true]
  | none => .tuple #[.agg #[.int .u64 0, .slice none 0 0, .bool false, .bool false, .int .i64 0], .bool false]
theorem find_none (L : List Ar) (x : Int) (h : ∀ (i : Nat) (a : Ar), L[i]? = some a → a.has x = false) : L.find? (fun a => a.has x) = none := by
  rw [List.find?_eq_none]
  intro a ha
  obtain ⟨i, hi, e⟩ := List.getElem_of_mem ha
  simp [h i a (by rw [List.getElem?_eq_getElem hi, e])]
theorem find_at (L : List Ar) (x : Int) (k : Nat) (a : Ar) (hk : L[k]? = some a) (ha : a.has x = true) (h : ∀ (i : Nat) (a : Ar), i < k → L[i]? = some a → a.has x = false) : L.find? (fun a => a.has x) = some a := by
  obtain ⟨hk1, hk2⟩ := List.getElem?_eq_some_iff.1 hk
  rw [List.find?_eq_some_iff_getElem]
  exact ⟨ha, k, hk1, hk2, fun j hj => by simpa using h j _ hj (List.getElem?_eq_getElem (by omega))⟩
set_option maxHeartbeats 2000000 in
theorem find_any (g ga c : Nat) (L : List Ar) (x : Int) (W : World) (h : MRd W g ga c L) :
    Calls Try.prog 48 #[.pointer (some ⟨g, 0, none⟩), .int .u64 x] W fun e W' => e = .returned (findV L x) ∧ Kp W W' := by
  have hh := h.head
  have hf := h.few
  have hl := h.lt
  have H := Lib.hid h
  clear h
  rcases Nat.eq_zero_or_pos L.length with h0 | h0
  · have e : L = [] := List.length_eq_zero_iff.1 h0
    subst e
    simp only [List.length_nil] at hh
    clear h0 hf
    go_enter Try.func48, Try.ntmps48
    go_wp2_with fail
    have HZ := Lib.hid (heap_alloc_new W (.cells #[.int .u64 0, .slice none 0 0, .bool false, .bool false, .int .i64 0] 73))
    have HK := Lib.hid ((Kp.rfl W).new (.cells #[.int .u64 0, .slice none 0 0, .bool false, .bool false, .int .i64 0] 73))
    generalize W.alloc (.cells #[.int .u64 0, .slice none 0 0, .bool false, .bool false, .int .i64 0] 73) = w1 at *
    go_loopw [13] (fun i wr => i = .int .i64 0 ∧ w1 = wr) (fun _ _ => 0)
    case atStart => exact ⟨rfl, rfl⟩
    case round =>
      obtain ⟨rfl, rfl⟩ := hrel
      go_wp2_with (refine wpList_store_row rfl 73 _ _ rfl W.heap.size #[.int .u64 0, .slice none 0 0, .bool false, .bool false, .int .i64 0] rfl rfl 73 _ HZ.out (by kernel_rfl) rfl (by kernel_rfl) ?_)
      exact bodyPost_ret (results_cell_tmp rfl _ _ W.heap.size 73 #[.int .u64 0, .slice none 0 0, .bool false, .bool false, .int .i64 0] (0, 0) _ _ rfl rfl (setRow_heap _ _ _ _ _ _ HZ.out) Try.underlying73 rfl (by kernel_rfl)) rfl ⟨rfl, HK.out.row _ _ (by omega)⟩
  · rw [if_neg (by omega), if_neg (by omega)] at hh
    obtain ⟨n, hn⟩ : ∃ n, n = L.length := ⟨_, rfl⟩
    rw [← hn] at hh h0 hf
    have HN := Lib.hid hn
    clear hn
    go_enter Try.func48, Try.ntmps48
    go_wp2_with fail
    have HZ := Lib.hid (heap_alloc_new W (.cells #[.int .u64 0, .slice none 0 0, .bool false, .bool false, .int .i64 0] 73))
    have HK := Lib.hid ((Kp.rfl W).new (.cells #[.int .u64 0, .slice none 0 0, .bool false, .bool false, .int .i64 0] 73))
    have hz1 : W.heap.size < (W.alloc (.cells #[.int .u64 0, .slice none 0 0, .bool false, .bool false, .int .i64 0] 73)).heap.size := by simp
    generalize W.alloc (.cells #[.int .u64 0, .slice none 0 0, .bool false, .bool false, .int .i64 0] 73) = w1 at *
    go_loopw [13] (fun i wr => ∃ k : Nat, k ≤ n ∧ i = .int .i64 k ∧ (∀ (i : Nat) (a : Ar), i < k → L[i]? = some a → a.has x = false) ∧ Kp w1 wr) (fun i _ => n - (intOf i).toNat)
    case atStart => exact ⟨0, Nat.zero_le _, rfl, fun _ _ h => absurd h (by omega), Kp.rfl _⟩
    case round =>
      obtain ⟨k, hk, rfl, hno, hkp⟩ := hrel
      by_cases hlt : k < n
      · obtain ⟨a, ha⟩ : ∃ a, L[k]? = some a := ⟨_, List.getElem?_eq_getElem (by have := HN.out; omega)⟩
        obtain ⟨h1, h2, h3⟩ := (H.out.kp (HK.out.next hkp)).rows k a ha
        have c0 := h3 0 (by omega)
        rw [Nat.add_zero] at c0
        have c1 := h3 1 (by omega)
        have c2 := h3 2 (by omega)
        have c3 := h3 3 (by omega)
        have c4 := h3 4 (by omega)
        simp only [Ar.row, List.getElem?_cons_zero, List.getElem?_cons_succ] at c0 c1 c2 c3 c4
        have HA := Lib.hid ha
        have HNO := Lib.hid hno
        have HKP := Lib.hid hkp
        clear ha hno hkp h3
        go_wp2_with fail
        refine (has_any a.lo x a.A a.n a.c a.wr a.pv (by omega) _).mono ?_; rintro e w2 ⟨rfl, hw2⟩
        have HK2 : Hid (Kp wr w2) := by rw [hw2]; exact ((Kp.rfl wr).new _).new _
        have HB7 : Hid (w2.heap[wr.heap.size]? = some (.cells #[.int .u64 a.lo, .slice a.A a.n a.c, .bool a.wr, .bool a.pv, .int .i64 a.ow] 73 (0, 0))) := by
          rw [hw2]
          exact (Below.heap_alloc _ _ _ (by simp)).trans (heap_alloc_new wr (.cells #[.int .u64 a.lo, .slice a.A a.n a.c, .bool a.wr, .bool a.pv, .int .i64 a.ow] 73))
        have HZ2 := Lib.hid ((((HKP.out).next HK2.out).block _ hz1).trans HZ.out)
        clear hw2 c0 c1 c2 c3 c4
        cases hb : hasB a.lo a.n x
        · have HB : Hid (∀ (i : Nat) (b : Ar), i < k + 1 → L[i]? = some b → b.has x = false) := fun i b hi e => by
            rcases Nat.lt_succ_iff_lt_or_eq.1 hi with h | rfl
            · exact HNO.out i b h e
            · obtain rfl := Option.some.inj (HA.out.symm.trans e); exact hb
          clear hb
          go_wp2_with fail
          go_roundw
          case rel => exact ⟨k + 1, by omega, by go_num, HB.out, HKP.out.next HK2.out⟩
          case measure => simp [intOf]; omega
        · have HB := Lib.hid (find_at L x k a HA.out hb HNO.out)
          clear hb
          go_wp2_with (first | (refine wpList_load_any (by rfl) 73 _ rfl ⟨wr.heap.size, 0, none⟩ rfl #[.int .u64 a.lo, .slice a.A a.n a.c, .bool a.wr, .bool a.pv, .int .i64 a.ow] (run_loadVar_row _ _ _ _ _ _ _ HB7.out Try.underlying73 rfl (by kernel_rfl)) ?_) | (refine wpList_store_row rfl 73 _ _ rfl W.heap.size #[.int .u64 a.lo, .slice a.A a.n a.c, .bool a.wr, .bool a.pv, .int .i64 a.ow] rfl rfl 73 _ HZ2.out (by kernel_rfl) rfl (by kernel_rfl) ?_))
          exact bodyPost_ret (results_cell_tmp rfl _ _ W.heap.size 73 #[.int .u64 a.lo, .slice a.A a.n a.c, .bool a.wr, .bool a.pv, .int .i64 a.ow] (0, 0) _ _ rfl rfl (setRow_heap _ _ _ _ _ _ HZ2.out) Try.underlying73 rfl (by kernel_rfl)) rfl ⟨by rw [findV, HB.out]; rfl, (HK.out.next (HKP.out.next HK2.out)).row _ _ (by omega)⟩
      · have HZ2 := Lib.hid ((hkp.block _ hz1).trans HZ.out)
        have HF := Lib.hid (find_none L x (fun i a e => hno i a (by have := (List.getElem?_eq_some_iff.1 e).1; have := HN.out; omega) e))
        have HKP := Lib.hid hkp
        clear hno hkp
        go_wp2_with (refine wpList_store_row rfl 73 _ _ rfl W.heap.size #[.int .u64 0, .slice none 0 0, .bool false, .bool false, .int .i64 0] rfl rfl 73 _ HZ2.out (by kernel_rfl) rfl (by kernel_rfl) ?_)
        exact bodyPost_ret (results_cell_tmp rfl _ _ W.heap.size 73 #[.int .u64 0, .slice none 0 0, .bool false, .bool false, .int .i64 0] (0, 0) _ _ rfl rfl (setRow_heap _ _ _ _ _ _ HZ2.out) Try.underlying73 rfl (by kernel_rfl)) rfl ⟨by rw [findV, HF.out]; rfl, (HK.out.next HKP.out).row _ _ (by omega)⟩
def findA (L : List Ar) (x : Int) : Option Ar := L.find? (fun a => a.has x)
theorem find_yes {g ga c : Nat} {L : List Ar} {x : Int} {W : World} (h : MRd W g ga c L) {a : Ar} (ha : findA L x = some a) :
    Calls Try.prog 48 #[.pointer (some ⟨g, 0, none⟩), .int .u64 x] W fun e W' => e = .returned (.tuple #[.agg #[.int .u64 a.lo, .slice a.A a.n a.c, .bool a.wr, .bool a.pv, .int .i64 a.ow], .bool true]) ∧ Kp W W' := by
  refine (find_any g ga c L x W h).mono fun e W' ⟨h1, h2⟩ => ⟨?_, h2⟩
  rw [h1, findV, show L.find? (fun a => a.has x) = some a from ha]; rfl
theorem find_no {g ga c : Nat} {L : List Ar} {x : Int} {W : World} (h : MRd W g ga c L) (ha : findA L x = none) :
    Calls Try.prog 48 #[.pointer (some ⟨g, 0, none⟩), .int .u64 x] W fun e W' => e = .returned (.tuple #[.agg #[.int .u64 0, .slice none 0 0, .bool false, .bool false, .int .i64 0], .bool false]) ∧ Kp W W' := by
  refine (find_any g ga c L x W h).mono fun e W' ⟨h1, h2⟩ => ⟨?_, h2⟩
  rw [h1, findV, show L.find? (fun a => a.has x) = none from ha]
end Go.Proofs.Ytlbkmdmnijmieaa
