/- Layer 9 (memory): what memory is in the heap; New. -/
import Derived.Test.YtlbkmdmnijmieaaMh
import Derived.Deep.AppendLies
namespace Go.Proofs.Ytlbkmdmnijmieaa
open Go Go.RowKit Rp Go.Maps
open Cq (U64 I64 isW nb mask)

/-- the slice of an area's bytes -/
def Ar.val (a : Ar) : Value := .slice a.A a.n a.c
def recs (L : List Ar) : List Value := L.flatMap Ar.row
theorem recs_snoc (L : List Ar) (a : Ar) : recs (L ++ [a]) = recs L ++ a.row := by simp [recs]
theorem recs_length (L : List Ar) : (recs L).length = L.length * 5 := by
  induction L with
  | nil => rfl
  | cons a L ih => simp only [recs, List.flatMap_cons, List.length_append, List.length_cons] at ih ⊢; rw [ih]; simp [Ar.row]; omega
theorem recs_get (L : List Ar) (i : Nat) (a : Ar) (h : L[i]? = some a) (k : Nat) (hk : k < 5) : (recs L)[i * 5 + k]? = a.row[k]? := by
  induction L generalizing i with
  | nil => simp at h
  | cons b L ih =>
    have hb : b.row.length = 5 := rfl
    simp only [recs, List.flatMap_cons]
    cases i with
    | zero =>
      simp only [List.getElem?_cons_zero, Option.some.injEq] at h
      subst h
      rw [Nat.zero_mul, Nat.zero_add, List.getElem?_append_left (by omega)]
    | succ i =>
      rw [List.getElem?_append_right (by omega), hb, show (i + 1) * 5 + k - 5 = i * 5 + k by omega]
      exact ih i (by simpa using h)
/-- memory at block g: areas' slice v, buffers' slices bv; everything from block B on -/
structure MS (B : Nat) (W : World) (g : Nat) (v : Value) (bv : List Value) (L : List Ar) : Prop where
  low : B ≤ g
  box : Box W g 71 (v :: bv)
  own : W.ownsRow B 73 5 v L.length (recs L)
  few : L.length ≤ 16
  nil : L.length = 0 → v = .slice none 0 0
  dat : ∀ a ∈ L, W.ownsRow B 5 1 a.val a.n (cellsOf a.bs) ∧ Bytes8 a.bs ∧ a.n ≤ 64 ∧ U64 a.lo
  apart : L.Pairwise fun a b => ∀ k, a.val.ownBlock = some k → b.val.ownBlock ≠ some k
theorem row_block {W : World} {B e size n : Nat} {v : Value} {xs : List Value} (h : W.ownsRow B e size v n xs) {k : Nat} (hk : v.ownBlock = some k) : B ≤ k ∧ k < W.heap.size ∧ ∃ cur, W.heap[k]? = some (.cells cur e (0, 0)) := by
  rcases h.2 with ⟨rfl, _⟩ | ⟨g, cap, cur, rfl, hB, hg, _⟩
  · simp [Value.ownBlock] at hk
  · simp [Value.ownBlock] at hk
    subst hk
    exact ⟨hB, (Array.getElem?_eq_some_iff.1 hg).1, cur, hg⟩
theorem row_ne {W : World} {B B' e e' size size' n n' : Nat} {v v' : Value} {xs xs' : List Value} (h : W.ownsRow B e size v n xs) (h' : W.ownsRow B' e' size' v' n' xs') (hne : e ≠ e') {k : Nat} (hk : v.ownBlock = some k) : v'.ownBlock ≠ some k := fun hk' => by
  obtain ⟨_, _, cur, h1⟩ := row_block h hk
  obtain ⟨_, _, cur', h2⟩ := row_block h' hk'
  rw [h1] at h2
  simp at h2
  exact hne h2.2
/-- the blocks of memory -/
def MBlk (g : Nat) (v : Value) (L : List Ar) (k : Nat) : Prop := k = g ∨ v.ownBlock = some k ∨ ∃ a ∈ L, a.val.ownBlock = some k
theorem MS.lt {B : Nat} {W : World} {g : Nat} {v : Value} {bv : List Value} {L : List Ar} (h : MS B W g v bv L) {k : Nat} (hk : MBlk g v L k) : B ≤ k ∧ k < W.heap.size := by
  rcases hk with rfl | hk | ⟨a, ha, hk⟩
  · exact ⟨h.low, h.box.lt⟩
  · exact ⟨(row_block h.own hk).1, (row_block h.own hk).2.1⟩
  · exact ⟨(row_block (h.dat a ha).1 hk).1, (row_block (h.dat a ha).1 hk).2.1⟩
theorem MS.keep {B : Nat} {W W' : World} {g : Nat} {v : Value} {bv : List Value} {L : List Ar} (h : MS B W g v bv L) (hk : ∀ k, MBlk g v L k → W'.heap[k]? = W.heap[k]?) : MS B W' g v bv L :=
  ⟨h.low, h.box.kept (hk g (.inl rfl)), own_keep h.own (fun k _ e => hk k (.inr (.inl e))), h.few, h.nil, fun a ha => ⟨own_keep (h.dat a ha).1 (fun k _ e => hk k (.inr (.inr ⟨a, ha, e⟩))), (h.dat a ha).2⟩, h.apart⟩
theorem MS.kp {B : Nat} {W W' : World} {g : Nat} {v : Value} {bv : List Value} {L : List Ar} (h : MS B W g v bv L) (k : Kp W W') : MS B W' g v bv L :=
  h.keep fun j hj => k.block j (h.lt hj).2
/-- as the walks read it -/
theorem MS.rd {B : Nat} {W : World} {g : Nat} {v : Value} {bv : List Value} {L : List Ar} (h : MS B W g v bv L) : ∃ ga c, MRd W g ga c L := by
  have hf := h.few
  rcases h.own.2 with ⟨hv, h0⟩ | ⟨ga, cap, cur, hv, hB, hg, hn, hc, hs, ht⟩
  · refine ⟨0, 0, h.box.lt, ?_, by omega, fun i a e => ?_⟩
    · have := h.box.cell 0
      rw [hv] at this
      simpa [h0] using this
    · have := List.length_eq_zero_iff.1 h0
      subst this
      simp at e
  · by_cases h0 : L.length = 0
    · rw [h.nil h0] at hv; cases hv
    · refine ⟨ga, cap, h.box.lt, ?_, by omega, fun i a e => ?_⟩
      · have := h.box.cell 0
        rw [hv] at this
        simpa [h0] using this
      · have hi := (List.getElem?_eq_some_iff.1 e).1
        have ha : a ∈ L := List.mem_of_getElem? e
        refine ⟨(Array.getElem?_eq_some_iff.1 hg).1, by have := (h.dat a ha).2.2.1; omega, fun k hk => ?_⟩
        rw [cell_of_row W ga _ cur _ _ hg, ← recs_get L i a e k hk, ← ht, List.getElem?_take_of_lt (by omega)]
        simp
theorem MS.drd {B : Nat} {W : World} {g : Nat} {v : Value} {bv : List Value} {L : List Ar} (h : MS B W g v bv L) : DRd W L := fun a ha => by
  obtain ⟨h1, h2, h3, _⟩ := h.dat a ha
  have hl : a.bs.length = a.n := by have := h1.1; rw [cellsOf_length] at this; omega
  exact ⟨hl, own_reads (n := a.n) (c := a.c) (by rw [hl]; exact h1), h2⟩
/-- what an area holds, wherever it lies -/
structure Av where
  lo : Int
  wr : Bool
  pv : Bool
  bs : List Int
def Ar.av (a : Ar) : Av := ⟨a.lo, a.wr, a.pv, a.bs⟩
def Ar.row4 (a : Ar) : List Value := [.int .u64 a.lo, .slice a.A a.n a.c, .bool a.wr, .bool a.pv]
/-- areas as an argument -/
structure AIn (W : World) (A : Option Addr) (I : List Ar) : Prop where
  few : I.length ≤ 16
  at' : 0 < I.length → ∃ gb off, A = some ⟨gb, off, none⟩ ∧ gb < W.heap.size ∧ ∀ (i : Nat) (a : Ar), I[i]? = some a → ∀ k, k < 4 → W.cell? ⟨gb, off + i * 4 + k, none⟩ = a.row4[k]?
  dat : ∀ a ∈ I, a.bs.length = a.n ∧ Reads W a.A a.bs ∧ Bytes8 a.bs ∧ (a.A = none → a.c = 0 ∧ a.n = 0) ∧ a.n ≤ 64 ∧ U64 a.lo
theorem reads_kp {W W' : World} {A : Option Addr} {bs : List Int} (h : Reads W A bs) (k : Kp W W') : Reads W' A bs := fun hp => by
  obtain ⟨g, off, e, hg, hc⟩ := h hp
  exact ⟨g, off, e, Nat.lt_of_lt_of_le hg k.size, fun i hi => (k.cell (p := ⟨g, off + i, none⟩) hg).trans (hc i hi)⟩
theorem AIn.kp {W W' : World} {A : Option Addr} {I : List Ar} (h : AIn W A I) (k : Kp W W') : AIn W' A I :=
  ⟨h.few, fun hp => by
    obtain ⟨gb, off, e, hg, hc⟩ := h.at' hp
    exact ⟨gb, off, e, Nat.lt_of_lt_of_le hg k.size, fun i a ha j hj => (k.cell (p := ⟨gb, off + i * 4 + j, none⟩) hg).trans (hc i a ha j hj)⟩,
    fun a ha => by
      obtain ⟨h1, h2, h3⟩ := h.dat a ha
      exact ⟨h1, reads_kp h2 k, h3⟩⟩
theorem infoRec : (Try.prog.info? 73).map (fun i => (i.zero, i.size, i.bytes)) = some (some (.agg #[.int .u64 0, .slice none 0 0, .bool false, .bool false, .int .i64 0]), 5, 48) := by kernel_rfl
/-- one area more -/
theorem MS.add {B : Nat} {W W1 W2 W3 : World} {g : Nat} {v : Value} {bv : List Value} {L : List Ar} (h : MS B W g v bv L) {a : Ar} (h1 : W1.ownsRow W.heap.size 5 1 a.val a.n (cellsOf a.bs)) (k1 : Kp W W1) (k2 : Kp W1 W2) (hB : B ≤ W.heap.size)
    {g' cap : Nat} (ho : W3.ownsRow B 73 5 (.slice (some ⟨g', 0, none⟩) (L.length + 1) cap) (L.length + 1) (recs L ++ a.row)) (hgr : W2.grownBy W3 v.ownBlock) (hat : v.ownBlock = some g' ∨ g' = W2.heap.size)
    (hb : Bytes8 a.bs) (hn : a.n ≤ 64) (hu : U64 a.lo) (hf : L.length + 1 ≤ 16) :
    MS B (W3.setCell ⟨g, 0, none⟩ (.slice (some ⟨g', 0, none⟩) (L.length + 1) cap)) g (.slice (some ⟨g', 0, none⟩) (L.length + 1) cap) bv (L ++ [a]) := by
  have hk2 : Kp W W2 := k1.next k2
  have hg2 : g < W2.heap.size := Nat.lt_of_lt_of_le h.box.lt hk2.size
  have hvg : v.ownBlock ≠ some g := ownBlock_ne h.own h.box (by decide)
  have hbox : Box W3 g 71 (v :: bv) := (h.box.kept (hk2.block g h.box.lt)).kept (hgr.block g hg2 (fun e => hvg e.symm))
  have hb2 := hbox.put 0 (.slice (some ⟨g', 0, none⟩) (L.length + 1) cap)
  simp only [List.set_cons_zero] at hb2
  have hgg : g' ≠ g := by
    rintro rfl
    rcases hat with e | e
    · exact hvg e
    · omega
  have hkeep : ∀ (b : Ar), W2.ownsRow B 5 1 b.val b.n (cellsOf b.bs) → W3.ownsRow B 5 1 b.val b.n (cellsOf b.bs) ∧ b.val.ownBlock ≠ some g := fun b hb => by
    have hbl : ∀ k, b.val.ownBlock = some k → W3.heap[k]? = W2.heap[k]? := fun k e =>
      hgr.block k (row_block hb e).2.1 (fun e' => (row_ne (own_kp h.own hk2) hb (by decide : (73 : Nat) ≠ 5) e'.symm) e)
    exact ⟨own_keep hb (fun k _ e => hbl k e), fun e => by
      obtain ⟨_, _, cur, hh⟩ := row_block hb e
      have := hk2.block g h.box.lt
      rw [h.box] at this
      rw [this] at hh
      simp at hh⟩
  have hset : ∀ k, k ≠ g → (W3.setCell ⟨g, 0, none⟩ (.slice (some ⟨g', 0, none⟩) (L.length + 1) cap)).heap[k]? = W3.heap[k]? := fun k hk => Below.heap_setCell W3 ⟨g, 0, none⟩ _ k hk
  have hdat : ∀ (b : Ar), W2.ownsRow B 5 1 b.val b.n (cellsOf b.bs) → (W3.setCell ⟨g, 0, none⟩ (.slice (some ⟨g', 0, none⟩) (L.length + 1) cap)).ownsRow B 5 1 b.val b.n (cellsOf b.bs) := fun b hb => by
    obtain ⟨h3, h4⟩ := hkeep b hb
    exact own_keep h3 (fun k _ e => hset k (fun e' => h4 (e' ▸ e)))
  have ha2 : W2.ownsRow B 5 1 a.val a.n (cellsOf a.bs) := own_base (own_kp h1 k2) hB
  refine ⟨h.low, hb2, ?_, by simpa using hf, fun e => by simp at e, fun b hb' => ?_, ?_⟩
  · rw [recs_snoc, List.length_append, List.length_singleton]
    exact own_keep ho (fun k _ e => hset k (fun e' => by
      simp [Value.ownBlock] at e
      exact hgg (e.trans e')))
  · rcases List.mem_append.1 hb' with hb' | hb'
    · exact ⟨hdat b (own_kp (h.dat b hb').1 hk2), (h.dat b hb').2⟩
    · obtain rfl := List.mem_singleton.1 hb'
      exact ⟨hdat b ha2, hb, hn, hu⟩
  · rw [List.pairwise_append]
    refine ⟨h.apart, List.pairwise_singleton _ _, fun b hb' c hc k e e' => ?_⟩
    obtain rfl := List.mem_singleton.1 hc
    have := (row_block h1 e').1
    have := (row_block (h.dat b hb').1 e).2.1
    omega
end Go.Proofs.Ytlbkmdmnijmieaa
