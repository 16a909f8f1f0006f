/- Layer 9 (memory): a store reaches memory. -/
import Derived.Test.YtlbkmdmnijmieaaMj
namespace Go.Proofs.Ytlbkmdmnijmieaa
open Go Go.RowKit Rp Go.Maps
open Cq (U64 I64 isW nb mask)

/-- an area with another byte at x -/
def Ar.put (a : Ar) (x b : Int) : Ar := { a with bs := a.bs.set (IntKind.u64.wrap (x - a.lo)).toNat b }
def setB : List Ar → Int → Int → List Ar
  | [], _, _ => []
  | a :: L, x, b => if a.has x then a.put x b :: L else a :: setB L x b
theorem setB_map {α : Type} (f : Ar → α) (hf : ∀ a x b, f (Ar.put a x b) = f a) (L : List Ar) (x b : Int) : (setB L x b).map f = L.map f := by
  induction L with
  | nil => rfl
  | cons a L ih =>
    simp only [setB]
    split
    · simp [hf]
    · simp [ih]
theorem setB_val (L : List Ar) (x b : Int) : (setB L x b).map Ar.val = L.map Ar.val := setB_map _ (fun _ _ _ => rfl) L x b
theorem setB_length (L : List Ar) (x b : Int) : (setB L x b).length = L.length := by
  have := congrArg List.length (setB_val L x b); simpa using this
theorem setB_recs (L : List Ar) (x b : Int) : recs (setB L x b) = recs L := by
  have h := setB_map Ar.row (fun _ _ _ => rfl) L x b
  unfold recs
  rw [List.flatMap_def, List.flatMap_def, h]
theorem setB_none (L : List Ar) (x b : Int) (h : findA L x = none) : setB L x b = L := by
  induction L with
  | nil => rfl
  | cons a L ih =>
    unfold findA at h ih
    rw [List.find?_cons] at h
    cases ha : a.has x
    · rw [ha] at h
      simp only [setB, ha]
      rw [if_neg (by simp), ih h]
    · rw [ha] at h; cases h
def DatB (B : Nat) (W : World) (a : Ar) : Prop := W.ownsRow B 5 1 a.val a.n (cellsOf a.bs) ∧ Bytes8 a.bs ∧ a.n ≤ 64 ∧ U64 a.lo
theorem cellsOf_set (bs : List Int) (k : Nat) (b : Int) : (cellsOf bs).set k (.int .u8 b) = cellsOf (bs.set k b) := by
  unfold cellsOf; rw [List.map_set]
theorem bytes8_set {bs : List Int} (h : Bytes8 bs) (k : Nat) (b : Int) (hb : 0 ≤ b ∧ b ≤ 255) : Bytes8 (bs.set k b) := fun c hc => by
  rcases List.mem_or_eq_of_mem_set hc with hc | rfl
  · exact h c hc
  · exact hb
theorem dat_set {B : Nat} {W : World} {gb k : Nat} {x b : Int} (hb : 0 ≤ b ∧ b ≤ 255) : ∀ (L : List Ar) (a : Ar), (∀ a ∈ L, DatB B W a) → L.Pairwise (fun a b => ∀ k, a.val.ownBlock = some k → b.val.ownBlock ≠ some k) → findA L x = some a → a.A = some ⟨gb, 0, none⟩ → IntKind.u64.wrap (x - a.lo) = k →
    ∀ a' ∈ setB L x b, DatB B (W.setCell ⟨gb, k, none⟩ (.int .u8 b)) a' := by
  intro L
  induction L with
  | nil => intro a _ _ h; cases h
  | cons c L ih =>
    intro a hd hp hf hA hk a' ha'
    rw [List.pairwise_cons] at hp
    have hkeep : ∀ d, DatB B W d → d.val.ownBlock ≠ some gb → DatB B (W.setCell ⟨gb, k, none⟩ (.int .u8 b)) d := fun d h1 h2 =>
      ⟨own_keep h1.1 (fun j _ e => Below.heap_setCell W ⟨gb, k, none⟩ _ j (fun e' => h2 (by rw [e, e']))), h1.2⟩
    unfold findA at hf
    rw [List.find?_cons] at hf
    cases hc : c.has x
    · rw [hc] at hf
      simp only [setB, hc] at ha'
      rw [if_neg (by simp)] at ha'
      have hm : a ∈ L := List.mem_of_find?_eq_some hf
      have hab : a.val.ownBlock = some gb := by unfold Ar.val; rw [hA]; rfl
      rcases List.mem_cons.1 ha' with rfl | ha'
      · exact hkeep _ (hd _ (List.mem_cons_self ..)) (fun e => hp.1 a hm gb e hab)
      · exact ih a (fun d hd' => hd d (List.mem_cons_of_mem _ hd')) hp.2 hf hA hk a' ha'
    · rw [hc] at hf
      obtain rfl := Option.some.inj hf
      have hab : c.val.ownBlock = some gb := by unfold Ar.val; rw [hA]; rfl
      simp only [setB, hc] at ha'
      rw [if_pos trivial] at ha'
      rcases List.mem_cons.1 ha' with rfl | ha'
      · obtain ⟨h1, h2, h3, h4⟩ := hd c (List.mem_cons_self ..)
        refine ⟨?_, ?_, h3, h4⟩
        · unfold Ar.val at h1
          rw [hA] at h1
          have := (h1.stored k (.int .u8 b)).1
          rw [cellsOf_set] at this
          show (W.setCell ⟨gb, k, none⟩ (.int .u8 b)).ownsRow B 5 1 (.slice c.A c.n c.c) c.n (cellsOf (c.bs.set (IntKind.u64.wrap (x - c.lo)).toNat b))
          rw [hA, hk, Int.toNat_natCast]
          exact this
        · exact bytes8_set h2 _ b hb
      · exact hkeep _ (hd _ (List.mem_cons_of_mem _ ha')) (fun e => hp.1 a' ha' gb hab e)
/-- the blocks of the areas' bytes -/
def DBlk (L : List Ar) (k : Nat) : Prop := ∃ a ∈ L, a.val.ownBlock = some k
theorem dblk_iff {L L' : List Ar} (h : L.map Ar.val = L'.map Ar.val) (k : Nat) : DBlk L k ↔ DBlk L' k := by
  have e : ∀ M : List Ar, DBlk M k ↔ some k ∈ (M.map Ar.val).map Value.ownBlock := fun M => by
    unfold DBlk; simp [eq_comm]
  rw [e, e, h]
/-- a byte of memory is written -/
theorem MS.put {B : Nat} {W : World} {g : Nat} {v : Value} {bv : List Value} {L : List Ar} (h : MS B W g v bv L) {x b : Int} {a : Ar} {gb k : Nat} (hf : findA L x = some a) (hA : a.A = some ⟨gb, 0, none⟩) (hk : IntKind.u64.wrap (x - a.lo) = k) (hb : 0 ≤ b ∧ b ≤ 255) :
    MS B (W.setCell ⟨gb, k, none⟩ (.int .u8 b)) g v bv (setB L x b) := by
  obtain ⟨hm, _⟩ := findA_is hf
  have hab : a.val.ownBlock = some gb := by unfold Ar.val; rw [hA]; rfl
  obtain ⟨_, _, cur, hcur⟩ := row_block (h.dat a hm).1 hab
  have hgb : g ≠ gb := fun e => by
    have hx := h.box
    rw [e] at hx
    unfold Box at hx
    rw [hx] at hcur
    simp at hcur
  have hvb : v.ownBlock ≠ some gb := fun e => row_ne h.own (h.dat a hm).1 (by decide : (73 : Nat) ≠ 5) e hab
  refine ⟨h.low, h.box.kept (Below.heap_setCell W ⟨gb, k, none⟩ _ g hgb), ?_, by rw [setB_length]; exact h.few, fun e => h.nil (by rw [setB_length] at e; exact e), ?_, ?_⟩
  · rw [setB_length, setB_recs]
    exact own_keep h.own (fun j _ e => Below.heap_setCell W ⟨gb, k, none⟩ _ j (fun e' => hvb (by rw [e, e'])))
  · exact dat_set hb L a h.dat h.apart hf hA hk
  · have e : ∀ M : List Ar, M.Pairwise (fun a b => ∀ k, a.val.ownBlock = some k → b.val.ownBlock ≠ some k) ↔ (M.map Ar.val).Pairwise (fun a b => ∀ k, a.ownBlock = some k → b.ownBlock ≠ some k) := fun M => (List.pairwise_map (f := Ar.val) (R := fun a b => ∀ k, a.ownBlock = some k → b.ownBlock ≠ some k)).symm
    rw [e, setB_val, ← e]
    exact h.apart
/-- an area's bytes, where they lie -/
theorem MS.at {B : Nat} {W : World} {g : Nat} {v : Value} {bv : List Value} {L : List Ar} (h : MS B W g v bv L) {x : Int} {a : Ar} (hf : findA L x = some a) :
    ∃ (k gb : Nat), IntKind.u64.wrap (x - a.lo) = k ∧ k < a.n ∧ a.A = some ⟨gb, 0, none⟩ ∧ DBlk L gb ∧ W.cell? ⟨gb, k, none⟩ = some (.int .u8 (a.byte x)) ∧ W.frozen? ⟨gb, k, none⟩ = false ∧ gb < W.heap.size ∧ B ≤ gb := by
  obtain ⟨hm, _⟩ := findA_is hf
  obtain ⟨k, gb, off, h1, h2, h3, h4, h5⟩ := byte_in h.drd hf
  have ho := (h.dat a hm).1
  have hab : a.val.ownBlock = some gb := by unfold Ar.val; rw [h3]; rfl
  have hb := (row_block ho hab).1
  obtain rfl : off = 0 := by
    rcases ho.2 with ⟨hv, _⟩ | ⟨k, cap, cur, hv, _⟩
    · unfold Ar.val at hv; rw [h3] at hv; cases hv
    · unfold Ar.val at hv; rw [h3] at hv
      simp at hv
      exact hv.1.2
  rw [Nat.zero_add] at h5
  unfold Ar.val at ho
  rw [h3] at ho
  exact ⟨k, gb, h1, h2, h3, ⟨a, hm, hab⟩, h5, ho.frozenAt k, h4, hb⟩
/-- the areas when k bytes of v have come to x -/
def wrF (L : List Ar) (x v : Int) : Nat → List Ar
  | 0 => L
  | k + 1 => setB (wrF L x v k) (x + k) (v / 2 ^ (8 * k) % 256)
theorem wrF_val (L : List Ar) (x v : Int) (k : Nat) : (wrF L x v k).map Ar.val = L.map Ar.val := by
  induction k with
  | zero => rfl
  | succ k ih => rw [wrF, setB_val, ih]
end Go.Proofs.Ytlbkmdmnijmieaa
