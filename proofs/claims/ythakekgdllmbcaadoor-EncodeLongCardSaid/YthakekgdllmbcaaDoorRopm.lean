/- What memory holds for a rope: one block with the slice, and the row that the slice owns; what a call leaves as it was. -/
import Derived.WalkKit
import Derived.Below
import Derived.Laws.AppendOwn
import Derived.Laws.OwnMore
import Derived.Deep.Draws
namespace Rp
open Go Go.RowKit

/-- block g: these cells, of type t, none frozen -/
def Box (W : World) (g t : Nat) (cs : List Value) : Prop := W.heap[g]? = some (.cells cs.toArray t (0, 0))
theorem Box.lt {W : World} {g t : Nat} {cs : List Value} (h : Box W g t cs) : g < W.heap.size := (Array.getElem?_eq_some_iff.1 h).1
theorem Box.cell {W : World} {g t : Nat} {cs : List Value} (h : Box W g t cs) (i : Nat) : W.cell? ⟨g, i, none⟩ = cs[i]? := by
  unfold Box at h; simp [World.cell?, h]
theorem Box.frozen {W : World} {g t : Nat} {cs : List Value} (h : Box W g t cs) (i : Nat) : W.frozen? ⟨g, i, none⟩ = false := by
  unfold Box at h; simp [World.frozen?, h]
theorem Box.kept {W W' : World} {g t : Nat} {cs : List Value} (h : Box W g t cs) (e : W'.heap[g]? = W.heap[g]?) : Box W' g t cs := by
  unfold Box at *; rw [e, h]
theorem Box.fresh (W : World) (t : Nat) (cs : List Value) : Box (W.alloc (.cells cs.toArray t)) W.heap.size t cs := heap_alloc_new W _
theorem Box.put {W : World} {g t : Nat} {cs : List Value} (h : Box W g t cs) (i : Nat) (u : Value) : Box (W.setCell ⟨g, i, none⟩ u) g t (cs.set i u) := by
  unfold Box at *
  simp [World.setCell, Array.getElem?_modify, h]

/-- from W to W' at most the blocks of S have turned; new ones have come -/
structure Chg (S : Nat → Prop) (W W' : World) : Prop where
  os : W'.os = W.os
  tape : W'.tape = W.tape
  output : W'.output = W.output
  size : W.heap.size ≤ W'.heap.size
  block : ∀ k, k < W.heap.size → ¬ S k → W'.heap[k]? = W.heap[k]?
theorem Chg.refl (S : Nat → Prop) (W : World) : Chg S W W := ⟨rfl, rfl, rfl, Nat.le_refl _, fun _ _ _ => rfl⟩
theorem Chg.trans {S S' : Nat → Prop} {W W' W'' : World} (h : Chg S W W') (g : Chg S' W' W'') (hs : ∀ k, k < W.heap.size → S' k → S k) : Chg S W W'' :=
  ⟨g.os.trans h.os, g.tape.trans h.tape, g.output.trans h.output, Nat.le_trans h.size g.size, fun k hk hn =>
    (g.block k (Nat.lt_of_lt_of_le hk h.size) (fun hs' => hn (hs k hk hs'))).trans (h.block k hk hn)⟩
theorem Chg.mono {S S' : Nat → Prop} {W W' : World} (h : Chg S W W') (hs : ∀ k, k < W.heap.size → S k → S' k) : Chg S' W W' :=
  ⟨h.os, h.tape, h.output, h.size, fun k hk hn => h.block k hk (fun a => hn (hs k hk a))⟩
theorem Chg.drew {S : Nat → Prop} {W W' : World} (h : Chg S W W') : Chg S W W'.drew := ⟨h.os, h.tape, h.output, h.size, h.block⟩
theorem Chg.drewN {S : Nat → Prop} {W W' : World} (h : Chg S W W') (n : Nat) : Chg S W (W'.drewN n) := ⟨h.os, h.tape, h.output, h.size, h.block⟩
theorem Chg.alloc {S : Nat → Prop} {W W' : World} (h : Chg S W W') (o : Obj) : Chg S W (W'.alloc o) :=
  h.trans (S' := S) ⟨rfl, rfl, rfl, by simp, fun k hk _ => Below.heap_alloc W' o k hk⟩ (fun _ _ a => a)
theorem Chg.setCell {S : Nat → Prop} {W W' : World} (h : Chg S W W') {p : Addr} (hp : p.block < W.heap.size → S p.block) (u : Value) : Chg S W (W'.setCell p u) :=
  ⟨h.os, h.tape, h.output, by simpa [World.setCell] using h.size, fun k hk hn => by
    have hne : k ≠ p.block := fun e => hn (e ▸ hp (e ▸ hk))
    exact (Below.heap_setCell W' p u k hne).trans (h.block k hk hn)⟩
theorem Chg.grown {S : Nat → Prop} {W W' W'' : World} {row : Option Nat} (h : Chg S W W') (g : W'.grownBy W'' row) (hr : ∀ k, row = some k → k < W.heap.size → S k) : Chg S W W'' :=
  ⟨g.os.trans h.os, g.tape.trans h.tape, g.output.trans h.output, Nat.le_trans h.size g.size, fun k hk hn =>
    (g.block k (Nat.lt_of_lt_of_le hk h.size) (fun e => hn (hr k e.symm hk))).trans (h.block k hk hn)⟩
theorem Chg.below {S : Nat → Prop} {W W' : World} (h : Chg S W W') (B : Nat) (hB : B ≤ W.heap.size) (hs : ∀ k, k < B → ¬ S k) : Below B W W' :=
  ⟨h.os, h.tape, h.output, h.size, fun k hk => h.block k (Nat.lt_of_lt_of_le hk hB) (hs k hk)⟩
theorem Chg.ofBelow {S : Nat → Prop} {W W' : World} {B : Nat} (h : Below B W W') (hs : ∀ k, k < W.heap.size → B ≤ k → S k) : Chg S W W' :=
  ⟨h.os, h.tape, h.output, h.size, fun k hk hn => h.block k (Nat.lt_of_not_le fun a => hn (hs k hk a))⟩
theorem Box.chg {S : Nat → Prop} {W W' : World} {g t : Nat} {cs : List Value} (h : Box W g t cs) (c : Chg S W W') (hn : ¬ S g) : Box W' g t cs := h.kept (c.block g h.lt hn)

/-- bytes as cells -/
def cellsOf (bs : List Int) : List Value := bs.map (Value.int .u8)
theorem cellsOf_length (bs : List Int) : (cellsOf bs).length = bs.length := by simp [cellsOf]
theorem cellsOf_append (bs cs : List Int) : cellsOf (bs ++ cs) = cellsOf bs ++ cellsOf cs := by simp [cellsOf]
theorem cellsOf_get (bs : List Int) (i : Nat) (h : i < bs.length) : (cellsOf bs)[i]? = some (.int .u8 (bs.getD i 0)) := by
  simp [cellsOf, List.getElem?_eq_getElem h]

/-- a slice of bytes: n of them, read from A on -/
def Reads (W : World) (A : Option Addr) (bs : List Int) : Prop :=
  0 < bs.length → ∃ g off, A = some ⟨g, off, none⟩ ∧ g < W.heap.size ∧ ∀ i, i < bs.length → W.cell? ⟨g, off + i, none⟩ = some (.int .u8 (bs.getD i 0))
theorem Reads.chg {S : Nat → Prop} {W W' : World} {A : Option Addr} {bs : List Int} (h : Reads W A bs) (c : Chg S W W') (hn : ∀ a, A = some a → ¬ S a.block) : Reads W' A bs := by
  intro hp
  obtain ⟨g, off, rfl, hg, hc⟩ := h hp
  refine ⟨g, off, rfl, Nat.lt_of_lt_of_le hg c.size, fun i hi => ?_⟩
  rw [World.cell?_of_block (c.block g hg (hn _ rfl))]; exact hc i hi

theorem Reads.chgp {S : Nat → Prop} {W W' : World} {A : Option Addr} {bs : List Int} (h : Reads W A bs) (c : Chg S W W') (hn : ∀ a, A = some a → 0 < bs.length → ¬ S a.block) : Reads W' A bs :=
  fun hp => (h.chg c (fun a e => hn a e hp)) hp

/-- what is stored at block sb: the slice v, which owns the bytes bs; behind it in the block the cells rest -/
structure St (B e : Nat) (W : World) (sb t : Nat) (rest : List Value) (v : Value) (bs : List Int) : Prop where
  low : B ≤ sb
  box : Box W sb t (v :: rest)
  own : W.ownsRow B e 1 v bs.length (cellsOf bs)
  ne : t ≠ e
/-- the blocks of a store -/
def Mine (sb : Nat) (v : Value) (k : Nat) : Prop := k = sb ∨ v.ownBlock = some k
theorem ownBlock_ne {W : World} {B e size n g t : Nat} {v : Value} {xs cs : List Value} (h : W.ownsRow B e size v n xs) (b : Box W g t cs) (hne : t ≠ e) : v.ownBlock ≠ some g := by
  intro hv
  rcases h.2 with ⟨rfl, _⟩ | ⟨k, cap, cur, rfl, _, hk, _⟩
  · simp [Value.ownBlock] at hv
  · simp [Value.ownBlock] at hv
    subst hv
    unfold Box at b
    rw [b] at hk
    simp at hk
    exact hne hk.2
theorem own_form {W : World} {B e n : Nat} {v : Value} {xs : List Value} (h : W.ownsRow B e 1 v n xs) :
    ∃ A c, v = .slice A n c ∧ n ≤ c ∧ c ≤ maxLen := by
  rcases h.2 with ⟨rfl, rfl⟩ | ⟨k, cap, cur, rfl, _, _, hn, hc, _⟩
  · exact ⟨none, 0, rfl, Nat.le_refl _, Nat.zero_le _⟩
  · exact ⟨_, cap, rfl, hn, hc⟩
theorem own_reads {W : World} {B e c : Nat} {A : Option Addr} {bs : List Int} {n : Nat} (h : W.ownsRow B e 1 (.slice A n c) bs.length (cellsOf bs)) : Reads W A bs := by
  intro hp
  rcases h.2 with ⟨hv, hz⟩ | ⟨k, cap, cur, hv, _, hk, hn, hc, hs, ht⟩
  · omega
  · injection hv with hA _ _
    refine ⟨k, 0, hA, (Array.getElem?_eq_some_iff.1 hk).1, fun i hi => ?_⟩
    have hx := h.cells (g := k) (by rw [hA]; rfl) i (.int .u8 (bs.getD i 0)) (cellsOf_get bs i hi)
    by_cases g0 : i = 0
    · subst g0; simpa [Addr.add] using hx
    · simpa [Addr.add, g0] using hx
theorem St.chg {S : Nat → Prop} {B e : Nat} {W W' : World} {sb t : Nat} {rest : List Value} {v : Value} {bs : List Int} (h : St B e W sb t rest v bs) (c : Chg S W W') (hn : ∀ k, Mine sb v k → ¬ S k) : St B e W' sb t rest v bs := by
  refine ⟨h.low, h.box.chg c (hn _ (.inl rfl)), ?_, h.ne⟩
  refine ⟨h.own.1, ?_⟩
  rcases h.own.2 with hv | ⟨k, cap, cur, hv, hB, hk, hrest⟩
  · exact .inl hv
  · have hnk : ¬ S k := hn k (.inr (by rw [hv]; rfl))
    refine .inr ⟨k, cap, cur, hv, hB, ?_, hrest⟩
    rw [c.block k (Array.getElem?_eq_some_iff.1 hk).1 hnk, hk]
theorem St.mine_lt {B e : Nat} {W : World} {sb t : Nat} {rest : List Value} {v : Value} {bs : List Int} (h : St B e W sb t rest v bs) (k : Nat) (hk : Mine sb v k) : B ≤ k ∧ k < W.heap.size := by
  rcases hk with rfl | hk
  · exact ⟨h.low, h.box.lt⟩
  · exact h.own.lt k hk
/-- from W to W' the store's bytes have become bs; nothing but its own blocks has turned -/
def Grew (B e : Nat) (W W' : World) (sb t : Nat) (rest : List Value) (v : Value) (bs : List Int) : Prop :=
  ∃ v', St B e W' sb t rest v' bs ∧ Chg (Mine sb v) W W' ∧ ∀ k, v'.ownBlock = some k → v.ownBlock = some k ∨ W.heap.size ≤ k
theorem Grew.refl {B e : Nat} {W : World} {sb t : Nat} {rest : List Value} {v : Value} {bs : List Int} (h : St B e W sb t rest v bs) : Grew B e W W sb t rest v bs :=
  ⟨v, h, Chg.refl _ _, fun _ hk => .inl hk⟩
theorem Grew.trans {B e : Nat} {W W' W'' : World} {sb t : Nat} {rest' : List Value} {v v' : Value} {bs' : List Int}
    (c : Chg (Mine sb v) W W') (o : ∀ k, v'.ownBlock = some k → v.ownBlock = some k ∨ W.heap.size ≤ k) (g : Grew B e W' W'' sb t rest' v' bs') : Grew B e W W'' sb t rest' v bs' := by
  obtain ⟨v2, h2, c2, o2⟩ := g
  refine ⟨v2, h2, c.trans c2 ?_, fun k hk => ?_⟩
  · rintro k hk (rfl | hm)
    · exact .inl rfl
    · rcases o k hm with a | a
      · exact .inr a
      · omega
  · rcases o2 k hk with a | a
    · exact o k a
    · exact .inr (Nat.le_trans c.size a)
/-- new blocks alone have come -/
theorem St.below {B e : Nat} {W W' : World} {sb t : Nat} {rest : List Value} {v : Value} {bs : List Int} (h : St B e W sb t rest v bs) (b : Below W.heap.size W W') : St B e W' sb t rest v bs :=
  h.chg (Chg.ofBelow (S := fun k => W.heap.size ≤ k) b (fun _ _ a => a)) (fun k hk a => by have := (h.mine_lt k hk).2; omega)
theorem Chg.thenBelow {S : Nat → Prop} {W W' W'' : World} (c : Chg S W W') (b : Below W'.heap.size W' W'') : Chg S W W'' :=
  c.trans (S' := fun k => W'.heap.size ≤ k) (Chg.ofBelow b (fun _ _ a => a)) (fun k hk a => by have := c.size; omega)
theorem Grew.below {B e : Nat} {W W' W'' : World} {sb t : Nat} {rest : List Value} {v : Value} {bs : List Int} (g : Grew B e W W' sb t rest v bs) (b : Below W'.heap.size W' W'') : Grew B e W W'' sb t rest v bs := by
  obtain ⟨v', h, c, o⟩ := g
  exact ⟨v', h.below b, c.thenBelow b, o⟩
theorem below_trans {W W' W'' : World} (b : Below W.heap.size W W') (c : Below W'.heap.size W' W'') : Below W.heap.size W W'' := b.trans (c.mono b.size)
/-- a slice of words -/
def Words (W : World) (b off n : Nat) (z : List Int) : Prop := ∀ i, i < n → W.cell? ⟨b, off + i, none⟩ = some (.int .u64 (z.getD i 0))
theorem Words.chg {S : Nat → Prop} {W W' : World} {b off n : Nat} {z : List Int} (h : Words W b off n z) (c : Chg S W W') (hb : b < W.heap.size) (hn : ¬ S b) : Words W' b off n z := by
  intro i hi
  rw [World.cell?_of_block (c.block b hb hn)]; exact h i hi
end Rp
