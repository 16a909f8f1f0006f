/- Numbers behind a rope's bytes. -/
import Derived.Test.YthakekgdllmbcaaDoorRope
import Derived.Deep.DeepCutAuto
namespace Go.Proofs.YthakekgdllmbcaaDoor
open Go.RowKit Rp Go.Maps
open Cq (U64 I64 isW)

/-- from W to W' the rope at g has become bs; its value was v, is v' -/
structure Grw (B : Nat) (W W' : World) (g : Nat) (v v' : Value) (bs : List Int) : Prop where
  st : St B 5 W' g 59 [] v' bs
  chg : Chg (Mine g v) W W'
  own : ∀ k, v'.ownBlock = some k → v.ownBlock = some k ∨ W.heap.size ≤ k
theorem Grw.away {B : Nat} {W W' : World} {g : Nat} {v v' : Value} {bs : List Int} (h : Grw B W W' g v v' bs) {k : Nat} (hk : k < W.heap.size) (hn : ¬ Mine g v k) : ¬ Mine g v' k := by
  rintro (rfl | hm)
  · exact hn (.inl rfl)
  · rcases h.own k hm with a | a
    · exact hn (.inr a)
    · omega
theorem Grw.box {B : Nat} {W W' : World} {g : Nat} {v v' : Value} {bs : List Int} (h : Grw B W W' g v v' bs) {k t : Nat} {cs : List Value} (hb : Box W k t cs) (hn : ¬ Mine g v k) : Box W' k t cs := hb.chg h.chg hn
theorem Grw.trans {B : Nat} {W W' W'' : World} {g : Nat} {v v' v'' : Value} {bs bs' : List Int} (h : Grw B W W' g v v' bs) (k : Grw B W' W'' g v' v'' bs') : Grw B W W'' g v v'' bs' := by
  refine ⟨k.st, h.chg.trans k.chg ?_, fun q hq => ?_⟩
  · rintro q hq (rfl | hm)
    · exact .inl rfl
    · rcases h.own q hm with a | a
      · exact .inr a
      · omega
  · rcases k.own q hq with a | a
    · exact h.own q a
    · exact .inr (Nat.le_trans h.chg.size a)
theorem Grw.from {B : Nat} {W W1 W' : World} {g : Nat} {v v' : Value} {bs : List Int} (b : Below W.heap.size W W1) (h : Grw B W1 W' g v v' bs) : Grw B W W' g v v' bs :=
  ⟨h.st, (Chg.thenBelow (Chg.refl (Mine g v) W) b).trans h.chg (fun _ _ a => a), fun q hq => by
    rcases h.own q hq with a | a
    · exact .inl a
    · exact .inr (Nat.le_trans b.size a)⟩
theorem Grw.refl {B : Nat} {W : World} {g : Nat} {v : Value} {bs : List Int} (h : St B 5 W g 59 [] v bs) : Grw B W W g v v bs := ⟨h, Chg.refl _ _, fun _ a => .inl a⟩
/-- words, the lowest byte of each first -/
def wsB (w : Nat) (z : List Int) : List Int := z.flatMap (low w)
theorem wsB_len (w : Nat) (z : List Int) : (wsB w z).length = w * z.length := by
  have := lows_length w z z.length (Nat.le_refl _)
  unfold lows at this
  rw [List.take_of_length_le (Nat.le_refl _)] at this
  exact this
theorem wsB_lows (w : Nat) (z : List Int) : lows w z z.length = wsB w z := by unfold lows wsB; rw [List.take_of_length_le (Nat.le_refl _)]
theorem num_fresh (B : Nat) (W : World) (g : Nat) (v : Value) (bs : List Int) (h : St B 5 W g 59 [] v bs) (hB : B ≤ W.heap.size) (w : Nat) (hw : isW w = true) (z : List Int) (hu : ∀ x ∈ z, U64 x) (hl : bs.length + w * z.length ≤ 1048576) :
    Calls Tryd.prog 37 #[.pointer (some ⟨g, 0, none⟩), .int .i64 w, .slice (some ⟨W.heap.size, 0, none⟩) z.length z.length] (W.alloc (.cells (z.map (Value.int .u64)).toArray 73)) fun e W' =>
      e = .returned (.int .i64 0) ∧ ∃ v', Grw B W W' g v v' (bs ++ wsB w z) := by
  have hb : Below W.heap.size W (W.alloc (.cells (z.map (Value.int .u64)).toArray 73)) := (Below.refl _ _).alloc (Nat.le_refl _) _
  have hx : Box (W.alloc (.cells (z.map (Value.int .u64)).toArray 73)) W.heap.size 73 (z.map (Value.int .u64)) := Box.fresh W 73 _
  have hws : Words (W.alloc (.cells (z.map (Value.int .u64)).toArray 73)) W.heap.size 0 z.length z := by
    intro i hi
    rw [Nat.zero_add, hx.cell i, List.getElem?_map, List.getElem?_eq_getElem hi, List.getD_eq_getElem?_getD, List.getElem?_eq_getElem hi]; rfl
  have h4 := Cq.isW_cases hw
  have hmm : z.length ≤ (1048576 - bs.length) / w := by
    rw [Nat.le_div_iff_mul_le (by omega), Nat.mul_comm]; omega
  refine (num_ok B _ g [] v bs (h.below hb) (by have := hb.size; omega) (by omega) w hw W.heap.size 0 z.length z.length z rfl hu hmm hws hx.lt (fun hm => by have := (h.mine_lt _ hm).2; omega)).mono ?_
  rintro e W' ⟨h1, v', h2, h3, h5⟩
  rw [wsB_lows] at h2
  exact ⟨h1, v', Grw.from hb ⟨h2, h3, h5⟩⟩
end Go.Proofs.YthakekgdllmbcaaDoor
