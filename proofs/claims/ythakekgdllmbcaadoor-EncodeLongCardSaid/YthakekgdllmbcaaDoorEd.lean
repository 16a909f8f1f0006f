/- Layer 7: the writer's state, and what an append to its starts leaves. -/
import Derived.Test.YthakekgdllmbcaaDoorEc
import Derived.Deep.AppendLies
namespace Go.Proofs.YthakekgdllmbcaaDoor
open Go.RowKit Rp Go.Maps
open Cq (U64 I64 isW)
/-- A writer: its block, its rope, the row of its starts. -/
structure Wr (B : Nat) (W : World) (wb g : Nat) (v : Value) (bs : List Int) (sv : Value) (k : Nat) (xs : List Value) : Prop where
  st : St B 5 W g 59 [] v bs
  box : Box W wb 44 [.pointer (some ⟨g, 0, none⟩), sv]
  own : W.ownsRow B 3 1 sv k xs
  low : B ≤ wb
theorem Wr.apart {B : Nat} {W : World} {wb g : Nat} {v : Value} {bs : List Int} {sv : Value} {k : Nat} {xs : List Value} (h : Wr B W wb g v bs sv k xs) : ¬ Mine g v wb := by
  rintro (e | e)
  · have h1 := h.st.box
    have h2 := h.box
    subst e
    unfold Box at h1 h2
    rw [h1] at h2
    simp at h2
  · exact ownBlock_ne h.st.own h.box (by decide) e
theorem Wr.far {B : Nat} {W : World} {wb g : Nat} {v : Value} {bs : List Int} {sv : Value} {k : Nat} {xs : List Value} (h : Wr B W wb g v bs sv k xs) : sv.ownBlock ≠ some wb := ownBlock_ne h.own h.box (by decide)
theorem Wr.row {B : Nat} {W : World} {wb g : Nat} {v : Value} {bs : List Int} {sv : Value} {k : Nat} {xs : List Value} (h : Wr B W wb g v bs sv k xs) {q : Nat} (hq : sv.ownBlock = some q) : ¬ Mine g v q := by
  rcases h.own.2 with ⟨rfl, _⟩ | ⟨r, cap, cur, rfl, _, hr, _⟩
  · simp [Value.ownBlock] at hq
  · simp [Value.ownBlock] at hq
    subst hq
    rintro (e | e)
    · have h1 := h.st.box
      subst e
      unfold Box at h1
      rw [h1] at hr
      simp at hr
    · rcases h.st.own.2 with ⟨rfl, _⟩ | ⟨r', cap', cur', rfl, _, hr', _⟩
      · simp [Value.ownBlock] at e
      · simp [Value.ownBlock] at e
        subst e
        rw [hr] at hr'
        simp at hr'
/-- The blocks of a writer. -/
def MineW (wb g : Nat) (v sv : Value) (q : Nat) : Prop := q = wb ∨ Mine g v q ∨ sv.ownBlock = some q
theorem Wr.chg {S : Nat → Prop} {B : Nat} {W W' : World} {wb g : Nat} {v : Value} {bs : List Int} {sv : Value} {k : Nat} {xs : List Value} (h : Wr B W wb g v bs sv k xs) (c : Chg S W W') (hn : ∀ q, MineW wb g v sv q → ¬ S q) : Wr B W' wb g v bs sv k xs := by
  refine ⟨h.st.chg c fun q hq => hn q (.inr (.inl hq)), h.box.chg c (hn _ (.inl rfl)), ⟨h.own.1, ?_⟩, h.low⟩
  rcases h.own.2 with hv | ⟨r, cap, cur, hv, hB, hk, hrest⟩
  · exact .inl hv
  · refine .inr ⟨r, cap, cur, hv, hB, ?_, hrest⟩
    rw [c.block r (Array.getElem?_eq_some_iff.1 hk).1 (hn r (.inr (.inr (by rw [hv]; rfl)))), hk]
theorem Wr.lt {B : Nat} {W : World} {wb g : Nat} {v : Value} {bs : List Int} {sv : Value} {k : Nat} {xs : List Value} (h : Wr B W wb g v bs sv k xs) (q : Nat) (hq : MineW wb g v sv q) : B ≤ q ∧ q < W.heap.size := by
  rcases hq with rfl | hq | hq
  · exact ⟨h.low, h.box.lt⟩
  · exact h.st.mine_lt q hq
  · exact h.own.lt q hq
theorem Wr.below {B : Nat} {W W' : World} {wb g : Nat} {v : Value} {bs : List Int} {sv : Value} {k : Nat} {xs : List Value} (h : Wr B W wb g v bs sv k xs) (b : Below W.heap.size W W') : Wr B W' wb g v bs sv k xs :=
  h.chg (Chg.ofBelow (S := fun q => W.heap.size ≤ q) b (fun _ _ a => a)) (fun q hq a => by have := (h.lt q hq).2; omega)
/-- The rope has grown. -/
theorem Wr.grw {B : Nat} {W W' : World} {wb g : Nat} {v v' : Value} {bs bs' : List Int} {sv : Value} {k : Nat} {xs : List Value} (h : Wr B W wb g v bs sv k xs) (hg : Grw B W W' g v v' bs') : Wr B W' wb g v' bs' sv k xs := by
  refine ⟨hg.st, h.box.chg hg.chg h.apart, ⟨h.own.1, ?_⟩, h.low⟩
  rcases h.own.2 with hv | ⟨r, cap, cur, hv, hB, hk, hrest⟩
  · exact .inl hv
  · refine .inr ⟨r, cap, cur, hv, hB, ?_, hrest⟩
    rw [hg.chg.block r (Array.getElem?_eq_some_iff.1 hk).1 (h.row (by rw [hv]; rfl)), hk]
/-- One more start. -/
theorem Wr.add {B : Nat} {W wa w5 : World} {wb g : Nat} {v : Value} {bs : List Int} {sv : Value} {k : Nat} {xs : List Value} (h : Wr B W wb g v bs sv k xs) (b : Below W.heap.size W wa) {gg cap : Nat} {x : Value}
    (hown : w5.ownsRow B 3 1 (.slice (some ⟨gg, 0, none⟩) (k + 1) cap) (k + 1) (xs ++ [x])) (hgrow : wa.grownBy w5 sv.ownBlock) (hat : sv.ownBlock = some gg ∨ W.heap.size ≤ gg) :
    Wr B (w5.setCell ⟨wb, 1, none⟩ (.slice (some ⟨gg, 0, none⟩) (k + 1) cap)) wb g v bs (.slice (some ⟨gg, 0, none⟩) (k + 1) cap) (k + 1) (xs ++ [x]) ∧
      Chg (MineW wb g v sv) W (w5.setCell ⟨wb, 1, none⟩ (.slice (some ⟨gg, 0, none⟩) (k + 1) cap)) ∧ ∀ q, (Value.slice (some ⟨gg, 0, none⟩) (k + 1) cap).ownBlock = some q → sv.ownBlock = some q ∨ W.heap.size ≤ q := by
  have h1 := h.below b
  have c1 : Chg (fun q => sv.ownBlock = some q) wa w5 := (Chg.refl _ wa).grown hgrow (fun q e _ => e)
  have hst : St B 5 w5 g 59 [] v bs := h1.st.chg c1 fun q hq e => h1.row e hq
  have hbx : Box w5 wb 44 [.pointer (some ⟨g, 0, none⟩), sv] := h1.box.chg c1 h1.far
  have c2 : Chg (fun q => q = wb) w5 (w5.setCell ⟨wb, 1, none⟩ (.slice (some ⟨gg, 0, none⟩) (k + 1) cap)) := (Chg.refl (fun q => q = wb) w5).setCell (p := ⟨wb, 1, none⟩) (fun _ => rfl) _
  have hgw : gg ≠ wb := by
    rintro rfl
    rcases hown.2 with ⟨e, _⟩ | ⟨r, cap', cur, e, _, hr, _⟩
    · cases e
    · injection e with e1 _ _
      injection e1 with e1
      injection e1 with e1 _ _
      subst e1
      unfold Box at hbx
      rw [hbx] at hr
      simp at hr
  refine ⟨⟨hst.chg c2 fun q hq e => h1.apart (e ▸ hq), hbx.put 1 _, ⟨hown.1, ?_⟩, h.low⟩, ?_, fun q hq => ?_⟩
  · rcases hown.2 with hv | ⟨r, cap', cur, hv, hB, hk, hrest⟩
    · exact .inl hv
    · refine .inr ⟨r, cap', cur, hv, hB, ?_, hrest⟩
      have hrg : r = gg := by
        injection hv with e1 _ _
        injection e1 with e1
        injection e1 with e1 _ _
        exact e1.symm
      rw [c2.block r (Array.getElem?_eq_some_iff.1 hk).1 (by rw [hrg]; exact hgw), hk]
  · exact ((Chg.ofBelow (S := MineW wb g v sv) b (fun q hq hle => absurd hq (by omega))).trans c1 (fun q _ e => .inr (.inr e))).trans c2 (fun q _ e => .inl e)
  · have hq : some gg = some q := hq
    simp only [Option.some.injEq] at hq
    subst hq
    exact hat
end Go.Proofs.YthakekgdllmbcaaDoor
