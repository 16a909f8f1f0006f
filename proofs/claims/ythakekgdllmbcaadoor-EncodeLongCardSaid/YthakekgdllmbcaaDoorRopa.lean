/- Walks of layer 2: bytes appended to a store. -/
import Derived.Test.YthakekgdllmbcaaDoorRopw
import Derived.Laws.AppendOwnNone
import Derived.Maps.AppendAt
import Derived.OneCell
import Derived.OwnWalk
namespace Go.Proofs.YthakekgdllmbcaaDoor
open Go.RowKit Rp Go.Maps

open Cq (U64 I64 isW)

theorem infoU8 : (Tryd.prog.info? 5).map (fun i => (i.zero, i.size, i.bytes)) = some (some (.int .u8 0), 1, 1) := by kernel_rfl
theorem add_some (B : Nat) (W : World) (sb t : Nat) (rest : List Value) (v : Value) (bs : List Int) (h : St B 5 W sb t rest v bs) (hB : B ≤ W.heap.size)
    (ad : Addr) (m c : Nat) (ys : List Int) (hm : ys.length = m) (hy : ∀ i, i < m → W.cell? (ad.add i) = some (.int .u8 (ys.getD i 0))) (hlen : bs.length + m ≤ 1048576) :
    Calls Tryd.prog 20 #[.pointer (some ⟨sb, 0, none⟩), .slice (some ad) m c] W fun e W' => e = .returned (.tuple #[]) ∧ Grew B 5 W W' sb t rest v (bs ++ ys) := by
  obtain ⟨i0, hi, hz0, hz1, hz2⟩ := info_parts infoU8
  have hc := h.box.cell 0
  simp only [List.getElem?_cons_zero] at hc
  have hown := h.own
  have hnb := ownBlock_ne h.own h.box h.ne
  have hboxlt := h.box.lt
  have hnews : ∀ j u, (cellsOf ys)[j]? = some u → W.cell? (ad.add j) = some u := by
    intro j u hu
    have hj : j < ys.length := by
      have := (List.getElem?_eq_some_iff.1 hu).1; simpa [cellsOf] using this
    rw [hy j (by omega)]; rw [cellsOf_get ys j hj] at hu; exact hu
  go_enter Tryd.func20, Tryd.ntmps20
  go_wp2_with (at_builtin; refine wpList_append_own_at _ rfl _ _ 29 rfl B 5 i0 (.int .u8 0) 1 1 Tryd.underlying29 hi hz0 hz1 hz2 rfl (by decide) _ _ _ rfl hown ad m c (cellsOf ys) rfl ?c2 hnews ?c3 ?c4 ?c5 ?c6 ?_)
  case c2 => rw [cellsOf_length]; omega
  case c3 => intro u hu; obtain ⟨x, _, rfl⟩ := List.mem_map.1 hu; rfl
  case c4 => unfold maxLen; omega
  case c5 => omega
  case c6 => exact hB
  intro v' w1 hown' hgrow _ hat
  obtain ⟨A', c', rfl, _, _⟩ := own_form hown'
  have hbox : Box w1 sb t (v :: rest) := h.box.kept (hgrow.block sb hboxlt (fun e => hnb e.symm))
  have hc1 := hbox.cell 0
  have hf1 := hbox.frozen 0
  simp only [List.getElem?_cons_zero] at hc1
  rw [← cellsOf_append] at hown'
  have HF : Hid (St B 5 (w1.setCell ⟨sb, 0, none⟩ (.slice A' (bs.length + m) c')) sb t rest (.slice A' (bs.length + m) c') (bs ++ ys) ∧ Chg (Mine sb v) W (w1.setCell ⟨sb, 0, none⟩ (.slice A' (bs.length + m) c')) ∧ (∀ k, (Value.slice A' (bs.length + m) c').ownBlock = some k → v.ownBlock = some k ∨ W.heap.size ≤ k)) := by
    have hb2 := hbox.put 0 (.slice A' (bs.length + m) c')
    simp only [List.set_cons_zero] at hb2
    have hk : ∀ k, (Value.slice A' (bs.length + m) c').ownBlock = some k → v.ownBlock = some k ∨ W.heap.size ≤ k := by
      intro k hk
      rcases hat with e | e
      · exact .inl (e ▸ hk)
      · right; rw [hk] at e; injection e with e; omega
    refine ⟨⟨h.low, hb2, ?_, h.ne⟩, ?_, hk⟩
    · have hne : (Value.slice A' (bs.length + m) c').ownBlock ≠ some sb := by
        intro e
        rcases hk sb e with g | g
        · exact hnb g
        · omega
      have ho := ownsRow_setCell_other hown' (a := ⟨sb, 0, none⟩) hne (.slice A' (bs.length + m) c')
      rw [List.length_append, hm]; exact ho
    · exact ((Chg.refl (Mine sb v) W).grown hgrow (fun k e _ => .inr e)).setCell (fun _ => .inl rfl) _
  clear hown' hbox hat hgrow h hown hnb hnews hy hc hlen hi hz0 hz1 hz2 hB hboxlt hm
  go_wp2
  go_end0
  exact ⟨rfl, _, HF.out⟩
theorem add_none (B : Nat) (W : World) (sb t : Nat) (rest : List Value) (v : Value) (bs : List Int) (h : St B 5 W sb t rest v bs) :
    Calls Tryd.prog 20 #[.pointer (some ⟨sb, 0, none⟩), .slice none 0 0] W fun e W' => e = .returned (.tuple #[]) ∧ Grew B 5 W W' sb t rest v bs := by
  obtain ⟨i0, hi, hz0, hz1, hz2⟩ := info_parts infoU8
  obtain ⟨A, c, rfl, _, _⟩ := own_form h.own
  have hc := h.box.cell 0
  have hf := h.box.frozen 0
  simp only [List.getElem?_cons_zero] at hc
  have hown := h.own
  have HF : Hid (∃ v', St B 5 (W.setCell ⟨sb, 0, none⟩ (.slice A bs.length c)) sb t rest v' bs ∧ Chg (Mine sb (.slice A bs.length c)) W (W.setCell ⟨sb, 0, none⟩ (.slice A bs.length c)) ∧ (∀ k, v'.ownBlock = some k → (Value.slice A bs.length c).ownBlock = some k ∨ W.heap.size ≤ k)) := by
    have hb2 := h.box.put 0 (.slice A bs.length c)
    simp only [List.set_cons_zero] at hb2
    exact ⟨_, ⟨h.low, hb2, ownsRow_setCell_other hown (a := ⟨sb, 0, none⟩) (ownBlock_ne h.own h.box h.ne) _, h.ne⟩, (Chg.refl _ W).setCell (fun _ => .inl rfl) _, fun k hk => .inl hk⟩
  go_enter Tryd.func20, Tryd.ntmps20
  go_wp2_with (at_builtin; refine wpList_append_own_none rfl _ _ 29 rfl B 5 i0 1 Tryd.underlying29 hi _ _ _ rfl hown rfl ?_)
  clear hown h hi hz0 hz1 hz2
  go_wp2
  go_end0
  exact ⟨rfl, HF.out⟩
end Go.Proofs.YthakekgdllmbcaaDoor
