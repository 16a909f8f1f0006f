/- Walks of layer 2: bytes behind the bytes of a converted string; texts of both. -/
import Derived.Test.YtfcooaafhpoobaaRph
import Derived.Lib.ConvBytes
import Derived.Laws.IdiomCopy
namespace Go.Proofs.Ytfcooaafhpoobaa
open Go.RowKit Rp Go.Maps
open Cq (U64 I64 isW)

theorem below_setCells {B g : Nat} {W : World} (hg : B ≤ g) : ∀ (vs : List Value) (o : Nat) (w : World), Below B W w → Below B W (w.setCells g o vs)
  | [], _, _, h => h
  | v :: r, o, w, h => below_setCells hg r (o + 1) _ (Below.setCell h (show B ≤ (⟨g, o, none⟩ : Addr).block from hg) v)
theorem size_setCells (g : Nat) : ∀ (vs : List Value) (o : Nat) (w : World), (w.setCells g o vs).heap.size = w.heap.size
  | [], _, _ => rfl
  | v :: r, o, w => by rw [World.setCells, size_setCells g r (o + 1)]; simp [World.setCell]
theorem wpList_append_run {w : World} {ops : Array Oper} {rest : List Oper} {o : Oper} {a : Act} {Q : Exit → Act → World → Prop} (hgd : o.guard = none) (s x : Operand) (t : TypeId)
    (ho : o.op = .call { callee := .builtin .append, args := #[s, x], argTypes := #[t, t] }) (v xv : Value) (hs : a.eval s = v) (hx : a.eval x = xv) (v' : Value) (w' : World)
    (hr : (Builtin.append_ #[t, t] o.type #[v, xv]).run Try.prog w = .ok v' w') (h : wpList Try.prog ops Q rest (a.put o.dst v') w') : wpList Try.prog ops Q (o :: rest) a w := by
  refine wpList_plain hgd fun K hK => ?_
  unfold Oper.wp execOp
  simp only [ho, resolve, invoke, builtin, Sem.run_bind, Sem.run_pure, Result.andThen_ok, List.map_toArray, List.map_cons, List.map_nil, hs, hx, hr]
  exact hK _ _ h
set_option maxRecDepth 100000 in
theorem run_append_marked (w : World) (g n cap : Nat) (ys : List Int) (hy : ys.length = n) (hcell : ∀ j, j < n → w.cell? ⟨g, j, none⟩ = some (.int .u8 (ys.getD j 0)))
    (hspare : ∀ j, n ≤ j → j < cap → (w.cell? ⟨g, j, none⟩).isSome = true ∧ w.frozen? ⟨g, j, none⟩ = false) (_hncap : n ≤ cap) (hcm : cap ≤ maxLen) (hgb : g < w.heap.size)
    (ad : Addr) (c2 : Nat) (zs : List Int) (hz : ∀ j, j < zs.length → w.cell? (ad.add j) = some (.int .u8 (zs.getD j 0))) (hlen : n + zs.length ≤ 1000) :
    ∃ A' c' w', (Builtin.append_ #[22, 22] 22 #[.slice (some ⟨g, 0, none⟩) n cap, .slice (some ad) zs.length c2]).run Try.prog w = .ok (.slice (some A') (n + zs.length) c') w' ∧
      Reads w' (some A') (ys ++ zs) ∧ n + zs.length ≤ c' ∧ c' ≤ maxLen ∧ Below g w w' := by
  obtain ⟨i0, hi, hz0, hz1, hz2⟩ := info_parts infoU8
  have hnews : ∀ j u, (cellsOf zs)[j]? = some u → w.cell? (ad.add j) = some u := by
    intro j u hu
    have hj : j < zs.length := by have := (List.getElem?_eq_some_iff.1 hu).1; simpa [cellsOf] using this
    rw [cellsOf_get zs j hj] at hu
    rw [hz j hj]; exact hu
  have hone : ∀ u ∈ cellsOf zs, u.oneCell' = true := by intro u hu; obtain ⟨x, _, rfl⟩ := List.mem_map.1 hu; rfl
  by_cases hroom : n + zs.length ≤ cap
  · have hf := run_firstCells_some (P := Try.prog) w i0.size zs.length ad zs.length c2 (cellsOf zs) (by rw [cellsOf_length, hz1]; omega) hnews
    have hst := run_storeCells_cells (P := Try.prog) g n (cellsOf zs) 0 w (fun j hj => by rw [cellsOf_length] at hj; exact (hspare (n + 0 + j) (by omega) (by omega)).1) (fun j hj => by rw [cellsOf_length] at hj; exact (hspare (n + 0 + j) (by omega) (by omega)).2) hone
    refine ⟨⟨g, 0, none⟩, cap, w.setCells g n (cellsOf zs), ?_, ?_, hroom, hcm, below_setCells (Nat.le_refl _) _ _ _ (Below.refl _ _)⟩
    · simp only [Nat.add_zero] at hst
      rw [hz1] at hf
      simp [Builtin.append_, run_underlying Try.underlying22, sizeOf, typeInfo, hi, hz1, Builtin.lenOf, hroom, hf, Addr.add_lit, hst]
    · intro _
      have hsz : (w.setCells g n (cellsOf zs)).heap.size = w.heap.size := by
        exact size_setCells g _ _ _
      refine ⟨g, 0, rfl, by omega, fun i hi2 => ?_⟩
      rw [Nat.zero_add]
      rw [List.length_append] at hi2
      by_cases h1 : i < n
      · rw [World.cell?_setCells_out g (cellsOf zs) n w _ (fun _ _ => .inl h1), hcell i h1]
        congr 2
        rw [List.getD_eq_getElem?_getD, List.getD_eq_getElem?_getD, List.getElem?_append_left (by omega)]
      · obtain ⟨j, rfl⟩ : ∃ j, i = n + j := ⟨i - n, by omega⟩
        have hj : j < zs.length := by omega
        have h2 := World.cell?_setCells_in g (cellsOf zs) n w (fun j hj => by rw [cellsOf_length] at hj; exact (hspare (n + j) (by omega) (by omega)).1) j (by rw [cellsOf_length]; exact hj)
        rw [h2]
        have h3 := cellsOf_get zs j hj
        rw [List.getElem?_eq_getElem (by rw [cellsOf_length]; exact hj)] at h3
        rw [h3]
        congr 2
        rw [List.getD_eq_getElem?_getD, List.getD_eq_getElem?_getD, List.getElem?_append_right (by omega), hy, Nat.add_sub_cancel_left]
  · have holds : ∀ j u, (cellsOf ys)[j]? = some u → w.cell? ((⟨g, 0, none⟩ : Addr).add j) = some u := by
      intro j u hu
      have hj : j < ys.length := by have := (List.getElem?_eq_some_iff.1 hu).1; simpa [cellsOf] using this
      rw [cellsOf_get ys j hj] at hu
      rw [← hu, ← hcell j (by omega)]
      congr 1
      unfold Addr.add; split <;> simp_all
    unfold maxLen at hcm
    have hr := run_append_grow (P := Try.prog) w 22 22 5 i0 (.int .u8 0) Try.underlying22 hi hz0 ⟨g, 0, none⟩ n cap (cellsOf ys) (by rw [cellsOf_length, hz1]; omega) holds ad zs.length c2 (cellsOf zs) (by rw [cellsOf_length, hz1]; omega) hnews (by omega) (by omega) (growslice_fits (by omega) (by rw [hz2]; omega))
    refine ⟨_, _, _, hr, ?_, grownCap_ge w _ _ _, grownCap_le_maxLen w _ _ _ (by unfold maxLen; omega), ?_⟩
    · intro _
      refine ⟨w.heap.size, 0, rfl, ?_, fun i hi2 => ?_⟩
      · rw [World.size_alloc]; exact Nat.lt_succ_self _
      · rw [Nat.zero_add]
        rw [List.length_append] at hi2
        have hx := cell_of_row _ w.heap.size i _ 5 (0, 0) (heap_alloc_new w.drew (.cells ((cellsOf ys).toArray ++ (cellsOf zs).toArray ++ Builtin.zeroCells (Value.int .u8 0).cells (grownCap w (n + zs.length) cap 5 - (n + zs.length))) 5))
        refine hx.trans ?_
        have e : ((cellsOf ys).toArray ++ (cellsOf zs).toArray) = (cellsOf (ys ++ zs)).toArray := by rw [cellsOf_append]; simp
        rw [e, Array.getElem?_append_left (by simp [cellsOf_length]; omega)]
        simp only [List.getElem?_toArray]
        exact cellsOf_get (ys ++ zs) i (by rw [List.length_append]; omega)
    · exact ((Below.refl g w).drew).alloc (by show g ≤ w.heap.size; omega) _
set_option maxRecDepth 100000 in
/-- a string's bytes, converted -/
theorem conv_bytes (W : World) (S : ByteArray) (hS : S.size ≤ 100) : ∃ cap w2, (convert 9 22 (.string S)).run Try.prog W = .ok (.slice (some ⟨W.heap.size, 0, none⟩) S.size cap) w2 ∧ S.size ≤ cap ∧ cap ≤ maxLen ∧ Below W.heap.size W w2 ∧ w2.heap.size = W.heap.size + 1 ∧
    (∀ j, j < S.size → w2.cell? ⟨W.heap.size, j, none⟩ = some (.int .u8 ((sB S).getD j 0))) ∧ (∀ j, S.size ≤ j → j < cap → (w2.cell? ⟨W.heap.size, j, none⟩).isSome = true ∧ w2.frozen? ⟨W.heap.size, j, none⟩ = false) := by
  have hr := Lib.run_convert_string_bytes (P := Try.prog) W 9 22 5 S Try.underlying9 Try.underlying22 Try.underlying5
  have hge := grownCap_ge W S.size 0 5
  have hnew := Lib.bytesWorld_at_new W 5 S
  have hcs : (Lib.bytesCells W 5 S).size = grownCap W S.size 0 5 := by
    unfold Lib.bytesCells
    have : S.data.size = S.size := rfl
    simp [this]; omega
  refine ⟨_, _, hr, hge, grownCap_le_maxLen W _ _ _ (by unfold maxLen; omega), ⟨?_, ?_, ?_, ?_, fun k hk => Lib.bytesWorld_at_old W _ S k hk⟩, Lib.bytesWorld_size W _ S, fun j hj => ?_, fun j h1 h2 => ?_⟩
  · exact rfl
  · exact rfl
  · exact rfl
  · rw [Lib.bytesWorld_size]; omega
  · rw [Lib.bytesWorld_cell W _ S j hj]
    congr 2
    unfold sB
    rw [List.getD_eq_getElem?_getD, List.getD_eq_getElem?_getD, List.getElem?_map]
    have hj2 : j < S.data.toList.length := by rw [Array.length_toList]; exact hj
    rw [List.getElem?_eq_getElem hj2]; rfl
  · refine ⟨?_, ?_⟩
    · unfold World.cell?
      rw [hnew]
      simp [hcs, h2]
    · unfold World.frozen?
      rw [hnew]
      simp [hcs]; omega
/-- Text of one string and an empty one -/
def TextTo (W0 W W' : World) (g : Nat) (v : Value) (bs : List Int) (S : ByteArray) (E : Int) : Prop :=
  (0 ≤ zI S ∧ E = 2 ∧ W = W') ∨ (zI S < 0 ∧ 1048576 < bs.length + (S.size + 2) ∧ E = 4 ∧ W = W') ∨ (zI S < 0 ∧ bs.length + (S.size + 2) ≤ 1048576 ∧ E = 0 ∧ Grew W0.heap.size 5 W W' g 98 [] v (bs ++ (sB S ++ [0, 0])))
theorem text_all {W0 W : World} {g : Nat} {v : Value} {A : Option Addr} {bs : List Int} {c : Nat} (h : Twin W0 W g v A bs c) (b cap : Nat) (S : ByteArray) (hbx : Box W b 9 [.string S, .string ⟨#[]⟩]) (hnb : ¬ Mine g v b) (hS : S.size ≤ 100) :
    Calls Try.prog 99 #[.pointer (some ⟨g, 0, none⟩), .slice (some ⟨b, 0, none⟩) 2 cap] W fun e W' => ∃ E, e = .returned (.int .i64 E) ∧ TextTo W0 W W' g v bs S E := by
  obtain ⟨ss, hss⟩ : ∃ ss : Nat → ByteArray, ss = fun i => if i = 0 then S else ⟨#[]⟩ := ⟨_, rfl⟩
  have hst : Strs W b 0 2 ss := by
    intro i hi
    have hi2 : i = 0 ∨ i = 1 := by omega
    rcases hi2 with rfl | rfl
    · rw [hss]; exact hbx.cell 0
    · rw [hss]; exact hbx.cell 1
  have hz1 : zI (⟨#[]⟩ : ByteArray) = -1 := rfl
  have hcat : catTo (tx ss) 2 = sB S ++ [0, 0] := by
    rw [hss]
    have e : sB (⟨#[]⟩ : ByteArray) = [] := rfl
    simp [catTo, tx, e]
  have hlen : (catTo (tx ss) 2).length = S.size + 2 := by rw [hcat, List.length_append, sB_len]; rfl
  by_cases hz : 0 ≤ zI S
  · refine (text_arg g b 0 2 cap ss W (by omega) hst ⟨0, by omega, by rw [hss]; exact hz⟩).mono ?_
    rintro e W' ⟨h1, h2⟩
    exact ⟨2, h1, .inl ⟨hz, rfl, h2⟩⟩
  · have hzz : ∀ i, i < 2 → zI (ss i) < 0 := by
      intro i hi
      have hi2 : i = 0 ∨ i = 1 := by omega
      rcases hi2 with rfl | rfl
      · rw [hss]; show zI S < 0; omega
      · rw [hss]; show zI (⟨#[]⟩ : ByteArray) < 0; rw [hz1]; decide
    by_cases hf : bs.length + (S.size + 2) ≤ 1048576
    · refine (text_ok W0.heap.size W g [] v bs h.st h.bel.size h.len b 0 2 cap ss (by omega) hst hbx.lt hnb hzz (by rw [hlen]; omega)).mono ?_
      rintro e W' ⟨h1, h2⟩
      rw [hcat] at h2
      exact ⟨0, h1, .inr (.inr ⟨by omega, hf, rfl, h2⟩)⟩
    · refine (text_none W0.heap.size W g [] v bs h.st h.len b 0 2 cap ss (by omega) hst hzz (fun i hi => by
        rw [hss]; unfold maxLen
        show (if i = 0 then S else (⟨#[]⟩ : ByteArray)).size ≤ _
        split
        · omega
        · show 0 ≤ _; omega) (by rw [hlen]; have := h.len; omega)).mono ?_
      rintro e W' ⟨h1, h2⟩
      exact ⟨4, h1, .inr (.inl ⟨by omega, by omega, rfl, h2⟩)⟩
end Go.Proofs.Ytfcooaafhpoobaa
