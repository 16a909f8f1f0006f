/- Layer 7: a slice of Nops cloned. -/
import Derived.Test.YthakekgdllmbcaaDoorEg
namespace Go.Proofs.YthakekgdllmbcaaDoor
open Go.RowKit Rp Go.Maps
open Cq (U64 I64 isW)
def nops (n : Nat) : List Value := (List.replicate n (nopV 0)).flatten
theorem nopV_len (i : Int) : (nopV i).length = 20 := rfl
theorem nops_len (n : Nat) : (nops n).length = n * 20 := by
  induction n with
  | zero => rfl
  | succ n ih =>
    show (nopV 0 ++ nops n).length = _
    rw [List.length_append, ih, nopV_len]
    omega
theorem nops_get : ∀ (n k j : Nat), k < n → j < 20 → (nops n)[k * 20 + j]? = (nopV 0)[j]?
  | n + 1, 0, j, _, hj => by
    show (nopV 0 ++ nops n)[0 * 20 + j]? = _
    rw [List.getElem?_append_left (by rw [nopV_len]; omega)]
    simp
  | n + 1, k + 1, j, hk, hj => by
    show (nopV 0 ++ nops n)[(k + 1) * 20 + j]? = _
    rw [List.getElem?_append_right (by rw [nopV_len]; omega), nopV_len, show (k + 1) * 20 + j - 20 = k * 20 + j by omega]
    exact nops_get n k j (by omega) hj
theorem nops_one (n : Nat) : ∀ u ∈ nops n, u.oneCell' = true := by
  intro u hu
  obtain ⟨l, hl, hul⟩ := List.mem_flatten.1 hu
  obtain ⟨_, rfl⟩ := List.mem_replicate.1 hl
  have : (nopV 0).all (·.oneCell') = true := by decide +kernel
  exact List.all_eq_true.1 this u hul
theorem nops_at {W : World} {b n : Nat} (h : NopsAt W b n) : ∀ j u, (nops n)[j]? = some u → W.cell? ((⟨b, 0, none⟩ : Addr).add j) = some u := by
  intro j u hu
  have hj : j < n * 20 := by have := (List.getElem?_eq_some_iff.1 hu).1; rwa [nops_len] at this
  have e := nops_get n (j / 20) (j % 20) (by omega) (Nat.mod_lt _ (by decide))
  rw [show j / 20 * 20 + j % 20 = j by omega, hu] at e
  have := h (j / 20) (by omega) (j % 20) u e.symm
  rw [show j / 20 * 20 + j % 20 = j by omega] at this
  have ea : (⟨b, 0, none⟩ : Addr).add j = ⟨b, j, none⟩ := by
    unfold Addr.add
    split
    · rename_i h0; rw [h0]
    · simp
  rw [ea]
  exact this
theorem parts_inst : ∃ i z, Tryd.prog.info? 28 = some i ∧ i.zero = some z ∧ i.size = 20 ∧ i.bytes = 152 ∧ z.cells.size = 20 := by
  obtain ⟨i, hi, h1, h2, h3⟩ := info_parts (P := Tryd.prog) (e := 28) (z := .agg #[.int .i64 0, .int .i64 0, .int .i64 0, .int .i64 0, .int .i64 0, .int .i64 0, .int .i64 0, .int .i64 0, .int .i64 0, .int .i64 0, .int .i64 0, .int .i64 0, .int .i64 0, .int .i64 0, .int .i64 0, .int .i64 0, .int .i64 0, .bool false, .bool false, .int .i64 0]) (size := 20) (bytes := 152) (by kernel_rfl)
  exact ⟨i, _, hi, h1, h2, h3, rfl⟩
/-- What a clone leaves: a slice of its own, of as many Nops. -/
def CloneV (W : World) (n : Nat) (W' : World) (e : Ending) : Prop :=
  ∃ ob cap cur, e = .returned (.slice (some ⟨ob, 0, none⟩) n cap) ∧ W.heap.size ≤ ob ∧ W'.heap[ob]? = some (.cells cur 28 (0, 0)) ∧ (∀ k j u, k < n → (nopV 0)[j]? = some u → cur[k * 20 + j]? = some u) ∧ Below W.heap.size W W'
set_option maxHeartbeats 4000000 in
set_option maxRecDepth 100000 in
theorem clone_ok (W : World) (lb n c : Nat) (hn : n ≤ 4096) (h0 : 0 < n) (hlb : lb < W.heap.size) (hN : NopsAt W lb n) :
    Calls Tryd.prog 9 #[.slice (some ⟨lb, 0, none⟩) n c] W fun e W' => CloneV W n W' e := by
  obtain ⟨i0, z0, hi0, hz0, hz1, hz2, hz3⟩ := parts_inst
  obtain ⟨w1, hw1⟩ : ∃ w1, w1 = W.alloc (.cells #[] 28) := ⟨_, rfl⟩
  have hb1 : Below W.heap.size W w1 := by rw [hw1]; exact (Below.refl _ _).alloc (Nat.le_refl _) _
  have hs1 : w1.heap.size = W.heap.size + 1 := by rw [hw1]; simp
  have hown : w1.ownsRow W.heap.size 28 20 (.slice (some ⟨W.heap.size, 0, none⟩) 0 0) 0 [] := by
    rw [hw1]
    exact World.ownsRow_made W #[] 0 (Nat.le_refl _) (by unfold maxLen; omega) rfl
  have HN := Lib.hid (nops_at (hN.kept (hb1.block lb hlb)))
  have HB := Lib.hid hb1
  have HOWN := Lib.hid hown
  have HS := Lib.hid hs1
  have HBW : Hid (W.heap.size ≤ w1.heap.size) := hb1.size
  clear hb1 hs1 hown hN
  go_enter Tryd.func9, Tryd.ntmps9
  subst hw1
  have hq : ∀ w : World, (binOp BinOp.eql 22 (.slice (some ⟨lb, 0, none⟩) n c) (.slice none 0 0)).run Tryd.prog w = .ok (.bool false) w := fun w => by
    rfl
  go_wp2_with (at_builtin; refine wpList_append_lies _ (by rfl) _ _ _ (by rfl) W.heap.size 28 i0 z0 20 152 Tryd.underlying22 hi0 hz0 hz1 hz2 hz3 (by omega) (.slice (some ⟨W.heap.size, 0, none⟩) 0 0) 0 [] (by rfl) HOWN.out ⟨lb, 0, none⟩ n c (nops n) (by rfl) (nops_len n) HN.out (nops_one n) h0 (by unfold maxLen; omega) (by omega) HBW.out _ rfl ?_)
  intro gg cap w5 hown5 hgrow5 hat5 hlt5
  have HE : Hid (CloneV W n w5 (.returned (.slice (some ⟨gg, 0, none⟩) n cap))) := by
    rcases hown5.2 with ⟨hv, _⟩ | ⟨r, cap', cur, hv, hB, hk, hn1, hc1, hs1, ht⟩
    · cases hv
    · injection hv with e1 e2 e3
      injection e1 with e1
      injection e1 with e1 _ _
      subst e1 e3
      refine ⟨gg, cap, cur, rfl, hB, hk, fun k j u hkn hu => ?_, ?_⟩
      · have hj : j < 20 := by have := (List.getElem?_eq_some_iff.1 hu).1; rwa [nopV_len] at this
        have e := nops_get n k j hkn hj
        rw [hu] at e
        have ht : cur.toList.take (n * 20) = nops n := by simpa using ht
        rw [← ht, List.getElem?_take] at e
        split at e
        · simpa using e
        · cases e
      · have c1 : Chg (fun q => W.heap.size ≤ q) (W.alloc (.cells #[] 28)) w5 := (Chg.refl _ _).grown hgrow5 (fun q e _ => by have : some W.heap.size = some q := e; simp only [Option.some.injEq] at this; omega)
        exact HB.out.trans (c1.below W.heap.size HBW.out (fun q hq hle => by omega))
  clear hown5 hgrow5 hat5 hlt5
  go_wp2_with fail
  go_ret
  exact HE.out
end Go.Proofs.YthakekgdllmbcaaDoor
