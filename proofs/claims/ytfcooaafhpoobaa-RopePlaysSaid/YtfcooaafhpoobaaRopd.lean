/- Walks of layer 2: numbers read out of a store. -/
import Derived.Test.YtfcooaafhpoobaaRopc
namespace Go.Proofs.Ytfcooaafhpoobaa
open Go.RowKit Rp
open Cq (U64 I64 isW)

/-- the number of the first k bytes, the lowest first -/
def val (p : List Int) : Nat → Int
  | 0 => 0
  | k + 1 => val p k + p.getD k 0 * 2 ^ (8 * k)
def Bytes8 (p : List Int) : Prop := ∀ x ∈ p, 0 ≤ x ∧ x ≤ 255
theorem Bytes8.get {p : List Int} (h : Bytes8 p) (k : Nat) : 0 ≤ p.getD k 0 ∧ p.getD k 0 ≤ 255 := by
  rw [List.getD_eq_getElem?_getD]
  by_cases g : k < p.length
  · rw [List.getElem?_eq_getElem g]; exact h _ (List.getElem_mem g)
  · rw [List.getElem?_eq_none (by omega)]; simp
theorem pow8 (k : Nat) : (2 : Int) ^ (8 * (k + 1)) = 256 * 2 ^ (8 * k) := by
  rw [Nat.mul_succ, Int.pow_add, Int.mul_comm]; rfl
theorem val_lt {p : List Int} (h : Bytes8 p) (k : Nat) : 0 ≤ val p k ∧ val p k < 2 ^ (8 * k) := by
  induction k with
  | zero => simp [val]
  | succ k ih =>
    have hb := h.get k
    have hp : (0 : Int) < 2 ^ (8 * k) := Int.pow_pos (by decide)
    have h1 : 0 ≤ p.getD k 0 * 2 ^ (8 * k) := Int.mul_nonneg hb.1 (by omega)
    have h2 : p.getD k 0 * 2 ^ (8 * k) ≤ 255 * 2 ^ (8 * k) := Int.mul_le_mul_of_nonneg_right hb.2 (by omega)
    rw [pow8, val]; omega
theorem val_round {p : List Int} (h : Bytes8 p) (k : Nat) (hk : k < 8) :
    bits .or .u64 (val p k) (IntKind.u64.wrap (p.getD k 0 * 2 ^ (8 * k))) = val p (k + 1) := by
  have hb := h.get k
  have ⟨v0, v1⟩ := val_lt h k
  have ⟨w0, w1⟩ := val_lt h (k + 1)
  have ⟨q0, q1⟩ := Cq.pow_le (8 * (k + 1)) (by omega)
  have ⟨r0, r1⟩ := Cq.pow_le (8 * k) (by omega)
  have h1 : 0 ≤ p.getD k 0 * 2 ^ (8 * k) := Int.mul_nonneg hb.1 (by omega)
  have e : val p (k + 1) = val p k + p.getD k 0 * 2 ^ (8 * k) := rfl
  rw [e] at w1 ⊢
  rw [Cq.wrap_of_u64 (n := p.getD k 0 * 2 ^ (8 * k)) ⟨h1, by omega⟩]
  rw [u64_or _ _ v0 (by omega) h1 (by omega), Nat.or_comm]
  obtain ⟨x, hx⟩ := Int.eq_ofNat_of_zero_le hb.1
  have e2 : (p.getD k 0 * 2 ^ (8 * k)).toNat = x * 2 ^ (8 * k) := by
    rw [hx]
    have : (x : Int) * 2 ^ (8 * k) = ((x * 2 ^ (8 * k) : Nat) : Int) := by rw [Int.natCast_mul, Int.natCast_pow]; rfl
    rw [this, Int.toNat_natCast]
  have e3 : (val p k).toNat < 2 ^ (8 * k) := by
    have : ((2 ^ (8 * k) : Nat) : Int) = (2 : Int) ^ (8 * k) := by rw [Int.natCast_pow]; rfl
    omega
  rw [nat_join (8 * k) _ _ (by rw [e2]; exact Nat.mul_mod_left _ _) e3]
  omega
theorem val_append (p q : List Int) (k : Nat) (h : k ≤ p.length) : val (p ++ q) k = val p k := by
  induction k with
  | zero => rfl
  | succ k ih =>
    rw [val, val, ih (by omega), List.getD_eq_getElem?_getD, List.getD_eq_getElem?_getD, List.getElem?_append_left (by omega)]
theorem val_zeros (p : List Int) (n m : Nat) : val (p ++ List.replicate n 0) (p.length + m) = val p p.length := by
  induction m with
  | zero => exact val_append p _ _ (Nat.le_refl _)
  | succ m ih =>
    rw [← Nat.add_assoc, val, ih, List.getD_eq_getElem?_getD, List.getElem?_append_right (by omega)]
    have : ((List.replicate n (0 : Int))[p.length + m - p.length]?).getD 0 = 0 := by
      rw [List.getElem?_replicate]; split <;> rfl
    rw [this]; simp
theorem index8 (p : List Int) (h : p.length = 8) (k : Nat) (hk : k < 8) (W : World) :
    (Instr.index 176 (.agg (cellsOf p).toArray) (.int .i64 (k : Int))).run Try.prog W = .ok (.int .u8 (p.getD k 0)) W := by
  match p, h with
  | [a0, a1, a2, a3, a4, a5, a6, a7], _ =>
    have hc : k = 0 ∨ k = 1 ∨ k = 2 ∨ k = 3 ∨ k = 4 ∨ k = 5 ∨ k = 6 ∨ k = 7 := by omega
    rcases hc with rfl | rfl | rfl | rfl | rfl | rfl | rfl | rfl <;> (show Sem.run _ _ _ = _; kernel_rfl)
set_option maxRecDepth 100000 in
theorem number_some (sb k c : Nat) (cs : List Value) (bs : List Int) (W : World) (hc : W.cell? ⟨sb, 0, none⟩ = some (.slice (some ⟨k, 0, none⟩) bs.length c))
    (hbx : Box W k 5 cs) (hcs : ∀ i, i < bs.length → cs[i]? = some (.int .u8 (bs.getD i 0))) (h8 : Bytes8 bs) (a w : Nat) (hw : w = 1 ∨ w = 2 ∨ w = 4 ∨ w = 8) (han : a + w ≤ bs.length) (hb : bs.length ≤ 1048576) (hca : a < c) :
    Calls Try.prog 59 #[.pointer (some ⟨sb, 0, none⟩), .int .i64 a, .int .i64 w] W fun e W' => e = .returned (.int .u64 (val (cut bs a w) w)) ∧ Below W.heap.size W W' := by
  have hsz : sb < W.heap.size := block_lt_of_cell (a := ⟨sb, 0, none⟩) hc
  have hkz : k < W.heap.size := hbx.lt
  obtain ⟨p, hp⟩ : ∃ p, p = cut bs a w ++ List.replicate (8 - w) 0 := ⟨_, rfl⟩
  have hcl := cut_length bs a w han
  have hpl : p.length = 8 := by rw [hp, List.length_append, List.length_replicate, hcl]; omega
  have hp8 : Bytes8 p := by
    intro x hx
    rw [hp] at hx
    rcases List.mem_append.1 hx with g | g
    · unfold cut at g
      exact h8 x (List.mem_of_mem_drop (List.mem_of_mem_take g))
    · have := List.eq_of_mem_replicate g; omega
  have hval : val p 8 = val (cut bs a w) w := by
    have := val_zeros (cut bs a w) (8 - w) (8 - w)
    rw [hcl] at this
    rw [hp, ← this]; congr 1; omega
  obtain ⟨WA, hWA⟩ : ∃ WA, WA = W.alloc (.cells #[.int .u8 0, .int .u8 0, .int .u8 0, .int .u8 0, .int .u8 0, .int .u8 0, .int .u8 0, .int .u8 0] 176) := ⟨_, rfl⟩
  have hba : Below W.heap.size W WA.drew := by rw [hWA]; exact ((Below.refl _ W).alloc (Nat.le_refl _) _).drew
  have hxa : Box WA.drew W.heap.size 176 [.int .u8 0, .int .u8 0, .int .u8 0, .int .u8 0, .int .u8 0, .int .u8 0, .int .u8 0, .int .u8 0] := by rw [hWA]; exact Box.fresh W 176 _
  have hxs : Box WA.drew k 5 cs := hbx.kept (hba.block k hkz)
  obtain ⟨w2, hcp, hb2, hw2⟩ : ∃ w2, (Builtin.copy_ #[22, 22] 3 #[.slice (some ⟨W.heap.size, 0, none⟩) w 8, .slice (some ⟨k, a, none⟩) (bs.length - a) (c - a)]).run Try.prog WA.drew = .ok (goInt w) w2
      ∧ Box w2 W.heap.size 176 (cellsOf p) ∧ Below W.heap.size W w2 := by
    have hl : (cellsOf (cut bs a w)).length = w := by rw [cellsOf_length]; exact hcl
    have hrun := run_copy_row (P := Try.prog) WA.drew 22 22 3 5 W.heap.size 0 w 8 ⟨k, a, none⟩ (bs.length - a) (c - a) _ 176 (cellsOf (cut bs a w)) Try.underlying22 (by kernel_rfl) hxa (by rw [hl]; exact (Nat.min_eq_right (by omega)).symm)
      (by
        intro j u hu
        have hj : j < w := by have := (List.getElem?_eq_some_iff.1 hu).1; omega
        rw [cellsOf_get _ _ (by rw [hcl]; exact hj), cut_get bs a w j hj] at hu
        have hs := hxs.cell (a + j)
        rw [hcs (a + j) (by omega), hu] at hs
        by_cases h0 : j = 0
        · subst h0; simpa [Addr.add] using hs
        · simpa [Addr.add, h0] using hs)
      (by rw [hl]; simp; omega) (by intro u hu; obtain ⟨x, _, rfl⟩ := List.mem_map.1 hu; rfl)
    rw [hl] at hrun
    refine ⟨_, hrun, ?_, below_setRow hba (Nat.le_refl _) _⟩
    have hsr := setRow_heap WA.drew W.heap.size _ (([Value.int .u8 0, .int .u8 0, .int .u8 0, .int .u8 0, .int .u8 0, .int .u8 0, .int .u8 0, .int .u8 0].toArray.toList.take 0 ++ cellsOf (cut bs a w) ++ [Value.int .u8 0, .int .u8 0, .int .u8 0, .int .u8 0, .int .u8 0, .int .u8 0, .int .u8 0, .int .u8 0].toArray.toList.drop (0 + w)).toArray) _ _ hxa
    unfold Box
    rw [hsr]
    congr 3
    rw [hp, cellsOf_append]
    rcases hw with rfl | rfl | rfl | rfl <;> simp [cellsOf]
  have HP8 := Lib.hid hp8
  have HPL := Lib.hid hpl
  have HVAL := Lib.hid hval
  have HB2 := Lib.hid hb2
  have HW2 := Lib.hid hw2
  have hsl := slice8 W.heap.size w hw
  have hcA : WA.cell? ⟨sb, 0, none⟩ = some (.slice (some ⟨k, 0, none⟩) bs.length c) := (World.cell?_of_block (by rw [hWA]; exact Below.heap_alloc W _ sb hsz)).trans hc
  have HWA := Lib.hid hWA
  clear hp hcl hpl hp8 hval hba hxa hxs hb2 hw2 hcs hbx h8 hWA hc hsz hkz
  go_enter Try.func59, Try.ntmps59
  go_wp2_with fail
  rw [← HWA.out]
  generalize hg1 : W.heap.size = g1 at *
  have HG1 := Lib.hid hg1
  clear hg1
  go_region
  go_wp2_with (refine wpList_load_row rfl 176 _ rfl g1 rfl 176 (cellsOf p).toArray (0, 0) _ HB2.out Try.underlying176 rfl (by simp only [List.size_toArray, cellsOf_length, HPL.out]; kernel_rfl) ?_)
  clear hcp hsl
  go_loop [8, 9, 10, 21] (fun v _ _ i => ∃ j : Nat, j ≤ 8 ∧ i = .int .i64 j ∧ v = .int .u64 (val p j)) (fun _ _ _ i => 8 - (intOf i).toNat)
  case atStart => exact ⟨0, by omega, rfl, rfl⟩
  case round =>
    obtain ⟨j, hj, rfl, rfl⟩ := hrel
    by_cases hlt : j < 8
    · have hix := index8 p HPL.out j hlt
      have hbj := HP8.out.get j
      have HR := Lib.hid (val_round HP8.out j hlt)
      generalize p.getD j 0 = y at *
      go_wp2_with fail
      go_round
      case rel => exact ⟨j + 1, by omega, by go_num, by rw [HR.out]⟩
      case measure => simp [intOf]; omega
    · have : j = 8 := by omega
      subst this
      go_wp2_with fail
      go_ret
      exact ⟨by rw [← HVAL.out]; rfl, by rw [HG1.out]; exact HW2.out⟩
theorem number_any {B : Nat} {W : World} {sb t : Nat} {rest : List Value} {v : Value} {bs : List Int} (h : St B 5 W sb t rest v bs) (h8 : Bytes8 bs) (a w : Nat) (hw : w = 1 ∨ w = 2 ∨ w = 4 ∨ w = 8) (han : a + w ≤ bs.length) (hb : bs.length ≤ 1048576) :
    Calls Try.prog 59 #[.pointer (some ⟨sb, 0, none⟩), .int .i64 a, .int .i64 w] W fun e W' => e = .returned (.int .u64 (val (cut bs a w) w)) ∧ Below W.heap.size W W' := by
  have hc := h.box.cell 0
  simp only [List.getElem?_cons_zero] at hc
  rcases own_cases h.own with ⟨rfl, rfl⟩ | ⟨k, c, cs, rfl, hnc, hcm, hbx, hl, hcs⟩
  · simp at han; omega
  · exact number_some sb k c cs bs W hc hbx hcs h8 a w hw han hb (by omega)
theorem placeE_cases (a w : Int) (n : Nat) : (isW w = false ∧ placeE a w n = 2) ∨ (isW w = true ∧ hasB a w n = false ∧ placeE a w n = 7) ∨ (isW w = true ∧ hasB a w n = true ∧ placeE a w n = 0) := by
  unfold placeE
  cases isW w
  · exact .inl ⟨rfl, rfl⟩
  · cases hasB a w n
    · exact .inr (.inl ⟨rfl, rfl, rfl⟩)
    · exact .inr (.inr ⟨rfl, rfl, rfl⟩)
theorem hasB_is {a w : Int} {n : Nat} (h : hasB a w n = true) : 0 ≤ a ∧ 0 ≤ w ∧ a + w ≤ n := by
  simp [hasB, inB] at h; omega
/-- what At tells -/
def atV (bs : List Int) (a w : Int) : Int := if placeE a w bs.length = 0 then val (cut bs a.toNat w.toNat) w.toNat else 0
theorem at_any {B : Nat} {W : World} {sb t : Nat} {rest : List Value} {v : Value} {bs : List Int} (h : St B 5 W sb t rest v bs) (h8 : Bytes8 bs) (a w : Int) (hb : bs.length ≤ 1048576) :
    Calls Try.prog 49 #[.pointer (some ⟨sb, 0, none⟩), .int .i64 a, .int .i64 w] W fun e W' => e = .returned (.tuple #[.int .u64 (atV bs a w), .int .i64 (placeE a w bs.length)]) ∧ Below W.heap.size W W' := by
  obtain ⟨A, c, hv, _, _⟩ := own_form h.own
  have hc := h.box.cell 0
  simp only [List.getElem?_cons_zero] at hc
  rw [hv] at hc
  have H := Lib.hid h
  clear h hv
  rcases placeE_cases a w bs.length with ⟨h1, h2⟩ | ⟨h1, h2, h3⟩ | ⟨h1, h2, h3⟩
  · rw [show atV bs a w = 0 by unfold atV; rw [h2]; rfl, h2]
    have HP := Lib.hid h2
    clear h2
    go_enter Try.func49, Try.ntmps49
    go_wp2_with fail
    refine (place_any sb A bs.length c a w _ hc (by omega)).mono ?_; rintro e w' ⟨rfl, rfl⟩
    rw [HP.out]
    go_wp2_with fail
    go_ret2
    exact ⟨rfl, Below.refl _ _⟩
  · rw [show atV bs a w = 0 by unfold atV; rw [h3]; rfl, h3]
    have HP := Lib.hid h3
    clear h3 h2
    go_enter Try.func49, Try.ntmps49
    go_wp2_with fail
    refine (place_any sb A bs.length c a w _ hc (by omega)).mono ?_; rintro e w' ⟨rfl, rfl⟩
    rw [HP.out]
    go_wp2_with fail
    go_ret2
    exact ⟨rfl, Below.refl _ _⟩
  · rw [show atV bs a w = val (cut bs a.toNat w.toNat) w.toNat by unfold atV; rw [h3]; rfl, h3]
    have HP := Lib.hid h3
    have ⟨g1, g2, g3⟩ := hasB_is h2
    have hw := Cq.isW_cases h1
    obtain ⟨x, rfl⟩ := Int.eq_ofNat_of_zero_le g1
    obtain ⟨y, rfl⟩ := Int.eq_ofNat_of_zero_le g2
    have HN := Lib.hid (number_any H.out h8 x y (by omega) (by omega) hb)
    rw [Int.toNat_natCast, Int.toNat_natCast]
    clear h3 h2 hw
    go_enter Try.func49, Try.ntmps49
    go_wp2_with fail
    refine (place_any sb A bs.length c x y _ hc (by omega)).mono ?_; rintro e w' ⟨rfl, rfl⟩
    rw [HP.out]
    go_wp2_with fail
    refine HN.out.mono ?_; rintro e w' ⟨rfl, hbel⟩
    have HBE := Lib.hid hbel
    clear hbel hc
    go_wp2_with fail
    go_ret2
    exact ⟨rfl, HBE.out⟩
end Go.Proofs.Ytfcooaafhpoobaa
