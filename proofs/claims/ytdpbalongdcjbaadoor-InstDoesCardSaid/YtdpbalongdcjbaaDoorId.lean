/- Walks of layer 5: what the document's own answer asks of an instruction's kinds and width. -/
import Derived.Test.YtdpbalongdcjbaaDoorIc
namespace Go.Proofs.YtdpbalongdcjbaaDoor
open Go Go.RowKit

theorem is_any (W : World) (op : Int) (s : List UInt8) (hs : s.length ≤ 1000) (r1 r2 r3 r4 r5 r6 r7 r8 r9 r10 r11 r12 r13 r14 r15 r16 r17 r18 r19 : Value) :
    Calls Tryd.prog 26 #[.agg #[.int .i64 op, r1, r2, r3, r4, r5, r6, r7, r8, r9, r10, r11, r12, r13, r14, r15, r16, r17, r18, r19], str s] W fun e W' => e = .returned (.bool (isW op s)) ∧ Kp W W' := by
  by_cases ho : op < 1 ∨ 47 < op
  · exact is_out W op ho s r1 r2 r3 r4 r5 r6 r7 r8 r9 r10 r11 r12 r13 r14 r15 r16 r17 r18 r19
  · obtain ⟨n, rfl⟩ := Int.eq_ofNat_of_zero_le (show 0 ≤ op by omega)
    exact is_in W n (by omega) (by omega) s hs r1 r2 r3 r4 r5 r6 r7 r8 r9 r10 r11 r12 r13 r14 r15 r16 r17 r18 r19

/-- is the width one of a text's digits? -/
def widthAt (w : Int) (c : UInt8) : Bool := w == ((c - 48).toNat : Int)
def widthB (w : Int) (s : List UInt8) : Bool := s.any (widthAt w)
/-- is the kind one of a text's letters? -/
def kindAt (k : Int) (c : UInt8) : Bool := (k == 0 && c == 110) || (k == 1 && c == 114) || (k == 2 && c == 109) || (k == 3 && c == 105)
def kindB (k : Int) (s : List UInt8) : Bool := s.any (kindAt k)
theorem any_no {f : UInt8 → Bool} {s : List UInt8} {j : Nat} (h : ∀ m : Nat, m < j → f (s.getD m 0) = false) (hj : ¬ j < s.length) : s.any f = false := by
  rw [List.any_eq_false]
  intro x hx
  obtain ⟨i, hi, rfl⟩ := List.getElem_of_mem hx
  have := h i (by omega)
  rw [List.getD_eq_getElem?_getD, List.getElem?_eq_getElem hi] at this
  simpa using this
theorem any_yes {f : UInt8 → Bool} {s : List UInt8} {j : Nat} (h : f (s.getD j 0) = true) (hj : j < s.length) : s.any f = true := by
  rw [List.any_eq_true]
  refine ⟨s[j], List.getElem_mem hj, ?_⟩
  rw [List.getD_eq_getElem?_getD, List.getElem?_eq_getElem hj] at h
  simpa using h
theorem any_next {f : UInt8 → Bool} {s : List UInt8} {j : Nat} (h : ∀ m : Nat, m < j → f (s.getD m 0) = false) (hj : f (s.getD j 0) = false) : ∀ m : Nat, m < j + 1 → f (s.getD m 0) = false := by
  intro m hm
  by_cases e : m = j
  · rw [e, hj]
  · exact h m (by omega)

set_option maxHeartbeats 4000000 in
set_option maxRecDepth 100000 in
theorem width_any (W : World) (w : Int) (s : List UInt8) (hs : s.length ≤ 1000) (r1 r2 r3 r4 r5 r6 r7 r8 r9 r10 r11 r12 r13 r14 r15 r16 r17 r18 r19 : Value) :
    Calls Tryd.prog 34 #[.agg #[r1, .int .i64 w, r2, r3, r4, r5, r6, r7, r8, r9, r10, r11, r12, r13, r14, r15, r16, r17, r18, r19], str s] W fun e W' => e = .returned (.bool (widthB w s)) ∧ Kp W W' := by
  unfold str
  go_enter Tryd.func34, Tryd.ntmps34
  go_wp2_with fail
  go_loopw [5] (fun k wr => ∃ j : Nat, k = .int .i64 j ∧ j ≤ s.length ∧ (∀ m : Nat, m < j → widthAt w (s.getD m 0) = false) ∧ Kp W wr ∧ wr.cell? ⟨W.heap.size, 1, none⟩ = some (.int .i64 w)) (fun k _ => s.length - (intOf k).toNat)
  case atStart => exact ⟨0, rfl, by omega, fun m h => absurd h (by omega), (Kp.rfl W).new _, by rw [World.cell?, heap_alloc_new]; rfl⟩
  case round =>
    obtain ⟨j, rfl, hj, hno, hk, hc⟩ := hrel
    replace hno := Lib.hid hno
    replace hk := Lib.hid hk
    have hj0 : (0 : Int) ≤ (j : Int) := by omega
    by_cases hl : j < s.length
    · have hle : (j : Int) < (s.length : Int) := by omega
      have hix := str_at s j (j : Int) rfl hl
      have hwr : IntKind.u8.wrap (((s.getD j 0).toNat : Int) - 48) = ((s.getD j 0 - 48).toNat : Int) := by
        generalize s.getD j 0 = c
        have : ∀ c : Fin 256, IntKind.u8.wrap ((c.val : Int) - 48) = (((UInt8.ofNat c.val) - 48).toNat : Int) := by decide +kernel
        have h := this ⟨c.toNat, UInt8.toNat_lt c⟩
        simpa using h
      have hY := fun h => Lib.hid (show s.any (widthAt w) = true from any_yes (f := widthAt w) (j := j) (by unfold widthAt; exact beq_iff_eq.2 h) hl)
      have hN := fun (h : ¬ w = ((s.getD j 0 - 48).toNat : Int)) => Lib.hid (any_next (f := widthAt w) hno.out (by unfold widthAt; simpa using h))
      have hzw : wrap64 ((s.getD j 0 - 48).toNat : Int) = ((s.getD j 0 - 48).toNat : Int) := by
        have := UInt8.toNat_lt (s.getD j 0 - 48)
        unfold wrap64; omega
      generalize ((s.getD j 0 - 48).toNat : Int) = z at *
      generalize ((s.getD j 0).toNat : Int) = y at *
      by_cases hz : w = z
      · have HY := Lib.hid (hY hz)
        clear hY hN
        subst hz
        go_wp2_with fail
        go_region
        go_wp2_with fail
        all_goals
          go_ret
          exact ⟨by unfold widthB; rw [HY.out.out]; simp, hk.out.draw⟩
      · have HN := Lib.hid (hN hz)
        have hzb : (w == z) = false := by simpa using hz
        clear hY hN
        go_wp2_with fail
        go_region
        go_wp2_with fail
        all_goals exact ⟨⟨j + 1, by simp, by omega, HN.out.out, hk.out.draw, by simpa using hc⟩, by simp [intOf] <;> omega⟩
    · have hle : ¬ (j : Int) < (s.length : Int) := by omega
      go_wp2_with fail
      go_ret
      exact ⟨by unfold widthB; rw [any_no (f := widthAt w) hno.out hl]; simp, hk.out⟩
set_option maxHeartbeats 4000000 in
set_option maxRecDepth 100000 in
theorem kinds_any (W : World) (k : Int) (s : List UInt8) (hs : s.length ≤ 1000) (r1 r2 r3 r4 r5 : Value) :
    Calls Tryd.prog 35 #[.agg #[.int .i64 k, r1, r2, r3, r4, r5], str s] W fun e W' => e = .returned (.bool (kindB k s)) ∧ Kp W W' := by
  unfold str
  go_enter Tryd.func35, Tryd.ntmps35
  go_wp2_with fail
  go_loopw [5] (fun q wr => ∃ j : Nat, q = .int .i64 j ∧ j ≤ s.length ∧ (∀ m : Nat, m < j → kindAt k (s.getD m 0) = false) ∧ Kp W wr ∧ wr.cell? ⟨W.heap.size, 0, none⟩ = some (.int .i64 k)) (fun q _ => s.length - (intOf q).toNat)
  case atStart => exact ⟨0, rfl, by omega, fun m h => absurd h (by omega), (Kp.rfl W).new _, by rw [World.cell?, heap_alloc_new]; rfl⟩
  case round =>
    obtain ⟨j, rfl, hj, hno, hk, hc⟩ := hrel
    replace hno := Lib.hid hno
    replace hk := Lib.hid hk
    have hj0 : (0 : Int) ≤ (j : Int) := by omega
    by_cases hl : j < s.length
    · have hle : (j : Int) < (s.length : Int) := by omega
      have hix := str_at s j (j : Int) rfl hl
      have hY := fun (h : kindAt k (s.getD j 0) = true) => Lib.hid (show s.any (kindAt k) = true from any_yes (f := kindAt k) (j := j) h hl)
      have hN := fun (h : kindAt k (s.getD j 0) = false) => Lib.hid (any_next (f := kindAt k) hno.out h)
      have hcv : ∀ v : UInt8, (s.getD j 0 == v) = (((s.getD j 0).toNat : Int) == (v.toNat : Int)) := fun v => by
        generalize s.getD j 0 = c
        rw [Bool.eq_iff_iff, beq_iff_eq, beq_iff_eq, ← UInt8.toNat_inj]; omega
      have hkb : kindAt k (s.getD j 0) = ((k == 0 && ((s.getD j 0).toNat : Int) == 110) || (k == 1 && ((s.getD j 0).toNat : Int) == 114) || (k == 2 && ((s.getD j 0).toNat : Int) == 109) || (k == 3 && ((s.getD j 0).toNat : Int) == 105)) := by
        unfold kindAt; rw [hcv, hcv, hcv, hcv]; rfl
      rw [hkb] at hY hN
      clear hcv hkb
      generalize ((s.getD j 0).toNat : Int) = y at *
      by_cases h0 : k = 0
      · subst h0
        by_cases hy : y = 110
        · subst hy
          have HY := Lib.hid (hY (by simp))
          clear hY hN
          go_wp2_with fail
          all_goals
            go_ret
            exact ⟨by unfold kindB; rw [HY.out.out]; simp, hk.out⟩
        · have hyb : (y == 110) = false := by simpa using hy
          have HN := Lib.hid (hN (by simp [*]))
          clear hY hN
          go_wp2_with fail
          all_goals exact ⟨⟨j + 1, by simp, by omega, HN.out.out, hk.out, by simpa using hc⟩, by simp [intOf] <;> omega⟩
      have b0 : (k == 0) = false := by simpa using h0
      by_cases h1 : k = 1
      · subst h1
        by_cases hy : y = 114
        · subst hy
          have HY := Lib.hid (hY (by simp))
          clear hY hN
          go_wp2_with fail
          all_goals
            go_ret
            exact ⟨by unfold kindB; rw [HY.out.out]; simp, hk.out⟩
        · have hyb : (y == 114) = false := by simpa using hy
          have HN := Lib.hid (hN (by simp [*]))
          clear hY hN
          go_wp2_with fail
          all_goals exact ⟨⟨j + 1, by simp, by omega, HN.out.out, hk.out, by simpa using hc⟩, by simp [intOf] <;> omega⟩
      have b1 : (k == 1) = false := by simpa using h1
      by_cases h2 : k = 2
      · subst h2
        by_cases hy : y = 109
        · subst hy
          have HY := Lib.hid (hY (by simp))
          clear hY hN
          go_wp2_with fail
          all_goals
            go_ret
            exact ⟨by unfold kindB; rw [HY.out.out]; simp, hk.out⟩
        · have hyb : (y == 109) = false := by simpa using hy
          have HN := Lib.hid (hN (by simp [*]))
          clear hY hN
          go_wp2_with fail
          all_goals exact ⟨⟨j + 1, by simp, by omega, HN.out.out, hk.out, by simpa using hc⟩, by simp [intOf] <;> omega⟩
      have b2 : (k == 2) = false := by simpa using h2
      by_cases h3 : k = 3
      · subst h3
        by_cases hy : y = 105
        · subst hy
          have HY := Lib.hid (hY (by simp))
          clear hY hN
          go_wp2_with fail
          all_goals
            go_ret
            exact ⟨by unfold kindB; rw [HY.out.out]; simp, hk.out⟩
        · have hyb : (y == 105) = false := by simpa using hy
          have HN := Lib.hid (hN (by simp [*]))
          clear hY hN
          go_wp2_with fail
          all_goals exact ⟨⟨j + 1, by simp, by omega, HN.out.out, hk.out, by simpa using hc⟩, by simp [intOf] <;> omega⟩
      have b3 : (k == 3) = false := by simpa using h3
      have HN := Lib.hid (hN (by simp [*]))
      clear hY hN
      go_wp2_with fail
      all_goals exact ⟨⟨j + 1, by simp, by omega, HN.out.out, hk.out, by simpa using hc⟩, by simp [intOf] <;> omega⟩
    · have hle : ¬ (j : Int) < (s.length : Int) := by omega
      go_wp2_with fail
      go_ret
      exact ⟨by unfold kindB; rw [any_no (f := kindAt k) hno.out hl]; simp, hk.out⟩
end Go.Proofs.YtdpbalongdcjbaaDoor
