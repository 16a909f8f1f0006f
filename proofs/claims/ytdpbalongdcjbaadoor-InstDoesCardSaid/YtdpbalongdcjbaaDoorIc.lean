/- Walks of layer 5: whether one of the words of operations stands in a text: the search. -/
import Derived.Test.YtdpbalongdcjbaaDoorIb
import Derived.Deep.DeepCutAuto
import Derived.Deep.RegionWith
namespace Go.Proofs.YtdpbalongdcjbaaDoor
open Go Go.RowKit

theorem str_cut (s : List UInt8) (a b : Nat) : ((ByteArray.mk s.toArray).extract a b).toList = (s.drop a).take (b - a) := by
  rw [ByteArray.toList_eq]
  simp [ByteArray.data_extract]
theorem str_sl (s : List UInt8) (j m : Nat) (x : List UInt8) (hx : (s.drop j).take m = x) (h : j + m ≤ s.length) (W : World) :
    (Instr.slice 9 (.string ⟨s.toArray⟩) (some (.int .i64 (j : Int))) (some (.int .i64 ((j : Int) + (m : Int)))) none).run Tryd.prog W = .ok (.string ⟨x.toArray⟩) W := by
  subst hx
  rw [run_slice_string W _ _ _ _ _ _ Tryd.underlying9 (by omega) (by omega) (by show (j : Int) + m ≤ ((s.toArray.size : Nat) : Int); simp; omega)]
  rw [show ((j : Int) + (m : Int)).toNat = j + m by omega, Int.toNat_natCast]
  congr 2
  apply ByteArray.ext
  simp [ByteArray.data_extract]
theorem str_at (s : List UInt8) (j : Nat) (i : Int) (hi : i = (j : Int)) (h : j < s.length) (W : World) :
    (Instr.index 9 (.string ⟨s.toArray⟩) (.int .i64 i)).run Tryd.prog W = .ok (.int .u8 ((s.getD j 0).toNat : Int)) W := by
  subst hi
  have hz : (⟨s.toArray⟩ : ByteArray).size = s.length := by show s.toArray.size = _; simp
  rw [run_index_string W _ _ _ _ Tryd.underlying9, dif_pos ⟨by omega, by rw [hz]; omega⟩]
  simp only [Int.toNat_natCast]
  congr 3
  show (s.toArray[j]'_).toNat = _
  simp [List.getElem?_eq_getElem h]
theorem tok_no {w s : List UInt8} {j : Nat} (h : ∀ m : Nat, m < j → tokAt w s m = false) (hj : ¬ j + w.length ≤ s.length) : tok w s = false := by
  unfold tok
  rw [List.any_eq_false]
  intro m hm
  rw [List.mem_range] at hm
  rw [h m (by omega)]; simp
theorem tok_yes {w s : List UInt8} {j : Nat} (h : tokAt w s j = true) (hj : j + w.length ≤ s.length) : tok w s = true := by
  unfold tok
  rw [List.any_eq_true]
  exact ⟨j, List.mem_range.2 (by omega), h⟩
theorem no_next {w s : List UInt8} {j : Nat} (h : ∀ m : Nat, m < j → tokAt w s m = false) (hj : tokAt w s j = false) : ∀ m : Nat, m < j + 1 → tokAt w s m = false := by
  intro m hm
  by_cases e : m = j
  · rw [e, hj]
  · exact h m (by omega)

set_option maxHeartbeats 4000000 in
set_option maxRecDepth 100000 in
theorem is_in (W : World) (n : Nat) (h1 : 1 ≤ n) (h2 : n ≤ 47) (s : List UInt8) (hs : s.length ≤ 1000) (r1 r2 r3 r4 r5 r6 r7 r8 r9 r10 r11 r12 r13 r14 r15 r16 r17 r18 r19 : Value) :
    Calls Tryd.prog 26 #[.agg #[.int .i64 n, r1, r2, r3, r4, r5, r6, r7, r8, r9, r10, r11, r12, r13, r14, r15, r16, r17, r18, r19], str s] W fun e W' => e = .returned (.bool (isW n s)) ∧ Kp W W' := by
  have hw : (tab.getD n []).length ≤ 5 := by
    have : ∀ m : Fin 48, (tab.getD m.val []).length ≤ 5 := by decide
    exact this ⟨n, by omega⟩
  unfold isW
  rw [if_neg (by omega), Int.toNat_natCast]
  have H := fun W => (words_any W).mono (R' := fun e W' => e = .returned (.slice (some ⟨W.heap.size, 0, none⟩) 48 48) ∧ Kp W W' ∧ W'.cell? ⟨W.heap.size, n, none⟩ = some (str (tab.getD n []))) (by
    rintro e W' ⟨rfl, rfl⟩; exact ⟨rfl, (Kp.rfl W).new _, tab_cell W n (by omega)⟩)
  unfold str at *
  generalize tab.getD n [] = w at *
  replace H := Lib.hid H
  go_enter Tryd.func26, Tryd.ntmps26
  have hi0 : (0 : Int) ≤ (n : Int) := by omega
  have hi1 : (n : Int) < 48 := by omega
  go_upto_region 3 with fail
  go_region_with ((go_at_call 38; refine (H.out _).mono ?_; rintro e w4 ⟨rfl, hk4, hc4⟩; replace hc4 : w4.cell? ⟨W.heap.size + 1, n, none⟩ = some (.string ⟨w.toArray⟩) := (by simpa using hc4); have hx4 := (hk4.cell (p := ⟨W.heap.size, 0, none⟩) (by simp)).trans (show _ = some (.int .i64 (n : Int)) by simp)))
  all_goals
    have HK := Lib.hid (Kp.next (show Kp W _ by first | exact ((Kp.rfl W).new _) | exact ((Kp.rfl W).new _).draw | exact ((Kp.rfl W).new _).draw.draw) hk4)
    clear hc4 hk4 hx4 H
    go_wp2_with fail
    go_loopw [6] (fun k wr => ∃ j : Nat, k = .int .i64 j ∧ j ≤ s.length + 1 - w.length ∧ (∀ m : Nat, m < j → tokAt w s m = false) ∧ Kp W wr) (fun k _ => s.length + 1 - (intOf k).toNat)
    case atStart => exact ⟨0, rfl, by omega, fun m h => absurd h (by omega), HK.out⟩
    case round =>
      obtain ⟨j, rfl, hj, hno, hk⟩ := hrel
      replace hno := Lib.hid hno
      replace hk := Lib.hid hk
      have hjs : j ≤ s.length + 1 := by omega
      clear h1 h2 hi0 hi1 HK
      by_cases hl : j + w.length ≤ s.length
      · have hle : (j : Int) + (w.length : Int) ≤ (s.length : Int) := by omega
        have hj0 : (0 : Int) ≤ (j : Int) := by omega
        by_cases he : (s.drop j).take w.length = w
        · have HT := fun (hp : j = 0 ∨ s.getD (j - 1) 0 = 32) (hq : j + w.length = s.length ∨ s.getD (j + w.length) 0 = 32) => Lib.hid (show tok w s = true from tok_yes (j := j) (by
            unfold tokAt; rw [he]; simp only [beq_self_eq_true, Bool.true_and, Bool.and_eq_true, Bool.or_eq_true, beq_iff_eq]; exact ⟨hp, hq⟩) hl)
          have HF := fun (hp : ¬ (j = 0 ∨ s.getD (j - 1) 0 = 32) ∨ ¬ (j + w.length = s.length ∨ s.getD (j + w.length) 0 = 32)) => Lib.hid (show tokAt w s j = false by
            unfold tokAt; rw [he]; simp only [beq_self_eq_true, Bool.true_and, Bool.and_eq_false_iff, Bool.or_eq_false_iff, beq_eq_false_iff_ne]
            rcases hp with hp | hp
            · exact .inl ⟨fun h => hp (.inl h), fun h => hp (.inr h)⟩
            · exact .inr ⟨fun h => hp (.inl h), fun h => hp (.inr h)⟩)
          have hE : ((ByteArray.mk s.toArray).extract j (j + w.length)).toList = w := by rw [str_cut, Nat.add_sub_cancel_left]; exact he
          have HE := Lib.hid he
          clear he
          by_cases hp0 : j = 0
          · subst hp0
            rw [Nat.zero_add] at hE
            clear hle hj0 HE
            by_cases hq1 : w.length = s.length
            · have hqi : (w.length : Int) = (s.length : Int) := by omega
              rw [hq1] at hE
              have HG := Lib.hid (HT (.inl rfl) (.inl (by omega)))
              replace hq1 := Lib.hid hq1
              clear HT HF
              go_wp2_with fail
              all_goals
                go_ret
                exact ⟨by rw [HG.out.out]; simp, hk.out⟩
            · have hqi : ¬ (w.length : Int) = (s.length : Int) := by omega
              have hqb : ((w.length : Int) == (s.length : Int)) = false := by simp; omega
              have hix2 := str_at s (w.length) ((w.length : Int)) (by omega) (by omega)
              by_cases hq2 : s.getD (w.length) 0 = 32
              · have HG := Lib.hid (HT (.inl rfl) (.inr (by rw [Nat.zero_add]; exact hq2)))
                rw [hq2] at hix2
                clear hq2
                clear HT HF
                go_wp2_with fail
                all_goals
                  go_ret
                  exact ⟨by rw [HG.out.out]; simp, hk.out⟩
              · have hq3 : ¬ ((s.getD (w.length) 0).toNat : Int) = 32 := fun e => hq2 (UInt8.toNat_inj.1 (by rw [show (32 : UInt8).toNat = 32 from rfl]; omega))
                have HG := Lib.hid (HF (.inr (fun h => h.elim (fun e => hq1 (by omega)) (fun e => hq2 (by rw [Nat.zero_add] at e; exact e)))))
                generalize ((s.getD (w.length) 0).toNat : Int) = y2 at *
                have hyb : (y2 == 32) = false := by simpa using hq3
                clear hq2
                clear HT HF
                go_wp2_with fail
                all_goals exact ⟨⟨1, by simp, by omega, no_next hno.out HG.out.out, hk.out⟩, by simp [intOf] <;> omega⟩
          · clear hE
            have hsl := str_sl s j w.length w HE.out hl
            clear HE
            have hpi : ¬ (j : Int) = 0 := by omega
            have hpb : ((j : Int) == 0) = false := by simp; omega
            have hix1 := str_at s (j - 1) ((j : Int) - 1) (by omega) (by omega)
            by_cases hp1 : s.getD (j - 1) 0 = 32
            · rw [hp1] at hix1
              by_cases hq1 : j + w.length = s.length
              · have hqi : (j : Int) + (w.length : Int) = (s.length : Int) := by omega
                simp only [hqi] at hsl
                have HG := Lib.hid (HT (.inr hp1) (.inl (by omega)))
                replace hq1 := Lib.hid hq1
                clear HT HF
                go_wp2_with fail
                all_goals
                  go_ret
                  exact ⟨by rw [HG.out.out]; simp, hk.out⟩
              · have hqi : ¬ (j : Int) + (w.length : Int) = (s.length : Int) := by omega
                have hqb : ((j : Int) + (w.length : Int) == (s.length : Int)) = false := by simp; omega
                have hix2 := str_at s (j + w.length) ((j : Int) + (w.length : Int)) (by omega) (by omega)
                by_cases hq2 : s.getD (j + w.length) 0 = 32
                · have HG := Lib.hid (HT (.inr hp1) (.inr hq2))
                  rw [hq2] at hix2
                  clear hq2
                  clear HT HF
                  go_wp2_with fail
                  all_goals
                    go_ret
                    exact ⟨by rw [HG.out.out]; simp, hk.out⟩
                · have hq3 : ¬ ((s.getD (j + w.length) 0).toNat : Int) = 32 := fun e => hq2 (UInt8.toNat_inj.1 (by rw [show (32 : UInt8).toNat = 32 from rfl]; omega))
                  have HG := Lib.hid (HF (.inr (fun h => h.elim hq1 hq2)))
                  generalize ((s.getD (j + w.length) 0).toNat : Int) = y2 at *
                  have hyb : (y2 == 32) = false := by simpa using hq3
                  clear hq2
                  clear HT HF
                  go_wp2_with fail
                  all_goals exact ⟨⟨j + 1, by simp, by omega, no_next hno.out HG.out.out, hk.out⟩, by simp [intOf] <;> omega⟩
            · have hp3 : ¬ ((s.getD (j - 1) 0).toNat : Int) = 32 := fun e => hp1 (UInt8.toNat_inj.1 (by rw [show (32 : UInt8).toNat = 32 from rfl]; omega))
              have HG := Lib.hid (HF (.inl (fun h => h.elim hp0 hp1)))
              generalize ((s.getD (j - 1) 0).toNat : Int) = y1 at *
              have hyb : (y1 == 32) = false := by simpa using hp3
              clear hp1
              clear HT HF
              go_wp2_with fail
              all_goals exact ⟨⟨j + 1, by simp, by omega, no_next hno.out HG.out.out, hk.out⟩, by simp [intOf] <;> omega⟩
        · have HG := Lib.hid (Lib.hid (show tokAt w s j = false by unfold tokAt; simp [he]))
          have hsl := str_sl s j w.length _ rfl hl
          generalize (s.drop j).take w.length = x at *
          have hxb : (x == w) = false := by simpa using he
          go_wp2_with fail
          all_goals exact ⟨⟨j + 1, by simp, by omega, no_next hno.out HG.out.out, hk.out⟩, by simp [intOf] <;> omega⟩
      · have hle : ¬ (j : Int) + (w.length : Int) ≤ (s.length : Int) := by omega
        go_wp2_with fail
        go_ret
        refine ⟨by rw [tok_no hno.out hl]; simp, hk.out⟩
end Go.Proofs.YtdpbalongdcjbaaDoor
