/- Layer 9 (memory), the document's own: May. -/
import Derived.Test.YtlbkmdmnijmieaaOd
namespace Go.Proofs.Ytlbkmdmnijmieaa
open Go Go.RowKit Rp Go.Maps
open Cq (U64 I64 isW nb mask)

theorem ris_any (w : Int) (W : World) : Calls Try.prog 57 #[.int .i64 w] W fun e W' => e = .returned (.bool (isW w)) ∧ W = W' := by
  by_cases h1 : w = 1
  · subst h1; go_enter Try.func57, Try.ntmps57; go_wp2; go_ret; exact ⟨rfl, rfl⟩
  by_cases h2 : w = 2
  · subst h2; go_enter Try.func57, Try.ntmps57; go_wp2; go_ret; exact ⟨rfl, rfl⟩
  by_cases h4 : w = 4
  · subst h4; go_enter Try.func57, Try.ntmps57; go_wp2; go_ret; exact ⟨rfl, rfl⟩
  by_cases h8 : w = 8
  · subst h8; go_enter Try.func57, Try.ntmps57; go_wp2; go_ret; exact ⟨rfl, rfl⟩
  have g1 : (w == 1) = false := by simpa using h1
  have g2 : (w == 2) = false := by simpa using h2
  have g4 : (w == 4) = false := by simpa using h4
  have g8 : (w == 8) = false := by simpa using h8
  have gg : isW w = false := by simp [isW, h1, h2, h4, h8]
  rw [gg]
  go_enter Try.func57, Try.ntmps57; go_wp2; go_ret; exact ⟨rfl, rfl⟩
theorem fd_open {L : List Ar} {x r t : Int} {wt : Bool} (h : FdV L x r) : (r = -1 ∧ openB L t x wt = false) ∨ ∃ (j : Nat) (a : Ar), r = j ∧ L[j]? = some a ∧ openB L t x wt = a.opn t wt := by
  rcases h with ⟨h1, h2⟩ | ⟨j, a, h1, h2, h3, h4⟩
  · exact .inl ⟨h1, openB_no h2 t wt⟩
  · exact .inr ⟨j, a, h1, h2, openB_yes (find_at L x j a h2 h3 h4) t wt⟩
theorem mrd_cells {W : World} {g ga c : Nat} {L : List Ar} (h : MRd W g ga c L) {j : Nat} {a : Ar} (ha : L[j]? = some a) :
    g < W.heap.size ∧ ga < W.heap.size ∧ j < L.length ∧ W.cell? ⟨g, 0, none⟩ = some (.slice (some ⟨ga, 0, none⟩) L.length c) ∧ W.cell? ⟨ga, j * 5, none⟩ = some (.int .u64 a.lo) ∧ W.cell? ⟨ga, j * 5 + 1, none⟩ = some (.slice a.A a.n a.c) ∧ W.cell? ⟨ga, j * 5 + 2, none⟩ = some (.bool a.wr) ∧ W.cell? ⟨ga, j * 5 + 3, none⟩ = some (.bool a.pv) ∧ W.cell? ⟨ga, j * 5 + 4, none⟩ = some (.int .i64 a.ow) := by
  have hj := (List.getElem?_eq_some_iff.1 ha).1
  obtain ⟨h1, h2, h3⟩ := h.rows j a ha
  have hh := h.head
  have hf := h.few
  rw [if_neg (by omega), if_neg (by omega)] at hh
  have c0 := h3 0 (by omega)
  rw [Nat.add_zero] at c0
  exact ⟨h.lt, h1, hj, hh, c0, h3 1 (by omega), h3 2 (by omega), h3 3 (by omega), h3 4 (by omega)⟩
set_option maxRecDepth 100000 in
set_option maxHeartbeats 8000000 in
theorem rmay_in {g ga c : Nat} {L : List Ar} {W : World} (h : MRd W g ga c L) (t : Int) (ht0 : 0 ≤ t) (ht7 : t ≤ 7) (x : Int) (n : Nat) (wt : Bool) (hw : isW n = true) (hx : 0 ≤ x) (hxn : x + n ≤ 18446744073709551616) (hn : 1 ≤ n) (hn8 : n ≤ 8) :
    Calls Try.prog 39 #[.pointer (some ⟨g, 0, none⟩), .int .i64 t, .int .u64 x, .int .i64 n, .bool wt] W fun e W' => e = .returned (.bool (opnAll L t x wt n)) ∧ Kp W W' := by
  have H := Lib.hid h
  have HW := Lib.hid hw
  have HF := Lib.hid h.few
  obtain ⟨ln, hln⟩ : ∃ ln, ln = L.length := ⟨_, rfl⟩
  have HLN := Lib.hid hln
  have c1 : IntKind.u64.wrap ((n : Int) - 1) = n - 1 := Cq.wrap_of_u64 ⟨by omega, by omega⟩
  have c2 : IntKind.u64.wrap (x + ((n : Int) - 1)) = x + (n - 1) := Cq.wrap_of_u64 ⟨by omega, by omega⟩
  have g1 : (t < 0) = False := by simp; omega
  clear h hw hln
  go_enter Try.func39, Try.ntmps39
  go_wp2_with fail
  refine (ris_any n _).mono ?_; rintro e w1 ⟨rfl, rfl⟩
  rw [HW.out]
  go_wp2_with fail
  go_loopw [11] (fun i wr => ∃ k : Nat, k ≤ n ∧ i = .int .i64 k ∧ (∀ j : Nat, j < k → openB L t (x + j) wt = true) ∧ Kp W wr) (fun i _ => n - (intOf i).toNat)
  case atStart => exact ⟨0, Nat.zero_le _, rfl, fun _ h => absurd h (by omega), Kp.rfl _⟩
  case round =>
    obtain ⟨k, hk, rfl, hall, hkp⟩ := hrel
    have HA := Lib.hid hall
    have HKP := Lib.hid hkp
    clear hall hkp
    by_cases hlt : k < n
    · have HFD := Lib.hid (rfind_any g ga c L (x + k) wr (H.out.kp HKP.out))
      have HK := Lib.hid hlt
      go_wp2_with fail
      refine HFD.out.mono ?_; rintro e w2 ⟨⟨r, rfl, hr⟩, hk2⟩
      have HKP2 := Lib.hid (HKP.out.next hk2)
      clear hk2
      have HYes : Hid (openB L t (x + k) wt = true → ∀ j : Nat, j < k + 1 → openB L t (x + j) wt = true) := fun e j hj => by
        rcases Nat.lt_succ_iff_lt_or_eq.1 hj with h | rfl
        · exact HA.out j h
        · exact e
      have HNo : Hid (openB L t (x + k) wt = false → opnAll L t x wt n = false) := fun e => opnAll_no HK.out (by exact e)
      rcases fd_open (t := t) (wt := wt) hr with ⟨rfl, ho⟩ | ⟨j, a, rfl, ha, ho⟩
      · have HV := Lib.hid (HNo.out ho)
        clear ho hr
        go_wp2_with fail
        go_ret
        exact ⟨by rw [HV.out]; rfl, HKP2.out⟩
      · obtain ⟨m1, m2, m3, m4, m5, m6, m7, m8, m9⟩ := mrd_cells (H.out.kp HKP2.out) ha
        rw [← HLN.out] at m3 m4
        have hl63 : ln ≤ 140737488355328 := by have := HF.out; have := HLN.out; omega
        obtain ⟨lo, A, an, ac, wr2, pv, ow, bs⟩ := a
        simp only [Ar.opn] at ho
        simp only at m5 m6 m7 m8 m9
        have HO := Lib.hid ho
        clear ho hr ha m5 m6
        cases pv
        · cases wt
          · have HY := Lib.hid (HYes.out (HO.out.trans (by simp)))
            go_wp2_with fail
            go_roundw
            case rel => exact ⟨k + 1, by omega, by go_num, HY.out, HKP2.out⟩
            case measure => simp [intOf]; omega
          · cases wr2
            · have HV := Lib.hid (HNo.out (HO.out.trans (by simp)))
              go_wp2_with fail
              go_ret
              exact ⟨by rw [HV.out]; rfl, HKP2.out⟩
            · have HY := Lib.hid (HYes.out (HO.out.trans (by simp)))
              go_wp2_with fail
              go_roundw
              case rel => exact ⟨k + 1, by omega, by go_num, HY.out, HKP2.out⟩
              case measure => simp [intOf]; omega
        · obtain ⟨b, hb⟩ : ∃ b, (ow == t) = b := ⟨_, rfl⟩
          rw [hb] at HO
          have hb2 : (ow != t) = !b := by rw [bne, hb]
          cases b
          · have HV := Lib.hid (HNo.out (HO.out.trans (by simp)))
            go_wp2_with fail
            go_ret
            exact ⟨by rw [HV.out]; rfl, HKP2.out⟩
          · cases wt
            · have HY := Lib.hid (HYes.out (HO.out.trans (by simp)))
              go_wp2_with fail
              go_roundw
              case rel => exact ⟨k + 1, by omega, by go_num, HY.out, HKP2.out⟩
              case measure => simp [intOf]; omega
            · cases wr2
              · have HV := Lib.hid (HNo.out (HO.out.trans (by simp)))
                go_wp2_with fail
                go_ret
                exact ⟨by rw [HV.out]; rfl, HKP2.out⟩
              · have HY := Lib.hid (HYes.out (HO.out.trans (by simp)))
                go_wp2_with fail
                go_roundw
                case rel => exact ⟨k + 1, by omega, by go_num, HY.out, HKP2.out⟩
                case measure => simp [intOf]; omega
    · have HV := Lib.hid (opnAll_yes (n := n) (fun j hj => HA.out j (by omega)))
      go_wp2_with fail
      go_ret
      exact ⟨by rw [HV.out]; rfl, HKP.out⟩
theorem rmay_any {g ga c : Nat} {L : List Ar} {W : World} (h : MRd W g ga c L) (t x w : Int) (wt : Bool) (hx : U64 x) :
    Calls Try.prog 39 #[.pointer (some ⟨g, 0, none⟩), .int .i64 t, .int .u64 x, .int .i64 w, .bool wt] W fun e W' => e = .returned (.bool (mayB L t x w wt)) ∧ Kp W W' := by
  unfold mayB
  by_cases ht0 : t < 0
  · have hk : knB t = false := by unfold knB; rw [decide_eq_false (by omega)]; rfl
    rw [hk]
    clear h hx hk
    go_enter Try.func39, Try.ntmps39
    go_wp2_with fail
    go_ret
    exact ⟨by simp, Kp.rfl _⟩
  by_cases ht7 : 7 < t
  · have hk : knB t = false := by unfold knB; rw [decide_eq_false (p := t < 8) (by omega)]; simp
    rw [hk]
    clear h hx hk
    go_enter Try.func39, Try.ntmps39
    go_wp2_with fail
    go_ret
    exact ⟨by simp, Kp.rfl _⟩
  have hk : knB t = true := by unfold knB; rw [decide_eq_true (by omega), decide_eq_true (by omega)]; rfl
  rw [hk]
  have hx1 := hx.1
  have hx2 := hx.2
  cases hw : isW w
  · have HW := Lib.hid hw
    clear h hx hk hw
    go_enter Try.func39, Try.ntmps39
    go_wp2_with fail
    refine (ris_any w _).mono ?_; rintro e w1 ⟨rfl, rfl⟩
    rw [HW.out]
    go_wp2_with fail
    go_ret
    exact ⟨by simp, Kp.rfl _⟩
  · obtain ⟨n, rfl, hn, hn8⟩ := isW_nat hw
    by_cases hd : x + n ≤ 18446744073709551616
    · refine (rmay_in h t (by omega) (by omega) x n wt hw hx1 hd hn hn8).mono fun e W' ⟨h1, h2⟩ => ⟨?_, h2⟩
      rw [h1]; simp [hd]
    · rw [decide_eq_false hd]
      have HW := Lib.hid hw
      have c1 : IntKind.u64.wrap ((n : Int) - 1) = n - 1 := Cq.wrap_of_u64 ⟨by omega, by omega⟩
      have c2 : IntKind.u64.wrap (x + ((n : Int) - 1)) = x + (n - 1) - 18446744073709551616 := by
        rw [IntKind.wrap_u64]; omega
      clear h hx hk hw
      have hd' := Int.not_le.mp hd
      clear hd
      go_enter Try.func39, Try.ntmps39
      go_wp2_with fail
      refine (ris_any n _).mono ?_; rintro e w1 ⟨rfl, rfl⟩
      rw [HW.out]
      go_wp2_with fail
      go_ret
      exact ⟨by simp, Kp.rfl _⟩
end Go.Proofs.Ytlbkmdmnijmieaa
