/- Layer 9 (memory): the document's Find; Own, of the code. -/
import Derived.Test.YtlbkmdmnijmieaaNc
namespace Go.Proofs.Ytlbkmdmnijmieaa
open Go Go.RowKit Rp Go.Maps
open Cq (U64 I64 isW nb mask)

/-- the area of an address, by its number -/
def FdV (L : List Ar) (x r : Int) : Prop :=
  (r = -1 ∧ findA L x = none) ∨ ∃ (j : Nat) (a : Ar), r = j ∧ L[j]? = some a ∧ a.has x = true ∧ ∀ (i : Nat) (b : Ar), i < j → L[i]? = some b → b.has x = false
set_option maxRecDepth 100000 in
set_option maxHeartbeats 2000000 in
theorem rfind_any (g ga c : Nat) (L : List Ar) (x : Int) (W : World) (h : MRd W g ga c L) :
    Calls Try.prog 29 #[.pointer (some ⟨g, 0, none⟩), .int .u64 x] W fun e W' => (∃ r, e = .returned (.int .i64 r) ∧ FdV L x r) ∧ Kp W W' := by
  have hh := h.head
  have hf := h.few
  have hl := h.lt
  have H := Lib.hid h
  clear h
  rcases Nat.eq_zero_or_pos L.length with h0 | h0
  · have e : L = [] := List.length_eq_zero_iff.1 h0
    subst e
    simp only [List.length_nil] at hh
    clear h0 hf
    go_enter Try.func29, Try.ntmps29
    go_wp2_with fail
    go_loopw [12] (fun i wr => i = .int .i64 0 ∧ W = wr) (fun _ _ => 0)
    case atStart => exact ⟨rfl, rfl⟩
    case round =>
      obtain ⟨rfl, rfl⟩ := hrel
      go_wp2_with fail
      go_ret
      exact ⟨⟨_, rfl, .inl ⟨rfl, rfl⟩⟩, Kp.rfl _⟩
  · rw [if_neg (by omega), if_neg (by omega)] at hh
    obtain ⟨n, hn⟩ : ∃ n, n = L.length := ⟨_, rfl⟩
    have hfn : n ≤ 9223372036854775807 := by omega
    rw [← hn] at hh
    have HN := Lib.hid hn
    have HP := Lib.hid h0
    clear hn h0 hf
    go_enter Try.func29, Try.ntmps29
    go_wp2_with fail
    go_loopw [12] (fun i wr => ∃ k : Nat, k ≤ n ∧ i = .int .i64 k ∧ (∀ (i : Nat) (a : Ar), i < k → L[i]? = some a → a.has x = false) ∧ Kp W wr) (fun i _ => n - (intOf i).toNat)
    case atStart => exact ⟨0, Nat.zero_le _, rfl, fun _ _ h => absurd h (by omega), Kp.rfl _⟩
    case round =>
      obtain ⟨k, hk, rfl, hno, hkp⟩ := hrel
      by_cases hlt : k < n
      · obtain ⟨a, ha⟩ : ∃ a, L[k]? = some a := ⟨_, List.getElem?_eq_getElem (by have := HN.out; omega)⟩
        obtain ⟨h1, h2, h3⟩ := (H.out.kp hkp).rows k a ha
        have c0 := h3 0 (by omega)
        rw [Nat.add_zero] at c0
        have c1 := h3 1 (by omega)
        have c2 := h3 2 (by omega)
        have c3 := h3 3 (by omega)
        have c4 := h3 4 (by omega)
        simp only [Ar.row, List.getElem?_cons_zero, List.getElem?_cons_succ] at c0 c1 c2 c3 c4
        have HA := Lib.hid ha
        have HNO := Lib.hid hno
        have HKP := Lib.hid hkp
        obtain ⟨d, hd⟩ : ∃ d, d = IntKind.u64.wrap (x - a.lo) := ⟨_, rfl⟩
        have hd0 : 0 ≤ d := by rw [hd]; exact (Cq.u64_wrap _).1
        have HD := Lib.hid hd
        have hnn : (a.n : Int) ≤ 9223372036854775807 := by omega
        clear ha hno hkp h3 h2
        cases hb : decide (d < (a.n : Int))
        · have HB : Hid (∀ (i : Nat) (b : Ar), i < k + 1 → L[i]? = some b → b.has x = false) := fun i b hi e => by
            rcases Nat.lt_succ_iff_lt_or_eq.1 hi with h | rfl
            · exact HNO.out i b h e
            · obtain rfl := Option.some.inj (HA.out.symm.trans e); unfold Ar.has hasB; rw [← HD.out]; exact hb
          have hb' : (a.n : Int) ≤ d := by simpa using hb
          rw [hd] at hb' hd0
          clear hb hd
          go_wp2_with fail
          go_roundw
          case rel => exact ⟨k + 1, by omega, by go_num, HB.out, HKP.out.new _⟩
          case measure => simp [intOf]; omega
        · have HB : Hid (a.has x = true) := by unfold Ar.has hasB; rw [← HD.out]; exact hb
          have hb' : d < (a.n : Int) := by simpa using hb
          rw [hd] at hb' hd0
          clear hb hd
          go_wp2_with fail
          go_ret
          exact ⟨⟨_, rfl, .inr ⟨k, a, rfl, HA.out, HB.out, HNO.out⟩⟩, HKP.out.new _⟩
      · have HF := Lib.hid (find_none L x (fun i a e => hno i a (by have := (List.getElem?_eq_some_iff.1 e).1; have := HN.out; omega) e))
        have HKP := Lib.hid hkp
        clear hno hkp
        go_wp2_with fail
        go_ret
        exact ⟨⟨_, rfl, .inl ⟨rfl, HF.out⟩⟩, HKP.out⟩
end Go.Proofs.Ytlbkmdmnijmieaa
