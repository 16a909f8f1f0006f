/- Walks of layer 2: a rope of two parts; bytes that are turned. -/
import Derived.Test.YtfcooaafhpoobaaRpo
namespace Go.Proofs.Ytfcooaafhpoobaa
open Go.RowKit Rp Go.Maps
open Cq (U64 I64 isW)

theorem St.lower {B B' e : Nat} {W : World} {sb t : Nat} {rest : List Value} {v : Value} {bs : List Int} (h : St B e W sb t rest v bs) (hB : B' ≤ B) : St B' e W sb t rest v bs := by
  refine ⟨by have := h.low; omega, h.box, ⟨h.own.1, ?_⟩, h.ne⟩
  rcases h.own.2 with hv | ⟨k, cap, cur, h1, h2, h3⟩
  · exact .inl hv
  · exact .inr ⟨k, cap, cur, h1, by omega, h3⟩
theorem new_two (wd : World) (b : Nat) (A2 : Option Addr) (c2 k cap : Nat) (ys : List Int)
    (hbx : Box wd b 22 [.slice A2 k c2, .slice (partAt A2 k c2) (ys.length - k) (c2 - k)]) (hk : k ≤ ys.length) (hr : Reads wd A2 ys) (hA : A2 = none → ys = [] ∧ c2 = 0) (hlc : ys.length ≤ c2) (hcm : c2 ≤ 9223372036854775807) (hl : ys.length ≤ 1048576) :
    Calls Try.prog 10 #[.slice (some ⟨b, 0, none⟩) 2 cap] wd fun e W' => ∃ v, e = .returned (.pointer (some ⟨wd.heap.size, 0, none⟩)) ∧ St wd.heap.size 5 W' wd.heap.size 98 [] v ys ∧ Below wd.heap.size wd W' := by
  obtain ⟨B, hB⟩ : ∃ B : Nat → Option Addr, B = fun i => if i = 0 then A2 else partAt A2 k c2 := ⟨_, rfl⟩
  obtain ⟨cc, hcc⟩ : ∃ cc : Nat → Nat, cc = fun i => if i = 0 then c2 else c2 - k := ⟨_, rfl⟩
  obtain ⟨yy, hyy⟩ : ∃ yy : Nat → List Int, yy = fun i => if i = 0 then ys.take k else cut ys k (ys.length - k) := ⟨_, rfl⟩
  have hpart := partAt_reads hr (fun e => (hA e).1) k (ys.length - k) c2 (by omega) hlc
  have hblk : ∀ p, A2 = some p → 0 < ys.length → p.block < wd.heap.size := by
    intro p hp h0
    obtain ⟨q, off, e, hq, _⟩ := hr h0
    rw [hp] at e; injection e with e; rw [e]; exact hq
  have hl0 : (yy 0).length = k := by rw [hyy]; simp [List.length_take]; omega
  have hl1 : (yy 1).length = ys.length - k := by rw [hyy]; simp [cut_length ys k (ys.length - k) (by omega)]
  have hcat : catTo yy 2 = ys := by
    rw [hyy]
    simp only [catTo, List.nil_append, if_true, Nat.one_ne_zero, if_false]
    unfold cut
    rw [List.take_of_length_le (l := ys.drop k) (by rw [List.length_drop]; omega), List.take_append_drop]
  have hheld : heldTo yy 2 = ys := by unfold heldTo; rw [hcat, List.take_of_length_le (by rw [most_is]; exact hl)]
  have hps : Parts wd b 0 2 B cc yy := by
    intro i hi
    have hi2 : i = 0 ∨ i = 1 := by omega
    rcases hi2 with rfl | rfl
    · refine ⟨?_, ?_, ?_, ?_, ?_⟩
      · have := hbx.cell 0; rw [hl0, hB, hcc]; simpa using this
      · rw [hB, hyy]; exact reads_take hr k
      · rw [hB, hcc]; intro e; rw [hl0]; have := hA e; rw [this.1] at hk; exact ⟨this.2, by simpa using hk⟩
      · rw [hl0, hcc]; show k ≤ c2; omega
      · rw [hB, hl0]; intro a ha h0; exact hblk a ha (by omega)
    · refine ⟨?_, ?_, ?_, ?_, ?_⟩
      · have := hbx.cell 1; rw [hl1, hB, hcc]; simpa using this
      · rw [hB, hyy]; exact hpart.1
      · rw [hB, hcc]; intro e; rw [hl1]
        have e2 : A2 = none := by
          cases A2 with
          | none => rfl
          | some q => exfalso; simp [partAt] at e; split at e <;> simp at e
        have := hA e2; rw [this.1]; exact ⟨by simp [this.2], by simp⟩
      · rw [hl1, hcc]; show ys.length - k ≤ c2 - k; omega
      · rw [hB, hl1]; intro a ha h0
        obtain ⟨q, hq, e⟩ := partAt_some (show partAt A2 k c2 = some a from ha)
        rw [e]; exact hblk q hq (by omega)
  refine (new_any b 0 2 cap B cc yy wd (by omega) hps hbx.lt (fun i => by rw [hcc]; show (if i = 0 then c2 else c2 - k) ≤ _; split <;> omega)).mono ?_
  rintro e W' ⟨v, h1, h2, h3⟩
  rw [hheld] at h2
  exact ⟨v, h1, h2, h3⟩
/-- n bytes, whatever they are -/
def Some8 (W : World) (g n : Nat) : Prop := ∃ cs, Box W g 5 cs ∧ n ≤ cs.length ∧ ∀ j, j < n → ∃ x : Int, cs[j]? = some (.int .u8 x)
theorem Some8.put {W : World} {g n k : Nat} (h : Some8 W g n) (hk : k < n) (x : Int) : Some8 (W.setCell ⟨g, k, none⟩ (.int .u8 x)) g n := by
  obtain ⟨cs, hb, hl, hc⟩ := h
  refine ⟨_, hb.put k (.int .u8 x), by rw [List.length_set]; exact hl, fun j hj => ?_⟩
  by_cases e : k = j
  · subst e; exact ⟨x, by rw [List.getElem?_set_self (by omega)]⟩
  · obtain ⟨y, hy⟩ := hc j hj
    exact ⟨y, by rw [List.getElem?_set_ne e]; exact hy⟩
theorem Some8.of {W : World} {g : Nat} {bs : List Int} (h : Box W g 5 (cellsOf bs)) : Some8 W g bs.length :=
  ⟨_, h, by rw [cellsOf_length]; exact Nat.le_refl _, fun j hj => ⟨_, cellsOf_get bs j hj⟩⟩
theorem Twin.chg {W0 wr w' : World} {g : Nat} {v : Value} {A : Option Addr} {bs : List Int} {c gb : Nat} (h : Twin W0 wr g v A bs c) (b : Chg (fun k => k = gb) wr w') (hm : ¬ Mine g v gb) (ha : ∀ p, A = some p → 0 < bs.length → p.block ≠ gb) (hg : W0.heap.size ≤ gb) : Twin W0 w' g v A bs c :=
  ⟨h.st.chg b (fun k hk e => hm (e ▸ hk)), h.rd.chgp b (fun a e h0 => ha a e h0), h.b8, h.len, h.nil, h.cap, h.capm, fun p hp h0 => ⟨(h.apart p hp h0).1, Nat.lt_of_lt_of_le (h.apart p hp h0).2 b.size⟩,
    h.bel.trans (b.below W0.heap.size h.bel.size (fun k hk e => by omega))⟩
theorem Some8.own {W : World} {B n g c : Nat} {bs : List Int} (h : W.ownsRow B 5 1 (.slice (some ⟨g, 0, none⟩) n c) n (cellsOf bs)) : Some8 W g n := by
  rcases h.2 with ⟨h1, _⟩ | ⟨k, cap, cur, hv, _, hk, hn, _, hs, ht⟩
  · cases h1
  · injection hv with h1 _ _
    injection h1 with h1
    injection h1 with h1
    subst h1
    have hl := h.1
    rw [cellsOf_length] at hl
    refine ⟨cur.toList, hk, by rw [Array.length_toList]; omega, fun j hj => ⟨bs.getD j 0, ?_⟩⟩
    have e : (cur.toList.take (n * 1))[j]? = (cellsOf bs)[j]? := by rw [ht]
    rw [List.getElem?_take_of_lt (by omega)] at e
    rw [e]; exact cellsOf_get bs j (by omega)
end Go.Proofs.Ytfcooaafhpoobaa
