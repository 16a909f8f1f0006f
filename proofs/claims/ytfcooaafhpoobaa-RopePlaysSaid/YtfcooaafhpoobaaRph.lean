/- Walks of layer 2: parts and texts of both. -/
import Derived.Test.YtfcooaafhpoobaaRpg
import Derived.Deep.RegionHeld3
namespace Go.Proofs.Ytfcooaafhpoobaa
open Go.RowKit Rp Go.Maps
open Cq (U64 I64 isW)

set_option maxRecDepth 100000 in
theorem slice_h (A : Option Addr) (n c m : Nat) (hm : m ≤ c) (W : World) : (Instr.sliceAt 22 (.slice A n c) none (some (.int .i64 (m : Int))) none).run Try.prog W = .ok (.slice A m c) W := by
  rw [run_sliceAt_slice (h := Try.underlying22), run_slice_h (ht := Try.underlying22) (h0 := by omega) (h2 := by omega)]
  have hs : (sizeOf (Try.prog.elem 22)).run Try.prog W = .ok 1 W := by kernel_rfl
  rw [hs]
  simp [Result.andThen, sliced, Addr.add]
set_option maxRecDepth 100000 in
theorem slice_l (A : Option Addr) (n c a : Nat) (ha : a ≤ n) (_hn : n ≤ c) (W : World) : (Instr.sliceAt 22 (.slice A n c) (some (.int .i64 (a : Int))) none none).run Try.prog W = .ok (.slice (partAt A a c) (n - a) (c - a)) W := by
  rw [run_sliceAt_slice (h := Try.underlying22), run_slice_l (ht := Try.underlying22) (h0 := by omega) (h1 := by omega)]
  have hs : (sizeOf (Try.prog.elem 22)).run Try.prog W = .ok 1 W := by kernel_rfl
  rw [hs]
  simp only [Result.andThen, sliced, Int.toNat_natCast]
  rfl
theorem partAt_some {A : Option Addr} {a c : Nat} {p : Addr} (h : partAt A a c = some p) : ∃ q, A = some q ∧ p.block = q.block := by
  cases A with
  | none => unfold partAt at h; split at h <;> simp at h
  | some q =>
    refine ⟨q, rfl, ?_⟩
    unfold partAt at h
    split at h
    · injection h with h; rw [h]
    · simp at h; rw [← h]; unfold Addr.add; split <;> rfl
/-- Raw of bytes in two parts -/
def RawTo (W0 W W' : World) (g : Nat) (v : Value) (bs ys : List Int) (e : Ending) : Prop :=
  e = .returned (.tuple #[]) ∧ ((1048576 < bs.length + ys.length ∧ W = W') ∨ (bs.length + ys.length ≤ 1048576 ∧ Grew W0.heap.size 5 W W' g 98 [] v (bs ++ ys)))
theorem raw_all {W0 W : World} {g : Nat} {v : Value} {A : Option Addr} {bs : List Int} {c : Nat} (h : Twin W0 W g v A bs c) (b : Nat) (A2 : Option Addr) (c2 k cap : Nat) (ys : List Int)
    (hbx : Box W b 22 [.slice A2 k c2, .slice (partAt A2 k c2) (ys.length - k) (c2 - k)]) (hnb : ¬ Mine g v b) (hk : k ≤ ys.length) (hr : Reads W0 A2 ys) (hA : A2 = none → ys = [] ∧ c2 = 0) (hlc : ys.length ≤ c2) (hcm : c2 ≤ 9223372036854775807) :
    Calls Try.prog 98 #[.pointer (some ⟨g, 0, none⟩), .slice (some ⟨b, 0, none⟩) 2 cap] W fun e W' => RawTo W0 W W' g v bs ys e := by
  obtain ⟨B, hB⟩ : ∃ B : Nat → Option Addr, B = fun i => if i = 0 then A2 else partAt A2 k c2 := ⟨_, rfl⟩
  obtain ⟨cc, hcc⟩ : ∃ cc : Nat → Nat, cc = fun i => if i = 0 then c2 else c2 - k := ⟨_, rfl⟩
  obtain ⟨yy, hyy⟩ : ∃ yy : Nat → List Int, yy = fun i => if i = 0 then ys.take k else cut ys k (ys.length - k) := ⟨_, rfl⟩
  have hrW := reads_below hr h.bel (Nat.le_refl _)
  have hpart := partAt_reads hrW (fun e => (hA e).1) k (ys.length - k) c2 (by omega) hlc
  have hblk : ∀ p, A2 = some p → 0 < ys.length → p.block < W0.heap.size := by
    intro p hp h0
    obtain ⟨q, off, e, hq, _⟩ := hr h0
    rw [hp] at e; injection e with e; rw [e]; exact hq
  have hmine : ∀ p, A2 = some p → 0 < ys.length → ¬ Mine g v p.block := fun p hp h0 hm => by have := (h.st.mine_lt _ hm).1; have := hblk p hp h0; omega
  have hl0 : (yy 0).length = k := by rw [hyy]; simp [List.length_take]; omega
  have hl1 : (yy 1).length = ys.length - k := by rw [hyy]; simp [cut_length ys k (ys.length - k) (by omega)]
  have hcat : catTo yy 2 = ys := by
    rw [hyy]
    simp only [catTo, List.nil_append, if_true, Nat.one_ne_zero, if_false]
    unfold cut
    rw [List.take_of_length_le (l := ys.drop k) (by rw [List.length_drop]; omega), List.take_append_drop]
  have hps : Parts W b 0 2 B cc yy := by
    intro i hi
    have hi2 : i = 0 ∨ i = 1 := by omega
    rcases hi2 with rfl | rfl
    · refine ⟨?_, ?_, ?_, ?_, ?_⟩
      · have := hbx.cell 0; rw [hl0, hB, hcc]; simpa using this
      · rw [hB, hyy]; exact reads_take hrW k
      · rw [hB, hcc]; intro e; rw [hl0]; have := hA e; rw [this.1] at hk; exact ⟨this.2, by simpa using hk⟩
      · rw [hl0, hcc]; show k ≤ c2; omega
      · rw [hB, hl0]; intro a ha h0; have := hblk a ha (by omega); have := h.bel.size; omega
    · refine ⟨?_, ?_, ?_, ?_, ?_⟩
      · have := hbx.cell 1; rw [hl1, hB, hcc]; simpa using this
      · rw [hB, hyy]; exact hpart.1
      · rw [hB, hcc]; intro e; rw [hl1]
        have e2 : A2 = none := by
          cases A2 with
          | none => rfl
          | some q => exfalso; simp [partAt] at e; split at e <;> simp at e
        have := hA e2; rw [this.1]; exact ⟨by simp [this.2], by simp⟩
      · rw [hl1, hcc]; show ys.length - k ≤ c2 - k; omega
      · rw [hB, hl1]; intro a ha h0
        obtain ⟨q, hq, e⟩ := partAt_some (show partAt A2 k c2 = some a from ha)
        rw [e]; have := hblk q hq (by omega); have := h.bel.size; omega
  by_cases hf : bs.length + ys.length ≤ 1048576
  · refine (rawn_ok W0.heap.size W g [] v bs h.st h.bel.size h.len b 0 2 cap B cc yy (by omega) hps hbx.lt hnb ?_ (by rw [hcat]; omega)).mono ?_
    · intro i hi a ha h0
      have hi2 : i = 0 ∨ i = 1 := by omega
      rcases hi2 with rfl | rfl
      · rw [hB] at ha; rw [hl0] at h0; exact hmine a ha (by omega)
      · rw [hB] at ha; rw [hl1] at h0
        obtain ⟨q, hq, e⟩ := partAt_some (show partAt A2 k c2 = some a from ha)
        rw [e]; exact hmine q hq (by omega)
    · rintro e W' ⟨h1, h2⟩
      rw [hcat] at h2
      exact ⟨h1, .inr ⟨hf, h2⟩⟩
  · refine (rawn_full W0.heap.size W g [] v bs h.st h.len b 0 2 cap B cc yy (by omega) hps (fun i => by rw [hcc]; show (if i = 0 then c2 else c2 - k) ≤ _; split <;> omega) (by rw [hcat]; have := h.len; omega)).mono ?_
    rintro e W' ⟨h1, h2⟩
    exact ⟨h1, .inl ⟨by omega, h2⟩⟩
set_option maxHeartbeats 2000000 in
set_option maxRecDepth 100000 in
theorem grow_raw {W0 wr : World} {g : Nat} {v : Value} {A : Option Addr} {bs : List Int} {c : Nat} (h : Twin W0 wr g v A bs c) (w n m : Int) (VL : Value) (A2 : Option Addr) (l2 c2 : Nat) (ys : List Int) (S : ByteArray)
    (hy : ys.length = l2) (h8 : Bytes8 ys) (hr : Reads W0 A2 ys) (hA : A2 = none → l2 = 0 ∧ c2 = 0) (hlc : l2 ≤ c2) (hcm : c2 ≤ maxLen) (hl : l2 ≤ 40) :
    Calls Try.prog 46 #[.pointer (some ⟨g, 0, none⟩), .slice A bs.length c, opV 1 w n m VL (.slice A2 l2 c2) S] wr (Next W0 g) := by
  unfold opV
  have hba : Below wr.heap.size wr (wr.alloc (.cells #[.int .i64 1, .int .i64 w, .int .i64 n, .int .i64 m, VL, .slice A2 l2 c2, .string S] 28)) := (Below.refl _ _).alloc (Nat.le_refl _) _
  have HT := Lib.hid (h.below hba)
  have HX := Lib.hid (Box.fresh wr 28 [.int .i64 1, .int .i64 w, .int .i64 n, .int .i64 m, VL, .slice A2 l2 c2, .string S])
  have HMI : Hid (∀ k, Mine g v k → k < wr.heap.size) := fun k hk => (h.st.mine_lt k hk).2
  have HY := Lib.hid hy
  have H8 := Lib.hid h8
  have HR := Lib.hid hr
  have HA := Lib.hid hA
  unfold maxLen at hcm
  clear h hba hy h8 hr hA
  obtain ⟨k, hk⟩ : ∃ k, k = l2 / 2 := ⟨_, rfl⟩
  have hk2 : (l2 : Int) / 2 = k := by omega
  have hk3 : (l2 : Int).tdiv 2 = k := by rw [Int.tdiv_eq_ediv_of_nonneg (by omega)]; exact hk2
  have hkl : k ≤ l2 := by omega
  have hk4 : IntKind.i64.wrap ((l2 : Int).tdiv 2) = k := by rw [hk3]; exact IntWalk.i64_in _ (by omega)
  have hk5 : IntKind.i64.wrap (k : Int) = k := IntWalk.i64_in _ (by omega)
  have hs1 := slice_h A2 l2 c2 k (by omega)
  have hs2 := slice_l A2 l2 c2 k hkl hlc
  clear hk
  go_enter Try.func46, Try.ntmps46
  go_wp2_with fail
  generalize wr.alloc (.cells #[.int .i64 1, .int .i64 w, .int .i64 n, .int .i64 m, VL, .slice A2 l2 c2, .string S] 28) = wq at *
  have hx5 := HX.out.cell 5
  simp only [List.getElem?_cons_zero, List.getElem?_cons_succ] at hx5
  have hraw : ∀ wd : World, wd = (wq.alloc (.cells #[.slice A2 k c2, .slice (partAt A2 k c2) (l2 - k) (c2 - k)] 22)).drew →
      Calls Try.prog 98 #[.pointer (some ⟨g, 0, none⟩), .slice (some ⟨wq.heap.size, 0, none⟩) 2 2] wd fun e w1 => e = .returned (.tuple #[]) ∧
        ((1048576 < bs.length + ys.length ∧ Twin W0 w1 g v A bs c) ∨ (bs.length + ys.length ≤ 1048576 ∧ Grew W0.heap.size 5 wq w1 g 98 [] v (bs ++ ys)))
        ∧ Box w1 wr.heap.size 28 [.int .i64 1, .int .i64 w, .int .i64 n, .int .i64 m, VL, .slice A2 l2 c2, .string S] ∧ Below W0.heap.size W0 w1 ∧ Reads w1 A bs := by
    rintro wd rfl
    have hbd : Below wq.heap.size wq (wq.alloc (.cells #[.slice A2 k c2, .slice (partAt A2 k c2) (l2 - k) (c2 - k)] 22)).drew := ((Below.refl _ _).alloc (Nat.le_refl _) _).drew
    have hbx : Box (wq.alloc (.cells #[.slice A2 k c2, .slice (partAt A2 k c2) (l2 - k) (c2 - k)] 22)).drew wq.heap.size 22 [.slice A2 k c2, .slice (partAt A2 k c2) (ys.length - k) (c2 - k)] := by
      rw [HY.out]; exact Box.fresh wq 22 _
    have hTd := HT.out.below hbd
    generalize (wq.alloc (.cells #[.slice A2 k c2, .slice (partAt A2 k c2) (l2 - k) (c2 - k)] 22)).drew = wd at *
    have hXd := HX.out.kept (hbd.block _ HX.out.lt)
    have hnb : ¬ Mine g v wr.heap.size := fun hm => by have := HMI.out _ hm; omega
    refine (raw_all hTd wq.heap.size A2 c2 k 2 ys hbx (fun hm => by have := (HT.out.st.mine_lt _ hm).2; omega) (by rw [HY.out]; exact hkl) HR.out (fun e => ⟨List.eq_nil_of_length_eq_zero (by rw [HY.out]; exact (HA.out e).1), (HA.out e).2⟩) (by rw [HY.out]; exact hlc) (by omega)).mono ?_
    rintro e w1 ⟨rfl, ⟨hf, rfl⟩ | ⟨hf, hg⟩⟩
    · exact ⟨rfl, .inl ⟨hf, hTd⟩, hXd, hTd.bel, hTd.rd⟩
    · obtain ⟨v1, st1, ch1, ow1⟩ := hg
      have hb1 : Below W0.heap.size wd w1 := ch1.below W0.heap.size hTd.bel.size (fun j hj hm => by have := (hTd.st.mine_lt j hm).1; omega)
      exact ⟨rfl, .inr ⟨hf, Grew.trans (Chg.thenBelow (Chg.refl (Mine g v) wq) hbd) (fun _ a => .inl a) ⟨v1, st1, ch1, ow1⟩⟩, hXd.chg ch1 hnb, hTd.bel.trans hb1, hTd.rd.chgp ch1 (fun a ha h0 => (hTd.apart a ha h0).1)⟩
  have HRAW := Lib.hid hraw
  clear hraw
  go_region_held3 (fun w' => w'.cell? ⟨wr.heap.size, 5, none⟩ = some (.slice A2 l2 c2)) (first | go_keep | exact hx5k) ((go_at_call 98; refine (HRAW.out _ rfl).mono ?_; rintro e w1 ⟨rfl, hcs, hbx, hbel, hrd⟩; have hx5k := hbx.cell 5; simp only [List.getElem?_cons_zero, List.getElem?_cons_succ] at hx5k))
  all_goals
    have HCS := Lib.hid hcs
    have HBEL := Lib.hid hbel
    have HRD := Lib.hid hrd
    clear hcs hbx hbel hrd hs1 hs2 hk2 hk3 hk4 hk5 hx5
    rcases HCS.out with ⟨hfull, ht⟩ | ⟨hfit, hg⟩
    · have HTT := Lib.hid ht
      have HB := Lib.hid (behind_no A bs.length c A2 l2 c2 w1 ht.len (by omega) (by rw [← HY.out]; exact hfull))
      clear ht hfull
      go_wp2_with fail
      refine HB.out.mono ?_; rintro e w' ⟨rfl, rfl⟩
      go_wp2_with fail
      go_ret2
      exact Next.mk HTT.out
    · have HG := Lib.hid hg
      have hbe := behind_ok A bs c A2 ys c2 w1 HRD.out HT.out.nil (reads_below HR.out HBEL.out (Nat.le_refl _)) (fun e => ⟨List.eq_nil_of_length_eq_zero (by rw [HY.out]; exact (HA.out e).1), (HA.out e).2⟩) hfit
      rw [HY.out] at hbe
      have HBE := Lib.hid hbe
      have HF2 := Lib.hid hfit
      clear hbe hg hfit
      go_wp2_with fail
      refine HBE.out.mono ?_; rintro e w4 ⟨u3, rfl, hown3, hb4⟩
      obtain ⟨A4, c4, rfl, v4, ht4⟩ := HT.out.next HG.out (Below.refl _ _) hown3 hb4 (bytes_append HT.out.b8 H8.out) (by rw [List.length_append]; exact HF2.out)
      have HT4 := Lib.hid ht4
      clear hown3 hb4 ht4 HG HBE HCS
      generalize bs ++ ys = bs2 at *
      go_wp2_with fail
      go_ret2
      exact Next.mk HT4.out
end Go.Proofs.Ytfcooaafhpoobaa
