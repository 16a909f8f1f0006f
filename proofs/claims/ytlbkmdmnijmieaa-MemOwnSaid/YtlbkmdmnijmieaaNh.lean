/- Layer 9 (memory): two memories that hold the same, of the code. -/
import Derived.Test.YtlbkmdmnijmieaaNg
import Derived.Shelf.Bytes.SlEqualAll
import Derived.Deep.RegionHeld3
namespace Go.Proofs.Ytlbkmdmnijmieaa
open Go Go.RowKit Rp Go.Maps
open Cq (U64 I64 isW nb mask)

theorem reads_in {W : World} {A : Option Addr} {bs : List Int} (h : Reads W A bs) : Lib.BytesIn W A bs.length bs := fun hp => by
  obtain ⟨g, off, e, _, hc⟩ := h hp
  exact ⟨g, off, e, hc⟩
theorem equal_any (A A2 : Option Addr) (n c c2 : Nat) (bs : List Int) (W : World) (hl : bs.length = n) (h : Reads W A bs) (h2 : Reads W A2 bs) :
    Calls Try.prog 58 #[.slice A n c, .slice A2 n c2] W fun e W' => e = .returned (.bool true) ∧ W = W' := by
  subst hl
  have e1 := (reads_in h).convert rfl c 55 5 9 Try.underlying55 Try.underlying5 Try.underlying9
  have e2 := (reads_in h2).convert rfl c2 55 5 9 Try.underlying55 Try.underlying5 Try.underlying9
  generalize strOfNums bs = s at *
  generalize bs.length = n at *
  clear h h2
  go_enter Try.func58, Try.ntmps58
  go_wp2_with fail
  go_ret
  exact ⟨by simp, rfl⟩
set_option maxRecDepth 100000 in
theorem samea_any (a b : Ar) (W : World) (h : a.av = b.av) (ha : a.bs.length = a.n) (hb : b.bs.length = b.n) (hra : Reads W a.A a.bs) (hrb : Reads W b.A b.bs) :
    Calls Try.prog 41 #[.agg #[.int .u64 a.lo, .slice a.A a.n a.c, .bool a.wr, .bool a.pv, .int .i64 a.ow], .agg #[.int .u64 b.lo, .slice b.A b.n b.c, .bool b.wr, .bool b.pv, .int .i64 b.ow]] W fun e W' => e = .returned (.bool true) ∧ Kp W W' := by
  obtain ⟨lo, A, n, c, wr, pv, ow, bs⟩ := a
  obtain ⟨lo2, A2, n2, c2, wr2, pv2, ow2, bs2⟩ := b
  simp only [Ar.av, Av.mk.injEq] at h
  obtain ⟨rfl, rfl, rfl, rfl⟩ := h
  dsimp only at ha hb hra hrb ⊢
  obtain rfl : n2 = n := by omega
  obtain ⟨w1, hw1⟩ : ∃ w1, w1 = (W.alloc (.cells #[.int .u64 lo, .slice A n2 c, .bool wr, .bool pv, .int .i64 ow] 73)).alloc (.cells #[.int .u64 lo, .slice A2 n2 c2, .bool wr, .bool pv, .int .i64 ow2] 73) := ⟨_, rfl⟩
  have HK : Hid (Kp W w1) := by rw [hw1]; exact ((Kp.rfl W).new _).new _
  have HE := Lib.hid (equal_any A A2 n2 c c2 bs w1 ha (reads_kp hra HK.out) (reads_kp hrb HK.out))
  clear ha hb hra hrb
  go_enter Try.func41, Try.ntmps41
  go_wp2_with fail
  rw [← hw1]
  clear hw1
  refine HE.out.mono ?_
  rintro e w2 ⟨rfl, rfl⟩
  go_wp2_with fail
  go_ret
  exact ⟨rfl, HK.out⟩
theorem rows_own {B e : Nat} {W : World} {A : Option Addr} {n c : Nat} {L : List Ar} (h : W.ownsRow B e 5 (.slice A n c) L.length (recs L)) (hp : 0 < L.length) :
    ∃ gb, A = some ⟨gb, 0, none⟩ ∧ gb < W.heap.size ∧ ∀ (i : Nat) (a : Ar), L[i]? = some a → ∀ k, k < 5 → W.cell? ⟨gb, i * 5 + k, none⟩ = a.row[k]? := by
  rcases h.2 with ⟨_, h0⟩ | ⟨g, cap, cur, hv, hB, hg, hn, hc, hs, ht⟩
  · omega
  · injection hv with hA _ _
    refine ⟨g, hA, (Array.getElem?_eq_some_iff.1 hg).1, fun i a ha k hk => ?_⟩
    have hi := (List.getElem?_eq_some_iff.1 ha).1
    rw [cell_of_row W g _ cur _ _ hg, ← recs_get L i a ha k hk, ← ht, List.getElem?_take_of_lt (by omega)]
    simp
set_option maxRecDepth 100000 in
set_option maxHeartbeats 4000000 in
theorem eqf_any {B g g2 : Nat} {v v2 : Value} {bv bv2 : List Value} {L L2 : List Ar} {W : World} (h : MS B W g v bv L) (h2 : MS B W g2 v2 bv2 L2) (hav : L.map Ar.av = L2.map Ar.av) :
    Calls Try.prog 40 #[v, v2, .func (.func 41) #[] #[]] W fun e W' => e = .returned (.bool true) ∧ Kp W W' := by
  obtain ⟨A, c, hv⟩ := own_shape h.own
  obtain ⟨A2, c2, hv2⟩ := own_shape h2.own
  have hl := av_len hav
  have ho := h.own
  have ho2 := h2.own
  rw [hv] at ho
  rw [hv2] at ho2
  obtain ⟨n, hn⟩ : ∃ n, n = L.length := ⟨_, rfl⟩
  have hn16 : n ≤ 16 := by have := h.few; omega
  have hn2 : L2.length = n := by omega
  rw [← hn] at hv
  rw [hn2] at hv2
  subst hv hv2
  have HRO := Lib.hid (fun hp => rows_own ho hp)
  have HRO2 := Lib.hid (fun hp => rows_own ho2 hp)
  have HD := Lib.hid h.drd
  have HD2 := Lib.hid h2.drd
  have HAV := Lib.hid hav
  have HN := Lib.hid (And.intro hn hn2)
  clear h h2 ho ho2 hav hl hn hn2
  go_enter Try.func40, Try.ntmps40
  go_wp2_with fail
  go_loopw [17] (fun i wr => ∃ k : Nat, k ≤ n ∧ i = .int .i64 k ∧ Kp W wr) (fun i _ => n - (intOf i).toNat)
  case atStart => exact ⟨0, Nat.zero_le _, rfl, Kp.rfl _⟩
  case round =>
    obtain ⟨k, hk, rfl, hkp⟩ := hrel
    have HKP := Lib.hid hkp
    clear hkp
    by_cases hlt : k < n
    · obtain ⟨a, ha⟩ : ∃ a, L[k]? = some a := ⟨_, List.getElem?_eq_getElem (by have := HN.out.1; omega)⟩
      obtain ⟨b, hb⟩ : ∃ b, L2[k]? = some b := ⟨_, List.getElem?_eq_getElem (by have := HN.out.2; omega)⟩
      obtain ⟨gb, hA, hgb, hc⟩ := HRO.out (by have := HN.out.1; omega)
      obtain ⟨gb2, hA2, hgb2, hc2⟩ := HRO2.out (by have := HN.out.2; omega)
      subst hA hA2
      have rd : ∀ i, i < 5 → wr.cell? ⟨gb, k * 5 + i, none⟩ = a.row[i]? := fun i hi => (HKP.out.cell (p := ⟨gb, k * 5 + i, none⟩) hgb).trans (hc k a ha i hi)
      have rd2 : ∀ i, i < 5 → wr.cell? ⟨gb2, k * 5 + i, none⟩ = b.row[i]? := fun i hi => (HKP.out.cell (p := ⟨gb2, k * 5 + i, none⟩) hgb2).trans (hc2 k b hb i hi)
      have c0 := rd 0 (by omega)
      have c1 := rd 1 (by omega)
      have c2 := rd 2 (by omega)
      have c3 := rd 3 (by omega)
      have c4 := rd 4 (by omega)
      have d0 := rd2 0 (by omega)
      have d1 := rd2 1 (by omega)
      have d2 := rd2 2 (by omega)
      have d3 := rd2 3 (by omega)
      have d4 := rd2 4 (by omega)
      rw [Nat.add_zero] at c0 d0
      simp only [Ar.row, List.getElem?_cons_zero, List.getElem?_cons_succ] at c0 c1 c2 c3 c4 d0 d1 d2 d3 d4
      have HE : Hid (a.av = b.av) := by
        have e := congrArg (fun M => M[k]?) HAV.out
        simp only [List.getElem?_map, ha, hb, Option.map_some, Option.some.injEq] at e
        exact e
      have HAa := Lib.hid (HD.out.kp HKP.out a (List.mem_of_getElem? ha))
      have HBb := Lib.hid (HD2.out.kp HKP.out b (List.mem_of_getElem? hb))
      have hl1 : gb < wr.heap.size := Nat.lt_of_lt_of_le hgb HKP.out.size
      have hl2 : gb2 < wr.heap.size := Nat.lt_of_lt_of_le hgb2 HKP.out.size
      have n1 : ¬ wr.heap.size = gb2 := by omega
      have z0 : ∀ o, (wr.alloc o).cell? ⟨gb2, k * 5, none⟩ = some (.int .u64 b.lo) := fun o => (((Kp.rfl wr).new o).cell (p := ⟨gb2, k * 5, none⟩) hl2).trans d0
      have z1 : ∀ o, (wr.alloc o).cell? ⟨gb2, k * 5 + 1, none⟩ = some (.slice b.A b.n b.c) := fun o => (((Kp.rfl wr).new o).cell (p := ⟨gb2, k * 5 + 1, none⟩) hl2).trans d1
      have z2 : ∀ o, (wr.alloc o).cell? ⟨gb2, k * 5 + 2, none⟩ = some (.bool b.wr) := fun o => (((Kp.rfl wr).new o).cell (p := ⟨gb2, k * 5 + 2, none⟩) hl2).trans d2
      have z3 : ∀ o, (wr.alloc o).cell? ⟨gb2, k * 5 + 3, none⟩ = some (.bool b.pv) := fun o => (((Kp.rfl wr).new o).cell (p := ⟨gb2, k * 5 + 3, none⟩) hl2).trans d3
      have z4 : ∀ o, (wr.alloc o).cell? ⟨gb2, k * 5 + 4, none⟩ = some (.int .i64 b.ow) := fun o => (((Kp.rfl wr).new o).cell (p := ⟨gb2, k * 5 + 4, none⟩) hl2).trans d4
      clear rd rd2 hc hc2 ha hb
      go_wp2_with fail
      refine (samea_any a b _ HE.out HAa.out.1 HBb.out.1 (reads_kp HAa.out.2.1 (((Kp.rfl wr).new _).new _)) (reads_kp HBb.out.2.1 (((Kp.rfl wr).new _).new _))).mono ?_
      rintro e w5 ⟨rfl, hk5⟩
      have HK5 := Lib.hid (((HKP.out.new _).new _).next hk5)
      clear hk5 z0 z1 z2 z3 z4 c0 c1 c2 c3 c4 d0 d1 d2 d3 d4
      go_wp2_with fail
      go_roundw
      case rel => exact ⟨k + 1, by omega, by go_num, HK5.out⟩
      case measure => simp [intOf]; omega
    · obtain rfl : k = n := by omega
      go_wp2_with fail
      go_ret
      exact ⟨rfl, HKP.out⟩
set_option maxRecDepth 100000 in
set_option maxHeartbeats 4000000 in
/-- Same, of memories that hold the same -/
theorem same_yes {B g g2 : Nat} {v v2 : Value} {bv bv2 : List Value} {L L2 : List Ar} {W : World} (h : MS B W g v bv L) (h2 : MS B W g2 v2 bv2 L2) (hav : L.map Ar.av = L2.map Ar.av) :
    Calls Try.prog 15 #[.pointer (some ⟨g, 0, none⟩), .pointer (some ⟨g2, 0, none⟩)] W fun e W' => e = .returned (.bool true) ∧ Kp W W' := by
  have c0 := h.box.cell 0
  have c1 := h2.box.cell 0
  simp only [List.getElem?_cons_zero] at c0 c1
  have HS0 := Lib.hid (show W.cell? ⟨g, 0, none⟩ = some v ∧ W.cell? ⟨g2, 0, none⟩ = some v2 from ⟨c0, c1⟩)
  have hg1 := h.box.lt
  have hg2 := h2.box.lt
  have HEQ := Lib.hid (eqf_any (h.kp (Kp.rfl W).draw) (h2.kp (Kp.rfl W).draw) hav)
  clear h h2 hav
  go_enter Try.func15, Try.ntmps15
  go_wp2_with fail
  go_region_held3 (fun w' => w'.cell? ⟨g, 0, none⟩ = some v ∧ w'.cell? ⟨g2, 0, none⟩ = some v2)
    (first | exact HS0.out | exact HS1.out)
    ((go_at_call 40; refine HEQ.out.mono ?_; rintro e w2 ⟨rfl, hk2⟩; have HK2 := Lib.hid ((Kp.rfl W).draw.next hk2); have HS1 := Lib.hid (show w2.cell? ⟨g, 0, none⟩ = some v ∧ w2.cell? ⟨g2, 0, none⟩ = some v2 from ⟨(HK2.out.cell (p := ⟨g, 0, none⟩) hg1).trans c0, (HK2.out.cell (p := ⟨g2, 0, none⟩) hg2).trans c1⟩)))
  clear hk2
  go_wp2_with fail
  go_ret
  exact ⟨rfl, HK2.out⟩
end Go.Proofs.Ytlbkmdmnijmieaa
