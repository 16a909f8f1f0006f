/- Layer 9 (memory), the document's own: a byte; Load, on a fresh memory. -/
import Derived.Test.YtlbkmdmnijmieaaOf
import Derived.Deep.QuietTactic
import Derived.BigQuiet
namespace Go.Proofs.Ytlbkmdmnijmieaa
open Go Go.RowKit Rp Go.Maps
open Cq (U64 I64 isW nb mask)

theorem norow_cell {W : World} {g : Nat} {v : Value} (h : Box W g 66 (v :: noRows)) (i : Nat) (hi : i < 8) : W.cell? ⟨g, 1 + i, none⟩ = some (.slice none 0 0) := by
  have := h.cell (1 + i)
  rw [this, Nat.add_comm, List.getElem?_cons_succ]
  unfold noRows
  match i, hi with
  | 0, _ | 1, _ | 2, _ | 3, _ | 4, _ | 5, _ | 6, _ | 7, _ => rfl
theorem fdv_some {L : List Ar} {x r : Int} (h : FdV L x r) (hf : findA L x ≠ none) : ∃ (j : Nat) (a : Ar), r = j ∧ L[j]? = some a ∧ findA L x = some a := by
  rcases h with ⟨_, h2⟩ | ⟨j, a, h1, h2, h3, h4⟩
  · exact absurd h2 hf
  · exact ⟨j, a, h1, h2, find_at L x j a h2 h3 h4⟩
set_option maxRecDepth 100000 in
set_option maxHeartbeats 4000000 in
theorem rbyteOf_any {B g : Nat} {v : Value} {L : List Ar} {W : World} (h : RS B W g v noRows L) (i : Nat) (hi : i < 8) (x : Int) (hx : findA L x ≠ none) :
    Calls Try.prog 53 #[.pointer (some ⟨g, 0, none⟩), .int .i64 i, .int .u64 x] W fun e W' => (∃ b, e = .returned (.int .u8 b) ∧ 0 ≤ b ∧ b ≤ 255) ∧ Kp W W' := by
  obtain ⟨ga, c, hm⟩ := h.rd
  have H := Lib.hid h
  have HM := Lib.hid hm
  have HX := Lib.hid hx
  have HFD := Lib.hid (fun w k => rfind_any g ga c L x w (hm.kp (W' := w) k))
  clear h hm hx
  go_enter Try.func53, Try.ntmps53
  go_wp2_with fail
  refine (HFD.out _ (Kp.rfl _)).mono ?_; rintro e w2 ⟨⟨r, rfl, hr⟩, hk2⟩
  obtain ⟨j, a, rfl, ha, hf⟩ := fdv_some hr HX.out
  have HS2 := H.out.kp hk2
  obtain ⟨m1, m2, m3, m4, m5, m6, m7, m8, m9⟩ := mrd_cells (HM.out.kp hk2) ha
  obtain ⟨k, gb, off, hkk, hkn, hA, hgb, hcell⟩ := byte_in HS2.drd hf
  have hb8 := byteI_u8 HS2.drd x
  rw [(byteI_yes hf).1] at hb8
  have hn64 := (HS2.dat a (List.mem_of_getElem? ha)).2.2.1
  obtain ⟨n, hn⟩ : ∃ n, n = L.length := ⟨_, rfl⟩
  have hn16 : n ≤ 16 := by have := HS2.few; omega
  rw [← hn] at m3 m4
  have hrow := norow_cell HS2.box i hi
  obtain ⟨lo, A, an, ac, wr2, pv, ow, bs⟩ := a
  simp only at m5 m6 m7 m8 m9 hkk hkn hA hn64
  subst hA
  obtain ⟨b, hb⟩ : ∃ b, b = Ar.byte ⟨lo, some ⟨gb, off, none⟩, an, ac, wr2, pv, ow, bs⟩ x := ⟨_, rfl⟩
  rw [← hb] at hcell hb8
  have HB8 := Lib.hid hb8
  have HK2 := Lib.hid hk2
  clear hr hf ha HS2 hk2 hb hb8 hn m7 m8 m9 H HM HX HFD
  go_wp2_with fail
  go_region
  go_wp2_with fail
  go_loopw [8, 43] (fun y i wr => y = .int .u8 b ∧ i = .int .i64 0 ∧ Kp w2 wr) (fun _ _ _ => 0)
  case atStart => first | exact ⟨rfl, rfl, Kp.rfl _⟩ | exact ⟨rfl, rfl, (Kp.rfl _).draws _⟩ | exact ⟨rfl, rfl, (Kp.rfl _).draw⟩
  case round =>
    obtain ⟨rfl, rfl, hk⟩ := hrel
    have HK3 := Lib.hid (HK2.out.next hk)
    clear hk
    go_wp2_with fail
    go_ret
    exact ⟨⟨_, rfl, HB8.out⟩, HK3.out⟩
set_option maxRecDepth 100000 in
set_option maxHeartbeats 4000000 in
theorem rload_any {B g : Nat} {v : Value} {L : List Ar} {W : World} (h : RS B W g v noRows L) (t x w : Int) (hx : U64 x) :
    Calls Try.prog 33 #[.pointer (some ⟨g, 0, none⟩), .int .i64 t, .int .u64 x, .int .i64 w] W fun e W' => (∃ y b, e = .returned (.tuple #[.int .u64 y, .bool b])) ∧ Kp W W' := by
  obtain ⟨ga, c, hm⟩ := h.rd
  have HMY := Lib.hid (rmay_any hm t x w false hx)
  cases hmy : mayB L t x w false
  · rw [hmy] at HMY
    clear h hm hx hmy
    go_enter Try.func33, Try.ntmps33
    go_wp2_with fail
    refine HMY.out.mono ?_; rintro e w2 ⟨rfl, hk2⟩
    have HK2 := Lib.hid hk2
    clear hk2
    go_wp2_with fail
    go_ret2
    exact ⟨⟨_, _, rfl⟩, HK2.out⟩
  · rw [hmy] at HMY
    have hkn := mayB_kn hmy
    unfold mayB at hmy
    simp only [Bool.and_eq_true, decide_eq_true_eq] at hmy
    obtain ⟨⟨⟨-, hw⟩, hxw⟩, hall⟩ := hmy
    obtain ⟨i, rfl, hi⟩ := knB_cases hkn
    obtain ⟨n, rfl, hn, hn8⟩ := isW_nat hw
    rw [Int.toNat_natCast] at hall
    have HALL := Lib.hid hall
    have H := Lib.hid h
    obtain ⟨i0, hi0, hz0, hz1, hz2⟩ := info_parts infoU8
    have HI := Lib.hid hi0
    have HZ := Lib.hid (And.intro hz0 (And.intro hz1 hz2))
    clear hi0 hz0 hz1 hz2
    have hx1 := hx.1
    clear h hm hx hkn hall hw
    go_enter Try.func33, Try.ntmps33
    go_wp2_with fail
    refine HMY.out.mono ?_; rintro e w2 ⟨rfl, hk2⟩
    have HK2 := Lib.hid hk2
    clear hk2
    go_wp2_with fail
    go_loopw [10, 11] (fun y j wr => ∃ (k : Nat) (bs : List Int), k ≤ n ∧ j = .int .i64 k ∧ bs.length = k ∧ Bytes8 bs ∧ wr.ownsRow W.heap.size 5 1 y k (cellsOf bs) ∧ Kp W wr) (fun _ j _ => n - (intOf j).toNat)
    case atStart => exact ⟨0, [], Nat.zero_le _, rfl, rfl, fun _ h => by simp at h, World.ownsRow_nil _ _ _ _, HK2.out⟩
    case round =>
      obtain ⟨k, bs, hk, rfl, hbl, hb8, hown, hkp⟩ := hrel
      have HB8 := Lib.hid hb8
      have HBL := Lib.hid hbl
      have HOW := Lib.hid hown
      have HKP := Lib.hid hkp
      obtain ⟨A, cc, rfl, -, -⟩ := own_slice hown
      rw [hbl] at HOW ⊢
      clear hb8 hbl hown hkp
      by_cases hlt : k < n
      · have HBY := Lib.hid (rbyteOf_any (H.out.kp HKP.out) i hi (x + k) (fun e => by
          have := opnAll_at HALL.out k hlt
          rw [openB_no e] at this
          cases this))
        go_wp2_with fail
        refine HBY.out.mono ?_; rintro e w3 ⟨⟨b, rfl, hb⟩, hk3⟩
        have HB := Lib.hid hb
        have HK3 := Lib.hid hk3
        clear hb hk3
        have HOW3 := Lib.hid ((own_kp HOW.out HK3.out).alloc (.cells #[.int .u8 b] 5))
        have HK4 := Lib.hid (((HKP.out.next HK3.out).new (.cells #[.int .u8 b] 5)))
        have HNEW : Hid (∀ j u, ([Value.int .u8 b] : List Value)[j]? = some u → (w3.alloc (.cells #[.int .u8 b] 5)).cell? ((⟨w3.heap.size, 0, none⟩ : Addr).add j) = some u) := cell_one_new _ _ _
        have hsz := (HKP.out.next HK3.out).size
        go_wp2_with (at_builtin; refine wpList_append_own_at _ rfl _ _ 55 rfl W.heap.size 5 i0 (.int .u8 0) 1 1 Try.underlying55 HI.out HZ.out.1 HZ.out.2.1 HZ.out.2.2 rfl (by decide) _ _ _ rfl HOW3.out ⟨w3.heap.size, 0, none⟩ 1 1 [.int .u8 b] rfl rfl HNEW.out ?c3 ?c4 ?c5 ?c6 ?_)
        case c3 => intro u hu; simp at hu; subst hu; rfl
        case c4 => unfold maxLen; omega
        case c5 => omega
        case c6 => rw [World.size_alloc]; omega
        intro v' w5 hown5 hgrow5 _ hat5
        have hlow : cellsOf bs ++ [Value.int .u8 b] = cellsOf (bs ++ [b]) := by rw [cellsOf_append]; rfl
        rw [hlow] at hown5
        have HK5 : Hid (Kp W w5) := HK4.out.grown hgrow5 (by rw [World.size_alloc]; omega) (fun j hj => (row_block HOW.out hj).1)
        obtain ⟨A', c', rfl, -, -⟩ := own_slice hown5
        have HO5 := Lib.hid hown5
        have HB5 : Hid (Bytes8 (bs ++ [b])) := fun y hy => by
          rcases List.mem_append.1 hy with hy | hy
          · exact HB8.out y hy
          · obtain rfl := List.mem_singleton.1 hy; exact HB.out
        clear hown5 hgrow5 hat5 hlow
        go_wp2_with fail
        go_roundw
        case rel => exact ⟨k + 1, bs ++ [b], by omega, by go_num, by rw [List.length_append, HBL.out]; rfl, HB5.out, HO5.out, HK5.out⟩
        case measure => simp [intOf]; omega
      · have hnn : bs.length = n := by have := HBL.out; omega
        have HNUM := Lib.hid (rnum_any A bs cc wr (own_reads (by rw [HBL.out]; exact HOW.out)) HB8.out (by omega))
        rw [HBL.out] at HNUM
        go_wp2_with fail
        refine HNUM.out.mono ?_; rintro e w3 ⟨rfl, rfl⟩
        go_wp2_with fail
        go_ret2
        exact ⟨⟨_, _, rfl⟩, HKP.out⟩
end Go.Proofs.Ytlbkmdmnijmieaa
