/- Layer 9 (memory), the law's side: areas as they come in, cut down. -/
import Derived.Test.YtlbkmdmnijmieaaMt
namespace Go.Proofs.Ytlbkmdmnijmieaa
open Go Go.RowKit Rp Go.Maps
open Cq (U64 I64 isW nb mask)

/-- areas of the document, as an argument -/
structure RIn (W : World) (A : Option Addr) (I : List Ar) : Prop where
  at' : 0 < I.length → ∃ gb off, A = some ⟨gb, off, none⟩ ∧ gb < W.heap.size ∧ ∀ (i : Nat) (a : Ar), I[i]? = some a → ∀ k, k < 5 → W.cell? ⟨gb, off + i * 5 + k, none⟩ = a.row[k]?
  dat : ∀ a ∈ I, a.bs.length = a.n ∧ Reads W a.A a.bs ∧ Bytes8 a.bs ∧ (a.A = none → a.c = 0 ∧ a.n = 0) ∧ a.n ≤ a.c ∧ a.c ≤ maxLen ∧ U64 a.lo
theorem RIn.kp {W W' : World} {A : Option Addr} {I : List Ar} (h : RIn W A I) (k : Kp W W') : RIn W' A I :=
  ⟨fun hp => by
    obtain ⟨gb, off, e, hg, hc⟩ := h.at' hp
    exact ⟨gb, off, e, Nat.lt_of_lt_of_le hg k.size, fun i a ha j hj => (k.cell (p := ⟨gb, off + i * 5 + j, none⟩) hg).trans (hc i a ha j hj)⟩,
    fun a ha => by
      obtain ⟨h1, h2, h3⟩ := h.dat a ha
      exact ⟨h1, reads_kp h2 k, h3⟩⟩
def cutA (a : Ar) : Ar := if 64 < a.n then { a with n := 64, bs := a.bs.take 64 } else a
def cutL (I : List Ar) : List Ar := (I.take 8).map cutA
theorem cutL_length (I : List Ar) : (cutL I).length ≤ 8 := by unfold cutL; rw [List.length_map, List.length_take]; omega
theorem cutA_n (a : Ar) : (cutA a).n ≤ 64 := by unfold cutA; split <;> simp_all
theorem cutA_dat {W : World} {a : Ar} (h : a.bs.length = a.n ∧ Reads W a.A a.bs ∧ Bytes8 a.bs ∧ (a.A = none → a.c = 0 ∧ a.n = 0) ∧ a.n ≤ a.c ∧ a.c ≤ maxLen ∧ U64 a.lo) :
    (cutA a).bs.length = (cutA a).n ∧ Reads W (cutA a).A (cutA a).bs ∧ Bytes8 (cutA a).bs ∧ ((cutA a).A = none → (cutA a).c = 0 ∧ (cutA a).n = 0) ∧ (cutA a).n ≤ (cutA a).c ∧ (cutA a).c ≤ maxLen ∧ U64 (cutA a).lo := by
  unfold cutA
  obtain ⟨h1, h2, h3, h4, h5, h6, h7⟩ := h
  by_cases hn : 64 < a.n
  · rw [if_pos hn]
    refine ⟨?_, ?_, ?_, ?_, ?_, h6, h7⟩
    · show (a.bs.take 64).length = 64
      rw [List.length_take]; omega
    · intro hp
      obtain ⟨g, off, e, hg, hc⟩ := h2 (by omega)
      refine ⟨g, off, e, hg, fun i hi => ?_⟩
      have hi' : i < 64 := by have := hi; simp [List.length_take] at this; omega
      rw [hc i (by omega), List.getD_eq_getElem?_getD, List.getD_eq_getElem?_getD]
      show _ = some (Value.int .u8 ((a.bs.take 64)[i]?.getD 0))
      rw [List.getElem?_take_of_lt hi']
    · exact fun b hb => h3 b (List.mem_of_mem_take hb)
    · intro e
      have := h4 e
      omega
    · show 64 ≤ a.c
      omega
  · rw [if_neg hn]; exact ⟨h1, h2, h3, h4, h5, h6, h7⟩
theorem infoRA : (Try.prog.info? 57).map (fun i => (i.zero, i.size, i.bytes)) = some (some (.agg #[.int .u64 0, .slice none 0 0, .bool false, .bool false, .int .i64 0]), 5, 48) := by kernel_rfl
/-- a slice of areas of the call's own, read -/
theorem RIn.of_own {B e : Nat} {W : World} {A : Option Addr} {n c : Nat} {J : List Ar} (h : W.ownsRow B e 5 (.slice A n c) J.length (recs J)) (hd : ∀ a ∈ J, a.bs.length = a.n ∧ Reads W a.A a.bs ∧ Bytes8 a.bs ∧ (a.A = none → a.c = 0 ∧ a.n = 0) ∧ a.n ≤ a.c ∧ a.c ≤ maxLen ∧ U64 a.lo) : RIn W A J := by
  refine ⟨fun hp => ?_, hd⟩
  rcases h.2 with ⟨_, h0⟩ | ⟨g, cap, cur, hv, hB, hg, hn, hc, hs, ht⟩
  · omega
  · injection hv with hA _ _
    refine ⟨g, 0, hA, (Array.getElem?_eq_some_iff.1 hg).1, fun i a ha k hk => ?_⟩
    have hi := (List.getElem?_eq_some_iff.1 ha).1
    rw [cell_of_row W g _ cur _ _ hg, ← recs_get J i a ha k hk, ← ht, List.getElem?_take_of_lt (by omega), Nat.zero_add]
    simp
theorem own_shape {W : World} {B e size n : Nat} {v : Value} {xs : List Value} (h : W.ownsRow B e size v n xs) : ∃ A c, v = .slice A n c := by
  rcases h.2 with ⟨rfl, rfl⟩ | ⟨k, cap, cur, rfl, _⟩
  · exact ⟨none, 0, rfl⟩
  · exact ⟨_, cap, rfl⟩
theorem new_at (w : World) (o : Obj) (k : Nat) (h : w.heap.size = k) : (w.alloc o).heap[k]? = some o := by subst h; exact heap_alloc_new w o
theorem take_cut (I : List Ar) (k : Nat) (a : Ar) (h : I[k]? = some a) : (I.take (k + 1)).map cutA = (I.take k).map cutA ++ [cutA a] := by
  rw [List.take_add_one, h]; simp
def CutV (I : List Ar) (W : World) (e : Ending) (W' : World) : Prop :=
  ∃ A c, e = .returned (.slice A (cutL I).length c) ∧ RIn W' A (cutL I) ∧ Kp W W'
def CutR (I : List Ar) (W : World) (k : Nat) (v : Value) (W' : World) : Prop :=
  W'.ownsRow W.heap.size 57 5 v k (recs ((I.take k).map cutA)) ∧ Kp W W'
set_option maxRecDepth 100000 in
set_option maxHeartbeats 4000000 in
theorem cut_any (A : Option Addr) (c : Nat) (I : List Ar) (W : World) (h : RIn W A I) (hlen : I.length ≤ 9223372036854775807) :
    Calls Try.prog 8 #[.slice A I.length c] W (CutV I W) := by
  obtain ⟨i0, hi0, hz0, hz1, hz2⟩ := info_parts infoRA
  have H := Lib.hid h
  obtain ⟨n, hn⟩ : ∃ n, n = I.length := ⟨_, rfl⟩
  have HLN := Lib.hid hlen
  rw [← hn]
  have HN := Lib.hid hn
  have HS : Hid (CutR I W 0 (.slice none 0 0) W) := ⟨World.ownsRow_nil _ _ _ _, Kp.rfl _⟩
  clear h hn hlen
  go_enter Try.func8, Try.ntmps8
  go_wp2_with fail
  go_loopw [3, 8] (fun v i wr => ∃ k : Nat, k ≤ n ∧ k ≤ 8 ∧ i = .int .i64 k ∧ CutR I W k v wr) (fun _ i _ => n - (intOf i).toNat)
  case atStart => exact ⟨0, Nat.zero_le _, by omega, rfl, HS.out⟩
  case round =>
    obtain ⟨k, hk, hk8, rfl, hO, hK⟩ := hrel
    obtain ⟨A3, c3', rfl⟩ := own_shape hO
    have HO := Lib.hid hO
    have HK := Lib.hid hK
    clear hO hK
    by_cases hlt : k < n
    · obtain ⟨a, ha⟩ : ∃ a, I[k]? = some a := ⟨_, List.getElem?_eq_getElem (by have := HN.out; omega)⟩
      have HI := H.out.kp HK.out
      obtain ⟨gb, off, hA, hgb, hc⟩ := HI.at' (by have := HN.out; omega)
      subst hA
      have c0 := hc k a ha 0 (by omega)
      rw [Nat.add_zero] at c0
      have c1 := hc k a ha 1 (by omega)
      have c2 := hc k a ha 2 (by omega)
      have c3 := hc k a ha 3 (by omega)
      have c4 := hc k a ha 4 (by omega)
      simp only [Ar.row, List.getElem?_cons_zero, List.getElem?_cons_succ] at c0 c1 c2 c3 c4
      have HD := Lib.hid (HI.dat a (List.mem_of_getElem? ha))
      have HAk := Lib.hid ha
      clear HI hc ha
      by_cases hk7 : k < 8
      · by_cases hcut : 64 < a.n
        · have hca : 64 ≤ a.c := by have := HD.out.2.2.2.2.1; omega
          go_wp2_with (at_builtin; refine wpList_append_lies _ (by rfl) _ _ _ (by rfl) W.heap.size 57 i0 _ 5 48 Try.underlying22 hi0 hz0 hz1 hz2 rfl (by omega) (.slice A3 k c3') k (recs ((I.take k).map cutA)) (by rfl) (own_kp HO.out (((Kp.rfl wr).new _).new _)) ⟨wr.heap.size + 1, 0, none⟩ 1 1 [.int .u64 a.lo, .slice a.A 64 a.c, .bool a.wr, .bool a.pv, .int .i64 a.ow] (by rfl) (by rfl) (World.news_of_block (cs := #[.int .u64 a.lo, .slice a.A 64 a.c, .bool a.wr, .bool a.pv, .int .i64 a.ow]) (t := 57) (fr := (0, 0)) (new_at _ _ _ (by simp))) (by simp [Value.oneCell']) (by omega) (by unfold maxLen; omega) (by omega) (by have := HK.out.size; simp; omega) _ rfl ?_)
          intro gg cap w5 hown5 hgrow5 hat5 hlt5
          have HR : Hid (CutR I W (k + 1) (.slice (some ⟨gg, 0, none⟩) (k + 1) cap) w5) := by
            refine ⟨?_, ((HK.out.new _).new _).grown hgrow5 ((HK.out.new _).new _).size (fun j e => (row_block HO.out e).1)⟩
            rw [take_cut I k a HAk.out, recs_snoc, List.map_take, cutA, if_pos hcut]
            exact hown5
          clear hown5 hgrow5 hat5 hlt5
          go_wp2_with fail
          go_roundw
          case rel => exact ⟨k + 1, by omega, by omega, by go_num, HR.out⟩
          case measure => simp [intOf]; omega
        · go_wp2_with (at_builtin; refine wpList_append_lies _ (by rfl) _ _ _ (by rfl) W.heap.size 57 i0 _ 5 48 Try.underlying22 hi0 hz0 hz1 hz2 rfl (by omega) (.slice A3 k c3') k (recs ((I.take k).map cutA)) (by rfl) (own_kp HO.out (((Kp.rfl wr).new _).new _)) ⟨wr.heap.size + 1, 0, none⟩ 1 1 [.int .u64 a.lo, .slice a.A a.n a.c, .bool a.wr, .bool a.pv, .int .i64 a.ow] (by rfl) (by rfl) (World.news_of_block (cs := #[.int .u64 a.lo, .slice a.A a.n a.c, .bool a.wr, .bool a.pv, .int .i64 a.ow]) (t := 57) (fr := (0, 0)) (new_at _ _ _ (by simp))) (by simp [Value.oneCell']) (by omega) (by unfold maxLen; omega) (by omega) (by have := HK.out.size; simp; omega) _ rfl ?_)
          intro gg cap w5 hown5 hgrow5 hat5 hlt5
          have HR : Hid (CutR I W (k + 1) (.slice (some ⟨gg, 0, none⟩) (k + 1) cap) w5) := by
            refine ⟨?_, ((HK.out.new _).new _).grown hgrow5 ((HK.out.new _).new _).size (fun j e => (row_block HO.out e).1)⟩
            rw [take_cut I k a HAk.out, recs_snoc, List.map_take, cutA, if_neg hcut]
            exact hown5
          clear hown5 hgrow5 hat5 hlt5
          go_wp2_with fail
          go_roundw
          case rel => exact ⟨k + 1, by omega, by omega, by go_num, HR.out⟩
          case measure => simp [intOf]; omega
      · have hk8' : (8 : Int) ≤ k := by omega
        have HV : Hid (CutV I W (.returned (.slice A3 k c3')) wr) := by
          have e8 : k = 8 := by omega
          have e : (cutL I).length = k := by unfold cutL; rw [List.length_map, List.length_take_of_le (by have := HN.out; omega), e8]
          refine ⟨A3, c3', by rw [e], RIn.of_own (e := 57) (n := k) (B := W.heap.size) (c := c3') (by rw [e]; unfold cutL; rw [← e8]; exact HO.out) (fun a ha => ?_), HK.out⟩
          obtain ⟨b, hb, rfl⟩ := List.mem_map.1 ha
          exact cutA_dat ((H.out.kp HK.out).dat b (List.mem_of_mem_take hb))
        go_wp2_with fail
        go_ret
        exact ⟨HV.out.choose, by obtain ⟨c', h1, h2, h3⟩ := HV.out.choose_spec; exact ⟨c', h1, h2.kp ((Kp.rfl wr).new _), h3.new _⟩⟩
    · obtain rfl : k = n := by omega
      have HV : Hid (CutV I W (.returned (.slice A3 k c3')) wr) := by
        have e1 : I.take 8 = I.take k := by rw [List.take_of_length_le (by have := HN.out; omega), List.take_of_length_le (by have := HN.out; omega)]
        have e : (cutL I).length = k := by unfold cutL; rw [e1, List.length_map, List.length_take_of_le (by have := HN.out; omega)]
        refine ⟨A3, c3', by rw [e], RIn.of_own (e := 57) (n := k) (B := W.heap.size) (c := c3') (by rw [e]; unfold cutL; rw [e1]; exact HO.out) (fun a ha => ?_), HK.out⟩
        obtain ⟨b, hb, rfl⟩ := List.mem_map.1 ha
        exact cutA_dat ((H.out.kp HK.out).dat b (List.mem_of_mem_take hb))
      go_wp2_with fail
      go_ret
      exact HV.out
end Go.Proofs.Ytlbkmdmnijmieaa
