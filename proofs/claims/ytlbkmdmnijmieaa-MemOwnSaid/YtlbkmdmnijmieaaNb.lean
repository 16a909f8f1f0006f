/- Layer 9 (memory), the law's side: memory of the areas. -/
import Derived.Test.YtlbkmdmnijmieaaNa
namespace Go.Proofs.Ytlbkmdmnijmieaa
open Go Go.RowKit Rp Go.Maps
open Cq (U64 I64 isW nb mask)

def rows4 (L : List Ar) : List Value := L.flatMap Ar.row4
theorem rows4_snoc (L : List Ar) (a : Ar) : rows4 (L ++ [a]) = rows4 L ++ a.row4 := by simp [rows4]
theorem rows4_get (L : List Ar) (i : Nat) (a : Ar) (h : L[i]? = some a) (k : Nat) (hk : k < 4) : (rows4 L)[i * 4 + k]? = a.row4[k]? := by
  induction L generalizing i with
  | nil => simp at h
  | cons b L ih =>
    have hb : b.row4.length = 4 := rfl
    simp only [rows4, List.flatMap_cons]
    cases i with
    | zero =>
      simp only [List.getElem?_cons_zero, Option.some.injEq] at h
      subst h
      rw [Nat.zero_mul, Nat.zero_add, List.getElem?_append_left (by omega)]
    | succ i =>
      rw [List.getElem?_append_right (by omega), hb, show (i + 1) * 4 + k - 4 = i * 4 + k by omega]
      exact ih i (by simpa using h)
/-- areas cut down -/
structure Small (W : World) (A : Option Addr) (J : List Ar) : Prop where
  rin : RIn W A J
  few : J.length ≤ 8
  n64 : ∀ a ∈ J, a.n ≤ 64
theorem Small.kp {W W' : World} {A : Option Addr} {J : List Ar} (h : Small W A J) (k : Kp W W') : Small W' A J := ⟨h.rin.kp k, h.few, h.n64⟩
theorem AIn.of_own {B e : Nat} {W W0 : World} {A A0 : Option Addr} {n c : Nat} {J : List Ar} (h : W.ownsRow B e 4 (.slice A n c) J.length (rows4 J)) (hs : Small W0 A0 J) (k : Kp W0 W) : AIn W A J := by
  refine ⟨by have := hs.few; omega, fun hp => ?_, fun a ha => ?_⟩
  · rcases h.2 with ⟨_, h0⟩ | ⟨g, cap, cur, hv, hB, hg, hn, hc, hs, ht⟩
    · omega
    · injection hv with hA _ _
      refine ⟨g, 0, hA, (Array.getElem?_eq_some_iff.1 hg).1, fun i a ha k hk => ?_⟩
      have hi := (List.getElem?_eq_some_iff.1 ha).1
      rw [cell_of_row W g _ cur _ _ hg, ← rows4_get J i a ha k hk, ← ht, List.getElem?_take_of_lt (by omega), Nat.zero_add]
      simp
  · obtain ⟨h1, h2, h3, h4, h5, h6, h7⟩ := (hs.rin.kp k).dat a ha
    exact ⟨h1, h2, h3, h4, hs.n64 a ha, h7⟩
theorem infoA : (Try.prog.info? 61).map (fun i => (i.zero, i.size, i.bytes)) = some (some (.agg #[.int .u64 0, .slice none 0 0, .bool false, .bool false]), 4, 40) := by kernel_rfl
def OurR (J : List Ar) (W : World) (k : Nat) (v : Value) (W' : World) : Prop :=
  W'.ownsRow W.heap.size 61 4 v k (rows4 (J.take k)) ∧ Kp W W'
/-- memory, from an older world on -/
theorem MS.base {B B' : Nat} {W : World} {g : Nat} {v : Value} {bv : List Value} {L : List Ar} (h : MS B W g v bv L) (hb : B' ≤ B) : MS B' W g v bv L :=
  ⟨Nat.le_trans hb h.low, h.box, own_base h.own hb, h.few, h.nil, fun a ha => ⟨own_base (h.dat a ha).1 hb, (h.dat a ha).2⟩, h.apart⟩
set_option maxRecDepth 100000 in
set_option maxHeartbeats 4000000 in
theorem ours_any (A : Option Addr) (c : Nat) (J : List Ar) (W : World) (h : Small W A J) :
    Calls Try.prog 9 #[.slice A J.length c] W (NewV J W) := by
  obtain ⟨i0, hi0, hz0, hz1, hz2⟩ := info_parts infoA
  have H := Lib.hid h
  obtain ⟨n, hn⟩ : ∃ n, n = J.length := ⟨_, rfl⟩
  have hn8 : n ≤ 8 := by have := h.few; omega
  rw [← hn]
  have HN := Lib.hid hn
  have HS : Hid (OurR J W 0 (.slice none 0 0) W) := ⟨World.ownsRow_nil _ _ _ _, Kp.rfl _⟩
  clear h hn
  go_enter Try.func9, Try.ntmps9
  go_wp2_with fail
  go_loopw [3, 8] (fun v i wr => ∃ k : Nat, k ≤ n ∧ i = .int .i64 k ∧ OurR J W k v wr) (fun _ i _ => n - (intOf i).toNat)
  case atStart => exact ⟨0, Nat.zero_le _, rfl, HS.out⟩
  case round =>
    obtain ⟨k, hk, rfl, hO, hK⟩ := hrel
    obtain ⟨A3, c3', rfl⟩ := own_shape hO
    have HO := Lib.hid hO
    have HK := Lib.hid hK
    clear hO hK
    by_cases hlt : k < n
    · obtain ⟨a, ha⟩ : ∃ a, J[k]? = some a := ⟨_, List.getElem?_eq_getElem (by have := HN.out; omega)⟩
      have HI := H.out.rin.kp HK.out
      obtain ⟨gb, off, hA, hgb, hc⟩ := HI.at' (by have := HN.out; omega)
      subst hA
      have c0 := hc k a ha 0 (by omega)
      rw [Nat.add_zero] at c0
      have c1 := hc k a ha 1 (by omega)
      have c2 := hc k a ha 2 (by omega)
      have c3 := hc k a ha 3 (by omega)
      have c4 := hc k a ha 4 (by omega)
      simp only [Ar.row, List.getElem?_cons_zero, List.getElem?_cons_succ] at c0 c1 c2 c3 c4
      have HAk := Lib.hid ha
      clear HI hc ha
      go_wp2_with (at_builtin; refine wpList_append_lies _ (by rfl) _ _ _ (by rfl) W.heap.size 61 i0 _ 4 40 Try.underlying52 hi0 hz0 hz1 hz2 rfl (by omega) (.slice A3 k c3') k (rows4 (J.take k)) (by rfl) (own_kp HO.out (((Kp.rfl wr).new _).new _)) ⟨wr.heap.size + 1, 0, none⟩ 1 1 [.int .u64 a.lo, .slice a.A a.n a.c, .bool a.wr, .bool a.pv] (by rfl) (by rfl) (World.news_of_block (cs := #[.int .u64 a.lo, .slice a.A a.n a.c, .bool a.wr, .bool a.pv]) (t := 61) (fr := (0, 0)) (new_at _ _ _ (by simp))) (by simp [Value.oneCell']) (by omega) (by unfold maxLen; omega) (by omega) (by have := HK.out.size; simp; omega) _ rfl ?_)
      intro gg cap w5 hown5 hgrow5 hat5 hlt5
      have HR : Hid (OurR J W (k + 1) (.slice (some ⟨gg, 0, none⟩) (k + 1) cap) w5) := by
        refine ⟨?_, ((HK.out.new _).new _).grown hgrow5 ((HK.out.new _).new _).size (fun j e => (row_block HO.out e).1)⟩
        rw [List.take_add_one, HAk.out, Option.toList_some, rows4_snoc]
        exact hown5
      clear hown5 hgrow5 hat5 hlt5
      go_wp2_with fail
      go_roundw
      case rel => exact ⟨k + 1, by omega, by go_num, HR.out⟩
      case measure => simp [intOf]; omega
    · obtain rfl : k = n := by omega
      have HNW : Hid (Calls Try.prog 30 #[.slice A3 k c3'] wr (NewV J wr)) := by
        have e : J.take k = J := by rw [HN.out, List.take_length]
        have := new_any A3 c3' J wr (AIn.of_own (e := 61) (n := k) (B := W.heap.size) (c := c3') (by rw [← HN.out]; have := HO.out; rw [e] at this; exact this) H.out HK.out)
        rw [← HN.out] at this
        exact this
      go_wp2_with fail
      refine HNW.out.mono ?_
      rintro e w2 ⟨g, v, L, rfl, hM, hav, how, hk2⟩
      have HV : Hid (NewV J W (.returned (.pointer (some ⟨g, 0, none⟩))) w2) := ⟨g, v, L, rfl, hM.base HK.out.size, hav, how, HK.out.next hk2⟩
      clear hM hav how hk2
      go_wp2_with fail
      go_ret
      exact HV.out
end Go.Proofs.Ytlbkmdmnijmieaa
