/- Layer 9 (memory): a byte, a number in memory, of the code. -/
import Derived.Test.YtlbkmdmnijmieaaMd
namespace Go.Proofs.Ytlbkmdmnijmieaa
open Go Go.RowKit Rp
open Cq (U64 I64 isW nb mask)

/-- the bytes of the areas lie in memory -/
def DRd (W : World) (L : List Ar) : Prop := ∀ a ∈ L, a.bs.length = a.n ∧ Reads W a.A a.bs ∧ ∀ b ∈ a.bs, 0 ≤ b ∧ b ≤ 255
theorem DRd.kp {W W' : World} {L : List Ar} (h : DRd W L) (k : Kp W W') : DRd W' L := fun a ha => by
  obtain ⟨h1, h2, h3⟩ := h a ha
  refine ⟨h1, fun hp => ?_, h3⟩
  obtain ⟨g, off, e, hg, hc⟩ := h2 hp
  exact ⟨g, off, e, Nat.lt_of_lt_of_le hg k.size, fun i hi => (k.cell (p := ⟨g, off + i, none⟩) hg).trans (hc i hi)⟩
/-- the byte of an area -/
def Ar.byte (a : Ar) (x : Int) : Int := a.bs.getD (IntKind.u64.wrap (x - a.lo)).toNat 0
def byteI (L : List Ar) (x : Int) : Int := match findA L x with | some a => a.byte x | none => 0
def byteOk (L : List Ar) (x : Int) : Bool := match findA L x with | some _ => true | none => false
theorem byteI_yes {L : List Ar} {x : Int} {a : Ar} (h : findA L x = some a) : byteI L x = a.byte x ∧ byteOk L x = true := by unfold byteI byteOk; rw [h]; exact ⟨rfl, rfl⟩
theorem byteI_no {L : List Ar} {x : Int} (h : findA L x = none) : byteI L x = 0 ∧ byteOk L x = false := by unfold byteI byteOk; rw [h]; exact ⟨rfl, rfl⟩
theorem findA_is {L : List Ar} {x : Int} {a : Ar} (h : findA L x = some a) : a ∈ L ∧ a.has x = true :=
  ⟨List.mem_of_find?_eq_some h, by have := List.find?_some h; simpa using this⟩
theorem Ar.has_at {a : Ar} {x : Int} (h : a.has x = true) : ∃ k : Nat, IntKind.u64.wrap (x - a.lo) = k ∧ k < a.n := by
  have h0 := (Cq.u64_wrap (x - a.lo)).1
  obtain ⟨k, hk⟩ := Int.eq_ofNat_of_zero_le h0
  refine ⟨k, hk, ?_⟩
  unfold Ar.has hasB at h
  rw [hk] at h
  have := of_decide_eq_true h
  omega
theorem byte_in {W : World} {L : List Ar} (d : DRd W L) {x : Int} {a : Ar} (h : findA L x = some a) : ∃ (k gb off : Nat), IntKind.u64.wrap (x - a.lo) = k ∧ k < a.n ∧ a.A = some ⟨gb, off, none⟩ ∧ gb < W.heap.size ∧ W.cell? ⟨gb, off + k, none⟩ = some (.int .u8 (a.byte x)) := by
  obtain ⟨hm, hh⟩ := findA_is h
  obtain ⟨k, hk, hn⟩ := Ar.has_at hh
  obtain ⟨h1, h2, _⟩ := d a hm
  obtain ⟨g, off, e, hg, hc⟩ := h2 (by omega)
  refine ⟨k, g, off, hk, hn, e, hg, ?_⟩
  rw [hc k (by omega)]
  unfold Ar.byte
  rw [hk, Int.toNat_natCast]
theorem byteI_u8 {W : World} {L : List Ar} (d : DRd W L) (x : Int) : 0 ≤ byteI L x ∧ byteI L x ≤ 255 := by
  cases h : findA L x with
  | none => rw [(byteI_no h).1]; omega
  | some a =>
    rw [(byteI_yes h).1]
    obtain ⟨hm, _⟩ := findA_is h
    have h3 := (d a hm).2.2
    unfold Ar.byte
    by_cases hk : (IntKind.u64.wrap (x - a.lo)).toNat < a.bs.length
    · rw [List.getD_eq_getElem?_getD, List.getElem?_eq_getElem hk]; exact h3 _ (List.getElem_mem hk)
    · rw [List.getD_eq_getElem?_getD, List.getElem?_eq_none (by omega)]; simp
theorem byte_nil (x : Int) (W : World) : Calls Try.prog 24 #[.pointer none, .int .u64 x] W fun e W' => e = .returned (.tuple #[.int .u8 0, .bool false]) ∧ W = W' := by
  go_enter Try.func24, Try.ntmps24
  go_wp2_with fail
  go_ret2
  exact ⟨rfl, rfl⟩
theorem byte_any (g ga c : Nat) (L : List Ar) (x : Int) (W : World) (h : MRd W g ga c L) (d : DRd W L) :
    Calls Try.prog 24 #[.pointer (some ⟨g, 0, none⟩), .int .u64 x] W fun e W' => e = .returned (.tuple #[.int .u8 (byteI L x), .bool (byteOk L x)]) ∧ Kp W W' := by
  cases hf : findA L x with
  | none =>
    obtain ⟨e1, e2⟩ := byteI_no hf
    rw [e1, e2]
    have H := Lib.hid (find_no h hf)
    clear h hf d e1 e2
    go_enter Try.func24, Try.ntmps24
    go_wp2_with fail
    refine H.out.mono ?_; rintro e w2 ⟨rfl, hk⟩
    have HK := Lib.hid hk
    clear hk
    go_wp2_with fail
    go_ret2
    exact ⟨rfl, HK.out.new _⟩
  | some a =>
    obtain ⟨e1, e2⟩ := byteI_yes hf
    rw [e1, e2]
    obtain ⟨k, gb, off, hk, hkn, hA, hgb, hcell⟩ := byte_in d hf
    have H := Lib.hid (find_yes h hf)
    obtain ⟨b, hb⟩ : ∃ b, b = a.byte x := ⟨_, rfl⟩
    rw [← hb] at hcell ⊢
    rw [hA] at H
    have HP := Lib.hid (fun W => place_any a.lo x gb off k a.n a.c a.wr a.pv hk hkn W)
    have HC := Lib.hid hcell
    clear h hf d e1 e2 hk hA hb hcell
    go_enter Try.func24, Try.ntmps24
    go_wp2_with fail
    refine H.out.mono ?_; rintro e w2 ⟨rfl, hk⟩
    have hcell : w2.cell? ⟨gb, off + k, none⟩ = some (.int .u8 b) := (hk.cell (p := ⟨gb, off + k, none⟩) hgb).trans HC.out
    have hgb2 : gb < w2.heap.size := Nat.lt_of_lt_of_le hgb hk.size
    have HK := Lib.hid hk
    clear hk
    go_wp2_with fail
    refine (HP.out _).mono ?_; rintro e w3 ⟨rfl, rfl⟩
    go_wp2_with fail
    go_ret2
    exact ⟨rfl, (HK.out.new _).new _⟩
/-- the number of n bytes -/
def numF (L : List Ar) (x : Int) : Nat → Int
  | 0 => 0
  | k + 1 => bits .or .u64 (numF L x k) (IntKind.u64.wrap (byteI L (IntKind.u64.wrap (x + k)) * 2 ^ (8 * k)))
theorem number_any (g ga c : Nat) (L : List Ar) (x : Int) (n : Nat) (W : World) (h : MRd W g ga c L) (d : DRd W L) (hn : n ≤ 8) (hx : 0 ≤ x) (hxn : x + n ≤ 18446744073709551616) :
    Calls Try.prog 45 #[.pointer (some ⟨g, 0, none⟩), .int .u64 x, .int .i64 n] W fun e W' => e = .returned (.int .u64 (numF L x n)) ∧ Kp W W' := by
  have H := Lib.hid h
  have D := Lib.hid d
  clear h d
  go_enter Try.func45, Try.ntmps45
  go_wp2_with fail
  go_loopw [7, 13] (fun v i w => ∃ k : Nat, k ≤ n ∧ i = .int .u64 k ∧ v = .int .u64 (numF L x k) ∧ Kp W w) (fun _ i _ => n - (intOf i).toNat)
  case atStart => exact ⟨0, Nat.zero_le _, rfl, rfl, Kp.rfl _⟩
  case round =>
    obtain ⟨k, hk, rfl, rfl, hkp⟩ := hrel
    have HKP := Lib.hid hkp
    clear hkp
    by_cases hlt : k < n
    · have hx8 : ∀ y, 0 ≤ byteI L y ∧ byteI L y ≤ 255 := byteI_u8 D.out
      have hb0 := (hx8 (x + k)).1
      have hb1 := (hx8 (x + k)).2
      obtain ⟨b, hb⟩ : ∃ b, b = byteI L (x + k) := ⟨_, rfl⟩
      rw [← hb] at hb0 hb1
      have HB := Lib.hid (show numF L x (k + 1) = bits .or .u64 (numF L x k) (IntKind.u64.wrap (b * 2 ^ (8 * k))) by
        rw [hb, numF, Cq.wrap_of_u64 (n := x + k) ⟨by omega, by omega⟩])
      have HBY := Lib.hid (byte_any g ga c L (x + k) wr (H.out.kp HKP.out) (D.out.kp HKP.out))
      rw [← hb] at HBY
      obtain ⟨ok, hok⟩ : ∃ ok, ok = byteOk L (x + k) := ⟨_, rfl⟩
      rw [← hok] at HBY
      obtain ⟨nk, hnk⟩ : ∃ nk, nk = numF L x k := ⟨_, rfl⟩
      rw [← hnk] at HB ⊢
      clear hx8 hb hok hnk
      go_wp2_with fail
      refine HBY.out.mono ?_; rintro e w2 ⟨rfl, hk2⟩
      have HK2 := Lib.hid hk2
      clear hk2
      go_wp2_with fail
      go_roundw
      case rel => exact ⟨k + 1, by omega, by go_num, by rw [HB.out], HKP.out.next HK2.out⟩
      case measure => simp [intOf]; omega
    · have hkn : k = n := by omega
      subst hkn
      go_wp2_with fail
      go_ret
      exact ⟨rfl, HKP.out⟩
end Go.Proofs.Ytlbkmdmnijmieaa
