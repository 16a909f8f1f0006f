/- Layer 9 (memory): Flush, Put, Own, Load, whatever stores wait. -/
import Derived.Test.YtlbkmdmnijmieaaOc
namespace Go.Proofs.Ytlbkmdmnijmieaa
open Go Go.RowKit Rp Go.Maps
open Cq (U64 I64 isW nb mask)

def FmV (N : Nat) (B : Bs) (W : World) (g : Nat) (v : Value) (L : List Ar) (Qs : Nat → List Sto) (bv : List Value) (t : Int) (e : Ending) (W' : World) : Prop :=
  (knB t = false ∧ e = .returned (.int .i64 0) ∧ MB N B W' g v bv L Qs ∧ Frm B W W') ∨
  ∃ (i : Nat) (bv' : List Value), t = i ∧ i < 8 ∧ e = .returned (.int .i64 (Qs i).length) ∧ MB N B W' g v bv' ((Qs i).foldl wrq L) (upd Qs i []) ∧ Frm B W W'
def FmR (N : Nat) (B : Bs) (W : World) (g : Nat) (v : Value) (L : List Ar) (Qs : Nat → List Sto) (i k : Nat) (W' : World) : Prop :=
  ∃ bv', MB N B W' g v bv' (((Qs i).take k).foldl wrq L) (upd Qs i ((Qs i).drop k)) ∧ Frm B W W'
set_option maxRecDepth 100000 in
set_option maxHeartbeats 2000000 in
theorem flush_mb {N : Nat} {B : Bs} {g : Nat} {v : Value} {bv : List Value} {L : List Ar} {Qs : Nat → List Sto} {W : World} (h : MB N B W g v bv L Qs) (t : Int) :
    Calls Try.prog 26 #[.pointer (some ⟨g, 0, none⟩), .int .i64 t] W (FmV N B W g v L Qs bv t) := by
  cases hk : knB t
  · have HP := Lib.hid (pend_no t g W hk)
    have HV : Hid (FmV N B W g v L Qs bv t (.returned (.int .i64 0)) W) := .inl ⟨hk, rfl, h, Frm.rfl _ _⟩
    clear h hk
    go_enter Try.func26, Try.ntmps26
    go_wp2_with fail
    refine HP.out.mono ?_; rintro e w1 ⟨rfl, rfl⟩
    go_wp2_with fail
    go_loopw [10] (fun i wr => i = .int .i64 0 ∧ W = wr) (fun _ _ => 0)
    case atStart => exact ⟨rfl, rfl⟩
    case round =>
      obtain ⟨rfl, rfl⟩ := hrel
      go_wp2_with fail
      go_ret
      exact HV.out
  · obtain ⟨i, rfl, hi⟩ := knB_cases hk
    obtain ⟨b, hb, hq, hok, hl⟩ := h.q i hi
    obtain ⟨A, c, rfl, hc1, hc2, -⟩ := hq
    obtain ⟨n, hn⟩ : ∃ n, n = (Qs i).length := ⟨_, rfl⟩
    rw [← hn] at hb hc1
    have hn63 : n ≤ 9223372036854775807 := by unfold maxLen at hc2; omega
    have HP := Lib.hid (pend_any i g A n c W hi (h.cell hb))
    have HS : Hid (FmR N B W g v L Qs i 0 W) := ⟨bv, by rw [List.take_zero, List.drop_zero, upd_id Qs i _ rfl]; exact h, Frm.rfl _ _⟩
    have HN := Lib.hid hn
    clear h hk hb hok hl hc2 hn
    go_enter Try.func26, Try.ntmps26
    go_wp2_with fail
    refine HP.out.mono ?_; rintro e w1 ⟨rfl, rfl⟩
    go_wp2_with fail
    go_loopw [10] (fun j wr => ∃ k : Nat, k ≤ n ∧ j = .int .i64 k ∧ FmR N B W g v L Qs i k wr) (fun j _ => n - (intOf j).toNat)
    case atStart => exact ⟨0, Nat.zero_le _, rfl, HS.out⟩
    case round =>
      obtain ⟨k, hkn, rfl, bv', hM, hF⟩ := hrel
      have HM := Lib.hid hM
      have HF := Lib.hid hF
      clear hM hF
      by_cases hlt : k < n
      · obtain ⟨q, hq⟩ : ∃ q, (Qs i)[k]? = some q := ⟨_, List.getElem?_eq_getElem (by have := HN.out; omega)⟩
        have hdrop : (Qs i).drop k = q :: (Qs i).drop (k + 1) := by
          obtain ⟨h2, h3⟩ := List.getElem?_eq_some_iff.1 hq
          rw [List.drop_eq_getElem_cons h2, h3]
        have HD := Lib.hid hdrop
        have HQ := Lib.hid hq
        have HDR := Lib.hid (drain_mb HM.out (i : Int))
        clear hdrop hq
        go_wp2_with fail
        refine HDR.out.mono ?_
        rintro e w2 (⟨-, -, h0, -⟩ | ⟨i', q', Q', bv2, he, -, hQ', rfl, hM2, hF2⟩)
        · exfalso
          have := h0 i rfl hi
          rw [upd_same, HD.out] at this
          cases this
        · have HR : Hid (FmR N B W g v L Qs i (k + 1) w2) := by
            obtain rfl : i = i' := by omega
            rw [upd_same, HD.out] at hQ'
            injection hQ' with e1 e2
            subst e1 e2
            refine ⟨bv2, ?_, HF.out.trans hF2⟩
            rw [List.take_add_one, HQ.out, Option.toList_some, List.foldl_append]
            rw [upd_upd] at hM2
            exact hM2
          clear hM2 hF2 he hQ'
          go_wp2_with fail
          go_roundw
          case rel => exact ⟨k + 1, by omega, by go_num, HR.out⟩
          case measure => simp [intOf]; omega
      · obtain rfl : k = n := by omega
        have HV : Hid (FmV N B W g v L Qs bv i (.returned (.int .i64 k)) wr) := .inr ⟨i, bv', rfl, hi, by rw [HN.out], by
          have := HM.out
          rw [HN.out, List.take_length, List.drop_length] at this
          exact this, HF.out⟩
        go_wp2_with fail
        go_ret
        exact HV.out
def PmV (N : Nat) (B : Bs) (W : World) (g : Nat) (v : Value) (L : List Ar) (Qs : Nat → List Sto) (bv : List Value) (t : Int) (q : Sto) (e : Ending) (W' : World) : Prop :=
  (e = .returned (.bool false) ∧ mayB L t q.a q.w true = false ∧ MB N B W' g v bv L Qs ∧ Frm B W W') ∨
  ∃ (i : Nat) (bv' : List Value), t = i ∧ i < 8 ∧ mayB L t q.a q.w true = true ∧ e = .returned (.bool true) ∧ MB N B W' g v bv' (wrq ((Qs i).foldl wrq L) q) (upd Qs i []) ∧ Frm B W W'
set_option maxRecDepth 100000 in
set_option maxHeartbeats 2000000 in
theorem put_mb {N : Nat} {B : Bs} {g : Nat} {v : Value} {bv : List Value} {L : List Ar} {Qs : Nat → List Sto} {W : World} (h : MB N B W g v bv L Qs) (t : Int) (q : Sto) :
    Calls Try.prog 23 #[.pointer (some ⟨g, 0, none⟩), .int .i64 t, .int .u64 q.a, .int .i64 q.w, .int .u64 q.v] W (PmV N B W g v L Qs bv t q) := by
  cases hm : mayB L t q.a q.w true
  · exact (put_no h.ms t q.a q.w q.v q.ha hm).mono fun e W' ⟨h1, h2⟩ => .inl ⟨h1, hm, h.kp h2, Frm.kp h2⟩
  · obtain ⟨i, rfl, hi⟩ := knB_cases (mayB_kn hm)
    obtain ⟨ga, cc, hr⟩ := h.ms.rd
    have hok := Sto.ok_of hm
    obtain ⟨w, hw, hw1, hw8⟩ := Sto.nat hok
    have HMY := Lib.hid hm
    have H := Lib.hid (may_any g ga cc L i q.a q.w true W hr q.ha)
    rw [hm] at H
    have HOK := Lib.hid hok
    have HM := Lib.hid h
    have HW := Lib.hid hw
    obtain ⟨qa, qw, qv, hqa, hqv⟩ := q
    dsimp only at hw H ⊢
    subst hw
    clear hm hr h hok
    go_enter Try.func23, Try.ntmps23
    go_wp2_with fail
    refine H.out.mono ?_; rintro e w1 ⟨rfl, hk⟩
    have HM1 := Lib.hid (HM.out.kp hk)
    have HF1 := Lib.hid (Frm.kp (B := B) hk)
    clear hk H
    go_wp2_with fail
    refine (flush_mb HM1.out (i : Int)).mono ?_
    rintro e w2 (⟨hk, -⟩ | ⟨i', bv2, he, -, rfl, hM2, hF2⟩)
    · exfalso; rw [knB_nat hi] at hk; cases hk
    obtain rfl : i = i' := by omega
    have HM2 := Lib.hid hM2
    have HF2 := Lib.hid (HF1.out.trans hF2)
    clear hM2 hF2 he
    go_wp2_with fail
    refine (write_any HM2.out.ms qa qv w hqa.1 HOK.out.2 hw8 hqv).mono ?_
    rintro e w3 ⟨rfl, hM3, hC3⟩
    obtain ⟨h4, h5⟩ := HM2.out.turn hM3 hC3 (fun k hk => .inl hk) (wrF_val _ _ _ _)
    have HV : Hid (PmV N B W g v L Qs bv i ⟨qa, w, qv, hqa, hqv⟩ (.returned (.bool true)) w3) := .inr ⟨i, bv2, rfl, hi, HMY.out, rfl, h4, HF2.out.trans h5⟩
    clear hM3 hC3 h4 h5
    go_wp2_with fail
    go_ret
    exact HV.out
def OmV (N : Nat) (B : Bs) (W : World) (g : Nat) (v : Value) (L : List Ar) (Qs : Nat → List Sto) (bv : List Value) (t k : Int) (e : Ending) (W' : World) : Prop :=
  (e = .returned (.bool false) ∧ MB N B W' g v bv L Qs ∧ Frm B W W' ∧ ∀ (j : Nat) (a : Ar), k = j → L[j]? = some a → knB t = true → a.pv = true → a.ow ≠ -1) ∨
  (e = .returned (.bool true) ∧ knB t = true ∧ ∃ (j : Nat) (a : Ar), k = j ∧ L[j]? = some a ∧ a.pv = true ∧ a.ow = -1 ∧ MB N B W' g v bv (L.set j (a.own t)) Qs ∧ Frm B W W')
theorem set_own_val {L : List Ar} {j : Nat} {a : Ar} (h : L[j]? = some a) (t : Int) : (L.set j (a.own t)).map Ar.val = L.map Ar.val := by
  obtain ⟨hj, e⟩ := List.getElem?_eq_some_iff.1 h
  rw [List.map_set, show (a.own t).val = (L.map Ar.val)[j]'(by simpa using hj) by rw [List.getElem_map, e]; rfl, List.set_getElem_self]
theorem own_mb {N : Nat} {B : Bs} {g : Nat} {v : Value} {bv : List Value} {L : List Ar} {Qs : Nat → List Sto} {W : World} (h : MB N B W g v bv L Qs) (t k : Int) :
    Calls Try.prog 27 #[.pointer (some ⟨g, 0, none⟩), .int .i64 t, .int .i64 k] W (OmV N B W g v L Qs bv t k) := by
  refine (own_any h.ms t k).mono fun e W' hv => ?_
  rcases hv with ⟨h1, rfl, h2⟩ | ⟨h1, h2, j, a, h3, h4, h5, h6, h7, h8⟩
  · exact .inl ⟨h1, h, Frm.rfl _ _, h2⟩
  · obtain ⟨h9, h10⟩ := h.turn h7 h8 (fun k hk => .inr hk) (set_own_val h4 t)
    exact .inr ⟨h1, h2, j, a, h3, h4, h5, h6, h9, h10⟩
/-- Load, whatever stores wait -/
def LmV (N : Nat) (B : Bs) (W : World) (g : Nat) (v : Value) (L : List Ar) (Qs : Nat → List Sto) (bv : List Value) (t x w : Int) (e : Ending) (W' : World) : Prop :=
  MB N B W' g v bv L Qs ∧ Frm B W W' ∧ ((e = .returned (.tuple #[.int .u64 0, .bool false]) ∧ mayB L t x w false = false) ∨
    ∃ (i n : Nat), t = i ∧ i < 8 ∧ w = n ∧ mayB L t x w false = true ∧ LdV L x n n (Qs i) W e W')
theorem load_mb {N : Nat} {B : Bs} {g : Nat} {v : Value} {bv : List Value} {L : List Ar} {Qs : Nat → List Sto} {W : World} (h : MB N B W g v bv L Qs) (t x w : Int) (hx : U64 x) (hN : N < 1000) :
    Calls Try.prog 20 #[.pointer (some ⟨g, 0, none⟩), .int .i64 t, .int .u64 x, .int .i64 w] W (LmV N B W g v L Qs bv t x w) := by
  cases hm : mayB L t x w false
  · exact (load_no h.ms t x w hx hm).mono fun e W' ⟨h1, h2⟩ => ⟨h.kp h2, Frm.kp h2, .inl ⟨h1, hm⟩⟩
  · obtain ⟨i, rfl, hi⟩ := knB_cases (mayB_kn hm)
    obtain ⟨b, hb, hq, hok, hl⟩ := h.q i hi
    have hw : isW w = true := by
      have h1 := hm
      unfold mayB at h1
      simp only [Bool.and_eq_true] at h1
      exact h1.1.1.2
    obtain ⟨n, rfl, _, _⟩ := isW_nat hw
    refine (load_any h.ms i hi b hb (Qs i) hq.qb (by omega) x n hx hm).mono fun e W' hv => ?_
    obtain ⟨r, h1, h2, h3⟩ := hv
    exact ⟨h.kp h3, Frm.kp h3, .inr ⟨i, n, rfl, hi, rfl, hm, r, h1, h2, h3⟩⟩
end Go.Proofs.Ytlbkmdmnijmieaa
