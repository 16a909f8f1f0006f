/- Layer 9 (memory): the law of private areas. -/
import Derived.Test.YtlbkmdmnijmieaaNf
import Derived.Deep.QuietTactic
import Derived.BigQuiet
namespace Go.Proofs.Ytlbkmdmnijmieaa
open Go Go.RowKit Rp Go.Maps
open Cq (U64 I64 isW nb mask)

/-- a call, as a struct -/
def opRow (kd T : Int) (nr : Bool) (ix at' w v : Int) : List Value := [.int .i64 kd, .int .i64 T, .bool nr, .int .i64 ix, .int .u64 at', .int .i64 w, .int .u64 v]
theorem has_av {a b : Ar} (h : a.av = b.av) (ha : a.bs.length = a.n) (hb : b.bs.length = b.n) (x : Int) : a.has x = b.has x := by
  have h1 := congrArg Av.lo h
  have h2 := congrArg Av.bs h
  simp only [Ar.av] at h1 h2
  unfold Ar.has
  rw [h1, ← ha, ← hb, h2]
theorem fd_av {L M : List Ar} (h : L.map Ar.av = M.map Ar.av) (hL : ∀ a ∈ L, a.bs.length = a.n) (hM : ∀ a ∈ M, a.bs.length = a.n) {x : Int} {j : Nat} (hf : FdV M x j) : ∃ a, L[j]? = some a ∧ findA L x = some a := by
  rcases hf with ⟨h1, _⟩ | ⟨i, b, h1, h2, h3, h4⟩
  · omega
  · obtain rfl : j = i := by omega
    have hat : ∀ (i : Nat) (b : Ar), M[i]? = some b → ∃ a, L[i]? = some a ∧ a.av = b.av := fun i b hb => by
      have e := congrArg (fun K => K[i]?) h
      simp only [List.getElem?_map, hb, Option.map_some] at e
      cases ha : L[i]? with
      | none => rw [ha] at e; simp at e
      | some a => rw [ha] at e; simp at e; exact ⟨a, rfl, e⟩
    have hta : ∀ (i : Nat) (a : Ar), L[i]? = some a → ∃ b, M[i]? = some b ∧ a.av = b.av := fun i a ha => by
      have e := congrArg (fun K => K[i]?) h
      simp only [List.getElem?_map, ha, Option.map_some] at e
      cases hb : M[i]? with
      | none => rw [hb] at e; simp at e
      | some b => rw [hb] at e; simp at e; exact ⟨b, rfl, e⟩
    obtain ⟨a, ha, he⟩ := hat j b h2
    refine ⟨a, ha, find_at L x j a ha ?_ fun i c hi hc => ?_⟩
    · rw [has_av he (hL a (List.mem_of_getElem? ha)) (hM b (List.mem_of_getElem? h2))]; exact h3
    · obtain ⟨d, hd, hcd⟩ := hta i c hc
      rw [has_av hcd (hL c (List.mem_of_getElem? hc)) (hM d (List.mem_of_getElem? hd))]
      exact h4 i d hi hd
theorem MS.lens {B : Nat} {W : World} {g : Nat} {v : Value} {bv : List Value} {L : List Ar} (h : MS B W g v bv L) : ∀ a ∈ L, a.bs.length = a.n := fun a ha => (h.drd a ha).1
theorem RS.lens {B : Nat} {W : World} {g : Nat} {v : Value} {bv : List Value} {L : List Ar} (h : RS B W g v bv L) : ∀ a ∈ L, a.bs.length = a.n := fun a ha => (h.drd a ha).1
set_option maxRecDepth 100000 in
set_option maxHeartbeats 8000000 in
theorem law_private (A : Option Addr) (c : Nat) (I : List Ar) (W : World) (h : RIn W A I) (hlen : I.length ≤ 9223372036854775807) (k t u kd T : Int) (nr : Bool) (ix at' w ov : Int) (hat : U64 at') :
    Calls Try.prog 7 #[.slice A I.length c, .int .i64 k, .int .i64 t, .int .i64 u, .agg #[.int .i64 kd, .int .i64 T, .bool nr, .int .i64 ix, .int .u64 at', .int .i64 w, .int .u64 ov]] W fun e W' => e = .returned (.bool true) ∧ Kp W W' := by
  obtain ⟨w1, hw1⟩ : ∃ w1, w1 = W.alloc (.cells #[.int .i64 kd, .int .i64 T, .bool nr, .int .i64 ix, .int .u64 at', .int .i64 w, .int .u64 ov] 32) := ⟨_, rfl⟩
  have HK1 : Hid (Kp W w1) := by rw [hw1]; exact (Kp.rfl W).new _
  have HB1 : Hid (w1.heap[W.heap.size]? = some (.cells #[.int .i64 kd, .int .i64 T, .bool nr, .int .i64 ix, .int .u64 at', .int .i64 w, .int .u64 ov] 32 (0, 0))) := by rw [hw1]; exact heap_alloc_new W _
  have HC := Lib.hid (cut_any A c I w1 (h.kp HK1.out) hlen)
  have HAT := Lib.hid hat
  obtain ⟨li, hli⟩ : ∃ li, li = I.length := ⟨_, rfl⟩
  rw [← hli] at HC ⊢
  clear h hlen hat hli
  go_enter Try.func7, Try.ntmps7
  go_wp2_with fail
  rw [← hw1]
  clear hw1
  refine HC.out.mono ?_
  rintro e w2 ⟨A2, c2, rfl, hR2, hk2⟩
  have hsm : Small w2 A2 (cutL I) := ⟨hR2, cutL_length I, fun a ha => by obtain ⟨b, _, rfl⟩ := List.mem_map.1 ha; exact cutA_n b⟩
  have HK2 := Lib.hid (HK1.out.next hk2)
  have HB2 : Hid (w2.heap[W.heap.size]? = some (.cells #[.int .i64 kd, .int .i64 T, .bool nr, .int .i64 ix, .int .u64 at', .int .i64 w, .int .u64 ov] 32 (0, 0))) := (hk2.block _ (Array.getElem?_eq_some_iff.1 HB1.out).1).trans HB1.out
  generalize cutL I = J at *
  have HSM := Lib.hid hsm
  have HOU := Lib.hid (ours_any A2 c2 J w2 hsm)
  obtain ⟨n, hn⟩ : ∃ n, n = J.length := ⟨_, rfl⟩
  have hn8 : n ≤ 8 := by have := hsm.few; omega
  rw [← hn] at HOU ⊢
  have HN := Lib.hid hn
  clear HC hR2 hk2 hsm hn
  go_wp2_with fail
  refine HOU.out.mono ?_
  rintro e w3 ⟨g, v, L, rfl, hM3, hav, how, hk3⟩
  have HM3 := Lib.hid hM3
  have HAV := Lib.hid hav
  have HOW := Lib.hid how
  have HK3 := Lib.hid hk3
  clear hM3 hav how hk3 HOU
  go_wp2_with fail
  refine (own_any HM3.out t k).mono ?_
  rintro e w4 (⟨rfl, rfl, -⟩ | ⟨rfl, hkt, j, a, rfl, ha, hpv, how, hM4, hc4⟩)
  · go_wp2_with fail
    refine (awake_any _).mono ?_
    rintro e w5 ⟨rfl, hk5⟩
    have HK5 := Lib.hid ((HK2.out.next HK3.out).next hk5)
    clear hk5
    go_wp2_with fail
    go_ret
    exact ⟨rfl, HK5.out⟩
  have HKT := Lib.hid hkt
  have HA := Lib.hid ha
  have HPV := Lib.hid hpv
  have HM4 := Lib.hid hM4
  have HK4 := Lib.hid (chg_kp hc4 HK3.out (fun i hi => (row_block HM3.out.own hi).1))
  clear hkt ha hpv how hM4 hc4
  by_cases htu : t = u
  · subst htu
    go_wp2_with fail
    refine (awake_any _).mono ?_
    rintro e w5 ⟨rfl, hk5⟩
    have HK5 := Lib.hid ((HK2.out.next HK4.out).next hk5)
    clear hk5
    go_wp2_with fail
    go_ret
    exact ⟨rfl, HK5.out⟩
  have htu' : (t == u) = false := by simpa using htu
  have HTU := Lib.hid htu
  clear htu
  have hjn : j < n := by
    have h1 := (List.getElem?_eq_some_iff.1 HA.out).1
    have h2 := av_len HAV.out
    have h3 := HN.out
    omega
  obtain ⟨b, hb⟩ : ∃ b, J[j]? = some b := ⟨_, List.getElem?_eq_getElem (by have := HN.out; omega)⟩
  have hlo : a.lo = b.lo := by
    have h1 := congrArg (fun M => M[j]?) HAV.out
    simp only [List.getElem?_map, HA.out, hb, Option.map_some, Option.some.injEq] at h1
    exact congrArg Av.lo h1
  have hS4 := HSM.out.kp HK4.out
  obtain ⟨gb, off, hA2, hgb, hcl⟩ := hS4.rin.at' (by have := HN.out; omega)
  subst hA2
  have c0 := hcl j b hb 0 (by omega)
  simp only [Ar.row, List.getElem?_cons_zero, Nat.add_zero] at c0
  have HB4 : Hid (w4.heap[W.heap.size]? = some (.cells #[.int .i64 kd, .int .i64 T, .bool nr, .int .i64 ix, .int .u64 at', .int .i64 w, .int .u64 ov] 32 (0, 0))) := (HK4.out.block _ (Array.getElem?_eq_some_iff.1 HB2.out).1).trans HB2.out
  have o4 := cell_of_row w4 W.heap.size 4 _ _ _ HB4.out
  have o5 := cell_of_row w4 W.heap.size 5 _ _ _ HB4.out
  simp at o4 o5
  rw [← hlo] at c0
  have hjn' : (j : Int) < n := by omega
  have hj0 : (0 : Int) ≤ j := by omega
  clear hlo hS4 hcl hb
  have hat0 := HAT.out.1
  go_wp2_with fail
  go_quiet (fail)
  go_wp2_with fail
  have hxu : U64 (IntKind.u64.wrap (a.lo + at' % 16)) := Cq.u64_wrap _
  generalize IntKind.u64.wrap (a.lo + at' % 16) = x at *
  have hk45 : Kp w4 (w4.drewN nq) := (Kp.rfl w4).draws nq
  have o5 : (w4.drewN nq).cell? ⟨W.heap.size, 5, none⟩ = some (.int .i64 w) := o5
  generalize w4.drewN nq = w5 at *
  have HX := Lib.hid hxu
  obtain ⟨L', hL'⟩ : ∃ L', L' = L.set j (a.own t) := ⟨_, rfl⟩
  rw [← hL'] at HM4
  have HM5 := Lib.hid (HM4.out.kp hk45)
  have HK5 := Lib.hid (HK4.out.next hk45)
  have hlj : L'[j]? = some (a.own t) := by
    rw [hL', List.getElem?_set]
    simp [(List.getElem?_eq_some_iff.1 HA.out).1]
  have HLj := Lib.hid hlj
  clear hlj
  have HAV' : Hid (L'.map Ar.av = J.map Ar.av) := by rw [hL', own_map Ar.av (fun _ _ => rfl) L j a t HA.out]; exact HAV.out
  clear hxu hk45 HM4 HK4 hL' c0 o4 hat0
  obtain ⟨ga5, cc5, hr5⟩ := HM5.out.rd
  have HMAY := Lib.hid (may_any g ga5 cc5 L' t x w false w5 hr5 HX.out)
  clear hr5
  cases hm : mayB L' t x w false
  · rw [hm] at HMAY
    refine HMAY.out.mono ?_
    rintro e w6 ⟨rfl, hk6⟩
    have HK6 := Lib.hid (HK5.out.next hk6)
    clear hk6 hm
    go_wp2_with fail
    refine (awake_any _).mono ?_
    rintro e w7 ⟨rfl, hk7⟩
    have HK7 := Lib.hid ((HK2.out.next HK6.out).next hk7)
    clear hk7
    go_wp2_with fail
    go_ret
    exact ⟨rfl, HK7.out⟩
  rw [hm] at HMAY
  clear hm
  refine HMAY.out.mono ?_
  rintro e w6 ⟨rfl, hk6⟩
  have HK6 := Lib.hid (HK5.out.next hk6)
  have HM6 := Lib.hid (HM5.out.kp hk6)
  have HRN := Lib.hid (rnew_any (some ⟨gb, off, none⟩) c2 J w6 (HSM.out.kp HK6.out))
  rw [← HN.out] at HRN
  clear hk6 HMAY o5
  go_wp2_with fail
  refine HRN.out.mono ?_
  rintro e w7 ⟨rg, rv, rL, rfl, hRM, hrav, -, hk7⟩
  obtain ⟨rga, rcc, hrr⟩ := hRM.rd
  have HFI := Lib.hid (rfind_any rg rga rcc rL x w7 hrr)
  have HRA := Lib.hid (show L'.map Ar.av = rL.map Ar.av by rw [HAV'.out, hrav])
  have HRL := Lib.hid hRM.lens
  have HK7 := Lib.hid (HK6.out.next hk7)
  have HM7 := Lib.hid (HM6.out.kp hk7)
  clear hRM hrav hrr hk7
  go_wp2_with fail
  refine HFI.out.mono ?_
  rintro e w8 ⟨⟨r, rfl, hfd⟩, hk8⟩
  have HK8 := Lib.hid (HK7.out.next hk8)
  have HM8 := Lib.hid (HM7.out.kp hk8)
  have HFD := Lib.hid hfd
  have HB8 : Hid (w8.heap[W.heap.size]? = some (.cells #[.int .i64 kd, .int .i64 T, .bool nr, .int .i64 ix, .int .u64 at', .int .i64 w, .int .u64 ov] 32 (0, 0))) := (HK8.out.block _ (Array.getElem?_eq_some_iff.1 HB2.out).1).trans HB2.out
  have o5 := cell_of_row w8 W.heap.size 5 _ _ _ HB8.out
  simp at o5
  clear hfd hk8 HFI HRN
  have HLD := Lib.hid (load_tells HM8.out u x w HX.out)
  by_cases hmine : r = (j : Int)
  · have hrj : (r == (j : Int)) = true := by simpa using hmine
    have hop : Hid (∀ wt, mayB L' u x w wt = false) := fun wt => by
      have hf := HFD.out
      rw [hmine] at hf
      obtain ⟨a', ha', hfa⟩ := fd_av HRA.out HM8.out.lens HRL.out hf
      obtain rfl := Option.some.inj (HLj.out.symm.trans ha')
      refine mayB_shut ?_
      rw [openB_yes hfa]
      have h1 : (a.own t).pv = true := HPV.out
      have h2 : (a.own t).ow = t := rfl
      unfold Ar.opn
      rw [h1, h2, htu']
      rfl
    rw [hop.out false] at HLD
    clear hmine
    go_wp2_with fail
    refine HLD.out.mono ?_
    rintro e w9 ⟨⟨r9, rfl⟩, hk9⟩
    have HK9 := Lib.hid (HK8.out.next hk9)
    have HM9 := Lib.hid (HM8.out.kp hk9)
    have HB9 : Hid (w9.heap[W.heap.size]? = some (.cells #[.int .i64 kd, .int .i64 T, .bool nr, .int .i64 ix, .int .u64 at', .int .i64 w, .int .u64 ov] 32 (0, 0))) := (HK9.out.block _ (Array.getElem?_eq_some_iff.1 HB2.out).1).trans HB2.out
    have p5 := cell_of_row w9 W.heap.size 5 _ _ _ HB9.out
    have p6 := cell_of_row w9 W.heap.size 6 _ _ _ HB9.out
    simp at p5 p6
    clear hk9 o5
    go_wp2_with fail
    refine (store_no HM9.out u x w ov HX.out (hop.out true)).mono ?_
    rintro e w10 ⟨rfl, hk10⟩
    have HK10 := Lib.hid (HK9.out.next hk10)
    have HM10 := Lib.hid (HM9.out.kp hk10)
    have HB10 : Hid (w10.heap[W.heap.size]? = some (.cells #[.int .i64 kd, .int .i64 T, .bool nr, .int .i64 ix, .int .u64 at', .int .i64 w, .int .u64 ov] 32 (0, 0))) := (HK10.out.block _ (Array.getElem?_eq_some_iff.1 HB2.out).1).trans HB2.out
    have q5 := cell_of_row w10 W.heap.size 5 _ _ _ HB10.out
    have q6 := cell_of_row w10 W.heap.size 6 _ _ _ HB10.out
    simp at q5 q6
    clear hk10 p5 p6
    go_wp2_with fail
    refine (put_no HM10.out u x w ov HX.out (hop.out true)).mono ?_
    rintro e w11 ⟨rfl, hk11⟩
    have HK11 := Lib.hid (HK10.out.next hk11)
    have HM11 := Lib.hid (HM10.out.kp hk11)
    clear hk11 q5 q6
    go_wp2_with fail
    refine (own_any HM11.out u j).mono ?_
    rintro e w12 (⟨rfl, rfl, -⟩ | ⟨rfl, -, i, b', hij, hb', -, hbo, -, -⟩)
    rotate_left
    · exfalso
      obtain rfl : i = j := by omega
      obtain rfl := Option.some.inj (HLj.out.symm.trans hb')
      have h1 : t = -1 := hbo
      have h2 := HKT.out
      rw [h1] at h2
      exact absurd h2 (by decide)
    go_wp2_with fail
    refine (own_any HM11.out t j).mono ?_
    rintro e w13 (⟨rfl, rfl, -⟩ | ⟨rfl, -, i, b', hij, hb', -, hbo, -, -⟩)
    rotate_left
    · exfalso
      obtain rfl : i = j := by omega
      obtain rfl := Option.some.inj (HLj.out.symm.trans hb')
      have h1 : t = -1 := hbo
      have h2 := HKT.out
      rw [h1] at h2
      exact absurd h2 (by decide)
    go_wp2_with fail
    refine (awake_any _).mono ?_
    rintro e w14 ⟨rfl, hk14⟩
    have HK14 := Lib.hid ((HK2.out.next HK11.out).next hk14)
    clear hk14
    go_wp2_with fail
    go_ret
    exact ⟨rfl, HK14.out⟩
  · have hrj : (r == (j : Int)) = false := by simpa using hmine
    obtain ⟨ok, hok⟩ : ∃ ok, ok = mayB L' u x w false := ⟨_, rfl⟩
    rw [← hok] at HLD
    clear hmine hok
    go_wp2_with fail
    refine HLD.out.mono ?_
    rintro e w9 ⟨⟨r9, rfl⟩, hk9⟩
    have HK9 := Lib.hid (HK8.out.next hk9)
    have HM9 := Lib.hid (HM8.out.kp hk9)
    clear hk9 o5
    go_wp2_with fail
    refine (own_any HM9.out u j).mono ?_
    rintro e w12 (⟨rfl, rfl, -⟩ | ⟨rfl, -, i, b', hij, hb', -, hbo, -, -⟩)
    rotate_left
    · exfalso
      obtain rfl : i = j := by omega
      obtain rfl := Option.some.inj (HLj.out.symm.trans hb')
      have h1 : t = -1 := hbo
      have h2 := HKT.out
      rw [h1] at h2
      exact absurd h2 (by decide)
    go_wp2_with fail
    refine (own_any HM9.out t j).mono ?_
    rintro e w13 (⟨rfl, rfl, -⟩ | ⟨rfl, -, i, b', hij, hb', -, hbo, -, -⟩)
    rotate_left
    · exfalso
      obtain rfl : i = j := by omega
      obtain rfl := Option.some.inj (HLj.out.symm.trans hb')
      have h1 : t = -1 := hbo
      have h2 := HKT.out
      rw [h1] at h2
      exact absurd h2 (by decide)
    go_wp2_with fail
    refine (awake_any _).mono ?_
    rintro e w14 ⟨rfl, hk14⟩
    have HK14 := Lib.hid ((HK2.out.next HK9.out).next hk14)
    clear hk14
    go_wp2_with fail
    go_ret
    exact ⟨rfl, HK14.out⟩
end Go.Proofs.Ytlbkmdmnijmieaa
