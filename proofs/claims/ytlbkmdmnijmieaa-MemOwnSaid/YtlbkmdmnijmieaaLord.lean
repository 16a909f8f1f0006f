/- Layer 9 (memory): the law of order. -/
import Derived.Test.YtlbkmdmnijmieaaNj
namespace Go.Proofs.Ytlbkmdmnijmieaa
open Go Go.RowKit Rp Go.Maps
open Cq (U64 I64 isW nb mask)

/-- both memories while stores are made -/
structure R1 (w2 wr : World) (B1 g g2 : Nat) (v v2 : Value) (L L2 : List Ar) (D : List Opq) (b dv : Value) : Prop where
  m : MS w2.heap.size wr g v (noRows.set 0 b) L
  q : wr.ownsRow w2.heap.size 77 3 b D.length (stos (D.map Opq.q))
  n : MS B1 wr g2 v2 noRows L2
  d : wr.ownsRow w2.heap.size 32 7 dv D.length (dids D)
  may : ∀ o ∈ D, mayB L 0 o.q.a o.q.w true = true
  k : Kp w2 wr
theorem R1.kp {w2 wr w' : World} {B1 g g2 : Nat} {v v2 : Value} {L L2 : List Ar} {D : List Opq} {b dv : Value} (h : R1 w2 wr B1 g g2 v v2 L L2 D b dv) (k : Kp wr w') : R1 w2 w' B1 g g2 v v2 L L2 D b dv :=
  ⟨h.m.kp k, own_kp h.q k, h.n.kp k, own_kp h.d k, h.may, h.k.next k⟩
theorem row_keep {W W' : World} {B e size n : Nat} {S : Nat → Prop} {v : Value} {xs : List Value} (h : W.ownsRow B e size v n xs) (c : Chg S W W') (hS : ∀ k cur, W.heap[k]? = some (.cells cur e (0, 0)) → ¬ S k) : W'.ownsRow B e size v n xs :=
  own_keep h fun k _ e' => by
    obtain ⟨_, hlt, cur, hc⟩ := row_block h e'
    exact c.block k hlt (hS k cur hc)
/-- a store has been made -/
theorem R1.add {w2 wr w' : World} {B1 g g2 : Nat} {v v2 : Value} {L L2 : List Ar} {D : List Opq} {b dv : Value} (h : R1 w2 wr B1 g g2 v v2 L L2 D b dv) (hg : g < B1) {o : Opq}
    (hs : StV w2.heap.size wr g v (noRows.set 0 b) L 0 b o.q (D.map Opq.q) (.returned (.bool true)) w') :
    ∃ b', MS w2.heap.size w' g v (noRows.set 0 b') L ∧ w'.ownsRow w2.heap.size 77 3 b' (D ++ [o]).length (stos ((D ++ [o]).map Opq.q)) ∧ MS B1 w' g2 v2 noRows L2 ∧ w'.ownsRow w2.heap.size 32 7 dv D.length (dids D) ∧ Kp w2 w' := by
  obtain ⟨_, b', h1, h2, h3⟩ := hs
  have hkind : ∀ k, k = g ∨ b.ownBlock = some k → (∃ cur, wr.heap[k]? = some (.cells cur 71 (0, 0))) ∨ (∃ cur, wr.heap[k]? = some (.cells cur 77 (0, 0))) := fun k hk => by
    rcases hk with rfl | hk
    · exact .inl ⟨_, h.m.box⟩
    · obtain ⟨_, _, cur, hc⟩ := row_block h.q hk
      exact .inr ⟨cur, hc⟩
  refine ⟨b', h1, ?_, ?_, ?_, ?_⟩
  · rw [List.length_append, List.map_append]
    simpa using h2
  · refine h.n.keep fun k hk => h3.block k (h.n.lt hk).2 fun hs => ?_
    rcases hs with rfl | hs
    · have := (h.n.lt hk).1
      omega
    · obtain ⟨_, _, cur, hc⟩ := row_block h.q hs
      exact h.n.apart_q hc hk
  · refine row_keep h.d h3 fun k cur hk hs => ?_
    rcases hkind k hs with ⟨c, hc⟩ | ⟨c, hc⟩ <;> (rw [hk] at hc; simp at hc)
  · refine chg_kp h3 h.k fun k hk => ?_
    rcases hk with rfl | hk
    · exact h.m.low
    · exact (row_block h.q hk).1
/-- both memories while stores are drained, and put -/
structure R2 (w2 wr : World) (B1 g g2 : Nat) (v v2 : Value) (L : List Ar) (D : List Opq) (dv : Value) (j : Nat) : Prop where
  x : ∃ b L1 L2, MS w2.heap.size wr g v (noRows.set 0 b) L1 ∧ QB w2.heap.size wr b ((D.map Opq.q).drop j) ∧ MS B1 wr g2 v2 noRows L2 ∧ L1.map Ar.av = L2.map Ar.av ∧ L1.map Ar.geo = L.map Ar.geo ∧ L2.map Ar.geo = L.map Ar.geo ∧ L1.map Ar.val = L.map Ar.val
  d : wr.ownsRow w2.heap.size 32 7 dv D.length (dids D)
  k : Kp w2 wr
theorem R2.kp {w2 wr w' : World} {B1 g g2 : Nat} {v v2 : Value} {L : List Ar} {D : List Opq} {dv : Value} {j : Nat} (h : R2 w2 wr B1 g g2 v v2 L D dv j) (k : Kp wr w') : R2 w2 w' B1 g g2 v v2 L D dv j := by
  obtain ⟨b, L1, L2, h1, h2, h3, h4⟩ := h.x
  exact ⟨⟨b, L1, L2, h1.kp k, h2.kp k, h3.kp k, h4⟩, own_kp h.d k, h.k.next k⟩
theorem dids_own {B e : Nat} {W : World} {A : Option Addr} {n c : Nat} {D : List Opq} (h : W.ownsRow B e 7 (.slice A n c) D.length (dids D)) (hp : 0 < D.length) :
    ∃ gb, A = some ⟨gb, 0, none⟩ ∧ gb < W.heap.size ∧ ∀ (i : Nat) (o : Opq), D[i]? = some o → ∀ k, k < 7 → W.cell? ⟨gb, i * 7 + k, none⟩ = o.row[k]? := by
  rcases h.2 with ⟨_, h0⟩ | ⟨g, cap, cur, hv, hB, hg, hn, hc, hs, ht⟩
  · omega
  · injection hv with hA _ _
    refine ⟨g, hA, (Array.getElem?_eq_some_iff.1 hg).1, fun i a ha k hk => ?_⟩
    have hi := (List.getElem?_eq_some_iff.1 ha).1
    rw [cell_of_row W g _ cur _ _ hg, ← dids_get D i a ha k hk, ← ht, List.getElem?_take_of_lt (by omega)]
    simp
theorem mblk_val {g : Nat} {v : Value} {L M : List Ar} (h : L.map Ar.val = M.map Ar.val) {k : Nat} (hk : MBlk g v L k) : MBlk g v M k := by
  rcases hk with hk | hk | hk
  · exact .inl hk
  · exact .inr (.inl hk)
  · exact .inr (.inr ((dblk_iff h k).1 hk))
set_option maxRecDepth 100000 in
set_option maxHeartbeats 8000000 in
theorem law_order (A : Option Addr) (c : Nat) (I : List Ar) (W : World) (h : RIn W A I) (hlen : I.length ≤ 9223372036854775807) (A2 : Option Addr) (ln c2 : Nat) (hln : ln ≤ 9223372036854775807) (hop : OpsIn W A2 ln) :
    Calls Try.prog 5 #[.slice A I.length c, .slice A2 ln c2] W fun e W' => e = .returned (.bool true) ∧ Kp W W' := by
  obtain ⟨i0, hi0, hz0, hz1, hz2⟩ := info_parts infoOp
  have HC := Lib.hid (cut_any A c I W h hlen)
  have HOP := Lib.hid hop
  obtain ⟨li, hli⟩ : ∃ li, li = I.length := ⟨_, rfl⟩
  rw [← hli] at HC ⊢
  clear h hlen hli hop
  go_enter Try.func5, Try.ntmps5
  go_wp2_with fail
  refine HC.out.mono ?_
  rintro e w2 ⟨A3, c3, rfl, hR2, hk2⟩
  have hsm : Small w2 A3 (cutL I) := ⟨hR2, cutL_length I, fun a ha => by obtain ⟨b, _, rfl⟩ := List.mem_map.1 ha; exact cutA_n b⟩
  have HK2 := Lib.hid hk2
  have HOP2 := Lib.hid (HOP.out.kp hk2)
  generalize cutL I = J at *
  have HSM := Lib.hid hsm
  have HOU := Lib.hid (ours_any A3 c3 J w2 hsm)
  have HOU2 := Lib.hid (fun w (k : Kp w2 w) => ours_any A3 c3 J w (hsm.kp k))
  have HAI := Lib.hid (AtIn.of_rin hR2)
  obtain ⟨n, hn⟩ : ∃ n, n = J.length := ⟨_, rfl⟩
  have hn8 : n ≤ 8 := by have := hsm.few; omega
  rw [← hn] at HOU HOU2 HAI ⊢
  clear HC HOP hR2 hk2 hsm hn
  go_wp2_with fail
  refine HOU.out.mono ?_
  rintro e w3 ⟨g, v, L, rfl, hM3, hav, how, hk3⟩
  have HM3 := Lib.hid hM3
  have HAV := Lib.hid hav
  have HOW := Lib.hid how
  have HK3 := Lib.hid hk3
  have HO2 := Lib.hid (HOU2.out w3 hk3)
  clear hM3 hav how hk3 HOU HOU2
  go_wp2_with fail
  refine HO2.out.mono ?_
  rintro e w4 ⟨g2, v2, L2, rfl, hM4, hav, how, hk4⟩
  have HK4 := Lib.hid (HK3.out.next hk4)
  have HGB : Hid (g < w3.heap.size) := HM3.out.box.lt
  have HDB : Hid (∀ k, MBlk g v L k → k < w3.heap.size) := fun k hk => (HM3.out.lt hk).2
  have HAVE : Hid (L.map Ar.av = L2.map Ar.av) := HAV.out.trans hav.symm
  have HGE : Hid (L2.map Ar.geo = L.map Ar.geo) := (geo_of_av HAVE.out HM3.out.lens hM4.lens HOW.out how).symm
  have HR : Hid (R1 w2 w4 w3.heap.size g g2 v v2 L L2 [] (.slice none 0 0) (.slice none 0 0)) :=
    ⟨HM3.out.kp hk4, World.ownsRow_nil _ _ _ _, hM4, World.ownsRow_nil _ _ _ _, fun _ h => by simp at h, HK4.out⟩
  clear hM4 hav how hk4 HO2 HM3 HAV
  go_wp2_with fail
  go_loopw [7, 20] (fun dv i wr => ∃ (k : Nat) (D : List Opq) (b : Value), k ≤ ln ∧ k ≤ 30 ∧ i = .int .i64 k ∧ D.length ≤ k ∧ R1 w2 wr w3.heap.size g g2 v v2 L L2 D b dv) (fun _ i _ => ln - (intOf i).toNat)
  case atStart => exact ⟨0, [], _, Nat.zero_le _, by omega, rfl, Nat.le_refl _, HR.out⟩
  case round =>
    obtain ⟨k, D, b, hk, hk30, rfl, hDk, hR⟩ := hrel
    obtain ⟨dA, dc, rfl⟩ := own_shape hR.d
    have HR := Lib.hid hR
    have HDK := Lib.hid hDk
    obtain ⟨dn, hdn⟩ : ∃ dn, dn = D.length := ⟨_, rfl⟩
    rw [← hdn]
    have HDN := Lib.hid hdn
    clear hR hDk hdn
    by_cases hgo : k < ln ∧ k < 30
    · obtain ⟨hlt, hlt30⟩ := hgo
      obtain ⟨gb, off, hA, hgb, hc⟩ := (HOP2.out.kp HR.out.k) (by omega)
      subst hA
      obtain ⟨o, ho⟩ := hc k hlt
      have c0 := ho 0 (by omega)
      rw [Nat.add_zero] at c0
      have c1 := ho 1 (by omega)
      have c2' := ho 2 (by omega)
      have c3' := ho 3 (by omega)
      have c4 := ho 4 (by omega)
      have c5 := ho 5 (by omega)
      have c6 := ho 6 (by omega)
      simp only [Opq.row, List.getElem?_cons_zero, List.getElem?_cons_succ] at c0 c1 c2' c3' c4 c5 c6
      obtain ⟨kd, T, nr, ix, ⟨qa, qw, qv, hqa, hqv⟩, hix⟩ := o
      dsimp only at c0 c1 c2' c3' c4 c5 c6
      obtain ⟨wa, hwa⟩ : ∃ wa, wa = wr.alloc (.cells #[.int .i64 kd, .int .i64 T, .bool nr, .int .i64 ix, .int .u64 qa, .int .i64 qw, .int .u64 qv] 32) := ⟨_, rfl⟩
      have hka : Kp wr wa := by rw [hwa]; exact (Kp.rfl wr).new _
      have HBA : Hid (wa.heap[wr.heap.size]? = some (.cells #[.int .i64 kd, .int .i64 T, .bool nr, .int .i64 ix, .int .u64 qa, .int .i64 qw, .int .u64 qv] 32 (0, 0))) := by rw [hwa]; exact heap_alloc_new wr _
      have HAT := Lib.hid (at_any kd T nr ix qa qw qv A3 n c3 wa hqa hix (by omega) ((HAI.out.kp HR.out.k).kp hka))
      have HKA := Lib.hid hka
      have HIX := Lib.hid hix
      have HQV := Lib.hid hqv
      clear ho hc hka hix hqv hqa
      go_wp2_with fail
      rw [← hwa]
      clear hwa
      refine HAT.out.mono ?_
      rintro e w5 ⟨x, rfl, hxu, hk5⟩
      have b5 : Box w5 wr.heap.size 32 [.int .i64 kd, .int .i64 T, .bool nr, .int .i64 ix, .int .u64 qa, .int .i64 qw, .int .u64 qv] := (hk5.block _ (Array.getElem?_eq_some_iff.1 HBA.out).1).trans HBA.out
      have e0 := b5.cell 0
      have e1 := b5.cell 1
      have e2 := b5.cell 2
      have e3 := b5.cell 3
      have e4 := b5.cell 4
      have e5 := b5.cell 5
      have e6 := b5.cell 6
      have f4 := b5.frozen 4
      simp only [List.getElem?_cons_zero, List.getElem?_cons_succ] at e0 e1 e2 e3 e4 e5 e6
      have b6 := b5.put 4 (.int .u64 x)
      simp only [List.set_cons_zero, List.set_cons_succ] at b6
      have hk6 : Kp wr (w5.setCell ⟨wr.heap.size, 4, none⟩ (.int .u64 x)) := (HKA.out.next hk5).put (p := ⟨wr.heap.size, 4, none⟩) (Nat.le_refl _) _
      have HB6 := Lib.hid b6
      have HR6 := Lib.hid (HR.out.kp hk6)
      have HXU := Lib.hid hxu
      clear b5 b6 hk6 hxu hk5 HAT c0 c1 c2' c3' c4 c5 c6
      go_wp2_with fail
      obtain ⟨w6, hw6⟩ : ∃ w6, w6 = w5.setCell ⟨wr.heap.size, 4, none⟩ (.int .u64 x) := ⟨_, rfl⟩
      rw [← hw6] at HB6 HR6 ⊢
      clear hw6 e0 e1 e2 e3 e4 e5 e6 f4
      cases hm : mayB L 0 x qw true
      · have HS := Lib.hid (store_no HR6.out.m 0 x qw qv HXU.out hm)
        clear hm
        refine HS.out.mono ?_
        rintro e w7 ⟨rfl, hk7⟩
        have HR7 := Lib.hid (HR6.out.kp hk7)
        rw [HDN.out] at *
        clear hk7
        go_wp2_with fail
        go_roundw
        case rel => exact ⟨k + 1, D, b, by omega, by omega, by go_num, by have := HDK.out; omega, HR7.out⟩
        case measure => simp [intOf]; omega
      · have HS := Lib.hid (store_any HR6.out.m 0 (by omega) b rfl ⟨x, qw, qv, HXU.out, HQV.out⟩ (D.map Opq.q) (by rw [List.length_map]; exact HR6.out.q) (by rw [List.length_map]; have := HDK.out; omega) hm)
        have HMY := Lib.hid hm
        clear hm
        refine HS.out.mono ?_
        intro e w7 hst
        obtain rfl := hst.1
        obtain ⟨b', h1, h2, h3, h4, h5⟩ := HR6.out.add HGB.out (o := ⟨kd, T, nr, ix, ⟨x, qw, qv, HXU.out, HQV.out⟩, HIX.out⟩) hst
        obtain ⟨-, -, -, -, hch⟩ := hst
        have b7 : Box w7 wr.heap.size 32 [.int .i64 kd, .int .i64 T, .bool nr, .int .i64 ix, .int .u64 x, .int .i64 qw, .int .u64 qv] := HB6.out.chg hch (fun hs => by
          have hb := HB6.out
          unfold Box at hb
          rcases hs with e | hs
          · have := HR6.out.m.box
            unfold Box at this
            rw [← e, hb] at this
            simp at this
          · obtain ⟨_, _, cur, hc⟩ := row_block HR6.out.q hs
            rw [hb] at hc
            simp at hc)
        have e0 := b7.cell 0
        have e1 := b7.cell 1
        have e2 := b7.cell 2
        have e3 := b7.cell 3
        have e4 := b7.cell 4
        have e5 := b7.cell 5
        have e6 := b7.cell 6
        simp only [List.getElem?_cons_zero, List.getElem?_cons_succ] at e0 e1 e2 e3 e4 e5 e6
        rw [← HDN.out] at h4
        have HAD := Lib.hid (And.intro h1 (And.intro h2 (And.intro h3 h4)))
        have HK7 := Lib.hid h5
        have hw27 := h5.size
        clear h1 h2 h3 h4 h5 b7 hch HS
        go_wp2_with (at_builtin; refine wpList_append_lies _ (by rfl) _ _ _ (by rfl) w2.heap.size 32 i0 _ 7 56 Try.underlying23 hi0 hz0 hz1 hz2 rfl (by omega) (.slice dA dn dc) dn (dids D) (by rfl) (own_kp HAD.out.2.2.2 ((Kp.rfl w7).new _)) ⟨w7.heap.size, 0, none⟩ 1 1 [.int .i64 kd, .int .i64 T, .bool nr, .int .i64 ix, .int .u64 x, .int .i64 qw, .int .u64 qv] (by rfl) (by rfl) (World.news_of_block (cs := #[.int .i64 kd, .int .i64 T, .bool nr, .int .i64 ix, .int .u64 x, .int .i64 qw, .int .u64 qv]) (t := 32) (fr := (0, 0)) (new_at _ _ _ (by simp))) (by simp [Value.oneCell']) (by omega) (by have := HDK.out; have := HDN.out; unfold maxLen; omega) (by have := HDK.out; have := HDN.out; omega) (by simp; omega) _ rfl ?_)
        intro gg cap w8 hown8 hgrow8 hat8 hlt8
        have HR8 : Hid (R1 w2 w8 w3.heap.size g g2 v v2 L L2 (D ++ [⟨kd, T, nr, ix, ⟨x, qw, qv, HXU.out, HQV.out⟩, HIX.out⟩]) b' (.slice (some ⟨gg, 0, none⟩) (dn + 1) cap)) := by
          obtain ⟨h1, h2, h3, h4⟩ := HAD.out
          have hkeep : ∀ (k : Nat) (t : TypeId) (cur : Array Value), w7.heap[k]? = some (Obj.cells cur t (0, 0)) → t ≠ 32 → w8.heap[k]? = w7.heap[k]? := fun k t cur hk ht => by
            have hlt := (Array.getElem?_eq_some_iff.1 hk).1
            rw [hgrow8.block k (by simp; omega) (fun e => by
              obtain ⟨_, _, c', hc'⟩ := row_block h4 e.symm
              rw [hk] at hc'
              simp at hc'
              exact ht hc'.2)]
            exact Below.heap_alloc w7 _ k hlt
          refine ⟨h1.keep fun k hk => ?_, own_keep h2 fun k _ e => ?_, h3.keep fun k hk => ?_, ?_, ?_, ?_⟩
          · rcases hk with rfl | hk | ⟨a, ha, hk⟩
            · exact hkeep k 71 _ h1.box (by decide)
            · obtain ⟨_, _, c', hc'⟩ := row_block h1.own hk
              exact hkeep k 73 _ hc' (by decide)
            · obtain ⟨_, _, c', hc'⟩ := row_block (h1.dat a ha).1 hk
              exact hkeep k 5 _ hc' (by decide)
          · obtain ⟨_, _, c', hc'⟩ := row_block h2 e
            exact hkeep k 77 _ hc' (by decide)
          · rcases hk with rfl | hk | ⟨a, ha, hk⟩
            · exact hkeep k 71 _ h3.box (by decide)
            · obtain ⟨_, _, c', hc'⟩ := row_block h3.own hk
              exact hkeep k 73 _ hc' (by decide)
            · obtain ⟨_, _, c', hc'⟩ := row_block (h3.dat a ha).1 hk
              exact hkeep k 5 _ hc' (by decide)
          · rw [dids_snoc, List.length_append, List.length_singleton, ← HDN.out]
            exact hown8
          · intro o ho
            rcases List.mem_append.1 ho with ho | ho
            · exact HR.out.may o ho
            · obtain rfl := List.mem_singleton.1 ho; exact HMY.out
          · exact (HK7.out.new _).grown hgrow8 (HK7.out.new _).size (fun k e => (row_block h4 e).1)
        clear hown8 hgrow8 hat8 hlt8 e0 e1 e2 e3 e4 e5 e6
        go_wp2_with fail
        go_roundw
        case rel => exact ⟨k + 1, _, b', by omega, by omega, by go_num, by rw [List.length_append, List.length_singleton]; have := HDK.out; omega, HR8.out⟩
        case measure => simp [intOf]; omega
    · by_cases hlt : k < ln
      · have hk30' : (30 : Int) ≤ k := by omega
        obtain ⟨gb, off, hA, hgb, hc⟩ := (HOP2.out.kp HR.out.k) (by omega)
        subst hA
        obtain ⟨o, ho⟩ := hc k hlt
        have c0 := ho 0 (by omega)
        rw [Nat.add_zero] at c0
        have c1 := ho 1 (by omega)
        have c2' := ho 2 (by omega)
        have c3' := ho 3 (by omega)
        have c4 := ho 4 (by omega)
        have c5 := ho 5 (by omega)
        have c6 := ho 6 (by omega)
        simp only [Opq.row, List.getElem?_cons_zero, List.getElem?_cons_succ] at c0 c1 c2' c3' c4 c5 c6
        have HRX := Lib.hid (HR.out.kp ((Kp.rfl wr).new (.cells #[.int .i64 o.kd, .int .i64 o.T, .bool o.nr, .int .i64 o.ix, .int .u64 o.q.a, .int .i64 o.q.w, .int .u64 o.q.v] 32)))
        clear ho hc
        go_wp2_with fail
        refine (same_yes HRX.out.m (HRX.out.n.base HK3.out.size) HAVE.out).mono ?_
        rintro e wy ⟨rfl, hky⟩
        have HRY := Lib.hid (HRX.out.kp hky)
        obtain ⟨bA, bc, hbs⟩ := own_shape HRY.out.q
        rw [← HDN.out] at hbs
        subst hbs
        have HPD := Lib.hid (pend_any 0 g bA dn bc wy (by omega) (by rw [HRY.out.m.box.cell]; rfl))
        have hdd : ((dn : Int) != (dn : Int)) = false := by simp
        clear hky HRX
        go_wp2_with fail
        refine HPD.out.mono ?_
        rintro e w9 ⟨rfl, rfl⟩
        have HR2 : Hid (R2 w2 wy w3.heap.size g g2 v v2 L D (.slice dA dn dc) 0) := ⟨⟨_, L, L2, HRY.out.m, QB.of_own (by rw [List.drop_zero, List.length_map]; exact HRY.out.q), HRY.out.n, HAVE.out, rfl, HGE.out, rfl⟩, by rw [HDN.out]; exact HRY.out.d, HRY.out.k⟩
        clear HPD
        go_wp2_with fail
        go_loopw [57] (fun i wr => ∃ j : Nat, j ≤ dn ∧ i = .int .i64 j ∧ R2 w2 wr w3.heap.size g g2 v v2 L D (.slice dA dn dc) j) (fun i _ => dn - (intOf i).toNat)
        case atStart => exact ⟨0, Nat.zero_le _, rfl, HR2.out⟩
        case round =>
          obtain ⟨j, hj, rfl, hX⟩ := hrel
          have HX := Lib.hid hX
          have hdn30 : dn ≤ 30 := by have := HDK.out; have := HDN.out; omega
          clear hX hdd
          by_cases hjn : j < dn
          · obtain ⟨o, ho⟩ : ∃ o, D[j]? = some o := ⟨_, List.getElem?_eq_getElem (by have := HDN.out; omega)⟩
            obtain ⟨dg, hdA, hdg, hrd⟩ := dids_own HX.out.d (by have := HDN.out; omega)
            subst hdA
            have c0 := hrd j o ho 0 (by omega)
            rw [Nat.add_zero] at c0
            have c1 := hrd j o ho 1 (by omega)
            have c2' := hrd j o ho 2 (by omega)
            have c3' := hrd j o ho 3 (by omega)
            have c4 := hrd j o ho 4 (by omega)
            have c5 := hrd j o ho 5 (by omega)
            have c6 := hrd j o ho 6 (by omega)
            simp only [Opq.row, List.getElem?_cons_zero, List.getElem?_cons_succ] at c0 c1 c2' c3' c4 c5 c6
            obtain ⟨b2, L1, L3, hm, hq, hn2, hav, hg1, hg2, hv1⟩ := HX.out.x
            obtain ⟨wa, hwa⟩ : ∃ wa, wa = wr.alloc (.cells #[.int .i64 o.kd, .int .i64 o.T, .bool o.nr, .int .i64 o.ix, .int .u64 o.q.a, .int .i64 o.q.w, .int .u64 o.q.v] 32) := ⟨_, rfl⟩
            have hka : Kp wr wa := by rw [hwa]; exact (Kp.rfl wr).new _
            have ba : Box wa wr.heap.size 32 [.int .i64 o.kd, .int .i64 o.T, .bool o.nr, .int .i64 o.ix, .int .u64 o.q.a, .int .i64 o.q.w, .int .u64 o.q.v] := by rw [hwa]; exact heap_alloc_new wr _
            have hmy := HR.out.may o (List.mem_of_getElem? ho)
            have hdrop : (D.map Opq.q).drop j = o.q :: (D.map Opq.q).drop (j + 1) := by
              have h1 : (D.map Opq.q)[j]? = some o.q := by rw [List.getElem?_map, ho]; rfl
              obtain ⟨h2, h3⟩ := List.getElem?_eq_some_iff.1 h1
              rw [List.drop_eq_getElem_cons h2, h3]
            rw [hdrop] at hq
            have HDR := Lib.hid (drain_any (hm.kp hka) 0 (by omega) b2 rfl o.q ((D.map Opq.q).drop (j + 1)) (Sto.ok_of hmy) (hq.kp hka))
            have HBA := Lib.hid ba
            have HXA := Lib.hid (And.intro (hm.kp hka) (And.intro (hn2.kp hka) (own_kp HX.out.d hka)))
            have HG := Lib.hid (And.intro hav (And.intro hg1 (And.intro hg2 hv1)))
            have HMY := Lib.hid hmy
            have HKA := Lib.hid (HX.out.k.next hka)
            have HLOW : Hid (w3.heap.size ≤ wr.heap.size) := Nat.le_trans hn2.low (Nat.le_of_lt hn2.box.lt)
            clear hrd ho hm hq hn2 hav hg1 hg2 hv1 hka ba hmy hdrop HX
            go_wp2_with fail
            rw [← hwa]
            clear hwa c0 c1 c2' c3' c4 c5 c6
            refine HDR.out.mono ?_
            rintro e w5 ⟨rfl, b5, hm5, hq5, hc5⟩
            have hS5 : ∀ k, (DBlk L1 k ∨ k = g) → k < w3.heap.size := fun k hk => by
              rcases hk with hk | rfl
              · exact HDB.out k (.inr (.inr ((dblk_iff HG.out.2.2.2 k).1 hk)))
              · exact HGB.out
            have hn5 : MS w3.heap.size w5 g2 v2 noRows L3 := HXA.out.2.1.keep fun k hk => hc5.block k (HXA.out.2.1.lt hk).2 (fun hs => by
              have := (HXA.out.2.1.lt hk).1
              have := hS5 k hs
              omega)
            have b6 : Box w5 wr.heap.size 32 [.int .i64 o.kd, .int .i64 o.T, .bool o.nr, .int .i64 o.ix, .int .u64 o.q.a, .int .i64 o.q.w, .int .u64 o.q.v] := HBA.out.chg hc5 (fun hs => by
              have := hS5 _ hs
              have := HLOW.out
              omega)
            have hd5 : w5.ownsRow w2.heap.size 32 7 (.slice (some ⟨dg, 0, none⟩) dn dc) D.length (dids D) := row_keep HXA.out.2.2 hc5 fun k cur hk hs => by
              rcases hs with ⟨a, ha, hs⟩ | rfl
              · obtain ⟨_, _, c', hc'⟩ := row_block (HXA.out.1.dat a ha).1 hs
                rw [hk] at hc'
                simp at hc'
              · have := HXA.out.1.box
                unfold Box at this
                rw [hk] at this
                simp at this
            have HK5 := Lib.hid (chg_kp hc5 HKA.out (fun k hk => (HXA.out.1.lt (k := k) (by rcases hk with hk | hk; exact .inr (.inr hk); exact .inl hk)).1))
            have e4 := b6.cell 4
            have e5 := b6.cell 5
            have e6 := b6.cell 6
            simp only [List.getElem?_cons_zero, List.getElem?_cons_succ] at e4 e5 e6
            have HPU := Lib.hid (put_empty hn5 0 (by omega) none 0 rfl o.q (by rw [mayB_geo HG.out.2.2.1]; exact HMY.out))
            have H5 := Lib.hid (And.intro hm5 (And.intro hq5 (And.intro hn5 hd5)))
            clear hm5 hq5 hc5 hS5 hn5 b6 hd5 HDR
            go_wp2_with fail
            refine HPU.out.mono ?_
            rintro e w6 ⟨rfl, hn6, hc6⟩
            have HR6 : Hid (R2 w2 w6 w3.heap.size g g2 v v2 L D (.slice (some ⟨dg, 0, none⟩) dn dc) (j + 1)) := by
              obtain ⟨hm5, hq5, hn5, hd5⟩ := H5.out
              obtain ⟨hav, hg1, hg2, hv1⟩ := HG.out
              have hlo : ∀ k, DBlk L3 k → w3.heap.size ≤ k := fun k hk => (hn5.lt (.inr (.inr hk))).1
              refine ⟨⟨b5, _, _, hm5.keep fun k hk => hc6.block k (hm5.lt hk).2 (fun hs => ?_), hq5.chg (hn5.base HK3.out.size) hc6 (fun k hk => .inr (.inr hk)), hn6, wrF_av hav HXA.out.1.lens HXA.out.2.1.lens _ _ _, (wrF_geo _ _ _ _).trans hg1, (wrF_geo _ _ _ _).trans hg2, (wrF_val _ _ _ _).trans hv1⟩, row_keep hd5 hc6 fun k cur hk hs => ?_, chg_kp hc6 HK5.out fun k hk => Nat.le_trans HK3.out.size (hlo k hk)⟩
              · have h1 := hlo k hs
                have h2 := HDB.out k (mblk_val ((wrF_val _ _ _ _).trans hv1) hk)
                omega
              · obtain ⟨a, ha, hs⟩ := hs
                obtain ⟨_, _, c', hc'⟩ := row_block (hn5.dat a ha).1 hs
                rw [hk] at hc'
                simp at hc'
            clear hn6 hc6 HPU e4 e5 e6
            obtain ⟨b7, L4, L5, h7m, _, h7n, h7av, _⟩ := HR6.out.x
            have HSM7 := Lib.hid (same_yes h7m (h7n.base HK3.out.size) h7av)
            clear h7m h7n h7av
            go_wp2_with fail
            refine HSM7.out.mono ?_
            rintro e w7 ⟨rfl, hk7⟩
            have HR7 := Lib.hid (HR6.out.kp hk7)
            clear hk7
            go_wp2_with fail
            go_roundw
            case rel => exact ⟨j + 1, by omega, by go_num, HR7.out⟩
            case measure => simp [intOf]; omega
          · obtain rfl : j = dn := by omega
            obtain ⟨b2, L1, L3, hm, hq, _⟩ := HX.out.x
            obtain ⟨qA, qc, hb2, -⟩ := hq
            have hq0 : ((D.map Opq.q).drop j).length = 0 := by rw [List.length_drop, List.length_map]; have := HDN.out; omega
            rw [hq0] at hb2
            subst hb2
            have HPE := Lib.hid (pend_any 0 g qA 0 qc wr (by omega) (by rw [hm.box.cell]; rfl))
            clear hm hq0
            go_wp2_with fail
            refine HPE.out.mono ?_
            rintro e w5 ⟨rfl, rfl⟩
            go_wp2_with fail
            refine (awake_any _).mono ?_
            rintro e w6 ⟨rfl, hk6⟩
            have HK6 := Lib.hid ((HK2.out.next HX.out.k).next hk6)
            clear hk6
            go_wp2_with fail
            go_ret
            exact ⟨rfl, HK6.out⟩
      · obtain rfl : k = ln := by omega
        have HRX := HR
        go_wp2_with fail
        refine (same_yes HRX.out.m (HRX.out.n.base HK3.out.size) HAVE.out).mono ?_
        rintro e wy ⟨rfl, hky⟩
        have HRY := Lib.hid (HRX.out.kp hky)
        obtain ⟨bA, bc, hbs⟩ := own_shape HRY.out.q
        rw [← HDN.out] at hbs
        subst hbs
        have HPD := Lib.hid (pend_any 0 g bA dn bc wy (by omega) (by rw [HRY.out.m.box.cell]; rfl))
        have hdd : ((dn : Int) != (dn : Int)) = false := by simp
        clear hky HRX
        go_wp2_with fail
        refine HPD.out.mono ?_
        rintro e w9 ⟨rfl, rfl⟩
        have HR2 : Hid (R2 w2 wy w3.heap.size g g2 v v2 L D (.slice dA dn dc) 0) := ⟨⟨_, L, L2, HRY.out.m, QB.of_own (by rw [List.drop_zero, List.length_map]; exact HRY.out.q), HRY.out.n, HAVE.out, rfl, HGE.out, rfl⟩, by rw [HDN.out]; exact HRY.out.d, HRY.out.k⟩
        clear HPD
        go_wp2_with fail
        go_loopw [57] (fun i wr => ∃ j : Nat, j ≤ dn ∧ i = .int .i64 j ∧ R2 w2 wr w3.heap.size g g2 v v2 L D (.slice dA dn dc) j) (fun i _ => dn - (intOf i).toNat)
        case atStart => exact ⟨0, Nat.zero_le _, rfl, HR2.out⟩
        case round =>
          obtain ⟨j, hj, rfl, hX⟩ := hrel
          have HX := Lib.hid hX
          have hdn30 : dn ≤ 30 := by have := HDK.out; have := HDN.out; omega
          clear hX hdd
          by_cases hjn : j < dn
          · obtain ⟨o, ho⟩ : ∃ o, D[j]? = some o := ⟨_, List.getElem?_eq_getElem (by have := HDN.out; omega)⟩
            obtain ⟨dg, hdA, hdg, hrd⟩ := dids_own HX.out.d (by have := HDN.out; omega)
            subst hdA
            have c0 := hrd j o ho 0 (by omega)
            rw [Nat.add_zero] at c0
            have c1 := hrd j o ho 1 (by omega)
            have c2' := hrd j o ho 2 (by omega)
            have c3' := hrd j o ho 3 (by omega)
            have c4 := hrd j o ho 4 (by omega)
            have c5 := hrd j o ho 5 (by omega)
            have c6 := hrd j o ho 6 (by omega)
            simp only [Opq.row, List.getElem?_cons_zero, List.getElem?_cons_succ] at c0 c1 c2' c3' c4 c5 c6
            obtain ⟨b2, L1, L3, hm, hq, hn2, hav, hg1, hg2, hv1⟩ := HX.out.x
            obtain ⟨wa, hwa⟩ : ∃ wa, wa = wr.alloc (.cells #[.int .i64 o.kd, .int .i64 o.T, .bool o.nr, .int .i64 o.ix, .int .u64 o.q.a, .int .i64 o.q.w, .int .u64 o.q.v] 32) := ⟨_, rfl⟩
            have hka : Kp wr wa := by rw [hwa]; exact (Kp.rfl wr).new _
            have ba : Box wa wr.heap.size 32 [.int .i64 o.kd, .int .i64 o.T, .bool o.nr, .int .i64 o.ix, .int .u64 o.q.a, .int .i64 o.q.w, .int .u64 o.q.v] := by rw [hwa]; exact heap_alloc_new wr _
            have hmy := HR.out.may o (List.mem_of_getElem? ho)
            have hdrop : (D.map Opq.q).drop j = o.q :: (D.map Opq.q).drop (j + 1) := by
              have h1 : (D.map Opq.q)[j]? = some o.q := by rw [List.getElem?_map, ho]; rfl
              obtain ⟨h2, h3⟩ := List.getElem?_eq_some_iff.1 h1
              rw [List.drop_eq_getElem_cons h2, h3]
            rw [hdrop] at hq
            have HDR := Lib.hid (drain_any (hm.kp hka) 0 (by omega) b2 rfl o.q ((D.map Opq.q).drop (j + 1)) (Sto.ok_of hmy) (hq.kp hka))
            have HBA := Lib.hid ba
            have HXA := Lib.hid (And.intro (hm.kp hka) (And.intro (hn2.kp hka) (own_kp HX.out.d hka)))
            have HG := Lib.hid (And.intro hav (And.intro hg1 (And.intro hg2 hv1)))
            have HMY := Lib.hid hmy
            have HKA := Lib.hid (HX.out.k.next hka)
            have HLOW : Hid (w3.heap.size ≤ wr.heap.size) := Nat.le_trans hn2.low (Nat.le_of_lt hn2.box.lt)
            clear hrd ho hm hq hn2 hav hg1 hg2 hv1 hka ba hmy hdrop HX
            go_wp2_with fail
            rw [← hwa]
            clear hwa c0 c1 c2' c3' c4 c5 c6
            refine HDR.out.mono ?_
            rintro e w5 ⟨rfl, b5, hm5, hq5, hc5⟩
            have hS5 : ∀ k, (DBlk L1 k ∨ k = g) → k < w3.heap.size := fun k hk => by
              rcases hk with hk | rfl
              · exact HDB.out k (.inr (.inr ((dblk_iff HG.out.2.2.2 k).1 hk)))
              · exact HGB.out
            have hn5 : MS w3.heap.size w5 g2 v2 noRows L3 := HXA.out.2.1.keep fun k hk => hc5.block k (HXA.out.2.1.lt hk).2 (fun hs => by
              have := (HXA.out.2.1.lt hk).1
              have := hS5 k hs
              omega)
            have b6 : Box w5 wr.heap.size 32 [.int .i64 o.kd, .int .i64 o.T, .bool o.nr, .int .i64 o.ix, .int .u64 o.q.a, .int .i64 o.q.w, .int .u64 o.q.v] := HBA.out.chg hc5 (fun hs => by
              have := hS5 _ hs
              have := HLOW.out
              omega)
            have hd5 : w5.ownsRow w2.heap.size 32 7 (.slice (some ⟨dg, 0, none⟩) dn dc) D.length (dids D) := row_keep HXA.out.2.2 hc5 fun k cur hk hs => by
              rcases hs with ⟨a, ha, hs⟩ | rfl
              · obtain ⟨_, _, c', hc'⟩ := row_block (HXA.out.1.dat a ha).1 hs
                rw [hk] at hc'
                simp at hc'
              · have := HXA.out.1.box
                unfold Box at this
                rw [hk] at this
                simp at this
            have HK5 := Lib.hid (chg_kp hc5 HKA.out (fun k hk => (HXA.out.1.lt (k := k) (by rcases hk with hk | hk; exact .inr (.inr hk); exact .inl hk)).1))
            have e4 := b6.cell 4
            have e5 := b6.cell 5
            have e6 := b6.cell 6
            simp only [List.getElem?_cons_zero, List.getElem?_cons_succ] at e4 e5 e6
            have HPU := Lib.hid (put_empty hn5 0 (by omega) none 0 rfl o.q (by rw [mayB_geo HG.out.2.2.1]; exact HMY.out))
            have H5 := Lib.hid (And.intro hm5 (And.intro hq5 (And.intro hn5 hd5)))
            clear hm5 hq5 hc5 hS5 hn5 b6 hd5 HDR
            go_wp2_with fail
            refine HPU.out.mono ?_
            rintro e w6 ⟨rfl, hn6, hc6⟩
            have HR6 : Hid (R2 w2 w6 w3.heap.size g g2 v v2 L D (.slice (some ⟨dg, 0, none⟩) dn dc) (j + 1)) := by
              obtain ⟨hm5, hq5, hn5, hd5⟩ := H5.out
              obtain ⟨hav, hg1, hg2, hv1⟩ := HG.out
              have hlo : ∀ k, DBlk L3 k → w3.heap.size ≤ k := fun k hk => (hn5.lt (.inr (.inr hk))).1
              refine ⟨⟨b5, _, _, hm5.keep fun k hk => hc6.block k (hm5.lt hk).2 (fun hs => ?_), hq5.chg (hn5.base HK3.out.size) hc6 (fun k hk => .inr (.inr hk)), hn6, wrF_av hav HXA.out.1.lens HXA.out.2.1.lens _ _ _, (wrF_geo _ _ _ _).trans hg1, (wrF_geo _ _ _ _).trans hg2, (wrF_val _ _ _ _).trans hv1⟩, row_keep hd5 hc6 fun k cur hk hs => ?_, chg_kp hc6 HK5.out fun k hk => Nat.le_trans HK3.out.size (hlo k hk)⟩
              · have h1 := hlo k hs
                have h2 := HDB.out k (mblk_val ((wrF_val _ _ _ _).trans hv1) hk)
                omega
              · obtain ⟨a, ha, hs⟩ := hs
                obtain ⟨_, _, c', hc'⟩ := row_block (hn5.dat a ha).1 hs
                rw [hk] at hc'
                simp at hc'
            clear hn6 hc6 HPU e4 e5 e6
            obtain ⟨b7, L4, L5, h7m, _, h7n, h7av, _⟩ := HR6.out.x
            have HSM7 := Lib.hid (same_yes h7m (h7n.base HK3.out.size) h7av)
            clear h7m h7n h7av
            go_wp2_with fail
            refine HSM7.out.mono ?_
            rintro e w7 ⟨rfl, hk7⟩
            have HR7 := Lib.hid (HR6.out.kp hk7)
            clear hk7
            go_wp2_with fail
            go_roundw
            case rel => exact ⟨j + 1, by omega, by go_num, HR7.out⟩
            case measure => simp [intOf]; omega
          · obtain rfl : j = dn := by omega
            obtain ⟨b2, L1, L3, hm, hq, _⟩ := HX.out.x
            obtain ⟨qA, qc, hb2, -⟩ := hq
            have hq0 : ((D.map Opq.q).drop j).length = 0 := by rw [List.length_drop, List.length_map]; have := HDN.out; omega
            rw [hq0] at hb2
            subst hb2
            have HPE := Lib.hid (pend_any 0 g qA 0 qc wr (by omega) (by rw [hm.box.cell]; rfl))
            clear hm hq0
            go_wp2_with fail
            refine HPE.out.mono ?_
            rintro e w5 ⟨rfl, rfl⟩
            go_wp2_with fail
            refine (awake_any _).mono ?_
            rintro e w6 ⟨rfl, hk6⟩
            have HK6 := Lib.hid ((HK2.out.next HX.out.k).next hk6)
            clear hk6
            go_wp2_with fail
            go_ret
            exact ⟨rfl, HK6.out⟩
end Go.Proofs.Ytlbkmdmnijmieaa
