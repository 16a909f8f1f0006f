/- CX: append. -/
import Derived.Test.YtdfddpfbjaknoaaGreatCXc
namespace Go.CX
open Go Go.RowKit Go.SX

section
variable {ρ : Nat → Value} {φ : Nat → List Value → List Value} {cx : Cx} {fx : Fx} {L : LK} {B : BK} {β : Bk} {a : Act} {w : World} {n0 : Nat}

theorem append_room (P : Program) (t ty e : TypeId) (i : TypeInfo) (ht : P.underlying t = some (.slice e)) (hi : P.info? e = some i)
    (g off sLen sCap : Nat) (cur : Array Value) (T : TypeId) (hg : w.heap[g]? = some (.cells cur T (0, 0)))
    (x : Addr) (m c : Nat) (news : List Value) (hl : news.length = m * i.size) (hnews : ∀ j u, news[j]? = some u → w.cell? (x.add j) = some u) (h1 : ∀ u ∈ news, u.oneCell' = true)
    (hroom : sLen + m ≤ sCap) (hfit : off + sLen * i.size + news.length ≤ cur.size) :
    (Builtin.append_ #[t, t] ty #[.slice (some ⟨g, off, none⟩) sLen sCap, .slice (some x) m c]).run P w =
      .ok (.slice (some ⟨g, off, none⟩) (sLen + m) sCap) (w.setRow g (spl cur.toList (off + sLen * i.size) news).toArray) := by
  have hf := run_firstCells_some (P := P) w i.size m x m c news hl hnews
  have hst := run_storeCells_at P g (off + sLen * i.size) T news 0 cur w hg (by simpa using hfit) h1
  simp only [Nat.add_zero] at hst
  simp [Builtin.append_, run_underlying ht, sizeOf, typeInfo, hi, Builtin.lenOf, hroom, hf, Addr.add_lit, hst, spl]

theorem any_all {cs : List SC} (h : cs.all (fun c => match c with | .any => false | _ => true) = true) : ∀ c ∈ cs, c ≠ .any := by
  intro c hc e
  have := List.all_eq_true.1 h c hc
  subst e
  simp at this

theorem small_le {len m bytes : Nat} (h : small len m bytes = true) : len + m ≤ 1000000000 ∧ (len + m) * bytes ≤ 140737488355328 := by
  unfold small at h
  rw [Bool.and_eq_true] at h
  exact ⟨Nat.le_of_ble_eq_true h.1, Nat.le_of_ble_eq_true h.2⟩

/-- A row that stands at the head of what a growing append lays. -/
theorem head_row {row : List SC} {us tl : List Value} {arr : Array Value} (hr : All2 (SC.is ρ φ β) row us) (ha : arr = (us ++ tl).toArray) :
    row.length ≤ arr.size ∧ ∀ (k : Nat) (c : SC), row[k]? = some c → ∃ u, arr[k]? = some u ∧ c.is ρ φ β u := by
  subst ha
  have hl := hr.length
  refine ⟨by simp; omega, fun k c hk => ?_⟩
  obtain ⟨u, hu, hc⟩ := hr.get hk
  have hlt := (List.getElem?_eq_some_iff.1 hu).1
  refine ⟨u, ?_, hc⟩
  simp only [List.getElem?_toArray]
  rw [List.getElem?_append_left hlt]
  exact hu

/-- Append in place to a slice that is given up: the block bears the new number. -/
theorem does_kill {b n id len cap size : Nat} {row news : List SC} {us : List Value} {arr : Array Value} {T : TypeId} {P : Program} {o : Oper} {m : Nat} (H : W ρ φ fx B β w) (hn : β n0 = none) (hB : B id = some row) (hb : β id = some (b, n))
    (hh : w.heap[b]? = some (.cells arr T (0, 0))) (hsz : arr.size = n) (holds : (row.take (len * size)).length = len * size) (hany : ∀ c ∈ row.take (len * size), c ≠ .any) (hrow : All2 (SC.is ρ φ β) row (arr.toList.take row.length))
    (hnl : us.length = m * size) (hcs : All2 (SC.is ρ φ β) news us) (hne : ∀ c ∈ news, c ≠ .any) (hroom : len + m ≤ cap) (hcap : cap ≤ maxLen) (hfit : cap * size ≤ n)
    (h : (execOp a.eval o).run P w = .ok (.value (.slice (some ⟨b, 0, none⟩) (len + m) cap)) (w.setRow b (spl arr.toList (len * size) us).toArray)) :
    Does ρ φ P fx B o a w β n0 ⟨.one ⟨false, [.sla n0 0 (len + m) size]⟩, [(n0, some (row.take (len * size) ++ news)), (id, none)], n0 + 1⟩ := by
  intro K Q hk
  simp only [Oper.wp, h, Oper.upon]
  have hE := updB_ext (b := b) (n := n) hn
  have hid : id ≠ n0 := by intro e; subst e; rw [hn] at hb; simp at hb
  have hmul : (len + m) * size ≤ cap * size := Nat.mul_le_mul_right _ hroom
  have hadd : (len + m) * size = len * size + m * size := Nat.add_mul _ _ _
  have hl1 : len * size + us.length ≤ arr.toList.length := by simp; omega
  have hself : (w.setRow b (spl arr.toList (len * size) us).toArray).heap[b]? = some (.cells (spl arr.toList (len * size) us).toArray T (0, 0)) := setRow_heap w b _ _ _ _ hh
  have hoth : ∀ k, k ≠ b → (w.setRow b (spl arr.toList (len * size) us).toArray).heap[k]? = w.heap[k]? := fun k hk => setRow_other w b k _ hk
  have key : ∀ id' r, dlB [(n0, some (row.take (len * size) ++ news)), (id, none)] B id' = some r → (id' = n0 ∧ r = row.take (len * size) ++ news) ∨ (id' ≠ n0 ∧ id' ≠ id ∧ B id' = some r) := by
    intro id' r hr
    have e : dlB [(n0, some (row.take (len * size) ++ news)), (id, none)] B id' = dlB [(n0, some (row.take (len * size) ++ news))] (dlB [(id, none)] B) id' := by
      unfold dlB
      simp only [lookA]
      cases Nat.beq n0 id' <;> rfl
    rw [e, dlB_one] at hr
    split at hr
    · rename_i e; simp only [Option.some.injEq] at hr; exact Or.inl ⟨e, hr.symm⟩
    · rename_i e
      rw [dlB_one] at hr
      split at hr
      · exact absurd hr (by simp)
      · rename_i e'; exact Or.inr ⟨e, e', hr⟩
  have oldβ : ∀ id' p, id' ≠ n0 → updB β n0 b n id' = some p → β id' = some p := by
    intro id' p hne hp
    rcases updB_old hp with hp | ⟨hp, _⟩
    · exact hp
    · exact absurd hp hne
  refine hk (updB β n0 b n) _ _ hE (updB_newer _ _ _ _) ?_ ⟨b, n, cap, updB_self _ _ _ _, rfl, hroom, hcap, by omega⟩
  obtain ⟨b', n', arr', T', hb', h1, h2, h3, h4, h5⟩ := H.box id row hB
  rw [hb] at hb'
  simp only [Option.some.injEq, Prod.mk.injEq] at hb'
  obtain ⟨rfl, rfl⟩ := hb'
  refine ⟨⟨H.low.os, H.low.tape, H.low.output, by simpa using H.low.size, fun k hk' hX => ?_⟩, fun id' r hr => ?_, fun id' r k hr hk' => ?_, fun id1 id2 r1 r2 b1 n1 n2 g1 g2 g3 g4 => ?_, fun id' b1 n1 hb1 => ?_, fun id' b1 n1 hb1 => ?_, by simpa using H.len, fun k hk => by rw [hoth k (by have := H.hi _ _ _ hb; omega)]; exact H.base k hk⟩
  · rw [hoth k ?_]
    · exact H.low.block k hk' hX
    · intro e
      subst e
      rcases h1 with h1 | h1
      · omega
      · exact hX h1
  · rcases key id' r hr with ⟨rfl, rfl⟩ | ⟨hne1, hne2, hB'⟩
    · refine ⟨b, n, _, T, updB_self _ _ _ _, h1, hself, ?_, ?_, fun k c hc => ?_⟩
      · simp only [List.size_toArray]
        rw [spl_length _ _ _ hl1]
        simpa using hsz
      · rw [List.length_append, holds, hcs.length]
        omega
      · simp only [List.getElem?_toArray]
        rw [spl_get _ _ _ _ hl1]
        by_cases hkl : k < len * size
        · rw [List.getElem?_append_left (by omega), List.getElem?_take, if_pos hkl] at hc
          rw [if_neg (by omega)]
          obtain ⟨u, hu, hcu⟩ := hrow.get hc
          rw [List.getElem?_take] at hu
          split at hu
          · exact ⟨u, hu, SC.is_ext hE hcu⟩
          · simp at hu
        · rw [List.getElem?_append_right (by omega), holds] at hc
          obtain ⟨u, hu, hcu⟩ := hcs.get hc
          have hlt := (List.getElem?_eq_some_iff.1 hu).1
          rw [if_pos ⟨by omega, by omega⟩]
          exact ⟨u, hu, SC.is_ext hE hcu⟩
    · obtain ⟨b1, n1, arr1, T1, hb1, g1, g2, g3, g4, g5⟩ := H.box id' r hB'
      refine ⟨b1, n1, arr1, T1, hE _ _ hb1, g1, ?_, g3, g4, fun k c hc => ?_⟩
      · rw [hoth b1 ?_]
        · exact g2
        · intro e
          subst e
          exact hne2 (H.inj id' id r row b1 n1 n hB' hB hb1 hb)
      · obtain ⟨u, hu, hcu⟩ := g5 k c hc
        exact ⟨u, hu, SC.is_ext hE hcu⟩
  · rcases key id' r hr with ⟨rfl, rfl⟩ | ⟨hne1, hne2, hB'⟩
    · rcases List.mem_append.1 (List.mem_of_getElem? hk') with hm | hm
      · exact absurd rfl (hany _ hm)
      · exact absurd rfl (hne _ hm)
    · obtain ⟨g1, g2⟩ := H.msk id' r k hB' hk'
      refine ⟨g1, fun b1 n1 hb1 => ?_⟩
      have hb2 := oldβ _ _ hne1 hb1
      rw [← g2 b1 n1 hb2]
      refine World.cell?_of_block (w := w) (hoth b1 ?_)
      intro e
      exact hne2 (H.inj id' id r row b1 n1 n hB' hB hb2 (e ▸ hb))
  · rcases key _ _ g1 with ⟨rfl, rfl⟩ | ⟨e1, e1', hB1⟩
    · rcases key _ _ g2 with ⟨rfl, rfl⟩ | ⟨e2, e2', hB2⟩
      · rfl
      · rw [updB_self] at g3
        simp only [Option.some.injEq, Prod.mk.injEq] at g3
        obtain ⟨rfl, rfl⟩ := g3
        exact absurd (H.inj id2 id r2 row b n2 n hB2 hB (oldβ _ _ e2 g4) hb) e2'
    · rcases key _ _ g2 with ⟨rfl, rfl⟩ | ⟨e2, e2', hB2⟩
      · rw [updB_self] at g4
        simp only [Option.some.injEq, Prod.mk.injEq] at g4
        obtain ⟨rfl, rfl⟩ := g4
        exact absurd (H.inj id1 id r1 row b n1 n hB1 hB (oldβ _ _ e1 g3) hb) e1'
      · exact H.inj id1 id2 r1 r2 b1 n1 n2 hB1 hB2 (oldβ _ _ e1 g3) (oldβ _ _ e2 g4)
  · rcases updB_old hb1 with hb1 | ⟨_, hb1⟩
    · have := H.inh _ _ _ hb1; simpa using this
    · simp only [Prod.mk.injEq] at hb1
      obtain ⟨rfl, rfl⟩ := hb1
      have := H.inh _ _ _ hb; simpa using this
  · rcases updB_old hb1 with hb1 | ⟨_, hb1⟩
    · exact H.hi _ _ _ hb1
    · simp only [Prod.mk.injEq] at hb1
      obtain ⟨rfl, rfl⟩ := hb1
      exact H.hi _ _ _ hb

theorem dlB_kill {n0 id : Nat} {r : Option (List SC)} : ∀ id' r', dlB [(n0, r), (id, none)] B id' = some r' → dlB [(n0, r)] B id' = some r' := by
  intro id' r' h
  unfold dlB at *
  simp only [lookA] at h ⊢
  cases hq : Nat.beq n0 id' with
  | true => rw [hq] at h; exact h
  | false =>
    rw [hq] at h
    simp only [Bool.false_eq_true, if_false] at h ⊢
    cases hq' : Nat.beq id id' with
    | true => rw [hq'] at h; simp at h
    | false => rw [hq'] at h; simpa using h

theorem appendX_does (F : Fits cx.Γ cx.S ρ φ) (H : M ρ φ fx L B β a w) {t : TypeId} {s x : SC} {d : Out} {u v : Value} {o : Oper} (hn : ∀ id, n0 ≤ id → id < d.next → β id = none) (h : appendX cx B n0 t s x = .ok d) (hs : s.is ρ φ β u) (hx : x.is ρ φ β v)
    (ho : execOp a.eval o = (do pure (.value (← Builtin.append_ #[t, t] o.type #[u, v])))) : Does ρ φ cx.P fx B o a w β n0 d := by
  unfold appendX at h
  split at h
  · rename_i e hu
    split at h
    · rename_i i hi
      split at h
      · rename_i z hz
        split at h
        · rename_i hzc
          rw [Bool.and_eq_true] at hzc
          have hzs := Nat.eq_of_beq_eq_true hzc.1
          have hsz := blt_lt hzc.2
          split at h
          · rename_i m news hsrc
            split at h
            · rename_i hall
              obtain ⟨ad, c, us, rfl, hul, hua, hcell⟩ := srcX_is H.wld hsrc hx
              have hone : ∀ u ∈ us, u.oneCell' = true := by
                intro u hu
                obtain ⟨c', hc', hr⟩ := hua.mem hu
                exact SC.cell_one F (List.all_eq_true.1 hall c' hc') hr
              have hnn := all_ne hall
              have hnl := hua.length
              unfold appX at h
              split at h
              · -- nil
                have hs : u = _ := hs
                subst hs
                simp only [E.den] at ho
                split at h
                · rename_i hm
                  have hm := Nat.eq_of_beq_eq_true hm
                  subst hm
                  have := vC_ok h
                  subst this
                  have hus : us = [] := List.eq_nil_of_length_eq_zero (by simpa using hul)
                  subst hus
                  refine does_val (x := .slice none 0 0) H.wld ?_ rfl
                  rw [ho]
                  simp [Builtin.append_, run_underlying hu, sizeOf, typeInfo, hi, Builtin.lenOf, Builtin.firstCells, loadCells, loadCellsFrom]
                · rename_i hm
                  have hm : m ≠ 0 := by intro e; subst e; simp at hm
                  split at h
                  · rename_i hsm
                    obtain ⟨h1, h2⟩ := small_le hsm
                    simp only [Nat.zero_add] at h1 h2
                    simp only [OR.ok.injEq] at h
                    subst h
                    have hr := run_append_nil (P := cx.P) w t o.type e i z hu hi hz ad m c us hul hcell (by omega) (by omega) (by omega)
                    have hge := grownCap_ge w m 0 e
                    have hcm := grownCap_le_maxLen w m 0 e (by simp only [maxLen]; omega)
                    have hsize : (us.toArray ++ Builtin.zeroCells z.cells (grownCap w m 0 e - m)).size = grownCap w m 0 e * i.size := by
                      rw [Array.size_append, size_zeroCells, hzs, List.size_toArray, hul, ← Nat.add_mul]
                      congr 1
                      omega
                    obtain ⟨g1, g2⟩ := head_row (β := β) (tl := (Builtin.zeroCells z.cells (grownCap w m 0 e - m)).toList) hua (arr := us.toArray ++ Builtin.zeroCells z.cells (grownCap w m 0 e - m)) (by apply Array.ext'; simp)
                    refine does_new (w1 := w.drew) (x := .slice (some ⟨w.heap.size, 0, none⟩) m (grownCap w m 0 e)) (T := e) H.wld.drew (hn n0 (Nat.le_refl _) (Nat.lt_succ_self _)) ?_ ⟨_, _, _, updB_self _ _ _ _, rfl, hge, hcm, ?_⟩ g1 g2 hnn
                    · rw [ho]
                      simp [hr]
                    · rw [hsize]
                      omega
                  · exact absurd h (by simp)
              · rename_i id off len cap
                obtain ⟨b, n, hb, rfl⟩ := hs
                split at h
                · rename_i row hB
                  obtain ⟨arr, T, g1, g2, g3, g4, g5⟩ := H.wld.rows hB hb
                  split at h
                  · rename_i hroom
                    have hroom := Nat.le_of_ble_eq_true hroom
                    split at h
                    · rename_i hfit
                      have hfit := Nat.le_of_ble_eq_true hfit
                      simp only [OR.ok.injEq] at h
                      subst h
                      have hr := append_room (w := w) cx.P t o.type e i hu hi b off len cap arr T g2 ad m c us hul hcell hone hroom (by omega)
                      intro K Q hk
                      simp only [Oper.wp, ho, Sem.run_bind, hr, Result.andThen_ok, Sem.run_pure, Oper.upon]
                      have hw : W ρ φ fx (dlB [(id, some (spl row (off + len * i.size) news))] B) β (w.setRow b (spl arr.toList (off + len * i.size) us).toArray) :=
                        world_wr H.wld hB hb g2 (by omega) hua hnn
                      exact hk β _ _ (Ext.refl _) (Newer.refl _ _ _) hw ⟨b, n, hb, rfl⟩
                    · exact absurd h (by simp)
                  · rename_i hroom
                    have hroom : ¬ len + m ≤ cap := fun e => hroom (Nat.ble_eq_true_of_le e)
                    simp only at h
                    split at h
                    · rename_i hc
                      rw [Bool.and_eq_true, Bool.and_eq_true] at hc
                      have h1 := Nat.eq_of_beq_eq_true hc.1.1
                      obtain ⟨h2, h3⟩ := small_le hc.1.2
                      have h4 := any_all hc.2
                      simp only [OR.ok.injEq] at h
                      subst h
                      have hold := (g5.drop off).take (len * i.size)
                      have hr := run_append_grow (P := cx.P) w t o.type e i z hu hi hz ⟨b, off, none⟩ len cap _ (by rw [← hold.length, h1]) (fun j u hj => by
                        rw [Addr.add_lit]
                        rw [List.getElem?_take] at hj
                        split at hj
                        · rw [List.getElem?_drop, List.getElem?_take] at hj
                          split at hj
                          · simpa [World.cell?, g2] using hj
                          · simp at hj
                        · simp at hj) ad m c us hul hcell (by omega) (by omega) (growslice_fits (by omega) h3)
                      have hge := grownCap_ge w (len + m) cap e
                      have hcm := grownCap_le_maxLen w (len + m) cap e (by simp only [maxLen]; omega)
                      generalize hos : (((arr.toList.take row.length).drop off).take (len * i.size)) = olds at hold hr
                      have holdl : olds.length = len * i.size := by rw [← hold.length, h1]
                      have hsize : (olds.toArray ++ us.toArray ++ Builtin.zeroCells z.cells (grownCap w (len + m) cap e - (len + m))).size = grownCap w (len + m) cap e * i.size := by
                        rw [Array.size_append, Array.size_append, size_zeroCells, hzs, List.size_toArray, List.size_toArray, hul, holdl, ← Nat.add_mul, ← Nat.add_mul]
                        congr 1
                        omega
                      obtain ⟨k1, k2⟩ := head_row (β := β) (tl := (Builtin.zeroCells z.cells (grownCap w (len + m) cap e - (len + m))).toList) (All2.append hold hua) (arr := olds.toArray ++ us.toArray ++ Builtin.zeroCells z.cells (grownCap w (len + m) cap e - (len + m))) (by apply Array.ext'; simp)
                      refine does_new (w1 := w.drew) (x := .slice (some ⟨w.heap.size, 0, none⟩) (len + m) (grownCap w (len + m) cap e)) (T := e) H.wld.drew (hn n0 (Nat.le_refl _) (Nat.lt_succ_self _)) ?_ ⟨_, _, _, updB_self _ _ _ _, rfl, hge, hcm, ?_⟩ k1 k2 ?_
                      · rw [ho]
                        simp [hr]
                      · rw [hsize]
                        omega
                      · intro c hc
                        rcases List.mem_append.1 hc with hc | hc
                        · exact h4 c hc
                        · exact hnn c hc
                    · exact absurd h (by simp)
                · exact absurd h (by simp)
              · rename_i id len sz
                obtain ⟨b, n, cap, hb, rfl, hlc, hcm0, hfit⟩ := hs
                split at h
                · rename_i row hB
                  obtain ⟨arr, T, g1, g2, g3, g4, g5⟩ := H.wld.rows hB hb
                  simp only at h
                  split at h
                  · rename_i hc
                    rw [Bool.and_eq_true, Bool.and_eq_true, Bool.and_eq_true] at hc
                    have h0 := Nat.eq_of_beq_eq_true hc.1.1.1
                    have h1 := Nat.eq_of_beq_eq_true hc.1.1.2
                    obtain ⟨h2, h3⟩ := small_le hc.1.2
                    have h4 := any_all hc.2
                    subst h0
                    simp only [OR.ok.injEq] at h
                    subst h
                    have hold := g5.take (len * i.size)
                    by_cases hroom : len + m ≤ cap
                    · have hmul : (len + m) * i.size ≤ cap * i.size := Nat.mul_le_mul_right _ hroom
                      rw [Nat.add_mul] at hmul
                      have hr := append_room (w := w) cx.P t o.type e i hu hi b 0 len cap arr T g2 ad m c us hul hcell hone hroom (by omega)
                      rw [Nat.zero_add] at hr
                      refine does_kill H.wld (hn n0 (Nat.le_refl _) (Nat.lt_succ_self _)) hB hb g2 g3 h1 h4 g5 hul hua hnn hroom hcm0 (by omega) ?_
                      rw [ho]
                      simp [hr]
                    · have hr := run_append_grow (P := cx.P) w t o.type e i z hu hi hz ⟨b, 0, none⟩ len cap _ (by rw [← hold.length, h1]) (fun j u hj => by
                        rw [Addr.add_lit]
                        rw [List.getElem?_take] at hj
                        split at hj
                        · rw [List.getElem?_take] at hj
                          split at hj
                          · simpa [World.cell?, g2] using hj
                          · simp at hj
                        · simp at hj) ad m c us hul hcell (by omega) (by omega) (growslice_fits (by omega) h3)
                      have hge := grownCap_ge w (len + m) cap e
                      have hcm := grownCap_le_maxLen w (len + m) cap e (by simp only [maxLen]; omega)
                      generalize hos : ((arr.toList.take row.length).take (len * i.size)) = olds at hold hr
                      have holdl : olds.length = len * i.size := by rw [← hold.length, h1]
                      have hsize : (olds.toArray ++ us.toArray ++ Builtin.zeroCells z.cells (grownCap w (len + m) cap e - (len + m))).size = grownCap w (len + m) cap e * i.size := by
                        rw [Array.size_append, Array.size_append, size_zeroCells, hzs, List.size_toArray, List.size_toArray, hul, holdl, ← Nat.add_mul, ← Nat.add_mul]
                        congr 1
                        omega
                      obtain ⟨k1, k2⟩ := head_row (β := β) (tl := (Builtin.zeroCells z.cells (grownCap w (len + m) cap e - (len + m))).toList) (All2.append hold hua) (arr := olds.toArray ++ us.toArray ++ Builtin.zeroCells z.cells (grownCap w (len + m) cap e - (len + m))) (by apply Array.ext'; simp)
                      refine Does.less (does_new (w1 := w.drew) (x := .slice (some ⟨w.heap.size, 0, none⟩) (len + m) (grownCap w (len + m) cap e)) (T := e) H.wld.drew (hn n0 (Nat.le_refl _) (Nat.lt_succ_self _)) ?_ ⟨_, _, _, updB_self _ _ _ _, rfl, hge, hcm, ?_⟩ k1 k2 ?_) dlB_kill
                      · rw [ho]
                        simp [hr]
                      · rw [hsize]
                        omega
                      · intro c hc
                        rcases List.mem_append.1 hc with hc | hc
                        · exact h4 c hc
                        · exact hnn c hc
                  · exact absurd h (by simp)
                · exact absurd h (by simp)
              · exact absurd h (by simp)
            · exact absurd h (by simp)
          · exact absurd h (by simp)
        · exact absurd h (by simp)
      · exact absurd h (by simp)
    · exact absurd h (by simp)
  · exact absurd h (by simp)
end
end Go.CX
