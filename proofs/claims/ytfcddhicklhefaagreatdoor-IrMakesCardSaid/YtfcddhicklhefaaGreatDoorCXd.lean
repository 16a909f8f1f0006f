/- CX: append. -/
import Derived.Test.YtfcddhicklhefaaGreatDoorCXc
import Derived.Laws.IdiomStrings
namespace Go.CX
open Go Go.RowKit Go.SX

section
variable {ρ : Nat → Value} {φ : Nat → List Value → List Value} {cx : Cx} {fx : Fx} {L : LK} {B : BK} {β : Bk} {a : Act} {w : World} {n0 : Nat}

theorem append_room (P : Program) (t ty e : TypeId) (i : TypeInfo) (ht : P.underlying t = some (.slice e)) (hi : P.info? e = some i)
    (g off sLen sCap : Nat) (cur : Array Value) (T : TypeId) (hg : w.heap[g]? = some (.cells cur T (0, 0)))
    (x : Addr) (m c : Nat) (news : List Value) (hl : news.length = m * i.size) (hnews : ∀ j u, news[j]? = some u → w.cell? (x.add j) = some u) (h1 : ∀ u ∈ news, u.oneCell' = true)
    (hroom : sLen + m ≤ sCap) (hfit : off + sLen * i.size + news.length ≤ cur.size) :
    (Builtin.append_ #[t, t] ty #[.slice (some ⟨g, off, none⟩) sLen sCap, .slice (some x) m c]).run P w =
      .ok (.slice (some ⟨g, off, none⟩) (sLen + m) sCap) (w.setRow g (spl cur.toList (off + sLen * i.size) news).toArray) := by
  have hf := run_firstCells_some (P := P) w i.size m x m c news hl hnews
  have hst := run_storeCells_at P g (off + sLen * i.size) T news 0 cur w hg (by simpa using hfit) h1
  simp only [Nat.add_zero] at hst
  simp [Builtin.append_, run_underlying ht, sizeOf, typeInfo, hi, Builtin.lenOf, hroom, hf, Addr.add_lit, hst, spl]

theorem any_all {cs : List SC} (h : cs.all (fun c => match c with | .any => false | _ => true) = true) : ∀ c ∈ cs, c ≠ .any := by
  intro c hc e
  have := List.all_eq_true.1 h c hc
  subst e
  simp at this

theorem small_le {len m bytes : Nat} (h : small len m bytes = true) : len + m ≤ 1000000000 ∧ (len + m) * bytes ≤ 140737488355328 := by
  unfold small at h
  rw [Bool.and_eq_true] at h
  exact ⟨Nat.le_of_ble_eq_true h.1, Nat.le_of_ble_eq_true h.2⟩

/-- A row that stands at the head of what a growing append lays. -/
theorem head_row {row : List SC} {us tl : List Value} {arr : Array Value} (hr : All2 (SC.is ρ φ β) row us) (ha : arr = (us ++ tl).toArray) :
    row.length ≤ arr.size ∧ ∀ (k : Nat) (c : SC), row[k]? = some c → ∃ u, arr[k]? = some u ∧ c.is ρ φ β u := by
  subst ha
  have hl := hr.length
  refine ⟨by simp; omega, fun k c hk => ?_⟩
  obtain ⟨u, hu, hc⟩ := hr.get hk
  have hlt := (List.getElem?_eq_some_iff.1 hu).1
  refine ⟨u, ?_, hc⟩
  simp only [List.getElem?_toArray]
  rw [List.getElem?_append_left hlt]
  exact hu

/-- Append in place to a slice that is given up: the block bears the new number. -/
theorem does_kill {b n id len cap size : Nat} {row news : List SC} {us : List Value} {arr : Array Value} {T : TypeId} {P : Program} {o : Oper} {m : Nat} (H : W ρ φ fx B β w) (hn : β n0 = none) (hB : B id = some row) (hb : β id = some (b, n))
    (hh : w.heap[b]? = some (.cells arr T (0, 0))) (hsz : arr.size = n) (holds : (row.take (len * size)).length = len * size) (hany : ∀ c ∈ row.take (len * size), c ≠ .any) (hrow : All2 (SC.is ρ φ β) row (arr.toList.take row.length))
    (hnl : us.length = m * size) (hcs : All2 (SC.is ρ φ β) news us) (hne : ∀ c ∈ news, c ≠ .any) (hroom : len + m ≤ cap) (hcap : cap ≤ maxLen) (hfit : cap * size ≤ n)
    (h : (execOp a.eval o).run P w = .ok (.value (.slice (some ⟨b, 0, none⟩) (len + m) cap)) (w.setRow b (spl arr.toList (len * size) us).toArray)) :
    Does ρ φ P fx B o a w β n0 ⟨.one ⟨false, [.sla n0 0 (len + m) size]⟩, [(n0, some (row.take (len * size) ++ news)), (id, none)], n0 + 1⟩ := by
  intro K Q hk
  simp only [Oper.wp, h, Oper.upon]
  have hE := updB_ext (b := b) (n := n) hn
  have hid : id ≠ n0 := by intro e; subst e; rw [hn] at hb; simp at hb
  have hmul : (len + m) * size ≤ cap * size := Nat.mul_le_mul_right _ hroom
  have hadd : (len + m) * size = len * size + m * size := Nat.add_mul _ _ _
  have hl1 : len * size + us.length ≤ arr.toList.length := by simp; omega
  have hself : (w.setRow b (spl arr.toList (len * size) us).toArray).heap[b]? = some (.cells (spl arr.toList (len * size) us).toArray T (0, 0)) := setRow_heap w b _ _ _ _ hh
  have hoth : ∀ k, k ≠ b → (w.setRow b (spl arr.toList (len * size) us).toArray).heap[k]? = w.heap[k]? := fun k hk => setRow_other w b k _ hk
  have key : ∀ id' r, dlB [(n0, some (row.take (len * size) ++ news)), (id, none)] B id' = some r → (id' = n0 ∧ r = row.take (len * size) ++ news) ∨ (id' ≠ n0 ∧ id' ≠ id ∧ B id' = some r) := by
    intro id' r hr
    have e : dlB [(n0, some (row.take (len * size) ++ news)), (id, none)] B id' = dlB [(n0, some (row.take (len * size) ++ news))] (dlB [(id, none)] B) id' := by
      unfold dlB
      simp only [lookA]
      cases Nat.beq n0 id' <;> rfl
    rw [e, dlB_one] at hr
    split at hr
    · rename_i e; simp only [Option.some.injEq] at hr; exact Or.inl ⟨e, hr.symm⟩
    · rename_i e
      rw [dlB_one] at hr
      split at hr
      · exact absurd hr (by simp)
      · rename_i e'; exact Or.inr ⟨e, e', hr⟩
  have oldβ : ∀ id' p, id' ≠ n0 → updB β n0 b n id' = some p → β id' = some p := by
    intro id' p hne hp
    rcases updB_old hp with hp | ⟨hp, _⟩
    · exact hp
    · exact absurd hp hne
  refine hk (updB β n0 b n) _ _ hE (updB_newer _ _ _ _) ?_ ⟨b, n, cap, updB_self _ _ _ _, rfl, hroom, hcap, by omega⟩
  obtain ⟨b', n', arr', T', hb', h1, h2, h3, h4, h5⟩ := H.box id row hB
  rw [hb] at hb'
  simp only [Option.some.injEq, Prod.mk.injEq] at hb'
  obtain ⟨rfl, rfl⟩ := hb'
  refine ⟨⟨H.low.os, H.low.tape, H.low.output, by simpa using H.low.size, fun k hk' hX => ?_⟩, fun id' r hr => ?_, fun id' r k hr hk' => ?_, fun id1 id2 r1 r2 b1 n1 n2 g1 g2 g3 g4 => ?_, fun id' b1 n1 hb1 => ?_, fun id' b1 n1 hb1 => ?_, by simpa using H.len, ⟨fun k hk => by rw [hoth k (by have := H.hi _ _ _ hb; omega)]; exact H.base.1 k hk, H.base.2⟩⟩
  · rw [hoth k ?_]
    · exact H.low.block k hk' hX
    · intro e
      subst e
      rcases h1 with h1 | h1
      · omega
      · exact hX h1
  · rcases key id' r hr with ⟨rfl, rfl⟩ | ⟨hne1, hne2, hB'⟩
    · refine ⟨b, n, _, T, updB_self _ _ _ _, h1, hself, ?_, ?_, fun k c hc => ?_⟩
      · simp only [List.size_toArray]
        rw [spl_length _ _ _ hl1]
        simpa using hsz
      · rw [List.length_append, holds, hcs.length]
        omega
      · simp only [List.getElem?_toArray]
        rw [spl_get _ _ _ _ hl1]
        by_cases hkl : k < len * size
        · rw [List.getElem?_append_left (by omega), List.getElem?_take, if_pos hkl] at hc
          rw [if_neg (by omega)]
          obtain ⟨u, hu, hcu⟩ := hrow.get hc
          rw [List.getElem?_take] at hu
          split at hu
          · exact ⟨u, hu, SC.is_ext hE hcu⟩
          · simp at hu
        · rw [List.getElem?_append_right (by omega), holds] at hc
          obtain ⟨u, hu, hcu⟩ := hcs.get hc
          have hlt := (List.getElem?_eq_some_iff.1 hu).1
          rw [if_pos ⟨by omega, by omega⟩]
          exact ⟨u, hu, SC.is_ext hE hcu⟩
    · obtain ⟨b1, n1, arr1, T1, hb1, g1, g2, g3, g4, g5⟩ := H.box id' r hB'
      refine ⟨b1, n1, arr1, T1, hE _ _ hb1, g1, ?_, g3, g4, fun k c hc => ?_⟩
      · rw [hoth b1 ?_]
        · exact g2
        · intro e
          subst e
          exact hne2 (H.inj id' id r row b1 n1 n hB' hB hb1 hb)
      · obtain ⟨u, hu, hcu⟩ := g5 k c hc
        exact ⟨u, hu, SC.is_ext hE hcu⟩
  · rcases key id' r hr with ⟨rfl, rfl⟩ | ⟨hne1, hne2, hB'⟩
    · rcases List.mem_append.1 (List.mem_of_getElem? hk') with hm | hm
      · exact absurd rfl (hany _ hm)
      · exact absurd rfl (hne _ hm)
    · obtain ⟨g1, g2⟩ := H.msk id' r k hB' hk'
      refine ⟨g1, fun b1 n1 hb1 => ?_⟩
      have hb2 := oldβ _ _ hne1 hb1
      rw [← g2 b1 n1 hb2]
      refine World.cell?_of_block (w := w) (hoth b1 ?_)
      intro e
      exact hne2 (H.inj id' id r row b1 n1 n hB' hB hb2 (e ▸ hb))
  · rcases key _ _ g1 with ⟨rfl, rfl⟩ | ⟨e1, e1', hB1⟩
    · rcases key _ _ g2 with ⟨rfl, rfl⟩ | ⟨e2, e2', hB2⟩
      · rfl
      · rw [updB_self] at g3
        simp only [Option.some.injEq, Prod.mk.injEq] at g3
        obtain ⟨rfl, rfl⟩ := g3
        exact absurd (H.inj id2 id r2 row b n2 n hB2 hB (oldβ _ _ e2 g4) hb) e2'
    · rcases key _ _ g2 with ⟨rfl, rfl⟩ | ⟨e2, e2', hB2⟩
      · rw [updB_self] at g4
        simp only [Option.some.injEq, Prod.mk.injEq] at g4
        obtain ⟨rfl, rfl⟩ := g4
        exact absurd (H.inj id1 id r1 row b n1 n hB1 hB (oldβ _ _ e1 g3) hb) e1'
      · exact H.inj id1 id2 r1 r2 b1 n1 n2 hB1 hB2 (oldβ _ _ e1 g3) (oldβ _ _ e2 g4)
  · rcases updB_old hb1 with hb1 | ⟨_, hb1⟩
    · have := H.inh _ _ _ hb1; simpa using this
    · simp only [Prod.mk.injEq] at hb1
      obtain ⟨rfl, rfl⟩ := hb1
      have := H.inh _ _ _ hb; simpa using this
  · rcases updB_old hb1 with hb1 | ⟨_, hb1⟩
    · exact H.hi _ _ _ hb1
    · simp only [Prod.mk.injEq] at hb1
      obtain ⟨rfl, rfl⟩ := hb1
      exact H.hi _ _ _ hb

theorem dlB_kill {n0 id : Nat} {r : Option (List SC)} : ∀ id' r', dlB [(n0, r), (id, none)] B id' = some r' → dlB [(n0, r)] B id' = some r' := by
  intro id' r' h
  unfold dlB at *
  simp only [lookA] at h ⊢
  cases hq : Nat.beq n0 id' with
  | true => rw [hq] at h; exact h
  | false =>
    rw [hq] at h
    simp only [Bool.false_eq_true, if_false] at h ⊢
    cases hq' : Nat.beq id id' with
    | true => rw [hq'] at h; simp at h
    | false => rw [hq'] at h; simpa using h

theorem appendX_does (F : Fits cx.Γ cx.S ρ φ) (H : M ρ φ fx L B β a w) {t : TypeId} {s x : SC} {d : Out} {u v : Value} {o : Oper} (hn : ∀ id, n0 ≤ id → id < d.next → β id = none) (h : appendX cx B n0 t s x = .ok d) (hs : s.is ρ φ β u) (hx : x.is ρ φ β v)
    (ho : execOp a.eval o = (do pure (.value (← Builtin.append_ #[t, t] o.type #[u, v])))) : Does ρ φ cx.P fx B o a w β n0 d := by
  unfold appendX at h
  split at h
  · rename_i e hu
    split at h
    · rename_i i hi
      split at h
      · rename_i z hz
        split at h
        · rename_i hzc
          rw [Bool.and_eq_true] at hzc
          have hzs := Nat.eq_of_beq_eq_true hzc.1
          have hsz := blt_lt hzc.2
          split at h
          · rename_i m news hsrc
            split at h
            · rename_i hall
              obtain ⟨ad, c, us, rfl, hul, hua, hcell⟩ := srcX_is H.wld hsrc hx
              have hone : ∀ u ∈ us, u.oneCell' = true := by
                intro u hu
                obtain ⟨c', hc', hr⟩ := hua.mem hu
                exact SC.cell_one F (List.all_eq_true.1 hall c' hc') hr
              have hnn := all_ne hall
              have hnl := hua.length
              unfold appX at h
              split at h
              · -- nil
                have hs : u = _ := hs
                subst hs
                simp only [E.den] at ho
                split at h
                · rename_i hm
                  have hm := Nat.eq_of_beq_eq_true hm
                  subst hm
                  have := vC_ok h
                  subst this
                  have hus : us = [] := List.eq_nil_of_length_eq_zero (by simpa using hul)
                  subst hus
                  refine does_val (x := .slice none 0 0) H.wld ?_ rfl
                  rw [ho]
                  simp [Builtin.append_, run_underlying hu, sizeOf, typeInfo, hi, Builtin.lenOf, Builtin.firstCells, loadCells, loadCellsFrom]
                · rename_i hm
                  have hm : m ≠ 0 := by intro e; subst e; simp at hm
                  split at h
                  · rename_i hsm
                    obtain ⟨h1, h2⟩ := small_le hsm
                    simp only [Nat.zero_add] at h1 h2
                    simp only [OR.ok.injEq] at h
                    subst h
                    have hr := run_append_nil (P := cx.P) w t o.type e i z hu hi hz ad m c us hul hcell (by omega) (by omega) (by omega)
                    have hge := grownCap_ge w m 0 e
                    have hcm := grownCap_le_maxLen w m 0 e (by simp only [maxLen]; omega)
                    have hsize : (us.toArray ++ Builtin.zeroCells z.cells (grownCap w m 0 e - m)).size = grownCap w m 0 e * i.size := by
                      rw [Array.size_append, size_zeroCells, hzs, List.size_toArray, hul, ← Nat.add_mul]
                      congr 1
                      omega
                    obtain ⟨g1, g2⟩ := head_row (β := β) (tl := (Builtin.zeroCells z.cells (grownCap w m 0 e - m)).toList) hua (arr := us.toArray ++ Builtin.zeroCells z.cells (grownCap w m 0 e - m)) (by apply Array.ext'; simp)
                    refine does_new (w1 := w.drew) (x := .slice (some ⟨w.heap.size, 0, none⟩) m (grownCap w m 0 e)) (T := e) H.wld.drew (hn n0 (Nat.le_refl _) (Nat.lt_succ_self _)) ?_ ⟨_, _, _, updB_self _ _ _ _, rfl, hge, hcm, ?_⟩ g1 g2 hnn
                    · rw [ho]
                      simp [hr]
                    · rw [hsize]
                      omega
                  · exact absurd h (by simp)
              · rename_i id off len cap
                obtain ⟨b, n, hb, rfl⟩ := hs
                split at h
                · rename_i row hB
                  obtain ⟨arr, T, g1, g2, g3, g4, g5⟩ := H.wld.rows hB hb
                  split at h
                  · rename_i hroom
                    have hroom := Nat.le_of_ble_eq_true hroom
                    split at h
                    · rename_i hfit
                      have hfit := Nat.le_of_ble_eq_true hfit
                      simp only [OR.ok.injEq] at h
                      subst h
                      have hr := append_room (w := w) cx.P t o.type e i hu hi b off len cap arr T g2 ad m c us hul hcell hone hroom (by omega)
                      intro K Q hk
                      simp only [Oper.wp, ho, Sem.run_bind, hr, Result.andThen_ok, Sem.run_pure, Oper.upon]
                      have hw : W ρ φ fx (dlB [(id, some (spl row (off + len * i.size) news))] B) β (w.setRow b (spl arr.toList (off + len * i.size) us).toArray) :=
                        world_wr H.wld hB hb g2 (by omega) hua hnn
                      exact hk β _ _ (Ext.refl _) (Newer.refl _ _ _) hw ⟨b, n, hb, rfl⟩
                    · exact absurd h (by simp)
                  · rename_i hroom
                    have hroom : ¬ len + m ≤ cap := fun e => hroom (Nat.ble_eq_true_of_le e)
                    simp only at h
                    split at h
                    · rename_i hc
                      rw [Bool.and_eq_true, Bool.and_eq_true] at hc
                      have h1 := Nat.eq_of_beq_eq_true hc.1.1
                      obtain ⟨h2, h3⟩ := small_le hc.1.2
                      have h4 := any_all hc.2
                      simp only [OR.ok.injEq] at h
                      subst h
                      have hold := (g5.drop off).take (len * i.size)
                      have hr := run_append_grow (P := cx.P) w t o.type e i z hu hi hz ⟨b, off, none⟩ len cap _ (by rw [← hold.length, h1]) (fun j u hj => by
                        rw [Addr.add_lit]
                        rw [List.getElem?_take] at hj
                        split at hj
                        · rw [List.getElem?_drop, List.getElem?_take] at hj
                          split at hj
                          · simpa [World.cell?, g2] using hj
                          · simp at hj
                        · simp at hj) ad m c us hul hcell (by omega) (by omega) (growslice_fits (by omega) h3)
                      have hge := grownCap_ge w (len + m) cap e
                      have hcm := grownCap_le_maxLen w (len + m) cap e (by simp only [maxLen]; omega)
                      generalize hos : (((arr.toList.take row.length).drop off).take (len * i.size)) = olds at hold hr
                      have holdl : olds.length = len * i.size := by rw [← hold.length, h1]
                      have hsize : (olds.toArray ++ us.toArray ++ Builtin.zeroCells z.cells (grownCap w (len + m) cap e - (len + m))).size = grownCap w (len + m) cap e * i.size := by
                        rw [Array.size_append, Array.size_append, size_zeroCells, hzs, List.size_toArray, List.size_toArray, hul, holdl, ← Nat.add_mul, ← Nat.add_mul]
                        congr 1
                        omega
                      obtain ⟨k1, k2⟩ := head_row (β := β) (tl := (Builtin.zeroCells z.cells (grownCap w (len + m) cap e - (len + m))).toList) (All2.append hold hua) (arr := olds.toArray ++ us.toArray ++ Builtin.zeroCells z.cells (grownCap w (len + m) cap e - (len + m))) (by apply Array.ext'; simp)
                      refine does_new (w1 := w.drew) (x := .slice (some ⟨w.heap.size, 0, none⟩) (len + m) (grownCap w (len + m) cap e)) (T := e) H.wld.drew (hn n0 (Nat.le_refl _) (Nat.lt_succ_self _)) ?_ ⟨_, _, _, updB_self _ _ _ _, rfl, hge, hcm, ?_⟩ k1 k2 ?_
                      · rw [ho]
                        simp [hr]
                      · rw [hsize]
                        omega
                      · intro c hc
                        rcases List.mem_append.1 hc with hc | hc
                        · exact h4 c hc
                        · exact hnn c hc
                    · exact absurd h (by simp)
                · exact absurd h (by simp)
              · rename_i id len sz
                obtain ⟨b, n, cap, hb, rfl, hlc, hcm0, hfit⟩ := hs
                split at h
                · rename_i row hB
                  obtain ⟨arr, T, g1, g2, g3, g4, g5⟩ := H.wld.rows hB hb
                  simp only at h
                  split at h
                  · rename_i hc
                    rw [Bool.and_eq_true, Bool.and_eq_true, Bool.and_eq_true] at hc
                    have h0 := Nat.eq_of_beq_eq_true hc.1.1.1
                    have h1 := Nat.eq_of_beq_eq_true hc.1.1.2
                    obtain ⟨h2, h3⟩ := small_le hc.1.2
                    have h4 := any_all hc.2
                    subst h0
                    simp only [OR.ok.injEq] at h
                    subst h
                    have hold := g5.take (len * i.size)
                    by_cases hroom : len + m ≤ cap
                    · have hmul : (len + m) * i.size ≤ cap * i.size := Nat.mul_le_mul_right _ hroom
                      rw [Nat.add_mul] at hmul
                      have hr := append_room (w := w) cx.P t o.type e i hu hi b 0 len cap arr T g2 ad m c us hul hcell hone hroom (by omega)
                      rw [Nat.zero_add] at hr
                      refine does_kill H.wld (hn n0 (Nat.le_refl _) (Nat.lt_succ_self _)) hB hb g2 g3 h1 h4 g5 hul hua hnn hroom hcm0 (by omega) ?_
                      rw [ho]
                      simp [hr]
                    · have hr := run_append_grow (P := cx.P) w t o.type e i z hu hi hz ⟨b, 0, none⟩ len cap _ (by rw [← hold.length, h1]) (fun j u hj => by
                        rw [Addr.add_lit]
                        rw [List.getElem?_take] at hj
                        split at hj
                        · rw [List.getElem?_take] at hj
                          split at hj
                          · simpa [World.cell?, g2] using hj
                          · simp at hj
                        · simp at hj) ad m c us hul hcell (by omega) (by omega) (growslice_fits (by omega) h3)
                      have hge := grownCap_ge w (len + m) cap e
                      have hcm := grownCap_le_maxLen w (len + m) cap e (by simp only [maxLen]; omega)
                      generalize hos : ((arr.toList.take row.length).take (len * i.size)) = olds at hold hr
                      have holdl : olds.length = len * i.size := by rw [← hold.length, h1]
                      have hsize : (olds.toArray ++ us.toArray ++ Builtin.zeroCells z.cells (grownCap w (len + m) cap e - (len + m))).size = grownCap w (len + m) cap e * i.size := by
                        rw [Array.size_append, Array.size_append, size_zeroCells, hzs, List.size_toArray, List.size_toArray, hul, holdl, ← Nat.add_mul, ← Nat.add_mul]
                        congr 1
                        omega
                      obtain ⟨k1, k2⟩ := head_row (β := β) (tl := (Builtin.zeroCells z.cells (grownCap w (len + m) cap e - (len + m))).toList) (All2.append hold hua) (arr := olds.toArray ++ us.toArray ++ Builtin.zeroCells z.cells (grownCap w (len + m) cap e - (len + m))) (by apply Array.ext'; simp)
                      refine Does.less (does_new (w1 := w.drew) (x := .slice (some ⟨w.heap.size, 0, none⟩) (len + m) (grownCap w (len + m) cap e)) (T := e) H.wld.drew (hn n0 (Nat.le_refl _) (Nat.lt_succ_self _)) ?_ ⟨_, _, _, updB_self _ _ _ _, rfl, hge, hcm, ?_⟩ k1 k2 ?_) dlB_kill
                      · rw [ho]
                        simp [hr]
                      · rw [hsize]
                        omega
                      · intro c hc
                        rcases List.mem_append.1 hc with hc | hc
                        · exact h4 c hc
                        · exact hnn c hc
                  · exact absurd h (by simp)
                · exact absurd h (by simp)
              · exact absurd h (by simp)
            · exact absurd h (by simp)
          · exact absurd h (by simp)
        · exact absurd h (by simp)
      · exact absurd h (by simp)
    · exact absurd h (by simp)
  · exact absurd h (by simp)
theorem does_wrv {b n off id : Nat} {row cs : List SC} {us : List Value} {arr : Array Value} {T : TypeId} {P : Program} {o : Oper} {s : SV} {x : Value} (H : W ρ φ fx B β w) (hB : B id = some row) (hb : β id = some (b, n)) (hh : w.heap[b]? = some (.cells arr T (0, 0)))
    (hlen : off + cs.length ≤ row.length) (hcs : All2 (SC.is ρ φ β) cs us) (hany : ∀ c ∈ cs, c ≠ .any)
    (h : (execOp a.eval o).run P w = .ok (.value x) (w.setRow b (spl arr.toList off us).toArray)) (hx : s.is ρ φ β x) :
    Does ρ φ P fx B o a w β n0 ⟨s, [(id, some (spl row off cs))], n0⟩ := by
  intro K Q hk
  simp only [Oper.wp, h, Oper.upon]
  exact hk β x _ (Ext.refl _) (Newer.refl _ _ _) (world_wr H hB hb hh hlen hcs hany) hx
/-- Where a slice begins, and how long it is. -/
def dstX : SC → Option (Nat × Nat × Nat)
  | .slc id off len _ => some (id, off, len)
  | .sla id off len _ => some (id, off, len)
  | _ => none
def copyX (cx : Cx) (B : BK) (n0 : Nat) (t : TypeId) (s x : SC) : OR :=
  match cx.P.underlying t with
  | some (.slice e) => match tyx cx.P e with
    | some (_, size) => match dstX s, srcX B size x with
      | some _, none => (match x with
        | .e (.val (.slice none 0 0)) => vE n0 (.int .i64 0)
        | _ => .stuck)
      | some (id, off, len), some (m, cs) => match B id with
        | some row =>
          if Nat.ble (off + (cs.take (Nat.min m len * size)).length) row.length && (cs.take (Nat.min m len * size)).all (SC.cell cx) then
            .ok ⟨.one ⟨false, [.e (.int .i64 (Int.ofNat (Nat.min m len)))]⟩, [(id, some (spl row off (cs.take (Nat.min m len * size))))], n0⟩
          else .stuck
        | none => .stuck
      | _, _ => .stuck
    | none => .stuck
  | _ => .stuck
theorem dstX_is {s : SC} {id off len : Nat} {v : Value} (h : dstX s = some (id, off, len)) (hs : s.is ρ φ β v) : ∃ b n c, β id = some (b, n) ∧ v = .slice (some ⟨b, off, none⟩) len c := by
  unfold dstX at h
  split at h
  · simp only [Option.some.injEq, Prod.mk.injEq] at h
    obtain ⟨rfl, rfl, rfl⟩ := h
    obtain ⟨b, n, hb, rfl⟩ := hs
    exact ⟨b, n, _, hb, rfl⟩
  · simp only [Option.some.injEq, Prod.mk.injEq] at h
    obtain ⟨rfl, rfl, rfl⟩ := h
    obtain ⟨b, n, cap, hb, rfl, _⟩ := hs
    exact ⟨b, n, cap, hb, rfl⟩
  · exact absurd h (by simp)
theorem copyX_does (F : Fits cx.Γ cx.S ρ φ) (H : M ρ φ fx L B β a w) {t t' : TypeId} {s x : SC} {d : Out} {u v : Value} {o : Oper} (h : copyX cx B n0 t s x = .ok d) (hs : s.is ρ φ β u) (hx : x.is ρ φ β v)
    (ho : execOp a.eval o = (do pure (.value (← Builtin.copy_ #[t, t'] o.type #[u, v])))) : Does ρ φ cx.P fx B o a w β n0 d := by
  unfold copyX at h
  split at h
  · rename_i e hu
    split at h
    · rename_i ag size ht
      split at h
      · rename_i q hd hsrc
        obtain ⟨id, off, len⟩ := q
        split at h
        · have := vE_ok h
          subst this
          have hx : v = _ := hx
          subst hx
          obtain ⟨b, n, c, hb, rfl⟩ := dstX_is hd hs
          refine does_val (x := goInt (0 : Nat)) H.wld ?_ rfl
          rw [ho]
          simp [Builtin.copy_, run_underlying hu, Builtin.lenOf, (tyx_run ht _).2, Builtin.firstCells, E.den, storeCells]
        · exact absurd h (by simp)
      · rename_i id off len m cs hd hsrc
        split at h
        · rename_i row hr
          split at h
          · rename_i hcond
            rw [Bool.and_eq_true] at hcond
            have h1 := Nat.le_of_ble_eq_true hcond.1
            simp only [OR.ok.injEq] at h
            subst h
            obtain ⟨b, n, c, hb, rfl⟩ := dstX_is hd hs
            obtain ⟨ad, c', us, rfl, hul, hua, hcell⟩ := srcX_is H.wld hsrc hx
            obtain ⟨arr, T, g1, g2, g3, g4, g5⟩ := H.wld.rows hr hb
            have hta := hua.take (Nat.min m len * size)
            have htl := hta.length
            have hone : ∀ u ∈ us.take (Nat.min m len * size), u.oneCell' = true := by
              intro u hu
              obtain ⟨c', hc', hr⟩ := hta.mem hu
              exact SC.cell_one F (List.all_eq_true.1 hcond.2 c' hc') hr
            have hmin : Nat.min m len * size ≤ us.length := by
              rw [hul]
              exact Nat.mul_le_mul_right _ (Nat.min_le_left _ _)
            have hnl : (us.take (Nat.min m len * size)).length = Nat.min m len * size := by rw [List.length_take]; omega
            have hfirst := run_firstCells_some (P := cx.P) w size (Nat.min m len) ad m c' (us.take (Nat.min m len * size)) hnl (fun j v hv => by
              rw [List.getElem?_take] at hv
              split at hv
              · exact hcell j v hv
              · simp at hv)
            have hlen : off + 0 + (us.take (Nat.min m len * size)).length ≤ arr.size := by omega
            have hrun := run_storeCells_at cx.P b off T (us.take (Nat.min m len * size)) 0 arr w g2 hlen hone
            refine does_wrv (x := goInt (Nat.min m len : Nat)) H.wld hr hb g2 h1 hta (all_ne hcond.2) ?_ rfl
            rw [ho]
            simp only [Builtin.copy_, Builtin.lenOf, Sem.run_bind, Sem.run_pure]
            simp [run_underlying hu, (tyx_run ht _).2, hfirst, hrun, spl]
          · exact absurd h (by simp)
        · exact absurd h (by simp)
      · exact absurd h (by simp)
    · exact absurd h (by simp)
  · exact absurd h (by simp)
/-- An array's element. -/
def indexAggX (cx : Cx) (n0 : Nat) (t : TypeId) (v : SV) (i : E) : OR :=
  match v, natE i, cx.P.underlying t with
  | .one ⟨true, cs⟩, some k, some (.array m e) =>
    if Nat.blt k m then
      match tyx cx.P e with
      | some (true, n) => vV n0 (.one ⟨true, (cs.drop (k * n)).take n⟩)
      | some (false, n) => match cs[k * n]? with
        | some c => vC n0 c
        | none => .stuck
      | none => .stuck
    else .stuck
  | _, _, _ => .stuck
theorem indexAggX_run {t : TypeId} {v : SV} {i : E} {d : Out} {x : Value} (h : indexAggX cx n0 t v i = .ok d) (hv : v.is ρ φ β x) :
    Reads ρ φ β cx.P w n0 d (Instr.index t x (i.den ρ φ)) := by
  unfold indexAggX at h
  split at h
  · rename_i cs k m e hk hu
    obtain ⟨vs, rfl, ha⟩ := hv
    obtain ⟨kk, hk⟩ := natE_den (ρ := ρ) (φ := φ) hk
    split at h
    · rename_i hlt
      have hlt := blt_lt hlt
      have hin : (0 : Int) ≤ (k : Int) ∧ (k : Int) < (m : Int) := by omega
      split at h
      · rename_i n ht
        have := vV_ok h
        subst this
        refine ⟨rfl, rfl, .agg ((vs.drop (k * n)).take n).toArray, ?_, _, rfl, (ha.drop _).take n⟩
        simp only [Instr.index, hk, asIntOf, Sem.run_bind, Sem.run_pure, Result.andThen_ok, run_underlying hu, if_pos hin, Int.toNat_natCast, part, (tyx_run ht _).1, if_true, (tyx_run ht _).2]
        congr 2
        apply Array.ext'
        simp [List.take_drop, Nat.add_sub_cancel_left]
      · rename_i n ht
        split at h
        · rename_i c hc
          have := vC_ok h
          subst this
          obtain ⟨u, hu', hcu⟩ := ha.get hc
          refine ⟨rfl, rfl, u, ?_, hcu⟩
          simp only [Instr.index, hk, asIntOf, Sem.run_bind, Sem.run_pure, Result.andThen_ok, run_underlying hu, if_pos hin, Int.toNat_natCast]
          simp [part, (tyx_run ht _).1, (tyx_run ht _).2, hu']
        · exact absurd h (by simp)
      · exact absurd h (by simp)
    · exact absurd h (by simp)
  · exact absurd h (by simp)
/-- A part of a slice that is nil. -/
def zeroO : Option Nat → Bool
  | none => true
  | some n => Nat.beq n 0
def nilCutX (cx : Cx) (n0 : Nat) (t : TypeId) (x : E) (lo hi : Option E) : OR :=
  match x, litN lo, litN hi, cx.P.underlying t with
  | .val (.slice none 0 0), some l, some h, some (.slice e) => match tyx cx.P e with
    | some _ => if zeroO l && zeroO h then vC n0 (.e (.val (.slice none 0 0))) else .stuck
    | none => .stuck
  | _, _, _, _ => .stuck
theorem zeroO_get {o : Option Nat} (h : zeroO o = true) : o.getD 0 = 0 := by
  cases o with
  | none => rfl
  | some n => exact Nat.eq_of_beq_eq_true h
theorem nilCutX_run {t : TypeId} {x : E} {lo hi : Option E} {d : Out} (h : nilCutX cx n0 t x lo hi = .ok d) :
    Reads ρ φ β cx.P w n0 d (Instr.sliceAt t (x.den ρ φ) (lo.map (·.den ρ φ)) (hi.map (·.den ρ φ)) none) := by
  unfold nilCutX at h
  split at h
  · rename_i l hh e hl hhi hu
    split at h
    · rename_i q ht
      obtain ⟨ag, n⟩ := q
      split at h
      · rename_i hz
        rw [Bool.and_eq_true] at hz
        have := vC_ok h
        subst this
        have z1 := zeroO_get hz.1
        have z2 := zeroO_get hz.2
        have hb := bounds2 (cx := cx) (ρ := ρ) (φ := φ) (w := w) hl hhi true 0 0 (by omega) (by omega)
        rw [z1, z2] at hb
        refine ⟨rfl, rfl, .slice none 0 0, ?_, rfl⟩
        simp only [E.den, Instr.sliceAt, Instr.slice, Sem.run_bind, run_underlying hu, Result.andThen_ok, hb, (tyx_run ht _).2, Sem.run_pure]
        simp
      · exact absurd h (by simp)
    · exact absurd h (by simp)
  · exact absurd h (by simp)
/-- A literal byte. -/
def byteC : SC → Option UInt8
  | .e (.int .u8 (.ofNat n)) => if Nat.blt n 256 then some n.toUInt8 else none
  | .e (.val (.int .u8 (.ofNat n))) => if Nat.blt n 256 then some n.toUInt8 else none
  | _ => none
def bytesC : List SC → Option (List UInt8)
  | [] => some []
  | c :: cs => match byteC c, bytesC cs with
    | some b, some bs => some (b :: bs)
    | _, _ => none
/-- Bytes as a text. -/
def toStrX (cx : Cx) (B : BK) (n0 : Nat) (s d : TypeId) (c : SC) : OR :=
  match cx.P.underlying s, cx.P.underlying d with
  | some (.slice e), some .string => match cx.P.underlying e with
    | some (.int .u8) => match srcX B 1 c with
      | some (_, cs) => match bytesC cs with
        | some l => vE n0 (.val (.string ⟨l.toArray⟩))
        | none => .stuck
      | none => .stuck
    | _ => .stuck
  | _, _ => .stuck
theorem byte_nat {n : Nat} (h : Nat.blt n 256 = true) : n.toUInt8.toNat = n := by
  have := blt_lt h
  simp [Nat.toUInt8]
  omega
theorem byteC_is {c : SC} {b : UInt8} {v : Value} (h : byteC c = some b) (hc : c.is ρ φ β v) : v = .int .u8 (b.toNat : Int) := by
  unfold byteC at h
  split at h
  · rename_i n
    split at h
    · rename_i hn
      simp only [Option.some.injEq] at h
      subst h
      rw [byte_nat hn]
      exact hc
    · exact absurd h (by simp)
  · rename_i n
    split at h
    · rename_i hn
      simp only [Option.some.injEq] at h
      subst h
      rw [byte_nat hn]
      exact hc
    · exact absurd h (by simp)
  · exact absurd h (by simp)
theorem bytesC_is : ∀ {cs : List SC} {l : List UInt8} {us : List Value}, bytesC cs = some l → All2 (SC.is ρ φ β) cs us → us = l.map fun b => .int .u8 (b.toNat : Int)
  | [], l, us, h, ha => by
    simp only [bytesC, Option.some.injEq] at h
    subst h
    cases us with
    | nil => rfl
    | cons _ _ => exact ha.elim
  | c :: cs, l, us, h, ha => by
    cases us with
    | nil => exact ha.elim
    | cons u us =>
      simp only [bytesC] at h
      split at h
      · rename_i b bs hb hbs
        simp only [Option.some.injEq] at h
        subst h
        rw [byteC_is hb ha.1, bytesC_is hbs ha.2]
        rfl
      · exact absurd h (by simp)
theorem toStrX_run (H : W ρ φ fx B β w) {s d : TypeId} {c : SC} {o : Out} {v : Value} (h : toStrX cx B n0 s d c = .ok o) (hc : c.is ρ φ β v) :
    Reads ρ φ β cx.P w n0 o (convert s d v) := by
  unfold toStrX at h
  split at h
  · rename_i e hs hd
    split at h
    · rename_i he
      split at h
      · rename_i m cs hsrc
        split at h
        · rename_i l hl
          have := vE_ok h
          subst this
          obtain ⟨ad, cap, us, rfl, hul, hua, hcell⟩ := srcX_is H hsrc hc
          have hus := bytesC_is hl hua
          have hlen : l.length = m := by
            have := congrArg List.length hus
            simp only [List.length_map] at this
            omega
          subst hlen
          refine ⟨rfl, rfl, .string ⟨l.toArray⟩, ?_, rfl⟩
          exact run_convert_bytes_back w s d e ad cap l hs he hd (fun j hj => hcell j _ (by rw [hus, List.getElem?_map, List.getElem?_eq_getElem hj]; rfl))
        · exact absurd h (by simp)
      · exact absurd h (by simp)
    · exact absurd h (by simp)
  · exact absurd h (by simp)
end
end Go.CX
