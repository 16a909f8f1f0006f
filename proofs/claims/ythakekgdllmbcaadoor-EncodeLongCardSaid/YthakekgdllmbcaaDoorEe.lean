/- Layer 7: an instruction Nop put. -/
import Derived.Test.YthakekgdllmbcaaDoorEd
import Derived.Test.YthakekgdllmbcaaDoorRopc
import Derived.Deep.RegionHeld3
namespace Go.Proofs.YthakekgdllmbcaaDoor
open Go.RowKit Rp Go.Maps
open Cq (U64 I64 isW)
theorem parts_int : ∃ i z, Tryd.prog.info? 3 = some i ∧ i.zero = some z ∧ i.size = 1 ∧ i.bytes = 8 ∧ z.cells.size = 1 := by
  obtain ⟨i, hi, h1, h2, h3⟩ := info_parts (P := Tryd.prog) (e := 3) (z := .int .i64 0) (size := 1) (bytes := 8) (by kernel_rfl)
  exact ⟨i, _, hi, h1, h2, h3, rfl⟩
theorem tabs_low {w w' : World} (h : TabsA w) (hk : ∀ k, k < 2 → w'.heap[k]? = w.heap[k]?) : TabsA w' := by
  have g0 : Tryd.prog.globalNamed "calque/xenc.digits" = some 0 := by kernel_rfl
  have g1 : Tryd.prog.globalNamed "calque/xenc.singles" = some 1 := by kernel_rfl
  unfold TabsA Lib.TabIs World.var? at *
  rw [g0, g1] at *
  simp only [Option.bind_some] at h ⊢
  rw [hk _ (by decide), hk _ (by decide)]
  exact h
/-- An operation that yields its value in every world that meets the region's condition is taken first. -/
theorem held_take {P : Program} {ops : Array Oper} {md : Region.Mode} {Q : Exit → Act → World → Prop} {S : World → Prop} {i : Nat} {oi : Oper} {d : Option Tmp} {v : Value} {fuel : Nat} {listed : Array Bool} {a : Act} {w : World} (hi : ops[i]? = some oi) (hd : oi.dst = d)
    (hs : Region.noSelect ops = true) (hf : Region.free md ops listed i = true) (hr : (Region.ready md ops listed).contains i = true)
    (hQ : ∀ c a w, Q (.panic c) (a.put d v) w → Q (.panic c) a w) (hy : YieldsIf P ops S oi v a) (hS : S w)
    (h : wpAnyH P md ops Q S fuel (listed.setIfInBounds i true) (a.put d v) w) : wpAnyH P md ops Q S (fuel + 1) listed a w := by
  subst hd
  exact wpAnyH_take hi hs hf hr hQ hy hS h
def NopC (w : World) (b : Nat) : Prop := w.cell? ⟨b, 0, none⟩ = some (.int .i64 45) ∧ w.cell? ⟨b, 1, none⟩ = some (.int .i64 8) ∧ w.cell? ⟨b, 2, none⟩ = some (.int .i64 0) ∧ w.cell? ⟨b, 3, none⟩ = some (.int .i64 0) ∧ w.cell? ⟨b, 4, none⟩ = some (.int .i64 0) ∧ w.cell? ⟨b, 5, none⟩ = some (.int .i64 0) ∧ w.cell? ⟨b, 6, none⟩ = some (.int .i64 0) ∧ w.cell? ⟨b, 7, none⟩ = some (.int .i64 0) ∧ w.cell? ⟨b, 8, none⟩ = some (.int .i64 0) ∧ w.cell? ⟨b, 9, none⟩ = some (.int .i64 0) ∧ w.cell? ⟨b, 10, none⟩ = some (.int .i64 0) ∧ w.cell? ⟨b, 11, none⟩ = some (.int .i64 0) ∧ w.cell? ⟨b, 12, none⟩ = some (.int .i64 0) ∧ w.cell? ⟨b, 13, none⟩ = some (.int .i64 0) ∧ w.cell? ⟨b, 14, none⟩ = some (.int .i64 0) ∧ w.cell? ⟨b, 15, none⟩ = some (.int .i64 0) ∧ w.cell? ⟨b, 16, none⟩ = some (.int .i64 0) ∧ w.cell? ⟨b, 17, none⟩ = some (.bool false) ∧ w.cell? ⟨b, 18, none⟩ = some (.bool false) ∧ w.cell? ⟨b, 19, none⟩ = some (.int .i64 0)
theorem NopC.of {w : World} {b t : Nat} (h : Box w b t (nopV 0)) : NopC w b := ⟨h.cell 0, h.cell 1, h.cell 2, h.cell 3, h.cell 4, h.cell 5, h.cell 6, h.cell 7, h.cell 8, h.cell 9, h.cell 10, h.cell 11, h.cell 12, h.cell 13, h.cell 14, h.cell 15, h.cell 16, h.cell 17, h.cell 18, h.cell 19⟩
def FormC (w : World) (b : Nat) : Prop := w.cell? ⟨b, 0, none⟩ = some (.int .i64 144) ∧ w.cell? ⟨b, 1, none⟩ = some (.int .i64 0) ∧ w.cell? ⟨b, 2, none⟩ = some (.int .i64 0) ∧ w.cell? ⟨b, 3, none⟩ = some (.int .i64 0) ∧ w.cell? ⟨b, 4, none⟩ = some (.int .i64 0) ∧ w.cell? ⟨b, 5, none⟩ = some (.int .i64 0) ∧ w.cell? ⟨b, 6, none⟩ = some (.int .i64 0) ∧ w.cell? ⟨b, 7, none⟩ = some (.int .i64 0) ∧ w.cell? ⟨b, 8, none⟩ = some (.int .i64 0) ∧ w.cell? ⟨b, 9, none⟩ = some (.int .i64 0)
theorem FormC.of {w : World} {b t : Nat} (h : Box w b t formV) : FormC w b := ⟨h.cell 0, h.cell 1, h.cell 2, h.cell 3, h.cell 4, h.cell 5, h.cell 6, h.cell 7, h.cell 8, h.cell 9⟩
/-- What a put leaves: the writer, one byte and one start longer. -/
def PutV (B : Nat) (W : World) (wb g : Nat) (v : Value) (bs : List Int) (sv : Value) (k : Nat) (xs : List Value) (W' : World) : Prop :=
  ∃ v' sv', Wr B W' wb g v' (bs ++ [144]) sv' (k + 1) (xs ++ [.int .i64 bs.length]) ∧ Chg (MineW wb g v sv) W W' ∧ ∀ q, MineW wb g v' sv' q → MineW wb g v sv q ∨ W.heap.size ≤ q
set_option maxHeartbeats 4000000 in
set_option maxRecDepth 100000 in
theorem put_ok (B : Nat) (W : World) (hT : TabsA W) (wb g : Nat) (v : Value) (bs : List Int) (sv : Value) (k : Nat) (xs : List Value) (h : Wr B W wb g v bs sv k xs) (hB : B ≤ W.heap.size) (hB2 : 2 ≤ B) (hk : k ≤ 4096) (hl : bs.length ≤ 4096) :
    Calls Tryd.prog 16 #[.pointer (some ⟨wb, 0, none⟩), .agg (nopV 0).toArray] W fun e W' => e = .returned (.tuple #[]) ∧ PutV B W wb g v bs sv k xs W' := by
  obtain ⟨i0, z0, hi0, hz0, hz1, hz2, hz3⟩ := parts_int
  obtain ⟨A, sc, hsv⟩ : ∃ A c, sv = .slice A k c := by
    rcases h.own.2 with ⟨rfl, rfl⟩ | ⟨r, cap, cur, rfl, _⟩
    · exact ⟨none, 0, rfl⟩
    · exact ⟨_, _, rfl⟩
  subst hsv
  obtain ⟨w1, hw1⟩ : ∃ w1, w1 = W.alloc (.cells (nopV 0).toArray 28) := ⟨_, rfl⟩
  have hb1 : Below W.heap.size W w1 := by rw [hw1]; exact (Below.refl _ _).alloc (Nat.le_refl _) _
  have hx1 : Box w1 W.heap.size 28 (nopV 0) := by rw [hw1]; exact Box.fresh W _ _
  have h1 := h.below hb1
  have c0 := h1.box.cell 0
  have c1 := h1.box.cell 1
  have f1 := h1.box.frozen 1
  simp only [List.getElem?_cons_zero, List.getElem?_cons_succ] at c0 c1
  have HB1 := Lib.hid hb1
  have HX1 := Lib.hid hx1
  have HT' := Lib.hid hT
  have H0 := Lib.hid h
  have H1 := Lib.hid h1
  have HFAR : Hid ((Value.slice A k sc).ownBlock ≠ some wb) := h1.far
  have HLEN : Hid (∀ wd, wd = w1.drew → Calls Tryd.prog 17 #[.pointer (some ⟨g, 0, none⟩)] wd fun e W' => e = .returned (.int .i64 bs.length) ∧ wd = W') := by
    rintro wd rfl
    exact len_any (h1.st.chg (Chg.refl (fun _ => False) w1).drew (fun _ _ a => a))
  have hwlt := h1.box.lt
  have hs1 : w1.heap.size = W.heap.size + 1 := by rw [hw1]; simp
  have HS1 := Lib.hid hs1
  have hBw : B ≤ w1.heap.size := by have := HS1.out; omega
  clear h h1 hb1 hx1 hT hs1
  go_enter Tryd.func16, Tryd.ntmps16
  go_upto_region 1 with fail
  rw [← hw1]
  clear hw1
  go_region_law
    (first
      | (go_simp; go_at_call 17; refine (HLEN.out _ rfl).mono ?_; rintro e w4 ⟨rfl, rfl⟩; have z1 : ∀ o, (w1.drew.alloc o).cell? ⟨wb, 1, none⟩ = some (.slice A k sc) := fun o => by rw [World.cell?_alloc_past _ _ _ (show wb < w1.drew.heap.size from hwlt)]; exact c1)
      | (refine step_append_lies _ (by rfl) _ _ _ (by rfl) B 3 i0 _ 1 8 Tryd.underlying30 hi0 hz0 hz1 hz2 hz3 (by omega) (.slice A k sc) k xs (by rfl) ((H1.out.below ((Below.refl _ _).drew.alloc (Nat.le_refl _) _)).own)
          ⟨w1.heap.size, 0, none⟩ 1 1 [.int .i64 bs.length] (by rfl) (by rfl) (World.news_of_block (cs := #[.int .i64 bs.length]) (t := 3) (fr := (0, 0)) (heap_alloc_new w1.drew _)) (by simp [Value.oneCell'])
          (by omega) (by unfold maxLen; omega) (by omega) (by simp; omega) (w1.heap.size + 1) (by simp) ?_; intro gg cap w5 hown5 hgrow5 hat5 hlt5; have x1 : w5.cell? ⟨wb, 1, none⟩ = some (.slice A k sc) := (hgrow5.cell_far ⟨wb, 1, none⟩ (by simp; omega) (Ne.symm HFAR.out)).trans (z1 _); have x2 : w5.frozen? ⟨wb, 1, none⟩ = false := (hgrow5.frozen_far ⟨wb, 1, none⟩ (by simp; omega) (Ne.symm HFAR.out)).trans ((H1.out.below ((Below.refl _ _).drew.alloc (Nat.le_refl _) _)).box.frozen 1)))
  all_goals
    have HR : Hid (∃ sv', Wr B (w5.setCell ⟨wb, 1, none⟩ (.slice (some ⟨gg, 0, none⟩) (k + 1) cap)) wb g v bs sv' (k + 1) (xs ++ [.int .i64 bs.length]) ∧ Chg (MineW wb g v (.slice A k sc)) W (w5.setCell ⟨wb, 1, none⟩ (.slice (some ⟨gg, 0, none⟩) (k + 1) cap)) ∧ (∀ q, sv'.ownBlock = some q → (Value.slice A k sc).ownBlock = some q ∨ W.heap.size ≤ q) ∧ Box (w5.setCell ⟨wb, 1, none⟩ (.slice (some ⟨gg, 0, none⟩) (k + 1) cap)) W.heap.size 28 (nopV 0)) := by
      have hbb : Below W.heap.size W (w1.drew.alloc (.cells #[.int .i64 bs.length] 3)) := HB1.out.trans (((Below.refl _ _).drew.alloc (Nat.le_refl _) _).mono HB1.out.size)
      have hs := HS1.out
      obtain ⟨q1, q2, q3⟩ := H0.out.add hbb hown5 hgrow5 (hat5.imp id fun e => by omega)
      refine ⟨_, q1, q2, q3, ?_⟩
      have e1 : Box (w1.drew.alloc (.cells #[.int .i64 bs.length] 3)) W.heap.size 28 (nopV 0) := HX1.out.kept ((((Below.refl w1.heap.size w1).drew.alloc (Nat.le_refl _) _)).block _ HX1.out.lt)
      have e2 := e1.chg ((Chg.refl (fun q => (Value.slice A k sc).ownBlock = some q) _).grown hgrow5 (fun q e _ => e)) (fun e => by have := (H0.out.own.lt _ e).2; omega)
      exact e2.chg ((Chg.refl (fun q => q = wb) w5).setCell (p := ⟨wb, 1, none⟩) (fun _ => rfl) _) (fun e => by have := H0.out.box.lt; omega)
    clear hown5 hgrow5 hat5 hlt5 x1 x2 z1
    obtain ⟨w6, hw6⟩ : ∃ w6, w6 = w5.setCell ⟨wb, 1, none⟩ (.slice (some ⟨gg, 0, none⟩) (k + 1) cap) := ⟨_, rfl⟩
    rw [← hw6] at HR
    rw [← hw6]
    clear hw6
    obtain ⟨sv', hq1, hq2, hq3, hq4⟩ := HR.out
    have HQ1 := Lib.hid hq1
    have HQ2 := Lib.hid hq2
    have HQ3 := Lib.hid hq3
    have HRA : Hid (w6.rangeAt W.heap.size 0 (nopV 0)) := fun j u hu => by rw [Nat.zero_add, hq4.cell]; exact hu
    have HQ4 := Lib.hid hq4
    have HT6 : Hid (TabsA w6) := tabs_low HT'.out fun q hq => hq2.block q (by omega) (fun hm => by have := (H0.out.lt q hm).1; omega)
    clear hq1 hq2 hq3 hq4 HR
    go_wp2_with (refine wpList_load_mid (by rfl) 28 _ rfl W.heap.size 0 rfl (nopV 0) _ HRA.out Tryd.underlying28 rfl (by kernel_rfl) ?_)
    refine (form_nop _ HT6.out).mono ?_
    rintro e w7 ⟨rfl, hb7⟩
    have HB7 := Lib.hid hb7
    clear hb7
    go_upto_region 3 with (refine wpList_store_row rfl 64 _ _ rfl w7.heap.size formV.toArray rfl rfl 64 #[.int .i64 0, .int .i64 0, .int .i64 0, .int .i64 0, .int .i64 0, .int .i64 0, .int .i64 0, .int .i64 0, .int .i64 0, .int .i64 0] (heap_alloc_new w7 _) (by kernel_rfl) rfl (by kernel_rfl) ?_)
    obtain ⟨w8, hw8⟩ : ∃ w8, w8 = (w7.alloc (.cells #[.int .i64 0, .int .i64 0, .int .i64 0, .int .i64 0, .int .i64 0, .int .i64 0, .int .i64 0, .int .i64 0, .int .i64 0, .int .i64 0] 64)).setRow w7.heap.size formV.toArray := ⟨_, rfl⟩
    have hx8 : Box w8 w7.heap.size 64 formV := by
      rw [hw8]
      exact setRow_heap _ _ _ _ _ _ (heap_alloc_new w7 _)
    have hb8 : Below w7.heap.size w7 w8 := by
      rw [hw8]
      exact below_setRow ((Below.refl _ _).alloc (Nat.le_refl _) _) (Nat.le_refl _) _
    simp only [Act.put]
    rw [← hw8]
    clear hw8
    have hb68 : Below w6.heap.size w6 w8 := HB7.out.trans (hb8.mono HB7.out.size)
    have HB68 := Lib.hid hb68
    have HX8 := Lib.hid hx8
    have HQ48 := Lib.hid (HQ4.out.kept (hb68.block _ HQ4.out.lt))
    have HSK : Hid (∀ w' : World, Below w8.heap.size w8 w' → w'.rangeAt W.heap.size 0 (nopV 0) ∧ w'.rangeAt w7.heap.size 0 formV ∧ Below w8.heap.size w8 w') := fun w' hk => ⟨fun j u hu => by rw [Nat.zero_add, (HQ48.out.kept (hk.block _ HQ48.out.lt)).cell]; exact hu, fun j u hu => by rw [Nat.zero_add, (HX8.out.kept (hk.block _ HX8.out.lt)).cell]; exact hu, hk⟩
    clear hx8 hb8 hb68
    refine wp_region_held_drew (S := fun w' => w'.rangeAt W.heap.size 0 (nopV 0) ∧ w'.rangeAt w7.heap.size 0 formV ∧ Below w8.heap.size w8 w') (by kernel_rfl) (HSK.out _ (Below.refl _ _).drew) (fun hHeld => ?_)
    refine held_take (i := 0) (d := some 21) (v := .pointer (some ⟨wb, 0, none⟩)) rfl rfl (by kernel_rfl) (by kernel_rfl) (by kernel_rfl) (fun _ _ _ h => h) (Or.inl ⟨by rfl, fun w _ => by go_simp⟩) hHeld ?_
    (try simp only [Act.put, List.setIfInBounds_toArray, List.set_cons_zero, List.set_cons_succ])
    refine held_take (i := 1) (d := some 22) (v := .agg (nopV 0).toArray) rfl rfl (by kernel_rfl) (by kernel_rfl) (by kernel_rfl) (fun _ _ _ h => h) (yieldsIf_load_mid (by rfl) 28 _ rfl W.heap.size 0 rfl (nopV 0) _ (fun w h => h.1) Tryd.underlying28 rfl (by kernel_rfl)) hHeld ?_
    (try simp only [Act.put, List.setIfInBounds_toArray, List.set_cons_zero, List.set_cons_succ])
    refine held_take (i := 2) (d := some 23) (v := .agg formV.toArray) rfl rfl (by kernel_rfl) (by kernel_rfl) (by kernel_rfl) (fun _ _ _ h => h) (yieldsIf_load_mid (by rfl) 64 _ rfl w7.heap.size 0 rfl formV _ (fun w h => h.2.1) Tryd.underlying64 rfl (by kernel_rfl)) hHeld ?_
    (try simp only [Act.put, List.setIfInBounds_toArray, List.set_cons_zero, List.set_cons_succ])
    refine held_take (i := 3) (d := some 24) (v := .agg (nopV 0).toArray) rfl rfl (by kernel_rfl) (by kernel_rfl) (by kernel_rfl) (fun _ _ _ h => h) (yieldsIf_load_mid (by rfl) 28 _ rfl W.heap.size 0 rfl (nopV 0) _ (fun w h => h.1) Tryd.underlying28 rfl (by kernel_rfl)) hHeld ?_
    (try simp only [Act.put, List.setIfInBounds_toArray, List.set_cons_zero, List.set_cons_succ])
    refine wpAnyH_ready (rs := [4]) (by kernel_rfl) (by simp) ?_
    refine AllReadyH.cons rfl (fun K hK => ?_) AllReadyH.nil
    go_simp
    go_at_call 32
    refine (rex_nop _).mono ?_
    rintro e w9 ⟨rfl, hb9⟩
    refine hK.out _ _ (HSK.out _ ((Below.refl _ w8).drew.trans hb9)) (fun hHeld9 => ?_)
    clear hK K
    (try simp only [Act.put, List.setIfInBounds_toArray, List.set_cons_zero, List.set_cons_succ])
    refine wpAnyH_ready (rs := [5]) (by kernel_rfl) (by simp) ?_
    refine AllReadyH.cons rfl (fun K hK => ?_) AllReadyH.nil
    go_simp
    go_at_call 31
    refine (before_nop _ _).mono ?_
    rintro e w10 ⟨rfl, hb10⟩
    refine hK.out _ _ (HSK.out _ ((Below.refl _ w8).drew.trans (hb9.trans (hb10.mono hb9.size)))) (fun hHeldA => ?_)
    clear hK K
    (try simp only [Act.put, List.setIfInBounds_toArray, List.set_cons_zero, List.set_cons_succ])
    refine wpAnyH_done (by kernel_rfl) ?_ _
    have m0 : w10.cell? ⟨w7.heap.size, 0, none⟩ = some (.int .i64 144) := by have := hHeldA.2.1 0 _ rfl; exact this
    have m1 : w10.cell? ⟨w7.heap.size, 1, none⟩ = some (.int .i64 0) := by have := hHeldA.2.1 1 _ rfl; exact this
    have hk10 : Below w6.heap.size w6 w10 := HB68.out.trans (hHeldA.2.2.mono HB68.out.size)
    have hq10 := HQ1.out.below hk10
    have HK10 := Lib.hid hk10
    have HQ10 := Lib.hid hq10
    have HHA := Lib.hid hHeldA
    have HB10 : Hid (B ≤ w10.heap.size) := Nat.le_trans (Nat.le_of_lt (HQ10.out.lt wb (.inl rfl)).2 |> Nat.le_trans HQ10.out.low) (Nat.le_refl _)
    have HLL : Hid (bs.length + 1 ≤ 1048576) := by show bs.length + 1 ≤ 1048576; omega
    clear hHeld hHeld9 hHeldA hk10 hq10 hb9 hb10
    go_wp2_with fail
    refine (code_ok B _ g v bs HQ10.out.st HB10.out wb sv' HQ10.out.box HQ10.out.apart HLL.out).mono ?_
    rintro e w11 ⟨rfl, v', hg11⟩
    have HG11 := Lib.hid hg11
    have hlt7 : w7.heap.size < w10.heap.size := Nat.lt_of_lt_of_le HX8.out.lt HHA.out.2.2.size
    have hn7 : ¬ Mine g v w7.heap.size := fun hm => by
      have := (HQ1.out.st.mine_lt _ hm).2
      have := HB7.out.size
      omega
    have m3 : w11.cell? ⟨w7.heap.size, 3, none⟩ = some (.int .i64 0) := by
      rw [World.cell?_of_block (hg11.chg.block _ hlt7 hn7)]
      have := HHA.out.2.1 3 _ rfl
      exact this
    have m9 : w11.cell? ⟨w7.heap.size, 9, none⟩ = some (.int .i64 0) := by
      rw [World.cell?_of_block (hg11.chg.block _ hlt7 hn7)]
      have := HHA.out.2.1 9 _ rfl
      exact this
    clear hlt7 hn7
    clear hg11 m0 m1
    go_wp2_with fail
    go_end0
    refine ⟨rfl, v', sv', HQ10.out.grw HG11.out, ?_, fun q hq => ?_⟩
    · exact ((HQ2.out.thenBelow HK10.out).trans HG11.out.chg (fun q _ e => .inr (.inl e)))
    · have hsz : W.heap.size ≤ w10.heap.size := Nat.le_trans HQ2.out.size HK10.out.size
      rcases hq with e | (e | e) | e
      · exact .inl (.inl e)
      · exact .inl (.inr (.inl (.inl e)))
      · rcases HG11.out.own q e with e | e
        · exact .inl (.inr (.inl (.inr e)))
        · exact .inr (by omega)
      · rcases HQ3.out q e with e | e
        · exact .inl (.inr (.inr e))
        · exact .inr e
end Go.Proofs.YthakekgdllmbcaaDoor
