/- Layer 21: the document's Decode, by contract. -/
import Derived.Test.YtclhmilecdjbiaaDoorQyc0
import Derived.Test.YtclhmilecdjbiaaDoorQyc1
import Derived.Test.YtclhmilecdjbiaaDoorQyc2
namespace Go.Proofs.YtclhmilecdjbiaaDoor
open Go Go.Proofs Go.RowKit Go.CX Go.SX Go.CX.A64
theorem tops_in (k : Nat) (h1 : 1 ≤ k) (h2 : k ≤ 47) : topR k = true := by
  have : k = 1 ∨ k = 2 ∨ k = 3 ∨ k = 4 ∨ k = 5 ∨ k = 6 ∨ k = 7 ∨ k = 8 ∨ k = 9 ∨ k = 10 ∨ k = 11 ∨ k = 12 ∨ k = 13 ∨ k = 14 ∨ k = 15 ∨ k = 16 ∨ k = 17 ∨ k = 18 ∨ k = 19 ∨ k = 20 ∨ k = 21 ∨ k = 22 ∨ k = 23 ∨ k = 24 ∨ k = 25 ∨ k = 26 ∨ k = 27 ∨ k = 28 ∨ k = 29 ∨ k = 30 ∨ k = 31 ∨ k = 32 ∨ k = 33 ∨ k = 34 ∨ k = 35 ∨ k = 36 ∨ k = 37 ∨ k = 38 ∨ k = 39 ∨ k = 40 ∨ k = 41 ∨ k = 42 ∨ k = 43 ∨ k = 44 ∨ k = 45 ∨ k = 46 ∨ k = 47 := by omega
  rcases this with rfl | rfl | rfl | rfl | rfl | rfl | rfl | rfl | rfl | rfl | rfl | rfl | rfl | rfl | rfl | rfl | rfl | rfl | rfl | rfl | rfl | rfl | rfl | rfl | rfl | rfl | rfl | rfl | rfl | rfl | rfl | rfl | rfl | rfl | rfl | rfl | rfl | rfl | rfl | rfl | rfl | rfl | rfl | rfl | rfl | rfl | rfl
  · exact top_1
  · exact top_2
  · exact top_3
  · exact top_4
  · exact top_5
  · exact top_6
  · exact top_7
  · exact top_8
  · exact top_9
  · exact top_10
  · exact top_11
  · exact top_12
  · exact top_13
  · exact top_14
  · exact top_15
  · exact top_16
  · exact top_17
  · exact top_18
  · exact top_19
  · exact top_20
  · exact top_21
  · exact top_22
  · exact top_23
  · exact top_24
  · exact top_25
  · exact top_26
  · exact top_27
  · exact top_28
  · exact top_29
  · exact top_30
  · exact top_31
  · exact top_32
  · exact top_33
  · exact top_34
  · exact top_35
  · exact top_36
  · exact top_37
  · exact top_38
  · exact top_39
  · exact top_40
  · exact top_41
  · exact top_42
  · exact top_43
  · exact top_44
  · exact top_45
  · exact top_46
  · exact top_47
theorem decs_in (k : Nat) (h1 : 1 ≤ k) (h2 : k ≤ 48) : decR k = true := by
  have : k = 1 ∨ k = 2 ∨ k = 3 ∨ k = 4 ∨ k = 5 ∨ k = 6 ∨ k = 7 ∨ k = 8 ∨ k = 9 ∨ k = 10 ∨ k = 11 ∨ k = 12 ∨ k = 13 ∨ k = 14 ∨ k = 15 ∨ k = 16 ∨ k = 17 ∨ k = 18 ∨ k = 19 ∨ k = 20 ∨ k = 21 ∨ k = 22 ∨ k = 23 ∨ k = 24 ∨ k = 25 ∨ k = 26 ∨ k = 27 ∨ k = 28 ∨ k = 29 ∨ k = 30 ∨ k = 31 ∨ k = 32 ∨ k = 33 ∨ k = 34 ∨ k = 35 ∨ k = 36 ∨ k = 37 ∨ k = 38 ∨ k = 39 ∨ k = 40 ∨ k = 41 ∨ k = 42 ∨ k = 43 ∨ k = 44 ∨ k = 45 ∨ k = 46 ∨ k = 47 ∨ k = 48 := by omega
  rcases this with rfl | rfl | rfl | rfl | rfl | rfl | rfl | rfl | rfl | rfl | rfl | rfl | rfl | rfl | rfl | rfl | rfl | rfl | rfl | rfl | rfl | rfl | rfl | rfl | rfl | rfl | rfl | rfl | rfl | rfl | rfl | rfl | rfl | rfl | rfl | rfl | rfl | rfl | rfl | rfl | rfl | rfl | rfl | rfl | rfl | rfl | rfl | rfl
  · exact dec_1
  · exact dec_2
  · exact dec_3
  · exact dec_4
  · exact dec_5
  · exact dec_6
  · exact dec_7
  · exact dec_8
  · exact dec_9
  · exact dec_10
  · exact dec_11
  · exact dec_12
  · exact dec_13
  · exact dec_14
  · exact dec_15
  · exact dec_16
  · exact dec_17
  · exact dec_18
  · exact dec_19
  · exact dec_20
  · exact dec_21
  · exact dec_22
  · exact dec_23
  · exact dec_24
  · exact dec_25
  · exact dec_26
  · exact dec_27
  · exact dec_28
  · exact dec_29
  · exact dec_30
  · exact dec_31
  · exact dec_32
  · exact dec_33
  · exact dec_34
  · exact dec_35
  · exact dec_36
  · exact dec_37
  · exact dec_38
  · exact dec_39
  · exact dec_40
  · exact dec_41
  · exact dec_42
  · exact dec_43
  · exact dec_44
  · exact dec_45
  · exact dec_46
  · exact dec_47
  · exact dec_48
theorem takeS_ok {V : Nat} (hV : V < 4294967296) {op : Nat} (h1 : 1 ≤ op) (h47 : op ≤ 47) : TakeP op V (takeS op V) := take_ok tops_in hV h1 h47
theorem opx_den {ρ : Nat → Value} {k V : Nat} {x : E} (hx : x.den ρ phR = .int .u32 (V : Int)) : E.dens ρ phR (opx (A64.i64E k) x) = [.int .i64 (Int.ofNat k), .int .u32 (V : Int)] := by
  unfold opx
  rw [toL_dens]
  show [Value.int .i64 (Int.ofNat k), x.den ρ phR] = _
  rw [hx]
theorem near_den {ρ : Nat → Value} {k V : Nat} {x : E} (hx : x.den ρ phR = .int .u32 (V : Int)) : (E.app 20 0 (opx (A64.i64E k) x)).den ρ phR = .bool (nearS k V) := by
  show (phR 20 (E.dens ρ phR (opx (A64.i64E k) x))).getD 0 undef = _
  rw [opx_den hx]
  show Value.bool (nearS (Int.ofNat k).toNat (V : Int).toNat) = _
  rw [Int.toNat_natCast]; rfl
theorem take_den {ρ : Nat → Value} {k V : Nat} {x : E} (hx : x.den ρ phR = .int .u32 (V : Int)) : (takeE k x).map (·.den ρ phR) = takeS k V := by
  have one : ∀ j, (E.app 21 j (opx (A64.i64E k) x)).den ρ phR = (takeS k V).getD j undef := by
    intro j
    show (phR 21 (E.dens ρ phR (opx (A64.i64E k) x))).getD j undef = _
    rw [opx_den hx]
    show (takeS (Int.ofNat k).toNat (V : Int).toNat).getD j undef = _
    rw [Int.toNat_natCast]; rfl
  have key : (takeE k x).map (·.den ρ phR) = (List.range 11).map fun j => (takeS k V).getD j undef := by
    unfold takeE
    rw [List.map_map]
    exact List.map_congr_left fun j _ => one j
  rw [key]
  obtain ⟨o, w, a, b, c, d, v, e, f, g, hh, he⟩ := cells11 (takeS_has k V)
  rw [he]; rfl
theorem nearX_ok {ws : Base} : ExtOk ws cxR phR nearX := by
  intro g svs B n fs d h ρ β w xs N F hf hW hnn ha
  unfold nearX at h
  split at h
  · rename_i he
    have he := Nat.eq_of_beq_eq_true he
    subst he
    split at h
    · rename_i k x
      split at h
      · rename_i hc
        simp only [Bool.and_eq_true] at hc
        simp only [Option.some.injEq, CX.OR.ok.injEq] at h
        subst h
        obtain ⟨m, hm, m0, m1⟩ := so_num F (so_eq hc.2)
        obtain ⟨V, rfl⟩ := Int.eq_ofNat_of_zero_le (show 0 ≤ m from m0)
        have m1 : (V : Int) ≤ 4294967295 := m1
        match xs, ha with
        | [v, u], ha =>
          have hv : v = .int .i64 (Int.ofNat k) := ha.1
          have hu : u = x.den ρ phR := ha.2.1
          rw [hm] at hu
          subst hv hu
          refine ⟨enters Tryd.func44 (c := Tryd.f44.body.getD .skip) (by kernel_rfl) (by kernel_rfl) _ _, Calls.mono ((near_ok (V := V) (by omega) (Nat.le_of_ble_eq_true hc.1.1) (Nat.le_of_ble_eq_true hc.1.2)).1 w) ?_⟩
          rintro e w' ⟨rfl, hb⟩
          exact ⟨_, β, rfl, Ext.refl _, Newer.refl _ _ _, hW.grow hb, (near_den hm).symm⟩
      · exact absurd h (by simp)
    · exact absurd h (by simp)
  · exact absurd h (by simp)
theorem es_is {ρ : Nat → Value} {φ : Nat → List Value → List Value} {β : CX.Bk} : ∀ {es : List E} {vs : List Value}, es.map (·.den ρ φ) = vs → All2 (CX.SC.is ρ φ β) (es.map .e) vs
  | [], _, h => by subst h; trivial
  | e :: es, _, h => by subst h; exact ⟨rfl, es_is rfl⟩
theorem takeX_ok {ws : Base} : ExtOk ws cxR phR takeX := by
  intro g svs B n fs d h ρ β w xs N F hf hW hnn ha
  unfold takeX at h
  split at h
  · rename_i he
    have he := Nat.eq_of_beq_eq_true he
    subst he
    split at h
    · rename_i k x
      split at h
      · rename_i hc
        simp only [Bool.and_eq_true] at hc
        simp only [Option.some.injEq, CX.OR.ok.injEq] at h
        subst h
        obtain ⟨m, hm, m0, m1⟩ := so_num F (so_eq hc.2)
        obtain ⟨V, rfl⟩ := Int.eq_ofNat_of_zero_le (show 0 ≤ m from m0)
        have m1 : (V : Int) ≤ 4294967295 := m1
        match xs, ha with
        | [v, u], ha =>
          have hv : v = .int .i64 (Int.ofNat k) := ha.1
          have hu : u = x.den ρ phR := ha.2.1
          rw [hm] at hu
          subst hv hu
          refine ⟨enters Tryd.func45 (c := Tryd.f45.body.getD .skip) (by kernel_rfl) (by kernel_rfl) _ _, Calls.mono ((takeS_ok (V := V) (by omega) (Nat.le_of_ble_eq_true hc.1.1) (Nat.le_of_ble_eq_true hc.1.2)).1 w) ?_⟩
          rintro e w' ⟨rfl, hb⟩
          exact ⟨_, β, rfl, Ext.refl _, Newer.refl _ _ _, hW.grow hb, takeS k V, rfl, es_is (take_den hm)⟩
      · exact absurd h (by simp)
    · exact absurd h (by simp)
  · exact absurd h (by simp)
theorem extR_ok {w : World} (h : TabsA w) : ExtOk ⟨w, []⟩ cxR phR extR := by
  refine orX_ok (orX_ok (conX_okW ⟨enters_rmay, ?_⟩) nearX_ok) (orX_ok takeX_ok (sideX_ok (yV := fun fl => (phR 10 fl).getD 0 undef) (nV := fun _ => undef) (enters Tryd.func16 (c := Tryd.f16.body.getD .skip) (by kernel_rfl) (by kernel_rfl)) ⟨?_, ?_⟩ ⟨?_, ?_⟩))
  · intro w' xs fl hb hp
    obtain ⟨x, rfl, rfl, hs⟩ := pack1 hp
    exact (may_any hs w' (h.same hb)).2
  · intro es v hv ρ β
    cases hv
    show (phR 10 _).getD 0 undef = (phR 10 (E.dens ρ phR (toL es))).getD 0 undef
    rw [toL_dens]
  · intro _ w' xs fl hb hp hq
    obtain ⟨x, rfl, rfl, hs⟩ := pack1 hp
    have hq : Value.bool (okB fl) = .bool true := hq
    obtain ⟨op, m, his⟩ := okB_iff.1 (Value.bool.inj hq)
    show Calls _ _ _ _ fun e w'' => e = .returned (.int .u32 (w32O fl)) ∧ _
    rw [w32O_is hs his]
    exact rencode_yes hs his w' (h.same hb)
  · intro es v hv; cases hv
  · rintro ⟨es, v, hv⟩; cases hv
theorem miss_hold {V j : Nat} (hV : V < 4294967296) (h1 : 1 ≤ j) (h47 : j ≤ 47) (hno : ¬ Mw j V) : (missF j).1.den (rhoE (vsW V)) phR = .bool (missF j).2 := by
  have hT := takeS_ok hV h1 h47
  have hx : (E.var 0).den (rhoE (vsW V)) phR = .int .u32 (V : Int) := rhoW V
  have hd := take_den (k := j) hx
  show (if vbool ((phR 9 (E.dens (rhoE (vsW V)) phR (toL (takeE j (.var 0))))).getD 0 undef) then Value.bool (vint ((phR 10 (E.dens (rhoE (vsW V)) phR (toL (takeE j (.var 0))))).getD 0 undef) == vint (rhoE (vsW V) 0)) else .bool false) = .bool false
  rw [toL_dens, hd]
  show (if okB (takeS j V) then Value.bool (w32O (takeS j V) == (V : Int)) else .bool false) = .bool false
  cases hk : okB (takeS j V)
  · rfl
  · rw [if_pos rfl]
    congr 1
    rw [beq_eq_false_iff_ne]
    intro e
    obtain ⟨op, m, his⟩ := okB_iff.1 hk
    rw [w32O_is hT.2.1 his] at e
    have hop := nat_eq (hT.2.2.1.symm.trans his.2.1.1)
    subst hop
    exact hno ⟨_, m, hT.2.1, his, e, hV⟩
theorem wd_one {fl fl' : List Value} {op m op' m' V : Nat} (h : Wd fl op m V) (h' : Wd fl' op' m' V) : fl = fl' ∧ op = op' := by
  have e := word_inj h.hs h'.hs h.is h'.is (h.eq.trans h'.eq.symm)
  subst e
  exact ⟨rfl, (mt_one h.is.2.1 h'.is.2.1).1⟩
theorem rdec_ends {V hit : Nat} (hV : V < 4294967296) (h1 : 1 ≤ hit) (h48 : hit ≤ 48) (hmiss : ∀ j, 1 ≤ j → j < hit → ¬ Mw j V) (hhit : hit ≤ 47 → Mw hit V) (w : World) (hT : TabsA w) :
    Calls Tryd.prog 22 #[.int .u32 (V : Int)] w fun e w' => e = .returned (.tuple #[.agg (if hit ≤ 47 then takeS hit V else zeroL).toArray, .bool (decide (hit ≤ 47))]) ∧ Below w.heap.size w w' := by
  have hx : (E.var 0).den (rhoE (vsW V)) phR = .int .u32 (V : Int) := rhoW V
  have hf : Facts.hold (rhoE (vsW V)) phR (factsR hit) := by
    intro p hp
    unfold factsR at hp
    rcases List.mem_append.1 hp with hp | hp
    · obtain ⟨j, hj, rfl⟩ := List.mem_map.1 hp
      have hj := List.mem_range.1 hj
      exact miss_hold hV (by omega) (by omega) (hmiss (j + 1) (by omega) (by omega))
    · split at hp
      · rename_i hb
        have h47 := Nat.le_of_ble_eq_true hb
        have hM := hhit h47
        have hTk := takeS_ok hV h1 h47
        obtain ⟨m, hW⟩ := hTk.2.2.2 hM
        simp only [List.mem_cons, List.not_mem_nil, or_false] at hp
        rcases hp with rfl | rfl | rfl
        · rw [near_den hx, (near_ok hV h1 h47).2 hM]
        · show (phR 9 (E.dens (rhoE (vsW V)) phR (toL (takeE hit (.var 0))))).getD 0 undef = .bool true
          rw [toL_dens, take_den hx]
          show Value.bool (okB (takeS hit V)) = .bool true
          rw [okB_yes ⟨_, _, hW.is⟩]
        · show Value.bool (vint ((phR 10 (E.dens (rhoE (vsW V)) phR (toL (takeE hit (.var 0))))).getD 0 undef) == vint (rhoE (vsW V) 0)) = .bool true
          rw [toL_dens, take_den hx]
          show Value.bool (w32O (takeS hit V) == (V : Int)) = .bool true
          rw [w32O_is hW.hs hW.is, hW.eq]
          simp
      · simp at hp
  obtain ⟨v, fs', g1, g2, g3⟩ := endsC_ok (cx := cxR) rfl (namesOk_spec names_ok) (fitsR hV) hf (args := [argW]) (xs := [.int .u32 (V : Int)]) ⟨rfl, trivial⟩ (decs_in hit h1 h48)
  unfold decK2 at g2
  split at g2
  · rename_i cs b
    split at g2
    · rename_i es hes
      rw [Bool.and_eq_true] at g2
      have he := eqEs_eq g2.1
      have hb : b = Nat.ble hit 47 := by simpa using g2.2
      refine Calls.mono (g3 w (fun v hv => by simp [cxR] at hv) (extR_ok hT)) ?_
      rintro e w' ⟨y, β', rfl, ⟨vs, rfl, hvs⟩, hbl⟩
      match vs, hvs with
      | [y1, y2], ⟨⟨us, k1, k2⟩, k3, _⟩ =>
        have k3 : y2 = .bool b := k3
        have hus := all2_dens hes k2
        rw [he] at hus
        by_cases h47 : hit ≤ 47
        · have hbl2 : Nat.ble hit 47 = true := Nat.ble_eq_true_of_le h47
          rw [hbl2, if_pos rfl, take_den hx] at hus
          rw [k1, k3, hus, hb, hbl2, if_pos h47, decide_eq_true h47]
          exact ⟨rfl, hbl⟩
        · have hbl2 : Nat.ble hit 47 = false := by
            cases hq : Nat.ble hit 47
            · rfl
            · exact absurd (Nat.le_of_ble_eq_true hq) h47
          rw [hbl2] at hus
          have hus : us = zeroL := hus
          rw [k1, k3, hus, hb, hbl2, if_neg h47, decide_eq_false h47]
          exact ⟨rfl, hbl⟩
    · cases g2
  · cases g2
theorem rdecode_yes {fl : List Value} {op m V : Nat} (h : Wd fl op m V) (w : World) (hT : TabsA w) : Calls Tryd.prog 22 #[.int .u32 (V : Int)] w fun e w' => e = .returned (.tuple #[.agg fl.toArray, .bool true]) ∧ Below w.heap.size w w' := by
  have hin := insts_in _ h.is.1
  have h1 : 1 ≤ op := hin.1
  have h47 : op ≤ 47 := hin.2.1
  have hr := rdec_ends h.lt h1 (by omega) (fun j _ hj hM => by obtain ⟨fl', m', h'⟩ := hM; have := (wd_one h h').2; omega) (fun _ => ⟨fl, m, h⟩) w hT
  obtain ⟨m', h'⟩ := (takeS_ok h.lt h1 h47).2.2.2 ⟨fl, m, h⟩
  rw [if_pos h47, decide_eq_true h47, ← (wd_one h h').1] at hr
  exact hr
theorem rdecode_no {V : Nat} (hV : V < 4294967296) (h : ∀ op, ¬ Mw op V) (w : World) (hT : TabsA w) : Calls Tryd.prog 22 #[.int .u32 (V : Int)] w fun e w' => e = .returned (.tuple #[.agg zeroL.toArray, .bool false]) ∧ Below w.heap.size w w' :=
  rdec_ends (hit := 48) hV (by decide) (by decide) (fun j _ _ => h j) (fun hh => absurd hh (by decide)) w hT
end Go.Proofs.YtclhmilecdjbiaaDoor
