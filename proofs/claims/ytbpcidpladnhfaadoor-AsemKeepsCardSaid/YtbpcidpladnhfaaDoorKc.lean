/- Layer 22: what an instruction leaves as it was: the law. -/
import Derived.Test.YtbpcidpladnhfaaDoorKb0
import Derived.Test.YtbpcidpladnhfaaDoorKb1
import Derived.Test.YtbpcidpladnhfaaDoorKb2
import Derived.Test.YtbpcidpladnhfaaDoorKb3
import Derived.Test.YtbpcidpladnhfaaDoorKb4
import Derived.Test.YtbpcidpladnhfaaDoorKb5
import Derived.Test.YtbpcidpladnhfaaDoorKb7
namespace Go.Proofs.YtbpcidpladnhfaaDoor
open Go Go.Proofs Go.RowKit Go.CX Go.SX Go.CX.Cp
/-- Whether any operation writes D. -/
def deI (o : Int) : Bool := if 1 ≤ o ∧ o ≤ 47 then deB o.toNat else false
noncomputable def cxH : Cx := ⟨Tryd.prog, [.int .i64], [], [], []⟩
noncomputable def hasOut (fs : Facts) : Bool := endsC cxH ext0 300 0 10 [.one ⟨false, [.e (.var 0)]⟩, .one ⟨false, [.e (.val (strOf [100, 101]))]⟩] 60 fs fun _ v => match v with
  | .one ⟨false, [.e (.bool false)]⟩ => true
  | _ => false
set_option maxRecDepth 100000
theorem has_less : hasOut [(.cmp .lss (.var 0) (.int .i64 1), true)] = true := by kernel_rfl
theorem has_more : hasOut [(.cmp .lss (.int .i64 47) (.var 0), true)] = true := by kernel_rfl
theorem hasOut_ok {o : Int} (h : -9223372036854775808 ≤ o ∧ o ≤ 9223372036854775807) {fs : Facts} (hf : fs.hold (fun _ => .int .i64 o) fun _ _ => []) (hr : hasOut fs = true) (w : World) : Calls Tryd.prog 10 #[.int .i64 o, strOf [100, 101]] w fun e w' => e = .returned (.bool false) ∧ Below w.heap.size w w' := by
  have F : Fits cxH.Γ cxH.S (fun _ => .int .i64 o) (fun _ _ => []) := ⟨fun i => by
    cases i with
    | zero => exact ⟨o, rfl, h.1, h.2⟩
    | succ i => exact trivial, fun f j args => by simp [cxH, Cx.S, symS, lookA, So.has]⟩
  obtain ⟨v, fs', h1, h2, h3⟩ := endsC_ok (cx := cxH) rfl (namesOk_spec names_ok) F hf (args := [.one ⟨false, [.e (.var 0)]⟩, .one ⟨false, [.e (.val (strOf [100, 101]))]⟩]) (xs := [.int .i64 o, strOf [100, 101]]) ⟨rfl, rfl, trivial⟩ hr
  refine Calls.mono (h3 w (fun v hv => by simp [cxH] at hv) (ext0_ok _ _ _)) ?_
  rintro e w' ⟨x, β', rfl, hx, hb⟩
  split at h2
  · have hx : x = .bool false := hx
    exact ⟨by rw [hx], hb⟩
  · cases h2
theorem has_de {o : Int} (h : -9223372036854775808 ≤ o ∧ o ≤ 9223372036854775807) (w : World) : Calls Tryd.prog 10 #[.int .i64 o, strOf [100, 101]] w fun e w' => e = .returned (.bool (deI o)) ∧ Below w.heap.size w w' := by
  unfold deI
  by_cases h1 : o < 1
  · rw [if_neg (by omega)]
    exact hasOut_ok h (fun p hp => by rw [List.mem_singleton.1 hp]; exact dTrue h1) has_less w
  · by_cases h2 : 47 < o
    · rw [if_neg (by omega)]
      exact hasOut_ok h (fun p hp => by rw [List.mem_singleton.1 hp]; exact dTrue h2) has_more w
    · rw [if_pos (by omega)]
      obtain ⟨k, rfl⟩ := Int.eq_ofNat_of_zero_le (show 0 ≤ o by omega)
      exact has_any k [100, 101] (by omega) (by omega) (by decide) w
noncomputable def phK (f : Nat) (fl : List Value) : List Value := match f with
  | 8 => [.bool (deI (vint (fl.getD 0 undef)))]
  | 9 => [.bool (okB fl)]
  | _ => []
theorem fitK : ∀ f j args, (symS syK f j).has ((phK f args).getD j undef) := by
  intro f j args
  have none : ∀ {f : Nat}, lookA f syK = none → (symS syK f j).has ((phK f args).getD j undef) := by
    intro f h
    unfold symS
    rw [h]; exact trivial
  match f, j with
  | 8, 0 => exact ⟨_, rfl⟩
  | 8, j + 1 => exact trivial
  | 9, 0 => exact ⟨_, rfl⟩
  | 9, j + 1 => exact trivial
  | 0, j => exact none rfl
  | 1, j => exact none rfl
  | 2, j => exact none rfl
  | 3, j => exact none rfl
  | 4, j => exact none rfl
  | 5, j => exact none rfl
  | 6, j => exact none rfl
  | 7, j => exact none rfl
  | f + 10, j => exact none rfl
theorem str_eq {s : ByteArray} (h : eqBytes s.data.toList [100, 101] = true) : Value.string s = strOf [100, 101] := by
  have := eqBytes_eq h
  show _ = Value.string ⟨([100, 101] : List UInt8).toArray⟩
  rw [← this]
theorem hasQ_ok {cx : Cx} {ws : Base} (hP : cx.P = Tryd.prog) : ExtOk ws cx phK (hasQ cx 10) := by
  intro g svs B n fs d h ρ β w xs N F hf hW hnn ha
  have hin : Enters cx.P 10 := by rw [hP]; exact enters Tryd.func10 (c := Tryd.f10.body.getD .skip) (by kernel_rfl) (by kernel_rfl)
  unfold hasQ at h
  split at h
  · rename_i he
    have he := Nat.eq_of_beq_eq_true he
    subst he
    split at h
    · rename_i k s
      split at h
      · rename_i hc
        simp only [Bool.and_eq_true] at hc
        obtain ⟨⟨h1, h2⟩, h3⟩ := hc
        have h2 := Nat.le_of_ble_eq_true h2
        have h3 := Nat.le_of_ble_eq_true h3
        simp only [Option.some.injEq, CX.OR.ok.injEq] at h
        subst h
        match xs, ha with
        | [x, y], ⟨hx, hy, _⟩ =>
          have hx : x = .int .i64 (k : Int) := hx
          have hy : y = .string s := hy
          rw [str_eq h1] at hy
          subst hx hy
          refine ⟨hin _ _, ?_⟩
          rw [hP]
          refine (has_any k [100, 101] h2 h3 (by decide) w).mono ?_
          rintro e w' ⟨rfl, hb⟩
          exact ⟨_, β, rfl, Ext.refl _, Newer.refl _ _ _, hW.grow hb, rfl⟩
      · cases h
    · rename_i x s _
      split at h
      · rename_i hc
        rw [Bool.and_eq_true] at hc
        simp only [Option.some.injEq, CX.OR.ok.injEq] at h
        subst h
        obtain ⟨o, ho, h0, h1⟩ := so_num F (so_eq hc.2)
        match xs, ha with
        | [x', y], ⟨hx, hy, _⟩ =>
          have hx : x' = x.den ρ phK := hx
          have hy : y = .string s := hy
          rw [str_eq hc.1] at hy
          rw [ho] at hx
          subst hx hy
          refine ⟨hin _ _, ?_⟩
          rw [hP]
          refine (has_de ⟨h0, h1⟩ w).mono ?_
          rintro e w' ⟨rfl, hb⟩
          refine ⟨_, β, rfl, Ext.refl _, Newer.refl _ _ _, hW.grow hb, ?_⟩
          show Value.bool (deI o) = (phK 8 (E.dens ρ phK (toL [x]))).getD 0 undef
          rw [toL_dens]
          show _ = Value.bool (deI (vint (x.den ρ phK)))
          rw [ho]; rfl
      · cases h
    · cases h
  · cases h
theorem extK_ok {w : World} (hT : TabsA w) : ExtOk ⟨w, []⟩ cxK phK extK :=
  orX_ok (orX_ok (orX_ok (sum_ok (cx := cxK) rfl get_sum) (sum_ok (cx := cxK) rfl set_sum)) (orX_ok (sum_ok (cx := cxK) rfl hold_sum) (hasQ_ok rfl))) (orX_ok (conMay_ok (cx := cxK) rfl (fun _ => rfl) enters_may (fun _ hs w hT => may_any hs w hT) hT) (trueA_ok (cx := cxK) rfl))
theorem keep_all : ∀ k, 1 ≤ k → k ≤ 47 → keepR k = true := by
  intro k h1 h2
  match k with
  | 0 => omega
  | 1 => exact keep_1
  | 2 => exact keep_2
  | 3 => exact keep_3
  | 4 => exact keep_4
  | 5 => exact keep_5
  | 6 => exact keep_6
  | 7 => exact keep_7
  | 8 => exact keep_8
  | 9 => exact keep_9
  | 10 => exact keep_10
  | 11 => exact keep_11
  | 12 => exact keep_12
  | 13 => exact keep_13
  | 14 => exact keep_14
  | 15 => exact keep_15
  | 16 => exact keep_16
  | 17 => exact keep_17
  | 18 => exact keep_18
  | 19 => exact keep_19
  | 20 => exact keep_20
  | 21 => exact keep_21
  | 22 => exact keep_22
  | 23 => exact keep_23
  | 24 => exact keep_24
  | 25 => exact keep_25
  | 26 => exact keep_26
  | 27 => exact keep_27
  | 28 => exact keep_28
  | 29 => exact keep_29
  | 30 => exact keep_30
  | 31 => exact keep_31
  | 32 => exact keep_32
  | 33 => exact keep_33
  | 34 => exact keep_34
  | 35 => exact keep_35
  | 36 => exact keep_36
  | 37 => exact keep_37
  | 38 => exact keep_38
  | 39 => exact keep_39
  | 40 => exact keep_40
  | 41 => exact keep_41
  | 42 => exact keep_42
  | 43 => exact keep_43
  | 44 => exact keep_44
  | 45 => exact keep_45
  | 46 => exact keep_46
  | 47 => exact keep_47
  | k + 48 => omega
theorem law_keeps {cs fl : List Value} (hs : All2 So.has ssC cs) (hi : All2 So.has ssE fl) {v : Int} (hv : 0 ≤ v ∧ v ≤ 18446744073709551615) (W : World) (hT : TabsA W) :
    Calls Tryd.prog 3 #[.agg cs.toArray, .agg fl.toArray, .int .u64 v] W fun e W' => e = .returned (.bool true) ∧ Below W.heap.size W W' := by
  have hl : cs.length = 43 := hs.length.symm
  have hl2 : fl.length = 11 := hi.length.symm
  have hq : All2 So.has [.int .u64] [Value.int .u64 v] := ⟨⟨v, rfl, hv.1, hv.2⟩, trivial⟩
  have hall := all2_app hs (all2_app hi hq)
  have F : Fits cxK.Γ cxK.S (rho (cs ++ (fl ++ [.int .u64 v]))) phK := ⟨fun i => all2_get hall i, fitK⟩
  have at43 : ∀ i, i < 11 → rho (cs ++ (fl ++ [.int .u64 v])) (43 + i) = fl.getD i undef := fun i hi' => by
    show (cs ++ _).getD (43 + i) undef = _
    rw [List.getD_eq_getElem?_getD, List.getD_eq_getElem?_getD, List.getElem?_append_right (by omega), hl, Nat.add_sub_cancel_left, List.getElem?_append_left (by omega)]
  have at54 : rho (cs ++ (fl ++ [.int .u64 v])) 54 = .int .u64 v := by
    show (cs ++ _).getD 54 undef = _
    rw [List.getD_eq_getElem?_getD, List.getElem?_append_right (by omega), hl, List.getElem?_append_right (by omega), hl2]; rfl
  have hfl : (List.range' 43 11).map (rho (cs ++ (fl ++ [.int .u64 v]))) = fl := by
    apply List.ext_getElem?
    intro i
    by_cases h : i < 11
    · rw [List.getElem?_map, List.getElem?_range' h]
      show some (rho _ (43 + 1 * i)) = _
      rw [Nat.one_mul, at43 i h, List.getD_eq_getElem?_getD, List.getElem?_eq_getElem (by omega)]; rfl
    · rw [List.getElem?_eq_none (by simp; omega), List.getElem?_eq_none (by omega)]
  have key : ∀ (es : List E) (fs : Facts) (b : Bool), endsC cxK extK 3000 10 3 [cpuC, .one ⟨true, es.map .e⟩, .one ⟨false, [.e (.var 54)]⟩] 60 ((.app 9 0 (toL es), b) :: fs) (sureK cxK sameR 300) = true → es.map (·.den (rho (cs ++ (fl ++ [.int .u64 v]))) phK) = fl → okB fl = b →
      Facts.hold (rho (cs ++ (fl ++ [.int .u64 v]))) phK fs → Calls Tryd.prog 3 #[.agg cs.toArray, .agg fl.toArray, .int .u64 v] W fun e W' => e = .returned (.bool true) ∧ Below W.heap.size W W' := by
    intro es fs b hk he hb hf
    refine law_byS (cx := cxK) rfl (namesOk_spec names_ok) F sameR_ok (fs := (.app 9 0 (toL es), b) :: fs) (hold_cons _ ?_ hf) (args := [cpuC, .one ⟨true, es.map .e⟩, .one ⟨false, [.e (.var 54)]⟩]) (xs := [.agg cs.toArray, .agg fl.toArray, .int .u64 v])
      ⟨cpu_is hs, ⟨fl, rfl, ?_⟩, at54.symm, trivial⟩ hk W (fun v hv => by simp [cxK] at hv) (extK_ok hT)
    · show (phK 9 (E.dens _ phK (toL es))).getD 0 undef = _
      rw [toL_dens, he]
      show Value.bool (okB fl) = _
      rw [hb]
    · have hh : ∀ (es : List E) (vs : List Value), es.map (·.den (rho (cs ++ (fl ++ [.int .u64 v]))) phK) = vs → All2 (CX.SC.is (rho (cs ++ (fl ++ [.int .u64 v]))) phK fun _ => none) (es.map .e) vs := by
        intro es
        induction es with
        | nil => intro vs h; subst h; trivial
        | cons e es ih => intro vs h; subst h; exact ⟨rfl, ih _ rfl⟩
      exact hh _ _ he
  have hA : ∀ ρ' : Nat → Value, esKA.map (fun e : E => e.den ρ' phK) = (List.range' 43 11).map ρ' := fun ρ' => rfl
  have hK : ∀ op : Nat, 1 ≤ op → fl.getD 0 undef = .int .i64 (Int.ofNat op) → (esK op).map (·.den (rho (cs ++ (fl ++ [.int .u64 v]))) phK) = fl := by
    intro op h1 h0
    unfold esK
    rw [show Nat.beq op 0 = false from nbeq_no (by omega)]
    have h0 : rho (cs ++ (fl ++ [.int .u64 v])) 43 = .int .i64 (Int.ofNat op) := (at43 0 (by omega)).trans h0
    refine Eq.trans ?_ hfl
    show Value.int .i64 (Int.ofNat op) :: _ = rho _ 43 :: _
    rw [h0]
    rfl
  by_cases hok : Ok fl
  · obtain ⟨op, m, his⟩ := hok
    have hb := okB_yes ⟨op, m, his⟩
    have hin := insts_in _ his.1
    have h1 : 1 ≤ op := hin.1
    have h47 : op ≤ 47 := hin.2.1
    have hr := keep_all op h1 h47
    unfold keepR at hr
    rw [show Nat.beq op 0 = false from nbeq_no (by omega)] at hr
    exact key _ [] true hr (hK op h1 his.2.1.1) hb hold_nil
  · have hb := okB_no hok
    obtain ⟨o, w, a, b, c, d, v6, e, f, g, hh, hfl'⟩ := cells11 hi
    have h43 : rho (cs ++ (fl ++ [.int .u64 v])) 43 = .int .i64 o := by
      have := at43 0 (by omega)
      rw [this, hfl']; rfl
    have lit : ∀ op : Nat, 1 ≤ op → o = (op : Int) → nokR (esK op) [] = true → Calls Tryd.prog 3 #[.agg cs.toArray, .agg fl.toArray, .int .u64 v] W fun e W' => e = .returned (.bool true) ∧ Below W.heap.size W W' := by
      intro op h1 ho hr
      exact key _ [] false hr (hK op h1 (by rw [hfl', ho]; rfl)) hb hold_nil
    have sym : ∀ (p : E × Bool), p.1.den (rho (cs ++ (fl ++ [.int .u64 v]))) phK = .bool p.2 → (∀ b, nokR esKA [p, de43 b] = true) → Calls Tryd.prog 3 #[.agg cs.toArray, .agg fl.toArray, .int .u64 v] W fun e W' => e = .returned (.bool true) ∧ Below W.heap.size W W' := by
      intro p hp hr
      refine key _ _ false (hr (deI o)) ((hA _).trans hfl) hb (hold_cons _ hp (hold_cons _ ?_ hold_nil))
      show (phK 8 (E.dens _ phK (toL [.var 43]))).getD 0 undef = _
      rw [toL_dens]
      show Value.bool (deI (vint (rho _ 43))) = _
      rw [h43]; rfl
    have two : ∀ {P : Bool → Prop}, P true → P false → ∀ b, P b := fun h1 h2 b => by cases b; exact h2; exact h1
    by_cases h34 : o < 34
    · refine sym lt34 ?_ (two nok_lt_true nok_lt_false)
      show Value.bool (decide (vint (rho _ 43) < 34)) = _
      rw [h43]; exact dTrue h34
    · by_cases h38 : 38 < o
      · refine sym gt38 ?_ (two nok_gt_true nok_gt_false)
        show Value.bool (decide (38 < vint (rho _ 43))) = _
        rw [h43]; exact dTrue h38
      · have : o = 34 ∨ o = 35 ∨ o = 36 ∨ o = 37 ∨ o = 38 := by omega
        rcases this with h | h | h | h | h
        · exact lit 34 (by decide) h nok_34
        · exact lit 35 (by decide) h nok_35
        · exact lit 36 (by decide) h nok_36
        · exact lit 37 (by decide) h nok_37
        · exact lit 38 (by decide) h nok_38
end Go.Proofs.YtbpcidpladnhfaaDoor
