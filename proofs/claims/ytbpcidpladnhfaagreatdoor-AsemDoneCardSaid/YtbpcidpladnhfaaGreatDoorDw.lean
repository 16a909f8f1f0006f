/- Layer 22: what the law of an instruction calls does what is said of it. -/
import Derived.Test.YtbpcidpladnhfaaGreatDoorDx
namespace Go.Proofs.YtbpcidpladnhfaaGreatDoor
open Go Go.Proofs Go.RowKit Go.CX Go.SX Go.CX.Cp
open Cq (U64 zx neg sumC sumO lessC lessO turn mhi mlo shi)
set_option maxRecDepth 100000
theorem get_sum : sumR sy22 (getM 15) 1 31 = true := by kernel_rfl
theorem rget_sum : sumR sy22 (rgetM 16) 1 31 = true := by kernel_rfl
theorem set_sum : sumR sy22 (setM 19) 1 31 = true := by kernel_rfl
theorem rset_sum : sumR sy22 (rsetM 20) 1 31 = true := by kernel_rfl
theorem hold_sum : sumR sy22 (holdM 17) 1 16 = true := by kernel_rfl
theorem rhold_sum : sumR sy22 (rholdM 18) 1 16 = true := by kernel_rfl
theorem w64_in {n : Int} (h : U64 n) : w64 n = .int .u64 n := by unfold w64; rw [Cq.wrap_of_u64 h]
theorem pack2 {s1 s2 : So} {xs fl : List Value} (h : packs [(false, [s1]), (false, [s2])] xs fl) : ∃ x y, xs = [x, y] ∧ fl = [x, y] ∧ s1.has x ∧ s2.has y := by
  match xs, h with
  | [x, y], ⟨f1, r1, e1, h1, hx, f2, r2, e2, h2, hy, e3⟩ =>
    have hx : f1 = [x] := hx
    have hy : f2 = [y] := hy
    have e3 : r2 = [] := e3
    subst hx hy e3 e2 e1
    exact ⟨x, y, rfl, rfl, h1.1, h2.1⟩
theorem pack3 {s1 s2 s3 : So} {xs fl : List Value} (h : packs [(false, [s1]), (false, [s2]), (false, [s3])] xs fl) : ∃ x y z, xs = [x, y, z] ∧ fl = [x, y, z] ∧ s1.has x ∧ s2.has y ∧ s3.has z := by
  match xs, h with
  | [x, y, z], ⟨f1, r1, e1, h1, hx, f2, r2, e2, h2, hy, f3, r3, e3, h3, hz, e4⟩ =>
    have hx : f1 = [x] := hx
    have hy : f2 = [y] := hy
    have hz : f3 = [z] := hz
    have e4 : r3 = [] := e4
    subst hx hy hz e4 e3 e2 e1
    exact ⟨x, y, z, rfl, rfl, h1.1, h2.1, h3.1⟩
theorem u64_has {x : Value} (h : (So.int .u64).has x) : ∃ n, x = .int .u64 n ∧ U64 n := by
  obtain ⟨n, hn, h0, h1⟩ := h
  have h0 : 0 ≤ n := h0
  have h1 : n ≤ 18446744073709551615 := h1
  exact ⟨n, hn, h0, by omega⟩
theorem i64_has {x : Value} (h : (So.int .i64).has x) : ∃ n, x = .int .i64 n ∧ Cq.I64 n := by
  obtain ⟨n, hn, h0, h1⟩ := h
  exact ⟨n, hn, h0, h1⟩
/-- Calls of a word and a number, of two words. -/
theorem conVW {f sym : Nat} (hin : Enters Tryz.prog f) (h : ∀ (v w : Int) (W : World), U64 v → Cq.I64 w → Calls Tryz.prog f #[.int .u64 v, .int .i64 w] W fun e W' => e = .returned ((ph22 sym [.int .u64 v, .int .i64 w]).getD 0 undef) ∧ Below W.heap.size W W') {ws : Base} : ExtOk ws cx22 ph22 (conX cx22 ⟨f, sym, vw2⟩) := by
  refine conX_ok ⟨hin, ?_⟩
  intro w xs fl hp
  obtain ⟨x, y, rfl, rfl, h1, h2⟩ := pack2 hp
  obtain ⟨v, rfl, hv⟩ := u64_has h1
  obtain ⟨k, rfl, hk⟩ := i64_has h2
  exact h v k w hv hk
theorem enters_of {f : FuncId} {fn : Func} {c : Code} (hf : Tryz.prog.funcs[f]? = some fn) (hb : fn.body = some c) (hn : (fn.name == "runtime.NumGoroutine") = false) : Enters Tryz.prog f := enters hf hb hn
theorem zx_ok {ws : Base} : ExtOk ws cx22 ph22 (orX (conX cx22 ⟨41, 41, vw2⟩) (conX cx22 ⟨27, 41, vw2⟩)) := by
  refine orX_ok (conVW (enters Tryz.func41 (c := Tryz.f41.body.getD .skip) (by kernel_rfl) (by kernel_rfl)) fun v w W hv hw => ?_)
    (conVW (enters Tryz.func27 (c := Tryz.f27.body.getD .skip) (by kernel_rfl) (by kernel_rfl)) fun v w W hv hw => ?_)
  · refine (zx_any v w W).mono ?_
    rintro e W' ⟨rfl, rfl⟩
    exact ⟨congrArg Ending.returned (w64_in (Cq.zx_u64 w)).symm, Below.refl _ _⟩
  · refine (rzx_any v w hv W).mono ?_
    rintro e W' ⟨rfl, rfl⟩
    exact ⟨congrArg Ending.returned (w64_in (Cq.zx_u64 w)).symm, Below.refl _ _⟩
theorem neg_ok {ws : Base} : ExtOk ws cx22 ph22 (orX (conX cx22 ⟨111, 44, vw2⟩) (conX cx22 ⟨85, 44, vw2⟩)) := by
  refine orX_ok (conVW (enters Tryz.func111 (c := Tryz.f111.body.getD .skip) (by kernel_rfl) (by kernel_rfl)) fun v w W hv hw => ?_)
    (conVW (enters Tryz.func85 (c := Tryz.f85.body.getD .skip) (by kernel_rfl) (by kernel_rfl)) fun v w W hv hw => ?_)
  · refine (neg_any v w hv W).mono ?_
    rintro e W' ⟨rfl, rfl⟩
    exact ⟨rfl, Below.refl _ _⟩
  · refine (rneg_any v w hv W).mono ?_
    rintro e W' ⟨rfl, rfl⟩
    exact ⟨rfl, Below.refl _ _⟩
theorem turn_ok {ws : Base} : ExtOk ws cx22 ph22 (orX (conX cx22 ⟨107, 45, vkw⟩) (conX cx22 ⟨57, 45, vkw⟩)) := by
  refine orX_ok (conX_ok ⟨enters Tryz.func107 (c := Tryz.f107.body.getD .skip) (by kernel_rfl) (by kernel_rfl), ?_⟩) (conX_ok ⟨enters Tryz.func57 (c := Tryz.f57.body.getD .skip) (by kernel_rfl) (by kernel_rfl), ?_⟩)
  · intro w xs fl hp
    obtain ⟨x, y, z, rfl, rfl, h1, h2, h3⟩ := pack3 hp
    obtain ⟨v, rfl, hv⟩ := u64_has h1
    obtain ⟨k, rfl, hk⟩ := i64_has h2
    obtain ⟨m, rfl, hm⟩ := i64_has h3
    refine (turn_any v k m hv w).mono ?_
    rintro e W' ⟨rfl, rfl⟩
    exact ⟨congrArg Ending.returned (w64_in (Cq.turn_u64 v k m)).symm, Below.refl _ _⟩
  · intro w xs fl hp
    obtain ⟨x, y, z, rfl, rfl, h1, h2, h3⟩ := pack3 hp
    obtain ⟨v, rfl, hv⟩ := u64_has h1
    obtain ⟨k, rfl, hk⟩ := i64_has h2
    obtain ⟨m, rfl, hm⟩ := i64_has h3
    refine (rturn_any v k m hv hk w).mono ?_
    rintro e W' ⟨rfl, hd⟩
    exact ⟨congrArg Ending.returned (w64_in (Cq.turn_u64 v k m)).symm, hd.below⟩
theorem mul_ok {ws : Base} : ExtOk ws cx22 ph22 (orX (conX2 cx22 ⟨105, 46, vv2⟩) (conX2 cx22 ⟨106, 47, vv2⟩)) := by
  refine orX_ok (conX2_ok ⟨enters Tryz.func105 (c := Tryz.f105.body.getD .skip) (by kernel_rfl) (by kernel_rfl), ?_⟩) (conX2_ok ⟨enters Tryz.func106 (c := Tryz.f106.body.getD .skip) (by kernel_rfl) (by kernel_rfl), ?_⟩)
  · intro w xs fl _ hp
    obtain ⟨x, y, rfl, rfl, h1, h2⟩ := pack2 hp
    obtain ⟨a, rfl, ha⟩ := u64_has h1
    obtain ⟨b, rfl, hb⟩ := u64_has h2
    refine (mulU_any a b ha hb w).mono ?_
    rintro e W' ⟨rfl, rfl⟩
    refine ⟨?_, Below.refl _ _⟩
    show _ = Ending.returned (.tuple #[w64 (mhi (a * b)), w64 (mlo (a * b))])
    rw [w64_in (Cq.mhi_u64 ha hb), w64_in (Cq.mlo_u64 _)]
  · intro w xs fl _ hp
    obtain ⟨x, y, rfl, rfl, h1, h2⟩ := pack2 hp
    obtain ⟨a, rfl, ha⟩ := u64_has h1
    obtain ⟨b, rfl, hb⟩ := u64_has h2
    refine (mulS_any a b ha hb w).mono ?_
    rintro e W' ⟨rfl, rfl⟩
    refine ⟨?_, Below.refl _ _⟩
    show _ = Ending.returned (.tuple #[w64 (shi a b), w64 (mlo (a * b))])
    rw [w64_in (Cq.shi_u64 _ _), w64_in (Cq.mlo_u64 _)]
theorem sumX_ok {ws : Base} {f : FuncId} {sym : Nat} {op : BinOp} (hin : Enters Tryz.prog f)
    (h : ∀ (a b : Int) (W : World), U64 a → U64 b → Calls Tryz.prog f #[.int .u64 a, .int .u64 b, .bool false, .int .i64 8] W fun e W' => e = .returned (.tuple #[.int .u64 (ibin op .u64 a b), (ph22 sym [.int .u64 a, .int .u64 b]).getD 1 undef, (ph22 sym [.int .u64 a, .int .u64 b]).getD 2 undef]) ∧ Below W.heap.size W W') :
    ExtOk ws cx22 ph22 (sumX cx22 f sym op) := by
  intro g svs B n fs d hd ρ β w xs N F hf hW hnn ha
  unfold sumX at hd
  split at hd
  · rename_i he
    have he := Nat.eq_of_beq_eq_true he
    subst he
    split at hd
    · rename_i a b
      split at hd
      · rename_i hc
        rw [Bool.and_eq_true] at hc
        simp only [Option.some.injEq, CX.OR.ok.injEq] at hd
        subst hd
        obtain ⟨m, hm, hmu⟩ := u64_of F hc.1
        obtain ⟨k, hk, hku⟩ := u64_of F hc.2
        match xs, ha with
        | [x1, x2, x3, x4], ⟨h1, h2, h3, h4, _⟩ =>
          have h1 : x1 = a.den ρ ph22 := h1
          have h2 : x2 = b.den ρ ph22 := h2
          have h3 : x3 = .bool false := h3
          have h4 : x4 = .int .i64 8 := h4
          rw [hm] at h1
          rw [hk] at h2
          subst h1 h2 h3 h4
          refine ⟨hin _ _, (h m k w hmu hku).mono ?_⟩
          rintro e w' ⟨rfl, hb⟩
          refine ⟨_, β, rfl, Ext.refl _, Newer.refl _ _ _, hW.grow hb, [_, _, _], rfl, ?_, ?_, ?_, trivial⟩
          · show Value.int .u64 (ibin op .u64 m k) = (mkBin op .u64 a b).den ρ ph22
            rw [mkBin_den, hm, hk]; rfl
          · show _ = (ph22 sym (E.dens ρ ph22 (toL [a, b]))).getD 1 undef
            rw [toL_dens]
            show _ = (ph22 sym [a.den ρ ph22, b.den ρ ph22]).getD 1 undef
            rw [hm, hk]
          · show _ = (ph22 sym (E.dens ρ ph22 (toL [a, b]))).getD 2 undef
            rw [toL_dens]
            show _ = (ph22 sym [a.den ρ ph22, b.den ρ ph22]).getD 2 undef
            rw [hm, hk]
      · cases hd
    · cases hd
  · cases hd
theorem sumV_8 (a b : Int) : Cq.sumV a b false 8 = ibin .add .u64 a b := by
  show (a + b + 0) % 2 ^ 64 = IntKind.u64.wrap (a + b)
  rw [IntKind.wrap_u64, Int.add_zero]; rfl
theorem lessV_8 (a b : Int) : Cq.lessV a b false 8 = ibin .sub .u64 a b := by
  show (a + (18446744073709551615 - b) + 1) % 2 ^ 64 = IntKind.u64.wrap (a - b)
  rw [IntKind.wrap_u64]
  show (a + (18446744073709551615 - b) + 1) % 18446744073709551616 = _
  omega
theorem sums_ok {ws : Base} : ExtOk ws cx22 ph22 (orX (orX (sumX cx22 109 42 .add) (sumX cx22 53 42 .add)) (orX (sumX cx22 110 43 .sub) (sumX cx22 55 43 .sub))) := by
  refine orX_ok (orX_ok (sumX_ok (enters Tryz.func109 (c := Tryz.f109.body.getD .skip) (by kernel_rfl) (by kernel_rfl)) fun a b W _ _ => ?_)
      (sumX_ok (enters Tryz.func53 (c := Tryz.f53.body.getD .skip) (by kernel_rfl) (by kernel_rfl)) fun a b W ha hb => ?_))
    (orX_ok (sumX_ok (enters Tryz.func110 (c := Tryz.f110.body.getD .skip) (by kernel_rfl) (by kernel_rfl)) fun a b W _ _ => ?_)
      (sumX_ok (enters Tryz.func55 (c := Tryz.f55.body.getD .skip) (by kernel_rfl) (by kernel_rfl)) fun a b W ha hb => ?_))
  · refine (sum_any a b false 8 W).mono ?_
    rintro e W' ⟨rfl, rfl⟩
    rw [sumV_8]; exact ⟨rfl, Below.refl _ _⟩
  · refine (rsum_any a b false 8 ha hb W).mono ?_
    rintro e W' ⟨rfl, rfl⟩
    rw [sumV_8]; exact ⟨rfl, Below.refl _ _⟩
  · refine (less_any a b false 8 W).mono ?_
    rintro e W' ⟨rfl, rfl⟩
    rw [lessV_8]; exact ⟨rfl, Below.refl _ _⟩
  · refine (rless_any a b false 8 ha hb W).mono ?_
    rintro e W' ⟨rfl, rfl⟩
    rw [lessV_8]; exact ⟨rfl, Below.refl _ _⟩
end Go.Proofs.YtbpcidpladnhfaaGreatDoor

/- Layer 22: the functions of two words and the field, of the document, as terms; all that the law calls. -/
namespace Go.Proofs.YtbpcidpladnhfaaGreatDoor
open Go Go.Proofs Go.RowKit Go.CX Go.SX Go.CX.Cp
open Cq (U64 zx neg sumC sumO lessC lessO turn mhi mlo shi)
theorem wrap64_is (n : Int) : IntKind.i64.wrap n = wrap64 n := by rw [IntKind.wrap_i64]; unfold wrap64; rfl
theorem shift_of {b : Int} (hb : U64 b) : min (b.tmod 64).toNat 64 = (b % 64).toNat := by
  rw [Int.tmod_eq_emod_of_nonneg hb.1]
  have := Int.emod_lt_of_pos b (show (0 : Int) < 64 by decide)
  omega
theorem rdo_10_n (a b : Int) (ha : U64 a) (hb : U64 b) (h0 : b ≠ 0) (W : World) : Calls Tryz.prog 56 #[.int .i64 10, .int .u64 a, .int .u64 b] W fun e W' => e = .returned (.int .u64 (IntKind.u64.wrap (wrap64 ((wrap64 a).tdiv (wrap64 b))))) ∧ Kp W W' := by
  rw [divs_math ha hb h0]
  cases ga : ngB a <;> cases gb : ngB b
  · exact rdo_10_ff a b ha hb h0 ga gb W
  · exact rdo_10_ft a b ha hb h0 ga gb W
  · exact rdo_10_tf a b ha hb h0 ga gb W
  · exact rdo_10_tt a b ha hb h0 ga gb W
theorem rem_den {ρ : Nat → Value} {b : E} {k : Int} (hk : b.den ρ ph22 = .int .u64 k) : (mkBin .rem .u64 b (.int .u64 64)).den ρ ph22 = .int .u64 (k.tmod 64) := by
  rw [mkBin_den, hk]; rfl
theorem nought_den {ρ : Nat → Value} {b : E} {k : Int} (hk : b.den ρ ph22 = .int .u64 k) (x y : E) : (E.ite (mkEql b (.int .u64 0)) x y).den ρ ph22 = if k = 0 then x.den ρ ph22 else y.den ρ ph22 := by
  show (if vbool ((mkEql b (.int .u64 0)).den ρ ph22) then x.den ρ ph22 else y.den ρ ph22) = _
  rw [mkEql_den, hk]
  show (if (k == 0) = true then _ else _) = _
  by_cases h : k = 0
  · rw [if_pos h, if_pos (by simpa using h)]
  · rw [if_neg h, if_neg (by simpa using h)]
section
variable {ρ : Nat → Value} {a b : E} {m k : Int} (hm : a.den ρ ph22 = .int .u64 m) (hk : b.den ρ ph22 = .int .u64 k) (hmu : U64 m) (hku : U64 k)
 include hm hk
theorem app_den (s : Nat) : (E.app s 0 (toL [a, b])).den ρ ph22 = (ph22 s [.int .u64 m, .int .u64 k]).getD 0 undef := by
  show (ph22 s (E.dens ρ ph22 (toL [a, b]))).getD 0 undef = _
  rw [toL_dens]
  show (ph22 s [a.den ρ ph22, b.den ρ ph22]).getD 0 undef = _
  rw [hm, hk]
 include hmu hku
theorem do_den {j : Nat} {e : E} (h : doT j a b = some e) (W : World) : Calls Tryz.prog 56 #[.int .i64 (j : Int), .int .u64 m, .int .u64 k] W fun r W' => r = .returned (e.den ρ ph22) ∧ Below W.heap.size W W' := by
  unfold doT at h
  split at h
  · simp only [Option.some.injEq] at h
    subst h
    rw [app_den hm hk]
    show Calls _ _ _ _ fun r W' => r = .returned (w64 (mhi (m * k))) ∧ _
    rw [w64_in (Cq.mhi_u64 hmu hku)]
    exact rdo_7 m k hmu hku W
  · simp only [Option.some.injEq] at h
    subst h
    rw [app_den hm hk]
    show Calls _ _ _ _ fun r W' => r = .returned (w64 (shi m k)) ∧ _
    rw [w64_in (Cq.shi_u64 _ _)]
    exact rdo_8 m k hmu hku W
  · simp only [Option.some.injEq] at h
    subst h
    rw [nought_den hk]
    by_cases h0 : k = 0
    · rw [if_pos h0]; exact rdo_9_0 m k hmu hku h0 W
    · rw [if_neg h0, mkBin_den, hm, hk]; exact rdo_9_n m k hmu hku h0 W
  · simp only [Option.some.injEq] at h
    subst h
    rw [nought_den hk]
    by_cases h0 : k = 0
    · rw [if_pos h0]; exact rdo_10_0 m k hmu hku h0 W
    · rw [if_neg h0]
      have e1 : (E.conv .u64 (mkBin .quo .i64 (.conv .i64 a) (.conv .i64 b))).den ρ ph22 = .int .u64 (IntKind.u64.wrap (wrap64 ((wrap64 m).tdiv (wrap64 k)))) := by
        show Value.int .u64 (IntKind.u64.wrap (vint ((mkBin .quo .i64 (.conv .i64 a) (.conv .i64 b)).den ρ ph22))) = _
        rw [mkBin_den]
        show Value.int .u64 (IntKind.u64.wrap (IntKind.i64.wrap ((IntKind.i64.wrap (vint (a.den ρ ph22))).tdiv (IntKind.i64.wrap (vint (b.den ρ ph22)))))) = _
        rw [hm, hk, wrap64_is, wrap64_is, wrap64_is]; rfl
      rw [e1]
      exact rdo_10_n m k hmu hku h0 W
  · simp only [Option.some.injEq] at h
    subst h
    rw [mkShf_den, rem_den hk, hm]
    show Calls _ _ _ _ fun r W' => r = .returned (.int .u64 (IntKind.u64.wrap (m * 2 ^ (min (k.tmod 64).toNat 64)))) ∧ _
    rw [shift_of hku]
    exact rdo_11 m k hmu hku W
  · simp only [Option.some.injEq] at h
    subst h
    rw [mkShf_den, rem_den hk, hm]
    show Calls _ _ _ _ fun r W' => r = .returned (.int .u64 (m.fdiv (2 ^ (min (k.tmod 64).toNat 64)))) ∧ _
    rw [shift_of hku, Int.fdiv_eq_ediv_of_nonneg _ (Int.le_of_lt (Int.pow_pos (by decide)))]
    exact rdo_12 m k hmu hku W
  · simp only [Option.some.injEq] at h
    subst h
    have e1 : (E.conv .u64 (mkShf .shr .i64 (.conv .i64 a) (mkBin .rem .u64 b (.int .u64 64)))).den ρ ph22 = .int .u64 (IntKind.u64.wrap (wrap64 m / 2 ^ (k % 64).toNat)) := by
      show Value.int .u64 (IntKind.u64.wrap (vint ((mkShf .shr .i64 (.conv .i64 a) (mkBin .rem .u64 b (.int .u64 64))).den ρ ph22))) = _
      rw [mkShf_den, rem_den hk]
      show Value.int .u64 (IntKind.u64.wrap ((IntKind.i64.wrap (vint (a.den ρ ph22))).fdiv (2 ^ (min (k.tmod 64).toNat 64)))) = _
      rw [hm, wrap64_is, shift_of hku, Int.fdiv_eq_ediv_of_nonneg _ (Int.le_of_lt (Int.pow_pos (by decide)))]; rfl
    rw [e1]
    exact rdo_13 m k hmu hku W
  · cases h
end
theorem doX_ok {ws : Base} : ExtOk ws cx22 ph22 (doX cx22 56) := by
  intro g svs B n fs d hd ρ β w xs N F hf hW hnn ha
  unfold doX at hd
  split at hd
  · rename_i he
    have he := Nat.eq_of_beq_eq_true he
    subst he
    split at hd
    · rename_i j a b
      split at hd
      · rename_i hc
        rw [Bool.and_eq_true] at hc
        rw [Option.map_eq_some_iff] at hd
        obtain ⟨e, he, hd⟩ := hd
        simp only [CX.OR.ok.injEq] at hd
        subst hd
        obtain ⟨m, hm, hmu⟩ := u64_of F hc.1
        obtain ⟨k, hk, hku⟩ := u64_of F hc.2
        match xs, ha with
        | [x1, x2, x3], ⟨h1, h2, h3, _⟩ =>
          have h1 : x1 = .int .i64 (j : Int) := h1
          have h2 : x2 = a.den ρ ph22 := h2
          have h3 : x3 = b.den ρ ph22 := h3
          rw [hm] at h2
          rw [hk] at h3
          subst h1 h2 h3
          refine ⟨enters Tryz.func56 (c := Tryz.f56.body.getD .skip) (by kernel_rfl) (by kernel_rfl) _ _, (do_den hm hk hmu hku he w).mono ?_⟩
          rintro r w' ⟨rfl, hb⟩
          exact ⟨_, β, rfl, Ext.refl _, Newer.refl _ _ _, hW.grow hb, rfl⟩
      · cases hd
    · cases hd
  · cases hd
theorem in64_of {ρ : Nat → Value} (F : Fits cx22.Γ cx22.S ρ ph22) {fs : Facts} (hf : fs.hold ρ ph22) {x : E} (h : in64 cx22 fs x = true) : ∃ r : Nat, x.den ρ ph22 = .int .i64 (r : Int) ∧ r < 64 := by
  unfold in64 at h
  rw [Bool.and_eq_true, Bool.and_eq_true] at h
  obtain ⟨n, hn, _⟩ := so_num F (so_eq h.1.1)
  have a := of_decide_eq_false (dec_lt F hf hn (eq_of_beq h.1.2))
  have b := of_decide_eq_true (dec_lt F hf hn (eq_of_beq h.2))
  obtain ⟨r, rfl⟩ := Int.eq_ofNat_of_zero_le (show 0 ≤ n by omega)
  exact ⟨r, hn, by omega⟩
theorem fieldX_ok {ws : Base} : ExtOk ws cx22 ph22 (fieldX cx22 58) := by
  intro g svs B n fs d hd ρ β w xs N F hf hW hnn ha
  unfold fieldX at hd
  split at hd
  · rename_i he
    have he := Nat.eq_of_beq_eq_true he
    subst he
    split at hd
    · rename_i a r s sg
      split at hd
      · rename_i hc
        rw [Bool.and_eq_true, Bool.and_eq_true] at hc
        simp only [Option.some.injEq, CX.OR.ok.injEq] at hd
        subst hd
        obtain ⟨m, hm, hmu⟩ := u64_of F hc.1.1
        obtain ⟨R, hr, hR⟩ := in64_of F hf hc.1.2
        obtain ⟨S, hs, hS⟩ := in64_of F hf hc.2
        match xs, ha with
        | [x1, x2, x3, x4], ⟨h1, h2, h3, h4, _⟩ =>
          have h1 : x1 = a.den ρ ph22 := h1
          have h2 : x2 = r.den ρ ph22 := h2
          have h3 : x3 = s.den ρ ph22 := h3
          have h4 : x4 = .bool sg := h4
          rw [hm] at h1
          rw [hr] at h2
          rw [hs] at h3
          subst h1 h2 h3 h4
          refine ⟨enters Tryz.func58 (c := Tryz.f58.body.getD .skip) (by kernel_rfl) (by kernel_rfl) _ _, (fieldR_any hmu R S hR hS sg w).mono ?_⟩
          rintro e w' ⟨rfl, hb⟩
          exact ⟨_, β, rfl, Ext.refl _, Newer.refl _ _ _, hW.grow hb, (cutT_den hr hs hR hS hmu hm sg).symm⟩
      · cases hd
    · cases hd
  · cases hd
theorem ext22_ok {w : World} (hT : TabsA w) : ExtOk ⟨w, []⟩ cx22 ph22 ext22 := by
  refine orX_ok (orX_ok (orX_ok (orX_ok (orX_ok (sum_ok (cx := cx22) rfl get_sum) (sum_ok (cx := cx22) rfl rget_sum)) (orX_ok (sum_ok (cx := cx22) rfl set_sum) (sum_ok (cx := cx22) rfl rset_sum))) (orX_ok (orX_ok (sum_ok (cx := cx22) rfl hold_sum) (sum_ok (cx := cx22) rfl rhold_sum))
      (hasX_ok (enters Tryz.func43 (c := Tryz.f43.body.getD .skip) (by kernel_rfl) (by kernel_rfl)) fun w k s h0 h1 hs => has_any k s h0 h1 hs w)))
      (orX_ok (orX_ok (conMay_ok (cx := cx22) rfl (fun _ => rfl) enters_may (fun _ hs w hT => (may_any hs w hT).1) hT) (conMay_ok (cx := cx22) rfl (fun _ => rfl) enters_rmay (fun _ hs w hT => (may_any hs w hT).2) hT)) (trueA_ok (cx := cx22) rfl)))
    (orX_ok (orX_ok zx_ok neg_ok) (orX_ok sums_ok (orX_ok turn_ok (orX_ok mul_ok (orX_ok doX_ok fieldX_ok)))))
end Go.Proofs.YtbpcidpladnhfaaGreatDoor
