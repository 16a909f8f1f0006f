import Derived.Test.YtbhhfbenajcinaaSXx
import Derived.KernelRfl
import Derived.Test.YtbhhfbenajcinaaSi
namespace Go.Proofs.Ytbhhfbenajcinaa
open Go Go.SX Go.Proofs
theorem fits_vals (n : Nat) (hn : n = 8 ∨ n = 16 ∨ n = 32) (v : Int) (h1 : -9223372036854775808 ≤ v) (h2 : v ≤ 9223372036854775807) (ρ : Nat → Value) (φ : Nat → List Value → List Value) (h0 : ρ 0 = .int .i64 v) (hn1 : ρ 1 = .int .i64 (Int.ofNat n)) :
    V51.vals ρ φ = V45.vals ρ φ := by
  have w64 : ∀ x : Int, IntKind.u64.wrap x = x % 18446744073709551616 := fun x => by simp [IntKind.wrap, IntKind.bits, IntKind.signed]
  have wi64 : ∀ x : Int, -9223372036854775808 ≤ x → x ≤ 9223372036854775807 → IntKind.i64.wrap x = x := fun x a b => wrap_id (k := .i64) a b
  have fd : ∀ k : Nat, v.fdiv (2 ^ k) = v / 2 ^ k := fun k => Int.fdiv_eq_ediv_of_nonneg _ (Int.le_of_lt (Int.pow_pos (by decide)))
  rcases hn with rfl | rfl | rfl
  all_goals
    simp only [V51, V45, VT.vals, E.den, h0, hn1, vint_int, icmp, ibin, ishf, vbool_bool, List.map_cons, List.map_nil]
    rw [wi64 _ (by decide) (by decide)]
    simp only [w64, Int.ofNat_eq_natCast, IntKind.bits]
  · rw [show min ((((8 : Nat) : Int) - ((1 : Nat) : Int)) % 18446744073709551616).toNat 64 = 7 from by decide, fd, show (2 : Int) ^ 7 = 128 from by decide]
    rw [show (Int.negSucc 0 : Int) = -1 from rfl, show (((1 : Nat) : Int) * 128 % 18446744073709551616) = 128 from by decide]
    by_cases hv : v < 0
    · have hw1 : IntKind.i64.wrap (v + ((1 : Nat) : Int)) = v + 1 := wi64 _ (by omega) (by omega)
      have hw2 : IntKind.i64.wrap (((0 : Nat) : Int) - (v + 1)) = -(v + 1) := by rw [wi64 _ (by omega) (by omega)]; omega
      rw [hw1, hw2]
      simp [hv]
      by_cases h3 : -128 ≤ v
      · have e1 : v / 128 = -1 := by omega
        have e2 : (-1 + -v) % 18446744073709551616 < 128 := by omega
        simp [e1]
        omega
      · have e0 : v / 128 ≠ 0 := by omega
        simp [e0]
        rw [show (v / 128 == -1) = false from by rw [beq_eq_false_iff_ne]; omega, decide_eq_false (by omega)]
    · simp [hv]
      by_cases h3 : v < 128
      · have e1 : v / 128 = 0 := by omega
        have e2 : v % 18446744073709551616 < 128 := by omega
        simp [e1, e2]
      · have e1 : v / 128 ≠ -1 := by omega
        have e0 : v / 128 ≠ 0 := by omega
        have e2 : ¬ v % 18446744073709551616 < 128 := by omega
        simp [e1, e0, e2]
  · rw [show min ((((16 : Nat) : Int) - ((1 : Nat) : Int)) % 18446744073709551616).toNat 64 = 15 from by decide, fd, show (2 : Int) ^ 15 = 32768 from by decide]
    rw [show (Int.negSucc 0 : Int) = -1 from rfl, show (((1 : Nat) : Int) * 32768 % 18446744073709551616) = 32768 from by decide]
    by_cases hv : v < 0
    · have hw1 : IntKind.i64.wrap (v + ((1 : Nat) : Int)) = v + 1 := wi64 _ (by omega) (by omega)
      have hw2 : IntKind.i64.wrap (((0 : Nat) : Int) - (v + 1)) = -(v + 1) := by rw [wi64 _ (by omega) (by omega)]; omega
      rw [hw1, hw2]
      simp [hv]
      by_cases h3 : -32768 ≤ v
      · have e1 : v / 32768 = -1 := by omega
        have e2 : (-1 + -v) % 18446744073709551616 < 32768 := by omega
        simp [e1]
        omega
      · have e0 : v / 32768 ≠ 0 := by omega
        simp [e0]
        rw [show (v / 32768 == -1) = false from by rw [beq_eq_false_iff_ne]; omega, decide_eq_false (by omega)]
    · simp [hv]
      by_cases h3 : v < 32768
      · have e1 : v / 32768 = 0 := by omega
        have e2 : v % 18446744073709551616 < 32768 := by omega
        simp [e1, e2]
      · have e1 : v / 32768 ≠ -1 := by omega
        have e0 : v / 32768 ≠ 0 := by omega
        have e2 : ¬ v % 18446744073709551616 < 32768 := by omega
        simp [e1, e0, e2]
  · rw [show min ((((32 : Nat) : Int) - ((1 : Nat) : Int)) % 18446744073709551616).toNat 64 = 31 from by decide, fd, show (2 : Int) ^ 31 = 2147483648 from by decide]
    rw [show (Int.negSucc 0 : Int) = -1 from rfl, show (((1 : Nat) : Int) * 2147483648 % 18446744073709551616) = 2147483648 from by decide]
    by_cases hv : v < 0
    · have hw1 : IntKind.i64.wrap (v + ((1 : Nat) : Int)) = v + 1 := wi64 _ (by omega) (by omega)
      have hw2 : IntKind.i64.wrap (((0 : Nat) : Int) - (v + 1)) = -(v + 1) := by rw [wi64 _ (by omega) (by omega)]; omega
      rw [hw1, hw2]
      simp [hv]
      by_cases h3 : -2147483648 ≤ v
      · have e1 : v / 2147483648 = -1 := by omega
        have e2 : (-1 + -v) % 18446744073709551616 < 2147483648 := by omega
        simp [e1]
        omega
      · have e0 : v / 2147483648 ≠ 0 := by omega
        simp [e0]
        rw [show (v / 2147483648 == -1) = false from by rw [beq_eq_false_iff_ne]; omega, decide_eq_false (by omega)]
    · simp [hv]
      by_cases h3 : v < 2147483648
      · have e1 : v / 2147483648 = 0 := by omega
        have e2 : v % 18446744073709551616 < 2147483648 := by omega
        simp [e1, e2]
      · have e1 : v / 2147483648 ≠ -1 := by omega
        have e0 : v / 2147483648 ≠ 0 := by omega
        have e2 : ¬ v % 18446744073709551616 < 2147483648 := by omega
        simp [e1, e0, e2]

noncomputable def phB : Nat → List Value → List Value := updF ph3 5000 (ph3 24)
noncomputable def syB : List (Nat × List So) := (5000, [.bool]) :: sy3
theorem enB : Env Try.prog ct3 syB phB := Env.twin en3 24 5000 (DS.get ds3 (d := .fn (sortsP g24.ps) V24) (by kernel_rfl)) (by kernel_rfl) (by kernel_rfl) (by kernel_rfl)
theorem dsB0 : DS ph3 D9 := DS.keep ds9 (K := 3) (by kernel_rfl) _
theorem dsB : DS phB D9 := DS.keep dsB0 (K := 5000) (by kernel_rfl) _
noncomputable def DB : List (Nat × Def) := D9
theorem ok15 : (Def.fn (sortsP g15.ps) V15).ok phB 15 := DS.get dsB (by kernel_rfl)
theorem ok8 : (Def.fn (sortsP g8.ps) V8).ok phB 8 := DS.get dsB (by kernel_rfl)
theorem ok34 : (Def.fn (sortsP g34.ps) V34).ok phB 34 := DS.get dsB (by kernel_rfl)
theorem ok35 : (Def.fn (sortsP g35.ps) V35).ok phB 35 := DS.get dsB (by kernel_rfl)
theorem ok36 : (Def.fn (sortsP g36.ps) V36).ok phB 36 := DS.get dsB (by kernel_rfl)
theorem ok37 : (Def.fn (sortsP g37.ps) V37).ok phB 37 := DS.get dsB (by kernel_rfl)
theorem ok38 : (Def.fn (sortsP g38.ps) V38).ok phB 38 := DS.get dsB (by kernel_rfl)
theorem ok39 : (Def.fn (sortsP g39.ps) V39).ok phB 39 := DS.get dsB (by kernel_rfl)
theorem ok40 : (Def.fn (sortsP g40.ps) V40).ok phB 40 := DS.get dsB (by kernel_rfl)
theorem ok42 : (Def.fn (sortsP g42.ps) V42).ok phB 42 := DS.get dsB (by kernel_rfl)
theorem ok48 : (Def.fn (sortsP g48.ps) V48).ok phB 48 := DS.get dsB (by kernel_rfl)
theorem ok53 : (Def.fn (sortsP g53.ps) V53).ok phB 53 := DS.get dsB (by kernel_rfl)
theorem ok55 : (Def.fn (sortsP g55.ps) V55).ok phB 55 := DS.get dsB (by kernel_rfl)
theorem ok55_l : (Def.lp (sortsP (lp55_l.ins.map (·.2))) lp55_l.mu V55_l (badE lp55_l)).ok phB 1055 := DS.get dsB (by kernel_rfl)
theorem ok49 : (Def.fn (sortsP g49.ps) V49).ok phB 49 := DS.get dsB (by kernel_rfl)
theorem ok50 : (Def.fn (sortsP g50.ps) V50).ok phB 50 := DS.get dsB (by kernel_rfl)
theorem ok54 : (Def.fn (sortsP g54.ps) V54).ok phB 54 := DS.get dsB (by kernel_rfl)
theorem ok52 : (Def.fn (sortsP g52.ps) V52).ok phB 52 := DS.get dsB (by kernel_rfl)
theorem ok28 : (Def.fn (sortsP g28.ps) V28).ok phB 28 := DS.get dsB (by kernel_rfl)
theorem ok29 : (Def.fn (sortsP g29.ps) V29).ok phB 29 := DS.get dsB (by kernel_rfl)
theorem ok23 : (Def.fn (sortsP g23.ps) V23).ok phB 23 := DS.get dsB (by kernel_rfl)
theorem ok25 : (Def.fn (sortsP g25.ps) V25).ok phB 25 := DS.get dsB (by kernel_rfl)
theorem ok46 : (Def.fn (sortsP g46.ps) V46).ok phB 46 := DS.get dsB (by kernel_rfl)
theorem ok47 : (Def.fn (sortsP g47.ps) V47).ok phB 47 := DS.get dsB (by kernel_rfl)
theorem ok26_is0 : (Def.fn (sortsP g26.ps) (.leaf [opL 0 [1, 2, 3, 4, 5, 6, 7, 8, 10]])).ok phB 3000 := DS.get dsB (by kernel_rfl)
theorem ok26_is1 : (Def.fn (sortsP g26.ps) (.leaf [opL 0 [1, 2, 3, 4, 5, 6, 7, 16, 17, 18, 19, 31, 32, 33]])).ok phB 3001 := DS.get dsB (by kernel_rfl)
theorem ok26_is2 : (Def.fn (sortsP g26.ps) (.leaf [opL 0 [34, 35, 36]])).ok phB 3002 := DS.get dsB (by kernel_rfl)
theorem ok26_is3 : (Def.fn (sortsP g26.ps) (.leaf [opL 0 [22, 23]])).ok phB 3003 := DS.get dsB (by kernel_rfl)
theorem ok26_is4 : (Def.fn (sortsP g26.ps) (.leaf [opL 0 [25, 36]])).ok phB 3004 := DS.get dsB (by kernel_rfl)
theorem ok26_is5 : (Def.fn (sortsP g26.ps) (.leaf [opL 0 [16, 17, 18, 19, 20, 21]])).ok phB 3005 := DS.get dsB (by kernel_rfl)
theorem ok26_is6 : (Def.fn (sortsP g26.ps) (.leaf [opL 0 [36, 39, 44, 45, 46, 47]])).ok phB 3006 := DS.get dsB (by kernel_rfl)
theorem ok26_is7 : (Def.fn (sortsP g26.ps) (.leaf [opL 0 [37, 38]])).ok phB 3007 := DS.get dsB (by kernel_rfl)
theorem ok26_is8 : (Def.fn (sortsP g26.ps) (.leaf [opL 0 [13]])).ok phB 3008 := DS.get dsB (by kernel_rfl)
theorem ok26_is9 : (Def.fn (sortsP g26.ps) (.leaf [opL 0 [10]])).ok phB 3009 := DS.get dsB (by kernel_rfl)
theorem ok26_is10 : (Def.fn (sortsP g26.ps) (.leaf [opL 0 [42, 43]])).ok phB 3010 := DS.get dsB (by kernel_rfl)
theorem ok26_is11 : (Def.fn (sortsP g26.ps) (.leaf [opL 0 [12]])).ok phB 3011 := DS.get dsB (by kernel_rfl)
theorem ok26_is12 : (Def.fn (sortsP g26.ps) (.leaf [opL 0 [11, 12]])).ok phB 3012 := DS.get dsB (by kernel_rfl)
theorem ok26_is13 : (Def.fn (sortsP g26.ps) (.leaf [opL 0 [11, 12, 24, 25, 34]])).ok phB 3013 := DS.get dsB (by kernel_rfl)
theorem ok26_is14 : (Def.fn (sortsP g26.ps) (.leaf [opL 0 [15]])).ok phB 3014 := DS.get dsB (by kernel_rfl)
theorem ok26_is15 : (Def.fn (sortsP g26.ps) (.leaf [opL 0 [14]])).ok phB 3015 := DS.get dsB (by kernel_rfl)
theorem ok26_is16 : (Def.fn (sortsP g26.ps) (.leaf [opL 0 [26, 27, 28, 29, 30]])).ok phB 3016 := DS.get dsB (by kernel_rfl)
theorem ok26_is17 : (Def.fn (sortsP g26.ps) (.leaf [opL 0 [35]])).ok phB 3017 := DS.get dsB (by kernel_rfl)
theorem ok26_is18 : (Def.fn (sortsP g26.ps) (.leaf [opL 0 [9]])).ok phB 3018 := DS.get dsB (by kernel_rfl)
theorem ok26_is19 : (Def.fn (sortsP g26.ps) (.leaf [opL 0 [40, 41]])).ok phB 3019 := DS.get dsB (by kernel_rfl)
theorem ok26_is20 : (Def.fn (sortsP g26.ps) (.leaf [opL 0 [31, 32, 33]])).ok phB 3020 := DS.get dsB (by kernel_rfl)
theorem ok43_w1248 : (Def.fn (sortsP g43_w1248.ps) V43_w1248).ok phB 2001 := DS.get dsB (by kernel_rfl)
theorem ok43_w248 : (Def.fn (sortsP g43_w248.ps) V43_w248).ok phB 2002 := DS.get dsB (by kernel_rfl)
theorem ok43_w8 : (Def.fn (sortsP g43_w8.ps) V43_w8).ok phB 2003 := DS.get dsB (by kernel_rfl)
theorem ok43_w124 : (Def.fn (sortsP g43_w124.ps) V43_w124).ok phB 2004 := DS.get dsB (by kernel_rfl)
theorem ok43_w1 : (Def.fn (sortsP g43_w1.ps) V43_w1).ok phB 2005 := DS.get dsB (by kernel_rfl)
theorem ok44_rm : (Def.fn (sortsP g44_rm.ps) V44_rm).ok phB 2006 := DS.get dsB (by kernel_rfl)
theorem ok44_rmi : (Def.fn (sortsP g44_rmi.ps) V44_rmi).ok phB 2007 := DS.get dsB (by kernel_rfl)
theorem ok44_ri : (Def.fn (sortsP g44_ri.ps) V44_ri).ok phB 2008 := DS.get dsB (by kernel_rfl)
theorem ok44_r : (Def.fn (sortsP g44_r.ps) V44_r).ok phB 2009 := DS.get dsB (by kernel_rfl)
theorem ok44_m : (Def.fn (sortsP g44_m.ps) V44_m).ok phB 2010 := DS.get dsB (by kernel_rfl)
theorem ok44_n : (Def.fn (sortsP g44_n.ps) V44_n).ok phB 2011 := DS.get dsB (by kernel_rfl)
theorem ok44_i : (Def.fn (sortsP g44_i.ps) V44_i).ok phB 2012 := DS.get dsB (by kernel_rfl)
theorem ok44_nrm : (Def.fn (sortsP g44_nrm.ps) V44_nrm).ok phB 2013 := DS.get dsB (by kernel_rfl)
theorem ok33 : (Def.fn (sortsP g33.ps) V33).ok phB 33 := DS.get dsB (by kernel_rfl)
theorem ok24 : (Def.fn (sortsP g24.ps) V24).ok phB 24 := DS.get dsB (by kernel_rfl)
theorem ok51 : (Def.fn (sortsP g51.ps) V51).ok phB 51 := DS.get dsB (by kernel_rfl)
theorem ok45 : (Def.fn (sortsP g45.ps) V45).ok phB 45 := DS.get dsB (by kernel_rfl)
theorem fits_app {n : Nat} (hn : n = 8 ∨ n = 16 ∨ n = 32) (fl : List Value) (h : (E.cmp .eql (.var 1) (.int .i64 (.ofNat n))).den (atS (sortsP g51.ps) fl) phB = .bool true) : phB 51 fl = [(E.app 45 0 (toL (varsE 2))).den (atS (sortsP g51.ps) fl) phB] := by
  have F : Fits (sortsP g51.ps) (symS syB) (atS (sortsP g51.ps) fl) phB := ⟨fun i => coe_has _ _, enB.fit⟩
  obtain ⟨v, hv, hv1, hv2⟩ := F.var 0
  obtain ⟨m, hm, _⟩ := F.var 1
  have hmn : m = Int.ofNat n := by
    simp only [E.den, hm, vint_int, icmp, Value.bool.injEq, beq_iff_eq] at h
    exact h
  subst hmn
  have h51 := ok51 fl
  rw [fits_vals n hn v hv1 hv2 _ _ hv hm] at h51
  have h45 := ok_vars (φ := phB) (s := 45) (ss := (sortsP g51.ps)) (V := V45) ok45 (by kernel_rfl) fl
  have e45 := ok45 fl
  have hlen := VT.len_vals (n := 1) (T := V45) (atS (sortsP g51.ps) fl) phB (by kernel_rfl)
  have hd : (toL (varsE 2)).dens (atS (sortsP g51.ps) fl) phB = (varsE 2).map (·.den (atS (sortsP g51.ps) fl) phB) := toL_dens _
  simp only [E.den, hd]
  have h45' : phB 45 fl = phB 45 ((varsE 2).map (·.den (atS (sortsP g51.ps) fl) phB)) := h45
  rw [← h45', e45, h51]
  change _ = [(VT.vals (atS (sortsP g51.ps) fl) phB V45).getD 0 undef]
  revert hlen
  generalize VT.vals (atS (sortsP g51.ps) fl) phB V45 = l
  intro hlen
  match l, hlen with
  | [x], _ => rfl
noncomputable def V51a : VT := .ite (.cmp .eql (.var 1) (.int .i64 (.ofNat 32))) (.leaf [.app 45 0 (toL (varsE 2))]) V51
noncomputable def V51b : VT := .ite (.cmp .eql (.var 1) (.int .i64 (.ofNat 16))) (.leaf [.app 45 0 (toL (varsE 2))]) V51a
noncomputable def V51c : VT := .ite (.cmp .eql (.var 1) (.int .i64 (.ofNat 8))) (.leaf [.app 45 0 (toL (varsE 2))]) V51b
theorem ok51c : (Def.fn (sortsP g51.ps) V51c).ok phB 51 := case_ok (case_ok (case_ok ok51 _ _ (fits_app (n := 32) (by simp))) _ _ (fits_app (n := 16) (by simp))) _ _ (fits_app (n := 8) (by simp))

noncomputable def DA : List (Nat × Def) := [(33, .fn (sortsP g33.ps) V33), (24, .fn (sortsP g24.ps) V24), (47, .fn (sortsP g47.ps) V47), (28, .fn (sortsP g28.ps) V28), (29, .fn (sortsP g29.ps) V29), (40, .fn (sortsP g40.ps) V40), (48, .fn (sortsP g48.ps) V48), (53, .fn (sortsP g53.ps) V53), (55, .fn (sortsP g55.ps) V55), (1055, .lp (sortsP (lp55_l.ins.map (·.2))) lp55_l.mu V55_l (badE lp55_l)), (51, .fn (sortsP g51.ps) V51c)]
theorem dsDA : DS phB DA := (DS.put (DS.put (DS.put (DS.put (DS.put (DS.put (DS.put (DS.put (DS.put (DS.put (DS.put (DS.nil _) ok51c) ok55_l) ok55) ok53) ok48) ok40) ok29) ok28) ok47) ok24) ok33)
noncomputable def ss33 : List So := sortsP g33.ps
theorem may_opd : evS ⟨Try.prog, ss33, [], [], syB⟩ DA 2000 (.beq (.app 33 0 (toL (varsE ss33.length))) (.app 24 0 (toL (varsE ss33.length)))) [.l 0 [0, 1, 2, 3]] (varsE ss33.length) [] = true := by kernel_rfl
theorem dsOpd : DS phB ((33, .fn ss33 (.leaf [.app 24 0 (toL (varsE ss33.length))])) :: DA) :=
  DS.byE enB dsDA dsDA 33 ss33 V33 (.app 24 0 (toL (varsE ss33.length))) 2000 [.l 0 [0, 1, 2, 3]] (by kernel_rfl) (by kernel_rfl) (by kernel_rfl) (by kernel_rfl) (by kernel_rfl) (by kernel_rfl) (by kernel_rfl) (by kernel_rfl) may_opd
theorem ok33c : (Def.fn ss33 (.leaf [.app 24 0 (toL (varsE 6))])).ok phB 33 := dsOpd _ List.mem_cons_self

noncomputable def DMa : List (Nat × Def) := [(15, .fn (sortsP g15.ps) V15), (8, .fn (sortsP g8.ps) V8), (33, .fn ss33 (.leaf [.app 24 0 (toL (varsE 6))])), (51, .fn (sortsP g51.ps) V51c), (34, .fn (sortsP g34.ps) V34), (35, .fn (sortsP g35.ps) V35), (36, .fn (sortsP g36.ps) V36), (37, .fn (sortsP g37.ps) V37), (38, .fn (sortsP g38.ps) V38), (39, .fn (sortsP g39.ps) V39), (40, .fn (sortsP g40.ps) V40), (42, .fn (sortsP g42.ps) V42), (48, .fn (sortsP g48.ps) V48), (53, .fn (sortsP g53.ps) V53), (55, .fn (sortsP g55.ps) V55), (1055, .lp (sortsP (lp55_l.ins.map (·.2))) lp55_l.mu V55_l (badE lp55_l)), (49, .fn (sortsP g49.ps) V49), (50, .fn (sortsP g50.ps) V50), (54, .fn (sortsP g54.ps) V54), (52, .fn (sortsP g52.ps) V52), (28, .fn (sortsP g28.ps) V28), (29, .fn (sortsP g29.ps) V29), (23, .fn (sortsP g23.ps) V23), (25, .fn (sortsP g25.ps) V25), (46, .fn (sortsP g46.ps) V46), (3000, .fn (sortsP g26.ps) (.leaf [opL 0 [1, 2, 3, 4, 5, 6, 7, 8, 10]])), (3001, .fn (sortsP g26.ps) (.leaf [opL 0 [1, 2, 3, 4, 5, 6, 7, 16, 17, 18, 19, 31, 32, 33]])), (3002, .fn (sortsP g26.ps) (.leaf [opL 0 [34, 35, 36]])), (3003, .fn (sortsP g26.ps) (.leaf [opL 0 [22, 23]])), (3004, .fn (sortsP g26.ps) (.leaf [opL 0 [25, 36]])), (3005, .fn (sortsP g26.ps) (.leaf [opL 0 [16, 17, 18, 19, 20, 21]])), (3006, .fn (sortsP g26.ps) (.leaf [opL 0 [36, 39, 44, 45, 46, 47]])), (3007, .fn (sortsP g26.ps) (.leaf [opL 0 [37, 38]])), (3008, .fn (sortsP g26.ps) (.leaf [opL 0 [13]])), (3009, .fn (sortsP g26.ps) (.leaf [opL 0 [10]])), (3010, .fn (sortsP g26.ps) (.leaf [opL 0 [42, 43]])), (3011, .fn (sortsP g26.ps) (.leaf [opL 0 [12]])), (3012, .fn (sortsP g26.ps) (.leaf [opL 0 [11, 12]])), (3013, .fn (sortsP g26.ps) (.leaf [opL 0 [11, 12, 24, 25, 34]])), (3014, .fn (sortsP g26.ps) (.leaf [opL 0 [15]])), (3015, .fn (sortsP g26.ps) (.leaf [opL 0 [14]])), (3016, .fn (sortsP g26.ps) (.leaf [opL 0 [26, 27, 28, 29, 30]])), (3017, .fn (sortsP g26.ps) (.leaf [opL 0 [35]])), (3018, .fn (sortsP g26.ps) (.leaf [opL 0 [9]])), (3019, .fn (sortsP g26.ps) (.leaf [opL 0 [40, 41]])), (3020, .fn (sortsP g26.ps) (.leaf [opL 0 [31, 32, 33]])), (2001, .fn (sortsP g43_w1248.ps) V43_w1248), (2002, .fn (sortsP g43_w248.ps) V43_w248), (2003, .fn (sortsP g43_w8.ps) V43_w8), (2004, .fn (sortsP g43_w124.ps) V43_w124), (2005, .fn (sortsP g43_w1.ps) V43_w1), (2006, .fn (sortsP g44_rm.ps) V44_rm), (2007, .fn (sortsP g44_rmi.ps) V44_rmi), (2008, .fn (sortsP g44_ri.ps) V44_ri), (2009, .fn (sortsP g44_r.ps) V44_r), (2010, .fn (sortsP g44_m.ps) V44_m), (2011, .fn (sortsP g44_n.ps) V44_n), (2012, .fn (sortsP g44_i.ps) V44_i), (2013, .fn (sortsP g44_nrm.ps) V44_nrm)]
theorem dsDMa : DS phB DMa := (DS.put (DS.put (DS.put (DS.put (DS.put (DS.put (DS.put (DS.put (DS.put (DS.put (DS.put (DS.put (DS.put (DS.put (DS.put (DS.put (DS.put (DS.put (DS.put (DS.put (DS.put (DS.put (DS.put (DS.put (DS.put (DS.put (DS.put (DS.put (DS.put (DS.put (DS.put (DS.put (DS.put (DS.put (DS.put (DS.put (DS.put (DS.put (DS.put (DS.put (DS.put (DS.put (DS.put (DS.put (DS.put (DS.put (DS.put (DS.put (DS.put (DS.put (DS.put (DS.put (DS.put (DS.put (DS.put (DS.put (DS.put (DS.put (DS.put (DS.nil _) ok44_nrm) ok44_i) ok44_n) ok44_m) ok44_r) ok44_ri) ok44_rmi) ok44_rm) ok43_w1) ok43_w124) ok43_w8) ok43_w248) ok43_w1248) ok26_is20) ok26_is19) ok26_is18) ok26_is17) ok26_is16) ok26_is15) ok26_is14) ok26_is13) ok26_is12) ok26_is11) ok26_is10) ok26_is9) ok26_is8) ok26_is7) ok26_is6) ok26_is5) ok26_is4) ok26_is3) ok26_is2) ok26_is1) ok26_is0) ok46) ok25) ok23) ok29) ok28) ok52) ok54) ok50) ok49) ok55_l) ok55) ok53) ok48) ok42) ok40) ok39) ok38) ok37) ok36) ok35) ok34) ok51c) ok33c) ok8) ok15)
noncomputable def V24t : VT := .ite (.cmp .eql (.var 0) (.int .i64 2)) (.leaf [.app 5000 0 (toL (varsE 6))]) V24
theorem ok24t : (Def.fn (sortsP g24.ps) V24t).ok phB 24 := twin_ok ok24 (by kernel_rfl) (by kernel_rfl) ((updF_self _ _ _).trans (updF_ne ph3 (show 24 ≠ 5000 by decide) _).symm) (.cmp .eql (.var 0) (.int .i64 2))
noncomputable def DMs : List (Nat × Def) := [(15, .fn (sortsP g15.ps) V15), (8, .fn (sortsP g8.ps) V8), (33, .fn ss33 (.leaf [.app 24 0 (toL (varsE 6))])), (51, .fn (sortsP g51.ps) V51c), (24, .fn (sortsP g24.ps) V24t), (34, .fn (sortsP g34.ps) V34), (35, .fn (sortsP g35.ps) V35), (36, .fn (sortsP g36.ps) V36), (37, .fn (sortsP g37.ps) V37), (38, .fn (sortsP g38.ps) V38), (39, .fn (sortsP g39.ps) V39), (40, .fn (sortsP g40.ps) V40), (42, .fn (sortsP g42.ps) V42), (48, .fn (sortsP g48.ps) V48), (53, .fn (sortsP g53.ps) V53), (55, .fn (sortsP g55.ps) V55), (1055, .lp (sortsP (lp55_l.ins.map (·.2))) lp55_l.mu V55_l (badE lp55_l)), (49, .fn (sortsP g49.ps) V49), (50, .fn (sortsP g50.ps) V50), (54, .fn (sortsP g54.ps) V54), (52, .fn (sortsP g52.ps) V52), (28, .fn (sortsP g28.ps) V28), (29, .fn (sortsP g29.ps) V29), (23, .fn (sortsP g23.ps) V23), (25, .fn (sortsP g25.ps) V25), (46, .fn (sortsP g46.ps) V46), (3000, .fn (sortsP g26.ps) (.leaf [opL 0 [1, 2, 3, 4, 5, 6, 7, 8, 10]])), (3001, .fn (sortsP g26.ps) (.leaf [opL 0 [1, 2, 3, 4, 5, 6, 7, 16, 17, 18, 19, 31, 32, 33]])), (3002, .fn (sortsP g26.ps) (.leaf [opL 0 [34, 35, 36]])), (3003, .fn (sortsP g26.ps) (.leaf [opL 0 [22, 23]])), (3004, .fn (sortsP g26.ps) (.leaf [opL 0 [25, 36]])), (3005, .fn (sortsP g26.ps) (.leaf [opL 0 [16, 17, 18, 19, 20, 21]])), (3006, .fn (sortsP g26.ps) (.leaf [opL 0 [36, 39, 44, 45, 46, 47]])), (3007, .fn (sortsP g26.ps) (.leaf [opL 0 [37, 38]])), (3008, .fn (sortsP g26.ps) (.leaf [opL 0 [13]])), (3009, .fn (sortsP g26.ps) (.leaf [opL 0 [10]])), (3010, .fn (sortsP g26.ps) (.leaf [opL 0 [42, 43]])), (3011, .fn (sortsP g26.ps) (.leaf [opL 0 [12]])), (3012, .fn (sortsP g26.ps) (.leaf [opL 0 [11, 12]])), (3013, .fn (sortsP g26.ps) (.leaf [opL 0 [11, 12, 24, 25, 34]])), (3014, .fn (sortsP g26.ps) (.leaf [opL 0 [15]])), (3015, .fn (sortsP g26.ps) (.leaf [opL 0 [14]])), (3016, .fn (sortsP g26.ps) (.leaf [opL 0 [26, 27, 28, 29, 30]])), (3017, .fn (sortsP g26.ps) (.leaf [opL 0 [35]])), (3018, .fn (sortsP g26.ps) (.leaf [opL 0 [9]])), (3019, .fn (sortsP g26.ps) (.leaf [opL 0 [40, 41]])), (3020, .fn (sortsP g26.ps) (.leaf [opL 0 [31, 32, 33]])), (2001, .fn (sortsP g43_w1248.ps) V43_w1248), (2002, .fn (sortsP g43_w248.ps) V43_w248), (2003, .fn (sortsP g43_w8.ps) V43_w8), (2004, .fn (sortsP g43_w124.ps) V43_w124), (2005, .fn (sortsP g43_w1.ps) V43_w1), (2006, .fn (sortsP g44_rm.ps) V44_rm), (2007, .fn (sortsP g44_rmi.ps) V44_rmi), (2008, .fn (sortsP g44_ri.ps) V44_ri), (2009, .fn (sortsP g44_r.ps) V44_r), (2010, .fn (sortsP g44_m.ps) V44_m), (2011, .fn (sortsP g44_n.ps) V44_n), (2012, .fn (sortsP g44_i.ps) V44_i), (2013, .fn (sortsP g44_nrm.ps) V44_nrm)]
theorem dsDMs : DS phB DMs := (DS.put (DS.put (DS.put (DS.put (DS.put (DS.put (DS.put (DS.put (DS.put (DS.put (DS.put (DS.put (DS.put (DS.put (DS.put (DS.put (DS.put (DS.put (DS.put (DS.put (DS.put (DS.put (DS.put (DS.put (DS.put (DS.put (DS.put (DS.put (DS.put (DS.put (DS.put (DS.put (DS.put (DS.put (DS.put (DS.put (DS.put (DS.put (DS.put (DS.put (DS.put (DS.put (DS.put (DS.put (DS.put (DS.put (DS.put (DS.put (DS.put (DS.put (DS.put (DS.put (DS.put (DS.put (DS.put (DS.put (DS.put (DS.put (DS.put (DS.put (DS.nil _) ok44_nrm) ok44_i) ok44_n) ok44_m) ok44_r) ok44_ri) ok44_rmi) ok44_rm) ok43_w1) ok43_w124) ok43_w8) ok43_w248) ok43_w1248) ok26_is20) ok26_is19) ok26_is18) ok26_is17) ok26_is16) ok26_is15) ok26_is14) ok26_is13) ok26_is12) ok26_is11) ok26_is10) ok26_is9) ok26_is8) ok26_is7) ok26_is6) ok26_is5) ok26_is4) ok26_is3) ok26_is2) ok26_is1) ok26_is0) ok46) ok25) ok23) ok29) ok28) ok52) ok54) ok50) ok49) ok55_l) ok55) ok53) ok48) ok42) ok40) ok39) ok38) ok37) ok36) ok35) ok34) ok24t) ok51c) ok33c) ok8) ok15)
noncomputable def ssI : List So := sortsP g8.ps
noncomputable def cxI : Cx := ⟨Try.prog, ssI, [], [], syB⟩
noncomputable def sameMay : E := .beq (.app 15 0 (toL (varsE 20))) (.app 8 0 (toL (varsE 20)))
def offW : Facts := [(.cmp .eql (.var 1) (.int .i64 1), false), (.cmp .eql (.var 1) (.int .i64 2), false), (.cmp .eql (.var 1) (.int .i64 4), false), (.cmp .eql (.var 1) (.int .i64 8), false)]

end Go.Proofs.Ytbhhfbenajcinaa
