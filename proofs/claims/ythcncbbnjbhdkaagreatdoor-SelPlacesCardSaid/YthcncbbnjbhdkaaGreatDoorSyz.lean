/- Layer 23: the instructions of a step: contracts. -/
import Derived.Test.YthcncbbnjbhdkaaGreatDoorSyw0
import Derived.Test.YthcncbbnjbhdkaaGreatDoorSyw1
import Derived.Test.YthcncbbnjbhdkaaGreatDoorSyw2
import Derived.Test.YthcncbbnjbhdkaaGreatDoorSe
import Derived.Test.YthcncbbnjbhdkaaGreatDoorSk
namespace Go.Proofs.YthcncbbnjbhdkaaGreatDoor
open Go Go.Proofs Go.RowKit Go.CX Go.SX Go.CX.Cp
noncomputable def phX (f : Nat) (fl : List Value) : List Value := match f with
  | 4 => phS 4 fl
  | 70 => phA Tryz.prog 62 [.int .u64] fl
  | 71 => phA Tryz.prog 105 [.int .u64] fl
  | 72 => phA Tryz.prog 103 [.int .u64, .bool, .bool] fl
  | _ => []
theorem u64_zero : (So.int .u64).has (zeroS (.int .u64)) := ⟨0, rfl, by decide, by decide⟩
theorem fitX : ∀ f j args, (symS syX f j).has ((phX f args).getD j undef) := by
  intro f j args
  by_cases h4 : f = 4
  · subst h4; match j with
    | 0 => exact fitS 4 0 args
    | 1 => exact fitS 4 1 args
    | j + 2 => exact trivial
  by_cases h70 : f = 70
  · subst h70; match j with
    | 0 => exact fixS_has u64_zero _
    | j + 1 => exact trivial
  by_cases h71 : f = 71
  · subst h71; match j with
    | 0 => exact fixS_has u64_zero _
    | j + 1 => exact trivial
  by_cases h72 : f = 72
  · subst h72; match j with
    | 0 => exact fixS_has u64_zero _
    | 1 => exact fixS_has (s := .bool) ⟨false, rfl⟩ _
    | 2 => exact fixS_has (s := .bool) ⟨false, rfl⟩ _
    | j + 3 => exact trivial
  have nb : ∀ k, ¬ f = k → Nat.beq k f = false := fun k h => by
    cases hq : Nat.beq k f
    · rfl
    · exact absurd (Nat.eq_of_beq_eq_true hq).symm h
  have : lookA f syX = none := by
    unfold syX
    simp only [lookA, nb 4 h4, nb 70 h70, nb 71 h71, nb 72 h72, Bool.false_eq_true, if_false]
  unfold symS
  rw [this]; exact trivial
theorem there_of {m n : Int} {k : Nat} (v : Int) (h : ∀ W : World, Calls Tryz.prog 62 #[.int .i64 k, .int .u64 m, .int .u64 n] W fun e W' => e = .returned (.int .u64 v) ∧ Kp W W') (hv : (So.int .u64).has (.int .u64 v)) : ∃ y, There Tryz.prog 62 [.int .u64] [.int .i64 k, .int .u64 m, .int .u64 n] y :=
  ⟨.int .u64 v, ⟨hv, rfl⟩, h⟩
theorem wr_has (v : Int) : (So.int .u64).has (.int .u64 (IntKind.u64.wrap v)) := ⟨_, rfl, wrap_range .u64 _⟩
theorem sym4X : Sym4 phX := fun _ => rfl
theorem enters_do {cx : Cx} (hP : cx.P = Tryz.prog) : Enters cx.P 62 := by rw [hP]; exact enters Tryz.func62 (c := Tryz.f62.body.getD .skip) (by kernel_rfl) (by kernel_rfl)
theorem enters_field {cx : Cx} (hP : cx.P = Tryz.prog) : Enters cx.P 105 := by rw [hP]; exact enters Tryz.func105 (c := Tryz.f105.body.getD .skip) (by kernel_rfl) (by kernel_rfl)
theorem enters_less {cx : Cx} (hP : cx.P = Tryz.prog) : Enters cx.P 103 := by rw [hP]; exact enters Tryz.func103 (c := Tryz.f103.body.getD .skip) (by kernel_rfl) (by kernel_rfl)
section
variable {cx : Cx} {ws : Base} (hP : cx.P = Tryz.prog) (hsy : cx.sy = syX)
 include hP hsy
theorem ex_by {x : Ex} (hin : Enters cx.P x.f) (hφ : ∀ xs, phX x.sym xs = phA Tryz.prog x.f x.ss xs) (h : exT x = true) : ExtOk ws cx phX (exX cx x) := by
  unfold exT at h
  rw [← hP, ← hsy] at h
  exact exX_ok (names_of hP) hin (by rw [hsy]; exact fitX) (fun w => ext0_ok _ _ _) (by rw [hP]; exact hφ) h
theorem do_ok {k : Nat} (H : ∀ m n : Int, Cq.U64 m → Cq.U64 n → ∃ y, There Tryz.prog 62 [.int .u64] [.int .i64 k, .int .u64 m, .int .u64 n] y) : ExtOk ws cx phX (exX cx (doE k)) := by
  have _ := hsy
  refine exX_by (enters_do hP) (by rw [hP]; exact fun _ => rfl) fun vals hv hp => ?_
  have hv : All2 So.has [.int .i64, .int .u64, .int .u64] vals := hv
  have h0 : vals[0]? = some (litV (iE k)) := (hp 0 (iE k) rfl).2
  show ∃ y, There cx.P 62 [.int .u64] vals y
  rw [hP]
  clear hp
  cases vals with
  | nil => exact hv.elim
  | cons x vals =>
    cases vals with
    | nil => exact hv.2.elim
    | cons a vals =>
      cases vals with
      | nil => exact hv.2.2.elim
      | cons b vals =>
        cases vals with
        | cons _ _ => exact hv.2.2.2.elim
        | nil =>
          obtain ⟨_, ⟨m, ha, m0, m1⟩, ⟨n, hb, n0, n1⟩, _⟩ := hv
          simp only [List.getElem?_cons_zero, Option.some.injEq] at h0
          have h0 : x = .int .i64 (k : Int) := h0
          subst h0 ha hb
          have m0 : 0 ≤ m := m0
          have n0 : 0 ≤ n := n0
          have m1 : m ≤ 18446744073709551615 := m1
          have n1 : n ≤ 18446744073709551615 := n1
          exact H m n ⟨m0, by omega⟩ ⟨n0, by omega⟩
theorem do10_ok : ExtOk ws cx phX (exX cx (doE 10)) := by
  refine do_ok hP hsy fun m n hm hn => ?_
  by_cases z : n = 0
  · exact there_of _ (rdo_10_0 m n hm hn z) ⟨0, rfl, by decide, by decide⟩
  · cases ga : ngB m <;> cases gb : ngB n
    · exact there_of _ (rdo_10_ff m n hm hn z ga gb) (wr_has _)
    · exact there_of _ (rdo_10_ft m n hm hn z ga gb) (wr_has _)
    · exact there_of _ (rdo_10_tf m n hm hn z ga gb) (wr_has _)
    · exact there_of _ (rdo_10_tt m n hm hn z ga gb) (wr_has _)
theorem do13_ok : ExtOk ws cx phX (exX cx (doE 13)) :=
  do_ok hP hsy fun m n hm hn => there_of _ (rdo_13 m n hm hn) (wr_has _)
theorem exs_ok : ExtOk ws cx phX (exsX cx) :=
  orX_ok (ex_by hP hsy (enters_do hP) (fun _ => rfl) ex_do_7) (orX_ok (ex_by hP hsy (enters_do hP) (fun _ => rfl) ex_do_8) (orX_ok (ex_by hP hsy (enters_do hP) (fun _ => rfl) ex_do_9) (orX_ok (do10_ok hP hsy) (orX_ok (ex_by hP hsy (enters_do hP) (fun _ => rfl) ex_do_11) (orX_ok (ex_by hP hsy (enters_do hP) (fun _ => rfl) ex_do_12) (orX_ok (do13_ok hP hsy) (orX_ok (ex_by hP hsy (enters_less hP) (fun _ => rfl) ex_less)
    (orX_ok (ex_by hP hsy (enters_field hP) (fun _ => rfl) ex_field_7_f) (orX_ok (ex_by hP hsy (enters_field hP) (fun _ => rfl) ex_field_15_f) (orX_ok (ex_by hP hsy (enters_field hP) (fun _ => rfl) ex_field_31_f) (orX_ok (ex_by hP hsy (enters_field hP) (fun _ => rfl) ex_field_63_f)
      (orX_ok (ex_by hP hsy (enters_field hP) (fun _ => rfl) ex_field_7_t) (orX_ok (ex_by hP hsy (enters_field hP) (fun _ => rfl) ex_field_15_t) (orX_ok (ex_by hP hsy (enters_field hP) (fun _ => rfl) ex_field_31_t) (ex_by hP hsy (enters_field hP) (fun _ => rfl) ex_field_63_t)))))))))))))))
theorem hold_by {c : Nat} (h : holdR c = true) : ExtOk ws cx phX (ptX cx (holdP c)) := by
  unfold holdR at h
  rw [← hP, ← hsy] at h
  exact ptX_ok (names_of hP) (by rw [hP]; exact enters Tryz.func51 (c := Tryz.f51.body.getD .skip) (by kernel_rfl) (by kernel_rfl)) (fun w => ext0_ok _ _ _) h
theorem holds_ok : ExtOk ws cx phX (holdsX cx) := orX_ok (hold_by hP hsy hold_1) (orX_ok (hold_by hP hsy hold_2) (hold_by hP hsy hold_10))
theorem mayY {i : In} (h : mayT syX i = true) : ExtOk ws cx phX (ptX cx (mayP i)) := may_ext hP (sym4X) (by rw [hsy]; exact h)
theorem doneYW_ok {i j : In} (hj : mayT syX j = true) (h : doneYW i j = true) : ExtOk ws cx phX (ptX cx (doneP i)) := by
  unfold doneYW at h
  rw [← hP, ← hsy] at h
  refine ptX_ok (names_of hP) (by rw [hP]; exact enters Tryz.func12 (c := Tryz.f12.body.getD .skip) (by kernel_rfl) (by kernel_rfl)) (fun w => ?_) h
  have hs : (cxS cx.P cx.sy (smP (doneP i))).sy = syX := hsy
  have hp : (cxS cx.P cx.sy (smP (doneP i))).P = Tryz.prog := hP
  exact orX_ok (orX_ok (holds_ok hp hs) (orX_ok (mayY hp hs hj) (orX_ok (sum_ok hp (by rw [hs]; exact rgetX_sum)) (orX_ok (sum_ok hp (by rw [hs]; exact rsetX_sum)) (sum_ok hp (by rw [hs]; exact rholdX_sum)))))) (exs_ok hp hs)
theorem doneY_ok {i : In} (hj : mayT syX i = true) (h : doneY i = true) : ExtOk ws cx phX (ptX cx (doneP i)) := doneYW_ok hP hsy hj h
theorem maysX_ok : ExtOk ws cx phX (ptsX cx maysW) := by
  refine ptsX_ok fun p hp => ?_
  simp only [maysW, List.mem_cons, List.not_mem_nil, or_false] at hp
  rcases hp with rfl | rfl | rfl | rfl
  · exact mayY hP hsy mayX_16
  · exact mayY hP hsy mayX_17
  · exact mayY hP hsy mayX_18
  · exact mayY hP hsy mayX_14
theorem donesX_ok : ExtOk ws cx phX (ptsX cx donesW) := by
  refine ptsX_ok fun p hp => ?_
  simp only [donesW, List.mem_cons, List.not_mem_nil, or_false] at hp
  rcases hp with rfl | rfl | rfl | rfl | rfl | rfl | rfl | rfl | rfl | rfl | rfl | rfl
  · exact doneYW_ok hP hsy mayX_16 doneX_16_0
  · exact doneYW_ok hP hsy mayX_16 doneX_16_1
  · exact doneYW_ok hP hsy mayX_16 doneX_16_2
  · exact doneYW_ok hP hsy mayX_16 doneX_16_3
  · exact doneYW_ok hP hsy mayX_17 doneX_17_0
  · exact doneYW_ok hP hsy mayX_17 doneX_17_1
  · exact doneYW_ok hP hsy mayX_17 doneX_17_2
  · exact doneYW_ok hP hsy mayX_17 doneX_17_3
  · exact doneYW_ok hP hsy mayX_18 doneX_18_1
  · exact doneYW_ok hP hsy mayX_18 doneX_18_2
  · exact doneYW_ok hP hsy mayX_18 doneX_18_3
  · exact doneYW_ok hP hsy mayX_14 doneX_14
end
end Go.Proofs.YthcncbbnjbhdkaaGreatDoor
