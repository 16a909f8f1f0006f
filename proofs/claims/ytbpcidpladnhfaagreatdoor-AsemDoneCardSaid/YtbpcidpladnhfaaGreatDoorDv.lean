/- Layer 22: what any instruction does: the law. -/
import Derived.Test.YtbpcidpladnhfaaGreatDoorDw
import Derived.Test.YtbpcidpladnhfaaGreatDoorDy0
import Derived.Test.YtbpcidpladnhfaaGreatDoorDy1
import Derived.Test.YtbpcidpladnhfaaGreatDoorDy2
import Derived.Test.YtbpcidpladnhfaaGreatDoorDy3
namespace Go.Proofs.YtbpcidpladnhfaaGreatDoor
open Go Go.Proofs Go.RowKit Go.CX Go.SX Go.CX.Cp
theorem done_all : ∀ k, 1 ≤ k → k ≤ 47 → k ≠ 16 → k ≠ 17 → k ≠ 18 → k ≠ 29 → k ≠ 30 → ∀ m ∈ widths k, doneR k m = true := by
  intro k h1 h2 a b c d e
  match k with
  | 0 => omega
  | 1 => intro m hm; simp only [widths, A64.acc, show (Nat.ble 33 1 && Nat.ble 1 38) = false from rfl, Bool.false_eq_true, if_false, List.mem_cons, List.not_mem_nil, or_false] at hm; subst hm; exact done_1_8
  | 2 => intro m hm; simp only [widths, A64.acc, show (Nat.ble 33 2 && Nat.ble 2 38) = false from rfl, Bool.false_eq_true, if_false, List.mem_cons, List.not_mem_nil, or_false] at hm; subst hm; exact done_2_8
  | 3 => intro m hm; simp only [widths, A64.acc, show (Nat.ble 33 3 && Nat.ble 3 38) = false from rfl, Bool.false_eq_true, if_false, List.mem_cons, List.not_mem_nil, or_false] at hm; subst hm; exact done_3_8
  | 4 => intro m hm; simp only [widths, A64.acc, show (Nat.ble 33 4 && Nat.ble 4 38) = false from rfl, Bool.false_eq_true, if_false, List.mem_cons, List.not_mem_nil, or_false] at hm; subst hm; exact done_4_8
  | 5 => intro m hm; simp only [widths, A64.acc, show (Nat.ble 33 5 && Nat.ble 5 38) = false from rfl, Bool.false_eq_true, if_false, List.mem_cons, List.not_mem_nil, or_false] at hm; subst hm; exact done_5_8
  | 6 => intro m hm; simp only [widths, A64.acc, show (Nat.ble 33 6 && Nat.ble 6 38) = false from rfl, Bool.false_eq_true, if_false, List.mem_cons, List.not_mem_nil, or_false] at hm; subst hm; exact done_6_8
  | 7 => intro m hm; simp only [widths, A64.acc, show (Nat.ble 33 7 && Nat.ble 7 38) = false from rfl, Bool.false_eq_true, if_false, List.mem_cons, List.not_mem_nil, or_false] at hm; subst hm; exact done_7_8
  | 8 => intro m hm; simp only [widths, A64.acc, show (Nat.ble 33 8 && Nat.ble 8 38) = false from rfl, Bool.false_eq_true, if_false, List.mem_cons, List.not_mem_nil, or_false] at hm; subst hm; exact done_8_8
  | 9 => intro m hm; simp only [widths, A64.acc, show (Nat.ble 33 9 && Nat.ble 9 38) = false from rfl, Bool.false_eq_true, if_false, List.mem_cons, List.not_mem_nil, or_false] at hm; subst hm; exact done_9_8
  | 10 => intro m hm; simp only [widths, A64.acc, show (Nat.ble 33 10 && Nat.ble 10 38) = false from rfl, Bool.false_eq_true, if_false, List.mem_cons, List.not_mem_nil, or_false] at hm; subst hm; exact done_10_8
  | 11 => intro m hm; simp only [widths, A64.acc, show (Nat.ble 33 11 && Nat.ble 11 38) = false from rfl, Bool.false_eq_true, if_false, List.mem_cons, List.not_mem_nil, or_false] at hm; subst hm; exact done_11_8
  | 12 => intro m hm; simp only [widths, A64.acc, show (Nat.ble 33 12 && Nat.ble 12 38) = false from rfl, Bool.false_eq_true, if_false, List.mem_cons, List.not_mem_nil, or_false] at hm; subst hm; exact done_12_8
  | 13 => intro m hm; simp only [widths, A64.acc, show (Nat.ble 33 13 && Nat.ble 13 38) = false from rfl, Bool.false_eq_true, if_false, List.mem_cons, List.not_mem_nil, or_false] at hm; subst hm; exact done_13_8
  | 14 => intro m hm; simp only [widths, A64.acc, show (Nat.ble 33 14 && Nat.ble 14 38) = false from rfl, Bool.false_eq_true, if_false, List.mem_cons, List.not_mem_nil, or_false] at hm; subst hm; exact done_14_8
  | 15 => intro m hm; simp only [widths, A64.acc, show (Nat.ble 33 15 && Nat.ble 15 38) = false from rfl, Bool.false_eq_true, if_false, List.mem_cons, List.not_mem_nil, or_false] at hm; subst hm; exact done_15_8
  | 16 => omega
  | 17 => omega
  | 18 => omega
  | 19 => intro m hm; simp only [widths, A64.acc, show (Nat.ble 33 19 && Nat.ble 19 38) = false from rfl, Bool.false_eq_true, if_false, List.mem_cons, List.not_mem_nil, or_false] at hm; subst hm; exact done_19_8
  | 20 => intro m hm; simp only [widths, A64.acc, show (Nat.ble 33 20 && Nat.ble 20 38) = false from rfl, Bool.false_eq_true, if_false, List.mem_cons, List.not_mem_nil, or_false] at hm; subst hm; exact done_20_8
  | 21 => intro m hm; simp only [widths, A64.acc, show (Nat.ble 33 21 && Nat.ble 21 38) = false from rfl, Bool.false_eq_true, if_false, List.mem_cons, List.not_mem_nil, or_false] at hm; subst hm; exact done_21_8
  | 22 => intro m hm; simp only [widths, A64.acc, show (Nat.ble 33 22 && Nat.ble 22 38) = false from rfl, Bool.false_eq_true, if_false, List.mem_cons, List.not_mem_nil, or_false] at hm; subst hm; exact done_22_8
  | 23 => intro m hm; simp only [widths, A64.acc, show (Nat.ble 33 23 && Nat.ble 23 38) = false from rfl, Bool.false_eq_true, if_false, List.mem_cons, List.not_mem_nil, or_false] at hm; subst hm; exact done_23_8
  | 24 => intro m hm; simp only [widths, A64.acc, show (Nat.ble 33 24 && Nat.ble 24 38) = false from rfl, Bool.false_eq_true, if_false, List.mem_cons, List.not_mem_nil, or_false] at hm; subst hm; exact done_24_8
  | 25 => intro m hm; simp only [widths, A64.acc, show (Nat.ble 33 25 && Nat.ble 25 38) = false from rfl, Bool.false_eq_true, if_false, List.mem_cons, List.not_mem_nil, or_false] at hm; subst hm; exact done_25_8
  | 26 => intro m hm; simp only [widths, A64.acc, show (Nat.ble 33 26 && Nat.ble 26 38) = false from rfl, Bool.false_eq_true, if_false, List.mem_cons, List.not_mem_nil, or_false] at hm; subst hm; exact done_26_8
  | 27 => intro m hm; simp only [widths, A64.acc, show (Nat.ble 33 27 && Nat.ble 27 38) = false from rfl, Bool.false_eq_true, if_false, List.mem_cons, List.not_mem_nil, or_false] at hm; subst hm; exact done_27_8
  | 28 => intro m hm; simp only [widths, A64.acc, show (Nat.ble 33 28 && Nat.ble 28 38) = false from rfl, Bool.false_eq_true, if_false, List.mem_cons, List.not_mem_nil, or_false] at hm; subst hm; exact done_28_8
  | 29 => omega
  | 30 => omega
  | 31 => intro m hm; simp only [widths, A64.acc, show (Nat.ble 33 31 && Nat.ble 31 38) = false from rfl, Bool.false_eq_true, if_false, List.mem_cons, List.not_mem_nil, or_false] at hm; subst hm; exact done_31_8
  | 32 => intro m hm; simp only [widths, A64.acc, show (Nat.ble 33 32 && Nat.ble 32 38) = false from rfl, Bool.false_eq_true, if_false, List.mem_cons, List.not_mem_nil, or_false] at hm; subst hm; exact done_32_8
  | 33 => intro m hm; simp only [widths, A64.acc, show (Nat.ble 33 33 && Nat.ble 33 38) = true from rfl, if_true, List.mem_cons, List.not_mem_nil, or_false] at hm; rcases hm with rfl | rfl | rfl | rfl; exact done_33_1; exact done_33_2; exact done_33_4; exact done_33_8
  | 34 => intro m hm; simp only [widths, A64.acc, show (Nat.ble 33 34 && Nat.ble 34 38) = true from rfl, if_true, List.mem_cons, List.not_mem_nil, or_false] at hm; rcases hm with rfl | rfl | rfl | rfl; exact done_34_1; exact done_34_2; exact done_34_4; exact done_34_8
  | 35 => intro m hm; simp only [widths, A64.acc, show (Nat.ble 33 35 && Nat.ble 35 38) = true from rfl, if_true, List.mem_cons, List.not_mem_nil, or_false] at hm; rcases hm with rfl | rfl | rfl | rfl; exact done_35_1; exact done_35_2; exact done_35_4; exact done_35_8
  | 36 => intro m hm; simp only [widths, A64.acc, show (Nat.ble 33 36 && Nat.ble 36 38) = true from rfl, if_true, List.mem_cons, List.not_mem_nil, or_false] at hm; rcases hm with rfl | rfl | rfl | rfl; exact done_36_1; exact done_36_2; exact done_36_4; exact done_36_8
  | 37 => intro m hm; simp only [widths, A64.acc, show (Nat.ble 33 37 && Nat.ble 37 38) = true from rfl, if_true, List.mem_cons, List.not_mem_nil, or_false] at hm; rcases hm with rfl | rfl | rfl | rfl; exact done_37_1; exact done_37_2; exact done_37_4; exact done_37_8
  | 38 => intro m hm; simp only [widths, A64.acc, show (Nat.ble 33 38 && Nat.ble 38 38) = true from rfl, if_true, List.mem_cons, List.not_mem_nil, or_false] at hm; rcases hm with rfl | rfl | rfl | rfl; exact done_38_1; exact done_38_2; exact done_38_4; exact done_38_8
  | 39 => intro m hm; simp only [widths, A64.acc, show (Nat.ble 33 39 && Nat.ble 39 38) = false from rfl, Bool.false_eq_true, if_false, List.mem_cons, List.not_mem_nil, or_false] at hm; subst hm; exact done_39_8
  | 40 => intro m hm; simp only [widths, A64.acc, show (Nat.ble 33 40 && Nat.ble 40 38) = false from rfl, Bool.false_eq_true, if_false, List.mem_cons, List.not_mem_nil, or_false] at hm; subst hm; exact done_40_8
  | 41 => intro m hm; simp only [widths, A64.acc, show (Nat.ble 33 41 && Nat.ble 41 38) = false from rfl, Bool.false_eq_true, if_false, List.mem_cons, List.not_mem_nil, or_false] at hm; subst hm; exact done_41_8
  | 42 => intro m hm; simp only [widths, A64.acc, show (Nat.ble 33 42 && Nat.ble 42 38) = false from rfl, Bool.false_eq_true, if_false, List.mem_cons, List.not_mem_nil, or_false] at hm; subst hm; exact done_42_8
  | 43 => intro m hm; simp only [widths, A64.acc, show (Nat.ble 33 43 && Nat.ble 43 38) = false from rfl, Bool.false_eq_true, if_false, List.mem_cons, List.not_mem_nil, or_false] at hm; subst hm; exact done_43_8
  | 44 => intro m hm; simp only [widths, A64.acc, show (Nat.ble 33 44 && Nat.ble 44 38) = false from rfl, Bool.false_eq_true, if_false, List.mem_cons, List.not_mem_nil, or_false] at hm; subst hm; exact done_44_8
  | 45 => intro m hm; simp only [widths, A64.acc, show (Nat.ble 33 45 && Nat.ble 45 38) = false from rfl, Bool.false_eq_true, if_false, List.mem_cons, List.not_mem_nil, or_false] at hm; subst hm; exact done_45_8
  | 46 => intro m hm; simp only [widths, A64.acc, show (Nat.ble 33 46 && Nat.ble 46 38) = false from rfl, Bool.false_eq_true, if_false, List.mem_cons, List.not_mem_nil, or_false] at hm; subst hm; exact done_46_8
  | 47 => intro m hm; simp only [widths, A64.acc, show (Nat.ble 33 47 && Nat.ble 47 38) = false from rfl, Bool.false_eq_true, if_false, List.mem_cons, List.not_mem_nil, or_false] at hm; subst hm; exact done_47_8
  | k + 48 => omega
theorem dones_all : ∀ k, k = 16 ∨ k = 17 ∨ k = 18 → ∀ s : Nat, s < 4 → doneS k s = true := by
  intro k hk s hs
  rcases hk with rfl | rfl | rfl
  · match s with
    | 0 => exact dones_16_0
    | 1 => exact dones_16_1
    | 2 => exact dones_16_2
    | 3 => exact dones_16_3
    | s + 4 => omega
  · match s with
    | 0 => exact dones_17_0
    | 1 => exact dones_17_1
    | 2 => exact dones_17_2
    | 3 => exact dones_17_3
    | s + 4 => omega
  · match s with
    | 0 => exact dones_18_0
    | 1 => exact dones_18_1
    | 2 => exact dones_18_2
    | 3 => exact dones_18_3
    | s + 4 => omega
theorem law_done {cs fl : List Value} (hs : All2 So.has ssC cs) (hi : All2 So.has ssE fl) {v : Int} (hv : 0 ≤ v ∧ v ≤ 18446744073709551615) (ok : Bool) (W : World) (hT : TabsA W) :
    Calls Tryz.prog 3 #[.agg cs.toArray, .agg fl.toArray, .int .u64 v, .bool ok] W fun e W' => e = .returned (.bool true) ∧ Below W.heap.size W W' := by
  have hl : cs.length = 43 := hs.length.symm
  have hl2 : fl.length = 11 := hi.length.symm
  have hq : All2 So.has [.int .u64, .bool] [Value.int .u64 v, .bool ok] := ⟨⟨v, rfl, hv.1, hv.2⟩, ⟨ok, rfl⟩, trivial⟩
  have hall := all2_app hs (all2_app hi hq)
  obtain ⟨ρ, hρ⟩ : ∃ ρ, ρ = rho (cs ++ (fl ++ [.int .u64 v, .bool ok])) := ⟨_, rfl⟩
  have F : Fits cx22.Γ cx22.S ρ ph22 := by rw [hρ]; exact ⟨fun i => all2_get hall i, fit22⟩
  have at43 : ∀ i, i < 11 → ρ (43 + i) = fl.getD i undef := fun i hi' => by
    rw [hρ]
    show (cs ++ _).getD (43 + i) undef = _
    rw [List.getD_eq_getElem?_getD, List.getD_eq_getElem?_getD, List.getElem?_append_right (by omega), hl, Nat.add_sub_cancel_left, List.getElem?_append_left (by omega)]
  have at54 : ρ 54 = .int .u64 v := by
    rw [hρ]
    show (cs ++ _).getD 54 undef = _
    rw [List.getD_eq_getElem?_getD, List.getElem?_append_right (by omega), hl, List.getElem?_append_right (by omega), hl2]; rfl
  have at55 : ρ 55 = .bool ok := by
    rw [hρ]
    show (cs ++ _).getD 55 undef = _
    rw [List.getD_eq_getElem?_getD, List.getElem?_append_right (by omega), hl, List.getElem?_append_right (by omega), hl2]; rfl
  have hcpu : cpuC.is ρ ph22 (fun _ => none) (.agg cs.toArray) := by rw [hρ]; exact cpu_is hs
  have hfl : (List.range' 43 11).map ρ = fl := by
    apply List.ext_getElem?
    intro i
    by_cases h : i < 11
    · rw [List.getElem?_map, List.getElem?_range' h]
      show some (ρ (43 + 1 * i)) = _
      rw [Nat.one_mul, at43 i h, List.getD_eq_getElem?_getD, List.getElem?_eq_getElem (by omega)]; rfl
    · rw [List.getElem?_eq_none (by simp; omega), List.getElem?_eq_none (by omega)]
  clear hρ
  have key : ∀ (es : List E) (fs : Facts) (b : Bool), runD22 es fs b = true → es.map (·.den ρ ph22) = fl → okB fl = b → Facts.hold ρ ph22 fs →
      Calls Tryz.prog 3 #[.agg cs.toArray, .agg fl.toArray, .int .u64 v, .bool ok] W fun e W' => e = .returned (.bool true) ∧ Below W.heap.size W W' := by
    intro es fs b hk he hb hf
    refine law_byE (cx := cx22) rfl (namesOk_spec names_ok) F (rulesD_ok F) (fs := (.app 9 0 (toL es), b) :: fs) (hold_cons _ ?_ hf) (args := [cpuC, .one ⟨true, es.map .e⟩, .one ⟨false, [.e (.var 54)]⟩, .one ⟨false, [.e (.var 55)]⟩]) (xs := [.agg cs.toArray, .agg fl.toArray, .int .u64 v, .bool ok])
      ⟨hcpu, ⟨fl, rfl, ?_⟩, at54.symm, at55.symm, trivial⟩ hk W (fun v hv => by simp [cx22] at hv) (ext22_ok hT)
    · show (ph22 9 (E.dens _ ph22 (toL es))).getD 0 undef = _
      rw [toL_dens, he]
      show Value.bool (okB fl) = _
      rw [hb]
    · have hh : ∀ (es : List E) (vs : List Value), es.map (·.den ρ ph22) = vs → All2 (CX.SC.is ρ ph22 fun _ => none) (es.map .e) vs := by
        intro es
        induction es with
        | nil => intro vs h; subst h; trivial
        | cons e es ih => intro vs h; subst h; exact ⟨rfl, ih _ rfl⟩
      exact hh _ _ he
  by_cases hok : Ok fl
  · obtain ⟨op, m, his⟩ := hok
    have hb := okB_yes ⟨op, m, his⟩
    have hin := insts_in _ his.1
    have h1 : 1 ≤ op := hin.1
    have h47 : op ≤ 47 := hin.2.1
    have c0 : ρ 43 = .int .i64 (Int.ofNat op) := (at43 0 (by decide)).trans his.2.1.1
    have c1 : ρ 44 = .int .i64 (Int.ofNat (A64.wid op m)) := (at43 1 (by decide)).trans his.2.1.2.1
    -- the cells
    have hes : ∀ s : E, s.den ρ ph22 = ρ 53 → (es22 op (A64.wid op m) s).map (·.den ρ ph22) = fl := by
      intro s hse
      refine Eq.trans ?_ hfl
      show [Value.int .i64 (Int.ofNat op), .int .i64 (Int.ofNat (A64.wid op m)), ρ 45, ρ 46, ρ 47, ρ 48, ρ 49, ρ 50, ρ 51, ρ 52, s.den ρ ph22] = [ρ 43, ρ 44, ρ 45, ρ 46, ρ 47, ρ 48, ρ 49, ρ 50, ρ 51, ρ 52, ρ 53]
      rw [c0, c1, hse]
    have cond : ∀ (i : Nat) (o : BinOp) (k : IntKind) (n : Int) (b : Bool), i < 11 → (E.cmp o (.var i) (.int k n), b) ∈ A64.conds op m → (E.cmp o (.var (43 + i)) (.int k n)).den ρ ph22 = .bool b := by
      intro i o k n b hi' hmem
      have := his.2.2 _ hmem
      have this : Value.bool (icmp o (vint (fl.getD i undef)) n) = .bool b := this
      show Value.bool (icmp o (vint (ρ (43 + i))) n) = .bool b
      rw [at43 i hi']; exact this
    have s_lit : op = 16 ∨ op = 17 ∨ op = 18 → Calls Tryz.prog 3 #[.agg cs.toArray, .agg fl.toArray, .int .u64 v, .bool ok] W fun e W' => e = .returned (.bool true) ∧ Below W.heap.size W W' := by
      intro hop
      have hw : A64.wid op m = 8 := by
        have : m ∈ widths op := hin.2.2.2 (by omega)
        rcases hop with rfl | rfl | rfl <;> (have : m = 8 := by simpa [widths, A64.acc] using this) <;> subst this <;> rfl
      have g0 : (E.cmp .lss (.var 53) (.int .i64 0)).den ρ ph22 = .bool false := cond 10 .lss .i64 0 false (by decide) (List.mem_of_getElem? (i := 3) (by rcases hop with rfl | rfl | rfl <;> rfl))
      have g1 : (E.cmp .lss (.var 53) (.int .i64 4)).den ρ ph22 = .bool true := cond 10 .lss .i64 4 true (by decide) (List.mem_of_getElem? (i := 4) (by rcases hop with rfl | rfl | rfl <;> rfl))
      have g2 : (E.cmp .lss (.var 49) (.int .u64 65536)).den ρ ph22 = .bool true := cond 6 .lss .u64 65536 true (by decide) (List.mem_of_getElem? (i := 2) (by rcases hop with rfl | rfl | rfl <;> rfl))
      obtain ⟨n, hn, _⟩ := so_num F (x := .var 53) (k := .i64) rfl
      have hn : ρ 53 = .int .i64 n := hn
      have g0 : Value.bool (decide (vint (ρ 53) < 0)) = .bool false := g0
      have g1 : Value.bool (decide (vint (ρ 53) < 4)) = .bool true := g1
      rw [hn] at g0 g1
      have g0 : ¬ n < 0 := of_decide_eq_false (Value.bool.inj g0)
      have g1 : n < 4 := of_decide_eq_true (Value.bool.inj g1)
      obtain ⟨s, rfl⟩ := Int.eq_ofNat_of_zero_le (show 0 ≤ n by omega)
      have hr := dones_all op hop s (by omega)
      unfold doneS at hr
      have he := hes (.int .i64 (Int.ofNat s)) hn.symm
      rw [hw] at he
      refine key _ _ true hr he hb ?_
      split
      · exact hold_cons _ g2 hold_nil
      · exact hold_nil
    have f_lit : op = 29 ∨ op = 30 → Calls Tryz.prog 3 #[.agg cs.toArray, .agg fl.toArray, .int .u64 v, .bool ok] W fun e W' => e = .returned (.bool true) ∧ Below W.heap.size W W' := by
      intro hop
      have hw : A64.wid op m = 8 := by
        have : m ∈ widths op := hin.2.2.2 (by omega)
        rcases hop with rfl | rfl <;> (have : m = 8 := by simpa [widths, A64.acc] using this) <;> subst this <;> rfl
      have hr : doneF op = true := by
        rcases hop with rfl | rfl
        · exact donef_29
        · exact donef_30
      unfold doneF at hr
      have he := hes (.var 53) rfl
      rw [hw] at he
      refine key _ _ true hr he hb (hold_cons _ ?_ (hold_cons _ ?_ (hold_cons _ ?_ (hold_cons _ ?_ hold_nil))))
      · exact cond 9 .lss .i64 0 false (by decide) (List.mem_of_getElem? (i := 6) (by rcases hop with rfl | rfl <;> rfl))
      · exact cond 9 .lss .i64 64 true (by decide) (List.mem_of_getElem? (i := 7) (by rcases hop with rfl | rfl <;> rfl))
      · exact cond 10 .lss .i64 0 false (by decide) (List.mem_of_getElem? (i := 4) (by rcases hop with rfl | rfl <;> rfl))
      · exact cond 10 .lss .i64 64 true (by decide) (List.mem_of_getElem? (i := 5) (by rcases hop with rfl | rfl <;> rfl))
    by_cases hA : op = 16 ∨ op = 17 ∨ op = 18
    · exact s_lit hA
    · by_cases hB : op = 29 ∨ op = 30
      · exact f_lit hB
      · have hw : A64.wid op m ∈ widths op := by
          by_cases h39 : op = 39
          · subst h39; exact List.mem_cons_self
          · have := hin.2.2.2 h39
            unfold A64.wid
            rw [show Nat.beq op 39 = false from nbeq_no h39]
            exact this
        have hr := done_all op h1 h47 (by omega) (by omega) (by omega) (by omega) (by omega) _ hw
        unfold doneR at hr
        exact key _ [] true hr (hes (.var 53) rfl) hb hold_nil
  · have hA : esA22.map (fun e : E => e.den ρ ph22) = (List.range' 43 11).map ρ := rfl
    exact key _ [] false done_no (hA.trans hfl) (okB_no hok) hold_nil
end Go.Proofs.YtbpcidpladnhfaaGreatDoor
