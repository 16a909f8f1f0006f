import Derived.Test.YtbhhfbenajcinaaSXv
import Derived.Test.YtbhhfbenajcinaaSc
import Derived.KernelRfl
import Derived.Test.YtbhhfbenajcinaaProg

namespace Go.Proofs.Ytbhhfbenajcinaa
open Go Go.SX Go.Proofs
/- calque/calquelaw05.opd -/
noncomputable def b18 : Code := Try.f18.body.getD .skip
noncomputable def g18 : Sig := { f := 18, sym := 18, ps := [.val true [(.int .i64), (.int .i64), (.int .i64), (.int .i64), (.int .i64), (.int .i64)]], rs := [.val true [(.int .i64), (.int .i64), (.int .i64), (.int .i64), (.int .i64), (.int .i64)]] }
noncomputable def n18 : Nat := g18.ps.length + (Try.f18.ntmps - g18.ps.length)
noncomputable def T18 : RTree := fnT Try.prog ct7 sy7 [] 500 Try.f18 b18 g18
noncomputable def ct18 : List Sig := g18 :: ct7
noncomputable def sy18 : List (Nat × List So) := (18, g18.rs.flatMap RK.sorts) :: sy7
noncomputable def ph18 : Nat → List Value → List Value := updF ph7 18 (SX.auto T18 (sortsP g18.ps) ph7)
theorem en18 : Env Try.prog ct18 sy18 ph18 :=
  Env.auto en7 [] 500 Try.f18 b18 g18 (by kernel_rfl) (by kernel_rfl) (by kernel_rfl) (by kernel_rfl) (by kernel_rfl) (by kernel_rfl) (by kernel_rfl) (by kernel_rfl) (fun _ h => by simp at h) (by kernel_rfl)
noncomputable def V18 : VT := (.leaf [(.var 0), (.var 1), (.var 2), (.var 3), (.var 4), (.var 5)])
noncomputable def D18 : List (Nat × Def) := (18, .fn (sortsP g18.ps) V18) :: D7
theorem ds18 : DS ph18 D18 := DS.fn ds7 18 _ T18 V18 (by kernel_rfl) (by kernel_rfl) (by kernel_rfl)
/- calque/calquelaw05.Ours -/
noncomputable def b6 : Code := Try.f6.body.getD .skip
noncomputable def g6 : Sig := { f := 6, sym := 6, ps := [.val true [(.int .i64), (.int .i64), (.int .i64), (.int .i64), (.int .i64), (.int .i64), (.int .i64), (.int .i64), (.int .i64), (.int .i64), (.int .i64), (.int .i64), (.int .i64), (.int .i64), (.int .i64), (.int .i64), (.int .i64), .bool, .bool, (.int .i64)]], rs := [.val true [(.int .i64), (.int .i64), (.int .i64), (.int .i64), (.int .i64), (.int .i64), (.int .i64), (.int .i64), (.int .i64), (.int .i64), (.int .i64), (.int .i64), (.int .i64), (.int .i64), (.int .i64), (.int .i64), (.int .i64), .bool, .bool, (.int .i64)]] }
noncomputable def n6 : Nat := g6.ps.length + (Try.f6.ntmps - g6.ps.length)
noncomputable def T6 : RTree := fnT Try.prog ct18 sy18 [] 500 Try.f6 b6 g6
noncomputable def ct6 : List Sig := g6 :: ct18
noncomputable def sy6 : List (Nat × List So) := (6, g6.rs.flatMap RK.sorts) :: sy18
noncomputable def ph6 : Nat → List Value → List Value := updF ph18 6 (SX.auto T6 (sortsP g6.ps) ph18)
theorem en6 : Env Try.prog ct6 sy6 ph6 :=
  Env.auto en18 [] 500 Try.f6 b6 g6 (by kernel_rfl) (by kernel_rfl) (by kernel_rfl) (by kernel_rfl) (by kernel_rfl) (by kernel_rfl) (by kernel_rfl) (by kernel_rfl) (fun _ h => by simp at h) (by kernel_rfl)
noncomputable def V6 : VT := (.leaf [(.var 0), (.var 1), (.var 2), (.app 18 0 (.cons (.var 3) (.cons (.var 4) (.cons (.var 5) (.cons (.var 6) (.cons (.var 7) (.cons (.var 8) .nil))))))), (.app 18 1 (.cons (.var 3) (.cons (.var 4) (.cons (.var 5) (.cons (.var 6) (.cons (.var 7) (.cons (.var 8) .nil))))))), (.app 18 2 (.cons (.var 3) (.cons (.var 4) (.cons (.var 5) (.cons (.var 6) (.cons (.var 7) (.cons (.var 8) .nil))))))), (.app 18 3 (.cons (.var 3) (.cons (.var 4) (.cons (.var 5) (.cons (.var 6) (.cons (.var 7) (.cons (.var 8) .nil))))))), (.app 18 4 (.cons (.var 3) (.cons (.var 4) (.cons (.var 5) (.cons (.var 6) (.cons (.var 7) (.cons (.var 8) .nil))))))), (.app 18 5 (.cons (.var 3) (.cons (.var 4) (.cons (.var 5) (.cons (.var 6) (.cons (.var 7) (.cons (.var 8) .nil))))))), (.app 18 0 (.cons (.var 9) (.cons (.var 10) (.cons (.var 11) (.cons (.var 12) (.cons (.var 13) (.cons (.var 14) .nil))))))), (.app 18 1 (.cons (.var 9) (.cons (.var 10) (.cons (.var 11) (.cons (.var 12) (.cons (.var 13) (.cons (.var 14) .nil))))))), (.app 18 2 (.cons (.var 9) (.cons (.var 10) (.cons (.var 11) (.cons (.var 12) (.cons (.var 13) (.cons (.var 14) .nil))))))), (.app 18 3 (.cons (.var 9) (.cons (.var 10) (.cons (.var 11) (.cons (.var 12) (.cons (.var 13) (.cons (.var 14) .nil))))))), (.app 18 4 (.cons (.var 9) (.cons (.var 10) (.cons (.var 11) (.cons (.var 12) (.cons (.var 13) (.cons (.var 14) .nil))))))), (.app 18 5 (.cons (.var 9) (.cons (.var 10) (.cons (.var 11) (.cons (.var 12) (.cons (.var 13) (.cons (.var 14) .nil))))))), (.var 15), (.var 16), (.var 17), (.var 18), (.var 19)])
noncomputable def D6 : List (Nat × Def) := (6, .fn (sortsP g6.ps) V6) :: D18
theorem ds6 : DS ph6 D6 := DS.fn ds18 6 _ T6 V6 (by kernel_rfl) (by kernel_rfl) (by kernel_rfl)
/- calque/calqueref11.one -/
noncomputable def b31 : Code := Try.f31.body.getD .skip
noncomputable def g31 : Sig := { f := 31, sym := 31, ps := [.val false [.str], .sl [.str]], rs := [.val false [.bool]] }
noncomputable def n31 : Nat := g31.ps.length + (Try.f31.ntmps - g31.ps.length)
noncomputable def c31_l : Code := loopOf 2 b31
noncomputable def lp31_l : Lp := { key := 2, sym := 1031, ins := [(7, .sl [.str]), (9, .val false [.int .i64]), (0, .val false [.str])], exits := [(.ret, [(4, .val false [.bool])]), (.exit 0, [])], als := [(8, .var 0)], pre := [(.cmp .lss (.var 2) (.int .i64 0), false)], mu := .bin .sub .i64 (.var 0) (.var 2) }
noncomputable def t31_l : Tree := lpTree Try.prog ct6 sy6 [] n31 300 lp31_l c31_l
noncomputable def sy31_l : List (Nat × List So) := (1031, lp31_l.sorts) :: sy6
noncomputable def ph31_l : Nat → List Value → List Value := updF ph6 1031 (lpF lp31_l (lpCx Try.prog ct6 sy6 lp31_l) (sortsP (lp31_l.ins.map (·.2))).length (wrs c31_l) t31_l ph6)
theorem enl31_l : Env Try.prog ct6 sy31_l ph31_l ∧ lp31_l.Sound Try.prog ph31_l n31 c31_l :=
  Env.loop en6 [] _ 300 lp31_l c31_l (by kernel_rfl) (fun _ h => by simp at h) (by kernel_rfl) (by kernel_rfl)
theorem en31_l : Env Try.prog ct6 sy31_l ph31_l := enl31_l.1
noncomputable def ct31_l : List Sig := ct6
noncomputable def V31_l : LT := (.ite (.cmp .lss (.var 2) (.var 0))
 (.ite (.seq (.el (.var 1) (.var 2) 1 0 .str) (.var 3))
 (.out [(.int .i64 (.ofNat 0)), (.bool true)])
 (.next [(.var 0), (.var 1), (.bin .add .i64 (.var 2) (.int .i64 (.ofNat 1))), (.var 3)]))
 (.out [(.int .i64 (.ofNat 1)), (.val (.bool false))]))
noncomputable def D31_l : List (Nat × Def) := (1031, .lp (sortsP (lp31_l.ins.map (·.2))) lp31_l.mu V31_l (badE lp31_l)) :: D6
theorem ds31_l : DS ph31_l D31_l := DS.lp ds6 lp31_l _ _ t31_l V31_l (by kernel_rfl) (by kernel_rfl) (by kernel_rfl)
noncomputable def T31 : RTree := fnT Try.prog ct31_l sy31_l [lp31_l] 500 Try.f31 b31 g31
noncomputable def ct31 : List Sig := g31 :: ct31_l
noncomputable def sy31 : List (Nat × List So) := (31, g31.rs.flatMap RK.sorts) :: sy31_l
noncomputable def ph31 : Nat → List Value → List Value := updF ph31_l 31 (SX.auto T31 (sortsP g31.ps) ph31_l)
theorem en31 : Env Try.prog ct31 sy31 ph31 :=
  Env.auto en31_l [lp31_l] 500 Try.f31 b31 g31 (by kernel_rfl) (by kernel_rfl) (by kernel_rfl) (by kernel_rfl) (by kernel_rfl) (by kernel_rfl) (by kernel_rfl) (by kernel_rfl) (fun lp hlp l hl hk => by
    obtain rfl : lp = lp31_l := by simpa using hlp
    rw [loops_one (k := 2) (c := c31_l) (by kernel_rfl) l hl hk]
    exact enl31_l.2) (by kernel_rfl)
noncomputable def V31 : VT := (.ite (.cmp .eql (.app 1031 0 (.cons (.var 1) (.cons (.var 2) (.cons (.int .i64 (.ofNat 0)) (.cons (.var 0) .nil))))) (.int .i64 (.ofNat 0)))
 (.leaf [(.app 1031 1 (.cons (.var 1) (.cons (.var 2) (.cons (.int .i64 (.ofNat 0)) (.cons (.var 0) .nil)))))])
 (.leaf [(.bool false)]))
noncomputable def D31 : List (Nat × Def) := (31, .fn (sortsP g31.ps) V31) :: D31_l
theorem ds31 : DS ph31 D31 := DS.fn ds31_l 31 _ T31 V31 (by kernel_rfl) (by kernel_rfl) (by kernel_rfl)
/- calque/calqueref05.Words -/
noncomputable def b30 : Code := Try.f30.body.getD .skip
noncomputable def g30 : Sig := { f := 30, sym := 30, ps := [], rs := [.row 48 .str] }
noncomputable def n30 : Nat := g30.ps.length + (Try.f30.ntmps - g30.ps.length)
noncomputable def T30 : RTree := fnT Try.prog ct31 sy31 [] 500 Try.f30 b30 g30
noncomputable def ct30 : List Sig := g30 :: ct31
noncomputable def sy30 : List (Nat × List So) := (30, g30.rs.flatMap RK.sorts) :: sy31
noncomputable def ph30 : Nat → List Value → List Value := updF ph31 30 (SX.autoRow T30 (sortsP g30.ps) ph31)
theorem en30 : Env Try.prog ct30 sy30 ph30 :=
  Env.autoRow en31 [] 500 Try.f30 b30 g30 48 .str (by kernel_rfl) (by kernel_rfl) (by kernel_rfl) (by kernel_rfl) (by kernel_rfl) (by kernel_rfl) (by kernel_rfl) (fun _ h => by simp at h) (by rfl) (by rfl) (by kernel_rfl)
noncomputable def V30 : VT := (.leaf [(.val (.string ⟨#[]⟩)), (.val (.string ⟨#[97, 100, 100]⟩)), (.val (.string ⟨#[111, 114]⟩)), (.val (.string ⟨#[97, 100, 99]⟩)), (.val (.string ⟨#[115, 98, 98]⟩)), (.val (.string ⟨#[97, 110, 100]⟩)), (.val (.string ⟨#[115, 117, 98]⟩)), (.val (.string ⟨#[120, 111, 114]⟩)), (.val (.string ⟨#[99, 109, 112]⟩)), (.val (.string ⟨#[116, 101, 115, 116]⟩)), (.val (.string ⟨#[109, 111, 118]⟩)), (.val (.string ⟨#[109, 111, 118, 122, 120]⟩)), (.val (.string ⟨#[109, 111, 118, 115, 120]⟩)), (.val (.string ⟨#[108, 101, 97]⟩)), (.val (.string ⟨#[112, 117, 115, 104]⟩)), (.val (.string ⟨#[112, 111, 112]⟩)), (.val (.string ⟨#[105, 110, 99]⟩)), (.val (.string ⟨#[100, 101, 99]⟩)), (.val (.string ⟨#[110, 111, 116]⟩)), (.val (.string ⟨#[110, 101, 103]⟩)), (.val (.string ⟨#[109, 117, 108]⟩)), (.val (.string ⟨#[115, 109, 117, 108]⟩)), (.val (.string ⟨#[100, 105, 118]⟩)), (.val (.string ⟨#[115, 100, 105, 118]⟩)), (.val (.string ⟨#[105, 109, 117, 108]⟩)), (.val (.string ⟨#[105, 109, 117, 108, 105]⟩)), (.val (.string ⟨#[114, 111, 108]⟩)), (.val (.string ⟨#[114, 111, 114]⟩)), (.val (.string ⟨#[115, 104, 108]⟩)), (.val (.string ⟨#[115, 104, 114]⟩)), (.val (.string ⟨#[115, 97, 114]⟩)), (.val (.string ⟨#[120, 99, 104, 103]⟩)), (.val (.string ⟨#[99, 97, 115]⟩)), (.val (.string ⟨#[120, 97, 100, 100]⟩)), (.val (.string ⟨#[99, 109, 111, 118]⟩)), (.val (.string ⟨#[115, 101, 116]⟩)), (.val (.string ⟨#[106, 99, 99]⟩)), (.val (.string ⟨#[106, 109, 112]⟩)), (.val (.string ⟨#[99, 97, 108, 108]⟩)), (.val (.string ⟨#[114, 101, 116]⟩)), (.val (.string ⟨#[119, 105, 100, 101]⟩)), (.val (.string ⟨#[115, 105, 103, 110]⟩)), (.val (.string ⟨#[109, 111, 118, 115]⟩)), (.val (.string ⟨#[115, 116, 111, 115]⟩)), (.val (.string ⟨#[102, 101, 110, 99, 101]⟩)), (.val (.string ⟨#[110, 111, 112]⟩)), (.val (.string ⟨#[115, 121, 115]⟩)), (.val (.string ⟨#[117, 100]⟩))])
noncomputable def D30 : List (Nat × Def) := (30, .fn (sortsP g30.ps) V30) :: D31
theorem ds30 : DS ph30 D30 := DS.row ds31 30 _ T30 V30 (by kernel_rfl) (by kernel_rfl) (by kernel_rfl)
/- (calque/calqueref05.Inst).is -/
noncomputable def b26 : Code := Try.f26.body.getD .skip
noncomputable def g26 : Sig := { f := 26, sym := 26, ps := [.val true [(.int .i64), (.int .i64), (.int .i64), (.int .i64), (.int .i64), (.int .i64), (.int .i64), (.int .i64), (.int .i64), (.int .i64), (.int .i64), (.int .i64), (.int .i64), (.int .i64), (.int .i64), (.int .i64), (.int .i64), .bool, .bool, (.int .i64)], .val false [.str]], rs := [.val false [.bool]], imp := [(.cmp .lss (.var 0) (.int .i64 1), false), (.cmp .lss (.int .i64 47) (.var 0), false)] }
noncomputable def n26 : Nat := g26.ps.length + (Try.f26.ntmps - g26.ps.length)
noncomputable def c26_l : Code := loopOf 5 b26
noncomputable def lp26_l : Lp := { key := 5, sym := 1026, ins := [(5, .val false [.str]), (1, .val false [.str]), (6, .val false [.int .i64])], exits := [(.ret, [(4, .val false [.bool])]), (.exit 0, [])], als := [], pre := [(.cmp .lss (.var 2) (.int .i64 0), false), (.cmp .lss (.int .i64 281474976710656) (.var 2), false)], mu := .bin .sub .i64 (.len (.var 1)) (.var 2) }
noncomputable def t26_l : Tree := lpTree Try.prog ct30 sy30 [] n26 300 lp26_l c26_l
noncomputable def sy26_l : List (Nat × List So) := (1026, lp26_l.sorts) :: sy30
noncomputable def ph26_l : Nat → List Value → List Value := updF ph30 1026 (lpF lp26_l (lpCx Try.prog ct30 sy30 lp26_l) (sortsP (lp26_l.ins.map (·.2))).length (wrs c26_l) t26_l ph30)
theorem enl26_l : Env Try.prog ct30 sy26_l ph26_l ∧ lp26_l.Sound Try.prog ph26_l n26 c26_l :=
  Env.loop en30 [] _ 300 lp26_l c26_l (by kernel_rfl) (fun _ h => by simp at h) (by kernel_rfl) (by kernel_rfl)
theorem en26_l : Env Try.prog ct30 sy26_l ph26_l := enl26_l.1
noncomputable def ct26_l : List Sig := ct30
noncomputable def V26_l : LT := (.ite (.cmp .lss (.len (.var 1)) (.bin .add .i64 (.var 2) (.len (.var 0))))
 (.out [(.int .i64 (.ofNat 1)), (.val (.bool false))])
 (.ite (.seq (.cut (.var 1) (.var 2) (.bin .add .i64 (.var 2) (.len (.var 0)))) (.var 0))
 (.ite (.cmp .eql (.var 2) (.int .i64 (.ofNat 0)))
 (.ite (.cmp .eql (.bin .add .i64 (.var 2) (.len (.var 0))) (.len (.var 1)))
 (.out [(.int .i64 (.ofNat 0)), (.bool true)])
 (.ite (.cmp .eql (.byte (.var 1) (.bin .add .i64 (.var 2) (.len (.var 0)))) (.int .u8 (.ofNat 32)))
 (.out [(.int .i64 (.ofNat 0)), (.bool true)])
 (.next [(.var 0), (.var 1), (.bin .add .i64 (.var 2) (.int .i64 (.ofNat 1)))])))
 (.ite (.cmp .eql (.byte (.var 1) (.bin .sub .i64 (.var 2) (.int .i64 (.ofNat 1)))) (.int .u8 (.ofNat 32)))
 (.ite (.cmp .eql (.bin .add .i64 (.var 2) (.len (.var 0))) (.len (.var 1)))
 (.out [(.int .i64 (.ofNat 0)), (.bool true)])
 (.ite (.cmp .eql (.byte (.var 1) (.bin .add .i64 (.var 2) (.len (.var 0)))) (.int .u8 (.ofNat 32)))
 (.out [(.int .i64 (.ofNat 0)), (.bool true)])
 (.next [(.var 0), (.var 1), (.bin .add .i64 (.var 2) (.int .i64 (.ofNat 1)))])))
 (.next [(.var 0), (.var 1), (.bin .add .i64 (.var 2) (.int .i64 (.ofNat 1)))])))
 (.next [(.var 0), (.var 1), (.bin .add .i64 (.var 2) (.int .i64 (.ofNat 1)))])))
noncomputable def D26_l : List (Nat × Def) := (1026, .lp (sortsP (lp26_l.ins.map (·.2))) lp26_l.mu V26_l (badE lp26_l)) :: D30
theorem ds26_l : DS ph26_l D26_l := DS.lp ds30 lp26_l _ _ t26_l V26_l (by kernel_rfl) (by kernel_rfl) (by kernel_rfl)
noncomputable def T26 : RTree := fnT Try.prog ct26_l sy26_l [lp26_l] 500 Try.f26 b26 g26
noncomputable def ct26 : List Sig := g26 :: ct26_l
noncomputable def sy26 : List (Nat × List So) := (26, g26.rs.flatMap RK.sorts) :: sy26_l
noncomputable def ph26 : Nat → List Value → List Value := updF ph26_l 26 (SX.auto T26 (sortsP g26.ps) ph26_l)
theorem en26 : Env Try.prog ct26 sy26 ph26 :=
  Env.auto en26_l [lp26_l] 500 Try.f26 b26 g26 (by kernel_rfl) (by kernel_rfl) (by kernel_rfl) (by kernel_rfl) (by kernel_rfl) (by kernel_rfl) (by kernel_rfl) (by kernel_rfl) (fun lp hlp l hl hk => by
    obtain rfl : lp = lp26_l := by simpa using hlp
    rw [loops_one (k := 5) (c := c26_l) (by kernel_rfl) l hl hk]
    exact enl26_l.2) (by kernel_rfl)
noncomputable def V26 : VT := (.ite (.cmp .lss (.var 0) (.int .i64 (.ofNat 1)))
 (.leaf [(.bool false)])
 (.ite (.cmp .lss (.int .i64 (.ofNat 47)) (.var 0))
 (.leaf [(.bool false)])
 (.ite (.cmp .eql (.app 1026 0 (.cons (.idx (.var 0) (.cons (.app 30 0 .nil) (.cons (.app 30 1 .nil) (.cons (.app 30 2 .nil) (.cons (.app 30 3 .nil) (.cons (.app 30 4 .nil) (.cons (.app 30 5 .nil) (.cons (.app 30 6 .nil) (.cons (.app 30 7 .nil) (.cons (.app 30 8 .nil) (.cons (.app 30 9 .nil) (.cons (.app 30 10 .nil) (.cons (.app 30 11 .nil) (.cons (.app 30 12 .nil) (.cons (.app 30 13 .nil) (.cons (.app 30 14 .nil) (.cons (.app 30 15 .nil) (.cons (.app 30 16 .nil) (.cons (.app 30 17 .nil) (.cons (.app 30 18 .nil) (.cons (.app 30 19 .nil) (.cons (.app 30 20 .nil) (.cons (.app 30 21 .nil) (.cons (.app 30 22 .nil) (.cons (.app 30 23 .nil) (.cons (.app 30 24 .nil) (.cons (.app 30 25 .nil) (.cons (.app 30 26 .nil) (.cons (.app 30 27 .nil) (.cons (.app 30 28 .nil) (.cons (.app 30 29 .nil) (.cons (.app 30 30 .nil) (.cons (.app 30 31 .nil) (.cons (.app 30 32 .nil) (.cons (.app 30 33 .nil) (.cons (.app 30 34 .nil) (.cons (.app 30 35 .nil) (.cons (.app 30 36 .nil) (.cons (.app 30 37 .nil) (.cons (.app 30 38 .nil) (.cons (.app 30 39 .nil) (.cons (.app 30 40 .nil) (.cons (.app 30 41 .nil) (.cons (.app 30 42 .nil) (.cons (.app 30 43 .nil) (.cons (.app 30 44 .nil) (.cons (.app 30 45 .nil) (.cons (.app 30 46 .nil) (.cons (.app 30 47 .nil) .nil))))))))))))))))))))))))))))))))))))))))))))))))) (.cons (.var 20) (.cons (.int .i64 (.ofNat 0)) .nil)))) (.int .i64 (.ofNat 0)))
 (.leaf [(.app 1026 1 (.cons (.idx (.var 0) (.cons (.app 30 0 .nil) (.cons (.app 30 1 .nil) (.cons (.app 30 2 .nil) (.cons (.app 30 3 .nil) (.cons (.app 30 4 .nil) (.cons (.app 30 5 .nil) (.cons (.app 30 6 .nil) (.cons (.app 30 7 .nil) (.cons (.app 30 8 .nil) (.cons (.app 30 9 .nil) (.cons (.app 30 10 .nil) (.cons (.app 30 11 .nil) (.cons (.app 30 12 .nil) (.cons (.app 30 13 .nil) (.cons (.app 30 14 .nil) (.cons (.app 30 15 .nil) (.cons (.app 30 16 .nil) (.cons (.app 30 17 .nil) (.cons (.app 30 18 .nil) (.cons (.app 30 19 .nil) (.cons (.app 30 20 .nil) (.cons (.app 30 21 .nil) (.cons (.app 30 22 .nil) (.cons (.app 30 23 .nil) (.cons (.app 30 24 .nil) (.cons (.app 30 25 .nil) (.cons (.app 30 26 .nil) (.cons (.app 30 27 .nil) (.cons (.app 30 28 .nil) (.cons (.app 30 29 .nil) (.cons (.app 30 30 .nil) (.cons (.app 30 31 .nil) (.cons (.app 30 32 .nil) (.cons (.app 30 33 .nil) (.cons (.app 30 34 .nil) (.cons (.app 30 35 .nil) (.cons (.app 30 36 .nil) (.cons (.app 30 37 .nil) (.cons (.app 30 38 .nil) (.cons (.app 30 39 .nil) (.cons (.app 30 40 .nil) (.cons (.app 30 41 .nil) (.cons (.app 30 42 .nil) (.cons (.app 30 43 .nil) (.cons (.app 30 44 .nil) (.cons (.app 30 45 .nil) (.cons (.app 30 46 .nil) (.cons (.app 30 47 .nil) .nil))))))))))))))))))))))))))))))))))))))))))))))))) (.cons (.var 20) (.cons (.int .i64 (.ofNat 0)) .nil))))])
 (.leaf [(.bool false)]))))
noncomputable def D26 : List (Nat × Def) := (26, .fn (sortsP g26.ps) V26) :: D26_l
theorem ds26 : DS ph26 D26 := DS.fn ds26_l 26 _ T26 V26 (by kernel_rfl) (by kernel_rfl) (by kernel_rfl)
end Go.Proofs.Ytbhhfbenajcinaa
