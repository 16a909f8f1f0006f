import Derived.Test.YtbhhfbenajcinaaSXv

import Derived.KernelRfl
import Derived.Test.YtbhhfbenajcinaaProg

namespace Go.Proofs.Ytbhhfbenajcinaa
open Go Go.SX Go.Proofs
noncomputable def ct0 : List Sig := []
noncomputable def sy0 : List (Nat × List So) := []
noncomputable def ph0 : Nat → List Value → List Value := fun _ _ => []
noncomputable def D0 : List (Nat × Def) := []
theorem en0 : Env Try.prog ct0 sy0 ph0 := Env.nil _ _
theorem ds0 : DS ph0 D0 := DS.nil _
/- slices.Index[[]int,int] -/
noncomputable def b55 : Code := Try.f55.body.getD .skip
noncomputable def g55 : Sig := { f := 55, sym := 55, ps := [.sl [(.int .i64)], .val false [(.int .i64)]], rs := [.val false [(.int .i64)]] }
noncomputable def n55 : Nat := g55.ps.length + (Try.f55.ntmps - g55.ps.length)
noncomputable def c55_l : Code := loopOf 2 b55
noncomputable def lp55_l : Lp := { key := 2, sym := 1055, ins := [(0, .sl [.int .i64]), (1, .val false [.int .i64]), (8, .val false [.int .i64])], exits := [(.ret, [(4, .val false [.int .i64])]), (.exit 0, [])], als := [(7, .var 0)], pre := [(.cmp .lss (.var 3) (.int .i64 0), false)], mu := .bin .sub .i64 (.var 0) (.var 3) }
noncomputable def t55_l : Tree := lpTree Try.prog ct0 sy0 [] n55 300 lp55_l c55_l
noncomputable def sy55_l : List (Nat × List So) := (1055, lp55_l.sorts) :: sy0
noncomputable def ph55_l : Nat → List Value → List Value := updF ph0 1055 (lpF lp55_l (lpCx Try.prog ct0 sy0 lp55_l) (sortsP (lp55_l.ins.map (·.2))).length (wrs c55_l) t55_l ph0)
theorem enl55_l : Env Try.prog ct0 sy55_l ph55_l ∧ lp55_l.Sound Try.prog ph55_l n55 c55_l :=
  Env.loop en0 [] _ 300 lp55_l c55_l (by kernel_rfl) (fun _ h => by simp at h) (by kernel_rfl) (by kernel_rfl)
theorem en55_l : Env Try.prog ct0 sy55_l ph55_l := enl55_l.1
noncomputable def ct55_l : List Sig := ct0
noncomputable def V55_l : LT := (.ite (.cmp .lss (.var 3) (.var 0))
 (.ite (.cmp .eql (.var 2) (.el (.var 1) (.var 3) 1 0 (.int .i64)))
 (.out [(.int .i64 (.ofNat 0)), (.var 3)])
 (.next [(.var 0), (.var 1), (.var 2), (.bin .add .i64 (.var 3) (.int .i64 (.ofNat 1)))]))
 (.out [(.int .i64 (.ofNat 1)), (.val (.int .i64 (.ofNat 0)))]))
noncomputable def D55_l : List (Nat × Def) := (1055, .lp (sortsP (lp55_l.ins.map (·.2))) lp55_l.mu V55_l (badE lp55_l)) :: D0
theorem ds55_l : DS ph55_l D55_l := DS.lp ds0 lp55_l _ _ t55_l V55_l (by kernel_rfl) (by kernel_rfl) (by kernel_rfl)
noncomputable def T55 : RTree := fnT Try.prog ct55_l sy55_l [lp55_l] 500 Try.f55 b55 g55
noncomputable def ct55 : List Sig := g55 :: ct55_l
noncomputable def sy55 : List (Nat × List So) := (55, g55.rs.flatMap RK.sorts) :: sy55_l
noncomputable def ph55 : Nat → List Value → List Value := updF ph55_l 55 (SX.auto T55 (sortsP g55.ps) ph55_l)
theorem en55 : Env Try.prog ct55 sy55 ph55 :=
  Env.auto en55_l [lp55_l] 500 Try.f55 b55 g55 (by kernel_rfl) (by kernel_rfl) (by kernel_rfl) (by kernel_rfl) (by kernel_rfl) (by kernel_rfl) (by kernel_rfl) (by kernel_rfl) (fun lp hlp l hl hk => by
    obtain rfl : lp = lp55_l := by simpa using hlp
    rw [loops_one (k := 2) (c := c55_l) (by kernel_rfl) l hl hk]
    exact enl55_l.2) (by kernel_rfl)
noncomputable def V55 : VT := (.ite (.cmp .eql (.app 1055 0 (.cons (.var 0) (.cons (.var 1) (.cons (.var 2) (.cons (.int .i64 (.ofNat 0)) .nil))))) (.int .i64 (.ofNat 0)))
 (.leaf [(.app 1055 1 (.cons (.var 0) (.cons (.var 1) (.cons (.var 2) (.cons (.int .i64 (.ofNat 0)) .nil)))))])
 (.leaf [(.int .i64 (.negSucc 0))]))
noncomputable def D55 : List (Nat × Def) := (55, .fn (sortsP g55.ps) V55) :: D55_l
theorem ds55 : DS ph55 D55 := DS.fn ds55_l 55 _ T55 V55 (by kernel_rfl) (by kernel_rfl) (by kernel_rfl)
/- slices.Contains[[]int,int] -/
noncomputable def b53 : Code := Try.f53.body.getD .skip
noncomputable def g53 : Sig := { f := 53, sym := 53, ps := [.sl [(.int .i64)], .val false [(.int .i64)]], rs := [.val false [.bool]] }
noncomputable def n53 : Nat := g53.ps.length + (Try.f53.ntmps - g53.ps.length)
noncomputable def T53 : RTree := fnT Try.prog ct55 sy55 [] 500 Try.f53 b53 g53
noncomputable def ct53 : List Sig := g53 :: ct55
noncomputable def sy53 : List (Nat × List So) := (53, g53.rs.flatMap RK.sorts) :: sy55
noncomputable def ph53 : Nat → List Value → List Value := updF ph55 53 (SX.auto T53 (sortsP g53.ps) ph55)
theorem en53 : Env Try.prog ct53 sy53 ph53 :=
  Env.auto en55 [] 500 Try.f53 b53 g53 (by kernel_rfl) (by kernel_rfl) (by kernel_rfl) (by kernel_rfl) (by kernel_rfl) (by kernel_rfl) (by kernel_rfl) (by kernel_rfl) (fun _ h => by simp at h) (by kernel_rfl)
noncomputable def V53 : VT := (.leaf [(.not (.cmp .lss (.app 55 0 (.cons (.var 0) (.cons (.var 1) (.cons (.var 2) .nil)))) (.int .i64 (.ofNat 0))))])
noncomputable def D53 : List (Nat × Def) := (53, .fn (sortsP g53.ps) V53) :: D55
theorem ds53 : DS ph53 D53 := DS.fn ds55 53 _ T53 V53 (by kernel_rfl) (by kernel_rfl) (by kernel_rfl)
/- calque/xinst.in -/
noncomputable def b48 : Code := Try.f48.body.getD .skip
noncomputable def g48 : Sig := { f := 48, sym := 48, ps := [.val false [(.int .i64)], .sl [(.int .i64)]], rs := [.val false [.bool]] }
noncomputable def n48 : Nat := g48.ps.length + (Try.f48.ntmps - g48.ps.length)
noncomputable def T48 : RTree := fnT Try.prog ct53 sy53 [] 500 Try.f48 b48 g48
noncomputable def ct48 : List Sig := g48 :: ct53
noncomputable def sy48 : List (Nat × List So) := (48, g48.rs.flatMap RK.sorts) :: sy53
noncomputable def ph48 : Nat → List Value → List Value := updF ph53 48 (SX.auto T48 (sortsP g48.ps) ph53)
theorem en48 : Env Try.prog ct48 sy48 ph48 :=
  Env.auto en53 [] 500 Try.f48 b48 g48 (by kernel_rfl) (by kernel_rfl) (by kernel_rfl) (by kernel_rfl) (by kernel_rfl) (by kernel_rfl) (by kernel_rfl) (by kernel_rfl) (fun _ h => by simp at h) (by kernel_rfl)
noncomputable def V48 : VT := (.leaf [(.app 53 0 (.cons (.var 1) (.cons (.var 2) (.cons (.var 0) .nil))))])
noncomputable def D48 : List (Nat × Def) := (48, .fn (sortsP g48.ps) V48) :: D53
theorem ds48 : DS ph48 D48 := DS.fn ds53 48 _ T48 V48 (by kernel_rfl) (by kernel_rfl) (by kernel_rfl)
/- (calque/xinst.Opd).is -/
noncomputable def b42 : Code := Try.f42.body.getD .skip
noncomputable def g42 : Sig := { f := 42, sym := 42, ps := [.val true [(.int .i64), (.int .i64), (.int .i64), (.int .i64), (.int .i64), (.int .i64)], .sl [(.int .i64)]], rs := [.val false [.bool]] }
noncomputable def n42 : Nat := g42.ps.length + (Try.f42.ntmps - g42.ps.length)
noncomputable def T42 : RTree := fnT Try.prog ct48 sy48 [] 500 Try.f42 b42 g42
noncomputable def ct42 : List Sig := g42 :: ct48
noncomputable def sy42 : List (Nat × List So) := (42, g42.rs.flatMap RK.sorts) :: sy48
noncomputable def ph42 : Nat → List Value → List Value := updF ph48 42 (SX.auto T42 (sortsP g42.ps) ph48)
theorem en42 : Env Try.prog ct42 sy42 ph42 :=
  Env.auto en48 [] 500 Try.f42 b42 g42 (by kernel_rfl) (by kernel_rfl) (by kernel_rfl) (by kernel_rfl) (by kernel_rfl) (by kernel_rfl) (by kernel_rfl) (by kernel_rfl) (fun _ h => by simp at h) (by kernel_rfl)
noncomputable def V42 : VT := (.leaf [(.app 48 0 (.cons (.var 0) (.cons (.var 6) (.cons (.var 7) .nil))))])
noncomputable def D42 : List (Nat × Def) := (42, .fn (sortsP g42.ps) V42) :: D48
theorem ds42 : DS ph42 D42 := DS.fn ds48 42 _ T42 V42 (by kernel_rfl) (by kernel_rfl) (by kernel_rfl)
/- calque/xinst.from -/
noncomputable def b40 : Code := Try.f40.body.getD .skip
noncomputable def g40 : Sig := { f := 40, sym := 40, ps := [.val false [(.int .i64)], .val false [(.int .i64)], .val false [(.int .i64)]], rs := [.val false [.bool]] }
noncomputable def n40 : Nat := g40.ps.length + (Try.f40.ntmps - g40.ps.length)
noncomputable def T40 : RTree := fnT Try.prog ct42 sy42 [] 500 Try.f40 b40 g40
noncomputable def ct40 : List Sig := g40 :: ct42
noncomputable def sy40 : List (Nat × List So) := (40, g40.rs.flatMap RK.sorts) :: sy42
noncomputable def ph40 : Nat → List Value → List Value := updF ph42 40 (SX.auto T40 (sortsP g40.ps) ph42)
theorem en40 : Env Try.prog ct40 sy40 ph40 :=
  Env.auto en42 [] 500 Try.f40 b40 g40 (by kernel_rfl) (by kernel_rfl) (by kernel_rfl) (by kernel_rfl) (by kernel_rfl) (by kernel_rfl) (by kernel_rfl) (by kernel_rfl) (fun _ h => by simp at h) (by kernel_rfl)
noncomputable def V40 : VT := (.ite (.cmp .lss (.var 2) (.var 0))
 (.leaf [(.bool false)])
 (.leaf [(.not (.cmp .lss (.var 1) (.var 2)))]))
noncomputable def D40 : List (Nat × Def) := (40, .fn (sortsP g40.ps) V40) :: D42
theorem ds40 : DS ph40 D40 := DS.fn ds42 40 _ T40 V40 (by kernel_rfl) (by kernel_rfl) (by kernel_rfl)
/- calque/bits.Is -/
noncomputable def b49 : Code := Try.f49.body.getD .skip
noncomputable def g49 : Sig := { f := 49, sym := 49, ps := [.val false [(.int .i64)]], rs := [.val false [.bool]] }
noncomputable def n49 : Nat := g49.ps.length + (Try.f49.ntmps - g49.ps.length)
noncomputable def T49 : RTree := fnT Try.prog ct40 sy40 [] 500 Try.f49 b49 g49
noncomputable def ct49 : List Sig := g49 :: ct40
noncomputable def sy49 : List (Nat × List So) := (49, g49.rs.flatMap RK.sorts) :: sy40
noncomputable def ph49 : Nat → List Value → List Value := updF ph40 49 (SX.auto T49 (sortsP g49.ps) ph40)
theorem en49 : Env Try.prog ct49 sy49 ph49 :=
  Env.auto en40 [] 500 Try.f49 b49 g49 (by kernel_rfl) (by kernel_rfl) (by kernel_rfl) (by kernel_rfl) (by kernel_rfl) (by kernel_rfl) (by kernel_rfl) (by kernel_rfl) (fun _ h => by simp at h) (by kernel_rfl)
noncomputable def V49 : VT := (.ite (.cmp .eql (.var 0) (.int .i64 (.ofNat 1)))
 (.leaf [(.bool true)])
 (.ite (.cmp .eql (.var 0) (.int .i64 (.ofNat 2)))
 (.leaf [(.bool true)])
 (.ite (.cmp .eql (.var 0) (.int .i64 (.ofNat 4)))
 (.leaf [(.bool true)])
 (.ite (.cmp .eql (.var 0) (.int .i64 (.ofNat 8)))
 (.leaf [(.bool true)])
 (.leaf [(.bool false)])))))
noncomputable def D49 : List (Nat × Def) := (49, .fn (sortsP g49.ps) V49) :: D40
theorem ds49 : DS ph49 D49 := DS.fn ds40 49 _ T49 V49 (by kernel_rfl) (by kernel_rfl) (by kernel_rfl)
/- calque/bits.Fits -/
noncomputable def b51 : Code := Try.f51.body.getD .skip
noncomputable def g51 : Sig := { f := 51, sym := 51, ps := [.val false [(.int .i64)], .val false [(.int .i64)]], rs := [.val false [.bool]] }
noncomputable def n51 : Nat := g51.ps.length + (Try.f51.ntmps - g51.ps.length)
noncomputable def T51 : RTree := fnT Try.prog ct49 sy49 [] 500 Try.f51 b51 g51
noncomputable def ct51 : List Sig := g51 :: ct49
noncomputable def sy51 : List (Nat × List So) := (51, g51.rs.flatMap RK.sorts) :: sy49
noncomputable def ph51 : Nat → List Value → List Value := updF ph49 51 (SX.auto T51 (sortsP g51.ps) ph49)
theorem en51 : Env Try.prog ct51 sy51 ph51 :=
  Env.auto en49 [] 500 Try.f51 b51 g51 (by kernel_rfl) (by kernel_rfl) (by kernel_rfl) (by kernel_rfl) (by kernel_rfl) (by kernel_rfl) (by kernel_rfl) (by kernel_rfl) (fun _ h => by simp at h) (by kernel_rfl)
noncomputable def V51 : VT := (.ite (.cmp .lss (.var 1) (.int .i64 (.ofNat 1)))
 (.leaf [(.bool false)])
 (.ite (.cmp .lss (.int .i64 (.ofNat 64)) (.var 1))
 (.leaf [(.bool false)])
 (.ite (.cmp .eql (.shf .shr .i64 (.var 0) (.conv .u64 (.bin .sub .i64 (.var 1) (.int .i64 (.ofNat 1))))) (.int .i64 (.ofNat 0)))
 (.leaf [(.bool true)])
 (.leaf [(.cmp .eql (.shf .shr .i64 (.var 0) (.conv .u64 (.bin .sub .i64 (.var 1) (.int .i64 (.ofNat 1))))) (.int .i64 (.negSucc 0)))]))))
noncomputable def D51 : List (Nat × Def) := (51, .fn (sortsP g51.ps) V51) :: D49
theorem ds51 : DS ph51 D51 := DS.fn ds49 51 _ T51 V51 (by kernel_rfl) (by kernel_rfl) (by kernel_rfl)
/- (calque/xinst.Addr).reckoned -/
noncomputable def b47 : Code := Try.f47.body.getD .skip
noncomputable def g47 : Sig := { f := 47, sym := 47, ps := [.val true [(.int .i64), (.int .i64), (.int .i64), (.int .i64)]], rs := [.val false [.bool]] }
noncomputable def n47 : Nat := g47.ps.length + (Try.f47.ntmps - g47.ps.length)
noncomputable def T47 : RTree := fnT Try.prog ct51 sy51 [] 500 Try.f47 b47 g47
noncomputable def ct47 : List Sig := g47 :: ct51
noncomputable def sy47 : List (Nat × List So) := (47, g47.rs.flatMap RK.sorts) :: sy51
noncomputable def ph47 : Nat → List Value → List Value := updF ph51 47 (SX.auto T47 (sortsP g47.ps) ph51)
theorem en47 : Env Try.prog ct47 sy47 ph47 :=
  Env.auto en51 [] 500 Try.f47 b47 g47 (by kernel_rfl) (by kernel_rfl) (by kernel_rfl) (by kernel_rfl) (by kernel_rfl) (by kernel_rfl) (by kernel_rfl) (by kernel_rfl) (fun _ h => by simp at h) (by kernel_rfl)
noncomputable def V47 : VT := (.ite (.app 40 0 (.cons (.int .i64 (.negSucc 0)) (.cons (.int .i64 (.ofNat 16)) (.cons (.var 0) .nil))))
 (.ite (.app 51 0 (.cons (.var 3) (.cons (.int .i64 (.ofNat 32)) .nil)))
 (.ite (.cmp .eql (.var 1) (.int .i64 (.negSucc 0)))
 (.leaf [(.cmp .eql (.var 2) (.int .i64 (.ofNat 1)))])
 (.ite (.app 40 0 (.cons (.int .i64 (.ofNat 0)) (.cons (.int .i64 (.ofNat 15)) (.cons (.var 1) .nil))))
 (.ite (.cmp .eql (.var 1) (.int .i64 (.ofNat 4)))
 (.leaf [(.bool false)])
 (.ite (.cmp .eql (.var 0) (.int .i64 (.ofNat 16)))
 (.leaf [(.bool false)])
 (.leaf [(.app 48 0 (.cons (.var 2) (.cons (.int .i64 (.ofNat 4)) (.cons (.tup (.cons (.int .i64 (.ofNat 1)) (.cons (.int .i64 (.ofNat 2)) (.cons (.int .i64 (.ofNat 4)) (.cons (.int .i64 (.ofNat 8)) .nil))))) .nil))))])))
 (.leaf [(.bool false)])))
 (.leaf [(.bool false)]))
 (.leaf [(.bool false)]))
noncomputable def D47 : List (Nat × Def) := (47, .fn (sortsP g47.ps) V47) :: D51
theorem ds47 : DS ph47 D47 := DS.fn ds51 47 _ T47 V47 (by kernel_rfl) (by kernel_rfl) (by kernel_rfl)
/- calque/xinst.R -/
noncomputable def b28 : Code := Try.f28.body.getD .skip
noncomputable def g28 : Sig := { f := 28, sym := 28, ps := [.val false [(.int .i64)]], rs := [.val true [(.int .i64), (.int .i64), (.int .i64), (.int .i64), (.int .i64), (.int .i64)]] }
noncomputable def n28 : Nat := g28.ps.length + (Try.f28.ntmps - g28.ps.length)
noncomputable def T28 : RTree := fnT Try.prog ct47 sy47 [] 500 Try.f28 b28 g28
noncomputable def ct28 : List Sig := g28 :: ct47
noncomputable def sy28 : List (Nat × List So) := (28, g28.rs.flatMap RK.sorts) :: sy47
noncomputable def ph28 : Nat → List Value → List Value := updF ph47 28 (SX.auto T28 (sortsP g28.ps) ph47)
theorem en28 : Env Try.prog ct28 sy28 ph28 :=
  Env.auto en47 [] 500 Try.f28 b28 g28 (by kernel_rfl) (by kernel_rfl) (by kernel_rfl) (by kernel_rfl) (by kernel_rfl) (by kernel_rfl) (by kernel_rfl) (by kernel_rfl) (fun _ h => by simp at h) (by kernel_rfl)
noncomputable def V28 : VT := (.leaf [(.int .i64 (.ofNat 1)), (.var 0), (.int .i64 (.ofNat 0)), (.int .i64 (.ofNat 0)), (.int .i64 (.ofNat 0)), (.int .i64 (.ofNat 0))])
noncomputable def D28 : List (Nat × Def) := (28, .fn (sortsP g28.ps) V28) :: D47
theorem ds28 : DS ph28 D28 := DS.fn ds47 28 _ T28 V28 (by kernel_rfl) (by kernel_rfl) (by kernel_rfl)
/- calque/xinst.I -/
noncomputable def b29 : Code := Try.f29.body.getD .skip
noncomputable def g29 : Sig := { f := 29, sym := 29, ps := [], rs := [.val true [(.int .i64), (.int .i64), (.int .i64), (.int .i64), (.int .i64), (.int .i64)]] }
noncomputable def n29 : Nat := g29.ps.length + (Try.f29.ntmps - g29.ps.length)
noncomputable def T29 : RTree := fnT Try.prog ct28 sy28 [] 500 Try.f29 b29 g29
noncomputable def ct29 : List Sig := g29 :: ct28
noncomputable def sy29 : List (Nat × List So) := (29, g29.rs.flatMap RK.sorts) :: sy28
noncomputable def ph29 : Nat → List Value → List Value := updF ph28 29 (SX.auto T29 (sortsP g29.ps) ph28)
theorem en29 : Env Try.prog ct29 sy29 ph29 :=
  Env.auto en28 [] 500 Try.f29 b29 g29 (by kernel_rfl) (by kernel_rfl) (by kernel_rfl) (by kernel_rfl) (by kernel_rfl) (by kernel_rfl) (by kernel_rfl) (by kernel_rfl) (fun _ h => by simp at h) (by kernel_rfl)
noncomputable def V29 : VT := (.leaf [(.int .i64 (.ofNat 3)), (.int .i64 (.ofNat 0)), (.int .i64 (.ofNat 0)), (.int .i64 (.ofNat 0)), (.int .i64 (.ofNat 0)), (.int .i64 (.ofNat 0))])
noncomputable def D29 : List (Nat × Def) := (29, .fn (sortsP g29.ps) V29) :: D28
theorem ds29 : DS ph29 D29 := DS.fn ds28 29 _ T29 V29 (by kernel_rfl) (by kernel_rfl) (by kernel_rfl)
/- calque/xinst.M -/
noncomputable def b27 : Code := Try.f27.body.getD .skip
noncomputable def g27 : Sig := { f := 27, sym := 27, ps := [.val false [(.int .i64)], .val false [(.int .i64)], .val false [(.int .i64)], .val false [(.int .i64)]], rs := [.val true [(.int .i64), (.int .i64), (.int .i64), (.int .i64), (.int .i64), (.int .i64)]] }
noncomputable def n27 : Nat := g27.ps.length + (Try.f27.ntmps - g27.ps.length)
noncomputable def T27 : RTree := fnT Try.prog ct29 sy29 [] 500 Try.f27 b27 g27
noncomputable def ct27 : List Sig := g27 :: ct29
noncomputable def sy27 : List (Nat × List So) := (27, g27.rs.flatMap RK.sorts) :: sy29
noncomputable def ph27 : Nat → List Value → List Value := updF ph29 27 (SX.auto T27 (sortsP g27.ps) ph29)
theorem en27 : Env Try.prog ct27 sy27 ph27 :=
  Env.auto en29 [] 500 Try.f27 b27 g27 (by kernel_rfl) (by kernel_rfl) (by kernel_rfl) (by kernel_rfl) (by kernel_rfl) (by kernel_rfl) (by kernel_rfl) (by kernel_rfl) (fun _ h => by simp at h) (by kernel_rfl)
noncomputable def V27 : VT := (.leaf [(.int .i64 (.ofNat 2)), (.int .i64 (.ofNat 0)), (.var 0), (.var 1), (.var 2), (.var 3)])
noncomputable def D27 : List (Nat × Def) := (27, .fn (sortsP g27.ps) V27) :: D29
theorem ds27 : DS ph27 D27 := DS.fn ds29 27 _ T27 V27 (by kernel_rfl) (by kernel_rfl) (by kernel_rfl)
/- (calque/xinst.Opd).may -/
noncomputable def b33 : Code := Try.f33.body.getD .skip
noncomputable def g33 : Sig := { f := 33, sym := 33, ps := [.val true [(.int .i64), (.int .i64), (.int .i64), (.int .i64), (.int .i64), (.int .i64)]], rs := [.val false [.bool]] }
noncomputable def n33 : Nat := g33.ps.length + (Try.f33.ntmps - g33.ps.length)
noncomputable def T33 : RTree := fnT Try.prog ct27 sy27 [] 500 Try.f33 b33 g33
noncomputable def ct33 : List Sig := g33 :: ct27
noncomputable def sy33 : List (Nat × List So) := (33, g33.rs.flatMap RK.sorts) :: sy27
noncomputable def ph33 : Nat → List Value → List Value := updF ph27 33 (SX.auto T33 (sortsP g33.ps) ph27)
theorem en33 : Env Try.prog ct33 sy33 ph33 :=
  Env.auto en27 [] 500 Try.f33 b33 g33 (by kernel_rfl) (by kernel_rfl) (by kernel_rfl) (by kernel_rfl) (by kernel_rfl) (by kernel_rfl) (by kernel_rfl) (by kernel_rfl) (fun _ h => by simp at h) (by kernel_rfl)
noncomputable def V33 : VT := (.ite (.cmp .eql (.var 0) (.int .i64 (.ofNat 1)))
 (.ite (.ite (.cmp .eql (.var 0) (.app 28 0 (.cons (.var 1) .nil))) (.ite (.cmp .eql (.var 1) (.app 28 1 (.cons (.var 1) .nil))) (.ite (.cmp .eql (.var 2) (.app 28 2 (.cons (.var 1) .nil))) (.ite (.cmp .eql (.var 3) (.app 28 3 (.cons (.var 1) .nil))) (.ite (.cmp .eql (.var 4) (.app 28 4 (.cons (.var 1) .nil))) (.cmp .eql (.var 5) (.app 28 5 (.cons (.var 1) .nil))) (.bool false)) (.bool false)) (.bool false)) (.bool false)) (.bool false))
 (.leaf [(.app 40 0 (.cons (.int .i64 (.ofNat 0)) (.cons (.int .i64 (.ofNat 15)) (.cons (.var 1) .nil))))])
 (.leaf [(.bool false)]))
 (.ite (.cmp .eql (.var 0) (.int .i64 (.ofNat 2)))
 (.ite (.cmp .eql (.var 1) (.int .i64 (.ofNat 0)))
 (.leaf [(.app 47 0 (.cons (.var 2) (.cons (.var 3) (.cons (.var 4) (.cons (.var 5) .nil)))))])
 (.leaf [(.bool false)]))
 (.ite (.ite (.cmp .eql (.var 0) (.int .i64 (.ofNat 0))) (.ite (.cmp .eql (.var 1) (.int .i64 (.ofNat 0))) (.ite (.cmp .eql (.var 2) (.int .i64 (.ofNat 0))) (.ite (.cmp .eql (.var 3) (.int .i64 (.ofNat 0))) (.ite (.cmp .eql (.var 4) (.int .i64 (.ofNat 0))) (.cmp .eql (.var 5) (.int .i64 (.ofNat 0))) (.bool false)) (.bool false)) (.bool false)) (.bool false)) (.bool false))
 (.leaf [(.bool true)])
 (.leaf [(.ite (.cmp .eql (.var 0) (.app 29 0 .nil)) (.ite (.cmp .eql (.var 1) (.app 29 1 .nil)) (.ite (.cmp .eql (.var 2) (.app 29 2 .nil)) (.ite (.cmp .eql (.var 3) (.app 29 3 .nil)) (.ite (.cmp .eql (.var 4) (.app 29 4 .nil)) (.cmp .eql (.var 5) (.app 29 5 .nil)) (.bool false)) (.bool false)) (.bool false)) (.bool false)) (.bool false))]))))
noncomputable def D33 : List (Nat × Def) := (33, .fn (sortsP g33.ps) V33) :: D27
theorem ds33 : DS ph33 D33 := DS.fn ds27 33 _ T33 V33 (by kernel_rfl) (by kernel_rfl) (by kernel_rfl)
end Go.Proofs.Ytbhhfbenajcinaa
