import Derived.Test.YtbhhfbenajcinaaSXv
import Derived.Test.YtbhhfbenajcinaaSb
import Derived.KernelRfl
import Derived.Test.YtbhhfbenajcinaaProg

namespace Go.Proofs.Ytbhhfbenajcinaa
open Go Go.SX Go.Proofs
/- (calque/jumps.set).with -/
noncomputable def b21 : Code := Try.f21.body.getD .skip
noncomputable def g21 : Sig := { f := 21, sym := 21, ps := [.val false [(.int .u32)], .sl [(.int .i64)]], rs := [.val false [(.int .u32)]] }
noncomputable def n21 : Nat := g21.ps.length + (Try.f21.ntmps - g21.ps.length)
noncomputable def c21_l : Code := loopOf 2 b21
noncomputable def lp21_l : Lp := { key := 2, sym := 1021, ins := [(0, .val false [.int .u32]), (7, .sl [.int .i64]), (9, .val false [.int .i64])], exits := [(.exit 0, [(0, .val false [.int .u32])])], als := [(8, .var 1)], pre := [(.cmp .lss (.var 3) (.int .i64 0), false)], mu := .bin .sub .i64 (.var 1) (.var 3) }
noncomputable def t21_l : Tree := lpTree Try.prog ct15 sy15 [] n21 300 lp21_l c21_l
noncomputable def sy21_l : List (Nat × List So) := (1021, lp21_l.sorts) :: sy15
noncomputable def ph21_l : Nat → List Value → List Value := updF ph15 1021 (lpF lp21_l (lpCx Try.prog ct15 sy15 lp21_l) (sortsP (lp21_l.ins.map (·.2))).length (wrs c21_l) t21_l ph15)
theorem enl21_l : Env Try.prog ct15 sy21_l ph21_l ∧ lp21_l.Sound Try.prog ph21_l n21 c21_l :=
  Env.loop en15 [] _ 300 lp21_l c21_l (by kernel_rfl) (fun _ h => by simp at h) (by kernel_rfl) (by kernel_rfl)
theorem en21_l : Env Try.prog ct15 sy21_l ph21_l := enl21_l.1
noncomputable def ct21_l : List Sig := ct15
noncomputable def V21_l : LT := (.ite (.cmp .lss (.var 3) (.var 1))
 (.ite (.cmp .lss (.el (.var 2) (.var 3) 1 0 (.int .i64)) (.int .i64 (.ofNat 0)))
 (.next [(.var 0), (.var 1), (.var 2), (.bin .add .i64 (.var 3) (.int .i64 (.ofNat 1)))])
 (.ite (.cmp .lss (.int .i64 (.ofNat 15)) (.el (.var 2) (.var 3) 1 0 (.int .i64)))
 (.next [(.var 0), (.var 1), (.var 2), (.bin .add .i64 (.var 3) (.int .i64 (.ofNat 1)))])
 (.next [(.bin .or .u32 (.var 0) (.shf .shl .u32 (.int .u32 (.ofNat 1)) (.el (.var 2) (.var 3) 1 0 (.int .i64)))), (.var 1), (.var 2), (.bin .add .i64 (.var 3) (.int .i64 (.ofNat 1)))])))
 (.out [(.int .i64 (.ofNat 0)), (.var 0)]))
noncomputable def D21_l : List (Nat × Def) := (1021, .lp (sortsP (lp21_l.ins.map (·.2))) lp21_l.mu V21_l (badE lp21_l)) :: D15
theorem ds21_l : DS ph21_l D21_l := DS.lp ds15 lp21_l _ _ t21_l V21_l (by kernel_rfl) (by kernel_rfl) (by kernel_rfl)
noncomputable def T21 : RTree := fnT Try.prog ct21_l sy21_l [lp21_l] 500 Try.f21 b21 g21
noncomputable def ct21 : List Sig := g21 :: ct21_l
noncomputable def sy21 : List (Nat × List So) := (21, g21.rs.flatMap RK.sorts) :: sy21_l
noncomputable def ph21 : Nat → List Value → List Value := updF ph21_l 21 (SX.auto T21 (sortsP g21.ps) ph21_l)
theorem en21 : Env Try.prog ct21 sy21 ph21 :=
  Env.auto en21_l [lp21_l] 500 Try.f21 b21 g21 (by kernel_rfl) (by kernel_rfl) (by kernel_rfl) (by kernel_rfl) (by kernel_rfl) (by kernel_rfl) (by kernel_rfl) (by kernel_rfl) (fun lp hlp l hl hk => by
    obtain rfl : lp = lp21_l := by simpa using hlp
    rw [loops_one (k := 2) (c := c21_l) (by kernel_rfl) l hl hk]
    exact enl21_l.2) (by kernel_rfl)
noncomputable def V21 : VT := (.leaf [(.app 1021 1 (.cons (.var 0) (.cons (.var 1) (.cons (.var 2) (.cons (.int .i64 (.ofNat 0)) .nil)))))])
noncomputable def D21 : List (Nat × Def) := (21, .fn (sortsP g21.ps) V21) :: D21_l
theorem ds21 : DS ph21 D21 := DS.fn ds21_l 21 _ T21 V21 (by kernel_rfl) (by kernel_rfl) (by kernel_rfl)
/- (calque/jumps.set).withOperand -/
noncomputable def b17 : Code := Try.f17.body.getD .skip
noncomputable def g17 : Sig := { f := 17, sym := 17, ps := [.val false [(.int .u32)], .val true [(.int .i64), (.int .i64), (.int .i64), (.int .i64), (.int .i64), (.int .i64)]], rs := [.val false [(.int .u32)]] }
noncomputable def n17 : Nat := g17.ps.length + (Try.f17.ntmps - g17.ps.length)
noncomputable def T17 : RTree := fnT Try.prog ct21 sy21 [] 500 Try.f17 b17 g17
noncomputable def ct17 : List Sig := g17 :: ct21
noncomputable def sy17 : List (Nat × List So) := (17, g17.rs.flatMap RK.sorts) :: sy21
noncomputable def ph17 : Nat → List Value → List Value := updF ph21 17 (SX.auto T17 (sortsP g17.ps) ph21)
theorem en17 : Env Try.prog ct17 sy17 ph17 :=
  Env.auto en21 [] 500 Try.f17 b17 g17 (by kernel_rfl) (by kernel_rfl) (by kernel_rfl) (by kernel_rfl) (by kernel_rfl) (by kernel_rfl) (by kernel_rfl) (by kernel_rfl) (fun _ h => by simp at h) (by kernel_rfl)
noncomputable def V17 : VT := (.ite (.cmp .eql (.var 1) (.int .i64 (.ofNat 1)))
 (.leaf [(.app 21 0 (.cons (.var 0) (.cons (.int .i64 (.ofNat 1)) (.cons (.tup (.cons (.var 2) .nil)) .nil))))])
 (.leaf [(.var 0)]))
noncomputable def D17 : List (Nat × Def) := (17, .fn (sortsP g17.ps) V17) :: D21
theorem ds17 : DS ph17 D17 := DS.fn ds21 17 _ T17 V17 (by kernel_rfl) (by kernel_rfl) (by kernel_rfl)
/- (calque/jumps.set).counted -/
noncomputable def b41 : Code := Try.f41.body.getD .skip
noncomputable def g41 : Sig := { f := 41, sym := 41, ps := [.val false [(.int .u32)], .val true [(.int .i64), (.int .i64), (.int .i64), (.int .i64), (.int .i64), (.int .i64), (.int .i64), (.int .i64), (.int .i64), (.int .i64), (.int .i64), (.int .i64), (.int .i64), (.int .i64), (.int .i64), (.int .i64), (.int .i64), .bool, .bool, (.int .i64)]], rs := [.val false [(.int .u32)]] }
noncomputable def n41 : Nat := g41.ps.length + (Try.f41.ntmps - g41.ps.length)
noncomputable def T41 : RTree := fnT Try.prog ct17 sy17 [] 500 Try.f41 b41 g41
noncomputable def ct41 : List Sig := g41 :: ct17
noncomputable def sy41 : List (Nat × List So) := (41, g41.rs.flatMap RK.sorts) :: sy17
noncomputable def ph41 : Nat → List Value → List Value := updF ph17 41 (SX.auto T41 (sortsP g41.ps) ph17)
theorem en41 : Env Try.prog ct41 sy41 ph41 :=
  Env.auto en17 [] 500 Try.f41 b41 g41 (by kernel_rfl) (by kernel_rfl) (by kernel_rfl) (by kernel_rfl) (by kernel_rfl) (by kernel_rfl) (by kernel_rfl) (by kernel_rfl) (fun _ h => by simp at h) (by kernel_rfl)
noncomputable def V41 : VT := (.ite (.var 19)
 (.leaf [(.app 21 0 (.cons (.var 0) (.cons (.int .i64 (.ofNat 1)) (.cons (.tup (.cons (.int .i64 (.ofNat 1)) .nil)) .nil))))])
 (.leaf [(.var 0)]))
noncomputable def D41 : List (Nat × Def) := (41, .fn (sortsP g41.ps) V41) :: D17
theorem ds41 : DS ph41 D41 := DS.fn ds17 41 _ T41 V41 (by kernel_rfl) (by kernel_rfl) (by kernel_rfl)
/- calque/jumps.changed -/
noncomputable def b16 : Code := Try.f16.body.getD .skip
noncomputable def g16 : Sig := { f := 16, sym := 16, ps := [.val true [(.int .i64), (.int .i64), (.int .i64), (.int .i64), (.int .i64), (.int .i64), (.int .i64), (.int .i64), (.int .i64), (.int .i64), (.int .i64), (.int .i64), (.int .i64), (.int .i64), (.int .i64), (.int .i64), (.int .i64), .bool, .bool, (.int .i64)]], rs := [.val false [(.int .u32)]] }
noncomputable def n16 : Nat := g16.ps.length + (Try.f16.ntmps - g16.ps.length)
noncomputable def T16 : RTree := fnT Try.prog ct41 sy41 [] 500 Try.f16 b16 g16
noncomputable def ct16 : List Sig := g16 :: ct41
noncomputable def sy16 : List (Nat × List So) := (16, g16.rs.flatMap RK.sorts) :: sy41
noncomputable def ph16 : Nat → List Value → List Value := updF ph41 16 (SX.auto T16 (sortsP g16.ps) ph41)
theorem en16 : Env Try.prog ct16 sy16 ph16 :=
  Env.auto en41 [] 500 Try.f16 b16 g16 (by kernel_rfl) (by kernel_rfl) (by kernel_rfl) (by kernel_rfl) (by kernel_rfl) (by kernel_rfl) (by kernel_rfl) (by kernel_rfl) (fun _ h => by simp at h) (by kernel_rfl)
noncomputable def V16 : VT := (.ite (.cmp .eql (.var 0) (.int .i64 (.ofNat 14)))
 (.leaf [(.app 41 0 (.cons (.app 21 0 (.cons (.int .u32 (.ofNat 0)) (.cons (.int .i64 (.ofNat 1)) (.cons (.tup (.cons (.int .i64 (.ofNat 4)) .nil)) .nil)))) (.cons (.var 0) (.cons (.var 1) (.cons (.var 2) (.cons (.var 3) (.cons (.var 4) (.cons (.var 5) (.cons (.var 6) (.cons (.var 7) (.cons (.var 8) (.cons (.var 9) (.cons (.var 10) (.cons (.var 11) (.cons (.var 12) (.cons (.var 13) (.cons (.var 14) (.cons (.var 15) (.cons (.var 16) (.cons (.var 17) (.cons (.var 18) (.cons (.var 19) .nil))))))))))))))))))))))])
 (.ite (.cmp .eql (.var 0) (.int .i64 (.ofNat 15)))
 (.leaf [(.app 41 0 (.cons (.app 21 0 (.cons (.int .u32 (.ofNat 0)) (.cons (.int .i64 (.ofNat 1)) (.cons (.tup (.cons (.int .i64 (.ofNat 4)) .nil)) .nil)))) (.cons (.var 0) (.cons (.var 1) (.cons (.var 2) (.cons (.var 3) (.cons (.var 4) (.cons (.var 5) (.cons (.var 6) (.cons (.var 7) (.cons (.var 8) (.cons (.var 9) (.cons (.var 10) (.cons (.var 11) (.cons (.var 12) (.cons (.var 13) (.cons (.var 14) (.cons (.var 15) (.cons (.var 16) (.cons (.var 17) (.cons (.var 18) (.cons (.var 19) .nil))))))))))))))))))))))])
 (.ite (.cmp .eql (.var 0) (.int .i64 (.ofNat 38)))
 (.leaf [(.app 41 0 (.cons (.app 21 0 (.cons (.int .u32 (.ofNat 0)) (.cons (.int .i64 (.ofNat 1)) (.cons (.tup (.cons (.int .i64 (.ofNat 4)) .nil)) .nil)))) (.cons (.var 0) (.cons (.var 1) (.cons (.var 2) (.cons (.var 3) (.cons (.var 4) (.cons (.var 5) (.cons (.var 6) (.cons (.var 7) (.cons (.var 8) (.cons (.var 9) (.cons (.var 10) (.cons (.var 11) (.cons (.var 12) (.cons (.var 13) (.cons (.var 14) (.cons (.var 15) (.cons (.var 16) (.cons (.var 17) (.cons (.var 18) (.cons (.var 19) .nil))))))))))))))))))))))])
 (.ite (.cmp .eql (.var 0) (.int .i64 (.ofNat 39)))
 (.leaf [(.app 41 0 (.cons (.app 21 0 (.cons (.int .u32 (.ofNat 0)) (.cons (.int .i64 (.ofNat 1)) (.cons (.tup (.cons (.int .i64 (.ofNat 4)) .nil)) .nil)))) (.cons (.var 0) (.cons (.var 1) (.cons (.var 2) (.cons (.var 3) (.cons (.var 4) (.cons (.var 5) (.cons (.var 6) (.cons (.var 7) (.cons (.var 8) (.cons (.var 9) (.cons (.var 10) (.cons (.var 11) (.cons (.var 12) (.cons (.var 13) (.cons (.var 14) (.cons (.var 15) (.cons (.var 16) (.cons (.var 17) (.cons (.var 18) (.cons (.var 19) .nil))))))))))))))))))))))])
 (.ite (.cmp .eql (.var 0) (.int .i64 (.ofNat 20)))
 (.ite (.cmp .eql (.var 1) (.int .i64 (.ofNat 1)))
 (.leaf [(.app 41 0 (.cons (.app 21 0 (.cons (.int .u32 (.ofNat 0)) (.cons (.int .i64 (.ofNat 1)) (.cons (.tup (.cons (.int .i64 (.ofNat 0)) .nil)) .nil)))) (.cons (.var 0) (.cons (.var 1) (.cons (.var 2) (.cons (.var 3) (.cons (.var 4) (.cons (.var 5) (.cons (.var 6) (.cons (.var 7) (.cons (.var 8) (.cons (.var 9) (.cons (.var 10) (.cons (.var 11) (.cons (.var 12) (.cons (.var 13) (.cons (.var 14) (.cons (.var 15) (.cons (.var 16) (.cons (.var 17) (.cons (.var 18) (.cons (.var 19) .nil))))))))))))))))))))))])
 (.leaf [(.app 41 0 (.cons (.app 21 0 (.cons (.app 21 0 (.cons (.int .u32 (.ofNat 0)) (.cons (.int .i64 (.ofNat 1)) (.cons (.tup (.cons (.int .i64 (.ofNat 2)) .nil)) .nil)))) (.cons (.int .i64 (.ofNat 1)) (.cons (.tup (.cons (.int .i64 (.ofNat 0)) .nil)) .nil)))) (.cons (.var 0) (.cons (.var 1) (.cons (.var 2) (.cons (.var 3) (.cons (.var 4) (.cons (.var 5) (.cons (.var 6) (.cons (.var 7) (.cons (.var 8) (.cons (.var 9) (.cons (.var 10) (.cons (.var 11) (.cons (.var 12) (.cons (.var 13) (.cons (.var 14) (.cons (.var 15) (.cons (.var 16) (.cons (.var 17) (.cons (.var 18) (.cons (.var 19) .nil))))))))))))))))))))))]))
 (.ite (.cmp .eql (.var 0) (.int .i64 (.ofNat 21)))
 (.ite (.cmp .eql (.var 1) (.int .i64 (.ofNat 1)))
 (.leaf [(.app 41 0 (.cons (.app 21 0 (.cons (.int .u32 (.ofNat 0)) (.cons (.int .i64 (.ofNat 1)) (.cons (.tup (.cons (.int .i64 (.ofNat 0)) .nil)) .nil)))) (.cons (.var 0) (.cons (.var 1) (.cons (.var 2) (.cons (.var 3) (.cons (.var 4) (.cons (.var 5) (.cons (.var 6) (.cons (.var 7) (.cons (.var 8) (.cons (.var 9) (.cons (.var 10) (.cons (.var 11) (.cons (.var 12) (.cons (.var 13) (.cons (.var 14) (.cons (.var 15) (.cons (.var 16) (.cons (.var 17) (.cons (.var 18) (.cons (.var 19) .nil))))))))))))))))))))))])
 (.leaf [(.app 41 0 (.cons (.app 21 0 (.cons (.app 21 0 (.cons (.int .u32 (.ofNat 0)) (.cons (.int .i64 (.ofNat 1)) (.cons (.tup (.cons (.int .i64 (.ofNat 2)) .nil)) .nil)))) (.cons (.int .i64 (.ofNat 1)) (.cons (.tup (.cons (.int .i64 (.ofNat 0)) .nil)) .nil)))) (.cons (.var 0) (.cons (.var 1) (.cons (.var 2) (.cons (.var 3) (.cons (.var 4) (.cons (.var 5) (.cons (.var 6) (.cons (.var 7) (.cons (.var 8) (.cons (.var 9) (.cons (.var 10) (.cons (.var 11) (.cons (.var 12) (.cons (.var 13) (.cons (.var 14) (.cons (.var 15) (.cons (.var 16) (.cons (.var 17) (.cons (.var 18) (.cons (.var 19) .nil))))))))))))))))))))))]))
 (.ite (.cmp .eql (.var 0) (.int .i64 (.ofNat 22)))
 (.ite (.cmp .eql (.var 1) (.int .i64 (.ofNat 1)))
 (.leaf [(.app 41 0 (.cons (.app 21 0 (.cons (.int .u32 (.ofNat 0)) (.cons (.int .i64 (.ofNat 1)) (.cons (.tup (.cons (.int .i64 (.ofNat 0)) .nil)) .nil)))) (.cons (.var 0) (.cons (.var 1) (.cons (.var 2) (.cons (.var 3) (.cons (.var 4) (.cons (.var 5) (.cons (.var 6) (.cons (.var 7) (.cons (.var 8) (.cons (.var 9) (.cons (.var 10) (.cons (.var 11) (.cons (.var 12) (.cons (.var 13) (.cons (.var 14) (.cons (.var 15) (.cons (.var 16) (.cons (.var 17) (.cons (.var 18) (.cons (.var 19) .nil))))))))))))))))))))))])
 (.leaf [(.app 41 0 (.cons (.app 21 0 (.cons (.app 21 0 (.cons (.int .u32 (.ofNat 0)) (.cons (.int .i64 (.ofNat 1)) (.cons (.tup (.cons (.int .i64 (.ofNat 2)) .nil)) .nil)))) (.cons (.int .i64 (.ofNat 1)) (.cons (.tup (.cons (.int .i64 (.ofNat 0)) .nil)) .nil)))) (.cons (.var 0) (.cons (.var 1) (.cons (.var 2) (.cons (.var 3) (.cons (.var 4) (.cons (.var 5) (.cons (.var 6) (.cons (.var 7) (.cons (.var 8) (.cons (.var 9) (.cons (.var 10) (.cons (.var 11) (.cons (.var 12) (.cons (.var 13) (.cons (.var 14) (.cons (.var 15) (.cons (.var 16) (.cons (.var 17) (.cons (.var 18) (.cons (.var 19) .nil))))))))))))))))))))))]))
 (.ite (.cmp .eql (.var 0) (.int .i64 (.ofNat 23)))
 (.ite (.cmp .eql (.var 1) (.int .i64 (.ofNat 1)))
 (.leaf [(.app 41 0 (.cons (.app 21 0 (.cons (.int .u32 (.ofNat 0)) (.cons (.int .i64 (.ofNat 1)) (.cons (.tup (.cons (.int .i64 (.ofNat 0)) .nil)) .nil)))) (.cons (.var 0) (.cons (.var 1) (.cons (.var 2) (.cons (.var 3) (.cons (.var 4) (.cons (.var 5) (.cons (.var 6) (.cons (.var 7) (.cons (.var 8) (.cons (.var 9) (.cons (.var 10) (.cons (.var 11) (.cons (.var 12) (.cons (.var 13) (.cons (.var 14) (.cons (.var 15) (.cons (.var 16) (.cons (.var 17) (.cons (.var 18) (.cons (.var 19) .nil))))))))))))))))))))))])
 (.leaf [(.app 41 0 (.cons (.app 21 0 (.cons (.app 21 0 (.cons (.int .u32 (.ofNat 0)) (.cons (.int .i64 (.ofNat 1)) (.cons (.tup (.cons (.int .i64 (.ofNat 2)) .nil)) .nil)))) (.cons (.int .i64 (.ofNat 1)) (.cons (.tup (.cons (.int .i64 (.ofNat 0)) .nil)) .nil)))) (.cons (.var 0) (.cons (.var 1) (.cons (.var 2) (.cons (.var 3) (.cons (.var 4) (.cons (.var 5) (.cons (.var 6) (.cons (.var 7) (.cons (.var 8) (.cons (.var 9) (.cons (.var 10) (.cons (.var 11) (.cons (.var 12) (.cons (.var 13) (.cons (.var 14) (.cons (.var 15) (.cons (.var 16) (.cons (.var 17) (.cons (.var 18) (.cons (.var 19) .nil))))))))))))))))))))))]))
 (.ite (.cmp .eql (.var 0) (.int .i64 (.ofNat 32)))
 (.leaf [(.app 41 0 (.cons (.app 21 0 (.cons (.int .u32 (.ofNat 0)) (.cons (.int .i64 (.ofNat 1)) (.cons (.tup (.cons (.int .i64 (.ofNat 0)) .nil)) .nil)))) (.cons (.var 0) (.cons (.var 1) (.cons (.var 2) (.cons (.var 3) (.cons (.var 4) (.cons (.var 5) (.cons (.var 6) (.cons (.var 7) (.cons (.var 8) (.cons (.var 9) (.cons (.var 10) (.cons (.var 11) (.cons (.var 12) (.cons (.var 13) (.cons (.var 14) (.cons (.var 15) (.cons (.var 16) (.cons (.var 17) (.cons (.var 18) (.cons (.var 19) .nil))))))))))))))))))))))])
 (.ite (.cmp .eql (.var 0) (.int .i64 (.ofNat 40)))
 (.leaf [(.app 41 0 (.cons (.app 21 0 (.cons (.int .u32 (.ofNat 0)) (.cons (.int .i64 (.ofNat 1)) (.cons (.tup (.cons (.int .i64 (.ofNat 0)) .nil)) .nil)))) (.cons (.var 0) (.cons (.var 1) (.cons (.var 2) (.cons (.var 3) (.cons (.var 4) (.cons (.var 5) (.cons (.var 6) (.cons (.var 7) (.cons (.var 8) (.cons (.var 9) (.cons (.var 10) (.cons (.var 11) (.cons (.var 12) (.cons (.var 13) (.cons (.var 14) (.cons (.var 15) (.cons (.var 16) (.cons (.var 17) (.cons (.var 18) (.cons (.var 19) .nil))))))))))))))))))))))])
 (.ite (.cmp .eql (.var 0) (.int .i64 (.ofNat 41)))
 (.leaf [(.app 41 0 (.cons (.app 21 0 (.cons (.int .u32 (.ofNat 0)) (.cons (.int .i64 (.ofNat 1)) (.cons (.tup (.cons (.int .i64 (.ofNat 2)) .nil)) .nil)))) (.cons (.var 0) (.cons (.var 1) (.cons (.var 2) (.cons (.var 3) (.cons (.var 4) (.cons (.var 5) (.cons (.var 6) (.cons (.var 7) (.cons (.var 8) (.cons (.var 9) (.cons (.var 10) (.cons (.var 11) (.cons (.var 12) (.cons (.var 13) (.cons (.var 14) (.cons (.var 15) (.cons (.var 16) (.cons (.var 17) (.cons (.var 18) (.cons (.var 19) .nil))))))))))))))))))))))])
 (.ite (.cmp .eql (.var 0) (.int .i64 (.ofNat 42)))
 (.leaf [(.app 41 0 (.cons (.app 21 0 (.cons (.app 21 0 (.cons (.int .u32 (.ofNat 0)) (.cons (.int .i64 (.ofNat 1)) (.cons (.tup (.cons (.int .i64 (.ofNat 6)) .nil)) .nil)))) (.cons (.int .i64 (.ofNat 1)) (.cons (.tup (.cons (.int .i64 (.ofNat 7)) .nil)) .nil)))) (.cons (.var 0) (.cons (.var 1) (.cons (.var 2) (.cons (.var 3) (.cons (.var 4) (.cons (.var 5) (.cons (.var 6) (.cons (.var 7) (.cons (.var 8) (.cons (.var 9) (.cons (.var 10) (.cons (.var 11) (.cons (.var 12) (.cons (.var 13) (.cons (.var 14) (.cons (.var 15) (.cons (.var 16) (.cons (.var 17) (.cons (.var 18) (.cons (.var 19) .nil))))))))))))))))))))))])
 (.ite (.cmp .eql (.var 0) (.int .i64 (.ofNat 43)))
 (.leaf [(.app 41 0 (.cons (.app 21 0 (.cons (.int .u32 (.ofNat 0)) (.cons (.int .i64 (.ofNat 1)) (.cons (.tup (.cons (.int .i64 (.ofNat 7)) .nil)) .nil)))) (.cons (.var 0) (.cons (.var 1) (.cons (.var 2) (.cons (.var 3) (.cons (.var 4) (.cons (.var 5) (.cons (.var 6) (.cons (.var 7) (.cons (.var 8) (.cons (.var 9) (.cons (.var 10) (.cons (.var 11) (.cons (.var 12) (.cons (.var 13) (.cons (.var 14) (.cons (.var 15) (.cons (.var 16) (.cons (.var 17) (.cons (.var 18) (.cons (.var 19) .nil))))))))))))))))))))))])
 (.ite (.cmp .eql (.var 0) (.int .i64 (.ofNat 46)))
 (.leaf [(.app 41 0 (.cons (.app 21 0 (.cons (.int .u32 (.ofNat 0)) (.cons (.int .i64 (.ofNat 3)) (.cons (.tup (.cons (.int .i64 (.ofNat 0)) (.cons (.int .i64 (.ofNat 1)) (.cons (.int .i64 (.ofNat 11)) .nil)))) .nil)))) (.cons (.var 0) (.cons (.var 1) (.cons (.var 2) (.cons (.var 3) (.cons (.var 4) (.cons (.var 5) (.cons (.var 6) (.cons (.var 7) (.cons (.var 8) (.cons (.var 9) (.cons (.var 10) (.cons (.var 11) (.cons (.var 12) (.cons (.var 13) (.cons (.var 14) (.cons (.var 15) (.cons (.var 16) (.cons (.var 17) (.cons (.var 18) (.cons (.var 19) .nil))))))))))))))))))))))])
 (.leaf [(.app 41 0 (.cons (.int .u32 (.ofNat 0)) (.cons (.var 0) (.cons (.var 1) (.cons (.var 2) (.cons (.var 3) (.cons (.var 4) (.cons (.var 5) (.cons (.var 6) (.cons (.var 7) (.cons (.var 8) (.cons (.var 9) (.cons (.var 10) (.cons (.var 11) (.cons (.var 12) (.cons (.var 13) (.cons (.var 14) (.cons (.var 15) (.cons (.var 16) (.cons (.var 17) (.cons (.var 18) (.cons (.var 19) .nil))))))))))))))))))))))])))))))))))))))
noncomputable def D16 : List (Nat × Def) := (16, .fn (sortsP g16.ps) V16) :: D41
theorem ds16 : DS ph16 D16 := DS.fn ds41 16 _ T16 V16 (by kernel_rfl) (by kernel_rfl) (by kernel_rfl)
/- calque/jumps.Writes -/
noncomputable def b5 : Code := Try.f5.body.getD .skip
noncomputable def g5 : Sig := { f := 5, sym := 5, ps := [.val true [(.int .i64), (.int .i64), (.int .i64), (.int .i64), (.int .i64), (.int .i64), (.int .i64), (.int .i64), (.int .i64), (.int .i64), (.int .i64), (.int .i64), (.int .i64), (.int .i64), (.int .i64), (.int .i64), (.int .i64), .bool, .bool, (.int .i64)]], rs := [.val false [(.int .u32)]] }
noncomputable def n5 : Nat := g5.ps.length + (Try.f5.ntmps - g5.ps.length)
noncomputable def T5 : RTree := fnT Try.prog ct16 sy16 [] 500 Try.f5 b5 g5
noncomputable def ct5 : List Sig := g5 :: ct16
noncomputable def sy5 : List (Nat × List So) := (5, g5.rs.flatMap RK.sorts) :: sy16
noncomputable def ph5 : Nat → List Value → List Value := updF ph16 5 (SX.auto T5 (sortsP g5.ps) ph16)
theorem en5 : Env Try.prog ct5 sy5 ph5 :=
  Env.auto en16 [] 500 Try.f5 b5 g5 (by kernel_rfl) (by kernel_rfl) (by kernel_rfl) (by kernel_rfl) (by kernel_rfl) (by kernel_rfl) (by kernel_rfl) (by kernel_rfl) (fun _ h => by simp at h) (by kernel_rfl)
noncomputable def V5 : VT := (.ite (.app 15 0 (.cons (.var 0) (.cons (.var 1) (.cons (.var 2) (.cons (.var 3) (.cons (.var 4) (.cons (.var 5) (.cons (.var 6) (.cons (.var 7) (.cons (.var 8) (.cons (.var 9) (.cons (.var 10) (.cons (.var 11) (.cons (.var 12) (.cons (.var 13) (.cons (.var 14) (.cons (.var 15) (.cons (.var 16) (.cons (.var 17) (.cons (.var 18) (.cons (.var 19) .nil)))))))))))))))))))))
 (.ite (.cmp .eql (.var 0) (.int .i64 (.ofNat 8)))
 (.leaf [(.app 16 0 (.cons (.var 0) (.cons (.var 1) (.cons (.var 2) (.cons (.var 3) (.cons (.var 4) (.cons (.var 5) (.cons (.var 6) (.cons (.var 7) (.cons (.var 8) (.cons (.var 9) (.cons (.var 10) (.cons (.var 11) (.cons (.var 12) (.cons (.var 13) (.cons (.var 14) (.cons (.var 15) (.cons (.var 16) (.cons (.var 17) (.cons (.var 18) (.cons (.var 19) .nil)))))))))))))))))))))])
 (.ite (.cmp .eql (.var 0) (.int .i64 (.ofNat 9)))
 (.leaf [(.app 16 0 (.cons (.var 0) (.cons (.var 1) (.cons (.var 2) (.cons (.var 3) (.cons (.var 4) (.cons (.var 5) (.cons (.var 6) (.cons (.var 7) (.cons (.var 8) (.cons (.var 9) (.cons (.var 10) (.cons (.var 11) (.cons (.var 12) (.cons (.var 13) (.cons (.var 14) (.cons (.var 15) (.cons (.var 16) (.cons (.var 17) (.cons (.var 18) (.cons (.var 19) .nil)))))))))))))))))))))])
 (.ite (.cmp .eql (.var 0) (.int .i64 (.ofNat 14)))
 (.leaf [(.app 16 0 (.cons (.var 0) (.cons (.var 1) (.cons (.var 2) (.cons (.var 3) (.cons (.var 4) (.cons (.var 5) (.cons (.var 6) (.cons (.var 7) (.cons (.var 8) (.cons (.var 9) (.cons (.var 10) (.cons (.var 11) (.cons (.var 12) (.cons (.var 13) (.cons (.var 14) (.cons (.var 15) (.cons (.var 16) (.cons (.var 17) (.cons (.var 18) (.cons (.var 19) .nil)))))))))))))))))))))])
 (.ite (.cmp .eql (.var 0) (.int .i64 (.ofNat 20)))
 (.leaf [(.app 16 0 (.cons (.var 0) (.cons (.var 1) (.cons (.var 2) (.cons (.var 3) (.cons (.var 4) (.cons (.var 5) (.cons (.var 6) (.cons (.var 7) (.cons (.var 8) (.cons (.var 9) (.cons (.var 10) (.cons (.var 11) (.cons (.var 12) (.cons (.var 13) (.cons (.var 14) (.cons (.var 15) (.cons (.var 16) (.cons (.var 17) (.cons (.var 18) (.cons (.var 19) .nil)))))))))))))))))))))])
 (.ite (.cmp .eql (.var 0) (.int .i64 (.ofNat 21)))
 (.leaf [(.app 16 0 (.cons (.var 0) (.cons (.var 1) (.cons (.var 2) (.cons (.var 3) (.cons (.var 4) (.cons (.var 5) (.cons (.var 6) (.cons (.var 7) (.cons (.var 8) (.cons (.var 9) (.cons (.var 10) (.cons (.var 11) (.cons (.var 12) (.cons (.var 13) (.cons (.var 14) (.cons (.var 15) (.cons (.var 16) (.cons (.var 17) (.cons (.var 18) (.cons (.var 19) .nil)))))))))))))))))))))])
 (.ite (.cmp .eql (.var 0) (.int .i64 (.ofNat 22)))
 (.leaf [(.app 16 0 (.cons (.var 0) (.cons (.var 1) (.cons (.var 2) (.cons (.var 3) (.cons (.var 4) (.cons (.var 5) (.cons (.var 6) (.cons (.var 7) (.cons (.var 8) (.cons (.var 9) (.cons (.var 10) (.cons (.var 11) (.cons (.var 12) (.cons (.var 13) (.cons (.var 14) (.cons (.var 15) (.cons (.var 16) (.cons (.var 17) (.cons (.var 18) (.cons (.var 19) .nil)))))))))))))))))))))])
 (.ite (.cmp .eql (.var 0) (.int .i64 (.ofNat 23)))
 (.leaf [(.app 16 0 (.cons (.var 0) (.cons (.var 1) (.cons (.var 2) (.cons (.var 3) (.cons (.var 4) (.cons (.var 5) (.cons (.var 6) (.cons (.var 7) (.cons (.var 8) (.cons (.var 9) (.cons (.var 10) (.cons (.var 11) (.cons (.var 12) (.cons (.var 13) (.cons (.var 14) (.cons (.var 15) (.cons (.var 16) (.cons (.var 17) (.cons (.var 18) (.cons (.var 19) .nil)))))))))))))))))))))])
 (.ite (.cmp .eql (.var 0) (.int .i64 (.ofNat 37)))
 (.leaf [(.app 16 0 (.cons (.var 0) (.cons (.var 1) (.cons (.var 2) (.cons (.var 3) (.cons (.var 4) (.cons (.var 5) (.cons (.var 6) (.cons (.var 7) (.cons (.var 8) (.cons (.var 9) (.cons (.var 10) (.cons (.var 11) (.cons (.var 12) (.cons (.var 13) (.cons (.var 14) (.cons (.var 15) (.cons (.var 16) (.cons (.var 17) (.cons (.var 18) (.cons (.var 19) .nil)))))))))))))))))))))])
 (.ite (.cmp .eql (.var 0) (.int .i64 (.ofNat 38)))
 (.leaf [(.app 16 0 (.cons (.var 0) (.cons (.var 1) (.cons (.var 2) (.cons (.var 3) (.cons (.var 4) (.cons (.var 5) (.cons (.var 6) (.cons (.var 7) (.cons (.var 8) (.cons (.var 9) (.cons (.var 10) (.cons (.var 11) (.cons (.var 12) (.cons (.var 13) (.cons (.var 14) (.cons (.var 15) (.cons (.var 16) (.cons (.var 17) (.cons (.var 18) (.cons (.var 19) .nil)))))))))))))))))))))])
 (.ite (.cmp .eql (.var 0) (.int .i64 (.ofNat 31)))
 (.leaf [(.app 17 0 (.cons (.app 17 0 (.cons (.app 16 0 (.cons (.var 0) (.cons (.var 1) (.cons (.var 2) (.cons (.var 3) (.cons (.var 4) (.cons (.var 5) (.cons (.var 6) (.cons (.var 7) (.cons (.var 8) (.cons (.var 9) (.cons (.var 10) (.cons (.var 11) (.cons (.var 12) (.cons (.var 13) (.cons (.var 14) (.cons (.var 15) (.cons (.var 16) (.cons (.var 17) (.cons (.var 18) (.cons (.var 19) .nil))))))))))))))))))))) (.cons (.var 9) (.cons (.var 10) (.cons (.var 11) (.cons (.var 12) (.cons (.var 13) (.cons (.var 14) .nil)))))))) (.cons (.var 3) (.cons (.var 4) (.cons (.var 5) (.cons (.var 6) (.cons (.var 7) (.cons (.var 8) .nil))))))))])
 (.ite (.cmp .eql (.var 0) (.int .i64 (.ofNat 33)))
 (.leaf [(.app 17 0 (.cons (.app 17 0 (.cons (.app 16 0 (.cons (.var 0) (.cons (.var 1) (.cons (.var 2) (.cons (.var 3) (.cons (.var 4) (.cons (.var 5) (.cons (.var 6) (.cons (.var 7) (.cons (.var 8) (.cons (.var 9) (.cons (.var 10) (.cons (.var 11) (.cons (.var 12) (.cons (.var 13) (.cons (.var 14) (.cons (.var 15) (.cons (.var 16) (.cons (.var 17) (.cons (.var 18) (.cons (.var 19) .nil))))))))))))))))))))) (.cons (.var 9) (.cons (.var 10) (.cons (.var 11) (.cons (.var 12) (.cons (.var 13) (.cons (.var 14) .nil)))))))) (.cons (.var 3) (.cons (.var 4) (.cons (.var 5) (.cons (.var 6) (.cons (.var 7) (.cons (.var 8) .nil))))))))])
 (.leaf [(.app 17 0 (.cons (.app 16 0 (.cons (.var 0) (.cons (.var 1) (.cons (.var 2) (.cons (.var 3) (.cons (.var 4) (.cons (.var 5) (.cons (.var 6) (.cons (.var 7) (.cons (.var 8) (.cons (.var 9) (.cons (.var 10) (.cons (.var 11) (.cons (.var 12) (.cons (.var 13) (.cons (.var 14) (.cons (.var 15) (.cons (.var 16) (.cons (.var 17) (.cons (.var 18) (.cons (.var 19) .nil))))))))))))))))))))) (.cons (.var 3) (.cons (.var 4) (.cons (.var 5) (.cons (.var 6) (.cons (.var 7) (.cons (.var 8) .nil))))))))]))))))))))))
 (.leaf [(.int .u32 (.ofNat 0))]))
noncomputable def D5 : List (Nat × Def) := (5, .fn (sortsP g5.ps) V5) :: D16
theorem ds5 : DS ph5 D5 := DS.fn ds16 5 _ T5 V5 (by kernel_rfl) (by kernel_rfl) (by kernel_rfl)
/- (calque/xinst.Inst).Mem -/
noncomputable def b20 : Code := Try.f20.body.getD .skip
noncomputable def g20 : Sig := { f := 20, sym := 20, ps := [.val true [(.int .i64), (.int .i64), (.int .i64), (.int .i64), (.int .i64), (.int .i64), (.int .i64), (.int .i64), (.int .i64), (.int .i64), (.int .i64), (.int .i64), (.int .i64), (.int .i64), (.int .i64), (.int .i64), (.int .i64), .bool, .bool, (.int .i64)]], rs := [.val true [(.int .i64), (.int .i64), (.int .i64), (.int .i64), (.int .i64), (.int .i64)], .val false [.bool]] }
noncomputable def n20 : Nat := g20.ps.length + (Try.f20.ntmps - g20.ps.length)
noncomputable def T20 : RTree := fnT Try.prog ct5 sy5 [] 500 Try.f20 b20 g20
noncomputable def ct20 : List Sig := g20 :: ct5
noncomputable def sy20 : List (Nat × List So) := (20, g20.rs.flatMap RK.sorts) :: sy5
noncomputable def ph20 : Nat → List Value → List Value := updF ph5 20 (SX.auto T20 (sortsP g20.ps) ph5)
theorem en20 : Env Try.prog ct20 sy20 ph20 :=
  Env.auto en5 [] 500 Try.f20 b20 g20 (by kernel_rfl) (by kernel_rfl) (by kernel_rfl) (by kernel_rfl) (by kernel_rfl) (by kernel_rfl) (by kernel_rfl) (by kernel_rfl) (fun _ h => by simp at h) (by kernel_rfl)
noncomputable def V20 : VT := (.ite (.app 42 0 (.cons (.var 3) (.cons (.var 4) (.cons (.var 5) (.cons (.var 6) (.cons (.var 7) (.cons (.var 8) (.cons (.int .i64 (.ofNat 1)) (.cons (.tup (.cons (.int .i64 (.ofNat 2)) .nil)) .nil)))))))))
 (.leaf [(.var 3), (.var 4), (.var 5), (.var 6), (.var 7), (.var 8), (.bool true)])
 (.ite (.app 42 0 (.cons (.var 9) (.cons (.var 10) (.cons (.var 11) (.cons (.var 12) (.cons (.var 13) (.cons (.var 14) (.cons (.int .i64 (.ofNat 1)) (.cons (.tup (.cons (.int .i64 (.ofNat 2)) .nil)) .nil)))))))))
 (.leaf [(.var 9), (.var 10), (.var 11), (.var 12), (.var 13), (.var 14), (.bool true)])
 (.leaf [(.int .i64 (.ofNat 0)), (.int .i64 (.ofNat 0)), (.int .i64 (.ofNat 0)), (.int .i64 (.ofNat 0)), (.int .i64 (.ofNat 0)), (.int .i64 (.ofNat 0)), (.bool false)])))
noncomputable def D20 : List (Nat × Def) := (20, .fn (sortsP g20.ps) V20) :: D5
theorem ds20 : DS ph20 D20 := DS.fn ds5 20 _ T20 V20 (by kernel_rfl) (by kernel_rfl) (by kernel_rfl)
/- calque/jumps.read -/
noncomputable def b19 : Code := Try.f19.body.getD .skip
noncomputable def g19 : Sig := { f := 19, sym := 19, ps := [.val true [(.int .i64), (.int .i64), (.int .i64), (.int .i64), (.int .i64), (.int .i64), (.int .i64), (.int .i64), (.int .i64), (.int .i64), (.int .i64), (.int .i64), (.int .i64), (.int .i64), (.int .i64), (.int .i64), (.int .i64), .bool, .bool, (.int .i64)]], rs := [.val false [(.int .u32)]] }
noncomputable def n19 : Nat := g19.ps.length + (Try.f19.ntmps - g19.ps.length)
noncomputable def T19 : RTree := fnT Try.prog ct20 sy20 [] 500 Try.f19 b19 g19
noncomputable def ct19 : List Sig := g19 :: ct20
noncomputable def sy19 : List (Nat × List So) := (19, g19.rs.flatMap RK.sorts) :: sy20
noncomputable def ph19 : Nat → List Value → List Value := updF ph20 19 (SX.auto T19 (sortsP g19.ps) ph20)
theorem en19 : Env Try.prog ct19 sy19 ph19 :=
  Env.auto en20 [] 500 Try.f19 b19 g19 (by kernel_rfl) (by kernel_rfl) (by kernel_rfl) (by kernel_rfl) (by kernel_rfl) (by kernel_rfl) (by kernel_rfl) (by kernel_rfl) (fun _ h => by simp at h) (by kernel_rfl)
noncomputable def V19 : VT := (.ite (.cmp .eql (.var 0) (.int .i64 (.ofNat 14)))
 (.leaf [(.app 41 0 (.cons (.app 21 0 (.cons (.int .u32 (.ofNat 0)) (.cons (.int .i64 (.ofNat 1)) (.cons (.tup (.cons (.int .i64 (.ofNat 4)) .nil)) .nil)))) (.cons (.var 0) (.cons (.var 1) (.cons (.var 2) (.cons (.var 3) (.cons (.var 4) (.cons (.var 5) (.cons (.var 6) (.cons (.var 7) (.cons (.var 8) (.cons (.var 9) (.cons (.var 10) (.cons (.var 11) (.cons (.var 12) (.cons (.var 13) (.cons (.var 14) (.cons (.var 15) (.cons (.var 16) (.cons (.var 17) (.cons (.var 18) (.cons (.var 19) .nil))))))))))))))))))))))])
 (.ite (.cmp .eql (.var 0) (.int .i64 (.ofNat 15)))
 (.leaf [(.app 41 0 (.cons (.app 21 0 (.cons (.int .u32 (.ofNat 0)) (.cons (.int .i64 (.ofNat 1)) (.cons (.tup (.cons (.int .i64 (.ofNat 4)) .nil)) .nil)))) (.cons (.var 0) (.cons (.var 1) (.cons (.var 2) (.cons (.var 3) (.cons (.var 4) (.cons (.var 5) (.cons (.var 6) (.cons (.var 7) (.cons (.var 8) (.cons (.var 9) (.cons (.var 10) (.cons (.var 11) (.cons (.var 12) (.cons (.var 13) (.cons (.var 14) (.cons (.var 15) (.cons (.var 16) (.cons (.var 17) (.cons (.var 18) (.cons (.var 19) .nil))))))))))))))))))))))])
 (.ite (.cmp .eql (.var 0) (.int .i64 (.ofNat 38)))
 (.leaf [(.app 41 0 (.cons (.app 21 0 (.cons (.int .u32 (.ofNat 0)) (.cons (.int .i64 (.ofNat 1)) (.cons (.tup (.cons (.int .i64 (.ofNat 4)) .nil)) .nil)))) (.cons (.var 0) (.cons (.var 1) (.cons (.var 2) (.cons (.var 3) (.cons (.var 4) (.cons (.var 5) (.cons (.var 6) (.cons (.var 7) (.cons (.var 8) (.cons (.var 9) (.cons (.var 10) (.cons (.var 11) (.cons (.var 12) (.cons (.var 13) (.cons (.var 14) (.cons (.var 15) (.cons (.var 16) (.cons (.var 17) (.cons (.var 18) (.cons (.var 19) .nil))))))))))))))))))))))])
 (.ite (.cmp .eql (.var 0) (.int .i64 (.ofNat 39)))
 (.leaf [(.app 41 0 (.cons (.app 21 0 (.cons (.int .u32 (.ofNat 0)) (.cons (.int .i64 (.ofNat 1)) (.cons (.tup (.cons (.int .i64 (.ofNat 4)) .nil)) .nil)))) (.cons (.var 0) (.cons (.var 1) (.cons (.var 2) (.cons (.var 3) (.cons (.var 4) (.cons (.var 5) (.cons (.var 6) (.cons (.var 7) (.cons (.var 8) (.cons (.var 9) (.cons (.var 10) (.cons (.var 11) (.cons (.var 12) (.cons (.var 13) (.cons (.var 14) (.cons (.var 15) (.cons (.var 16) (.cons (.var 17) (.cons (.var 18) (.cons (.var 19) .nil))))))))))))))))))))))])
 (.ite (.cmp .eql (.var 0) (.int .i64 (.ofNat 20)))
 (.ite (.cmp .eql (.var 1) (.int .i64 (.ofNat 2)))
 (.leaf [(.app 41 0 (.cons (.app 21 0 (.cons (.app 21 0 (.cons (.int .u32 (.ofNat 0)) (.cons (.int .i64 (.ofNat 1)) (.cons (.tup (.cons (.int .i64 (.ofNat 2)) .nil)) .nil)))) (.cons (.int .i64 (.ofNat 1)) (.cons (.tup (.cons (.int .i64 (.ofNat 0)) .nil)) .nil)))) (.cons (.var 0) (.cons (.var 1) (.cons (.var 2) (.cons (.var 3) (.cons (.var 4) (.cons (.var 5) (.cons (.var 6) (.cons (.var 7) (.cons (.var 8) (.cons (.var 9) (.cons (.var 10) (.cons (.var 11) (.cons (.var 12) (.cons (.var 13) (.cons (.var 14) (.cons (.var 15) (.cons (.var 16) (.cons (.var 17) (.cons (.var 18) (.cons (.var 19) .nil))))))))))))))))))))))])
 (.leaf [(.app 41 0 (.cons (.app 21 0 (.cons (.int .u32 (.ofNat 0)) (.cons (.int .i64 (.ofNat 1)) (.cons (.tup (.cons (.int .i64 (.ofNat 0)) .nil)) .nil)))) (.cons (.var 0) (.cons (.var 1) (.cons (.var 2) (.cons (.var 3) (.cons (.var 4) (.cons (.var 5) (.cons (.var 6) (.cons (.var 7) (.cons (.var 8) (.cons (.var 9) (.cons (.var 10) (.cons (.var 11) (.cons (.var 12) (.cons (.var 13) (.cons (.var 14) (.cons (.var 15) (.cons (.var 16) (.cons (.var 17) (.cons (.var 18) (.cons (.var 19) .nil))))))))))))))))))))))]))
 (.ite (.cmp .eql (.var 0) (.int .i64 (.ofNat 21)))
 (.ite (.cmp .eql (.var 1) (.int .i64 (.ofNat 2)))
 (.leaf [(.app 41 0 (.cons (.app 21 0 (.cons (.app 21 0 (.cons (.int .u32 (.ofNat 0)) (.cons (.int .i64 (.ofNat 1)) (.cons (.tup (.cons (.int .i64 (.ofNat 2)) .nil)) .nil)))) (.cons (.int .i64 (.ofNat 1)) (.cons (.tup (.cons (.int .i64 (.ofNat 0)) .nil)) .nil)))) (.cons (.var 0) (.cons (.var 1) (.cons (.var 2) (.cons (.var 3) (.cons (.var 4) (.cons (.var 5) (.cons (.var 6) (.cons (.var 7) (.cons (.var 8) (.cons (.var 9) (.cons (.var 10) (.cons (.var 11) (.cons (.var 12) (.cons (.var 13) (.cons (.var 14) (.cons (.var 15) (.cons (.var 16) (.cons (.var 17) (.cons (.var 18) (.cons (.var 19) .nil))))))))))))))))))))))])
 (.leaf [(.app 41 0 (.cons (.app 21 0 (.cons (.int .u32 (.ofNat 0)) (.cons (.int .i64 (.ofNat 1)) (.cons (.tup (.cons (.int .i64 (.ofNat 0)) .nil)) .nil)))) (.cons (.var 0) (.cons (.var 1) (.cons (.var 2) (.cons (.var 3) (.cons (.var 4) (.cons (.var 5) (.cons (.var 6) (.cons (.var 7) (.cons (.var 8) (.cons (.var 9) (.cons (.var 10) (.cons (.var 11) (.cons (.var 12) (.cons (.var 13) (.cons (.var 14) (.cons (.var 15) (.cons (.var 16) (.cons (.var 17) (.cons (.var 18) (.cons (.var 19) .nil))))))))))))))))))))))]))
 (.ite (.cmp .eql (.var 0) (.int .i64 (.ofNat 41)))
 (.ite (.cmp .eql (.var 1) (.int .i64 (.ofNat 2)))
 (.leaf [(.app 41 0 (.cons (.app 21 0 (.cons (.app 21 0 (.cons (.int .u32 (.ofNat 0)) (.cons (.int .i64 (.ofNat 1)) (.cons (.tup (.cons (.int .i64 (.ofNat 2)) .nil)) .nil)))) (.cons (.int .i64 (.ofNat 1)) (.cons (.tup (.cons (.int .i64 (.ofNat 0)) .nil)) .nil)))) (.cons (.var 0) (.cons (.var 1) (.cons (.var 2) (.cons (.var 3) (.cons (.var 4) (.cons (.var 5) (.cons (.var 6) (.cons (.var 7) (.cons (.var 8) (.cons (.var 9) (.cons (.var 10) (.cons (.var 11) (.cons (.var 12) (.cons (.var 13) (.cons (.var 14) (.cons (.var 15) (.cons (.var 16) (.cons (.var 17) (.cons (.var 18) (.cons (.var 19) .nil))))))))))))))))))))))])
 (.leaf [(.app 41 0 (.cons (.app 21 0 (.cons (.int .u32 (.ofNat 0)) (.cons (.int .i64 (.ofNat 1)) (.cons (.tup (.cons (.int .i64 (.ofNat 0)) .nil)) .nil)))) (.cons (.var 0) (.cons (.var 1) (.cons (.var 2) (.cons (.var 3) (.cons (.var 4) (.cons (.var 5) (.cons (.var 6) (.cons (.var 7) (.cons (.var 8) (.cons (.var 9) (.cons (.var 10) (.cons (.var 11) (.cons (.var 12) (.cons (.var 13) (.cons (.var 14) (.cons (.var 15) (.cons (.var 16) (.cons (.var 17) (.cons (.var 18) (.cons (.var 19) .nil))))))))))))))))))))))]))
 (.ite (.cmp .eql (.var 0) (.int .i64 (.ofNat 32)))
 (.leaf [(.app 41 0 (.cons (.app 21 0 (.cons (.int .u32 (.ofNat 0)) (.cons (.int .i64 (.ofNat 1)) (.cons (.tup (.cons (.int .i64 (.ofNat 0)) .nil)) .nil)))) (.cons (.var 0) (.cons (.var 1) (.cons (.var 2) (.cons (.var 3) (.cons (.var 4) (.cons (.var 5) (.cons (.var 6) (.cons (.var 7) (.cons (.var 8) (.cons (.var 9) (.cons (.var 10) (.cons (.var 11) (.cons (.var 12) (.cons (.var 13) (.cons (.var 14) (.cons (.var 15) (.cons (.var 16) (.cons (.var 17) (.cons (.var 18) (.cons (.var 19) .nil))))))))))))))))))))))])
 (.ite (.cmp .eql (.var 0) (.int .i64 (.ofNat 40)))
 (.leaf [(.app 41 0 (.cons (.app 21 0 (.cons (.int .u32 (.ofNat 0)) (.cons (.int .i64 (.ofNat 1)) (.cons (.tup (.cons (.int .i64 (.ofNat 0)) .nil)) .nil)))) (.cons (.var 0) (.cons (.var 1) (.cons (.var 2) (.cons (.var 3) (.cons (.var 4) (.cons (.var 5) (.cons (.var 6) (.cons (.var 7) (.cons (.var 8) (.cons (.var 9) (.cons (.var 10) (.cons (.var 11) (.cons (.var 12) (.cons (.var 13) (.cons (.var 14) (.cons (.var 15) (.cons (.var 16) (.cons (.var 17) (.cons (.var 18) (.cons (.var 19) .nil))))))))))))))))))))))])
 (.ite (.cmp .eql (.var 0) (.int .i64 (.ofNat 22)))
 (.leaf [(.app 41 0 (.cons (.app 21 0 (.cons (.int .u32 (.ofNat 0)) (.cons (.int .i64 (.ofNat 2)) (.cons (.tup (.cons (.int .i64 (.ofNat 0)) (.cons (.int .i64 (.ofNat 2)) .nil))) .nil)))) (.cons (.var 0) (.cons (.var 1) (.cons (.var 2) (.cons (.var 3) (.cons (.var 4) (.cons (.var 5) (.cons (.var 6) (.cons (.var 7) (.cons (.var 8) (.cons (.var 9) (.cons (.var 10) (.cons (.var 11) (.cons (.var 12) (.cons (.var 13) (.cons (.var 14) (.cons (.var 15) (.cons (.var 16) (.cons (.var 17) (.cons (.var 18) (.cons (.var 19) .nil))))))))))))))))))))))])
 (.ite (.cmp .eql (.var 0) (.int .i64 (.ofNat 23)))
 (.leaf [(.app 41 0 (.cons (.app 21 0 (.cons (.int .u32 (.ofNat 0)) (.cons (.int .i64 (.ofNat 2)) (.cons (.tup (.cons (.int .i64 (.ofNat 0)) (.cons (.int .i64 (.ofNat 2)) .nil))) .nil)))) (.cons (.var 0) (.cons (.var 1) (.cons (.var 2) (.cons (.var 3) (.cons (.var 4) (.cons (.var 5) (.cons (.var 6) (.cons (.var 7) (.cons (.var 8) (.cons (.var 9) (.cons (.var 10) (.cons (.var 11) (.cons (.var 12) (.cons (.var 13) (.cons (.var 14) (.cons (.var 15) (.cons (.var 16) (.cons (.var 17) (.cons (.var 18) (.cons (.var 19) .nil))))))))))))))))))))))])
 (.ite (.cmp .eql (.var 0) (.int .i64 (.ofNat 42)))
 (.leaf [(.app 41 0 (.cons (.app 21 0 (.cons (.int .u32 (.ofNat 0)) (.cons (.int .i64 (.ofNat 2)) (.cons (.tup (.cons (.int .i64 (.ofNat 6)) (.cons (.int .i64 (.ofNat 7)) .nil))) .nil)))) (.cons (.var 0) (.cons (.var 1) (.cons (.var 2) (.cons (.var 3) (.cons (.var 4) (.cons (.var 5) (.cons (.var 6) (.cons (.var 7) (.cons (.var 8) (.cons (.var 9) (.cons (.var 10) (.cons (.var 11) (.cons (.var 12) (.cons (.var 13) (.cons (.var 14) (.cons (.var 15) (.cons (.var 16) (.cons (.var 17) (.cons (.var 18) (.cons (.var 19) .nil))))))))))))))))))))))])
 (.ite (.cmp .eql (.var 0) (.int .i64 (.ofNat 43)))
 (.leaf [(.app 41 0 (.cons (.app 21 0 (.cons (.int .u32 (.ofNat 0)) (.cons (.int .i64 (.ofNat 2)) (.cons (.tup (.cons (.int .i64 (.ofNat 0)) (.cons (.int .i64 (.ofNat 7)) .nil))) .nil)))) (.cons (.var 0) (.cons (.var 1) (.cons (.var 2) (.cons (.var 3) (.cons (.var 4) (.cons (.var 5) (.cons (.var 6) (.cons (.var 7) (.cons (.var 8) (.cons (.var 9) (.cons (.var 10) (.cons (.var 11) (.cons (.var 12) (.cons (.var 13) (.cons (.var 14) (.cons (.var 15) (.cons (.var 16) (.cons (.var 17) (.cons (.var 18) (.cons (.var 19) .nil))))))))))))))))))))))])
 (.ite (.cmp .eql (.var 0) (.int .i64 (.ofNat 46)))
 (.leaf [(.app 41 0 (.cons (.app 21 0 (.cons (.int .u32 (.ofNat 0)) (.cons (.int .i64 (.ofNat 3)) (.cons (.tup (.cons (.int .i64 (.ofNat 0)) (.cons (.int .i64 (.ofNat 6)) (.cons (.int .i64 (.ofNat 7)) .nil)))) .nil)))) (.cons (.var 0) (.cons (.var 1) (.cons (.var 2) (.cons (.var 3) (.cons (.var 4) (.cons (.var 5) (.cons (.var 6) (.cons (.var 7) (.cons (.var 8) (.cons (.var 9) (.cons (.var 10) (.cons (.var 11) (.cons (.var 12) (.cons (.var 13) (.cons (.var 14) (.cons (.var 15) (.cons (.var 16) (.cons (.var 17) (.cons (.var 18) (.cons (.var 19) .nil))))))))))))))))))))))])
 (.leaf [(.app 41 0 (.cons (.int .u32 (.ofNat 0)) (.cons (.var 0) (.cons (.var 1) (.cons (.var 2) (.cons (.var 3) (.cons (.var 4) (.cons (.var 5) (.cons (.var 6) (.cons (.var 7) (.cons (.var 8) (.cons (.var 9) (.cons (.var 10) (.cons (.var 11) (.cons (.var 12) (.cons (.var 13) (.cons (.var 14) (.cons (.var 15) (.cons (.var 16) (.cons (.var 17) (.cons (.var 18) (.cons (.var 19) .nil))))))))))))))))))))))])))))))))))))))
noncomputable def D19 : List (Nat × Def) := (19, .fn (sortsP g19.ps) V19) :: D20
theorem ds19 : DS ph19 D19 := DS.fn ds20 19 _ T19 V19 (by kernel_rfl) (by kernel_rfl) (by kernel_rfl)
/- calque/jumps.replaces -/
noncomputable def b22 : Code := Try.f22.body.getD .skip
noncomputable def g22 : Sig := { f := 22, sym := 22, ps := [.val true [(.int .i64), (.int .i64), (.int .i64), (.int .i64), (.int .i64), (.int .i64), (.int .i64), (.int .i64), (.int .i64), (.int .i64), (.int .i64), (.int .i64), (.int .i64), (.int .i64), (.int .i64), (.int .i64), (.int .i64), .bool, .bool, (.int .i64)]], rs := [.val false [.bool]] }
noncomputable def n22 : Nat := g22.ps.length + (Try.f22.ntmps - g22.ps.length)
noncomputable def T22 : RTree := fnT Try.prog ct19 sy19 [] 500 Try.f22 b22 g22
noncomputable def ct22 : List Sig := g22 :: ct19
noncomputable def sy22 : List (Nat × List So) := (22, g22.rs.flatMap RK.sorts) :: sy19
noncomputable def ph22 : Nat → List Value → List Value := updF ph19 22 (SX.auto T22 (sortsP g22.ps) ph19)
theorem en22 : Env Try.prog ct22 sy22 ph22 :=
  Env.auto en19 [] 500 Try.f22 b22 g22 (by kernel_rfl) (by kernel_rfl) (by kernel_rfl) (by kernel_rfl) (by kernel_rfl) (by kernel_rfl) (by kernel_rfl) (by kernel_rfl) (fun _ h => by simp at h) (by kernel_rfl)
noncomputable def V22 : VT := (.ite (.cmp .eql (.var 0) (.int .i64 (.ofNat 10)))
 (.leaf [(.cmp .lss (.int .i64 (.ofNat 2)) (.var 1))])
 (.ite (.cmp .eql (.var 0) (.int .i64 (.ofNat 11)))
 (.leaf [(.cmp .lss (.int .i64 (.ofNat 2)) (.var 1))])
 (.ite (.cmp .eql (.var 0) (.int .i64 (.ofNat 12)))
 (.leaf [(.cmp .lss (.int .i64 (.ofNat 2)) (.var 1))])
 (.ite (.cmp .eql (.var 0) (.int .i64 (.ofNat 13)))
 (.leaf [(.cmp .lss (.int .i64 (.ofNat 2)) (.var 1))])
 (.ite (.cmp .eql (.var 0) (.int .i64 (.ofNat 15)))
 (.leaf [(.cmp .lss (.int .i64 (.ofNat 2)) (.var 1))])
 (.ite (.cmp .eql (.var 0) (.int .i64 (.ofNat 35)))
 (.leaf [(.cmp .lss (.int .i64 (.ofNat 2)) (.var 1))])
 (.ite (.cmp .eql (.var 0) (.int .i64 (.ofNat 25)))
 (.leaf [(.cmp .lss (.int .i64 (.ofNat 2)) (.var 1))])
 (.leaf [(.bool false)]))))))))
noncomputable def D22 : List (Nat × Def) := (22, .fn (sortsP g22.ps) V22) :: D19
theorem ds22 : DS ph22 D22 := DS.fn ds19 22 _ T22 V22 (by kernel_rfl) (by kernel_rfl) (by kernel_rfl)
/- calque/jumps.Reads -/
noncomputable def b7 : Code := Try.f7.body.getD .skip
noncomputable def g7 : Sig := { f := 7, sym := 7, ps := [.val true [(.int .i64), (.int .i64), (.int .i64), (.int .i64), (.int .i64), (.int .i64), (.int .i64), (.int .i64), (.int .i64), (.int .i64), (.int .i64), (.int .i64), (.int .i64), (.int .i64), (.int .i64), (.int .i64), (.int .i64), .bool, .bool, (.int .i64)]], rs := [.val false [(.int .u32)]] }
noncomputable def n7 : Nat := g7.ps.length + (Try.f7.ntmps - g7.ps.length)
noncomputable def T7 : RTree := fnT Try.prog ct22 sy22 [] 500 Try.f7 b7 g7
noncomputable def ct7 : List Sig := g7 :: ct22
noncomputable def sy7 : List (Nat × List So) := (7, g7.rs.flatMap RK.sorts) :: sy22
noncomputable def ph7 : Nat → List Value → List Value := updF ph22 7 (SX.auto T7 (sortsP g7.ps) ph22)
theorem en7 : Env Try.prog ct7 sy7 ph7 :=
  Env.auto en22 [] 500 Try.f7 b7 g7 (by kernel_rfl) (by kernel_rfl) (by kernel_rfl) (by kernel_rfl) (by kernel_rfl) (by kernel_rfl) (by kernel_rfl) (by kernel_rfl) (fun _ h => by simp at h) (by kernel_rfl)
noncomputable def V7 : VT := (.ite (.app 15 0 (.cons (.var 0) (.cons (.var 1) (.cons (.var 2) (.cons (.var 3) (.cons (.var 4) (.cons (.var 5) (.cons (.var 6) (.cons (.var 7) (.cons (.var 8) (.cons (.var 9) (.cons (.var 10) (.cons (.var 11) (.cons (.var 12) (.cons (.var 13) (.cons (.var 14) (.cons (.var 15) (.cons (.var 16) (.cons (.var 17) (.cons (.var 18) (.cons (.var 19) .nil)))))))))))))))))))))
 (.ite (.app 20 6 (.cons (.var 0) (.cons (.var 1) (.cons (.var 2) (.cons (.var 3) (.cons (.var 4) (.cons (.var 5) (.cons (.var 6) (.cons (.var 7) (.cons (.var 8) (.cons (.var 9) (.cons (.var 10) (.cons (.var 11) (.cons (.var 12) (.cons (.var 13) (.cons (.var 14) (.cons (.var 15) (.cons (.var 16) (.cons (.var 17) (.cons (.var 18) (.cons (.var 19) .nil)))))))))))))))))))))
 (.ite (.app 22 0 (.cons (.var 0) (.cons (.var 1) (.cons (.var 2) (.cons (.var 3) (.cons (.var 4) (.cons (.var 5) (.cons (.var 6) (.cons (.var 7) (.cons (.var 8) (.cons (.var 9) (.cons (.var 10) (.cons (.var 11) (.cons (.var 12) (.cons (.var 13) (.cons (.var 14) (.cons (.var 15) (.cons (.var 16) (.cons (.var 17) (.cons (.var 18) (.cons (.var 19) .nil)))))))))))))))))))))
 (.leaf [(.app 21 0 (.cons (.app 17 0 (.cons (.app 19 0 (.cons (.var 0) (.cons (.var 1) (.cons (.var 2) (.cons (.var 3) (.cons (.var 4) (.cons (.var 5) (.cons (.var 6) (.cons (.var 7) (.cons (.var 8) (.cons (.var 9) (.cons (.var 10) (.cons (.var 11) (.cons (.var 12) (.cons (.var 13) (.cons (.var 14) (.cons (.var 15) (.cons (.var 16) (.cons (.var 17) (.cons (.var 18) (.cons (.var 19) .nil))))))))))))))))))))) (.cons (.var 9) (.cons (.var 10) (.cons (.var 11) (.cons (.var 12) (.cons (.var 13) (.cons (.var 14) .nil)))))))) (.cons (.int .i64 (.ofNat 2)) (.cons (.tup (.cons (.app 20 2 (.cons (.var 0) (.cons (.var 1) (.cons (.var 2) (.cons (.var 3) (.cons (.var 4) (.cons (.var 5) (.cons (.var 6) (.cons (.var 7) (.cons (.var 8) (.cons (.var 9) (.cons (.var 10) (.cons (.var 11) (.cons (.var 12) (.cons (.var 13) (.cons (.var 14) (.cons (.var 15) (.cons (.var 16) (.cons (.var 17) (.cons (.var 18) (.cons (.var 19) .nil))))))))))))))))))))) (.cons (.app 20 3 (.cons (.var 0) (.cons (.var 1) (.cons (.var 2) (.cons (.var 3) (.cons (.var 4) (.cons (.var 5) (.cons (.var 6) (.cons (.var 7) (.cons (.var 8) (.cons (.var 9) (.cons (.var 10) (.cons (.var 11) (.cons (.var 12) (.cons (.var 13) (.cons (.var 14) (.cons (.var 15) (.cons (.var 16) (.cons (.var 17) (.cons (.var 18) (.cons (.var 19) .nil))))))))))))))))))))) .nil))) .nil))))])
 (.leaf [(.app 17 0 (.cons (.app 21 0 (.cons (.app 17 0 (.cons (.app 19 0 (.cons (.var 0) (.cons (.var 1) (.cons (.var 2) (.cons (.var 3) (.cons (.var 4) (.cons (.var 5) (.cons (.var 6) (.cons (.var 7) (.cons (.var 8) (.cons (.var 9) (.cons (.var 10) (.cons (.var 11) (.cons (.var 12) (.cons (.var 13) (.cons (.var 14) (.cons (.var 15) (.cons (.var 16) (.cons (.var 17) (.cons (.var 18) (.cons (.var 19) .nil))))))))))))))))))))) (.cons (.var 9) (.cons (.var 10) (.cons (.var 11) (.cons (.var 12) (.cons (.var 13) (.cons (.var 14) .nil)))))))) (.cons (.int .i64 (.ofNat 2)) (.cons (.tup (.cons (.app 20 2 (.cons (.var 0) (.cons (.var 1) (.cons (.var 2) (.cons (.var 3) (.cons (.var 4) (.cons (.var 5) (.cons (.var 6) (.cons (.var 7) (.cons (.var 8) (.cons (.var 9) (.cons (.var 10) (.cons (.var 11) (.cons (.var 12) (.cons (.var 13) (.cons (.var 14) (.cons (.var 15) (.cons (.var 16) (.cons (.var 17) (.cons (.var 18) (.cons (.var 19) .nil))))))))))))))))))))) (.cons (.app 20 3 (.cons (.var 0) (.cons (.var 1) (.cons (.var 2) (.cons (.var 3) (.cons (.var 4) (.cons (.var 5) (.cons (.var 6) (.cons (.var 7) (.cons (.var 8) (.cons (.var 9) (.cons (.var 10) (.cons (.var 11) (.cons (.var 12) (.cons (.var 13) (.cons (.var 14) (.cons (.var 15) (.cons (.var 16) (.cons (.var 17) (.cons (.var 18) (.cons (.var 19) .nil))))))))))))))))))))) .nil))) .nil)))) (.cons (.var 3) (.cons (.var 4) (.cons (.var 5) (.cons (.var 6) (.cons (.var 7) (.cons (.var 8) .nil))))))))]))
 (.ite (.app 22 0 (.cons (.var 0) (.cons (.var 1) (.cons (.var 2) (.cons (.var 3) (.cons (.var 4) (.cons (.var 5) (.cons (.var 6) (.cons (.var 7) (.cons (.var 8) (.cons (.var 9) (.cons (.var 10) (.cons (.var 11) (.cons (.var 12) (.cons (.var 13) (.cons (.var 14) (.cons (.var 15) (.cons (.var 16) (.cons (.var 17) (.cons (.var 18) (.cons (.var 19) .nil)))))))))))))))))))))
 (.leaf [(.app 17 0 (.cons (.app 19 0 (.cons (.var 0) (.cons (.var 1) (.cons (.var 2) (.cons (.var 3) (.cons (.var 4) (.cons (.var 5) (.cons (.var 6) (.cons (.var 7) (.cons (.var 8) (.cons (.var 9) (.cons (.var 10) (.cons (.var 11) (.cons (.var 12) (.cons (.var 13) (.cons (.var 14) (.cons (.var 15) (.cons (.var 16) (.cons (.var 17) (.cons (.var 18) (.cons (.var 19) .nil))))))))))))))))))))) (.cons (.var 9) (.cons (.var 10) (.cons (.var 11) (.cons (.var 12) (.cons (.var 13) (.cons (.var 14) .nil))))))))])
 (.leaf [(.app 17 0 (.cons (.app 17 0 (.cons (.app 19 0 (.cons (.var 0) (.cons (.var 1) (.cons (.var 2) (.cons (.var 3) (.cons (.var 4) (.cons (.var 5) (.cons (.var 6) (.cons (.var 7) (.cons (.var 8) (.cons (.var 9) (.cons (.var 10) (.cons (.var 11) (.cons (.var 12) (.cons (.var 13) (.cons (.var 14) (.cons (.var 15) (.cons (.var 16) (.cons (.var 17) (.cons (.var 18) (.cons (.var 19) .nil))))))))))))))))))))) (.cons (.var 9) (.cons (.var 10) (.cons (.var 11) (.cons (.var 12) (.cons (.var 13) (.cons (.var 14) .nil)))))))) (.cons (.var 3) (.cons (.var 4) (.cons (.var 5) (.cons (.var 6) (.cons (.var 7) (.cons (.var 8) .nil))))))))])))
 (.leaf [(.int .u32 (.ofNat 0))]))
noncomputable def D7 : List (Nat × Def) := (7, .fn (sortsP g7.ps) V7) :: D22
theorem ds7 : DS ph7 D7 := DS.fn ds22 7 _ T7 V7 (by kernel_rfl) (by kernel_rfl) (by kernel_rfl)
end Go.Proofs.Ytbhhfbenajcinaa
