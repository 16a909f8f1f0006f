import Derived.Test.YtbhhfbenajcinaaSXv
import Derived.Test.YtbhhfbenajcinaaSe
import Derived.KernelRfl
import Derived.Test.YtbhhfbenajcinaaProg

namespace Go.Proofs.Ytbhhfbenajcinaa
open Go Go.SX Go.Proofs
/- calque/calqueref05.Fits -/
noncomputable def b45 : Code := Try.f45.body.getD .skip
noncomputable def g45 : Sig := { f := 45, sym := 45, ps := [.val false [(.int .i64)], .val false [(.int .i64)]], rs := [.val false [.bool]] }
noncomputable def n45 : Nat := g45.ps.length + (Try.f45.ntmps - g45.ps.length)
noncomputable def T45 : RTree := fnT Try.prog ct26_is20 sy26_is20 [] 500 Try.f45 b45 g45
noncomputable def ct45 : List Sig := g45 :: ct26_is20
noncomputable def sy45 : List (Nat × List So) := (45, g45.rs.flatMap RK.sorts) :: sy26_is20
noncomputable def ph45 : Nat → List Value → List Value := updF ph26_is20 45 (SX.auto T45 (sortsP g45.ps) ph26_is20)
theorem en45 : Env Try.prog ct45 sy45 ph45 :=
  Env.auto en26_is20 [] 500 Try.f45 b45 g45 (by kernel_rfl) (by kernel_rfl) (by kernel_rfl) (by kernel_rfl) (by kernel_rfl) (by kernel_rfl) (by kernel_rfl) (by kernel_rfl) (fun _ h => by simp at h) (by kernel_rfl)
noncomputable def V45 : VT := (.ite (.cmp .lss (.var 1) (.int .i64 (.ofNat 64)))
 (.ite (.cmp .lss (.var 0) (.int .i64 (.ofNat 0)))
 (.leaf [(.cmp .lss (.conv .u64 (.bin .sub .i64 (.int .i64 (.ofNat 0)) (.bin .add .i64 (.var 0) (.int .i64 (.ofNat 1))))) (.shf .shl .u64 (.int .u64 (.ofNat 1)) (.conv .u64 (.bin .sub .i64 (.var 1) (.int .i64 (.ofNat 1))))))])
 (.ite (.cmp .lss (.conv .u64 (.var 0)) (.shf .shl .u64 (.int .u64 (.ofNat 1)) (.conv .u64 (.bin .sub .i64 (.var 1) (.int .i64 (.ofNat 1))))))
 (.leaf [(.bool true)])
 (.leaf [(.bool false)])))
 (.leaf [(.bool true)]))
noncomputable def D45 : List (Nat × Def) := (45, .fn (sortsP g45.ps) V45) :: D26_is20
theorem ds45 : DS ph45 D45 := DS.fn ds26_is20 45 _ T45 V45 (by kernel_rfl) (by kernel_rfl) (by kernel_rfl)
/- calque/calqueref05.MayOpd -/
noncomputable def b24 : Code := Try.f24.body.getD .skip
noncomputable def g24 : Sig := { f := 24, sym := 24, ps := [.val true [(.int .i64), (.int .i64), (.int .i64), (.int .i64), (.int .i64), (.int .i64)]], rs := [.val false [.bool]] }
noncomputable def n24 : Nat := g24.ps.length + (Try.f24.ntmps - g24.ps.length)
noncomputable def T24 : RTree := fnT Try.prog ct45 sy45 [] 500 Try.f24 b24 g24
noncomputable def ct24 : List Sig := g24 :: ct45
noncomputable def sy24 : List (Nat × List So) := (24, g24.rs.flatMap RK.sorts) :: sy45
noncomputable def ph24 : Nat → List Value → List Value := updF ph45 24 (SX.auto T24 (sortsP g24.ps) ph45)
theorem en24 : Env Try.prog ct24 sy24 ph24 :=
  Env.auto en45 [] 500 Try.f24 b24 g24 (by kernel_rfl) (by kernel_rfl) (by kernel_rfl) (by kernel_rfl) (by kernel_rfl) (by kernel_rfl) (by kernel_rfl) (by kernel_rfl) (fun _ h => by simp at h) (by kernel_rfl)
noncomputable def V24 : VT := (.ite (.cmp .eql (.var 0) (.int .i64 (.ofNat 2)))
 (.ite (.cmp .eql (.var 1) (.int .i64 (.ofNat 0)))
 (.ite (.cmp .lss (.var 2) (.int .i64 (.negSucc 0)))
 (.leaf [(.bool false)])
 (.ite (.cmp .lss (.int .i64 (.ofNat 16)) (.var 2))
 (.leaf [(.bool false)])
 (.ite (.cmp .lss (.var 3) (.int .i64 (.negSucc 0)))
 (.leaf [(.bool false)])
 (.ite (.cmp .lss (.int .i64 (.ofNat 15)) (.var 3))
 (.leaf [(.bool false)])
 (.ite (.cmp .eql (.var 3) (.int .i64 (.ofNat 4)))
 (.leaf [(.bool false)])
 (.ite (.app 45 0 (.cons (.var 5) (.cons (.int .i64 (.ofNat 32)) .nil)))
 (.ite (.cmp .eql (.var 3) (.int .i64 (.negSucc 0)))
 (.leaf [(.cmp .eql (.var 4) (.int .i64 (.ofNat 1)))])
 (.ite (.cmp .eql (.var 2) (.int .i64 (.ofNat 16)))
 (.leaf [(.bool false)])
 (.ite (.cmp .eql (.var 4) (.int .i64 (.ofNat 1)))
 (.leaf [(.bool true)])
 (.ite (.cmp .eql (.var 4) (.int .i64 (.ofNat 2)))
 (.leaf [(.bool true)])
 (.ite (.cmp .eql (.var 4) (.int .i64 (.ofNat 4)))
 (.leaf [(.bool true)])
 (.leaf [(.cmp .eql (.var 4) (.int .i64 (.ofNat 8)))]))))))
 (.leaf [(.bool false)])))))))
 (.leaf [(.bool false)]))
 (.ite (.ite (.cmp .eql (.var 2) (.int .i64 (.ofNat 0))) (.ite (.cmp .eql (.var 3) (.int .i64 (.ofNat 0))) (.ite (.cmp .eql (.var 4) (.int .i64 (.ofNat 0))) (.cmp .eql (.var 5) (.int .i64 (.ofNat 0))) (.bool false)) (.bool false)) (.bool false))
 (.ite (.cmp .eql (.var 0) (.int .i64 (.ofNat 0)))
 (.ite (.cmp .eql (.var 1) (.int .i64 (.ofNat 0)))
 (.leaf [(.bool true)])
 (.leaf [(.bool false)]))
 (.ite (.cmp .eql (.var 0) (.int .i64 (.ofNat 3)))
 (.ite (.cmp .eql (.var 1) (.int .i64 (.ofNat 0)))
 (.leaf [(.bool true)])
 (.leaf [(.bool false)]))
 (.ite (.cmp .eql (.var 0) (.int .i64 (.ofNat 1)))
 (.ite (.cmp .eql (.var 1) (.int .i64 (.ofNat 0)))
 (.leaf [(.bool true)])
 (.ite (.cmp .lss (.int .i64 (.ofNat 0)) (.var 1))
 (.leaf [(.cmp .lss (.var 1) (.int .i64 (.ofNat 16)))])
 (.leaf [(.bool false)])))
 (.leaf [(.bool false)]))))
 (.leaf [(.bool false)])))
noncomputable def D24 : List (Nat × Def) := (24, .fn (sortsP g24.ps) V24) :: D45
theorem ds24 : DS ph24 D24 := DS.fn ds45 24 _ T24 V24 (by kernel_rfl) (by kernel_rfl) (by kernel_rfl)
/- (calque/calqueref05.Inst).HasImm -/
noncomputable def b46 : Code := Try.f46.body.getD .skip
noncomputable def g46 : Sig := { f := 46, sym := 46, ps := [.val true [(.int .i64), (.int .i64), (.int .i64), (.int .i64), (.int .i64), (.int .i64), (.int .i64), (.int .i64), (.int .i64), (.int .i64), (.int .i64), (.int .i64), (.int .i64), (.int .i64), (.int .i64), (.int .i64), (.int .i64), .bool, .bool, (.int .i64)]], rs := [.val false [.bool]] }
noncomputable def n46 : Nat := g46.ps.length + (Try.f46.ntmps - g46.ps.length)
noncomputable def T46 : RTree := fnT Try.prog ct24 sy24 [] 500 Try.f46 b46 g46
noncomputable def ct46 : List Sig := g46 :: ct24
noncomputable def sy46 : List (Nat × List So) := (46, g46.rs.flatMap RK.sorts) :: sy24
noncomputable def ph46 : Nat → List Value → List Value := updF ph24 46 (SX.auto T46 (sortsP g46.ps) ph24)
theorem en46 : Env Try.prog ct46 sy46 ph46 :=
  Env.auto en24 [] 500 Try.f46 b46 g46 (by kernel_rfl) (by kernel_rfl) (by kernel_rfl) (by kernel_rfl) (by kernel_rfl) (by kernel_rfl) (by kernel_rfl) (by kernel_rfl) (fun _ h => by simp at h) (by kernel_rfl)
noncomputable def V46 : VT := (.ite (.cmp .eql (.var 3) (.int .i64 (.ofNat 3)))
 (.leaf [(.bool true)])
 (.ite (.cmp .eql (.var 9) (.int .i64 (.ofNat 3)))
 (.leaf [(.bool true)])
 (.ite (.app 3004 0 (.cons (.var 0) (.cons (.var 1) (.cons (.var 2) (.cons (.var 3) (.cons (.var 4) (.cons (.var 5) (.cons (.var 6) (.cons (.var 7) (.cons (.var 8) (.cons (.var 9) (.cons (.var 10) (.cons (.var 11) (.cons (.var 12) (.cons (.var 13) (.cons (.var 14) (.cons (.var 15) (.cons (.var 16) (.cons (.var 17) (.cons (.var 18) (.cons (.var 19) (.cons (.val (.string ⟨#[105, 109, 117, 108, 105, 32, 106, 99, 99]⟩)) .nil))))))))))))))))))))))
 (.leaf [(.bool true)])
 (.ite (.app 3007 0 (.cons (.var 0) (.cons (.var 1) (.cons (.var 2) (.cons (.var 3) (.cons (.var 4) (.cons (.var 5) (.cons (.var 6) (.cons (.var 7) (.cons (.var 8) (.cons (.var 9) (.cons (.var 10) (.cons (.var 11) (.cons (.var 12) (.cons (.var 13) (.cons (.var 14) (.cons (.var 15) (.cons (.var 16) (.cons (.var 17) (.cons (.var 18) (.cons (.var 19) (.cons (.val (.string ⟨#[106, 109, 112, 32, 99, 97, 108, 108]⟩)) .nil))))))))))))))))))))))
 (.leaf [(.cmp .eql (.var 3) (.int .i64 (.ofNat 0)))])
 (.leaf [(.bool false)])))))
noncomputable def D46 : List (Nat × Def) := (46, .fn (sortsP g46.ps) V46) :: D24
theorem ds46 : DS ph46 D46 := DS.fn ds24 46 _ T46 V46 (by kernel_rfl) (by kernel_rfl) (by kernel_rfl)
/- (calque/calqueref05.Inst).imm -/
noncomputable def b25 : Code := Try.f25.body.getD .skip
noncomputable def g25 : Sig := { f := 25, sym := 25, ps := [.val true [(.int .i64), (.int .i64), (.int .i64), (.int .i64), (.int .i64), (.int .i64), (.int .i64), (.int .i64), (.int .i64), (.int .i64), (.int .i64), (.int .i64), (.int .i64), (.int .i64), (.int .i64), (.int .i64), (.int .i64), .bool, .bool, (.int .i64)]], rs := [.val false [.bool]] }
noncomputable def n25 : Nat := g25.ps.length + (Try.f25.ntmps - g25.ps.length)
noncomputable def T25 : RTree := fnT Try.prog ct46 sy46 [] 500 Try.f25 b25 g25
noncomputable def ct25 : List Sig := g25 :: ct46
noncomputable def sy25 : List (Nat × List So) := (25, g25.rs.flatMap RK.sorts) :: sy46
noncomputable def ph25 : Nat → List Value → List Value := updF ph46 25 (SX.auto T25 (sortsP g25.ps) ph46)
theorem en25 : Env Try.prog ct25 sy25 ph25 :=
  Env.auto en46 [] 500 Try.f25 b25 g25 (by kernel_rfl) (by kernel_rfl) (by kernel_rfl) (by kernel_rfl) (by kernel_rfl) (by kernel_rfl) (by kernel_rfl) (by kernel_rfl) (fun _ h => by simp at h) (by kernel_rfl)
noncomputable def V25 : VT := (.ite (.app 46 0 (.cons (.var 0) (.cons (.var 1) (.cons (.var 2) (.cons (.var 3) (.cons (.var 4) (.cons (.var 5) (.cons (.var 6) (.cons (.var 7) (.cons (.var 8) (.cons (.var 9) (.cons (.var 10) (.cons (.var 11) (.cons (.var 12) (.cons (.var 13) (.cons (.var 14) (.cons (.var 15) (.cons (.var 16) (.cons (.var 17) (.cons (.var 18) (.cons (.var 19) .nil)))))))))))))))))))))
 (.ite (.app 3016 0 (.cons (.var 0) (.cons (.var 1) (.cons (.var 2) (.cons (.var 3) (.cons (.var 4) (.cons (.var 5) (.cons (.var 6) (.cons (.var 7) (.cons (.var 8) (.cons (.var 9) (.cons (.var 10) (.cons (.var 11) (.cons (.var 12) (.cons (.var 13) (.cons (.var 14) (.cons (.var 15) (.cons (.var 16) (.cons (.var 17) (.cons (.var 18) (.cons (.var 19) (.cons (.val (.string ⟨#[114, 111, 108, 32, 114, 111, 114, 32, 115, 104, 108, 32, 115, 104, 114, 32, 115, 97, 114]⟩)) .nil))))))))))))))))))))))
 (.ite (.cmp .lss (.var 15) (.int .i64 (.ofNat 0)))
 (.leaf [(.bool false)])
 (.leaf [(.not (.cmp .lss (.int .i64 (.ofNat 255)) (.var 15)))]))
 (.ite (.app 3009 0 (.cons (.var 0) (.cons (.var 1) (.cons (.var 2) (.cons (.var 3) (.cons (.var 4) (.cons (.var 5) (.cons (.var 6) (.cons (.var 7) (.cons (.var 8) (.cons (.var 9) (.cons (.var 10) (.cons (.var 11) (.cons (.var 12) (.cons (.var 13) (.cons (.var 14) (.cons (.var 15) (.cons (.var 16) (.cons (.var 17) (.cons (.var 18) (.cons (.var 19) (.cons (.val (.string ⟨#[109, 111, 118]⟩)) .nil))))))))))))))))))))))
 (.ite (.cmp .eql (.var 1) (.int .i64 (.ofNat 8)))
 (.ite (.cmp .eql (.var 3) (.int .i64 (.ofNat 1)))
 (.leaf [(.bool true)])
 (.leaf [(.app 45 0 (.cons (.var 15) (.cons (.int .i64 (.ofNat 32)) .nil)))]))
 (.ite (.cmp .lss (.int .i64 (.ofNat 32)) (.bin .mul .i64 (.int .i64 (.ofNat 8)) (.var 1)))
 (.leaf [(.app 45 0 (.cons (.var 15) (.cons (.int .i64 (.ofNat 32)) .nil)))])
 (.leaf [(.app 45 0 (.cons (.var 15) (.cons (.bin .mul .i64 (.int .i64 (.ofNat 8)) (.var 1)) .nil)))])))
 (.ite (.cmp .lss (.int .i64 (.ofNat 32)) (.bin .mul .i64 (.int .i64 (.ofNat 8)) (.var 1)))
 (.leaf [(.app 45 0 (.cons (.var 15) (.cons (.int .i64 (.ofNat 32)) .nil)))])
 (.leaf [(.app 45 0 (.cons (.var 15) (.cons (.bin .mul .i64 (.int .i64 (.ofNat 8)) (.var 1)) .nil)))]))))
 (.leaf [(.cmp .eql (.var 15) (.int .i64 (.ofNat 0)))]))
noncomputable def D25 : List (Nat × Def) := (25, .fn (sortsP g25.ps) V25) :: D46
theorem ds25 : DS ph25 D25 := DS.fn ds46 25 _ T25 V25 (by kernel_rfl) (by kernel_rfl) (by kernel_rfl)
/- (calque/calqueref05.Inst).width -/
noncomputable def b43 : Code := Try.f43.body.getD .skip
noncomputable def g43_w1248 : Sig := { f := 43, sym := 2001, ps := [.val true [(.int .i64), (.int .i64), (.int .i64), (.int .i64), (.int .i64), (.int .i64), (.int .i64), (.int .i64), (.int .i64), (.int .i64), (.int .i64), (.int .i64), (.int .i64), (.int .i64), (.int .i64), (.int .i64), (.int .i64), .bool, .bool, (.int .i64)], .val false [.str]], rs := [.val false [.bool]], fix := [(20, .val (.string ⟨#[49, 50, 52, 56]⟩))] }
noncomputable def n43_w1248 : Nat := g43_w1248.ps.length + (Try.f43.ntmps - g43_w1248.ps.length)
noncomputable def T43_w1248 : RTree := fnT Try.prog ct25 sy25 [] 500 Try.f43 b43 g43_w1248
noncomputable def ct43_w1248 : List Sig := g43_w1248 :: ct25
noncomputable def sy43_w1248 : List (Nat × List So) := (2001, g43_w1248.rs.flatMap RK.sorts) :: sy25
noncomputable def ph43_w1248 : Nat → List Value → List Value := updF ph25 2001 (SX.auto T43_w1248 (sortsP g43_w1248.ps) ph25)
theorem en43_w1248 : Env Try.prog ct43_w1248 sy43_w1248 ph43_w1248 :=
  Env.auto en25 [] 500 Try.f43 b43 g43_w1248 (by kernel_rfl) (by kernel_rfl) (by kernel_rfl) (by kernel_rfl) (by kernel_rfl) (by kernel_rfl) (by kernel_rfl) (by kernel_rfl) (fun _ h => by simp at h) (by kernel_rfl)
noncomputable def V43_w1248 : VT := (.ite (.cmp .eql (.var 1) (.int .i64 (.ofNat 1)))
 (.leaf [(.bool true)])
 (.ite (.cmp .eql (.var 1) (.int .i64 (.ofNat 2)))
 (.leaf [(.bool true)])
 (.ite (.cmp .eql (.var 1) (.int .i64 (.ofNat 4)))
 (.leaf [(.bool true)])
 (.ite (.cmp .eql (.var 1) (.int .i64 (.ofNat 8)))
 (.leaf [(.bool true)])
 (.leaf [(.bool false)])))))
noncomputable def D43_w1248 : List (Nat × Def) := (2001, .fn (sortsP g43_w1248.ps) V43_w1248) :: D25
theorem ds43_w1248 : DS ph43_w1248 D43_w1248 := DS.fn ds25 2001 _ T43_w1248 V43_w1248 (by kernel_rfl) (by kernel_rfl) (by kernel_rfl)
/- (calque/calqueref05.Inst).width -/
noncomputable def g43_w248 : Sig := { f := 43, sym := 2002, ps := [.val true [(.int .i64), (.int .i64), (.int .i64), (.int .i64), (.int .i64), (.int .i64), (.int .i64), (.int .i64), (.int .i64), (.int .i64), (.int .i64), (.int .i64), (.int .i64), (.int .i64), (.int .i64), (.int .i64), (.int .i64), .bool, .bool, (.int .i64)], .val false [.str]], rs := [.val false [.bool]], fix := [(20, .val (.string ⟨#[50, 52, 56]⟩))] }
noncomputable def n43_w248 : Nat := g43_w248.ps.length + (Try.f43.ntmps - g43_w248.ps.length)
noncomputable def T43_w248 : RTree := fnT Try.prog ct43_w1248 sy43_w1248 [] 500 Try.f43 b43 g43_w248
noncomputable def ct43_w248 : List Sig := g43_w248 :: ct43_w1248
noncomputable def sy43_w248 : List (Nat × List So) := (2002, g43_w248.rs.flatMap RK.sorts) :: sy43_w1248
noncomputable def ph43_w248 : Nat → List Value → List Value := updF ph43_w1248 2002 (SX.auto T43_w248 (sortsP g43_w248.ps) ph43_w1248)
theorem en43_w248 : Env Try.prog ct43_w248 sy43_w248 ph43_w248 :=
  Env.auto en43_w1248 [] 500 Try.f43 b43 g43_w248 (by kernel_rfl) (by kernel_rfl) (by kernel_rfl) (by kernel_rfl) (by kernel_rfl) (by kernel_rfl) (by kernel_rfl) (by kernel_rfl) (fun _ h => by simp at h) (by kernel_rfl)
noncomputable def V43_w248 : VT := (.ite (.cmp .eql (.var 1) (.int .i64 (.ofNat 2)))
 (.leaf [(.bool true)])
 (.ite (.cmp .eql (.var 1) (.int .i64 (.ofNat 4)))
 (.leaf [(.bool true)])
 (.ite (.cmp .eql (.var 1) (.int .i64 (.ofNat 8)))
 (.leaf [(.bool true)])
 (.leaf [(.bool false)]))))
noncomputable def D43_w248 : List (Nat × Def) := (2002, .fn (sortsP g43_w248.ps) V43_w248) :: D43_w1248
theorem ds43_w248 : DS ph43_w248 D43_w248 := DS.fn ds43_w1248 2002 _ T43_w248 V43_w248 (by kernel_rfl) (by kernel_rfl) (by kernel_rfl)
/- (calque/calqueref05.Inst).width -/
noncomputable def g43_w8 : Sig := { f := 43, sym := 2003, ps := [.val true [(.int .i64), (.int .i64), (.int .i64), (.int .i64), (.int .i64), (.int .i64), (.int .i64), (.int .i64), (.int .i64), (.int .i64), (.int .i64), (.int .i64), (.int .i64), (.int .i64), (.int .i64), (.int .i64), (.int .i64), .bool, .bool, (.int .i64)], .val false [.str]], rs := [.val false [.bool]], fix := [(20, .val (.string ⟨#[56]⟩))] }
noncomputable def n43_w8 : Nat := g43_w8.ps.length + (Try.f43.ntmps - g43_w8.ps.length)
noncomputable def T43_w8 : RTree := fnT Try.prog ct43_w248 sy43_w248 [] 500 Try.f43 b43 g43_w8
noncomputable def ct43_w8 : List Sig := g43_w8 :: ct43_w248
noncomputable def sy43_w8 : List (Nat × List So) := (2003, g43_w8.rs.flatMap RK.sorts) :: sy43_w248
noncomputable def ph43_w8 : Nat → List Value → List Value := updF ph43_w248 2003 (SX.auto T43_w8 (sortsP g43_w8.ps) ph43_w248)
theorem en43_w8 : Env Try.prog ct43_w8 sy43_w8 ph43_w8 :=
  Env.auto en43_w248 [] 500 Try.f43 b43 g43_w8 (by kernel_rfl) (by kernel_rfl) (by kernel_rfl) (by kernel_rfl) (by kernel_rfl) (by kernel_rfl) (by kernel_rfl) (by kernel_rfl) (fun _ h => by simp at h) (by kernel_rfl)
noncomputable def V43_w8 : VT := (.ite (.cmp .eql (.var 1) (.int .i64 (.ofNat 8)))
 (.leaf [(.bool true)])
 (.leaf [(.bool false)]))
noncomputable def D43_w8 : List (Nat × Def) := (2003, .fn (sortsP g43_w8.ps) V43_w8) :: D43_w248
theorem ds43_w8 : DS ph43_w8 D43_w8 := DS.fn ds43_w248 2003 _ T43_w8 V43_w8 (by kernel_rfl) (by kernel_rfl) (by kernel_rfl)
/- (calque/calqueref05.Inst).width -/
noncomputable def g43_w124 : Sig := { f := 43, sym := 2004, ps := [.val true [(.int .i64), (.int .i64), (.int .i64), (.int .i64), (.int .i64), (.int .i64), (.int .i64), (.int .i64), (.int .i64), (.int .i64), (.int .i64), (.int .i64), (.int .i64), (.int .i64), (.int .i64), (.int .i64), (.int .i64), .bool, .bool, (.int .i64)], .val false [.str]], rs := [.val false [.bool]], fix := [(20, .val (.string ⟨#[49, 50, 52]⟩))] }
noncomputable def n43_w124 : Nat := g43_w124.ps.length + (Try.f43.ntmps - g43_w124.ps.length)
noncomputable def T43_w124 : RTree := fnT Try.prog ct43_w8 sy43_w8 [] 500 Try.f43 b43 g43_w124
noncomputable def ct43_w124 : List Sig := g43_w124 :: ct43_w8
noncomputable def sy43_w124 : List (Nat × List So) := (2004, g43_w124.rs.flatMap RK.sorts) :: sy43_w8
noncomputable def ph43_w124 : Nat → List Value → List Value := updF ph43_w8 2004 (SX.auto T43_w124 (sortsP g43_w124.ps) ph43_w8)
theorem en43_w124 : Env Try.prog ct43_w124 sy43_w124 ph43_w124 :=
  Env.auto en43_w8 [] 500 Try.f43 b43 g43_w124 (by kernel_rfl) (by kernel_rfl) (by kernel_rfl) (by kernel_rfl) (by kernel_rfl) (by kernel_rfl) (by kernel_rfl) (by kernel_rfl) (fun _ h => by simp at h) (by kernel_rfl)
noncomputable def V43_w124 : VT := (.ite (.cmp .eql (.var 1) (.int .i64 (.ofNat 1)))
 (.leaf [(.bool true)])
 (.ite (.cmp .eql (.var 1) (.int .i64 (.ofNat 2)))
 (.leaf [(.bool true)])
 (.ite (.cmp .eql (.var 1) (.int .i64 (.ofNat 4)))
 (.leaf [(.bool true)])
 (.leaf [(.bool false)]))))
noncomputable def D43_w124 : List (Nat × Def) := (2004, .fn (sortsP g43_w124.ps) V43_w124) :: D43_w8
theorem ds43_w124 : DS ph43_w124 D43_w124 := DS.fn ds43_w8 2004 _ T43_w124 V43_w124 (by kernel_rfl) (by kernel_rfl) (by kernel_rfl)
/- (calque/calqueref05.Inst).width -/
noncomputable def g43_w1 : Sig := { f := 43, sym := 2005, ps := [.val true [(.int .i64), (.int .i64), (.int .i64), (.int .i64), (.int .i64), (.int .i64), (.int .i64), (.int .i64), (.int .i64), (.int .i64), (.int .i64), (.int .i64), (.int .i64), (.int .i64), (.int .i64), (.int .i64), (.int .i64), .bool, .bool, (.int .i64)], .val false [.str]], rs := [.val false [.bool]], fix := [(20, .val (.string ⟨#[49]⟩))] }
noncomputable def n43_w1 : Nat := g43_w1.ps.length + (Try.f43.ntmps - g43_w1.ps.length)
noncomputable def T43_w1 : RTree := fnT Try.prog ct43_w124 sy43_w124 [] 500 Try.f43 b43 g43_w1
noncomputable def ct43_w1 : List Sig := g43_w1 :: ct43_w124
noncomputable def sy43_w1 : List (Nat × List So) := (2005, g43_w1.rs.flatMap RK.sorts) :: sy43_w124
noncomputable def ph43_w1 : Nat → List Value → List Value := updF ph43_w124 2005 (SX.auto T43_w1 (sortsP g43_w1.ps) ph43_w124)
theorem en43_w1 : Env Try.prog ct43_w1 sy43_w1 ph43_w1 :=
  Env.auto en43_w124 [] 500 Try.f43 b43 g43_w1 (by kernel_rfl) (by kernel_rfl) (by kernel_rfl) (by kernel_rfl) (by kernel_rfl) (by kernel_rfl) (by kernel_rfl) (by kernel_rfl) (fun _ h => by simp at h) (by kernel_rfl)
noncomputable def V43_w1 : VT := (.ite (.cmp .eql (.var 1) (.int .i64 (.ofNat 1)))
 (.leaf [(.bool true)])
 (.leaf [(.bool false)]))
noncomputable def D43_w1 : List (Nat × Def) := (2005, .fn (sortsP g43_w1.ps) V43_w1) :: D43_w124
theorem ds43_w1 : DS ph43_w1 D43_w1 := DS.fn ds43_w124 2005 _ T43_w1 V43_w1 (by kernel_rfl) (by kernel_rfl) (by kernel_rfl)
/- calque/calqueref05.kinds -/
noncomputable def b44 : Code := Try.f44.body.getD .skip
noncomputable def g44_rm : Sig := { f := 44, sym := 2006, ps := [.val true [(.int .i64), (.int .i64), (.int .i64), (.int .i64), (.int .i64), (.int .i64)], .val false [.str]], rs := [.val false [.bool]], fix := [(6, .val (.string ⟨#[114, 109]⟩))] }
noncomputable def n44_rm : Nat := g44_rm.ps.length + (Try.f44.ntmps - g44_rm.ps.length)
noncomputable def T44_rm : RTree := fnT Try.prog ct43_w1 sy43_w1 [] 500 Try.f44 b44 g44_rm
noncomputable def ct44_rm : List Sig := g44_rm :: ct43_w1
noncomputable def sy44_rm : List (Nat × List So) := (2006, g44_rm.rs.flatMap RK.sorts) :: sy43_w1
noncomputable def ph44_rm : Nat → List Value → List Value := updF ph43_w1 2006 (SX.auto T44_rm (sortsP g44_rm.ps) ph43_w1)
theorem en44_rm : Env Try.prog ct44_rm sy44_rm ph44_rm :=
  Env.auto en43_w1 [] 500 Try.f44 b44 g44_rm (by kernel_rfl) (by kernel_rfl) (by kernel_rfl) (by kernel_rfl) (by kernel_rfl) (by kernel_rfl) (by kernel_rfl) (by kernel_rfl) (fun _ h => by simp at h) (by kernel_rfl)
noncomputable def V44_rm : VT := (.ite (.cmp .eql (.var 0) (.int .i64 (.ofNat 0)))
 (.leaf [(.bool false)])
 (.ite (.cmp .eql (.var 0) (.int .i64 (.ofNat 1)))
 (.leaf [(.bool true)])
 (.ite (.cmp .eql (.var 0) (.int .i64 (.ofNat 2)))
 (.leaf [(.bool true)])
 (.ite (.cmp .eql (.var 0) (.int .i64 (.ofNat 3)))
 (.leaf [(.bool false)])
 (.leaf [(.bool false)])))))
noncomputable def D44_rm : List (Nat × Def) := (2006, .fn (sortsP g44_rm.ps) V44_rm) :: D43_w1
theorem ds44_rm : DS ph44_rm D44_rm := DS.fn ds43_w1 2006 _ T44_rm V44_rm (by kernel_rfl) (by kernel_rfl) (by kernel_rfl)
/- calque/calqueref05.kinds -/
noncomputable def g44_rmi : Sig := { f := 44, sym := 2007, ps := [.val true [(.int .i64), (.int .i64), (.int .i64), (.int .i64), (.int .i64), (.int .i64)], .val false [.str]], rs := [.val false [.bool]], fix := [(6, .val (.string ⟨#[114, 109, 105]⟩))] }
noncomputable def n44_rmi : Nat := g44_rmi.ps.length + (Try.f44.ntmps - g44_rmi.ps.length)
noncomputable def T44_rmi : RTree := fnT Try.prog ct44_rm sy44_rm [] 500 Try.f44 b44 g44_rmi
noncomputable def ct44_rmi : List Sig := g44_rmi :: ct44_rm
noncomputable def sy44_rmi : List (Nat × List So) := (2007, g44_rmi.rs.flatMap RK.sorts) :: sy44_rm
noncomputable def ph44_rmi : Nat → List Value → List Value := updF ph44_rm 2007 (SX.auto T44_rmi (sortsP g44_rmi.ps) ph44_rm)
theorem en44_rmi : Env Try.prog ct44_rmi sy44_rmi ph44_rmi :=
  Env.auto en44_rm [] 500 Try.f44 b44 g44_rmi (by kernel_rfl) (by kernel_rfl) (by kernel_rfl) (by kernel_rfl) (by kernel_rfl) (by kernel_rfl) (by kernel_rfl) (by kernel_rfl) (fun _ h => by simp at h) (by kernel_rfl)
noncomputable def V44_rmi : VT := (.ite (.cmp .eql (.var 0) (.int .i64 (.ofNat 0)))
 (.leaf [(.bool false)])
 (.ite (.cmp .eql (.var 0) (.int .i64 (.ofNat 1)))
 (.leaf [(.bool true)])
 (.ite (.cmp .eql (.var 0) (.int .i64 (.ofNat 2)))
 (.leaf [(.bool true)])
 (.ite (.cmp .eql (.var 0) (.int .i64 (.ofNat 3)))
 (.leaf [(.bool true)])
 (.leaf [(.bool false)])))))
noncomputable def D44_rmi : List (Nat × Def) := (2007, .fn (sortsP g44_rmi.ps) V44_rmi) :: D44_rm
theorem ds44_rmi : DS ph44_rmi D44_rmi := DS.fn ds44_rm 2007 _ T44_rmi V44_rmi (by kernel_rfl) (by kernel_rfl) (by kernel_rfl)
/- calque/calqueref05.kinds -/
noncomputable def g44_ri : Sig := { f := 44, sym := 2008, ps := [.val true [(.int .i64), (.int .i64), (.int .i64), (.int .i64), (.int .i64), (.int .i64)], .val false [.str]], rs := [.val false [.bool]], fix := [(6, .val (.string ⟨#[114, 105]⟩))] }
noncomputable def n44_ri : Nat := g44_ri.ps.length + (Try.f44.ntmps - g44_ri.ps.length)
noncomputable def T44_ri : RTree := fnT Try.prog ct44_rmi sy44_rmi [] 500 Try.f44 b44 g44_ri
noncomputable def ct44_ri : List Sig := g44_ri :: ct44_rmi
noncomputable def sy44_ri : List (Nat × List So) := (2008, g44_ri.rs.flatMap RK.sorts) :: sy44_rmi
noncomputable def ph44_ri : Nat → List Value → List Value := updF ph44_rmi 2008 (SX.auto T44_ri (sortsP g44_ri.ps) ph44_rmi)
theorem en44_ri : Env Try.prog ct44_ri sy44_ri ph44_ri :=
  Env.auto en44_rmi [] 500 Try.f44 b44 g44_ri (by kernel_rfl) (by kernel_rfl) (by kernel_rfl) (by kernel_rfl) (by kernel_rfl) (by kernel_rfl) (by kernel_rfl) (by kernel_rfl) (fun _ h => by simp at h) (by kernel_rfl)
noncomputable def V44_ri : VT := (.ite (.cmp .eql (.var 0) (.int .i64 (.ofNat 0)))
 (.leaf [(.bool false)])
 (.ite (.cmp .eql (.var 0) (.int .i64 (.ofNat 1)))
 (.leaf [(.bool true)])
 (.ite (.cmp .eql (.var 0) (.int .i64 (.ofNat 2)))
 (.leaf [(.bool false)])
 (.ite (.cmp .eql (.var 0) (.int .i64 (.ofNat 3)))
 (.leaf [(.bool true)])
 (.leaf [(.bool false)])))))
noncomputable def D44_ri : List (Nat × Def) := (2008, .fn (sortsP g44_ri.ps) V44_ri) :: D44_rmi
theorem ds44_ri : DS ph44_ri D44_ri := DS.fn ds44_rmi 2008 _ T44_ri V44_ri (by kernel_rfl) (by kernel_rfl) (by kernel_rfl)
/- calque/calqueref05.kinds -/
noncomputable def g44_r : Sig := { f := 44, sym := 2009, ps := [.val true [(.int .i64), (.int .i64), (.int .i64), (.int .i64), (.int .i64), (.int .i64)], .val false [.str]], rs := [.val false [.bool]], fix := [(6, .val (.string ⟨#[114]⟩))] }
noncomputable def n44_r : Nat := g44_r.ps.length + (Try.f44.ntmps - g44_r.ps.length)
noncomputable def T44_r : RTree := fnT Try.prog ct44_ri sy44_ri [] 500 Try.f44 b44 g44_r
noncomputable def ct44_r : List Sig := g44_r :: ct44_ri
noncomputable def sy44_r : List (Nat × List So) := (2009, g44_r.rs.flatMap RK.sorts) :: sy44_ri
noncomputable def ph44_r : Nat → List Value → List Value := updF ph44_ri 2009 (SX.auto T44_r (sortsP g44_r.ps) ph44_ri)
theorem en44_r : Env Try.prog ct44_r sy44_r ph44_r :=
  Env.auto en44_ri [] 500 Try.f44 b44 g44_r (by kernel_rfl) (by kernel_rfl) (by kernel_rfl) (by kernel_rfl) (by kernel_rfl) (by kernel_rfl) (by kernel_rfl) (by kernel_rfl) (fun _ h => by simp at h) (by kernel_rfl)
noncomputable def V44_r : VT := (.ite (.cmp .eql (.var 0) (.int .i64 (.ofNat 0)))
 (.leaf [(.bool false)])
 (.ite (.cmp .eql (.var 0) (.int .i64 (.ofNat 1)))
 (.leaf [(.bool true)])
 (.ite (.cmp .eql (.var 0) (.int .i64 (.ofNat 2)))
 (.leaf [(.bool false)])
 (.ite (.cmp .eql (.var 0) (.int .i64 (.ofNat 3)))
 (.leaf [(.bool false)])
 (.leaf [(.bool false)])))))
noncomputable def D44_r : List (Nat × Def) := (2009, .fn (sortsP g44_r.ps) V44_r) :: D44_ri
theorem ds44_r : DS ph44_r D44_r := DS.fn ds44_ri 2009 _ T44_r V44_r (by kernel_rfl) (by kernel_rfl) (by kernel_rfl)
/- calque/calqueref05.kinds -/
noncomputable def g44_m : Sig := { f := 44, sym := 2010, ps := [.val true [(.int .i64), (.int .i64), (.int .i64), (.int .i64), (.int .i64), (.int .i64)], .val false [.str]], rs := [.val false [.bool]], fix := [(6, .val (.string ⟨#[109]⟩))] }
noncomputable def n44_m : Nat := g44_m.ps.length + (Try.f44.ntmps - g44_m.ps.length)
noncomputable def T44_m : RTree := fnT Try.prog ct44_r sy44_r [] 500 Try.f44 b44 g44_m
noncomputable def ct44_m : List Sig := g44_m :: ct44_r
noncomputable def sy44_m : List (Nat × List So) := (2010, g44_m.rs.flatMap RK.sorts) :: sy44_r
noncomputable def ph44_m : Nat → List Value → List Value := updF ph44_r 2010 (SX.auto T44_m (sortsP g44_m.ps) ph44_r)
theorem en44_m : Env Try.prog ct44_m sy44_m ph44_m :=
  Env.auto en44_r [] 500 Try.f44 b44 g44_m (by kernel_rfl) (by kernel_rfl) (by kernel_rfl) (by kernel_rfl) (by kernel_rfl) (by kernel_rfl) (by kernel_rfl) (by kernel_rfl) (fun _ h => by simp at h) (by kernel_rfl)
noncomputable def V44_m : VT := (.ite (.cmp .eql (.var 0) (.int .i64 (.ofNat 0)))
 (.leaf [(.bool false)])
 (.ite (.cmp .eql (.var 0) (.int .i64 (.ofNat 1)))
 (.leaf [(.bool false)])
 (.ite (.cmp .eql (.var 0) (.int .i64 (.ofNat 2)))
 (.leaf [(.bool true)])
 (.ite (.cmp .eql (.var 0) (.int .i64 (.ofNat 3)))
 (.leaf [(.bool false)])
 (.leaf [(.bool false)])))))
noncomputable def D44_m : List (Nat × Def) := (2010, .fn (sortsP g44_m.ps) V44_m) :: D44_r
theorem ds44_m : DS ph44_m D44_m := DS.fn ds44_r 2010 _ T44_m V44_m (by kernel_rfl) (by kernel_rfl) (by kernel_rfl)
/- calque/calqueref05.kinds -/
noncomputable def g44_n : Sig := { f := 44, sym := 2011, ps := [.val true [(.int .i64), (.int .i64), (.int .i64), (.int .i64), (.int .i64), (.int .i64)], .val false [.str]], rs := [.val false [.bool]], fix := [(6, .val (.string ⟨#[110]⟩))] }
noncomputable def n44_n : Nat := g44_n.ps.length + (Try.f44.ntmps - g44_n.ps.length)
noncomputable def T44_n : RTree := fnT Try.prog ct44_m sy44_m [] 500 Try.f44 b44 g44_n
noncomputable def ct44_n : List Sig := g44_n :: ct44_m
noncomputable def sy44_n : List (Nat × List So) := (2011, g44_n.rs.flatMap RK.sorts) :: sy44_m
noncomputable def ph44_n : Nat → List Value → List Value := updF ph44_m 2011 (SX.auto T44_n (sortsP g44_n.ps) ph44_m)
theorem en44_n : Env Try.prog ct44_n sy44_n ph44_n :=
  Env.auto en44_m [] 500 Try.f44 b44 g44_n (by kernel_rfl) (by kernel_rfl) (by kernel_rfl) (by kernel_rfl) (by kernel_rfl) (by kernel_rfl) (by kernel_rfl) (by kernel_rfl) (fun _ h => by simp at h) (by kernel_rfl)
noncomputable def V44_n : VT := (.ite (.cmp .eql (.var 0) (.int .i64 (.ofNat 0)))
 (.leaf [(.bool true)])
 (.ite (.cmp .eql (.var 0) (.int .i64 (.ofNat 1)))
 (.leaf [(.bool false)])
 (.ite (.cmp .eql (.var 0) (.int .i64 (.ofNat 2)))
 (.leaf [(.bool false)])
 (.ite (.cmp .eql (.var 0) (.int .i64 (.ofNat 3)))
 (.leaf [(.bool false)])
 (.leaf [(.bool false)])))))
noncomputable def D44_n : List (Nat × Def) := (2011, .fn (sortsP g44_n.ps) V44_n) :: D44_m
theorem ds44_n : DS ph44_n D44_n := DS.fn ds44_m 2011 _ T44_n V44_n (by kernel_rfl) (by kernel_rfl) (by kernel_rfl)
/- calque/calqueref05.kinds -/
noncomputable def g44_i : Sig := { f := 44, sym := 2012, ps := [.val true [(.int .i64), (.int .i64), (.int .i64), (.int .i64), (.int .i64), (.int .i64)], .val false [.str]], rs := [.val false [.bool]], fix := [(6, .val (.string ⟨#[105]⟩))] }
noncomputable def n44_i : Nat := g44_i.ps.length + (Try.f44.ntmps - g44_i.ps.length)
noncomputable def T44_i : RTree := fnT Try.prog ct44_n sy44_n [] 500 Try.f44 b44 g44_i
noncomputable def ct44_i : List Sig := g44_i :: ct44_n
noncomputable def sy44_i : List (Nat × List So) := (2012, g44_i.rs.flatMap RK.sorts) :: sy44_n
noncomputable def ph44_i : Nat → List Value → List Value := updF ph44_n 2012 (SX.auto T44_i (sortsP g44_i.ps) ph44_n)
theorem en44_i : Env Try.prog ct44_i sy44_i ph44_i :=
  Env.auto en44_n [] 500 Try.f44 b44 g44_i (by kernel_rfl) (by kernel_rfl) (by kernel_rfl) (by kernel_rfl) (by kernel_rfl) (by kernel_rfl) (by kernel_rfl) (by kernel_rfl) (fun _ h => by simp at h) (by kernel_rfl)
noncomputable def V44_i : VT := (.ite (.cmp .eql (.var 0) (.int .i64 (.ofNat 0)))
 (.leaf [(.bool false)])
 (.ite (.cmp .eql (.var 0) (.int .i64 (.ofNat 1)))
 (.leaf [(.bool false)])
 (.ite (.cmp .eql (.var 0) (.int .i64 (.ofNat 2)))
 (.leaf [(.bool false)])
 (.ite (.cmp .eql (.var 0) (.int .i64 (.ofNat 3)))
 (.leaf [(.bool true)])
 (.leaf [(.bool false)])))))
noncomputable def D44_i : List (Nat × Def) := (2012, .fn (sortsP g44_i.ps) V44_i) :: D44_n
theorem ds44_i : DS ph44_i D44_i := DS.fn ds44_n 2012 _ T44_i V44_i (by kernel_rfl) (by kernel_rfl) (by kernel_rfl)
/- calque/calqueref05.kinds -/
noncomputable def g44_nrm : Sig := { f := 44, sym := 2013, ps := [.val true [(.int .i64), (.int .i64), (.int .i64), (.int .i64), (.int .i64), (.int .i64)], .val false [.str]], rs := [.val false [.bool]], fix := [(6, .val (.string ⟨#[110, 114, 109]⟩))] }
noncomputable def n44_nrm : Nat := g44_nrm.ps.length + (Try.f44.ntmps - g44_nrm.ps.length)
noncomputable def T44_nrm : RTree := fnT Try.prog ct44_i sy44_i [] 500 Try.f44 b44 g44_nrm
noncomputable def ct44_nrm : List Sig := g44_nrm :: ct44_i
noncomputable def sy44_nrm : List (Nat × List So) := (2013, g44_nrm.rs.flatMap RK.sorts) :: sy44_i
noncomputable def ph44_nrm : Nat → List Value → List Value := updF ph44_i 2013 (SX.auto T44_nrm (sortsP g44_nrm.ps) ph44_i)
theorem en44_nrm : Env Try.prog ct44_nrm sy44_nrm ph44_nrm :=
  Env.auto en44_i [] 500 Try.f44 b44 g44_nrm (by kernel_rfl) (by kernel_rfl) (by kernel_rfl) (by kernel_rfl) (by kernel_rfl) (by kernel_rfl) (by kernel_rfl) (by kernel_rfl) (fun _ h => by simp at h) (by kernel_rfl)
noncomputable def V44_nrm : VT := (.ite (.cmp .eql (.var 0) (.int .i64 (.ofNat 0)))
 (.leaf [(.bool true)])
 (.ite (.cmp .eql (.var 0) (.int .i64 (.ofNat 1)))
 (.leaf [(.bool true)])
 (.ite (.cmp .eql (.var 0) (.int .i64 (.ofNat 2)))
 (.leaf [(.bool true)])
 (.ite (.cmp .eql (.var 0) (.int .i64 (.ofNat 3)))
 (.leaf [(.bool false)])
 (.leaf [(.bool false)])))))
noncomputable def D44_nrm : List (Nat × Def) := (2013, .fn (sortsP g44_nrm.ps) V44_nrm) :: D44_i
theorem ds44_nrm : DS ph44_nrm D44_nrm := DS.fn ds44_i 2013 _ T44_nrm V44_nrm (by kernel_rfl) (by kernel_rfl) (by kernel_rfl)
/- (calque/calqueref05.Inst).shape -/
noncomputable def b23 : Code := Try.f23.body.getD .skip
noncomputable def g23 : Sig := { f := 23, sym := 23, ps := [.val true [(.int .i64), (.int .i64), (.int .i64), (.int .i64), (.int .i64), (.int .i64), (.int .i64), (.int .i64), (.int .i64), (.int .i64), (.int .i64), (.int .i64), (.int .i64), (.int .i64), (.int .i64), (.int .i64), (.int .i64), .bool, .bool, (.int .i64)]], rs := [.val false [.bool]], imp := [(.cmp .lss (.var 0) (.int .i64 1), false), (.cmp .lss (.int .i64 47) (.var 0), false)] }
noncomputable def n23 : Nat := g23.ps.length + (Try.f23.ntmps - g23.ps.length)
noncomputable def T23 : RTree := fnT Try.prog ct44_nrm sy44_nrm [] 500 Try.f23 b23 g23
noncomputable def ct23 : List Sig := g23 :: ct44_nrm
noncomputable def sy23 : List (Nat × List So) := (23, g23.rs.flatMap RK.sorts) :: sy44_nrm
noncomputable def ph23 : Nat → List Value → List Value := updF ph44_nrm 23 (SX.auto T23 (sortsP g23.ps) ph44_nrm)
theorem en23 : Env Try.prog ct23 sy23 ph23 :=
  Env.auto en44_nrm [] 500 Try.f23 b23 g23 (by kernel_rfl) (by kernel_rfl) (by kernel_rfl) (by kernel_rfl) (by kernel_rfl) (by kernel_rfl) (by kernel_rfl) (by kernel_rfl) (fun _ h => by simp at h) (by kernel_rfl)
noncomputable def V23 : VT := (.ite (.app 3000 0 (.cons (.var 0) (.cons (.var 1) (.cons (.var 2) (.cons (.var 3) (.cons (.var 4) (.cons (.var 5) (.cons (.var 6) (.cons (.var 7) (.cons (.var 8) (.cons (.var 9) (.cons (.var 10) (.cons (.var 11) (.cons (.var 12) (.cons (.var 13) (.cons (.var 14) (.cons (.var 15) (.cons (.var 16) (.cons (.var 17) (.cons (.var 18) (.cons (.var 19) (.cons (.val (.string ⟨#[97, 100, 100, 32, 111, 114, 32, 97, 100, 99, 32, 115, 98, 98, 32, 97, 110, 100, 32, 115, 117, 98, 32, 120, 111, 114, 32, 99, 109, 112, 32, 109, 111, 118]⟩)) .nil))))))))))))))))))))))
 (.ite (.app 2001 0 (.cons (.var 0) (.cons (.var 1) (.cons (.var 2) (.cons (.var 3) (.cons (.var 4) (.cons (.var 5) (.cons (.var 6) (.cons (.var 7) (.cons (.var 8) (.cons (.var 9) (.cons (.var 10) (.cons (.var 11) (.cons (.var 12) (.cons (.var 13) (.cons (.var 14) (.cons (.var 15) (.cons (.var 16) (.cons (.var 17) (.cons (.var 18) (.cons (.var 19) (.cons (.val (.string ⟨#[49, 50, 52, 56]⟩)) .nil))))))))))))))))))))))
 (.ite (.app 2006 0 (.cons (.var 3) (.cons (.var 4) (.cons (.var 5) (.cons (.var 6) (.cons (.var 7) (.cons (.var 8) (.cons (.val (.string ⟨#[114, 109]⟩)) .nil))))))))
 (.ite (.app 2007 0 (.cons (.var 9) (.cons (.var 10) (.cons (.var 11) (.cons (.var 12) (.cons (.var 13) (.cons (.var 14) (.cons (.val (.string ⟨#[114, 109, 105]⟩)) .nil))))))))
 (.ite (.cmp .eql (.var 3) (.int .i64 (.ofNat 2)))
 (.leaf [(.not (.cmp .eql (.var 9) (.int .i64 (.ofNat 2))))])
 (.leaf [(.bool true)]))
 (.leaf [(.bool false)]))
 (.leaf [(.bool false)]))
 (.leaf [(.bool false)]))
 (.ite (.app 3018 0 (.cons (.var 0) (.cons (.var 1) (.cons (.var 2) (.cons (.var 3) (.cons (.var 4) (.cons (.var 5) (.cons (.var 6) (.cons (.var 7) (.cons (.var 8) (.cons (.var 9) (.cons (.var 10) (.cons (.var 11) (.cons (.var 12) (.cons (.var 13) (.cons (.var 14) (.cons (.var 15) (.cons (.var 16) (.cons (.var 17) (.cons (.var 18) (.cons (.var 19) (.cons (.val (.string ⟨#[116, 101, 115, 116]⟩)) .nil))))))))))))))))))))))
 (.ite (.app 2001 0 (.cons (.var 0) (.cons (.var 1) (.cons (.var 2) (.cons (.var 3) (.cons (.var 4) (.cons (.var 5) (.cons (.var 6) (.cons (.var 7) (.cons (.var 8) (.cons (.var 9) (.cons (.var 10) (.cons (.var 11) (.cons (.var 12) (.cons (.var 13) (.cons (.var 14) (.cons (.var 15) (.cons (.var 16) (.cons (.var 17) (.cons (.var 18) (.cons (.var 19) (.cons (.val (.string ⟨#[49, 50, 52, 56]⟩)) .nil))))))))))))))))))))))
 (.ite (.app 2006 0 (.cons (.var 3) (.cons (.var 4) (.cons (.var 5) (.cons (.var 6) (.cons (.var 7) (.cons (.var 8) (.cons (.val (.string ⟨#[114, 109]⟩)) .nil))))))))
 (.leaf [(.app 2008 0 (.cons (.var 9) (.cons (.var 10) (.cons (.var 11) (.cons (.var 12) (.cons (.var 13) (.cons (.var 14) (.cons (.val (.string ⟨#[114, 105]⟩)) .nil))))))))])
 (.leaf [(.bool false)]))
 (.leaf [(.bool false)]))
 (.ite (.app 3013 0 (.cons (.var 0) (.cons (.var 1) (.cons (.var 2) (.cons (.var 3) (.cons (.var 4) (.cons (.var 5) (.cons (.var 6) (.cons (.var 7) (.cons (.var 8) (.cons (.var 9) (.cons (.var 10) (.cons (.var 11) (.cons (.var 12) (.cons (.var 13) (.cons (.var 14) (.cons (.var 15) (.cons (.var 16) (.cons (.var 17) (.cons (.var 18) (.cons (.var 19) (.cons (.val (.string ⟨#[109, 111, 118, 122, 120, 32, 109, 111, 118, 115, 120, 32, 105, 109, 117, 108, 32, 105, 109, 117, 108, 105, 32, 99, 109, 111, 118]⟩)) .nil))))))))))))))))))))))
 (.ite (.app 2002 0 (.cons (.var 0) (.cons (.var 1) (.cons (.var 2) (.cons (.var 3) (.cons (.var 4) (.cons (.var 5) (.cons (.var 6) (.cons (.var 7) (.cons (.var 8) (.cons (.var 9) (.cons (.var 10) (.cons (.var 11) (.cons (.var 12) (.cons (.var 13) (.cons (.var 14) (.cons (.var 15) (.cons (.var 16) (.cons (.var 17) (.cons (.var 18) (.cons (.var 19) (.cons (.val (.string ⟨#[50, 52, 56]⟩)) .nil))))))))))))))))))))))
 (.ite (.app 2009 0 (.cons (.var 3) (.cons (.var 4) (.cons (.var 5) (.cons (.var 6) (.cons (.var 7) (.cons (.var 8) (.cons (.val (.string ⟨#[114]⟩)) .nil))))))))
 (.leaf [(.app 2006 0 (.cons (.var 9) (.cons (.var 10) (.cons (.var 11) (.cons (.var 12) (.cons (.var 13) (.cons (.var 14) (.cons (.val (.string ⟨#[114, 109]⟩)) .nil))))))))])
 (.leaf [(.bool false)]))
 (.leaf [(.bool false)]))
 (.ite (.app 3008 0 (.cons (.var 0) (.cons (.var 1) (.cons (.var 2) (.cons (.var 3) (.cons (.var 4) (.cons (.var 5) (.cons (.var 6) (.cons (.var 7) (.cons (.var 8) (.cons (.var 9) (.cons (.var 10) (.cons (.var 11) (.cons (.var 12) (.cons (.var 13) (.cons (.var 14) (.cons (.var 15) (.cons (.var 16) (.cons (.var 17) (.cons (.var 18) (.cons (.var 19) (.cons (.val (.string ⟨#[108, 101, 97]⟩)) .nil))))))))))))))))))))))
 (.ite (.app 2002 0 (.cons (.var 0) (.cons (.var 1) (.cons (.var 2) (.cons (.var 3) (.cons (.var 4) (.cons (.var 5) (.cons (.var 6) (.cons (.var 7) (.cons (.var 8) (.cons (.var 9) (.cons (.var 10) (.cons (.var 11) (.cons (.var 12) (.cons (.var 13) (.cons (.var 14) (.cons (.var 15) (.cons (.var 16) (.cons (.var 17) (.cons (.var 18) (.cons (.var 19) (.cons (.val (.string ⟨#[50, 52, 56]⟩)) .nil))))))))))))))))))))))
 (.ite (.app 2009 0 (.cons (.var 3) (.cons (.var 4) (.cons (.var 5) (.cons (.var 6) (.cons (.var 7) (.cons (.var 8) (.cons (.val (.string ⟨#[114]⟩)) .nil))))))))
 (.leaf [(.app 2010 0 (.cons (.var 9) (.cons (.var 10) (.cons (.var 11) (.cons (.var 12) (.cons (.var 13) (.cons (.var 14) (.cons (.val (.string ⟨#[109]⟩)) .nil))))))))])
 (.leaf [(.bool false)]))
 (.leaf [(.bool false)]))
 (.ite (.app 3015 0 (.cons (.var 0) (.cons (.var 1) (.cons (.var 2) (.cons (.var 3) (.cons (.var 4) (.cons (.var 5) (.cons (.var 6) (.cons (.var 7) (.cons (.var 8) (.cons (.var 9) (.cons (.var 10) (.cons (.var 11) (.cons (.var 12) (.cons (.var 13) (.cons (.var 14) (.cons (.var 15) (.cons (.var 16) (.cons (.var 17) (.cons (.var 18) (.cons (.var 19) (.cons (.val (.string ⟨#[112, 117, 115, 104]⟩)) .nil))))))))))))))))))))))
 (.ite (.app 2003 0 (.cons (.var 0) (.cons (.var 1) (.cons (.var 2) (.cons (.var 3) (.cons (.var 4) (.cons (.var 5) (.cons (.var 6) (.cons (.var 7) (.cons (.var 8) (.cons (.var 9) (.cons (.var 10) (.cons (.var 11) (.cons (.var 12) (.cons (.var 13) (.cons (.var 14) (.cons (.var 15) (.cons (.var 16) (.cons (.var 17) (.cons (.var 18) (.cons (.var 19) (.cons (.val (.string ⟨#[56]⟩)) .nil))))))))))))))))))))))
 (.ite (.app 2007 0 (.cons (.var 3) (.cons (.var 4) (.cons (.var 5) (.cons (.var 6) (.cons (.var 7) (.cons (.var 8) (.cons (.val (.string ⟨#[114, 109, 105]⟩)) .nil))))))))
 (.leaf [(.app 2011 0 (.cons (.var 9) (.cons (.var 10) (.cons (.var 11) (.cons (.var 12) (.cons (.var 13) (.cons (.var 14) (.cons (.val (.string ⟨#[110]⟩)) .nil))))))))])
 (.leaf [(.bool false)]))
 (.leaf [(.bool false)]))
 (.ite (.app 3014 0 (.cons (.var 0) (.cons (.var 1) (.cons (.var 2) (.cons (.var 3) (.cons (.var 4) (.cons (.var 5) (.cons (.var 6) (.cons (.var 7) (.cons (.var 8) (.cons (.var 9) (.cons (.var 10) (.cons (.var 11) (.cons (.var 12) (.cons (.var 13) (.cons (.var 14) (.cons (.var 15) (.cons (.var 16) (.cons (.var 17) (.cons (.var 18) (.cons (.var 19) (.cons (.val (.string ⟨#[112, 111, 112]⟩)) .nil))))))))))))))))))))))
 (.ite (.app 2003 0 (.cons (.var 0) (.cons (.var 1) (.cons (.var 2) (.cons (.var 3) (.cons (.var 4) (.cons (.var 5) (.cons (.var 6) (.cons (.var 7) (.cons (.var 8) (.cons (.var 9) (.cons (.var 10) (.cons (.var 11) (.cons (.var 12) (.cons (.var 13) (.cons (.var 14) (.cons (.var 15) (.cons (.var 16) (.cons (.var 17) (.cons (.var 18) (.cons (.var 19) (.cons (.val (.string ⟨#[56]⟩)) .nil))))))))))))))))))))))
 (.ite (.app 2006 0 (.cons (.var 3) (.cons (.var 4) (.cons (.var 5) (.cons (.var 6) (.cons (.var 7) (.cons (.var 8) (.cons (.val (.string ⟨#[114, 109]⟩)) .nil))))))))
 (.leaf [(.app 2011 0 (.cons (.var 9) (.cons (.var 10) (.cons (.var 11) (.cons (.var 12) (.cons (.var 13) (.cons (.var 14) (.cons (.val (.string ⟨#[110]⟩)) .nil))))))))])
 (.leaf [(.bool false)]))
 (.leaf [(.bool false)]))
 (.ite (.app 3005 0 (.cons (.var 0) (.cons (.var 1) (.cons (.var 2) (.cons (.var 3) (.cons (.var 4) (.cons (.var 5) (.cons (.var 6) (.cons (.var 7) (.cons (.var 8) (.cons (.var 9) (.cons (.var 10) (.cons (.var 11) (.cons (.var 12) (.cons (.var 13) (.cons (.var 14) (.cons (.var 15) (.cons (.var 16) (.cons (.var 17) (.cons (.var 18) (.cons (.var 19) (.cons (.val (.string ⟨#[105, 110, 99, 32, 100, 101, 99, 32, 110, 111, 116, 32, 110, 101, 103, 32, 109, 117, 108, 32, 115, 109, 117, 108]⟩)) .nil))))))))))))))))))))))
 (.ite (.app 2001 0 (.cons (.var 0) (.cons (.var 1) (.cons (.var 2) (.cons (.var 3) (.cons (.var 4) (.cons (.var 5) (.cons (.var 6) (.cons (.var 7) (.cons (.var 8) (.cons (.var 9) (.cons (.var 10) (.cons (.var 11) (.cons (.var 12) (.cons (.var 13) (.cons (.var 14) (.cons (.var 15) (.cons (.var 16) (.cons (.var 17) (.cons (.var 18) (.cons (.var 19) (.cons (.val (.string ⟨#[49, 50, 52, 56]⟩)) .nil))))))))))))))))))))))
 (.ite (.app 2006 0 (.cons (.var 3) (.cons (.var 4) (.cons (.var 5) (.cons (.var 6) (.cons (.var 7) (.cons (.var 8) (.cons (.val (.string ⟨#[114, 109]⟩)) .nil))))))))
 (.leaf [(.app 2011 0 (.cons (.var 9) (.cons (.var 10) (.cons (.var 11) (.cons (.var 12) (.cons (.var 13) (.cons (.var 14) (.cons (.val (.string ⟨#[110]⟩)) .nil))))))))])
 (.leaf [(.bool false)]))
 (.leaf [(.bool false)]))
 (.ite (.app 3003 0 (.cons (.var 0) (.cons (.var 1) (.cons (.var 2) (.cons (.var 3) (.cons (.var 4) (.cons (.var 5) (.cons (.var 6) (.cons (.var 7) (.cons (.var 8) (.cons (.var 9) (.cons (.var 10) (.cons (.var 11) (.cons (.var 12) (.cons (.var 13) (.cons (.var 14) (.cons (.var 15) (.cons (.var 16) (.cons (.var 17) (.cons (.var 18) (.cons (.var 19) (.cons (.val (.string ⟨#[100, 105, 118, 32, 115, 100, 105, 118]⟩)) .nil))))))))))))))))))))))
 (.ite (.app 2004 0 (.cons (.var 0) (.cons (.var 1) (.cons (.var 2) (.cons (.var 3) (.cons (.var 4) (.cons (.var 5) (.cons (.var 6) (.cons (.var 7) (.cons (.var 8) (.cons (.var 9) (.cons (.var 10) (.cons (.var 11) (.cons (.var 12) (.cons (.var 13) (.cons (.var 14) (.cons (.var 15) (.cons (.var 16) (.cons (.var 17) (.cons (.var 18) (.cons (.var 19) (.cons (.val (.string ⟨#[49, 50, 52]⟩)) .nil))))))))))))))))))))))
 (.ite (.app 2006 0 (.cons (.var 3) (.cons (.var 4) (.cons (.var 5) (.cons (.var 6) (.cons (.var 7) (.cons (.var 8) (.cons (.val (.string ⟨#[114, 109]⟩)) .nil))))))))
 (.leaf [(.app 2011 0 (.cons (.var 9) (.cons (.var 10) (.cons (.var 11) (.cons (.var 12) (.cons (.var 13) (.cons (.var 14) (.cons (.val (.string ⟨#[110]⟩)) .nil))))))))])
 (.leaf [(.bool false)]))
 (.leaf [(.bool false)]))
 (.ite (.app 3016 0 (.cons (.var 0) (.cons (.var 1) (.cons (.var 2) (.cons (.var 3) (.cons (.var 4) (.cons (.var 5) (.cons (.var 6) (.cons (.var 7) (.cons (.var 8) (.cons (.var 9) (.cons (.var 10) (.cons (.var 11) (.cons (.var 12) (.cons (.var 13) (.cons (.var 14) (.cons (.var 15) (.cons (.var 16) (.cons (.var 17) (.cons (.var 18) (.cons (.var 19) (.cons (.val (.string ⟨#[114, 111, 108, 32, 114, 111, 114, 32, 115, 104, 108, 32, 115, 104, 114, 32, 115, 97, 114]⟩)) .nil))))))))))))))))))))))
 (.ite (.app 2001 0 (.cons (.var 0) (.cons (.var 1) (.cons (.var 2) (.cons (.var 3) (.cons (.var 4) (.cons (.var 5) (.cons (.var 6) (.cons (.var 7) (.cons (.var 8) (.cons (.var 9) (.cons (.var 10) (.cons (.var 11) (.cons (.var 12) (.cons (.var 13) (.cons (.var 14) (.cons (.var 15) (.cons (.var 16) (.cons (.var 17) (.cons (.var 18) (.cons (.var 19) (.cons (.val (.string ⟨#[49, 50, 52, 56]⟩)) .nil))))))))))))))))))))))
 (.ite (.app 2006 0 (.cons (.var 3) (.cons (.var 4) (.cons (.var 5) (.cons (.var 6) (.cons (.var 7) (.cons (.var 8) (.cons (.val (.string ⟨#[114, 109]⟩)) .nil))))))))
 (.ite (.app 2012 0 (.cons (.var 9) (.cons (.var 10) (.cons (.var 11) (.cons (.var 12) (.cons (.var 13) (.cons (.var 14) (.cons (.val (.string ⟨#[105]⟩)) .nil))))))))
 (.leaf [(.bool true)])
 (.ite (.cmp .eql (.var 9) (.int .i64 (.ofNat 1)))
 (.leaf [(.cmp .eql (.var 10) (.int .i64 (.ofNat 1)))])
 (.leaf [(.bool false)])))
 (.leaf [(.bool false)]))
 (.leaf [(.bool false)]))
 (.ite (.app 3020 0 (.cons (.var 0) (.cons (.var 1) (.cons (.var 2) (.cons (.var 3) (.cons (.var 4) (.cons (.var 5) (.cons (.var 6) (.cons (.var 7) (.cons (.var 8) (.cons (.var 9) (.cons (.var 10) (.cons (.var 11) (.cons (.var 12) (.cons (.var 13) (.cons (.var 14) (.cons (.var 15) (.cons (.var 16) (.cons (.var 17) (.cons (.var 18) (.cons (.var 19) (.cons (.val (.string ⟨#[120, 99, 104, 103, 32, 99, 97, 115, 32, 120, 97, 100, 100]⟩)) .nil))))))))))))))))))))))
 (.ite (.app 2001 0 (.cons (.var 0) (.cons (.var 1) (.cons (.var 2) (.cons (.var 3) (.cons (.var 4) (.cons (.var 5) (.cons (.var 6) (.cons (.var 7) (.cons (.var 8) (.cons (.var 9) (.cons (.var 10) (.cons (.var 11) (.cons (.var 12) (.cons (.var 13) (.cons (.var 14) (.cons (.var 15) (.cons (.var 16) (.cons (.var 17) (.cons (.var 18) (.cons (.var 19) (.cons (.val (.string ⟨#[49, 50, 52, 56]⟩)) .nil))))))))))))))))))))))
 (.ite (.app 2006 0 (.cons (.var 3) (.cons (.var 4) (.cons (.var 5) (.cons (.var 6) (.cons (.var 7) (.cons (.var 8) (.cons (.val (.string ⟨#[114, 109]⟩)) .nil))))))))
 (.leaf [(.app 2009 0 (.cons (.var 9) (.cons (.var 10) (.cons (.var 11) (.cons (.var 12) (.cons (.var 13) (.cons (.var 14) (.cons (.val (.string ⟨#[114]⟩)) .nil))))))))])
 (.leaf [(.bool false)]))
 (.leaf [(.bool false)]))
 (.ite (.app 3017 0 (.cons (.var 0) (.cons (.var 1) (.cons (.var 2) (.cons (.var 3) (.cons (.var 4) (.cons (.var 5) (.cons (.var 6) (.cons (.var 7) (.cons (.var 8) (.cons (.var 9) (.cons (.var 10) (.cons (.var 11) (.cons (.var 12) (.cons (.var 13) (.cons (.var 14) (.cons (.var 15) (.cons (.var 16) (.cons (.var 17) (.cons (.var 18) (.cons (.var 19) (.cons (.val (.string ⟨#[115, 101, 116]⟩)) .nil))))))))))))))))))))))
 (.ite (.app 2005 0 (.cons (.var 0) (.cons (.var 1) (.cons (.var 2) (.cons (.var 3) (.cons (.var 4) (.cons (.var 5) (.cons (.var 6) (.cons (.var 7) (.cons (.var 8) (.cons (.var 9) (.cons (.var 10) (.cons (.var 11) (.cons (.var 12) (.cons (.var 13) (.cons (.var 14) (.cons (.var 15) (.cons (.var 16) (.cons (.var 17) (.cons (.var 18) (.cons (.var 19) (.cons (.val (.string ⟨#[49]⟩)) .nil))))))))))))))))))))))
 (.ite (.app 2006 0 (.cons (.var 3) (.cons (.var 4) (.cons (.var 5) (.cons (.var 6) (.cons (.var 7) (.cons (.var 8) (.cons (.val (.string ⟨#[114, 109]⟩)) .nil))))))))
 (.leaf [(.app 2011 0 (.cons (.var 9) (.cons (.var 10) (.cons (.var 11) (.cons (.var 12) (.cons (.var 13) (.cons (.var 14) (.cons (.val (.string ⟨#[110]⟩)) .nil))))))))])
 (.leaf [(.bool false)]))
 (.leaf [(.bool false)]))
 (.ite (.app 3007 0 (.cons (.var 0) (.cons (.var 1) (.cons (.var 2) (.cons (.var 3) (.cons (.var 4) (.cons (.var 5) (.cons (.var 6) (.cons (.var 7) (.cons (.var 8) (.cons (.var 9) (.cons (.var 10) (.cons (.var 11) (.cons (.var 12) (.cons (.var 13) (.cons (.var 14) (.cons (.var 15) (.cons (.var 16) (.cons (.var 17) (.cons (.var 18) (.cons (.var 19) (.cons (.val (.string ⟨#[106, 109, 112, 32, 99, 97, 108, 108]⟩)) .nil))))))))))))))))))))))
 (.ite (.app 2003 0 (.cons (.var 0) (.cons (.var 1) (.cons (.var 2) (.cons (.var 3) (.cons (.var 4) (.cons (.var 5) (.cons (.var 6) (.cons (.var 7) (.cons (.var 8) (.cons (.var 9) (.cons (.var 10) (.cons (.var 11) (.cons (.var 12) (.cons (.var 13) (.cons (.var 14) (.cons (.var 15) (.cons (.var 16) (.cons (.var 17) (.cons (.var 18) (.cons (.var 19) (.cons (.val (.string ⟨#[56]⟩)) .nil))))))))))))))))))))))
 (.ite (.app 2013 0 (.cons (.var 3) (.cons (.var 4) (.cons (.var 5) (.cons (.var 6) (.cons (.var 7) (.cons (.var 8) (.cons (.val (.string ⟨#[110, 114, 109]⟩)) .nil))))))))
 (.leaf [(.app 2011 0 (.cons (.var 9) (.cons (.var 10) (.cons (.var 11) (.cons (.var 12) (.cons (.var 13) (.cons (.var 14) (.cons (.val (.string ⟨#[110]⟩)) .nil))))))))])
 (.leaf [(.bool false)]))
 (.leaf [(.bool false)]))
 (.ite (.app 3019 0 (.cons (.var 0) (.cons (.var 1) (.cons (.var 2) (.cons (.var 3) (.cons (.var 4) (.cons (.var 5) (.cons (.var 6) (.cons (.var 7) (.cons (.var 8) (.cons (.var 9) (.cons (.var 10) (.cons (.var 11) (.cons (.var 12) (.cons (.var 13) (.cons (.var 14) (.cons (.var 15) (.cons (.var 16) (.cons (.var 17) (.cons (.var 18) (.cons (.var 19) (.cons (.val (.string ⟨#[119, 105, 100, 101, 32, 115, 105, 103, 110]⟩)) .nil))))))))))))))))))))))
 (.ite (.app 2002 0 (.cons (.var 0) (.cons (.var 1) (.cons (.var 2) (.cons (.var 3) (.cons (.var 4) (.cons (.var 5) (.cons (.var 6) (.cons (.var 7) (.cons (.var 8) (.cons (.var 9) (.cons (.var 10) (.cons (.var 11) (.cons (.var 12) (.cons (.var 13) (.cons (.var 14) (.cons (.var 15) (.cons (.var 16) (.cons (.var 17) (.cons (.var 18) (.cons (.var 19) (.cons (.val (.string ⟨#[50, 52, 56]⟩)) .nil))))))))))))))))))))))
 (.ite (.app 2011 0 (.cons (.var 3) (.cons (.var 4) (.cons (.var 5) (.cons (.var 6) (.cons (.var 7) (.cons (.var 8) (.cons (.val (.string ⟨#[110]⟩)) .nil))))))))
 (.leaf [(.app 2011 0 (.cons (.var 9) (.cons (.var 10) (.cons (.var 11) (.cons (.var 12) (.cons (.var 13) (.cons (.var 14) (.cons (.val (.string ⟨#[110]⟩)) .nil))))))))])
 (.leaf [(.bool false)]))
 (.leaf [(.bool false)]))
 (.ite (.app 3010 0 (.cons (.var 0) (.cons (.var 1) (.cons (.var 2) (.cons (.var 3) (.cons (.var 4) (.cons (.var 5) (.cons (.var 6) (.cons (.var 7) (.cons (.var 8) (.cons (.var 9) (.cons (.var 10) (.cons (.var 11) (.cons (.var 12) (.cons (.var 13) (.cons (.var 14) (.cons (.var 15) (.cons (.var 16) (.cons (.var 17) (.cons (.var 18) (.cons (.var 19) (.cons (.val (.string ⟨#[109, 111, 118, 115, 32, 115, 116, 111, 115]⟩)) .nil))))))))))))))))))))))
 (.ite (.app 2001 0 (.cons (.var 0) (.cons (.var 1) (.cons (.var 2) (.cons (.var 3) (.cons (.var 4) (.cons (.var 5) (.cons (.var 6) (.cons (.var 7) (.cons (.var 8) (.cons (.var 9) (.cons (.var 10) (.cons (.var 11) (.cons (.var 12) (.cons (.var 13) (.cons (.var 14) (.cons (.var 15) (.cons (.var 16) (.cons (.var 17) (.cons (.var 18) (.cons (.var 19) (.cons (.val (.string ⟨#[49, 50, 52, 56]⟩)) .nil))))))))))))))))))))))
 (.ite (.app 2011 0 (.cons (.var 3) (.cons (.var 4) (.cons (.var 5) (.cons (.var 6) (.cons (.var 7) (.cons (.var 8) (.cons (.val (.string ⟨#[110]⟩)) .nil))))))))
 (.leaf [(.app 2011 0 (.cons (.var 9) (.cons (.var 10) (.cons (.var 11) (.cons (.var 12) (.cons (.var 13) (.cons (.var 14) (.cons (.val (.string ⟨#[110]⟩)) .nil))))))))])
 (.leaf [(.bool false)]))
 (.leaf [(.bool false)]))
 (.ite (.app 3006 0 (.cons (.var 0) (.cons (.var 1) (.cons (.var 2) (.cons (.var 3) (.cons (.var 4) (.cons (.var 5) (.cons (.var 6) (.cons (.var 7) (.cons (.var 8) (.cons (.var 9) (.cons (.var 10) (.cons (.var 11) (.cons (.var 12) (.cons (.var 13) (.cons (.var 14) (.cons (.var 15) (.cons (.var 16) (.cons (.var 17) (.cons (.var 18) (.cons (.var 19) (.cons (.val (.string ⟨#[106, 99, 99, 32, 114, 101, 116, 32, 102, 101, 110, 99, 101, 32, 110, 111, 112, 32, 115, 121, 115, 32, 117, 100]⟩)) .nil))))))))))))))))))))))
 (.ite (.app 2003 0 (.cons (.var 0) (.cons (.var 1) (.cons (.var 2) (.cons (.var 3) (.cons (.var 4) (.cons (.var 5) (.cons (.var 6) (.cons (.var 7) (.cons (.var 8) (.cons (.var 9) (.cons (.var 10) (.cons (.var 11) (.cons (.var 12) (.cons (.var 13) (.cons (.var 14) (.cons (.var 15) (.cons (.var 16) (.cons (.var 17) (.cons (.var 18) (.cons (.var 19) (.cons (.val (.string ⟨#[56]⟩)) .nil))))))))))))))))))))))
 (.ite (.app 2011 0 (.cons (.var 3) (.cons (.var 4) (.cons (.var 5) (.cons (.var 6) (.cons (.var 7) (.cons (.var 8) (.cons (.val (.string ⟨#[110]⟩)) .nil))))))))
 (.leaf [(.app 2011 0 (.cons (.var 9) (.cons (.var 10) (.cons (.var 11) (.cons (.var 12) (.cons (.var 13) (.cons (.var 14) (.cons (.val (.string ⟨#[110]⟩)) .nil))))))))])
 (.leaf [(.bool false)]))
 (.leaf [(.bool false)]))
 (.leaf [(.bool false)]))))))))))))))))
noncomputable def D23 : List (Nat × Def) := (23, .fn (sortsP g23.ps) V23) :: D44_nrm
theorem ds23 : DS ph23 D23 := DS.fn ds44_nrm 23 _ T23 V23 (by kernel_rfl) (by kernel_rfl) (by kernel_rfl)
/- calque/calqueref05.May -/
noncomputable def b8 : Code := Try.f8.body.getD .skip
noncomputable def g8 : Sig := { f := 8, sym := 8, ps := [.val true [(.int .i64), (.int .i64), (.int .i64), (.int .i64), (.int .i64), (.int .i64), (.int .i64), (.int .i64), (.int .i64), (.int .i64), (.int .i64), (.int .i64), (.int .i64), (.int .i64), (.int .i64), (.int .i64), (.int .i64), .bool, .bool, (.int .i64)]], rs := [.val false [.bool]], imp := [(.cmp .lss (.var 0) (.int .i64 1), false), (.cmp .lss (.int .i64 47) (.var 0), false)] }
noncomputable def n8 : Nat := g8.ps.length + (Try.f8.ntmps - g8.ps.length)
noncomputable def T8 : RTree := fnT Try.prog ct23 sy23 [] 500 Try.f8 b8 g8
noncomputable def ct8 : List Sig := g8 :: ct23
noncomputable def sy8 : List (Nat × List So) := (8, g8.rs.flatMap RK.sorts) :: sy23
noncomputable def ph8 : Nat → List Value → List Value := updF ph23 8 (SX.auto T8 (sortsP g8.ps) ph23)
theorem en8 : Env Try.prog ct8 sy8 ph8 :=
  Env.auto en23 [] 500 Try.f8 b8 g8 (by kernel_rfl) (by kernel_rfl) (by kernel_rfl) (by kernel_rfl) (by kernel_rfl) (by kernel_rfl) (by kernel_rfl) (by kernel_rfl) (fun _ h => by simp at h) (by kernel_rfl)
noncomputable def V8 : VT := (.ite (.app 23 0 (.cons (.var 0) (.cons (.var 1) (.cons (.var 2) (.cons (.var 3) (.cons (.var 4) (.cons (.var 5) (.cons (.var 6) (.cons (.var 7) (.cons (.var 8) (.cons (.var 9) (.cons (.var 10) (.cons (.var 11) (.cons (.var 12) (.cons (.var 13) (.cons (.var 14) (.cons (.var 15) (.cons (.var 16) (.cons (.var 17) (.cons (.var 18) (.cons (.var 19) .nil)))))))))))))))))))))
 (.ite (.app 24 0 (.cons (.var 3) (.cons (.var 4) (.cons (.var 5) (.cons (.var 6) (.cons (.var 7) (.cons (.var 8) .nil)))))))
 (.ite (.app 24 0 (.cons (.var 9) (.cons (.var 10) (.cons (.var 11) (.cons (.var 12) (.cons (.var 13) (.cons (.var 14) .nil)))))))
 (.ite (.app 25 0 (.cons (.var 0) (.cons (.var 1) (.cons (.var 2) (.cons (.var 3) (.cons (.var 4) (.cons (.var 5) (.cons (.var 6) (.cons (.var 7) (.cons (.var 8) (.cons (.var 9) (.cons (.var 10) (.cons (.var 11) (.cons (.var 12) (.cons (.var 13) (.cons (.var 14) (.cons (.var 15) (.cons (.var 16) (.cons (.var 17) (.cons (.var 18) (.cons (.var 19) .nil)))))))))))))))))))))
 (.ite (.cmp .lss (.var 19) (.int .i64 (.ofNat 0)))
 (.leaf [(.bool false)])
 (.ite (.cmp .lss (.int .i64 (.ofNat 15)) (.var 19))
 (.leaf [(.bool false)])
 (.ite (.app 3002 0 (.cons (.var 0) (.cons (.var 1) (.cons (.var 2) (.cons (.var 3) (.cons (.var 4) (.cons (.var 5) (.cons (.var 6) (.cons (.var 7) (.cons (.var 8) (.cons (.var 9) (.cons (.var 10) (.cons (.var 11) (.cons (.var 12) (.cons (.var 13) (.cons (.var 14) (.cons (.var 15) (.cons (.var 16) (.cons (.var 17) (.cons (.var 18) (.cons (.var 19) (.cons (.val (.string ⟨#[99, 109, 111, 118, 32, 115, 101, 116, 32, 106, 99, 99]⟩)) .nil))))))))))))))))))))))
 (.ite (.cmp .lss (.var 16) (.int .i64 (.ofNat 0)))
 (.leaf [(.bool false)])
 (.ite (.cmp .lss (.int .i64 (.ofNat 15)) (.var 16))
 (.leaf [(.bool false)])
 (.ite (.app 3012 0 (.cons (.var 0) (.cons (.var 1) (.cons (.var 2) (.cons (.var 3) (.cons (.var 4) (.cons (.var 5) (.cons (.var 6) (.cons (.var 7) (.cons (.var 8) (.cons (.var 9) (.cons (.var 10) (.cons (.var 11) (.cons (.var 12) (.cons (.var 13) (.cons (.var 14) (.cons (.var 15) (.cons (.var 16) (.cons (.var 17) (.cons (.var 18) (.cons (.var 19) (.cons (.val (.string ⟨#[109, 111, 118, 122, 120, 32, 109, 111, 118, 115, 120]⟩)) .nil))))))))))))))))))))))
 (.ite (.cmp .eql (.var 2) (.int .i64 (.ofNat 1)))
 (.ite (.var 17)
 (.ite (.cmp .eql (.var 3) (.int .i64 (.ofNat 2)))
 (.ite (.app 3001 0 (.cons (.var 0) (.cons (.var 1) (.cons (.var 2) (.cons (.var 3) (.cons (.var 4) (.cons (.var 5) (.cons (.var 6) (.cons (.var 7) (.cons (.var 8) (.cons (.var 9) (.cons (.var 10) (.cons (.var 11) (.cons (.var 12) (.cons (.var 13) (.cons (.var 14) (.cons (.var 15) (.cons (.var 16) (.cons (.var 17) (.cons (.var 18) (.cons (.var 19) (.cons (.val (.string ⟨#[97, 100, 100, 32, 111, 114, 32, 97, 100, 99, 32, 115, 98, 98, 32, 97, 110, 100, 32, 115, 117, 98, 32, 120, 111, 114, 32, 105, 110, 99, 32, 100, 101, 99, 32, 110, 111, 116, 32, 110, 101, 103, 32, 120, 99, 104, 103, 32, 99, 97, 115, 32, 120, 97, 100, 100]⟩)) .nil))))))))))))))))))))))
 (.ite (.var 18)
 (.leaf [(.app 3010 0 (.cons (.var 0) (.cons (.var 1) (.cons (.var 2) (.cons (.var 3) (.cons (.var 4) (.cons (.var 5) (.cons (.var 6) (.cons (.var 7) (.cons (.var 8) (.cons (.var 9) (.cons (.var 10) (.cons (.var 11) (.cons (.var 12) (.cons (.var 13) (.cons (.var 14) (.cons (.var 15) (.cons (.var 16) (.cons (.var 17) (.cons (.var 18) (.cons (.var 19) (.cons (.val (.string ⟨#[109, 111, 118, 115, 32, 115, 116, 111, 115]⟩)) .nil))))))))))))))))))))))])
 (.leaf [(.bool true)]))
 (.leaf [(.bool false)]))
 (.leaf [(.bool false)]))
 (.ite (.var 18)
 (.leaf [(.app 3010 0 (.cons (.var 0) (.cons (.var 1) (.cons (.var 2) (.cons (.var 3) (.cons (.var 4) (.cons (.var 5) (.cons (.var 6) (.cons (.var 7) (.cons (.var 8) (.cons (.var 9) (.cons (.var 10) (.cons (.var 11) (.cons (.var 12) (.cons (.var 13) (.cons (.var 14) (.cons (.var 15) (.cons (.var 16) (.cons (.var 17) (.cons (.var 18) (.cons (.var 19) (.cons (.val (.string ⟨#[109, 111, 118, 115, 32, 115, 116, 111, 115]⟩)) .nil))))))))))))))))))))))])
 (.leaf [(.bool true)])))
 (.ite (.cmp .eql (.var 2) (.int .i64 (.ofNat 2)))
 (.ite (.cmp .lss (.var 1) (.int .i64 (.ofNat 4)))
 (.leaf [(.bool false)])
 (.ite (.var 17)
 (.ite (.cmp .eql (.var 3) (.int .i64 (.ofNat 2)))
 (.ite (.app 3001 0 (.cons (.var 0) (.cons (.var 1) (.cons (.var 2) (.cons (.var 3) (.cons (.var 4) (.cons (.var 5) (.cons (.var 6) (.cons (.var 7) (.cons (.var 8) (.cons (.var 9) (.cons (.var 10) (.cons (.var 11) (.cons (.var 12) (.cons (.var 13) (.cons (.var 14) (.cons (.var 15) (.cons (.var 16) (.cons (.var 17) (.cons (.var 18) (.cons (.var 19) (.cons (.val (.string ⟨#[97, 100, 100, 32, 111, 114, 32, 97, 100, 99, 32, 115, 98, 98, 32, 97, 110, 100, 32, 115, 117, 98, 32, 120, 111, 114, 32, 105, 110, 99, 32, 100, 101, 99, 32, 110, 111, 116, 32, 110, 101, 103, 32, 120, 99, 104, 103, 32, 99, 97, 115, 32, 120, 97, 100, 100]⟩)) .nil))))))))))))))))))))))
 (.ite (.var 18)
 (.leaf [(.app 3010 0 (.cons (.var 0) (.cons (.var 1) (.cons (.var 2) (.cons (.var 3) (.cons (.var 4) (.cons (.var 5) (.cons (.var 6) (.cons (.var 7) (.cons (.var 8) (.cons (.var 9) (.cons (.var 10) (.cons (.var 11) (.cons (.var 12) (.cons (.var 13) (.cons (.var 14) (.cons (.var 15) (.cons (.var 16) (.cons (.var 17) (.cons (.var 18) (.cons (.var 19) (.cons (.val (.string ⟨#[109, 111, 118, 115, 32, 115, 116, 111, 115]⟩)) .nil))))))))))))))))))))))])
 (.leaf [(.bool true)]))
 (.leaf [(.bool false)]))
 (.leaf [(.bool false)]))
 (.ite (.var 18)
 (.leaf [(.app 3010 0 (.cons (.var 0) (.cons (.var 1) (.cons (.var 2) (.cons (.var 3) (.cons (.var 4) (.cons (.var 5) (.cons (.var 6) (.cons (.var 7) (.cons (.var 8) (.cons (.var 9) (.cons (.var 10) (.cons (.var 11) (.cons (.var 12) (.cons (.var 13) (.cons (.var 14) (.cons (.var 15) (.cons (.var 16) (.cons (.var 17) (.cons (.var 18) (.cons (.var 19) (.cons (.val (.string ⟨#[109, 111, 118, 115, 32, 115, 116, 111, 115]⟩)) .nil))))))))))))))))))))))])
 (.leaf [(.bool true)]))))
 (.ite (.cmp .eql (.var 2) (.int .i64 (.ofNat 4)))
 (.ite (.cmp .eql (.var 1) (.int .i64 (.ofNat 8)))
 (.ite (.app 3011 0 (.cons (.var 0) (.cons (.var 1) (.cons (.var 2) (.cons (.var 3) (.cons (.var 4) (.cons (.var 5) (.cons (.var 6) (.cons (.var 7) (.cons (.var 8) (.cons (.var 9) (.cons (.var 10) (.cons (.var 11) (.cons (.var 12) (.cons (.var 13) (.cons (.var 14) (.cons (.var 15) (.cons (.var 16) (.cons (.var 17) (.cons (.var 18) (.cons (.var 19) (.cons (.val (.string ⟨#[109, 111, 118, 115, 120]⟩)) .nil))))))))))))))))))))))
 (.ite (.var 17)
 (.ite (.cmp .eql (.var 3) (.int .i64 (.ofNat 2)))
 (.ite (.app 3001 0 (.cons (.var 0) (.cons (.var 1) (.cons (.var 2) (.cons (.var 3) (.cons (.var 4) (.cons (.var 5) (.cons (.var 6) (.cons (.var 7) (.cons (.var 8) (.cons (.var 9) (.cons (.var 10) (.cons (.var 11) (.cons (.var 12) (.cons (.var 13) (.cons (.var 14) (.cons (.var 15) (.cons (.var 16) (.cons (.var 17) (.cons (.var 18) (.cons (.var 19) (.cons (.val (.string ⟨#[97, 100, 100, 32, 111, 114, 32, 97, 100, 99, 32, 115, 98, 98, 32, 97, 110, 100, 32, 115, 117, 98, 32, 120, 111, 114, 32, 105, 110, 99, 32, 100, 101, 99, 32, 110, 111, 116, 32, 110, 101, 103, 32, 120, 99, 104, 103, 32, 99, 97, 115, 32, 120, 97, 100, 100]⟩)) .nil))))))))))))))))))))))
 (.ite (.var 18)
 (.leaf [(.app 3010 0 (.cons (.var 0) (.cons (.var 1) (.cons (.var 2) (.cons (.var 3) (.cons (.var 4) (.cons (.var 5) (.cons (.var 6) (.cons (.var 7) (.cons (.var 8) (.cons (.var 9) (.cons (.var 10) (.cons (.var 11) (.cons (.var 12) (.cons (.var 13) (.cons (.var 14) (.cons (.var 15) (.cons (.var 16) (.cons (.var 17) (.cons (.var 18) (.cons (.var 19) (.cons (.val (.string ⟨#[109, 111, 118, 115, 32, 115, 116, 111, 115]⟩)) .nil))))))))))))))))))))))])
 (.leaf [(.bool true)]))
 (.leaf [(.bool false)]))
 (.leaf [(.bool false)]))
 (.ite (.var 18)
 (.leaf [(.app 3010 0 (.cons (.var 0) (.cons (.var 1) (.cons (.var 2) (.cons (.var 3) (.cons (.var 4) (.cons (.var 5) (.cons (.var 6) (.cons (.var 7) (.cons (.var 8) (.cons (.var 9) (.cons (.var 10) (.cons (.var 11) (.cons (.var 12) (.cons (.var 13) (.cons (.var 14) (.cons (.var 15) (.cons (.var 16) (.cons (.var 17) (.cons (.var 18) (.cons (.var 19) (.cons (.val (.string ⟨#[109, 111, 118, 115, 32, 115, 116, 111, 115]⟩)) .nil))))))))))))))))))))))])
 (.leaf [(.bool true)])))
 (.leaf [(.bool false)]))
 (.leaf [(.bool false)]))
 (.leaf [(.bool false)]))))
 (.ite (.cmp .eql (.var 2) (.int .i64 (.ofNat 0)))
 (.ite (.var 17)
 (.ite (.cmp .eql (.var 3) (.int .i64 (.ofNat 2)))
 (.ite (.app 3001 0 (.cons (.var 0) (.cons (.var 1) (.cons (.var 2) (.cons (.var 3) (.cons (.var 4) (.cons (.var 5) (.cons (.var 6) (.cons (.var 7) (.cons (.var 8) (.cons (.var 9) (.cons (.var 10) (.cons (.var 11) (.cons (.var 12) (.cons (.var 13) (.cons (.var 14) (.cons (.var 15) (.cons (.var 16) (.cons (.var 17) (.cons (.var 18) (.cons (.var 19) (.cons (.val (.string ⟨#[97, 100, 100, 32, 111, 114, 32, 97, 100, 99, 32, 115, 98, 98, 32, 97, 110, 100, 32, 115, 117, 98, 32, 120, 111, 114, 32, 105, 110, 99, 32, 100, 101, 99, 32, 110, 111, 116, 32, 110, 101, 103, 32, 120, 99, 104, 103, 32, 99, 97, 115, 32, 120, 97, 100, 100]⟩)) .nil))))))))))))))))))))))
 (.ite (.var 18)
 (.leaf [(.app 3010 0 (.cons (.var 0) (.cons (.var 1) (.cons (.var 2) (.cons (.var 3) (.cons (.var 4) (.cons (.var 5) (.cons (.var 6) (.cons (.var 7) (.cons (.var 8) (.cons (.var 9) (.cons (.var 10) (.cons (.var 11) (.cons (.var 12) (.cons (.var 13) (.cons (.var 14) (.cons (.var 15) (.cons (.var 16) (.cons (.var 17) (.cons (.var 18) (.cons (.var 19) (.cons (.val (.string ⟨#[109, 111, 118, 115, 32, 115, 116, 111, 115]⟩)) .nil))))))))))))))))))))))])
 (.leaf [(.bool true)]))
 (.leaf [(.bool false)]))
 (.leaf [(.bool false)]))
 (.ite (.var 18)
 (.leaf [(.app 3010 0 (.cons (.var 0) (.cons (.var 1) (.cons (.var 2) (.cons (.var 3) (.cons (.var 4) (.cons (.var 5) (.cons (.var 6) (.cons (.var 7) (.cons (.var 8) (.cons (.var 9) (.cons (.var 10) (.cons (.var 11) (.cons (.var 12) (.cons (.var 13) (.cons (.var 14) (.cons (.var 15) (.cons (.var 16) (.cons (.var 17) (.cons (.var 18) (.cons (.var 19) (.cons (.val (.string ⟨#[109, 111, 118, 115, 32, 115, 116, 111, 115]⟩)) .nil))))))))))))))))))))))])
 (.leaf [(.bool true)])))
 (.leaf [(.bool false)])))))
 (.ite (.cmp .eql (.var 16) (.int .i64 (.ofNat 0)))
 (.ite (.app 3012 0 (.cons (.var 0) (.cons (.var 1) (.cons (.var 2) (.cons (.var 3) (.cons (.var 4) (.cons (.var 5) (.cons (.var 6) (.cons (.var 7) (.cons (.var 8) (.cons (.var 9) (.cons (.var 10) (.cons (.var 11) (.cons (.var 12) (.cons (.var 13) (.cons (.var 14) (.cons (.var 15) (.cons (.var 16) (.cons (.var 17) (.cons (.var 18) (.cons (.var 19) (.cons (.val (.string ⟨#[109, 111, 118, 122, 120, 32, 109, 111, 118, 115, 120]⟩)) .nil))))))))))))))))))))))
 (.ite (.cmp .eql (.var 2) (.int .i64 (.ofNat 1)))
 (.ite (.var 17)
 (.ite (.cmp .eql (.var 3) (.int .i64 (.ofNat 2)))
 (.ite (.app 3001 0 (.cons (.var 0) (.cons (.var 1) (.cons (.var 2) (.cons (.var 3) (.cons (.var 4) (.cons (.var 5) (.cons (.var 6) (.cons (.var 7) (.cons (.var 8) (.cons (.var 9) (.cons (.var 10) (.cons (.var 11) (.cons (.var 12) (.cons (.var 13) (.cons (.var 14) (.cons (.var 15) (.cons (.var 16) (.cons (.var 17) (.cons (.var 18) (.cons (.var 19) (.cons (.val (.string ⟨#[97, 100, 100, 32, 111, 114, 32, 97, 100, 99, 32, 115, 98, 98, 32, 97, 110, 100, 32, 115, 117, 98, 32, 120, 111, 114, 32, 105, 110, 99, 32, 100, 101, 99, 32, 110, 111, 116, 32, 110, 101, 103, 32, 120, 99, 104, 103, 32, 99, 97, 115, 32, 120, 97, 100, 100]⟩)) .nil))))))))))))))))))))))
 (.ite (.var 18)
 (.leaf [(.app 3010 0 (.cons (.var 0) (.cons (.var 1) (.cons (.var 2) (.cons (.var 3) (.cons (.var 4) (.cons (.var 5) (.cons (.var 6) (.cons (.var 7) (.cons (.var 8) (.cons (.var 9) (.cons (.var 10) (.cons (.var 11) (.cons (.var 12) (.cons (.var 13) (.cons (.var 14) (.cons (.var 15) (.cons (.var 16) (.cons (.var 17) (.cons (.var 18) (.cons (.var 19) (.cons (.val (.string ⟨#[109, 111, 118, 115, 32, 115, 116, 111, 115]⟩)) .nil))))))))))))))))))))))])
 (.leaf [(.bool true)]))
 (.leaf [(.bool false)]))
 (.leaf [(.bool false)]))
 (.ite (.var 18)
 (.leaf [(.app 3010 0 (.cons (.var 0) (.cons (.var 1) (.cons (.var 2) (.cons (.var 3) (.cons (.var 4) (.cons (.var 5) (.cons (.var 6) (.cons (.var 7) (.cons (.var 8) (.cons (.var 9) (.cons (.var 10) (.cons (.var 11) (.cons (.var 12) (.cons (.var 13) (.cons (.var 14) (.cons (.var 15) (.cons (.var 16) (.cons (.var 17) (.cons (.var 18) (.cons (.var 19) (.cons (.val (.string ⟨#[109, 111, 118, 115, 32, 115, 116, 111, 115]⟩)) .nil))))))))))))))))))))))])
 (.leaf [(.bool true)])))
 (.ite (.cmp .eql (.var 2) (.int .i64 (.ofNat 2)))
 (.ite (.cmp .lss (.var 1) (.int .i64 (.ofNat 4)))
 (.leaf [(.bool false)])
 (.ite (.var 17)
 (.ite (.cmp .eql (.var 3) (.int .i64 (.ofNat 2)))
 (.ite (.app 3001 0 (.cons (.var 0) (.cons (.var 1) (.cons (.var 2) (.cons (.var 3) (.cons (.var 4) (.cons (.var 5) (.cons (.var 6) (.cons (.var 7) (.cons (.var 8) (.cons (.var 9) (.cons (.var 10) (.cons (.var 11) (.cons (.var 12) (.cons (.var 13) (.cons (.var 14) (.cons (.var 15) (.cons (.var 16) (.cons (.var 17) (.cons (.var 18) (.cons (.var 19) (.cons (.val (.string ⟨#[97, 100, 100, 32, 111, 114, 32, 97, 100, 99, 32, 115, 98, 98, 32, 97, 110, 100, 32, 115, 117, 98, 32, 120, 111, 114, 32, 105, 110, 99, 32, 100, 101, 99, 32, 110, 111, 116, 32, 110, 101, 103, 32, 120, 99, 104, 103, 32, 99, 97, 115, 32, 120, 97, 100, 100]⟩)) .nil))))))))))))))))))))))
 (.ite (.var 18)
 (.leaf [(.app 3010 0 (.cons (.var 0) (.cons (.var 1) (.cons (.var 2) (.cons (.var 3) (.cons (.var 4) (.cons (.var 5) (.cons (.var 6) (.cons (.var 7) (.cons (.var 8) (.cons (.var 9) (.cons (.var 10) (.cons (.var 11) (.cons (.var 12) (.cons (.var 13) (.cons (.var 14) (.cons (.var 15) (.cons (.var 16) (.cons (.var 17) (.cons (.var 18) (.cons (.var 19) (.cons (.val (.string ⟨#[109, 111, 118, 115, 32, 115, 116, 111, 115]⟩)) .nil))))))))))))))))))))))])
 (.leaf [(.bool true)]))
 (.leaf [(.bool false)]))
 (.leaf [(.bool false)]))
 (.ite (.var 18)
 (.leaf [(.app 3010 0 (.cons (.var 0) (.cons (.var 1) (.cons (.var 2) (.cons (.var 3) (.cons (.var 4) (.cons (.var 5) (.cons (.var 6) (.cons (.var 7) (.cons (.var 8) (.cons (.var 9) (.cons (.var 10) (.cons (.var 11) (.cons (.var 12) (.cons (.var 13) (.cons (.var 14) (.cons (.var 15) (.cons (.var 16) (.cons (.var 17) (.cons (.var 18) (.cons (.var 19) (.cons (.val (.string ⟨#[109, 111, 118, 115, 32, 115, 116, 111, 115]⟩)) .nil))))))))))))))))))))))])
 (.leaf [(.bool true)]))))
 (.ite (.cmp .eql (.var 2) (.int .i64 (.ofNat 4)))
 (.ite (.cmp .eql (.var 1) (.int .i64 (.ofNat 8)))
 (.ite (.app 3011 0 (.cons (.var 0) (.cons (.var 1) (.cons (.var 2) (.cons (.var 3) (.cons (.var 4) (.cons (.var 5) (.cons (.var 6) (.cons (.var 7) (.cons (.var 8) (.cons (.var 9) (.cons (.var 10) (.cons (.var 11) (.cons (.var 12) (.cons (.var 13) (.cons (.var 14) (.cons (.var 15) (.cons (.var 16) (.cons (.var 17) (.cons (.var 18) (.cons (.var 19) (.cons (.val (.string ⟨#[109, 111, 118, 115, 120]⟩)) .nil))))))))))))))))))))))
 (.ite (.var 17)
 (.ite (.cmp .eql (.var 3) (.int .i64 (.ofNat 2)))
 (.ite (.app 3001 0 (.cons (.var 0) (.cons (.var 1) (.cons (.var 2) (.cons (.var 3) (.cons (.var 4) (.cons (.var 5) (.cons (.var 6) (.cons (.var 7) (.cons (.var 8) (.cons (.var 9) (.cons (.var 10) (.cons (.var 11) (.cons (.var 12) (.cons (.var 13) (.cons (.var 14) (.cons (.var 15) (.cons (.var 16) (.cons (.var 17) (.cons (.var 18) (.cons (.var 19) (.cons (.val (.string ⟨#[97, 100, 100, 32, 111, 114, 32, 97, 100, 99, 32, 115, 98, 98, 32, 97, 110, 100, 32, 115, 117, 98, 32, 120, 111, 114, 32, 105, 110, 99, 32, 100, 101, 99, 32, 110, 111, 116, 32, 110, 101, 103, 32, 120, 99, 104, 103, 32, 99, 97, 115, 32, 120, 97, 100, 100]⟩)) .nil))))))))))))))))))))))
 (.ite (.var 18)
 (.leaf [(.app 3010 0 (.cons (.var 0) (.cons (.var 1) (.cons (.var 2) (.cons (.var 3) (.cons (.var 4) (.cons (.var 5) (.cons (.var 6) (.cons (.var 7) (.cons (.var 8) (.cons (.var 9) (.cons (.var 10) (.cons (.var 11) (.cons (.var 12) (.cons (.var 13) (.cons (.var 14) (.cons (.var 15) (.cons (.var 16) (.cons (.var 17) (.cons (.var 18) (.cons (.var 19) (.cons (.val (.string ⟨#[109, 111, 118, 115, 32, 115, 116, 111, 115]⟩)) .nil))))))))))))))))))))))])
 (.leaf [(.bool true)]))
 (.leaf [(.bool false)]))
 (.leaf [(.bool false)]))
 (.ite (.var 18)
 (.leaf [(.app 3010 0 (.cons (.var 0) (.cons (.var 1) (.cons (.var 2) (.cons (.var 3) (.cons (.var 4) (.cons (.var 5) (.cons (.var 6) (.cons (.var 7) (.cons (.var 8) (.cons (.var 9) (.cons (.var 10) (.cons (.var 11) (.cons (.var 12) (.cons (.var 13) (.cons (.var 14) (.cons (.var 15) (.cons (.var 16) (.cons (.var 17) (.cons (.var 18) (.cons (.var 19) (.cons (.val (.string ⟨#[109, 111, 118, 115, 32, 115, 116, 111, 115]⟩)) .nil))))))))))))))))))))))])
 (.leaf [(.bool true)])))
 (.leaf [(.bool false)]))
 (.leaf [(.bool false)]))
 (.leaf [(.bool false)]))))
 (.ite (.cmp .eql (.var 2) (.int .i64 (.ofNat 0)))
 (.ite (.var 17)
 (.ite (.cmp .eql (.var 3) (.int .i64 (.ofNat 2)))
 (.ite (.app 3001 0 (.cons (.var 0) (.cons (.var 1) (.cons (.var 2) (.cons (.var 3) (.cons (.var 4) (.cons (.var 5) (.cons (.var 6) (.cons (.var 7) (.cons (.var 8) (.cons (.var 9) (.cons (.var 10) (.cons (.var 11) (.cons (.var 12) (.cons (.var 13) (.cons (.var 14) (.cons (.var 15) (.cons (.var 16) (.cons (.var 17) (.cons (.var 18) (.cons (.var 19) (.cons (.val (.string ⟨#[97, 100, 100, 32, 111, 114, 32, 97, 100, 99, 32, 115, 98, 98, 32, 97, 110, 100, 32, 115, 117, 98, 32, 120, 111, 114, 32, 105, 110, 99, 32, 100, 101, 99, 32, 110, 111, 116, 32, 110, 101, 103, 32, 120, 99, 104, 103, 32, 99, 97, 115, 32, 120, 97, 100, 100]⟩)) .nil))))))))))))))))))))))
 (.ite (.var 18)
 (.leaf [(.app 3010 0 (.cons (.var 0) (.cons (.var 1) (.cons (.var 2) (.cons (.var 3) (.cons (.var 4) (.cons (.var 5) (.cons (.var 6) (.cons (.var 7) (.cons (.var 8) (.cons (.var 9) (.cons (.var 10) (.cons (.var 11) (.cons (.var 12) (.cons (.var 13) (.cons (.var 14) (.cons (.var 15) (.cons (.var 16) (.cons (.var 17) (.cons (.var 18) (.cons (.var 19) (.cons (.val (.string ⟨#[109, 111, 118, 115, 32, 115, 116, 111, 115]⟩)) .nil))))))))))))))))))))))])
 (.leaf [(.bool true)]))
 (.leaf [(.bool false)]))
 (.leaf [(.bool false)]))
 (.ite (.var 18)
 (.leaf [(.app 3010 0 (.cons (.var 0) (.cons (.var 1) (.cons (.var 2) (.cons (.var 3) (.cons (.var 4) (.cons (.var 5) (.cons (.var 6) (.cons (.var 7) (.cons (.var 8) (.cons (.var 9) (.cons (.var 10) (.cons (.var 11) (.cons (.var 12) (.cons (.var 13) (.cons (.var 14) (.cons (.var 15) (.cons (.var 16) (.cons (.var 17) (.cons (.var 18) (.cons (.var 19) (.cons (.val (.string ⟨#[109, 111, 118, 115, 32, 115, 116, 111, 115]⟩)) .nil))))))))))))))))))))))])
 (.leaf [(.bool true)])))
 (.leaf [(.bool false)])))
 (.leaf [(.bool false)])))))
 (.leaf [(.bool false)]))
 (.leaf [(.bool false)]))
 (.leaf [(.bool false)]))
 (.leaf [(.bool false)]))
noncomputable def D8 : List (Nat × Def) := (8, .fn (sortsP g8.ps) V8) :: D23
theorem ds8 : DS ph8 D8 := DS.fn ds23 8 _ T8 V8 (by kernel_rfl) (by kernel_rfl) (by kernel_rfl)
end Go.Proofs.Ytbhhfbenajcinaa
