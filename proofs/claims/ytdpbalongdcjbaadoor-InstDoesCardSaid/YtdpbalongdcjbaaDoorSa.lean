import Derived.Test.YtdpbalongdcjbaaDoorSXv

import Derived.KernelRfl
import Derived.Test.YtdpbalongdcjbaaDoorProg

namespace Go.Proofs.YtdpbalongdcjbaaDoor
open Go Go.SX Go.Proofs
noncomputable def ct0 : List Sig := []
noncomputable def sy0 : List (Nat × List So) := []
noncomputable def ph0 : Nat → List Value → List Value := fun _ _ => []
noncomputable def D0 : List (Nat × Def) := []
theorem en0 : Env Tryd.prog ct0 sy0 ph0 := Env.nil _ _
theorem ds0 : DS ph0 D0 := DS.nil _
/- calque/calqueref05.Words -/
noncomputable def b38 : Code := Tryd.f38.body.getD .skip
noncomputable def g38 : Sig := { sigRow Tryd.prog Tryd.f38 38 38 48 .str with f := 38, sym := 38 }
noncomputable def n38 : Nat := g38.ps.length + (Tryd.f38.ntmps - g38.ps.length)
noncomputable def T38 : RTree := fnT Tryd.prog ct0 sy0 [] 500 Tryd.f38 b38 g38
noncomputable def ct38 : List Sig := g38 :: ct0
noncomputable def sy38 : List (Nat × List So) := (38, g38.rs.flatMap RK.sorts) :: sy0
noncomputable def ph38 : Nat → List Value → List Value := updF ph0 38 (SX.autoRow T38 (sortsP g38.ps) ph0)
theorem en38 : Env Tryd.prog ct38 sy38 ph38 :=
  Env.autoRow en0 [] 500 Tryd.f38 b38 g38 48 .str (by kernel_rfl) (by kernel_rfl) (by kernel_rfl) (by kernel_rfl) (by kernel_rfl) (by kernel_rfl) (by kernel_rfl) (fun _ h => by simp at h) (by rfl) (by rfl) (by kernel_rfl)
noncomputable def V38 : VT := T38.stripRow
noncomputable def D38 : List (Nat × Def) := (38, .fn (sortsP g38.ps) V38) :: D0
theorem ds38 : DS ph38 D38 := DS.row ds0 38 _ T38 V38 (by kernel_rfl) (by kernel_rfl) (by kernel_rfl)
/- (calque/calqueref05.Inst).is -/
noncomputable def b26 : Code := Tryd.f26.body.getD .skip
noncomputable def g26 : Sig := { sigSl Tryd.prog Tryd.f26 26 26 with f := 26, sym := 26, imp := [(.cmp .lss (.var 0) (.int .i64 1), false), (.cmp .lss (.int .i64 47) (.var 0), false)] }
noncomputable def n26 : Nat := g26.ps.length + (Tryd.f26.ntmps - g26.ps.length)
noncomputable def c26_l : Code := loopOf 5 b26
noncomputable def lp26_l : Lp := { key := 5, sym := 1026, ins := [(5, .val false [.str]), (1, .val false [.str]), (6, .val false [.int .i64])], exits := [(.ret, [(4, .val false [.bool])]), (.exit 0, [])], als := [], pre := [(.cmp .lss (.var 2) (.int .i64 0), false), (.cmp .lss (.int .i64 281474976710656) (.var 2), false)], mu := .bin .sub .i64 (.len (.var 1)) (.var 2) }
noncomputable def t26_l : Tree := lpTree Tryd.prog ct38 sy38 [] n26 300 lp26_l c26_l
noncomputable def sy26_l : List (Nat × List So) := (1026, lp26_l.sorts) :: sy38
noncomputable def ph26_l : Nat → List Value → List Value := updF ph38 1026 (lpF lp26_l (lpCx Tryd.prog ct38 sy38 lp26_l) (sortsP (lp26_l.ins.map (·.2))).length (wrs c26_l) t26_l ph38)
theorem enl26_l : Env Tryd.prog ct38 sy26_l ph26_l ∧ lp26_l.Sound Tryd.prog ph26_l n26 c26_l :=
  Env.loop en38 [] _ 300 lp26_l c26_l (by kernel_rfl) (fun _ h => by simp at h) (by kernel_rfl) (by kernel_rfl)
theorem en26_l : Env Tryd.prog ct38 sy26_l ph26_l := enl26_l.1
noncomputable def ct26_l : List Sig := ct38
noncomputable def V26_l : LT := stripL lp26_l (lpCx Tryd.prog ct38 sy38 lp26_l) (sortsP (lp26_l.ins.map (·.2))).length (wrs c26_l) t26_l
noncomputable def D26_l : List (Nat × Def) := (1026, .lp (sortsP (lp26_l.ins.map (·.2))) lp26_l.mu V26_l (badE lp26_l)) :: D38
theorem ds26_l : DS ph26_l D26_l := DS.lp ds38 lp26_l _ _ t26_l V26_l (by kernel_rfl) (by kernel_rfl) (by kernel_rfl)
noncomputable def T26 : RTree := fnT Tryd.prog ct26_l sy26_l [lp26_l] 500 Tryd.f26 b26 g26
noncomputable def ct26 : List Sig := g26 :: ct26_l
noncomputable def sy26 : List (Nat × List So) := (26, g26.rs.flatMap RK.sorts) :: sy26_l
noncomputable def ph26 : Nat → List Value → List Value := updF ph26_l 26 (SX.auto T26 (sortsP g26.ps) ph26_l)
theorem en26 : Env Tryd.prog ct26 sy26 ph26 :=
  Env.auto en26_l [lp26_l] 500 Tryd.f26 b26 g26 (by kernel_rfl) (by kernel_rfl) (by kernel_rfl) (by kernel_rfl) (by kernel_rfl) (by kernel_rfl) (by kernel_rfl) (by kernel_rfl) (fun lp hlp l hl hk => by
    obtain rfl : lp = lp26_l := by simpa using hlp
    rw [loops_one (k := 5) (c := c26_l) (by kernel_rfl) l hl hk]
    exact enl26_l.2) (by kernel_rfl)
noncomputable def V26 : VT := T26.strip
noncomputable def D26 : List (Nat × Def) := (26, .fn (sortsP g26.ps) V26) :: D26_l
theorem ds26 : DS ph26 D26 := DS.fn ds26_l 26 _ T26 V26 (by kernel_rfl) (by kernel_rfl) (by kernel_rfl)
/- calque/calqueref05.Fits -/
noncomputable def b36 : Code := Tryd.f36.body.getD .skip
noncomputable def g36 : Sig := { sigOf Tryd.prog Tryd.f36 36 36 with f := 36, sym := 36 }
noncomputable def n36 : Nat := g36.ps.length + (Tryd.f36.ntmps - g36.ps.length)
noncomputable def T36 : RTree := fnT Tryd.prog ct26 sy26 [] 500 Tryd.f36 b36 g36
noncomputable def ct36 : List Sig := g36 :: ct26
noncomputable def sy36 : List (Nat × List So) := (36, g36.rs.flatMap RK.sorts) :: sy26
noncomputable def ph36 : Nat → List Value → List Value := updF ph26 36 (SX.auto T36 (sortsP g36.ps) ph26)
theorem en36 : Env Tryd.prog ct36 sy36 ph36 :=
  Env.auto en26 [] 500 Tryd.f36 b36 g36 (by kernel_rfl) (by kernel_rfl) (by kernel_rfl) (by kernel_rfl) (by kernel_rfl) (by kernel_rfl) (by kernel_rfl) (by kernel_rfl) (fun _ h => by simp at h) (by kernel_rfl)
noncomputable def V36 : VT := T36.strip
noncomputable def D36 : List (Nat × Def) := (36, .fn (sortsP g36.ps) V36) :: D26
theorem ds36 : DS ph36 D36 := DS.fn ds26 36 _ T36 V36 (by kernel_rfl) (by kernel_rfl) (by kernel_rfl)
/- calque/calqueref05.MayOpd -/
noncomputable def b24 : Code := Tryd.f24.body.getD .skip
noncomputable def g24 : Sig := { sigOf Tryd.prog Tryd.f24 24 24 with f := 24, sym := 24 }
noncomputable def n24 : Nat := g24.ps.length + (Tryd.f24.ntmps - g24.ps.length)
noncomputable def T24 : RTree := fnT Tryd.prog ct36 sy36 [] 500 Tryd.f24 b24 g24
noncomputable def ct24 : List Sig := g24 :: ct36
noncomputable def sy24 : List (Nat × List So) := (24, g24.rs.flatMap RK.sorts) :: sy36
noncomputable def ph24 : Nat → List Value → List Value := updF ph36 24 (SX.auto T24 (sortsP g24.ps) ph36)
theorem en24 : Env Tryd.prog ct24 sy24 ph24 :=
  Env.auto en36 [] 500 Tryd.f24 b24 g24 (by kernel_rfl) (by kernel_rfl) (by kernel_rfl) (by kernel_rfl) (by kernel_rfl) (by kernel_rfl) (by kernel_rfl) (by kernel_rfl) (fun _ h => by simp at h) (by kernel_rfl)
noncomputable def V24 : VT := T24.strip
noncomputable def D24 : List (Nat × Def) := (24, .fn (sortsP g24.ps) V24) :: D36
theorem ds24 : DS ph24 D24 := DS.fn ds36 24 _ T24 V24 (by kernel_rfl) (by kernel_rfl) (by kernel_rfl)
/- (calque/calqueref05.Inst).HasImm -/
noncomputable def b37 : Code := Tryd.f37.body.getD .skip
noncomputable def g37 : Sig := { sigOf Tryd.prog Tryd.f37 37 37 with f := 37, sym := 37 }
noncomputable def n37 : Nat := g37.ps.length + (Tryd.f37.ntmps - g37.ps.length)
noncomputable def T37 : RTree := fnT Tryd.prog ct24 sy24 [] 500 Tryd.f37 b37 g37
noncomputable def ct37 : List Sig := g37 :: ct24
noncomputable def sy37 : List (Nat × List So) := (37, g37.rs.flatMap RK.sorts) :: sy24
noncomputable def ph37 : Nat → List Value → List Value := updF ph24 37 (SX.auto T37 (sortsP g37.ps) ph24)
theorem en37 : Env Tryd.prog ct37 sy37 ph37 :=
  Env.auto en24 [] 500 Tryd.f37 b37 g37 (by kernel_rfl) (by kernel_rfl) (by kernel_rfl) (by kernel_rfl) (by kernel_rfl) (by kernel_rfl) (by kernel_rfl) (by kernel_rfl) (fun _ h => by simp at h) (by kernel_rfl)
noncomputable def V37 : VT := T37.strip
noncomputable def D37 : List (Nat × Def) := (37, .fn (sortsP g37.ps) V37) :: D24
theorem ds37 : DS ph37 D37 := DS.fn ds24 37 _ T37 V37 (by kernel_rfl) (by kernel_rfl) (by kernel_rfl)
/- (calque/calqueref05.Inst).imm -/
noncomputable def b25 : Code := Tryd.f25.body.getD .skip
noncomputable def g25 : Sig := { sigOf Tryd.prog Tryd.f25 25 25 with f := 25, sym := 25 }
noncomputable def n25 : Nat := g25.ps.length + (Tryd.f25.ntmps - g25.ps.length)
noncomputable def T25 : RTree := fnT Tryd.prog ct37 sy37 [] 500 Tryd.f25 b25 g25
noncomputable def ct25 : List Sig := g25 :: ct37
noncomputable def sy25 : List (Nat × List So) := (25, g25.rs.flatMap RK.sorts) :: sy37
noncomputable def ph25 : Nat → List Value → List Value := updF ph37 25 (SX.auto T25 (sortsP g25.ps) ph37)
theorem en25 : Env Tryd.prog ct25 sy25 ph25 :=
  Env.auto en37 [] 500 Tryd.f25 b25 g25 (by kernel_rfl) (by kernel_rfl) (by kernel_rfl) (by kernel_rfl) (by kernel_rfl) (by kernel_rfl) (by kernel_rfl) (by kernel_rfl) (fun _ h => by simp at h) (by kernel_rfl)
noncomputable def V25 : VT := T25.strip
noncomputable def D25 : List (Nat × Def) := (25, .fn (sortsP g25.ps) V25) :: D37
theorem ds25 : DS ph25 D25 := DS.fn ds37 25 _ T25 V25 (by kernel_rfl) (by kernel_rfl) (by kernel_rfl)
end Go.Proofs.YtdpbalongdcjbaaDoor
