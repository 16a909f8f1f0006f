import Derived.Test.YtdpbalongdcjbaaDoorSXv
import Derived.Test.YtdpbalongdcjbaaDoorSa
import Derived.KernelRfl
import Derived.Test.YtdpbalongdcjbaaDoorProg

namespace Go.Proofs.YtdpbalongdcjbaaDoor
open Go Go.SX Go.Proofs
/- (calque/calqueref05.Inst).width -/
noncomputable def b34 : Code := Tryd.f34.body.getD .skip
noncomputable def g34_w1248 : Sig := { sigOf Tryd.prog Tryd.f34 34 34 with f := 34, sym := 2001, fix := [(20, .val (.string ⟨#[49, 50, 52, 56]⟩))] }
noncomputable def n34_w1248 : Nat := g34_w1248.ps.length + (Tryd.f34.ntmps - g34_w1248.ps.length)
noncomputable def T34_w1248 : RTree := fnT Tryd.prog ct25 sy25 [] 500 Tryd.f34 b34 g34_w1248
noncomputable def ct34_w1248 : List Sig := g34_w1248 :: ct25
noncomputable def sy34_w1248 : List (Nat × List So) := (2001, g34_w1248.rs.flatMap RK.sorts) :: sy25
noncomputable def ph34_w1248 : Nat → List Value → List Value := updF ph25 2001 (SX.auto T34_w1248 (sortsP g34_w1248.ps) ph25)
theorem en34_w1248 : Env Tryd.prog ct34_w1248 sy34_w1248 ph34_w1248 :=
  Env.auto en25 [] 500 Tryd.f34 b34 g34_w1248 (by kernel_rfl) (by kernel_rfl) (by kernel_rfl) (by kernel_rfl) (by kernel_rfl) (by kernel_rfl) (by kernel_rfl) (by kernel_rfl) (fun _ h => by simp at h) (by kernel_rfl)
noncomputable def V34_w1248 : VT := T34_w1248.strip
noncomputable def D34_w1248 : List (Nat × Def) := (2001, .fn (sortsP g34_w1248.ps) V34_w1248) :: D25
theorem ds34_w1248 : DS ph34_w1248 D34_w1248 := DS.fn ds25 2001 _ T34_w1248 V34_w1248 (by kernel_rfl) (by kernel_rfl) (by kernel_rfl)
/- (calque/calqueref05.Inst).width -/
noncomputable def g34_w248 : Sig := { sigOf Tryd.prog Tryd.f34 34 34 with f := 34, sym := 2002, fix := [(20, .val (.string ⟨#[50, 52, 56]⟩))] }
noncomputable def n34_w248 : Nat := g34_w248.ps.length + (Tryd.f34.ntmps - g34_w248.ps.length)
noncomputable def T34_w248 : RTree := fnT Tryd.prog ct34_w1248 sy34_w1248 [] 500 Tryd.f34 b34 g34_w248
noncomputable def ct34_w248 : List Sig := g34_w248 :: ct34_w1248
noncomputable def sy34_w248 : List (Nat × List So) := (2002, g34_w248.rs.flatMap RK.sorts) :: sy34_w1248
noncomputable def ph34_w248 : Nat → List Value → List Value := updF ph34_w1248 2002 (SX.auto T34_w248 (sortsP g34_w248.ps) ph34_w1248)
theorem en34_w248 : Env Tryd.prog ct34_w248 sy34_w248 ph34_w248 :=
  Env.auto en34_w1248 [] 500 Tryd.f34 b34 g34_w248 (by kernel_rfl) (by kernel_rfl) (by kernel_rfl) (by kernel_rfl) (by kernel_rfl) (by kernel_rfl) (by kernel_rfl) (by kernel_rfl) (fun _ h => by simp at h) (by kernel_rfl)
noncomputable def V34_w248 : VT := T34_w248.strip
noncomputable def D34_w248 : List (Nat × Def) := (2002, .fn (sortsP g34_w248.ps) V34_w248) :: D34_w1248
theorem ds34_w248 : DS ph34_w248 D34_w248 := DS.fn ds34_w1248 2002 _ T34_w248 V34_w248 (by kernel_rfl) (by kernel_rfl) (by kernel_rfl)
/- (calque/calqueref05.Inst).width -/
noncomputable def g34_w8 : Sig := { sigOf Tryd.prog Tryd.f34 34 34 with f := 34, sym := 2003, fix := [(20, .val (.string ⟨#[56]⟩))] }
noncomputable def n34_w8 : Nat := g34_w8.ps.length + (Tryd.f34.ntmps - g34_w8.ps.length)
noncomputable def T34_w8 : RTree := fnT Tryd.prog ct34_w248 sy34_w248 [] 500 Tryd.f34 b34 g34_w8
noncomputable def ct34_w8 : List Sig := g34_w8 :: ct34_w248
noncomputable def sy34_w8 : List (Nat × List So) := (2003, g34_w8.rs.flatMap RK.sorts) :: sy34_w248
noncomputable def ph34_w8 : Nat → List Value → List Value := updF ph34_w248 2003 (SX.auto T34_w8 (sortsP g34_w8.ps) ph34_w248)
theorem en34_w8 : Env Tryd.prog ct34_w8 sy34_w8 ph34_w8 :=
  Env.auto en34_w248 [] 500 Tryd.f34 b34 g34_w8 (by kernel_rfl) (by kernel_rfl) (by kernel_rfl) (by kernel_rfl) (by kernel_rfl) (by kernel_rfl) (by kernel_rfl) (by kernel_rfl) (fun _ h => by simp at h) (by kernel_rfl)
noncomputable def V34_w8 : VT := T34_w8.strip
noncomputable def D34_w8 : List (Nat × Def) := (2003, .fn (sortsP g34_w8.ps) V34_w8) :: D34_w248
theorem ds34_w8 : DS ph34_w8 D34_w8 := DS.fn ds34_w248 2003 _ T34_w8 V34_w8 (by kernel_rfl) (by kernel_rfl) (by kernel_rfl)
/- (calque/calqueref05.Inst).width -/
noncomputable def g34_w124 : Sig := { sigOf Tryd.prog Tryd.f34 34 34 with f := 34, sym := 2004, fix := [(20, .val (.string ⟨#[49, 50, 52]⟩))] }
noncomputable def n34_w124 : Nat := g34_w124.ps.length + (Tryd.f34.ntmps - g34_w124.ps.length)
noncomputable def T34_w124 : RTree := fnT Tryd.prog ct34_w8 sy34_w8 [] 500 Tryd.f34 b34 g34_w124
noncomputable def ct34_w124 : List Sig := g34_w124 :: ct34_w8
noncomputable def sy34_w124 : List (Nat × List So) := (2004, g34_w124.rs.flatMap RK.sorts) :: sy34_w8
noncomputable def ph34_w124 : Nat → List Value → List Value := updF ph34_w8 2004 (SX.auto T34_w124 (sortsP g34_w124.ps) ph34_w8)
theorem en34_w124 : Env Tryd.prog ct34_w124 sy34_w124 ph34_w124 :=
  Env.auto en34_w8 [] 500 Tryd.f34 b34 g34_w124 (by kernel_rfl) (by kernel_rfl) (by kernel_rfl) (by kernel_rfl) (by kernel_rfl) (by kernel_rfl) (by kernel_rfl) (by kernel_rfl) (fun _ h => by simp at h) (by kernel_rfl)
noncomputable def V34_w124 : VT := T34_w124.strip
noncomputable def D34_w124 : List (Nat × Def) := (2004, .fn (sortsP g34_w124.ps) V34_w124) :: D34_w8
theorem ds34_w124 : DS ph34_w124 D34_w124 := DS.fn ds34_w8 2004 _ T34_w124 V34_w124 (by kernel_rfl) (by kernel_rfl) (by kernel_rfl)
/- (calque/calqueref05.Inst).width -/
noncomputable def g34_w1 : Sig := { sigOf Tryd.prog Tryd.f34 34 34 with f := 34, sym := 2005, fix := [(20, .val (.string ⟨#[49]⟩))] }
noncomputable def n34_w1 : Nat := g34_w1.ps.length + (Tryd.f34.ntmps - g34_w1.ps.length)
noncomputable def T34_w1 : RTree := fnT Tryd.prog ct34_w124 sy34_w124 [] 500 Tryd.f34 b34 g34_w1
noncomputable def ct34_w1 : List Sig := g34_w1 :: ct34_w124
noncomputable def sy34_w1 : List (Nat × List So) := (2005, g34_w1.rs.flatMap RK.sorts) :: sy34_w124
noncomputable def ph34_w1 : Nat → List Value → List Value := updF ph34_w124 2005 (SX.auto T34_w1 (sortsP g34_w1.ps) ph34_w124)
theorem en34_w1 : Env Tryd.prog ct34_w1 sy34_w1 ph34_w1 :=
  Env.auto en34_w124 [] 500 Tryd.f34 b34 g34_w1 (by kernel_rfl) (by kernel_rfl) (by kernel_rfl) (by kernel_rfl) (by kernel_rfl) (by kernel_rfl) (by kernel_rfl) (by kernel_rfl) (fun _ h => by simp at h) (by kernel_rfl)
noncomputable def V34_w1 : VT := T34_w1.strip
noncomputable def D34_w1 : List (Nat × Def) := (2005, .fn (sortsP g34_w1.ps) V34_w1) :: D34_w124
theorem ds34_w1 : DS ph34_w1 D34_w1 := DS.fn ds34_w124 2005 _ T34_w1 V34_w1 (by kernel_rfl) (by kernel_rfl) (by kernel_rfl)
/- calque/calqueref05.kinds -/
noncomputable def b35 : Code := Tryd.f35.body.getD .skip
noncomputable def g35_rm : Sig := { sigOf Tryd.prog Tryd.f35 35 35 with f := 35, sym := 2006, fix := [(6, .val (.string ⟨#[114, 109]⟩))] }
noncomputable def n35_rm : Nat := g35_rm.ps.length + (Tryd.f35.ntmps - g35_rm.ps.length)
noncomputable def T35_rm : RTree := fnT Tryd.prog ct34_w1 sy34_w1 [] 500 Tryd.f35 b35 g35_rm
noncomputable def ct35_rm : List Sig := g35_rm :: ct34_w1
noncomputable def sy35_rm : List (Nat × List So) := (2006, g35_rm.rs.flatMap RK.sorts) :: sy34_w1
noncomputable def ph35_rm : Nat → List Value → List Value := updF ph34_w1 2006 (SX.auto T35_rm (sortsP g35_rm.ps) ph34_w1)
theorem en35_rm : Env Tryd.prog ct35_rm sy35_rm ph35_rm :=
  Env.auto en34_w1 [] 500 Tryd.f35 b35 g35_rm (by kernel_rfl) (by kernel_rfl) (by kernel_rfl) (by kernel_rfl) (by kernel_rfl) (by kernel_rfl) (by kernel_rfl) (by kernel_rfl) (fun _ h => by simp at h) (by kernel_rfl)
noncomputable def V35_rm : VT := T35_rm.strip
noncomputable def D35_rm : List (Nat × Def) := (2006, .fn (sortsP g35_rm.ps) V35_rm) :: D34_w1
theorem ds35_rm : DS ph35_rm D35_rm := DS.fn ds34_w1 2006 _ T35_rm V35_rm (by kernel_rfl) (by kernel_rfl) (by kernel_rfl)
/- calque/calqueref05.kinds -/
noncomputable def g35_rmi : Sig := { sigOf Tryd.prog Tryd.f35 35 35 with f := 35, sym := 2007, fix := [(6, .val (.string ⟨#[114, 109, 105]⟩))] }
noncomputable def n35_rmi : Nat := g35_rmi.ps.length + (Tryd.f35.ntmps - g35_rmi.ps.length)
noncomputable def T35_rmi : RTree := fnT Tryd.prog ct35_rm sy35_rm [] 500 Tryd.f35 b35 g35_rmi
noncomputable def ct35_rmi : List Sig := g35_rmi :: ct35_rm
noncomputable def sy35_rmi : List (Nat × List So) := (2007, g35_rmi.rs.flatMap RK.sorts) :: sy35_rm
noncomputable def ph35_rmi : Nat → List Value → List Value := updF ph35_rm 2007 (SX.auto T35_rmi (sortsP g35_rmi.ps) ph35_rm)
theorem en35_rmi : Env Tryd.prog ct35_rmi sy35_rmi ph35_rmi :=
  Env.auto en35_rm [] 500 Tryd.f35 b35 g35_rmi (by kernel_rfl) (by kernel_rfl) (by kernel_rfl) (by kernel_rfl) (by kernel_rfl) (by kernel_rfl) (by kernel_rfl) (by kernel_rfl) (fun _ h => by simp at h) (by kernel_rfl)
noncomputable def V35_rmi : VT := T35_rmi.strip
noncomputable def D35_rmi : List (Nat × Def) := (2007, .fn (sortsP g35_rmi.ps) V35_rmi) :: D35_rm
theorem ds35_rmi : DS ph35_rmi D35_rmi := DS.fn ds35_rm 2007 _ T35_rmi V35_rmi (by kernel_rfl) (by kernel_rfl) (by kernel_rfl)
/- calque/calqueref05.kinds -/
noncomputable def g35_ri : Sig := { sigOf Tryd.prog Tryd.f35 35 35 with f := 35, sym := 2008, fix := [(6, .val (.string ⟨#[114, 105]⟩))] }
noncomputable def n35_ri : Nat := g35_ri.ps.length + (Tryd.f35.ntmps - g35_ri.ps.length)
noncomputable def T35_ri : RTree := fnT Tryd.prog ct35_rmi sy35_rmi [] 500 Tryd.f35 b35 g35_ri
noncomputable def ct35_ri : List Sig := g35_ri :: ct35_rmi
noncomputable def sy35_ri : List (Nat × List So) := (2008, g35_ri.rs.flatMap RK.sorts) :: sy35_rmi
noncomputable def ph35_ri : Nat → List Value → List Value := updF ph35_rmi 2008 (SX.auto T35_ri (sortsP g35_ri.ps) ph35_rmi)
theorem en35_ri : Env Tryd.prog ct35_ri sy35_ri ph35_ri :=
  Env.auto en35_rmi [] 500 Tryd.f35 b35 g35_ri (by kernel_rfl) (by kernel_rfl) (by kernel_rfl) (by kernel_rfl) (by kernel_rfl) (by kernel_rfl) (by kernel_rfl) (by kernel_rfl) (fun _ h => by simp at h) (by kernel_rfl)
noncomputable def V35_ri : VT := T35_ri.strip
noncomputable def D35_ri : List (Nat × Def) := (2008, .fn (sortsP g35_ri.ps) V35_ri) :: D35_rmi
theorem ds35_ri : DS ph35_ri D35_ri := DS.fn ds35_rmi 2008 _ T35_ri V35_ri (by kernel_rfl) (by kernel_rfl) (by kernel_rfl)
/- calque/calqueref05.kinds -/
noncomputable def g35_r : Sig := { sigOf Tryd.prog Tryd.f35 35 35 with f := 35, sym := 2009, fix := [(6, .val (.string ⟨#[114]⟩))] }
noncomputable def n35_r : Nat := g35_r.ps.length + (Tryd.f35.ntmps - g35_r.ps.length)
noncomputable def T35_r : RTree := fnT Tryd.prog ct35_ri sy35_ri [] 500 Tryd.f35 b35 g35_r
noncomputable def ct35_r : List Sig := g35_r :: ct35_ri
noncomputable def sy35_r : List (Nat × List So) := (2009, g35_r.rs.flatMap RK.sorts) :: sy35_ri
noncomputable def ph35_r : Nat → List Value → List Value := updF ph35_ri 2009 (SX.auto T35_r (sortsP g35_r.ps) ph35_ri)
theorem en35_r : Env Tryd.prog ct35_r sy35_r ph35_r :=
  Env.auto en35_ri [] 500 Tryd.f35 b35 g35_r (by kernel_rfl) (by kernel_rfl) (by kernel_rfl) (by kernel_rfl) (by kernel_rfl) (by kernel_rfl) (by kernel_rfl) (by kernel_rfl) (fun _ h => by simp at h) (by kernel_rfl)
noncomputable def V35_r : VT := T35_r.strip
noncomputable def D35_r : List (Nat × Def) := (2009, .fn (sortsP g35_r.ps) V35_r) :: D35_ri
theorem ds35_r : DS ph35_r D35_r := DS.fn ds35_ri 2009 _ T35_r V35_r (by kernel_rfl) (by kernel_rfl) (by kernel_rfl)
/- calque/calqueref05.kinds -/
noncomputable def g35_m : Sig := { sigOf Tryd.prog Tryd.f35 35 35 with f := 35, sym := 2010, fix := [(6, .val (.string ⟨#[109]⟩))] }
noncomputable def n35_m : Nat := g35_m.ps.length + (Tryd.f35.ntmps - g35_m.ps.length)
noncomputable def T35_m : RTree := fnT Tryd.prog ct35_r sy35_r [] 500 Tryd.f35 b35 g35_m
noncomputable def ct35_m : List Sig := g35_m :: ct35_r
noncomputable def sy35_m : List (Nat × List So) := (2010, g35_m.rs.flatMap RK.sorts) :: sy35_r
noncomputable def ph35_m : Nat → List Value → List Value := updF ph35_r 2010 (SX.auto T35_m (sortsP g35_m.ps) ph35_r)
theorem en35_m : Env Tryd.prog ct35_m sy35_m ph35_m :=
  Env.auto en35_r [] 500 Tryd.f35 b35 g35_m (by kernel_rfl) (by kernel_rfl) (by kernel_rfl) (by kernel_rfl) (by kernel_rfl) (by kernel_rfl) (by kernel_rfl) (by kernel_rfl) (fun _ h => by simp at h) (by kernel_rfl)
noncomputable def V35_m : VT := T35_m.strip
noncomputable def D35_m : List (Nat × Def) := (2010, .fn (sortsP g35_m.ps) V35_m) :: D35_r
theorem ds35_m : DS ph35_m D35_m := DS.fn ds35_r 2010 _ T35_m V35_m (by kernel_rfl) (by kernel_rfl) (by kernel_rfl)
/- calque/calqueref05.kinds -/
noncomputable def g35_n : Sig := { sigOf Tryd.prog Tryd.f35 35 35 with f := 35, sym := 2011, fix := [(6, .val (.string ⟨#[110]⟩))] }
noncomputable def n35_n : Nat := g35_n.ps.length + (Tryd.f35.ntmps - g35_n.ps.length)
noncomputable def T35_n : RTree := fnT Tryd.prog ct35_m sy35_m [] 500 Tryd.f35 b35 g35_n
noncomputable def ct35_n : List Sig := g35_n :: ct35_m
noncomputable def sy35_n : List (Nat × List So) := (2011, g35_n.rs.flatMap RK.sorts) :: sy35_m
noncomputable def ph35_n : Nat → List Value → List Value := updF ph35_m 2011 (SX.auto T35_n (sortsP g35_n.ps) ph35_m)
theorem en35_n : Env Tryd.prog ct35_n sy35_n ph35_n :=
  Env.auto en35_m [] 500 Tryd.f35 b35 g35_n (by kernel_rfl) (by kernel_rfl) (by kernel_rfl) (by kernel_rfl) (by kernel_rfl) (by kernel_rfl) (by kernel_rfl) (by kernel_rfl) (fun _ h => by simp at h) (by kernel_rfl)
noncomputable def V35_n : VT := T35_n.strip
noncomputable def D35_n : List (Nat × Def) := (2011, .fn (sortsP g35_n.ps) V35_n) :: D35_m
theorem ds35_n : DS ph35_n D35_n := DS.fn ds35_m 2011 _ T35_n V35_n (by kernel_rfl) (by kernel_rfl) (by kernel_rfl)
/- calque/calqueref05.kinds -/
noncomputable def g35_i : Sig := { sigOf Tryd.prog Tryd.f35 35 35 with f := 35, sym := 2012, fix := [(6, .val (.string ⟨#[105]⟩))] }
noncomputable def n35_i : Nat := g35_i.ps.length + (Tryd.f35.ntmps - g35_i.ps.length)
noncomputable def T35_i : RTree := fnT Tryd.prog ct35_n sy35_n [] 500 Tryd.f35 b35 g35_i
noncomputable def ct35_i : List Sig := g35_i :: ct35_n
noncomputable def sy35_i : List (Nat × List So) := (2012, g35_i.rs.flatMap RK.sorts) :: sy35_n
noncomputable def ph35_i : Nat → List Value → List Value := updF ph35_n 2012 (SX.auto T35_i (sortsP g35_i.ps) ph35_n)
theorem en35_i : Env Tryd.prog ct35_i sy35_i ph35_i :=
  Env.auto en35_n [] 500 Tryd.f35 b35 g35_i (by kernel_rfl) (by kernel_rfl) (by kernel_rfl) (by kernel_rfl) (by kernel_rfl) (by kernel_rfl) (by kernel_rfl) (by kernel_rfl) (fun _ h => by simp at h) (by kernel_rfl)
noncomputable def V35_i : VT := T35_i.strip
noncomputable def D35_i : List (Nat × Def) := (2012, .fn (sortsP g35_i.ps) V35_i) :: D35_n
theorem ds35_i : DS ph35_i D35_i := DS.fn ds35_n 2012 _ T35_i V35_i (by kernel_rfl) (by kernel_rfl) (by kernel_rfl)
/- calque/calqueref05.kinds -/
noncomputable def g35_nrm : Sig := { sigOf Tryd.prog Tryd.f35 35 35 with f := 35, sym := 2013, fix := [(6, .val (.string ⟨#[110, 114, 109]⟩))] }
noncomputable def n35_nrm : Nat := g35_nrm.ps.length + (Tryd.f35.ntmps - g35_nrm.ps.length)
noncomputable def T35_nrm : RTree := fnT Tryd.prog ct35_i sy35_i [] 500 Tryd.f35 b35 g35_nrm
noncomputable def ct35_nrm : List Sig := g35_nrm :: ct35_i
noncomputable def sy35_nrm : List (Nat × List So) := (2013, g35_nrm.rs.flatMap RK.sorts) :: sy35_i
noncomputable def ph35_nrm : Nat → List Value → List Value := updF ph35_i 2013 (SX.auto T35_nrm (sortsP g35_nrm.ps) ph35_i)
theorem en35_nrm : Env Tryd.prog ct35_nrm sy35_nrm ph35_nrm :=
  Env.auto en35_i [] 500 Tryd.f35 b35 g35_nrm (by kernel_rfl) (by kernel_rfl) (by kernel_rfl) (by kernel_rfl) (by kernel_rfl) (by kernel_rfl) (by kernel_rfl) (by kernel_rfl) (fun _ h => by simp at h) (by kernel_rfl)
noncomputable def V35_nrm : VT := T35_nrm.strip
noncomputable def D35_nrm : List (Nat × Def) := (2013, .fn (sortsP g35_nrm.ps) V35_nrm) :: D35_i
theorem ds35_nrm : DS ph35_nrm D35_nrm := DS.fn ds35_i 2013 _ T35_nrm V35_nrm (by kernel_rfl) (by kernel_rfl) (by kernel_rfl)
/- (calque/calqueref05.Inst).shape -/
noncomputable def b23 : Code := Tryd.f23.body.getD .skip
noncomputable def g23 : Sig := { sigOf Tryd.prog Tryd.f23 23 23 with f := 23, sym := 23, imp := [(.cmp .lss (.var 0) (.int .i64 1), false), (.cmp .lss (.int .i64 47) (.var 0), false)] }
noncomputable def n23 : Nat := g23.ps.length + (Tryd.f23.ntmps - g23.ps.length)
noncomputable def T23 : RTree := fnT Tryd.prog ct35_nrm sy35_nrm [] 500 Tryd.f23 b23 g23
noncomputable def ct23 : List Sig := g23 :: ct35_nrm
noncomputable def sy23 : List (Nat × List So) := (23, g23.rs.flatMap RK.sorts) :: sy35_nrm
noncomputable def ph23 : Nat → List Value → List Value := updF ph35_nrm 23 (SX.auto T23 (sortsP g23.ps) ph35_nrm)
theorem en23 : Env Tryd.prog ct23 sy23 ph23 :=
  Env.auto en35_nrm [] 500 Tryd.f23 b23 g23 (by kernel_rfl) (by kernel_rfl) (by kernel_rfl) (by kernel_rfl) (by kernel_rfl) (by kernel_rfl) (by kernel_rfl) (by kernel_rfl) (fun _ h => by simp at h) (by kernel_rfl)
noncomputable def V23 : VT := T23.strip
noncomputable def D23 : List (Nat × Def) := (23, .fn (sortsP g23.ps) V23) :: D35_nrm
theorem ds23 : DS ph23 D23 := DS.fn ds35_nrm 23 _ T23 V23 (by kernel_rfl) (by kernel_rfl) (by kernel_rfl)
/- calque/calqueref05.May -/
noncomputable def b5 : Code := Tryd.f5.body.getD .skip
noncomputable def g5 : Sig := { sigOf Tryd.prog Tryd.f5 5 5 with f := 5, sym := 5, imp := [(.cmp .lss (.var 0) (.int .i64 1), false), (.cmp .lss (.int .i64 47) (.var 0), false)] }
noncomputable def n5 : Nat := g5.ps.length + (Tryd.f5.ntmps - g5.ps.length)
noncomputable def T5 : RTree := fnT Tryd.prog ct23 sy23 [] 500 Tryd.f5 b5 g5
noncomputable def ct5 : List Sig := g5 :: ct23
noncomputable def sy5 : List (Nat × List So) := (5, g5.rs.flatMap RK.sorts) :: sy23
noncomputable def ph5 : Nat → List Value → List Value := updF ph23 5 (SX.auto T5 (sortsP g5.ps) ph23)
theorem en5 : Env Tryd.prog ct5 sy5 ph5 :=
  Env.auto en23 [] 500 Tryd.f5 b5 g5 (by kernel_rfl) (by kernel_rfl) (by kernel_rfl) (by kernel_rfl) (by kernel_rfl) (by kernel_rfl) (by kernel_rfl) (by kernel_rfl) (fun _ h => by simp at h) (by kernel_rfl)
noncomputable def V5 : VT := T5.strip
noncomputable def D5 : List (Nat × Def) := (5, .fn (sortsP g5.ps) V5) :: D23
theorem ds5 : DS ph5 D5 := DS.fn ds23 5 _ T5 V5 (by kernel_rfl) (by kernel_rfl) (by kernel_rfl)
end Go.Proofs.YtdpbalongdcjbaaDoor
