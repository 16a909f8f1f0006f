import Derived.Test.YtbhhfbenajcinaaSXv
import Derived.Test.YtbhhfbenajcinaaSd
import Derived.KernelRfl
import Derived.Test.YtbhhfbenajcinaaProg

import Derived.Test.YtbhhfbenajcinaaI0
import Derived.Test.YtbhhfbenajcinaaI1
import Derived.Test.YtbhhfbenajcinaaI2
import Derived.Test.YtbhhfbenajcinaaI3
namespace Go.Proofs.Ytbhhfbenajcinaa
open Go Go.SX Go.Proofs
theorem pp26 : ph26 26 = ph26 26 := rfl
theorem mm26 : g26 ∈ ct26 := List.mem_cons_self
noncomputable def g26_is0 : Sig := { g26 with sym := 3000, fix := [(20, (.val (.string ⟨#[97, 100, 100, 32, 111, 114, 32, 97, 100, 99, 32, 115, 98, 98, 32, 97, 110, 100, 32, 115, 117, 98, 32, 120, 111, 114, 32, 99, 109, 112, 32, 109, 111, 118]⟩)))] }
noncomputable def ct26_is0 : List Sig := g26_is0 :: ct26
noncomputable def sy26_is0 : List (Nat × List So) := (3000, g26_is0.rs.flatMap RK.sorts) :: sy26
noncomputable def ph26_is0 : Nat → List Value → List Value := updF ph26 3000 (aliasF (sortsP g26.ps) (opL 0 [1, 2, 3, 4, 5, 6, 7, 8, 10]) ph26)
theorem en26_is0 : Env Try.prog ct26_is0 sy26_is0 ph26_is0 :=
  Env.alias en26 g26 g26_is0 mm26 20 (.val (.string ⟨#[97, 100, 100, 32, 111, 114, 32, 97, 100, 99, 32, 115, 98, 98, 32, 97, 110, 100, 32, 115, 117, 98, 32, 120, 111, 114, 32, 99, 109, 112, 32, 109, 111, 118]⟩)) (opL 0 [1, 2, 3, 4, 5, 6, 7, 8, 10]) 300 ph26 pp26 rfl (by kernel_rfl) rfl rfl rfl is0 (by kernel_rfl) (by kernel_rfl) (by kernel_rfl) (by kernel_rfl)
theorem pp26_is0 : ph26_is0 26 = ph26 26 := (updF_ne ph26 (show 26 ≠ 3000 by decide) _).trans pp26
theorem mm26_is0 : g26 ∈ ct26_is0 := List.mem_cons_of_mem _ mm26
noncomputable def D26_is0 : List (Nat × Def) := (3000, .fn (sortsP g26.ps) (.leaf [opL 0 [1, 2, 3, 4, 5, 6, 7, 8, 10]])) :: D26
theorem ds26_is0 : DS ph26_is0 D26_is0 := DS.alias ds26 3000 _ (opL 0 [1, 2, 3, 4, 5, 6, 7, 8, 10]) (by kernel_rfl) (by kernel_rfl)
noncomputable def g26_is1 : Sig := { g26 with sym := 3001, fix := [(20, (.val (.string ⟨#[97, 100, 100, 32, 111, 114, 32, 97, 100, 99, 32, 115, 98, 98, 32, 97, 110, 100, 32, 115, 117, 98, 32, 120, 111, 114, 32, 105, 110, 99, 32, 100, 101, 99, 32, 110, 111, 116, 32, 110, 101, 103, 32, 120, 99, 104, 103, 32, 99, 97, 115, 32, 120, 97, 100, 100]⟩)))] }
noncomputable def ct26_is1 : List Sig := g26_is1 :: ct26_is0
noncomputable def sy26_is1 : List (Nat × List So) := (3001, g26_is1.rs.flatMap RK.sorts) :: sy26_is0
noncomputable def ph26_is1 : Nat → List Value → List Value := updF ph26_is0 3001 (aliasF (sortsP g26.ps) (opL 0 [1, 2, 3, 4, 5, 6, 7, 16, 17, 18, 19, 31, 32, 33]) ph26_is0)
theorem en26_is1 : Env Try.prog ct26_is1 sy26_is1 ph26_is1 :=
  Env.alias en26_is0 g26 g26_is1 mm26_is0 20 (.val (.string ⟨#[97, 100, 100, 32, 111, 114, 32, 97, 100, 99, 32, 115, 98, 98, 32, 97, 110, 100, 32, 115, 117, 98, 32, 120, 111, 114, 32, 105, 110, 99, 32, 100, 101, 99, 32, 110, 111, 116, 32, 110, 101, 103, 32, 120, 99, 104, 103, 32, 99, 97, 115, 32, 120, 97, 100, 100]⟩)) (opL 0 [1, 2, 3, 4, 5, 6, 7, 16, 17, 18, 19, 31, 32, 33]) 300 ph26 pp26_is0 rfl (by kernel_rfl) rfl rfl rfl is1 (by kernel_rfl) (by kernel_rfl) (by kernel_rfl) (by kernel_rfl)
theorem pp26_is1 : ph26_is1 26 = ph26 26 := (updF_ne ph26_is0 (show 26 ≠ 3001 by decide) _).trans pp26_is0
theorem mm26_is1 : g26 ∈ ct26_is1 := List.mem_cons_of_mem _ mm26_is0
noncomputable def D26_is1 : List (Nat × Def) := (3001, .fn (sortsP g26.ps) (.leaf [opL 0 [1, 2, 3, 4, 5, 6, 7, 16, 17, 18, 19, 31, 32, 33]])) :: D26_is0
theorem ds26_is1 : DS ph26_is1 D26_is1 := DS.alias ds26_is0 3001 _ (opL 0 [1, 2, 3, 4, 5, 6, 7, 16, 17, 18, 19, 31, 32, 33]) (by kernel_rfl) (by kernel_rfl)
noncomputable def g26_is2 : Sig := { g26 with sym := 3002, fix := [(20, (.val (.string ⟨#[99, 109, 111, 118, 32, 115, 101, 116, 32, 106, 99, 99]⟩)))] }
noncomputable def ct26_is2 : List Sig := g26_is2 :: ct26_is1
noncomputable def sy26_is2 : List (Nat × List So) := (3002, g26_is2.rs.flatMap RK.sorts) :: sy26_is1
noncomputable def ph26_is2 : Nat → List Value → List Value := updF ph26_is1 3002 (aliasF (sortsP g26.ps) (opL 0 [34, 35, 36]) ph26_is1)
theorem en26_is2 : Env Try.prog ct26_is2 sy26_is2 ph26_is2 :=
  Env.alias en26_is1 g26 g26_is2 mm26_is1 20 (.val (.string ⟨#[99, 109, 111, 118, 32, 115, 101, 116, 32, 106, 99, 99]⟩)) (opL 0 [34, 35, 36]) 300 ph26 pp26_is1 rfl (by kernel_rfl) rfl rfl rfl is2 (by kernel_rfl) (by kernel_rfl) (by kernel_rfl) (by kernel_rfl)
theorem pp26_is2 : ph26_is2 26 = ph26 26 := (updF_ne ph26_is1 (show 26 ≠ 3002 by decide) _).trans pp26_is1
theorem mm26_is2 : g26 ∈ ct26_is2 := List.mem_cons_of_mem _ mm26_is1
noncomputable def D26_is2 : List (Nat × Def) := (3002, .fn (sortsP g26.ps) (.leaf [opL 0 [34, 35, 36]])) :: D26_is1
theorem ds26_is2 : DS ph26_is2 D26_is2 := DS.alias ds26_is1 3002 _ (opL 0 [34, 35, 36]) (by kernel_rfl) (by kernel_rfl)
noncomputable def g26_is3 : Sig := { g26 with sym := 3003, fix := [(20, (.val (.string ⟨#[100, 105, 118, 32, 115, 100, 105, 118]⟩)))] }
noncomputable def ct26_is3 : List Sig := g26_is3 :: ct26_is2
noncomputable def sy26_is3 : List (Nat × List So) := (3003, g26_is3.rs.flatMap RK.sorts) :: sy26_is2
noncomputable def ph26_is3 : Nat → List Value → List Value := updF ph26_is2 3003 (aliasF (sortsP g26.ps) (opL 0 [22, 23]) ph26_is2)
theorem en26_is3 : Env Try.prog ct26_is3 sy26_is3 ph26_is3 :=
  Env.alias en26_is2 g26 g26_is3 mm26_is2 20 (.val (.string ⟨#[100, 105, 118, 32, 115, 100, 105, 118]⟩)) (opL 0 [22, 23]) 300 ph26 pp26_is2 rfl (by kernel_rfl) rfl rfl rfl is3 (by kernel_rfl) (by kernel_rfl) (by kernel_rfl) (by kernel_rfl)
theorem pp26_is3 : ph26_is3 26 = ph26 26 := (updF_ne ph26_is2 (show 26 ≠ 3003 by decide) _).trans pp26_is2
theorem mm26_is3 : g26 ∈ ct26_is3 := List.mem_cons_of_mem _ mm26_is2
noncomputable def D26_is3 : List (Nat × Def) := (3003, .fn (sortsP g26.ps) (.leaf [opL 0 [22, 23]])) :: D26_is2
theorem ds26_is3 : DS ph26_is3 D26_is3 := DS.alias ds26_is2 3003 _ (opL 0 [22, 23]) (by kernel_rfl) (by kernel_rfl)
noncomputable def g26_is4 : Sig := { g26 with sym := 3004, fix := [(20, (.val (.string ⟨#[105, 109, 117, 108, 105, 32, 106, 99, 99]⟩)))] }
noncomputable def ct26_is4 : List Sig := g26_is4 :: ct26_is3
noncomputable def sy26_is4 : List (Nat × List So) := (3004, g26_is4.rs.flatMap RK.sorts) :: sy26_is3
noncomputable def ph26_is4 : Nat → List Value → List Value := updF ph26_is3 3004 (aliasF (sortsP g26.ps) (opL 0 [25, 36]) ph26_is3)
theorem en26_is4 : Env Try.prog ct26_is4 sy26_is4 ph26_is4 :=
  Env.alias en26_is3 g26 g26_is4 mm26_is3 20 (.val (.string ⟨#[105, 109, 117, 108, 105, 32, 106, 99, 99]⟩)) (opL 0 [25, 36]) 300 ph26 pp26_is3 rfl (by kernel_rfl) rfl rfl rfl is4 (by kernel_rfl) (by kernel_rfl) (by kernel_rfl) (by kernel_rfl)
theorem pp26_is4 : ph26_is4 26 = ph26 26 := (updF_ne ph26_is3 (show 26 ≠ 3004 by decide) _).trans pp26_is3
theorem mm26_is4 : g26 ∈ ct26_is4 := List.mem_cons_of_mem _ mm26_is3
noncomputable def D26_is4 : List (Nat × Def) := (3004, .fn (sortsP g26.ps) (.leaf [opL 0 [25, 36]])) :: D26_is3
theorem ds26_is4 : DS ph26_is4 D26_is4 := DS.alias ds26_is3 3004 _ (opL 0 [25, 36]) (by kernel_rfl) (by kernel_rfl)
noncomputable def g26_is5 : Sig := { g26 with sym := 3005, fix := [(20, (.val (.string ⟨#[105, 110, 99, 32, 100, 101, 99, 32, 110, 111, 116, 32, 110, 101, 103, 32, 109, 117, 108, 32, 115, 109, 117, 108]⟩)))] }
noncomputable def ct26_is5 : List Sig := g26_is5 :: ct26_is4
noncomputable def sy26_is5 : List (Nat × List So) := (3005, g26_is5.rs.flatMap RK.sorts) :: sy26_is4
noncomputable def ph26_is5 : Nat → List Value → List Value := updF ph26_is4 3005 (aliasF (sortsP g26.ps) (opL 0 [16, 17, 18, 19, 20, 21]) ph26_is4)
theorem en26_is5 : Env Try.prog ct26_is5 sy26_is5 ph26_is5 :=
  Env.alias en26_is4 g26 g26_is5 mm26_is4 20 (.val (.string ⟨#[105, 110, 99, 32, 100, 101, 99, 32, 110, 111, 116, 32, 110, 101, 103, 32, 109, 117, 108, 32, 115, 109, 117, 108]⟩)) (opL 0 [16, 17, 18, 19, 20, 21]) 300 ph26 pp26_is4 rfl (by kernel_rfl) rfl rfl rfl is5 (by kernel_rfl) (by kernel_rfl) (by kernel_rfl) (by kernel_rfl)
theorem pp26_is5 : ph26_is5 26 = ph26 26 := (updF_ne ph26_is4 (show 26 ≠ 3005 by decide) _).trans pp26_is4
theorem mm26_is5 : g26 ∈ ct26_is5 := List.mem_cons_of_mem _ mm26_is4
noncomputable def D26_is5 : List (Nat × Def) := (3005, .fn (sortsP g26.ps) (.leaf [opL 0 [16, 17, 18, 19, 20, 21]])) :: D26_is4
theorem ds26_is5 : DS ph26_is5 D26_is5 := DS.alias ds26_is4 3005 _ (opL 0 [16, 17, 18, 19, 20, 21]) (by kernel_rfl) (by kernel_rfl)
noncomputable def g26_is6 : Sig := { g26 with sym := 3006, fix := [(20, (.val (.string ⟨#[106, 99, 99, 32, 114, 101, 116, 32, 102, 101, 110, 99, 101, 32, 110, 111, 112, 32, 115, 121, 115, 32, 117, 100]⟩)))] }
noncomputable def ct26_is6 : List Sig := g26_is6 :: ct26_is5
noncomputable def sy26_is6 : List (Nat × List So) := (3006, g26_is6.rs.flatMap RK.sorts) :: sy26_is5
noncomputable def ph26_is6 : Nat → List Value → List Value := updF ph26_is5 3006 (aliasF (sortsP g26.ps) (opL 0 [36, 39, 44, 45, 46, 47]) ph26_is5)
theorem en26_is6 : Env Try.prog ct26_is6 sy26_is6 ph26_is6 :=
  Env.alias en26_is5 g26 g26_is6 mm26_is5 20 (.val (.string ⟨#[106, 99, 99, 32, 114, 101, 116, 32, 102, 101, 110, 99, 101, 32, 110, 111, 112, 32, 115, 121, 115, 32, 117, 100]⟩)) (opL 0 [36, 39, 44, 45, 46, 47]) 300 ph26 pp26_is5 rfl (by kernel_rfl) rfl rfl rfl is6 (by kernel_rfl) (by kernel_rfl) (by kernel_rfl) (by kernel_rfl)
theorem pp26_is6 : ph26_is6 26 = ph26 26 := (updF_ne ph26_is5 (show 26 ≠ 3006 by decide) _).trans pp26_is5
theorem mm26_is6 : g26 ∈ ct26_is6 := List.mem_cons_of_mem _ mm26_is5
noncomputable def D26_is6 : List (Nat × Def) := (3006, .fn (sortsP g26.ps) (.leaf [opL 0 [36, 39, 44, 45, 46, 47]])) :: D26_is5
theorem ds26_is6 : DS ph26_is6 D26_is6 := DS.alias ds26_is5 3006 _ (opL 0 [36, 39, 44, 45, 46, 47]) (by kernel_rfl) (by kernel_rfl)
noncomputable def g26_is7 : Sig := { g26 with sym := 3007, fix := [(20, (.val (.string ⟨#[106, 109, 112, 32, 99, 97, 108, 108]⟩)))] }
noncomputable def ct26_is7 : List Sig := g26_is7 :: ct26_is6
noncomputable def sy26_is7 : List (Nat × List So) := (3007, g26_is7.rs.flatMap RK.sorts) :: sy26_is6
noncomputable def ph26_is7 : Nat → List Value → List Value := updF ph26_is6 3007 (aliasF (sortsP g26.ps) (opL 0 [37, 38]) ph26_is6)
theorem en26_is7 : Env Try.prog ct26_is7 sy26_is7 ph26_is7 :=
  Env.alias en26_is6 g26 g26_is7 mm26_is6 20 (.val (.string ⟨#[106, 109, 112, 32, 99, 97, 108, 108]⟩)) (opL 0 [37, 38]) 300 ph26 pp26_is6 rfl (by kernel_rfl) rfl rfl rfl is7 (by kernel_rfl) (by kernel_rfl) (by kernel_rfl) (by kernel_rfl)
theorem pp26_is7 : ph26_is7 26 = ph26 26 := (updF_ne ph26_is6 (show 26 ≠ 3007 by decide) _).trans pp26_is6
theorem mm26_is7 : g26 ∈ ct26_is7 := List.mem_cons_of_mem _ mm26_is6
noncomputable def D26_is7 : List (Nat × Def) := (3007, .fn (sortsP g26.ps) (.leaf [opL 0 [37, 38]])) :: D26_is6
theorem ds26_is7 : DS ph26_is7 D26_is7 := DS.alias ds26_is6 3007 _ (opL 0 [37, 38]) (by kernel_rfl) (by kernel_rfl)
noncomputable def g26_is8 : Sig := { g26 with sym := 3008, fix := [(20, (.val (.string ⟨#[108, 101, 97]⟩)))] }
noncomputable def ct26_is8 : List Sig := g26_is8 :: ct26_is7
noncomputable def sy26_is8 : List (Nat × List So) := (3008, g26_is8.rs.flatMap RK.sorts) :: sy26_is7
noncomputable def ph26_is8 : Nat → List Value → List Value := updF ph26_is7 3008 (aliasF (sortsP g26.ps) (opL 0 [13]) ph26_is7)
theorem en26_is8 : Env Try.prog ct26_is8 sy26_is8 ph26_is8 :=
  Env.alias en26_is7 g26 g26_is8 mm26_is7 20 (.val (.string ⟨#[108, 101, 97]⟩)) (opL 0 [13]) 300 ph26 pp26_is7 rfl (by kernel_rfl) rfl rfl rfl is8 (by kernel_rfl) (by kernel_rfl) (by kernel_rfl) (by kernel_rfl)
theorem pp26_is8 : ph26_is8 26 = ph26 26 := (updF_ne ph26_is7 (show 26 ≠ 3008 by decide) _).trans pp26_is7
theorem mm26_is8 : g26 ∈ ct26_is8 := List.mem_cons_of_mem _ mm26_is7
noncomputable def D26_is8 : List (Nat × Def) := (3008, .fn (sortsP g26.ps) (.leaf [opL 0 [13]])) :: D26_is7
theorem ds26_is8 : DS ph26_is8 D26_is8 := DS.alias ds26_is7 3008 _ (opL 0 [13]) (by kernel_rfl) (by kernel_rfl)
noncomputable def g26_is9 : Sig := { g26 with sym := 3009, fix := [(20, (.val (.string ⟨#[109, 111, 118]⟩)))] }
noncomputable def ct26_is9 : List Sig := g26_is9 :: ct26_is8
noncomputable def sy26_is9 : List (Nat × List So) := (3009, g26_is9.rs.flatMap RK.sorts) :: sy26_is8
noncomputable def ph26_is9 : Nat → List Value → List Value := updF ph26_is8 3009 (aliasF (sortsP g26.ps) (opL 0 [10]) ph26_is8)
theorem en26_is9 : Env Try.prog ct26_is9 sy26_is9 ph26_is9 :=
  Env.alias en26_is8 g26 g26_is9 mm26_is8 20 (.val (.string ⟨#[109, 111, 118]⟩)) (opL 0 [10]) 300 ph26 pp26_is8 rfl (by kernel_rfl) rfl rfl rfl is9 (by kernel_rfl) (by kernel_rfl) (by kernel_rfl) (by kernel_rfl)
theorem pp26_is9 : ph26_is9 26 = ph26 26 := (updF_ne ph26_is8 (show 26 ≠ 3009 by decide) _).trans pp26_is8
theorem mm26_is9 : g26 ∈ ct26_is9 := List.mem_cons_of_mem _ mm26_is8
noncomputable def D26_is9 : List (Nat × Def) := (3009, .fn (sortsP g26.ps) (.leaf [opL 0 [10]])) :: D26_is8
theorem ds26_is9 : DS ph26_is9 D26_is9 := DS.alias ds26_is8 3009 _ (opL 0 [10]) (by kernel_rfl) (by kernel_rfl)
noncomputable def g26_is10 : Sig := { g26 with sym := 3010, fix := [(20, (.val (.string ⟨#[109, 111, 118, 115, 32, 115, 116, 111, 115]⟩)))] }
noncomputable def ct26_is10 : List Sig := g26_is10 :: ct26_is9
noncomputable def sy26_is10 : List (Nat × List So) := (3010, g26_is10.rs.flatMap RK.sorts) :: sy26_is9
noncomputable def ph26_is10 : Nat → List Value → List Value := updF ph26_is9 3010 (aliasF (sortsP g26.ps) (opL 0 [42, 43]) ph26_is9)
theorem en26_is10 : Env Try.prog ct26_is10 sy26_is10 ph26_is10 :=
  Env.alias en26_is9 g26 g26_is10 mm26_is9 20 (.val (.string ⟨#[109, 111, 118, 115, 32, 115, 116, 111, 115]⟩)) (opL 0 [42, 43]) 300 ph26 pp26_is9 rfl (by kernel_rfl) rfl rfl rfl is10 (by kernel_rfl) (by kernel_rfl) (by kernel_rfl) (by kernel_rfl)
theorem pp26_is10 : ph26_is10 26 = ph26 26 := (updF_ne ph26_is9 (show 26 ≠ 3010 by decide) _).trans pp26_is9
theorem mm26_is10 : g26 ∈ ct26_is10 := List.mem_cons_of_mem _ mm26_is9
noncomputable def D26_is10 : List (Nat × Def) := (3010, .fn (sortsP g26.ps) (.leaf [opL 0 [42, 43]])) :: D26_is9
theorem ds26_is10 : DS ph26_is10 D26_is10 := DS.alias ds26_is9 3010 _ (opL 0 [42, 43]) (by kernel_rfl) (by kernel_rfl)
noncomputable def g26_is11 : Sig := { g26 with sym := 3011, fix := [(20, (.val (.string ⟨#[109, 111, 118, 115, 120]⟩)))] }
noncomputable def ct26_is11 : List Sig := g26_is11 :: ct26_is10
noncomputable def sy26_is11 : List (Nat × List So) := (3011, g26_is11.rs.flatMap RK.sorts) :: sy26_is10
noncomputable def ph26_is11 : Nat → List Value → List Value := updF ph26_is10 3011 (aliasF (sortsP g26.ps) (opL 0 [12]) ph26_is10)
theorem en26_is11 : Env Try.prog ct26_is11 sy26_is11 ph26_is11 :=
  Env.alias en26_is10 g26 g26_is11 mm26_is10 20 (.val (.string ⟨#[109, 111, 118, 115, 120]⟩)) (opL 0 [12]) 300 ph26 pp26_is10 rfl (by kernel_rfl) rfl rfl rfl is11 (by kernel_rfl) (by kernel_rfl) (by kernel_rfl) (by kernel_rfl)
theorem pp26_is11 : ph26_is11 26 = ph26 26 := (updF_ne ph26_is10 (show 26 ≠ 3011 by decide) _).trans pp26_is10
theorem mm26_is11 : g26 ∈ ct26_is11 := List.mem_cons_of_mem _ mm26_is10
noncomputable def D26_is11 : List (Nat × Def) := (3011, .fn (sortsP g26.ps) (.leaf [opL 0 [12]])) :: D26_is10
theorem ds26_is11 : DS ph26_is11 D26_is11 := DS.alias ds26_is10 3011 _ (opL 0 [12]) (by kernel_rfl) (by kernel_rfl)
noncomputable def g26_is12 : Sig := { g26 with sym := 3012, fix := [(20, (.val (.string ⟨#[109, 111, 118, 122, 120, 32, 109, 111, 118, 115, 120]⟩)))] }
noncomputable def ct26_is12 : List Sig := g26_is12 :: ct26_is11
noncomputable def sy26_is12 : List (Nat × List So) := (3012, g26_is12.rs.flatMap RK.sorts) :: sy26_is11
noncomputable def ph26_is12 : Nat → List Value → List Value := updF ph26_is11 3012 (aliasF (sortsP g26.ps) (opL 0 [11, 12]) ph26_is11)
theorem en26_is12 : Env Try.prog ct26_is12 sy26_is12 ph26_is12 :=
  Env.alias en26_is11 g26 g26_is12 mm26_is11 20 (.val (.string ⟨#[109, 111, 118, 122, 120, 32, 109, 111, 118, 115, 120]⟩)) (opL 0 [11, 12]) 300 ph26 pp26_is11 rfl (by kernel_rfl) rfl rfl rfl is12 (by kernel_rfl) (by kernel_rfl) (by kernel_rfl) (by kernel_rfl)
theorem pp26_is12 : ph26_is12 26 = ph26 26 := (updF_ne ph26_is11 (show 26 ≠ 3012 by decide) _).trans pp26_is11
theorem mm26_is12 : g26 ∈ ct26_is12 := List.mem_cons_of_mem _ mm26_is11
noncomputable def D26_is12 : List (Nat × Def) := (3012, .fn (sortsP g26.ps) (.leaf [opL 0 [11, 12]])) :: D26_is11
theorem ds26_is12 : DS ph26_is12 D26_is12 := DS.alias ds26_is11 3012 _ (opL 0 [11, 12]) (by kernel_rfl) (by kernel_rfl)
noncomputable def g26_is13 : Sig := { g26 with sym := 3013, fix := [(20, (.val (.string ⟨#[109, 111, 118, 122, 120, 32, 109, 111, 118, 115, 120, 32, 105, 109, 117, 108, 32, 105, 109, 117, 108, 105, 32, 99, 109, 111, 118]⟩)))] }
noncomputable def ct26_is13 : List Sig := g26_is13 :: ct26_is12
noncomputable def sy26_is13 : List (Nat × List So) := (3013, g26_is13.rs.flatMap RK.sorts) :: sy26_is12
noncomputable def ph26_is13 : Nat → List Value → List Value := updF ph26_is12 3013 (aliasF (sortsP g26.ps) (opL 0 [11, 12, 24, 25, 34]) ph26_is12)
theorem en26_is13 : Env Try.prog ct26_is13 sy26_is13 ph26_is13 :=
  Env.alias en26_is12 g26 g26_is13 mm26_is12 20 (.val (.string ⟨#[109, 111, 118, 122, 120, 32, 109, 111, 118, 115, 120, 32, 105, 109, 117, 108, 32, 105, 109, 117, 108, 105, 32, 99, 109, 111, 118]⟩)) (opL 0 [11, 12, 24, 25, 34]) 300 ph26 pp26_is12 rfl (by kernel_rfl) rfl rfl rfl is13 (by kernel_rfl) (by kernel_rfl) (by kernel_rfl) (by kernel_rfl)
theorem pp26_is13 : ph26_is13 26 = ph26 26 := (updF_ne ph26_is12 (show 26 ≠ 3013 by decide) _).trans pp26_is12
theorem mm26_is13 : g26 ∈ ct26_is13 := List.mem_cons_of_mem _ mm26_is12
noncomputable def D26_is13 : List (Nat × Def) := (3013, .fn (sortsP g26.ps) (.leaf [opL 0 [11, 12, 24, 25, 34]])) :: D26_is12
theorem ds26_is13 : DS ph26_is13 D26_is13 := DS.alias ds26_is12 3013 _ (opL 0 [11, 12, 24, 25, 34]) (by kernel_rfl) (by kernel_rfl)
noncomputable def g26_is14 : Sig := { g26 with sym := 3014, fix := [(20, (.val (.string ⟨#[112, 111, 112]⟩)))] }
noncomputable def ct26_is14 : List Sig := g26_is14 :: ct26_is13
noncomputable def sy26_is14 : List (Nat × List So) := (3014, g26_is14.rs.flatMap RK.sorts) :: sy26_is13
noncomputable def ph26_is14 : Nat → List Value → List Value := updF ph26_is13 3014 (aliasF (sortsP g26.ps) (opL 0 [15]) ph26_is13)
theorem en26_is14 : Env Try.prog ct26_is14 sy26_is14 ph26_is14 :=
  Env.alias en26_is13 g26 g26_is14 mm26_is13 20 (.val (.string ⟨#[112, 111, 112]⟩)) (opL 0 [15]) 300 ph26 pp26_is13 rfl (by kernel_rfl) rfl rfl rfl is14 (by kernel_rfl) (by kernel_rfl) (by kernel_rfl) (by kernel_rfl)
theorem pp26_is14 : ph26_is14 26 = ph26 26 := (updF_ne ph26_is13 (show 26 ≠ 3014 by decide) _).trans pp26_is13
theorem mm26_is14 : g26 ∈ ct26_is14 := List.mem_cons_of_mem _ mm26_is13
noncomputable def D26_is14 : List (Nat × Def) := (3014, .fn (sortsP g26.ps) (.leaf [opL 0 [15]])) :: D26_is13
theorem ds26_is14 : DS ph26_is14 D26_is14 := DS.alias ds26_is13 3014 _ (opL 0 [15]) (by kernel_rfl) (by kernel_rfl)
noncomputable def g26_is15 : Sig := { g26 with sym := 3015, fix := [(20, (.val (.string ⟨#[112, 117, 115, 104]⟩)))] }
noncomputable def ct26_is15 : List Sig := g26_is15 :: ct26_is14
noncomputable def sy26_is15 : List (Nat × List So) := (3015, g26_is15.rs.flatMap RK.sorts) :: sy26_is14
noncomputable def ph26_is15 : Nat → List Value → List Value := updF ph26_is14 3015 (aliasF (sortsP g26.ps) (opL 0 [14]) ph26_is14)
theorem en26_is15 : Env Try.prog ct26_is15 sy26_is15 ph26_is15 :=
  Env.alias en26_is14 g26 g26_is15 mm26_is14 20 (.val (.string ⟨#[112, 117, 115, 104]⟩)) (opL 0 [14]) 300 ph26 pp26_is14 rfl (by kernel_rfl) rfl rfl rfl is15 (by kernel_rfl) (by kernel_rfl) (by kernel_rfl) (by kernel_rfl)
theorem pp26_is15 : ph26_is15 26 = ph26 26 := (updF_ne ph26_is14 (show 26 ≠ 3015 by decide) _).trans pp26_is14
theorem mm26_is15 : g26 ∈ ct26_is15 := List.mem_cons_of_mem _ mm26_is14
noncomputable def D26_is15 : List (Nat × Def) := (3015, .fn (sortsP g26.ps) (.leaf [opL 0 [14]])) :: D26_is14
theorem ds26_is15 : DS ph26_is15 D26_is15 := DS.alias ds26_is14 3015 _ (opL 0 [14]) (by kernel_rfl) (by kernel_rfl)
noncomputable def g26_is16 : Sig := { g26 with sym := 3016, fix := [(20, (.val (.string ⟨#[114, 111, 108, 32, 114, 111, 114, 32, 115, 104, 108, 32, 115, 104, 114, 32, 115, 97, 114]⟩)))] }
noncomputable def ct26_is16 : List Sig := g26_is16 :: ct26_is15
noncomputable def sy26_is16 : List (Nat × List So) := (3016, g26_is16.rs.flatMap RK.sorts) :: sy26_is15
noncomputable def ph26_is16 : Nat → List Value → List Value := updF ph26_is15 3016 (aliasF (sortsP g26.ps) (opL 0 [26, 27, 28, 29, 30]) ph26_is15)
theorem en26_is16 : Env Try.prog ct26_is16 sy26_is16 ph26_is16 :=
  Env.alias en26_is15 g26 g26_is16 mm26_is15 20 (.val (.string ⟨#[114, 111, 108, 32, 114, 111, 114, 32, 115, 104, 108, 32, 115, 104, 114, 32, 115, 97, 114]⟩)) (opL 0 [26, 27, 28, 29, 30]) 300 ph26 pp26_is15 rfl (by kernel_rfl) rfl rfl rfl is16 (by kernel_rfl) (by kernel_rfl) (by kernel_rfl) (by kernel_rfl)
theorem pp26_is16 : ph26_is16 26 = ph26 26 := (updF_ne ph26_is15 (show 26 ≠ 3016 by decide) _).trans pp26_is15
theorem mm26_is16 : g26 ∈ ct26_is16 := List.mem_cons_of_mem _ mm26_is15
noncomputable def D26_is16 : List (Nat × Def) := (3016, .fn (sortsP g26.ps) (.leaf [opL 0 [26, 27, 28, 29, 30]])) :: D26_is15
theorem ds26_is16 : DS ph26_is16 D26_is16 := DS.alias ds26_is15 3016 _ (opL 0 [26, 27, 28, 29, 30]) (by kernel_rfl) (by kernel_rfl)
noncomputable def g26_is17 : Sig := { g26 with sym := 3017, fix := [(20, (.val (.string ⟨#[115, 101, 116]⟩)))] }
noncomputable def ct26_is17 : List Sig := g26_is17 :: ct26_is16
noncomputable def sy26_is17 : List (Nat × List So) := (3017, g26_is17.rs.flatMap RK.sorts) :: sy26_is16
noncomputable def ph26_is17 : Nat → List Value → List Value := updF ph26_is16 3017 (aliasF (sortsP g26.ps) (opL 0 [35]) ph26_is16)
theorem en26_is17 : Env Try.prog ct26_is17 sy26_is17 ph26_is17 :=
  Env.alias en26_is16 g26 g26_is17 mm26_is16 20 (.val (.string ⟨#[115, 101, 116]⟩)) (opL 0 [35]) 300 ph26 pp26_is16 rfl (by kernel_rfl) rfl rfl rfl is17 (by kernel_rfl) (by kernel_rfl) (by kernel_rfl) (by kernel_rfl)
theorem pp26_is17 : ph26_is17 26 = ph26 26 := (updF_ne ph26_is16 (show 26 ≠ 3017 by decide) _).trans pp26_is16
theorem mm26_is17 : g26 ∈ ct26_is17 := List.mem_cons_of_mem _ mm26_is16
noncomputable def D26_is17 : List (Nat × Def) := (3017, .fn (sortsP g26.ps) (.leaf [opL 0 [35]])) :: D26_is16
theorem ds26_is17 : DS ph26_is17 D26_is17 := DS.alias ds26_is16 3017 _ (opL 0 [35]) (by kernel_rfl) (by kernel_rfl)
noncomputable def g26_is18 : Sig := { g26 with sym := 3018, fix := [(20, (.val (.string ⟨#[116, 101, 115, 116]⟩)))] }
noncomputable def ct26_is18 : List Sig := g26_is18 :: ct26_is17
noncomputable def sy26_is18 : List (Nat × List So) := (3018, g26_is18.rs.flatMap RK.sorts) :: sy26_is17
noncomputable def ph26_is18 : Nat → List Value → List Value := updF ph26_is17 3018 (aliasF (sortsP g26.ps) (opL 0 [9]) ph26_is17)
theorem en26_is18 : Env Try.prog ct26_is18 sy26_is18 ph26_is18 :=
  Env.alias en26_is17 g26 g26_is18 mm26_is17 20 (.val (.string ⟨#[116, 101, 115, 116]⟩)) (opL 0 [9]) 300 ph26 pp26_is17 rfl (by kernel_rfl) rfl rfl rfl is18 (by kernel_rfl) (by kernel_rfl) (by kernel_rfl) (by kernel_rfl)
theorem pp26_is18 : ph26_is18 26 = ph26 26 := (updF_ne ph26_is17 (show 26 ≠ 3018 by decide) _).trans pp26_is17
theorem mm26_is18 : g26 ∈ ct26_is18 := List.mem_cons_of_mem _ mm26_is17
noncomputable def D26_is18 : List (Nat × Def) := (3018, .fn (sortsP g26.ps) (.leaf [opL 0 [9]])) :: D26_is17
theorem ds26_is18 : DS ph26_is18 D26_is18 := DS.alias ds26_is17 3018 _ (opL 0 [9]) (by kernel_rfl) (by kernel_rfl)
noncomputable def g26_is19 : Sig := { g26 with sym := 3019, fix := [(20, (.val (.string ⟨#[119, 105, 100, 101, 32, 115, 105, 103, 110]⟩)))] }
noncomputable def ct26_is19 : List Sig := g26_is19 :: ct26_is18
noncomputable def sy26_is19 : List (Nat × List So) := (3019, g26_is19.rs.flatMap RK.sorts) :: sy26_is18
noncomputable def ph26_is19 : Nat → List Value → List Value := updF ph26_is18 3019 (aliasF (sortsP g26.ps) (opL 0 [40, 41]) ph26_is18)
theorem en26_is19 : Env Try.prog ct26_is19 sy26_is19 ph26_is19 :=
  Env.alias en26_is18 g26 g26_is19 mm26_is18 20 (.val (.string ⟨#[119, 105, 100, 101, 32, 115, 105, 103, 110]⟩)) (opL 0 [40, 41]) 300 ph26 pp26_is18 rfl (by kernel_rfl) rfl rfl rfl is19 (by kernel_rfl) (by kernel_rfl) (by kernel_rfl) (by kernel_rfl)
theorem pp26_is19 : ph26_is19 26 = ph26 26 := (updF_ne ph26_is18 (show 26 ≠ 3019 by decide) _).trans pp26_is18
theorem mm26_is19 : g26 ∈ ct26_is19 := List.mem_cons_of_mem _ mm26_is18
noncomputable def D26_is19 : List (Nat × Def) := (3019, .fn (sortsP g26.ps) (.leaf [opL 0 [40, 41]])) :: D26_is18
theorem ds26_is19 : DS ph26_is19 D26_is19 := DS.alias ds26_is18 3019 _ (opL 0 [40, 41]) (by kernel_rfl) (by kernel_rfl)
noncomputable def g26_is20 : Sig := { g26 with sym := 3020, fix := [(20, (.val (.string ⟨#[120, 99, 104, 103, 32, 99, 97, 115, 32, 120, 97, 100, 100]⟩)))] }
noncomputable def ct26_is20 : List Sig := g26_is20 :: ct26_is19
noncomputable def sy26_is20 : List (Nat × List So) := (3020, g26_is20.rs.flatMap RK.sorts) :: sy26_is19
noncomputable def ph26_is20 : Nat → List Value → List Value := updF ph26_is19 3020 (aliasF (sortsP g26.ps) (opL 0 [31, 32, 33]) ph26_is19)
theorem en26_is20 : Env Try.prog ct26_is20 sy26_is20 ph26_is20 :=
  Env.alias en26_is19 g26 g26_is20 mm26_is19 20 (.val (.string ⟨#[120, 99, 104, 103, 32, 99, 97, 115, 32, 120, 97, 100, 100]⟩)) (opL 0 [31, 32, 33]) 300 ph26 pp26_is19 rfl (by kernel_rfl) rfl rfl rfl is20 (by kernel_rfl) (by kernel_rfl) (by kernel_rfl) (by kernel_rfl)
theorem pp26_is20 : ph26_is20 26 = ph26 26 := (updF_ne ph26_is19 (show 26 ≠ 3020 by decide) _).trans pp26_is19
theorem mm26_is20 : g26 ∈ ct26_is20 := List.mem_cons_of_mem _ mm26_is19
noncomputable def D26_is20 : List (Nat × Def) := (3020, .fn (sortsP g26.ps) (.leaf [opL 0 [31, 32, 33]])) :: D26_is19
theorem ds26_is20 : DS ph26_is20 D26_is20 := DS.alias ds26_is19 3020 _ (opL 0 [31, 32, 33]) (by kernel_rfl) (by kernel_rfl)
end Go.Proofs.Ytbhhfbenajcinaa
