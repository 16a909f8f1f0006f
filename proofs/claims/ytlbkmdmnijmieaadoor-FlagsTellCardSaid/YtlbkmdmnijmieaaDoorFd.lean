/- Walks of layer 8: the chapter's examples. -/
import Derived.Test.YtlbkmdmnijmieaaDoorFx
import Derived.Test.YtlbkmdmnijmieaaDoorFs
import Derived.Test.YtlbkmdmnijmieaaDoorFzc
namespace Go.Proofs.YtlbkmdmnijmieaaDoor
open Go Go.RowKit
open Cq (U64 I64 isW nb zx sx neg mask)

theorem sign_any (c o : Bool) (s : Int) (hs : U64 s) (W : World) : Calls Tryd.prog 7 #[.agg #[.bool c, .bool o, .int .u64 s]] W fun e W' => e = .returned (.bool (neg s 8)) ∧ W' = W.alloc (.cells #[.bool c, .bool o, .int .u64 s] 25) := by
  go_enter Tryd.func7, Tryd.ntmps7
  go_wp2_with fail
  refine (neg_any _ _ hs _).mono ?_; rintro e w' ⟨rfl, rfl⟩
  go_wp2_with fail
  go_ret
  exact ⟨rfl, rfl⟩
theorem two_ex : two 6 3 5 false false 0 1 = .tuple #[.int .u64 254, .agg #[.bool true, .bool false, .int .u64 18446744073709551614]] := by
  rw [two_6 3 5 false false 0 1 rfl]; unfold T th
  rw [show Cq.lessV 3 5 false 1 = 254 from by decide, show Cq.lessC 3 5 false 1 = true from by decide, show Cq.lessO 3 5 false 1 = false from by decide, show sx 254 1 = 18446744073709551614 from by decide]
theorem trn_ex : trn 28 129 1 false false 0 1 = .tuple #[.int .u64 2, .agg #[.bool true, .bool true, .int .u64 2]] := by
  rw [trn_step 28 129 1 false false 0 1 rfl (by decide) 0 (by decide), trnS_28]; unfold T th
  rw [show shlV 129 1 (0 + 1) = 2 from by decide, show neg (shlV 129 1 0) 1 = true from by decide, show neg 2 1 = false from by decide, show sx 2 1 = 2 from by decide]; rfl
theorem prd_ex : prd 255 255 false 1 = .tuple #[.int .u64 1, .int .u64 254, .agg #[.bool true, .bool true, .int .u64 1]] := by
  rw [prd_is 255 255 false 1 rfl]; unfold th
  rw [show zx (Cq.pLo 255 255 false 1) 1 = 1 from by decide, show Cq.pUp 255 255 false 1 = 254 from by decide, show Cq.pOver 255 255 false 1 = true from by decide, show sx 1 1 = 1 from by decide]
theorem quo_ex : quo 1 0 2 false 1 = .tuple #[.int .u64 128, .int .u64 0, .bool true] := by
  rw [quo_is_U 1 0 2 1 rfl (by decide)]; unfold quoU; rw [if_pos (by decide)]
  rw [show Cq.qN 1 0 1 / zx 2 1 = 128 from by decide, show Cq.qN 1 0 1 % zx 2 1 = 0 from by decide]
theorem kcell {w1 w2 : World} {o : Obj} (h : Kp (w1.alloc o) w2) {b i : Nat} {v : Value} (hl : b < w1.heap.size) (hb : w1.cell? ⟨b, i, none⟩ = some v) : w2.cell? ⟨b, i, none⟩ = some v := by
  rw [h.cell (p := ⟨b, i, none⟩) (by simp; omega), World.cell?_alloc_past o b i hl, hb]
theorem kcell_new {w1 w2 : World} {cs : Array Value} {t : Nat} (h : Kp (w1.alloc (.cells cs t)) w2) (i : Nat) : w2.cell? ⟨w1.heap.size, i, none⟩ = cs[i]? := by
  rw [h.cell (p := ⟨w1.heap.size, i, none⟩) (by simp), World.cell?_alloc_new]
theorem ksize {w1 w2 : World} {o : Obj} (h : Kp (w1.alloc o) w2) : w1.heap.size < w2.heap.size := by have := h.size; simp at this; omega
set_option maxRecDepth 100000 in
theorem awake_any (W : World) : Calls Tryd.prog 15 #[] W fun e W' => e = .returned (.bool true) ∧ Kp W W' := by
  have hs : U64 18446744073709551614 := ⟨by decide, by decide⟩
  have u129 : U64 129 := ⟨by decide, by decide⟩
  have u255 : U64 255 := ⟨by decide, by decide⟩
  have u1 : U64 1 := ⟨by decide, by decide⟩
  have u0 : U64 0 := ⟨by decide, by decide⟩
  have u2 : U64 2 := ⟨by decide, by decide⟩
  have c1 := Lib.hid (fun W => two_any 6 3 5 false false 0 1 W)
  have c2 := Lib.hid (fun W => xturn_any 28 129 1 false false 0 1 u129 W)
  have c3 := Lib.hid (fun W => product_any 255 255 false 1 u255 u255 W)
  have c4 := Lib.hid (fun W => quotient_any 1 0 2 false 1 u1 u0 u2 W)
  rw [two_ex] at c1; rw [trn_ex] at c2; rw [prd_ex] at c3; rw [quo_ex] at c4
  unfold th at c1 c2
  go_enter Tryd.func15, Tryd.ntmps15
  go_wp2_with fail
  refine (c1.out _).mono ?_; rintro e wa ⟨rfl, ka⟩
  replace ka := Lib.hid ka
  go_wp2_with fail
  refine (c2.out _).mono ?_; rintro e wb ⟨rfl, kb⟩
  have b0 := (kcell_new kb 0).trans (show _ = some (.bool true) from rfl)
  have b1 := (kcell_new kb 1).trans (show _ = some (.bool false) from rfl)
  have b2 := (kcell_new kb 2).trans (show _ = some (.int .u64 18446744073709551614) from rfl)
  have bz := ksize kb
  replace kb := Lib.hid kb
  go_wp2_with fail
  refine (c3.out _).mono ?_; rintro e wc ⟨rfl, kc⟩
  replace b0 := kcell kc bz b0
  replace b1 := kcell kc bz b1
  replace b2 := kcell kc bz b2
  have d0 := (kcell_new kc 0).trans (show _ = some (.bool true) from rfl)
  have d1 := (kcell_new kc 1).trans (show _ = some (.bool true) from rfl)
  have dz := ksize kc
  have bz2 : wa.heap.size < wc.heap.size := by omega
  replace kc := Lib.hid kc
  go_wp2_with fail
  refine (c4.out _).mono ?_; rintro e w' ⟨rfl, n, rfl⟩
  go_wp2_with fail
  refine (sign_any _ _ _ hs _).mono ?_; rintro e w' ⟨rfl, rfl⟩
  rw [show neg 18446744073709551614 8 = true from by decide]
  go_wp2_with fail
  go_ret
  exact ⟨rfl, Kp.new (Kp.draws (Kp.new (((Kp.new (((Kp.new (ka.out) _)).next kb.out) _)).next kc.out) _) _) _⟩
end Go.Proofs.YtlbkmdmnijmieaaDoor
