/- Layer 7: All of Nops. -/
import Derived.Test.YthakekgdllmbcaaDoorEf
namespace Go.Proofs.YthakekgdllmbcaaDoor
open Go.RowKit Rp Go.Maps
open Cq (U64 I64 isW)
set_option maxRecDepth 100000 in
theorem write_long (W : World) (A : Option Addr) (n c : Nat) (hn : 4096 < n) :
    Calls Tryd.prog 7 #[.slice A n c] W fun e W' => e = .returned (.tuple #[.pointer none, .int .i64 6]) ∧ W' = W := by
  have h1 : (4096 : Int) < n := by omega
  go_enter Tryd.func7, Tryd.ntmps7
  go_wp2_with fail
  go_ret2
  exact ⟨rfl, rfl⟩
set_option maxRecDepth 100000 in
theorem all_long (W : World) (A : Option Addr) (n c : Nat) (hn : 4096 < n) :
    Calls Tryd.prog 4 #[.slice A n c] W fun e W' => e = .returned (.tuple #[.slice none 0 0, .slice none 0 0, .int .i64 6]) ∧ W' = W := by
  have HN := Lib.hid hn
  clear hn
  go_enter Tryd.func4, Tryd.ntmps4
  go_wp2_with fail
  refine (write_long W A n c HN.out).mono ?_
  rintro e w1 ⟨rfl, rfl⟩
  go_wp2_with fail
  go_ret3
  exact ⟨rfl, rfl⟩
set_option maxRecDepth 100000 in
theorem fix_long (W : World) (A : Option Addr) (n c : Nat) (hn : 4096 < n) :
    Calls Tryd.prog 5 #[.slice A n c] W fun e W' => e = .returned (.tuple #[.slice none 0 0, .int .i64 6]) ∧ W' = W := by
  have HN := Lib.hid hn
  clear hn
  go_enter Tryd.func5, Tryd.ntmps5
  go_wp2_with fail
  refine (write_long W A n c HN.out).mono ?_
  rintro e w1 ⟨rfl, rfl⟩
  go_wp2_with fail
  go_ret2
  exact ⟨rfl, rfl⟩
set_option maxHeartbeats 4000000 in
set_option maxRecDepth 100000 in
theorem all_ok (W : World) (hT : TabsA W) (hW2 : 2 ≤ W.heap.size) (lb n c : Nat) (hn : n ≤ 4096) (hlb : lb < W.heap.size) (hN : NopsAt W lb n) :
    Calls Tryd.prog 4 #[.slice (some ⟨lb, 0, none⟩) n c] W fun e W' => (∃ A c' st, e = .returned (.tuple #[.slice A n c', st, .int .i64 0])) ∧ Below W.heap.size W W' := by
  have HW := Lib.hid (write_ok W hT hW2 lb n c hn hlb hN)
  clear hT hN
  go_enter Tryd.func4, Tryd.ntmps4
  go_wp2_with fail
  refine HW.out.mono ?_
  rintro e w1 ⟨wb, g, v, bs, sv, xs, rfl, hw, hbs, hb, hxs⟩
  have c0 := hw.box.cell 0
  have c1 := hw.box.cell 1
  simp only [List.getElem?_cons_zero, List.getElem?_cons_succ] at c0 c1
  have HST : Hid (∀ wd, wd = w1.drew → St W.heap.size 5 wd g 59 [] v bs ∧ Below w1.heap.size w1 wd) := by
    rintro wd rfl
    exact ⟨hw.st.chg (Chg.refl (fun _ => False) w1).drew (fun _ _ a => a), (Below.refl _ _).drew⟩
  have HBX := Lib.hid hw.box
  have HB := Lib.hid hb
  have HBS : Hid (bs.length ≤ 1048576) := by show bs.length ≤ 1048576; omega
  have HE := Lib.hid hbs
  clear hw hb hxs hbs
  go_upto_region 4 with fail
  go_region_with ((go_at_call 8; refine (bytes_any (HST.out _ rfl).1 HBS.out).mono ?_; rintro e w4 ⟨bv, rfl, hcp⟩; obtain ⟨gb, rfl, hgb, hbx4, hb4⟩ := hcp; have HB4 := Lib.hid hb4; have HBX4 := HBX.out.kept (hb4.block wb HBX.out.lt); have x0 := HBX4.cell 0; have x1 := HBX4.cell 1; simp only [List.getElem?_cons_zero, List.getElem?_cons_succ] at x0 x1; clear hgb hbx4 hb4 HBX4))
  all_goals
    go_wp2_with fail
    go_ret3
    exact ⟨⟨some ⟨gb, 0, none⟩, n, sv, by rw [HE.out]; rfl⟩, HB.out.trans (((Below.refl _ w1).drew.trans HB4.out).mono HB.out.size)⟩
end Go.Proofs.YthakekgdllmbcaaDoor
