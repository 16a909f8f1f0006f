/- Walk of the statement of layer 8 on shifts and rotations. -/
import Derived.Test.YtmebkahgdpnajaaFd
import Derived.Test.YtmebkahgdpnajaaFv
namespace Go.Proofs.Ytmebkahgdpnajaa
open Go Go.RowKit
open Cq (U64 I64 isW nb zx sx neg mask)

theorem turn_form (op a n : Int) (c o : Bool) (s w : Int) : ∃ r c1 o1 s1, trn op a n c o s w = .tuple #[.int .u64 r, .agg #[.bool c1, .bool o1, .int .u64 s1]] := by
  unfold trn trnS T T0 th
  repeat' split
  all_goals exact ⟨_, _, _, _, rfl⟩
theorem law_turn (op a n : Int) (c o : Bool) (s w : Int) (ha : U64 a) (W : World) : Calls Try.prog 5 #[.int .i64 op, .int .u64 a, .int .i64 n, th c o s, .int .i64 w] W fun e W' => e = .returned (.bool true) ∧ Kp W W' := by
  obtain ⟨r, c1, o1, s1, hf⟩ := turn_form op a n c o s w
  have hp := fun W => xturn_any op a n c o s w ha W
  have hr := fun W => rturn_any op a n c o s w ha W
  rw [show trn op a n c o s w = _ from hf] at hp hr
  unfold th at hp hr
  have HP := Lib.hid hp
  have HR := Lib.hid hr
  clear hf hp hr
  unfold th
  go_enter Try.func5, Try.ntmps5
  go_wp2_with fail
  refine (ours_any c o s _).mono ?_; rintro e wa ⟨rfl, ka⟩
  unfold th
  have a0 := (kcell_new ka 0).trans (show _ = some (.bool c) from rfl)
  have a1 := (kcell_new ka 1).trans (show _ = some (.bool o) from rfl)
  have a2 := (kcell_new ka 2).trans (show _ = some (.int .u64 s) from rfl)
  have az := ksize ka
  go_wp2_with fail
  refine (HP.out _).mono ?_; rintro e wb ⟨rfl, kb⟩
  replace a0 := (kb.cell (p := ⟨W.heap.size, 0, none⟩) az).trans a0
  replace a1 := (kb.cell (p := ⟨W.heap.size, 1, none⟩) az).trans a1
  replace a2 := (kb.cell (p := ⟨W.heap.size, 2, none⟩) az).trans a2
  have az2 : W.heap.size < wb.heap.size := Nat.lt_of_lt_of_le az kb.size
  replace ka := Lib.hid ka
  replace kb := Lib.hid kb
  go_wp2_with fail
  refine (HR.out _).mono ?_; rintro e wc ⟨rfl, kc⟩
  have b0 := (kcell_new kc 0).trans (show _ = some (.bool c1) from rfl)
  have b1 := (kcell_new kc 1).trans (show _ = some (.bool o1) from rfl)
  have b2 := (kcell_new kc 2).trans (show _ = some (.int .u64 s1) from rfl)
  have bz := ksize kc
  replace kc := Lib.hid kc
  clear a0 a1 a2
  go_wp2_with fail
  refine (same_any c1 o1 s1 _).mono ?_; rintro e wd ⟨rfl, kd⟩
  replace kd := Lib.hid kd
  go_wp2_with fail
  refine (awake_any _).mono ?_; rintro e we ⟨rfl, ke⟩
  replace ke := Lib.hid ke
  go_wp2_with fail
  go_ret
  exact ⟨rfl, ((Kp.new ((Kp.new ((((Kp.rfl W).new _).next ka.out).next kb.out) _).next kc.out) _).next kd.out).next ke.out⟩
end Go.Proofs.Ytmebkahgdpnajaa
