/- Walk of the statement of layer 8 on products. -/
import Derived.Test.YtmebkahgdpnajaaFd
import Derived.Test.YtmebkahgdpnajaaFy
namespace Go.Proofs.Ytmebkahgdpnajaa
open Go Go.RowKit
open Cq (U64 I64 isW nb zx sx neg mask)

theorem product_form (a b : Int) (s : Bool) (w : Int) : ∃ x y c1 o1 s1, prd a b s w = .tuple #[.int .u64 x, .int .u64 y, .agg #[.bool c1, .bool o1, .int .u64 s1]] := by
  unfold prd th
  split
  all_goals exact ⟨_, _, _, _, _, rfl⟩
theorem law_product (a b : Int) (sn : Bool) (w : Int) (ha : U64 a) (hb : U64 b) (W : World) : Calls Try.prog 6 #[.int .u64 a, .int .u64 b, .bool sn, .int .i64 w] W fun e W' => e = .returned (.bool true) ∧ Kp W W' := by
  obtain ⟨x, y, c1, o1, s1, hf⟩ := product_form a b sn w
  have hp := fun W => product_any a b sn w ha hb W
  have hr := fun W => rproduct_any a b sn w ha hb W
  rw [hf] at hp hr
  have HP := Lib.hid hp
  have HR := Lib.hid hr
  clear hf hp hr
  go_enter Try.func6, Try.ntmps6
  go_wp2_with fail
  refine (HP.out _).mono ?_; rintro e wb ⟨rfl, kb⟩
  replace kb := Lib.hid kb
  go_wp2_with fail
  refine (HR.out _).mono ?_; rintro e wc ⟨rfl, kc⟩
  have b0 := (kcell_new kc 0).trans (show _ = some (.bool c1) from rfl)
  have b1 := (kcell_new kc 1).trans (show _ = some (.bool o1) from rfl)
  have b2 := (kcell_new kc 2).trans (show _ = some (.int .u64 s1) from rfl)
  have bz := ksize kc
  replace kc := Lib.hid kc
  go_wp2_with fail
  refine (same_any c1 o1 s1 _).mono ?_; rintro e wd ⟨rfl, kd⟩
  replace kd := Lib.hid kd
  go_wp2_with fail
  refine (awake_any _).mono ?_; rintro e we ⟨rfl, ke⟩
  replace ke := Lib.hid ke
  go_wp2_with fail
  go_ret
  exact ⟨rfl, ((Kp.new ((Kp.new kb.out _).next kc.out) _).next kd.out).next ke.out⟩
end Go.Proofs.Ytmebkahgdpnajaa
