/- Layer 9 (memory): the law of memory that is not there. -/
import Derived.Test.YtlbkmdmnijmieaaMt
namespace Go.Proofs.Ytlbkmdmnijmieaa
open Go Go.RowKit Rp
open Cq (U64 I64 isW nb mask)

set_option maxRecDepth 100000 in
set_option maxHeartbeats 4000000 in
theorem law_nil (t x w : Int) (W : World) : Calls Try.prog 6 #[.int .i64 t, .int .u64 x, .int .i64 w] W fun e W' => e = .returned (.bool true) ∧ Kp W W' := by
  go_enter Try.func6, Try.ntmps6
  go_wp2_with fail
  refine (load_nil t x w _).mono ?_; rintro e w1 ⟨rfl, hk⟩
  have HK := Lib.hid hk
  clear hk
  go_wp2_with fail
  refine (byte_nil x _).mono ?_; rintro e w2 ⟨rfl, rfl⟩
  go_wp2_with fail
  refine (may_nil t x w true _).mono ?_; rintro e w2 ⟨rfl, rfl⟩
  go_wp2_with fail
  refine (store_nil t x w x _).mono ?_; rintro e w2 ⟨rfl, rfl⟩
  go_wp2_with fail
  refine (put_nil t x w x _).mono ?_; rintro e w2 ⟨rfl, rfl⟩
  go_wp2_with fail
  refine (drain_nil t _).mono ?_; rintro e w2 ⟨rfl, rfl⟩
  go_wp2_with fail
  refine (flush_nil t _).mono ?_; rintro e w2 ⟨rfl, rfl⟩
  go_wp2_with fail
  refine (own_nil t w _).mono ?_; rintro e w2 ⟨rfl, rfl⟩
  go_wp2_with fail
  refine (pend_nil t _).mono ?_; rintro e w2 ⟨rfl, rfl⟩
  go_wp2_with fail
  refine (areas_nil _).mono ?_; rintro e w2 ⟨rfl, rfl⟩
  go_wp2_with fail
  refine (same_nil _).mono ?_; rintro e w2 ⟨rfl, m, rfl⟩
  go_wp2_with fail
  refine (copy_nil _).mono ?_; rintro e w2 ⟨rfl, rfl⟩
  go_wp2_with fail
  refine (awake_any _).mono ?_; rintro e w2 ⟨rfl, hk2⟩
  have HK2 := Lib.hid ((HK.out.draws m).next hk2)
  clear hk2
  go_wp2_with fail
  go_ret
  exact ⟨rfl, HK2.out⟩
end Go.Proofs.Ytlbkmdmnijmieaa
