/- Layer 9 (memory): may a thread come there? of the code. -/
import Derived.Test.YtlbkmdmnijmieaaMb
namespace Go.Proofs.Ytlbkmdmnijmieaa
open Go Go.RowKit Rp
open Cq (U64 I64 isW nb mask)

/-- may a thread come to a byte of an area? -/
def Ar.opn (a : Ar) (t : Int) (w : Bool) : Bool := (!a.pv || a.ow == t) && (a.wr || !w)
def openB (L : List Ar) (t x : Int) (w : Bool) : Bool := match findA L x with
  | some a => a.opn t w
  | none => false
theorem openB_yes {L : List Ar} {x : Int} {a : Ar} (h : findA L x = some a) (t : Int) (w : Bool) : openB L t x w = a.opn t w := by unfold openB; rw [h]
theorem openB_no {L : List Ar} {x : Int} (h : findA L x = none) (t : Int) (w : Bool) : openB L t x w = false := by unfold openB; rw [h]
theorem open_any (g ga c : Nat) (L : List Ar) (t x : Int) (w : Bool) (W : World) (h : MRd W g ga c L) :
    Calls Try.prog 51 #[.pointer (some ⟨g, 0, none⟩), .int .i64 t, .int .u64 x, .bool w] W fun e W' => e = .returned (.bool (openB L t x w)) ∧ Kp W W' := by
  cases hf : findA L x with
  | none =>
    rw [openB_no hf]
    have H := Lib.hid (find_no h hf)
    clear h hf
    go_enter Try.func51, Try.ntmps51
    go_wp2_with fail
    refine H.out.mono ?_; rintro e w2 ⟨rfl, hk⟩
    have HK := Lib.hid hk
    clear hk
    go_wp2_with fail
    go_ret
    exact ⟨rfl, HK.out.new _⟩
  | some a =>
    rw [openB_yes hf]
    have H := Lib.hid (find_yes h hf)
    clear h hf
    obtain ⟨lo, A, n, ca, wr, pv, ow, bs⟩ := a
    unfold Ar.opn
    dsimp only at H ⊢
    cases pv
    · cases wr
      all_goals cases w
      all_goals
        go_enter Try.func51, Try.ntmps51
        go_wp2_with fail
        refine H.out.mono ?_; rintro e w2 ⟨rfl, hk⟩
        have HK := Lib.hid hk
        clear hk
        go_wp2_with fail
        go_ret
        exact ⟨rfl, HK.out.new _⟩
    · obtain ⟨b, hb⟩ : ∃ b, (ow == t) = b := ⟨_, rfl⟩
      rw [hb]
      cases b
      · go_enter Try.func51, Try.ntmps51
        go_wp2_with fail
        refine H.out.mono ?_; rintro e w2 ⟨rfl, hk⟩
        have HK := Lib.hid hk
        clear hk
        go_wp2_with fail
        go_ret
        exact ⟨rfl, HK.out.new _⟩
      · cases wr
        all_goals cases w
        all_goals
          go_enter Try.func51, Try.ntmps51
          go_wp2_with fail
          refine H.out.mono ?_; rintro e w2 ⟨rfl, hk⟩
          have HK := Lib.hid hk
          clear hk
          go_wp2_with fail
          go_ret
          exact ⟨rfl, HK.out.new _⟩
end Go.Proofs.Ytlbkmdmnijmieaa
