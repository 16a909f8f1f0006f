/- Layer 19's closing example. -/
import Derived.Test.YtlhinabodofjeaaLq
namespace Lg
open Go
open Cq
theorem Enc.at0 {v c : Int} {ok : Bool} (hv : U64 v) (h : Enc v c ok) (hy : alAny v.toNat = true) {n o : Nat} (hn : szO v.toNat = n) (ho : cnt v = o) (h0 : TW n o 0 = v) : c = (code n (o - 1) 0 : Int) ∧ ok = true := by
  have e := alike_agree hv h
  rw [hy] at e
  subst e
  rcases h with ⟨_, h, _⟩ | ⟨_, _, t, ht, hw, first, rfl⟩
  · cases h
  · rw [hn] at hw first ht ⊢
    rw [ho] at hw first ⊢
    have : t = 0 := by
      by_cases a : t = 0
      · exact a
      · exact absurd h0 (first 0 (by omega))
    subst this
    exact ⟨rfl, rfl⟩
theorem enc255 {c : Int} {ok : Bool} (h : Enc 255 c ok) : c = 4103 ∧ ok = true :=
  h.at0 (n := 64) (o := 8) (by unfold U64; omega) (by decide +kernel) (by decide +kernel) (by decide +kernel) (by decide +kernel)
theorem enc55 {c : Int} {ok : Bool} (h : Enc 6148914691236517205 c ok) : c = 60 ∧ ok = true :=
  h.at0 (n := 2) (o := 1) (by unfold U64; omega) (by decide +kernel) (by decide +kernel) (by decide +kernel) (by decide +kernel)
theorem enc5 {c : Int} {ok : Bool} (h : Enc 5 c ok) : ok = false := by
  rw [alike_agree (by unfold U64; omega) h]; decide +kernel
end Lg
namespace Go.Proofs.Ytlhinabodofjeaa
open Go.RowKit
open Cq (U32 U64 I64)
open Lg
theorem awake_any (W : World) : Calls Try.prog 9 #[] W fun e W' => e = .returned (.bool true) ∧ Below W.heap.size W W' := by
  go_enter Try.func9, Try.ntmps9
  go_wp2_with fail
  refine (encode_any 255 (by unfold U64; omega) _).mono ?_; rintro e w1 ⟨⟨c1, k1, rfl, h1⟩, b1⟩
  have B1 := Lib.hid b1.below
  obtain ⟨rfl, rfl⟩ := enc255 h1
  clear b1 h1
  go_wp2_with fail
  refine (encode_any 6148914691236517205 (by unfold U64; omega) _).mono ?_; rintro e w2 ⟨⟨c2, k2, rfl, h2⟩, b2⟩
  have B2 := Lib.hid b2.below
  obtain ⟨rfl, rfl⟩ := enc55 h2
  clear b2 h2
  go_wp2_with fail
  refine (encode_any 5 (by unfold U64; omega) _).mono ?_; rintro e w3 ⟨⟨c3, k3, rfl, h3⟩, b3⟩
  have B3 := Lib.hid b3.below
  obtain rfl := enc5 h3
  clear b3 h3
  go_wp2_with fail
  go_ret
  exact ⟨rfl, B1.out.trans ((B2.out.mono B1.out.size).trans (B3.out.mono (Nat.le_trans B1.out.size B2.out.size)))⟩
end Go.Proofs.Ytlhinabodofjeaa
