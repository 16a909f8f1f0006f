/- The law, whatever the operation. -/
import Derived.Test.YtdpbalongdcjbaaDoorJb0
import Derived.Test.YtdpbalongdcjbaaDoorJb1
import Derived.Test.YtdpbalongdcjbaaDoorJb2
import Derived.Test.YtdpbalongdcjbaaDoorJb3
import Derived.KernelRfl
namespace Go.Proofs.YtdpbalongdcjbaaDoor
open Go Go.Proofs Go.RowKit Go.CX
set_option maxRecDepth 100000

theorem law_calls {W : World} (hT : Tabs W) {fl : List Value} (hs : SX.All2 SX.So.has ssJ fl) {t : Int} (ht : 0 ≤ t ∧ t ≤ 18446744073709551615) :
    Calls Tryd.prog 3 #[.agg fl.toArray, .int .u64 t] W fun e W' => e = .returned (.bool true) ∧ Below W.heap.size W W' := by
  have hl := hs.length
  obtain ⟨n, hn, _⟩ : ∃ n : Int, fl.getD 0 undef = .int .i64 n ∧ True := by
    have h := SX.all2_get hs 0
    obtain ⟨n, h1, _⟩ := h
    exact ⟨n, h1, trivial⟩
  have hv0 : (SX.E.var 0).den (fun i => (fl ++ [Value.int .u64 t]).getD i undef) ph5 = .int .i64 n := by
    match fl, hl with
    | v0 :: r, _ => exact hn
  by_cases h1 : n < 1
  · refine law_run hT hs ht (.var 0) _ (hv0.trans hn.symm) (fun p hp => ?_) run_lo
    simp only [List.mem_singleton] at hp
    subst hp
    simp only [SX.E.den] at hv0 ⊢
    rw [hv0]
    exact congrArg Value.bool (decide_eq_true h1)
  by_cases h2 : 47 < n
  · refine law_run hT hs ht (.var 0) _ (hv0.trans hn.symm) (fun p hp => ?_) run_hi
    simp only [List.mem_singleton] at hp
    subst hp
    simp only [SX.E.den] at hv0 ⊢
    rw [hv0]
    exact congrArg Value.bool (decide_eq_true h2)
  have at_op : ∀ m : Nat, n = Int.ofNat m → runJ (.int .i64 (.ofNat m)) [] = true → Calls Tryd.prog 3 #[.agg fl.toArray, .int .u64 t] W fun e W' => e = .returned (.bool true) ∧ Below W.heap.size W W' :=
    fun m hm hr => law_run hT hs ht _ _ (by rw [hn, hm]; rfl) (fun p hp => by simp at hp) hr
  have hc : n = 1 ∨ n = 2 ∨ n = 3 ∨ n = 4 ∨ n = 5 ∨ n = 6 ∨ n = 7 ∨ n = 8 ∨ n = 9 ∨ n = 10 ∨ n = 11 ∨ n = 12 ∨ n = 13 ∨ n = 14 ∨ n = 15 ∨ n = 16 ∨ n = 17 ∨ n = 18 ∨ n = 19 ∨ n = 20 ∨ n = 21 ∨ n = 22 ∨ n = 23 ∨ n = 24 ∨ n = 25 ∨ n = 26 ∨ n = 27 ∨ n = 28 ∨ n = 29 ∨ n = 30 ∨ n = 31 ∨ n = 32 ∨ n = 33 ∨ n = 34 ∨ n = 35 ∨ n = 36 ∨ n = 37 ∨ n = 38 ∨ n = 39 ∨ n = 40 ∨ n = 41 ∨ n = 42 ∨ n = 43 ∨ n = 44 ∨ n = 45 ∨ n = 46 ∨ n = 47 := by omega
  rcases hc with h | h | h | h | h | h | h | h | h | h | h | h | h | h | h | h | h | h | h | h | h | h | h | h | h | h | h | h | h | h | h | h | h | h | h | h | h | h | h | h | h | h | h | h | h | h | h
  · exact at_op 1 h run_1
  · exact at_op 2 h run_2
  · exact at_op 3 h run_3
  · exact at_op 4 h run_4
  · exact at_op 5 h run_5
  · exact at_op 6 h run_6
  · exact at_op 7 h run_7
  · exact at_op 8 h run_8
  · exact at_op 9 h run_9
  · exact at_op 10 h run_10
  · exact at_op 11 h run_11
  · exact at_op 12 h run_12
  · exact at_op 13 h run_13
  · exact at_op 14 h run_14
  · exact at_op 15 h run_15
  · exact at_op 16 h run_16
  · exact at_op 17 h run_17
  · exact at_op 18 h run_18
  · exact at_op 19 h run_19
  · exact at_op 20 h run_20
  · exact at_op 21 h run_21
  · exact at_op 22 h run_22
  · exact at_op 23 h run_23
  · exact at_op 24 h run_24
  · exact at_op 25 h run_25
  · exact at_op 26 h run_26
  · exact at_op 27 h run_27
  · exact at_op 28 h run_28
  · exact at_op 29 h run_29
  · exact at_op 30 h run_30
  · exact at_op 31 h run_31
  · exact at_op 32 h run_32
  · exact at_op 33 h run_33
  · exact at_op 34 h run_34
  · exact at_op 35 h run_35
  · exact at_op 36 h run_36
  · exact at_op 37 h run_37
  · exact at_op 38 h run_38
  · exact at_op 39 h run_39
  · exact at_op 40 h run_40
  · exact at_op 41 h run_41
  · exact at_op 42 h run_42
  · exact at_op 43 h run_43
  · exact at_op 44 h run_44
  · exact at_op 45 h run_45
  · exact at_op 46 h run_46
  · exact at_op 47 h run_47
end Go.Proofs.YtdpbalongdcjbaaDoor
