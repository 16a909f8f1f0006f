/- Layer 22: what is turned is turned back: the eight instructions may be; the law. -/
import Derived.Test.YtbpcidpladnhfaaDoorBb
namespace Go.Proofs.YtbpcidpladnhfaaDoor
open Go Go.Proofs Go.RowKit Go.CX Go.SX Go.CX.Cp
open Cq (U64 B turn)
def AllC (ρ : Nat → Value) (φ : Nat → List Value → List Value) : Conds → Prop
  | [] => True
  | p :: l => p.1.den ρ φ = .bool p.2 ∧ AllC ρ φ l
theorem are_all {ρ : Nat → Value} {φ : Nat → List Value → List Value} : ∀ {l : Conds}, AllC ρ φ l → Conds.are ρ φ l
  | [], _, p, hp => absurd hp (by simp)
  | q :: l, h, p, hp => by
    rcases List.mem_cons.1 hp with rfl | hp
    · exact h.1
    · exact are_all h.2 p hp
def fl8 (op d n m : Nat) (imm r s : Int) : List Value := [.int .i64 op, .int .i64 8, .int .i64 d, .int .i64 n, .int .i64 m, .int .i64 0, .int .u64 imm, .int .i64 0, .int .i64 0, .int .i64 r, .int .i64 s]
theorem ok_28 (n m : Nat) (h : (n, m) = (1, 2) ∨ (n, m) = (4, 3)) : Ok (fl8 28 4 n m 0 0 0) := by
  rcases h with h | h
  all_goals
    simp only [Prod.mk.injEq] at h
    obtain ⟨rfl, rfl⟩ := h
    refine ⟨28, 8, by decide, ⟨rfl, rfl, fun h => absurd h (by decide)⟩, are_all ?_⟩
    exact And.intro rfl (And.intro rfl (And.intro rfl (And.intro rfl (And.intro rfl (And.intro rfl (And.intro rfl (And.intro rfl (And.intro rfl (And.intro rfl (And.intro rfl (And.intro rfl trivial)))))))))))
theorem ok_cut (op d : Nat) (h : (op, d) = (29, 5) ∨ (op, d) = (30, 6)) (R S : Nat) (hR : R < 64) (hS : S < 64) : Ok (fl8 op d 1 0 0 R S) := by
  have s0 : Value.bool (decide ((S : Int) < 0)) = .bool false := dFalse (by omega)
  have s1 : Value.bool (decide ((S : Int) < 64)) = .bool true := dTrue (by omega)
  have r0 : Value.bool (decide ((R : Int) < 0)) = .bool false := dFalse (by omega)
  have r1 : Value.bool (decide ((R : Int) < 64)) = .bool true := dTrue (by omega)
  rcases h with h | h
  · simp only [Prod.mk.injEq] at h
    obtain ⟨rfl, rfl⟩ := h
    refine ⟨29, 8, by decide, ⟨rfl, rfl, fun h => absurd h (by decide)⟩, are_all ?_⟩
    exact And.intro rfl (And.intro rfl (And.intro rfl (And.intro rfl (And.intro s0 (And.intro s1 (And.intro r0 (And.intro r1 (And.intro rfl (And.intro rfl (And.intro rfl (And.intro rfl (And.intro rfl trivial))))))))))))
  · simp only [Prod.mk.injEq] at h
    obtain ⟨rfl, rfl⟩ := h
    refine ⟨30, 8, by decide, ⟨rfl, rfl, fun h => absurd h (by decide)⟩, are_all ?_⟩
    exact And.intro rfl (And.intro rfl (And.intro rfl (And.intro rfl (And.intro s0 (And.intro s1 (And.intro r0 (And.intro r1 (And.intro rfl (And.intro rfl (And.intro rfl (And.intro rfl (And.intro rfl trivial))))))))))))
theorem ok_16 (x : Nat) (hx : x < 65536) : Ok (fl8 16 7 0 0 x 0 0) := by
  have x1 : Value.bool (decide ((x : Int) < 65536)) = .bool true := dTrue (by omega)
  refine ⟨16, 8, by decide, ⟨rfl, rfl, fun h => absurd h (by decide)⟩, are_all ?_⟩
  exact And.intro rfl (And.intro rfl (And.intro x1 (And.intro rfl (And.intro rfl (And.intro rfl (And.intro rfl (And.intro rfl (And.intro rfl (And.intro rfl (And.intro rfl trivial))))))))))
theorem ok_18 (x s : Nat) (hx : x < 65536) (hs : s = 1 ∨ s = 2 ∨ s = 3) : Ok (fl8 18 7 0 0 x 0 s) := by
  have x1 : Value.bool (decide ((x : Int) < 65536)) = .bool true := dTrue (by omega)
  rcases hs with rfl | rfl | rfl
  all_goals
    refine ⟨18, 8, by decide, ⟨rfl, rfl, fun h => absurd h (by decide)⟩, are_all ?_⟩
    exact And.intro rfl (And.intro rfl (And.intro x1 (And.intro rfl (And.intro rfl (And.intro rfl (And.intro rfl (And.intro rfl (And.intro rfl (And.intro rfl (And.intro rfl trivial))))))))))
section
variable {ρ : Nat → Value} {n K A M : Nat} (N : NumsB ρ n K A M)
theorem inst_den {op d a b : Nat} {imm r s : E} {x R S : Int} (h1 : imm.den ρ phB = .int .u64 x) (h2 : r.den ρ phB = .int .i64 R) (h3 : s.den ρ phB = .int .i64 S) (hok : Ok (fl8 op d a b x R S)) : (E.app 9 0 (toL (instE op d a b imm r s))).den ρ phB = .bool true := by
  have he : (instE op d a b imm r s).map (·.den ρ phB) = fl8 op d a b x R S := by
    show [Value.int .i64 (op : Int), .int .i64 8, .int .i64 (d : Int), .int .i64 (a : Int), .int .i64 (b : Int), .int .i64 0, imm.den ρ phB, .int .i64 0, .int .i64 0, r.den ρ phB, s.den ρ phB] = _
    rw [h1, h2, h3]; rfl
  show (phB 9 (E.dens ρ phB (toL (instE op d a b imm r s)))).getD 0 undef = _
  rw [toL_dens, he]
  show Value.bool (okB (fl8 op d a b x R S)) = _
  rw [okB_yes hok]
 include N
theorem facts_hold : Facts.hold ρ phB factsB := by
  have l1 := N.lA
  have l2 := N.lM
  have ln := N.ln
  have low : lowE.den ρ phB = .int .u64 ((n % 65536 : Nat) : Int) := by
    show Value.int .u64 (bits .and .u64 (vint (ρ 0)) 65535) = _
    rw [N.hn]
    show Value.int .u64 (bits .and .u64 (n : Int) 65535) = _
    rw [Cq.low16]
  have ht : topE.den ρ phB = .int .u64 ((n / 2 ^ 48 % 65536 : Nat) : Int) := by
    show Value.int .u64 ((vint (ρ 0)).fdiv (2 ^ 48)) = _
    rw [N.hn]
    show Value.int .u64 ((n : Int).fdiv (2 ^ 48)) = _
    congr 1
    rw [Int.fdiv_eq_ediv_of_nonneg _ (by decide)]
    omega
  have z : (iE 0).den ρ phB = .int .i64 0 := rfl
  have uz : (uE 0).den ρ phB = .int .u64 0 := rfl
  refine hold_cons _ ?_ (hold_cons _ ?_ (hold_cons _ ?_ (hold_cons _ ?_ (hold_cons _ ?_ (hold_cons _ ?_ (hold_cons _ ?_ (hold_cons _ ?_ (hold_cons _ ?_ hold_nil))))))))
  · show Value.bool (vint (freeE.den ρ phB) == 0) = .bool false
    rw [N.hf]
    congr 1
    rw [beq_eq_false_iff_ne]
    show ((64 - A : Nat) : Int) ≠ 0
    omega
  · exact inst_den uz z z (ok_28 1 2 (Or.inl rfl))
  · exact inst_den uz z z (ok_28 4 3 (Or.inr rfl))
  · exact inst_den uz N.hA N.hS (ok_cut 29 5 (Or.inl rfl) A (A + M) l1 l2)
  · exact inst_den uz N.hA N.hS (ok_cut 30 6 (Or.inr rfl) A (A + M) l1 l2)
  · exact inst_den low z z (ok_16 _ (Nat.mod_lt _ (by decide)))
  · exact inst_den (part_den N 16 (by decide)) z (show (iE 1).den ρ phB = .int .i64 ((1 : Nat) : Int) from rfl) (ok_18 _ 1 (Nat.mod_lt _ (by decide)) (Or.inl rfl))
  · exact inst_den (part_den N 32 (by decide)) z (show (iE 2).den ρ phB = .int .i64 ((2 : Nat) : Int) from rfl) (ok_18 _ 2 (Nat.mod_lt _ (by decide)) (Or.inr (Or.inl rfl)))
  · exact inst_den ht z (show (iE 3).den ρ phB = .int .i64 ((3 : Nat) : Int) from rfl) (ok_18 _ 3 (Nat.mod_lt _ (by decide)) (Or.inr (Or.inr rfl)))
end
theorem pack3 {s1 s2 s3 : So} {xs fl : List Value} (h : packs [(false, [s1]), (false, [s2]), (false, [s3])] xs fl) : ∃ x y z, xs = [x, y, z] ∧ fl = [x, y, z] ∧ s1.has x ∧ s2.has y ∧ s3.has z := by
  match xs, h with
  | [x, y, z], ⟨f1, r1, e1, h1, hx, f2, r2, e2, h2, hy, f3, r3, e3, h3, hz, e4⟩ =>
    have hx : f1 = [x] := hx
    have hy : f2 = [y] := hy
    have hz : f3 = [z] := hz
    have e4 : r3 = [] := e4
    subst hx hy hz e4 e3 e2 e1
    exact ⟨x, y, z, rfl, rfl, h1.1, h2.1, h3.1⟩
theorem turnX_ok {ws : Base} : ExtOk ws cxB phB (conX cxB ⟨57, 45, vkw⟩) := by
  refine conX_ok ⟨enters Tryd.func57 (c := Tryd.f57.body.getD .skip) (by kernel_rfl) (by kernel_rfl), ?_⟩
  intro w xs fl hp
  obtain ⟨x, y, z, rfl, rfl, ⟨v, rfl, h0, h1⟩, ⟨k, rfl, _⟩, ⟨m, rfl, _⟩⟩ := pack3 hp
  have h0 : 0 ≤ v := h0
  have h1 : v ≤ 18446744073709551615 := h1
  refine (turn_any v k m ⟨h0, by omega⟩ w).mono ?_
  rintro e W' ⟨rfl, rfl⟩
  exact ⟨congrArg (fun t => Ending.returned (.int .u64 t)) (Cq.wrap_of_u64 (Cq.turn_u64 v k m)).symm, Below.refl _ _⟩
theorem extB_ok {w : World} (hT : TabsA w) : ExtOk ⟨w, []⟩ cxB phB extB :=
  orX_ok (orX_ok (conMay_ok (cx := cxB) rfl (fun _ => rfl) enters_may (fun _ hs w hT => may_any hs w hT) hT) (trueA_ok (cx := cxB) rfl)) turnX_ok
theorem law_bits {n k a m : Int} (hn : 0 ≤ n ∧ n ≤ 18446744073709551615) (hk : -9223372036854775808 ≤ k ∧ k ≤ 9223372036854775807) (ha : -9223372036854775808 ≤ a ∧ a ≤ 9223372036854775807) (hm : -9223372036854775808 ≤ m ∧ m ≤ 9223372036854775807) (W : World) (hT : TabsA W) :
    Calls Tryd.prog 4 #[.int .u64 n, .int .i64 k, .int .i64 a, .int .i64 m] W fun e W' => e = .returned (.bool true) ∧ Below W.heap.size W W' := by
  have hall : All2 So.has [.int .u64, .int .i64, .int .i64, .int .i64] [Value.int .u64 n, .int .i64 k, .int .i64 a, .int .i64 m] := ⟨⟨n, rfl, hn.1, hn.2⟩, ⟨k, rfl, hk.1, hk.2⟩, ⟨a, rfl, ha.1, ha.2⟩, ⟨m, rfl, hm.1, hm.2⟩, trivial⟩
  have F : Fits cxB.Γ cxB.S (rho [.int .u64 n, .int .i64 k, .int .i64 a, .int .i64 m]) phB := ⟨fun i => all2_get hall i, fitB⟩
  obtain ⟨n', K, A, M, N⟩ := nums_of (ρ := rho [.int .u64 n, .int .i64 k, .int .i64 a, .int .i64 m]) (n := n) (k := k) (a := a) (m := m) rfl rfl rfl rfl ⟨hn.1, by omega⟩
  exact law_byE (cx := cxB) rfl (namesOk_spec names_ok) F (ruleB_ok N) (facts_hold N) (args := [.one ⟨false, [.e (.var 0)]⟩, .one ⟨false, [.e (.var 1)]⟩, .one ⟨false, [.e (.var 2)]⟩, .one ⟨false, [.e (.var 3)]⟩]) (xs := [.int .u64 n, .int .i64 k, .int .i64 a, .int .i64 m]) ⟨rfl, rfl, rfl, rfl, trivial⟩ bits_yes W (fun v hv => by simp [cxB] at hv) (extB_ok hT)
end Go.Proofs.YtbpcidpladnhfaaDoor
