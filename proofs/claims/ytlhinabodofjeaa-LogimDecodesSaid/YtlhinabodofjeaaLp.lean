/- Plain mathematics of layer 19: words of elements are found, and no other words; both Encodes agree. -/
import Derived.Test.YtlhinabodofjeaaLo
namespace Lg
open Go
open Cq

theorem tb_mod (n o t i : Nat) : tb n o t i = decide ((i + t) % n < o) := by unfold tb; rw [Nat.mod_add_mod]
theorem tb_per (n o t i : Nat) : tb n o t (i % n) = tb n o t i := by unfold tb; rw [Nat.mod_mod]
theorem tws_at {i : Nat} (n o t : Nat) (h : i < 64) : (tws n o t 64).testBit i = tb n o t i := by rw [tws_bit, decide_eq_true h, Bool.true_and]
theorem tws_per {n : Nat} (o t : Nat) : Per (tws n o t 64) n := fun i hi => by
  rw [tws_at n o t hi, tws_at n o t (Nat.lt_of_le_of_lt (Nat.mod_le _ _) hi), tb_per]
theorem tws_not {n o t m : Nat} (hn : isSz (n : Int) = true) (h1 : 1 ≤ o) (h2 : o < n) (h4 : t < n) (hm : isSz (m : Int) = true) (hlt : m < n) : ¬ Per (tws n o t 64) m := by
  intro hp
  obtain ⟨h, hh, hhs⟩ : ∃ h : Nat, n = 2 * h ∧ isSz (h : Int) = true ∧ m ≤ h := by
    have a := isSz_cases hn; have b := isSz_cases hm
    refine ⟨n / 2, by omega, ?_, by omega⟩
    simp only [isSz, Bool.or_eq_true, beq_iff_eq]; omega
  have hq := hp.up (sz_dvd2 hm hhs.1 hhs.2)
  have h64 := sz_dvd hn
  have hd : h ∣ n := ⟨2, by omega⟩
  have key : ∀ i, tb n o t i = tb n o t (i % h) := by
    intro i
    have hl : i % n < 64 := Nat.lt_of_lt_of_le (Nat.mod_lt _ (by omega)) h64.2.2
    have a := hq (i % n) hl
    rw [Nat.mod_mod_of_dvd _ hd, tws_at n o t hl, tws_at n o t (Nat.lt_of_lt_of_le (Nat.mod_lt _ (by omega)) (show h ≤ 64 by omega)), tb_per] at a
    exact a
  have step : ∀ i, tb n o t (i + h) = tb n o t i := fun i => by rw [key (i + h), Nat.add_mod_right, ← key]
  have a1 := step (n - t)
  rw [tb_mod, tb_mod, show n - t + h + t = h + n by omega, show n - t + t = 0 + n by omega, Nat.add_mod_right, Nat.add_mod_right, Nat.mod_eq_of_lt (show h < n by omega), Nat.zero_mod, decide_eq_true (show 0 < o by omega)] at a1
  have ho := of_decide_eq_true a1
  have a2 := step (n - t + (o - h))
  rw [tb_mod, tb_mod, show n - t + (o - h) + h + t = o + n by omega, show n - t + (o - h) + t = (o - h) + n by omega, Nat.add_mod_right, Nat.add_mod_right, Nat.mod_eq_of_lt h2, Nat.mod_eq_of_lt (show o - h < n by omega), decide_eq_false (show ¬ o < o by omega), decide_eq_true (show o - h < o by omega)] at a2
  cases a2
theorem szO_tws {n o t : Nat} (hn : isSz (n : Int) = true) (h1 : 1 ≤ o) (h2 : o < n) (h4 : t < n) : szO (tws n o t 64) = n :=
  szO_of hn (tws_per o t) fun _ hm hlt => tws_not hn h1 h2 h4 hm hlt
theorem cf_mul {f : Nat → Bool} {n : Nat} (hp : ∀ i, f (i + n) = f i) (c : Nat) : cf f (n * c) = c * cf f n := by
  have add : ∀ a b, cf f (a + b) = cf f a + cf (fun i => f (i + a)) b := by
    intro a b
    induction b with
    | zero => rfl
    | succ b ih => rw [← Nat.add_assoc, cf, cf, ih, Nat.add_comm a b]; omega
  induction c with
  | zero => simp [cf]
  | succ c ih =>
    rw [Nat.mul_succ, Nat.add_comm, add, show (fun i => f (i + n)) = f from funext hp, ih, Nat.succ_mul]; omega
theorem pop_mul {v n : Nat} (hp : Per v n) (hd : n ∣ 64) (h1 : 1 ≤ n) : popTo v 64 = (64 / n) * popTo v n := by
  obtain ⟨c, hc⟩ := hd
  have hn : n ≤ 64 := Nat.le_of_dvd (by omega) ⟨c, hc⟩
  rw [popTo_cf, popTo_cf, cf_congr (g := fun i => v.testBit (i % n)) (fun i hi => hp i hi), cf_congr (f := v.testBit) (g := fun i => v.testBit (i % n)) (k := n) (fun i hi => hp i (by omega))]
  have e : 64 / n = c := by rw [hc]; exact Nat.mul_div_cancel_left _ (by omega)
  rw [e, show cf (fun i => v.testBit (i % n)) 64 = cf (fun i => v.testBit (i % n)) (n * c) by rw [← hc]]
  exact cf_mul (fun i => by simp) c
theorem cnt_pop (v : Int) : cnt v = popTo v.toNat (szO v.toNat) := by
  have ⟨a, b, _⟩ := szO_spec v.toNat
  have h := sz_dvd a
  unfold cnt ones
  rw [pop_mul b h.1 (by omega)]
  exact Nat.mul_div_cancel_left _ (Nat.div_pos h.2.2 (by omega))
theorem cf_tb {n o : Nat} (t : Nat) (h2 : o ≤ n) : cf (fun i => decide ((i + t) % n < o)) n = o := by
  rw [cf_turn (f := fun i => decide (i % n < o)) (fun i => by simp) t, cf_congr (g := fun i => decide (i < o)) (fun i hi => by simp [Nat.mod_eq_of_lt hi])]
  exact cf_lt o n h2
theorem pop_tws {n o t : Nat} (h2 : o < n) (hn : n ≤ 64) : popTo (tws n o t 64) n = o := by
  rw [popTo_cf, cf_congr (g := fun i => decide ((i + t) % n < o)) (fun i hi => by rw [tws_at n o t (by omega), tb_mod])]
  exact cf_tb t (by omega)
theorem al_tws {n o t : Nat} (hn : isSz (n : Int) = true) (h1 : 1 ≤ o) (h2 : o < n) : al (tws n o t 64) n = true := by
  have h64 := sz_dvd hn
  unfold al
  rw [decide_eq_true ((same_per h64.1 (by omega)).2 (tws_per o t)), Bool.true_and, beq_iff_eq]
  rw [show 64 = n + (64 - n) by omega, edg_past, edg_cf _ _ _ (Nat.le_refl _), ← show 64 = n + (64 - n) by omega]
  rw [cf_congr (g := fun i => decide ((i + t) % n = o - 1) || decide ((i + t) % n = n - 1)) (fun i hi => by
    rw [tws_at n o t (by omega), tws_at n o t (Nat.mod_lt _ (by omega)), tb_mod, ← tb_per, Nat.mod_mod_of_dvd _ h64.1, tb_per, tb_mod]
    have hr : (i + t) % n < n := Nat.mod_lt _ (by omega)
    have e : (i + 1 + t) % n = ((i + t) % n + 1) % n := by rw [Nat.mod_add_mod]; congr 1; omega
    rw [e]
    generalize (i + t) % n = r at *
    by_cases g : r = n - 1
    · subst g
      rw [show n - 1 + 1 = n by omega, Nat.mod_self, decide_eq_true (show 0 < o by omega), decide_eq_true (rfl : n - 1 = n - 1), Bool.or_true, decide_eq_false (show ¬ n - 1 < o by omega)]; rfl
    · rw [Nat.mod_eq_of_lt (show r + 1 < n by omega), decide_eq_false g, Bool.or_false]
      by_cases q : r = o - 1
      · rw [decide_eq_true q, decide_eq_true (show r < o by omega), decide_eq_false (show ¬ r + 1 < o by omega)]; rfl
      · rw [decide_eq_false q]
        by_cases z : r < o
        · rw [decide_eq_true z, decide_eq_true (show r + 1 < o by omega)]; rfl
        · rw [decide_eq_false z, decide_eq_false (show ¬ r + 1 < o by omega)]; rfl)]
  rw [cf_turn (f := fun i => decide (i % n = o - 1) || decide (i % n = n - 1)) (fun i => by simp) t,
    cf_congr (g := fun i => decide (i = o - 1) || decide (i = n - 1)) (fun i hi => by rw [Nat.mod_eq_of_lt hi]),
    cf_or (f := fun i => decide (i = o - 1)) (g := fun i => decide (i = n - 1)) n (fun i _ g => by
      have a := of_decide_eq_true g.1; have b := of_decide_eq_true g.2; omega), cf_eq, cf_eq, if_pos (by omega), if_pos (by omega)]
/-- a word of equal elements with two edges each is one of those words -/
theorem al_word {v n : Nat} (hv : v < 2 ^ 64) (hn : isSz (n : Int) = true) (h : al v n = true) : ∃ o t, 1 ≤ o ∧ o < n ∧ t < n ∧ v = tws n o t 64 := by
  have h64 := sz_dvd hn
  unfold al at h
  rw [Bool.and_eq_true, beq_iff_eq] at h
  have hp := (same_per h64.1 (by omega)).1 (of_decide_eq_true h.1)
  have he := h.2
  rw [show 64 = n + (64 - n) by omega, edg_past, edg_cf _ _ _ (Nat.le_refl _)] at he
  obtain ⟨e1, e2, h12, h2n, f1, f2, only⟩ := cf_two he
  have edge : ∀ i, i < n → (v.testBit i != v.testBit ((i + 1) % 64)) = (v.testBit (i % n) != v.testBit ((i + 1) % n)) := fun i hi => by
    rw [hp i (by omega), hp ((i + 1) % 64) (Nat.mod_lt _ (by omega)), Nat.mod_mod_of_dvd _ h64.1]
  have run : ∀ i, i ≤ n → v.testBit (i % n) = if i ≤ e1 then v.testBit 0 else if i ≤ e2 then !v.testBit 0 else v.testBit 0 := by
    intro i
    induction i with
    | zero => intro _; rw [Nat.zero_mod, if_pos (by omega)]
    | succ i ih =>
      intro hi
      have a := ih (by omega)
      have b := edge i (by omega)
      have g := only i (by omega)
      by_cases x1 : i = e1
      · subst x1
        rw [b, a, if_pos (Nat.le_refl _)] at f1
        rw [if_neg (by omega), if_pos (by omega)]
        revert f1; cases v.testBit 0 <;> cases v.testBit ((i + 1) % n) <;> simp
      · by_cases x2 : i = e2
        · subst x2
          rw [b, a, if_neg (by omega), if_pos (Nat.le_refl _)] at f2
          rw [if_neg (by omega), if_neg (by omega)]
          revert f2; cases v.testBit 0 <;> cases v.testBit ((i + 1) % n) <;> simp
        · have c : v.testBit (i % n) = v.testBit ((i + 1) % n) := by
            cases q : (v.testBit (i % n) != v.testBit ((i + 1) % n))
            · simpa using q
            · rw [b, q] at g
              rcases g rfl with rfl | rfl
              · exact absurd rfl x1
              · exact absurd rfl x2
          rw [← c, a]
          by_cases y1 : i ≤ e1
          · rw [if_pos y1, if_pos (show i + 1 ≤ e1 by omega)]
          · rw [if_neg y1, if_neg (show ¬ i + 1 ≤ e1 by omega)]
            by_cases y2 : i ≤ e2
            · rw [if_pos y2, if_pos (show i + 1 ≤ e2 by omega)]
            · rw [if_neg y2, if_neg (show ¬ i + 1 ≤ e2 by omega)]
  have big : ∀ i, ¬ i < 64 → v.testBit i = false := fun i hi => Nat.testBit_lt_two_pow (Nat.lt_of_lt_of_le hv (Nat.pow_le_pow_right (by omega) (by omega)))
  have ext : ∀ o t, t < n → (∀ j, j < n → v.testBit (j % n) = decide ((if j + t < n then j + t else j + t - n) < o)) → v = tws n o t 64 := by
    intro o t ht hj
    apply Nat.eq_of_testBit_eq
    intro i
    by_cases hi : i < 64
    · have hl : i % n < n := Nat.mod_lt _ (by omega)
      rw [tws_at n o t hi, ← tb_per, hp i hi]
      have := hj (i % n) hl
      rw [Nat.mod_eq_of_lt hl] at this
      rw [this]; unfold tb; rw [mod_add hl ht]
    · rw [big i hi, tws_bit, decide_eq_false hi]; rfl
  cases v0 : v.testBit 0
  · refine ⟨e2 - e1, n - 1 - e1, by omega, by omega, by omega, ext _ _ (by omega) fun j hj => ?_⟩
    rw [run j (by omega), v0]
    by_cases y1 : j ≤ e1
    · rw [if_pos y1, if_pos (by omega), decide_eq_false (by omega)]
    · rw [if_neg y1, if_neg (show ¬ j + (n - 1 - e1) < n by omega)]
      by_cases y2 : j ≤ e2
      · rw [if_pos y2, decide_eq_true (by omega)]; rfl
      · rw [if_neg y2, decide_eq_false (by omega)]
  · refine ⟨n - (e2 - e1), n - 1 - e2, by omega, by omega, by omega, ext _ _ (by omega) fun j hj => ?_⟩
    rw [run j (by omega), v0]
    by_cases y1 : j ≤ e1
    · rw [if_pos y1, if_pos (by omega), decide_eq_true (by omega)]
    · rw [if_neg y1]
      by_cases y2 : j ≤ e2
      · rw [if_pos y2, if_pos (show j + (n - 1 - e2) < n by omega), decide_eq_false (by omega)]; rfl
      · rw [if_neg y2, if_neg (show ¬ j + (n - 1 - e2) < n by omega), decide_eq_true (by omega)]
theorem al_ones (n : Nat) : al 18446744073709551615 n = false := by
  have : ∀ k, k ≤ 64 → edg 18446744073709551615 n k = 0 := by
    intro k
    induction k with
    | zero => intro _; rfl
    | succ k ih =>
      intro hk
      rw [edg, ih (by omega), if_neg]
      intro g
      have : ∀ i, i < 64 → (18446744073709551615 : Nat).testBit i = true := by decide +kernel
      exact g.2 (by rw [this k (by omega), this _ (Nat.mod_lt _ (by omega))])
  unfold al; rw [this 64 (Nat.le_refl _)]; exact Bool.and_false _
end Lg
