/- Plain mathematics of layer 19: both Encodes agree; what is encoded is decoded. -/
import Derived.Test.YtlhinabodofjeaaLp
namespace Lg
open Go
open Cq

theorem word_of {v : Int} (hv : U64 v) {n o t : Nat} (hok : okT n o t = true) (h : TW n o t = v) : v.toNat = tws n o t 64 := by
  have e : TW n o t = (tws n o t 64 : Int) := by unfold TW; rw [hok]; rfl
  rw [e] at h; subst h; rfl
theorem ok_of {v : Int} (h0 : v ≠ 0) {n o t : Int} (h : TW n o t = v) : okT n o t = true := by
  cases g : okT n o t
  · rw [TW_zero g] at h; exact absurd h.symm h0
  · rfl
theorem found {v : Int} (hv : U64 v) (h0 : v ≠ 0) {n o t : Nat} (h : TW n o t = v) : isSz (n : Int) = true ∧ 1 ≤ o ∧ o < n ∧ t < n ∧ v.toNat = tws n o t 64 ∧ szO v.toNat = n ∧ popTo v.toNat n = o ∧ al v.toNat n = true := by
  have hok := ok_of h0 h
  have ⟨hs, h1, h2, _, h4⟩ := okT_is hok
  have e := word_of hv hok h
  have h64 := sz_dvd hs
  refine ⟨hs, by omega, by omega, by omega, e, ?_, ?_, ?_⟩
  · rw [e]; exact szO_tws hs (by omega) (by omega) (by omega)
  · rw [e]; exact pop_tws (by omega) (by omega)
  · rw [e]; exact al_tws hs (by omega) (by omega)
theorem sz_pow {n : Nat} (h : isSz (n : Int) = true) : ∃ k, k < 6 ∧ n = 2 ^ (k + 1) := by
  rcases isSz_cases h with h | h | h | h | h | h
  · exact ⟨0, by omega, by omega⟩
  · exact ⟨1, by omega, by omega⟩
  · exact ⟨2, by omega, by omega⟩
  · exact ⟨3, by omega, by omega⟩
  · exact ⟨4, by omega, by omega⟩
  · exact ⟨5, by omega, by omega⟩
theorem pow_sz {k : Nat} (h : k < 6) : isSz ((2 ^ (k + 1) : Nat) : Int) = true := by
  have : ∀ k : Nat, k < 6 → isSz ((2 ^ (k + 1) : Nat) : Int) = true := by decide +kernel
  exact this k h
/-- at every other size nothing is found -/
theorem fail_else {v : Int} (hv : U64 v) {n : Nat} (h : n ≠ szO v.toNat) : Fail v n := by
  by_cases h0 : v = 0
  · subst h0; exact Or.inl (al_zero n)
  · exact Or.inr fun t _ ht => h ((found hv h0 ht).2.2.2.2.2.1).symm
theorem fail_got {v c : Int} {n : Nat} (h : Fail v n) (g : Got v c n) : False := by
  rcases h with h | h
  · rw [g.1] at h; cases h
  · obtain ⟨_, t, ht, hw, _⟩ := g; exact h t ht hw
theorem fails_at {v : Int} (h : Fails v 6) {n : Nat} (hn : isSz (n : Int) = true) : Fail v n := by
  obtain ⟨k, hk, rfl⟩ := sz_pow hn
  exact h k hk
theorem agree {v c c' : Int} {ok ok' : Bool} (hv : U64 v) (h : Enc v c ok) (h' : EncR v c' ok') : c = c' ∧ ok = ok' := by
  have ⟨hs, hp, hm⟩ := szO_spec v.toNat
  have hc := cnt_pop v
  rcases h with ⟨rfl, rfl, h⟩ | ⟨h0, rfl, t, ht, hw, first, rfl⟩
  · have hf : Fail v (szO v.toNat) := by
      rcases h with h | ⟨_, h⟩
      · subst h; exact Or.inl (al_zero _)
      · refine Or.inr ?_; rw [← hc]; exact h
    rcases h' with ⟨rfl, rfl, _⟩ | ⟨rfl, k, hk, _, _, g⟩
    · exact ⟨rfl, rfl⟩
    · exfalso
      by_cases e : 2 ^ (k + 1) = szO v.toNat
      · rw [e] at g; exact fail_got hf g
      · exact fail_got (fail_else hv e) g
  · have f := found hv h0 hw
    have g0 : Got v ((code (szO v.toNat) (cnt v - 1) t : Nat) : Int) (szO v.toNat) := by
      refine ⟨f.2.2.2.2.2.2.2, t, ht, ?_⟩
      rw [← hc]; exact ⟨hw, first, rfl⟩
    rcases h' with ⟨rfl, rfl, hf⟩ | ⟨rfl, k, hk, _, _, g⟩
    · exact (fail_got (fails_at hf hs) g0).elim
    · by_cases e : 2 ^ (k + 1) = szO v.toNat
      · rw [e] at g
        obtain ⟨_, t', ht', hw', first', rfl⟩ := g
        rw [← hc] at hw' first'
        have : t = t' := by
          by_cases a : t < t'
          · exact absurd hw (first' t a)
          · by_cases b : t' < t
            · exact absurd hw' (first t' b)
            · omega
        subst this
        exact ⟨by rw [hc], rfl⟩
      · exact (fail_got (fail_else hv e) g).elim
theorem szN_code : ∀ n : Nat, n < 33 → isSz (n : Int) = true → ∀ q : Nat, q < 31 → q + 1 < n → szN (64 - 2 * n + q) = n := by decide +kernel
theorem dec_code {n q t : Nat} (hn : isSz (n : Int) = true) (hq : q + 1 < n) (ht : t < n) : dec (code n q t) = TW n (q + 1 : Nat) t := by
  have h64 := sz_dvd hn
  unfold dec code
  by_cases e : n = 64
  · subst e
    rw [if_pos rfl, if_neg (by omega)]
    have z : szB (4096 + 64 * t + q) = 64 := by unfold szB; rw [if_neg (by omega)]
    rw [z, if_neg (by omega), show (4096 + 64 * t + q) % 64 % 64 = q by omega, show (4096 + 64 * t + q) / 64 % 64 % 64 = t by omega]
  · have hn32 : n < 33 := by have := isSz_cases hn; omega
    rw [if_neg e, if_neg (by omega)]
    have a : (64 - 2 * n + 64 * t + q) % 64 = 64 - 2 * n + q := by omega
    have b : (64 - 2 * n + 64 * t + q) / 64 = t := by omega
    have z : szB (64 - 2 * n + 64 * t + q) = n := by
      unfold szB; rw [if_pos (by omega), a]; exact szN_code n hn32 hn q (by omega) hq
    rw [z, if_neg (by omega), a, b]
    have r : (64 - 2 * n + q) % n = q := by
      rcases isSz_cases hn with h | h | h | h | h | h
      · obtain rfl : n = 2 := by omega
        omega
      · obtain rfl : n = 4 := by omega
        omega
      · obtain rfl : n = 8 := by omega
        omega
      · obtain rfl : n = 16 := by omega
        omega
      · obtain rfl : n = 32 := by omega
        omega
      · omega
    rw [r, Nat.mod_eq_of_lt (show t < 64 by omega), Nat.mod_eq_of_lt ht]
theorem code_lt {n q t : Nat} (hn : n ≤ 64) (hq : q + 1 < n) (ht : t < n) : code n q t < 4294967296 := by unfold code; split <;> omega
/-- what Encode finds -/
theorem Enc.yes {v c : Int} (hv : U64 v) (h : Enc v c true) : (0 ≤ c ∧ c < 4294967296) ∧ dec c.toNat = v ∧ v ≠ 0 ∧ v ≠ 18446744073709551615 := by
  rcases h with ⟨_, h, _⟩ | ⟨h0, _, t, ht, hw, _, rfl⟩
  · cases h
  · have ⟨hs, h1, h2, h4, e, _, _, ha⟩ := found hv h0 hw
    have h64 := sz_dvd hs
    have l := code_lt (n := szO v.toNat) (q := cnt v - 1) (t := t) h64.2.2 (by omega) ht
    refine ⟨⟨by omega, by omega⟩, ?_, h0, fun g => ?_⟩
    · show dec (code _ _ _) = v
      rw [dec_code hs (by omega) ht, Nat.sub_add_cancel h1]; exact hw
    · subst g
      rw [show (18446744073709551615 : Int).toNat = 18446744073709551615 from rfl, al_ones] at ha; cases ha
theorem Enc.no {v c : Int} (h : Enc v c false) : c = 0 := by
  rcases h with ⟨h, _⟩ | ⟨_, h, _⟩
  · exact h
  · cases h
/-- Encode finds bits where some size has alike elements with two edges -/
def alAny (v : Nat) : Bool := al v 2 || al v 4 || al v 8 || al v 16 || al v 32 || al v 64
theorem alAny_of {v n : Nat} (hn : isSz (n : Int) = true) (h : al v n = true) : alAny v = true := by
  unfold alAny
  simp only [Bool.or_eq_true]
  rcases isSz_cases hn with g | g | g | g | g | g
  · obtain rfl : n = 2 := by omega
    simp [h]
  · obtain rfl : n = 4 := by omega
    simp [h]
  · obtain rfl : n = 8 := by omega
    simp [h]
  · obtain rfl : n = 16 := by omega
    simp [h]
  · obtain rfl : n = 32 := by omega
    simp [h]
  · obtain rfl : n = 64 := by omega
    simp [h]
theorem alAny_is {v : Nat} (h : alAny v = true) : ∃ n : Nat, isSz (n : Int) = true ∧ al v n = true := by
  unfold alAny at h
  simp only [Bool.or_eq_true] at h
  rcases h with ((((h | h) | h) | h) | h) | h
  · exact ⟨2, rfl, h⟩
  · exact ⟨4, rfl, h⟩
  · exact ⟨8, rfl, h⟩
  · exact ⟨16, rfl, h⟩
  · exact ⟨32, rfl, h⟩
  · exact ⟨64, rfl, h⟩
theorem Enc.word {v c : Int} {ok : Bool} (hv : U64 v) (h : Enc v c ok) {n o t : Nat} (hn : isSz (n : Int) = true) (h1 : 1 ≤ o) (h2 : o < n) (h4 : t < n) (e : v.toNat = tws n o t 64) : ok = true := by
  have h64 := sz_dvd hn
  have hz : szO v.toNat = n := by rw [e]; exact szO_tws hn h1 h2 h4
  have hpop : popTo v.toNat n = o := by rw [e]; exact pop_tws h2 h64.2.2
  have hc : cnt v = o := by rw [cnt_pop, hz, hpop]
  have hok : okT n o t = true := by unfold okT; rw [hn, Bool.true_and]; exact decide_eq_true (by omega)
  have hw : TW n o t = v := by
    unfold TW; rw [hok]
    show (tws n o t 64 : Int) = v
    rw [← e]; have := hv.1; omega
  rcases h with ⟨_, _, h⟩ | ⟨_, h, _⟩
  · exfalso
    rcases h with h | ⟨_, h⟩
    · subst h
      have := TW_pos hok; omega
    · rw [hz, hc] at h; exact h t h4 hw
  · exact h
theorem alike_agree {v c : Int} {ok : Bool} (hv : U64 v) (h : Enc v c ok) : ok = alAny v.toNat := by
  cases g : alAny v.toNat
  · rcases h with ⟨_, h, _⟩ | ⟨h0, _, t, ht, hw, _, _⟩
    · exact h
    · have f := found hv h0 hw
      rw [alAny_of f.1 f.2.2.2.2.2.2.2] at g; cases g
  · obtain ⟨n, hn, ha⟩ := alAny_is g
    obtain ⟨o, t, h1, h2, h4, e⟩ := al_word (by have := hv.2; have := hv.1; have : (2 : Nat) ^ 64 = 18446744073709551616 := by decide
                                                omega) hn ha
    exact h.word hv hn h1 h2 h4 e
theorem turned_found {n o t c : Int} {ok : Bool} (h : Enc (TW n o t) c ok) : ok = (TW n o t != 0) := by
  cases g : okT n o t
  · rw [TW_zero g] at h ⊢
    rcases h with ⟨_, h, _⟩ | ⟨h0, _⟩
    · exact h
    · exact absurd rfl h0
  · have ⟨hs, h1, h2, h3, h4⟩ := okT_is g
    have hp := TW_pos g
    have e : (TW n o t).toNat = tws n.toNat o.toNat t.toNat 64 := by unfold TW; rw [g]; rfl
    have hn0 : 0 ≤ n := by omega
    have : ok = true := h.word (TW_u64 _ _ _) (n := n.toNat) (o := o.toNat) (t := t.toNat) (by rw [show ((n.toNat : Nat) : Int) = n by omega]; exact hs) (by omega) (by omega) (by omega) e
    rw [this]; symm; rw [bne_iff_ne]; omega
end Lg
