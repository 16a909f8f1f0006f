/- strconv.FormatUint to the base ten: the number's decimal numeral. The laid tables that the walks of a64 read. -/
import Derived.Test.YtbpcidpladnhfaaDoorRows
import Derived.Test.YtbpcidpladnhfaaDoorShelf
import Derived.WalkKit
import Derived.WalkLawsBesides
import Derived.WalkSpells
import Derived.LoopTactic
import Derived.Lib.Hide
import Derived.Lib.AppendIntMem
import Derived.Deep.QuietTactic
import Derived.BigQuiet
import Derived.Below
import Derived.Test.YtbpcidpladnhfaaDoorAa
import Derived.Test.YtbpcidpladnhfaaDoorLq
import Derived.Test.YtbpcidpladnhfaaDoorLw
import Derived.Test.YtbpcidpladnhfaaDoorCXqa
import Derived.Test.YtbpcidpladnhfaaDoorCXlw
import Derived.KernelRfl
namespace Go.Proofs.YtbpcidpladnhfaaDoor
open Go.RowKit Go.Sort

theorem grow_below (w : World) (k : Nat) (os : Array Obj) : Below w.heap.size w (grow (w.drewN k) os) := by
  refine ⟨rfl, rfl, rfl, ?_, fun i hi => ?_⟩
  · show w.heap.size ≤ (w.heap ++ os).size
    rw [Array.size_append]; omega
  · show (w.heap ++ os)[i]? = _
    rw [Array.getElem?_append_left hi]

theorem sliceA (W : World) (b : Nat) (n : Nat) (hn : n ≤ 24) : (Instr.sliceAt 91 (.pointer (some ⟨b, 0, none⟩)) none (some (.int .i64 (n : Int))) none).run Tryd.prog W = .ok (.slice (some ⟨b, 0, none⟩) n 24) W := by
  rw [run_sliceAt_array_h W 91 ⟨b, 0, none⟩ (by simp [Program.arrayLen, Program.elem, Tryd.underlying91]) .i64 (n : Int) (by omega) (by
    rw [show Tryd.prog.arrayLen 91 = 24 by simp [Program.arrayLen, Tryd.underlying91]]; omega)]
  go_simp

set_option maxRecDepth 100000 in
theorem iformatUint_any (u : Nat) (hu : u < 18446744073709551616) (w : World) (htab : Lib.TabIs Tryd.prog w "internal/strconv.uint64pow10" .u64 Lib.pow10Tab) :
    Calls Tryd.prog 63 #[.int .u64 u, .int .i64 10] w fun e w' => e = .returned (.string ⟨(Lib.decDigits u).toArray⟩) ∧ Below w.heap.size w w' := by
  by_cases hi : u < 100
  · have hi' : (u : Int) < 100 := by omega
    go_enter Tryd.func63, Tryd.ntmps63
    go_wp2_with fail
    refine (Tryd.internal_strconv_small u hi _).mono ?_; rintro e w' ⟨rfl, rfl⟩
    go_wp2_with fail
    go_ret
    exact ⟨rfl, Below.refl _ _⟩
  · have hi' : (100 : Int) ≤ u := by omega
    have hu1 : 1 ≤ u := by omega
    have hnd20 : Lib.nDigits u ≤ 20 := by have := Lib.numDigits_eq u hu1 hu; split at this <;> omega
    have hsl := fun W => sliceA W w.heap.size (Lib.nDigits u) (by omega)
    have hH0 := Lib.holds_zero0 w 91 (Lib.nDigits u) (by omega)
    have hfmt := Tryd.internal_strconv_formatBase10 w.heap.size 0 24 u (Array.replicate (Lib.nDigits u) 0) (w.alloc (.cells Lib.zeros24 91)) hH0 (by rw [Array.size_replicate]; exact Lib.lt_pow_nDigits u) hu (by rw [Array.size_replicate]; omega)
    rw [Array.size_replicate] at hfmt
    have HH0 := Lib.hid hH0
    clear hH0 hi
    go_enter Tryd.func63, Tryd.ntmps63
    go_wp2_with fail
    refine (Tryd.internal_strconv_numDigits u hu1 hu _ (Lib.tabIs_alloc htab _)).mono ?_; rintro e w' ⟨rfl, rfl⟩
    go_wp2_with fail
    refine hfmt.mono ?_
    rintro e w' ⟨rfl, k, v', dk, rfl, hF⟩
    have hcv : (convert 93 9 (.slice (some ⟨w.heap.size, 0, none⟩) (Lib.nDigits u) 24)).run Tryd.prog ((putRow (fun (b : UInt8) => Value.int .u8 (b.toNat : Int)) (w.alloc (.cells Lib.zeros24 91)) w.heap.size 0 dk).drewN k) = .ok (.string ⟨(Lib.decDigits u).toArray⟩) ((putRow (fun (b : UInt8) => Value.int .u8 (b.toNat : Int)) (w.alloc (.cells Lib.zeros24 91)) w.heap.size 0 dk).drewN k) := by
      have h := run_convert_bytes_back (P := Tryd.prog) ((putRow (fun (b : UInt8) => Value.int .u8 (b.toNat : Int)) (w.alloc (.cells Lib.zeros24 91)) w.heap.size 0 dk).drewN k) 93 9 5 ⟨w.heap.size, 0, none⟩ 24 (Lib.decDigits u) Tryd.underlying93 Tryd.underlying5 Tryd.underlying9 (fun j hj => by
        rw [Lib.row_is_numeral hF j hj, Lib.add_plain, World.cell?_drewN]
        exact cell?_putRow (fun (b : UInt8) => Value.int .u8 (b.toNat : Int)) _ w.heap.size 0 _ dk HH0.out (by rw [hF.size, Array.size_replicate]) j (by rw [hF.size]; rw [Lib.decDigits_length] at hj; exact hj))
      rw [Lib.decDigits_length] at h
      exact h
    go_wp2
    go_ret
    obtain ⟨os, eo⟩ := Lib.fin_at w (.cells Lib.zeros24 91) dk k 0
    exact ⟨rfl, by rw [eo]; exact grow_below _ _ _⟩
theorem formatUint_any (u : Nat) (hu : u < 18446744073709551616) (w : World) (htab : Lib.TabIs Tryd.prog w "internal/strconv.uint64pow10" .u64 Lib.pow10Tab) :
    Calls Tryd.prog 47 #[.int .u64 u, .int .i64 10] w fun e w' => e = .returned (.string ⟨(Lib.decDigits u).toArray⟩) ∧ Below w.heap.size w w' := by
  go_enter Tryd.func47, Tryd.ntmps47
  go_wp2_with fail
  refine (iformatUint_any u hu _ htab).mono ?_; rintro e w' ⟨rfl, b⟩
  have B := Lib.hid b
  clear b
  go_wp2_with fail
  go_ret
  exact ⟨rfl, B.out⟩
end Go.Proofs.YtbpcidpladnhfaaDoor

/- What the walks of a64 call by contract: texts of numbers, the immediates of layer 19; as symbols. -/
namespace Go.Proofs.YtbpcidpladnhfaaDoor
open Go Go.Proofs Go.RowKit Go.CX Go.SX
open Lg (Enc EncE)

theorem dec_len {u : Nat} (h : u < 18446744073709551616) : (Lib.decDigits u).length ≤ 20 := by
  by_cases h0 : u = 0
  · subst h0; rw [Lib.decDigits, dif_pos (by omega)]; simp
  · rw [Lib.decDigits_length]; have := Lib.numDigits_eq u (by omega) h; split at this <;> omega
theorem itoa_len {n : Int} (h : -9223372036854775808 ≤ n ∧ n ≤ 9223372036854775807) : (Lib.itoa n).length ≤ 21 := by
  by_cases h0 : 0 ≤ n
  · obtain ⟨u, rfl⟩ := Int.eq_ofNat_of_zero_le h0
    have := dec_len (u := u) (by omega)
    rw [Lib.itoa_nonneg]; omega
  · obtain ⟨u, rfl⟩ : ∃ u : Nat, n = -(u : Int) := ⟨n.natAbs, by omega⟩
    have := dec_len (u := u) (by omega)
    rw [Lib.itoa_neg u (by omega), List.length_cons]; omega
/-- what both Encodes of layer 19 answer -/
noncomputable def encP (v : Int) : Int × Bool := open Classical in if h : ∃ p : Int × Bool, Enc v p.1 p.2 ∧ 0 ≤ p.1 ∧ p.1 ≤ 4294967295 then Classical.choose h else (0, false)
theorem encP_range (v : Int) : 0 ≤ (encP v).1 ∧ (encP v).1 ≤ 4294967295 := by
  unfold encP
  split
  · rename_i h; exact (Classical.choose_spec h).2
  · exact ⟨by decide, by decide⟩
theorem enc_one {v c c' : Int} {ok ok' : Bool} (h : Enc v c ok) (h' : Enc v c' ok') : c = c' ∧ ok = ok' := by
  rcases h with ⟨rfl, rfl, h⟩ | ⟨h0, rfl, t, ht, hw, first, rfl⟩ <;> rcases h' with ⟨rfl, rfl, h'⟩ | ⟨h0', rfl, t', ht', hw', first', rfl⟩
  · exact ⟨rfl, rfl⟩
  · exfalso
    rcases h with h | ⟨_, h⟩
    · exact h0' h
    · exact h t' ht' hw'
  · exfalso
    rcases h' with h' | ⟨_, h'⟩
    · exact h0 h'
    · exact h' t ht hw
  · have : t = t' := by
      by_cases a : t < t'
      · exact absurd hw (first' t a)
      · by_cases b : t' < t
        · exact absurd hw' (first t' b)
        · omega
    subst this; exact ⟨rfl, rfl⟩
theorem encP_is {v c : Int} {ok : Bool} (hv : Cq.U64 v) (h : Enc v c ok) : (c, ok) = encP v := by
  have hr : 0 ≤ c ∧ c ≤ 4294967295 := by
    cases ok
    · rw [h.no]; exact ⟨by decide, by decide⟩
    · have := (h.yes hv).1; omega
  have hex : ∃ p : Int × Bool, Enc v p.1 p.2 ∧ 0 ≤ p.1 ∧ p.1 ≤ 4294967295 := ⟨(c, ok), h, hr⟩
  unfold encP
  rw [dif_pos hex]
  have := enc_one h (Classical.choose_spec hex).1
  exact Prod.ext this.1 this.2
theorem least (p : Nat → Prop) : ∀ n, (∃ t, t < n ∧ p t) → ∃ t, t < n ∧ p t ∧ ∀ k, k < t → ¬ p k
  | 0, ⟨t, h, _⟩ => absurd h (by omega)
  | n + 1, ⟨t, h, hp⟩ => by
    by_cases g : ∃ t, t < n ∧ p t
    · obtain ⟨t, h1, h2⟩ := least p n g
      exact ⟨t, by omega, h2⟩
    · have : t = n := by
        by_cases e : t < n
        · exact absurd ⟨t, e, hp⟩ g
        · omega
      subst this
      exact ⟨t, h, hp, fun k hk hq => g ⟨k, hk, hq⟩⟩
theorem enc_exists (v : Int) : ∃ c ok, Enc v c ok := by
  by_cases h0 : v = 0
  · exact ⟨0, false, Or.inl ⟨rfl, rfl, Or.inl h0⟩⟩
  · by_cases g : ∃ t : Nat, t < Lg.szO v.toNat ∧ Lg.TW (Lg.szO v.toNat) (Lg.cnt v) t = v
    · obtain ⟨t, h1, h2, h3⟩ := least (fun t => Lg.TW (Lg.szO v.toNat) (Lg.cnt v) t = v) _ g
      exact ⟨_, true, Or.inr ⟨h0, rfl, t, h1, h2, h3, rfl⟩⟩
    · exact ⟨0, false, Or.inl ⟨rfl, rfl, Or.inr ⟨h0, fun t ht e => g ⟨t, ht, e⟩⟩⟩⟩
/-- what the symbols mean: 1 a number's text, 2 a number's without sign, 4 thirteen bits of a word -/
noncomputable def phE : Nat → List Value → List Value
  | 1, fl => [.string ⟨(Lib.itoa (IntKind.i64.wrap (vint (fl.getD 0 undef)))).toArray⟩]
  | 2, fl => [.string ⟨(Lib.decDigits (IntKind.u64.wrap (vint (fl.getD 0 undef))).toNat).toArray⟩]
  | 4, fl => [.int .u32 (encP (vint (fl.getD 0 undef))).1, .bool (encP (vint (fl.getD 0 undef))).2]
  | _, _ => []
def syE : List (Nat × List So) := [(1, [.str]), (2, [.str]), (4, [.int .u32, .bool])]
theorem fitE : ∀ f j args, (symS syE f j).has ((phE f args).getD j undef) := by
  intro f j args
  match f with
  | 1 =>
    cases j with
    | zero =>
      refine ⟨_, rfl, ?_⟩
      have := itoa_len (n := IntKind.i64.wrap (vint (args.getD 0 undef))) (by rw [IntKind.wrap_i64]; omega)
      show (Lib.itoa _).toArray.size ≤ _
      rw [List.size_toArray]; omega
    | succ j => exact trivial
  | 2 =>
    cases j with
    | zero =>
      refine ⟨_, rfl, ?_⟩
      have := dec_len (u := (IntKind.u64.wrap (vint (args.getD 0 undef))).toNat) (by rw [IntKind.wrap_u64]; omega)
      show (Lib.decDigits _).toArray.size ≤ _
      rw [List.size_toArray]; omega
    | succ j => exact trivial
  | 4 =>
    match j with
    | 0 => exact ⟨_, rfl, (encP_range _).1, (encP_range _).2⟩
    | 1 => exact ⟨_, rfl⟩
    | j + 2 => exact trivial
  | 0 => exact trivial
  | 3 => exact trivial
  | f + 5 => exact trivial

def ssE : List So := [.int .i64, .int .i64, .int .i64, .int .i64, .int .i64, .int .i64, .int .u64, .int .i64, .int .i64, .int .i64, .int .i64]
/-- The context: an instruction's eleven cells. -/
noncomputable def cxE : Cx := ⟨Tryd.prog, ssE, [], vwA, syE⟩
noncomputable def extE : ExtT := orX (orX (numX cxE 46 1 (.int .i64) []) (orX (numX cxE 47 2 (.int .u64) [.int .i64 10]) (numX cxE 50 1 (.int .i64) [.int .i64 10])))
  (conX2 cxE ⟨49, 4, [(false, [.int .u64])]⟩)
theorem TabsA.same {w w' : World} (h : TabsA w) (hb : ∀ k, k < w.heap.size → w'.heap[k]? = w.heap[k]?) : TabsA w' := by
  have one : ∀ {nm : String} {k : IntKind} {zs : List Int}, Lib.TabIs Tryd.prog w nm k zs → Lib.TabIs Tryd.prog w' nm k zs := by
    intro nm k zs h
    unfold Lib.TabIs World.var? at *
    cases hg : Tryd.prog.globalNamed nm with
    | none => rw [hg] at h; simp at h
    | some g =>
      rw [hg] at h
      simp only [Option.bind_some] at h ⊢
      have hlt : g < w.heap.size := by
        cases hq : w.heap[g]? with
        | none => rw [hq] at h; simp at h
        | some o => exact (Array.getElem?_eq_some_iff.1 hq).1
      rw [hb g hlt]
      exact h
  obtain ⟨h1, h2, h3⟩ := h
  exact ⟨one h1, one h2, one h3⟩
theorem pow10L_is : pow10L = Lib.pow10Tab := by kernel_rfl
theorem TabsA.pow {w : World} (h : TabsA w) : Lib.TabIs Tryd.prog w "internal/strconv.uint64pow10" .u64 Lib.pow10Tab := pow10L_is ▸ h.1
theorem extE_ok {w : World} (h : TabsA w) : ExtOk ⟨w, vwA⟩ cxE phE extE := by
  refine orX_ok (orX_ok (numX_ok (enters Tryd.func46 (c := Tryd.f46.body.getD .skip) (by kernel_rfl) (by kernel_rfl)) ?_)
      (orX_ok (numX_ok (enters Tryd.func47 (c := Tryd.f47.body.getD .skip) (by kernel_rfl) (by kernel_rfl)) ?_)
        (numX_ok (enters Tryd.func50 (c := Tryd.f50.body.getD .skip) (by kernel_rfl) (by kernel_rfl)) ?_)))
    (conX2_ok ⟨enters Tryd.func49 (c := Tryd.f49.body.getD .skip) (by kernel_rfl) (by kernel_rfl), ?_⟩)
  · rintro w' v hb ⟨n, rfl, h1, h2⟩
    refine (Tryd.strconv_Itoa n h1 h2 w' (h.same hb).pow).mono ?_
    rintro e w'' ⟨rfl, k, os, rfl⟩
    refine ⟨?_, grow_below _ _ _⟩
    show _ = Ending.returned (.string ⟨(Lib.itoa (IntKind.i64.wrap n)).toArray⟩)
    rw [IntWalk.i64_in n ⟨h1, h2⟩]
  · rintro w' v hb ⟨n, rfl, h1, h2⟩
    obtain ⟨u, rfl⟩ := Int.eq_ofNat_of_zero_le (show 0 ≤ n from h1)
    have h2 : (u : Int) ≤ 18446744073709551615 := h2
    refine (formatUint_any u (by omega) w' (h.same hb).pow).mono ?_
    rintro e w'' ⟨rfl, hbl⟩
    refine ⟨?_, hbl⟩
    show _ = Ending.returned (.string ⟨(Lib.decDigits (IntKind.u64.wrap (u : Int)).toNat).toArray⟩)
    rw [IntWalk.u64_in (u : Int) ⟨by omega, by omega⟩]; rfl
  · rintro w' v hb ⟨n, rfl, h1, h2⟩
    refine (Tryd.strconv_FormatInt_10 n h1 h2 w' (h.same hb).pow).mono ?_
    rintro e w'' ⟨rfl, k, os, rfl⟩
    refine ⟨?_, grow_below _ _ _⟩
    show _ = Ending.returned (.string ⟨(Lib.itoa (IntKind.i64.wrap n)).toArray⟩)
    rw [IntWalk.i64_in n ⟨h1, h2⟩]
  · intro w' xs fl hb hp
    match xs, hp with
    | [x], ⟨f1, f2, hf, hs, hx, h2⟩ =>
      have h2 : f2 = [] := h2
      subst h2
      rw [List.append_nil] at hf
      subst hf
      have hx : fl = [x] := hx
      subst hx
      obtain ⟨v, rfl, g1, g2⟩ := hs.1
      have hv : Cq.U64 v := ⟨g1, by have : v ≤ 18446744073709551615 := g2; omega⟩
      refine (encode_any v hv w').mono ?_
      rintro e w'' ⟨⟨c, ok, rfl, he⟩, hd⟩
      have hq := encP_is hv he
      refine ⟨?_, hd.below⟩
      show _ = Ending.returned (.tuple #[.int .u32 (encP v).1, .bool (encP v).2])
      rw [← hq]
end Go.Proofs.YtbpcidpladnhfaaDoor

/- Whether numbers have so many bits: of the code and of the document. -/
namespace Go.Proofs.YtbpcidpladnhfaaDoor
open Go.RowKit
open Cq (U32 U64 I64 inF field withF onesF fieldN withN ones fitsU fits)

theorem fits_any (v n : Int) (hv : I64 v) (hn : I64 n) (W : World) : Calls Tryd.prog 51 #[.int .i64 v, .int .i64 n] W
    fun e W' => e = .returned (.bool (fits v n)) ∧ W = W' := by
  unfold I64 at hn
  by_cases h1 : n < 1
  · rw [show fits v n = false by unfold fits; rw [decide_eq_false (by omega)]; rfl]
    go_enter Tryd.func51, Tryd.ntmps51
    go_wp2
    go_ret
    exact ⟨rfl, rfl⟩
  · by_cases h2 : 64 < n
    · rw [show fits v n = false by unfold fits; rw [decide_eq_false (by omega)]; rfl]
      have h1' := Int.not_lt.mp h1
      clear h1
      go_enter Tryd.func51, Tryd.ntmps51
      go_wp2
      go_ret
      exact ⟨rfl, rfl⟩
    · obtain ⟨k, rfl⟩ : ∃ k : Nat, n = (k : Int) + 1 := ⟨(n - 1).toNat, by omega⟩
      have hk : k ≤ 63 := by omega
      have HF : Hid (fits v (k + 1) = (v / 2 ^ k == 0 || v / 2 ^ k == -1)) := by
        show fits v (k + 1) = _
        rw [Cq.fits_code hv]; unfold fits; rw [decide_eq_true (by omega), Bool.true_and, show ((k : Int) + 1 - 1).toNat = k from by omega]
      have h1' := Int.not_lt.mp h1
      have h2' := Int.not_lt.mp h2
      clear h1 h2 hn
      by_cases hz : v / 2 ^ k = 0
      · have hz1 : (v / 2 ^ k == 0) = true := by simpa using hz
        go_enter Tryd.func51, Tryd.ntmps51
        go_wp2
        go_ret
        exact ⟨by rw [HF.out, hz1]; rfl, rfl⟩
      · have hz1 : (v / 2 ^ k == 0) = false := by simpa using hz
        clear hz
        go_enter Tryd.func51, Tryd.ntmps51
        go_wp2
        go_ret
        exact ⟨by rw [HF.out, hz1]; rfl, rfl⟩

theorem fitsU_at (w : World) (v : Int) (k : Nat) (h0 : 0 ≤ v) (h1 : v ≤ 18446744073709551615) (k0 : 0 < k) (k1 : k < 63) : Calls Tryd.prog 48 #[.int .u64 v, .int .i64 (Int.ofNat k)] w fun e w' => e = .returned (.bool (decide (v < 2 ^ k))) ∧ Below w.heap.size w w' := by
  refine (fitsU_any v (Int.ofNat k) ⟨h0, by omega⟩ ⟨by have : (0 : Int) ≤ Int.ofNat k := Int.natCast_nonneg k; omega, by have : Int.ofNat k = (k : Int) := rfl; omega⟩ w).mono ?_
  rintro e w' ⟨rfl, rfl⟩
  refine ⟨?_, Below.refl _ _⟩
  congr 2
  unfold fitsU
  have hp : (0 : Int) < 2 ^ k := Int.pow_pos (by omega)
  rw [decide_eq_true (show 1 ≤ Int.ofNat k ∧ Int.ofNat k ≤ 64 by simp; omega), Bool.true_and, show (Int.ofNat k).toNat = k from rfl]
  apply decide_eq_decide.2
  constructor
  · intro h
    have := Int.lt_ediv_add_one_mul_self v hp
    rw [h] at this; omega
  · intro h
    exact Int.ediv_eq_zero_of_lt h0 h
theorem fits_at (w : World) (v : Int) (k : Nat) (h0 : -9223372036854775808 ≤ v) (h1 : v ≤ 9223372036854775807) (hk : k = 21 ∨ k = 28) : Calls Tryd.prog 51 #[.int .i64 v, .int .i64 (Int.ofNat k)] w fun e w' => e = .returned (.bool (decide (-(2 : Int) ^ (k - 1) ≤ v ∧ v < 2 ^ (k - 1)))) ∧ Below w.heap.size w w' := by
  refine (fits_any v (Int.ofNat k) ⟨h0, h1⟩ ⟨by rcases hk with rfl | rfl <;> decide, by rcases hk with rfl | rfl <;> decide⟩ w).mono ?_
  rintro e w' ⟨rfl, rfl⟩
  refine ⟨?_, Below.refl _ _⟩
  congr 2
  unfold fits
  rcases hk with rfl | rfl
  · rw [decide_eq_true (by decide), Bool.true_and]
    apply decide_eq_decide.2
    show v / 2 ^ 20 = v / 9223372036854775808 ↔ -(2 : Int) ^ 20 ≤ v ∧ v < 2 ^ 20
    omega
  · rw [decide_eq_true (by decide), Bool.true_and]
    apply decide_eq_decide.2
    show v / 2 ^ 27 = v / 9223372036854775808 ↔ -(2 : Int) ^ 27 ≤ v ∧ v < 2 ^ 27
    omega
end Go.Proofs.YtbpcidpladnhfaaDoor

/- Which instructions there may be: the code and the document answer alike; what carries it out. -/
namespace Go.Proofs.YtbpcidpladnhfaaDoor
open Go Go.Proofs Go.RowKit Go.CX Go.SX
noncomputable def extF : ExtT := orX extE (orX (fitsUX cxE 48) (fitsX cxE 51))
theorem extF_ok {w : World} (h : TabsA w) : ExtOk ⟨w, vwA⟩ cxE phE extF :=
  orX_ok (extE_ok h) (orX_ok (fitsUX_ok (enters Tryd.func48 (c := Tryd.f48.body.getD .skip) (by kernel_rfl) (by kernel_rfl)) fun w v k h0 h1 k0 k1 => fitsU_at w v k h0 h1 k0 k1)
    (fitsX_ok (enters Tryd.func51 (c := Tryd.f51.body.getD .skip) (by kernel_rfl) (by kernel_rfl)) fun w v k h0 h1 hk => fits_at w v k h0 h1 hk))
def rhoE (fl : List Value) : Nat → Value := fun i => fl.getD i undef
theorem fitsE {fl : List Value} (hs : All2 So.has ssE fl) : Fits cxE.Γ cxE.S (rhoE fl) phE := ⟨fun i => all2_get hs i, fitE⟩
noncomputable def esO (op : Nat) : List E := .int .i64 (Int.ofNat op) :: (List.range 10).map fun i => .var (i + 1)
end Go.Proofs.YtbpcidpladnhfaaDoor

/- Thirteen bits of a word. -/
namespace Go.Proofs.YtbpcidpladnhfaaDoor
open Go Go.Proofs Go.RowKit Go.CX Go.SX Lg
theorem code_13 {n q t : Nat} (hs : isSz (n : Int) = true) (hn : n ≤ 64) (hq : q + 1 < n) (ht : t < n) : code n q t < 8192 := by
  have : n = 2 ∨ n = 4 ∨ n = 8 ∨ n = 16 ∨ n = 32 ∨ n = 64 := by
    have : ∀ n : Nat, n < 65 → isSz (n : Int) = true → n = 2 ∨ n = 4 ∨ n = 8 ∨ n = 16 ∨ n = 32 ∨ n = 64 := by decide +kernel
    exact this n (by omega) hs
  unfold code
  rcases this with h | h | h | h | h | h <;> subst h <;> split <;> omega
theorem encP_13 {v : Int} (hv : Cq.U64 v) : 0 ≤ (encP v).1 ∧ (encP v).1 < 8192 := by
  obtain ⟨c, ok, h⟩ := enc_exists v
  rw [← encP_is hv h]
  rcases h with ⟨rfl, _, _⟩ | ⟨h0, _, t, ht, hw, _, rfl⟩
  · exact ⟨Int.le_refl 0, (by decide : (0 : Int) < 8192)⟩
  · have ⟨hs, h1, h2, h4, e, _, _, ha⟩ := found hv h0 hw
    have h64 := sz_dvd hs
    have l := code_13 (n := szO v.toNat) (q := cnt v - 1) (t := t) hs h64.2.2 (by omega) ht
    exact ⟨by omega, by omega⟩
/-- The fact that operations 13 to 15 want. -/
theorem enc13_hold {fl : List Value} (hs : All2 So.has ssE fl) : Facts.hold (rhoE fl) phE [(.cmp .lss (.conv .u64 (.app 4 0 (toL [.var 6]))) (.int .u64 8192), true)] := by
  have h6 : ∃ n, rhoE fl 6 = .int .u64 n ∧ 0 ≤ n ∧ n ≤ 18446744073709551615 := all2_get hs 6
  obtain ⟨n, h6, hn⟩ := h6
  have hr := encP_13 (v := n) ⟨hn.1, by omega⟩
  intro p hp
  cases List.mem_singleton.mp hp
  show Value.bool (icmp .lss (IntKind.u64.wrap (encP (vint (rhoE fl 6))).1) 8192) = .bool true
  rw [h6]
  show Value.bool (icmp .lss (IntKind.u64.wrap (encP n).1) 8192) = .bool true
  rw [IntKind.wrap_u64]
  congr 1
  exact decide_eq_true (by omega)
end Go.Proofs.YtbpcidpladnhfaaDoor

/- May: from runs at cases to every instruction. -/
namespace Go.Proofs.YtbpcidpladnhfaaDoor
open Go Go.Proofs Go.RowKit Go.CX Go.SX
noncomputable def esW (op w : Nat) : List E := .int .i64 (Int.ofNat op) :: .int .i64 (Int.ofNat w) :: (List.range 9).map fun i => .var (i + 2)
noncomputable def esV (op : Nat) : List E := .int .i64 (Int.ofNat op) :: (List.range 10).map fun i => .var (i + 1)
noncomputable def esA : List E := (List.range 11).map .var
noncomputable def esI (op w k : Nat) : List E := .int .i64 (Int.ofNat op) :: .int .i64 (Int.ofNat w) :: [.var 2, .var 3, .var 4, .var 5, .int .u64 (Int.ofNat k), .var 7, .var 8, .var 9, .var 10]
/-- the fact that width is not k -/
noncomputable def notW (k : Nat) : E × Bool := (.cmp .eql (.var 1) (.int .i64 (Int.ofNat k)), false)
noncomputable def f13 : E × Bool := (.cmp .lss (.conv .u64 (.app 4 0 (toL [.var 6]))) (.int .u64 8192), true)
noncomputable def immLt (k : Nat) : E × Bool := (.cmp .lss (.var 6) (.int .u64 (Int.ofNat k)), true)
noncomputable def immGt (k : Nat) : E × Bool := (.cmp .lss (.int .u64 (Int.ofNat k)) (.var 6), true)
noncomputable def opLt (k : Nat) : E × Bool := (.cmp .lss (.var 0) (.int .i64 (Int.ofNat k)), true)
noncomputable def opGt (k : Nat) : E × Bool := (.cmp .lss (.int .i64 (Int.ofNat k)) (.var 0), true)
theorem a2c {α β : Type} {P : α → β → Prop} {s : α} {ss : List α} {fl : List β} (h : All2 P (s :: ss) fl) : ∃ x xs, fl = x :: xs ∧ P s x ∧ All2 P ss xs := by
  cases fl with
  | nil => exact h.elim
  | cons x xs => exact ⟨x, xs, rfl, h.1, h.2⟩
theorem cells11 {fl : List Value} (hs : All2 So.has ssE fl) : ∃ (o w : Int) (a b c d : Value) (v : Int) (e f g h : Value), fl = [.int .i64 o, .int .i64 w, a, b, c, d, .int .u64 v, e, f, g, h] := by
  obtain ⟨x0, l0, rfl, ⟨o, rfl, _⟩, t0⟩ := a2c hs
  obtain ⟨x1, l1, rfl, ⟨w, rfl, _⟩, t1⟩ := a2c t0
  obtain ⟨a, l2, rfl, _, t2⟩ := a2c t1
  obtain ⟨b, l3, rfl, _, t3⟩ := a2c t2
  obtain ⟨c, l4, rfl, _, t4⟩ := a2c t3
  obtain ⟨d, l5, rfl, _, t5⟩ := a2c t4
  obtain ⟨x6, l6, rfl, ⟨v, rfl, _⟩, t6⟩ := a2c t5
  obtain ⟨e, l7, rfl, _, t7⟩ := a2c t6
  obtain ⟨f, l8, rfl, _, t8⟩ := a2c t7
  obtain ⟨g, l9, rfl, _, t9⟩ := a2c t8
  obtain ⟨h, l10, rfl, _, t10⟩ := a2c t9
  cases l10 with
  | nil => exact ⟨o, w, a, b, c, d, v, e, f, g, h, rfl⟩
  | cons _ _ => exact t10.elim
theorem hold_nil {ρ : Nat → Value} {φ : Nat → List Value → List Value} : Facts.hold ρ φ [] := fun _ h => absurd h (List.not_mem_nil)
theorem hold_cons {ρ : Nat → Value} {φ : Nat → List Value → List Value} (p : E × Bool) {fs : Facts} (h : p.1.den ρ φ = .bool p.2) (hf : Facts.hold ρ φ fs) : Facts.hold ρ φ (p :: fs) := by
  intro q hq
  rcases List.mem_cons.mp hq with rfl | hq
  · exact h
  · exact hf q hq
theorem dTrue {p : Prop} [Decidable p] (h : p) : Value.bool (decide p) = .bool true := by rw [decide_eq_true h]
theorem dFalse {p : Prop} [Decidable p] (h : ¬ p) : Value.bool (decide p) = .bool false := by rw [decide_eq_false h]
end Go.Proofs.YtbpcidpladnhfaaDoor

/- Which fields an operation has, as the document says: carried out by the kernel for each operation and each question. -/
namespace Go.Proofs.YtbpcidpladnhfaaDoor
open Go Go.Proofs Go.RowKit Go.CX Go.SX
/-- the document's letters -/
def refL : Nat → List UInt8
  | 1 | 2 => [101, 98, 105]
  | 3 | 4 => [100, 98, 105]
  | 5 | 6 | 7 | 8 | 9 | 10 | 11 | 12 => [100, 110, 109, 115]
  | 13 | 14 | 15 => [101, 110, 108]
  | 16 | 17 | 18 => [100, 119, 104]
  | 19 | 20 => [100, 110, 109, 97]
  | 21 | 22 | 23 | 24 | 25 | 26 | 27 | 28 => [100, 110, 109]
  | 29 | 30 => [100, 110, 115, 114]
  | 31 | 32 => [100, 110, 109, 99]
  | 33 | 34 => [100, 98, 117, 122]
  | 35 | 36 | 37 => [100, 98, 122]
  | 38 => [100, 98, 116, 122]
  | 39 => [102]
  | 40 => [106]
  | 41 => [107, 103]
  | 42 | 43 => [100, 103]
  | 44 => [110]
  | 45 | 46 => [119]
  | _ => []
def hasB (k : Nat) (s : List UInt8) : Bool := (refL k).any fun c => s.any fun b => Nat.beq b.toNat c.toNat
def nameB (k : Nat) : List UInt8 := A64.name k
set_option maxRecDepth 100000
theorem rows_run : ((List.range 47).all fun k => rowRun Tryd.prog 1000 16 nameB refL A64.base (k + 1)) = true := by kernel_rfl
theorem row_any (k : Nat) (h0 : 1 ≤ k) (h1 : k ≤ 47) (w : World) : Calls Tryd.prog 16 #[.int .i64 (Int.ofNat k)] w fun e w' => e = .returned (.agg #[strOf (nameB k), .int .u64 (Int.ofNat (A64.base k)), strOf (refL k)]) ∧ Below w.heap.size w w' := by
  obtain ⟨j, rfl⟩ : ∃ j, k = j + 1 := ⟨k - 1, by omega⟩
  exact rowRun_ok names_ok (List.all_eq_true.1 rows_run j (List.mem_range.2 (by omega))) w
theorem refL_len (k : Nat) : (refL k).length ≤ 4 := by
  unfold refL; split <;> decide
/-- one of the letters -/
def hit (c : UInt8) (s : List UInt8) : Bool := s.any fun b => Nat.beq b.toNat c.toNat
theorem hit_succ {c b : UInt8} {s : List UInt8} {m : Nat} (h : s[m]? = some b) : hit c (s.take (m + 1)) = (hit c (s.take m) || Nat.beq b.toNat c.toNat) := by
  unfold hit; rw [List.take_add_one, h, List.any_append]; simp
theorem nbeq_no {a b : Nat} (h : ¬ a = b) : Nat.beq a b = false := by
  cases hq : Nat.beq a b
  · rfl
  · exact absurd (Nat.eq_of_beq_eq_true hq) h
theorem hits_succ {c : UInt8} {f s : List UInt8} {m : Nat} (h : f[m]? = some c) : (f.take (m + 1)).any (fun c => hit c s) = ((f.take m).any (fun c => hit c s) || hit c s) := by
  rw [List.take_add_one, h, List.any_append]; simp
theorem any_take {p : UInt8 → Bool} {l : List UInt8} {m : Nat} (h : (l.take m).any p = true) : l.any p = true := by
  obtain ⟨x, hx, hp⟩ := List.any_eq_true.1 h
  exact List.any_eq_true.2 ⟨x, List.mem_of_mem_take hx, hp⟩
theorem row_field (W : World) (a b c : Value) : (Instr.field 53 (.agg #[a, b, c]) 2).run Tryd.prog W = .ok c W := by
  simp [Instr.field, underlying, Tryd.underlying53, asAgg, part]
theorem str_index (W : World) {fb : ByteArray} {f : List UInt8} {j : Nat} {c : UInt8} (h : fb = ⟨f.toArray⟩) (hc : f[j]? = some c) : (Instr.index 9 (.string fb) (.int .i64 (j : Int))).run Tryd.prog W = .ok (.int .u8 (c.toNat : Int)) W := by
  subst h
  obtain ⟨hj, rfl⟩ := List.getElem?_eq_some_iff.1 hc
  have hs : j < (⟨f.toArray⟩ : ByteArray).size := by show j < f.toArray.size; rw [List.size_toArray]; exact hj
  have e : (⟨f.toArray⟩ : ByteArray)[j]? = some f[j] := by
    rw [getElem?_pos (⟨f.toArray⟩ : ByteArray) j hs]
    rfl
  have ha : (asIntOf (.int .i64 (j : Int))).run Tryd.prog W = .ok (.i64, (j : Int)) W := rfl
  simp [Instr.index, underlying, Tryd.underlying9, ha, e]
set_option maxHeartbeats 4000000 in
theorem has_any (k : Nat) (s : List UInt8) (h0 : 1 ≤ k) (h1 : k ≤ 47) (hs : s.length ≤ 100) (w : World) : Calls Tryd.prog 10 #[.int .i64 (k : Int), strOf s] w fun e w' => e = .returned (.bool (hasB k s)) ∧ Below w.heap.size w w' := by
  have hr := row_any k h0 h1 w
  have hasE : hasB k s = (refL k).any (fun c => hit c s) := rfl
  rw [hasE]
  have hfl := refL_len k
  obtain ⟨f, hf⟩ : ∃ f, f = refL k := ⟨_, rfl⟩
  rw [← hf] at hr hfl ⊢
  obtain ⟨n, hn⟩ : ∃ n, n = f.length := ⟨_, rfl⟩
  obtain ⟨m, hm⟩ : ∃ m, m = s.length := ⟨_, rfl⟩
  have hfz : (⟨f.toArray⟩ : ByteArray).size = n := by rw [hn]; exact List.size_toArray
  have hsz : (⟨s.toArray⟩ : ByteArray).size = m := by rw [hm]; exact List.size_toArray
  obtain ⟨fb, hfb⟩ : ∃ fb : ByteArray, fb = ⟨f.toArray⟩ := ⟨_, rfl⟩
  obtain ⟨sb, hsb⟩ : ∃ sb : ByteArray, sb = ⟨s.toArray⟩ := ⟨_, rfl⟩
  unfold strOf at *
  rw [← hfb] at hfz hr
  rw [← hsb] at hsz ⊢
  generalize Value.int IntKind.u64 (Int.ofNat (A64.base k)) = v1 at hr
  generalize Value.string ⟨(nameB k).toArray⟩ = v0 at hr
  have HR := Lib.hid hr
  have HF := Lib.hid hfb
  have HS := Lib.hid hsb
  have HN := Lib.hid hn
  have HM := Lib.hid hm
  rw [← hn] at hfl
  rw [← hm] at hs
  clear hr hf hasE hfb hsb hn hm
  go_enter Tryd.func10, Tryd.ntmps10
  go_wp2_with fail
  refine HR.out.mono ?_; rintro e w2 ⟨rfl, hb2⟩
  have HB2 := Lib.hid hb2
  clear hb2
  have hfld := row_field w2 v0 v1 (.string fb)
  go_wp2_with fail
  go_loopw [6, 7] (fun i _ wr => ∃ j : Nat, j ≤ n ∧ i = .int .i64 j ∧ (f.take j).any (fun c => hit c s) = false ∧ Below w.heap.size w wr) (fun i _ _ => n - (intOf i).toNat)
  case atStart => exact ⟨0, Nat.zero_le _, rfl, rfl, HB2.out⟩
  case round =>
    obtain ⟨j, hj, rfl, hno, hbr⟩ := hrel
    have HBR := Lib.hid hbr
    have HNO := Lib.hid hno
    clear hbr hno
    by_cases hlt : j < n
    · obtain ⟨c, hc⟩ : ∃ c, f[j]? = some c := ⟨_, List.getElem?_eq_getElem (by have := HN.out; omega)⟩
      have HC := Lib.hid hc
      have hjn : (j : Int) < n := by omega
      clear hc
      go_wp2_with fail
      go_loopw [7] (fun i wr => ∃ l : Nat, l ≤ m ∧ i = .int .i64 l ∧ hit c (s.take l) = false ∧ Below w.heap.size w wr) (fun i _ => m - (intOf i).toNat)
      case atStart => exact ⟨0, Nat.zero_le _, rfl, rfl, HBR.out⟩
      case round =>
        obtain ⟨l, hl, rfl, hno2, hb3⟩ := hrel
        have HB3 := Lib.hid hb3
        have HNO2 := Lib.hid hno2
        clear hb3 hno2
        by_cases hlm : l < m
        · obtain ⟨b, hb⟩ : ∃ b, s[l]? = some b := ⟨_, List.getElem?_eq_getElem (by have := HM.out; omega)⟩
          have HB := Lib.hid hb
          have hlm' : (l : Int) < m := by omega
          have i1 := fun W => str_index W HF.out HC.out
          have i2 := fun W => str_index W HS.out HB.out
          clear hb
          by_cases he : c.toNat = b.toNat
          · have ht : ((c.toNat : Int) == (b.toNat : Int)) = true := by rw [beq_iff_eq]; exact_mod_cast he
            have HE := Lib.hid he
            clear he
            go_wp2_with fail
            go_region
            go_wp2_with fail
            go_ret
            refine ⟨?_, by first | exact HB3.out | exact HB3.out.drew⟩
            have h1 : hit c (s.take (l + 1)) = true := by rw [hit_succ HB.out, HE.out]; simp
            have h2 : hit c s = true := by obtain ⟨x, hx, hp⟩ := List.any_eq_true.1 h1; exact List.any_eq_true.2 ⟨x, List.mem_of_mem_take hx, hp⟩
            have h3 : f.any (fun c => hit c s) = true := List.any_eq_true.2 ⟨c, List.mem_of_getElem? HC.out, h2⟩
            rw [h3]
            rfl
          · have ht : ((c.toNat : Int) == (b.toNat : Int)) = false := by rw [beq_eq_false_iff_ne]; exact_mod_cast he
            have HE : Hid (¬ b.toNat = c.toNat) := Lib.hid fun h => he h.symm
            clear he
            go_wp2_with fail
            go_region
            go_wp2_with fail
            go_roundw
            case rel => exact ⟨l + 1, by omega, by go_num, by rw [hit_succ HB.out, HNO2.out, nbeq_no HE.out]; rfl, by first | exact HB3.out | exact HB3.out.drew⟩
            case measure => simp [intOf]; omega
        · obtain rfl : l = m := by omega
          go_wp2_with fail
          go_roundw
          case rel => exact ⟨j + 1, by omega, by go_num, by rw [hits_succ HC.out, HNO.out]; have := HNO2.out; rw [List.take_of_length_le (by have := HM.out; omega)] at this; rw [this]; rfl, HB3.out⟩
          case measure => simp [intOf]; omega
    · obtain rfl : j = n := by omega
      go_wp2_with fail
      go_ret
      refine ⟨?_, HBR.out⟩
      have := HNO.out
      rw [List.take_of_length_le (by have := HN.out; omega)] at this
      rw [this]
      rfl
end Go.Proofs.YtbpcidpladnhfaaDoor

/- Layer 20: what is asked of an instruction, of the code's and the document's May, Encode and Show at once: what carries it out. -/
namespace Go.Proofs.YtbpcidpladnhfaaDoor
open Go Go.Proofs Go.RowKit Go.CX Go.SX
noncomputable def extG : ExtT := orX extF (hasX 10 1 47 100 hasB)
theorem extG_ok {w : World} (h : TabsA w) : ExtOk ⟨w, vwA⟩ cxE phE extG :=
  orX_ok (extF_ok h) (hasX_ok (enters Tryd.func10 (c := Tryd.f10.body.getD .skip) (by kernel_rfl) (by kernel_rfl)) fun w k s h0 h1 hs => has_any k s h0 h1 hs w)
def argsG (op m : Nat) : List CX.SV := [.one ⟨true, (A64.cellsE op m).map .e⟩]
noncomputable def mayG (f op m : Nat) : Bool := mayC cxE extG 3000 0 f (argsG op m) 60 (A64.start13 op m) (A64.conds op m)
/-- Both at once. -/
noncomputable def instG (op m : Nat) : Bool := mayG 13 op m
/-- An instruction that may never be, by facts. -/
noncomputable def noG (es : List E) (fs : Facts) : Bool := mayC cxE extG 3000 0 13 [.one ⟨true, es.map .e⟩] 60 fs [(.bool false, true)]
def AllI : List (Nat × Nat) → Prop
  | [] => True
  | p :: l => instG p.1 p.2 = true ∧ AllI l
theorem allI_mem : ∀ {l : List (Nat × Nat)} {p : Nat × Nat}, AllI l → p ∈ l → instG p.1 p.2 = true
  | _ :: l, p, h, hp => by
    rcases List.mem_cons.1 hp with rfl | hp
    · exact h.1
    · exact allI_mem h.2 hp
/-- The width is none of these. -/
def widths (op : Nat) : List Nat := if A64.acc op then [1, 2, 4, 8] else [8]
noncomputable def notWs (op : Nat) : Facts := (widths op).map notW
def AllN : List Nat → Prop
  | [] => True
  | k :: l => noG (esV k) (notWs k) = true ∧ AllN l
theorem allN_mem : ∀ {l : List Nat} {k : Nat}, AllN l → k ∈ l → noG (esV k) (notWs k) = true
  | _ :: l, k, h, hk => by
    rcases List.mem_cons.1 hk with rfl | hk
    · exact h.1
    · exact allN_mem h.2 hk
end Go.Proofs.YtbpcidpladnhfaaDoor
