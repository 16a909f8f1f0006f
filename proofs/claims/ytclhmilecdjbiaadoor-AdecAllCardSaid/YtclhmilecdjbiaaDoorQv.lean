/- Layer 20: instructions of one word are one instruction. -/
import Derived.Test.YtclhmilecdjbiaaDoorQo
import Derived.Test.YtclhmilecdjbiaaDoorCXdw
import Derived.Test.YtclhmilecdjbiaaDoorLw
import Derived.Below
import Derived.Test.YtclhmilecdjbiaaDoorLq
namespace Go.Proofs.YtclhmilecdjbiaaDoor
open Go Go.Proofs Go.RowKit Go.CX Go.SX Go.CX.A64
theorem apart_all : (insts.all fun p => apartW (A64.const p.1 p.2) (A64.fds p.1 p.2)) = true := by kernel_rfl
theorem unlike_all : (insts.all fun p => insts.all fun q => (Nat.beq p.1 q.1 && Nat.beq p.2 q.2) || unlike (A64.const p.1 p.2) (A64.const q.1 q.2) (maskFl (A64.fds p.1 p.2)) (maskFl (A64.fds q.1 q.2))) = true := by kernel_rfl
theorem cell_num {fl : List Value} (hs : All2 So.has ssE fl) {i : Nat} (hi : ssE.getD i .any = .int .i64) : ∃ n, rhoE fl i = .int .i64 n ∧ -9223372036854775808 ≤ n ∧ n ≤ 9223372036854775807 := by
  have h := all2_get hs i
  rw [hi] at h
  exact h
theorem cell_six {fl : List Value} (hs : All2 So.has ssE fl) : ∃ n, rhoE fl 6 = .int .u64 n ∧ 0 ≤ n ∧ n ≤ 18446744073709551615 := all2_get hs 6
section
variable {fl : List Value} {l : Conds}
theorem c_lt (h : Conds.are (rhoE fl) phE l) {i : Nat} {k : IntKind} {n c : Int} {b : Bool} (hm : (E.cmp .lss (.var i) (.int k c), b) ∈ l) (hn : rhoE fl i = .int k n) : decide (n < c) = b := by
  have := h _ hm
  have : Value.bool (decide (vint (rhoE fl i) < c)) = .bool b := this
  rw [hn] at this
  injection this
theorem c_gt (h : Conds.are (rhoE fl) phE l) {i : Nat} {k : IntKind} {n c : Int} {b : Bool} (hm : (E.cmp .lss (.int k c) (.var i), b) ∈ l) (hn : rhoE fl i = .int k n) : decide (c < n) = b := by
  have := h _ hm
  have : Value.bool (decide (c < vint (rhoE fl i))) = .bool b := this
  rw [hn] at this
  injection this
end
/-- A register. -/
theorem reg_same {fl fl' : List Value} (hs : All2 So.has ssE fl) (hs' : All2 So.has ssE fl') {i : Nat} (hi : ssE.getD i .any = .int .i64) {l l' : Conds} (h : Conds.are (rhoE fl) phE l) (h' : Conds.are (rhoE fl') phE l') (hm : ∀ p ∈ regC i, p ∈ l) (hm' : ∀ p ∈ regC i, p ∈ l')
    (he : vint (rhoE fl i) % 2 ^ 5 = vint (rhoE fl' i) % 2 ^ 5) : rhoE fl i = rhoE fl' i := by
  obtain ⟨n, hn, _⟩ := cell_num hs hi
  obtain ⟨n', hn', _⟩ := cell_num hs' hi
  have a := of_decide_eq_false (c_lt (c := 0) h (hm _ (by simp [regC, i64E])) hn)
  have b := of_decide_eq_false (c_gt (c := 31) h (hm _ (by simp [regC, i64E])) hn)
  have a' := of_decide_eq_false (c_lt (c := 0) h' (hm' _ (by simp [regC, i64E])) hn')
  have b' := of_decide_eq_false (c_gt (c := 31) h' (hm' _ (by simp [regC, i64E])) hn')
  rw [hn, hn'] at he ⊢
  have he : n % 32 = n' % 32 := he
  have : n = n' := by omega
  rw [this]
/-- A small number. -/
theorem small_same {fl fl' : List Value} (hs : All2 So.has ssE fl) (hs' : All2 So.has ssE fl') {i k : Nat} (hi : ssE.getD i .any = .int .i64) {l l' : Conds} (h : Conds.are (rhoE fl) phE l) (h' : Conds.are (rhoE fl') phE l') (hm : ∀ p ∈ smallC i (2 ^ k), p ∈ l) (hm' : ∀ p ∈ smallC i (2 ^ k), p ∈ l')
    (he : vint (rhoE fl i) % 2 ^ k = vint (rhoE fl' i) % 2 ^ k) : rhoE fl i = rhoE fl' i := by
  obtain ⟨n, hn, _⟩ := cell_num hs hi
  obtain ⟨n', hn', _⟩ := cell_num hs' hi
  have a := of_decide_eq_false (c_lt (c := 0) h (hm _ (by simp [smallC, i64E])) hn)
  have b := of_decide_eq_true (c_lt (c := Int.ofNat (2 ^ k)) h (hm _ (by simp [smallC, i64E])) hn)
  have a' := of_decide_eq_false (c_lt (c := 0) h' (hm' _ (by simp [smallC, i64E])) hn')
  have b' := of_decide_eq_true (c_lt (c := Int.ofNat (2 ^ k)) h' (hm' _ (by simp [smallC, i64E])) hn')
  rw [hn, hn'] at he ⊢
  have he : n % 2 ^ k = n' % 2 ^ k := he
  have e : Int.ofNat (2 ^ k) = (2 : Int) ^ k := pow_cast k
  rw [e] at b b'
  rw [Int.emod_eq_of_lt (by omega) b, Int.emod_eq_of_lt (by omega) b'] at he
  rw [he]
/-- An immediate. -/
theorem imm_same {fl fl' : List Value} (hs : All2 So.has ssE fl) (hs' : All2 So.has ssE fl') {k : Nat} {l l' : Conds} (h : Conds.are (rhoE fl) phE l) (h' : Conds.are (rhoE fl') phE l') (hm : (E.cmp .lss (.var 6) (u64E (2 ^ k)), true) ∈ l) (hm' : (E.cmp .lss (.var 6) (u64E (2 ^ k)), true) ∈ l')
    (he : vint (rhoE fl 6) % 2 ^ k = vint (rhoE fl' 6) % 2 ^ k) : rhoE fl 6 = rhoE fl' 6 := by
  obtain ⟨n, hn, n0, _⟩ := cell_six hs
  obtain ⟨n', hn', n0', _⟩ := cell_six hs'
  have b := of_decide_eq_true (c_lt (c := Int.ofNat (2 ^ k)) h hm hn)
  have b' := of_decide_eq_true (c_lt (c := Int.ofNat (2 ^ k)) h' hm' hn')
  rw [hn, hn'] at he ⊢
  have he : n % 2 ^ k = n' % 2 ^ k := he
  have e : Int.ofNat (2 ^ k) = (2 : Int) ^ k := pow_cast k
  rw [e] at b b'
  rw [Int.emod_eq_of_lt n0 b, Int.emod_eq_of_lt n0' b'] at he
  rw [he]
/-- A number by the width. -/
theorem quo_same {fl fl' : List Value} (hs : All2 So.has ssE fl) (hs' : All2 So.has ssE fl') {m : Nat} (hm1 : m = 1 ∨ m = 2 ∨ m = 4 ∨ m = 8) (h : Conds.are (rhoE fl) phE (Lt.w.conds m)) (h' : Conds.are (rhoE fl') phE (Lt.w.conds m))
    (he : vint ((quoW m).den (rhoE fl) phE) % 2 ^ 12 = vint ((quoW m).den (rhoE fl') phE) % 2 ^ 12) : rhoE fl 6 = rhoE fl' 6 := by
  obtain ⟨n, hn, n0, n1⟩ := cell_six hs
  obtain ⟨n', hn', n0', n1'⟩ := cell_six hs'
  have key : ∀ {fl : List Value} {n : Int}, Conds.are (rhoE fl) phE (Lt.w.conds m) → rhoE fl 6 = .int .u64 n → n.tmod m = 0 ∧ IntKind.u64.wrap (n.tdiv m) < 4096 := by
    intro fl n h hn
    have a := h (.cmp .eql (.bin .rem .u64 (.var 6) (u64E m)) (u64E 0), true) List.mem_cons_self
    have b := h (.cmp .lss (quoW m) (u64E 4096), true) (List.mem_cons_of_mem _ List.mem_cons_self)
    have a : Value.bool ((vint (rhoE fl 6)).tmod m == 0) = .bool true := a
    have b : Value.bool (decide (IntKind.u64.wrap ((vint (rhoE fl 6)).tdiv m) < 4096)) = .bool true := b
    rw [hn] at a b
    injection a with a
    injection b with b
    exact ⟨eq_of_beq a, of_decide_eq_true b⟩
  obtain ⟨a, b⟩ := key h hn
  obtain ⟨a', b'⟩ := key h' hn'
  have he : IntKind.u64.wrap ((vint (rhoE fl 6)).tdiv m) % 4096 = IntKind.u64.wrap ((vint (rhoE fl' 6)).tdiv m) % 4096 := he
  rw [hn, hn'] at he ⊢
  have he : IntKind.u64.wrap (n.tdiv m) % 4096 = IntKind.u64.wrap (n'.tdiv m) % 4096 := he
  rw [Int.tmod_eq_emod_of_nonneg n0] at a
  rw [Int.tmod_eq_emod_of_nonneg n0'] at a'
  rw [Int.tdiv_eq_ediv_of_nonneg n0, IntKind.wrap_u64] at b he
  rw [Int.tdiv_eq_ediv_of_nonneg n0', IntKind.wrap_u64] at b' he
  have : n = n' := by rcases hm1 with rfl | rfl | rfl | rfl <;> omega
  rw [this]
/-- A logical immediate. -/
theorem enc_same {fl fl' : List Value} (hs : All2 So.has ssE fl) (hs' : All2 So.has ssE fl') (h : Conds.are (rhoE fl) phE [(encE 1, true)]) (h' : Conds.are (rhoE fl') phE [(encE 1, true)])
    (he : vint ((encE 0).den (rhoE fl) phE) % 2 ^ 13 = vint ((encE 0).den (rhoE fl') phE) % 2 ^ 13) : rhoE fl 6 = rhoE fl' 6 := by
  obtain ⟨n, hn, n0, n1⟩ := cell_six hs
  obtain ⟨n', hn', n0', n1'⟩ := cell_six hs'
  have key : ∀ {fl : List Value} {n : Int}, Conds.are (rhoE fl) phE [(encE 1, true)] → rhoE fl 6 = .int .u64 n → 0 ≤ n → n ≤ 18446744073709551615 → vint ((encE 0).den (rhoE fl) phE) = (encP n).1 ∧ Lg.dec (encP n).1.toNat = n ∧ 0 ≤ (encP n).1 ∧ (encP n).1 < 8192 := by
    intro fl n h hn n0 n1
    have hv : Cq.U64 n := ⟨n0, by omega⟩
    have a := h (encE 1, true) List.mem_cons_self
    have a : Value.bool (encP (vint (rhoE fl 6))).2 = .bool true := a
    rw [hn] at a
    injection a with a
    have a : (encP n).2 = true := a
    obtain ⟨c, ok, hE⟩ := enc_exists n
    have hc := encP_is hv hE
    have h13 := encP_13 hv
    rw [← hc] at a h13 ⊢
    have a : ok = true := a
    subst a
    refine ⟨?_, (hE.yes hv).2.1, h13.1, h13.2⟩
    show (encP (vint (rhoE fl 6))).1 = c
    rw [hn]
    show (encP n).1 = c
    rw [← hc]
  obtain ⟨a, b, c, d⟩ := key h hn n0 n1
  obtain ⟨a', b', c', d'⟩ := key h' hn' n0' n1'
  rw [a, a'] at he
  have he : (encP n).1 % 8192 = (encP n').1 % 8192 := he
  have e : (encP n).1 = (encP n').1 := by omega
  rw [e] at b
  rw [hn, hn', b.symm.trans b']
/-- A distance. -/
theorem off_same {fl fl' : List Value} (hs : All2 So.has ssE fl) (hs' : All2 So.has ssE fl') {k : Nat} {c : Nat} (hk : (k = 19 ∧ c = 1048576) ∨ (k = 26 ∧ c = 134217728)) (h : Conds.are (rhoE fl) phE (offC c)) (h' : Conds.are (rhoE fl') phE (offC c))
    (he : vint ((E.bin .quo .i64 (.var 7) (i64E 4)).den (rhoE fl) phE) % 2 ^ k = vint ((E.bin .quo .i64 (.var 7) (i64E 4)).den (rhoE fl') phE) % 2 ^ k) : rhoE fl 7 = rhoE fl' 7 := by
  obtain ⟨n, hn, n0, n1⟩ := cell_num hs (i := 7) rfl
  obtain ⟨n', hn', n0', n1'⟩ := cell_num hs' (i := 7) rfl
  have key : ∀ {fl : List Value} {n : Int}, Conds.are (rhoE fl) phE (offC c) → rhoE fl 7 = .int .i64 n → n.tmod 4 = 0 ∧ -(c : Int) ≤ n ∧ n < c := by
    intro fl n h hn
    have a := h (.cmp .eql (.bin .rem .i64 (.var 7) (i64E 4)) (i64E 0), true) List.mem_cons_self
    have a : Value.bool ((vint (rhoE fl 7)).tmod 4 == 0) = .bool true := a
    rw [hn] at a
    injection a with a
    have b := of_decide_eq_false (c_lt (c := -Int.ofNat c) h (List.mem_cons_of_mem _ List.mem_cons_self) hn)
    have d := of_decide_eq_true (c_lt (c := Int.ofNat c) h (List.mem_cons_of_mem _ (List.mem_cons_of_mem _ List.mem_cons_self)) hn)
    have e : Int.ofNat c = (c : Int) := rfl
    rw [e] at b d
    exact ⟨eq_of_beq a, by omega, d⟩
  obtain ⟨a, b, d⟩ := key h hn
  obtain ⟨a', b', d'⟩ := key h' hn'
  have he : IntKind.i64.wrap ((vint (rhoE fl 7)).tdiv 4) % 2 ^ k = IntKind.i64.wrap ((vint (rhoE fl' 7)).tdiv 4) % 2 ^ k := he
  rw [hn, hn'] at he ⊢
  have he : IntKind.i64.wrap (n.tdiv 4) % 2 ^ k = IntKind.i64.wrap (n'.tdiv 4) % 2 ^ k := he
  obtain ⟨z, rfl⟩ : ∃ z, n = 4 * z := ⟨n.tdiv 4, by have := Int.mul_tdiv_add_tmod n 4; omega⟩
  obtain ⟨z', rfl⟩ : ∃ z, n' = 4 * z := ⟨n'.tdiv 4, by have := Int.mul_tdiv_add_tmod n' 4; omega⟩
  rw [Int.mul_tdiv_cancel_left z (by decide), Int.mul_tdiv_cancel_left z' (by decide), IntKind.wrap_i64, IntKind.wrap_i64] at he
  have : z = z' := by
    rcases hk with ⟨rfl, rfl⟩ | ⟨rfl, rfl⟩
    · have he : ((z + 9223372036854775808) % 18446744073709551616 - 9223372036854775808) % 524288 = ((z' + 9223372036854775808) % 18446744073709551616 - 9223372036854775808) % 524288 := he
      omega
    · have he : ((z + 9223372036854775808) % 18446744073709551616 - 9223372036854775808) % 67108864 = ((z' + 9223372036854775808) % 18446744073709551616 - 9223372036854775808) % 67108864 := he
      omega
  rw [this]
/-- What a letter's field tells of its cell. -/
theorem letter_same {fl fl' : List Value} (hs : All2 So.has ssE fl) (hs' : All2 So.has ssE fl') (x : A64.Lt) (hx : x ≠ .o) {m : Nat} (hm : m = 1 ∨ m = 2 ∨ m = 4 ∨ m = 8) (h : Conds.are (rhoE fl) phE (x.conds m)) (h' : Conds.are (rhoE fl') phE (x.conds m))
    (he : vint ((x.fd m).1.den (rhoE fl) phE) % 2 ^ (x.fd m).2.1 = vint ((x.fd m).1.den (rhoE fl') phE) % 2 ^ (x.fd m).2.1) : rhoE fl x.cell = rhoE fl' x.cell := by
  have up : ∀ {l r : Conds}, ∀ p ∈ l, p ∈ l ++ r := fun p hp => List.mem_append_left _ hp
  have id : ∀ {l : Conds}, ∀ p ∈ l, p ∈ l := fun p hp => hp
  cases x with
  | D => exact reg_same hs hs' (i := 2) rfl h h' id id he
  | d => exact reg_same hs hs' (i := 2) rfl h h' up up he
  | N => exact reg_same hs hs' (i := 3) rfl h h' id id he
  | n => exact reg_same hs hs' (i := 3) rfl h h' up up he
  | M => exact reg_same hs hs' (i := 4) rfl h h' id id he
  | m => exact reg_same hs hs' (i := 4) rfl h h' up up he
  | A => exact reg_same hs hs' (i := 5) rfl h h' id id he
  | i => exact imm_same hs hs' (k := 12) h h' List.mem_cons_self List.mem_cons_self he
  | k => exact imm_same hs hs' (k := 16) h h' List.mem_cons_self List.mem_cons_self he
  | l => exact enc_same hs hs' h h' he
  | w => exact quo_same hs hs' hm h h' he
  | o => exact absurd rfl hx
  | S => exact small_same hs hs' (i := 10) (k := 6) rfl h h' id id he
  | s => exact small_same hs hs' (i := 10) (k := 2) rfl h h' id id he
  | R => exact small_same hs hs' (i := 9) (k := 6) rfl h h' id id he
  | C => exact small_same hs hs' (i := 8) (k := 4) rfl h h' id id he
  | c => exact small_same hs hs' (i := 8) (k := 4) rfl h h' id id he
  | f => exact off_same hs hs' (Or.inl ⟨rfl, rfl⟩) h h' he
  | F => exact off_same hs hs' (Or.inr ⟨rfl, rfl⟩) h h' he
theorem inst_m {op m : Nat} (hi : (op, m) ∈ insts) (h39 : op ≠ 39) : m = 1 ∨ m = 2 ∨ m = 4 ∨ m = 8 := by
  have := (insts_in _ hi).2.2.2 h39
  unfold widths at this
  split at this
  · simpa using this
  · simp only [List.mem_singleton] at this; exact Or.inr (Or.inr (Or.inr this))
theorem wid_m {op m : Nat} (h39 : op ≠ 39) : A64.wid op m = m := by
  unfold A64.wid
  rw [show Nat.beq op 39 = false from nbeq_no h39]; rfl
theorem no_o {op : Nat} (h39 : op ≠ 39) : ∀ x ∈ A64.letters op, x ≠ .o := by
  intro x hx e
  subst e
  unfold A64.letters at hx
  split at hx <;> first | (exact absurd rfl h39) | (simp at hx)
theorem conds_letter {op m : Nat} (h39 : op ≠ 39) {x : A64.Lt} (hx : x ∈ A64.letters op) : ∀ p ∈ x.conds m, p ∈ A64.conds op m := by
  intro p hp
  unfold A64.conds
  rw [wid_m h39]
  exact List.mem_append_left _ (List.mem_append_left _ (List.mem_flatMap.2 ⟨x, hx, hp⟩))
theorem conds_zero {op m v : Nat} (hv : v ∈ [2, 3, 4, 5, 6, 7, 8, 9, 10]) (hn : ∀ x ∈ A64.letters op, x.cell ≠ v) : A64.zeroC v ∈ A64.conds op m := by
  unfold A64.conds
  refine List.mem_append_right _ (List.mem_map.2 ⟨v, List.mem_filter.2 ⟨hv, ?_⟩, rfl⟩)
  have : ((A64.letters op).any fun x => Nat.beq x.cell v) = false := by
    rw [List.any_eq_false]
    intro x hx
    rw [nbeq_no (hn x hx)]
    simp
  rw [this]; rfl
theorem zero_same {fl fl' : List Value} (hs : All2 So.has ssE fl) (hs' : All2 So.has ssE fl') {v : Nat} (hv : v ∈ [2, 3, 4, 5, 6, 7, 8, 9, 10]) {l : Conds} (h : Conds.are (rhoE fl) phE l) (h' : Conds.are (rhoE fl') phE l) (hm : A64.zeroC v ∈ l) : rhoE fl v = rhoE fl' v := by
  have key : ∀ {fl : List Value}, Conds.are (rhoE fl) phE l → vint (rhoE fl v) = 0 := by
    intro fl h
    have a := h _ hm
    have a : Value.bool (vint (rhoE fl v) == 0) = .bool true := a
    injection a with a
    exact eq_of_beq a
  have a := key h
  have b := key h'
  by_cases h6 : v = 6
  · subst h6
    obtain ⟨n, hn, _⟩ := cell_six hs
    obtain ⟨n', hn', _⟩ := cell_six hs'
    rw [hn] at a ⊢
    rw [hn'] at b ⊢
    have a : n = 0 := a
    have b : n' = 0 := b
    rw [a, b]
  · have hi : ssE.getD v .any = .int .i64 := by
      simp only [List.mem_cons, List.not_mem_nil, or_false] at hv
      rcases hv with rfl | rfl | rfl | rfl | rfl | rfl | rfl | rfl | rfl <;> first | rfl | exact absurd rfl h6
    obtain ⟨n, hn, _⟩ := cell_num hs hi
    obtain ⟨n', hn', _⟩ := cell_num hs' hi
    rw [hn] at a ⊢
    rw [hn'] at b ⊢
    have a : n = 0 := a
    have b : n' = 0 := b
    rw [a, b]
theorem list_same {fl fl' : List Value} (hs : All2 So.has ssE fl) (hs' : All2 So.has ssE fl') (h : ∀ v, v < 11 → rhoE fl v = rhoE fl' v) : fl = fl' := by
  obtain ⟨o, w, a, b, c, d, v, e, f, g, hh, rfl⟩ := cells11 hs
  obtain ⟨o', w', a', b', c', d', v', e', f', g', hh', rfl⟩ := cells11 hs'
  have h0 : Value.int .i64 o = .int .i64 o' := h 0 (by decide)
  have h1 : Value.int .i64 w = .int .i64 w' := h 1 (by decide)
  have h2 : a = a' := h 2 (by decide)
  have h3 : b = b' := h 3 (by decide)
  have h4 : c = c' := h 4 (by decide)
  have h5 : d = d' := h 5 (by decide)
  have h6 : Value.int .u64 v = .int .u64 v' := h 6 (by decide)
  have h7 : e = e' := h 7 (by decide)
  have h8 : f = f' := h 8 (by decide)
  have h9 : g = g' := h 9 (by decide)
  have h10 : hh = hh' := h 10 (by decide)
  rw [h0, h1, h2, h3, h4, h5, h6, h7, h8, h9, h10]
/-- One kind, one letter's cells: one instruction. -/
theorem same_of {fl fl' : List Value} (hs : All2 So.has ssE fl) (hs' : All2 So.has ssE fl') {op m : Nat} (h : Is fl op m) (h' : Is fl' op m) (hl : op ≠ 39 → ∀ x ∈ A64.letters op, rhoE fl x.cell = rhoE fl' x.cell) : fl = fl' := by
  refine list_same hs hs' fun v hv => ?_
  by_cases h0 : v = 0
  · subst h0; exact h.2.1.1.trans h'.2.1.1.symm
  by_cases h1 : v = 1
  · subst h1; exact h.2.1.2.1.trans h'.2.1.2.1.symm
  have hv9 : v ∈ [2, 3, 4, 5, 6, 7, 8, 9, 10] := by
    have : v = 2 ∨ v = 3 ∨ v = 4 ∨ v = 5 ∨ v = 6 ∨ v = 7 ∨ v = 8 ∨ v = 9 ∨ v = 10 := by omega
    simpa using this
  by_cases hx : ∃ x ∈ A64.letters op, x.cell = v
  · obtain ⟨x, hx, rfl⟩ := hx
    by_cases h39 : op = 39
    · subst h39
      have : x = .o := by have : x ∈ [A64.Lt.o] := hx; simpa using this
      subst this
      exact (h.2.1.2.2 rfl).trans (h'.2.1.2.2 rfl).symm
    · exact hl h39 x hx
  · exact zero_same hs hs' hv9 h.2.2 h'.2.2 (conds_zero hv9 fun x hxl e => hx ⟨x, hxl, e⟩)
theorem word_inj {fl fl' : List Value} (hs : All2 So.has ssE fl) (hs' : All2 So.has ssE fl') {op m op' m' : Nat} (h : Is fl op m) (h' : Is fl' op' m') (hw : wordV fl op m = wordV fl' op' m') : fl = fl' := by
  have ha := List.all_eq_true.1 apart_all _ h.1
  have ha' := List.all_eq_true.1 apart_all _ h'.1
  have hu := List.all_eq_true.1 (List.all_eq_true.1 unlike_all _ h.1) _ h'.1
  rcases Bool.or_eq_true _ _ |>.mp hu with hu | hu
  · rw [Bool.and_eq_true] at hu
    have e1 : op = op' := Nat.eq_of_beq_eq_true hu.1
    have e2 : m = m' := Nat.eq_of_beq_eq_true hu.2
    subst e1 e2
    refine same_of hs hs' h h' fun h39 x hx => ?_
    have hc : Conds.are (rhoE fl) phE (x.conds m) := fun p hp => h.2.2 p (conds_letter h39 hx p hp)
    have hc' : Conds.are (rhoE fl') phE (x.conds m) := fun p hp => h'.2.2 p (conds_letter h39 hx p hp)
    refine letter_same hs hs' x (no_o h39 x hx) (inst_m h.1 h39) hc hc' ?_
    have hmem : x.fd m ∈ A64.fds op m := by
      unfold A64.fds
      rw [show Nat.beq op 39 = false from nbeq_no h39]
      exact List.mem_reverse.2 (List.mem_map.2 ⟨x, hx, rfl⟩)
    exact word_fields ha hw hmem
  · exact absurd hw (words_unlike ha ha' hu)
end Go.Proofs.YtclhmilecdjbiaaDoor
/- Walks of layer 19: the word of thirteen bits. -/
namespace Go.Proofs.YtclhmilecdjbiaaDoor
open Go.RowKit
open Cq (U32 U64 I64 inF field withF onesF fieldN withN ones fitsU)
open Lg
theorem sizeIn_any (s : Nat) (hs : s < 64) (W : World) : Calls Tryd.prog 96 #[.int .i64 s] W fun e W' => e = .returned (.int .i64 (szN s : Int)) ∧ W = W' := by
  have hs0 : (0 : Int) ≤ s := by omega
  have hs1 : (s : Int) < 64 := by omega
  go_enter Tryd.func96, Tryd.ntmps96
  go_wp2_with fail
  go_loop [3] (fun i => ∃ k : Nat, k ≤ 5 ∧ i = .int .i64 ((2 ^ (5 - k) : Nat) : Int) ∧ Hid (szK s k = 0)) (fun i => (intOf i).toNat)
  case atStart => exact ⟨0, by omega, rfl, rfl⟩
  case round =>
    obtain ⟨k, hk, rfl, hz⟩ := hrel
    rcases (show k = 0 ∨ k = 1 ∨ k = 2 ∨ k = 3 ∨ k = 4 ∨ k = 5 by omega) with rfl | rfl | rfl | rfl | rfl | rfl
    · have H := and32 s hs
      clear hk
      show Code.wp _ _ _ { tmps := #[.int .i64 s, _, _, .int .i64 32, _, _, _, _, _, _, _, _, _], defers := [] } W
      by_cases c : s / 32 % 2 = 0
      · have F := Lib.hid (szN_found (k := 0) (by omega) hz.out c)
        rw [decide_eq_true c] at H
        go_wp2_with fail
        go_ret
        exact ⟨by rw [F.out]; rfl, rfl⟩
      · have F := Lib.hid (szK_not (k := 0) hz.out c)
        rw [decide_eq_false c] at H
        go_wp2_with fail
        go_round
        case rel => exact ⟨1, by omega, rfl, F⟩
        case measure => decide
    · have H := and16 s hs
      clear hk
      show Code.wp _ _ _ { tmps := #[.int .i64 s, _, _, .int .i64 16, _, _, _, _, _, _, _, _, _], defers := [] } W
      by_cases c : s / 16 % 2 = 0
      · have F := Lib.hid (szN_found (k := 1) (by omega) hz.out c)
        rw [decide_eq_true c] at H
        go_wp2_with fail
        go_ret
        exact ⟨by rw [F.out]; rfl, rfl⟩
      · have F := Lib.hid (szK_not (k := 1) hz.out c)
        rw [decide_eq_false c] at H
        go_wp2_with fail
        go_round
        case rel => exact ⟨2, by omega, rfl, F⟩
        case measure => decide
    · have H := and8 s hs
      clear hk
      show Code.wp _ _ _ { tmps := #[.int .i64 s, _, _, .int .i64 8, _, _, _, _, _, _, _, _, _], defers := [] } W
      by_cases c : s / 8 % 2 = 0
      · have F := Lib.hid (szN_found (k := 2) (by omega) hz.out c)
        rw [decide_eq_true c] at H
        go_wp2_with fail
        go_ret
        exact ⟨by rw [F.out]; rfl, rfl⟩
      · have F := Lib.hid (szK_not (k := 2) hz.out c)
        rw [decide_eq_false c] at H
        go_wp2_with fail
        go_round
        case rel => exact ⟨3, by omega, rfl, F⟩
        case measure => decide
    · have H := and4 s hs
      clear hk
      show Code.wp _ _ _ { tmps := #[.int .i64 s, _, _, .int .i64 4, _, _, _, _, _, _, _, _, _], defers := [] } W
      by_cases c : s / 4 % 2 = 0
      · have F := Lib.hid (szN_found (k := 3) (by omega) hz.out c)
        rw [decide_eq_true c] at H
        go_wp2_with fail
        go_ret
        exact ⟨by rw [F.out]; rfl, rfl⟩
      · have F := Lib.hid (szK_not (k := 3) hz.out c)
        rw [decide_eq_false c] at H
        go_wp2_with fail
        go_round
        case rel => exact ⟨4, by omega, rfl, F⟩
        case measure => decide
    · have H := and2 s hs
      clear hk
      show Code.wp _ _ _ { tmps := #[.int .i64 s, _, _, .int .i64 2, _, _, _, _, _, _, _, _, _], defers := [] } W
      by_cases c : s / 2 % 2 = 0
      · have F := Lib.hid (szN_found (k := 4) (by omega) hz.out c)
        rw [decide_eq_true c] at H
        go_wp2_with fail
        go_ret
        exact ⟨by rw [F.out]; rfl, rfl⟩
      · have F := Lib.hid (szK_not (k := 4) hz.out c)
        rw [decide_eq_false c] at H
        go_wp2_with fail
        go_round
        case rel => exact ⟨5, by omega, rfl, F⟩
        case measure => decide
    · clear hk
      show Code.wp _ _ _ { tmps := #[.int .i64 s, _, _, .int .i64 1, _, _, _, _, _, _, _, _, _], defers := [] } W
      go_wp2_with fail
      go_ret
      exact ⟨by rw [show szN s = 0 from hz.out]; rfl, rfl⟩
end Go.Proofs.YtclhmilecdjbiaaDoor
/- Walks of layer 19: the word of thirteen bits, of the code. -/
namespace Go.Proofs.YtclhmilecdjbiaaDoor
open Go.RowKit
open Cq (U32 U64 I64 inF field withF onesF fieldN withN ones fitsU)
open Lg
theorem field_s (b : Nat) : field b 0 6 = ((b % 64 : Nat) : Int) := by
  show ((fieldN (b : Int).toNat 0 6 : Nat) : Int) = _
  unfold fieldN; simp
theorem field_r (b : Nat) : field b 6 6 = ((b / 64 % 64 : Nat) : Int) := by
  show ((fieldN (b : Int).toNat 6 6 : Nat) : Int) = _
  unfold fieldN; simp
theorem field_n (b : Nat) : field b 12 1 = ((b / 4096 % 2 : Nat) : Int) := by
  show ((fieldN (b : Int).toNat 12 1 : Nat) : Int) = _
  unfold fieldN; simp
set_option maxHeartbeats 4000000 in
theorem decode_any (b : Nat) (hb : b < 4294967296) (W : World) : Calls Tryd.prog 82 #[.int .u32 b] W
    fun e W' => e = .returned (.tuple #[.int .u64 (dec b), .bool (dec b != 0)]) ∧ Drawn W W' := by
  have hU : U32 (b : Int) := ⟨by omega, by omega⟩
  have hU6 : U64 (b : Int) := ⟨by omega, by omega⟩
  have FS := Lib.hid (field_s b)
  have FR := Lib.hid (field_r b)
  have FN := Lib.hid (field_n b)
  have hb0 : (0 : Int) ≤ b := by omega
  have hb1 : (b : Int) < 4294967296 := by omega
  by_cases hbig : 8191 < b
  · have HD := Lib.hid (show dec b = 0 by unfold dec; rw [if_pos hbig])
    have FU := Lib.hid (show fitsU b 13 = false by
      unfold fitsU; rw [Bool.and_eq_false_iff]; right; apply decide_eq_false; show ¬ (b : Int) / 2 ^ 13 = 0; omega)
    clear hbig hb
    go_enter Tryd.func82, Tryd.ntmps82
    go_wp2_with fail
    refine (fitsU_any _ _ hU6 (by unfold I64; omega) _).mono ?_; rintro e w' ⟨rfl, rfl⟩
    rw [FU.out]
    go_wp2_with fail
    go_ret2
    exact ⟨by rw [HD.out]; rfl, Drawn.refl _⟩
  · have FU := Lib.hid (show fitsU b 13 = true by
      unfold fitsU; rw [Bool.and_eq_true]; refine ⟨rfl, decide_eq_true ?_⟩; show (b : Int) / 2 ^ 13 = 0; omega)
    have hs : b % 64 < 64 := Nat.mod_lt _ (by omega)
    have hr : b / 64 % 64 < 64 := Nat.mod_lt _ (by omega)
    have hN2 : (b < 4096 ∧ b / 4096 % 2 = 0) ∨ (¬ b < 4096 ∧ b / 4096 % 2 = 1) := by omega
    generalize hS : b % 64 = s at *
    generalize hR : b / 64 % 64 = r at *
    have hs1 : (s : Int) < 64 := by omega
    have hr1 : (r : Int) < 64 := by omega
    have hs0 : (0 : Int) ≤ s := by omega
    have hr0 : (0 : Int) ≤ r := by omega
    have HS := Lib.hid hs
    have HB : Hid (¬ 8191 < b) := hbig
    have HS' := Lib.hid hS
    have HR' := Lib.hid hR
    clear hS hR hs hr hbig
    rcases hN2 with ⟨hN, hn⟩ | ⟨hN, hn⟩
    · rw [hn] at FN
      have HZ := Lib.hid (show szB b = szN s by unfold szB; rw [if_pos hN, HS'.out])
      have HZ6 := Lib.hid (szN_is s HS.out)
      clear hn hN hb
      rcases HZ6.out with h | h | h | h | h | h
      · have HD := Lib.hid (show dec b = 0 by unfold dec; rw [HZ.out, h, if_neg HB.out]; rfl)
        go_enter Tryd.func82, Tryd.ntmps82
        go_wp2_with fail
        refine (fitsU_any _ _ hU6 (by unfold I64; omega) _).mono ?_; rintro e w' ⟨rfl, rfl⟩
        rw [FU.out]
        go_wp2_with fail
        refine (field_any _ _ _ hU (by unfold I64; omega) (by unfold I64; omega) _).mono ?_; rintro e w' ⟨rfl, rfl⟩
        rw [FS.out]
        go_wp2_with fail
        refine (field_any _ _ _ hU (by unfold I64; omega) (by unfold I64; omega) _).mono ?_; rintro e w' ⟨rfl, rfl⟩
        rw [FR.out]
        go_wp2_with fail
        refine (field_any _ _ _ hU (by unfold I64; omega) (by unfold I64; omega) _).mono ?_; rintro e w' ⟨rfl, rfl⟩
        rw [FN.out]
        go_wp2_with fail
        refine (sizeIn_any s HS.out _).mono ?_; rintro e w' ⟨rfl, rfl⟩
        rw [h]
        go_wp2_with fail
        go_ret2
        exact ⟨by rw [HD.out]; rfl, Drawn.refl _⟩
      · have HD := Lib.hid (show dec b = TW 2 ((s : Int) % 2 + 1) ((r : Int) % 2) by unfold dec; rw [HZ.out, h, if_neg HB.out, HS'.out, HR'.out]; rfl)
        go_enter Tryd.func82, Tryd.ntmps82
        go_wp2_with fail
        refine (fitsU_any _ _ hU6 (by unfold I64; omega) _).mono ?_; rintro e w' ⟨rfl, rfl⟩
        rw [FU.out]
        go_wp2_with fail
        refine (field_any _ _ _ hU (by unfold I64; omega) (by unfold I64; omega) _).mono ?_; rintro e w' ⟨rfl, rfl⟩
        rw [FS.out]
        go_wp2_with fail
        refine (field_any _ _ _ hU (by unfold I64; omega) (by unfold I64; omega) _).mono ?_; rintro e w' ⟨rfl, rfl⟩
        rw [FR.out]
        go_wp2_with fail
        refine (field_any _ _ _ hU (by unfold I64; omega) (by unfold I64; omega) _).mono ?_; rintro e w' ⟨rfl, rfl⟩
        rw [FN.out]
        go_wp2_with fail
        refine (sizeIn_any s HS.out _).mono ?_; rintro e w' ⟨rfl, rfl⟩
        rw [h]
        go_wp2_with fail
        go_quiet ((go_at_call 88; exact quiet_left (turned_any 2 ((s : Int) % 2 + 1) ((r : Int) % 2) (by unfold I64; omega) (by unfold I64; omega) (by unfold I64; omega) _)))
        go_wp2_with fail
        go_ret2
        exact ⟨by rw [HD.out]; rfl, Drawn.drewN (Drawn.refl _) _⟩
      · have HD := Lib.hid (show dec b = TW 4 ((s : Int) % 4 + 1) ((r : Int) % 4) by unfold dec; rw [HZ.out, h, if_neg HB.out, HS'.out, HR'.out]; rfl)
        go_enter Tryd.func82, Tryd.ntmps82
        go_wp2_with fail
        refine (fitsU_any _ _ hU6 (by unfold I64; omega) _).mono ?_; rintro e w' ⟨rfl, rfl⟩
        rw [FU.out]
        go_wp2_with fail
        refine (field_any _ _ _ hU (by unfold I64; omega) (by unfold I64; omega) _).mono ?_; rintro e w' ⟨rfl, rfl⟩
        rw [FS.out]
        go_wp2_with fail
        refine (field_any _ _ _ hU (by unfold I64; omega) (by unfold I64; omega) _).mono ?_; rintro e w' ⟨rfl, rfl⟩
        rw [FR.out]
        go_wp2_with fail
        refine (field_any _ _ _ hU (by unfold I64; omega) (by unfold I64; omega) _).mono ?_; rintro e w' ⟨rfl, rfl⟩
        rw [FN.out]
        go_wp2_with fail
        refine (sizeIn_any s HS.out _).mono ?_; rintro e w' ⟨rfl, rfl⟩
        rw [h]
        go_wp2_with fail
        go_quiet ((go_at_call 88; exact quiet_left (turned_any 4 ((s : Int) % 4 + 1) ((r : Int) % 4) (by unfold I64; omega) (by unfold I64; omega) (by unfold I64; omega) _)))
        go_wp2_with fail
        go_ret2
        exact ⟨by rw [HD.out]; rfl, Drawn.drewN (Drawn.refl _) _⟩
      · have HD := Lib.hid (show dec b = TW 8 ((s : Int) % 8 + 1) ((r : Int) % 8) by unfold dec; rw [HZ.out, h, if_neg HB.out, HS'.out, HR'.out]; rfl)
        go_enter Tryd.func82, Tryd.ntmps82
        go_wp2_with fail
        refine (fitsU_any _ _ hU6 (by unfold I64; omega) _).mono ?_; rintro e w' ⟨rfl, rfl⟩
        rw [FU.out]
        go_wp2_with fail
        refine (field_any _ _ _ hU (by unfold I64; omega) (by unfold I64; omega) _).mono ?_; rintro e w' ⟨rfl, rfl⟩
        rw [FS.out]
        go_wp2_with fail
        refine (field_any _ _ _ hU (by unfold I64; omega) (by unfold I64; omega) _).mono ?_; rintro e w' ⟨rfl, rfl⟩
        rw [FR.out]
        go_wp2_with fail
        refine (field_any _ _ _ hU (by unfold I64; omega) (by unfold I64; omega) _).mono ?_; rintro e w' ⟨rfl, rfl⟩
        rw [FN.out]
        go_wp2_with fail
        refine (sizeIn_any s HS.out _).mono ?_; rintro e w' ⟨rfl, rfl⟩
        rw [h]
        go_wp2_with fail
        go_quiet ((go_at_call 88; exact quiet_left (turned_any 8 ((s : Int) % 8 + 1) ((r : Int) % 8) (by unfold I64; omega) (by unfold I64; omega) (by unfold I64; omega) _)))
        go_wp2_with fail
        go_ret2
        exact ⟨by rw [HD.out]; rfl, Drawn.drewN (Drawn.refl _) _⟩
      · have HD := Lib.hid (show dec b = TW 16 ((s : Int) % 16 + 1) ((r : Int) % 16) by unfold dec; rw [HZ.out, h, if_neg HB.out, HS'.out, HR'.out]; rfl)
        go_enter Tryd.func82, Tryd.ntmps82
        go_wp2_with fail
        refine (fitsU_any _ _ hU6 (by unfold I64; omega) _).mono ?_; rintro e w' ⟨rfl, rfl⟩
        rw [FU.out]
        go_wp2_with fail
        refine (field_any _ _ _ hU (by unfold I64; omega) (by unfold I64; omega) _).mono ?_; rintro e w' ⟨rfl, rfl⟩
        rw [FS.out]
        go_wp2_with fail
        refine (field_any _ _ _ hU (by unfold I64; omega) (by unfold I64; omega) _).mono ?_; rintro e w' ⟨rfl, rfl⟩
        rw [FR.out]
        go_wp2_with fail
        refine (field_any _ _ _ hU (by unfold I64; omega) (by unfold I64; omega) _).mono ?_; rintro e w' ⟨rfl, rfl⟩
        rw [FN.out]
        go_wp2_with fail
        refine (sizeIn_any s HS.out _).mono ?_; rintro e w' ⟨rfl, rfl⟩
        rw [h]
        go_wp2_with fail
        go_quiet ((go_at_call 88; exact quiet_left (turned_any 16 ((s : Int) % 16 + 1) ((r : Int) % 16) (by unfold I64; omega) (by unfold I64; omega) (by unfold I64; omega) _)))
        go_wp2_with fail
        go_ret2
        exact ⟨by rw [HD.out]; rfl, Drawn.drewN (Drawn.refl _) _⟩
      · have HD := Lib.hid (show dec b = TW 32 ((s : Int) % 32 + 1) ((r : Int) % 32) by unfold dec; rw [HZ.out, h, if_neg HB.out, HS'.out, HR'.out]; rfl)
        go_enter Tryd.func82, Tryd.ntmps82
        go_wp2_with fail
        refine (fitsU_any _ _ hU6 (by unfold I64; omega) _).mono ?_; rintro e w' ⟨rfl, rfl⟩
        rw [FU.out]
        go_wp2_with fail
        refine (field_any _ _ _ hU (by unfold I64; omega) (by unfold I64; omega) _).mono ?_; rintro e w' ⟨rfl, rfl⟩
        rw [FS.out]
        go_wp2_with fail
        refine (field_any _ _ _ hU (by unfold I64; omega) (by unfold I64; omega) _).mono ?_; rintro e w' ⟨rfl, rfl⟩
        rw [FR.out]
        go_wp2_with fail
        refine (field_any _ _ _ hU (by unfold I64; omega) (by unfold I64; omega) _).mono ?_; rintro e w' ⟨rfl, rfl⟩
        rw [FN.out]
        go_wp2_with fail
        refine (sizeIn_any s HS.out _).mono ?_; rintro e w' ⟨rfl, rfl⟩
        rw [h]
        go_wp2_with fail
        go_quiet ((go_at_call 88; exact quiet_left (turned_any 32 ((s : Int) % 32 + 1) ((r : Int) % 32) (by unfold I64; omega) (by unfold I64; omega) (by unfold I64; omega) _)))
        go_wp2_with fail
        go_ret2
        exact ⟨by rw [HD.out]; rfl, Drawn.drewN (Drawn.refl _) _⟩
    · rw [hn] at FN
      have HZ := Lib.hid (show szB b = 64 by unfold szB; rw [if_neg hN])
      have HD := Lib.hid (show dec b = TW 64 ((s : Int) % 64 + 1) ((r : Int) % 64) by unfold dec; rw [HZ.out, if_neg HB.out, HS'.out, HR'.out]; rfl)
      clear hn hN hb
      go_enter Tryd.func82, Tryd.ntmps82
      go_wp2_with fail
      refine (fitsU_any _ _ hU6 (by unfold I64; omega) _).mono ?_; rintro e w' ⟨rfl, rfl⟩
      rw [FU.out]
      go_wp2_with fail
      refine (field_any _ _ _ hU (by unfold I64; omega) (by unfold I64; omega) _).mono ?_; rintro e w' ⟨rfl, rfl⟩
      rw [FS.out]
      go_wp2_with fail
      refine (field_any _ _ _ hU (by unfold I64; omega) (by unfold I64; omega) _).mono ?_; rintro e w' ⟨rfl, rfl⟩
      rw [FR.out]
      go_wp2_with fail
      refine (field_any _ _ _ hU (by unfold I64; omega) (by unfold I64; omega) _).mono ?_; rintro e w' ⟨rfl, rfl⟩
      rw [FN.out]
      go_wp2_with fail
      go_quiet ((go_at_call 88; exact quiet_left (turned_any 64 ((s : Int) % 64 + 1) ((r : Int) % 64) (by unfold I64; omega) (by unfold I64; omega) (by unfold I64; omega) _)))
      go_wp2_with fail
      go_ret2
      exact ⟨by rw [HD.out]; rfl, Drawn.drewN (Drawn.refl _) _⟩
end Go.Proofs.YtclhmilecdjbiaaDoor
/- Walks of layer 19: the word of thirteen bits, of the document. -/
namespace Go.Proofs.YtclhmilecdjbiaaDoor
open Go.RowKit
open Cq (U32 U64 I64)
open Lg
theorem dec_at {b s r : Int} {n : Nat} (h0 : 0 ≤ b) (hb : b ≤ 8191) (hS : b % 64 = s) (hR : b / 64 % 64 = r) (hz : szB b.toNat = n) (hn : n ≠ 0) : dec b.toNat = TW n (s % n + 1) (r % n) := by
  obtain ⟨m, rfl⟩ := Int.eq_ofNat_of_zero_le h0
  show dec m = _
  rw [show ((m : Int)).toNat = m from rfl] at hz
  unfold dec
  rw [if_neg (by omega), hz, if_neg hn, ← hS, ← hR, Int.natCast_add, Int.natCast_emod, Int.natCast_emod, Int.natCast_emod, Int.natCast_emod, Int.natCast_ediv]; rfl
theorem ok_ne {n s r : Int} (h : okT n s r = true) : (TW n s r != 0) = true := by
  have := TW_pos h; simp; omega
theorem ok_sz {n s r : Int} (hn : isSz n = true) (h1 : 0 ≤ s % n) (h2 : s % n ≠ n - 1) (h3 : 0 ≤ r % n) (h4 : r % n < n) (h5 : s % n < n) : okT n (s % n + 1) (r % n) = true := by
  unfold okT; rw [hn, Bool.true_and]; exact decide_eq_true (by omega)
theorem ko_sz {n s r : Int} (h2 : s % n = n - 1) : TW n (s % n + 1) (r % n) = 0 := by
  apply TW_zero; unfold okT; rw [Bool.and_eq_false_iff]; right; exact decide_eq_false (by omega)
set_option maxHeartbeats 4000000 in
theorem rdecode_any (b : Int) (hb0 : 0 ≤ b) (hb1 : b < 4294967296) (W : World) : Calls Tryd.prog 70 #[.int .u32 b] W
    fun e W' => e = .returned (.tuple #[.int .u64 (dec b.toNat), .bool (dec b.toNat != 0)]) ∧ Below W.heap.size W W' := by
  by_cases hbig : 8191 < b
  · have HD := Lib.hid (show dec b.toNat = 0 by unfold dec; rw [if_pos (by omega)])
    go_enter Tryd.func70, Tryd.ntmps70
    go_wp2_with fail
    go_ret2
    exact ⟨by rw [HD.out]; rfl, Below.refl _ _⟩
  · have hbig' : b ≤ 8191 := by omega
    obtain ⟨s, hS⟩ : ∃ s, b % 64 = s := ⟨_, rfl⟩
    obtain ⟨r, hR⟩ : ∃ r, b / 64 % 64 = r := ⟨_, rfl⟩
    have hs1 : s < 64 := by omega
    have hr1 : r < 64 := by omega
    have hs0 : 0 ≤ s := by omega
    have hr0 : 0 ≤ r := by omega
    have HB := Lib.hid hbig'
    have HS' := Lib.hid hS
    have HR' := Lib.hid hR
    clear hbig
    by_cases hN : b < 4096
    · have HZ := Lib.hid (show szB b.toNat = szN s.toNat by unfold szB; rw [if_pos (by omega), show b.toNat % 64 = s.toNat by omega])
      go_enter Tryd.func70, Tryd.ntmps70
      go_wp2_with fail
      go_loop [6, 22] (fun z i => ∃ Z : Int, z = .int .i64 Z ∧ (i = .int .i64 0 ∧ Hid (Z = (szK s.toNat 0 : Int)) ∨ i = .int .i64 1 ∧ Hid (Z = (szK s.toNat 1 : Int)) ∨ i = .int .i64 2 ∧ Hid (Z = (szK s.toNat 2 : Int)) ∨ i = .int .i64 3 ∧ Hid (Z = (szK s.toNat 3 : Int)) ∨ i = .int .i64 4 ∧ Hid (Z = (szK s.toNat 4 : Int)) ∨ i = .int .i64 5 ∧ Hid (Z = (szK s.toNat 5 : Int)))) (fun _ i => 5 - (intOf i).toNat)
      case atStart => exact ⟨0, rfl, Or.inl ⟨rfl, rfl⟩⟩
      case round =>
        obtain ⟨Z, rfl, hrel⟩ := hrel
        rcases hrel with ⟨rfl, hz⟩ | ⟨rfl, hz⟩ | ⟨rfl, hz⟩ | ⟨rfl, hz⟩ | ⟨rfl, hz⟩ | ⟨rfl, hz⟩
        · by_cases hZ : Z = 0
          · have hz0 : szK s.toNat 0 = 0 := by have := hz.out; omega
            subst hZ
            by_cases c : s / 32 % 2 = 0
            · have F := Lib.hid (szK_found (k := 0) hz0 (show s.toNat / 32 % 2 = 0 by omega))
              clear hz0
              go_wp2_with fail
              go_round
              case rel => exact ⟨32, rfl, Or.inr (Or.inl ⟨rfl, by show _ = _; rw [F.out]; rfl⟩)⟩
              case measure => decide
            · have F := Lib.hid (szK_not (k := 0) hz0 (show ¬ s.toNat / 32 % 2 = 0 by omega))
              clear hz0
              go_wp2_with fail
              go_round
              case rel => exact ⟨0, rfl, Or.inr (Or.inl ⟨rfl, by show _ = _; rw [F.out]; rfl⟩)⟩
              case measure => decide
          · have F := Lib.hid (szK_stay (s := s.toNat) (k := 0) (by have := hz.out; omega))
            have hZ' : (Z == 0) = false := by simpa using hZ
            clear hZ
            go_wp2_with fail
            go_round
            case rel => exact ⟨Z, rfl, Or.inr (Or.inl ⟨rfl, by show _ = _; rw [F.out]; exact hz.out⟩)⟩
            case measure => decide
        · by_cases hZ : Z = 0
          · have hz0 : szK s.toNat 1 = 0 := by have := hz.out; omega
            subst hZ
            by_cases c : s / 16 % 2 = 0
            · have F := Lib.hid (szK_found (k := 1) hz0 (show s.toNat / 16 % 2 = 0 by omega))
              clear hz0
              go_wp2_with fail
              go_round
              case rel => exact ⟨16, rfl, Or.inr (Or.inr (Or.inl ⟨rfl, by show _ = _; rw [F.out]; rfl⟩))⟩
              case measure => decide
            · have F := Lib.hid (szK_not (k := 1) hz0 (show ¬ s.toNat / 16 % 2 = 0 by omega))
              clear hz0
              go_wp2_with fail
              go_round
              case rel => exact ⟨0, rfl, Or.inr (Or.inr (Or.inl ⟨rfl, by show _ = _; rw [F.out]; rfl⟩))⟩
              case measure => decide
          · have F := Lib.hid (szK_stay (s := s.toNat) (k := 1) (by have := hz.out; omega))
            have hZ' : (Z == 0) = false := by simpa using hZ
            clear hZ
            go_wp2_with fail
            go_round
            case rel => exact ⟨Z, rfl, Or.inr (Or.inr (Or.inl ⟨rfl, by show _ = _; rw [F.out]; exact hz.out⟩))⟩
            case measure => decide
        · by_cases hZ : Z = 0
          · have hz0 : szK s.toNat 2 = 0 := by have := hz.out; omega
            subst hZ
            by_cases c : s / 8 % 2 = 0
            · have F := Lib.hid (szK_found (k := 2) hz0 (show s.toNat / 8 % 2 = 0 by omega))
              clear hz0
              go_wp2_with fail
              go_round
              case rel => exact ⟨8, rfl, Or.inr (Or.inr (Or.inr (Or.inl ⟨rfl, by show _ = _; rw [F.out]; rfl⟩)))⟩
              case measure => decide
            · have F := Lib.hid (szK_not (k := 2) hz0 (show ¬ s.toNat / 8 % 2 = 0 by omega))
              clear hz0
              go_wp2_with fail
              go_round
              case rel => exact ⟨0, rfl, Or.inr (Or.inr (Or.inr (Or.inl ⟨rfl, by show _ = _; rw [F.out]; rfl⟩)))⟩
              case measure => decide
          · have F := Lib.hid (szK_stay (s := s.toNat) (k := 2) (by have := hz.out; omega))
            have hZ' : (Z == 0) = false := by simpa using hZ
            clear hZ
            go_wp2_with fail
            go_round
            case rel => exact ⟨Z, rfl, Or.inr (Or.inr (Or.inr (Or.inl ⟨rfl, by show _ = _; rw [F.out]; exact hz.out⟩)))⟩
            case measure => decide
        · by_cases hZ : Z = 0
          · have hz0 : szK s.toNat 3 = 0 := by have := hz.out; omega
            subst hZ
            by_cases c : s / 4 % 2 = 0
            · have F := Lib.hid (szK_found (k := 3) hz0 (show s.toNat / 4 % 2 = 0 by omega))
              clear hz0
              go_wp2_with fail
              go_round
              case rel => exact ⟨4, rfl, Or.inr (Or.inr (Or.inr (Or.inr (Or.inl ⟨rfl, by show _ = _; rw [F.out]; rfl⟩))))⟩
              case measure => decide
            · have F := Lib.hid (szK_not (k := 3) hz0 (show ¬ s.toNat / 4 % 2 = 0 by omega))
              clear hz0
              go_wp2_with fail
              go_round
              case rel => exact ⟨0, rfl, Or.inr (Or.inr (Or.inr (Or.inr (Or.inl ⟨rfl, by show _ = _; rw [F.out]; rfl⟩))))⟩
              case measure => decide
          · have F := Lib.hid (szK_stay (s := s.toNat) (k := 3) (by have := hz.out; omega))
            have hZ' : (Z == 0) = false := by simpa using hZ
            clear hZ
            go_wp2_with fail
            go_round
            case rel => exact ⟨Z, rfl, Or.inr (Or.inr (Or.inr (Or.inr (Or.inl ⟨rfl, by show _ = _; rw [F.out]; exact hz.out⟩))))⟩
            case measure => decide
        · by_cases hZ : Z = 0
          · have hz0 : szK s.toNat 4 = 0 := by have := hz.out; omega
            subst hZ
            by_cases c : s / 2 % 2 = 0
            · have F := Lib.hid (szK_found (k := 4) hz0 (show s.toNat / 2 % 2 = 0 by omega))
              clear hz0
              go_wp2_with fail
              go_round
              case rel => exact ⟨2, rfl, Or.inr (Or.inr (Or.inr (Or.inr (Or.inr (⟨rfl, by show _ = _; rw [F.out]; rfl⟩)))))⟩
              case measure => decide
            · have F := Lib.hid (szK_not (k := 4) hz0 (show ¬ s.toNat / 2 % 2 = 0 by omega))
              clear hz0
              go_wp2_with fail
              go_round
              case rel => exact ⟨0, rfl, Or.inr (Or.inr (Or.inr (Or.inr (Or.inr (⟨rfl, by show _ = _; rw [F.out]; rfl⟩)))))⟩
              case measure => decide
          · have F := Lib.hid (szK_stay (s := s.toNat) (k := 4) (by have := hz.out; omega))
            have hZ' : (Z == 0) = false := by simpa using hZ
            clear hZ
            go_wp2_with fail
            go_round
            case rel => exact ⟨Z, rfl, Or.inr (Or.inr (Or.inr (Or.inr (Or.inr (⟨rfl, by show _ = _; rw [F.out]; exact hz.out⟩)))))⟩
            case measure => decide
        · have HZ6 := Lib.hid (szN_is s.toNat (by omega))
          have hz5 : Hid (Z = (szN s.toNat : Int)) := hz
          have bel : Below W.heap.size W (W.alloc (.cells #[.int .i64 32, .int .i64 16, .int .i64 8, .int .i64 4, .int .i64 2] 3)) := (Below.refl _ _).alloc (Nat.le_refl _) _
          rcases HZ6.out with h | h | h | h | h | h
          · have HD := Lib.hid (show dec b.toNat = 0 by unfold dec; rw [HZ.out, h, if_pos rfl]; split <;> rfl)
            obtain rfl : Z = 0 := by have := hz5.out; omega
            go_wp2_with fail
            go_ret2
            exact ⟨by rw [HD.out]; rfl, bel⟩
          · obtain rfl : Z = 2 := by have := hz5.out; omega
            have HZN : Hid (szB b.toNat = 2) := by show _ = _; rw [HZ.out, h]
            clear h hz5 HZ
            by_cases c : s % 2 = 1
            · have HD : Hid (dec b.toNat = 0) := by show _ = _; rw [dec_at hb0 HB.out HS'.out HR'.out HZN.out (by omega)]; exact ko_sz c
              go_wp2_with fail
              go_ret2
              exact ⟨by rw [HD.out]; rfl, bel⟩
            · have HO := Lib.hid (ok_sz (n := 2) (s := s) (r := r) rfl (by omega) c (by omega) (by omega) (by omega))
              have HD : Hid (dec b.toNat = TW 2 (s % 2 + 1) (r % 2)) := dec_at (n := 2) hb0 HB.out HS'.out HR'.out HZN.out (by omega)
              go_wp2_with fail
              go_quiet ((go_at_call 55; exact quiet_left (rturned_any 2 (s % 2 + 1) (r % 2) (by unfold I64; omega) (by unfold I64; omega) (by unfold I64; omega) _)))
              go_wp2_with fail
              go_ret2
              exact ⟨by rw [HD.out, ok_ne HO.out]; rfl, bel.trans (Drawn.below (Drawn.drewN (Drawn.refl _) _) |>.mono (by simp))⟩
          · obtain rfl : Z = 4 := by have := hz5.out; omega
            have HZN : Hid (szB b.toNat = 4) := by show _ = _; rw [HZ.out, h]
            clear h hz5 HZ
            by_cases c : s % 4 = 3
            · have HD : Hid (dec b.toNat = 0) := by show _ = _; rw [dec_at hb0 HB.out HS'.out HR'.out HZN.out (by omega)]; exact ko_sz c
              go_wp2_with fail
              go_ret2
              exact ⟨by rw [HD.out]; rfl, bel⟩
            · have HO := Lib.hid (ok_sz (n := 4) (s := s) (r := r) rfl (by omega) c (by omega) (by omega) (by omega))
              have HD : Hid (dec b.toNat = TW 4 (s % 4 + 1) (r % 4)) := dec_at (n := 4) hb0 HB.out HS'.out HR'.out HZN.out (by omega)
              go_wp2_with fail
              go_quiet ((go_at_call 55; exact quiet_left (rturned_any 4 (s % 4 + 1) (r % 4) (by unfold I64; omega) (by unfold I64; omega) (by unfold I64; omega) _)))
              go_wp2_with fail
              go_ret2
              exact ⟨by rw [HD.out, ok_ne HO.out]; rfl, bel.trans (Drawn.below (Drawn.drewN (Drawn.refl _) _) |>.mono (by simp))⟩
          · obtain rfl : Z = 8 := by have := hz5.out; omega
            have HZN : Hid (szB b.toNat = 8) := by show _ = _; rw [HZ.out, h]
            clear h hz5 HZ
            by_cases c : s % 8 = 7
            · have HD : Hid (dec b.toNat = 0) := by show _ = _; rw [dec_at hb0 HB.out HS'.out HR'.out HZN.out (by omega)]; exact ko_sz c
              go_wp2_with fail
              go_ret2
              exact ⟨by rw [HD.out]; rfl, bel⟩
            · have HO := Lib.hid (ok_sz (n := 8) (s := s) (r := r) rfl (by omega) c (by omega) (by omega) (by omega))
              have HD : Hid (dec b.toNat = TW 8 (s % 8 + 1) (r % 8)) := dec_at (n := 8) hb0 HB.out HS'.out HR'.out HZN.out (by omega)
              go_wp2_with fail
              go_quiet ((go_at_call 55; exact quiet_left (rturned_any 8 (s % 8 + 1) (r % 8) (by unfold I64; omega) (by unfold I64; omega) (by unfold I64; omega) _)))
              go_wp2_with fail
              go_ret2
              exact ⟨by rw [HD.out, ok_ne HO.out]; rfl, bel.trans (Drawn.below (Drawn.drewN (Drawn.refl _) _) |>.mono (by simp))⟩
          · obtain rfl : Z = 16 := by have := hz5.out; omega
            have HZN : Hid (szB b.toNat = 16) := by show _ = _; rw [HZ.out, h]
            clear h hz5 HZ
            by_cases c : s % 16 = 15
            · have HD : Hid (dec b.toNat = 0) := by show _ = _; rw [dec_at hb0 HB.out HS'.out HR'.out HZN.out (by omega)]; exact ko_sz c
              go_wp2_with fail
              go_ret2
              exact ⟨by rw [HD.out]; rfl, bel⟩
            · have HO := Lib.hid (ok_sz (n := 16) (s := s) (r := r) rfl (by omega) c (by omega) (by omega) (by omega))
              have HD : Hid (dec b.toNat = TW 16 (s % 16 + 1) (r % 16)) := dec_at (n := 16) hb0 HB.out HS'.out HR'.out HZN.out (by omega)
              go_wp2_with fail
              go_quiet ((go_at_call 55; exact quiet_left (rturned_any 16 (s % 16 + 1) (r % 16) (by unfold I64; omega) (by unfold I64; omega) (by unfold I64; omega) _)))
              go_wp2_with fail
              go_ret2
              exact ⟨by rw [HD.out, ok_ne HO.out]; rfl, bel.trans (Drawn.below (Drawn.drewN (Drawn.refl _) _) |>.mono (by simp))⟩
          · obtain rfl : Z = 32 := by have := hz5.out; omega
            have HZN : Hid (szB b.toNat = 32) := by show _ = _; rw [HZ.out, h]
            clear h hz5 HZ
            by_cases c : s % 32 = 31
            · have HD : Hid (dec b.toNat = 0) := by show _ = _; rw [dec_at hb0 HB.out HS'.out HR'.out HZN.out (by omega)]; exact ko_sz c
              go_wp2_with fail
              go_ret2
              exact ⟨by rw [HD.out]; rfl, bel⟩
            · have HO := Lib.hid (ok_sz (n := 32) (s := s) (r := r) rfl (by omega) c (by omega) (by omega) (by omega))
              have HD : Hid (dec b.toNat = TW 32 (s % 32 + 1) (r % 32)) := dec_at (n := 32) hb0 HB.out HS'.out HR'.out HZN.out (by omega)
              go_wp2_with fail
              go_quiet ((go_at_call 55; exact quiet_left (rturned_any 32 (s % 32 + 1) (r % 32) (by unfold I64; omega) (by unfold I64; omega) (by unfold I64; omega) _)))
              go_wp2_with fail
              go_ret2
              exact ⟨by rw [HD.out, ok_ne HO.out]; rfl, bel.trans (Drawn.below (Drawn.drewN (Drawn.refl _) _) |>.mono (by simp))⟩
    · have HZN := Lib.hid (show szB b.toNat = 64 by unfold szB; rw [if_neg (by omega)])
      have bel : Below W.heap.size W W := Below.refl _ _
      go_enter Tryd.func70, Tryd.ntmps70
      by_cases c : s % 64 = 63
      · have HD : Hid (dec b.toNat = 0) := by show _ = _; rw [dec_at hb0 HB.out HS'.out HR'.out HZN.out (by omega)]; exact ko_sz c
        go_wp2_with fail
        go_ret2
        exact ⟨by rw [HD.out]; rfl, bel⟩
      · have HO := Lib.hid (ok_sz (n := 64) (s := s) (r := r) rfl (by omega) c (by omega) (by omega) (by omega))
        have HD : Hid (dec b.toNat = TW 64 (s % 64 + 1) (r % 64)) := dec_at (n := 64) hb0 HB.out HS'.out HR'.out HZN.out (by omega)
        go_wp2_with fail
        go_quiet ((go_at_call 55; exact quiet_left (rturned_any 64 (s % 64 + 1) (r % 64) (by unfold I64; omega) (by unfold I64; omega) (by unfold I64; omega) _)))
        go_wp2_with fail
        go_ret2
        exact ⟨by rw [HD.out, ok_ne HO.out]; rfl, bel.trans (Drawn.below (Drawn.drewN (Drawn.refl _) _) |>.mono (by simp))⟩
end Go.Proofs.YtclhmilecdjbiaaDoor
/- Layer 21: fields of a word, of the code and of the document; numbers of thirteen bits; as symbols. -/
namespace Go.Proofs.YtclhmilecdjbiaaDoor
open Go Go.Proofs Go.RowKit Go.CX Go.SX
theorem field_at (w : World) (v a n : Nat) (hv : v < 4294967296) (_ : 1 ≤ n) (_ : n ≤ 31) (h : a + n ≤ 32) : Calls Tryd.prog 79 #[.int .u32 (Int.ofNat v), .int .i64 (Int.ofNat a), .int .i64 (Int.ofNat n)] w fun e w' => e = .returned (.int .u32 (Int.ofNat (v / 2 ^ a % 2 ^ n))) ∧ Below w.heap.size w w' := by
  have ev : Int.ofNat v = (v : Int) := rfl
  have ea : Int.ofNat a = (a : Int) := rfl
  have en : Int.ofNat n = (n : Int) := rfl
  refine (field_any (Int.ofNat v) (Int.ofNat a) (Int.ofNat n) ⟨by omega, by omega⟩ ⟨by omega, by omega⟩ ⟨by omega, by omega⟩ w).mono ?_
  rintro e w' ⟨rfl, rfl⟩
  refine ⟨?_, Below.refl _ _⟩
  have : Cq.field (Int.ofNat v) (Int.ofNat a) (Int.ofNat n) = Int.ofNat (v / 2 ^ a % 2 ^ n) := by
    unfold Cq.field
    rw [if_pos]
    · rfl
    · unfold Cq.inF
      rw [decide_eq_true_iff]
      omega
  rw [this]
theorem pow_31 {n : Nat} (h : n ≤ 31) : 2 ^ n ≤ 2147483648 := Nat.pow_le_pow_right (by decide) h
theorem part_at (w : World) (v a n : Nat) (_ : v < 4294967296) (h1 : 1 ≤ n) (h31 : n ≤ 31) (h : a + n ≤ 32) : Calls Tryd.prog 69 #[.int .u32 (Int.ofNat v), .int .i64 (Int.ofNat a), .int .i64 (Int.ofNat n)] w fun e w' => e = .returned (.int .i64 (Int.ofNat (v / 2 ^ a % 2 ^ n))) ∧ Below w.heap.size w w' := by
  have ev : Int.ofNat v = (v : Int) := rfl
  have ea : Int.ofNat a = (a : Int) := rfl
  have en : Int.ofNat n = (n : Int) := rfl
  rw [ev, ea, en]
  have hp := pow_31 h31
  have hp1 := Nat.one_le_two_pow (n := n)
  have e0 : (2 : Int) ^ n % 4294967296 = 2 ^ n := by
    rw [← pow_cast]; omega
  have e1 : ¬ (2 : Int) ^ n = 0 := by
    rw [← pow_cast]; omega
  go_enter Tryd.func69, Tryd.ntmps69
  go_wp2_with fail
  go_ret
  refine ⟨congrArg (fun z => Ending.returned (.int .i64 z)) ?_, Below.refl _ _⟩
  have e2 : ((v : Int) / 2 ^ a).tmod (2 ^ n) = ((v / 2 ^ a % 2 ^ n : Nat) : Int) := by
    rw [← pow_cast, ← pow_cast, ← Int.natCast_ediv, Int.tmod_eq_emod_of_nonneg (Int.natCast_nonneg _), ← Int.natCast_emod]
  rw [e2]
  have hlt : v / 2 ^ a % 2 ^ n < 2 ^ n := Nat.mod_lt _ (Nat.two_pow_pos n)
  have e3 : wrap64 ((v / 2 ^ a % 2 ^ n : Nat) : Int) = ((v / 2 ^ a % 2 ^ n : Nat) : Int) := by
    unfold wrap64; omega
  exact e3
/-- what the symbols mean: 5 a field of a word, 6 the word of thirteen bits -/
noncomputable def phD (f : Nat) (fl : List Value) : List Value := match f with
  | 5 => [.int .u32 (IntKind.u32.wrap (Int.ofNat ((vint (fl.getD 0 undef)).toNat / 2 ^ (vint (fl.getD 1 undef)).toNat % 2 ^ (vint (fl.getD 2 undef)).toNat)))]
  | 6 => [.int .u64 (Lg.dec (vint (fl.getD 0 undef)).toNat), .bool (Lg.dec (vint (fl.getD 0 undef)).toNat != 0)]
  | _ => []
def syD : List (Nat × List So) := [(5, [.int .u32]), (6, [.int .u64, .bool])]
theorem fitD : ∀ f j args, (symS syD f j).has ((phD f args).getD j undef) := by
  intro f j args
  have none : ∀ {f : Nat}, lookA f syD = none → (symS syD f j).has ((phD f args).getD j undef) := by
    intro f h
    unfold symS
    rw [h]; exact trivial
  match f, j with
  | 5, 0 => exact ⟨_, rfl, wrap_range .u32 _⟩
  | 5, j + 1 => exact trivial
  | 6, 0 => exact ⟨_, rfl, by have := (Lg.dec_u64 (vint (args.getD 0 undef)).toNat).1; exact this, by have := (Lg.dec_u64 (vint (args.getD 0 undef)).toNat).2; show Lg.dec _ ≤ 18446744073709551615; omega⟩
  | 6, 1 => exact ⟨_, rfl⟩
  | 6, j + 2 => exact trivial
  | 0, j => exact none rfl
  | 1, j => exact none rfl
  | 2, j => exact none rfl
  | 3, j => exact none rfl
  | 4, j => exact none rfl
  | f + 7, j => exact none rfl
theorem fldsD : Flds phD := by
  intro v a n hv
  show Value.int .u32 (IntKind.u32.wrap (Int.ofNat (v / 2 ^ a % 2 ^ n))) = _
  have : v / 2 ^ a % 2 ^ n ≤ v / 2 ^ a := Nat.mod_le _ _
  have : v / 2 ^ a ≤ v := Nat.div_le_self _ _
  congr 1
  rw [IntKind.wrap_u32]
  have e : Int.ofNat (v / 2 ^ a % 2 ^ n) = ((v / 2 ^ a % 2 ^ n : Nat) : Int) := rfl
  rw [e]; omega
noncomputable def cxD : Cx := ⟨Tryd.prog, [.int .u32], [], [], syD⟩
def ctlD (a n : Nat) : Bool := [(29, 2), (10, 2), (10, 4), (15, 1), (21, 3), (22, 2), (24, 1), (21, 1), (30, 2)].any fun p => Nat.beq p.1 a && Nat.beq p.2 n
noncomputable def extD : ExtT := orX (orX (bitsX cxD 79 .u32 ctlD) (bitsX cxD 69 .i64 ctlD)) (orX (orX (conX2 cxD ⟨82, 6, [(false, [.int .u32])]⟩) (conX2 cxD ⟨70, 6, [(false, [.int .u32])]⟩)) (hasX 34 1 47 100 hasB))
theorem pack_u32 {xs fl : List Value} (hp : packs [(false, [.int .u32])] xs fl) : ∃ b : Nat, b < 4294967296 ∧ xs = [.int .u32 (b : Int)] ∧ fl = [.int .u32 (b : Int)] := by
  match xs, hp with
  | [x], ⟨f1, f2, hf, hs, hx, h2⟩ =>
    have h2 : f2 = [] := h2
    subst h2
    rw [List.append_nil] at hf
    subst hf
    have hx : fl = [x] := hx
    subst hx
    obtain ⟨m, rfl, m0, m1⟩ := hs.1
    obtain ⟨b, rfl⟩ := Int.eq_ofNat_of_zero_le (show 0 ≤ m from m0)
    have m1 : (b : Int) ≤ 4294967295 := m1
    exact ⟨b, by omega, rfl, rfl⟩
theorem extD_ok {w : World} : ExtOk ⟨w, []⟩ cxD phD extD := by
  refine orX_ok (orX_ok (bitsX_ok (Or.inl rfl) fldsD (enters Tryd.func79 (c := Tryd.f79.body.getD .skip) (by kernel_rfl) (by kernel_rfl)) field_at)
      (bitsX_ok (Or.inr rfl) fldsD (enters Tryd.func69 (c := Tryd.f69.body.getD .skip) (by kernel_rfl) (by kernel_rfl)) part_at))
    (orX_ok (orX_ok (conX2_ok ⟨enters Tryd.func82 (c := Tryd.f82.body.getD .skip) (by kernel_rfl) (by kernel_rfl), ?_⟩) (conX2_ok ⟨enters Tryd.func70 (c := Tryd.f70.body.getD .skip) (by kernel_rfl) (by kernel_rfl), ?_⟩))
      (hasX_ok (enters Tryd.func34 (c := Tryd.f34.body.getD .skip) (by kernel_rfl) (by kernel_rfl)) fun w k s h0 h1 hs => has_any k s h0 h1 hs w))
  · intro w' xs fl _ hp
    obtain ⟨b, hb, rfl, rfl⟩ := pack_u32 hp
    refine (decode_any b hb w').mono ?_
    rintro e w'' ⟨rfl, hd⟩
    exact ⟨rfl, hd.below⟩
  · intro w' xs fl _ hp
    obtain ⟨b, hb, rfl, rfl⟩ := pack_u32 hp
    refine (rdecode_any (b : Int) (by omega) (by omega) w').mono ?_
    rintro e w'' ⟨rfl, hd⟩
    exact ⟨rfl, hd⟩
/-- Eleven cells of their sorts. -/
noncomputable def sortK (_ : Facts) : CX.SV → Bool
  | .one ⟨true, cs⟩ => match exsC cs with
    | some es => soOk cxD ssE es
    | none => false
  | _ => false
noncomputable def argW : CX.SV := .one ⟨false, [.e (.var 0)]⟩
noncomputable def readR : Bool := endsC cxD extD 3000 0 43 [argW] 100 [] sortK
end Go.Proofs.YtclhmilecdjbiaaDoor
/- Layer 21: what is read of the word of an instruction: what carries it out. -/
namespace Go.Proofs.YtclhmilecdjbiaaDoor
open Go Go.Proofs Go.RowKit Go.CX Go.SX Go.CX.A64
def winE (x : Lt) : E := fldE (.var 0) (x.fd 8).2.2 (x.fd 8).2.1
def signE (x : Lt) (s : Nat) : E := if Nat.beq s 1 then .bin .sub .i64 (.conv .i64 (winE x)) (i64E (2 ^ (x.fd 8).2.1)) else .conv .i64 (winE x)
/-- A letter's cell, as it is read of the word: by the code, by the document. -/
def rdE (d : Bool) (m s : Nat) (x : Lt) : E := match x with
  | .i | .k => .conv .u64 (.conv .i64 (winE x))
  | .l => .app 6 0 (toL [.conv .u32 (.conv .i64 (winE x))])
  | .w => if d then .conv .u64 (.bin .mul .i64 (.conv .i64 (winE x)) (i64E m)) else .bin .mul .u64 (.conv .u64 (.conv .i64 (winE x))) (u64E m)
  | .o => u64E m
  | .f | .F => if d then .bin .mul .i64 (i64E 4) (signE x s) else .bin .mul .i64 (signE x s) (i64E 4)
  | x => .conv .i64 (winE x)
def cellD (d : Bool) (op m s v : Nat) : E := match (A64.letters op).find? (fun x => Nat.beq x.cell v) with
  | some x => rdE d m s x
  | none => .int (if Nat.beq v 6 then .u64 else .i64) 0
def cellsD (d : Bool) (op m s : Nat) : List E := i64E op :: i64E (A64.wid op m) :: [2, 3, 4, 5, 6, 7, 8, 9, 10].map (cellD d op m s)
def eqEs : List E → List E → Bool
  | [], [] => true
  | x :: a, y :: b => E.eqv x y && eqEs a b
  | _, _ => false
theorem eqEs_eq : ∀ {a b : List E}, eqEs a b = true → a = b
  | [], [], _ => rfl
  | x :: a, y :: b, h => by
    simp only [eqEs, Bool.and_eq_true] at h
    rw [E.eqv_eq h.1, eqEs_eq h.2]
  | [], _ :: _, h => by simp [eqEs] at h
  | _ :: _, [], h => by simp [eqEs] at h
def backK (es : List E) (_ : Facts) : CX.SV → Bool
  | .one ⟨true, cs⟩ => match exsC cs with
    | some es' => eqEs es' es
    | none => false
  | _ => false
def wins : List (Nat × Nat) := [(24, 5), (29, 2), (23, 1), (21, 3), (10, 2), (10, 4), (15, 1), (22, 2), (29, 3), (24, 1), (24, 2), (21, 1), (12, 1), (30, 2), (8, 4)]
def winFree (op m : Nat) (p : Nat × Nat) : Bool := Nat.beq (Nat.land (maskFl (A64.fds op m)) ((2 ^ p.2 - 1) * 2 ^ p.1)) 0
def winF (a n c : Nat) : E × Bool := (.cmp .eql (fldE (.var 0) a n) (.int .u32 (Int.ofNat c)), true)
/-- The sign of a distance, as its highest bits tell. -/
def signOf (op y : Nat) : Nat := if Nat.beq op 40 then y / 2 else y
/-- What the highest bits of a distance are. -/
def varF (op y : Nat) : Facts := if Nat.beq op 40 then [winF 24 5 (20 + y), winF 25 1 (y / 2), (.cmp .lss (.conv .i64 (winE .F)) (i64E 33554432), Nat.beq (y / 2) 0)]
  else if Nat.ble 41 op && Nat.ble op 43 then [winF 23 1 y, (.cmp .lss (.conv .i64 (winE .f)) (i64E 262144), Nat.beq y 0)] else []
def factsD (op m y : Nat) : Facts := varF op y ++ ((wins.filter (winFree op m)).map fun p => winF p.1 p.2 (A64.const op m / 2 ^ p.1 % 2 ^ p.2))
/-- How many ways. -/
def ways (op : Nat) : Nat := if Nat.beq op 40 then 4 else if Nat.ble 41 op && Nat.ble op 43 then 2 else 1
noncomputable def rbR (op m y : Nat) : Bool := endsC cxD extD 3000 0 43 [argW] 100 (factsD op m y) (backK (cellsD false op m (signOf op y)))
noncomputable def tbR (op m y : Nat) : Bool := endsC cxD extD 3000 0 45 [.one ⟨false, [.e (A64.i64E op)]⟩, argW] 100 (factsD op m y) (backK (cellsD true op m (signOf op y)))
def nearF (op m : Nat) : Facts := if acc op then [(.cmp .eql (.bin .rem .u32 (.shf .shr .u32 (.var 0) (.int .u64 24)) (.int .u32 64)) (.int .u32 (Int.ofNat (A64.const op m / 2 ^ 24 % 64))), true)]
  else if Nat.beq op 40 then [(.cmp .eql (.shf .shr .u32 (.var 0) (.int .u64 26)) (.int .u32 (Int.ofNat (A64.const op m / 2 ^ 26))), true)]
  else [(.cmp .eql (.shf .shr .u32 (.var 0) (.int .u64 24)) (.int .u32 (Int.ofNat (A64.const op m / 2 ^ 24))), true)]
noncomputable def nbR (op m : Nat) : Bool := endsC cxD extD 3000 0 44 [.one ⟨false, [.e (A64.i64E op)]⟩, argW] 100 (nearF op m) (yesK cxD)
noncomputable def boolK (_ : Facts) : CX.SV → Bool
  | .one ⟨false, [.e x]⟩ => cxD.so x == .bool
  | _ => false
noncomputable def naR (op : Nat) : Bool := endsC cxD extD 3000 0 44 [.one ⟨false, [.e (A64.i64E op)]⟩, argW] 100 [] boolK
noncomputable def backR (p : Nat × Nat) : Bool := ((List.range (ways p.1)).all fun y => rbR p.1 p.2 y && tbR p.1 p.2 y) && nbR p.1 p.2
end Go.Proofs.YtclhmilecdjbiaaDoor
