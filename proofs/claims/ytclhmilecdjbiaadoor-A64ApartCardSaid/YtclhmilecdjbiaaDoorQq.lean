/- Layer 20: instructions of one word, or of one text, are one instruction. -/
import Derived.Test.YtclhmilecdjbiaaDoorQo
import Derived.Test.YtclhmilecdjbiaaDoorCXat
namespace Go.Proofs.YtclhmilecdjbiaaDoor
open Go Go.Proofs Go.RowKit Go.CX Go.SX Go.CX.A64
theorem apart_all : (insts.all fun p => apartW (A64.const p.1 p.2) (A64.fds p.1 p.2)) = true := by kernel_rfl
theorem unlike_all : (insts.all fun p => insts.all fun q => (Nat.beq p.1 q.1 && Nat.beq p.2 q.2) || unlike (A64.const p.1 p.2) (A64.const q.1 q.2) (maskFl (A64.fds p.1 p.2)) (maskFl (A64.fds q.1 q.2))) = true := by kernel_rfl
theorem heads_all : (insts.all fun p => insts.all fun q => !(eqBytes (headT p.1 p.2) (headT q.1 q.2)) || (Nat.beq p.1 q.1 && (Nat.beq p.1 39 || Nat.beq p.2 q.2))) = true := by kernel_rfl
theorem cell_num {fl : List Value} (hs : All2 So.has ssE fl) {i : Nat} (hi : ssE.getD i .any = .int .i64) : ∃ n, rhoE fl i = .int .i64 n ∧ -9223372036854775808 ≤ n ∧ n ≤ 9223372036854775807 := by
  have h := all2_get hs i
  rw [hi] at h
  exact h
theorem cell_six {fl : List Value} (hs : All2 So.has ssE fl) : ∃ n, rhoE fl 6 = .int .u64 n ∧ 0 ≤ n ∧ n ≤ 18446744073709551615 := all2_get hs 6
section
variable {fl : List Value} {l : Conds}
theorem c_lt (h : Conds.are (rhoE fl) phE l) {i : Nat} {k : IntKind} {n c : Int} {b : Bool} (hm : (E.cmp .lss (.var i) (.int k c), b) ∈ l) (hn : rhoE fl i = .int k n) : decide (n < c) = b := by
  have := h _ hm
  have : Value.bool (decide (vint (rhoE fl i) < c)) = .bool b := this
  rw [hn] at this
  injection this
theorem c_gt (h : Conds.are (rhoE fl) phE l) {i : Nat} {k : IntKind} {n c : Int} {b : Bool} (hm : (E.cmp .lss (.int k c) (.var i), b) ∈ l) (hn : rhoE fl i = .int k n) : decide (c < n) = b := by
  have := h _ hm
  have : Value.bool (decide (c < vint (rhoE fl i))) = .bool b := this
  rw [hn] at this
  injection this
end
/-- A register. -/
theorem reg_same {fl fl' : List Value} (hs : All2 So.has ssE fl) (hs' : All2 So.has ssE fl') {i : Nat} (hi : ssE.getD i .any = .int .i64) {l l' : Conds} (h : Conds.are (rhoE fl) phE l) (h' : Conds.are (rhoE fl') phE l') (hm : ∀ p ∈ regC i, p ∈ l) (hm' : ∀ p ∈ regC i, p ∈ l')
    (he : vint (rhoE fl i) % 2 ^ 5 = vint (rhoE fl' i) % 2 ^ 5) : rhoE fl i = rhoE fl' i := by
  obtain ⟨n, hn, _⟩ := cell_num hs hi
  obtain ⟨n', hn', _⟩ := cell_num hs' hi
  have a := of_decide_eq_false (c_lt (c := 0) h (hm _ (by simp [regC, i64E])) hn)
  have b := of_decide_eq_false (c_gt (c := 31) h (hm _ (by simp [regC, i64E])) hn)
  have a' := of_decide_eq_false (c_lt (c := 0) h' (hm' _ (by simp [regC, i64E])) hn')
  have b' := of_decide_eq_false (c_gt (c := 31) h' (hm' _ (by simp [regC, i64E])) hn')
  rw [hn, hn'] at he ⊢
  have he : n % 32 = n' % 32 := he
  have : n = n' := by omega
  rw [this]
/-- A small number. -/
theorem small_same {fl fl' : List Value} (hs : All2 So.has ssE fl) (hs' : All2 So.has ssE fl') {i k : Nat} (hi : ssE.getD i .any = .int .i64) {l l' : Conds} (h : Conds.are (rhoE fl) phE l) (h' : Conds.are (rhoE fl') phE l') (hm : ∀ p ∈ smallC i (2 ^ k), p ∈ l) (hm' : ∀ p ∈ smallC i (2 ^ k), p ∈ l')
    (he : vint (rhoE fl i) % 2 ^ k = vint (rhoE fl' i) % 2 ^ k) : rhoE fl i = rhoE fl' i := by
  obtain ⟨n, hn, _⟩ := cell_num hs hi
  obtain ⟨n', hn', _⟩ := cell_num hs' hi
  have a := of_decide_eq_false (c_lt (c := 0) h (hm _ (by simp [smallC, i64E])) hn)
  have b := of_decide_eq_true (c_lt (c := Int.ofNat (2 ^ k)) h (hm _ (by simp [smallC, i64E])) hn)
  have a' := of_decide_eq_false (c_lt (c := 0) h' (hm' _ (by simp [smallC, i64E])) hn')
  have b' := of_decide_eq_true (c_lt (c := Int.ofNat (2 ^ k)) h' (hm' _ (by simp [smallC, i64E])) hn')
  rw [hn, hn'] at he ⊢
  have he : n % 2 ^ k = n' % 2 ^ k := he
  have e : Int.ofNat (2 ^ k) = (2 : Int) ^ k := pow_cast k
  rw [e] at b b'
  rw [Int.emod_eq_of_lt (by omega) b, Int.emod_eq_of_lt (by omega) b'] at he
  rw [he]
/-- An immediate. -/
theorem imm_same {fl fl' : List Value} (hs : All2 So.has ssE fl) (hs' : All2 So.has ssE fl') {k : Nat} {l l' : Conds} (h : Conds.are (rhoE fl) phE l) (h' : Conds.are (rhoE fl') phE l') (hm : (E.cmp .lss (.var 6) (u64E (2 ^ k)), true) ∈ l) (hm' : (E.cmp .lss (.var 6) (u64E (2 ^ k)), true) ∈ l')
    (he : vint (rhoE fl 6) % 2 ^ k = vint (rhoE fl' 6) % 2 ^ k) : rhoE fl 6 = rhoE fl' 6 := by
  obtain ⟨n, hn, n0, _⟩ := cell_six hs
  obtain ⟨n', hn', n0', _⟩ := cell_six hs'
  have b := of_decide_eq_true (c_lt (c := Int.ofNat (2 ^ k)) h hm hn)
  have b' := of_decide_eq_true (c_lt (c := Int.ofNat (2 ^ k)) h' hm' hn')
  rw [hn, hn'] at he ⊢
  have he : n % 2 ^ k = n' % 2 ^ k := he
  have e : Int.ofNat (2 ^ k) = (2 : Int) ^ k := pow_cast k
  rw [e] at b b'
  rw [Int.emod_eq_of_lt n0 b, Int.emod_eq_of_lt n0' b'] at he
  rw [he]
/-- A number by the width. -/
theorem quo_same {fl fl' : List Value} (hs : All2 So.has ssE fl) (hs' : All2 So.has ssE fl') {m : Nat} (hm1 : m = 1 ∨ m = 2 ∨ m = 4 ∨ m = 8) (h : Conds.are (rhoE fl) phE (Lt.w.conds m)) (h' : Conds.are (rhoE fl') phE (Lt.w.conds m))
    (he : vint ((quoW m).den (rhoE fl) phE) % 2 ^ 12 = vint ((quoW m).den (rhoE fl') phE) % 2 ^ 12) : rhoE fl 6 = rhoE fl' 6 := by
  obtain ⟨n, hn, n0, n1⟩ := cell_six hs
  obtain ⟨n', hn', n0', n1'⟩ := cell_six hs'
  have key : ∀ {fl : List Value} {n : Int}, Conds.are (rhoE fl) phE (Lt.w.conds m) → rhoE fl 6 = .int .u64 n → n.tmod m = 0 ∧ IntKind.u64.wrap (n.tdiv m) < 4096 := by
    intro fl n h hn
    have a := h (.cmp .eql (.bin .rem .u64 (.var 6) (u64E m)) (u64E 0), true) List.mem_cons_self
    have b := h (.cmp .lss (quoW m) (u64E 4096), true) (List.mem_cons_of_mem _ List.mem_cons_self)
    have a : Value.bool ((vint (rhoE fl 6)).tmod m == 0) = .bool true := a
    have b : Value.bool (decide (IntKind.u64.wrap ((vint (rhoE fl 6)).tdiv m) < 4096)) = .bool true := b
    rw [hn] at a b
    injection a with a
    injection b with b
    exact ⟨eq_of_beq a, of_decide_eq_true b⟩
  obtain ⟨a, b⟩ := key h hn
  obtain ⟨a', b'⟩ := key h' hn'
  have he : IntKind.u64.wrap ((vint (rhoE fl 6)).tdiv m) % 4096 = IntKind.u64.wrap ((vint (rhoE fl' 6)).tdiv m) % 4096 := he
  rw [hn, hn'] at he ⊢
  have he : IntKind.u64.wrap (n.tdiv m) % 4096 = IntKind.u64.wrap (n'.tdiv m) % 4096 := he
  rw [Int.tmod_eq_emod_of_nonneg n0] at a
  rw [Int.tmod_eq_emod_of_nonneg n0'] at a'
  rw [Int.tdiv_eq_ediv_of_nonneg n0, IntKind.wrap_u64] at b he
  rw [Int.tdiv_eq_ediv_of_nonneg n0', IntKind.wrap_u64] at b' he
  have : n = n' := by rcases hm1 with rfl | rfl | rfl | rfl <;> omega
  rw [this]
/-- A logical immediate. -/
theorem enc_same {fl fl' : List Value} (hs : All2 So.has ssE fl) (hs' : All2 So.has ssE fl') (h : Conds.are (rhoE fl) phE [(encE 1, true)]) (h' : Conds.are (rhoE fl') phE [(encE 1, true)])
    (he : vint ((encE 0).den (rhoE fl) phE) % 2 ^ 13 = vint ((encE 0).den (rhoE fl') phE) % 2 ^ 13) : rhoE fl 6 = rhoE fl' 6 := by
  obtain ⟨n, hn, n0, n1⟩ := cell_six hs
  obtain ⟨n', hn', n0', n1'⟩ := cell_six hs'
  have key : ∀ {fl : List Value} {n : Int}, Conds.are (rhoE fl) phE [(encE 1, true)] → rhoE fl 6 = .int .u64 n → 0 ≤ n → n ≤ 18446744073709551615 → vint ((encE 0).den (rhoE fl) phE) = (encP n).1 ∧ Lg.dec (encP n).1.toNat = n ∧ 0 ≤ (encP n).1 ∧ (encP n).1 < 8192 := by
    intro fl n h hn n0 n1
    have hv : Cq.U64 n := ⟨n0, by omega⟩
    have a := h (encE 1, true) List.mem_cons_self
    have a : Value.bool (encP (vint (rhoE fl 6))).2 = .bool true := a
    rw [hn] at a
    injection a with a
    have a : (encP n).2 = true := a
    obtain ⟨c, ok, hE⟩ := enc_exists n
    have hc := encP_is hv hE
    have h13 := encP_13 hv
    rw [← hc] at a h13 ⊢
    have a : ok = true := a
    subst a
    refine ⟨?_, (hE.yes hv).2.1, h13.1, h13.2⟩
    show (encP (vint (rhoE fl 6))).1 = c
    rw [hn]
    show (encP n).1 = c
    rw [← hc]
  obtain ⟨a, b, c, d⟩ := key h hn n0 n1
  obtain ⟨a', b', c', d'⟩ := key h' hn' n0' n1'
  rw [a, a'] at he
  have he : (encP n).1 % 8192 = (encP n').1 % 8192 := he
  have e : (encP n).1 = (encP n').1 := by omega
  rw [e] at b
  rw [hn, hn', b.symm.trans b']
/-- A distance. -/
theorem off_same {fl fl' : List Value} (hs : All2 So.has ssE fl) (hs' : All2 So.has ssE fl') {k : Nat} {c : Nat} (hk : (k = 19 ∧ c = 1048576) ∨ (k = 26 ∧ c = 134217728)) (h : Conds.are (rhoE fl) phE (offC c)) (h' : Conds.are (rhoE fl') phE (offC c))
    (he : vint ((E.bin .quo .i64 (.var 7) (i64E 4)).den (rhoE fl) phE) % 2 ^ k = vint ((E.bin .quo .i64 (.var 7) (i64E 4)).den (rhoE fl') phE) % 2 ^ k) : rhoE fl 7 = rhoE fl' 7 := by
  obtain ⟨n, hn, n0, n1⟩ := cell_num hs (i := 7) rfl
  obtain ⟨n', hn', n0', n1'⟩ := cell_num hs' (i := 7) rfl
  have key : ∀ {fl : List Value} {n : Int}, Conds.are (rhoE fl) phE (offC c) → rhoE fl 7 = .int .i64 n → n.tmod 4 = 0 ∧ -(c : Int) ≤ n ∧ n < c := by
    intro fl n h hn
    have a := h (.cmp .eql (.bin .rem .i64 (.var 7) (i64E 4)) (i64E 0), true) List.mem_cons_self
    have a : Value.bool ((vint (rhoE fl 7)).tmod 4 == 0) = .bool true := a
    rw [hn] at a
    injection a with a
    have b := of_decide_eq_false (c_lt (c := -Int.ofNat c) h (List.mem_cons_of_mem _ List.mem_cons_self) hn)
    have d := of_decide_eq_true (c_lt (c := Int.ofNat c) h (List.mem_cons_of_mem _ (List.mem_cons_of_mem _ List.mem_cons_self)) hn)
    have e : Int.ofNat c = (c : Int) := rfl
    rw [e] at b d
    exact ⟨eq_of_beq a, by omega, d⟩
  obtain ⟨a, b, d⟩ := key h hn
  obtain ⟨a', b', d'⟩ := key h' hn'
  have he : IntKind.i64.wrap ((vint (rhoE fl 7)).tdiv 4) % 2 ^ k = IntKind.i64.wrap ((vint (rhoE fl' 7)).tdiv 4) % 2 ^ k := he
  rw [hn, hn'] at he ⊢
  have he : IntKind.i64.wrap (n.tdiv 4) % 2 ^ k = IntKind.i64.wrap (n'.tdiv 4) % 2 ^ k := he
  obtain ⟨z, rfl⟩ : ∃ z, n = 4 * z := ⟨n.tdiv 4, by have := Int.mul_tdiv_add_tmod n 4; omega⟩
  obtain ⟨z', rfl⟩ : ∃ z, n' = 4 * z := ⟨n'.tdiv 4, by have := Int.mul_tdiv_add_tmod n' 4; omega⟩
  rw [Int.mul_tdiv_cancel_left z (by decide), Int.mul_tdiv_cancel_left z' (by decide), IntKind.wrap_i64, IntKind.wrap_i64] at he
  have : z = z' := by
    rcases hk with ⟨rfl, rfl⟩ | ⟨rfl, rfl⟩
    · have he : ((z + 9223372036854775808) % 18446744073709551616 - 9223372036854775808) % 524288 = ((z' + 9223372036854775808) % 18446744073709551616 - 9223372036854775808) % 524288 := he
      omega
    · have he : ((z + 9223372036854775808) % 18446744073709551616 - 9223372036854775808) % 67108864 = ((z' + 9223372036854775808) % 18446744073709551616 - 9223372036854775808) % 67108864 := he
      omega
  rw [this]
/-- What a letter's field tells of its cell. -/
theorem letter_same {fl fl' : List Value} (hs : All2 So.has ssE fl) (hs' : All2 So.has ssE fl') (x : A64.Lt) (hx : x ≠ .o) {m : Nat} (hm : m = 1 ∨ m = 2 ∨ m = 4 ∨ m = 8) (h : Conds.are (rhoE fl) phE (x.conds m)) (h' : Conds.are (rhoE fl') phE (x.conds m))
    (he : vint ((x.fd m).1.den (rhoE fl) phE) % 2 ^ (x.fd m).2.1 = vint ((x.fd m).1.den (rhoE fl') phE) % 2 ^ (x.fd m).2.1) : rhoE fl x.cell = rhoE fl' x.cell := by
  have up : ∀ {l r : Conds}, ∀ p ∈ l, p ∈ l ++ r := fun p hp => List.mem_append_left _ hp
  have id : ∀ {l : Conds}, ∀ p ∈ l, p ∈ l := fun p hp => hp
  cases x with
  | D => exact reg_same hs hs' (i := 2) rfl h h' id id he
  | d => exact reg_same hs hs' (i := 2) rfl h h' up up he
  | N => exact reg_same hs hs' (i := 3) rfl h h' id id he
  | n => exact reg_same hs hs' (i := 3) rfl h h' up up he
  | M => exact reg_same hs hs' (i := 4) rfl h h' id id he
  | m => exact reg_same hs hs' (i := 4) rfl h h' up up he
  | A => exact reg_same hs hs' (i := 5) rfl h h' id id he
  | i => exact imm_same hs hs' (k := 12) h h' List.mem_cons_self List.mem_cons_self he
  | k => exact imm_same hs hs' (k := 16) h h' List.mem_cons_self List.mem_cons_self he
  | l => exact enc_same hs hs' h h' he
  | w => exact quo_same hs hs' hm h h' he
  | o => exact absurd rfl hx
  | S => exact small_same hs hs' (i := 10) (k := 6) rfl h h' id id he
  | s => exact small_same hs hs' (i := 10) (k := 2) rfl h h' id id he
  | R => exact small_same hs hs' (i := 9) (k := 6) rfl h h' id id he
  | C => exact small_same hs hs' (i := 8) (k := 4) rfl h h' id id he
  | c => exact small_same hs hs' (i := 8) (k := 4) rfl h h' id id he
  | f => exact off_same hs hs' (Or.inl ⟨rfl, rfl⟩) h h' he
  | F => exact off_same hs hs' (Or.inr ⟨rfl, rfl⟩) h h' he
theorem inst_m {op m : Nat} (hi : (op, m) ∈ insts) (h39 : op ≠ 39) : m = 1 ∨ m = 2 ∨ m = 4 ∨ m = 8 := by
  have := (insts_in _ hi).2.2.2 h39
  unfold widths at this
  split at this
  · simpa using this
  · simp only [List.mem_singleton] at this; exact Or.inr (Or.inr (Or.inr this))
theorem wid_m {op m : Nat} (h39 : op ≠ 39) : A64.wid op m = m := by
  unfold A64.wid
  rw [show Nat.beq op 39 = false from nbeq_no h39]; rfl
theorem no_o {op : Nat} (h39 : op ≠ 39) : ∀ x ∈ A64.letters op, x ≠ .o := by
  intro x hx e
  subst e
  unfold A64.letters at hx
  split at hx <;> first | (exact absurd rfl h39) | (simp at hx)
theorem conds_letter {op m : Nat} (h39 : op ≠ 39) {x : A64.Lt} (hx : x ∈ A64.letters op) : ∀ p ∈ x.conds m, p ∈ A64.conds op m := by
  intro p hp
  unfold A64.conds
  rw [wid_m h39]
  exact List.mem_append_left _ (List.mem_append_left _ (List.mem_flatMap.2 ⟨x, hx, hp⟩))
theorem conds_zero {op m v : Nat} (hv : v ∈ [2, 3, 4, 5, 6, 7, 8, 9, 10]) (hn : ∀ x ∈ A64.letters op, x.cell ≠ v) : A64.zeroC v ∈ A64.conds op m := by
  unfold A64.conds
  refine List.mem_append_right _ (List.mem_map.2 ⟨v, List.mem_filter.2 ⟨hv, ?_⟩, rfl⟩)
  have : ((A64.letters op).any fun x => Nat.beq x.cell v) = false := by
    rw [List.any_eq_false]
    intro x hx
    rw [nbeq_no (hn x hx)]
    simp
  rw [this]; rfl
theorem zero_same {fl fl' : List Value} (hs : All2 So.has ssE fl) (hs' : All2 So.has ssE fl') {v : Nat} (hv : v ∈ [2, 3, 4, 5, 6, 7, 8, 9, 10]) {l : Conds} (h : Conds.are (rhoE fl) phE l) (h' : Conds.are (rhoE fl') phE l) (hm : A64.zeroC v ∈ l) : rhoE fl v = rhoE fl' v := by
  have key : ∀ {fl : List Value}, Conds.are (rhoE fl) phE l → vint (rhoE fl v) = 0 := by
    intro fl h
    have a := h _ hm
    have a : Value.bool (vint (rhoE fl v) == 0) = .bool true := a
    injection a with a
    exact eq_of_beq a
  have a := key h
  have b := key h'
  by_cases h6 : v = 6
  · subst h6
    obtain ⟨n, hn, _⟩ := cell_six hs
    obtain ⟨n', hn', _⟩ := cell_six hs'
    rw [hn] at a ⊢
    rw [hn'] at b ⊢
    have a : n = 0 := a
    have b : n' = 0 := b
    rw [a, b]
  · have hi : ssE.getD v .any = .int .i64 := by
      simp only [List.mem_cons, List.not_mem_nil, or_false] at hv
      rcases hv with rfl | rfl | rfl | rfl | rfl | rfl | rfl | rfl | rfl <;> first | rfl | exact absurd rfl h6
    obtain ⟨n, hn, _⟩ := cell_num hs hi
    obtain ⟨n', hn', _⟩ := cell_num hs' hi
    rw [hn] at a ⊢
    rw [hn'] at b ⊢
    have a : n = 0 := a
    have b : n' = 0 := b
    rw [a, b]
theorem list_same {fl fl' : List Value} (hs : All2 So.has ssE fl) (hs' : All2 So.has ssE fl') (h : ∀ v, v < 11 → rhoE fl v = rhoE fl' v) : fl = fl' := by
  obtain ⟨o, w, a, b, c, d, v, e, f, g, hh, rfl⟩ := cells11 hs
  obtain ⟨o', w', a', b', c', d', v', e', f', g', hh', rfl⟩ := cells11 hs'
  have h0 : Value.int .i64 o = .int .i64 o' := h 0 (by decide)
  have h1 : Value.int .i64 w = .int .i64 w' := h 1 (by decide)
  have h2 : a = a' := h 2 (by decide)
  have h3 : b = b' := h 3 (by decide)
  have h4 : c = c' := h 4 (by decide)
  have h5 : d = d' := h 5 (by decide)
  have h6 : Value.int .u64 v = .int .u64 v' := h 6 (by decide)
  have h7 : e = e' := h 7 (by decide)
  have h8 : f = f' := h 8 (by decide)
  have h9 : g = g' := h 9 (by decide)
  have h10 : hh = hh' := h 10 (by decide)
  rw [h0, h1, h2, h3, h4, h5, h6, h7, h8, h9, h10]
/-- One kind, one letter's cells: one instruction. -/
theorem same_of {fl fl' : List Value} (hs : All2 So.has ssE fl) (hs' : All2 So.has ssE fl') {op m : Nat} (h : Is fl op m) (h' : Is fl' op m) (hl : op ≠ 39 → ∀ x ∈ A64.letters op, rhoE fl x.cell = rhoE fl' x.cell) : fl = fl' := by
  refine list_same hs hs' fun v hv => ?_
  by_cases h0 : v = 0
  · subst h0; exact h.2.1.1.trans h'.2.1.1.symm
  by_cases h1 : v = 1
  · subst h1; exact h.2.1.2.1.trans h'.2.1.2.1.symm
  have hv9 : v ∈ [2, 3, 4, 5, 6, 7, 8, 9, 10] := by
    have : v = 2 ∨ v = 3 ∨ v = 4 ∨ v = 5 ∨ v = 6 ∨ v = 7 ∨ v = 8 ∨ v = 9 ∨ v = 10 := by omega
    simpa using this
  by_cases hx : ∃ x ∈ A64.letters op, x.cell = v
  · obtain ⟨x, hx, rfl⟩ := hx
    by_cases h39 : op = 39
    · subst h39
      have : x = .o := by have : x ∈ [A64.Lt.o] := hx; simpa using this
      subst this
      exact (h.2.1.2.2 rfl).trans (h'.2.1.2.2 rfl).symm
    · exact hl h39 x hx
  · exact zero_same hs hs' hv9 h.2.2 h'.2.2 (conds_zero hv9 fun x hxl e => hx ⟨x, hxl, e⟩)
theorem word_inj {fl fl' : List Value} (hs : All2 So.has ssE fl) (hs' : All2 So.has ssE fl') {op m op' m' : Nat} (h : Is fl op m) (h' : Is fl' op' m') (hw : wordV fl op m = wordV fl' op' m') : fl = fl' := by
  have ha := List.all_eq_true.1 apart_all _ h.1
  have ha' := List.all_eq_true.1 apart_all _ h'.1
  have hu := List.all_eq_true.1 (List.all_eq_true.1 unlike_all _ h.1) _ h'.1
  rcases Bool.or_eq_true _ _ |>.mp hu with hu | hu
  · rw [Bool.and_eq_true] at hu
    have e1 : op = op' := Nat.eq_of_beq_eq_true hu.1
    have e2 : m = m' := Nat.eq_of_beq_eq_true hu.2
    subst e1 e2
    refine same_of hs hs' h h' fun h39 x hx => ?_
    have hc : Conds.are (rhoE fl) phE (x.conds m) := fun p hp => h.2.2 p (conds_letter h39 hx p hp)
    have hc' : Conds.are (rhoE fl') phE (x.conds m) := fun p hp => h'.2.2 p (conds_letter h39 hx p hp)
    refine letter_same hs hs' x (no_o h39 x hx) (inst_m h.1 h39) hc hc' ?_
    have hmem : x.fd m ∈ A64.fds op m := by
      unfold A64.fds
      rw [show Nat.beq op 39 = false from nbeq_no h39]
      exact List.mem_reverse.2 (List.mem_map.2 ⟨x, hx, rfl⟩)
    exact word_fields ha hw hmem
  · exact absurd hw (words_unlike ha ha' hu)
theorem noB_name (op : Nat) : NoB (A64.name op) := by
  unfold A64.name NoB; split <;> decide
theorem itoa_one {m : Nat} (h : m = 1 ∨ m = 2 ∨ m = 4 ∨ m = 8) : Lib.itoa (m : Int) = [UInt8.ofNat (48 + m)] := by
  rw [Lib.itoa_nonneg]
  exact Lib.decDigits_one (by omega)
/-- A text: its first token, the others. -/
noncomputable def restT (fl : List Value) (op m : Nat) : List UInt8 := if op = 39 then [32] ++ Lib.itoa (m : Int) else numsT (fun i => vint (rhoE fl i)) (A64.letters op)
theorem acc39 : A64.acc 39 = false := rfl
theorem text_form {fl : List Value} {op m : Nat} (hi : (op, m) ∈ insts) : textV fl op m = headT op m ++ restT fl op m := by
  unfold textV A64.text restT headT
  by_cases h39 : op = 39
  · subst h39
    rw [acc39, if_pos rfl]
    show A64.name 39 ++ ([32] ++ (Lib.itoa (m : Int) ++ [])) = _
    simp
  · rw [show Nat.beq op 39 = false from nbeq_no h39, if_neg h39]
    have hl : ∀ l : List A64.Lt, textI (rhoE fl) phE (l.flatMap Lt.txt) = numsT (fun i => vint (rhoE fl i)) l := by
      intro l
      induction l with
      | nil => rfl
      | cons x l ih =>
        show sepL x ++ (Lib.itoa (vint (rhoE fl x.cell)) ++ textI (rhoE fl) phE (l.flatMap Lt.txt)) = (sepL x ++ Lib.itoa (vint (rhoE fl x.cell))) ++ numsT (fun i => vint (rhoE fl i)) l
        rw [ih, List.append_assoc]
    cases hacc : A64.acc op
    · show A64.name op ++ textI (rhoE fl) phE ((A64.letters op).flatMap Lt.txt) = _
      rw [hl]; simp
    · show A64.name op ++ ([46] ++ (Lib.itoa (m : Int) ++ textI (rhoE fl) phE ((A64.letters op).flatMap Lt.txt))) = _
      rw [hl, itoa_one (inst_m hi h39)]; simp
theorem head_noB {op m : Nat} (hi : (op, m) ∈ insts) : NoB (headT op m) := by
  have hm := small_m hi
  intro b hb
  unfold headT at hb
  rcases List.mem_append.1 hb with hb | hb
  · exact noB_name op b hb
  · split at hb
    · simp only [List.mem_cons, List.not_mem_nil, or_false] at hb
      rcases hb with rfl | rfl
      · decide
      · intro e
        have := congrArg UInt8.toNat e
        rw [UInt8.toNat_ofNat'] at this
        have : (48 + m) % 256 = 32 := this
        omega
    · simp at hb
theorem rest_sep (fl : List Value) (op m : Nat) : Sep (restT fl op m) := by
  unfold restT
  split
  · exact Or.inr ⟨_, rfl⟩
  · exact numsT_sep _ _
theorem text_inj {fl fl' : List Value} (hs : All2 So.has ssE fl) (hs' : All2 So.has ssE fl') {op m op' m' : Nat} (h : Is fl op m) (h' : Is fl' op' m') (hw : textV fl op m = textV fl' op' m') : fl = fl' := by
  rw [text_form h.1, text_form h'.1] at hw
  obtain ⟨e1, e2⟩ := tok_split (head_noB h.1) (head_noB h'.1) (rest_sep _ _ _) (rest_sep _ _ _) hw
  have hu := List.all_eq_true.1 (List.all_eq_true.1 heads_all _ h.1) _ h'.1
  have he : eqBytes (headT op m) (headT op' m') = true := by
    rw [e1]
    have : ∀ l : List UInt8, eqBytes l l = true := by
      intro l
      induction l with
      | nil => rfl
      | cons x l ih => simp [eqBytes, ih]
    exact this _
  simp only [he, Bool.not_true, Bool.false_or, Bool.and_eq_true, Bool.or_eq_true] at hu
  have e3 : op = op' := Nat.eq_of_beq_eq_true hu.1
  subst e3
  by_cases h39 : op = 39
  · subst h39
    unfold restT at e2
    rw [if_pos rfl, if_pos rfl] at e2
    have e2 := itoa_inj (List.append_cancel_left e2)
    have e2 : m = m' := by omega
    subst e2
    exact same_of hs hs' h h' fun h => absurd rfl h
  · have e4 : m = m' := by
      rcases hu.2 with h | h
      · exact absurd (Nat.eq_of_beq_eq_true h) h39
      · exact Nat.eq_of_beq_eq_true h
    subst e4
    refine same_of hs hs' h h' fun _ x hx => ?_
    unfold restT at e2
    rw [if_neg h39, if_neg h39] at e2
    have hv := numsT_inj e2 x hx
    by_cases h6 : x.cell = 6
    · rw [h6] at hv ⊢
      obtain ⟨n, hn, _⟩ := cell_six hs
      obtain ⟨n', hn', _⟩ := cell_six hs'
      rw [hn, hn'] at hv ⊢
      have hv : n = n' := hv
      rw [hv]
    · have hi : ssE.getD x.cell .any = .int .i64 := by
        cases x <;> first | rfl | exact absurd rfl h6
      obtain ⟨n, hn, _⟩ := cell_num hs hi
      obtain ⟨n', hn', _⟩ := cell_num hs' hi
      rw [hn, hn'] at hv ⊢
      have hv : n = n' := hv
      rw [hv]
end Go.Proofs.YtclhmilecdjbiaaDoor

/- Layer 20: the law of unlike instructions, by its runs. -/
namespace Go.Proofs.YtclhmilecdjbiaaDoor
open Go Go.Proofs Go.RowKit Go.CX Go.SX
/-- An operation's row: of a known one, of one that is known to be. -/
noncomputable def rowX (cx : Cx) (f : FuncId) : ExtT := fun g args _ n fs => if Nat.beq g f then (match args with
  | [.one ⟨false, [.e x]⟩] => (match x with
    | .int .i64 (.ofNat k) => if Nat.ble 1 k && Nat.ble k 47 then some (.ok ⟨.one ⟨true, [.e (.val (strOf (nameB k))), .e (.int .u64 (.ofNat (A64.base k))), .e (.val (strOf (refL k)))]⟩, [], n⟩) else none
    | x => if (cx.so x == .int .i64) && (dec cx fs (.cmp .lss x (.int .i64 1)) == some false) && (dec cx fs (.cmp .lss (.int .i64 47) x) == some false) then some (.ok ⟨.one ⟨true, [.e (.app 13 0 (toL [x])), .e (.app 14 0 (toL [x])), .e (.app 15 0 (toL [x]))]⟩, [], n⟩) else none)
  | _ => none) else none
theorem base_lt (k : Nat) : A64.base k < 4294967296 := by
  unfold A64.base
  have : ∀ x ∈ A64.bases, x < 4294967296 := by decide
  rw [List.getD_eq_getElem?_getD]
  cases h : A64.bases[k]? with
  | none => decide
  | some x => exact this x (List.mem_of_getElem? h)
theorem rowX_ok {Γ : List So} {ws : Base} : ExtOk ws (cxL Γ) phL (rowX (cxL Γ) 18) := by
  intro g svs B n fs d h ρ β w xs N F hf hW hnn ha
  unfold rowX at h
  split at h
  · rename_i he
    have he := Nat.eq_of_beq_eq_true he
    subst he
    have hin := enters Tryd.func18 (c := Tryd.f18.body.getD .skip) (by kernel_rfl) (by kernel_rfl)
    split at h
    · rename_i x
      match xs, ha with
      | [v], ha =>
        have hv : v = x.den ρ phL := ha.1
        split at h
        · rename_i _ k _
          split at h
          · rename_i hk
            rw [Bool.and_eq_true] at hk
            simp only [Option.some.injEq, CX.OR.ok.injEq] at h
            subst h
            have hv : v = .int .i64 (Int.ofNat k) := hv
            subst hv
            refine ⟨hin _ _, Calls.mono (row_any k (Nat.le_of_ble_eq_true hk.1) (Nat.le_of_ble_eq_true hk.2) w) ?_⟩
            rintro e w' ⟨rfl, hb⟩
            exact ⟨_, β, rfl, Ext.refl _, Newer.refl _ _ _, hW.grow hb, [_, _, _], rfl, rfl, rfl, rfl, trivial⟩
          · exact absurd h (by simp)
        · split at h
          · rename_i hc
            simp only [Bool.and_eq_true] at hc
            simp only [Option.some.injEq, CX.OR.ok.injEq] at h
            subst h
            obtain ⟨m, hm, m0, m1⟩ := so_num F (so_eq hc.1.1)
            have a := of_decide_eq_false (dec_lss F hf hc.1.2)
            have b := dec_sound F hf (eq_of_beq hc.2)
            have b : Value.bool (decide ((47 : Int) < vint (x.den ρ phL))) = .bool false := b
            have b := of_decide_eq_false (Value.bool.inj b)
            rw [hm] at a b hv
            have a : ¬ m < 1 := a
            have b : ¬ 47 < m := b
            obtain ⟨k, rfl⟩ := Int.eq_ofNat_of_zero_le (show 0 ≤ m by omega)
            subst hv
            refine ⟨hin _ _, Calls.mono (row_any k (by omega) (by omega) w) ?_⟩
            rintro e w' ⟨rfl, hb⟩
            refine ⟨_, β, rfl, Ext.refl _, Newer.refl _ _ _, hW.grow hb, [_, _, _], rfl, ?_, ?_, ?_, trivial⟩
            · show strOf (nameB k) = (phL 13 (E.dens ρ phL (toL [x]))).getD 0 undef
              rw [toL_dens]
              show _ = strO (nameB (vint (x.den ρ phL)).toNat)
              rw [hm]
              show _ = strO (nameB k)
              rw [strO_is (by have := name_len k; show (A64.name k).length ≤ 1000; omega)]; rfl
            · show Value.int .u64 (Int.ofNat (A64.base k)) = (phL 14 (E.dens ρ phL (toL [x]))).getD 0 undef
              rw [toL_dens]
              show _ = Value.int .u64 (IntKind.u64.wrap (A64.base (vint (x.den ρ phL)).toNat))
              rw [hm]
              show _ = Value.int .u64 (IntKind.u64.wrap (A64.base k : Int))
              have := base_lt k
              rw [IntKind.wrap_u64, show ((A64.base k : Int) % 18446744073709551616) = A64.base k by omega]; rfl
            · show strOf (refL k) = (phL 15 (E.dens ρ phL (toL [x]))).getD 0 undef
              rw [toL_dens]
              show _ = strO (refL (vint (x.den ρ phL)).toNat)
              rw [hm]
              show _ = strO (refL k)
              rw [strO_is (by have := refL_len k; omega)]; rfl
          · exact absurd h (by simp)
    · exact absurd h (by simp)
  · exact absurd h (by simp)
noncomputable def extP (Γ : List So) : ExtT := orX (extL Γ) (rowX (cxL Γ) 18)
theorem extP_ok {Γ : List So} {w : World} (h : TabsA w) : ExtOk ⟨w, []⟩ (cxL Γ) phL (extP Γ) := orX_ok (extL_ok h) rowX_ok
noncomputable def runA (Γ : List So) (es1 es2 : List E) (fs : Facts) : Bool := endsC (cxL Γ) (extP Γ) 3000 0 5 [.one ⟨true, es1.map .e⟩, .one ⟨true, es2.map .e⟩] 60 fs (yesK (cxL Γ))
def ss2 : List So := ssE ++ ssE
noncomputable def esB : List E := (List.range 11).map fun i => .var (i + 11)
/-- of a kind of operation: one that jumps or ends, or none (0) -/
noncomputable def esC (k : Nat) : List E := if Nat.beq k 0 then esA else .int .i64 (Int.ofNat k) :: (List.range 10).map fun i => .var (i + 1)
def enders : List Nat := [40, 41, 42, 43, 44, 46]
noncomputable def factsC (k : Nat) : Facts := (.app 9 0 (toL (esC k)), true) :: (if Nat.beq k 0 then (.cmp .lss (.var 0) (.int .i64 1), false) :: (.cmp .lss (.int .i64 47) (.var 0), false) :: (enders.map fun j => ((.cmp .eql (.var 0) (.int .i64 (Int.ofNat j)), false) : E × Bool)) ++ enders.map fun j => ((.seq (.app 13 0 (toL [.var 0])) (.val (strOf (nameB j))), false) : E × Bool) else [])
/-- All cells equal. -/
def chainE : List (E × E) → E
  | [] => .bool true
  | [(a, b)] => .cmp .eql a b
  | (a, b) :: l => .ite (.cmp .eql a b) (chainE l) (.bool false)
noncomputable def chainP (k : Nat) : List (E × E) := if Nat.beq k 0 then esA.zip esB else (.var 11, .int .i64 (Int.ofNat k)) :: ((List.range 10).map fun i => (.var (i + 1), .var (i + 12)))
noncomputable def chainC (k : Nat) : E := chainE (chainP k)
noncomputable def factsA (k : Nat) : Facts := (.app 9 0 (toL esB), true) :: (.beq (.cmp .eql (.app 10 0 (toL (esC k))) (.app 10 0 (toL esB))) (chainC k), true) :: (.beq (.seq (.app 11 0 (toL (esC k))) (.app 11 0 (toL esB))) (chainC k), true) :: factsC k
noncomputable def apartR (k : Nat) : Bool := runA ss2 (esC k) esB (factsA k)
set_option maxRecDepth 100000
theorem apart_no1 : runA ss2 esA esB [(.app 9 0 (toL esA), false)] = true := by kernel_rfl
theorem apart_no2 : runA ss2 esA esB [(.app 9 0 (toL esA), true), (.app 9 0 (toL esB), false)] = true := by kernel_rfl
theorem apart_0 : apartR 0 = true := by kernel_rfl
theorem apart_40 : apartR 40 = true := by kernel_rfl
theorem apart_41 : apartR 41 = true := by kernel_rfl
theorem apart_42 : apartR 42 = true := by kernel_rfl
theorem apart_43 : apartR 43 = true := by kernel_rfl
theorem apart_44 : apartR 44 = true := by kernel_rfl
theorem apart_46 : apartR 46 = true := by kernel_rfl
theorem chain_den {ρ : Nat → Value} {φ : Nat → List Value → List Value} : ∀ l : List (E × E), (chainE l).den ρ φ = .bool (l.all fun p => vint (p.1.den ρ φ) == vint (p.2.den ρ φ))
  | [] => rfl
  | [(a, b)] => by
    show Value.bool (vint (a.den ρ φ) == vint (b.den ρ φ)) = _
    simp
  | (a, b) :: p :: l => by
    show (if vbool (Value.bool (vint (a.den ρ φ) == vint (b.den ρ φ))) then (chainE (p :: l)).den ρ φ else .bool false) = .bool ((vint (a.den ρ φ) == vint (b.den ρ φ)) && (p :: l).all fun p => vint (p.1.den ρ φ) == vint (p.2.den ρ φ))
    rw [chain_den (p :: l)]
    cases (vint (a.den ρ φ) == vint (b.den ρ φ)) <;> rfl
theorem rho_app {fl fl' : List Value} (h : fl.length = 11) {i : Nat} (hi : i < 11) : rhoE (fl ++ fl') i = rhoE fl i ∧ rhoE (fl ++ fl') (i + 11) = rhoE fl' i := by
  constructor
  · show (fl ++ fl').getD i undef = fl.getD i undef
    rw [List.getD_eq_getElem?_getD, List.getD_eq_getElem?_getD, List.getElem?_append_left (by omega)]
  · show (fl ++ fl').getD (i + 11) undef = fl'.getD i undef
    rw [List.getD_eq_getElem?_getD, List.getD_eq_getElem?_getD, List.getElem?_append_right (by omega), h, Nat.add_sub_cancel]
theorem len11 {fl : List Value} (hs : All2 So.has ssE fl) : fl.length = 11 := hs.length.symm
theorem esB_den {fl fl' : List Value} (hs : All2 So.has ssE fl) (hs' : All2 So.has ssE fl') (φ : Nat → List Value → List Value) : esB.map (·.den (rhoE (fl ++ fl')) φ) = fl' := by
  have h := len11 hs
  obtain ⟨o, w, a, b, c, d, v, e, f, g, hh, rfl⟩ := cells11 hs'
  have key : ∀ i, i < 11 → rhoE (fl ++ [.int .i64 o, .int .i64 w, a, b, c, d, .int .u64 v, e, f, g, hh]) (i + 11) = rhoE [.int .i64 o, .int .i64 w, a, b, c, d, .int .u64 v, e, f, g, hh] i := fun i hi => (rho_app h hi).2
  show [rhoE (fl ++ _) (0 + 11), rhoE (fl ++ _) (1 + 11), rhoE (fl ++ _) (2 + 11), rhoE (fl ++ _) (3 + 11), rhoE (fl ++ _) (4 + 11), rhoE (fl ++ _) (5 + 11), rhoE (fl ++ _) (6 + 11), rhoE (fl ++ _) (7 + 11), rhoE (fl ++ _) (8 + 11), rhoE (fl ++ _) (9 + 11), rhoE (fl ++ _) (10 + 11)] = _
  rw [key 0 (by decide), key 1 (by decide), key 2 (by decide), key 3 (by decide), key 4 (by decide), key 5 (by decide), key 6 (by decide), key 7 (by decide), key 8 (by decide), key 9 (by decide), key 10 (by decide)]
  rfl
theorem esA_den2 {fl fl' : List Value} (hs : All2 So.has ssE fl) (φ : Nat → List Value → List Value) : esA.map (·.den (rhoE (fl ++ fl')) φ) = fl := by
  obtain ⟨o, w, a, b, c, d, v, e, f, g, hh, rfl⟩ := cells11 hs
  rfl
theorem all2_app {fl fl' : List Value} : ∀ {ss : List So} {ss' : List So}, All2 So.has ss fl → All2 So.has ss' fl' → All2 So.has (ss ++ ss') (fl ++ fl') := by
  intro ss
  induction ss generalizing fl with
  | nil => intro ss' h h'; cases fl with | nil => exact h' | cons _ _ => exact h.elim
  | cons s ss ih =>
    intro ss' h h'
    cases fl with
    | nil => exact h.elim
    | cons v fl => exact ⟨h.1, ih h.2 h'⟩
/-- All cells equal: one instruction. -/
theorem vint_same {fl fl' : List Value} (hs : All2 So.has ssE fl) (hs' : All2 So.has ssE fl') : ((List.range 11).all fun i => vint (rhoE fl i) == vint (rhoE fl' i)) = true ↔ fl = fl' := by
  constructor
  · intro h
    refine list_same hs hs' fun i hi => ?_
    have := List.all_eq_true.1 h i (List.mem_range.2 hi)
    have := eq_of_beq this
    by_cases h6 : i = 6
    · subst h6
      obtain ⟨n, hn, _⟩ := cell_six hs
      obtain ⟨n', hn', _⟩ := cell_six hs'
      rw [hn, hn'] at this ⊢
      have this : n = n' := this
      rw [this]
    · have hg : ssE.getD i .any = .int .i64 := by
        have : i = 0 ∨ i = 1 ∨ i = 2 ∨ i = 3 ∨ i = 4 ∨ i = 5 ∨ i = 7 ∨ i = 8 ∨ i = 9 ∨ i = 10 := by omega
        rcases this with rfl | rfl | rfl | rfl | rfl | rfl | rfl | rfl | rfl | rfl <;> rfl
      obtain ⟨n, hn, _⟩ := cell_num hs hg
      obtain ⟨n', hn', _⟩ := cell_num hs' hg
      rw [hn, hn'] at this ⊢
      have this : n = n' := this
      rw [this]
  · rintro rfl
    exact List.all_eq_true.2 fun i _ => by simp
theorem names_apart : ((List.range 48).all fun o => enders.all fun j => Nat.beq o j || !(eqBytes (nameB o) (nameB j))) = true := by kernel_rfl
theorem eqBytes_self (l : List UInt8) : eqBytes l l = true := by
  induction l with
  | nil => rfl
  | cons x l ih => simp [eqBytes, ih]
theorem vstr_of (l : List UInt8) : vstr (.string ⟨l.toArray⟩) = l := by simp [vstr, ByteArray.toList_eq]
theorem name_ne {op j : Nat} (h47 : op ≤ 47) (hj : j ∈ enders) (h : op ≠ j) : nameB op ≠ nameB j := by
  intro e
  have h1 := List.all_eq_true.1 (List.all_eq_true.1 names_apart op (List.mem_range.2 (by omega))) j hj
  rw [show Nat.beq op j = false from nbeq_no h, Bool.false_or, e, eqBytes_self] at h1
  cases h1
theorem nameB_len (op : Nat) : (nameB op).length ≤ 1000 := by have := name_len op; unfold nameB; omega
theorem name_sym {vs : List Value} {op : Nat} (hr0 : rhoE vs 0 = .int .i64 (Int.ofNat op)) : E.den (rhoE vs) phL (.app 13 0 (toL [.var 0])) = .string ⟨(nameB op).toArray⟩ := by
  show (phL 13 (E.dens (rhoE vs) phL (toL [.var 0]))).getD 0 undef = _
  rw [toL_dens]
  show strO (nameB (vint (rhoE vs 0)).toNat) = _
  rw [hr0]
  exact strO_is (nameB_len op)
theorem ends_hold {vs : List Value} {op : Nat} (hr0 : rhoE vs 0 = .int .i64 (Int.ofNat op)) (h47 : op ≤ 47) (hno : ∀ j ∈ enders, op ≠ j) :
    Facts.hold (rhoE vs) phL ((enders.map fun j => ((.cmp .eql (.var 0) (.int .i64 (Int.ofNat j)), false) : E × Bool)) ++ enders.map fun j => ((.seq (.app 13 0 (toL [.var 0])) (.val (strOf (nameB j))), false) : E × Bool)) := by
  intro p hp
  rcases List.mem_append.1 hp with hp | hp
  · obtain ⟨j, hj, rfl⟩ := List.mem_map.1 hp
    show Value.bool (vint (rhoE vs 0) == Int.ofNat j) = .bool false
    rw [hr0]
    congr 1
    rw [beq_eq_false_iff_ne]
    intro e
    exact hno j hj (Int.ofNat.inj e)
  · obtain ⟨j, hj, rfl⟩ := List.mem_map.1 hp
    show Value.bool (vstr (E.den (rhoE vs) phL (.app 13 0 (toL [.var 0]))) == vstr (strOf (nameB j))) = .bool false
    rw [name_sym hr0]
    have hne := name_ne h47 hj (hno j hj)
    generalize nameB op = a at *
    generalize nameB j = b at *
    unfold strOf
    rw [vstr_of, vstr_of]
    congr 1
    rw [beq_eq_false_iff_ne]
    exact hne
set_option maxHeartbeats 1000000 in
theorem law_apart {fl fl' : List Value} (hs : All2 So.has ssE fl) (hs' : All2 So.has ssE fl') (W : World) (hT : TabsA W) : Calls Tryd.prog 5 #[.agg fl.toArray, .agg fl'.toArray] W fun e W' => e = .returned (.bool true) ∧ Below W.heap.size W W' := by
  have hs2 : All2 So.has ss2 (fl ++ fl') := all2_app hs hs'
  have by_run : ∀ {es1 : List E} {fs : Facts}, es1.map (·.den (rhoE (fl ++ fl')) phL) = fl → Facts.hold (rhoE (fl ++ fl')) phL fs → runA ss2 es1 esB fs = true → Calls Tryd.prog 5 #[.agg fl.toArray, .agg fl'.toArray] W fun e W' => e = .returned (.bool true) ∧ Below W.heap.size W W' := by
    intro es1 fs he hf h
    exact law_by (cx := cxL ss2) rfl (namesOk_spec names_ok) (fitsL hs2) hf (args := [.one ⟨true, es1.map .e⟩, .one ⟨true, esB.map .e⟩]) (xs := [.agg fl.toArray, .agg fl'.toArray]) ⟨argsL_is he, argsL_is (esB_den hs hs' phL), trivial⟩ h W (fun v hv => by simp [cxL] at hv) (extP_ok hT)
  have hok9 : ∀ {es : List E} {gl : List Value} {b : Bool}, es.map (·.den (rhoE (fl ++ fl')) phL) = gl → okB gl = b → E.den (rhoE (fl ++ fl')) phL (.app 9 0 (toL es)) = .bool b := by
    intro es gl b he hb
    show (phL 9 (E.dens _ phL (toL es))).getD 0 undef = _
    rw [toL_dens, he]
    show Value.bool (okB gl) = _
    rw [hb]
  by_cases h1 : Ok fl
  · by_cases h2 : Ok fl'
    · obtain ⟨op, m, his⟩ := h1
      obtain ⟨op', m', his'⟩ := h2
      have b1 := okB_yes ⟨op, m, his⟩
      have b2 := okB_yes ⟨op', m', his'⟩
      have hin := insts_in _ his.1
      have key : ∀ k : Nat, (k = 0 ∨ op = k) → apartR k = true → (k = 0 → ∀ j ∈ enders, op ≠ j) → Calls Tryd.prog 5 #[.agg fl.toArray, .agg fl'.toArray] W fun e W' => e = .returned (.bool true) ∧ Below W.heap.size W W' := by
        intro k hk hr hno
        have heC : (esC k).map (·.den (rhoE (fl ++ fl')) phL) = fl := by
          unfold esC
          by_cases k0 : k = 0
          · subst k0; exact esA_den2 hs phL
          · rw [show Nat.beq k 0 = false from nbeq_no k0]
            have hop : op = k := by rcases hk with h | h; exact absurd h k0; exact h
            have h0 := his.2.1.1
            obtain ⟨o, w, a, b, c, d, v, e, f, g, hh, rfl⟩ := cells11 hs
            have h0 : Value.int .i64 o = .int .i64 (Int.ofNat op) := h0
            rw [h0, hop]
            rfl
        have hch : E.den (rhoE (fl ++ fl')) phL (chainC k) = .bool ((List.range 11).all fun i => vint (rhoE fl i) == vint (rhoE fl' i)) := by
          unfold chainC
          rw [chain_den]
          have ra := fun i (hi : i < 11) => rho_app (fl' := fl') (len11 hs) hi
          unfold chainP
          by_cases k0 : k = 0
          · subst k0
            show Value.bool ([0, 1, 2, 3, 4, 5, 6, 7, 8, 9, 10].all fun i => vint (rhoE (fl ++ fl') i) == vint (rhoE (fl ++ fl') (i + 11))) = .bool ([0, 1, 2, 3, 4, 5, 6, 7, 8, 9, 10].all fun i => vint (rhoE fl i) == vint (rhoE fl' i))
            simp only [List.all_cons, List.all_nil, (ra 0 (by decide)).1, (ra 0 (by decide)).2, (ra 1 (by decide)).1, (ra 1 (by decide)).2, (ra 2 (by decide)).1, (ra 2 (by decide)).2, (ra 3 (by decide)).1, (ra 3 (by decide)).2, (ra 4 (by decide)).1, (ra 4 (by decide)).2, (ra 5 (by decide)).1, (ra 5 (by decide)).2, (ra 6 (by decide)).1, (ra 6 (by decide)).2, (ra 7 (by decide)).1, (ra 7 (by decide)).2, (ra 8 (by decide)).1, (ra 8 (by decide)).2, (ra 9 (by decide)).1, (ra 9 (by decide)).2, (ra 10 (by decide)).1, (ra 10 (by decide)).2]
          · rw [show Nat.beq k 0 = false from nbeq_no k0]
            have hop : op = k := by rcases hk with h | h; exact absurd h k0; exact h
            have h0 : rhoE fl 0 = .int .i64 (Int.ofNat k) := by rw [← hop]; exact his.2.1.1
            show Value.bool ((vint (rhoE (fl ++ fl') (0 + 11)) == Int.ofNat k) && [0, 1, 2, 3, 4, 5, 6, 7, 8, 9].all fun i => vint (rhoE (fl ++ fl') (i + 1)) == vint (rhoE (fl ++ fl') ((i + 1) + 11))) = .bool ((vint (rhoE fl 0) == vint (rhoE fl' 0)) && [0, 1, 2, 3, 4, 5, 6, 7, 8, 9].all fun i => vint (rhoE fl (i + 1)) == vint (rhoE fl' (i + 1)))
            have e0 : (vint (rhoE fl' 0) == Int.ofNat k) = (vint (rhoE fl 0) == vint (rhoE fl' 0)) := by
              rw [h0]
              show (vint (rhoE fl' 0) == Int.ofNat k) = (Int.ofNat k == vint (rhoE fl' 0))
              exact Bool.eq_iff_iff.2 (by rw [beq_iff_eq, beq_iff_eq]; exact eq_comm)
            rw [(ra 0 (by decide)).2, e0]
            congr 2
            simp only [List.all_cons, List.all_nil, (ra (0 + 1) (by decide)).1, (ra (0 + 1) (by decide)).2, (ra (1 + 1) (by decide)).1, (ra (1 + 1) (by decide)).2, (ra (2 + 1) (by decide)).1, (ra (2 + 1) (by decide)).2, (ra (3 + 1) (by decide)).1, (ra (3 + 1) (by decide)).2, (ra (4 + 1) (by decide)).1, (ra (4 + 1) (by decide)).2, (ra (5 + 1) (by decide)).1, (ra (5 + 1) (by decide)).2, (ra (6 + 1) (by decide)).1, (ra (6 + 1) (by decide)).2, (ra (7 + 1) (by decide)).1, (ra (7 + 1) (by decide)).2, (ra (8 + 1) (by decide)).1, (ra (8 + 1) (by decide)).2, (ra (9 + 1) (by decide)).1, (ra (9 + 1) (by decide)).2]
        have heB := esB_den hs hs' phL
        refine by_run heC ?_ hr
        refine hold_cons _ (hok9 heB b2) (hold_cons _ ?_ (hold_cons _ ?_ (hold_cons _ (hok9 heC b1) ?_)))
        · show Value.bool (vbool (.bool (vint ((phL 10 (E.dens _ phL (toL (esC k)))).getD 0 undef) == vint ((phL 10 (E.dens _ phL (toL esB))).getD 0 undef))) == vbool (E.den _ phL (chainC k))) = .bool true
          rw [hch, toL_dens, toL_dens, heC, heB]
          show Value.bool ((w32O fl == w32O fl') == ((List.range 11).all fun i => vint (rhoE fl i) == vint (rhoE fl' i))) = .bool true
          congr 1
          rw [w32O_is hs his, w32O_is hs' his', beq_iff_eq, Bool.eq_iff_iff, beq_iff_eq, vint_same hs hs']
          constructor
          · exact word_inj hs hs' his his'
          · intro e
            subst e
            obtain ⟨rfl, rfl⟩ := mt_one his.2.1 his'.2.1
            rfl
        · show Value.bool (vbool (.bool (vstr ((phL 11 (E.dens _ phL (toL (esC k)))).getD 0 undef) == vstr ((phL 11 (E.dens _ phL (toL esB))).getD 0 undef))) == vbool (E.den _ phL (chainC k))) = .bool true
          rw [hch, toL_dens, toL_dens, heC, heB]
          show Value.bool ((vstr (strO (textO fl)) == vstr (strO (textO fl'))) == ((List.range 11).all fun i => vint (rhoE fl i) == vint (rhoE fl' i))) = .bool true
          congr 1
          rw [textO_is his, textO_is his', strO_is (textV_len hs (small_m his.1)), strO_is (textV_len hs' (small_m his'.1)), beq_iff_eq, Bool.eq_iff_iff, beq_iff_eq, vint_same hs hs']
          have hv : ∀ l : List UInt8, vstr (.string ⟨l.toArray⟩) = l := fun l => by simp [vstr, ByteArray.toList_eq]
          rw [hv, hv]
          constructor
          · exact text_inj hs hs' his his'
          · intro e
            subst e
            obtain ⟨rfl, rfl⟩ := mt_one his.2.1 his'.2.1
            rfl
        · by_cases k0 : k = 0
          · subst k0
            have hr0 : rhoE (fl ++ fl') 0 = .int .i64 (Int.ofNat op) := ((rho_app (len11 hs) (by decide)).1).trans his.2.1.1
            have hno := hno rfl
            rw [show Nat.beq 0 0 = true from rfl, if_pos rfl]
            refine hold_cons _ ?_ (hold_cons _ ?_ ?_)
            · show Value.bool (decide (vint (rhoE (fl ++ fl') 0) < 1)) = .bool false
              rw [hr0]
              exact dFalse (by have := hin.1; have : 1 ≤ op := this; show ¬ (op : Int) < 1; omega)
            · show Value.bool (decide (47 < vint (rhoE (fl ++ fl') 0))) = .bool false
              rw [hr0]
              exact dFalse (by have := hin.2.1; have : op ≤ 47 := this; show ¬ 47 < (op : Int); omega)
            · exact ends_hold hr0 hin.2.1 hno
          · rw [show Nat.beq k 0 = false from nbeq_no k0]
            exact hold_nil
      by_cases hj : op ∈ enders
      · have hr : ∀ j ∈ enders, apartR j = true := by
          intro j hj
          simp only [enders, List.mem_cons, List.not_mem_nil, or_false] at hj
          rcases hj with rfl | rfl | rfl | rfl | rfl | rfl
          · exact apart_40
          · exact apart_41
          · exact apart_42
          · exact apart_43
          · exact apart_44
          · exact apart_46
        refine key op (Or.inr rfl) (hr op hj) fun e => ?_
        subst e
        exact absurd hj (by decide)
      · exact key 0 (Or.inl rfl) apart_0 fun _ j hj' e => hj (e ▸ hj')
    · exact by_run (esA_den2 hs phL) (hold_cons _ (hok9 (esA_den2 hs phL) (okB_yes h1)) (hold_cons _ (hok9 (esB_den hs hs' phL) (okB_no h2)) hold_nil)) apart_no2
  · exact by_run (esA_den2 hs phL) (hold_cons _ (hok9 (esA_den2 hs phL) (okB_no h1)) hold_nil) apart_no1
end Go.Proofs.YtclhmilecdjbiaaDoor
