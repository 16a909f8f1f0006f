/- Layer 21: what is read of the word of an instruction is that instruction. -/
import Derived.Test.YtclhmilecdjbiaaDoorQw0
import Derived.Test.YtclhmilecdjbiaaDoorQw1
import Derived.Test.YtclhmilecdjbiaaDoorQw2
import Derived.Test.YtclhmilecdjbiaaDoorQw3
namespace Go.Proofs.YtclhmilecdjbiaaDoor
open Go Go.Proofs Go.RowKit Go.CX Go.SX Go.CX.A64
theorem w32_bit (n i : Nat) : (w32 (n : Int)).getLsbD i = (decide (i < 32) && n.testBit i) := by
  unfold w32
  rw [BitVec.ofInt_natCast, BitVec.getLsbD_ofNat]
theorem nat_same {x y k : Nat} (h : ∀ i, i < k → x.testBit i = y.testBit i) : x % 2 ^ k = y % 2 ^ k := by
  apply Nat.eq_of_testBit_eq
  intro i
  rw [Nat.testBit_mod_two_pow, Nat.testBit_mod_two_pow]
  by_cases hi : i < k
  · rw [h i hi]
  · simp [hi]
section
variable {ρ : Nat → Value} {φ : Nat → List Value → List Value}
theorem word_bit {V : Nat} {c : Nat} {fl : Fl} (hV : wordI ρ φ c fl = (V : Int)) {i : Nat} (hi : i < 32) : (w32 (wordI ρ φ c fl)).getLsbD i = V.testBit i := by
  rw [hV, w32_bit]; simp [hi]
/-- A field of the word. -/
theorem field_read {V c : Nat} {fl : Fl} (h : apartW c fl = true) (hV : wordI ρ φ c fl = (V : Int)) {p : E × Nat × Nat} (hp : p ∈ fl) : ((V / 2 ^ p.2.2 % 2 ^ p.2.1 : Nat) : Int) = vint (p.1.den ρ φ) % 2 ^ p.2.1 := by
  have h32 : p.2.1 + p.2.2 ≤ 32 := by
    have h' := h
    unfold apartW at h'
    simp only [Bool.and_eq_true] at h'
    have key : ∀ {l : Fl}, apartFl l = true → p ∈ l → p.2.1 + p.2.2 ≤ 32 := by
      intro l
      induction l with
      | nil => intro _ hp; simp at hp
      | cons q l ih =>
        intro ha hp
        unfold apartFl at ha
        simp only [Bool.and_eq_true] at ha
        rcases List.mem_cons.1 hp with rfl | hp
        · exact Nat.le_of_ble_eq_true ha.1.2
        · exact ih ha.2 hp
    exact key h'.1.1.1 hp
  have e := field_same (x := ((V / 2 ^ p.2.2 : Nat) : Int)) (y := vint (p.1.den ρ φ)) (k := p.2.1) (by omega) fun i hi => by
    rw [← word_field h hp hi, word_bit hV (by omega), w32_bit, Nat.testBit_div_two_pow, Nat.add_comm i]
    simp; omega
  rw [← e, Int.natCast_emod, pow_cast]
/-- Where no field is. -/
theorem win_read {V c : Nat} {fl : Fl} (h : apartW c fl = true) (hV : wordI ρ φ c fl = (V : Int)) {a n : Nat} (h32 : a + n ≤ 32) (hw : Nat.beq (Nat.land (maskFl fl) ((2 ^ n - 1) * 2 ^ a)) 0 = true) : V / 2 ^ a % 2 ^ n = c / 2 ^ a % 2 ^ n := by
  refine nat_same fun i hi => ?_
  rw [Nat.testBit_div_two_pow, Nat.testBit_div_two_pow, Nat.add_comm i, ← word_bit hV (by omega), wordI_bits h]
  unfold apartW at h
  simp only [Bool.and_eq_true] at h
  obtain ⟨hs, _⟩ := sum_apart (ρ := ρ) (φ := φ) h.1.1.1
  rw [BitVec.getLsbD_or, BitVec.getLsbD_ofNat]
  have hm := mask_bit (p := (E.nil, n, a)) hi (by show n + a ≤ 32; omega)
  have hno : (sumW (fl.map (fldV ρ φ))).getLsbD (a + i) = false := by
    cases hq : (sumW (fl.map (fldV ρ φ))).getLsbD (a + i)
    · rfl
    · have h1 := within_bit hs _ hq
      have h2 := apart_bit (land_zero hw) _ h1
      have hm : (BitVec.ofNat 32 ((2 ^ n - 1) * 2 ^ a)).getLsbD (a + i) = true := hm
      rw [h2] at hm; cases hm
  rw [hno]
  have : a + i < 32 := by omega
  simp [this]
end
/-- the variables: the word -/
def vsW (V : Nat) : List Value := [.int .u32 (V : Int)]
theorem rhoW (V : Nat) : rhoE (vsW V) 0 = .int .u32 (V : Int) := rfl
theorem fitsD {V : Nat} (hV : V < 4294967296) : Fits cxD.Γ cxD.S (rhoE (vsW V)) phD :=
  ⟨fun i => all2_get (show All2 So.has [.int .u32] (vsW V) from ⟨⟨(V : Int), rfl, by show (0 : Int) ≤ (V : Int); omega, by show (V : Int) ≤ 4294967295; omega⟩, trivial⟩) i, fitD⟩
theorem fld_den {V : Nat} (hV : V < 4294967296) (a n : Nat) : (fldE (.var 0) a n).den (rhoE (vsW V)) phD = .int .u32 (Int.ofNat (V / 2 ^ a % 2 ^ n)) := by
  show (phD 5 (E.dens _ phD (toL [.var 0, .int .i64 (Int.ofNat a), .int .i64 (Int.ofNat n)]))).getD 0 undef = _
  rw [toL_dens]
  exact fldsD V a n hV
theorem winF_hold {V : Nat} (hV : V < 4294967296) {a n c : Nat} (h : V / 2 ^ a % 2 ^ n = c) : (winF a n c).1.den (rhoE (vsW V)) phD = .bool (winF a n c).2 := by
  show Value.bool (vint ((fldE (.var 0) a n).den (rhoE (vsW V)) phD) == Int.ofNat c) = .bool true
  rw [fld_den hV, h]
  show Value.bool (Int.ofNat c == Int.ofNat c) = .bool true
  simp
theorem wins_32 : ∀ p ∈ wins, p.1 + p.2 ≤ 32 := by decide
theorem conv_fld {V : Nat} (hV : V < 4294967296) (a n : Nat) : (E.conv .i64 (fldE (.var 0) a n)).den (rhoE (vsW V)) phD = .int .i64 (Int.ofNat (V / 2 ^ a % 2 ^ n)) := by
  show Value.int .i64 (IntKind.i64.wrap (vint ((fldE (.var 0) a n).den (rhoE (vsW V)) phD))) = _
  rw [fld_den hV]
  have h1 : V / 2 ^ a % 2 ^ n ≤ V / 2 ^ a := Nat.mod_le _ _
  have h2 : V / 2 ^ a ≤ V := Nat.div_le_self _ _
  refine congrArg (Value.int .i64) ?_
  show IntKind.i64.wrap (((V / 2 ^ a % 2 ^ n : Nat) : Int)) = ((V / 2 ^ a % 2 ^ n : Nat) : Int)
  rw [IntKind.wrap_i64]; omega
/-- The word of an instruction: its number. -/
structure Wd (fl : List Value) (op m V : Nat) : Prop where
  hs : All2 So.has ssE fl
  is : Is fl op m
  eq : wordV fl op m = (V : Int)
  lt : V < 4294967296
theorem Wd.apart {fl : List Value} {op m V : Nat} (h : Wd fl op m V) : apartW (A64.const op m) (A64.fds op m) = true := List.all_eq_true.1 apart_all _ h.is.1
theorem Wd.win {fl : List Value} {op m V : Nat} (h : Wd fl op m V) {a n : Nat} (h32 : a + n ≤ 32) (hw : winFree op m (a, n) = true) : V / 2 ^ a % 2 ^ n = A64.const op m / 2 ^ a % 2 ^ n := win_read h.apart h.eq h32 hw
/-- Which way it goes. -/
def wayOf (op V : Nat) : Nat := if op = 40 then V / 16777216 % 4 else if 41 ≤ op ∧ op ≤ 43 then V / 8388608 % 2 else 0
theorem way_lt (op V : Nat) : wayOf op V < ways op := by
  unfold wayOf ways
  by_cases h : op = 40
  · subst h; rw [if_pos rfl, show Nat.beq 40 40 = true from rfl, if_pos rfl]; exact Nat.mod_lt _ (by decide)
  · rw [if_neg h, show Nat.beq op 40 = false from nbeq_no h]
    by_cases h2 : 41 ≤ op ∧ op ≤ 43
    · rw [if_pos h2, show Nat.ble 41 op = true from Nat.ble_eq_true_of_le h2.1, show Nat.ble op 43 = true from Nat.ble_eq_true_of_le h2.2]
      exact Nat.mod_lt _ (by decide)
    · rw [if_neg h2]
      simp only [Bool.false_eq_true, if_false]
      split <;> decide
theorem lssI {V : Nat} (hV : V < 4294967296) {a n : Nat} {c : Nat} {b : Bool} (h : decide (V / 2 ^ a % 2 ^ n < c) = b) : (E.cmp .lss (.conv .i64 (fldE (.var 0) a n)) (i64E c)).den (rhoE (vsW V)) phD = .bool b := by
  show Value.bool (decide (vint ((E.conv .i64 (fldE (.var 0) a n)).den (rhoE (vsW V)) phD) < (c : Int))) = .bool b
  rw [conv_fld hV]
  show Value.bool (decide (((V / 2 ^ a % 2 ^ n : Nat) : Int) < (c : Int))) = .bool b
  rw [← h]
  congr 1
  exact decide_eq_decide.2 (by omega)
theorem facts_hold {fl : List Value} {op m V : Nat} (h : Wd fl op m V) : Facts.hold (rhoE (vsW V)) phD (factsD op m (wayOf op V)) := by
  intro p hp
  unfold factsD at hp
  rcases List.mem_append.1 hp with hp1 | hp2
  · clear hp
    have hp := hp1
    clear hp1
    unfold varF at hp
    by_cases h40 : op = 40
    · subst h40
      have hm : m = 8 := by
        have h2 := (insts_in _ h.is.1).2.2.2 (show (40 : Nat) ≠ 39 by decide)
        simpa [widths, A64.acc] using h2
      subst hm
      have h26 := h.win (a := 26) (n := 6) (by decide) (by kernel_rfl)
      have hlt := h.lt
      have h26 : V / 67108864 % 64 = 5 := h26
      have hy : wayOf 40 V = V / 16777216 % 4 := rfl
      rw [hy] at hp
      rw [show Nat.beq 40 40 = true from rfl, if_pos rfl] at hp
      simp only [List.mem_cons, List.not_mem_nil, or_false] at hp
      rcases hp with rfl | rfl | rfl
      · exact winF_hold h.lt (by show V / 16777216 % 32 = 20 + V / 16777216 % 4; omega)
      · exact winF_hold h.lt (by show V / 33554432 % 2 = V / 16777216 % 4 / 2; omega)
      · refine lssI h.lt (a := 0) (n := 26) (c := 33554432) ?_
        show decide (V / 1 % 67108864 < 33554432) = Nat.beq (V / 16777216 % 4 / 2) 0
        by_cases hz : V / 16777216 % 4 / 2 = 0
        · rw [hz, decide_eq_true (by omega)]; rfl
        · rw [nbeq_no hz, decide_eq_false (by omega)]
    · rw [show Nat.beq op 40 = false from nbeq_no h40] at hp
      by_cases h2 : 41 ≤ op ∧ op ≤ 43
      · have hy : wayOf op V = V / 8388608 % 2 := by unfold wayOf; rw [if_neg h40, if_pos h2]
        rw [hy, show Nat.ble 41 op = true from Nat.ble_eq_true_of_le h2.1, show Nat.ble op 43 = true from Nat.ble_eq_true_of_le h2.2] at hp
        simp only [Bool.false_eq_true, if_false, Bool.and_self, if_true, List.mem_cons, List.not_mem_nil, or_false] at hp
        rcases hp with rfl | rfl
        · exact winF_hold h.lt rfl
        · refine lssI h.lt (a := 5) (n := 19) (c := 262144) ?_
          show decide (V / 32 % 524288 < 262144) = Nat.beq (V / 8388608 % 2) 0
          by_cases hz : V / 8388608 % 2 = 0
          · rw [hz, decide_eq_true (by omega)]; rfl
          · rw [nbeq_no hz, decide_eq_false (by omega)]
      · have : (Nat.ble 41 op && Nat.ble op 43) = false := by
          cases hb : (Nat.ble 41 op && Nat.ble op 43)
          · rfl
          · rw [Bool.and_eq_true] at hb
            exact absurd ⟨Nat.le_of_ble_eq_true hb.1, Nat.le_of_ble_eq_true hb.2⟩ h2
        rw [this] at hp
        simp at hp
  · clear hp
    have hp := hp2
    clear hp2
    obtain ⟨q, hq, rfl⟩ := List.mem_map.1 hp
    obtain ⟨hq, hf⟩ := List.mem_filter.1 hq
    exact winF_hold h.lt (h.win (wins_32 q hq) hf)
end Go.Proofs.YtclhmilecdjbiaaDoor
/- Layer 21: read, Take and near, by contract. -/
namespace Go.Proofs.YtclhmilecdjbiaaDoor
open Go Go.Proofs Go.RowKit Go.CX Go.SX Go.CX.A64
theorem reg_back {fl : List Value} (hs : All2 So.has ssE fl) {i : Nat} (hi : ssE.getD i .any = .int .i64) {l : Conds} (h : Conds.are (rhoE fl) phE l) (hm : ∀ p ∈ regC i, p ∈ l) {F : Nat} (he : (F : Int) = vint (rhoE fl i) % 2 ^ 5) : rhoE fl i = .int .i64 (Int.ofNat F) := by
  obtain ⟨n, hn, _⟩ := cell_num hs hi
  have a := of_decide_eq_false (c_lt (c := 0) h (hm _ (by simp [regC, i64E])) hn)
  have b := of_decide_eq_false (c_gt (c := 31) h (hm _ (by simp [regC, i64E])) hn)
  rw [hn] at he ⊢
  have he : (F : Int) = n % 32 := he
  have : n = (F : Int) := by omega
  rw [this]; rfl
theorem small_back {fl : List Value} (hs : All2 So.has ssE fl) {i k : Nat} (hi : ssE.getD i .any = .int .i64) {l : Conds} (h : Conds.are (rhoE fl) phE l) (hm : ∀ p ∈ smallC i (2 ^ k), p ∈ l) {F : Nat} (he : (F : Int) = vint (rhoE fl i) % 2 ^ k) : rhoE fl i = .int .i64 (Int.ofNat F) := by
  obtain ⟨n, hn, _⟩ := cell_num hs hi
  have a := of_decide_eq_false (c_lt (c := 0) h (hm _ (by simp [smallC, i64E])) hn)
  have b := of_decide_eq_true (c_lt (c := Int.ofNat (2 ^ k)) h (hm _ (by simp [smallC, i64E])) hn)
  rw [hn] at he ⊢
  have he : (F : Int) = n % 2 ^ k := he
  have e : Int.ofNat (2 ^ k) = (2 : Int) ^ k := pow_cast k
  rw [e] at b
  rw [Int.emod_eq_of_lt (by omega) b] at he
  rw [← he]; rfl
theorem imm_back {fl : List Value} (hs : All2 So.has ssE fl) {k : Nat} {l : Conds} (h : Conds.are (rhoE fl) phE l) (hm : (E.cmp .lss (.var 6) (u64E (2 ^ k)), true) ∈ l) {F : Nat} (he : (F : Int) = vint (rhoE fl 6) % 2 ^ k) : rhoE fl 6 = .int .u64 (Int.ofNat F) := by
  obtain ⟨n, hn, n0, _⟩ := cell_six hs
  have b := of_decide_eq_true (c_lt (c := Int.ofNat (2 ^ k)) h hm hn)
  rw [hn] at he ⊢
  have he : (F : Int) = n % 2 ^ k := he
  have e : Int.ofNat (2 ^ k) = (2 : Int) ^ k := pow_cast k
  rw [e] at b
  rw [Int.emod_eq_of_lt n0 b] at he
  rw [← he]; rfl
theorem quo_back {fl : List Value} (hs : All2 So.has ssE fl) {m : Nat} (hm1 : m = 1 ∨ m = 2 ∨ m = 4 ∨ m = 8) (h : Conds.are (rhoE fl) phE (Lt.w.conds m)) {F : Nat} (he : (F : Int) = vint ((quoW m).den (rhoE fl) phE) % 2 ^ 12) : rhoE fl 6 = .int .u64 ((F : Int) * m) ∧ F < 4096 := by
  obtain ⟨n, hn, n0, n1⟩ := cell_six hs
  have a := h (.cmp .eql (.bin .rem .u64 (.var 6) (u64E m)) (u64E 0), true) List.mem_cons_self
  have b := h (.cmp .lss (quoW m) (u64E 4096), true) (List.mem_cons_of_mem _ List.mem_cons_self)
  have a : Value.bool ((vint (rhoE fl 6)).tmod m == 0) = .bool true := a
  have b : Value.bool (decide (IntKind.u64.wrap ((vint (rhoE fl 6)).tdiv m) < 4096)) = .bool true := b
  have he : (F : Int) = IntKind.u64.wrap ((vint (rhoE fl 6)).tdiv m) % 4096 := he
  rw [hn] at a b he ⊢
  have a : n.tmod m = 0 := eq_of_beq (Value.bool.inj a)
  have b : IntKind.u64.wrap (n.tdiv m) < 4096 := of_decide_eq_true (Value.bool.inj b)
  have he : (F : Int) = IntKind.u64.wrap (n.tdiv m) % 4096 := he
  rw [Int.tmod_eq_emod_of_nonneg n0] at a
  rw [Int.tdiv_eq_ediv_of_nonneg n0, IntKind.wrap_u64] at b he
  have : n = (F : Int) * m ∧ F < 4096 := by rcases hm1 with rfl | rfl | rfl | rfl <;> omega
  rw [← this.1]
  exact ⟨rfl, this.2⟩
theorem enc_back {fl : List Value} (hs : All2 So.has ssE fl) (h : Conds.are (rhoE fl) phE [(encE 1, true)]) {F : Nat} (he : (F : Int) = vint ((encE 0).den (rhoE fl) phE) % 2 ^ 13) : rhoE fl 6 = .int .u64 (Lg.dec F) := by
  obtain ⟨n, hn, n0, n1⟩ := cell_six hs
  have hv : Cq.U64 n := ⟨n0, by omega⟩
  have a := h (encE 1, true) List.mem_cons_self
  have a : Value.bool (encP (vint (rhoE fl 6))).2 = .bool true := a
  rw [hn] at a
  have a : (encP n).2 = true := Value.bool.inj a
  obtain ⟨c, ok, hE⟩ := enc_exists n
  have hc := encP_is hv hE
  have h13 := encP_13 hv
  have he : (F : Int) = (encP (vint (rhoE fl 6))).1 % 8192 := he
  rw [hn] at he ⊢
  have he : (F : Int) = (encP n).1 % 8192 := he
  rw [← hc] at a h13 he
  have a : ok = true := a
  subst a
  have he : (F : Int) = c % 8192 := he
  have h13 : 0 ≤ c ∧ c < 8192 := h13
  have : F = c.toNat := by omega
  rw [this, (hE.yes hv).2.1]
theorem off_back {fl : List Value} (hs : All2 So.has ssE fl) {k c : Nat} (hk : (k = 19 ∧ c = 1048576) ∨ (k = 26 ∧ c = 134217728)) (h : Conds.are (rhoE fl) phE (offC c)) {F s : Nat} (he : (F : Int) = vint ((E.bin .quo .i64 (.var 7) (i64E 4)).den (rhoE fl) phE) % 2 ^ k) (hF : F < 2 ^ k) (hsg : (s = 1 ∧ 2 ^ (k - 1) ≤ F) ∨ (s ≠ 1 ∧ F < 2 ^ (k - 1))) :
    rhoE fl 7 = .int .i64 (if s = 1 then ((F : Int) - 2 ^ k) * 4 else (F : Int) * 4) := by
  obtain ⟨n, hn, n0, n1⟩ := cell_num hs (i := 7) rfl
  have a := h (.cmp .eql (.bin .rem .i64 (.var 7) (i64E 4)) (i64E 0), true) List.mem_cons_self
  have a : Value.bool ((vint (rhoE fl 7)).tmod 4 == 0) = .bool true := a
  have b := of_decide_eq_false (c_lt (c := -Int.ofNat c) h (List.mem_cons_of_mem _ List.mem_cons_self) hn)
  have d := of_decide_eq_true (c_lt (c := Int.ofNat c) h (List.mem_cons_of_mem _ (List.mem_cons_of_mem _ List.mem_cons_self)) hn)
  have e : Int.ofNat c = (c : Int) := rfl
  rw [e] at b d
  have he : (F : Int) = IntKind.i64.wrap ((vint (rhoE fl 7)).tdiv 4) % 2 ^ k := he
  rw [hn] at a he ⊢
  have a : n.tmod 4 = 0 := eq_of_beq (Value.bool.inj a)
  have he : (F : Int) = IntKind.i64.wrap (n.tdiv 4) % 2 ^ k := he
  obtain ⟨z, rfl⟩ : ∃ z, n = 4 * z := ⟨n.tdiv 4, by have := Int.mul_tdiv_add_tmod n 4; omega⟩
  rw [Int.mul_tdiv_cancel_left z (by decide), IntKind.wrap_i64] at he
  refine congrArg (Value.int .i64) ?_
  rcases hk with ⟨rfl, rfl⟩ | ⟨rfl, rfl⟩
  · have he : (F : Int) = ((z + 9223372036854775808) % 18446744073709551616 - 9223372036854775808) % 524288 := he
    rcases hsg with ⟨h1, h2⟩ | ⟨h1, h2⟩
    · have h2 : 262144 ≤ F := h2
      rw [if_pos h1]
      show 4 * z = ((F : Int) - 524288) * 4
      omega
    · have h2 : F < 262144 := h2
      rw [if_neg h1]; omega
  · have he : (F : Int) = ((z + 9223372036854775808) % 18446744073709551616 - 9223372036854775808) % 67108864 := he
    rcases hsg with ⟨h1, h2⟩ | ⟨h1, h2⟩
    · have h2 : 33554432 ≤ F := h2
      rw [if_pos h1]
      show 4 * z = ((F : Int) - 67108864) * 4
      omega
    · have h2 : F < 33554432 := h2
      rw [if_neg h1]; omega
theorem fld_lt (V a n : Nat) : V / 2 ^ a % 2 ^ n < 2 ^ n := Nat.mod_lt _ (Nat.two_pow_pos n)
section
variable {V : Nat} (hV : V < 4294967296)
include hV
theorem num_den (x : Lt) : (E.conv .u64 (.conv .i64 (winE x))).den (rhoE (vsW V)) phD = .int .u64 (Int.ofNat (V / 2 ^ (x.fd 8).2.2 % 2 ^ (x.fd 8).2.1)) := by
  show Value.int .u64 (IntKind.u64.wrap (vint ((E.conv .i64 (winE x)).den (rhoE (vsW V)) phD))) = _
  unfold winE
  rw [conv_fld hV]
  have h1 : V / 2 ^ (x.fd 8).2.2 % 2 ^ (x.fd 8).2.1 ≤ V / 2 ^ (x.fd 8).2.2 := Nat.mod_le _ _
  have h2 : V / 2 ^ (x.fd 8).2.2 ≤ V := Nat.div_le_self _ _
  refine congrArg (Value.int .u64) ?_
  show IntKind.u64.wrap (((V / 2 ^ (x.fd 8).2.2 % 2 ^ (x.fd 8).2.1 : Nat) : Int)) = ((V / 2 ^ (x.fd 8).2.2 % 2 ^ (x.fd 8).2.1 : Nat) : Int)
  rw [IntKind.wrap_u64]; omega
theorem enc_den : (E.app 6 0 (toL [.conv .u32 (.conv .i64 (winE .l))])).den (rhoE (vsW V)) phD = .int .u64 (Lg.dec (V / 2 ^ 10 % 2 ^ 13)) := by
  show (phD 6 (E.dens (rhoE (vsW V)) phD (toL [.conv .u32 (.conv .i64 (winE .l))]))).getD 0 undef = _
  rw [toL_dens]
  show Value.int .u64 (Lg.dec (IntKind.u32.wrap (vint ((E.conv .i64 (winE .l)).den (rhoE (vsW V)) phD))).toNat) = _
  unfold winE
  rw [conv_fld hV]
  have h1 := fld_lt V 10 13
  have e : (IntKind.u32.wrap (vint (.int .i64 (Int.ofNat (V / 2 ^ ((Lt.l).fd 8).2.2 % 2 ^ ((Lt.l).fd 8).2.1))))).toNat = V / 2 ^ 10 % 2 ^ 13 := by
    show (IntKind.u32.wrap ((V / 2 ^ 10 % 2 ^ 13 : Nat) : Int)).toNat = _
    rw [IntKind.wrap_u32]; omega
  rw [e]
theorem mul_den (d : Bool) {m s : Nat} (hm : m = 1 ∨ m = 2 ∨ m = 4 ∨ m = 8) (hlt : V / 2 ^ 10 % 2 ^ 12 < 4096) : (rdE d m s .w).den (rhoE (vsW V)) phD = .int .u64 (((V / 2 ^ 10 % 2 ^ 12 : Nat) : Int) * m) := by
  have hc : (E.conv .i64 (winE .w)).den (rhoE (vsW V)) phD = .int .i64 (Int.ofNat (V / 2 ^ 10 % 2 ^ 12)) := conv_fld hV 10 12
  have hn : (E.conv .u64 (.conv .i64 (winE .w))).den (rhoE (vsW V)) phD = .int .u64 (Int.ofNat (V / 2 ^ 10 % 2 ^ 12)) := num_den hV .w
  generalize V / 2 ^ 10 % 2 ^ 12 = F at *
  cases d
  · show Value.int .u64 (IntKind.u64.wrap (vint ((E.conv .u64 (.conv .i64 (winE .w))).den (rhoE (vsW V)) phD) * (m : Int))) = _
    rw [hn]
    show Value.int .u64 (IntKind.u64.wrap ((F : Int) * (m : Int))) = _
    rw [IntKind.wrap_u64]
    refine congrArg (Value.int .u64) ?_
    rcases hm with rfl | rfl | rfl | rfl <;> omega
  · show Value.int .u64 (IntKind.u64.wrap (IntKind.i64.wrap (vint ((E.conv .i64 (winE .w)).den (rhoE (vsW V)) phD) * (m : Int)))) = _
    rw [hc]
    show Value.int .u64 (IntKind.u64.wrap (IntKind.i64.wrap ((F : Int) * (m : Int)))) = _
    rw [IntKind.wrap_u64, IntKind.wrap_i64]
    refine congrArg (Value.int .u64) ?_
    rcases hm with rfl | rfl | rfl | rfl <;> omega
theorem off_den (d : Bool) {m s : Nat} (x : Lt) (hx : (x = .f) ∨ (x = .F)) : (rdE d m s x).den (rhoE (vsW V)) phD = .int .i64 (if s = 1 then (((V / 2 ^ (x.fd 8).2.2 % 2 ^ (x.fd 8).2.1 : Nat) : Int) - 2 ^ (x.fd 8).2.1) * 4 else ((V / 2 ^ (x.fd 8).2.2 % 2 ^ (x.fd 8).2.1 : Nat) : Int) * 4) := by
  have hk : (x.fd 8).2.1 ≤ 26 := by rcases hx with rfl | rfl <;> decide
  have hc : (E.conv .i64 (winE x)).den (rhoE (vsW V)) phD = .int .i64 (Int.ofNat (V / 2 ^ (x.fd 8).2.2 % 2 ^ (x.fd 8).2.1)) := conv_fld hV _ _
  have hlt := fld_lt V (x.fd 8).2.2 (x.fd 8).2.1
  have hp : 2 ^ (x.fd 8).2.1 ≤ 67108864 := Nat.pow_le_pow_right (n := 2) (by decide) hk
  have hpc := pow_cast (x.fd 8).2.1
  have sgn : (signE x s).den (rhoE (vsW V)) phD = .int .i64 (if s = 1 then ((V / 2 ^ (x.fd 8).2.2 % 2 ^ (x.fd 8).2.1 : Nat) : Int) - 2 ^ (x.fd 8).2.1 else ((V / 2 ^ (x.fd 8).2.2 % 2 ^ (x.fd 8).2.1 : Nat) : Int)) := by
    unfold signE
    by_cases h1 : s = 1
    · subst h1
      rw [show Nat.beq 1 1 = true from rfl, if_pos rfl, if_pos rfl]
      show Value.int .i64 (IntKind.i64.wrap (vint ((E.conv .i64 (winE x)).den (rhoE (vsW V)) phD) - Int.ofNat (2 ^ (x.fd 8).2.1))) = _
      rw [hc]
      show Value.int .i64 (IntKind.i64.wrap (((V / 2 ^ (x.fd 8).2.2 % 2 ^ (x.fd 8).2.1 : Nat) : Int) - ((2 ^ (x.fd 8).2.1 : Nat) : Int))) = _
      rw [hpc, IntKind.wrap_i64, ← hpc]
      refine congrArg (Value.int .i64) ?_
      omega
    · rw [show Nat.beq s 1 = false from nbeq_no h1, if_neg (by simp), if_neg h1, hc]; rfl
  have fin : IntKind.i64.wrap ((if s = 1 then ((V / 2 ^ (x.fd 8).2.2 % 2 ^ (x.fd 8).2.1 : Nat) : Int) - 2 ^ (x.fd 8).2.1 else ((V / 2 ^ (x.fd 8).2.2 % 2 ^ (x.fd 8).2.1 : Nat) : Int)) * 4) = (if s = 1 then (((V / 2 ^ (x.fd 8).2.2 % 2 ^ (x.fd 8).2.1 : Nat) : Int) - 2 ^ (x.fd 8).2.1) * 4 else ((V / 2 ^ (x.fd 8).2.2 % 2 ^ (x.fd 8).2.1 : Nat) : Int) * 4) := by
    rw [IntKind.wrap_i64, ← hpc]
    by_cases h1 : s = 1
    · rw [if_pos h1, if_pos h1]; omega
    · rw [if_neg h1, if_neg h1]; omega
  have key : ∀ d : Bool, (if d then E.bin .mul .i64 (i64E 4) (signE x s) else .bin .mul .i64 (signE x s) (i64E 4)).den (rhoE (vsW V)) phD = .int .i64 (IntKind.i64.wrap ((if s = 1 then ((V / 2 ^ (x.fd 8).2.2 % 2 ^ (x.fd 8).2.1 : Nat) : Int) - 2 ^ (x.fd 8).2.1 else ((V / 2 ^ (x.fd 8).2.2 % 2 ^ (x.fd 8).2.1 : Nat) : Int)) * 4)) := by
    intro d
    cases d
    · show Value.int .i64 (IntKind.i64.wrap (vint ((signE x s).den (rhoE (vsW V)) phD) * 4)) = _
      rw [sgn]; rfl
    · show Value.int .i64 (IntKind.i64.wrap (4 * vint ((signE x s).den (rhoE (vsW V)) phD))) = _
      rw [sgn, Int.mul_comm]; rfl
  rw [← fin]
  rcases hx with rfl | rfl
  · exact key d
  · exact key d
end
theorem fld_mem {op m : Nat} (h39 : op ≠ 39) {x : Lt} (hx : x ∈ A64.letters op) : x.fd m ∈ A64.fds op m := by
  unfold A64.fds
  rw [show Nat.beq op 39 = false from nbeq_no h39]
  exact List.mem_reverse.2 (List.mem_map.2 ⟨x, hx, rfl⟩)
theorem op_F : ∀ op, op < 48 → (.F ∈ A64.letters op ↔ op = 40) ∧ (.f ∈ A64.letters op → 41 ≤ op ∧ op ≤ 43) := by decide
theorem rd_letter {fl : List Value} {op m V : Nat} (h : Wd fl op m V) (h39 : op ≠ 39) (d : Bool) {x : Lt} (hx : x ∈ A64.letters op) : (rdE d m (signOf op (wayOf op V)) x).den (rhoE (vsW V)) phD = rhoE fl x.cell := by
  have hc : Conds.are (rhoE fl) phE (x.conds m) := fun p hp => h.is.2.2 p (conds_letter h39 hx p hp)
  have hf := field_read h.apart h.eq (fld_mem (m := m) h39 hx)
  have up : ∀ {l r : Conds}, ∀ p ∈ l, p ∈ l ++ r := fun p hp => List.mem_append_left _ hp
  have id : ∀ {l : Conds}, ∀ p ∈ l, p ∈ l := fun p hp => hp
  have h47 : op < 48 := by have := (insts_in _ h.is.1).2.1; have : op ≤ 47 := this; omega
  have hm := inst_m h.is.1 h39
  have hs := h.hs
  have hV := h.lt
  cases x with
  | D => exact (conv_fld hV 0 5).trans (reg_back hs (i := 2) rfl hc id hf).symm
  | d => exact (conv_fld hV 0 5).trans (reg_back hs (i := 2) rfl hc up hf).symm
  | N => exact (conv_fld hV 5 5).trans (reg_back hs (i := 3) rfl hc id hf).symm
  | n => exact (conv_fld hV 5 5).trans (reg_back hs (i := 3) rfl hc up hf).symm
  | M => exact (conv_fld hV 16 5).trans (reg_back hs (i := 4) rfl hc id hf).symm
  | m => exact (conv_fld hV 16 5).trans (reg_back hs (i := 4) rfl hc up hf).symm
  | A => exact (conv_fld hV 10 5).trans (reg_back hs (i := 5) rfl hc id hf).symm
  | i => exact (num_den hV .i).trans (imm_back hs (k := 12) hc List.mem_cons_self hf).symm
  | k => exact (num_den hV .k).trans (imm_back hs (k := 16) hc List.mem_cons_self hf).symm
  | l => exact (enc_den hV).trans (enc_back hs hc hf).symm
  | w =>
    have hq := quo_back hs hm hc hf
    exact (mul_den hV d hm hq.2).trans hq.1.symm
  | o => exact absurd rfl (no_o h39 _ hx)
  | S => exact (conv_fld hV 10 6).trans (small_back hs (i := 10) (k := 6) rfl hc id hf).symm
  | s => exact (conv_fld hV 21 2).trans (small_back hs (i := 10) (k := 2) rfl hc id hf).symm
  | R => exact (conv_fld hV 16 6).trans (small_back hs (i := 9) (k := 6) rfl hc id hf).symm
  | C => exact (conv_fld hV 12 4).trans (small_back hs (i := 8) (k := 4) rfl hc id hf).symm
  | c => exact (conv_fld hV 0 4).trans (small_back hs (i := 8) (k := 4) rfl hc id hf).symm
  | f =>
    have ho := (op_F op h47).2 hx
    have hw : signOf op (wayOf op V) = V / 8388608 % 2 := by
      unfold signOf wayOf
      rw [show Nat.beq op 40 = false from nbeq_no (by omega), if_neg (show ¬ op = 40 by omega), if_pos ho]; rfl
    have hb := off_back hs (Or.inl ⟨rfl, rfl⟩) hc (s := signOf op (wayOf op V)) hf (fld_lt V 5 19) (by
      rw [hw]
      show (V / 8388608 % 2 = 1 ∧ 262144 ≤ V / 32 % 524288) ∨ (V / 8388608 % 2 ≠ 1 ∧ V / 32 % 524288 < 262144)
      omega)
    exact (off_den hV d .f (Or.inl rfl)).trans hb.symm
  | F =>
    have ho := (op_F op h47).1.1 hx
    have hw : signOf op (wayOf op V) = V / 16777216 % 4 / 2 := by rw [ho]; rfl
    have hb := off_back hs (Or.inr ⟨rfl, rfl⟩) hc (s := signOf op (wayOf op V)) hf (fld_lt V 0 26) (by
      rw [hw]
      show (V / 16777216 % 4 / 2 = 1 ∧ 33554432 ≤ V / 1 % 67108864) ∨ (V / 16777216 % 4 / 2 ≠ 1 ∧ V / 1 % 67108864 < 33554432)
      omega)
    exact (off_den hV d .F (Or.inr rfl)).trans hb.symm
end Go.Proofs.YtclhmilecdjbiaaDoor
/- Layer 21: all runs of read, Take and near. -/
namespace Go.Proofs.YtclhmilecdjbiaaDoor
open Go Go.Proofs Go.RowKit Go.CX Go.SX
def AllB : List (Nat × Nat) → Prop
  | [] => True
  | p :: l => backR p = true ∧ AllB l
theorem allB_mem : ∀ {l : List (Nat × Nat)} {p : Nat × Nat}, AllB l → p ∈ l → backR p = true
  | _ :: l, p, h, hp => by
    rcases List.mem_cons.1 hp with rfl | hp
    · exact h.1
    · exact allB_mem h.2 hp
theorem insts_back : AllB insts := ⟨back_1_8, back_2_8, back_3_8, back_4_8, back_5_8, back_6_8, back_7_8, back_8_8, back_9_8, back_10_8, back_11_8, back_12_8, back_13_8, back_14_8, back_15_8, back_16_8, back_17_8, back_18_8, back_19_8, back_20_8, back_21_8, back_22_8, back_23_8, back_24_8, back_25_8, back_26_8, back_27_8, back_28_8, back_29_8, back_30_8, back_31_8, back_32_8, back_33_1, back_33_2, back_33_4, back_33_8, back_34_1, back_34_2, back_34_4, back_34_8, back_35_1, back_35_2, back_35_4, back_35_8, back_36_1, back_36_2, back_36_4, back_36_8, back_37_1, back_37_2, back_37_4, back_37_8, back_38_1, back_38_2, back_38_4, back_38_8, back_39_9, back_39_10, back_39_11, back_40_8, back_41_8, back_42_8, back_43_8, back_44_8, back_45_8, back_46_8, back_47_8, trivial⟩
theorem back_in (p : Nat × Nat) (hp : p ∈ insts) : backR p = true := allB_mem insts_back hp
theorem nears_in (op : Nat) (h1 : 1 ≤ op) (h47 : op ≤ 47) : naR op = true := by
  have : op = 1 ∨ op = 2 ∨ op = 3 ∨ op = 4 ∨ op = 5 ∨ op = 6 ∨ op = 7 ∨ op = 8 ∨ op = 9 ∨ op = 10 ∨ op = 11 ∨ op = 12 ∨ op = 13 ∨ op = 14 ∨ op = 15 ∨ op = 16 ∨ op = 17 ∨ op = 18 ∨ op = 19 ∨ op = 20 ∨ op = 21 ∨ op = 22 ∨ op = 23 ∨ op = 24 ∨ op = 25 ∨ op = 26 ∨ op = 27 ∨ op = 28 ∨ op = 29 ∨ op = 30 ∨ op = 31 ∨ op = 32 ∨ op = 33 ∨ op = 34 ∨ op = 35 ∨ op = 36 ∨ op = 37 ∨ op = 38 ∨ op = 39 ∨ op = 40 ∨ op = 41 ∨ op = 42 ∨ op = 43 ∨ op = 44 ∨ op = 45 ∨ op = 46 ∨ op = 47 := by omega
  rcases this with rfl | rfl | rfl | rfl | rfl | rfl | rfl | rfl | rfl | rfl | rfl | rfl | rfl | rfl | rfl | rfl | rfl | rfl | rfl | rfl | rfl | rfl | rfl | rfl | rfl | rfl | rfl | rfl | rfl | rfl | rfl | rfl | rfl | rfl | rfl | rfl | rfl | rfl | rfl | rfl | rfl | rfl | rfl | rfl | rfl | rfl | rfl
  · exact near_1
  · exact near_2
  · exact near_3
  · exact near_4
  · exact near_5
  · exact near_6
  · exact near_7
  · exact near_8
  · exact near_9
  · exact near_10
  · exact near_11
  · exact near_12
  · exact near_13
  · exact near_14
  · exact near_15
  · exact near_16
  · exact near_17
  · exact near_18
  · exact near_19
  · exact near_20
  · exact near_21
  · exact near_22
  · exact near_23
  · exact near_24
  · exact near_25
  · exact near_26
  · exact near_27
  · exact near_28
  · exact near_29
  · exact near_30
  · exact near_31
  · exact near_32
  · exact near_33
  · exact near_34
  · exact near_35
  · exact near_36
  · exact near_37
  · exact near_38
  · exact near_39
  · exact near_40
  · exact near_41
  · exact near_42
  · exact near_43
  · exact near_44
  · exact near_45
  · exact near_46
  · exact near_47
end Go.Proofs.YtclhmilecdjbiaaDoor
/- Layer 21: read, Take and near: of the word of an instruction; of any word. -/
namespace Go.Proofs.YtclhmilecdjbiaaDoor
open Go Go.Proofs Go.RowKit Go.CX Go.SX Go.CX.A64
theorem cellD_den {fl : List Value} {op m V : Nat} (h : Wd fl op m V) (d : Bool) {v : Nat} (hv : v ∈ [2, 3, 4, 5, 6, 7, 8, 9, 10]) : (cellD d op m (signOf op (wayOf op V)) v).den (rhoE (vsW V)) phD = rhoE fl v := by
  unfold cellD
  cases hx : (A64.letters op).find? (fun x => Nat.beq x.cell v) with
  | some x =>
    have hmem := List.mem_of_find?_eq_some hx
    have hcell := Nat.eq_of_beq_eq_true (by simpa using List.find?_some hx : Nat.beq x.cell v = true)
    subst hcell
    by_cases h39 : op = 39
    · subst h39
      have : x = .o := by have : x ∈ [A64.Lt.o] := hmem; simpa using this
      subst this
      exact (h.is.2.1.2.2 rfl).symm
    · exact rd_letter h h39 d hmem
  | none =>
    have hno : ∀ x ∈ A64.letters op, x.cell ≠ v := by
      intro x hxm e
      have := List.find?_eq_none.1 hx x hxm
      rw [e] at this
      exact this (by simp)
    have hz := h.is.2.2 _ (conds_zero (m := m) hv hno)
    have hz : Value.bool (vint (rhoE fl v) == 0) = .bool true := hz
    have hz := eq_of_beq (Value.bool.inj hz)
    by_cases h6 : v = 6
    · subst h6
      obtain ⟨n, hn, _⟩ := cell_six h.hs
      rw [hn] at hz ⊢
      have hz : n = 0 := hz
      rw [hz]; rfl
    · have hi : ssE.getD v .any = .int .i64 := by
        simp only [List.mem_cons, List.not_mem_nil, or_false] at hv
        rcases hv with rfl | rfl | rfl | rfl | rfl | rfl | rfl | rfl | rfl <;> first | rfl | exact absurd rfl h6
      obtain ⟨n, hn, _⟩ := cell_num h.hs hi
      rw [hn] at hz ⊢
      have hz : n = 0 := hz
      rw [hz, show Nat.beq v 6 = false from nbeq_no h6]; rfl
theorem cellsD_den {fl : List Value} {op m V : Nat} (h : Wd fl op m V) (d : Bool) : (cellsD d op m (signOf op (wayOf op V))).map (·.den (rhoE (vsW V)) phD) = fl := by
  have c := fun v hv => cellD_den h d (v := v) hv
  have h0 := h.is.2.1.1
  have h1 := h.is.2.1.2.1
  have key : (cellsD d op m (signOf op (wayOf op V))).map (·.den (rhoE (vsW V)) phD) = [rhoE fl 0, rhoE fl 1, rhoE fl 2, rhoE fl 3, rhoE fl 4, rhoE fl 5, rhoE fl 6, rhoE fl 7, rhoE fl 8, rhoE fl 9, rhoE fl 10] := by
    rw [← c 2 (by decide), ← c 3 (by decide), ← c 4 (by decide), ← c 5 (by decide), ← c 6 (by decide), ← c 7 (by decide), ← c 8 (by decide), ← c 9 (by decide), ← c 10 (by decide)]
    rw [show rhoE fl 0 = .int .i64 (Int.ofNat op) from h0, show rhoE fl 1 = .int .i64 (Int.ofNat (A64.wid op m)) from h1]
    rfl
  rw [key]
  obtain ⟨o, w, a, b, c, d, v, e, f, g, hh, rfl⟩ := cells11 h.hs
  rfl
theorem argW_is (V : Nat) : CX.SV.is (rhoE (vsW V)) phD (fun _ => none) argW (.int .u32 (V : Int)) := rfl
theorem all2_dens {ρ : Nat → Value} {φ : Nat → List Value → List Value} {β : Bk} : ∀ {cs : List CX.SC} {es : List E} {vs : List Value}, exsC cs = some es → All2 (CX.SC.is ρ φ β) cs vs → vs = es.map (·.den ρ φ) := fun h ha => exsC_is h ha
theorem back_ends {fl : List Value} {op m V f : Nat} (h : Wd fl op m V) (d : Bool) {args : List CX.SV} {xs : List Value} (ha : All2 (CX.SV.is (rhoE (vsW V)) phD fun _ => none) args xs)
    (hr : endsC cxD extD 3000 0 f args 100 (factsD op m (wayOf op V)) (backK (cellsD d op m (signOf op (wayOf op V)))) = true) (w : World) :
    Calls Tryd.prog f xs.toArray w fun e w' => e = .returned (.agg fl.toArray) ∧ Below w.heap.size w w' := by
  obtain ⟨v, fs', h1, h2, h3⟩ := endsC_ok (cx := cxD) rfl (namesOk_spec names_ok) (fitsD h.lt) (facts_hold h) ha hr
  unfold backK at h2
  split at h2
  · rename_i cs
    split at h2
    · rename_i es hes
      refine Calls.mono (h3 w (fun v hv => by simp [cxD] at hv) extD_ok) ?_
      rintro e w' ⟨y, β', rfl, ⟨vs, rfl, hvs⟩, hb⟩
      rw [all2_dens hes hvs, eqEs_eq h2, cellsD_den h d]
      exact ⟨rfl, hb⟩
    · cases h2
  · cases h2
theorem back_all {op m : Nat} (hi : (op, m) ∈ insts) : backR (op, m) = true := back_in _ hi
theorem back_way {fl : List Value} {op m V : Nat} (h : Wd fl op m V) : (rbR op m (wayOf op V) = true ∧ tbR op m (wayOf op V) = true) ∧ nbR op m = true := by
  have hb := back_all h.is.1
  unfold backR at hb
  rw [Bool.and_eq_true] at hb
  have := List.all_eq_true.1 hb.1 (wayOf op V) (List.mem_range.2 (way_lt op V))
  rw [Bool.and_eq_true] at this
  exact ⟨this, hb.2⟩
theorem read_back {fl : List Value} {op m V : Nat} (h : Wd fl op m V) (w : World) : Calls Tryd.prog 43 #[.int .u32 (V : Int)] w fun e w' => e = .returned (.agg fl.toArray) ∧ Below w.heap.size w w' :=
  back_ends h false (args := [argW]) (xs := [.int .u32 (V : Int)]) ⟨argW_is V, trivial⟩ (back_way h).1.1 w
theorem take_back {fl : List Value} {op m V : Nat} (h : Wd fl op m V) (w : World) : Calls Tryd.prog 45 #[.int .i64 (op : Int), .int .u32 (V : Int)] w fun e w' => e = .returned (.agg fl.toArray) ∧ Below w.heap.size w w' :=
  back_ends h true (args := [.one ⟨false, [.e (A64.i64E op)]⟩, argW]) (xs := [.int .i64 (op : Int), .int .u32 (V : Int)]) ⟨rfl, argW_is V, trivial⟩ (back_way h).1.2 w
theorem near_facts {fl : List Value} {op m V : Nat} (h : Wd fl op m V) : Facts.hold (rhoE (vsW V)) phD (nearF op m) := by
  have hlt := h.lt
  have ap := h.apart
  have free : ∀ p ∈ insts, (if acc p.1 then winFree p.1 p.2 (24, 6) else if Nat.beq p.1 40 then winFree p.1 p.2 (26, 6) else winFree p.1 p.2 (24, 8)) = true := by decide +kernel
  have hfree := free _ h.is.1
  have small : ∀ p ∈ insts, A64.const p.1 p.2 < 4294967296 := by decide +kernel
  have hsmall : A64.const op m < 4294967296 := small _ h.is.1
  have shr : ∀ a : Nat, a ≤ 31 → ishf .shr .u32 (V : Int) (a : Int) = ((V / 2 ^ a : Nat) : Int) := by
    intro a ha
    show (V : Int).fdiv (2 ^ (min (a : Int).toNat 32)) = _
    rw [show min (a : Int).toNat 32 = a by omega, Int.fdiv_eq_ediv_of_nonneg _ (Int.le_of_lt (Int.pow_pos (by omega))), ← pow_cast, ← Int.natCast_ediv]
  unfold nearF
  by_cases ha : acc op = true
  · rw [ha] at hfree
    rw [ha, if_pos rfl]
    have hw := h.win (a := 24) (n := 6) (by decide) hfree
    refine hold_cons _ ?_ hold_nil
    show Value.bool ((ishf .shr .u32 (vint (rhoE (vsW V) 0)) 24).tmod 64 == Int.ofNat (A64.const op m / 2 ^ 24 % 64)) = .bool true
    have hs := shr 24 (by decide)
    have hs : ishf .shr .u32 (vint (rhoE (vsW V) 0)) 24 = ((V / 2 ^ 24 : Nat) : Int) := hs
    rw [hs, Int.tmod_eq_emod_of_nonneg (Int.natCast_nonneg _)]
    have hw : V / 2 ^ 24 % 64 = A64.const op m / 2 ^ 24 % 64 := hw
    rw [← hw]
    congr 1
    rw [beq_iff_eq]
    show _ = ((V / 2 ^ 24 % 64 : Nat) : Int)
    omega
  · have ha : acc op = false := by simpa using ha
    rw [ha] at hfree
    rw [ha, if_neg (by simp)]
    by_cases h40 : Nat.beq op 40 = true
    · rw [h40] at hfree
      rw [h40, if_pos rfl]
      have hw := h.win (a := 26) (n := 6) (by decide) hfree
      refine hold_cons _ ?_ hold_nil
      show Value.bool (ishf .shr .u32 (vint (rhoE (vsW V) 0)) 26 == Int.ofNat (A64.const op m / 2 ^ 26)) = .bool true
      have hs : ishf .shr .u32 (vint (rhoE (vsW V) 0)) 26 = ((V / 2 ^ 26 : Nat) : Int) := shr 26 (by decide)
      rw [hs]
      congr 1
      rw [beq_iff_eq]
      show _ = ((A64.const op m / 2 ^ 26 : Nat) : Int)
      have hw : V / 67108864 % 64 = A64.const op m / 67108864 % 64 := hw
      show ((V / 67108864 : Nat) : Int) = ((A64.const op m / 67108864 : Nat) : Int)
      omega
    · have h40 : Nat.beq op 40 = false := by
        cases hq : Nat.beq op 40
        · rfl
        · exact absurd hq h40
      rw [h40] at hfree
      rw [h40, if_neg (by simp)]
      have hw := h.win (a := 24) (n := 8) (by decide) hfree
      refine hold_cons _ ?_ hold_nil
      show Value.bool (ishf .shr .u32 (vint (rhoE (vsW V) 0)) 24 == Int.ofNat (A64.const op m / 2 ^ 24)) = .bool true
      have hs : ishf .shr .u32 (vint (rhoE (vsW V) 0)) 24 = ((V / 2 ^ 24 : Nat) : Int) := shr 24 (by decide)
      rw [hs]
      congr 1
      rw [beq_iff_eq]
      have hw : V / 16777216 % 256 = A64.const op m / 16777216 % 256 := hw
      show ((V / 16777216 : Nat) : Int) = ((A64.const op m / 16777216 : Nat) : Int)
      omega
theorem near_back {fl : List Value} {op m V : Nat} (h : Wd fl op m V) (w : World) : Calls Tryd.prog 44 #[.int .i64 (op : Int), .int .u32 (V : Int)] w fun e w' => e = .returned (.bool true) ∧ Below w.heap.size w w' :=
  law_by (cx := cxD) rfl (namesOk_spec names_ok) (fitsD h.lt) (near_facts h) (args := [.one ⟨false, [.e (A64.i64E op)]⟩, argW]) (xs := [.int .i64 (op : Int), .int .u32 (V : Int)]) ⟨rfl, argW_is V, trivial⟩ (back_way h).2 w (fun v hv => by simp [cxD] at hv) extD_ok
/-! ### Of any word -/
theorem sort_ends {V f : Nat} (hV : V < 4294967296) {args : List CX.SV} {xs : List Value} (ha : All2 (CX.SV.is (rhoE (vsW V)) phD fun _ => none) args xs) (hr : endsC cxD extD 3000 0 f args 100 [] sortK = true) :
    ∃ fl, All2 So.has ssE fl ∧ ∀ w : World, Calls Tryd.prog f xs.toArray w fun e w' => e = .returned (.agg fl.toArray) ∧ Below w.heap.size w w' := by
  obtain ⟨v, fs', h1, h2, h3⟩ := endsC_ok (cx := cxD) rfl (namesOk_spec names_ok) (fitsD hV) hold_nil ha hr
  unfold sortK at h2
  split at h2
  · rename_i cs
    split at h2
    · rename_i es hes
      refine ⟨es.map (·.den (rhoE (vsW V)) phD), CX.soOk_has (fitsD hV) h2, fun w => ?_⟩
      refine Calls.mono (h3 w (fun v hv => by simp [cxD] at hv) extD_ok) ?_
      rintro e w' ⟨y, β', rfl, ⟨vs, rfl, hvs⟩, hb⟩
      rw [all2_dens hes hvs]
      exact ⟨rfl, hb⟩
    · cases h2
  · cases h2
theorem read_any {V : Nat} (hV : V < 4294967296) : ∃ fl, All2 So.has ssE fl ∧ ∀ w : World, Calls Tryd.prog 43 #[.int .u32 (V : Int)] w fun e w' => e = .returned (.agg fl.toArray) ∧ Below w.heap.size w w' :=
  sort_ends hV (args := [argW]) (xs := [.int .u32 (V : Int)]) ⟨argW_is V, trivial⟩ read_run
theorem near_any {V : Nat} (hV : V < 4294967296) {op : Nat} (h1 : 1 ≤ op) (h47 : op ≤ 47) : ∃ b, ∀ w : World, Calls Tryd.prog 44 #[.int .i64 (op : Int), .int .u32 (V : Int)] w fun e w' => e = .returned (.bool b) ∧ Below w.heap.size w w' := by
  obtain ⟨v, fs', g1, g2, g3⟩ := endsC_ok (cx := cxD) rfl (namesOk_spec names_ok) (fitsD hV) hold_nil (args := [.one ⟨false, [.e (A64.i64E op)]⟩, argW]) (xs := [.int .i64 (op : Int), .int .u32 (V : Int)]) ⟨rfl, argW_is V, trivial⟩ (nears_in op h1 h47)
  unfold boolK at g2
  split at g2
  · rename_i x
    have hb := so_bool (fitsD hV) (x := x) (by simpa using g2)
    refine ⟨vbool (x.den (rhoE (vsW V)) phD), fun w => ?_⟩
    refine Calls.mono (g3 w (fun v hv => by simp [cxD] at hv) extD_ok) ?_
    rintro e w' ⟨y, β', rfl, hy, hbl⟩
    have hy : y = x.den (rhoE (vsW V)) phD := hy
    rw [hy, hb]
    exact ⟨rfl, hbl⟩
  · cases g2
end Go.Proofs.YtclhmilecdjbiaaDoor
