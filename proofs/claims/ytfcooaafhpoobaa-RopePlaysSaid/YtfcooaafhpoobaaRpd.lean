/- Walks of layer 2: bytes cut out of a rope; texts read out of it; where a byte 0 stands. -/
import Derived.Test.YtfcooaafhpoobaaRpc
namespace Go.Proofs.Ytfcooaafhpoobaa
open Go.RowKit Rp
open Cq (U64 I64 isW)

/-- where the first 0 stands, or -1 -/
def fz : List Int → Int
  | [] => -1
  | x :: l => if x = 0 then 0 else if fz l = -1 then -1 else fz l + 1
theorem fz_ge (l : List Int) : -1 ≤ fz l := by
  induction l with
  | nil => exact Int.le_refl _
  | cons x l ih =>
    unfold fz
    split
    · decide
    · split
      · exact Int.le_refl _
      · omega
theorem fz_lt (l : List Int) : fz l < l.length := by
  induction l with
  | nil => decide
  | cons x l ih =>
    unfold fz
    rw [List.length_cons]
    split
    · omega
    · split
      · omega
      · omega
theorem fz_index {l : List Int} (h8 : Bytes8 l) : Lib.indexByte (Lib.bytesOf l) (0 : Int).toNat.toUInt8 = fz l := by
  induction l with
  | nil => rfl
  | cons x l ih =>
    have hx := h8 x (List.mem_cons_self ..)
    have ih' := ih (fun y hy => h8 y (List.mem_cons_of_mem _ hy))
    have e : Lib.bytesOf (x :: l) = UInt8.ofNat x.toNat :: Lib.bytesOf l := rfl
    rw [e, Lib.indexByte, fz, ih']
    have hb : (UInt8.ofNat x.toNat == (0 : Int).toNat.toUInt8) = decide (x = 0) := by
      rw [Bool.eq_iff_iff]
      simp only [beq_iff_eq, decide_eq_true_eq]
      constructor
      · intro h
        have h2 := congrArg UInt8.toNat h
        have : (UInt8.ofNat x.toNat).toNat = x.toNat := by rw [UInt8.toNat_ofNat']; omega
        rw [this] at h2
        have h3 : ((0 : Int).toNat.toUInt8).toNat = 0 := rfl
        omega
      · intro h; subst h; rfl
    rw [hb]
    by_cases g : x = 0
    · simp [g]
    · simp only [g, decide_false, if_false, Bool.false_eq_true, beq_iff_eq]
/-- the first 0 from a place on -/
theorem fz_step (bs : List Int) (k : Nat) (hk : k < bs.length) (h : bs.getD k 0 ≠ 0) : fz (bs.drop k) = if fz (bs.drop (k + 1)) = -1 then -1 else fz (bs.drop (k + 1)) + 1 := by
  have e : bs.drop k = bs.getD k 0 :: bs.drop (k + 1) := by
    rw [List.getD_eq_getElem?_getD, List.getElem?_eq_getElem hk]
    exact List.drop_eq_getElem_cons hk
  rw [e, fz, if_neg h]
theorem fz_here (bs : List Int) (k : Nat) (hk : k < bs.length) (h : bs.getD k 0 = 0) : fz (bs.drop k) = 0 := by
  have e : bs.drop k = bs.getD k 0 :: bs.drop (k + 1) := by
    rw [List.getD_eq_getElem?_getD, List.getElem?_eq_getElem hk]
    exact List.drop_eq_getElem_cons hk
  rw [e, fz, if_pos h]
/-- what Nought tells -/
def nou (bs : List Int) (a : Nat) : Int := if fz (bs.drop a) = -1 then -1 else a + fz (bs.drop a)
theorem nought_any (A : Option Addr) (bs : List Int) (c a : Nat) (W : World) (hr : Reads W A bs) (h8 : Bytes8 bs) (hb : bs.length ≤ 4611686018427387903) (_ha : a ≤ 4611686018427387903) :
    Calls Try.prog 77 #[.slice A bs.length c, .int .i64 a] W fun e W' => e = .returned (.int .i64 (nou bs a)) ∧ W = W' := by
  have HR := Lib.hid hr
  have H8 := Lib.hid h8
  have HN : Hid (∀ z, z = nou bs a → nou bs a = z) := fun z h => h.symm
  clear hr h8
  obtain ⟨n, hn⟩ : ∃ n, n = bs.length := ⟨_, rfl⟩
  have HL := Lib.hid hn
  rw [← hn] at hb ⊢
  clear hn
  go_enter Try.func77, Try.ntmps77
  go_wp2_with fail
  go_loop [5] (fun i => ∃ k : Nat, a ≤ k ∧ (k ≤ n ∨ k = a) ∧ i = .int .i64 k ∧ nou bs a = nou bs k) (fun i => n - (intOf i).toNat)
  case atStart => exact ⟨a, Nat.le_refl _, .inr rfl, rfl, rfl⟩
  case round =>
    obtain ⟨k, hak, hkn, rfl, hnk⟩ := hrel
    have HNK := Lib.hid hnk
    clear hnk
    by_cases hlt : k < n
    · obtain ⟨g, off, rfl, _, hc⟩ := HR.out (by have := HL.out; omega)
      have hcell := hc k (by have := HL.out; omega)
      have hbk := H8.out.get k
      have hz : Hid (bs.getD k 0 = 0 → fz (bs.drop k) = 0) := fz_here bs k (by have := HL.out; omega)
      have hs : Hid (bs.getD k 0 ≠ 0 → fz (bs.drop k) = if fz (bs.drop (k + 1)) = -1 then -1 else fz (bs.drop (k + 1)) + 1) := fz_step bs k (by have := HL.out; omega)
      clear hc
      generalize bs.getD k 0 = x at *
      by_cases hx : x = 0
      · subst hx
        have H1 : Hid (nou bs k = k) := by
          have h1 := hz.out rfl
          show nou bs k = k
          unfold nou
          rw [h1]; simp
        clear hz hs
        go_wp2_with fail
        go_ret
        exact ⟨by rw [HNK.out, H1.out]; rfl, rfl⟩
      · have hx1 : (x == 0) = false := by simpa using hx
        have h1 : Hid (nou bs k = nou bs (k + 1)) := by
          have h2 := hs.out hx
          have h3 := fz_ge (bs.drop (k + 1))
          show nou bs k = nou bs (k + 1)
          unfold nou
          rw [h2]
          by_cases e : fz (bs.drop (k + 1)) = -1
          · simp [e]
          · rw [if_neg e, if_neg (by omega), if_neg e]; omega
        clear hx
        go_wp2_with fail
        go_round
        case rel => exact ⟨k + 1, by omega, by omega, by go_num, HNK.out.trans h1.out⟩
        case measure => simp [intOf]; omega
    · have h1 : nou bs k = -1 := by
        unfold nou
        rw [List.drop_eq_nil_of_le (by have := HL.out; omega)]; rfl
      have H1 := Lib.hid h1
      clear h1
      go_wp2_with fail
      go_ret
      exact ⟨by rw [HNK.out, H1.out]; rfl, rfl⟩
/-- Cut -/
theorem cut_ok (B : Nat) (W : World) (sb t : Nat) (rest : List Value) (v : Value) (bs : List Int) (h : St B 5 W sb t rest v bs) (hb : bs.length ≤ 1048576) (a n : Nat) (han : a + n ≤ bs.length) :
    Calls Try.prog 50 #[.pointer (some ⟨sb, 0, none⟩), .int .i64 a, .int .i64 n] W fun e W' => ∃ u, e = .returned (.tuple #[u, .int .i64 0]) ∧ Copy W W' u (cut bs a n) := by
  obtain ⟨A, c, hv, _, _⟩ := own_form h.own
  have hc := h.box.cell 0
  simp only [List.getElem?_cons_zero] at hc
  rw [hv] at hc
  have hh : hasB a n bs.length = true := by simp [hasB, inB]; omega
  have HC := Lib.hid (clone_any h a n han hb)
  clear h hv
  go_enter Try.func50, Try.ntmps50
  go_wp2_with fail
  refine (has_any sb A bs.length c a n _ hc (by omega)).mono ?_; rintro e w' ⟨rfl, rfl⟩
  rw [hh]
  clear hh
  go_wp2_with fail
  refine HC.out.mono ?_; rintro e w1 ⟨u, rfl, hcp⟩
  have HF := Lib.hid hcp
  clear hcp hc HC
  go_wp2_with fail
  go_ret2
  exact ⟨_, rfl, HF.out⟩
theorem cut_no (W : World) (sb : Nat) (A : Option Addr) (l c : Nat) (hc : W.cell? ⟨sb, 0, none⟩ = some (.slice A l c)) (hl : l ≤ 1048576) (a n : Int) (hh : hasB a n l = false) :
    Calls Try.prog 50 #[.pointer (some ⟨sb, 0, none⟩), .int .i64 a, .int .i64 n] W fun e W' => e = .returned (.tuple #[.slice none 0 0, .int .i64 7]) ∧ W = W' := by
  go_enter Try.func50, Try.ntmps50
  go_wp2_with fail
  refine (has_any sb A l c a n _ hc (by omega)).mono ?_; rintro e w' ⟨rfl, rfl⟩
  rw [hh]
  clear hh
  go_wp2_with fail
  go_ret2
  exact ⟨rfl, rfl⟩
/-- what Str tells -/
def strE (bs : List Int) (a m : Int) : Int := if inB a bs.length then (if fz (bs.drop a.toNat) = -1 then 7 else if fz (bs.drop a.toNat) > max m 0 then 6 else 0) else 7
def strS (bs : List Int) (a m : Int) : ByteArray := if strE bs a m = 0 then strOf (cut bs a.toNat (fz (bs.drop a.toNat)).toNat) else ⟨#[]⟩
theorem cut_bytes {bs : List Int} (h8 : Bytes8 bs) (a n : Nat) : Bytes8 (cut bs a n) := by
  intro y hy
  unfold cut at hy
  exact h8 y (List.mem_of_mem_drop (List.mem_of_mem_take hy))
theorem drop_bytes {bs : List Int} (h8 : Bytes8 bs) (a : Nat) : Bytes8 (bs.drop a) := fun y hy => h8 y (List.mem_of_mem_drop hy)
theorem str_no (W : World) (sb : Nat) (A : Option Addr) (l c : Nat) (hc : W.cell? ⟨sb, 0, none⟩ = some (.slice A l c)) (a m : Int) (hh : inB a l = false) :
    Calls Try.prog 51 #[.pointer (some ⟨sb, 0, none⟩), .int .i64 a, .int .i64 m] W fun e W' => e = .returned (.tuple #[.string ⟨#[]⟩, .int .i64 7]) ∧ W = W' := by
  go_enter Try.func51, Try.ntmps51
  go_wp2_with fail
  refine (inside_any sb A l c a _ hc).mono ?_; rintro e w' ⟨rfl, rfl⟩
  rw [hh]
  clear hh
  go_wp2_with fail
  go_ret2
  exact ⟨rfl, rfl⟩
set_option maxRecDepth 100000 in
theorem str_nil (W : World) (sb : Nat) (hc : W.cell? ⟨sb, 0, none⟩ = some (.slice none 0 0)) (m : Int) :
    Calls Try.prog 51 #[.pointer (some ⟨sb, 0, none⟩), .int .i64 0, .int .i64 m] W fun e W' => e = .returned (.tuple #[.string ⟨#[]⟩, .int .i64 7]) ∧ W = W' := by
  go_enter Try.func51, Try.ntmps51
  go_wp2_with fail
  refine (inside_any sb none 0 0 0 _ hc).mono ?_; rintro e w' ⟨rfl, rfl⟩
  rw [show inB 0 0 = true from rfl]
  go_wp2_with fail
  refine (Go.Proofs.Try.bytes_IndexByte_nil _ _).mono ?_; rintro e w' ⟨rfl, rfl⟩
  go_wp2_with fail
  go_ret2
  exact ⟨rfl, rfl⟩
set_option maxRecDepth 100000 in
theorem str_some (W : World) (sb k c : Nat) (cs : List Value) (bs : List Int) (hc : W.cell? ⟨sb, 0, none⟩ = some (.slice (some ⟨k, 0, none⟩) bs.length c))
    (hbx : Box W k 5 cs) (hcs : ∀ i, i < bs.length → cs[i]? = some (.int .u8 (bs.getD i 0))) (h8 : Bytes8 bs) (hb : bs.length ≤ 1048576) (hcb : bs.length ≤ c) (a : Nat) (ha : a ≤ bs.length) (hac : a < c) (m : Int) :
    Calls Try.prog 51 #[.pointer (some ⟨sb, 0, none⟩), .int .i64 a, .int .i64 m] W fun e W' => e = .returned (.tuple #[.string (strS bs a m), .int .i64 (strE bs a m)]) ∧ W = W' := by
  have hin : inB a bs.length = true := by simp [inB]; omega
  have hix := Go.Proofs.Try.bytes_IndexByte k a (bs.length - a) (c - a) (bs.drop a) 0 W (by rw [List.length_drop]) (fun i hi => by
    have h1 := hbx.cell (a + i)
    rw [hcs (a + i) (by omega)] at h1
    rw [h1, List.getD_eq_getElem?_getD, List.getD_eq_getElem?_getD, List.getElem?_drop])
  rw [fz_index (drop_bytes h8 a)] at hix
  have f0 := fz_ge (bs.drop a)
  have f1 := fz_lt (bs.drop a)
  rw [List.length_drop] at f1
  have hE : strE bs a m = if fz (bs.drop a) = -1 then 7 else if fz (bs.drop a) > max m 0 then 6 else 0 := by unfold strE; rw [hin, Int.toNat_natCast]; rfl
  have hS : strE bs a m = 0 → strS bs a m = strOf (cut bs a (fz (bs.drop a)).toNat) := by intro h; unfold strS; rw [if_pos h, Int.toNat_natCast]
  have hS2 : strE bs a m ≠ 0 → strS bs a m = ⟨#[]⟩ := by intro h; unfold strS; rw [if_neg h]
  have HIX := Lib.hid hix
  have HS := Lib.hid hS
  have HS2 := Lib.hid hS2
  have HE := Lib.hid hE
  have HRD : Hid (∀ f : Nat, a + f ≤ bs.length → Reads W (some ⟨k, a, none⟩) (cut bs a f)) := by
    intro f hf hp
    refine ⟨k, a, rfl, hbx.lt, fun i hi => ?_⟩
    rw [cut_length bs a f hf] at hi
    rw [cut_get bs a f i hi, hbx.cell (a + i)]
    exact hcs (a + i) (by omega)
  have HCL : Hid (∀ f : Nat, a + f ≤ bs.length → (cut bs a f).length = f) := fun f hf => cut_length bs a f hf
  clear hix hS hS2 hE hcs hbx h8
  generalize fz (bs.drop a) = f at *
  by_cases hf : f = -1
  · subst hf
    have e7 : strE bs a m = 7 := by rw [HE.out]; simp
    have eS : strS bs a m = ⟨#[]⟩ := HS2.out (by rw [e7]; decide)
    rw [e7, eS]
    clear e7 eS HE HS HS2
    go_enter Try.func51, Try.ntmps51
    go_wp2_with fail
    refine (inside_any sb _ bs.length c a _ hc).mono ?_; rintro e w' ⟨rfl, rfl⟩
    rw [hin]
    clear hin
    go_wp2_with fail
    refine HIX.out.mono ?_; rintro e w' ⟨rfl, rfl⟩
    go_wp2_with fail
    go_ret2
    exact ⟨rfl, rfl⟩
  · obtain ⟨y, rfl⟩ := Int.eq_ofNat_of_zero_le (show 0 ≤ f by omega)
    by_cases hm : (y : Int) > max m 0
    · have e7 : strE bs a m = 6 := by rw [HE.out, if_neg hf, if_pos hm]
      have eS : strS bs a m = ⟨#[]⟩ := HS2.out (by rw [e7]; decide)
      rw [e7, eS]
      clear e7 eS HE HS HS2
      go_enter Try.func51, Try.ntmps51
      go_wp2_with fail
      refine (inside_any sb _ bs.length c a _ hc).mono ?_; rintro e w' ⟨rfl, rfl⟩
      rw [hin]
      clear hin
      go_wp2_with fail
      refine HIX.out.mono ?_; rintro e w' ⟨rfl, rfl⟩
      go_wp2_with fail
      go_ret2
      exact ⟨rfl, rfl⟩
    · have e7 : strE bs a m = 0 := by rw [HE.out, if_neg hf, if_neg hm]
      have eS := HS.out e7
      rw [Int.toNat_natCast] at eS
      rw [e7, eS]
      have hcv := conv_reads (HRD.out y (by omega)) (fun h => by cases h) (c - a)
      rw [HCL.out y (by omega)] at hcv
      have hm2 : (y : Int) ≤ max m 0 := by omega
      clear e7 eS HE HS HS2 hm
      go_enter Try.func51, Try.ntmps51
      go_wp2_with fail
      refine (inside_any sb _ bs.length c a _ hc).mono ?_; rintro e w' ⟨rfl, rfl⟩
      rw [hin]
      clear hin
      go_wp2_with fail
      refine HIX.out.mono ?_; rintro e w' ⟨rfl, rfl⟩
      go_wp2_with fail
      go_ret2
      exact ⟨rfl, rfl⟩
set_option maxRecDepth 100000 in
theorem str_end (W : World) (sb k : Nat) (n : Nat) (hc : W.cell? ⟨sb, 0, none⟩ = some (.slice (some ⟨k, 0, none⟩) n n)) (m : Int) :
    Calls Try.prog 51 #[.pointer (some ⟨sb, 0, none⟩), .int .i64 n, .int .i64 m] W fun e W' => e = .returned (.tuple #[.string ⟨#[]⟩, .int .i64 7]) ∧ W = W' := by
  have hin : inB n n = true := by simp [inB]
  have HIX := Lib.hid (Go.Proofs.Try.bytes_IndexByte k 0 0 0 [] 0 W rfl (fun i hi => by omega))
  rw [show Lib.indexByte (Lib.bytesOf []) (0 : Int).toNat.toUInt8 = -1 from rfl] at HIX
  go_enter Try.func51, Try.ntmps51
  go_wp2_with fail
  refine (inside_any sb _ n n n _ hc).mono ?_; rintro e w' ⟨rfl, rfl⟩
  rw [hin]
  clear hin
  go_wp2_with fail
  refine HIX.out.mono ?_; rintro e w' ⟨rfl, rfl⟩
  go_wp2_with fail
  go_ret2
  exact ⟨rfl, rfl⟩
theorem str_any {B : Nat} {W : World} {sb t : Nat} {rest : List Value} {v : Value} {bs : List Int} (h : St B 5 W sb t rest v bs) (h8 : Bytes8 bs) (hb : bs.length ≤ 1048576) (a m : Int) :
    Calls Try.prog 51 #[.pointer (some ⟨sb, 0, none⟩), .int .i64 a, .int .i64 m] W fun e W' => e = .returned (.tuple #[.string (strS bs a m), .int .i64 (strE bs a m)]) ∧ W = W' := by
  have hc := h.box.cell 0
  simp only [List.getElem?_cons_zero] at hc
  cases hin : inB a bs.length
  · have e7 : strE bs a m = 7 := by unfold strE; rw [hin]; rfl
    have eS : strS bs a m = ⟨#[]⟩ := by unfold strS; rw [if_neg (by rw [e7]; decide)]
    rw [e7, eS]
    obtain ⟨A, c, hv, _, _⟩ := own_form h.own
    rw [hv] at hc
    exact str_no W sb A bs.length c hc a m hin
  · obtain ⟨y, rfl⟩ := Int.eq_ofNat_of_zero_le (show 0 ≤ a by simp [inB] at hin; omega)
    have hy : y ≤ bs.length := by simp [inB] at hin; omega
    have hend : y = bs.length → strE bs y m = 7 ∧ strS bs y m = ⟨#[]⟩ := by
      intro e
      have e7 : strE bs y m = 7 := by
        unfold strE; rw [hin, Int.toNat_natCast, List.drop_eq_nil_of_le (by omega)]; rfl
      exact ⟨e7, by unfold strS; rw [if_neg (by rw [e7]; decide)]⟩
    rcases own_cases h.own with ⟨rfl, rfl⟩ | ⟨k, c, cs, rfl, hnc, hcm, hbx, hl, hcs⟩
    · obtain rfl : y = 0 := by simpa using hy
      obtain ⟨e7, eS⟩ := hend rfl
      rw [e7, eS]
      exact str_nil W sb hc m
    · by_cases hac : y < c
      · exact str_some W sb k c cs bs hc hbx hcs h8 hb hnc y hy hac m
      · have e1 : y = bs.length := by omega
        have e2 : c = bs.length := by omega
        obtain ⟨e7, eS⟩ := hend e1
        rw [e7, eS, e1]
        rw [e2] at hc
        exact str_end W sb k bs.length hc m
set_option maxRecDepth 100000 in
/-- the document's own text -/
theorem rstr_any (A : Option Addr) (bs : List Int) (c : Nat) (a m : Int) (W : World) (hr : Reads W A bs) (hA : A = none → bs = []) (h8 : Bytes8 bs) (hb : bs.length ≤ 1048576) (hbc : bs.length ≤ c) :
    Calls Try.prog 52 #[.slice A bs.length c, .int .i64 a, .int .i64 m] W fun e W' => e = .returned (.tuple #[.string (strS bs a m), .int .i64 (strE bs a m)]) ∧ W = W' := by
  by_cases h0 : a < 0
  · have hin : inB a bs.length = false := by simp [inB]; omega
    have e7 : strE bs a m = 7 := by unfold strE; rw [hin]; rfl
    have eS : strS bs a m = ⟨#[]⟩ := by unfold strS; rw [if_neg (by rw [e7]; decide)]
    rw [e7, eS]
    clear e7 eS hin hr hA h8
    go_enter Try.func52, Try.ntmps52
    go_wp2_with fail
    go_ret2
    exact ⟨rfl, rfl⟩
  · obtain ⟨y, rfl⟩ := Int.eq_ofNat_of_zero_le (show 0 ≤ a by omega)
    by_cases h1 : y ≤ bs.length
    · have hin : inB y bs.length = true := by simp [inB]; omega
      have f0 := fz_ge (bs.drop y)
      have f1 := fz_lt (bs.drop y)
      rw [List.length_drop] at f1
      have hE : strE bs y m = if fz (bs.drop y) = -1 then 7 else if fz (bs.drop y) > max m 0 then 6 else 0 := by unfold strE; rw [hin, Int.toNat_natCast]; rfl
      have hS : strE bs y m = 0 → strS bs y m = strOf (cut bs y (fz (bs.drop y)).toNat) := by intro h; unfold strS; rw [if_pos h, Int.toNat_natCast]
      have hS2 : strE bs y m ≠ 0 → strS bs y m = ⟨#[]⟩ := by intro h; unfold strS; rw [if_neg h]
      have hN : nou bs y = if fz (bs.drop y) = -1 then -1 else y + fz (bs.drop y) := rfl
      have HNU := Lib.hid (nought_any A bs c y W hr h8 (by omega) (by omega))
      have HS := Lib.hid hS
      have HS2 := Lib.hid hS2
      have HE := Lib.hid hE
      have HR := Lib.hid hr
      clear hS hS2 hE hr hA h8 hin h0
      generalize fz (bs.drop y) = f at *
      by_cases hf : f = -1
      · subst hf
        have e7 : strE bs y m = 7 := by rw [HE.out]; simp
        have eS : strS bs y m = ⟨#[]⟩ := HS2.out (by rw [e7]; decide)
        rw [e7, eS]
        rw [show nou bs y = -1 by rw [hN]; simp] at HNU
        clear e7 eS HE HS HS2 hN
        go_enter Try.func52, Try.ntmps52
        go_wp2_with fail
        refine HNU.out.mono ?_; rintro e w' ⟨rfl, rfl⟩
        go_wp2_with fail
        go_ret2
        exact ⟨rfl, rfl⟩
      · obtain ⟨z, rfl⟩ := Int.eq_ofNat_of_zero_le (show 0 ≤ f by omega)
        rw [show nou bs y = (y : Int) + z by rw [hN, if_neg hf]] at HNU
        clear hN
        obtain ⟨g, off, rfl, hg, hcell⟩ := HR.out (by omega)
        by_cases hm : (z : Int) > max m 0
        · have e7 : strE bs y m = 6 := by rw [HE.out, if_neg hf, if_pos hm]
          have eS : strS bs y m = ⟨#[]⟩ := HS2.out (by rw [e7]; decide)
          rw [e7, eS]
          clear e7 eS HE HS HS2 hcell hf
          by_cases hm0 : m < 0
          · have hz1 : 0 < z := by omega
            clear hm
            go_enter Try.func52, Try.ntmps52
            go_wp2_with fail
            refine HNU.out.mono ?_; rintro e w' ⟨rfl, rfl⟩
            go_wp2_with fail
            refine HNU.out.mono ?_; rintro e w' ⟨rfl, rfl⟩
            go_wp2_with fail
            go_ret2
            exact ⟨rfl, rfl⟩
          · have hz1 : m < z := by omega
            clear hm
            go_enter Try.func52, Try.ntmps52
            go_wp2_with fail
            refine HNU.out.mono ?_; rintro e w' ⟨rfl, rfl⟩
            go_wp2_with fail
            refine HNU.out.mono ?_; rintro e w' ⟨rfl, rfl⟩
            go_wp2_with fail
            go_ret2
            exact ⟨rfl, rfl⟩
        · have e7 : strE bs y m = 0 := by rw [HE.out, if_neg hf, if_neg hm]
          have eS := HS.out e7
          rw [Int.toNat_natCast] at eS
          rw [e7, eS]
          have hcl := cut_length bs y z (by omega)
          have hrd : Reads W (some ⟨g, off + y, none⟩) (cut bs y z) := by
            intro hp
            refine ⟨g, off + y, rfl, hg, fun i hi => ?_⟩
            rw [hcl] at hi
            rw [cut_get bs y z i hi, Nat.add_assoc]
            exact hcell (y + i) (by omega)
          have hcv := conv_reads hrd (fun h => by cases h) (c - y)
          rw [hcl] at hcv
          have HCV := Lib.hid hcv
          clear e7 eS HE HS HS2 hcell hf hrd hcl hcv
          by_cases hm0 : m < 0
          · obtain rfl : z = 0 := by omega
            have hcv := HCV.out
            clear hm
            go_enter Try.func52, Try.ntmps52
            go_wp2_with fail
            refine HNU.out.mono ?_; rintro e w' ⟨rfl, rfl⟩
            go_wp2_with fail
            refine HNU.out.mono ?_; rintro e w' ⟨rfl, rfl⟩
            go_wp2_with fail
            go_ret2
            exact ⟨rfl, rfl⟩
          · have hz1 : (z : Int) ≤ m := by omega
            have hcv := HCV.out
            clear hm
            go_enter Try.func52, Try.ntmps52
            go_wp2_with fail
            refine HNU.out.mono ?_; rintro e w' ⟨rfl, rfl⟩
            go_wp2_with fail
            refine HNU.out.mono ?_; rintro e w' ⟨rfl, rfl⟩
            go_wp2_with fail
            go_ret2
            exact ⟨rfl, rfl⟩
    · have hin : inB y bs.length = false := by simp [inB]; omega
      have e7 : strE bs y m = 7 := by unfold strE; rw [hin]; rfl
      have eS : strS bs y m = ⟨#[]⟩ := by unfold strS; rw [if_neg (by rw [e7]; decide)]
      rw [e7, eS]
      have h2 : bs.length < y := by omega
      clear e7 eS hin hr hA h8 h0 h1
      go_enter Try.func52, Try.ntmps52
      go_wp2_with fail
      go_ret2
      exact ⟨rfl, rfl⟩
end Go.Proofs.Ytfcooaafhpoobaa
