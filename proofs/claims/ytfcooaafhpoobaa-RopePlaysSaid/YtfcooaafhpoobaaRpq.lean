/- The statement of layer 2 that a rope holds and answers what the document says. -/
import Derived.Test.YtfcooaafhpoobaaRpp
import Derived.Deep.RegionHeld3
import Derived.Deep.DeepCutAuto
namespace Go.Proofs.Ytfcooaafhpoobaa
open Go.RowKit Rp Go.Maps
open Cq (U64 I64 isW)

/-- what stands ahead of the calls -/
structure Laid (W wr : World) (g : Nat) (v : Value) (Am Ab : Option Addr) (bs : List Int) (cb : Nat) : Prop where
  two : Twin W wr g v Ab bs cb
  mine : 0 < bs.length → ∃ mb, Am = some ⟨mb, 0, none⟩ ∧ Some8 wr mb bs.length ∧ W.heap.size ≤ mb ∧ ¬ Mine g v mb ∧ ∀ p, Ab = some p → p.block ≠ mb
theorem Laid.put {W wr : World} {g : Nat} {v : Value} {Ab : Option Addr} {bs : List Int} {cb mb k : Nat} (h : Laid W wr g v (some ⟨mb, 0, none⟩) Ab bs cb) (hk : k < bs.length) (x : Int) : Laid W (wr.setCell ⟨mb, k, none⟩ (.int .u8 x)) g v (some ⟨mb, 0, none⟩) Ab bs cb := by
  obtain ⟨mb', e, h1, h2, h3, h4⟩ := h.mine (by omega)
  injection e with e
  injection e with e
  subst e
  exact ⟨h.two.chg ((Chg.refl (fun j => j = mb) wr).setCell (p := ⟨mb, k, none⟩) (fun _ => rfl) _) h3 (fun p hp _ => h4 p hp) h2, fun _ => ⟨mb, rfl, h1.put hk x, h2, h3, h4⟩⟩
set_option maxHeartbeats 8000000 in
set_option maxRecDepth 100000 in
theorem law_plays (W : World) (A : Option Addr) (bs : List Int) (n c : Nat) (A2 : Option Addr) (len2 cap2 : Nat) (hn : (n ≤ 100 ∧ bs.length = n) ∨ (100 < n ∧ bs.length = 100)) (hr : Reads W A bs) (h8 : Bytes8 bs) (hA : A = none → c = 0 ∧ n = 0)
    (hnc : n ≤ c) (hc : c ≤ 9223372036854775807) (hq : Ops W A2 len2) (hl2 : len2 ≤ 9223372036854775807) :
    Calls Try.prog 3 #[.slice A n c, .slice A2 len2 cap2] W fun e W' => e = .returned (.bool true) ∧ Below W.heap.size W W' := by
  obtain ⟨L, hL⟩ : ∃ L, L = bs.length := ⟨_, rfl⟩
  have hLn : (n ≤ 100 ∧ n = L) ∨ (100 < n ∧ L = 100) := by omega
  have HLN := Lib.hid hLn
  have HL := Lib.hid hL
  have hL1 : L ≤ 100 := by omega
  have hLc : L ≤ c := by omega
  have hal : Below W.heap.size W (W.alloc (.cells #[] 5)) := (Below.refl _ _).alloc (Nat.le_refl _) _
  have HAL := Lib.hid hal
  have HO := Lib.hid (own_none W W.heap.size (Nat.le_refl _))
  have hals : W.heap.size ≤ (W.alloc (.cells #[] 5)).heap.size := hal.size
  have HR := Lib.hid hr
  have HRA := Lib.hid (reads_below hr hal (Nat.le_refl _))
  have HA : Hid (A = none → c = 0 ∧ L = 0) := fun e => by have := hA e; show c = 0 ∧ L = 0; omega
  have H8 := Lib.hid h8
  have HQ := Lib.hid hq
  clear hn hLn hL hr h8 hA hq hal
  go_enter Try.func3, Try.ntmps3
  go_upto_if 16 with fail
  go_cut [0] (fun b wx => b = .slice A L c ∧ W = wx)
  case first =>
    rcases HLN.out with ⟨hn1, hn2⟩ | ⟨hn1, hn2⟩
    · go_wp2_with fail
      go_meet
      exact ⟨by rw [hn2], rfl⟩
    · have HN2 := Lib.hid hn2
      clear hn2
      go_wp2_with fail
      go_meet
      exact ⟨by rw [HN2.out], rfl⟩
  case rest =>
    obtain ⟨rfl, rfl⟩ := hcut
    clear hnc HLN
    go_wp2_with (at_builtin; refine wpList_append_src rfl _ _ rfl W.heap.size _ 0 [] rfl HO.out A L c bs rfl ?c1 HRA.out HA.out ?c2 ?c3 ?_)
    case c1 => exact HL.out.symm
    case c2 => omega
    case c3 => exact hals
    intro vm w1 hown1 hgr1 hat1
    have hb1 : Below W.heap.size W w1 := HAL.out.grown hgr1 hals (fun k hk => by simp [Value.ownBlock] at hk; omega)
    have HOWN1 := Lib.hid hown1
    obtain ⟨Am, cm, rfl, hlm, hrdm, hnilm, hcapm, hcmm, hblkm⟩ := own_slice hown1
    rw [← HL.out] at hcapm ⊢
    have HB1 := Lib.hid hb1
    have hsz1 := hb1.size
    obtain ⟨k, hk⟩ : ∃ k, k = L / 2 := ⟨_, rfl⟩
    have hk2 : (L : Int) / 2 = k := by omega
    have hk3 : (L : Int).tdiv 2 = k := by rw [Int.tdiv_eq_ediv_of_nonneg (by omega)]; exact hk2
    have hk4 : IntKind.i64.wrap ((L : Int).tdiv 2) = k := by rw [hk3]; exact IntWalk.i64_in _ (by omega)
    have hk5 : IntKind.i64.wrap (k : Int) = k := IntWalk.i64_in _ (by omega)
    have hkl : k ≤ L := by omega
    have hs1 := slice_h Am L cm k (by omega)
    have hs2 := slice_l Am L cm k hkl hcapm
    unfold maxLen at hcmm
    have hnew : ∀ wd : World, wd = (w1.alloc (.cells #[.slice Am k cm, .slice (partAt Am k cm) (L - k) (cm - k)] 22)).drew →
        Calls Try.prog 10 #[.slice (some ⟨w1.heap.size, 0, none⟩) 2 2] wd fun e w2 => ∃ v, e = .returned (.pointer (some ⟨w1.heap.size + 1, 0, none⟩)) ∧ St (w1.heap.size + 1) 5 w2 (w1.heap.size + 1) 98 [] v bs ∧ Below (w1.heap.size + 1) wd w2 ∧ Below w1.heap.size w1 w2 := by
      rintro wd rfl
      have hbd : Below w1.heap.size w1 (w1.alloc (.cells #[.slice Am k cm, .slice (partAt Am k cm) (L - k) (cm - k)] 22)).drew := ((Below.refl _ _).alloc (Nat.le_refl _) _).drew
      have hszd : (w1.alloc (.cells #[.slice Am k cm, .slice (partAt Am k cm) (L - k) (cm - k)] 22)).drew.heap.size = w1.heap.size + 1 := by show (w1.alloc _).heap.size = _; rw [World.size_alloc]
      have hbx : Box (w1.alloc (.cells #[.slice Am k cm, .slice (partAt Am k cm) (L - k) (cm - k)] 22)).drew w1.heap.size 22 [.slice Am k cm, .slice (partAt Am k cm) (bs.length - k) (cm - k)] := by
        rw [← HL.out]; exact Box.fresh w1 22 _
      generalize (w1.alloc (.cells #[.slice Am k cm, .slice (partAt Am k cm) (L - k) (cm - k)] 22)).drew = wd at *
      have hh := new_two wd w1.heap.size Am cm k 2 bs hbx (by rw [← HL.out]; exact hkl) (reads_below hrdm hbd (Nat.le_refl _)) hnilm (by rw [← HL.out]; exact hcapm) (by omega) (by rw [← HL.out]; omega)
      rw [hszd] at hh
      refine hh.mono ?_
      rintro e w2 ⟨v, h1, h2, h3⟩
      exact ⟨v, h1, h2, h3, hbd.trans (h3.mono (by omega))⟩
    have HNEW := Lib.hid hnew
    have HRDM := Lib.hid hrdm
    have HBLKM := Lib.hid hblkm
    clear hown1 hgr1 hat1 hb1 hlm hrdm hnilm hblkm hnew hk HRA HO HAL hals
    go_wp2_with fail
    go_region_held3 (fun _ => True) (exact trivial) ((go_at_call 10; refine (HNEW.out _ rfl).mono ?_; rintro e w2 ⟨v, rfl, hst, hbd, hb2⟩))
    have hb02 : Below W.heap.size W w2 := HB1.out.trans (hb2.mono hsz1)
    have hal2 : Below w2.heap.size w2 (w2.alloc (.cells #[] 5)) := (Below.refl _ _).alloc (Nat.le_refl _) _
    have HAL2 := Lib.hid hal2
    have hals2 : w2.heap.size ≤ (w2.alloc (.cells #[] 5)).heap.size := hal2.size
    have HO2 := Lib.hid (own_none w2 w2.heap.size (Nat.le_refl _))
    have hsz2 := hb2.size
    have hglt : w1.heap.size + 1 < w2.heap.size := hst.box.lt
    have HRA2 := Lib.hid (reads_below HR.out (hb02.trans (hal2.mono hb02.size)) (Nat.le_refl _))
    have HST2 := Lib.hid hst
    have HB02 := Lib.hid hb02
    have HB2 := Lib.hid hb2
    clear hs1 hs2 hk2 hk3 hk4 hk5 hb02 hal2 hst hbd hb2 HNEW
    go_wp2_with (at_builtin; refine wpList_append_src rfl _ _ rfl w2.heap.size _ 0 [] rfl HO2.out A L c bs rfl ?c1 HRA2.out HA.out ?c2 ?c3 ?_)
    case c1 => exact HL.out.symm
    case c2 => omega
    case c3 => exact hals2
    intro vb w3 hown3 hgr3 hat3
    have hb3 : Below w2.heap.size w2 w3 := HAL2.out.grown hgr3 hals2 (fun k hk => by simp [Value.ownBlock] at hk; omega)
    obtain ⟨Ab, cb, rfl, hlb, hrdb, hnilb, hcapb, hcmb, hblkb⟩ := own_slice hown3
    have hbeg : Laid W w3 (w1.heap.size + 1) v Am Ab bs cb := by
      have hst3 := HST2.out.below hb3
      have hmine : ∀ j, Mine (w1.heap.size + 1) v j → w1.heap.size + 1 ≤ j ∧ j < w2.heap.size := fun j hj => HST2.out.mine_lt j hj
      refine ⟨⟨St.lower hst3 (by omega), hrdb, H8.out, by have := HL.out; omega, hnilb, hcapb, hcmb, fun p hp _ => ⟨fun hm => ?_, (hblkb p hp).2⟩, HB02.out.trans (hb3.mono HB02.out.size)⟩, fun h0 => ?_⟩
      · have := (hmine _ hm).2; have := (hblkb p hp).1; omega
      · obtain ⟨mb, off, e, hlt, _⟩ := HRDM.out h0
        have hof : off = 0 := by
          rcases own_cases (W := w1) (B := W.heap.size) (e := 5) (v := .slice Am bs.length cm) (bs := bs) (by have h := HOWN1.out; rw [HL.out] at h; simpa using h) with ⟨_, h2⟩ | ⟨q, c', cs, h2, _⟩
          · rw [h2] at h0; simp at h0
          · injection h2 with h3 _ _
            rw [e] at h3
            injection h3 with h3
            injection h3 with h4 h5
        subst hof
        subst e
        have hbm := (HBLKM.out _ rfl)
        have hs8 : Some8 w1 mb bs.length := Some8.own (n := bs.length) (c := cm) (B := W.heap.size) (by have h := HOWN1.out; rw [HL.out] at h; simpa using h)
        obtain ⟨cs, hbx, hl, hc2⟩ := hs8
        have hb13 : Below w1.heap.size w1 w3 := HB2.out.trans (hb3.mono hsz2)
        refine ⟨mb, rfl, ⟨cs, hbx.kept (hb13.block _ hbm.2), hl, hc2⟩, hbm.1, fun hm => by have h6 := (hmine _ hm).1; have h7 : mb < w1.heap.size := hbm.2; omega, fun p hp => by have h6 := (hblkb p hp).1; have h7 : mb < w1.heap.size := hbm.2; omega⟩
    have HBG := Lib.hid hbeg
    clear hown3 hgr3 hat3 hb3 hlb hrdb hnilb hblkb hbeg HO2 HRA2 HAL2 hals2 HST2 HB2 HB02 HOWN1 HRDM HBLKM HB1 hsz1 hsz2 HA HR hc
    rw [← HL.out] at hcapb ⊢
    generalize w1.heap.size + 1 = g at *
    go_wp2_with fail
    go_loopw [8, 39] (fun _ i wr => ∃ k : Nat, k ≤ L ∧ i = .int .i64 k ∧ Laid W wr g v Am Ab bs cb) (fun _ i _ => L - (intOf i).toNat)
    case atStart => exact ⟨0, by omega, rfl, HBG.out⟩
    case round =>
      clear HBG
      obtain ⟨k, hk, rfl, hlaid⟩ := hrel
      by_cases hlt : k < L
      · obtain ⟨mb, rfl, ⟨cs, hbx, hcl, hcc⟩, _, _, _⟩ := hlaid.mine (by have := HL.out; omega)
        obtain ⟨x, hx⟩ := hcc k (by have := HL.out; omega)
        have hcell : wr.cell? ⟨mb, k, none⟩ = some (.int .u8 x) := by rw [hbx.cell k, hx]
        have hfr := hbx.frozen k
        have HPUT : Hid (∀ y : Int, Laid W (wr.setCell ⟨mb, k, none⟩ (.int .u8 y)) g v (some ⟨mb, 0, none⟩) Ab bs cb) := fun y => hlaid.put (by have := HL.out; omega) y
        clear hbx hcl hcc hx hlaid
        go_wp2_with fail
        go_roundw
        case rel => exact ⟨k + 1, by omega, by go_num, HPUT.out _⟩
        case measure => simp [intOf]; omega
      · have HTW := Lib.hid hlaid.two
        have HNL : Hid (Ab = none → bs = []) := fun e => (hlaid.two.nil e).1
        clear hlaid
        go_wp2_with fail
        rw [HL.out]
        go_loopw [7, 9, 10, 11, 12, 13, 51] (fun b ok _ _ _ _ i wr => ∃ (k : Nat) (v1 : Value) (A1 : Option Addr) (bs1 : List Int) (c1 : Nat), k ≤ len2 ∧ i = .int .i64 k ∧ b = .slice A1 bs1.length c1 ∧ ok = .bool true ∧ Twin W wr g v1 A1 bs1 c1) (fun _ _ _ _ _ _ i _ => len2 - (intOf i).toNat)
        case atStart => exact ⟨0, _, _, _, _, by omega, rfl, rfl, rfl, HTW.out⟩
        case round =>
          clear HTW HNL H8 HL hcapb hcmb hcapm hcmm hlt hk hkl
          obtain ⟨k, v1, A1, bs1, c1, hk, rfl, rfl, rfl, ht⟩ := hrel
          by_cases hlt : k < len2
          · obtain ⟨p, ok, ow, on, om, AL, lL, cL, z, AB, lB, cB, ys, S, rfl, hpb, hat, hok⟩ := HQ.out k hlt
            obtain ⟨d0, d1, d2, d3, d4, d5, d6⟩ := hat.below ht.bel hpb
            rw [← add_field p (k * 7) 1 (by decide)] at d1
            rw [← add_field p (k * 7) 2 (by decide)] at d2
            rw [← add_field p (k * 7) 3 (by decide)] at d3
            rw [← add_field p (k * 7) 4 (by decide)] at d4
            rw [← add_field p (k * 7) 5 (by decide)] at d5
            rw [← add_field p (k * 7) 6 (by decide)] at d6
            by_cases h30 : k < 30
            · have hba : Below wr.heap.size wr (wr.alloc (.cells #[.int .i64 ok, .int .i64 ow, .int .i64 on, .int .i64 om, .slice AL lL cL, .slice AB lB cB, .string S] 28)) := (Below.refl _ _).alloc (Nat.le_refl _) _
              have HTQ := Lib.hid (ht.below hba)
              have HSTEP : Hid (Calls Try.prog 11 #[.pointer (some ⟨g, 0, none⟩), .slice A1 bs1.length c1, .agg #[.int .i64 ok, .int .i64 ow, .int .i64 on, .int .i64 om, .slice AL lL cL, .slice AB lB cB, .string S]] (wr.alloc (.cells #[.int .i64 ok, .int .i64 ow, .int .i64 on, .int .i64 om, .slice AL lL cL, .slice AB lB cB, .string S] 28)) (Next W g)) := step_any HTQ.out ok ow on om AL lL cL z AB lB cB ys S hok
              clear hat hok hba ht HTQ
              generalize bs1.length = l1 at *
              go_wp2_with fail
              refine HSTEP.out.mono ?_
              rintro e w4 ⟨v4, A4, bs4, c4, rfl, ht4⟩
              have HT4 := Lib.hid ht4
              have HBY := Lib.hid (bytes_any ht4.st ht4.len)
              obtain ⟨l4, hl4⟩ : ∃ l4, l4 = bs4.length := ⟨_, rfl⟩
              have HL4 := Lib.hid hl4
              rw [← hl4]
              have hl4m : l4 ≤ 1048576 := by rw [hl4]; exact ht4.len
              clear ht4 d0 d1 d2 d3 d4 d5 d6 HSTEP hl4
              go_wp2_with fail
              refine HBY.out.mono ?_
              rintro e w5 ⟨_, rfl, gu, rfl, hgu, hbu, hb5⟩
              have ht5 := HT4.out.below hb5
              have HT5 := Lib.hid ht5
              have hcv1 := conv_reads (Box.reads hbu) (fun e => by cases e) bs4.length
              have hcv2 := conv_reads ht5.rd (fun e => (ht5.nil e).1) c4
              have HLEN := Lib.hid (len_any ht5.st)
              have HS8 := Lib.hid (Some8.of hbu)
              rw [← HL4.out] at hcv1 hcv2 HLEN HS8 ⊢
              generalize strOf bs4 = s4 at *
              have hgub : gu < w5.heap.size := hbu.lt
              have HGU : Hid (¬ Mine g v4 gu ∧ W.heap.size ≤ gu ∧ ∀ p, A4 = some p → 0 < bs4.length → p.block ≠ gu) := by
                have h6 := HT4.out.bel.size
                exact ⟨fun hm => by have := (HT4.out.st.mine_lt _ hm).2; omega, by omega, fun p hp h0 => by have := (HT4.out.apart p hp h0).2; omega⟩
              clear hbu hb5 ht5 HBY hgu
              go_wp2_with fail
              refine HLEN.out.mono ?_; rintro e w' ⟨rfl, rfl⟩
              go_wp2_with fail
              go_loopw [13, 88] (fun _ i wr => ∃ j : Nat, j ≤ l4 ∧ i = .int .i64 j ∧ Twin W wr g v4 A4 bs4 c4 ∧ Some8 wr gu l4) (fun _ i _ => l4 - (intOf i).toNat)
              case atStart => exact ⟨0, by omega, rfl, HT5.out, HS8.out⟩
              case round =>
                clear HT5 HS8 hcv1 hcv2 HLEN
                obtain ⟨j, hj, rfl, htj, ⟨cs, hbx, hcl, hcc⟩⟩ := hrel
                by_cases hjl : j < l4
                · obtain ⟨x, hx⟩ := hcc j hjl
                  have hcell : wr.cell? ⟨gu, j, none⟩ = some (.int .u8 x) := by rw [hbx.cell j, hx]
                  have hfr := hbx.frozen j
                  have HPUT : Hid (∀ y : Int, Twin W (wr.setCell ⟨gu, j, none⟩ (.int .u8 y)) g v4 A4 bs4 c4 ∧ Some8 (wr.setCell ⟨gu, j, none⟩ (.int .u8 y)) gu l4) := fun y =>
                    ⟨htj.chg ((Chg.refl (fun q => q = gu) wr).setCell (p := ⟨gu, j, none⟩) (fun _ => rfl) _) HGU.out.1 HGU.out.2.2 HGU.out.2.1, Some8.put ⟨cs, hbx, hcl, hcc⟩ hjl y⟩
                  clear hbx hcl hcc hx htj
                  go_wp2_with fail
                  go_roundw
                  case rel => exact ⟨j + 1, by omega, by go_num, (HPUT.out _).1, (HPUT.out _).2⟩
                  case measure => simp [intOf]; omega
                · have HTE := Lib.hid htj
                  clear htj hbx hcl hcc
                  go_wp2_with fail
                  go_roundw
                  case rel => exact ⟨k + 1, v4, A4, bs4, c4, by omega, by go_num, by rw [HL4.out], rfl, HTE.out⟩
                  case measure => simp [intOf]; omega
            · have hba : Below wr.heap.size wr (wr.alloc (.cells #[.int .i64 ok, .int .i64 ow, .int .i64 on, .int .i64 om, .slice AL lL cL, .slice AB lB cB, .string S] 28)) := (Below.refl _ _).alloc (Nat.le_refl _) _
              have HTE := Lib.hid (ht.below hba)
              clear hat hok hba ht
              go_wp2_with fail
              generalize wr.alloc (.cells #[.int .i64 ok, .int .i64 ow, .int .i64 on, .int .i64 om, .slice AL lL cL, .slice AB lB cB, .string S] 28) = we at *
              clear d0 d1 d2 d3 d4 d5 d6
              have ht9 := HTE.out.below ((Below.refl _ _).drew)
              have HBY := Lib.hid (bytes_any ht9.st ht9.len)
              have hcvb := conv_reads ht9.rd (fun e => (ht9.nil e).1) c1
              have HTD := Lib.hid ht9
              have HRB := Lib.hid ht9.rd
              have HNB : Hid (A1 = none → bs1 = []) := fun e => (ht9.nil e).1
              have hlm : bs1.length ≤ 1048576 := ht9.len
              clear ht9
              obtain ⟨l1, hl1⟩ : ∃ l1, l1 = bs1.length := ⟨_, rfl⟩
              have HL1 := Lib.hid hl1
              rw [← hl1] at hcvb
              rw [← hl1]
              clear hl1
              go_region_with ((first | (go_at_call 12; refine HBY.out.mono ?_; rintro e w8 ⟨_, rfl, gu, rfl, hgu, hbu, hb8⟩; have hcv8 := conv_reads (Box.reads hbu) (fun e => by cases e) bs1.length; have hcvb8 := conv_reads (reads_below HRB.out hb8 (Nat.le_refl _)) HNB.out c1; rw [← HL1.out] at hcv8 hcvb8 ⊢) | (go_at_call 14; refine (awake2_any _).mono ?_; rintro e w9 ⟨rfl, hb9⟩)))
              all_goals
                have h1 := HTD.out.bel
                have h2 := h1.trans (hb8.mono h1.size)
                have HB9 := Lib.hid (h2.trans (hb9.mono h2.size))
                clear h1 h2 hb9 hb8 hgu hbu
                go_wp2_with fail
                go_ret
                exact ⟨rfl, HB9.out⟩
          · have HTE := Lib.hid ht
            clear ht
            go_wp2_with fail
            have ht9 := HTE.out.below ((Below.refl _ _).drew)
            have HBY := Lib.hid (bytes_any ht9.st ht9.len)
            have hcvb := conv_reads ht9.rd (fun e => (ht9.nil e).1) c1
            have HTD := Lib.hid ht9
            have HRB := Lib.hid ht9.rd
            have HNB : Hid (A1 = none → bs1 = []) := fun e => (ht9.nil e).1
            have hlm : bs1.length ≤ 1048576 := ht9.len
            clear ht9
            obtain ⟨l1, hl1⟩ : ∃ l1, l1 = bs1.length := ⟨_, rfl⟩
            have HL1 := Lib.hid hl1
            rw [← hl1] at hcvb
            rw [← hl1]
            clear hl1
            go_region_with ((first | (go_at_call 12; refine HBY.out.mono ?_; rintro e w8 ⟨_, rfl, gu, rfl, hgu, hbu, hb8⟩; have hcv8 := conv_reads (Box.reads hbu) (fun e => by cases e) bs1.length; have hcvb8 := conv_reads (reads_below HRB.out hb8 (Nat.le_refl _)) HNB.out c1; rw [← HL1.out] at hcv8 hcvb8 ⊢) | (go_at_call 14; refine (awake2_any _).mono ?_; rintro e w9 ⟨rfl, hb9⟩)))
            all_goals
              have h1 := HTD.out.bel
              have h2 := h1.trans (hb8.mono h1.size)
              have HB9 := Lib.hid (h2.trans (hb9.mono h2.size))
              clear h1 h2 hb9 hb8 hgu hbu
              go_wp2_with fail
              go_ret
              exact ⟨rfl, HB9.out⟩
theorem law_plays_row (a : Option Addr) (len cap : Nat) (z : List Int) (A2 : Option Addr) (len2 cap2 : Nat) (W : World)
    (h : (a = none ∧ len = 0 ∧ cap = 0 ∧ z = []) ∨ ∃ x, a = some x ∧ len ≤ cap ∧ cap ≤ maxLen ∧ z.length = cap ∧ (∀ i, i < z.length → W.cell? (x.add i) = some (.int .u8 (z.getD i 0))) ∧ ∀ n ∈ z, (Lit.int .u8 n).wf = true)
    (hq : Ops W A2 len2) (hl2 : len2 ≤ maxLen) :
    Calls Try.prog 3 #[.slice a len cap, .slice A2 len2 cap2] W fun e W' => e = .returned (.bool true) ∧ Below W.heap.size W W' := by
  have hl2' : len2 ≤ 9223372036854775807 := by unfold maxLen at hl2; omega
  rcases h with ⟨rfl, rfl, rfl, rfl⟩ | ⟨x, rfl, hl, hm, hz, hcell, hw⟩
  · exact law_plays W none [] 0 0 A2 len2 cap2 (.inl ⟨by omega, rfl⟩) (fun h => absurd h (by simp)) (fun x hx => by simp at hx) (fun _ => ⟨rfl, rfl⟩) (Nat.le_refl _) (by omega) hq hl2'
  · unfold maxLen at hm
    refine law_plays W (some x) (z.take (min len 100)) len cap A2 len2 cap2 ?_ (row_reads hz hcell _ (by omega)) (row_bytes hw _) (fun h => by cases h) hl (by omega) hq hl2'
    rw [List.length_take]
    omega
end Go.Proofs.Ytfcooaafhpoobaa
