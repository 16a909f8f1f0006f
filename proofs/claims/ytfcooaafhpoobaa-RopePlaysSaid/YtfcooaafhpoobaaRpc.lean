/- Walks of layer 2: texts appended to a rope. -/
import Derived.Test.YtfcooaafhpoobaaRpa
import Derived.Test.YtfcooaafhpoobaaShelf
import Derived.Lib.AppendStr
import Derived.Lib.IndexLaws
namespace Go.Proofs.Ytfcooaafhpoobaa
open Go.RowKit Rp
open Cq (U64 I64 isW)

/-- a string's bytes -/
def sB (s : ByteArray) : List Int := s.data.toList.map fun b => ((b.toNat : Nat) : Int)
theorem sB_len (s : ByteArray) : (sB s).length = s.size := by
  unfold sB; rw [List.length_map, Array.length_toList]; rfl
theorem sB_cells (s : ByteArray) : Lib.strCells s = cellsOf (sB s) := by
  unfold Lib.strCells cellsOf sB; rw [List.map_map]; rfl
/-- where a byte 0 stands, or -1 -/
def zI (s : ByteArray) : Int := Lib.indexByte s.data.toList (0 : Int).toNat.toUInt8
theorem zI_ge (s : ByteArray) : -1 ≤ zI s := Lib.indexByte_ge _ _
theorem zI_none {s : ByteArray} (h : zI s = -1) : ∀ x ∈ sB s, x ≠ 0 := by
  intro x hx e
  unfold sB at hx
  obtain ⟨b, hb, rfl⟩ := List.mem_map.1 hx
  obtain ⟨k, hk, e2⟩ := List.getElem_of_mem hb
  have h1 := Lib.indexByte_none (l := s.data.toList) (c := (0 : Int).toNat.toUInt8) h k
  apply h1
  rw [List.getElem?_eq_getElem hk, e2]
  have : b.toNat = 0 := by omega
  have hb0 : b = 0 := UInt8.toNat_inj.1 (by simpa using this)
  rw [hb0]; rfl
theorem zI_some {s : ByteArray} (h : 0 ≤ zI s) : (0 : Int) ∈ sB s := by
  obtain ⟨o, ho⟩ := Int.eq_ofNat_of_zero_le h
  have h1 := (Lib.indexByte_some (l := s.data.toList) (c := (0 : Int).toNat.toUInt8) (o := o) ho).1
  have h2 := List.mem_of_getElem? h1
  unfold sB
  exact List.mem_map.2 ⟨_, h2, rfl⟩
theorem str_at {P : Program} (w : World) (base : Nat) (t u ty e : TypeId) (i : TypeInfo) (ht : P.underlying t = some (.slice e)) (hu : P.underlying u = some .string) (hi : P.info? e = some i) (hz : i.zero = some (.int .u8 0))
    (hsize : i.size = 1) (hby : i.bytes = 1) (v : Value) (n : Nat) (xs : List Value) (hown : w.ownsRow base e 1 v n xs) (s : ByteArray)
    (h63 : n + s.size ≤ maxLen) (hbytes : n + s.size ≤ 140737488355328) (hbase : base ≤ w.heap.size) :
    ∃ v' w', (Builtin.append_ #[t, u] ty #[v, .string s]).run P w = .ok v' w' ∧ w'.ownsRow base e 1 v' (n + s.size) (xs ++ Lib.strCells s) ∧ w.grownBy w' v.ownBlock ∧ (v'.ownBlock = v.ownBlock ∨ v'.ownBlock = some w.heap.size) := by
  obtain ⟨v', w', hr, h2, h3, h4⟩ := Lib.run_append_own_string (P := P) w base t u ty e i ht hu hi hz hsize hby v n xs hown s h63 hbytes hbase
  refine ⟨v', w', hr, h2, h3, ?_⟩
  have hxl : xs.length = n := by simpa using hown.1
  unfold maxLen at h63
  rcases hown.2 with ⟨rfl, rfl⟩ | ⟨g, cap, cur, rfl, hbg, hg, hnc, hcm, hcs, htake⟩
  · by_cases hm : s.size = 0
    · rw [h4.2 ⟨rfl, hm⟩]; exact .inl rfl
    · have hr2 := run_append_nil_string (P := P) w t u ty e i (.int .u8 0) ht hu hi hz s (by omega) (by omega) (by rw [hby]; omega)
      rw [hr2] at hr
      injection hr with e1 e2
      rw [← e1]; exact .inr rfl
  · by_cases hroom : n + s.size ≤ cap
    · have hcs' : cur.size = cap := by simpa using hcs
      have hr2 := Lib.run_append_room_string (P := P) w t u ty e i ht hu hi hsize g n cap cur hg s hroom (by omega)
      rw [hr2] at hr
      injection hr with e1 e2
      rw [← e1]; exact .inl rfl
    · have hr2 := Lib.run_append_grow_string (P := P) w t u ty e i (.int .u8 0) ht hu hi hz ⟨g, 0, none⟩ n cap xs (by rw [hsize]; simpa using hxl) (hown.cells (g := g) rfl) s (by omega) (by omega) (by rw [hby]; exact growslice_fits (by omega) (by omega))
      rw [hr2] at hr
      injection hr with e1 e2
      rw [← e1]; exact .inr rfl
theorem wpList_append_str_at {P : Program} {w : World} {ops : Array Oper} {rest : List Oper} {o : Oper} {a : Act} {Q : Exit → Act → World → Prop} (hgd : o.guard = none) (sl x : Operand) (t u : TypeId)
    (ho : o.op = .call { callee := .builtin .append, args := #[sl, x], argTypes := #[t, u] })
    (base : Nat) (e : TypeId) (i : TypeInfo) (ht : P.underlying t = some (.slice e)) (hu : P.underlying u = some .string) (hi : P.info? e = some i) (hz : i.zero = some (.int .u8 0)) (hsize : i.size = 1) (hby : i.bytes = 1)
    (v : Value) (n : Nat) (xs : List Value) (hs : a.eval sl = v) (hown : w.ownsRow base e 1 v n xs) (s : ByteArray) (hx : a.eval x = .string s)
    (h63 : n + s.size ≤ maxLen) (hbytes : n + s.size ≤ 140737488355328) (hbase : base ≤ w.heap.size)
    (h : ∀ v' w', w'.ownsRow base e 1 v' (n + s.size) (xs ++ Lib.strCells s) → w.grownBy w' v.ownBlock → (v'.ownBlock = v.ownBlock ∨ v'.ownBlock = some w.heap.size) → wpList P ops Q rest (a.put o.dst v') w') :
    wpList P ops Q (o :: rest) a w := by
  refine wpList_plain hgd fun K hK => ?_
  obtain ⟨v', w', hr, h2, h3, h4⟩ := str_at (P := P) w base t u o.type e i ht hu hi hz hsize hby v n xs hown s h63 hbytes hbase
  unfold Oper.wp execOp
  simp only [ho, resolve, invoke, builtin, Sem.run_bind, Sem.run_pure, Result.andThen_ok, List.map_toArray, List.map_cons, List.map_nil, hs, hx, hr]
  exact hK _ _ (h v' w' h2 h3 h4)
/-- a row of n strings -/
def Strs (W : World) (b off n : Nat) (ss : Nat → ByteArray) : Prop := ∀ i, i < n → W.cell? ⟨b, off + i, none⟩ = some (.string (ss i))
/-- a string and a byte 0 behind it -/
def tx (ss : Nat → ByteArray) (i : Nat) : List Int := sB (ss i) ++ [0]
theorem tx_len (ss : Nat → ByteArray) (i : Nat) : (tx ss i).length = (ss i).size + 1 := by unfold tx; rw [List.length_append, sB_len]; rfl
theorem text_arg (g : Nat) (b off n cap : Nat) (ss : Nat → ByteArray) (W : World) (hn : n ≤ 9) (hs : Strs W b off n ss) (hz : ∃ i, i < n ∧ 0 ≤ zI (ss i)) :
    Calls Try.prog 99 #[.pointer (some ⟨g, 0, none⟩), .slice (some ⟨b, off, none⟩) n cap] W fun e W' => e = .returned (.int .i64 2) ∧ W = W' := by
  have HS := Lib.hid hs
  have HZ := Lib.hid hz
  clear hs hz
  go_enter Try.func99, Try.ntmps99
  go_wp2_with fail
  go_loop [6, 16] (fun _ i => ∃ k : Nat, k ≤ n ∧ i = .int .i64 k ∧ ∀ j, j < k → zI (ss j) < 0) (fun _ i => n - (intOf i).toNat)
  case atStart => exact ⟨0, by omega, rfl, fun j hj => by omega⟩
  case round =>
    obtain ⟨k, hk, rfl, hno⟩ := hrel
    have HNO := Lib.hid hno
    clear hno
    have hlt : k < n := by
      obtain ⟨i, hi, hzi⟩ := HZ.out
      by_cases g : k < n
      · exact g
      · have := HNO.out i (by omega); omega
    have hcell := HS.out k hlt
    go_wp2_with fail
    refine (Go.Proofs.Try.strings_IndexByte _ _ _).mono ?_; rintro e w' ⟨rfl, rfl⟩
    have hzk : Lib.indexByte (ss k).data.toList (0 : Int).toNat.toUInt8 = zI (ss k) := rfl
    rw [hzk]
    clear hzk hcell
    generalize hz : zI (ss k) = z at *
    have HZK := Lib.hid hz
    clear hz
    by_cases hz0 : 0 ≤ z
    · go_wp2_with fail
      go_ret
      exact ⟨rfl, rfl⟩
    · have hz1 : z < 0 := by omega
      clear hz0
      go_wp2_with fail
      go_round
      case rel => exact ⟨k + 1, by omega, by go_num, fun j hj => by
        by_cases e : j = k
        · subst e; rw [HZK.out]; exact hz1
        · exact HNO.out j (by omega)⟩
      case measure => simp [intOf]; omega
set_option maxHeartbeats 1000000 in
set_option maxRecDepth 100000 in
theorem text_none (B : Nat) (W : World) (g : Nat) (rest : List Value) (v : Value) (bs : List Int) (hst : St B 5 W g 98 rest v bs) (hbs : bs.length ≤ 1048576)
    (b off n cap : Nat) (ss : Nat → ByteArray) (hn : n ≤ 9) (hs : Strs W b off n ss) (hz : ∀ i, i < n → zI (ss i) < 0) (hl : ∀ i, i < n → (ss i).size ≤ maxLen) (hr : 1048576 - bs.length < (catTo (tx ss) n).length) :
    Calls Try.prog 99 #[.pointer (some ⟨g, 0, none⟩), .slice (some ⟨b, off, none⟩) n cap] W fun e W' => e = .returned (.int .i64 4) ∧ W = W' := by
  obtain ⟨A0, c2, hv, _, _⟩ := own_form hst.own
  have hc0 : W.cell? ⟨g, 0, none⟩ = some (.slice A0 bs.length c2) := by
    have := hst.box.cell 0; rw [hv] at this; simpa using this
  have HS := Lib.hid hs
  have HZ := Lib.hid hz
  have HR := Lib.hid hr
  have HL := Lib.hid hl
  have HRM := Lib.hid (room_any g A0 bs.length c2 W hc0 hbs)
  clear hst hs hz hr hv hl hc0
  go_enter Try.func99, Try.ntmps99
  go_wp2_with fail
  go_loop [6, 16] (fun _ i => ∃ k : Nat, k ≤ n ∧ i = .int .i64 k) (fun _ i => n - (intOf i).toNat)
  case atStart => exact ⟨0, by omega, rfl⟩
  case round =>
    obtain ⟨k, hk, rfl⟩ := hrel
    by_cases hlt : k < n
    · have hcell := HS.out k hlt
      have hz1 := HZ.out k hlt
      go_wp2_with fail
      refine (Go.Proofs.Try.strings_IndexByte _ _ _).mono ?_; rintro e w' ⟨rfl, rfl⟩
      have hzk : Lib.indexByte (ss k).data.toList (0 : Int).toNat.toUInt8 = zI (ss k) := rfl
      rw [hzk]
      clear hzk hcell
      generalize zI (ss k) = z at *
      go_wp2_with fail
      go_round
      case rel => exact ⟨k + 1, by omega, by go_num⟩
      case measure => simp [intOf]; omega
    · go_wp2_with fail
      refine HRM.out.mono ?_; rintro e w' ⟨rfl, rfl⟩
      go_wp2_with fail
      go_loop [7, 9, 30] (fun r _ i => ∃ (k : Nat) (z : Int), k ≤ n ∧ i = .int .i64 k ∧ r = .int .i64 z ∧ z = 1048576 - bs.length - (catTo (tx ss) k).length ∧ 0 ≤ z) (fun _ _ i => n - (intOf i).toNat)
      case atStart => exact ⟨0, _, by omega, rfl, rfl, by simp [catTo], by omega⟩
      case round =>
        obtain ⟨k, z, hk2, rfl, rfl, hzz, hz0⟩ := hrel
        have hlt : k < n := by
          have := HR.out
          by_cases g : k < n
          · exact g
          · obtain rfl : k = n := by omega
            omega
        have hcell := HS.out k hlt
        have hsz := HL.out k hlt
        have htl := catTo_len (tx ss) k
        rw [tx_len] at htl
        unfold maxLen at hsz
        by_cases hle : ((ss k).size : Int) < z
        · have HZ2 : Hid (z - ((ss k).size + 1) = 1048576 - bs.length - (catTo (tx ss) (k + 1)).length) := by
            show z - _ = _
            omega
          have hz9 : z ≤ 1048576 := by omega
          have hz8 : (ss k).size < 1048576 := by omega
          clear hzz htl
          go_wp2_with fail
          go_round
          case rel => exact ⟨k + 1, _, by omega, by go_num, rfl, HZ2.out, by omega⟩
          case measure => simp [intOf]; omega
        · clear hzz htl
          go_wp2_with fail
          go_ret
          exact ⟨rfl, rfl⟩
set_option maxHeartbeats 2000000 in
set_option maxRecDepth 100000 in
theorem text_ok (B : Nat) (W : World) (g : Nat) (rest : List Value) (v : Value) (bs : List Int) (hst : St B 5 W g 98 rest v bs) (hB : B ≤ W.heap.size) (hbs : bs.length ≤ 1048576)
    (b off n cap : Nat) (ss : Nat → ByteArray) (hn : n ≤ 9) (hs : Strs W b off n ss) (hbW : b < W.heap.size) (hnm : ¬ Mine g v b) (hz : ∀ i, i < n → zI (ss i) < 0) (hr : (catTo (tx ss) n).length ≤ 1048576 - bs.length) :
    Calls Try.prog 99 #[.pointer (some ⟨g, 0, none⟩), .slice (some ⟨b, off, none⟩) n cap] W fun e W' => e = .returned (.int .i64 0) ∧ Grew B 5 W W' g 98 rest v (bs ++ catTo (tx ss) n) := by
  obtain ⟨i0, hi, hz0, hz1, hz2⟩ := info_parts infoU8
  have HI := Lib.hid (And.intro hi (And.intro hz0 (And.intro hz1 hz2)))
  obtain ⟨A0, c2, hv, _, _⟩ := own_form hst.own
  have hc0 : W.cell? ⟨g, 0, none⟩ = some (.slice A0 bs.length c2) := by
    have := hst.box.cell 0; rw [hv] at this; simpa using this
  have HS := Lib.hid hs
  have HZ := Lib.hid hz
  have HST := Lib.hid hst
  have HNM := Lib.hid hnm
  have HR : Hid (∀ k, k ≤ n → (catTo (tx ss) k).length ≤ 1048576 - bs.length) := fun k hk => Nat.le_trans (catTo_mono (tx ss) k n hk) hr
  have HRM := Lib.hid (room_any g A0 bs.length c2 W hc0 hbs)
  clear hst hs hz hr hv hc0 hi hz0 hz1 hz2 hnm
  go_enter Try.func99, Try.ntmps99
  go_wp2_with fail
  go_loop [6, 16] (fun _ i => ∃ k : Nat, k ≤ n ∧ i = .int .i64 k) (fun _ i => n - (intOf i).toNat)
  case atStart => exact ⟨0, by omega, rfl⟩
  case round =>
    obtain ⟨k, hk, rfl⟩ := hrel
    by_cases hlt : k < n
    · have hcell := HS.out k hlt
      have hz1 := HZ.out k hlt
      go_wp2_with fail
      refine (Go.Proofs.Try.strings_IndexByte _ _ _).mono ?_; rintro e w' ⟨rfl, rfl⟩
      have hzk : Lib.indexByte (ss k).data.toList (0 : Int).toNat.toUInt8 = zI (ss k) := rfl
      rw [hzk]
      clear hzk hcell
      generalize zI (ss k) = z at *
      go_wp2_with fail
      go_round
      case rel => exact ⟨k + 1, by omega, by go_num⟩
      case measure => simp [intOf]; omega
    · go_wp2_with fail
      refine HRM.out.mono ?_; rintro e w' ⟨rfl, rfl⟩
      go_wp2_with fail
      go_loop [7, 9, 30] (fun r _ i => ∃ (k : Nat) (z : Int), k ≤ n ∧ i = .int .i64 k ∧ r = .int .i64 z ∧ z = 1048576 - bs.length - (catTo (tx ss) k).length) (fun _ _ i => n - (intOf i).toNat)
      case atStart => exact ⟨0, _, by omega, rfl, rfl, by simp [catTo]⟩
      case round =>
        obtain ⟨k, z, hk2, rfl, rfl, hzz⟩ := hrel
        by_cases hlt : k < n
        · have hcell := HS.out k hlt
          have htl := catTo_len (tx ss) k
          have hrk := HR.out (k + 1) (by omega)
          rw [tx_len] at htl
          have hle : ((ss k).size : Int) < z := by omega
          have HZ2 : Hid (z - ((ss k).size + 1) = 1048576 - bs.length - (catTo (tx ss) (k + 1)).length) := by
            show z - _ = _
            omega
          have hz9 : z ≤ 1048576 := by omega
          have hz8 : (ss k).size < 1048576 := by omega
          clear hzz htl hrk
          go_wp2_with fail
          go_round
          case rel => exact ⟨k + 1, _, by omega, by go_num, rfl, HZ2.out⟩
          case measure => simp [intOf]; omega
        · clear hzz
          go_wp2_with fail
          go_loopw [11, 46] (fun _ i wr => ∃ k : Nat, k ≤ n ∧ i = .int .i64 k ∧ Grew B 5 W wr g 98 rest v (bs ++ catTo (tx ss) k)) (fun _ i _ => n - (intOf i).toNat)
          case atStart => exact ⟨0, by omega, rfl, by simpa [catTo] using Grew.refl HST.out⟩
          case round =>
            obtain ⟨k, hk3, rfl, hg⟩ := hrel
            by_cases hlt : k < n
            · obtain ⟨v1, st1, ch1, ow1⟩ := hg
              have hcell := (World.cell?_of_block (a := ⟨b, off + k, none⟩) (ch1.block b hbW HNM.out)).trans (HS.out k hlt)
              obtain ⟨A1, c1, rfl, _, _⟩ := own_form st1.own
              have hc1 := st1.box.cell 0
              have hf1 := st1.box.frozen 0
              simp only [List.getElem?_cons_zero] at hc1
              have htl := catTo_len (tx ss) k
              have hrk := HR.out (k + 1) (by omega)
              rw [tx_len] at htl
              have hsz1 := ch1.size
              have hlk : (bs ++ catTo (tx ss) k).length + (ss k).size + 1 ≤ 1048576 := by rw [List.length_append]; omega
              have hnext : bs ++ catTo (tx ss) (k + 1) = bs ++ catTo (tx ss) k ++ sB (ss k) ++ [0] := by rw [catTo, tx]; simp only [List.append_assoc]
              have HNEXT := Lib.hid hnext
              clear htl hrk hnext
              generalize bs ++ catTo (tx ss) k = bk at *
              have ST1 := Lib.hid st1
              have C1 := Lib.hid ch1
              have O1 := Lib.hid ow1
              have HLK := Lib.hid hlk
              clear st1 ch1 ow1 hlk
              go_wp2_with (at_builtin; refine wpList_append_str_at rfl _ _ 22 9 rfl B 5 i0 Try.underlying22 Try.underlying9 HI.out.1 HI.out.2.1 HI.out.2.2.1 HI.out.2.2.2 _ _ _ rfl ST1.out.own (ss k) rfl ?c1 ?c2 ?c3 ?_)
              case c1 => unfold maxLen; have := HLK.out; omega
              case c2 => have := HLK.out; omega
              case c3 => omega
              intro v2 w2 hown2 hgr2 hat2
              have st1 := ST1.out
              have hbox : Box w2 g 98 (.slice A1 bk.length c1 :: rest) := st1.box.kept (hgr2.block g st1.box.lt (fun e => ownBlock_ne st1.own st1.box st1.ne e.symm))
              obtain ⟨A2, c3, hv2, _, _⟩ : ∃ A c, v2 = .slice A (bk.length + (ss k).size) c ∧ True ∧ True := by
                rw [sB_cells, ← cellsOf_append] at hown2
                have hl : (bk ++ sB (ss k)).length = bk.length + (ss k).size := by rw [List.length_append, sB_len]
                rw [← hl] at hown2 ⊢
                obtain ⟨A, c, e, _, _⟩ := own_form hown2
                exact ⟨A, c, e, trivial, trivial⟩
              subst hv2
              have hc2 := hbox.cell 0
              have hf2 := hbox.frozen 0
              simp only [List.getElem?_cons_zero] at hc2
              have hst2 : Grew B 5 wr (w2.setCell ⟨g, 0, none⟩ (.slice A2 (bk.length + (ss k).size) c3)) g 98 rest (.slice A1 bk.length c1) (bk ++ sB (ss k)) := by
                have hk : ∀ j, (Value.slice A2 (bk.length + (ss k).size) c3).ownBlock = some j → (Value.slice A1 bk.length c1).ownBlock = some j ∨ wr.heap.size ≤ j := by
                  intro j hj
                  rcases hat2 with e | e
                  · exact .inl (e ▸ hj)
                  · right; rw [hj] at e; injection e with e; omega
                have hbx2 := hbox.put 0 (.slice A2 (bk.length + (ss k).size) c3)
                simp only [List.set_cons_zero] at hbx2
                refine ⟨_, ⟨st1.low, hbx2, ?_, st1.ne⟩, ((Chg.refl (Mine g (.slice A1 bk.length c1)) wr).grown hgr2 (fun j e _ => .inr e)).setCell (fun _ => .inl rfl) _, hk⟩
                have hne : (Value.slice A2 (bk.length + (ss k).size) c3).ownBlock ≠ some g := by
                  intro e
                  rcases hk g e with h | h
                  · exact ownBlock_ne st1.own st1.box st1.ne h
                  · have := st1.box.lt; omega
                have ho := ownsRow_setCell_other hown2 (a := ⟨g, 0, none⟩) hne (.slice A2 (bk.length + (ss k).size) c3)
                rw [sB_cells, ← cellsOf_append] at ho
                rw [show (bk ++ sB (ss k)).length = bk.length + (ss k).size from by rw [List.length_append, sB_len]]
                exact ho
              have HG2 := Lib.hid hst2
              clear hst2 hown2 hgr2 hat2 hbox st1
              go_wp2_with fail
              have hsz : (w2.setCell ⟨g, 0, none⟩ (.slice A2 (bk.length + (ss k).size) c3)).heap.size = w2.heap.size := by simp [World.setCell]
              have hbx3 : Box ((w2.setCell ⟨g, 0, none⟩ (.slice A2 (bk.length + (ss k).size) c3)).alloc (.cells #[.int .u8 0] 5)) w2.heap.size 5 [.int .u8 0] := by rw [← hsz]; exact Box.fresh _ _ _
              obtain ⟨v5, st5, ch5, ow5⟩ := HG2.out
              generalize w2.setCell ⟨g, 0, none⟩ (.slice A2 (bk.length + (ss k).size) c3) = ws at *
              have hb3 : Below ws.heap.size ws (ws.alloc (.cells #[.int .u8 0] 5)) := (Below.refl _ _).alloc (Nat.le_refl _) _
              have hch5 := ch5.size
              have hadd := add_any B (ws.alloc (.cells #[.int .u8 0] 5)) g 98 rest v5 (bk ++ sB (ss k)) (st5.below hb3) (by have := hb3.size; omega) (some ⟨w2.heap.size, 0, none⟩) 1 1 [0] rfl (Box.reads hbx3) (fun h => by cases h) (by rw [List.length_append, sB_len]; have := HLK.out; omega)
              refine hadd.mono ?_; rintro e w6 ⟨rfl, hg6⟩
              have hfin : Grew B 5 W w6 g 98 rest v (bs ++ catTo (tx ss) (k + 1)) := by
                rw [HNEXT.out]
                exact Grew.trans C1.out O1.out (Grew.trans ch5 ow5 (Grew.trans (Chg.thenBelow (Chg.refl _ ws) hb3) (fun _ a => .inl a) hg6))
              have HFIN := Lib.hid hfin
              clear hfin hg6 hadd hb3 hch5 st5 ch5 ow5 hbx3 hsz HG2
              go_wp2_with fail
              go_roundw
              case rel => exact ⟨k + 1, by omega, by go_num, HFIN.out⟩
              case measure => simp [intOf]; omega
            · obtain rfl : n = k := by omega
              have HE := Lib.hid hg
              clear hg
              go_wp2_with fail
              go_ret
              exact ⟨rfl, HE.out⟩
end Go.Proofs.Ytfcooaafhpoobaa
