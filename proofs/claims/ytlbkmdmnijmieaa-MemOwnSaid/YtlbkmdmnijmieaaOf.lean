/- Layer 9 (memory), the document's own: the bytes of a number, the number of bytes. -/
import Derived.Test.YtlbkmdmnijmieaaOe
namespace Go.Proofs.Ytlbkmdmnijmieaa
open Go Go.RowKit Rp Go.Maps
open Cq (U64 I64 isW)

/-- the number of the first k bytes, the lowest first -/
def val (p : List Int) : Nat → Int
  | 0 => 0
  | k + 1 => val p k + p.getD k 0 * 2 ^ (8 * k)
theorem Bytes8.get {p : List Int} (h : Bytes8 p) (k : Nat) : 0 ≤ p.getD k 0 ∧ p.getD k 0 ≤ 255 := by
  rw [List.getD_eq_getElem?_getD]
  by_cases g : k < p.length
  · rw [List.getElem?_eq_getElem g]; exact h _ (List.getElem_mem g)
  · rw [List.getElem?_eq_none (by omega)]; simp
theorem pow8 (k : Nat) : (2 : Int) ^ (8 * (k + 1)) = 256 * 2 ^ (8 * k) := by
  rw [Nat.mul_succ, Int.pow_add, Int.mul_comm]; rfl
theorem val_lt {p : List Int} (h : Bytes8 p) (k : Nat) : 0 ≤ val p k ∧ val p k < 2 ^ (8 * k) := by
  induction k with
  | zero => simp [val]
  | succ k ih =>
    have hb := h.get k
    have hp : (0 : Int) < 2 ^ (8 * k) := Int.pow_pos (by decide)
    have h1 : 0 ≤ p.getD k 0 * 2 ^ (8 * k) := Int.mul_nonneg hb.1 (by omega)
    have h2 : p.getD k 0 * 2 ^ (8 * k) ≤ 255 * 2 ^ (8 * k) := Int.mul_le_mul_of_nonneg_right hb.2 (by omega)
    rw [pow8, val]; omega
def by8 (v : Int) (i : Nat) : Int := v / 2 ^ (8 * i) % 256
def low (w : Nat) (v : Int) : List Int := (List.range w).map (by8 v)
theorem low_length (w : Nat) (v : Int) : (low w v).length = w := by simp [low]
theorem by8_next (x : Int) (k : Nat) : x / 2 ^ (8 * k) / 256 = x / 2 ^ (8 * (k + 1)) := by
  rw [Int.ediv_ediv_of_nonneg (Int.le_of_lt (Int.pow_pos (by decide))), pow8, Int.mul_comm]
theorem low_succ (k : Nat) (x : Int) : low (k + 1) x = low k x ++ [by8 x k] := by
  unfold low; rw [List.range_succ, List.map_append]; rfl
theorem low_bytes (k : Nat) (x : Int) : Bytes8 (low k x) := by
  intro y hy
  unfold low at hy
  obtain ⟨i, _, rfl⟩ := List.mem_map.1 hy
  unfold by8; omega
set_option maxRecDepth 100000 in
theorem rbytes_any (w : Nat) (hw : w ≤ 8) (x : Int) (hx : U64 x) (W : World) : Calls Try.prog 55 #[.int .i64 w, .int .u64 x] W fun e W' =>
    ∃ v, e = .returned v ∧ W'.ownsRow W.heap.size 5 1 v w (cellsOf (low w x)) ∧ Below W.heap.size W W' := by
  obtain ⟨i0, hi, hz0, hz1, hz2⟩ := info_parts infoU8
  have HI := Lib.hid hi
  have HZ := Lib.hid (And.intro hz0 (And.intro hz1 hz2))
  clear hi hz0 hz1 hz2
  go_enter Try.func55, Try.ntmps55
  go_wp2_with fail
  go_loopw [1, 5, 6] (fun y v i wr => ∃ k : Nat, k ≤ w ∧ i = .int .i64 k ∧ y = .int .u64 (x / 2 ^ (8 * k)) ∧ wr.ownsRow W.heap.size 5 1 v k (cellsOf (low k x)) ∧ Below W.heap.size W wr) (fun _ _ i _ => w - (intOf i).toNat)
  case atStart => exact ⟨0, by omega, rfl, by simp, World.ownsRow_nil _ _ _ _, Below.refl _ _⟩
  case round =>
    obtain ⟨k, hk, rfl, rfl, hown, hb⟩ := hrel
    by_cases hlt : k < w
    · have hy : 0 ≤ x / 2 ^ (8 * k) := Int.ediv_nonneg hx.1 (Int.le_of_lt (Int.pow_pos (by decide)))
      have hyl : x / 2 ^ (8 * k) < 18446744073709551616 := Int.lt_of_le_of_lt (Int.ediv_le_self _ hx.1) hx.2
      have HY := Lib.hid (by8_next x k)
      have HBY : Hid (x / 2 ^ (8 * k) % 256 = by8 x k) := rfl
      have hsz := hb.size
      have HOWN := Lib.hid (hown.alloc (.cells #[.int .u8 (by8 x k)] 5))
      have HB := Lib.hid (hb.alloc hb.size (.cells #[.int .u8 (by8 x k)] 5))
      have HYL := Lib.hid hyl
      clear hown hb hyl
      generalize hq : x / 2 ^ (8 * k) = q at *
      have HQ := Lib.hid hq
      clear hq
      have hq1 : q.tmod 256 % 256 = by8 x k := by rw [Int.tmod_eq_emod_of_nonneg hy]; have := HBY.out; omega
      have hq2 : q % 256 = by8 x k := HBY.out
      have hnew : ∀ j u, ([Value.int .u8 (by8 x k)] : List Value)[j]? = some u → (wr.alloc (.cells #[.int .u8 (by8 x k)] 5)).cell? ((⟨wr.heap.size, 0, none⟩ : Addr).add j) = some u := cell_one_new _ _ _
      have HNEW := Lib.hid hnew
      clear hnew
      go_wp2_with (at_builtin; refine wpList_append_own_at _ rfl _ _ 55 rfl W.heap.size 5 i0 (.int .u8 0) 1 1 Try.underlying55 HI.out HZ.out.1 HZ.out.2.1 HZ.out.2.2 rfl (by decide) _ _ _ rfl HOWN.out ⟨wr.heap.size, 0, none⟩ 1 1 [.int .u8 (by8 x k)] rfl rfl HNEW.out ?c3 ?c4 ?c5 ?c6 ?_)
      case c3 => intro u hu; simp at hu; subst hu; rfl
      case c4 => unfold maxLen; omega
      case c5 => omega
      case c6 => rw [World.size_alloc]; omega
      intro v' w2 hown2 hgrow2 _ hat2
      have hlow : cellsOf (low k x) ++ [Value.int .u8 (by8 x k)] = cellsOf (low (k + 1) x) := by rw [low_succ, cellsOf_append]; rfl
      rw [hlow] at hown2
      have HB2 : Hid (Below W.heap.size W w2) := HB.out.grown hgrow2 (by rw [World.size_alloc]; omega) (fun j hj => (HOWN.out.lt j hj).1)
      obtain ⟨A', c', rfl, _, _⟩ := own_form hown2
      have HO2 := Lib.hid hown2
      clear hown2 hgrow2 hat2 hlow
      go_wp2_with fail
      have hqq : IntKind.u64.wrap (q.tdiv 256) = x / 2 ^ (8 * (k + 1)) := by
        rw [IntWalk.u64_quo q 256 ⟨hy, by have := HYL.out; omega, by omega⟩]; exact HY.out
      go_roundw
      case rel => exact ⟨k + 1, by omega, by go_num, by rw [hqq], HO2.out, HB2.out⟩
      case measure => simp [intOf]; omega
    · have : k = w := by omega
      subst this
      have HO := Lib.hid hown
      have HB := Lib.hid hb
      clear hown hb
      go_wp2_with fail
      go_ret
      exact ⟨_, rfl, HO.out, HB.out⟩
theorem val_front (p : List Int) (k : Nat) : val p (k + 1) = p.getD 0 0 + 256 * val (p.drop 1) k := by
  induction k with
  | zero => simp [val]
  | succ k ih =>
    rw [val, ih, val, pow8]
    have e : (p.drop 1).getD k 0 = p.getD (k + 1) 0 := by
      rw [List.getD_eq_getElem?_getD, List.getD_eq_getElem?_getD, List.getElem?_drop, Nat.add_comm]
    rw [e, Int.mul_add, Int.mul_left_comm 256, Int.add_assoc]
theorem rnum_any (A : Option Addr) (bs : List Int) (c : Nat) (W : World) (hr : Reads W A bs) (h8 : Bytes8 bs) (hn : bs.length ≤ 8) :
    Calls Try.prog 54 #[.slice A bs.length c] W fun e W' => e = .returned (.int .u64 (val bs bs.length)) ∧ W = W' := by
  have HR := Lib.hid hr
  have H8 := Lib.hid h8
  clear hr h8
  obtain ⟨n, hn'⟩ : ∃ n, n = bs.length := ⟨_, rfl⟩
  have HN := Lib.hid hn'
  rw [← hn'] at hn ⊢
  clear hn'
  go_enter Try.func54, Try.ntmps54
  go_wp2_with fail
  go_loop [3, 4] (fun v i => ∃ k : Nat, k ≤ n ∧ i = .int .i64 ((k : Int) - 1) ∧ v = .int .u64 (val (bs.drop k) (n - k))) (fun _ i => (intOf i + 1).toNat)
  case atStart => exact ⟨n, by omega, rfl, by rw [Nat.sub_self]; rfl⟩
  case round =>
    obtain ⟨k, hk, rfl, rfl⟩ := hrel
    by_cases h0 : k = 0
    · subst h0
      go_wp2_with fail
      go_ret
      exact ⟨by simp, rfl⟩
    · obtain ⟨j, rfl⟩ : ∃ j, k = j + 1 := ⟨k - 1, by omega⟩
      rw [show ((j + 1 : Nat) : Int) - 1 = j from by omega]
      have hj : j < n := by omega
      clear hk h0
      obtain ⟨g, off, rfl, _, hc⟩ := HR.out (by have := HN.out; omega)
      have hcj := hc j (by have := HN.out; omega)
      have hb := H8.out.get j
      have hf := val_front (bs.drop j) (n - (j + 1))
      have e1 : (bs.drop j).getD 0 0 = bs.getD j 0 := by rw [List.getD_eq_getElem?_getD, List.getD_eq_getElem?_getD, List.getElem?_drop]; rfl
      rw [e1, List.drop_drop, show n - (j + 1) + 1 = n - j from by omega] at hf
      have hd8 : Bytes8 (bs.drop (j + 1)) := fun x hx => H8.out x (List.mem_of_mem_drop hx)
      have ⟨v0, v1⟩ := val_lt hd8 (n - (j + 1))
      have hp := Cq.pow_le (8 * (n - (j + 1))) (by omega)
      have hp2 := Cq.pow_le (8 * (n - (j + 1) + 1)) (by omega)
      have hp3 := pow8 (n - (j + 1))
      have HF := Lib.hid hf
      have HV1 : Hid (val (bs.drop (j + 1)) (n - (j + 1)) * 256 ≤ 18446744073709551360) := Lib.hid (by omega)
      clear hc hf e1 hd8 hp hp2 hp3 v1
      generalize bs.getD j 0 = y at *
      generalize val (bs.drop (j + 1)) (n - (j + 1)) = u at *
      have hw1 : IntKind.u64.wrap (u * 256) = u * 256 := Cq.wrap_of_u64 ⟨by omega, by have := HV1.out; omega⟩
      have hw2 : IntKind.u64.wrap (u * 256 + y) = u * 256 + y := Cq.wrap_of_u64 ⟨by omega, by have := HV1.out; omega⟩
      go_wp2_with fail
      go_round
      case rel => exact ⟨j, by omega, rfl, by rw [HF.out, show u * 256 + y = y + 256 * u from by omega]⟩
      case measure => simp [intOf]
end Go.Proofs.Ytlbkmdmnijmieaa
