import Derived.Test.YtbhhfbenajcinaaNe
namespace Go.Proofs.Ytbhhfbenajcinaa
open Go Go.SX Go.Proofs Go.RowKit
/-! The law's calls -/
theorem mem9 : g9 ∈ ct14 := by
  repeat (first | exact List.mem_cons_self | apply List.mem_cons_of_mem)
theorem mem13 : g13 ∈ ct14 := by
  repeat (first | exact List.mem_cons_self | apply List.mem_cons_of_mem)
theorem mem14 : g14 ∈ ct14 := List.mem_cons_self
theorem dsAw : DS ph14 D9 := DS.keep (DS.keep ds9 (K := 3) (by kernel_rfl) _) (K := 14) (by kernel_rfl) _
def awB : E := .app 9 0 .nil
theorem aw14 : evS cxBd D9 3000 awB [] (varsE 2) [] = true := by kernel_rfl
theorem awake_true : (ph14 9 []).getD 0 undef = .bool true := by
  have F : Fits ssB (symS sy14) (atS ssB []) ph14 := ⟨fun i => coe_has _ _, en14.fit⟩
  have := evS_all (cx := cxBd) (N := 2) F (fun g hg => absurd hg (by simp [cxBd])) dsAw (fun _ hq => by simp at hq) (by kernel_rfl) aw14
  exact this
theorem awake9 (W : World) : Calls Try.prog 9 #[] W fun e W' => e = .returned (.bool true) ∧ Below W.heap.size W W' := by
  have h := (en14.snd g9 mem9).does W [] [] rfl (fun _ hp => absurd hp (by simp [g9])) (fun _ hp => absurd hp (by simp [g9]))
  refine h.mono ?_
  rintro e W' ⟨x, rfl, hx, hb⟩
  have hx : x = (ph14 9 []).getD 0 undef := hx
  rw [awake_true] at hx
  exact ⟨by rw [hx], hb⟩
theorem pk20 : g13.ps = [.sl ssI] ∧ g14.ps = [.sl ssI] := ⟨by
  rw [ssI_eq]
  rfl, by
  rw [ssI_eq]
  rfl⟩
theorem ssI_len : ssI.length = 20 := by kernel_rfl
theorem In20.reads {W : World} {A : Option Addr} {n c : Nat} {vs : List Value} (h : In20 W A n vs) (hnc : n ≤ c) (hn : n ≤ 12) (hc : A = none → c = 0) : readsAll W [.sl ssI] [.slice A n c] [.int .i64 (Int.ofNat n), .tuple vs.toArray] := by
  refine ⟨_, [], (List.append_nil _).symm, ⟨A, n, c, vs, rfl, rfl, by rw [ssI_len]; exact h.len, hnc, by omega, fun i u hu => by rw [ssI_len]; exact h.has i u hu, ?_⟩, rfl⟩
  rcases h.at' with ⟨h1, h2⟩ | ⟨b, off, h1, h2, h3⟩
  · exact .inl ⟨h1, h2, hc h1⟩
  · exact .inr ⟨b, off, h1, h2, h3⟩
theorem In20.take {W : World} {A : Option Addr} {n : Nat} {vs : List Value} (h : In20 W A n vs) {m : Nat} (hm : m ≤ n) : In20 W A m (vs.take (m * 20)) := by
  have hl := h.len
  refine ⟨by rw [List.length_take]; omega, fun i u hu => ?_, ?_⟩
  · rw [List.getElem?_take] at hu
    split at hu
    · exact h.has i u hu
    · simp at hu
  · rcases h.at' with ⟨h1, h2⟩ | ⟨b, off, h1, h2, h3⟩
    · exact .inl ⟨h1, by omega⟩
    · refine .inr ⟨b, off, h1, h2, fun i u hu => ?_⟩
      rw [List.getElem?_take] at hu
      split at hu
      · exact h3 i u hu
      · simp at hu
theorem In20.own {W W0 : World} {A0 : Option Addr} {n m B : Nat} {vs : List Value} {o : Value} (h : In20 W0 A0 n vs) (hm : m ≤ n) (ho : W.ownsRow B 33 20 o m (vs.take (m * 20))) : ∃ A c, o = .slice A m c ∧ m ≤ c ∧ (A = none → c = 0) ∧ In20 W A m (vs.take (m * 20)) := by
  have hh := h.take hm
  rcases ho.2 with ⟨rfl, rfl⟩ | ⟨g, cap, cur, rfl, _, hg, hc, _, hs, ht⟩
  · exact ⟨none, 0, rfl, Nat.le_refl _, fun _ => rfl, ⟨hh.len, hh.has, .inl ⟨rfl, rfl⟩⟩⟩
  · refine ⟨_, cap, rfl, hc, fun e => by simp at e, ⟨hh.len, hh.has, .inr ⟨g, 0, rfl, (Array.getElem?_eq_some_iff.1 hg).1, fun i u hu => ?_⟩⟩⟩
    rw [Nat.zero_add, cell_of_row W g i cur 33 (0, 0) hg]
    rw [← ht, List.getElem?_take] at hu
    split at hu
    · simpa using hu
    · simp at hu
/-- Both answer alike. -/
theorem bounds {vs : List Value} {n : Nat} (hn : n ≤ 12) : ∃ (a0 a1 : Int) (b : Bool), ∀ (W : World) (A : Option Addr) (c : Nat), In20 W A n vs → n ≤ c → (A = none → c = 0) →
    Calls Try.prog 13 #[.slice A n c] W (fun e W' => e = .returned (.tuple #[.agg #[.int .i64 a0, .int .i64 a1], .bool b]) ∧ Below W.heap.size W W') ∧
    Calls Try.prog 14 #[.slice A n c] W (fun e W' => e = .returned (.tuple #[.agg #[.int .i64 a0, .int .i64 a1], .bool b]) ∧ Below W.heap.size W W') := by
  obtain ⟨fl, hfl⟩ : ∃ fl : List Value, fl = [.int .i64 (Int.ofNat n), .tuple vs.toArray] := ⟨_, rfl⟩
  have hs : All2 So.has ssB fl := by
    rw [hfl]
    exact ⟨⟨_, rfl, by simp [lowOf], by simp only [highOf, Int.ofNat_eq_natCast]; omega⟩, trivial, trivial⟩
  have hsame := bound_same hs
  obtain ⟨a0, ha0, _⟩ := (show (So.int .i64).has _ by have := en14.fit 13 0 fl; rwa [show symS sy14 13 0 = .int .i64 by kernel_rfl] at this)
  obtain ⟨a1, ha1, _⟩ := (show (So.int .i64).has _ by have := en14.fit 13 1 fl; rwa [show symS sy14 13 1 = .int .i64 by kernel_rfl] at this)
  obtain ⟨b, hb⟩ := (show So.bool.has _ by have := en14.fit 13 2 fl; rwa [show symS sy14 13 2 = .bool by kernel_rfl] at this)
  refine ⟨a0, a1, b, fun W A c h hnc hc => ?_⟩
  have hr := h.reads hnc hn hc
  rw [← hfl] at hr
  constructor
  · have h1 := (en14.snd g13 mem13).does W [.slice A n c] fl (by rw [pk20.1]; exact hr) (fun _ hp => absurd hp (by simp [g13])) (fun _ hp => absurd hp (by simp [g13]))
    refine h1.mono ?_
    rintro e W' ⟨x, rfl, hx, hbl⟩
    obtain ⟨xs, rfl, hx2⟩ := (show ∃ xs : List Value, x = .tuple xs.toArray ∧ givesAll W W' (ph14 13 fl) 0 [.val true [.int .i64, .int .i64], .val false [.bool]] xs from hx)
    clear hx
    match xs, hx2 with
    | [y, z], ⟨hy, hz, _⟩ =>
      have hy : y = .agg (pick (ph14 13 fl) 0 2).toArray := hy
      have hz : z = (ph14 13 fl).getD 2 undef := hz
      have hp : pick (ph14 13 fl) 0 2 = [.int .i64 a0, .int .i64 a1] := by
        show [(ph14 13 fl).getD 0 undef, (ph14 13 fl).getD 1 undef] = _
        rw [ha0, ha1]
      rw [hp] at hy
      rw [hb] at hz
      exact ⟨by rw [hy, hz], hbl⟩
  · have h1 := (en14.snd g14 mem14).does W [.slice A n c] fl (by rw [pk20.2]; exact hr) (fun _ hp => absurd hp (by simp [g14])) (fun _ hp => absurd hp (by simp [g14]))
    refine h1.mono ?_
    rintro e W' ⟨x, rfl, hx, hbl⟩
    obtain ⟨xs, rfl, hx2⟩ := (show ∃ xs : List Value, x = .tuple xs.toArray ∧ givesAll W W' (ph14 14 fl) 0 [.val true [.int .i64, .int .i64], .val false [.bool]] xs from hx)
    clear hx
    match xs, hx2 with
    | [y, z], ⟨hy, hz, _⟩ =>
      have hy : y = .agg (pick (ph14 14 fl) 0 2).toArray := hy
      have hz : z = (ph14 14 fl).getD 2 undef := hz
      have hp : pick (ph14 14 fl) 0 2 = [.int .i64 a0, .int .i64 a1] := by
        show [(ph14 14 fl).getD 0 undef, (ph14 14 fl).getD 1 undef] = _
        rw [← hsame 0 (by omega), ← hsame 1 (by omega), ha0, ha1]
      rw [hp] at hy
      rw [← hsame 2 (by omega), hb] at hz
      exact ⟨by rw [hy, hz], hbl⟩
end Go.Proofs.Ytbhhfbenajcinaa
