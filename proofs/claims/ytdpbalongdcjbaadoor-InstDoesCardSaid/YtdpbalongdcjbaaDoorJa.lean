/- The law by CX: what is called by contract: whether an instruction may be (a symbol), the words (literal), the closing example. -/
import Derived.Test.YtdpbalongdcjbaaDoorId
import Derived.Test.YtdpbalongdcjbaaDoorSb
import Derived.Test.YtdpbalongdcjbaaDoorShelf
import Derived.Test.YtdpbalongdcjbaaDoorCXl
import Derived.KernelRfl
namespace Go.Proofs.YtdpbalongdcjbaaDoor
open Go Go.Proofs Go.RowKit Go.CX
set_option maxRecDepth 100000

noncomputable def ssJ : List SX.So := [.int .i64, .int .i64, .int .i64, .int .i64, .int .i64, .int .i64, .int .i64, .int .i64, .int .i64, .int .i64, .int .i64, .int .i64, .int .i64, .int .i64, .int .i64, .int .i64, .int .i64, .bool, .bool, .int .i64]
theorem ssJ_eq : SX.sortsP g5.ps = ssJ := by kernel_rfl
noncomputable def cxJ : SX.Cx := ⟨Tryd.prog, ssJ ++ [.int .u64], [], [], [(5, [.bool])]⟩
noncomputable def conM : Con := ⟨5, 5, [(true, ssJ)]⟩
noncomputable def isL : List SV → Option Bool
  | [.one ⟨true, .e (.int .i64 op) :: rest⟩, .one ⟨false, [.e (.val (.string s))]⟩] => if Nat.beq rest.length 19 && Nat.ble s.data.toList.length 1000 then some (isW op s.data.toList) else none
  | _ => none
noncomputable def extJ : ExtT := orX (conX cxJ conM) (orX (boolX 6 noArgs) (boolX 26 isL))
noncomputable def extA : ExtT := orX (fieldsX 57) (joinX 49)
set_option maxRecDepth 100000 in
theorem awake_yes : answersE Tryd.prog extA 1000 6 = true := by kernel_rfl
theorem names_ok : namesOk Tryd.prog = true := by kernel_rfl
def Tabs (w : World) : Prop := Lib.TabIs Tryd.prog w "strings.asciiSpace" .u8 Lib.asciiSpaceTab
theorem tabs_same {w w' : World} (h : Tabs w) (hb : ∀ k, k < w.heap.size → w'.heap[k]? = w.heap[k]?) : Tabs w' := by
  unfold Tabs Lib.TabIs World.var? at *
  cases hg : Tryd.prog.globalNamed "strings.asciiSpace" with
  | none => rw [hg] at h; simp at h
  | some g =>
    rw [hg] at h
    simp only [Option.bind_some] at h ⊢
    have hlt : g < w.heap.size := by
      cases hq : w.heap[g]? with
      | none => rw [hq] at h; simp at h
      | some o => exact (Array.getElem?_eq_some_iff.1 hq).1
    rw [hb g hlt]
    exact h
theorem extA_ok {w : World} (h : Tabs w) : ExtOk w (cx0 Tryd.prog) (fun _ _ => []) extA :=
  orX_ok (fieldsX_ok (enters Tryd.func57 (c := Tryd.f57.body.getD .skip) (by kernel_rfl) (by kernel_rfl)) h fun s w hs ha ht => Tryd.strings_Fields s w hs ha ht)
    (joinX_ok (enters Tryd.func49 (c := Tryd.f49.body.getD .skip) (by kernel_rfl) (by kernel_rfl)) fun bk o c xs sep w h1 h2 h3 h4 h5 => Tryd.strings_Join bk o c xs sep w h1 h2 h3 h4 h5)
theorem awake_any (w : World) (h : Tabs w) : Calls Tryd.prog 6 #[] w fun e w' => e = .returned (.bool true) ∧ Below w.heap.size w w' := calls_trueE names_ok awake_yes w (extA_ok h)
theorem mayS : conM.Sound Tryd.prog ph5 := by
  refine ⟨enters Tryd.func5 (c := b5) (by kernel_rfl) (by kernel_rfl), fun w xs fl hp => ?_⟩
  match xs, hp with
  | [x], ⟨f1, f2, hf, hs, hx, h2⟩ =>
    have h2 : f2 = [] := h2
    subst h2
    rw [List.append_nil] at hf
    subst hf
    rw [if_pos rfl] at hx
    subst hx
    rw [← ssJ_eq] at hs
    have h := (en5.snd g5 List.mem_cons_self).does w [.agg fl.toArray] fl ⟨fl, [], by simp, ⟨rfl, hs⟩, rfl⟩ (fun _ hp => by rw [show g5.pre = [] by kernel_rfl] at hp; simp at hp) (fun _ hp => by rw [show g5.fix = [] by kernel_rfl] at hp; simp at hp)
    refine h.mono ?_
    rintro e W' ⟨x, rfl, hx, hb⟩
    have hx : x = (ph5 5 fl).getD 0 undef := hx
    exact ⟨by rw [hx]; rfl, hb⟩
theorem fitJ : ∀ f j args, (cxJ.S f j).has ((ph5 f args).getD j undef) := by
  intro f j args
  by_cases hf : f = 5
  · subst hf
    cases j with
    | zero =>
      have h := en5.fit 5 0 args
      rw [show SX.symS sy5 5 0 = .bool by kernel_rfl] at h
      exact h
    | succ j => exact trivial
  · have : cxJ.S f j = .any := by
      unfold SX.Cx.S SX.symS cxJ
      simp only [SX.lookA]
      rw [show Nat.beq 5 f = false from by rw [Bool.eq_false_iff]; intro h; exact hf (Nat.eq_of_beq_eq_true h).symm]
      rfl
    rw [this]
    trivial
theorem is_lit (svs : List SV) (b : Bool) (ρ : Nat → Value) (φ : Nat → List Value → List Value) (β : Bk) (xs : List Value) (w : World) (h : isL svs = some b) (ha : SX.All2 (SV.is ρ φ β) svs xs) : Calls Tryd.prog 26 xs.toArray w fun e w' => e = .returned (.bool b) ∧ Below w.heap.size w w' := by
  unfold isL at h
  split at h
  · rename_i op rest s
    split at h
    · rename_i hc
      rw [Bool.and_eq_true] at hc
      simp only [Option.some.injEq] at h
      subst h
      match xs, ha with
      | [x, y], ha =>
        obtain ⟨vs, rfl, hv⟩ := ha.1
        have hy : y = .string s := ha.2.1
        subst hy
        have hl : rest.length = 19 := Nat.eq_of_beq_eq_true hc.1
        have hs := Nat.le_of_ble_eq_true hc.2
        match vs, hv with
        | v0 :: vs, hv =>
          have h0 : v0 = .int .i64 op := hv.1
          subst h0
          have hvl := hv.2.length
          rw [hl] at hvl
          match vs, hvl with
          | [r1, r2, r3, r4, r5, r6, r7, r8, r9, r10, r11, r12, r13, r14, r15, r16, r17, r18, r19], _ => exact is_any w op s.data.toList hs r1 r2 r3 r4 r5 r6 r7 r8 r9 r10 r11 r12 r13 r14 r15 r16 r17 r18 r19
    · exact absurd h (by simp)
  · exact absurd h (by simp)
theorem extJ_ok {w : World} (h : Tabs w) : ExtOk w cxJ ph5 extJ := by
  refine orX_ok (conX_ok mayS) (orX_ok (boolX_ok (enters Tryd.func6 (c := Tryd.f6.body.getD .skip) (by kernel_rfl) (by kernel_rfl)) ?_) (boolX_ok (enters Tryd.func26 (c := b26) (by kernel_rfl) (by kernel_rfl)) ?_))
  · intro svs b ρ β xs w' hb F ha hk
    unfold noArgs at hb
    split at hb
    · simp only [Option.some.injEq] at hb
      subst hb
      match xs, ha with
      | [], _ => exact awake_any w' (tabs_same h hk)
    · exact absurd hb (by simp)
  · intro svs b ρ β xs w' hb F ha hk
    exact is_lit svs b ρ _ β xs w' hb ha
noncomputable def argsJ (c : SX.E) : List SV := [.one ⟨true, .e c :: [.e (.var 1), .e (.var 2), .e (.var 3), .e (.var 4), .e (.var 5), .e (.var 6), .e (.var 7), .e (.var 8), .e (.var 9), .e (.var 10), .e (.var 11), .e (.var 12), .e (.var 13), .e (.var 14), .e (.var 15), .e (.var 16), .e (.var 17), .e (.var 18), .e (.var 19)]⟩, .one ⟨false, [.e (.var 20)]⟩]
noncomputable def runJ (c : SX.E) (fs : SX.Facts) : Bool := (tree cxJ extJ 1000 3 (argsJ c) 60 fs).yes
theorem law_run {W : World} (hT : Tabs W) {fl : List Value} (hs : SX.All2 SX.So.has ssJ fl) {t : Int} (ht : 0 ≤ t ∧ t ≤ 18446744073709551615) (c : SX.E) (fs : SX.Facts)
    (hc : c.den (fun i => (fl ++ [Value.int .u64 t]).getD i undef) ph5 = fl.getD 0 undef) (hf : fs.hold (fun i => (fl ++ [Value.int .u64 t]).getD i undef) ph5) (h : runJ c fs = true) :
    Calls Tryd.prog 3 #[.agg fl.toArray, .int .u64 t] W fun e W' => e = .returned (.bool true) ∧ Below W.heap.size W W' := by
  have F : SX.Fits cxJ.Γ cxJ.S (fun i => (fl ++ [Value.int .u64 t]).getD i undef) ph5 := ⟨fun i => by
    have h2 : SX.All2 SX.So.has (ssJ ++ [SX.So.int .u64]) (fl ++ [Value.int .u64 t]) := SX.All2.append hs ⟨⟨t, rfl, ht.1, ht.2⟩, trivial⟩
    exact SX.all2_get h2 i, fitJ⟩
  have hl := hs.length
  have ha : SX.All2 (SV.is (fun i => (fl ++ [Value.int .u64 t]).getD i undef) ph5 fun _ => none) (argsJ c) [.agg fl.toArray, .int .u64 t] := by
    match fl, hl with
    | [v0, v1, v2, v3, v4, v5, v6, v7, v8, v9, v10, v11, v12, v13, v14, v15, v16, v17, v18, v19], _ =>
      refine ⟨⟨_, rfl, hc.symm, ?_⟩, rfl, trivial⟩
      exact ⟨rfl, rfl, rfl, rfl, rfl, rfl, rfl, rfl, rfl, rfl, rfl, rfl, rfl, rfl, rfl, rfl, rfl, rfl, rfl, trivial⟩
  exact tree_sound (cx := cxJ) (w := W) (n := 1000) rfl (namesOk_spec names_ok) (extJ_ok hT) F ha 60 fs hf (Tr.yes_all (w := W) (R := fun e w' => e = .returned (.bool true) ∧ Below W.heap.size W w') (fun w' hb => ⟨rfl, hb⟩) h)
end Go.Proofs.YtdpbalongdcjbaaDoor
