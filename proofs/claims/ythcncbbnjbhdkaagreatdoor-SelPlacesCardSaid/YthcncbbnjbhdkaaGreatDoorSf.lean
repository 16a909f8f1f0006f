/- Layer 23: what the document does at instructions of a form: may it be, what it leaves. -/
import Derived.Test.YthcncbbnjbhdkaaGreatDoorSe
import Derived.Test.YthcncbbnjbhdkaaGreatDoorCXnm
import Derived.KernelRfl
namespace Go.Proofs.YthcncbbnjbhdkaaGreatDoor
open Go Go.Proofs Go.RowKit Go.CX Go.SX Go.CX.Cp
/-- A call is as it was said, by its run. -/
noncomputable def sumR (sy : List (Nat × List So)) (m : Sm) (i N : Nat) : Bool := smR Tryz.prog sy m (callD (cxS Tryz.prog sy m) (litX (cxS Tryz.prog sy m) (runD (cxS Tryz.prog sy m) ext0 10 100) 10 m.f i N) (runD (cxS Tryz.prog sy m) ext0 10 100) 10)
theorem sum_ok {cx : Cx} {φ : Nat → List Value → List Value} {ws : Base} (hP : cx.P = Tryz.prog) {m : Sm} {i N : Nat} (h : sumR cx.sy m i N = true) : ExtOk ws cx φ (smX cx m) := by
  refine smX_ok (call := callD (cxS cx.P cx.sy m) (litX (cxS cx.P cx.sy m) (runD (cxS cx.P cx.sy m) ext0 10 100) 10 m.f i N) (runD (cxS cx.P cx.sy m) ext0 10 100) 10) (fun ws' hws => ?_) (by rw [hP]; exact h)
  have hn : ∀ (f : FuncId) (fn : Func), (cxS cx.P cx.sy m).P.funcs[f]? = some fn → (fn.name == "runtime.NumGoroutine") = false := by
    show ∀ (f : FuncId) (fn : Func), cx.P.funcs[f]? = some fn → (fn.name == "runtime.NumGoroutine") = false
    rw [hP]; exact namesOk_spec names_ok
  have hr : RunOk ws' (cxS cx.P cx.sy m) φ (runD (cxS cx.P cx.sy m) ext0 10 100) := run_ok hn rfl hws (ext0_ok _ _ _) (hk0_ok _ _ _) 100
  exact callI_ok hn rfl hws (litX_ok hn rfl hr) hr
def iE (n : Nat) : E := .int .i64 (Int.ofNat n)
def uE (n : Nat) : E := .int .u64 (Int.ofNat n)
def ssE : List So := [.int .i64, .int .i64, .int .i64, .int .i64, .int .i64, .int .i64, .int .u64, .int .i64, .int .i64, .int .i64, .int .i64]
def regC (v n : Nat) : Facts := [(ixLt (.var v) 0, false), (ixLt (.var v) n, true)]
/-- A form of an instruction: its cells, what is asked of them (the first one is a variable's number), the value, the flags. -/
structure In where
  pat : List (Option E)
  conds : Nat → Facts
  val : E
  fl : List E
  ok : E := .bool true
def mayP (i : In) : Pt := ⟨42, [(true, ssE)], i.pat, i.conds 0, [], false, [(false, [i.ok])]⟩
def psD : List (Bool × List So) := [(true, ssC), (true, ssE), (false, [.int .u64]), (false, [.bool])]
def patD (i : In) : List (Option E) := List.replicate 43 none ++ (i.pat ++ [some (uE 0), some (.bool true)])
def cellsD (i : In) : List E := (List.range 43).map fun k => if Nat.blt k 31 then .ite (.cmp .eql (.var 45) (iE k)) i.val (.var k) else if Nat.blt k 35 then i.fl.getD (k - 31) (.var k) else if Nat.beq k 35 then mkBin .add .u64 (.var 35) (uE 4) else .var k
/-- Done: behind the cells stand what the registers N, M, A and D hold. -/
def doneP (i : In) : Pt := ⟨12, psD, patD i, i.conds 43, [patE (patD i) 46, patE (patD i) 47, patE (patD i) 48, .var 45], true, [(true, cellsD i), (false, [iE 0])]⟩
noncomputable def extM (cx : Cx) : ExtT := conX2 cx ⟨48, 4, [(false, [.int .u64])]⟩
noncomputable def mayT (sy : List (Nat × List So)) (i : In) : Bool := ptR Tryz.prog sy (mayP i) (extM (cxS Tryz.prog sy (smP (mayP i)))) 3000 10 60
noncomputable def extN (cx : Cx) (j : In) : ExtT := orX (ptX cx (mayP j)) (orX (smX cx (rgetM 52)) (orX (smX cx (rsetM 15)) (smX cx (rholdM 51))))
noncomputable def doneT (sy : List (Nat × List So)) (i j : In) : Bool := ptR Tryz.prog sy (doneP i) (extN (cxS Tryz.prog sy (smP (doneP i))) j) 3000 10 60
def ptsX (cx : Cx) : List Pt → ExtT
  | [] => ext0
  | p :: ps => orX (ptX cx p) (ptsX cx ps)
theorem ptsX_ok {cx : Cx} {ws : Base} {φ : Nat → List Value → List Value} : ∀ {ps : List Pt}, (∀ p ∈ ps, ExtOk ws cx φ (ptX cx p)) → ExtOk ws cx φ (ptsX cx ps)
  | [], _ => ext0_ok _ _ _
  | p :: _, h => orX_ok (h p (List.mem_cons_self)) (ptsX_ok fun q hq => h q (List.mem_cons_of_mem _ hq))
def Sym4 (φ : Nat → List Value → List Value) : Prop := ∀ fl, φ 4 fl = phS 4 fl
theorem names_of {cx : Cx} (hP : cx.P = Tryz.prog) : ∀ (f : FuncId) (fn : Func), cx.P.funcs[f]? = some fn → (fn.name == "runtime.NumGoroutine") = false := by rw [hP]; exact namesOk_spec names_ok
theorem may_ext {cx : Cx} {ws : Base} {φ : Nat → List Value → List Value} (hP : cx.P = Tryz.prog) (h4 : Sym4 φ) {i : In} (h : mayT cx.sy i = true) : ExtOk ws cx φ (ptX cx (mayP i)) := by
  unfold mayT at h
  rw [← hP] at h
  exact ptX_ok (names_of hP) (by rw [hP]; exact enters Tryz.func42 (c := Tryz.f42.body.getD .skip) (by kernel_rfl) (by kernel_rfl)) (fun w => renc_ext hP h4) h
theorem rget_sum : sumR syS (rgetM 52) 1 31 = true := by kernel_rfl
theorem rset_sum : sumR syS (rsetM 15) 1 31 = true := by kernel_rfl
theorem rhold_sum : sumR syS (rholdM 51) 1 16 = true := by kernel_rfl
theorem done_ext {cx : Cx} {ws : Base} {φ : Nat → List Value → List Value} (hP : cx.P = Tryz.prog) (hsy : cx.sy = syS) (h4 : Sym4 φ) {i j : In} (hj : mayT syS j = true) (h : doneT syS i j = true) : ExtOk ws cx φ (ptX cx (doneP i)) := by
  unfold doneT at h
  rw [← hP, ← hsy] at h
  refine ptX_ok (names_of hP) (by rw [hP]; exact enters Tryz.func12 (c := Tryz.f12.body.getD .skip) (by kernel_rfl) (by kernel_rfl)) (fun w => ?_) h
  have hs : (cxS cx.P cx.sy (smP (doneP i))).sy = syS := hsy
  exact orX_ok (may_ext (cx := cxS cx.P cx.sy (smP (doneP i))) (i := j) hP h4 (by rw [hs]; exact hj)) (orX_ok (sum_ok (cx := cxS cx.P cx.sy (smP (doneP i))) hP (by rw [hs]; exact rget_sum)) (orX_ok (sum_ok (cx := cxS cx.P cx.sy (smP (doneP i))) hP (by rw [hs]; exact rset_sum)) (sum_ok (cx := cxS cx.P cx.sy (smP (doneP i))) hP (by rw [hs]; exact rhold_sum))))
/-- Sixteen bits at a place. -/
def instW (op : Nat) (s : Option E) : List (Option E) := [some (iE op), some (iE 8), none, some (iE 0), some (iE 0), some (iE 0), none, some (iE 0), some (iE 0), some (iE 0), s]
def condW (o : Nat) : Facts := regC (o + 2) 32 ++ [(.cmp .lss (.var (o + 6)) (uE 65536), true)]
def wideV (s : Nat) : E := mkShf .shl .u64 (.var 49) (uE (16 * s))
def movzI (s : Nat) : In := ⟨instW 16 (some (iE s)), condW, wideV s, [], .bool true⟩
def movnI (s : Nat) : In := ⟨instW 17 (some (iE s)), condW, mkBin .sub .u64 (uE 18446744073709551615) (wideV s), [], .bool true⟩
def movkI (s : Nat) : In := ⟨instW 18 (some (iE s)), condW, mkBin .add .u64 (mkBin .sub .u64 (.var 59) (mkShf .shl .u64 (mkBin .rem .u64 (mkShf .shr .u64 (.var 59) (uE (16 * s))) (uE 65536)) (uE (16 * s)))) (wideV s), [], .bool true⟩
def orriI : In := ⟨[some (iE 14), some (iE 8), none, some (iE 31), some (iE 0), some (iE 0), none, some (iE 0), some (iE 0), some (iE 0), some (iE 0)], fun o => regC (o + 2) 31 ++ [(.app 4 1 (toL [.var (o + 6)]), true)], mkBin .or .u64 (.var 56) (.var 49), [], .app 4 1 (toL [.var 6])⟩
/-- The same, of any place. -/
def wideI (op : Nat) : In := ⟨instW op none, fun o => condW o ++ regC (o + 10) 4, uE 0, [], .bool true⟩
end Go.Proofs.YthcncbbnjbhdkaaGreatDoor

/- Layer 23: the forms of the instructions that make a number: their runs. -/
namespace Go.Proofs.YthcncbbnjbhdkaaGreatDoor
open Go Go.Proofs Go.RowKit Go.CX Go.SX Go.CX.Cp
set_option maxRecDepth 100000
theorem may_16 : mayT syS (wideI 16) = true := by kernel_rfl
theorem may_17 : mayT syS (wideI 17) = true := by kernel_rfl
theorem may_18 : mayT syS (wideI 18) = true := by kernel_rfl
theorem may_14 : mayT syS orriI = true := by kernel_rfl
theorem done_16_0 : doneT syS (movzI 0) (wideI 16) = true := by kernel_rfl
theorem done_16_1 : doneT syS (movzI 1) (wideI 16) = true := by kernel_rfl
theorem done_16_2 : doneT syS (movzI 2) (wideI 16) = true := by kernel_rfl
theorem done_16_3 : doneT syS (movzI 3) (wideI 16) = true := by kernel_rfl
theorem done_17_0 : doneT syS (movnI 0) (wideI 17) = true := by kernel_rfl
theorem done_17_1 : doneT syS (movnI 1) (wideI 17) = true := by kernel_rfl
theorem done_17_2 : doneT syS (movnI 2) (wideI 17) = true := by kernel_rfl
theorem done_17_3 : doneT syS (movnI 3) (wideI 17) = true := by kernel_rfl
theorem done_18_1 : doneT syS (movkI 1) (wideI 18) = true := by kernel_rfl
theorem done_18_2 : doneT syS (movkI 2) (wideI 18) = true := by kernel_rfl
theorem done_18_3 : doneT syS (movkI 3) (wideI 18) = true := by kernel_rfl
theorem done_14 : doneT syS orriI orriI = true := by kernel_rfl
def maysW : List Pt := [mayP (wideI 16), mayP (wideI 17), mayP (wideI 18), mayP orriI]
def donesW : List Pt := [doneP (movzI 0), doneP (movzI 1), doneP (movzI 2), doneP (movzI 3), doneP (movnI 0), doneP (movnI 1), doneP (movnI 2), doneP (movnI 3), doneP (movkI 1), doneP (movkI 2), doneP (movkI 3), doneP orriI]
theorem maysW_ok {cx : Cx} {ws : Base} {φ : Nat → List Value → List Value} (hP : cx.P = Tryz.prog) (hsy : cx.sy = syS) (h4 : Sym4 φ) : ExtOk ws cx φ (ptsX cx maysW) := by
  refine ptsX_ok fun p hp => ?_
  simp only [maysW, List.mem_cons, List.not_mem_nil, or_false] at hp
  rcases hp with rfl | rfl | rfl | rfl
  · exact may_ext hP h4 (hsy ▸ may_16)
  · exact may_ext hP h4 (hsy ▸ may_17)
  · exact may_ext hP h4 (hsy ▸ may_18)
  · exact may_ext hP h4 (hsy ▸ may_14)
theorem donesW_ok {cx : Cx} {ws : Base} {φ : Nat → List Value → List Value} (hP : cx.P = Tryz.prog) (hsy : cx.sy = syS) (h4 : Sym4 φ) : ExtOk ws cx φ (ptsX cx donesW) := by
  refine ptsX_ok fun p hp => ?_
  simp only [donesW, List.mem_cons, List.not_mem_nil, or_false] at hp
  rcases hp with rfl | rfl | rfl | rfl | rfl | rfl | rfl | rfl | rfl | rfl | rfl | rfl
  · exact done_ext hP hsy h4 may_16 done_16_0
  · exact done_ext hP hsy h4 may_16 done_16_1
  · exact done_ext hP hsy h4 may_16 done_16_2
  · exact done_ext hP hsy h4 may_16 done_16_3
  · exact done_ext hP hsy h4 may_17 done_17_0
  · exact done_ext hP hsy h4 may_17 done_17_1
  · exact done_ext hP hsy h4 may_17 done_17_2
  · exact done_ext hP hsy h4 may_17 done_17_3
  · exact done_ext hP hsy h4 may_18 done_18_1
  · exact done_ext hP hsy h4 may_18 done_18_2
  · exact done_ext hP hsy h4 may_18 done_18_3
  · exact done_ext hP hsy h4 may_14 done_14
end Go.Proofs.YthcncbbnjbhdkaaGreatDoor

/- Layer 23: a number in a register: what the law is run with, for each kind of its four parts. -/
namespace Go.Proofs.YthcncbbnjbhdkaaGreatDoor
open Go Go.Proofs Go.RowKit Go.CX Go.SX Go.CX.Cp
def n1 : E := .var 1
def nn : E := mkBin .xor .u64 (.int .u64 18446744073709551615) n1
/-- A part of a number, as the code and as the document has it. -/
def pc (n : E) (k : Nat) : E := mkBin .and .u64 (mkShf .shr .u64 n (iE (16 * k))) (uE 65535)
def pd (k : Nat) : E := mkBin .rem .u64 (mkShf .shr .u64 n1 (uE (16 * k))) (uE 65536)
def z0 (e : E) : E := .cmp .eql e (uE 0)
/-- What is known of a part: 0 it is 0, 1 it is all ones, 2 neither. -/
def partF (k c : Nat) : Facts := [(z0 (pc n1 k), Nat.beq c 0), (z0 (pd k), Nat.beq c 0), (z0 (pc nn k), Nat.beq c 1), (.cmp .eql (pd k) (uE 65535), Nat.beq c 1), (.cmp .eql (pc n1 k) (pd k), true), (.cmp .eql (pc nn k) (mkBin .sub .u64 (uE 65535) (pd k)), true), (.cmp .lss (pc n1 k) (uE 65536), true), (.cmp .lss (pc nn k) (uE 65536), true)]
def vz (k : Nat) : E := mkShf .shl .u64 (pc n1 k) (uE (16 * k))
def vn (k : Nat) : E := mkBin .sub .u64 (uE 18446744073709551615) (mkShf .shl .u64 (pc nn k) (uE (16 * k)))
def putE (old : E) (k : Nat) : E := mkBin .add .u64 (mkBin .sub .u64 old (mkShf .shl .u64 (mkBin .rem .u64 (mkShf .shr .u64 old (uE (16 * k))) (uE 65536)) (uE (16 * k)))) (vz k)
def chainT : List Nat → E
  | [] => vz 0
  | k :: r => r.foldl putE (vz k)
def noz (l : List Nat) : List Nat := (List.range 4).filter fun k => !(Nat.beq (l.getD k 0) 0)
def nof (l : List Nat) : List Nat := (List.range 4).filter fun k => !(Nat.beq (l.getD k 0) 1)
def eqF (l : List Nat) : Facts := (.cmp .eql (chainT (noz l)) n1, true) :: (.cmp .eql (mkBin .or .u64 (uE 0) n1) n1, true) :: (match nof l with
  | [] => [(.cmp .eql (vn 0) n1, true)]
  | [k] => [(.cmp .eql (vn k) n1, true)]
  | _ => [])
def clsF (l : List Nat) : Facts := partF 0 (l.getD 0 0) ++ (partF 1 (l.getD 1 0) ++ (partF 2 (l.getD 2 0) ++ partF 3 (l.getD 3 0)))
def encF (y : Bool) : Facts := [(.app 4 1 (toL [n1]), y)]
def regF : Facts := [(ixLt (.var 0) 0, false), (ixLt (.var 0) 31, true)]
noncomputable def cxC : Cx := ⟨Tryz.prog, [.int .i64, .int .u64] ++ ssC, [], [], syS⟩
noncomputable def cpu2 : CX.SV := .one ⟨true, (List.range 43).map fun i => .e (.var (i + 2))⟩
noncomputable def extC : ExtT := orX (orX (conX2 cxC ⟨45, 4, [(false, [.int .u64])]⟩) (conX2 cxC ⟨48, 4, [(false, [.int .u64])]⟩))
  (orX (trueX 16) (orX (orX (ptsX cxC maysW) (nrmX cxC (ptsX cxC donesW))) (smX cxC (rsetM 15))))
noncomputable def constD (fs : Facts) : Bool := endsC cxC extC 3000 10 3 [.one ⟨false, [.e (.var 0)]⟩, .one ⟨false, [.e n1]⟩, cpu2] 60 fs (sureE cxC sameR 300)
noncomputable def constR (y : Bool) (l : List Nat) : Bool := constD (regF ++ (encF y ++ (clsF l ++ eqF l)))
end Go.Proofs.YthcncbbnjbhdkaaGreatDoor
