/- Layer 22: the laid tables; its closing example answers true: its run is carried out by the kernel. -/
import Derived.Test.YtbpcidpladnhfaaDoorProg
import Derived.Test.YtbpcidpladnhfaaDoorCXqa
import Derived.KernelRfl
import Derived.Test.YtbpcidpladnhfaaDoorCXcp
namespace Go.Proofs.YtbpcidpladnhfaaDoor
open Go Go.Proofs Go.RowKit Go.CX Go.SX
def pow10L : List Int := [1, 10, 100, 1000, 10000, 100000, 1000000, 10000000, 100000000, 1000000000, 10000000000, 100000000000, 1000000000000, 10000000000000, 100000000000000, 1000000000000000, 10000000000000000, 100000000000000000, 1000000000000000000, 10000000000000000000]
def pow10V : Vw := ⟨0, 163, 11284302696536965525117808974377902259991303490748277851633340419809029354894163539364733534990555824014925834598620091354349452801441542742124132228236141162706766231558880050278751979602102939464204514917749194192222636720534671573617812980308532674542573921166558619044131670562494064101634729320337924814042578427490812296875309011449941339882483440092659151474512738227297462517761, []⟩
def bru32L : List Int := [0, 1, 28, 2, 29, 14, 24, 3, 30, 22, 20, 15, 25, 17, 4, 8, 31, 27, 13, 23, 21, 19, 16, 7, 26, 12, 18, 6, 11, 5, 10, 9]
def bru32V : Vw := ⟨1, 256, 15767175685834183835934298259973079793293177615118965814828510599114482368455335967211043125935992801473127272698435781752722189466411665892914463111412635366163216508243209175876652655245583540379724727697078281533211949827629062877384608316694354886391433315255382322659850039533755858513496519007356648629187903770284344635160431021045398470458870868009405060236885821007376526282235981737147644796957369882704196206444863653574441710277972025879051927117170696362143320019302631975886044796253342304023076326905948190009817108874681439520726598627829285317638791312432170011719706270829763362816, []⟩
def bru64L : List Int := [0, 1, 56, 2, 57, 49, 28, 3, 61, 58, 42, 50, 38, 29, 17, 4, 62, 47, 59, 36, 45, 43, 51, 22, 53, 39, 33, 30, 24, 18, 12, 5, 63, 55, 48, 27, 60, 41, 37, 16, 46, 35, 44, 21, 52, 32, 23, 11, 54, 26, 40, 15, 34, 20, 31, 10, 25, 14, 19, 9, 13, 8, 7, 6]
def bru64V : Vw := ⟨2, 512, 339698608244353742984467933645908204048975764294561783361928321938346870609654264994246834523029969603775189172418431391672198308316550096565398151848851926235425311065581584669528638392482755304312073933111189192203472561965459194686647630553017314562301912289584224464925814564852777495474693836530192714332899146381262412965102889509908010741649094956437865778174231470075945161657663046483674669801511402819501479420001263172674823243335544331556985872267976840699336650794224537276639301650714675441770947691805563116200010607533147745128962561839746893596766312646955848006317712509794321650803817043079960693918101195015118356184582231211689166929832703380930503253050751313640754794264820174815563109552947071384552542372274230151325719569186368671787239312261641632186957272822954901364872439914903038234233398725811602430470737200159059715308379283891767420370885711577272194336182229821445419304008513816439745579219475353354579924534147451944513643039533637939774497001077939837495314930774285733885242054682633414091071800998032554197523520740304101357776073184368030183711610118371279565453035607807938216326314381790282805214246816996157066943212720484388317933472115876938332060029987857175460970496, []⟩
def vwA : List Vw := [pow10V, bru32V, bru64V]
/-- The tables stand as they are laid. -/
def TabsA (w : World) : Prop := Lib.TabIs Tryd.prog w "internal/strconv.uint64pow10" .u64 pow10L ∧ Lib.TabIs Tryd.prog w "math/bits.deBruijn32tab" .u8 bru32L ∧ Lib.TabIs Tryd.prog w "math/bits.deBruijn64tab" .u8 bru64L
set_option maxRecDepth 100000 in
theorem TabsA.vw {w : World} (h : TabsA w) : ∀ v ∈ vwA, VwT v w := by
  obtain ⟨h3, h4, h5⟩ := h
  intro v hv
  simp only [vwA, List.mem_cons, List.not_mem_nil, or_false] at hv
  rcases hv with rfl | rfl | rfl
  · exact vwT_of h3 (by kernel_rfl) rfl rfl (by kernel_rfl)
  · exact vwT_of h4 (by kernel_rfl) rfl rfl (by kernel_rfl)
  · exact vwT_of h5 (by kernel_rfl) rfl rfl (by kernel_rfl)
theorem names_ok : namesOk Tryd.prog = true := by kernel_rfl
set_option maxRecDepth 100000 in
theorem awake_yes : answers Tryd.prog 3000 11 = true := by kernel_rfl
theorem awake22_any (w : World) : Calls Tryd.prog 11 #[] w fun e w' => e = .returned (.bool true) ∧ Below w.heap.size w w' := calls_true names_ok awake_yes w
end Go.Proofs.YtbpcidpladnhfaaDoor

/- Layer 22: the calls that read and write a register, at numbers that are no literals. -/
namespace Go.Proofs.YtbpcidpladnhfaaDoor
open Go Go.Proofs Go.RowKit Go.CX Go.SX Go.CX.Cp
noncomputable def cpuC : CX.SV := .one ⟨true, (List.range 43).map fun i => .e (.var i)⟩
noncomputable def ixX (cx : Cx) (f N : Nat) : ExtT := litX cx (runD cx ext0 10 100) 10 f 1 N
theorem ixX_ok {cx : Cx} {φ : Nat → List Value → List Value} {w : World} (hP : cx.P = Tryd.prog) (hct : cx.ct = []) {f N : Nat} : ExtOk ⟨w, cx.vw⟩ cx φ (ixX cx f N) := by
  have hn : ∀ (f : FuncId) (fn : Func), cx.P.funcs[f]? = some fn → (fn.name == "runtime.NumGoroutine") = false := by rw [hP]; exact namesOk_spec names_ok
  exact litX_ok hn hct (run_ok hn hct rfl (ext0_ok _ _ _) (hk0_ok _ _ _) 100)
/-- A call is as it was said, by its run. -/
noncomputable def sumR (sy : List (Nat × List So)) (m : Sm) (i N : Nat) : Bool := smR Tryd.prog sy m (callD (cxS Tryd.prog sy m) (litX (cxS Tryd.prog sy m) (runD (cxS Tryd.prog sy m) ext0 10 100) 10 m.f i N) (runD (cxS Tryd.prog sy m) ext0 10 100) 10)
theorem sum_ok {cx : Cx} {φ : Nat → List Value → List Value} {w : World} (hP : cx.P = Tryd.prog) {m : Sm} {i N : Nat} (h : sumR cx.sy m i N = true) : ExtOk ⟨w, cx.vw⟩ cx φ (smX cx m) := by
  refine smX_ok (call := callD (cxS cx.P cx.sy m) (litX (cxS cx.P cx.sy m) (runD (cxS cx.P cx.sy m) ext0 10 100) 10 m.f i N) (runD (cxS cx.P cx.sy m) ext0 10 100) 10) (fun ws' hws => ?_) (by rw [hP]; exact h)
  have hn : ∀ (f : FuncId) (fn : Func), (cxS cx.P cx.sy m).P.funcs[f]? = some fn → (fn.name == "runtime.NumGoroutine") = false := by
    show ∀ (f : FuncId) (fn : Func), cx.P.funcs[f]? = some fn → (fn.name == "runtime.NumGoroutine") = false
    rw [hP]; exact namesOk_spec names_ok
  have hr : RunOk ws' (cxS cx.P cx.sy m) φ (runD (cxS cx.P cx.sy m) ext0 10 100) := run_ok hn rfl hws (ext0_ok _ _ _) (hk0_ok _ _ _) 100
  exact callI_ok hn rfl hws (litX_ok hn rfl hr) hr
theorem trueA_ok {cx : Cx} {φ : Nat → List Value → List Value} {w : World} (hP : cx.P = Tryd.prog) : ExtOk ⟨w, cx.vw⟩ cx φ (trueX 11) := by
  refine trueX_ok (by rw [hP]; exact enters Tryd.func11 (c := Tryd.f11.body.getD .skip) (by kernel_rfl) (by kernel_rfl)) fun w' _ => ?_
  rw [hP]
  exact awake22_any w'
def rho (fl : List Value) : Nat → Value := fun i => fl.getD i undef
theorem all2_app {fl fl' : List Value} : ∀ {ss : List So} {ss' : List So}, All2 So.has ss fl → All2 So.has ss' fl' → All2 So.has (ss ++ ss') (fl ++ fl') := by
  intro ss
  induction ss generalizing fl with
  | nil => intro ss' h h'; cases fl with | nil => exact h' | cons _ _ => exact h.elim
  | cons s ss ih =>
    intro ss' h h'
    cases fl with
    | nil => exact h.elim
    | cons v fl => exact ⟨h.1, ih h.2 h'⟩
theorem vars_is {fl gl : List Value} {φ : Nat → List Value → List Value} {β : Bk} : ∀ (cs : List Value) (o : Nat), (∀ i, i < cs.length → rho fl (o + i) = cs.getD i undef) → All2 (CX.SC.is (rho fl) φ β) ((List.range' o cs.length).map fun i => .e (.var i)) cs
  | [], o, _ => trivial
  | c :: cs, o, h => by
    refine ⟨?_, vars_is (gl := gl) cs (o + 1) fun i hi => ?_⟩
    · have := h 0 (by simp)
      exact this.symm
    · have := h (i + 1) (by simp only [List.length_cons]; omega)
      rw [show o + 1 + i = o + (i + 1) by omega, this]; rfl
theorem cpu_is {cs rest : List Value} {φ : Nat → List Value → List Value} {β : Bk} (hs : All2 So.has ssC cs) : cpuC.is (rho (cs ++ rest)) φ β (.agg cs.toArray) := by
  have hl : cs.length = 43 := hs.length.symm
  refine ⟨cs, rfl, ?_⟩
  have := vars_is (gl := cs) (fl := cs ++ rest) (φ := φ) (β := β) cs 0 fun i hi => by
    rw [Nat.zero_add]
    show (cs ++ rest).getD i undef = cs.getD i undef
    rw [List.getD_eq_getElem?_getD, List.getD_eq_getElem?_getD, List.getElem?_append_left hi]
  rw [hl] at this
  rw [List.range_eq_range']
  exact this
end Go.Proofs.YtbpcidpladnhfaaDoor
