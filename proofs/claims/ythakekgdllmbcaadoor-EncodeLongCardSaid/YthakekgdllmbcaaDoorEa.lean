/- Layer 7: what calls answer at the instruction Nop: runs carried out by the kernel over the laid tables. -/
import Derived.Test.YthakekgdllmbcaaDoorProg
import Derived.Test.YthakekgdllmbcaaDoorCXlt
import Derived.Lib.LaidTab
import Derived.KernelRfl
namespace Go.Proofs.YthakekgdllmbcaaDoor
open Go Go.Proofs Go.RowKit Go.CX Go.SX
def digL : List Int := [0, 0, 1, 2, 3, 4, 5, 6, 7, 0, 0, 0, 0, 0, 6, 0, 0, 1, 2, 3, 4, 5, 6, 7, 0, 0, 0, 1, 4, 5, 7, 0, 0, 0, 0, 0, 0, 4, 2, 0, 0, 0, 0, 0, 0, 0, 0, 0]
def digV : Vw := ⟨0, 388, 2546709746941428629484107882219874736196520619441050559165999261288665087962231091470509256242462284997930262578453150467539532268183382256413025692119027876031656936721911994256522420557549618367567359539460895892305074246743620857362538062675486282378442468493619269088238563047549553911615477366993690555372204739052311072953398929866626697926139435380454322521784931614265503514133084756640834817594246716989720275942668174839903762626446390729341569002639503620232291003130076772468338303493424494993788222205793666545519845131639956068627115723798281843271297449811660172713496448716744407117605750064159186614791570906275325273528329720489583902203774706346385048566928556390590654946164458767558335328993521238448356909383680, []⟩
def sinL : List Int := [0, 0, 0, 0, 0, 0, 0, 0, 0, 0, 0, 4023, 4031, 141, 0, 0, 255, 255, 247, 247, 247, 247, 247, 247, 4015, 105, 0, 0, 0, 0, 0, 135, 4017, 4033, 3904, 3984, 3968, 0, 0, 195, 152, 153, 165, 171, 1027824, 144, 3845, 3851]
def sinV : Vw := ⟨1, 388, 1212831521854070335646684136578999397221380756483959043823120390307835571495203819301805617504682914087805569204614781143800660396220611791577674373721135513331908372062970710467905812188763340949020790793892647934859879049489835919953300039133375478715936691521941834812452919652517233877308002876573634867330909001388922970113295014443423002996354719445558917909737954425623646461510770297120661109829850276692353485003070439577574444120811119989184221761505310163224925651933924845796475616278297437051155417310921015332869079377443254465290616193539800685446461955033308328019428914240583067357995399653868698059163926859579039199865348332126963390916741524215236608662873581234004421928145624444728806123391741343742657763341987268165260895816816754287955106188297658827458423823034071148435456796566866444216144294596521179561149818381295452657207130658775101922691180000262107707115818052494920041627648, []⟩
def vwA : List Vw := [digV, sinV]
/-- The tables stand as they are laid. -/
def TabsA (w : World) : Prop := Lib.TabIs Tryd.prog w "calque/xenc.digits" .i64 digL ∧ Lib.TabIs Tryd.prog w "calque/xenc.singles" .i64 sinL
set_option maxRecDepth 100000 in
theorem TabsA.vw {w : World} (h : TabsA w) : ∀ v ∈ vwA, VwT v w := by
  intro v hv
  simp only [vwA, List.mem_cons, List.not_mem_nil, or_false] at hv
  rcases hv with rfl | rfl
  · exact vwT_of h.1 (by kernel_rfl) rfl rfl (by kernel_rfl)
  · exact vwT_of h.2 (by kernel_rfl) rfl rfl (by kernel_rfl)
theorem names_ok : namesOk Tryd.prog = true := by kernel_rfl
set_option maxRecDepth 100000 in
theorem awake_yes : answersT Tryd.prog vwA ext0 3000 6 = true := by kernel_rfl
theorem awake_any (w : World) (h : TabsA w) : Calls Tryd.prog 6 #[] w fun e w' => e = .returned (.bool true) ∧ Below w.heap.size w w' := calls_trueT names_ok awake_yes w h.vw (ext0_ok _ _ _)
/-- The cells of Nop, of a length. -/
def nopV (n : Int) : List Value := [.int .i64 45, .int .i64 8, .int .i64 0, .int .i64 0, .int .i64 0, .int .i64 0, .int .i64 0, .int .i64 0, .int .i64 0, .int .i64 0, .int .i64 0, .int .i64 0, .int .i64 0, .int .i64 0, .int .i64 0, .int .i64 0, .int .i64 0, .bool false, .bool false, .int .i64 n]
def nopE (x : E) : List E := [.int .i64 45, .int .i64 8, .int .i64 0, .int .i64 0, .int .i64 0, .int .i64 0, .int .i64 0, .int .i64 0, .int .i64 0, .int .i64 0, .int .i64 0, .int .i64 0, .int .i64 0, .int .i64 0, .int .i64 0, .int .i64 0, .int .i64 0, .bool false, .bool false, x]
def formE : List E := [.int .i64 144, .int .i64 0, .int .i64 0, .int .i64 0, .int .i64 0, .int .i64 0, .int .i64 0, .int .i64 0, .int .i64 0, .int .i64 0]
def formV : List Value := [.int .i64 144, .int .i64 0, .int .i64 0, .int .i64 0, .int .i64 0, .int .i64 0, .int .i64 0, .int .i64 0, .int .i64 0, .int .i64 0]
def nop0 : CX.SV := .one ⟨true, (nopE (.int .i64 0)).map .e⟩
def nopX : CX.SV := .one ⟨true, (nopE (.var 0)).map .e⟩
set_option maxRecDepth 100000 in
theorem may_run : valRun Tryd.prog [] [] 1000 15 [nop0] (isVal false [.bool true]) = true := by kernel_rfl
set_option maxRecDepth 100000 in
theorem form_run : valRun Tryd.prog [] vwA 1000 30 [nop0] (isVal true formE) = true := by kernel_rfl
set_option maxRecDepth 100000 in
theorem rex_run : valRun Tryd.prog [] [] 1000 32 [.one ⟨true, formE.map .e⟩, nop0] (isVal false [.int .i64 0]) = true := by kernel_rfl
set_option maxRecDepth 100000 in
theorem jumps_run : valRun Tryd.prog [.int .i64] [] 1000 10 [nopX] (isVal false [.bool false]) = true := by kernel_rfl
set_option maxRecDepth 100000 in
theorem before_run : valRun Tryd.prog [.any] [] 1000 31 [.one ⟨false, [.e (.var 0)]⟩, nop0, .one ⟨false, [.e (.int .i64 0)]⟩] isUnit = true := by kernel_rfl
theorem fitsN : Fits [] (symS []) (fun _ => undef) (fun _ _ => []) := fits0 Tryd.prog
theorem nop0_is {ρ : Nat → Value} {φ : Nat → List Value → List Value} : nop0.is ρ φ (fun _ => none) (.agg (nopV 0).toArray) := ⟨_, rfl, es_is (ρ := ρ) (φ := φ) (nopE (.int .i64 0)) _⟩
theorem may_nop (w : World) : Calls Tryd.prog 15 #[.agg (nopV 0).toArray] w fun e w' => e = .returned (.bool true) ∧ Below w.heap.size w w' :=
  (valRun_any names_ok may_run fitsN (fun v hv => by simp at hv) (xs := [.agg (nopV 0).toArray]) ⟨nop0_is, trivial⟩).mono fun _ _ ⟨⟨_, _, _, hk, he, hv⟩, hb⟩ => ⟨by rw [he, isVal_one hk hv]; rfl, hb⟩
theorem form_nop (w : World) (h : TabsA w) : Calls Tryd.prog 30 #[.agg (nopV 0).toArray] w fun e w' => e = .returned (.agg formV.toArray) ∧ Below w.heap.size w w' :=
  (valRun_any names_ok form_run fitsN (fun v hv => Or.inl (h.vw v hv)) (xs := [.agg (nopV 0).toArray]) ⟨nop0_is, trivial⟩).mono fun _ _ ⟨⟨_, _, _, hk, he, hv⟩, hb⟩ => ⟨by rw [he, isVal_agg hk hv]; rfl, hb⟩
theorem rex_nop (w : World) : Calls Tryd.prog 32 #[.agg formV.toArray, .agg (nopV 0).toArray] w fun e w' => e = .returned (.int .i64 0) ∧ Below w.heap.size w w' :=
  (valRun_any names_ok rex_run fitsN (fun v hv => by simp at hv) (xs := [.agg formV.toArray, .agg (nopV 0).toArray]) ⟨⟨_, rfl, es_is formE _⟩, nop0_is, trivial⟩).mono fun _ _ ⟨⟨_, _, _, hk, he, hv⟩, hb⟩ => ⟨by rw [he, isVal_one hk hv]; rfl, hb⟩
theorem jumps_nop (w : World) (n : Int) (hn : -9223372036854775808 ≤ n ∧ n ≤ 9223372036854775807) : Calls Tryd.prog 10 #[.agg (nopV n).toArray] w fun e w' => e = .returned (.bool false) ∧ Below w.heap.size w w' := by
  have F : Fits [.int .i64] (symS []) (fun _ => .int .i64 n) (fun _ _ => []) := ⟨fun i => by
    cases i with
    | zero => exact ⟨n, rfl, hn.1, hn.2⟩
    | succ i => simp [So.has], fun g j args => by simp [symS, lookA, So.has]⟩
  exact (valRun_any names_ok jumps_run F (fun v hv => by simp at hv) (xs := [.agg (nopV n).toArray]) ⟨⟨_, rfl, es_is (nopE (.var 0)) _⟩, trivial⟩).mono fun _ _ ⟨⟨_, _, _, hk, he, hv⟩, hb⟩ => ⟨by rw [he, isVal_one hk hv]; rfl, hb⟩
theorem before_nop (w : World) (p : Value) : Calls Tryd.prog 31 #[p, .agg (nopV 0).toArray, .int .i64 0] w fun e w' => e = .returned (.tuple #[]) ∧ Below w.heap.size w w' := by
  have F : Fits [.any] (symS []) (fun _ => p) (fun _ _ => []) := ⟨fun i => by cases i <;> simp [So.has], fun g j args => by simp [symS, lookA, So.has]⟩
  exact (valRun_any names_ok before_run F (fun v hv => by simp at hv) (xs := [p, .agg (nopV 0).toArray, .int .i64 0]) ⟨rfl, nop0_is, rfl, trivial⟩).mono fun _ _ ⟨⟨_, _, _, hk, he, hv⟩, hb⟩ => ⟨by rw [he, isUnit_is hk hv], hb⟩
end Go.Proofs.YthakekgdllmbcaaDoor
