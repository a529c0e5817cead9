/- The functions of layer 30, Og. Conditions: none. -/
import Derived.Test.YtgoifghhcekahaaGreatDoorRows
import Derived.Test.YtgoifghhcekahaaGreatDooreOT
import Derived.Test.YtgoifghhcekahaaGreatDooreQT
import Derived.Test.YtgoifghhcekahaaGreatDooreOD
import Derived.Test.YtgoifghhcekahaaGreatDooreTR
import Derived.Test.YtgoifghhcekahaaGreatDooreOG
import Derived.Test.YtgoifghhcekahaaGreatDooreMS
import Derived.Test.YtgoifghhcekahaaGreatDooreHZ
import Derived.Test.YtgoifghhcekahaaGreatDooreOC
import Derived.Test.YtgoifghhcekahaaGreatDooreVC
import Derived.Test.YtgoifghhcekahaaGreatDooreOM
namespace Go.Proofs.YtgoifghhcekahaaGreatDoor
noncomputable section
open Go Go.RowKit
set_option linter.unusedVariables false
set_option linter.unusedSimpArgs false
set_option maxRecDepth 20000
set_option maxHeartbeats 1600000
abbrev ri : Rp Int := Rp.int .i64
abbrev ca_ := Calls Tryz.prog
abbrev pp (b : Nat) : Value := .pointer (some ⟨b,0,none⟩)
abbrev sy (Y : Nat → Prop) (w0 : World) := Stw ⟨Y,[],w0⟩
abbrev lb_ := List UInt8
theorem nl {α : Type _} {l : List α} : List.Sublist [] l := List.nil_sublist _
theorem sr {α : Type _} {l : List α} : List.Sublist l l := List.Sublist.refl _
theorem sc {α : Type _} {a : α} {l m : List α} (h : List.Sublist l m) : List.Sublist (a :: l) (a :: m) := List.Sublist.cons_cons _ h
theorem wV : type_of% Tryz.underlying25 := Tryz.underlying25
theorem q7 : type_of% Tryz.underlying28 := Tryz.underlying28
theorem OK : type_of% Tryz.underlying31 := Tryz.underlying31
theorem uW : type_of% Tryz.underlying36 := Tryz.underlying36
theorem fJ : type_of% Tryz.underlying39 := Tryz.underlying39
theorem wI : type_of% Tryz.underlying78 := Tryz.underlying78
theorem w9 : type_of% Tryz.underlying82 := Tryz.underlying82
theorem tS : type_of% Tryz.underlying90 := Tryz.underlying90
theorem tC : type_of% Tryz.underlying92 := Tryz.underlying92
theorem Uu : type_of% Tryz.underlying97 := Tryz.underlying97
theorem pN : type_of% Tryz.underlying107 := Tryz.underlying107
theorem WW : type_of% Tryz.underlying118 := Tryz.underlying118
inductive Tr28 : Type where
  | mk : Int → Int → Int → (List Tr28) → Tr28
def Tr28.un : Tr28 → Int × Int × Int × List Tr28
  | .mk a0 a1 a2 a3 => (a0,a1,a2,a3)
abbrev Tr28.of (p : Int × Int × Int × List Tr28) : Tr28 := .mk p.1 p.2.1 p.2.2.1 p.2.2.2
def Tr28.cnt : Tr28 → Nat
  | .mk _ _ _ a3 => 1 + ((a3.map Tr28.cnt).sum)
inductive Tr31 : Type where
  | mk : Int → Tr28 → Int → Int → (List Tr31) → Tr31
def Tr31.un : Tr31 → Int × Tr28 × Int × Int × List Tr31
  | .mk a0 a1 a2 a3 a4 => (a0,a1,a2,a3,a4)
abbrev Tr31.of (p : Int × Tr28 × Int × Int × List Tr31) : Tr31 := .mk p.1 p.2.1 p.2.2.1 p.2.2.2.1 p.2.2.2.2
def Tr31.cnt : Tr31 → Nat
  | .mk _ a1 _ _ a4 => 1 + (a1.cnt + (a4.map Tr31.cnt).sum)
abbrev lA (r : Rp Tr28) : Rp (Int × Int × Int × List Tr28) := (Rp.pair ri (Rp.pair ri (Rp.pair ri (Rp.slice r))))
theorem X4 : Kt lA := (Kt.pair (Kt.const _) (Kt.pair (Kt.const _) (Kt.pair (Kt.const _) Kt.hole)))
abbrev Sf : Rp Tr28 := Rp.knot lA Tr28.un X4
theorem uF {w : World} {A : Nat → Prop} {cs : List Value} {a : Tr28} : Sf.rep w A cs a ↔ (lA Sf).rep w A cs a.un := Gf X4
abbrev l6 (r : Rp Tr31) : Rp (Int × Tr28 × Int × Int × List Tr31) := (Rp.pair ri (Rp.pair Sf (Rp.pair ri (Rp.pair ri (Rp.slice r)))))
theorem bA : Kt l6 := (Kt.pair (Kt.const _) (Kt.pair (Kt.const _) (Kt.pair (Kt.const _) (Kt.pair (Kt.const _) Kt.hole))))
abbrev TU : Rp Tr31 := Rp.knot l6 Tr31.un bA
theorem xG {w : World} {A : Nat → Prop} {cs : List Value} {a : Tr31} : TU.rep w A cs a ↔ (l6 TU).rep w A cs a.un := Gf bA
inductive Tr36 : Type where
  | mk : Int → Int → Int → (List Tr36) → Tr36
def Tr36.un : Tr36 → Int × Int × Int × List Tr36
  | .mk a0 a1 a2 a3 => (a0,a1,a2,a3)
abbrev Tr36.of (p : Int × Int × Int × List Tr36) : Tr36 := .mk p.1 p.2.1 p.2.2.1 p.2.2.2
def Tr36.cnt : Tr36 → Nat
  | .mk _ _ _ a3 => 1 + ((a3.map Tr36.cnt).sum)
abbrev mI (r : Rp Tr36) : Rp (Int × Int × Int × List Tr36) := (Rp.pair ri (Rp.pair ri (Rp.pair ri (Rp.slice r))))
theorem ZQ : Kt mI := (Kt.pair (Kt.const _) (Kt.pair (Kt.const _) (Kt.pair (Kt.const _) Kt.hole)))
abbrev KE : Rp Tr36 := Rp.knot mI Tr36.un ZQ
theorem vB {w : World} {A : Nat → Prop} {cs : List Value} {a : Tr36} : KE.rep w A cs a ↔ (mI KE).rep w A cs a.un := Gf ZQ
inductive Tr39 : Type where
  | mk : Int → Tr36 → Int → Int → (List Tr39) → Tr39
def Tr39.un : Tr39 → Int × Tr36 × Int × Int × List Tr39
  | .mk a0 a1 a2 a3 a4 => (a0,a1,a2,a3,a4)
abbrev Tr39.of (p : Int × Tr36 × Int × Int × List Tr39) : Tr39 := .mk p.1 p.2.1 p.2.2.1 p.2.2.2.1 p.2.2.2.2
abbrev f28 (x : Tr28) : Tr28 := Tr28.of (x.un.1,x.un.2.1,x.un.2.2.1,x.un.2.2.2)
abbrev f36 (x : Tr36) : Tr36 := Tr36.of (x.un.1,x.un.2.1,x.un.2.2.1,x.un.2.2.2)
def Tr39.cnt : Tr39 → Nat
  | .mk _ a1 _ _ a4 => 1 + (a1.cnt + (a4.map Tr39.cnt).sum)
abbrev mA (r : Rp Tr39) : Rp (Int × Tr36 × Int × Int × List Tr39) := (Rp.pair ri (Rp.pair KE (Rp.pair ri (Rp.pair ri (Rp.slice r)))))
theorem eG : Kt mA := (Kt.pair (Kt.const _) (Kt.pair (Kt.const _) (Kt.pair (Kt.const _) (Kt.pair (Kt.const _) Kt.hole))))
abbrev KG : Rp Tr39 := Rp.knot mA Tr39.un eG
theorem yP {w : World} {A : Nat → Prop} {cs : List Value} {a : Tr39} : KG.rep w A cs a ↔ (mA KG).rep w A cs a.un := Gf eG
abbrev sO : Rp (Int × Int × Int × Int × Int × Int) := (Rp.pair ri (Rp.pair ri (Rp.pair ri (Rp.pair ri (Rp.pair ri ri)))))
abbrev xC : Rp (Int × Int) := (Rp.pair ri ri)
abbrev QT : Rp (Int × Int) := (Rp.pair ri ri)
abbrev tB : Rp (Int × Int × Int × Int) := (Rp.pair ri (Rp.pair ri (Rp.pair ri ri)))
abbrev OE : Rp (Int × (Int × Int × Int × Int)) := (Rp.pair ri tB)
theorem Tr36.re_eq (x : Tr36) : f36 x = x := by cases x; rfl
theorem Tr39.re_eq (x : Tr39) : Tr39.of (x.un.1,x.un.2.1,x.un.2.2.1,x.un.2.2.2.1,x.un.2.2.2.2) = x := by cases x; rfl
theorem Tr28.re_eq (x : Tr28) : f28 x = x := by cases x; rfl
theorem Tr31.re_eq (x : Tr31) : Tr31.of (x.un.1,x.un.2.1,x.un.2.2.1,x.un.2.2.2.1,x.un.2.2.2.2) = x := by cases x; rfl
def zY : Tt := ([(25,[(0,false,1),(1,false,1),(2,false,1)]),(28,[(0,false,1),(1,false,1),(2,false,1),(3,false,1)]),(31,[(0,false,1),(1,true,4),(5,false,1),(6,false,1),(7,false,1)]),(36,[(0,false,1),(1,false,1),(2,false,1),(3,false,1)]),(39,[(0,false,1),(1,true,4),(5,false,1),(6,false,1),(7,false,1)]),(78,[(0,false,1),(1,false,1),(2,false,1),(3,false,1),(4,false,1),(5,false,1)]),(82,[(0,false,1),(1,false,1)]),(90,[(0,false,1),(1,false,1),(2,true,4)]),(92,[(0,false,1)]),(97,[(0,false,1),(1,true,4)]),(107,[(0,false,1)]),(118,[(0,false,1),(1,false,1)])],[(3,false,1),(22,false,1),(23,false,1),(25,true,3),(26,false,1),(28,true,4),(29,false,1),(31,true,8),(34,false,1),(36,true,4),(37,false,1),(39,true,8),(54,true,4),(78,true,6),(82,true,2),(90,true,6),(92,true,1),(97,true,5),(107,true,1),(118,true,2),(177,false,1)])
theorem tk : TtOk Tryz.prog zY := ⟨by kernel_rfl,by kernel_rfl⟩
abbrev Ht : U := (.int .i64)
abbrev cS : U := (.pr Ht (.pr Ht (.pr Ht (.pr Ht Ht))))
abbrev ZL : U := (.pr Ht (.pr (.sl (.pr Ht cS)) (.sl (.pr Ht Ht))))
abbrev lL : U := (.pr Ht (.pr Ht (.pr Ht Ht)))
abbrev TP : U := (.tr 0)
abbrev Yw : U := (.pr Ht cS)
abbrev D6 : GK × List CK := (.b false,[.d true Ht])
abbrev ID : GK × List CK := (.b false,[.d false .bool])
abbrev IP : GK × List CK := (.b false,[.d false Ht])
abbrev Xv : GK × List CK := (.b false,[.d true (.fn 60)])
abbrev Ll : GK × List CK := (.b true,[.d true TP])
abbrev L4 : GK × List CK := (.b false,[.o 3 Ht])
abbrev QI : GK × List CK := (.b false,[.d true (.sl Ht)])
abbrev Ra : GK × List CK := (.b false,[.d true (.sl TP)])
abbrev RG : GK × List CK := (.b true,[.d true (.tr 1)])
abbrev PY : GK × List CK := (.b false,[.o 97 cS])
abbrev Vg : GK × List CK := (.b false,[.d false .str])
abbrev VO : GK × List CK := (.b true,[.d true (.tr 3)])
abbrev VZ : GK × List CK := (.b true,[.d true (.tr 2)])
abbrev X2 : GK × List CK := (.b false,[.d true (.sl cS)])
abbrev Yf : GK × List CK := (.b true,[.d false (.tr 1)])
abbrev AG : List CK := [.d false Ht]
abbrev EK : List CK := [.d false .bool]
abbrev Hz : List CK := [.o 3 Ht]
abbrev IU : List CK := [.o 97 cS]
abbrev Sq : Type := Int × (Int × Int × Int × Int)
def teC : Nat → Type | 0 => Tr36 | 1 => Tr39 | 2 => Tr28 | 3 => Tr31 | _ => Unit
def teR : ∀ i,Rp (teC i) | 0 => KE | 1 => KG | 2 => Sf | 3 => TU | _ + 4 => Rp.unit
def teU : Nat → U | 0 => (.pr (.int .i64) (.pr (.int .i64) (.pr (.int .i64) (.sl (.tr 0))))) | 1 => (.pr (.int .i64) (.pr (.tr 0) (.pr (.int .i64) (.pr (.int .i64) (.sl (.tr 1)))))) | 2 => (.pr (.int .i64) (.pr (.int .i64) (.pr (.int .i64) (.sl (.tr 2))))) | 3 => (.pr (.int .i64) (.pr (.tr 2) (.pr (.int .i64) (.pr (.int .i64) (.sl (.tr 3)))))) | _ => .unit
def te : TE := ⟨teC,teR,teU,fun i => match i with | 0 => Tr36.un | 1 => Tr39.un | 2 => Tr28.un | 3 => Tr31.un | _ + 4 => fun x => x,fun i => match i with | 0 => Tr36.of | 1 => Tr39.of | 2 => Tr28.of | 3 => Tr31.of | _ + 4 => fun x => x,
  fun i x => match i with | 0 => rfl | 1 => rfl | 2 => rfl | 3 => rfl | _ + 4 => rfl,fun i w A cs a => match i with | 0 => Gf ZQ | 1 => Gf eG | 2 => Gf X4 | 3 => Gf bA | _ + 4 => Iff.rfl,Gk,Gk.go⟩
abbrev Cn_ := Con te Tryz.prog
def fN : Tb := ⟨zY,[(22,78,(.pr (.int .i64) (.pr (.int .i64) (.pr (.int .i64) (.pr (.int .i64) (.pr (.int .i64) (.int .i64)))))),48),(23,82,(.pr (.int .i64) (.int .i64)),16),(26,28,(.tr 2),48),(29,31,(.tr 3),96),(34,36,(.tr 0),48),(37,39,(.tr 1),96),(63,3,(.int .i64),8),(67,97,(.pr (.int .i64) (.pr (.int .i64) (.pr (.int .i64) (.pr (.int .i64) (.int .i64))))),40),(112,9,.str,16),(115,118,(.pr (.int .i64) (.int .i64)),16)],[(2,[.int .i64 0]),(3,[.int .i64 0]),(4,[.bool (.lit false)]),(5,[.int .u8 0]),(9,[.str []]),(22,[.nil]),(23,[.nil]),(25,[.int .i64 0,.nil,.nil]),(26,[.nil]),(28,[.int .i64 0,.int .i64 0,.int .i64 0,.nil]),(29,[.nil]),(31,[.int .i64 0,.int .i64 0,.int .i64 0,.int .i64 0,.nil,.int .i64 0,.int .i64 0,.nil]),(34,[.nil]),(36,[.int .i64 0,.int .i64 0,.int .i64 0,.nil]),(37,[.nil]),(39,[.int .i64 0,.int .i64 0,.int .i64 0,.int .i64 0,.nil,.int .i64 0,.int .i64 0,.nil]),(41,[.int .i64 0]),(54,[.int .i64 0,.int .i64 0,.int .i64 0,.int .i64 0]),(63,[.nil]),(67,[.nil]),(78,[.int .i64 0,.int .i64 0,.int .i64 0,.int .i64 0,.int .i64 0,.int .i64 0]),(82,[.int .i64 0,.int .i64 0]),(90,[.int .i64 0,.int .i64 0,.int .i64 0,.int .i64 0,.int .i64 0,.int .i64 0]),(92,[.int .i64 0]),(97,[.int .i64 0,.int .i64 0,.int .i64 0,.int .i64 0,.int .i64 0]),(107,[.int .i64 0]),(112,[.nil]),(115,[.nil]),(118,[.int .i64 0,.int .i64 0]),(134,[.int .u64 0]),(157,[.int .i64 0]),(166,[.int .u32 0]),(168,[.int .u64 0]),(177,[.int .u64 0])],[(2,.i64),(3,.i64),(5,.u8),(41,.i64),(134,.u64),(157,.i64),(166,.u32),(168,.u64),(177,.u64)],[(9,())],[(25,[.int .i64 0,.nil,.nil],[(0,1),(1,1),(2,1)]),(28,[.int .i64 0,.int .i64 0,.int .i64 0,.nil],[(0,1),(1,1),(2,1),(3,1)]),(31,[.int .i64 0,.int .i64 0,.int .i64 0,.int .i64 0,.nil,.int .i64 0,.int .i64 0,.nil],[(0,1),(1,4),(5,1),(6,1),(7,1)]),(36,[.int .i64 0,.int .i64 0,.int .i64 0,.nil],[(0,1),(1,1),(2,1),(3,1)]),(39,[.int .i64 0,.int .i64 0,.int .i64 0,.int .i64 0,.nil,.int .i64 0,.int .i64 0,.nil],[(0,1),(1,4),(5,1),(6,1),(7,1)]),(78,[.int .i64 0,.int .i64 0,.int .i64 0,.int .i64 0,.int .i64 0,.int .i64 0],[(0,1),(1,1),(2,1),(3,1),(4,1),(5,1)]),(82,[.int .i64 0,.int .i64 0],[(0,1),(1,1)]),(90,[.int .i64 0,.int .i64 0,.int .i64 0,.int .i64 0,.int .i64 0,.int .i64 0],[(0,1),(1,1),(2,4)]),(92,[.int .i64 0],[(0,1)]),(97,[.int .i64 0,.int .i64 0,.int .i64 0,.int .i64 0,.int .i64 0],[(0,1),(1,4)]),(107,[.int .i64 0],[(0,1)]),(118,[.int .i64 0,.int .i64 0],[(0,1),(1,1)])]⟩
theorem MOx : Tryz.prog.follows .mixedOrders = true := by kernel_rfl
theorem Dz : TbOk te Tryz.prog fN := ⟨MOx,⟨by kernel_rfl,by kernel_rfl⟩,by kernel_rfl,by kernel_rfl,by kernel_rfl,⟨⟨fun _ _ _ => ⟨⟨.agg #[Jint 0,.slice none 0 0,.slice none 0 0],by kernel_rfl,rfl⟩,⟨_,wV,fun w => by kernel_rfl⟩⟩,rfl⟩,⟨⟨fun _ _ _ => ⟨⟨.agg #[Jint 0,Jint 0,Jint 0,.slice none 0 0],by kernel_rfl,rfl⟩,⟨_,q7,fun w => by kernel_rfl⟩⟩,rfl⟩,⟨⟨fun _ _ _ => ⟨⟨.agg #[Jint 0,Jint 0,Jint 0,Jint 0,.slice none 0 0,Jint 0,Jint 0,.slice none 0 0],by kernel_rfl,rfl⟩,⟨_,OK,fun w => by kernel_rfl⟩⟩,rfl⟩,⟨⟨fun _ _ _ => ⟨⟨.agg #[Jint 0,Jint 0,Jint 0,.slice none 0 0],by kernel_rfl,rfl⟩,⟨_,uW,fun w => by kernel_rfl⟩⟩,rfl⟩,⟨⟨fun _ _ _ => ⟨⟨.agg #[Jint 0,Jint 0,Jint 0,Jint 0,.slice none 0 0,Jint 0,Jint 0,.slice none 0 0],by kernel_rfl,rfl⟩,⟨_,fJ,fun w => by kernel_rfl⟩⟩,rfl⟩,⟨⟨fun _ _ _ => ⟨⟨.agg #[Jint 0,Jint 0,Jint 0,Jint 0,Jint 0,Jint 0],by kernel_rfl,rfl⟩,⟨_,wI,fun w => by kernel_rfl⟩⟩,rfl⟩,⟨⟨fun _ _ _ => ⟨⟨.agg #[Jint 0,Jint 0],by kernel_rfl,rfl⟩,⟨_,w9,fun w => by kernel_rfl⟩⟩,rfl⟩,⟨⟨fun _ _ _ => ⟨⟨.agg #[Jint 0,Jint 0,Jint 0,Jint 0,Jint 0,Jint 0],by kernel_rfl,rfl⟩,⟨_,tS,fun w => by kernel_rfl⟩⟩,rfl⟩,⟨⟨fun _ _ _ => ⟨⟨.agg #[Jint 0],by kernel_rfl,rfl⟩,⟨_,tC,fun w => by kernel_rfl⟩⟩,rfl⟩,⟨⟨fun _ _ _ => ⟨⟨.agg #[Jint 0,Jint 0,Jint 0,Jint 0,Jint 0],by kernel_rfl,rfl⟩,⟨_,Uu,fun w => by kernel_rfl⟩⟩,rfl⟩,⟨⟨fun _ _ _ => ⟨⟨.agg #[Jint 0],by kernel_rfl,rfl⟩,⟨_,pN,fun w => by kernel_rfl⟩⟩,rfl⟩,⟨⟨fun _ _ _ => ⟨⟨.agg #[Jint 0,Jint 0],by kernel_rfl,rfl⟩,⟨_,WW,fun w => by kernel_rfl⟩⟩,rfl⟩,trivial⟩⟩⟩⟩⟩⟩⟩⟩⟩⟩⟩⟩,X3.mem ⟨⟨Jint 0,by kernel_rfl,fun _ _ _ => rfl,rfl⟩,⟨⟨Jint 0,by kernel_rfl,fun _ _ _ => rfl,rfl⟩,⟨⟨.bool false,by kernel_rfl,fun _ _ _ => rfl,rfl⟩,⟨⟨.int .u8 0,by kernel_rfl,fun _ _ _ => rfl,rfl⟩,⟨⟨.string (bs ([] : lb_)),by kernel_rfl,fun _ _ _ => rfl,rfl⟩,⟨⟨.slice none 0 0,by kernel_rfl,fun _ _ _ => rfl,rfl⟩,⟨⟨.slice none 0 0,by kernel_rfl,fun _ _ _ => rfl,rfl⟩,⟨⟨.agg #[Jint 0,.slice none 0 0,.slice none 0 0],by kernel_rfl,fun _ _ _ => rfl,rfl⟩,⟨⟨.slice none 0 0,by kernel_rfl,fun _ _ _ => rfl,rfl⟩,⟨⟨.agg #[Jint 0,Jint 0,Jint 0,.slice none 0 0],by kernel_rfl,fun _ _ _ => rfl,rfl⟩,⟨⟨.slice none 0 0,by kernel_rfl,fun _ _ _ => rfl,rfl⟩,⟨⟨.agg #[Jint 0,Jint 0,Jint 0,Jint 0,.slice none 0 0,Jint 0,Jint 0,.slice none 0 0],by kernel_rfl,fun _ _ _ => rfl,rfl⟩,⟨⟨.slice none 0 0,by kernel_rfl,fun _ _ _ => rfl,rfl⟩,⟨⟨.agg #[Jint 0,Jint 0,Jint 0,.slice none 0 0],by kernel_rfl,fun _ _ _ => rfl,rfl⟩,⟨⟨.slice none 0 0,by kernel_rfl,fun _ _ _ => rfl,rfl⟩,⟨⟨.agg #[Jint 0,Jint 0,Jint 0,Jint 0,.slice none 0 0,Jint 0,Jint 0,.slice none 0 0],by kernel_rfl,fun _ _ _ => rfl,rfl⟩,⟨⟨Jint 0,by kernel_rfl,fun _ _ _ => rfl,rfl⟩,⟨⟨.agg #[Jint 0,Jint 0,Jint 0,Jint 0],by kernel_rfl,fun _ _ _ => rfl,rfl⟩,⟨⟨.slice none 0 0,by kernel_rfl,fun _ _ _ => rfl,rfl⟩,⟨⟨.slice none 0 0,by kernel_rfl,fun _ _ _ => rfl,rfl⟩,⟨⟨.agg #[Jint 0,Jint 0,Jint 0,Jint 0,Jint 0,Jint 0],by kernel_rfl,fun _ _ _ => rfl,rfl⟩,⟨⟨.agg #[Jint 0,Jint 0],by kernel_rfl,fun _ _ _ => rfl,rfl⟩,⟨⟨.agg #[Jint 0,Jint 0,Jint 0,Jint 0,Jint 0,Jint 0],by kernel_rfl,fun _ _ _ => rfl,rfl⟩,⟨⟨.agg #[Jint 0],by kernel_rfl,fun _ _ _ => rfl,rfl⟩,⟨⟨.agg #[Jint 0,Jint 0,Jint 0,Jint 0,Jint 0],by kernel_rfl,fun _ _ _ => rfl,rfl⟩,⟨⟨.agg #[Jint 0],by kernel_rfl,fun _ _ _ => rfl,rfl⟩,⟨⟨.slice none 0 0,by kernel_rfl,fun _ _ _ => rfl,rfl⟩,⟨⟨.slice none 0 0,by kernel_rfl,fun _ _ _ => rfl,rfl⟩,⟨⟨.agg #[Jint 0,Jint 0],by kernel_rfl,fun _ _ _ => rfl,rfl⟩,⟨⟨.int .u64 0,by kernel_rfl,fun _ _ _ => rfl,rfl⟩,⟨⟨Jint 0,by kernel_rfl,fun _ _ _ => rfl,rfl⟩,⟨⟨.int .u32 0,by kernel_rfl,fun _ _ _ => rfl,rfl⟩,⟨⟨.int .u64 0,by kernel_rfl,fun _ _ _ => rfl,rfl⟩,⟨⟨.int .u64 0,by kernel_rfl,fun _ _ _ => rfl,rfl⟩,trivial⟩⟩⟩⟩⟩⟩⟩⟩⟩⟩⟩⟩⟩⟩⟩⟩⟩⟩⟩⟩⟩⟩⟩⟩⟩⟩⟩⟩⟩⟩⟩⟩⟩⟩⟩
def jE : Sh := [D6]
def g9 : Sh := [IP]
def oH : Sh := [D6]
def pE : Sh := [IP]
def gM : Sh := [VZ]
def kS : Sh := [ID]
abbrev K47 (g : TT te.c (Dy gM []) → Option (TT te.c (H4 gM kS [] false))) : Cn_ := ⟨gM,kS,[],false,g,none⟩
def fI : Sh := [VZ]
def mW : Sh := [IP]
abbrev K48 (g : TT te.c (Dy fI []) → Option (TT te.c (H4 fI mW [] false))) : Cn_ := ⟨fI,mW,[],false,g,none⟩
def d8 : Sh := [VZ]
def m8 : Sh := [IP]
abbrev K49 (g : TT te.c (Dy d8 []) → Option (TT te.c (H4 d8 m8 [] false))) : Cn_ := ⟨d8,m8,[],false,g,none⟩
def fZ : Sh := [VZ,VZ]
def mY : Sh := [ID]
abbrev K23 (g : TT te.c (Dy fZ []) → Option (TT te.c (H4 fZ mY [] false))) : Cn_ := ⟨fZ,mY,[],false,g,none⟩
def mP : Sh := [VO]
def rD : Sh := [ID]
abbrev K43 (g : TT te.c (Dy mP []) → Option (TT te.c (H4 mP rD [] false))) : Cn_ := ⟨mP,rD,[],false,g,none⟩
def dU : Sh := [VO]
def mT : Sh := [IP]
abbrev K44 (g : TT te.c (Dy dU []) → Option (TT te.c (H4 dU mT [] false))) : Cn_ := ⟨dU,mT,[],false,g,none⟩
def fG : Sh := [VO]
def jW : Sh := [IP]
abbrev K33 (g : TT te.c (Dy fG []) → Option (TT te.c (H4 fG jW [] false))) : Cn_ := ⟨fG,jW,[],false,g,none⟩
def o8 : Sh := [D6]
def pV : Sh := [IP]
def eU : Sh := [VO]
def lR : Sh := [IP]
abbrev K45 (g : TT te.c (Dy eU []) → Option (TT te.c (H4 eU lR [] false))) : Cn_ := ⟨eU,lR,[],false,g,none⟩
def p7 : Sh := [(.b false,[.d true .bool])]
def pG : Sh := [(.b true,[.d false TP])]
def XD : Sh := [Ll,D6]
def fP : Sh := [(.b true,[.d false TP])]
abbrev zI (g : TT te.c (Dy XD []) → Option (TT te.c (H4 XD fP [] false))) : Cn_ := ⟨XD,fP,[],false,g,none⟩
def gN : Sh := [Yf,D6]
def kG : Sh := [Yf]
abbrev K18 (g : TT te.c (Dy gN []) → Option (TT te.c (H4 gN kG [] false))) : Cn_ := ⟨gN,kG,[],false,g,none⟩
def iR : Sh := [D6]
def iM : Sh := [Vg]
def Yk : Sh := [Ll]
def eI : Sh := [Vg]
abbrev zD (g : TT te.c (Dy Yk []) → Option (TT te.c (H4 Yk eI [] false))) : Cn_ := ⟨Yk,eI,[],false,g,none⟩
def n6 : Sh := [D6]
def rY : Sh := [Vg]
def Yd : Sh := [RG]
def gE : Sh := [Vg]
abbrev z7 (g : TT te.c (Dy Yd []) → Option (TT te.c (H4 Yd gE [] false))) : Cn_ := ⟨Yd,gE,[],false,g,none⟩
def eT : Sh := [Ll,D6]
def mL : Sh := [L4]
abbrev K55 (g : TT te.c (Dy eT []) → Option (TT te.c (H4 eT mL [] false))) : Cn_ := ⟨eT,mL,[],false,g,none⟩
def iI : Sh := [D6,D6]
def gW : Sh := [ID]
def eA : Sh := [L4,D6,D6,D6]
def j8 : Sh := []
abbrev K92 (g : TT te.c (Dy eA []) → Option (TT te.c (H4 eA j8 [] true))) : Cn_ := ⟨eA,j8,[],true,g,none⟩
def xS : Sh := [L4]
def tZ : Sh := [L4]
def f6 : Sh := [RG,D6]
def lT : Sh := [L4]
abbrev K66 (g : TT te.c (Dy f6 []) → Option (TT te.c (H4 f6 lT [] false))) : Cn_ := ⟨f6,lT,[],false,g,none⟩
def vG : Sh := [(.b true,[.d true ZL])]
def tU : Sh := [ID]
def Si : Sh := [Ll,Ll]
def Xa : Sh := [ID]
abbrev pT (g : TT te.c (Dy Si []) → Option (TT te.c (H4 Si Xa [] false))) : Cn_ := ⟨Si,Xa,[],false,g,none⟩
def c9 : Sh := [(.p,[]),Ll,D6]
def jV : Sh := [ID]
abbrev K54 (g : TT te.c (Dy c9 [(true,AG)]) → Option (TT te.c (H4 c9 jV [(true,AG)] false))) : Cn_ := ⟨c9,jV,[(true,AG)],false,g,none⟩
def Wj : Sh := [Ll]
def Zk : Sh := [IP]
abbrev xM (g : TT te.c (Dy Wj []) → Option (TT te.c (H4 Wj Zk [] false))) : Cn_ := ⟨Wj,Zk,[],false,g,none⟩
def fQ : Sh := [(.p,[]),RG,D6]
def mF : Sh := [ID]
abbrev K64 (g : TT te.c (Dy fQ [(true,AG)]) → Option (TT te.c (H4 fQ mF [(true,AG)] false))) : Cn_ := ⟨fQ,mF,[(true,AG)],false,g,none⟩
def eN : Sh := [RG]
def kQ : Sh := [IP]
abbrev K65 (g : TT te.c (Dy eN []) → Option (TT te.c (H4 eN kQ [] false))) : Cn_ := ⟨eN,kQ,[],false,g,none⟩
def gC : Sh := [VZ]
def kB : Sh := [(.b true,[.d false TP])]
abbrev K21 (g : TT te.c (Dy gC []) → Option (TT te.c (H4 gC kB [] false))) : Cn_ := ⟨gC,kB,[],false,g,none⟩
def xE : Sh := [VO]
def z8 : Sh := [Yf]
abbrev K8 (g : TT te.c (Dy xE []) → Option (TT te.c (H4 xE z8 [] false))) : Cn_ := ⟨xE,z8,[],false,g,none⟩
def p8 : Sh := [(.b true,[.d true lL]),D6]
def qH : Sh := [IP]
def Ns : Sh := [(.b true,[.d true Yw]),Ll]
def UN : Sh := [ID]
abbrev nQ (g : TT te.c (Dy Ns []) → Option (TT te.c (H4 Ns UN [] false))) : Cn_ := ⟨Ns,UN,[],false,g,none⟩
def pH : Sh := [(.b true,[.d true lL]),D6,D6]
def rS : Sh := [(.b true,[.d false lL])]
def pJ : Sh := [D6,D6]
def r7 : Sh := [IP]
def tV : Sh := [(.b true,[.d true cS]),(.b true,[.d true cS])]
def xK : Sh := [IP]
def gS : Sh := [PY,D6,D6,D6,Xv]
def lI : Sh := []
abbrev K98 (g : TT te.c (Dy gS []) → Option (TT te.c (H4 gS lI [] true))) : Cn_ := ⟨gS,lI,[],true,g,none⟩
def wW : Sh := [Yf,D6,D6,(.b true,[.d true lL])]
def vI : Sh := [PY]
def vO : Sh := [X2,X2]
def wT : Sh := [ID]
def eO : Sh := [D6]
def fW : Sh := [Vg]
abbrev jQ : Cn_ := ⟨eO,fW,[],false,fun x => QV x,none⟩
theorem Zo : KO jQ 69 := KO.of ⟨fun args w => Br Tryz.func69 rfl (by decide) args w⟩ rfl (fun _ => rfl) (fun _ => rfl) rfl (fun _ => rfl) (fun _ => rfl) (fun _ => rfl) (fun _ => rfl) fun Y w0 x r g H hg hk => (lC Y w0  x r H hk).mono fun e w' h => ⟨(),h.1,Stw.ofB h.2⟩
def fE : Sh := [(.b false,[.d true (.sl .str)]),(.b false,[.d true .str])]
def dQ : Sh := [Vg]
abbrev kE : Cn_ := ⟨fE,dQ,[],false,fun x => Kv x.1 x.2,none⟩
theorem bH : KO kE 70 := KO.of ⟨fun args w => Br Tryz.func70 rfl (by decide) args w⟩ rfl (fun _ => rfl) (fun _ => rfl) rfl (fun _ => rfl) (fun _ => rfl) (fun _ => rfl) (fun _ => rfl) fun Y w0 x r g H hg hk => (jO Y w0 g.1 x.1 x.2 r H hg.1).mono fun e w' h => ⟨(),h.1,Stw.ofB h.2⟩
abbrev rV : Rp (Int × Int × Int × (Value × List Tr28)) := (Rp.pair ri (Rp.pair ri (Rp.pair ri (Rp.vsl Sf))))
abbrev vP (p : Int × Int × Int × (Value × List Tr28)) : Tr28 := (Tr28.of (p.1,p.2.1,p.2.2.1,p.2.2.2.2))
theorem XQ : Ex Sf rV vP := (Ex.knot X4 (of := Tr28.of) (fun _ => rfl) (fun x => by cases x; rfl) (Ex.pair Ex.rfl' (Ex.pair Ex.rfl' (Ex.pair Ex.rfl' Ex.sliceF))))
abbrev dZ : Rp (Int × (Int × Int × Int × (Value × List Tr28)) × Int × Int × (Value × List Tr31)) := (Rp.pair ri (Rp.pair rV (Rp.pair ri (Rp.pair ri (Rp.vsl TU)))))
abbrev tQ (p : Int × (Int × Int × Int × (Value × List Tr28)) × Int × Int × (Value × List Tr31)) : Tr31 := (Tr31.of (p.1,(Tr28.of (p.2.1.1,p.2.1.2.1,p.2.1.2.2.1,p.2.1.2.2.2.2)),p.2.2.1,p.2.2.2.1,p.2.2.2.2.2))
theorem c8 : Ex TU dZ tQ := (Ex.knot bA (of := Tr31.of) (fun _ => rfl) (fun x => by cases x; rfl) (Ex.pair Ex.rfl' (Ex.pair (Ex.knot X4 (of := Tr28.of) (fun _ => rfl) (fun x => by cases x; rfl) (Ex.pair Ex.rfl' (Ex.pair Ex.rfl' (Ex.pair Ex.rfl' Ex.sliceF)))) (Ex.pair Ex.rfl' (Ex.pair Ex.rfl' Ex.sliceF)))))
theorem zZ : Ty Tryz.prog 31 true 8 := ⟨by kernel_rfl,by kernel_rfl⟩
theorem T29 : Ty Tryz.prog 29 false 1 := ⟨by kernel_rfl,by kernel_rfl⟩
theorem T3 : Ty Tryz.prog 3 false 1 := ⟨by kernel_rfl,by kernel_rfl⟩
theorem zG : Ty Tryz.prog 28 true 4 := ⟨by kernel_rfl,by kernel_rfl⟩
theorem MO : Tryz.prog.follows .mixedOrders = true := by kernel_rfl
def Ks (p0 : Int) : Int := (if p0 = 2 then 15 else (if (decide (p0 = 0) || (decide (p0 = 1) || decide (p0 = 3))) = true then 255 else 0))
noncomputable def uM : Code := (Tryz.f109.body).getD .skip
def pL : Ct := (.q (.q (.s (.j (.bl [14]) .d .d) .d)))
abbrev nW : Cn_ := ⟨jE,g9,[],false,fun x => some (Ks x),some ⟨fun x => Ks x,fun _ => rfl⟩⟩
theorem yY (x : Int) : @Eq (Option Int) (dF te fN ([] : Gy te Tryz.prog) 15 uM pL jE g9 [] false [.tmp 2] x).den (some (Ks x)) := by simp only [Ks,apply_ite (some : Int → _)]; kernel_rfl
theorem uD : KO (nW) 109 := dK Dz Bc Tryz.func109 (by kernel_rfl) Tryz.ntmps109 rfl rfl rfl (by kernel_rfl) yY
def Df (p0 : Int) : Int := (if (decide (p0 = 4) || decide (p0 = 5)) = true then 7 else (Ks p0))
noncomputable def b82 : Code := (Tryz.f82.body).getD .skip
def xY : Ct := (.q (.s (.j (.bl [8]) .d .d) .d))
abbrev K82 : Cn_ := ⟨oH,pE,[],false,fun x => some (Df x),some ⟨fun x => Df x,fun _ => rfl⟩⟩
theorem v82 (x : Int) : @Eq (Option Int) (dF te fN ([(109,nW)] : Gy te Tryz.prog) 11 b82 xY oH pE [] false [.tmp 2] x).den (some (Df x)) := by simp only [Df,apply_ite (some : Int → _)]; kernel_rfl
theorem zB : KO (K82) 82 := dK Dz (Az uD Bc) Tryz.func82 (by kernel_rfl) Tryz.ntmps82 rfl rfl rfl (by kernel_rfl) v82
theorem Yn (Y : Nat → Prop) (w0 : World)  (p0 : Int) (r : Int) (H : Df p0 = r) (hG : Gk [] w0) :
    ca_ 82 #[Jint p0] w0 fun e w' => e = .returned (Jint r) ∧ Below w0.heap.size w0 w' := zB.outP (Y := Y) (x := p0) (congrArg some H) rfl rfl rfl rfl rfl () trivial rfl hG fun _ => rfl
theorem H82 : Has Tryz.prog 82 := JR Tryz.func82
def E2 (fRec : Tr28 → Option Bool) (p0 : Tr28) : Int → Option (Int ⊕ (Unit ⊕ Bool))
  | x1 => (if x1 < (p0.un.2.2.2.length : Int) then (ix p0.un.2.2.2 x1).bind fun x2 => (fRec x2).bind fun x3 => (if (!x3) = true then some (.inr (.inr false)) else some (.inl (Ae (x1 + 1)))) else some (.inr (.inl ())))
def EZ (fRec : Tr28 → Option Bool) (p0 : Tr28) : Option Bool := (if (bif decide (p0.un.1 ≠ 3) then (decide (p0.un.2.1 ≠ 0) || (decide (p0.un.2.2.1 ≠ 0) || (decide (p0.un.1 < 1) || decide (6 < p0.un.1)))) else (decide (p0.un.1 < 1) || decide (6 < p0.un.1))) = true then some false else (if (decide (p0.un.1 = 3) && (decide (p0.un.2.1 < 0) || (decide (5 < p0.un.2.1) || (decide (p0.un.2.2.1 < 0) || decide ((Df p0.un.2.1) < p0.un.2.2.1))))) = true then some false else (if (bif decide (p0.un.1 ≤ 3) then (decide ((p0.un.2.2.2.length : Int) ≠ 0) || (bif decide (p0.un.1 = 4) then (decide ((p0.un.2.2.2.length : Int) ≠ 1) || (decide (5 ≤ p0.un.1) && (decide ((p0.un.2.2.2.length : Int) < 2) || decide (8 < (p0.un.2.2.2.length : Int))))) else (decide (5 ≤ p0.un.1) && (decide ((p0.un.2.2.2.length : Int) < 2) || decide (8 < (p0.un.2.2.2.length : Int)))))) else (bif decide (p0.un.1 = 4) then (decide ((p0.un.2.2.2.length : Int) ≠ 1) || (decide (5 ≤ p0.un.1) && (decide ((p0.un.2.2.2.length : Int) < 2) || decide (8 < (p0.un.2.2.2.length : Int))))) else (decide (5 ≤ p0.un.1) && (decide ((p0.un.2.2.2.length : Int) < 2) || decide (8 < (p0.un.2.2.2.length : Int)))))) = true then some false else Hc (Ac (E2 fRec p0) 0) fun _ => some true)))
def Fc : Nat → Tr28 → Option Bool
  | 0 => fun _ => none
  | n + 1 => EZ (Fc n)
def Nr (p0 : Tr28) : Option Bool := GY fun n => Fc n p0
def Ku (fRec : Tr28 → Option Bool) (p0 : Tr28) : Int → Option (Int ⊕ (Unit ⊕ Bool))
  | x1 => (if x1 < (p0.un.2.2.2.length : Int) then (ix p0.un.2.2.2 x1).bind fun x2 => (fRec (f28 x2)).bind fun x3 => (if (!x3) = true then some (.inr (.inr false)) else some (.inl (Ae (x1 + 1)))) else some (.inr (.inl ())))
theorem Ri : @Ku = @E2 := by
 unfold Ku E2
 simp only [Tr28.re_eq]
def NP (fRec : Tr28 → Option Bool) (p0 : Tr28) : Option Bool := (if (bif decide (p0.un.1 ≠ 3) then (decide (p0.un.2.1 ≠ 0) || (decide (p0.un.2.2.1 ≠ 0) || (decide (p0.un.1 < 1) || decide (6 < p0.un.1)))) else (decide (p0.un.1 < 1) || decide (6 < p0.un.1))) = true then some false else (if (decide (p0.un.1 = 3) && (decide (p0.un.2.1 < 0) || (decide (5 < p0.un.2.1) || (decide (p0.un.2.2.1 < 0) || decide ((Df p0.un.2.1) < p0.un.2.2.1))))) = true then some false else (if (bif decide (p0.un.1 ≤ 3) then (decide ((p0.un.2.2.2.length : Int) ≠ 0) || (bif decide (p0.un.1 = 4) then (decide ((p0.un.2.2.2.length : Int) ≠ 1) || (decide (5 ≤ p0.un.1) && (decide ((p0.un.2.2.2.length : Int) < 2) || decide (8 < (p0.un.2.2.2.length : Int))))) else (decide (5 ≤ p0.un.1) && (decide ((p0.un.2.2.2.length : Int) < 2) || decide (8 < (p0.un.2.2.2.length : Int)))))) else (bif decide (p0.un.1 = 4) then (decide ((p0.un.2.2.2.length : Int) ≠ 1) || (decide (5 ≤ p0.un.1) && (decide ((p0.un.2.2.2.length : Int) < 2) || decide (8 < (p0.un.2.2.2.length : Int))))) else (decide (5 ≤ p0.un.1) && (decide ((p0.un.2.2.2.length : Int) < 2) || decide (8 < (p0.un.2.2.2.length : Int)))))) = true then some false else Hc (Ac (Ku fRec p0) 0) fun _ => some true)))
theorem Rd : @NP = @EZ := by
 unfold NP EZ
 simp only [Ri]
theorem k47 : KO (K47 fun x => Nr x) 47 := Q7 (E := te) (xs := gM) (ys := kS) (bs := []) (io := false) (nn := fun n x => Fc n x) (st := fun g x => EZ g x) Tryz.func47 rfl (by kernel_rfl) (fun _ => rfl) (fun _ => rfl) fun g hg => DY (ct := (.q (.q (.s (.j (.bl [30]) .d .d) (.s (.j (.bl [56]) .d .d) (.s (.j (.bl [85]) .d .d) (.j (.st true ⟨[],[],[]⟩) (.q (.b (.l ⟨[(4,false,AG)],[],[]⟩ .d))) .d))))))) Dz (Az hg (Az zB Bc)) Tryz.func47 (by kernel_rfl) fun x => by rw [← Rd]; kernel_rfl
def DL (fRec : Tr28 → Option Int) (p0 : Tr28) : (Int × Int) → Option ((Int × Int) ⊕ Int)
  | (x2,x3) => (if x3 < (p0.un.2.2.2.length : Int) then (ix p0.un.2.2.2 x3).bind fun x4 => (fRec x4).bind fun x5 => some (.inl (Ae (x2 + x5),Ae (x3 + 1))) else some (.inr x2))
def EX (fRec : Tr28 → Option Int) (p0 : Tr28) : Option Int := (Ac (DL fRec p0) (1,0)).bind fun x1 => some x1
def Fe : Nat → Tr28 → Option Int
  | 0 => fun _ => none
  | n + 1 => EX (Fe n)
def JU (p0 : Tr28) : Option Int := GY fun n => Fe n p0
def Ke (fRec : Tr28 → Option Int) (p0 : Tr28) : (Int × Int) → Option ((Int × Int) ⊕ Int)
  | (x2,x3) => (if x3 < (p0.un.2.2.2.length : Int) then (ix p0.un.2.2.2 x3).bind fun x4 => (fRec (f28 x4)).bind fun x5 => some (.inl (Ae (x2 + x5),Ae (x3 + 1))) else some (.inr x2))
theorem Rk : @Ke = @DL := by
 unfold Ke DL
 simp only [Tr28.re_eq]
def Nu (fRec : Tr28 → Option Int) (p0 : Tr28) : Option Int := (Ac (Ke fRec p0) (1,0)).bind fun x1 => some x1
theorem Rh : @Nu = @EX := by
 unfold Nu EX
 simp only [Rk]
theorem zO : KO (K48 fun x => JU x) 48 := Q7 (E := te) (xs := fI) (ys := mW) (bs := []) (io := false) (nn := fun n x => Fe n x) (st := fun g x => EX g x) Tryz.func48 rfl (by kernel_rfl) (fun _ => rfl) (fun _ => rfl) fun g hg => DY (ct := (.q (.q (.j (.st false ⟨[(3,false,AG)],[],[]⟩) (.q (.b (.l ⟨[(3,false,AG),(4,false,AG)],[],[]⟩ .d))) .d)))) Dz (Az hg Bc) Tryz.func48 (by kernel_rfl) fun x => by rw [← Rh]; kernel_rfl
def DM (fRec : Tr28 → Option Int) (p0 : Tr28) : (Int × Int) → Option ((Int × Int) ⊕ Int)
  | (x2,x3) => (if x3 < (p0.un.2.2.2.length : Int) then ((ix p0.un.2.2.2 x3).bind fun x5 => (fRec x5).bind fun x6 => (if x2 < (Ae (x6 + 1)) then (ix p0.un.2.2.2 x3).bind fun x7 => (fRec x7).bind fun x8 => some (Ae (x8 + 1)) else some x2)).bind fun x4 => some (.inl (x4,Ae (x3 + 1))) else some (.inr x2))
def ES (fRec : Tr28 → Option Int) (p0 : Tr28) : Option Int := (Ac (DM fRec p0) (1,0)).bind fun x1 => some x1
def E7 : Nat → Tr28 → Option Int
  | 0 => fun _ => none
  | n + 1 => ES (E7 n)
def NK (p0 : Tr28) : Option Int := GY fun n => E7 n p0
def Ko (fRec : Tr28 → Option Int) (p0 : Tr28) : (Int × Int) → Option ((Int × Int) ⊕ Int)
  | (x2,x3) => (if x3 < (p0.un.2.2.2.length : Int) then ((ix p0.un.2.2.2 x3).bind fun x5 => (fRec (f28 x5)).bind fun x6 => (if x2 < (Ae (x6 + 1)) then (ix p0.un.2.2.2 x3).bind fun x7 => (fRec (f28 x7)).bind fun x8 => some (Ae (x8 + 1)) else some x2)).bind fun x4 => some (.inl (x4,Ae (x3 + 1))) else some (.inr x2))
theorem Rb : @Ko = @DM := by
 unfold Ko DM
 simp only [Tr28.re_eq]
def Nx (fRec : Tr28 → Option Int) (p0 : Tr28) : Option Int := (Ac (Ko fRec p0) (1,0)).bind fun x1 => some x1
theorem Rr : @Nx = @ES := by
 unfold Nx ES
 simp only [Rb]
theorem k49 : KO (K49 fun x => NK x) 49 := Q7 (E := te) (xs := d8) (ys := m8) (bs := []) (io := false) (nn := fun n x => E7 n x) (st := fun g x => ES g x) Tryz.func49 rfl (by kernel_rfl) (fun _ => rfl) (fun _ => rfl) fun g hg => DY (ct := (.q (.q (.j (.st false ⟨[(3,false,AG)],[],[]⟩) (.q (.b (.l ⟨[(3,false,AG),(4,false,AG)],[],[]⟩ (.q (.j (.st false ⟨[(3,false,AG)],[],[]⟩) .d .d))))) .d)))) Dz (Az hg Bc) Tryz.func49 (by kernel_rfl) fun x => by rw [← Rr]; kernel_rfl
def Ho (p0 : Tr28) : Option Bool := ((Nr p0).bind fun x2 => (if x2 = true then (JU p0).bind fun x3 => (if x3 ≤ 64 then (NK p0).bind fun x4 => some (decide (x4 ≤ 8)) else some false) else some false)).bind fun x1 => some x1
def P9 (p0 : Tr28) : Option Bool := ((Nr (f28 p0)).bind fun x2 => (if x2 = true then (JU (f28 p0)).bind fun x3 => (if x3 ≤ 64 then (NK (f28 p0)).bind fun x4 => some (decide (x4 ≤ 8)) else some false) else some false)).bind fun x1 => some x1
theorem Ud : @P9 = @Ho := by
 unfold P9 Ho
 simp only [Tr28.re_eq]
abbrev K20 : Cn_ := ⟨[VZ],[ID],[],false,fun x => Ho x,none⟩
theorem k20 : KO (K20) 20 := DY (ct := (.q (.j (.st false ⟨[(2,false,EK)],[],[]⟩) .d .d))) Dz (Az k47 (Az zO (Az k49 Bc))) Tryz.func20 (by kernel_rfl) fun x => by rw [← Ud]; kernel_rfl
theorem Vt (Y : Nat → Prop) (w0 : World) (v1 : Value) (p0 : Tr28) (r : Bool) (H : Ho p0 = some r) (h_v1 : Sl w0 (NX []) Sf v1 p0.un.2.2.2) (hG : Gk [] w0) :
    ca_ 20 #[.agg #[Jint p0.un.1,Jint p0.un.2.1,Jint p0.un.2.2.1,v1]] w0 fun e w' => e = .returned (.bool r) ∧ Below w0.heap.size w0 w' := k20.outP (Y := Y) (x := p0) H rfl rfl rfl rfl rfl (v1,()) ⟨h_v1,trivial⟩ rfl hG fun _ => rfl
theorem H20 : Has Tryz.prog 20 := JR Tryz.func20
theorem B28 : Bt Tryz.prog 28 [Jint 0,Jint 0,Jint 0,.slice none 0 0] [(0,1),(1,1),(2,1),(3,1)] := ⟨⟨.agg #[Jint 0,Jint 0,Jint 0,.slice none 0 0],by kernel_rfl,rfl⟩,⟨_,q7,fun w => by kernel_rfl⟩⟩
theorem H23 : Has Tryz.prog 23 := JR Tryz.func23
def ET (fRec : Tr28 → Tr28 → Option Bool) (p0 : Tr28) (p1 : Tr28) : Int → Option (Int ⊕ (Unit ⊕ Bool))
  | x1 => (if x1 < (p0.un.2.2.2.length : Int) then (ix p0.un.2.2.2 x1).bind fun x2 => (ix p1.un.2.2.2 x1).bind fun x3 => (fRec x2 x3).bind fun x4 => (if (!x4) = true then some (.inr (.inr false)) else some (.inl (Ae (x1 + 1)))) else some (.inr (.inl ())))
def EV (fRec : Tr28 → Tr28 → Option Bool) (p0 : Tr28) (p1 : Tr28) : Option Bool := (if (decide (p0.un.1 ≠ p1.un.1) || (decide (p0.un.2.1 ≠ p1.un.2.1) || (decide (p0.un.2.2.1 ≠ p1.un.2.2.1) || decide ((p0.un.2.2.2.length : Int) ≠ (p1.un.2.2.2.length : Int))))) = true then some false else Hc (Ac (ET fRec p0 p1) 0) fun _ => some true)
def FK : Nat → Tr28 → Tr28 → Option Bool
  | 0 => fun _ _ => none
  | n + 1 => EV (FK n)
def KI (p0 : Tr28) (p1 : Tr28) : Option Bool := GY fun n => FK n p0 p1
def Kb (fRec : Tr28 → Tr28 → Option Bool) (p0 : Tr28) (p1 : Tr28) : Int → Option (Int ⊕ (Unit ⊕ Bool))
  | x1 => (if x1 < (p0.un.2.2.2.length : Int) then (ix p0.un.2.2.2 x1).bind fun x2 => (ix p1.un.2.2.2 x1).bind fun x3 => (fRec (f28 x2) (f28 x3)).bind fun x4 => (if (!x4) = true then some (.inr (.inr false)) else some (.inl (Ae (x1 + 1)))) else some (.inr (.inl ())))
theorem RL : @Kb = @ET := by
 unfold Kb ET
 simp only [Tr28.re_eq]
def Nf (fRec : Tr28 → Tr28 → Option Bool) (p0 : Tr28) (p1 : Tr28) : Option Bool := (if (decide (p0.un.1 ≠ p1.un.1) || (decide (p0.un.2.1 ≠ p1.un.2.1) || (decide (p0.un.2.2.1 ≠ p1.un.2.2.1) || decide ((p0.un.2.2.2.length : Int) ≠ (p1.un.2.2.2.length : Int))))) = true then some false else Hc (Ac (Kb fRec p0 p1) 0) fun _ => some true)
theorem RF : @Nf = @EV := by
 unfold Nf EV
 simp only [RL]
theorem k23 : KO (K23 fun x => KI x.1 x.2) 23 := Q7 (E := te) (xs := fZ) (ys := mY) (bs := []) (io := false) (nn := fun n x => FK n x.1 x.2) (st := fun g x => EV (fun yp0 yp1 => g (yp0,yp1)) x.1 x.2) Tryz.func23 rfl (by kernel_rfl) (fun _ => rfl) (fun _ => rfl) fun g hg => DY (ct := (.q (.s (.j (.bl [33]) .d .d) (.j (.st true ⟨[],[],[]⟩) (.q (.b (.l ⟨[(5,false,AG)],[],[]⟩ .d))) .d)))) Dz (Az hg Bc) Tryz.func23 (by kernel_rfl) fun x => by rw [← RF]; kernel_rfl
theorem VH (Y : Nat → Prop) (w0 : World) (v1 : Value) (v2 : Value) (p0 : Tr28) (p1 : Tr28) (r : Bool) (H : KI p0 p1 = some r) (h_v1 : Sl w0 (NX []) Sf v1 p0.un.2.2.2) (h_v2 : Sl w0 (NX []) Sf v2 p1.un.2.2.2) (hG : Gk [] w0) :
    ca_ 23 #[.agg #[Jint p0.un.1,Jint p0.un.2.1,Jint p0.un.2.2.1,v1],.agg #[Jint p1.un.1,Jint p1.un.2.1,Jint p1.un.2.2.1,v2]] w0 fun e w' => e = .returned (.bool r) ∧ Below w0.heap.size w0 w' := k23.outP (Y := Y) (x := (p0,p1)) H rfl rfl rfl rfl rfl (v1,(v2,())) ⟨h_v1,⟨h_v2,trivial⟩⟩ rfl hG fun _ => rfl
theorem jX : type_of% Tryz.underlying29 := Tryz.underlying29
abbrev YF (a : Int × (Int × Int × Int × (Value × List Tr28)) × Int × Int × (Value × List Tr31)) : List Value := [Jint a.1,Jint a.2.1.1,Jint a.2.1.2.1,Jint a.2.1.2.2.1,a.2.1.2.2.2.1,Jint a.2.2.1,Jint a.2.2.2.1,a.2.2.2.2.1]
theorem rX : GV dZ YF := (GV.pair Fl.int.to (GV.pair (GV.pair Fl.int.to (GV.pair Fl.int.to (GV.pair Fl.int.to GV.vsl))) (GV.pair Fl.int.to (GV.pair Fl.int.to GV.vsl))))
theorem L29 : Et Tryz.prog 29 31 8 96 := Et.of jX (by kernel_rfl) (by kernel_rfl) (by kernel_rfl) (by decide)
theorem H43 : Has Tryz.prog 43 := JR Tryz.func43
abbrev O7 (a0 : Tr31) (a1 : Value) (a2 : Value) : List Value := [Jint a0.un.1,Jint a0.un.2.1.un.1,Jint a0.un.2.1.un.2.1,Jint a0.un.2.1.un.2.2.1,a1,Jint a0.un.2.2.1,Jint a0.un.2.2.2.1,a2]
abbrev Us (a0 : Nat) (a1 : Tr31) (a2 : Value) (a3 : Value) : List (Nat × List Value) := [(a0,[Jint a1.un.1,Jint a1.un.2.1.un.1,Jint a1.un.2.1.un.2.1,Jint a1.un.2.1.un.2.2.1,a2,Jint a1.un.2.2.1,Jint a1.un.2.2.2.1,a3])]
def FG (fRec : Tr31 → Option Bool) (p0 : Tr31) : Int → Option (Int ⊕ (Unit ⊕ Bool))
  | x4 => (if x4 < (p0.un.2.2.2.2.length : Int) then (ix p0.un.2.2.2.2 x4).bind fun x5 => (fRec (Tr31.of (x5.un.1,f28 x5.un.2.1,x5.un.2.2.1,x5.un.2.2.2.1,x5.un.2.2.2.2))).bind fun x6 => (if (!x6) = true then some (.inr (.inr false)) else some (.inl (Ae (x4 + 1)))) else some (.inr (.inl ())))
def FF (fRec : Tr31 → Option Bool) (p0 : Tr31) : Option Bool := (if (decide (p0.un.1 < 1) || (decide (5 < p0.un.1) || (decide (p0.un.1 ≠ 2) && (decide (p0.un.2.2.1 ≠ 0) || decide (p0.un.2.2.2.1 ≠ 0))))) = true then some false else (if (decide (p0.un.1 = 1) || decide (p0.un.1 = 5)) = true then (Ho (f28 p0.un.2.1)).bind fun x2 => (if (!x2) = true then some true else some false) else (KI (f28 p0.un.2.1) (Tr28.of (0,0,0,([] : List Tr28)))).bind fun x3 => some (!x3)).bind fun x1 => (if x1 = true then some false else (if (decide (p0.un.1 = 2) && (decide (p0.un.2.2.1 < 0) || (decide (4 < p0.un.2.2.1) || (decide (p0.un.2.2.2.1 < 0) || decide ((Df p0.un.2.2.1) < p0.un.2.2.2.1))))) = true then some false else (if (bif decide (p0.un.1 ≤ 2) then (decide ((p0.un.2.2.2.2.length : Int) ≠ 0) || (bif decide (p0.un.1 = 5) then (decide ((p0.un.2.2.2.2.length : Int) ≠ 2) || (bif decide (p0.un.1 = 3) then (decide ((p0.un.2.2.2.2.length : Int) < 2) || decide (8 < (p0.un.2.2.2.2.length : Int))) else (decide (p0.un.1 = 4) && (decide ((p0.un.2.2.2.2.length : Int) < 2) || decide (8 < (p0.un.2.2.2.2.length : Int)))))) else (bif decide (p0.un.1 = 3) then (decide ((p0.un.2.2.2.2.length : Int) < 2) || decide (8 < (p0.un.2.2.2.2.length : Int))) else (decide (p0.un.1 = 4) && (decide ((p0.un.2.2.2.2.length : Int) < 2) || decide (8 < (p0.un.2.2.2.2.length : Int))))))) else (bif decide (p0.un.1 = 5) then (decide ((p0.un.2.2.2.2.length : Int) ≠ 2) || (bif decide (p0.un.1 = 3) then (decide ((p0.un.2.2.2.2.length : Int) < 2) || decide (8 < (p0.un.2.2.2.2.length : Int))) else (decide (p0.un.1 = 4) && (decide ((p0.un.2.2.2.2.length : Int) < 2) || decide (8 < (p0.un.2.2.2.2.length : Int)))))) else (bif decide (p0.un.1 = 3) then (decide ((p0.un.2.2.2.2.length : Int) < 2) || decide (8 < (p0.un.2.2.2.2.length : Int))) else (decide (p0.un.1 = 4) && (decide ((p0.un.2.2.2.2.length : Int) < 2) || decide (8 < (p0.un.2.2.2.2.length : Int))))))) = true then some false else Hc (Ac (FG fRec p0) 0) fun _ => some true))))
def EB : Nat → Tr31 → Option Bool
  | 0 => fun _ => none
  | n + 1 => FF (EB n)
def NS (p0 : Tr31) : Option Bool := GY fun n => EB n p0
theorem TI (fRec : Tr31 → Option Bool) (ih : ∀ (Y : Nat → Prop) (w0 : World) (v1 : Value) (v2 : Value) (p0 : Tr31) (r : Bool) (H : fRec p0 = some r) (h_v1 : Sl w0 (NX []) Sf v1 p0.un.2.1.un.2.2.2) (h_v2 : Sl w0 (NX []) TU v2 p0.un.2.2.2.2) (hG : Gk [] w0),ca_ 43 #[.agg #[Jint p0.un.1,Jint p0.un.2.1.un.1,Jint p0.un.2.1.un.2.1,Jint p0.un.2.1.un.2.2.1,v1,Jint p0.un.2.2.1,Jint p0.un.2.2.2.1,v2]] w0 fun e w' => e = .returned (.bool r) ∧ Below w0.heap.size w0 w') (Y : Nat → Prop) (w0 : World) (v1 : Value) (v2 : Value) (p0 : Tr31) (r : Bool) (H : FF fRec p0 = some r) (h_v1 : Sl w0 (NX []) Sf v1 p0.un.2.1.un.2.2.2) (h_v2 : Sl w0 (NX []) TU v2 p0.un.2.2.2.2) (hG : Gk [] w0) :
    ca_ 43 #[.agg #[Jint p0.un.1,Jint p0.un.2.1.un.1,Jint p0.un.2.1.un.2.1,Jint p0.un.2.1.un.2.2.1,v1,Jint p0.un.2.2.1,Jint p0.un.2.2.2.1,v2]] w0 fun e w' => e = .returned (.bool r) ∧ Below w0.heap.size w0 w' := by
 refine enter Tryz.func43 Aa Tryz.ntmps43 Aa fun a F => ?_
 have W := Stw.start Y w0
 obtain ⟨v3,h1,h_v1⟩ := h_v1.ex XQ
 obtain ⟨v4,h2,h_v2⟩ := h_v2.ex c8
 unfold FF at H
 refine vc tk 2 F W fun a w F W => ?_
 refine JK (cs := (O7 p0 v1 v2)) F W Aa Aa Aa fun b1 a w F W => ?_
 refine XG tk 7 [0] F W (ai fun a w F W => ?_)
 refine ls F W Aa (IW (r := TU) (l := p0.un.2.2.2.2) jX Aa F Aa (HD c8 h2 (Cx h_v2))).q fun a w F W => ?_
 refine KC tk 4 F W fun a w F W => ?_
 refine Fw (fun a w => Fr 130 [] [(1,pp b1),(2,.bool false),(3,Jint (p0.un.2.2.2.2.length : Int)),(31,.bool (decide (p0.un.1 < 1) || (decide (5 < p0.un.1) || (decide (p0.un.1 ≠ 2) && (decide (p0.un.2.2.1 ≠ 0) || decide (p0.un.2.2.2.1 ≠ 0))))))] a ∧ sy Y w0 (Us b1 p0 v1 v2) [] w) ?_ ?_
 ·
  refine TR tk 5 [0] F W (ai fun a w F W => ?_)
  rcases bxq (decide (p0.un.1 < 1)) with hb0 | hb0
  ·
   rw [hb0] at F
   refine vl tk 20 F W fun a w F W => ?_
   refine Ax ?_
   exact ⟨F.re ⟨rfl,Aa,Aa,(Jr (by try rw [hb0]; all_goals simp only [Jz])),trivial⟩,W⟩
  rw [hb0] at F
  refine Oj tk 5 [0] F W (ai fun a w F W => ?_)
  rcases bxq (decide (5 < p0.un.1)) with hb1 | hb1
  ·
   rw [hb1] at F
   refine vl tk 15 F W fun a w F W => ?_
   refine Ax ?_
   exact ⟨F.re ⟨rfl,Aa,Aa,(Jr (by try rw [hb0]; try rw [hb1]; all_goals simp only [Jz])),trivial⟩,W⟩
  rw [hb1] at F
  refine Oj tk 4 [0] F W (ai fun a w F W => ?_)
  rcases bxq (decide (p0.un.1 ≠ 2)) with hb2 | hb2
  ·
   rw [hb2] at F
   refine Oj tk 4 [0] F W (ai fun a w F W => ?_)
   rcases bxq (decide (p0.un.2.2.1 ≠ 0)) with hb3 | hb3
   ·
    rw [hb3] at F
    refine vl tk 7 F W fun a w F W => ?_
    refine Ax ?_
    exact ⟨F.re ⟨rfl,Aa,Aa,(Jr (by try rw [hb3]; try rw [hb0]; try rw [hb1]; try rw [hb2]; all_goals simp only [Jz])),trivial⟩,W⟩
   rw [hb3] at F
   refine Oj tk 7 [0] F W (ai fun a w F W => ?_)
   refine Ax ?_
   exact ⟨F.re ⟨rfl,Aa,Aa,(Jr (by try rw [hb3]; try rw [hb0]; try rw [hb1]; try rw [hb2]; all_goals simp only [Jz])),trivial⟩,W⟩
  rw [hb2] at F
  refine vl tk 11 F W fun a w F W => ?_
  refine Ax ?_
  exact ⟨F.re ⟨rfl,Aa,Aa,(Jr (by try rw [hb0]; try rw [hb1]; try rw [hb2]; all_goals simp only [Jz])),trivial⟩,W⟩
 rintro a w ⟨F,W⟩
 refine Ld F Aa H (fun F H => ?_) fun F H => ?_
 ·
  refine vc tk 5 F W fun a w F W => ?_
  refine Dx (Ej ?_)
  have H := FU H
  subst H
  refine EL (.inl Aa) F W Aa (DR F Aa) ?_
  exact ⟨rfl,W.done⟩
 refine cQ tk 2 F W fun a w F W => ?_
 refine Fw (fun a w => Fr 130 [] [(1,pp b1),(2,.bool false),(3,Jint (p0.un.2.2.2.2.length : Int)),(4,.bool (decide (p0.un.1 = 1) || decide (p0.un.1 = 5)))] a ∧ sy Y w0 (Us b1 p0 v1 v2) [] w) ?_ ?_
 ·
  refine TR tk 5 [0] F W (ai fun a w F W => ?_)
  rcases bxq (decide (p0.un.1 = 1)) with hb0 | hb0
  ·
   rw [hb0] at F
   refine vl tk 6 F W fun a w F W => ?_
   refine Ax ?_
   exact ⟨F.re ⟨rfl,Aa,Aa,(Jr (by try rw [hb0]; all_goals simp only [Jz])),trivial⟩,W⟩
  rw [hb0] at F
  refine Oj tk 6 [0] F W (ai fun a w F W => ?_)
  refine Ax ?_
  exact ⟨F.re ⟨rfl,Aa,Aa,(Jr (by try rw [hb0]; all_goals simp only [Jz])),trivial⟩,W⟩
 rintro a w ⟨F,W⟩
 refine OA ?_
 obtain ⟨o1,G1,K1⟩ := Cc H
 refine Fw (fun a w => ∃ x1 : Bool,some (x1) = some o1 ∧ Fr 130 [] [(1,pp b1),(2,.bool false),(3,Jint (p0.un.2.2.2.2.length : Int)),(57,.bool x1)] a ∧ sy Y w0 (Us b1 p0 v1 v2) [] w) ?_ ?_
 ·
  have H := G1
  refine vc tk 3 F W fun a w F W => ?_
  rcases bxq (decide (p0.un.1 = 1) || decide (p0.un.1 = 5)) with hb | hb
  ·
   have H := Tq hb H
   rw [hb] at F
   refine Oj tk 2 [0] F W (ai fun a w F W => ?_)
   refine mB (Bw F Aa Aa Aa Aa) ?_
   obtain ⟨x2,h3,H⟩ := Cc H
   refine ls F W Aa (HS (v := Value.bool x2) F H20 Aa (fun w W => Vt any w (v1) (f28 p0.un.2.1) _ h3 (d7 (HD XQ h1 (Cx h_v1)) W) (hG.go0 W))) fun a w F W => ?_
   refine vl tk 3 F W fun a w F W => ?_
   rcases bxq (!x2) with hb | hb
   ·
    have H := Tq hb H
    rw [hb] at F
    refine vl tk 11 F W fun a w F W => ?_
    refine Ax ?_
    exact ⟨_,H,F.ra Aa,W⟩
   have H := TD (by rw [hb]; decide) H
   rw [hb] at F
   refine vl tk 11 F W fun a w F W => ?_
   refine Ax ?_
   exact ⟨_,H,F.ra Aa,W⟩
  have H := TD (by rw [hb]; decide) H
  rw [hb] at F
  refine Oj tk 11 [0] F W (ai fun a w F W => ?_)
  refine XY F W (Bw F Aa Aa Aa Aa) Aa (El Aa) (H3 (v := Value.agg #[Jint 0,Jint 0,Jint 0,.slice none 0 0]) B28 F Aa Aa Aa).q fun a w F W => ?_
  refine mB (Bw F Aa Aa Aa Aa) ?_
  obtain ⟨x3,h4,H⟩ := Cc H
  refine ls F W Aa (HS (v := Value.bool x3) F H23 Aa (fun w W => VH any w (v1) (Value.slice none 0 0) (f28 p0.un.2.1) (Tr28.of (0,0,0,([] : List Tr28))) _ h4 (d7 (HD XQ h1 (Cx h_v1)) W) Sl.nil (hG.go0 W))) fun a w F W => ?_
  refine vl tk 4 F W fun a w F W => ?_
  refine Ax ?_
  exact ⟨_,H,F.ra Aa,W⟩
 rintro a w ⟨x1,hj,F,W⟩
 have hj := FU hj
 subst hj
 have H := K1
 refine Ld F Aa H (fun F H => ?_) fun F H => ?_
 ·
  refine vc tk 5 F W fun a w F W => ?_
  refine Dx (Ej ?_)
  have H := FU H
  subst H
  refine EL (.inl Aa) F W Aa (DR F Aa) ?_
  exact ⟨rfl,W.done⟩
 refine cQ tk 3 F W fun a w F W => ?_
 refine Fw (fun a w => Fr 130 [] [(1,pp b1),(2,.bool false),(3,Jint (p0.un.2.2.2.2.length : Int)),(83,.bool (decide (p0.un.1 = 2) && (decide (p0.un.2.2.1 < 0) || (decide (4 < p0.un.2.2.1) || (decide (p0.un.2.2.2.1 < 0) || decide ((Df p0.un.2.2.1) < p0.un.2.2.2.1))))))] a ∧ sy Y w0 (Us b1 p0 v1 v2) [] w) ?_ ?_
 ·
  refine LJ W MO (by kernel_rfl) ?_
  refine qs F Aa (B1 OK Aa Aa Aa T3 F Aa 0 Aa).q fun a F => ?_
  refine qs F Aa (HQ (v := Jint p0.un.1) 0 F Aa Aa T3 Aa).q fun a F => ?_
  refine qs F Aa (Wq F Aa Aa).q fun a F => ?_
  refine qs F Aa (EN F Aa).q fun a F => ?_
  rcases bxq (decide (p0.un.1 = 2)) with hb0 | hb0
  ·
   rw [hb0] at F
   refine Hk F (Bw F Aa Aa Aa Aa) Aa (El Aa) (B1 OK Aa Aa Aa T3 F Aa 5 Aa).q fun a F => ?_
   refine Hk F (Bw F Aa Aa Aa Aa) Aa (El Aa) (HQ (v := Jint p0.un.2.2.1) 0 F Aa Aa T3 Aa).q fun a F => ?_
   refine Hk F (Bw F Aa Aa Aa Aa) Aa (El Aa) (WJ F Aa Aa).q fun a F => ?_
   refine Hk F (Bw F Aa Aa Aa Aa) Aa (El Aa) (EN F Aa).q fun a F => ?_
   rcases bxq (decide (p0.un.2.2.1 < 0)) with hb1 | hb1
   ·
    rw [hb1] at F
    iterate 3 refine GC F (GS F Aa Aa Aa Aa Aa) Aa Aa fun a F => ?_
    refine Hk F (Bw F Aa Aa Aa Aa) Aa (El Aa) (FS F Aa Aa Aa).q fun a F => ?_
    refine Hk F (Bw F Aa Aa Aa Aa) Aa (El Aa) (EN F Aa).q fun a F => ?_
    iterate 3 refine GC F (GS F Aa Aa Aa Aa Aa) Aa Aa fun a F => ?_
    refine Hk F (Bw F Aa Aa Aa Aa) Aa (El Aa) (FS F Aa Aa Aa).q fun a F => ?_
    refine Hk F (Bw F Aa Aa Aa Aa) Aa (El Aa) (EN F Aa).q fun a F => ?_
    iterate 6 refine GC F (GS F Aa Aa Aa Aa Aa) Aa Aa fun a F => ?_
    refine Hk F (Bw F Aa Aa Aa Aa) Aa (El Aa) (FS F Aa Aa Aa).q fun a F => ?_
    refine qs F Aa (FS F Aa Aa Aa).q fun a F => ?_
    refine GB fun w W => ?_
    refine Ax ?_
    exact ⟨F.re ⟨rfl,Aa,Aa,(Jr (by try rw [hb1]; try rw [hb0]; all_goals simp only [Jz])),trivial⟩,W⟩
   rw [hb1] at F
   refine Hk F (Bw F Aa Aa Aa Aa) Aa (El Aa) (B1 OK Aa Aa Aa T3 F Aa 5 Aa).q fun a F => ?_
   refine Hk F (Bw F Aa Aa Aa Aa) Aa (El Aa) (HQ (v := Jint p0.un.2.2.1) 0 F Aa Aa T3 Aa).q fun a F => ?_
   refine Hk F (Bw F Aa Aa Aa Aa) Aa (El Aa) (W6 F Aa Aa).q fun a F => ?_
   refine Hk F (Bw F Aa Aa Aa Aa) Aa (El Aa) (JB F Aa Aa Aa).q fun a F => ?_
   refine Hk F (Bw F Aa Aa Aa Aa) Aa (El Aa) (EN F Aa).q fun a F => ?_
   rcases bxq (decide (4 < p0.un.2.2.1)) with hb2 | hb2
   ·
    rw [hb2] at F
    iterate 3 refine GC F (GS F Aa Aa Aa Aa Aa) Aa Aa fun a F => ?_
    refine Hk F (Bw F Aa Aa Aa Aa) Aa (El Aa) (FS F Aa Aa Aa).q fun a F => ?_
    refine Hk F (Bw F Aa Aa Aa Aa) Aa (El Aa) (EN F Aa).q fun a F => ?_
    iterate 6 refine GC F (GS F Aa Aa Aa Aa Aa) Aa Aa fun a F => ?_
    refine Hk F (Bw F Aa Aa Aa Aa) Aa (El Aa) (FS F Aa Aa Aa).q fun a F => ?_
    refine qs F Aa (FS F Aa Aa Aa).q fun a F => ?_
    refine GB fun w W => ?_
    refine Ax ?_
    exact ⟨F.re ⟨rfl,Aa,Aa,(Jr (by try rw [hb1]; try rw [hb2]; try rw [hb0]; all_goals simp only [Jz])),trivial⟩,W⟩
   rw [hb2] at F
   refine Hk F (Bw F Aa Aa Aa Aa) Aa (El Aa) (B1 OK Aa Aa Aa T3 F Aa 6 Aa).q fun a F => ?_
   refine Hk F (Bw F Aa Aa Aa Aa) Aa (El Aa) (HQ (v := Jint p0.un.2.2.2.1) 0 F Aa Aa T3 Aa).q fun a F => ?_
   refine Hk F (Bw F Aa Aa Aa Aa) Aa (El Aa) (WJ F Aa Aa).q fun a F => ?_
   refine Hk F (Bw F Aa Aa Aa Aa) Aa (El Aa) (JB F Aa Aa Aa).q fun a F => ?_
   refine Hk F (Bw F Aa Aa Aa Aa) Aa (El Aa) (EN F Aa).q fun a F => ?_
   rcases bxq (decide (p0.un.2.2.2.1 < 0)) with hb3 | hb3
   ·
    rw [hb3] at F
    iterate 6 refine GC F (GS F Aa Aa Aa Aa Aa) Aa Aa fun a F => ?_
    refine Hk F (Bw F Aa Aa Aa Aa) Aa (El Aa) (FS F Aa Aa Aa).q fun a F => ?_
    refine qs F Aa (FS F Aa Aa Aa).q fun a F => ?_
    refine GB fun w W => ?_
    refine Ax ?_
    exact ⟨F.re ⟨rfl,Aa,Aa,(Jr (by try rw [hb3]; try rw [hb1]; try rw [hb2]; try rw [hb0]; all_goals simp only [Jz])),trivial⟩,W⟩
   rw [hb3] at F
   refine Hk F (Bw F Aa Aa Aa Aa) Aa (El Aa) (B1 OK Aa Aa Aa T3 F Aa 6 Aa).q fun a F => ?_
   refine Hk F (Bw F Aa Aa Aa Aa) Aa (El Aa) (HQ (v := Jint p0.un.2.2.2.1) 0 F Aa Aa T3 Aa).q fun a F => ?_
   refine Hk F (Bw F Aa Aa Aa Aa) Aa (El Aa) (B1 OK Aa Aa Aa T3 F Aa 5 Aa).q fun a F => ?_
   refine Hk F (Bw F Aa Aa Aa Aa) Aa (El Aa) (HQ (v := Jint p0.un.2.2.1) 0 F Aa Aa T3 Aa).q fun a F => ?_
   refine Hk F (Bw F Aa Aa Aa Aa) Aa (El Aa) (HS (v := Jint (Df p0.un.2.2.1)) F H82 Aa (fun w W => Yn any w p0.un.2.2.1 _ Aa (hG.go0 W))) fun a F => ?_
   refine Hk F (Bw F Aa Aa Aa Aa) Aa (El Aa) (W6 F Aa Aa).q fun a F => ?_
   refine Hk F (Bw F Aa Aa Aa Aa) Aa (El Aa) (JB F Aa Aa Aa).q fun a F => ?_
   refine qs F Aa (FS F Aa Aa Aa).q fun a F => ?_
   refine GB fun w W => ?_
   refine Ax ?_
   exact ⟨F.re ⟨rfl,Aa,Aa,(Jr (by try rw [hb3]; try rw [hb1]; try rw [hb2]; try rw [hb0]; all_goals simp only [Jz])),trivial⟩,W⟩
  rw [hb0] at F
  iterate 4 refine GC F (GS F Aa Aa Aa Aa Aa) Aa Aa fun a F => ?_
  iterate 3 refine GC F (HE F Aa Aa Aa Aa) Aa Aa fun a F => ?_
  iterate 2 refine GC F (GS F Aa Aa Aa Aa Aa) Aa Aa fun a F => ?_
  iterate 3 refine GC F (HE F Aa Aa Aa Aa) Aa Aa fun a F => ?_
  iterate 2 refine GC F (GS F Aa Aa Aa Aa Aa) Aa Aa fun a F => ?_
  iterate 6 refine GC F (HE F Aa Aa Aa Aa) Aa Aa fun a F => ?_
  refine GC F (GS F Aa Aa Aa Aa Aa) Aa Aa fun a F => ?_
  refine qs F Aa (JB F Aa Aa Aa).q fun a F => ?_
  refine GB fun w W => ?_
  refine Ax ?_
  exact ⟨F.re ⟨rfl,Aa,Aa,(Jr (by try rw [hb0]; all_goals simp only [Jz])),trivial⟩,W⟩
 rintro a w ⟨F,W⟩
 refine Ld F Aa H (fun F H => ?_) fun F H => ?_
 ·
  refine vc tk 5 F W fun a w F W => ?_
  refine Dx (Ej ?_)
  have H := FU H
  subst H
  refine EL (.inl Aa) F W Aa (DR F Aa) ?_
  exact ⟨rfl,W.done⟩
 refine cQ tk 3 F W fun a w F W => ?_
 refine Fw (fun a w => Fr 130 [] [(1,pp b1),(2,.bool false),(3,Jint (p0.un.2.2.2.2.length : Int)),(117,.bool (bif decide (p0.un.1 ≤ 2) then (decide ((p0.un.2.2.2.2.length : Int) ≠ 0) || (bif decide (p0.un.1 = 5) then (decide ((p0.un.2.2.2.2.length : Int) ≠ 2) || (bif decide (p0.un.1 = 3) then (decide ((p0.un.2.2.2.2.length : Int) < 2) || decide (8 < (p0.un.2.2.2.2.length : Int))) else (decide (p0.un.1 = 4) && (decide ((p0.un.2.2.2.2.length : Int) < 2) || decide (8 < (p0.un.2.2.2.2.length : Int)))))) else (bif decide (p0.un.1 = 3) then (decide ((p0.un.2.2.2.2.length : Int) < 2) || decide (8 < (p0.un.2.2.2.2.length : Int))) else (decide (p0.un.1 = 4) && (decide ((p0.un.2.2.2.2.length : Int) < 2) || decide (8 < (p0.un.2.2.2.2.length : Int))))))) else (bif decide (p0.un.1 = 5) then (decide ((p0.un.2.2.2.2.length : Int) ≠ 2) || (bif decide (p0.un.1 = 3) then (decide ((p0.un.2.2.2.2.length : Int) < 2) || decide (8 < (p0.un.2.2.2.2.length : Int))) else (decide (p0.un.1 = 4) && (decide ((p0.un.2.2.2.2.length : Int) < 2) || decide (8 < (p0.un.2.2.2.2.length : Int)))))) else (bif decide (p0.un.1 = 3) then (decide ((p0.un.2.2.2.2.length : Int) < 2) || decide (8 < (p0.un.2.2.2.2.length : Int))) else (decide (p0.un.1 = 4) && (decide ((p0.un.2.2.2.2.length : Int) < 2) || decide (8 < (p0.un.2.2.2.2.length : Int))))))))] a ∧ sy Y w0 (Us b1 p0 v1 v2) [] w) ?_ ?_
 ·
  refine TR tk 5 [0] F W (ai fun a w F W => ?_)
  rcases bxq (decide (p0.un.1 ≤ 2)) with hb0 | hb0
  ·
   rw [hb0] at F
   refine vl tk 4 F W fun a w F W => ?_
   rcases bxq (decide ((p0.un.2.2.2.2.length : Int) ≠ 0)) with hb1 | hb1
   ·
    rw [hb1] at F
    refine vl tk 27 F W fun a w F W => ?_
    refine Ax ?_
    exact ⟨F.re ⟨rfl,Aa,Aa,(Jr (by try rw [hb1]; try rw [hb0]; all_goals simp only [Jz])),trivial⟩,W⟩
   rw [hb1] at F
   refine Oj tk 4 [0] F W (ai fun a w F W => ?_)
   rcases bxq (decide (p0.un.1 = 5)) with hb2 | hb2
   ·
    rw [hb2] at F
    refine vl tk 5 F W fun a w F W => ?_
    rcases bxq (decide ((p0.un.2.2.2.2.length : Int) ≠ 2)) with hb3 | hb3
    ·
     rw [hb3] at F
     refine vl tk 18 F W fun a w F W => ?_
     refine Ax ?_
     exact ⟨F.re ⟨rfl,Aa,Aa,(Jr (by try rw [hb1]; try rw [hb3]; try rw [hb0]; try rw [hb2]; all_goals simp only [Jz])),trivial⟩,W⟩
    rw [hb3] at F
    refine Oj tk 4 [0] F W (ai fun a w F W => ?_)
    rcases bxq (decide (p0.un.1 = 3)) with hb4 | hb4
    ·
     rw [hb4] at F
     refine vl tk 8 F W fun a w F W => ?_
     rcases bxq (decide ((p0.un.2.2.2.2.length : Int) < 2)) with hb5 | hb5
     ·
      rw [hb5] at F
      refine vl tk 6 F W fun a w F W => ?_
      refine Ax ?_
      exact ⟨F.re ⟨rfl,Aa,Aa,(Jr (by try rw [hb1]; try rw [hb3]; try rw [hb5]; try rw [hb0]; try rw [hb2]; try rw [hb4]; all_goals simp only [Jz])),trivial⟩,W⟩
     rw [hb5] at F
     refine vl tk 6 F W fun a w F W => ?_
     refine Ax ?_
     exact ⟨F.re ⟨rfl,Aa,Aa,(Jr (by try rw [hb1]; try rw [hb3]; try rw [hb5]; try rw [hb0]; try rw [hb2]; try rw [hb4]; all_goals simp only [Jz])),trivial⟩,W⟩
    rw [hb4] at F
    refine Oj tk 5 [0] F W (ai fun a w F W => ?_)
    rcases bxq (decide (p0.un.1 = 4)) with hb5 | hb5
    ·
     rw [hb5] at F
     refine vl tk 3 F W fun a w F W => ?_
     rcases bxq (decide ((p0.un.2.2.2.2.length : Int) < 2)) with hb6 | hb6
     ·
      rw [hb6] at F
      refine vl tk 6 F W fun a w F W => ?_
      refine Ax ?_
      exact ⟨F.re ⟨rfl,Aa,Aa,(Jr (by try rw [hb1]; try rw [hb3]; try rw [hb6]; try rw [hb0]; try rw [hb2]; try rw [hb4]; try rw [hb5]; all_goals simp only [Jz])),trivial⟩,W⟩
     rw [hb6] at F
     refine vl tk 6 F W fun a w F W => ?_
     refine Ax ?_
     exact ⟨F.re ⟨rfl,Aa,Aa,(Jr (by try rw [hb1]; try rw [hb3]; try rw [hb6]; try rw [hb0]; try rw [hb2]; try rw [hb4]; try rw [hb5]; all_goals simp only [Jz])),trivial⟩,W⟩
    rw [hb5] at F
    refine vl tk 9 F W fun a w F W => ?_
    refine Ax ?_
    exact ⟨F.re ⟨rfl,Aa,Aa,(Jr (by try rw [hb1]; try rw [hb3]; try rw [hb0]; try rw [hb2]; try rw [hb4]; try rw [hb5]; all_goals simp only [Jz])),trivial⟩,W⟩
   rw [hb2] at F
   refine Oj tk 9 [0] F W (ai fun a w F W => ?_)
   rcases bxq (decide (p0.un.1 = 3)) with hb3 | hb3
   ·
    rw [hb3] at F
    refine vl tk 8 F W fun a w F W => ?_
    rcases bxq (decide ((p0.un.2.2.2.2.length : Int) < 2)) with hb4 | hb4
    ·
     rw [hb4] at F
     refine vl tk 6 F W fun a w F W => ?_
     refine Ax ?_
     exact ⟨F.re ⟨rfl,Aa,Aa,(Jr (by try rw [hb1]; try rw [hb4]; try rw [hb0]; try rw [hb2]; try rw [hb3]; all_goals simp only [Jz])),trivial⟩,W⟩
    rw [hb4] at F
    refine vl tk 6 F W fun a w F W => ?_
    refine Ax ?_
    exact ⟨F.re ⟨rfl,Aa,Aa,(Jr (by try rw [hb1]; try rw [hb4]; try rw [hb0]; try rw [hb2]; try rw [hb3]; all_goals simp only [Jz])),trivial⟩,W⟩
   rw [hb3] at F
   refine Oj tk 5 [0] F W (ai fun a w F W => ?_)
   rcases bxq (decide (p0.un.1 = 4)) with hb4 | hb4
   ·
    rw [hb4] at F
    refine vl tk 3 F W fun a w F W => ?_
    rcases bxq (decide ((p0.un.2.2.2.2.length : Int) < 2)) with hb5 | hb5
    ·
     rw [hb5] at F
     refine vl tk 6 F W fun a w F W => ?_
     refine Ax ?_
     exact ⟨F.re ⟨rfl,Aa,Aa,(Jr (by try rw [hb1]; try rw [hb5]; try rw [hb0]; try rw [hb2]; try rw [hb3]; try rw [hb4]; all_goals simp only [Jz])),trivial⟩,W⟩
    rw [hb5] at F
    refine vl tk 6 F W fun a w F W => ?_
    refine Ax ?_
    exact ⟨F.re ⟨rfl,Aa,Aa,(Jr (by try rw [hb1]; try rw [hb5]; try rw [hb0]; try rw [hb2]; try rw [hb3]; try rw [hb4]; all_goals simp only [Jz])),trivial⟩,W⟩
   rw [hb4] at F
   refine vl tk 9 F W fun a w F W => ?_
   refine Ax ?_
   exact ⟨F.re ⟨rfl,Aa,Aa,(Jr (by try rw [hb1]; try rw [hb0]; try rw [hb2]; try rw [hb3]; try rw [hb4]; all_goals simp only [Jz])),trivial⟩,W⟩
  rw [hb0] at F
  refine Oj tk 8 [0] F W (ai fun a w F W => ?_)
  rcases bxq (decide (p0.un.1 = 5)) with hb1 | hb1
  ·
   rw [hb1] at F
   refine vl tk 5 F W fun a w F W => ?_
   rcases bxq (decide ((p0.un.2.2.2.2.length : Int) ≠ 2)) with hb2 | hb2
   ·
    rw [hb2] at F
    refine vl tk 18 F W fun a w F W => ?_
    refine Ax ?_
    exact ⟨F.re ⟨rfl,Aa,Aa,(Jr (by try rw [hb2]; try rw [hb0]; try rw [hb1]; all_goals simp only [Jz])),trivial⟩,W⟩
   rw [hb2] at F
   refine Oj tk 4 [0] F W (ai fun a w F W => ?_)
   rcases bxq (decide (p0.un.1 = 3)) with hb3 | hb3
   ·
    rw [hb3] at F
    refine vl tk 8 F W fun a w F W => ?_
    rcases bxq (decide ((p0.un.2.2.2.2.length : Int) < 2)) with hb4 | hb4
    ·
     rw [hb4] at F
     refine vl tk 6 F W fun a w F W => ?_
     refine Ax ?_
     exact ⟨F.re ⟨rfl,Aa,Aa,(Jr (by try rw [hb2]; try rw [hb4]; try rw [hb0]; try rw [hb1]; try rw [hb3]; all_goals simp only [Jz])),trivial⟩,W⟩
    rw [hb4] at F
    refine vl tk 6 F W fun a w F W => ?_
    refine Ax ?_
    exact ⟨F.re ⟨rfl,Aa,Aa,(Jr (by try rw [hb2]; try rw [hb4]; try rw [hb0]; try rw [hb1]; try rw [hb3]; all_goals simp only [Jz])),trivial⟩,W⟩
   rw [hb3] at F
   refine Oj tk 5 [0] F W (ai fun a w F W => ?_)
   rcases bxq (decide (p0.un.1 = 4)) with hb4 | hb4
   ·
    rw [hb4] at F
    refine vl tk 3 F W fun a w F W => ?_
    rcases bxq (decide ((p0.un.2.2.2.2.length : Int) < 2)) with hb5 | hb5
    ·
     rw [hb5] at F
     refine vl tk 6 F W fun a w F W => ?_
     refine Ax ?_
     exact ⟨F.re ⟨rfl,Aa,Aa,(Jr (by try rw [hb2]; try rw [hb5]; try rw [hb0]; try rw [hb1]; try rw [hb3]; try rw [hb4]; all_goals simp only [Jz])),trivial⟩,W⟩
    rw [hb5] at F
    refine vl tk 6 F W fun a w F W => ?_
    refine Ax ?_
    exact ⟨F.re ⟨rfl,Aa,Aa,(Jr (by try rw [hb2]; try rw [hb5]; try rw [hb0]; try rw [hb1]; try rw [hb3]; try rw [hb4]; all_goals simp only [Jz])),trivial⟩,W⟩
   rw [hb4] at F
   refine vl tk 9 F W fun a w F W => ?_
   refine Ax ?_
   exact ⟨F.re ⟨rfl,Aa,Aa,(Jr (by try rw [hb2]; try rw [hb0]; try rw [hb1]; try rw [hb3]; try rw [hb4]; all_goals simp only [Jz])),trivial⟩,W⟩
  rw [hb1] at F
  refine Oj tk 9 [0] F W (ai fun a w F W => ?_)
  rcases bxq (decide (p0.un.1 = 3)) with hb2 | hb2
  ·
   rw [hb2] at F
   refine vl tk 8 F W fun a w F W => ?_
   rcases bxq (decide ((p0.un.2.2.2.2.length : Int) < 2)) with hb3 | hb3
   ·
    rw [hb3] at F
    refine vl tk 6 F W fun a w F W => ?_
    refine Ax ?_
    exact ⟨F.re ⟨rfl,Aa,Aa,(Jr (by try rw [hb3]; try rw [hb0]; try rw [hb1]; try rw [hb2]; all_goals simp only [Jz])),trivial⟩,W⟩
   rw [hb3] at F
   refine vl tk 6 F W fun a w F W => ?_
   refine Ax ?_
   exact ⟨F.re ⟨rfl,Aa,Aa,(Jr (by try rw [hb3]; try rw [hb0]; try rw [hb1]; try rw [hb2]; all_goals simp only [Jz])),trivial⟩,W⟩
  rw [hb2] at F
  refine Oj tk 5 [0] F W (ai fun a w F W => ?_)
  rcases bxq (decide (p0.un.1 = 4)) with hb3 | hb3
  ·
   rw [hb3] at F
   refine vl tk 3 F W fun a w F W => ?_
   rcases bxq (decide ((p0.un.2.2.2.2.length : Int) < 2)) with hb4 | hb4
   ·
    rw [hb4] at F
    refine vl tk 6 F W fun a w F W => ?_
    refine Ax ?_
    exact ⟨F.re ⟨rfl,Aa,Aa,(Jr (by try rw [hb4]; try rw [hb0]; try rw [hb1]; try rw [hb2]; try rw [hb3]; all_goals simp only [Jz])),trivial⟩,W⟩
   rw [hb4] at F
   refine vl tk 6 F W fun a w F W => ?_
   refine Ax ?_
   exact ⟨F.re ⟨rfl,Aa,Aa,(Jr (by try rw [hb4]; try rw [hb0]; try rw [hb1]; try rw [hb2]; try rw [hb3]; all_goals simp only [Jz])),trivial⟩,W⟩
  rw [hb3] at F
  refine vl tk 9 F W fun a w F W => ?_
  refine Ax ?_
  exact ⟨F.re ⟨rfl,Aa,Aa,(Jr (by try rw [hb0]; try rw [hb1]; try rw [hb2]; try rw [hb3]; all_goals simp only [Jz])),trivial⟩,W⟩
 rintro a w ⟨F,W⟩
 refine Ld F Aa H (fun F H => ?_) fun F H => ?_
 ·
  refine vc tk 5 F W fun a w F W => ?_
  refine Dx (Ej ?_)
  have H := FU H
  subst H
  refine EL (.inl Aa) F W Aa (DR F Aa) ?_
  exact ⟨rfl,W.done⟩
 refine FP (Ax ?_)
 obtain ⟨o2,G2,K2,L2⟩ := nM H
 refine Fw (fun a w => some (Sum.inl ()) = some o2 ∧ Fr 130 [] [(2,.bool false)] a ∧ sy Y w0 (Us b1 p0 v1 v2) [] w) ?_ ?_
 ·
  have H := G2
  refine vc tk 6 F W fun a w F W => ?_
  refine Ip H (fun s a w => Fr 130 [] [(1,pp b1),(2,.bool false),(3,Jint (p0.un.2.2.2.2.length : Int)),(5,Jint s)] a ∧ sy Y w0 (Us b1 p0 v1 v2) [] w) ⟨F.ra Aa,W⟩ fun s o a w H L3 hR => ?_
  obtain ⟨x4,rfl⟩ : ∃ x,x = s := ⟨s,rfl⟩
  obtain ⟨F,W⟩ := hR
  have F : Fr 130 [] [(1,pp b1),(2,.bool false),(3,Jint (p0.un.2.2.2.2.length : Int)),(5,Jint x4)] a := F
  have W : sy Y w0 (Us b1 p0 v1 v2) [] w := W
  rw [FG] at H
  refine vc tk 8 F W fun a w F W => ?_
  refine J2 F Aa H (fun F H => ?_) fun F H => ?_
  ·
   refine fD tk 9 [0] F W (ai fun a w F W => ?_)
   obtain ⟨x5,h5,H⟩ := Cc H
   obtain ⟨v5,h6,h7⟩ := Sj h2 h5
   have h8 : YF v5 = [Jint x5.un.1,Jint x5.un.2.1.un.1,Jint x5.un.2.1.un.2.1,Jint x5.un.2.1.un.2.2.1,(v5.2.1.2.2.2.1),Jint x5.un.2.2.1,Jint x5.un.2.2.2.1,(v5.2.2.2.2.1)] := congrArg (fun q : Tr31 => ([Jint q.un.1,Jint q.un.2.1.un.1,Jint q.un.2.1.un.2.1,Jint q.un.2.1.un.2.2.1,(v5.2.1.2.2.2.1),Jint q.un.2.2.1,Jint q.un.2.2.2.1,(v5.2.2.2.2.1)] : List Value)) h7
   refine ls F W Aa (F9 (r := dZ) L29 F Aa Aa (Cx h_v2) h6).q fun a w F W => ?_
   refine ls F W Aa (Eg (y := Value.agg #[Jint x5.un.1,Jint x5.un.2.1.un.1,Jint x5.un.2.1.un.2.1,Jint x5.un.2.1.un.2.2.1,(v5.2.1.2.2.2.1),Jint x5.un.2.2.1,Jint x5.un.2.2.2.1,(v5.2.2.2.2.1)]) (j := 0) (i := x4) (enc := YF) F Aa Aa (Cx h_v2) h6 rX zZ (by rw [h8]; rfl)).q fun a w F W => ?_
   obtain ⟨x6,h9,H⟩ := Cc H
   refine ls F W Aa (HS (v := Value.bool x6) F H43 Aa (fun w W => ih any w ((v5.2.1.2.2.2.1)) ((v5.2.2.2.2.1)) (Tr31.of (x5.un.1,f28 x5.un.2.1,x5.un.2.2.1,x5.un.2.2.2.1,x5.un.2.2.2.2)) _ h9 (d7 (KP (Cx h_v2) h6 (CG.snd (CG.fst (CG.snd (CG.snd (CG.snd CG.here))))) (congrArg (fun q : Tr31 => q.un.2.1.un.2.2.2) h7)) W) (d7 (KP (Cx h_v2) h6 (CG.snd (CG.snd (CG.snd (CG.snd CG.here)))) (congrArg (fun q : Tr31 => q.un.2.2.2.2) h7)) W) (hG.go0 W))) fun a w F W => ?_
   refine KC tk 3 F W fun a w F W => ?_
   refine Ld F Aa H (fun F H => ?_) fun F H => ?_
   ·
    refine vc tk 5 F W fun a w F W => ?_
    refine Dx (FR ?_)
    iterate 2 refine Ej ?_
    refine FR (Ej ?_)
    have H := L3 _ H
    have H := L2 _ H
    have H := FU H
    subst H
    refine EL (.inl Aa) F W Aa (DR F Aa) ?_
    exact ⟨rfl,W.done⟩
   refine FP (EY ?_)
   refine vn tk 5 F W fun a w F W => ?_
   refine Ax ?_
   exact ⟨_,H,F.ra Aa,W⟩
  refine G9 ?_
  iterate 2 refine Jp ?_
  refine GH (Ax ?_)
  have H := L3 _ H
  exact ⟨H,F.ra Aa,W⟩
 rintro a w ⟨hj,F,W⟩
 have H := K2 _ hj
 refine vc tk 5 F W fun a w F W => ?_
 refine Dx ?_
 have H := FU H
 subst H
 refine EL (.inl Aa) F W Aa (DR F Aa) ?_
 exact ⟨rfl,W.done⟩
theorem Ve : ∀ (n : Nat) (Y : Nat → Prop) (w0 : World) (v1 : Value) (v2 : Value) (p0 : Tr31) (r : Bool) (H : EB n p0 = some r) (h_v1 : Sl w0 (NX []) Sf v1 p0.un.2.1.un.2.2.2) (h_v2 : Sl w0 (NX []) TU v2 p0.un.2.2.2.2) (hG : Gk [] w0),ca_ 43 #[.agg #[Jint p0.un.1,Jint p0.un.2.1.un.1,Jint p0.un.2.1.un.2.1,Jint p0.un.2.1.un.2.2.1,v1,Jint p0.un.2.2.1,Jint p0.un.2.2.2.1,v2]] w0 fun e w' => e = .returned (.bool r) ∧ Below w0.heap.size w0 w' := by
  intro n
  induction n with
  | zero => intro Y w0 v1 v2 p0 r H; exact nomatch H
  | succ n ih => intro Y w0 v1 v2 p0 r H h_v1 h_v2 hG; exact TI (EB n) ih Y w0 v1 v2 p0 r H h_v1 h_v2 hG
theorem VX (Y : Nat → Prop) (w0 : World) (v1 : Value) (v2 : Value) (p0 : Tr31) (r : Bool) (H : NS p0 = some r) (h_v1 : Sl w0 (NX []) Sf v1 p0.un.2.1.un.2.2.2) (h_v2 : Sl w0 (NX []) TU v2 p0.un.2.2.2.2) (hG : Gk [] w0) :
    ca_ 43 #[.agg #[Jint p0.un.1,Jint p0.un.2.1.un.1,Jint p0.un.2.1.un.2.1,Jint p0.un.2.1.un.2.2.1,v1,Jint p0.un.2.2.1,Jint p0.un.2.2.2.1,v2]] w0 fun e w' => e = .returned (.bool r) ∧ Below w0.heap.size w0 w' := by
  obtain ⟨n,H⟩ := LS H
  exact Ve n Y w0 v1 v2 p0 r H h_v1 h_v2 hG
theorem k43 : KO (K43 fun x => NS x) 43 := KO.of ⟨fun args w => Br Tryz.func43 rfl (by decide) args w⟩ rfl (fun _ => rfl) (fun _ => rfl) rfl (fun _ => rfl) (fun _ => rfl) (fun _ => rfl) (fun _ => rfl) fun Y w0 x r g H hg hk => (VX Y w0 g.1 g.2.1 x r H hg.1 hg.2.1 hk).mono fun e w' h => ⟨(),h.1,Stw.ofB h.2⟩
def Ez (fRec : Tr31 → Option Int) (p0 : Tr31) : (Int × Int) → Option ((Int × Int) ⊕ Int)
  | (x2,x3) => (if x3 < (p0.un.2.2.2.2.length : Int) then ((ix p0.un.2.2.2.2 x3).bind fun x5 => (fRec (Tr31.of (x5.un.1,f28 x5.un.2.1,x5.un.2.2.1,x5.un.2.2.2.1,x5.un.2.2.2.2))).bind fun x6 => (if x2 ≤ x6 then (ix p0.un.2.2.2.2 x3).bind fun x7 => (fRec (Tr31.of (x7.un.1,f28 x7.un.2.1,x7.un.2.2.1,x7.un.2.2.2.1,x7.un.2.2.2.2))).bind fun x8 => some (Ae (x8 + 1)) else some x2)).bind fun x4 => some (.inl (x4,Ae (x3 + 1))) else some (.inr x2))
def Gu (fRec : Tr31 → Option Int) (p0 : Tr31) : Option Int := (Ac (Ez fRec p0) (1,0)).bind fun x1 => some x1
def E5 : Nat → Tr31 → Option Int
  | 0 => fun _ => none
  | n + 1 => Gu (E5 n)
def Q2 (p0 : Tr31) : Option Int := GY fun n => E5 n p0
theorem k44 : KO (K44 fun x => Q2 x) 44 := Q7 (E := te) (xs := dU) (ys := mT) (bs := []) (io := false) (nn := fun n x => E5 n x) (st := fun g x => Gu g x) Tryz.func44 rfl (by kernel_rfl) (fun _ => rfl) (fun _ => rfl) fun g hg => DY (ct := (.q (.q (.j (.st false ⟨[(3,false,AG)],[],[]⟩) (.q (.b (.l ⟨[(3,false,AG),(4,false,AG)],[],[]⟩ (.q (.j (.st false ⟨[(3,false,AG)],[],[]⟩) .d .d))))) .d)))) Dz (Az hg Bc) Tryz.func44 (by kernel_rfl) fun x => by kernel_rfl
def Eu (fRec : Tr31 → Option Int) (p0 : Tr31) : (Int × Int) → Option ((Int × Int) ⊕ Int)
  | (x4,x5) => (if x5 < (p0.un.2.2.2.2.length : Int) then (ix p0.un.2.2.2.2 x5).bind fun x6 => (fRec (Tr31.of (x6.un.1,f28 x6.un.2.1,x6.un.2.2.1,x6.un.2.2.2.1,x6.un.2.2.2.2))).bind fun x7 => some (.inl (Ae (x4 + x7),Ae (x5 + 1))) else some (.inr x4))
def Gq (fRec : Tr31 → Option Int) (p0 : Tr31) : Option Int := (if (decide (p0.un.1 < 2) || decide (4 < p0.un.1)) = true then (JU (f28 p0.un.2.1)).bind fun x2 => some (Ae (1 + x2)) else some 1).bind fun x1 => (Ac (Eu fRec p0) (x1,0)).bind fun x3 => some x3
def E8 : Nat → Tr31 → Option Int
  | 0 => fun _ => none
  | n + 1 => Gq (E8 n)
def Qi (p0 : Tr31) : Option Int := GY fun n => E8 n p0
theorem k33 : KO (K33 fun x => Qi x) 33 := Q7 (E := te) (xs := fG) (ys := jW) (bs := []) (io := false) (nn := fun n x => E8 n x) (st := fun g x => Gq g x) Tryz.func33 rfl (by kernel_rfl) (fun _ => rfl) (fun _ => rfl) fun g hg => DY (ct := (.q (.q (.j (.st false ⟨[(3,false,AG)],[],[]⟩) (.j (.bl [12]) .d .d) (.j (.st false ⟨[(3,false,AG)],[],[]⟩) (.q (.b (.l ⟨[(3,false,AG),(4,false,AG)],[],[]⟩ .d))) .d))))) Dz (Az hg (Az zO Bc)) Tryz.func33 (by kernel_rfl) fun x => by kernel_rfl
def I8 (p0 : Int) : Int := (if 1000 < p0 then 1000 else p0)
noncomputable def b83 : Code := (Tryz.f83.body).getD .skip
def uE : Ct := .d
abbrev K83 : Cn_ := ⟨o8,pV,[],false,fun x => some (I8 x),some ⟨fun x => I8 x,fun _ => rfl⟩⟩
theorem v83 (x : Int) : @Eq (Option Int) (dF te fN ([] : Gy te Tryz.prog) 6 b83 uE o8 pV [] false [.tmp 2] x).den (some (I8 x)) := by simp only [I8,apply_ite (some : Int → _)]; kernel_rfl
theorem k83 : KO (K83) 83 := dK Dz Bc Tryz.func83 (by kernel_rfl) Tryz.ntmps83 rfl rfl rfl (by kernel_rfl) v83
def Es (fRec : Tr31 → Option Int) (p0 : Tr31) : (Int × Int) → Option ((Int × Int) ⊕ Int)
  | (x3,x4) => (if x4 < (p0.un.2.2.2.2.length : Int) then ((ix p0.un.2.2.2.2 x4).bind fun x6 => (fRec (Tr31.of (x6.un.1,f28 x6.un.2.1,x6.un.2.2.1,x6.un.2.2.2.1,x6.un.2.2.2.2))).bind fun x7 => (if p0.un.1 = 3 then some (I8 (Ae (x3 * x7))) else some x3).bind fun x8 => (if p0.un.1 = 4 then some (I8 (Ae (x8 + x7))) else some x8).bind fun x9 => (if (decide (p0.un.1 = 5) && decide (x9 < x7)) = true then some x7 else some x9)).bind fun x5 => some (.inl (x5,Ae (x4 + 1))) else some (.inr x3))
def Gg (fRec : Tr31 → Option Int) (p0 : Tr31) : Option Int := (if (decide (p0.un.1 < 3) || decide (5 < p0.un.1)) = true then some 1 else (if p0.un.1 = 3 then some 1 else some 0).bind fun x1 => (Ac (Es fRec p0) (x1,0)).bind fun x2 => some x2)
def EG : Nat → Tr31 → Option Int
  | 0 => fun _ => none
  | n + 1 => Gg (EG n)
def P7 (p0 : Tr31) : Option Int := GY fun n => EG n p0
theorem k45 : KO (K45 fun x => P7 x) 45 := Q7 (E := te) (xs := eU) (ys := lR) (bs := []) (io := false) (nn := fun n x => EG n x) (st := fun g x => Gg g x) Tryz.func45 rfl (by kernel_rfl) (fun _ => rfl) (fun _ => rfl) fun g hg => DY (ct := (.q (.s (.j (.bl [13]) .d .d) (.q (.j (.st false ⟨[(3,false,AG)],[],[]⟩) .d (.j (.st false ⟨[(3,false,AG)],[],[]⟩) (.q (.b (.l ⟨[(3,false,AG),(4,false,AG)],[],[]⟩ (.q (.j (.st false ⟨[(3,false,AG)],[],[]⟩) (.b (.q (.j (.st false ⟨[(3,false,AG)],[],[]⟩) .d (.j (.st false ⟨[(3,false,AG)],[],[]⟩) .d (.j (.bl [51]) .d .d))))) .d))))) .d)))))) Dz (Az hg (Az k83 Bc)) Tryz.func45 (by kernel_rfl) fun x => by kernel_rfl
def LK (p0 : Tr31) : Option Bool := ((NS (Tr31.of (p0.un.1,f28 p0.un.2.1,p0.un.2.2.1,p0.un.2.2.2.1,p0.un.2.2.2.2))).bind fun x2 => (if x2 = true then (Q2 (Tr31.of (p0.un.1,f28 p0.un.2.1,p0.un.2.2.1,p0.un.2.2.2.1,p0.un.2.2.2.2))).bind fun x3 => (if x3 ≤ 8 then (Qi (Tr31.of (p0.un.1,f28 p0.un.2.1,p0.un.2.2.1,p0.un.2.2.2.1,p0.un.2.2.2.2))).bind fun x4 => (if x4 ≤ 64 then (P7 (Tr31.of (p0.un.1,f28 p0.un.2.1,p0.un.2.2.1,p0.un.2.2.2.1,p0.un.2.2.2.2))).bind fun x5 => some (decide (x5 ≤ 64)) else some false) else some false) else some false)).bind fun x1 => some x1
abbrev K13 : Cn_ := ⟨[VO],[ID],[],false,fun x => LK x,none⟩
theorem k13 : KO (K13) 13 := DY (ct := (.q (.j (.st false ⟨[(2,false,EK)],[],[]⟩) .d .d))) Dz (Az k43 (Az k44 (Az k33 (Az k45 Bc)))) Tryz.func13 (by kernel_rfl) fun x => by kernel_rfl
theorem zU : Bt Tryz.prog 39 [Jint 0,Jint 0,Jint 0,Jint 0,.slice none 0 0,Jint 0,Jint 0,.slice none 0 0] [(0,1),(1,4),(5,1),(6,1),(7,1)] := ⟨⟨.agg #[Jint 0,Jint 0,Jint 0,Jint 0,.slice none 0 0,Jint 0,Jint 0,.slice none 0 0],by kernel_rfl,rfl⟩,⟨_,fJ,fun w => by kernel_rfl⟩⟩
theorem nJ : (Tryz.prog.info? 39).bind (·.zero) = some (.agg #[Jint 0,Jint 0,Jint 0,Jint 0,.slice none 0 0,Jint 0,Jint 0,.slice none 0 0]) := by kernel_rfl
theorem fU : Ty Tryz.prog 39 true 8 := ⟨by kernel_rfl,by kernel_rfl⟩
abbrev fB : Rp (Int × Int × Int × (Value × List Tr36)) := (Rp.pair ri (Rp.pair ri (Rp.pair ri (Rp.vsl KE))))
abbrev sW (p : Int × Int × Int × (Value × List Tr36)) : Tr36 := (Tr36.of (p.1,p.2.1,p.2.2.1,p.2.2.2.2))
theorem V0 : Ex KE fB sW := (Ex.knot ZQ (of := Tr36.of) (fun _ => rfl) (fun x => by cases x; rfl) (Ex.pair Ex.rfl' (Ex.pair Ex.rfl' (Ex.pair Ex.rfl' Ex.sliceF))))
abbrev aE : Rp (Int × (Int × Int × Int × (Value × List Tr36)) × Int × Int × (Value × List Tr39)) := (Rp.pair ri (Rp.pair fB (Rp.pair ri (Rp.pair ri (Rp.vsl KG)))))
abbrev yU (p : Int × (Int × Int × Int × (Value × List Tr36)) × Int × Int × (Value × List Tr39)) : Tr39 := (Tr39.of (p.1,(Tr36.of (p.2.1.1,p.2.1.2.1,p.2.1.2.2.1,p.2.1.2.2.2.2)),p.2.2.1,p.2.2.2.1,p.2.2.2.2.2))
theorem Ry : Ex KG aE yU := (Ex.knot eG (of := Tr39.of) (fun _ => rfl) (fun x => by cases x; rfl) (Ex.pair Ex.rfl' (Ex.pair (Ex.knot ZQ (of := Tr36.of) (fun _ => rfl) (fun x => by cases x; rfl) (Ex.pair Ex.rfl' (Ex.pair Ex.rfl' (Ex.pair Ex.rfl' Ex.sliceF)))) (Ex.pair Ex.rfl' (Ex.pair Ex.rfl' Ex.sliceF)))))
def B8 (fRec_check_Cut : Tr36 → Int → Option Tr36) (p0 : List Tr36) (p1 : Int) : (List Tr36 × Int) → Option ((List Tr36 × Int) ⊕ (List Tr36))
  | (x2,x3) => (if x3 < (p0.length : Int) then (ix p0 x3).bind fun x4 => (fRec_check_Cut x4 p1).bind fun x5 => (Fy x2 ([x5] : List Tr36)).bind fun x6 => some (.inl (x6,Ae (x3 + 1))) else some (.inr x2))
def Do (fRec_check_Cut : Tr36 → Int → Option Tr36) (p0 : List Tr36) (p1 : Int) : Option (List Tr36) := (Ac (B8 fRec_check_Cut p0 p1) ([],0)).bind fun x1 => some x1
def HY (fRec_check_Cut : Tr36 → Int → Option Tr36) (p0 : List Tr36) (p1 : Int) : (List Tr36 × Int) → Option ((List Tr36 × Int) ⊕ (List Tr36))
  | (x2,x3) => (if x3 < (p0.length : Int) then (ix p0 x3).bind fun x4 => (fRec_check_Cut (f36 x4) p1).bind fun x5 => (Fy x2 ([f36 x5] : List Tr36)).bind fun x6 => some (.inl (x6,Ae (x3 + 1))) else some (.inr x2))
theorem MT : @HY = @B8 := by
 unfold HY B8
 simp only [Tr36.re_eq]
def Mi (fRec_check_Cut : Tr36 → Int → Option Tr36) (p0 : List Tr36) (p1 : Int) : Option (List Tr36) := (Ac (HY fRec_check_Cut p0 p1) ([],0)).bind fun x1 => some x1
theorem QO : @Mi = @Do := by
 unfold Mi Do
 simp only [MT]
abbrev K50 (h22 : TT te.c (Dy XD []) → Option (TT te.c (H4 XD fP [] false))) : Cn_ := ⟨[Ra,D6],[(.b false,[.o 36 TP])],[],false,fun x => Do (fun yp0 yp1 => h22 (yp0,yp1)) x.1 x.2,none⟩
theorem k50 (h22) (kh22 : KO (zI h22) 22) : KO (K50 h22) 50 := DY (ct := (.q (.q (.j (.st false ⟨[(5,false,[.o 36 TP])],[],[]⟩) (.q (.b (.l ⟨[(5,false,[.o 36 TP]),(10,false,AG)],[],[]⟩ .d))) .d)))) Dz (Az kh22 Bc) Tryz.func50 (by kernel_rfl) fun x => by rw [← QO]; kernel_rfl
def Ao (p0 : Bool) : Tr36 := (if p0 = true then Tr36.of (1,0,0,([] : List Tr36)) else Tr36.of (2,0,0,([] : List Tr36)))
noncomputable def b51 : Code := (Tryz.f51.body).getD .skip
def tO : Ct := .d
abbrev K51 : Cn_ := ⟨p7,pG,[],false,fun x => some (Ao x),some ⟨fun x => Ao x,fun _ => rfl⟩⟩
theorem v51 (x : Bool) : @Eq (Option Tr36) (dF te fN ([] : Gy te Tryz.prog) 6 b51 tO p7 pG [] false [.cell 2 36] x).den (some (Ao x)) := by simp only [Ao,apply_ite (some : Tr36 → _)]; kernel_rfl
theorem k51 : KO (K51) 51 := dK Dz Bc Tryz.func51 (by kernel_rfl) Tryz.ntmps51 rfl rfl rfl (by kernel_rfl) v51
def EH (p0 : Tr36) (p1 : Int) : Bool := decide (p0.un.1 = p1)
abbrev K85 : Cn_ := ⟨[Ll,(.p,[])],[ID],[(false,[.d true Ht])],false,fun x => some (EH x.1 x.2),some ⟨fun x => EH x.1 x.2,fun _ => rfl⟩⟩
theorem k85 : KO (K85) 85 := DY (ct := .d) Dz Bc Tryz.func85 (by kernel_rfl) fun x => by kernel_rfl
def AJ (p0 : List Tr36) (p1c0 : Int) : Int → Option (Int ⊕ (Unit ⊕ Int))
  | x1 => (if x1 < (p0.length : Int) then (ix p0 x1).bind fun x2 => (if (EH x2 p1c0) = true then some (.inr (.inr x1)) else some (.inl (Ae (x1 + 1)))) else some (.inr (.inl ())))
def A3 (p0 : List Tr36) (p1c0 : Int) : Option Int := Hc (Ac (AJ p0 p1c0) 0) fun _ => some (-1)
def CS (p0 : List Tr36) (p1c0 : Int) : Int → Option (Int ⊕ (Unit ⊕ Int))
  | x1 => (if x1 < (p0.length : Int) then (ix p0 x1).bind fun x2 => (if (EH (f36 x2) p1c0) = true then some (.inr (.inr x1)) else some (.inl (Ae (x1 + 1)))) else some (.inr (.inl ())))
theorem FY : @CS = @AJ := by
 unfold CS AJ
 simp only [Tr36.re_eq]
def Eh (p0 : List Tr36) (p1c0 : Int) : Option Int := Hc (Ac (CS p0 p1c0) 0) fun _ => some (-1)
theorem Gh : @Eh = @A3 := by
 unfold Eh A3
 simp only [FY]
abbrev xZ : Cn_ := ⟨[Ra,(.fn 85 [] 1,[])],[IP],[(false,[.d true Ht])],false,fun x => A3 x.1 x.2,none⟩
theorem yZ : KO (xZ) 110 := DY (ct := (.q (.j (.st true ⟨[],[],[]⟩) (.q (.b (.l ⟨[(8,false,AG)],[],[]⟩ .d))) .d))) Dz (Az k85 Bc) Tryz.func110 (by kernel_rfl) fun x => by rw [← Gh]; kernel_rfl
def A6 (p0 : List Tr36) (p1c0 : Int) : Option Bool := (A3 p0 p1c0).bind fun x1 => some (decide (0 ≤ x1))
abbrev K84 : Cn_ := ⟨[Ra,(.fn 85 [] 1,[])],[ID],[(false,[.d true Ht])],false,fun x => A6 x.1 x.2,none⟩
theorem k84 : KO (K84) 84 := DY (ct := .d) Dz (Az yZ Bc) Tryz.func84 (by kernel_rfl) fun x => by kernel_rfl
def D4 (p0 : Tr36) (p1 : Int) : Bool := decide (p0.un.1 ≠ p1)
abbrev K87 : Cn_ := ⟨[Ll,(.p,[])],[ID],[(false,[.d true Ht])],false,fun x => some (D4 x.1 x.2),some ⟨fun x => D4 x.1 x.2,fun _ => rfl⟩⟩
theorem k87 : KO (K87) 87 := DY (ct := .d) Dz Bc Tryz.func87 (by kernel_rfl) fun x => by kernel_rfl
def CW (p0 : List Tr36) (p1c0 : Int) : (List Tr36 × Int) → Option ((List Tr36 × Int) ⊕ (List Tr36))
  | (x2,x3) => (if x3 < (p0.length : Int) then ((ix p0 x3).bind fun x5 => (if (D4 x5 p1c0) = true then (Fy x2 ([x5] : List Tr36)).bind fun x6 => some x6 else some x2)).bind fun x4 => some (.inl (x4,Ae (x3 + 1))) else some (.inr x2))
def DF (p0 : List Tr36) (p1c0 : Int) : Option (List Tr36) := (Ac (CW p0 p1c0) ([],0)).bind fun x1 => some x1
def Hi (p0 : List Tr36) (p1c0 : Int) : (List Tr36 × Int) → Option ((List Tr36 × Int) ⊕ (List Tr36))
  | (x2,x3) => (if x3 < (p0.length : Int) then ((ix p0 x3).bind fun x5 => (if (D4 (f36 x5) p1c0) = true then (Fy x2 ([f36 x5] : List Tr36)).bind fun x6 => some x6 else some x2)).bind fun x4 => some (.inl (x4,Ae (x3 + 1))) else some (.inr x2))
theorem L9 : @Hi = @CW := by
 unfold Hi CW
 simp only [Tr36.re_eq]
def KB (p0 : List Tr36) (p1c0 : Int) : Option (List Tr36) := (Ac (Hi p0 p1c0) ([],0)).bind fun x1 => some x1
theorem N6 : @KB = @DF := by
 unfold KB DF
 simp only [L9]
abbrev K86 : Cn_ := ⟨[(.b false,[.d false (.sl TP)]),(.fn 87 [] 1,[])],[(.b false,[.o 36 TP])],[(false,[.d true Ht])],false,fun x => DF x.1 x.2,none⟩
theorem k86 : KO (K86) 86 := DY (ct := (.q (.q (.j (.st false ⟨[(5,false,[.o 36 TP])],[],[]⟩) (.q (.b (.l ⟨[(5,false,[.o 36 TP]),(10,false,AG)],[],[]⟩ (.q (.q (.j (.st false ⟨[(5,false,[.o 36 TP])],[],[]⟩) .d .d)))))) .d)))) Dz (Az k87 Bc) Tryz.func86 (by kernel_rfl) fun x => by rw [← N6]; kernel_rfl
def Cn (p0 : Int) (p1 : List Tr36) (p2 : Int) (p3 : Int) : Option Tr36 := (A6 p1 p3).bind fun x1 => (if x1 = true then some (Tr36.of (p3,0,0,([] : List Tr36))) else (DF p1 p2).bind fun x2 => (if (x2.length : Int) = 0 then some (Tr36.of (p2,0,0,([] : List Tr36))) else (if (x2.length : Int) = 1 then (ix x2 0).bind fun x3 => some x3 else some (Tr36.of (p0,0,0,x2)))))
def I2 (p0 : Int) (p1 : List Tr36) (p2 : Int) (p3 : Int) : Option Tr36 := (A6 p1 p3).bind fun x1 => (if x1 = true then some (Tr36.of (p3,0,0,([] : List Tr36))) else (DF p1 p2).bind fun x2 => (if (x2.length : Int) = 0 then some (Tr36.of (p2,0,0,([] : List Tr36))) else (if (x2.length : Int) = 1 then (ix x2 0).bind fun x3 => some (f36 x3) else some (Tr36.of (p0,0,0,x2)))))
theorem MP : @I2 = @Cn := by
 unfold I2 Cn
 simp only [Tr36.re_eq]
abbrev K52 : Cn_ := ⟨[D6,(.b false,[.d false (.sl TP)]),D6,D6],[(.b true,[.d false TP])],[],false,fun x => Cn x.1 x.2.1 x.2.2.1 x.2.2.2,none⟩
theorem k52 : KO (K52) 52 := DY (ct := .d) Dz (Az k84 (Az k86 Bc)) Tryz.func52 (by kernel_rfl) fun x => by rw [← MP]; kernel_rfl
def DE (fRec : Tr36 → Int → Option Tr36) (p0 : Tr36) (p1 : Int) : Option Tr36 := ((Do fRec) p0.un.2.2.2 p1).bind fun x1 => Hc (if p0.un.1 = 3 then (if p0.un.2.1 = 5 then some (.inr (Tr36.of ((Ao (decide (p0.un.2.2.1 = p1))).un.1,(Ao (decide (p0.un.2.2.1 = p1))).un.2.1,(Ao (decide (p0.un.2.2.1 = p1))).un.2.2.1,(Ao (decide (p0.un.2.2.1 = p1))).un.2.2.2))) else some (.inl ())) else (if p0.un.1 = 4 then (if (x1.length : Int) = 1 then (ix x1 0).bind fun x3 => some (decide (x3.un.1 = 1)) else some false).bind fun x2 => (if x2 = true then some (.inr (Tr36.of ((Ao false).un.1,(Ao false).un.2.1,(Ao false).un.2.2.1,(Ao false).un.2.2.2))) else (if (x1.length : Int) = 1 then (ix x1 0).bind fun x5 => some (decide (x5.un.1 = 2)) else some false).bind fun x4 => (if x4 = true then some (.inr (Tr36.of ((Ao true).un.1,(Ao true).un.2.1,(Ao true).un.2.2.1,(Ao true).un.2.2.2))) else some (.inl ()))) else (if p0.un.1 = 5 then (Cn p0.un.1 x1 1 2).bind fun x6 => some (.inr x6) else (if p0.un.1 = 6 then (Cn p0.un.1 x1 2 1).bind fun x7 => some (.inr x7) else some (.inl ()))))) fun _ => some (Tr36.of (p0.un.1,p0.un.2.1,p0.un.2.2.1,x1))
def Dv : Nat → Tr36 → Int → Option Tr36
  | 0 => fun _ _ => none
  | n + 1 => DE (Dv n)
def J3 (p0 : Tr36) (p1 : Int) : Option Tr36 := GY fun n => Dv n p0 p1
def Md (fRec : Tr36 → Int → Option Tr36) (p0 : Tr36) (p1 : Int) : Option Tr36 := ((Do fRec) p0.un.2.2.2 p1).bind fun x1 => Hc (if p0.un.1 = 3 then (if p0.un.2.1 = 5 then some (.inr (Tr36.of ((Ao (decide (p0.un.2.2.1 = p1))).un.1,(Ao (decide (p0.un.2.2.1 = p1))).un.2.1,(Ao (decide (p0.un.2.2.1 = p1))).un.2.2.1,(Ao (decide (p0.un.2.2.1 = p1))).un.2.2.2))) else some (.inl ())) else (if p0.un.1 = 4 then (if (x1.length : Int) = 1 then (ix x1 0).bind fun x3 => some (decide (x3.un.1 = 1)) else some false).bind fun x2 => (if x2 = true then some (.inr (Tr36.of ((Ao false).un.1,(Ao false).un.2.1,(Ao false).un.2.2.1,(Ao false).un.2.2.2))) else (if (x1.length : Int) = 1 then (ix x1 0).bind fun x5 => some (decide (x5.un.1 = 2)) else some false).bind fun x4 => (if x4 = true then some (.inr (Tr36.of ((Ao true).un.1,(Ao true).un.2.1,(Ao true).un.2.2.1,(Ao true).un.2.2.2))) else some (.inl ()))) else (if p0.un.1 = 5 then (Cn p0.un.1 x1 1 2).bind fun x6 => some (.inr (f36 x6)) else (if p0.un.1 = 6 then (Cn p0.un.1 x1 2 1).bind fun x7 => some (.inr (f36 x7)) else some (.inl ()))))) fun _ => some (Tr36.of (p0.un.1,p0.un.2.1,p0.un.2.2.1,x1))
theorem QQ : @Md = @DE := by
 unfold Md DE
 simp only [Tr36.re_eq]
theorem k22 : KO (zI fun x => J3 x.1 x.2) 22 := Q7 (E := te) (xs := XD) (ys := fP) (bs := []) (io := false) (nn := fun n x => Dv n x.1 x.2) (st := fun g x => DE (fun yp0 yp1 => g (yp0,yp1)) x.1 x.2) Tryz.func22 rfl (by kernel_rfl) (fun _ => rfl) (fun _ => rfl) fun g hg => DY (ct := (.q (.q (.j (.st true ⟨[],[],[]⟩) (.q (.b (.q (.c .d (.q (.c (.s (.j (.st false ⟨[(33,false,EK)],[],[]⟩) .d .d) (.j (.st false ⟨[(44,false,EK)],[],[]⟩) .d .d)) .d)))))) .d)))) Dz (Az hg (Az (k50 _ hg) (Az k51 (Az k52 Bc)))) Tryz.func22 (by kernel_rfl) fun x => by rw [← QQ]; kernel_rfl
theorem lB : type_of% Tryz.underlying37 := Tryz.underlying37
theorem sI : Ty Tryz.prog 37 false 1 := ⟨by kernel_rfl,by kernel_rfl⟩
abbrev ZE (a : Int × (Int × Int × Int × (Value × List Tr36)) × Int × Int × (Value × List Tr39)) : List Value := [Jint a.1,Jint a.2.1.1,Jint a.2.1.2.1,Jint a.2.1.2.2.1,a.2.1.2.2.2.1,Jint a.2.2.1,Jint a.2.2.2.1,a.2.2.2.2.1]
theorem pS : GV aE ZE := (GV.pair Fl.int.to (GV.pair (GV.pair Fl.int.to (GV.pair Fl.int.to (GV.pair Fl.int.to GV.vsl))) (GV.pair Fl.int.to (GV.pair Fl.int.to GV.vsl))))
theorem sN : Et Tryz.prog 37 39 8 96 := Et.of lB (by kernel_rfl) (by kernel_rfl) (by kernel_rfl) (by decide)
abbrev Pz (a0 : Tr39) (a1 : Value) (a2 : Value) : List Value := [Jint a0.un.1,Jint a0.un.2.1.un.1,Jint a0.un.2.1.un.2.1,Jint a0.un.2.1.un.2.2.1,a1,Jint a0.un.2.2.1,Jint a0.un.2.2.2.1,a2]
abbrev UI  : List Value := [Jint 0,Jint 0,Jint 0,Jint 0,.slice none 0 0,Jint 0,Jint 0,.slice none 0 0]
def DK (fRec : Tr39 → Int → Option Tr39) (p0 : Tr39) (p1 : Int) : (List Tr39 × Int) → Option ((List Tr39 × Int) ⊕ (List Tr39))
  | (x11,x12) => (if x12 < (p0.un.2.2.2.2.length : Int) then (ix p0.un.2.2.2.2 x12).bind fun x13 => (fRec (Tr39.of (x13.un.1,f36 x13.un.2.1,x13.un.2.2.1,x13.un.2.2.2.1,x13.un.2.2.2.2)) p1).bind fun x14 => (Fy x11 ([Tr39.of (x14.un.1,f36 x14.un.2.1,x14.un.2.2.1,x14.un.2.2.2.1,x14.un.2.2.2.2)] : List Tr39)).bind fun x15 => some (.inl (x15,Ae (x12 + 1))) else some (.inr x11))
def ER (fRec : Tr39 → Int → Option Tr39) (p0 : Tr39) (p1 : Int) : Option Tr39 := (if (decide (p0.un.1 = 1) || decide (p0.un.1 = 5)) = true then (J3 (f36 p0.un.2.1) p1).bind fun x5 => some (x5.un.1,x5.un.2.1,x5.un.2.2.1,x5.un.2.2.2) else some (p0.un.2.1.un.1,p0.un.2.1.un.2.1,p0.un.2.1.un.2.2.1,p0.un.2.1.un.2.2.2)).bind fun (x1,x2,x3,x4) => (if (decide (p0.un.1 = 5) && (decide ((p0.un.2.2.2.2.length : Int) = 2) && decide (x1 = 1))) = true then (ix p0.un.2.2.2.2 0).bind fun x6 => (fRec (Tr39.of (x6.un.1,f36 x6.un.2.1,x6.un.2.2.1,x6.un.2.2.2.1,x6.un.2.2.2.2)) p1).bind fun x7 => some (Tr39.of (x7.un.1,f36 x7.un.2.1,x7.un.2.2.1,x7.un.2.2.2.1,x7.un.2.2.2.2)) else (if (decide (p0.un.1 = 5) && (decide ((p0.un.2.2.2.2.length : Int) = 2) && decide (x1 = 2))) = true then (ix p0.un.2.2.2.2 1).bind fun x8 => (fRec (Tr39.of (x8.un.1,f36 x8.un.2.1,x8.un.2.2.1,x8.un.2.2.2.1,x8.un.2.2.2.2)) p1).bind fun x9 => some (Tr39.of (x9.un.1,f36 x9.un.2.1,x9.un.2.2.1,x9.un.2.2.2.1,x9.un.2.2.2.2)) else (Ac (DK fRec p0 p1) ([],0)).bind fun x10 => some (Tr39.of (p0.un.1,Tr36.of (x1,x2,x3,x4),p0.un.2.2.1,p0.un.2.2.2.1,x10))))
def Dr : Nat → Tr39 → Int → Option Tr39
  | 0 => fun _ _ => none
  | n + 1 => ER (Dr n)
def GZ (p0 : Tr39) (p1 : Int) : Option Tr39 := GY fun n => Dr n p0 p1
theorem zN : KO (K18 fun x => GZ x.1 x.2) 18 := Q7 (E := te) (xs := gN) (ys := kG) (bs := []) (io := false) (nn := fun n x => Dr n x.1 x.2) (st := fun g x => ER (fun yp0 yp1 => g (yp0,yp1)) x.1 x.2) Tryz.func18 rfl (by kernel_rfl) (fun _ => rfl) (fun _ => rfl) fun g hg => DY (ct := (.q (.j (.st false ⟨[],[(0,[none,some (.d false Ht),some (.d false Ht),some (.d false Ht),some (.d false (.sl TP)),none,none,none])],[]⟩) (.j (.bl [15]) .d .d) (.s (.j (.bl [35]) .d .d) (.s (.j (.bl [56]) .d .d) (.q (.j (.st false ⟨[(5,false,[.o 39 (.tr 1)])],[],[]⟩) (.q (.b (.l ⟨[(5,false,[.o 39 (.tr 1)]),(66,false,AG)],[],[]⟩ .d))) .d))))))) Dz (Az hg (Az k22 Bc)) Tryz.func18 (by kernel_rfl) fun x => by kernel_rfl
def Fv (p0 : Int) : lb_ := (if p0 = 0 then ([115,114,99] : lb_) else (if p0 = 1 then ([100,115,116] : lb_) else (if p0 = 2 then ([107,105,110,100] : lb_) else (if p0 = 3 then ([116,97,103] : lb_) else (if p0 = 4 then ([112,111,114,116] : lb_) else (if p0 = 5 then ([115,119,105,116,99,104] : lb_) else ([63] : lb_)))))))
noncomputable def yN : Code := (Tryz.f106.body).getD .skip
def r6 : Ct := .d
abbrev yO : Cn_ := ⟨iR,iM,[],false,fun x => some (Fv x),some ⟨fun x => Fv x,fun _ => rfl⟩⟩
theorem xP (x : Int) : @Eq (Option lb_) (dF te fN ([] : Gy te Tryz.prog) 16 yN r6 iR iM [] false [.tmp 2] x).den (some (Fv x)) := by simp only [Fv,apply_ite (some : lb_ → _)]; kernel_rfl
theorem yD : KO (yO) 106 := dK Dz Bc Tryz.func106 (by kernel_rfl) Tryz.ntmps106 rfl rfl rfl (by kernel_rfl) xP
def D9 (fRec_pred_Text : Tr36 → Option lb_) (p0 : List Tr36) : (List lb_ × Int) → Option ((List lb_ × Int) ⊕ (List lb_))
  | (x2,x3) => (if x3 < (p0.length : Int) then (ix p0 x3).bind fun x4 => (fRec_pred_Text x4).bind fun x5 => (if (decide (x4.un.1 = 5) || decide (x4.un.1 = 6)) = true then (Fy ([40] : lb_) x5).bind fun x7 => (Fy x7 ([41] : lb_)).bind fun x8 => some x8 else some x5).bind fun x6 => (Fy x2 ([x6] : List lb_)).bind fun x9 => some (.inl (x9,Ae (x3 + 1))) else some (.inr x2))
def Fs (fRec_pred_Text : Tr36 → Option lb_) (p0 : List Tr36) (p1 : lb_) : Option lb_ := (Ac (D9 fRec_pred_Text p0) ([],0)).bind fun x1 => (Kv x1 p1).bind fun x10 => some x10
def Jl (fRec_pred_Text : Tr36 → Option lb_) (p0 : List Tr36) : (List lb_ × Int) → Option ((List lb_ × Int) ⊕ (List lb_))
  | (x2,x3) => (if x3 < (p0.length : Int) then (ix p0 x3).bind fun x4 => (fRec_pred_Text (f36 x4)).bind fun x5 => (if (decide (x4.un.1 = 5) || decide (x4.un.1 = 6)) = true then (Fy ([40] : lb_) x5).bind fun x7 => (Fy x7 ([41] : lb_)).bind fun x8 => some x8 else some x5).bind fun x6 => (Fy x2 ([x6] : List lb_)).bind fun x9 => some (.inl (x9,Ae (x3 + 1))) else some (.inr x2))
theorem Qz : @Jl = @D9 := by
 unfold Jl D9
 simp only [Tr36.re_eq]
def PJ (fRec_pred_Text : Tr36 → Option lb_) (p0 : List Tr36) (p1 : lb_) : Option lb_ := (Ac (Jl fRec_pred_Text p0) ([],0)).bind fun x1 => (Kv x1 p1).bind fun x10 => some x10
theorem UT : @PJ = @Fs := by
 unfold PJ Fs
 simp only [Qz]
abbrev tM (h72 : TT te.c (Dy Yk []) → Option (TT te.c (H4 Yk eI [] false))) : Cn_ := ⟨[Ra,(.b false,[.d true .str])],[Vg],[],false,fun x => Fs h72 x.1 x.2,none⟩
theorem wH (h72) (kh72 : KO (zD h72) 72) : KO (tM h72) 107 := DY (ct := (.q (.q (.j (.st false ⟨[(5,false,[.o 9 .str])],[],[]⟩) (.q (.b (.l ⟨[(5,false,[.o 9 .str]),(11,false,AG)],[],[]⟩ (.q (.q (.s (.b (.q (.q (.j (.st false ⟨[(8,false,[.d false .str])],[],[]⟩) (.j (.bl [24]) .d .d) .d)))) .d)))))) .d)))) Dz (Az kh72 (Az bH Bc)) Tryz.func107 (by kernel_rfl) fun x => by rw [← UT]; kernel_rfl
def FJ (fRec : Tr36 → Option lb_) (p0 : Tr36) : Option lb_ := (if p0.un.1 = 1 then some ([116,114,117,101] : lb_) else (if p0.un.1 = 2 then some ([102,97,108,115,101] : lb_) else (if p0.un.1 = 3 then (Fy (Fv p0.un.2.1) ([32,61,32] : lb_)).bind fun x1 => (QV p0.un.2.2.1).bind fun x2 => (Fy x1 x2).bind fun x3 => some x3 else (if p0.un.1 = 4 then ((Fs fRec) p0.un.2.2.2 ([] : lb_)).bind fun x4 => (Fy ([110,111,116,32] : lb_) x4).bind fun x5 => some x5 else (if p0.un.1 = 5 then ((Fs fRec) p0.un.2.2.2 ([32,97,110,100,32] : lb_)).bind fun x6 => some x6 else (if p0.un.1 = 6 then ((Fs fRec) p0.un.2.2.2 ([32,111,114,32] : lb_)).bind fun x7 => some x7 else some ([63] : lb_)))))))
def Gt : Nat → Tr36 → Option lb_
  | 0 => fun _ => none
  | n + 1 => FJ (Gt n)
def JX (p0 : Tr36) : Option lb_ := GY fun n => Gt n p0
theorem zT : KO (zD fun x => JX x) 72 := Q7 (E := te) (xs := Yk) (ys := eI) (bs := []) (io := false) (nn := fun n x => Gt n x) (st := fun g x => FJ g x) Tryz.func72 rfl (by kernel_rfl) (fun _ => rfl) (fun _ => rfl) fun g hg => DY (ct := .d) Dz (Az hg (Az yD (Az (wH _ hg) (Az Zo Bc)))) Tryz.func72 (by kernel_rfl) fun x => by kernel_rfl
def Ef (p0 : Tr36) : Option lb_ := (if p0.un.1 = 1 then some ([105,100] : lb_) else (if p0.un.1 = 2 then some ([100,114,111,112] : lb_) else (JX p0).bind fun x1 => (Fy ([119,104,101,110,32] : lb_) x1).bind fun x2 => some x2))
def IK (p0 : Tr36) : Option lb_ := (if p0.un.1 = 1 then some ([105,100] : lb_) else (if p0.un.1 = 2 then some ([100,114,111,112] : lb_) else (JX (f36 p0)).bind fun x1 => (Fy ([119,104,101,110,32] : lb_) x1).bind fun x2 => some x2))
theorem L6 : @IK = @Ef := by
 unfold IK Ef
 simp only [Tr36.re_eq]
abbrev K67 : Cn_ := ⟨[Ll],[Vg],[],false,fun x => Ef x,none⟩
theorem k67 : KO (K67) 67 := DY (ct := .d) Dz (Az zT Bc) Tryz.func67 (by kernel_rfl) fun x => by rw [← L6]; kernel_rfl
def EA (p0 : Int) : lb_ := (if p0 = 0 then ([115,114,99] : lb_) else (if p0 = 1 then ([100,115,116] : lb_) else (if p0 = 2 then ([107,105,110,100] : lb_) else (if p0 = 3 then ([116,97,103] : lb_) else (if p0 = 4 then ([112,111,114,116] : lb_) else ([63] : lb_))))))
noncomputable def b68 : Code := (Tryz.f68.body).getD .skip
def yI : Ct := .d
abbrev K68 : Cn_ := ⟨n6,rY,[],false,fun x => some (EA x),some ⟨fun x => EA x,fun _ => rfl⟩⟩
theorem v68 (x : Int) : @Eq (Option lb_) (dF te fN ([] : Gy te Tryz.prog) 14 b68 yI n6 rY [] false [.tmp 2] x).den (some (EA x)) := by simp only [EA,apply_ite (some : lb_ → _)]; kernel_rfl
theorem k68 : KO (K68) 68 := dK Dz Bc Tryz.func68 (by kernel_rfl) Tryz.ntmps68 rfl rfl rfl (by kernel_rfl) v68
def CB (fRec_policy_Text : Tr39 → Option lb_) (p0 : List Tr39) : (List lb_ × Int) → Option ((List lb_ × Int) ⊕ (List lb_))
  | (x2,x3) => (if x3 < (p0.length : Int) then (ix p0 x3).bind fun x4 => (fRec_policy_Text (Tr39.of (x4.un.1,f36 x4.un.2.1,x4.un.2.2.1,x4.un.2.2.2.1,x4.un.2.2.2.2))).bind fun x5 => (if (decide (x4.un.1 = 3) || (decide (x4.un.1 = 4) || decide (x4.un.1 = 5))) = true then (Fy ([40] : lb_) x5).bind fun x7 => (Fy x7 ([41] : lb_)).bind fun x8 => some x8 else some x5).bind fun x6 => (Fy x2 ([x6] : List lb_)).bind fun x9 => some (.inl (x9,Ae (x3 + 1))) else some (.inr x2))
def CT (fRec_policy_Text : Tr39 → Option lb_) (p0 : List Tr39) : Option (List lb_) := (Ac (CB fRec_policy_Text p0) ([],0)).bind fun x1 => some x1
abbrev K71 (h34 : TT te.c (Dy Yd []) → Option (TT te.c (H4 Yd gE [] false))) : Cn_ := ⟨[(.b false,[.d true (.sl (.tr 1))])],[(.b false,[.o 9 .str])],[],false,fun x => CT h34 x,none⟩
theorem k71 (h34) (kh34 : KO (z7 h34) 34) : KO (K71 h34) 71 := DY (ct := (.q (.q (.j (.st false ⟨[(3,false,[.o 9 .str])],[],[]⟩) (.q (.b (.l ⟨[(3,false,[.o 9 .str]),(9,false,AG)],[],[]⟩ (.q (.q (.s (.b (.q (.q (.j (.st false ⟨[(6,false,[.d false .str])],[],[]⟩) (.j (.bl [27]) .d .d) .d)))) .d)))))) .d)))) Dz (Az kh34 Bc) Tryz.func71 (by kernel_rfl) fun x => by kernel_rfl
def EE (fRec : Tr39 → Option lb_) (p0 : Tr39) : Option lb_ := (if p0.un.1 = 1 then (Ef (f36 p0.un.2.1)).bind fun x1 => some x1 else (if p0.un.1 = 2 then (Fy (EA p0.un.2.2.1) ([32,58,61,32] : lb_)).bind fun x2 => (QV p0.un.2.2.2.1).bind fun x3 => (Fy x2 x3).bind fun x4 => some x4 else (if p0.un.1 = 3 then ((CT fRec) p0.un.2.2.2.2).bind fun x5 => (Kv x5 ([59,32] : lb_)).bind fun x6 => some x6 else (if p0.un.1 = 4 then ((CT fRec) p0.un.2.2.2.2).bind fun x7 => (Kv x7 ([32,124,32] : lb_)).bind fun x8 => some x8 else (if p0.un.1 = 5 then (JX (f36 p0.un.2.1)).bind fun x9 => (Fy ([105,102,32] : lb_) x9).bind fun x10 => (Fy x10 ([32,116,104,101,110,32] : lb_)).bind fun x11 => ((CT fRec) p0.un.2.2.2.2).bind fun x12 => (Kv x12 ([32,101,108,115,101,32] : lb_)).bind fun x13 => (Fy x11 x13).bind fun x14 => some x14 else some ([63] : lb_))))))
def Fb : Nat → Tr39 → Option lb_
  | 0 => fun _ => none
  | n + 1 => EE (Fb n)
def FD (p0 : Tr39) : Option lb_ := GY fun n => Fb n p0
theorem k34 : KO (z7 fun x => FD x) 34 := Q7 (E := te) (xs := Yd) (ys := gE) (bs := []) (io := false) (nn := fun n x => Fb n x) (st := fun g x => EE g x) Tryz.func34 rfl (by kernel_rfl) (fun _ => rfl) (fun _ => rfl) fun g hg => DY (ct := .d) Dz (Az hg (Az zT (Az k67 (Az k68 (Az (k71 _ hg) (Az Zo (Az bH Bc))))))) Tryz.func34 (by kernel_rfl) fun x => by kernel_rfl
end
end Go.Proofs.YtgoifghhcekahaaGreatDoor
