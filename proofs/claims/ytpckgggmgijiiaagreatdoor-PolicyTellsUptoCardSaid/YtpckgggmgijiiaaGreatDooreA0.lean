/- The functions of layer 27, O7. Conditions: none. -/
import Derived.Test.YtpckgggmgijiiaaGreatDoorRows
import Derived.Test.YtpckgggmgijiiaaGreatDooreOT
import Derived.Test.YtpckgggmgijiiaaGreatDooreQT
import Derived.Test.YtpckgggmgijiiaaGreatDooreOD
import Derived.Test.YtpckgggmgijiiaaGreatDooreTR
import Derived.Test.YtpckgggmgijiiaaGreatDooreOG
import Derived.Test.YtpckgggmgijiiaaGreatDooreMS
import Derived.Test.YtpckgggmgijiiaaGreatDooreHZ
import Derived.Test.YtpckgggmgijiiaaGreatDooreOC
import Derived.Test.YtpckgggmgijiiaaGreatDooreVC
import Derived.Test.YtpckgggmgijiiaaGreatDooreOM
namespace Go.Proofs.YtpckgggmgijiiaaGreatDoor
noncomputable section
open Go Go.RowKit
set_option linter.unusedVariables false
set_option linter.unusedSimpArgs false
set_option maxRecDepth 20000
set_option maxHeartbeats 1600000
abbrev ri : Rp Int := Rp.int .i64
abbrev ca_ := Calls Tryz.prog
abbrev pp (b : Nat) : Value := .pointer (some ⟨b,0,none⟩)
abbrev sy (Y : Nat → Prop) (w0 : World) := Stw ⟨Y,[],w0⟩
abbrev lb_ := List UInt8
theorem nl {α : Type _} {l : List α} : List.Sublist [] l := List.nil_sublist _
theorem sr {α : Type _} {l : List α} : List.Sublist l l := List.Sublist.refl _
theorem sc {α : Type _} {a : α} {l m : List α} (h : List.Sublist l m) : List.Sublist (a :: l) (a :: m) := List.Sublist.cons_cons _ h
theorem qU : type_of% Tryz.underlying24 := Tryz.underlying24
theorem P3 : type_of% Tryz.underlying27 := Tryz.underlying27
theorem vY : type_of% Tryz.underlying34 := Tryz.underlying34
theorem jW : type_of% Tryz.underlying37 := Tryz.underlying37
theorem PZ : type_of% Tryz.underlying63 := Tryz.underlying63
theorem xJ : type_of% Tryz.underlying65 := Tryz.underlying65
theorem tN : type_of% Tryz.underlying123 := Tryz.underlying123
theorem uE : type_of% Tryz.underlying126 := Tryz.underlying126
inductive Tr24 : Type where
  | mk : Int → Int → Int → (List Tr24) → Tr24
def Tr24.un : Tr24 → Int × Int × Int × List Tr24
  | .mk a0 a1 a2 a3 => (a0,a1,a2,a3)
abbrev Tr24.of (p : Int × Int × Int × List Tr24) : Tr24 := .mk p.1 p.2.1 p.2.2.1 p.2.2.2
def Tr24.cnt : Tr24 → Nat
  | .mk _ _ _ a3 => 1 + ((a3.map Tr24.cnt).sum)
inductive Tr27 : Type where
  | mk : Int → Tr24 → Int → Int → (List Tr27) → Tr27
def Tr27.un : Tr27 → Int × Tr24 × Int × Int × List Tr27
  | .mk a0 a1 a2 a3 a4 => (a0,a1,a2,a3,a4)
abbrev Tr27.of (p : Int × Tr24 × Int × Int × List Tr27) : Tr27 := .mk p.1 p.2.1 p.2.2.1 p.2.2.2.1 p.2.2.2.2
def Tr27.cnt : Tr27 → Nat
  | .mk _ a1 _ _ a4 => 1 + (a1.cnt + (a4.map Tr27.cnt).sum)
abbrev o7 (r : Rp Tr24) : Rp (Int × Int × Int × List Tr24) := (Rp.pair ri (Rp.pair ri (Rp.pair ri (Rp.slice r))))
theorem Za : Kt o7 := (Kt.pair (Kt.const _) (Kt.pair (Kt.const _) (Kt.pair (Kt.const _) Kt.hole)))
abbrev Sn : Rp Tr24 := Rp.knot o7 Tr24.un Za
theorem rP {w : World} {A : Nat → Prop} {cs : List Value} {a : Tr24} : Sn.rep w A cs a ↔ (o7 Sn).rep w A cs a.un := F5 Za
abbrev qA (r : Rp Tr27) : Rp (Int × Tr24 × Int × Int × List Tr27) := (Rp.pair ri (Rp.pair Sn (Rp.pair ri (Rp.pair ri (Rp.slice r)))))
theorem fL : Kt qA := (Kt.pair (Kt.const _) (Kt.pair (Kt.const _) (Kt.pair (Kt.const _) (Kt.pair (Kt.const _) Kt.hole))))
abbrev U6 : Rp Tr27 := Rp.knot qA Tr27.un fL
theorem tV {w : World} {A : Nat → Prop} {cs : List Value} {a : Tr27} : U6.rep w A cs a ↔ (qA U6).rep w A cs a.un := F5 fL
inductive Tr34 : Type where
  | mk : Int → Int → Int → (List Tr34) → Tr34
def Tr34.un : Tr34 → Int × Int × Int × List Tr34
  | .mk a0 a1 a2 a3 => (a0,a1,a2,a3)
abbrev Tr34.of (p : Int × Int × Int × List Tr34) : Tr34 := .mk p.1 p.2.1 p.2.2.1 p.2.2.2
def Tr34.cnt : Tr34 → Nat
  | .mk _ _ _ a3 => 1 + ((a3.map Tr34.cnt).sum)
inductive Tr37 : Type where
  | mk : Int → Tr34 → Int → Int → (List Tr37) → Tr37
def Tr37.un : Tr37 → Int × Tr34 × Int × Int × List Tr37
  | .mk a0 a1 a2 a3 a4 => (a0,a1,a2,a3,a4)
abbrev Tr37.of (p : Int × Tr34 × Int × Int × List Tr37) : Tr37 := .mk p.1 p.2.1 p.2.2.1 p.2.2.2.1 p.2.2.2.2
abbrev f24 (x : Tr24) : Tr24 := Tr24.of (x.un.1,x.un.2.1,x.un.2.2.1,x.un.2.2.2)
abbrev f34 (x : Tr34) : Tr34 := Tr34.of (x.un.1,x.un.2.1,x.un.2.2.1,x.un.2.2.2)
def Tr37.cnt : Tr37 → Nat
  | .mk _ a1 _ _ a4 => 1 + (a1.cnt + (a4.map Tr37.cnt).sum)
abbrev nI (r : Rp Tr34) : Rp (Int × Int × Int × List Tr34) := (Rp.pair ri (Rp.pair ri (Rp.pair ri (Rp.slice r))))
theorem cH : Kt nI := (Kt.pair (Kt.const _) (Kt.pair (Kt.const _) (Kt.pair (Kt.const _) Kt.hole)))
abbrev Kq : Rp Tr34 := Rp.knot nI Tr34.un cH
theorem pG {w : World} {A : Nat → Prop} {cs : List Value} {a : Tr34} : Kq.rep w A cs a ↔ (nI Kq).rep w A cs a.un := F5 cH
abbrev nG (r : Rp Tr37) : Rp (Int × Tr34 × Int × Int × List Tr37) := (Rp.pair ri (Rp.pair Kq (Rp.pair ri (Rp.pair ri (Rp.slice r)))))
theorem kA : Kt nG := (Kt.pair (Kt.const _) (Kt.pair (Kt.const _) (Kt.pair (Kt.const _) (Kt.pair (Kt.const _) Kt.hole))))
abbrev Iv : Rp Tr37 := Rp.knot nG Tr37.un kA
theorem oD {w : World} {A : Nat → Prop} {cs : List Value} {a : Tr37} : Iv.rep w A cs a ↔ (nG Iv).rep w A cs a.un := F5 kA
abbrev wA : Rp (Int × Int × Int × Int) := (Rp.pair ri (Rp.pair ri (Rp.pair ri ri)))
abbrev Hn : Rp (Int × (Int × Int × Int × Int)) := (Rp.pair ri wA)
theorem Tr34.re_eq (x : Tr34) : f34 x = x := by cases x; rfl
theorem Tr37.re_eq (x : Tr37) : Tr37.of (x.un.1,x.un.2.1,x.un.2.2.1,x.un.2.2.2.1,x.un.2.2.2.2) = x := by cases x; rfl
theorem Tr24.re_eq (x : Tr24) : f24 x = x := by cases x; rfl
theorem Tr27.re_eq (x : Tr27) : Tr27.of (x.un.1,x.un.2.1,x.un.2.2.1,x.un.2.2.2.1,x.un.2.2.2.2) = x := by cases x; rfl
def ttk : Tt := ([(24,[(0,false,1),(1,false,1),(2,false,1),(3,false,1)]),(27,[(0,false,1),(1,true,4),(5,false,1),(6,false,1),(7,false,1)]),(34,[(0,false,1),(1,false,1),(2,false,1),(3,false,1)]),(37,[(0,false,1),(1,true,4),(5,false,1),(6,false,1),(7,false,1)]),(63,[(0,false,1),(1,true,4)]),(65,[(0,false,1)]),(123,[(0,false,1)]),(126,[(0,false,1),(1,false,1),(2,true,4)])],[(3,false,1),(9,false,1),(22,false,1),(24,true,4),(25,false,1),(27,true,8),(29,true,4),(32,false,1),(34,true,4),(35,false,1),(37,true,8),(63,true,5),(65,true,1),(123,true,1),(126,true,6),(150,false,1)])
theorem tk : TtOk Tryz.prog ttk := ⟨by kernel_rfl,by kernel_rfl⟩
abbrev Nr : U := (.int .i64)
abbrev bR : U := (.pr Nr (.pr Nr (.pr Nr (.pr Nr Nr))))
abbrev wK : U := (.pr Nr (.pr Nr (.pr Nr Nr)))
abbrev aE : U := (.sl bR)
abbrev EZ : GK × List CK := (.b false,[.d true Nr])
abbrev Lf : GK × List CK := (.b false,[.d false .bool])
abbrev LA : GK × List CK := (.b false,[.d false Nr])
abbrev Y0 : GK × List CK := (.b false,[.d true (.fn 41)])
abbrev Xp : GK × List CK := (.b true,[.d true (.tr 3)])
abbrev X5 : GK × List CK := (.b true,[.d true (.tr 0)])
abbrev WT : GK × List CK := (.b false,[.o 3 Nr])
abbrev PN : GK × List CK := (.b true,[.d true (.tr 1)])
abbrev P2 : GK × List CK := (.b false,[.d false .str])
abbrev SB : GK × List CK := (.b true,[.d true (.tr 2)])
abbrev bX : GK × List CK := (.b false,[.d true (.sl Nr)])
abbrev PJ : GK × List CK := (.b false,[.o 63 bR])
abbrev Xc : GK × List CK := (.b false,[.d true (.sl (.tr 0))])
abbrev Ta : GK × List CK := (.b true,[.d true wK])
abbrev V6 : GK × List CK := (.b false,[.d true aE])
abbrev dV : GK × List CK := (.b true,[.d true bR])
abbrev AZ : List CK := [.d false Nr]
abbrev FX : List CK := [.d false .bool]
abbrev UT : List CK := [.o 3 Nr]
abbrev IK : List CK := [.o 63 bR]
abbrev N6 : List CK := [.d false .str]
abbrev Sq : Type := Int × (Int × Int × Int × Int)
def teC : Nat → Type | 0 => Tr34 | 1 => Tr37 | 2 => Tr24 | 3 => Tr27 | _ => Unit
def teR : ∀ i,Rp (teC i) | 0 => Kq | 1 => Iv | 2 => Sn | 3 => U6 | _ + 4 => Rp.unit
def teU : Nat → U | 0 => (.pr (.int .i64) (.pr (.int .i64) (.pr (.int .i64) (.sl (.tr 0))))) | 1 => (.pr (.int .i64) (.pr (.tr 0) (.pr (.int .i64) (.pr (.int .i64) (.sl (.tr 1)))))) | 2 => (.pr (.int .i64) (.pr (.int .i64) (.pr (.int .i64) (.sl (.tr 2))))) | 3 => (.pr (.int .i64) (.pr (.tr 2) (.pr (.int .i64) (.pr (.int .i64) (.sl (.tr 3)))))) | _ => .unit
def te : TE := ⟨teC,teR,teU,fun i => match i with | 0 => Tr34.un | 1 => Tr37.un | 2 => Tr24.un | 3 => Tr27.un | _ + 4 => fun x => x,fun i => match i with | 0 => Tr34.of | 1 => Tr37.of | 2 => Tr24.of | 3 => Tr27.of | _ + 4 => fun x => x,
  fun i x => match i with | 0 => rfl | 1 => rfl | 2 => rfl | 3 => rfl | _ + 4 => rfl,fun i w A cs a => match i with | 0 => F5 cH | 1 => F5 kA | 2 => F5 Za | 3 => F5 fL | _ + 4 => Iff.rfl,Gk,Gk.go⟩
abbrev Cn_ := Con te Tryz.prog
def nK : Tb := ⟨ttk,[(22,24,(.tr 2),48),(25,27,(.tr 3),96),(32,34,(.tr 0),48),(35,37,(.tr 1),96),(45,63,(.pr (.int .i64) (.pr (.int .i64) (.pr (.int .i64) (.pr (.int .i64) (.int .i64))))),40),(49,3,(.int .i64),8),(89,9,.str,16)],[(2,[.int .i64 0]),(3,[.int .i64 0]),(4,[.bool (.lit false)]),(5,[.int .u8 0]),(6,[.int .u8 0]),(9,[.str []]),(22,[.nil]),(24,[.int .i64 0,.int .i64 0,.int .i64 0,.nil]),(25,[.nil]),(27,[.int .i64 0,.int .i64 0,.int .i64 0,.int .i64 0,.nil,.int .i64 0,.int .i64 0,.nil]),(29,[.int .i64 0,.int .i64 0,.int .i64 0,.int .i64 0]),(32,[.nil]),(34,[.int .i64 0,.int .i64 0,.int .i64 0,.nil]),(35,[.nil]),(37,[.int .i64 0,.int .i64 0,.int .i64 0,.int .i64 0,.nil,.int .i64 0,.int .i64 0,.nil]),(45,[.nil]),(49,[.nil]),(63,[.int .i64 0,.int .i64 0,.int .i64 0,.int .i64 0,.int .i64 0]),(65,[.int .i64 0]),(89,[.nil]),(104,[.int .u64 0]),(123,[.int .i64 0]),(126,[.int .i64 0,.int .i64 0,.int .i64 0,.int .i64 0,.int .i64 0,.int .i64 0]),(128,[.int .i64 0]),(136,[.int .u32 0]),(138,[.int .u64 0]),(150,[.int .u64 0])],[(2,.i64),(3,.i64),(5,.u8),(6,.u8),(104,.u64),(128,.i64),(136,.u32),(138,.u64),(150,.u64)],[(9,())],[4],[(24,[.int .i64 0,.int .i64 0,.int .i64 0,.nil],[(0,1),(1,1),(2,1),(3,1)]),(27,[.int .i64 0,.int .i64 0,.int .i64 0,.int .i64 0,.nil,.int .i64 0,.int .i64 0,.nil],[(0,1),(1,4),(5,1),(6,1),(7,1)]),(34,[.int .i64 0,.int .i64 0,.int .i64 0,.nil],[(0,1),(1,1),(2,1),(3,1)]),(37,[.int .i64 0,.int .i64 0,.int .i64 0,.int .i64 0,.nil,.int .i64 0,.int .i64 0,.nil],[(0,1),(1,4),(5,1),(6,1),(7,1)]),(63,[.int .i64 0,.int .i64 0,.int .i64 0,.int .i64 0,.int .i64 0],[(0,1),(1,4)]),(65,[.int .i64 0],[(0,1)]),(123,[.int .i64 0],[(0,1)]),(126,[.int .i64 0,.int .i64 0,.int .i64 0,.int .i64 0,.int .i64 0,.int .i64 0],[(0,1),(1,1),(2,4)])]⟩
theorem MOx : Tryz.prog.follows .mixedOrders = true := by kernel_rfl
theorem En : TbOk te Tryz.prog nK := ⟨MOx,⟨by kernel_rfl,by kernel_rfl⟩,by kernel_rfl,by kernel_rfl,by kernel_rfl,by kernel_rfl,⟨⟨fun _ _ _ => ⟨⟨.agg #[Jint 0,Jint 0,Jint 0,.slice none 0 0],by kernel_rfl,rfl⟩,⟨_,qU,fun w => by kernel_rfl⟩⟩,rfl⟩,⟨⟨fun _ _ _ => ⟨⟨.agg #[Jint 0,Jint 0,Jint 0,Jint 0,.slice none 0 0,Jint 0,Jint 0,.slice none 0 0],by kernel_rfl,rfl⟩,⟨_,P3,fun w => by kernel_rfl⟩⟩,rfl⟩,⟨⟨fun _ _ _ => ⟨⟨.agg #[Jint 0,Jint 0,Jint 0,.slice none 0 0],by kernel_rfl,rfl⟩,⟨_,vY,fun w => by kernel_rfl⟩⟩,rfl⟩,⟨⟨fun _ _ _ => ⟨⟨.agg #[Jint 0,Jint 0,Jint 0,Jint 0,.slice none 0 0,Jint 0,Jint 0,.slice none 0 0],by kernel_rfl,rfl⟩,⟨_,jW,fun w => by kernel_rfl⟩⟩,rfl⟩,⟨⟨fun _ _ _ => ⟨⟨.agg #[Jint 0,Jint 0,Jint 0,Jint 0,Jint 0],by kernel_rfl,rfl⟩,⟨_,PZ,fun w => by kernel_rfl⟩⟩,rfl⟩,⟨⟨fun _ _ _ => ⟨⟨.agg #[Jint 0],by kernel_rfl,rfl⟩,⟨_,xJ,fun w => by kernel_rfl⟩⟩,rfl⟩,⟨⟨fun _ _ _ => ⟨⟨.agg #[Jint 0],by kernel_rfl,rfl⟩,⟨_,tN,fun w => by kernel_rfl⟩⟩,rfl⟩,⟨⟨fun _ _ _ => ⟨⟨.agg #[Jint 0,Jint 0,Jint 0,Jint 0,Jint 0,Jint 0],by kernel_rfl,rfl⟩,⟨_,uE,fun w => by kernel_rfl⟩⟩,rfl⟩,trivial⟩⟩⟩⟩⟩⟩⟩⟩,ZU.mem ⟨⟨Jint 0,by kernel_rfl,fun _ _ _ => rfl,rfl⟩,⟨⟨Jint 0,by kernel_rfl,fun _ _ _ => rfl,rfl⟩,⟨⟨.bool false,by kernel_rfl,fun _ _ _ => rfl,rfl⟩,⟨⟨.int .u8 0,by kernel_rfl,fun _ _ _ => rfl,rfl⟩,⟨⟨.int .u8 0,by kernel_rfl,fun _ _ _ => rfl,rfl⟩,⟨⟨.string (bs ([] : lb_)),by kernel_rfl,fun _ _ _ => rfl,rfl⟩,⟨⟨.slice none 0 0,by kernel_rfl,fun _ _ _ => rfl,rfl⟩,⟨⟨.agg #[Jint 0,Jint 0,Jint 0,.slice none 0 0],by kernel_rfl,fun _ _ _ => rfl,rfl⟩,⟨⟨.slice none 0 0,by kernel_rfl,fun _ _ _ => rfl,rfl⟩,⟨⟨.agg #[Jint 0,Jint 0,Jint 0,Jint 0,.slice none 0 0,Jint 0,Jint 0,.slice none 0 0],by kernel_rfl,fun _ _ _ => rfl,rfl⟩,⟨⟨.agg #[Jint 0,Jint 0,Jint 0,Jint 0],by kernel_rfl,fun _ _ _ => rfl,rfl⟩,⟨⟨.slice none 0 0,by kernel_rfl,fun _ _ _ => rfl,rfl⟩,⟨⟨.agg #[Jint 0,Jint 0,Jint 0,.slice none 0 0],by kernel_rfl,fun _ _ _ => rfl,rfl⟩,⟨⟨.slice none 0 0,by kernel_rfl,fun _ _ _ => rfl,rfl⟩,⟨⟨.agg #[Jint 0,Jint 0,Jint 0,Jint 0,.slice none 0 0,Jint 0,Jint 0,.slice none 0 0],by kernel_rfl,fun _ _ _ => rfl,rfl⟩,⟨⟨.slice none 0 0,by kernel_rfl,fun _ _ _ => rfl,rfl⟩,⟨⟨.slice none 0 0,by kernel_rfl,fun _ _ _ => rfl,rfl⟩,⟨⟨.agg #[Jint 0,Jint 0,Jint 0,Jint 0,Jint 0],by kernel_rfl,fun _ _ _ => rfl,rfl⟩,⟨⟨.agg #[Jint 0],by kernel_rfl,fun _ _ _ => rfl,rfl⟩,⟨⟨.slice none 0 0,by kernel_rfl,fun _ _ _ => rfl,rfl⟩,⟨⟨.int .u64 0,by kernel_rfl,fun _ _ _ => rfl,rfl⟩,⟨⟨.agg #[Jint 0],by kernel_rfl,fun _ _ _ => rfl,rfl⟩,⟨⟨.agg #[Jint 0,Jint 0,Jint 0,Jint 0,Jint 0,Jint 0],by kernel_rfl,fun _ _ _ => rfl,rfl⟩,⟨⟨Jint 0,by kernel_rfl,fun _ _ _ => rfl,rfl⟩,⟨⟨.int .u32 0,by kernel_rfl,fun _ _ _ => rfl,rfl⟩,⟨⟨.int .u64 0,by kernel_rfl,fun _ _ _ => rfl,rfl⟩,⟨⟨.int .u64 0,by kernel_rfl,fun _ _ _ => rfl,rfl⟩,trivial⟩⟩⟩⟩⟩⟩⟩⟩⟩⟩⟩⟩⟩⟩⟩⟩⟩⟩⟩⟩⟩⟩⟩⟩⟩⟩⟩⟩
def j0 : Sh := [SB]
def nN : Sh := [LA]
abbrev K30 (g : TT te.c (CB j0 []) → Option (TT te.c (He j0 nN [] false))) : Cn_ := ⟨j0,nN,[],false,g,none⟩
def vE : Sh := [Xp]
def w6 : Sh := [LA]
abbrev K6 (g : TT te.c (CB vE []) → Option (TT te.c (He vE w6 [] false))) : Cn_ := ⟨vE,w6,[],false,g,none⟩
def sN : Sh := [Ta,EZ]
def uP : Sh := [LA]
def NH : Sh := [(.b true,[.d true (.pr Nr bR)]),X5]
def Vy : Sh := [Lf]
abbrev qM (g : TT te.c (CB NH []) → Option (TT te.c (He NH Vy [] false))) : Cn_ := ⟨NH,Vy,[],false,g,none⟩
def yZ : Sh := [Ta,EZ,EZ]
def vI : Sh := [(.b true,[.d false wK])]
def q7 : Sh := [EZ,EZ]
def tZ : Sh := [LA]
def xE : Sh := [dV,dV]
def vO : Sh := [LA]
def iY : Sh := [PJ,EZ,EZ,EZ,Y0]
def qE : Sh := []
abbrev K73 (g : TT te.c (CB iY []) → Option (TT te.c (He iY qE [] true))) : Cn_ := ⟨iY,qE,[],true,g,none⟩
def vV : Sh := [(.b true,[.d false (.tr 1)]),EZ,EZ,Ta]
def yL : Sh := [PJ]
def tU : Sh := [EZ]
def sV : Sh := [P2]
def ZS : Sh := [X5]
def iN : Sh := [P2]
abbrev zF (g : TT te.c (CB ZS []) → Option (TT te.c (He ZS iN [] false))) : Cn_ := ⟨ZS,iN,[],false,g,none⟩
def tS : Sh := [EZ]
def sH : Sh := [P2]
def ZL : Sh := [PN]
def i6 : Sh := [P2]
abbrev K25 (g : TT te.c (CB ZL []) → Option (TT te.c (He ZL i6 [] false))) : Cn_ := ⟨ZL,i6,[],false,g,none⟩
def Zi : Sh := [X5,X5]
def iU : Sh := [Lf]
abbrev K36 (g : TT te.c (CB Zi []) → Option (TT te.c (He Zi iU [] false))) : Cn_ := ⟨Zi,iU,[],false,g,none⟩
def kK : Sh := [(.p,[]),X5,EZ]
def oM : Sh := [Lf]
abbrev K90 (g : TT te.c (CB kK [(true,AZ)]) → Option (TT te.c (He kK oM [(true,AZ)] false))) : Cn_ := ⟨kK,oM,[(true,AZ)],false,g,none⟩
def kU : Sh := [X5]
def nS : Sh := [LA]
abbrev K34 (g : TT te.c (CB kU []) → Option (TT te.c (He kU nS [] false))) : Cn_ := ⟨kU,nS,[],false,g,none⟩
def iM : Sh := [(.p,[]),PN,EZ]
def qF : Sh := [Lf]
abbrev K31 (g : TT te.c (CB iM [(true,AZ)]) → Option (TT te.c (He iM qF [(true,AZ)] false))) : Cn_ := ⟨iM,qF,[(true,AZ)],false,g,none⟩
def kB : Sh := [PN]
def pB : Sh := [LA]
abbrev K15 (g : TT te.c (CB kB []) → Option (TT te.c (He kB pB [] false))) : Cn_ := ⟨kB,pB,[],false,g,none⟩
def xs7 : Sh := []
def ys7 : Sh := [Lf]
def kN : Sh := [SB]
def oL : Sh := [(.b true,[.d false (.tr 0)])]
abbrev K28 (g : TT te.c (CB kN []) → Option (TT te.c (He kN oL [] false))) : Cn_ := ⟨kN,oL,[],false,g,none⟩
def vX : Sh := [Xp]
def z6 : Sh := [(.b true,[.d false (.tr 1)])]
abbrev K8 (g : TT te.c (CB vX []) → Option (TT te.c (He vX z6 [] false))) : Cn_ := ⟨vX,z6,[],false,g,none⟩
def r7 : Sh := [EZ]
def sF : Sh := [LA]
def uJ : Sh := [EZ]
def uB : Sh := [LA]
def jZ : Sh := [SB]
def mW : Sh := [Lf]
abbrev K62 (g : TT te.c (CB jZ []) → Option (TT te.c (He jZ mW [] false))) : Cn_ := ⟨jZ,mW,[],false,g,none⟩
def gQ : Sh := [SB]
def qI : Sh := [LA]
abbrev K63 (g : TT te.c (CB gQ []) → Option (TT te.c (He gQ qI [] false))) : Cn_ := ⟨gQ,qI,[],false,g,none⟩
def jP : Sh := [SB,SB]
def mQ : Sh := [Lf]
abbrev K38 (g : TT te.c (CB jP []) → Option (TT te.c (He jP mQ [] false))) : Cn_ := ⟨jP,mQ,[],false,g,none⟩
def qH : Sh := [Xp]
def sR : Sh := [Lf]
abbrev K32 (g : TT te.c (CB qH []) → Option (TT te.c (He qH sR [] false))) : Cn_ := ⟨qH,sR,[],false,g,none⟩
def kH : Sh := [Xp]
def nH : Sh := [LA]
abbrev K14 (g : TT te.c (CB kH []) → Option (TT te.c (He kH nH [] false))) : Cn_ := ⟨kH,nH,[],false,g,none⟩
def jM : Sh := [Xp]
def nV : Sh := [LA]
abbrev K12 (g : TT te.c (CB jM []) → Option (TT te.c (He jM nV [] false))) : Cn_ := ⟨jM,nV,[],false,g,none⟩
def tY : Sh := [EZ]
def tI : Sh := [LA]
def gL : Sh := [Xp]
def pK : Sh := [LA]
abbrev K16 (g : TT te.c (CB gL []) → Option (TT te.c (He gL pK [] false))) : Cn_ := ⟨gL,pK,[],false,g,none⟩
def jR : Sh := [PN]
def oP : Sh := [LA]
abbrev K11 (g : TT te.c (CB jR []) → Option (TT te.c (He jR oP [] false))) : Cn_ := ⟨jR,oP,[],false,g,none⟩
def gS : Sh := [PN]
def mR : Sh := [LA]
abbrev K13 (g : TT te.c (CB gS []) → Option (TT te.c (He gS mR [] false))) : Cn_ := ⟨gS,mR,[],false,g,none⟩
def ZX : Sh := [PN,PN]
def iK : Sh := [Lf]
abbrev K17 (g : TT te.c (CB ZX []) → Option (TT te.c (He ZX iK [] false))) : Cn_ := ⟨ZX,iK,[],false,g,none⟩
def jI : Sh := [Xp,Xp]
def qJ : Sh := [Lf]
abbrev K18 (g : TT te.c (CB jI []) → Option (TT te.c (He jI qJ [] false))) : Cn_ := ⟨jI,qJ,[],false,g,none⟩
def vT : Sh := [EZ,EZ,EZ,Ta]
def vH : Sh := [LA]
def jV : Sh := [SB,EZ,EZ,Ta]
def oN : Sh := [Lf]
abbrev K45 (g : TT te.c (CB jV []) → Option (TT te.c (He jV oN [] false))) : Cn_ := ⟨jV,oN,[],false,g,none⟩
def yD : Sh := [Ta,EZ,EZ]
def yH : Sh := [(.b true,[.d false wK])]
def xN : Sh := [V6,dV]
def vM : Sh := [PJ]
def jD : Sh := [Xp,EZ,EZ,Ta]
def m8 : Sh := [(.b false,[.d false aE])]
abbrev K21 (g : TT te.c (CB jD []) → Option (TT te.c (He jD m8 [] false))) : Cn_ := ⟨jD,m8,[],false,g,none⟩
def yY : Sh := [V6,V6]
def zA : Sh := [Lf]
def Y5 : Sh := [X5,EZ]
def b5 : Sh := [WT]
abbrev vP (g : TT te.c (CB Y5 []) → Option (TT te.c (He Y5 b5 [] false))) : Cn_ := ⟨Y5,b5,[],false,g,none⟩
def xV : Sh := [WT]
def vK : Sh := []
def xP : Sh := [WT]
def vW : Sh := [WT]
def kR : Sh := [PN,EZ]
def mY : Sh := [WT]
abbrev K48 (g : TT te.c (CB kR []) → Option (TT te.c (He kR mY [] false))) : Cn_ := ⟨kR,mY,[],false,g,none⟩
def jT : Sh := [SB,EZ,EZ]
def oC : Sh := [Lf]
abbrev K81 (g : TT te.c (CB jT []) → Option (TT te.c (He jT oC [] false))) : Cn_ := ⟨jT,oC,[],false,g,none⟩
def gY : Sh := [Xp,EZ,EZ]
def p9 : Sh := [Lf]
abbrev K52 (g : TT te.c (CB gY []) → Option (TT te.c (He gY p9 [] false))) : Cn_ := ⟨gY,p9,[],false,g,none⟩
def nO : Sh := [EZ]
def t8 : Sh := [P2]
abbrev K61 (g : TT te.c (CB nO []) → Option (TT te.c (He nO t8 [] false))) : Cn_ := ⟨nO,t8,[],false,g,none⟩
def g8 : Sh := [SB]
def oJ : Sh := [P2]
abbrev K59 (g : TT te.c (CB g8 []) → Option (TT te.c (He g8 oJ [] false))) : Cn_ := ⟨g8,oJ,[],false,g,none⟩
def iE : Sh := [Xp]
def oR : Sh := [P2]
abbrev K26 (g : TT te.c (CB iE []) → Option (TT te.c (He iE oR [] false))) : Cn_ := ⟨iE,oR,[],false,g,none⟩
def j9 : Sh := [EZ]
def jY : Sh := [P2]
abbrev pS : Cn_ := ⟨j9,jY,[],false,fun x => Px x,none⟩
theorem bA : KO pS 55 := KO.of ⟨fun args w => AN Tryz.func55 rfl (by decide) args w⟩ rfl (fun _ => rfl) (fun _ => rfl) rfl (fun _ => rfl) (fun _ => rfl) (fun _ => rfl) (fun _ => rfl) fun Y w0 x r g H hg hk => (mT Y w0  x r H hk).mono fun e w' h => ⟨(),h.1,Stw.ofB h.2⟩
def gR : Sh := [(.b false,[.d true (.sl .str)]),(.b false,[.d true .str])]
def j1 : Sh := [P2]
abbrev nX : Cn_ := ⟨gR,j1,[],false,fun x => I2 x.1 x.2,none⟩
theorem fZ : KO nX 56 := KO.of ⟨fun args w => AN Tryz.func56 rfl (by decide) args w⟩ rfl (fun _ => rfl) (fun _ => rfl) rfl (fun _ => rfl) (fun _ => rfl) (fun _ => rfl) (fun _ => rfl) fun Y w0 x r g H hg hk => (pC Y w0 g.1 x.1 x.2 r H hg.1).mono fun e w' h => ⟨(),h.1,Stw.ofB h.2⟩
abbrev rI : Rp (Int × Int × Int × (Value × List Tr24)) := (Rp.pair ri (Rp.pair ri (Rp.pair ri (Rp.vsl Sn))))
abbrev vN (p : Int × Int × Int × (Value × List Tr24)) : Tr24 := (Tr24.of (p.1,p.2.1,p.2.2.1,p.2.2.2.2))
theorem Zc : Ex Sn rI vN := (Ex.knot Za (of := Tr24.of) (fun _ => rfl) (fun x => by cases x; rfl) (Ex.pair Ex.rfl' (Ex.pair Ex.rfl' (Ex.pair Ex.rfl' Ex.sliceF))))
abbrev gT : Rp (Int × (Int × Int × Int × (Value × List Tr24)) × Int × Int × (Value × List Tr27)) := (Rp.pair ri (Rp.pair rI (Rp.pair ri (Rp.pair ri (Rp.vsl U6)))))
abbrev yR (p : Int × (Int × Int × Int × (Value × List Tr24)) × Int × Int × (Value × List Tr27)) : Tr27 := (Tr27.of (p.1,(Tr24.of (p.2.1.1,p.2.1.2.1,p.2.1.2.2.1,p.2.1.2.2.2.2)),p.2.2.1,p.2.2.2.1,p.2.2.2.2.2))
theorem j5 : Ex U6 gT yR := (Ex.knot fL (of := Tr27.of) (fun _ => rfl) (fun x => by cases x; rfl) (Ex.pair Ex.rfl' (Ex.pair (Ex.knot Za (of := Tr24.of) (fun _ => rfl) (fun x => by cases x; rfl) (Ex.pair Ex.rfl' (Ex.pair Ex.rfl' (Ex.pair Ex.rfl' Ex.sliceF)))) (Ex.pair Ex.rfl' (Ex.pair Ex.rfl' Ex.sliceF)))))
theorem T27 : Ty Tryz.prog 27 true 8 := ⟨by kernel_rfl,by kernel_rfl⟩
theorem zJ : Ty Tryz.prog 24 true 4 := ⟨by kernel_rfl,by kernel_rfl⟩
def Di (fRec : Tr24 → Option Int) (p0 : Tr24) : (Int × Int) → Option ((Int × Int) ⊕ Int)
  | (x2,x3) => (if x3 < (p0.un.2.2.2.length : Int) then (ix p0.un.2.2.2 x3).bind fun x4 => (fRec x4).bind fun x5 => some (.inl (Aq (x2 + x5),Aq (x3 + 1))) else some (.inr x2))
def EH (fRec : Tr24 → Option Int) (p0 : Tr24) : Option Int := (Af (Di fRec p0) (1,0)).bind fun x1 => some x1
def ET : Nat → Tr24 → Option Int
  | 0 => fun _ => none
  | n + 1 => EH (ET n)
def I4 (p0 : Tr24) : Option Int := E2 fun n => ET n p0
def KF (fRec : Tr24 → Option Int) (p0 : Tr24) : (Int × Int) → Option ((Int × Int) ⊕ Int)
  | (x2,x3) => (if x3 < (p0.un.2.2.2.length : Int) then (ix p0.un.2.2.2 x3).bind fun x4 => (fRec (f24 x4)).bind fun x5 => some (.inl (Aq (x2 + x5),Aq (x3 + 1))) else some (.inr x2))
theorem SU : @KF = @Di := by
 unfold KF Di
 simp only [Tr24.re_eq]
def Nw (fRec : Tr24 → Option Int) (p0 : Tr24) : Option Int := (Af (KF fRec p0) (1,0)).bind fun x1 => some x1
theorem SR : @Nw = @EH := by
 unfold Nw EH
 simp only [SU]
theorem xQ : KO (K30 fun x => I4 x) 30 := Nq (E := te) (xs := j0) (ys := nN) (bs := []) (io := false) (nn := fun n x => ET n x) (st := fun g x => EH g x) Tryz.func30 rfl (by kernel_rfl) (fun _ => rfl) (fun _ => rfl) fun g hg => E0 (ct := (.q (.q (.j (.st false ⟨[(3,false,AZ)],[],[]⟩) (.q (.b (.l ⟨[(3,false,AZ),(4,false,AZ)],[],[]⟩ .d))) .d)))) En (AJ hg BN) Tryz.func30 (by kernel_rfl) fun x => by rw [← SR]; kernel_rfl
theorem n0 : type_of% Tryz.underlying25 := Tryz.underlying25
theorem T25 : Ty Tryz.prog 25 false 1 := ⟨by kernel_rfl,by kernel_rfl⟩
abbrev bC (a : Int × (Int × Int × Int × (Value × List Tr24)) × Int × Int × (Value × List Tr27)) : List Value := [Jint a.1,Jint a.2.1.1,Jint a.2.1.2.1,Jint a.2.1.2.2.1,a.2.1.2.2.2.1,Jint a.2.2.1,Jint a.2.2.2.1,a.2.2.2.2.1]
theorem sS : Gy gT bC := (Gy.pair Fl.int.to (Gy.pair (Gy.pair Fl.int.to (Gy.pair Fl.int.to (Gy.pair Fl.int.to Gy.vsl))) (Gy.pair Fl.int.to (Gy.pair Fl.int.to Gy.vsl))))
theorem zN : Et Tryz.prog 25 27 8 96 := Et.of n0 (by kernel_rfl) (by kernel_rfl) (by kernel_rfl) (by decide)
abbrev P4 (a0 : Tr27) (a1 : Value) (a2 : Value) : List Value := [Jint a0.un.1,Jint a0.un.2.1.un.1,Jint a0.un.2.1.un.2.1,Jint a0.un.2.1.un.2.2.1,a1,Jint a0.un.2.2.1,Jint a0.un.2.2.2.1,a2]
abbrev VQ (a0 : Nat) (a1 : Tr27) (a2 : Value) (a3 : Value) : List (Nat × List Value) := [(a0,[Jint a1.un.1,Jint a1.un.2.1.un.1,Jint a1.un.2.1.un.2.1,Jint a1.un.2.1.un.2.2.1,a2,Jint a1.un.2.2.1,Jint a1.un.2.2.2.1,a3])]
def DD (fRec : Tr27 → Option Int) (p0 : Tr27) : (Int × Int) → Option ((Int × Int) ⊕ Int)
  | (x3,x4) => (if x4 < (p0.un.2.2.2.2.length : Int) then (ix p0.un.2.2.2.2 x4).bind fun x5 => (fRec (Tr27.of (x5.un.1,f24 x5.un.2.1,x5.un.2.2.1,x5.un.2.2.2.1,x5.un.2.2.2.2))).bind fun x6 => some (.inl (Aq (x3 + x6),Aq (x4 + 1))) else some (.inr x3))
def Ft (fRec : Tr27 → Option Int) (p0 : Tr27) : Option Int := (I4 (f24 p0.un.2.1)).bind fun x1 => (Af (DD fRec p0) (Aq (1 + x1),0)).bind fun x2 => some x2
def D2 : Nat → Tr27 → Option Int
  | 0 => fun _ => none
  | n + 1 => Ft (D2 n)
def Mu (p0 : Tr27) : Option Int := E2 fun n => D2 n p0
theorem k6 : KO (K6 fun x => Mu x) 6 := Nq (E := te) (xs := vE) (ys := w6) (bs := []) (io := false) (nn := fun n x => D2 n x) (st := fun g x => Ft g x) Tryz.func6 rfl (by kernel_rfl) (fun _ => rfl) (fun _ => rfl) fun g hg => E0 (ct := (.q (.q (.j (.st false ⟨[(3,false,AZ)],[],[]⟩) (.q (.b (.l ⟨[(3,false,AZ),(4,false,AZ)],[],[]⟩ .d))) .d)))) En (AJ hg (AJ xQ BN)) Tryz.func6 (by kernel_rfl) fun x => by kernel_rfl
theorem yU : type_of% Tryz.underlying29 := Tryz.underlying29
theorem pU : type_of% Tryz.underlying35 := Tryz.underlying35
theorem uL : Bt Tryz.prog 37 [Jint 0,Jint 0,Jint 0,Jint 0,.slice none 0 0,Jint 0,Jint 0,.slice none 0 0] [(0,1),(1,4),(5,1),(6,1),(7,1)] := ⟨⟨.agg #[Jint 0,Jint 0,Jint 0,Jint 0,.slice none 0 0,Jint 0,Jint 0,.slice none 0 0],by kernel_rfl,rfl⟩,⟨_,jW,fun w => by kernel_rfl⟩⟩
theorem lY : (Tryz.prog.info? 37).bind (·.zero) = some (.agg #[Jint 0,Jint 0,Jint 0,Jint 0,.slice none 0 0,Jint 0,Jint 0,.slice none 0 0]) := by kernel_rfl
theorem qZ : Et Tryz.prog 35 37 8 96 := Et.of pU (by kernel_rfl) (by kernel_rfl) (by kernel_rfl) (by decide)
theorem Z9 : Ty Tryz.prog 37 true 8 := ⟨by kernel_rfl,by kernel_rfl⟩
theorem tW : ∃ z,(Tryz.prog.info? 29).bind (·.zero) = some z ∧ z.cells = [Jint 0,Jint 0,Jint 0,Jint 0].toArray := ⟨.agg #[Jint 0,Jint 0,Jint 0,Jint 0],by kernel_rfl,rfl⟩
theorem O1 : Ar Tryz.prog 29 4 3 1 := ⟨yU,by kernel_rfl⟩
abbrev iO : Rp (Int × Int × Int × (Value × List Tr34)) := (Rp.pair ri (Rp.pair ri (Rp.pair ri (Rp.vsl Kq))))
abbrev w8 (p : Int × Int × Int × (Value × List Tr34)) : Tr34 := (Tr34.of (p.1,p.2.1,p.2.2.1,p.2.2.2.2))
theorem Xi : Ex Kq iO w8 := (Ex.knot cH (of := Tr34.of) (fun _ => rfl) (fun x => by cases x; rfl) (Ex.pair Ex.rfl' (Ex.pair Ex.rfl' (Ex.pair Ex.rfl' Ex.sliceF))))
abbrev bH : Rp (Int × (Int × Int × Int × (Value × List Tr34)) × Int × Int × (Value × List Tr37)) := (Rp.pair ri (Rp.pair iO (Rp.pair ri (Rp.pair ri (Rp.vsl Iv)))))
abbrev wT (p : Int × (Int × Int × Int × (Value × List Tr34)) × Int × Int × (Value × List Tr37)) : Tr37 := (Tr37.of (p.1,(Tr34.of (p.2.1.1,p.2.1.2.1,p.2.1.2.2.1,p.2.1.2.2.2.2)),p.2.2.1,p.2.2.2.1,p.2.2.2.2.2))
theorem ST : Ex Iv bH wT := (Ex.knot kA (of := Tr37.of) (fun _ => rfl) (fun x => by cases x; rfl) (Ex.pair Ex.rfl' (Ex.pair (Ex.knot cH (of := Tr34.of) (fun _ => rfl) (fun x => by cases x; rfl) (Ex.pair Ex.rfl' (Ex.pair Ex.rfl' (Ex.pair Ex.rfl' Ex.sliceF)))) (Ex.pair Ex.rfl' (Ex.pair Ex.rfl' Ex.sliceF)))))
theorem dH : Ty Tryz.prog 29 true 4 := ⟨by kernel_rfl,by kernel_rfl⟩
theorem zW : Bt Tryz.prog 63 [Jint 0,Jint 0,Jint 0,Jint 0,Jint 0] [(0,1),(1,4)] := ⟨⟨.agg #[Jint 0,Jint 0,Jint 0,Jint 0,Jint 0],by kernel_rfl,rfl⟩,⟨_,PZ,fun w => by kernel_rfl⟩⟩
theorem T3 : Ty Tryz.prog 3 false 1 := ⟨by kernel_rfl,by kernel_rfl⟩
theorem MO : Tryz.prog.follows .mixedOrders = true := by kernel_rfl
def Dw (p0 : Int) : Bool := (decide (0 ≤ p0) && decide (p0 ≤ 5))
abbrev y9 : Cn_ := ⟨[EZ],[Lf],[],false,fun x => some (Dw x),some ⟨fun x => Dw x,fun _ => rfl⟩⟩
theorem oH : KO (y9) 119 := E0 (ct := (.q (.j (.bl [2]) .d .d))) En BN Tryz.func119 (by kernel_rfl) fun x => by kernel_rfl
def Cv (p0 : Int) : Bool := (decide (0 ≤ p0) && decide (p0 < 4))
abbrev yP : Cn_ := ⟨[EZ],[Lf],[],false,fun x => some (Cv x),some ⟨fun x => Cv x,fun _ => rfl⟩⟩
theorem xR : KO (yP) 123 := E0 (ct := (.q (.j (.bl [2]) .d .d))) En BN Tryz.func123 (by kernel_rfl) fun x => by kernel_rfl
theorem LX (Y : Nat → Prop) (w0 : World)  (p0 : Int) (r : Bool) (H : Cv p0 = r) (hG : Gk [] w0) :
    ca_ 123 #[Jint p0] w0 fun e w' => e = .returned (.bool r) ∧ Below w0.heap.size w0 w' := xR.outP (Y := Y) (x := p0) (congrArg some H) rfl rfl rfl rfl rfl () trivial rfl hG fun _ => rfl
theorem tQ : Has Tryz.prog 123 := Ik Tryz.func123
abbrev Xs (a0 : Int × Int × Int × Int) : List Value := [Jint a0.1,Jint a0.2.1,Jint a0.2.2.1,Jint a0.2.2.2]
def G7 (p0 : Int × Int × Int × Int) (p1 : Int) : Option Int := (if (!(Cv p1)) = true then some 0 else (ix ([p0.1,p0.2.1,p0.2.2.1,p0.2.2.2] : List Int) p1).bind fun x1 => some x1)
theorem Ux (Y : Nat → Prop) (w0 : World)  (p0 : Int × Int × Int × Int) (p1 : Int) (r : Int) (H : G7 p0 p1 = some r) (hG : Gk [] w0) :
    ca_ 140 #[.agg #[Jint p0.1,Jint p0.2.1,Jint p0.2.2.1,Jint p0.2.2.2],Jint p1] w0 fun e w' => e = .returned (Jint r) ∧ Below w0.heap.size w0 w' := by
 refine enter Tryz.func140 Aa Tryz.ntmps140 Aa fun a W => ?_
 have F := Stw.start Y w0
 unfold G7 at H
 refine vc tk 2 W F fun a w W F => ?_
 refine H7 (cs := (Xs p0)) W F Aa Aa Aa fun b1 a w W F => ?_
 refine Lg tk 7 W F fun a w W F => ?_
 refine ls W F Aa (EP (v := Value.bool (Cv p1)) W tQ Aa (fun w F => LX any w p1 _ Aa (hG.go0 F))) fun a w W F => ?_
 refine Lg tk 3 W F fun a w W F => ?_
 refine Kx W Aa H (fun W H => ?_) fun W H => ?_
 ·
  refine vc tk 5 W F fun a w W F => ?_
  refine Cq (DY ?_)
  have H := DR H
  subst H
  refine Dr (.inl Aa) W F Aa (CH W Aa) ?_
  exact ⟨rfl,F.done⟩
 refine W1 tk 5 W F fun a w W F => ?_
 obtain ⟨x1,h1,H⟩ := A1 H
 refine ls W F Aa (HY (0 + (p1).toNat * 1) O1 W Aa Aa Aa h1 Aa).q fun a w W F => ?_
 refine ls W F Aa (Eh (v := Jint x1) 0 W Aa Aa T3 (Mg (base := 0) (m := 4) (l := [p0.1,p0.2.1,p0.2.2.1,p0.2.2.2]) (enc := Value.int .i64) Aa h1)).q fun a w W F => ?_
 refine Lg tk 3 W F fun a w W F => ?_
 refine Cq ?_
 have H := DR H
 subst H
 refine Dr (.inl Aa) W F Aa (CH W Aa) ?_
 exact ⟨rfl,F.done⟩
abbrev xA : Cn_ := ⟨sN,uP,[],false,fun x => G7 x.1 x.2,none⟩
theorem yV : KO xA 140 := KO.of ⟨fun args w => AN Tryz.func140 rfl (by decide) args w⟩ rfl (fun _ => rfl) (fun _ => rfl) rfl (fun _ => rfl) (fun _ => rfl) (fun _ => rfl) (fun _ => rfl) fun Y w0 x r g H hg hk => (Ux Y w0  x.1 x.2 r H hk).mono fun e w' h => ⟨(),h.1,Stw.ofB h.2⟩
def Jb (p0 : Int) (p1 : Int) (p2 : Int) (p3 : Int × Int × Int × Int) : Option Int := (if p0 = 4 then some p2 else (if p0 = 5 then some p1 else (if (Dw p0) = true then (G7 p3 p0).bind fun x1 => some x1 else some (-1))))
abbrev w5 : Cn_ := ⟨[EZ,EZ,EZ,Ta],[LA],[],false,fun x => Jb x.1 x.2.1 x.2.2.1 x.2.2.2,none⟩
theorem wX : KO (w5) 120 := E0 (ct := .d) En (AJ oH (AJ yV BN)) Tryz.func120 (by kernel_rfl) fun x => by kernel_rfl
def A8 (fRec_pred_arrival_satisfies : (Int × Sq) → Tr34 → Option Bool) (p0 : Int × Sq) (p1 : Tr34) : Option Bool := (fRec_pred_arrival_satisfies p0 p1).bind fun x1 => some (!x1)
def Iq (fRec_pred_arrival_satisfies : (Int × Sq) → Tr34 → Option Bool) (p0 : Int × Sq) (p1 : Tr34) : Option Bool := (fRec_pred_arrival_satisfies p0 (f34 p1)).bind fun x1 => some (!x1)
theorem L8 : @Iq = @A8 := by
 unfold Iq A8
 simp only [Tr34.re_eq]
abbrev yI (h91 : TT te.c (CB NH []) → Option (TT te.c (He NH Vy [] false))) : Cn_ := ⟨[(.b true,[.d true (.pr Nr bR)]),X5],[Lf],[],false,fun x => A8 (fun yp0 yp1 => h91 (yp0,yp1)) x.1 x.2,none⟩
theorem rL (h91) (kh91 : KO (qM h91) 91) : KO (yI h91) 121 := E0 (ct := .d) En (AJ kh91 BN) Tryz.func121 (by kernel_rfl) fun x => by rw [← L8]; kernel_rfl
def Ak (fRec_pred_arrival_satisfies : (Int × Sq) → Tr34 → Option Bool) (p0 : List Tr34) (p1f0 : Int × Sq) : Int → Option (Int ⊕ (Unit ⊕ Int))
  | x1 => (if x1 < (p0.length : Int) then (ix p0 x1).bind fun x2 => ((A8 fRec_pred_arrival_satisfies) p1f0 x2).bind fun x3 => (if x3 = true then some (.inr (.inr x1)) else some (.inl (Aq (x1 + 1)))) else some (.inr (.inl ())))
def Az (fRec_pred_arrival_satisfies : (Int × Sq) → Tr34 → Option Bool) (p0 : List Tr34) (p1f0 : Int × Sq) : Option Int := Hw (Af (Ak fRec_pred_arrival_satisfies p0 p1f0) 0) fun _ => some (-1)
def Cp (fRec_pred_arrival_satisfies : (Int × Sq) → Tr34 → Option Bool) (p0 : List Tr34) (p1f0 : Int × Sq) : Int → Option (Int ⊕ (Unit ⊕ Int))
  | x1 => (if x1 < (p0.length : Int) then (ix p0 x1).bind fun x2 => ((A8 fRec_pred_arrival_satisfies) p1f0 (f34 x2)).bind fun x3 => (if x3 = true then some (.inr (.inr x1)) else some (.inl (Aq (x1 + 1)))) else some (.inr (.inl ())))
theorem FI : @Cp = @Ak := by
 unfold Cp Ak
 simp only [Tr34.re_eq]
def DN (fRec_pred_arrival_satisfies : (Int × Sq) → Tr34 → Option Bool) (p0 : List Tr34) (p1f0 : Int × Sq) : Option Int := Hw (Af (Cp fRec_pred_arrival_satisfies p0 p1f0) 0) fun _ => some (-1)
theorem F4 : @DN = @Az := by
 unfold DN Az
 simp only [FI]
abbrev wP (h91 : TT te.c (CB NH []) → Option (TT te.c (He NH Vy [] false))) : Cn_ := ⟨[Xc,(.fn 121 [(true,6)] 0,[.d true (.pr Nr bR)])],[LA],[],false,fun x => Az (fun yp0 yp1 => h91 (yp0,yp1)) x.1 x.2,none⟩
theorem wN (h91) (kh91 : KO (qM h91) 91) : KO (wP h91) 141 := E0 (ct := (.q (.j (.st true ⟨[],[],[]⟩) (.q (.b (.l ⟨[(8,false,AZ)],[],[]⟩ .d))) .d))) En (AJ kh91 (AJ (rL _ kh91) BN)) Tryz.func141 (by kernel_rfl) fun x => by rw [← F4]; kernel_rfl
def AA (fRec_pred_arrival_satisfies : (Int × Sq) → Tr34 → Option Bool) (p0 : List Tr34) (p1f0 : Int × Sq) : Option Bool := ((Az fRec_pred_arrival_satisfies) p0 p1f0).bind fun x1 => some (decide (0 ≤ x1))
abbrev wH (h91 : TT te.c (CB NH []) → Option (TT te.c (He NH Vy [] false))) : Cn_ := ⟨[Xc,(.fn 121 [(true,6)] 0,[.d true (.pr Nr bR)])],[Lf],[],false,fun x => AA (fun yp0 yp1 => h91 (yp0,yp1)) x.1 x.2,none⟩
theorem w7 (h91) (kh91 : KO (qM h91) 91) : KO (wH h91) 122 := E0 (ct := .d) En (AJ kh91 (AJ (wN _ kh91) BN)) Tryz.func122 (by kernel_rfl) fun x => by kernel_rfl
def Aj (fRec_pred_arrival_satisfies : (Int × Sq) → Tr34 → Option Bool) (p0 : List Tr34) (p1f0 : Int × Sq) : Int → Option (Int ⊕ (Unit ⊕ Int))
  | x1 => (if x1 < (p0.length : Int) then (ix p0 x1).bind fun x2 => (fRec_pred_arrival_satisfies p1f0 x2).bind fun x3 => (if x3 = true then some (.inr (.inr x1)) else some (.inl (Aq (x1 + 1)))) else some (.inr (.inl ())))
def Au (fRec_pred_arrival_satisfies : (Int × Sq) → Tr34 → Option Bool) (p0 : List Tr34) (p1f0 : Int × Sq) : Option Int := Hw (Af (Aj fRec_pred_arrival_satisfies p0 p1f0) 0) fun _ => some (-1)
def Cd (fRec_pred_arrival_satisfies : (Int × Sq) → Tr34 → Option Bool) (p0 : List Tr34) (p1f0 : Int × Sq) : Int → Option (Int ⊕ (Unit ⊕ Int))
  | x1 => (if x1 < (p0.length : Int) then (ix p0 x1).bind fun x2 => (fRec_pred_arrival_satisfies p1f0 (f34 x2)).bind fun x3 => (if x3 = true then some (.inr (.inr x1)) else some (.inl (Aq (x1 + 1)))) else some (.inr (.inl ())))
theorem Fg : @Cd = @Aj := by
 unfold Cd Aj
 simp only [Tr34.re_eq]
def DB (fRec_pred_arrival_satisfies : (Int × Sq) → Tr34 → Option Bool) (p0 : List Tr34) (p1f0 : Int × Sq) : Option Int := Hw (Af (Cd fRec_pred_arrival_satisfies p0 p1f0) 0) fun _ => some (-1)
theorem FS : @DB = @Au := by
 unfold DB Au
 simp only [Fg]
abbrev oT (h91 : TT te.c (CB NH []) → Option (TT te.c (He NH Vy [] false))) : Cn_ := ⟨[Xc,(.fn 91 [(true,6)] 0,[.d true (.pr Nr bR)])],[LA],[],false,fun x => Au (fun yp0 yp1 => h91 (yp0,yp1)) x.1 x.2,none⟩
theorem pA (h91) (kh91 : KO (qM h91) 91) : KO (oT h91) 141 := E0 (ct := (.q (.j (.st true ⟨[],[],[]⟩) (.q (.b (.l ⟨[(8,false,AZ)],[],[]⟩ .d))) .d))) En (AJ kh91 BN) Tryz.func141 (by kernel_rfl) fun x => by rw [← FS]; kernel_rfl
def Av (fRec_pred_arrival_satisfies : (Int × Sq) → Tr34 → Option Bool) (p0 : List Tr34) (p1f0 : Int × Sq) : Option Bool := ((Au fRec_pred_arrival_satisfies) p0 p1f0).bind fun x1 => some (decide (0 ≤ x1))
abbrev pO (h91 : TT te.c (CB NH []) → Option (TT te.c (He NH Vy [] false))) : Cn_ := ⟨[Xc,(.fn 91 [(true,6)] 0,[.d true (.pr Nr bR)])],[Lf],[],false,fun x => Av (fun yp0 yp1 => h91 (yp0,yp1)) x.1 x.2,none⟩
theorem nL (h91) (kh91 : KO (qM h91) 91) : KO (pO h91) 122 := E0 (ct := .d) En (AJ kh91 (AJ (pA _ kh91) BN)) Tryz.func122 (by kernel_rfl) fun x => by kernel_rfl
def AY (fRec : (Int × Sq) → Tr34 → Option Bool) (p0 : Int × Sq) (p1 : Tr34) : Option Bool := (if p1.un.1 = 1 then some true else (if p1.un.1 = 3 then (if (Dw p1.un.2.1) = true then (Jb p1.un.2.1 p0.1 p0.2.1 p0.2.2).bind fun x2 => some (decide (x2 = p1.un.2.2.1)) else some false).bind fun x1 => some x1 else (if p1.un.1 = 4 then (if 0 < (p1.un.2.2.2.length : Int) then (ix p1.un.2.2.2 0).bind fun x4 => ((A8 fRec) p0 x4).bind fun x5 => some x5 else some false).bind fun x3 => some x3 else (if p1.un.1 = 5 then ((AA fRec) p1.un.2.2.2 p0).bind fun x6 => some (!x6) else (if p1.un.1 = 6 then ((Av fRec) p1.un.2.2.2 p0).bind fun x7 => some x7 else some false)))))
def AM : Nat → (Int × Sq) → Tr34 → Option Bool
  | 0 => fun _ _ => none
  | n + 1 => AY (AM n)
def Da (p0 : Int × Sq) (p1 : Tr34) : Option Bool := E2 fun n => AM n p0 p1
def F6 (fRec : (Int × Sq) → Tr34 → Option Bool) (p0 : Int × Sq) (p1 : Tr34) : Option Bool := (if p1.un.1 = 1 then some true else (if p1.un.1 = 3 then (if (Dw p1.un.2.1) = true then (Jb p1.un.2.1 p0.1 p0.2.1 p0.2.2).bind fun x2 => some (decide (x2 = p1.un.2.2.1)) else some false).bind fun x1 => some x1 else (if p1.un.1 = 4 then (if 0 < (p1.un.2.2.2.length : Int) then (ix p1.un.2.2.2 0).bind fun x4 => ((A8 fRec) p0 (f34 x4)).bind fun x5 => some x5 else some false).bind fun x3 => some x3 else (if p1.un.1 = 5 then ((AA fRec) p1.un.2.2.2 p0).bind fun x6 => some (!x6) else (if p1.un.1 = 6 then ((Av fRec) p1.un.2.2.2 p0).bind fun x7 => some x7 else some false)))))
theorem Is : @F6 = @AY := by
 unfold F6 AY
 simp only [Tr34.re_eq]
theorem k91 : KO (qM fun x => Da x.1 x.2) 91 := Nq (E := te) (xs := NH) (ys := Vy) (bs := []) (io := false) (nn := fun n x => AM n x.1 x.2) (st := fun g x => AY (fun yp0 yp1 => g (yp0,yp1)) x.1 x.2) Tryz.func91 rfl (by kernel_rfl) (fun _ => rfl) (fun _ => rfl) fun g hg => E0 (ct := (.q (.s (.q (.b (.q (.c .d (.q (.c (.j (.st false ⟨[(4,false,FX)],[],[]⟩) .d .d) (.q (.c (.j (.st false ⟨[(4,false,FX)],[],[]⟩) .d .d) .d)))))))) .d))) En (AJ hg (AJ oH (AJ wX (AJ (rL _ hg) (AJ (w7 _ hg) (AJ (nL _ hg) BN)))))) Tryz.func91 (by kernel_rfl) fun x => by rw [← Is]; kernel_rfl
def Fe (p0 : Tr34) (p1 : Int) (p2 : Int) (p3 : Int × Int × Int × Int) : Option Bool := (Da (p1,p2,p3) p0).bind fun x1 => some x1
def RG (p0 : Tr34) (p1 : Int) (p2 : Int) (p3 : Int × Int × Int × Int) : Option Bool := (Da (p1,p2,p3) (f34 p0)).bind fun x1 => some x1
theorem WO : @RG = @Fe := by
 unfold RG Fe
 simp only [Tr34.re_eq]
abbrev K68 : Cn_ := ⟨[X5,EZ,EZ,Ta],[Lf],[],false,fun x => Fe x.1 x.2.1 x.2.2.1 x.2.2.2,none⟩
theorem k68 : KO (K68) 68 := E0 (ct := .d) En (AJ k91 BN) Tryz.func68 (by kernel_rfl) fun x => by rw [← WO]; kernel_rfl
theorem Vk (Y : Nat → Prop) (w0 : World) (v1 : Value) (p0 : Tr34) (p1 : Int) (p2 : Int) (p3 : Int × Int × Int × Int) (r : Bool) (H : Fe p0 p1 p2 p3 = some r) (h_v1 : Sl w0 (NX []) Kq v1 p0.un.2.2.2) (hG : Gk [] w0) :
    ca_ 68 #[.agg #[Jint p0.un.1,Jint p0.un.2.1,Jint p0.un.2.2.1,v1],Jint p1,Jint p2,.agg #[Jint p3.1,Jint p3.2.1,Jint p3.2.2.1,Jint p3.2.2.2]] w0 fun e w' => e = .returned (.bool r) ∧ Below w0.heap.size w0 w' := k68.outP (Y := Y) (x := (p0,p1,p2,p3)) H rfl rfl rfl rfl rfl (v1,()) ⟨h_v1,trivial⟩ rfl hG fun _ => rfl
theorem u3_ : type_of% Tryz.underlying3 := Tryz.underlying3
theorem wC : type_of% Tryz.underlying97 := Tryz.underlying97
theorem H68 : Has Tryz.prog 68 := Ik Tryz.func68
abbrev Co (x : Sq) : Value := .agg #[Jint x.1,Jint x.2.1,Jint x.2.2.1,Jint x.2.2.2.1,Jint x.2.2.2.2]
abbrev Zv (x : Sq) : List Int := [x.1,x.2.1,x.2.2.1,x.2.2.2.1,x.2.2.2.2]
abbrev AC (x y : Sq) : Bool := GI (Zv x) (Zv y)
theorem KD : Lo AC := oK Zv 5 (fun _ => rfl) fun x y h => by simp only [Zv,List.cons.injEq] at h; simp only [Prod.ext_iff,h,and_self]
theorem XH : Ty Tryz.prog 63 true 5 := ⟨by kernel_rfl,by kernel_rfl⟩
theorem uW : Bt Tryz.prog 97 [] [] := ⟨⟨.agg #[],by kernel_rfl,rfl⟩,⟨_,wC,fun w => by kernel_rfl⟩⟩
theorem wS (d : Nat) (x0 x1 x2 x3 y0 y1 y2 y3 : Int) (w : World) : (Op.equalIn (d + 2) 29 (.agg #[Jint x0,Jint x1,Jint x2,Jint x3]) (.agg #[Jint y0,Jint y1,Jint y2,Jint y3])).run Tryz.prog w = .ok (decide (x0 = y0 ∧ x1 = y1 ∧ x2 = y2 ∧ x3 = y3)) w :=
  (pL (d := d) (k := .i64) O1 u3_ T3 [x0,x1,x2,x3] [y0,y1,y2,y3] rfl rfl w).trans (by congr 1; exact decide_eq_decide.2 (by simp))
theorem xC (dd : Nat) (x0 : Int) (x1 : Int) (x2 : Int) (x3 : Int) (x4 : Int) (y0 : Int) (y1 : Int) (y2 : Int) (y3 : Int) (y4 : Int) (w : World) : (Op.equalIn (dd + 3) 63 (.agg #[Jint x0,Jint x1,Jint x2,Jint x3,Jint x4]) (.agg #[Jint y0,Jint y1,Jint y2,Jint y3,Jint y4])).run Tryz.prog w = .ok (decide (x0 = y0 ∧ x1 = y1 ∧ x2 = y2 ∧ x3 = y3 ∧ x4 = y4)) w :=
  Zq (d := dd + 2) (rs := [decide (x0 = y0),decide (x1 = y1 ∧ x2 = y2 ∧ x3 = y3 ∧ x4 = y4)]) PZ (by kernel_rfl) ⟨rfl,jC (d := dd + 1) rfl rfl u3_ T3 rfl rfl,rfl,jX (d := dd + 2) (sz := 4) (xs' := [Jint x1,Jint x2,Jint x3,Jint x4]) (ys' := [Jint y1,Jint y2,Jint y3,Jint y4]) rfl rfl dH rfl rfl (fun w => wS (dd + 0) x1 x2 x3 x4 y1 y2 y3 y4 w),trivial⟩ (by rw [Bool.eq_iff_iff]; simp [and_assoc]) w
theorem vZ : Tryz.prog.eqGuardType Tryz.prog.depth 63 = false := by kernel_rfl
theorem uR (x0 : Int) (x1 : Int) (x2 : Int) (x3 : Int) (x4 : Int) (y0 : Int) (y1 : Int) (y2 : Int) (y3 : Int) (y4 : Int) (w : World) : (Op.equalIn 10000 63 (.agg #[Jint x0,Jint x1,Jint x2,Jint x3,Jint x4]) (.agg #[Jint y0,Jint y1,Jint y2,Jint y3,Jint y4])).run Tryz.prog w = .ok (decide (x0 = y0 ∧ x1 = y1 ∧ x2 = y2 ∧ x3 = y3 ∧ x4 = y4)) w := xC 9997 x0 x1 x2 x3 x4 y0 y1 y2 y3 y4 w
instance : DecidableEq (Int × Int) := inferInstance
instance : DecidableEq (Int × Int × Int) := inferInstance
instance : DecidableEq (Int × Int × Int × Int) := inferInstance
instance : DecidableEq Sq := inferInstance
theorem gV : KeyEnc Tryz.prog 63 Co := ⟨⟨_,PZ,.inl fun _ _ => rfl⟩,fun x y w => (uR x.1 x.2.1 x.2.2.1 x.2.2.2.1 x.2.2.2.2 y.1 y.2.1 y.2.2.1 y.2.2.2.1 y.2.2.2.2 w).trans (by congr 1; exact decide_eq_decide.2 (by simp only [Prod.ext_iff,and_assoc])),fun b x w => by kernel_rfl,fun x => by simp [Instr.sameBits]⟩
theorem oE : (Tryz.prog.info? 63).bind (·.zero) = some (.agg #[Jint 0,Jint 0,Jint 0,Jint 0,Jint 0]) := by kernel_rfl
theorem zZ : (Tryz.prog.info? 29).bind (·.zero) = some (.agg #[Jint 0,Jint 0,Jint 0,Jint 0]) := by kernel_rfl
def Ge (p0 : Int) : Option Int := (if p0 = 0 then some true else (if p0 = 1 then some true else some (decide (p0 = 3)))).bind fun x1 => (if x1 = true then some 8 else (if p0 = 2 then some 4 else some 0))
abbrev wD : Cn_ := ⟨[EZ],[LA],[],false,fun x => Ge x,none⟩
theorem yS : KO (wD) 139 := E0 (ct := (.q (.s (.q (.b (.j (.st false ⟨[(4,false,FX)],[],[]⟩) .d .d))) .d))) En BN Tryz.func139 (by kernel_rfl) fun x => by kernel_rfl
def Ga (p0 : Int) : Option Int := (Ge p0).bind fun x1 => (jL (Jg .i64 1 x1) x1).bind fun x2 => some (Aq (x2 - 1))
abbrev y8 : Cn_ := ⟨[EZ],[LA],[],false,fun x => Ga x,none⟩
theorem uI : KO (y8) 117 := E0 (ct := .d) En (AJ yS BN) Tryz.func117 (by kernel_rfl) fun x => by kernel_rfl
def Ev (p0 : Int) (p1 : Int) : Option Bool := (if 0 ≤ p1 then (Ga p0).bind fun x2 => some (decide (p1 ≤ x2)) else some false).bind fun x1 => some x1
abbrev xY : Cn_ := ⟨[EZ,EZ],[Lf],[],false,fun x => Ev x.1 x.2,none⟩
theorem xD : KO (xY) 124 := E0 (ct := (.q (.j (.st false ⟨[(4,false,FX)],[],[]⟩) .d .d))) En (AJ uI BN) Tryz.func124 (by kernel_rfl) fun x => by kernel_rfl
theorem SD (Y : Nat → Prop) (w0 : World)  (p0 : Int) (p1 : Int) (r : Bool) (H : Ev p0 p1 = some r) (hG : Gk [] w0) :
    ca_ 124 #[Jint p0,Jint p1] w0 fun e w' => e = .returned (.bool r) ∧ Below w0.heap.size w0 w' := xD.outP (Y := Y) (x := (p0,p1)) H rfl rfl rfl rfl rfl () trivial rfl hG fun _ => rfl
theorem wI : Has Tryz.prog 124 := Ik Tryz.func124
abbrev YN  : List Value := [Jint 0,Jint 0,Jint 0,Jint 0]
abbrev lK (a0 : Nat) (a1 : Nat) (a2 : Int × Int × Int × Int) : List (Nat × List Value) := [(a0,[Jint 0,Jint 0,Jint 0,Jint 0]),(a1,[Jint a2.1,Jint a2.2.1,Jint a2.2.2.1,Jint a2.2.2.2])]
def D0 (p0 : Int × Int × Int × Int) (p1 : Int) (p2 : Int) : Option (Int × Int × Int × Int) := ((if (Cv p1) = true then (Ev p1 p2).bind fun x6 => some x6 else some false).bind fun x5 => (if x5 = true then (ix ([p0.1,p0.2.1,p0.2.2.1,p0.2.2.2] : List Int) p1).bind fun x7 => some ((if p1 = 0 then p2 else p0.1),(if p1 = 1 then p2 else p0.2.1),(if p1 = 2 then p2 else p0.2.2.1),(if p1 = 3 then p2 else p0.2.2.2)) else some (p0.1,p0.2.1,p0.2.2.1,p0.2.2.2))).bind fun (x1,x2,x3,x4) => some (x1,x2,x3,x4)
theorem Sg (Y : Nat → Prop) (w0 : World)  (p0 : Int × Int × Int × Int) (p1 : Int) (p2 : Int) (r : (Int × Int × Int × Int)) (H : D0 p0 p1 p2 = some r) (hG : Gk [] w0) :
    ca_ 92 #[.agg #[Jint p0.1,Jint p0.2.1,Jint p0.2.2.1,Jint p0.2.2.2],Jint p1,Jint p2] w0 fun e w' => e = .returned (.agg #[Jint r.1,Jint r.2.1,Jint r.2.2.1,Jint r.2.2.2]) ∧ Below w0.heap.size w0 w' := by
 refine enter Tryz.func92 Aa Tryz.ntmps92 Aa fun a W => ?_
 have F := Stw.start Y w0
 unfold D0 at H
 refine vc tk 2 W F fun a w W F => ?_
 refine H7 (cs := (Xs p0)) W F Aa Aa Aa fun b1 a w W F => ?_
 refine GM (cs := (YN)) W F Aa zZ Aa fun b2 a w W F => ?_
 refine Im (Al ?_)
 obtain ⟨o1,G1,K1⟩ := A1 H
 refine Ek (fun a w => ∃ x1 : Int, ∃ x2 : Int, ∃ x3 : Int, ∃ x4 : Int,some ((x1,x2,x3,x4)) = some o1 ∧ Fr 18 [] [(3,pp b1),(6,pp b2)] a ∧ sy Y w0 [(b2,[Jint 0,Jint 0,Jint 0,Jint 0]),(b1,[Jint x1,Jint x2,Jint x3,Jint x4])] [] w) ?_ ?_
 ·
  have H := G1
  clear G1 K1
  obtain ⟨o2,G2,K2⟩ := A1 H
  refine Ek (fun a w => ∃ x5 : Bool,some (x5) = some o2 ∧ Fr 18 [] [(1,Jint p1),(2,Jint p2),(3,pp b1),(6,pp b2),(13,.bool x5)] a ∧ sy Y w0 (lK b2 b1 p0) [] w) ?_ ?_
  ·
   have H := G2
   clear G2 K2
   refine vc tk 2 W F fun a w W F => ?_
   refine ls W F Aa (EP (v := Value.bool (Cv p1)) W tQ Aa (fun w F => LX any w p1 _ Aa (hG.go0 F))) fun a w W F => ?_
   refine ls W F Aa (C1 W Aa).q fun a w W F => ?_
   rcases bxq (Cv p1) with hb | hb
   ·
    have H := O2 hb H
    rw [hb] at W
    clear hb
    refine vl tk 2 W F fun a w W F => ?_
    refine W6 (AL W Aa Aa Aa Aa) ?_
    obtain ⟨x6,h1,H⟩ := A1 H
    refine ls W F Aa (EP (v := Value.bool x6) W wI Aa (fun w F => SD any w p1 p2 _ h1 (hG.go0 F))) fun a w W F => ?_
    refine vl tk 2 W F fun a w W F => ?_
    refine Al ?_
    have F := F.frontM (i := 1) Aa Aa
    have F := F.frontM (i := 1) Aa Aa
    exact ⟨_,H,W.ra Aa,F⟩
   have H := Pa (by rw [hb]; decide) H
   rw [hb] at W
   clear hb
   refine vl tk 5 W F fun a w W F => ?_
   refine Al ?_
   have F := F.frontM (i := 1) Aa Aa
   have F := F.frontM (i := 1) Aa Aa
   exact ⟨_,H,W.ra Aa,F⟩
  rintro a w ⟨x5,hj,W,F⟩
  have hj := DR hj
  subst hj
  have H := K2
  clear G2 K2
  refine Kx W Aa H (fun W H => ?_) fun W H => ?_
  ·
   refine vc tk 3 W F fun a w W F => ?_
   obtain ⟨x7,h2,H⟩ := A1 H
   refine ls W F Aa (HY (0 + (p1).toNat * 1) O1 W Aa Aa Aa h2 Aa).q fun a w W F => ?_
   refine Pp (o := 0) (m := 4) (i := p1) (l := ([p0.1,p0.2.1,p0.2.2.1,p0.2.2.2] : List Int)) (x := x7) (cs := (Xs p0)) (cs' := [Jint (if p1 = 0 then p2 else p0.1),Jint (if p1 = 1 then p2 else p0.2.1),Jint (if p1 = 2 then p2 else p0.2.2.1),Jint (if p1 = 3 then p2 else p0.2.2.2)]) 1 W F Aa Aa Aa T3 Aa Aa Aa Aa h2 (by intro k hk hn; rw [hk]; match k,hn with | 0,_ => rfl | 1,_ => rfl | 2,_ => rfl | 3,_ => rfl | (z + 4),h => exact absurd h (by omega)) fun w F => ?_
   have F : sy Y w0 [(b2,(YN)),(b1,[Jint (if p1 = 0 then p2 else p0.1),Jint (if p1 = 1 then p2 else p0.2.1),Jint (if p1 = 2 then p2 else p0.2.2.1),Jint (if p1 = 3 then p2 else p0.2.2.2)])] [] w := F
   refine Im (Al ?_)
   have F := F.frontM (i := 1) Aa Aa
   have F := F.frontM (i := 1) Aa Aa
   exact ⟨_,_,_,_,H,W.ra Aa,F⟩
  refine E3 (Al ?_)
  have F := F.frontM (i := 1) Aa Aa
  have F := F.frontM (i := 1) Aa Aa
  exact ⟨_,_,_,_,H,W.ra Aa,F⟩
 rintro a w ⟨x1,x2,x3,x4,hj,W,F⟩
 have hj := DR hj
 subst hj
 have H := K1
 clear G1 K1
 refine U7 tk 3 [1] W F (ai fun a w W F => ?_)
 refine SN 0 W F Aa Aa Aa dH Aa Aa Aa fun w F => ?_
 refine Lg tk 2 W F fun a w W F => ?_
 refine Cq ?_
 have H := DR H
 subst H
 refine Dr (.inl Aa) W F Aa (P9 0 W Aa Aa dH Aa) ?_
 exact ⟨rfl,F.done⟩
abbrev K92 : Cn_ := ⟨yZ,vI,[],false,fun x => D0 x.1 x.2.1 x.2.2,none⟩
theorem k92 : KO K92 92 := KO.of ⟨fun args w => AN Tryz.func92 rfl (by decide) args w⟩ rfl (fun _ => rfl) (fun _ => rfl) rfl (fun _ => rfl) (fun _ => rfl) (fun _ => rfl) (fun _ => rfl) fun Y w0 x r g H hg hk => (Sg Y w0  x.1 x.2.1 x.2.2 r H hk).mono fun e w' h => ⟨(),h.1,Stw.ofB h.2⟩
abbrev Fk (a0 : Sq) : List Value := [Jint a0.1,Jint a0.2.1,Jint a0.2.2.1,Jint a0.2.2.2.1,Jint a0.2.2.2.2]
abbrev lF  : List Value := [Jint 0,Jint 0,Jint 0,Jint 0,Jint 0]
def Cz (p0 : Sq) (p1 : Int) (p2 : Int) : Option Sq := (if p1 = 4 then some p2 else some p0.1).bind fun x1 => (D0 p0.2 p1 p2).bind fun x2 => some (x1,x2)
abbrev K69 : Cn_ := ⟨[dV,EZ,EZ],[(.b true,[.d false bR])],[],false,fun x => Cz x.1 x.2.1 x.2.2,none⟩
theorem k69 : KO (K69) 69 := E0 (ct := (.q (.j (.st false ⟨[],[(0,[some (.d false Nr),none,none,none,none])],[]⟩) .d .d))) En (AJ k92 BN) Tryz.func69 (by kernel_rfl) fun x => by kernel_rfl
theorem Od (Y : Nat → Prop) (w0 : World)  (p0 : Sq) (p1 : Int) (p2 : Int) (r : Sq) (H : Cz p0 p1 p2 = some r) (hG : Gk [] w0) :
    ca_ 69 #[.agg #[Jint p0.1,Jint p0.2.1,Jint p0.2.2.1,Jint p0.2.2.2.1,Jint p0.2.2.2.2],Jint p1,Jint p2] w0 fun e w' => e = .returned (.agg #[Jint r.1,Jint r.2.1,Jint r.2.2.1,Jint r.2.2.2.1,Jint r.2.2.2.2]) ∧ Below w0.heap.size w0 w' := k69.outP (Y := Y) (x := (p0,p1,p2)) H rfl rfl rfl rfl rfl () trivial rfl hG fun _ => rfl
theorem XD : type_of% Tryz.underlying73 := Tryz.underlying73
theorem H69 : Has Tryz.prog 69 := Ik Tryz.func69
theorem uU : Ty Tryz.prog 35 false 1 := ⟨by kernel_rfl,by kernel_rfl⟩
abbrev fV (a : Int × (Int × Int × Int × (Value × List Tr34)) × Int × Int × (Value × List Tr37)) : List Value := [Jint a.1,Jint a.2.1.1,Jint a.2.1.2.1,Jint a.2.1.2.2.1,a.2.1.2.2.2.1,Jint a.2.2.1,Jint a.2.2.2.1,a.2.2.2.2.1]
theorem sW : Gy bH fV := (Gy.pair Fl.int.to (Gy.pair (Gy.pair Fl.int.to (Gy.pair Fl.int.to (Gy.pair Fl.int.to Gy.vsl))) (Gy.pair Fl.int.to (Gy.pair Fl.int.to Gy.vsl))))
theorem uZ : Has Tryz.prog 39 := Ik Tryz.func39
theorem bJ (Y : Nat → Prop) (X : List Nat) (w0 : World) (v0 v1 : Value) (s0 s1 : List Sq) (hL : Stw ⟨Y,X,w0⟩ [] [BW v0 Co AC s0,BW v1 Co AC s1] w0) :
    ca_ 71 #[v0,v1] w0 fun e w' => ∃ x : Unit,e = .returned (.tuple #[]) ∧ Stw ⟨Y,X,w0⟩ [] [BW v1 Co AC s1,BW v0 Co AC (Iw AC s0 s1)] w' := by
  refine enter Tryz.func71 Aa Tryz.ntmps71 Aa fun a W => ?_
  have hA : KY AC s0 := hL.asc (i := 0) Aa
  refine MY (JX (l := [_,_]) ?_)
  refine ls W hL Aa (C1 W Aa).q fun a w W F => ?_
  refine Nn (q := 1) W F Aa Aa Aa Aa XD fun i b es clock l a w hv hE W F => ?_
  refine Im (Al (N8 ?_))
  refine TO (fun done s => s = Iw AC s0 done) (fun _ => [(0,v0)]) (fun s => [BW v0 Co AC s]) (W.ra Aa) F hE Aa Aa Aa (fun done kx s seen a w hk hc hR W F => ?_) fun done s seen a w hp hR W F => ?_
  · refine N8 (MY (JX (l := [_,_,_,_]) ?_))
    refine ls W F Aa (Nh (q := 0) (q' := 1) W Aa Aa Aa hc).q fun a w W F => ?_
    refine ls W F Aa (G8 (vs := [Co kx,.agg #[]]) W Aa Aa).q fun a w W F => ?_
    refine GM W F Aa oE Aa fun b2 a w W F => ?_
    refine NE 0 W F Aa Aa Aa XH Aa Aa Aa Aa Aa fun w F => ?_
    refine Im (Al (JX (l := [_,_,_,_]) ?_))
    refine Tw tk 2 [0] W F (ai fun a w W F => ?_)
    refine ls W F Aa (Gh (zs := []) (cs := []) (parts := []) (vp := []) (v := .agg #[]) uW W Aa Aa Aa).q fun a w W F => ?_
    refine eM (q := 2) kx W F Aa Aa Aa Aa Aa gV KD XD fun w F => ?_
    refine Im (FK (Al ⟨_, ?_,W.ra Aa,(F.frontZ (i := 2) Aa Aa |>.frontZ (i := 2) Aa Aa |>.sub nl sr)⟩))
    rw [hR]; simp only [Iw,List.foldl_append,List.foldl_cons,List.foldl_nil]
  · have F := F.unfix hE
    rw [← hv] at F
    rw [hR,eJ KD hA hp] at F
    refine GO (lV (.inr Aa) W Aa ?_)
    exact ⟨(),Aa,F⟩
theorem zR : Has Tryz.prog 71 := Ik Tryz.func71
abbrev Hh (a0 : Nat) (a1 : Sq) : List (Nat × List Value) := [(a0,[Jint a1.1,Jint a1.2.1,Jint a1.2.2.1,Jint a1.2.2.2.1,Jint a1.2.2.2.2])]
abbrev Tj  : List Value := [Jint 0,Jint 0,Jint 0,Jint 0,.slice none 0 0,Jint 0,Jint 0,.slice none 0 0]
def BR (fRec_policy_results : Tr37 → Int → Sq → Option (List Sq)) (p1 : Int) (x4 : Tr37) (kx327 : Sq) : Option (List Sq) := (fRec_policy_results (Tr37.of (x4.un.1,f34 x4.un.2.1,x4.un.2.2.1,x4.un.2.2.2.1,x4.un.2.2.2.2)) p1 kx327).bind fun x6 => some x6
def Bc (fRec_policy_results : Tr37 → Int → Sq → Option (List Sq)) (p0 : List Tr37) (p1 : Int) : ((List Sq) × Int) → Option (((List Sq) × Int) ⊕ (List Sq))
  | (x2,x3) => (if x3 < (p0.length : Int) then (ix p0 x3).bind fun x4 => (Gj AC (BR fRec_policy_results p1 x4) x2 ([] : List Sq)).bind fun x5 => some (.inl (x5,Aq (x3 + 1))) else some (.inr x2))
def B1 (fRec_policy_results : Tr37 → Int → Sq → Option (List Sq)) (p0 : List Tr37) (p1 : Int) (p2 : Sq) : Option (List Sq) := (Af (Bc fRec_policy_results p0 p1) ((EK AC ([] : List Sq) p2),0)).bind fun x1 => some x1
theorem MB (fRec_policy_results : Tr37 → Int → Sq → Option (List Sq)) (ih_policy_results : ∀ (Y : Nat → Prop) (w0 : World) (v1 : Value) (v2 : Value) (p0 : Tr37) (p1 : Int) (p2 : Sq) (r : (List Sq)) (H : fRec_policy_results p0 p1 p2 = some r) (s_v1 : Sl w0 Y Kq v1 p0.un.2.1.un.2.2.2) (s_v2 : Sl w0 Y Iv v2 p0.un.2.2.2.2) (hG : Gk [] w0),ca_ 39 #[.agg #[Jint p0.un.1,Jint p0.un.2.1.un.1,Jint p0.un.2.1.un.2.1,Jint p0.un.2.1.un.2.2.1,v1,Jint p0.un.2.2.1,Jint p0.un.2.2.2.1,v2],Jint p1,.agg #[Jint p2.1,Jint p2.2.1,Jint p2.2.2.1,Jint p2.2.2.2.1,Jint p2.2.2.2.2]] w0 fun e w' => ∃ x : Value,e = .returned (x) ∧ sy Y w0 [] [BW (x) Co AC r] w') (Y : Nat → Prop) (w0 : World) (v1 : Value) (p0 : List Tr37) (p1 : Int) (p2 : Sq) (r : (List Sq)) (H : B1 fRec_policy_results p0 p1 p2 = some r) (s_v1 : Sl w0 Y Iv v1 p0) (hG : Gk [] w0) :
    ca_ 70 #[v1,Jint p1,.agg #[Jint p2.1,Jint p2.2.1,Jint p2.2.2.1,Jint p2.2.2.2.1,Jint p2.2.2.2.2]] w0 fun e w' => ∃ x : Value,e = .returned (x) ∧ sy Y w0 [] [BW (x) Co AC r] w' := by
 refine enter Tryz.func70 Aa Tryz.ntmps70 Aa fun a W => ?_
 have F := Stw.start Y w0
 obtain ⟨v2,h1,s_v1⟩ := s_v1.ex ST
 have h_v1 := F.nx s_v1
 unfold B1 at H
 refine vc tk 2 W F fun a w W F => ?_
 refine H7 (cs := (Fk p2)) W F Aa Aa Aa fun b1 a w W F => ?_
 refine Lg tk 5 W F fun a w W F => ?_
 refine Iz Co AC W F Aa fun v3 a w W F => ?_
 have F : sy Y w0 (Hh b1 p2) [BW v3 Co AC ([] : List Sq)] w := F
 refine ls W F Aa (Eh (v := Value.agg #[Jint p2.1,Jint p2.2.1,Jint p2.2.2.1,Jint p2.2.2.2.1,Jint p2.2.2.2.2]) 0 W Aa Aa XH Aa).q fun a w W F => ?_
 refine ls W F Aa (Gh (v := Value.agg #[]) uW W Aa Aa Aa).q fun a w W F => ?_
 refine l_setput' (q := 0) (p2 : Sq) W F Aa Aa Aa Aa Aa gV KD XD fun w F => ?_
 have F : sy Y w0 (Hh b1 p2) [BW v3 Co AC (EK AC ([] : List Sq) p2)] w := F
 refine vl tk 3 W F fun a w W F => ?_
 refine Al ?_
 obtain ⟨o1,G1,K1⟩ := A1 H
 refine Ek (fun a w => ∃ x1 : List Sq, ∃ v4 : Value,some (x1) = some o1 ∧ Fr 38 [] [(6,.map none),(7,v4)] a ∧ sy Y w0 (Hh b1 p2) [BW v4 Co AC x1] w) ?_ ?_
 ·
  have H := G1
  clear G1 K1
  refine vc tk 3 W F fun a w W F => ?_
  refine ls W F Aa (Lw (r := Iv) (l := p0) pU Aa W Aa (Hk ST h1 (BZ h_v1))).q fun a w W F => ?_
  refine Lg tk 4 W F fun a w W F => ?_
  refine Jq H (fun s a w => ∃ v5 : Value,Fr 38 [] [(1,Jint p1),(6,.map none),(7,v5),(16,v1),(17,Jint (p0.length : Int)),(18,Jint s.2)] a ∧ sy Y w0 (Hh b1 p2) [BW v5 Co AC s.1] w) ⟨(v3),W.ra Aa,F⟩ fun s o a w H L2 hR => ?_
  obtain ⟨x2,x3⟩ := s
  obtain ⟨v5,W,F⟩ := hR
  have W : Fr 38 [] [(1,Jint p1),(6,.map none),(7,v5),(16,v1),(17,Jint (p0.length : Int)),(18,Jint x3)] a := W
  have F : sy Y w0 (Hh b1 p2) [BW v5 Co AC x2] w := F
  rw [Bc] at H
  refine vc tk 6 W F fun a w W F => ?_
  refine Ia W Aa H (fun W H => ?_) fun W H => ?_
  ·
   refine W1 tk 6 W F fun a w W F => ?_
   obtain ⟨x4,h2,H⟩ := A1 H
   obtain ⟨v6,h3,h4⟩ := TY h1 h2
   have h5 : fV v6 = [Jint x4.un.1,Jint x4.un.2.1.un.1,Jint x4.un.2.1.un.2.1,Jint x4.un.2.1.un.2.2.1,(v6.2.1.2.2.2.1),Jint x4.un.2.2.1,Jint x4.un.2.2.2.1,(v6.2.2.2.2.1)] := congrArg (fun q : Tr37 => ([Jint q.un.1,Jint q.un.2.1.un.1,Jint q.un.2.1.un.2.1,Jint q.un.2.1.un.2.2.1,(v6.2.1.2.2.2.1),Jint q.un.2.2.1,Jint q.un.2.2.2.1,(v6.2.2.2.2.1)] : List Value)) h4
   refine ls W F Aa (Hq (r := bH) qZ W Aa Aa (BZ h_v1) h3).q fun a w W F => ?_
   refine ls W F Aa (Er (y := Value.agg #[Jint x4.un.1,Jint x4.un.2.1.un.1,Jint x4.un.2.1.un.2.1,Jint x4.un.2.1.un.2.2.1,(v6.2.1.2.2.2.1),Jint x4.un.2.2.1,Jint x4.un.2.2.2.1,(v6.2.2.2.2.1)]) (j := 0) (i := x3) (enc := fV) W Aa Aa (BZ h_v1) h3 sW Z9 (by rw [h5]; rfl)).q fun a w W F => ?_
   refine GM (cs := (Tj)) W F Aa lY Aa fun b2 a w W F => ?_
   refine SN 0 W F Aa Aa Aa Z9 Aa Aa (AR Aa (AR Aa (AR Aa (AR Aa (AR ((L4 (BZ h_v1) h3 (Ce.snd (Ce.fst (Ce.snd (Ce.snd (Ce.snd Ce.here))))) (congrArg (fun q : Tr37 => q.un.2.1.un.2.2.2) h4)) _ F).one (AR Aa (AR Aa (AR ((L4 (BZ h_v1) h3 (Ce.snd (Ce.snd (Ce.snd (Ce.snd Ce.here)))) (congrArg (fun q : Tr37 => q.un.2.2.2.2) h4)) _ F).one Mt)))))))) fun w F => ?_
   refine Lg tk 4 W F fun a w W F => ?_
   refine Iz Co AC W F Aa fun v7 a w W F => ?_
   have F : sy Y w0 [(b2,[Jint x4.un.1,Jint x4.un.2.1.un.1,Jint x4.un.2.1.un.2.1,Jint x4.un.2.1.un.2.2.1,(v6.2.1.2.2.2.1),Jint x4.un.2.2.1,Jint x4.un.2.2.2.1,(v6.2.2.2.2.1)]),(b1,(Fk p2))] [BW v7 Co AC ([] : List Sq),BW v5 Co AC x2] w := F
   refine Lg tk 7 W F fun a w W F => ?_
   refine Nn (q := 1) W F Aa Aa Aa Aa XD fun i327 m327 e327 c327 l327 a w hv327 hE327 W F => ?_
   have F : sy Y w0 [(b2,[Jint x4.un.1,Jint x4.un.2.1.un.1,Jint x4.un.2.1.un.2.1,Jint x4.un.2.1.un.2.2.1,(v6.2.1.2.2.2.1),Jint x4.un.2.2.1,Jint x4.un.2.2.2.1,(v6.2.2.2.2.1)]),(b1,(Fk p2))] [GZ i327 m327 c327 #[] c327,Gw m327 e327 c327,BW v7 Co AC ([] : List Sq)] w := F
   refine Lg tk 3 W F fun a w W F => ?_
   obtain ⟨x5,h6,H⟩ := A1 H
   refine f9 (Ff := [(1,Jint p1),(6,.map none),(7,v5),(9,pp b2),(10,v7),(16,v1),(17,Jint (p0.length : Int)),(18,Jint x3),(19,.bool true),(21,.agg #[Jint x4.un.1,Jint x4.un.2.1.un.1,Jint x4.un.2.1.un.2.1,Jint x4.un.2.1.un.2.2.1,(v6.2.1.2.2.2.1),Jint x4.un.2.2.1,Jint x4.un.2.2.2.1,(v6.2.2.2.2.1)]),(22,v7),(23,v5)]) (Zr := []) (va := v7) KD h6 (W.ra Aa) F hv327 hE327 Aa Aa (fun kx327 r327 s327 sn327 a w G327_ hc327 W F => ?_) fun a w W F => ?_
   ·
    have W : Fr 38 [] [(1,Jint p1),(6,.map none),(7,v5),(9,pp b2),(10,v7),(16,v1),(17,Jint (p0.length : Int)),(18,Jint x3),(19,.bool true),(21,.agg #[Jint x4.un.1,Jint x4.un.2.1.un.1,Jint x4.un.2.1.un.2.1,Jint x4.un.2.1.un.2.2.1,(v6.2.1.2.2.2.1),Jint x4.un.2.2.1,Jint x4.un.2.2.2.1,(v6.2.2.2.2.1)]),(22,v7),(23,v5),(24,pp i327),(25,.tuple #[.bool true,.agg #[Jint kx327.1,Jint kx327.2.1,Jint kx327.2.2.1,Jint kx327.2.2.2.1,Jint kx327.2.2.2.2],.agg #[]]),(26,.bool true)] a := W.ra Aa
    have F : sy Y w0 [(b2,[Jint x4.un.1,Jint x4.un.2.1.un.1,Jint x4.un.2.1.un.2.1,Jint x4.un.2.1.un.2.2.1,(v6.2.1.2.2.2.1),Jint x4.un.2.2.1,Jint x4.un.2.2.2.1,(v6.2.2.2.2.1)]),(b1,(Fk p2))] [GZ i327 m327 c327 sn327 c327,Gw m327 e327 c327,BW v7 Co AC s327] w := F
    have H := G327_
    rw [BR] at H
    refine vc tk 3 W F fun a w W F => ?_
    refine ls W F Aa (Nh (q := 0) (q' := 1) W Aa Aa Aa hc327).q fun a w W F => ?_
    refine ls W F Aa (G8 (v := Value.agg #[Jint kx327.1,Jint kx327.2.1,Jint kx327.2.2.1,Jint kx327.2.2.2.1,Jint kx327.2.2.2.2]) W Aa Aa).q fun a w W F => ?_
    refine GM (cs := (lF)) W F Aa oE Aa fun b3 a w W F => ?_
    refine SN 0 W F Aa Aa Aa XH Aa Aa Aa fun w F => ?_
    refine Vx tk 7 [1,0] W F (ai (ai fun a w W F => ?_))
    obtain ⟨x6,h7,H⟩ := A1 H
    refine Gf (Ml := []) (Zl := []) (β := Value) (rv := fun x => x) (MM := fun x => []) (ZZ := fun x => [BW x Co AC x6]) W F uZ Aa Aa (fun hL => ih_policy_results _ w ((v6.2.1.2.2.2.1)) ((v6.2.2.2.2.1)) (Tr37.of (x4.un.1,f34 x4.un.2.1,x4.un.2.2.1,x4.un.2.2.2.1,x4.un.2.2.2.2)) p1 kx327 _ h7 (Sl.at_ (F.old s_v1) h3 (Ce.snd (Ce.fst (Ce.snd (Ce.snd (Ce.snd Ce.here))))) (congrArg (fun q : Tr37 => q.un.2.1.un.2.2.2) h4)) (Sl.at_ (F.old s_v1) h3 (Ce.snd (Ce.snd (Ce.snd (Ce.snd Ce.here)))) (congrArg (fun q : Tr37 => q.un.2.2.2.2) h4)) (hG.go0 F)) fun x a w W F => ?_
    obtain ⟨v8,rfl⟩ : ∃ y,y = x := ⟨x,rfl⟩
    have F : sy Y w0 [(b3,(Fk kx327)),(b2,[Jint x4.un.1,Jint x4.un.2.1.un.1,Jint x4.un.2.1.un.2.1,Jint x4.un.2.1.un.2.2.1,(v6.2.1.2.2.2.1),Jint x4.un.2.2.1,Jint x4.un.2.2.2.1,(v6.2.2.2.2.1)]),(b1,(Fk p2))] [BW v8 Co AC x6,GZ i327 m327 c327 sn327 c327,Gw m327 e327 c327,BW v7 Co AC s327] w := F
    have F := F.frontZ (i := 3) Aa Aa
    refine Gf (Ml := []) (Zl := [BW v7 Co AC s327,BW v8 Co AC x6]) (β := Unit) (rv := fun _ => .tuple #[]) (MM := fun _ => []) (ZZ := fun _ => [BW v8 Co AC x6,BW v7 Co AC (Iw AC s327 x6)]) W F zR Aa Aa (fun hL => bJ _ _ w _ _ _ _ hL) fun _ a w W F => ?_
    have F : sy Y w0 [(b3,(Fk kx327)),(b2,[Jint x4.un.1,Jint x4.un.2.1.un.1,Jint x4.un.2.1.un.2.1,Jint x4.un.2.1.un.2.2.1,(v6.2.1.2.2.2.1),Jint x4.un.2.2.1,Jint x4.un.2.2.2.1,(v6.2.2.2.2.1)]),(b1,(Fk p2))] [BW v8 Co AC x6,BW v7 Co AC (Iw AC s327 x6),GZ i327 m327 c327 sn327 c327,Gw m327 e327 c327] w := F
    refine Im (FK (Al ?_))
    have H := DR H
    subst H
    have F := F.frontZ (i := 1) Aa Aa
    have F := F.frontZ (i := 3) Aa Aa
    have F := F.frontZ (i := 3) Aa Aa
    have F := F.frontM (i := 2) Aa Aa
    have F := F.frontM (i := 2) Aa Aa
    have F := F.sub (M' := [(b2,[Jint x4.un.1,Jint x4.un.2.1.un.1,Jint x4.un.2.1.un.2.1,Jint x4.un.2.1.un.2.2.1,(v6.2.1.2.2.2.1),Jint x4.un.2.2.1,Jint x4.un.2.2.2.1,(v6.2.2.2.2.1)]),(b1,(Fk p2))]) (Z' := [GZ i327 m327 c327 sn327 c327,Gw m327 e327 c327,BW v7 Co AC (Iw AC s327 x6)]) (sc (sc nl)) (sc (sc (sc nl)))
    exact ⟨W.ra Aa,F⟩
   have W : Fr 38 [] [(1,Jint p1),(6,.map none),(7,v5),(9,pp b2),(10,v7),(16,v1),(17,Jint (p0.length : Int)),(18,Jint x3),(19,.bool true),(21,.agg #[Jint x4.un.1,Jint x4.un.2.1.un.1,Jint x4.un.2.1.un.2.1,Jint x4.un.2.1.un.2.2.1,(v6.2.1.2.2.2.1),Jint x4.un.2.2.1,Jint x4.un.2.2.2.1,(v6.2.2.2.2.1)]),(22,v7),(23,v5)] a := W.ra Aa
   have F : sy Y w0 [(b2,[Jint x4.un.1,Jint x4.un.2.1.un.1,Jint x4.un.2.1.un.2.1,Jint x4.un.2.1.un.2.2.1,(v6.2.1.2.2.2.1),Jint x4.un.2.2.1,Jint x4.un.2.2.2.1,(v6.2.2.2.2.1)]),(b1,(Fk p2))] [BW v5 Co AC x2,BW v7 Co AC x5] w := F
   refine GO ?_
   refine vn tk 4 W F fun a w W F => ?_
   refine FK ?_
   refine vn tk 4 W F fun a w W F => ?_
   refine Al ?_
   have F := F.frontZ (i := 1) Aa Aa
   have F := F.frontM (i := 1) Aa Aa
   have F := F.sub (M' := (Hh b1 p2)) (Z' := [BW v7 Co AC x5]) (sc nl) (sc nl)
   exact ⟨_,H,(v7),W.ra Aa,F⟩
  refine Ho ?_
  iterate 2 refine KM ?_
  refine GO (Al ?_)
  have H := L2 _ H
  exact ⟨_,(v5),H,W.ra Aa,F⟩
 rintro a w ⟨x1,v4,hj,W,F⟩
 have hj := DR hj
 subst hj
 have H := K1
 clear G1 K1
 refine vc tk 6 W F fun a w W F => ?_
 refine Cq ?_
 have H := DR H
 subst H
 refine Dr (.inl Aa) W F Aa (CH W Aa) ?_
 have F := F.sub (M' := []) (Z' := [BW v4 Co AC x1]) nl sr
 exact ⟨(v4),Aa,F⟩
theorem H70 : Has Tryz.prog 70 := Ik Tryz.func70
abbrev QX (a0 : Tr37) (a1 : Value) (a2 : Value) : List Value := [Jint a0.un.1,Jint a0.un.2.1.un.1,Jint a0.un.2.1.un.2.1,Jint a0.un.2.1.un.2.2.1,a1,Jint a0.un.2.2.1,Jint a0.un.2.2.2.1,a2]
def EM (p0 : Tr37) (p1 : Int) (p2 : Sq) : Option Tr37 := ((Fe (f34 p0.un.2.1) p1 p2.1 p2.2).bind fun x2 => (if x2 = true then some 0 else some 1)).bind fun x1 => (if (p0.un.2.2.2.2.length : Int) ≤ x1 then some (Tr37.of (0,Tr34.of (0,0,0,([] : List Tr34)),0,0,([] : List Tr37))) else (ix p0.un.2.2.2.2 x1).bind fun x3 => some (Tr37.of (x3.un.1,f34 x3.un.2.1,x3.un.2.2.1,x3.un.2.2.2.1,x3.un.2.2.2.2)))
abbrev K72 : Cn_ := ⟨[(.b true,[.d false (.tr 1)]),EZ,dV],[(.b true,[.d false (.tr 1)])],[],false,fun x => EM x.1 x.2.1 x.2.2,none⟩
theorem k72 : KO (K72) 72 := E0 (ct := (.q (.q (.j (.st false ⟨[(7,false,AZ)],[],[]⟩) .d .d)))) En (AJ k68 BN) Tryz.func72 (by kernel_rfl) fun x => by kernel_rfl
theorem PV (Y : Nat → Prop) (w0 : World) (v1 : Value) (v2 : Value) (p0 : Tr37) (p1 : Int) (p2 : Sq) (r : Tr37) (H : EM p0 p1 p2 = some r) (s_v1 : Sl w0 Y Kq v1 p0.un.2.1.un.2.2.2) (s_v2 : Sl w0 Y Iv v2 p0.un.2.2.2.2) (hG : Gk [] w0) :
    ca_ 72 #[.agg #[Jint p0.un.1,Jint p0.un.2.1.un.1,Jint p0.un.2.1.un.2.1,Jint p0.un.2.1.un.2.2.1,v1,Jint p0.un.2.2.1,Jint p0.un.2.2.2.1,v2],Jint p1,.agg #[Jint p2.1,Jint p2.2.1,Jint p2.2.2.1,Jint p2.2.2.2.1,Jint p2.2.2.2.2]] w0 fun e w' => ∃ x : Value × Value,e = .returned (.agg #[Jint r.un.1,Jint r.un.2.1.un.1,Jint r.un.2.1.un.2.1,Jint r.un.2.1.un.2.2.1,x.1,Jint r.un.2.2.1,Jint r.un.2.2.2.1,x.2]) ∧ sy Y w0 [] [frz (x.1) Kq r.un.2.1.un.2.2.2,frz (x.2) Iv r.un.2.2.2.2] w' := by
 refine (k72.out (Y := Y) (X := []) (x := (p0,p1,p2)) (r := r) H Aa Aa Aa Aa Aa (v1,(v2,())) ⟨s_v1,⟨s_v2,trivial⟩⟩ (Stw.start Y w0) hG).mono ?_
 rintro e w' ⟨⟨a0,a1,u⟩,he,F,hi⟩
 exact ⟨(a0,a1),he,F⟩
theorem H72 : Has Tryz.prog 72 := Ik Tryz.func72
abbrev Jp (a0 : Nat) (a1 : Sq) (a2 : Nat) (a3 : Tr37) (a4 : Value) (a5 : Value) : List (Nat × List Value) := [(a0,[Jint a1.1,Jint a1.2.1,Jint a1.2.2.1,Jint a1.2.2.2.1,Jint a1.2.2.2.2]),(a2,[Jint a3.un.1,Jint a3.un.2.1.un.1,Jint a3.un.2.1.un.2.1,Jint a3.un.2.1.un.2.2.1,a4,Jint a3.un.2.2.1,Jint a3.un.2.2.2.1,a5])]
def BE (fRec : Tr37 → Int → Sq → Option (List Sq)) (p0 : Tr37) (p1 : Int) (p2 : Sq) : ((List Sq) × Int) → Option (((List Sq) × Int) ⊕ (List Sq))
  | (x5,x6) => (if x6 < (p0.un.2.2.2.2.length : Int) then (ix p0.un.2.2.2.2 x6).bind fun x7 => (fRec (Tr37.of (x7.un.1,f34 x7.un.2.1,x7.un.2.2.1,x7.un.2.2.2.1,x7.un.2.2.2.2)) p1 p2).bind fun x8 => some (.inl ((Iw AC x5 x8),Aq (x6 + 1))) else some (.inr x5))
def AO (fRec : Tr37 → Int → Sq → Option (List Sq)) (p0 : Tr37) (p1 : Int) (p2 : Sq) : Option (List Sq) := Hw (if p0.un.1 = 1 then (Fe (f34 p0.un.2.1) p1 p2.1 p2.2).bind fun x1 => (if x1 = true then some (.inr (EK AC ([] : List Sq) p2)) else some (.inl ())) else (if p0.un.1 = 2 then (Cz p2 p0.un.2.2.1 p0.un.2.2.2.1).bind fun x2 => some (.inr (EK AC ([] : List Sq) x2)) else (if p0.un.1 = 3 then ((B1 fRec) p0.un.2.2.2.2 p1 p2).bind fun x3 => some (.inr x3) else (if p0.un.1 = 4 then (Af (BE fRec p0 p1 p2) (([] : List Sq),0)).bind fun x4 => some (.inr x4) else (if p0.un.1 = 5 then (EM (Tr37.of (p0.un.1,f34 p0.un.2.1,p0.un.2.2.1,p0.un.2.2.2.1,p0.un.2.2.2.2)) p1 p2).bind fun x9 => (fRec (Tr37.of (x9.un.1,f34 x9.un.2.1,x9.un.2.2.1,x9.un.2.2.2.1,x9.un.2.2.2.2)) p1 p2).bind fun x10 => some (.inr x10) else some (.inl ())))))) fun _ => some ([] : List Sq)
def AQ : Nat → Tr37 → Int → Sq → Option (List Sq)
  | 0 => fun _ _ _ => none
  | n + 1 => AO (AQ n)
def El (p0 : Tr37) (p1 : Int) (p2 : Sq) : Option (List Sq) := E2 fun n => AQ n p0 p1 p2
theorem Nl (fRec : Tr37 → Int → Sq → Option (List Sq)) (ih : ∀ (Y : Nat → Prop) (w0 : World) (v1 : Value) (v2 : Value) (p0 : Tr37) (p1 : Int) (p2 : Sq) (r : (List Sq)) (H : fRec p0 p1 p2 = some r) (s_v1 : Sl w0 Y Kq v1 p0.un.2.1.un.2.2.2) (s_v2 : Sl w0 Y Iv v2 p0.un.2.2.2.2) (hG : Gk [] w0),ca_ 39 #[.agg #[Jint p0.un.1,Jint p0.un.2.1.un.1,Jint p0.un.2.1.un.2.1,Jint p0.un.2.1.un.2.2.1,v1,Jint p0.un.2.2.1,Jint p0.un.2.2.2.1,v2],Jint p1,.agg #[Jint p2.1,Jint p2.2.1,Jint p2.2.2.1,Jint p2.2.2.2.1,Jint p2.2.2.2.2]] w0 fun e w' => ∃ x : Value,e = .returned (x) ∧ sy Y w0 [] [BW (x) Co AC r] w') (Y : Nat → Prop) (w0 : World) (v1 : Value) (v2 : Value) (p0 : Tr37) (p1 : Int) (p2 : Sq) (r : (List Sq)) (H : AO fRec p0 p1 p2 = some r) (s_v1 : Sl w0 Y Kq v1 p0.un.2.1.un.2.2.2) (s_v2 : Sl w0 Y Iv v2 p0.un.2.2.2.2) (hG : Gk [] w0) :
    ca_ 39 #[.agg #[Jint p0.un.1,Jint p0.un.2.1.un.1,Jint p0.un.2.1.un.2.1,Jint p0.un.2.1.un.2.2.1,v1,Jint p0.un.2.2.1,Jint p0.un.2.2.2.1,v2],Jint p1,.agg #[Jint p2.1,Jint p2.2.1,Jint p2.2.2.1,Jint p2.2.2.2.1,Jint p2.2.2.2.2]] w0 fun e w' => ∃ x : Value,e = .returned (x) ∧ sy Y w0 [] [BW (x) Co AC r] w' := by
 refine enter Tryz.func39 Aa Tryz.ntmps39 Aa fun a W => ?_
 have F := Stw.start Y w0
 obtain ⟨v3,h1,s_v1⟩ := s_v1.ex Xi
 obtain ⟨v4,h2,s_v2⟩ := s_v2.ex ST
 have h_v1 := F.nx s_v1
 have h_v2 := F.nx s_v2
 unfold AO at H
 refine vc tk 2 W F fun a w W F => ?_
 refine H7 (cs := (QX p0 v1 v2)) W F Aa Aa Aa fun b1 a w W F => ?_
 refine H7 (cs := (Fk p2)) W F Aa Aa Aa fun b2 a w W F => ?_
 refine vl tk 2 W F fun a w W F => ?_
 refine Al ?_
 obtain ⟨o1,G1,K1,L1⟩ := uY H
 refine Ek (fun a w => some (Sum.inl ()) = some o1 ∧ Fr 72 [] [(6,.map none)] a ∧ sy Y w0 (Jp b2 p2 b1 p0 v1 v2) [] w) ?_ ?_
 ·
  have H := G1
  clear G1 K1
  refine U7 tk 13 [1] W F (ai fun a w W F => ?_)
  refine QY W Aa (fun hb => ?_) fun hb => ?_
  ·
   have H := O2 (VA hb) H
   rw [hb] at W
   clear hb
   refine U7 tk 9 [1,0,0] W F (ai (ai (ai fun a w W F => ?_)))
   obtain ⟨x1,h3,H⟩ := A1 H
   refine ls W F Aa (EP (v := Value.bool x1) W H68 Aa (fun w F => Vk any w (v1) (f34 p0.un.2.1) p1 p2.1 p2.2 _ h3 (bF (Hk Xi h1 (BZ h_v1)) F) (hG.go0 F))) fun a w W F => ?_
   refine Lg tk 2 W F fun a w W F => ?_
   refine Kx W Aa H (fun W H => ?_) fun W H => ?_
   ·
    refine vc tk 2 W F fun a w W F => ?_
    refine Iz Co AC W F Aa fun v5 a w W F => ?_
    have F : sy Y w0 (Jp b2 p2 b1 p0 v1 v2) [BW v5 Co AC ([] : List Sq)] w := F
    refine ls W F Aa (Eh (v := Value.agg #[Jint p2.1,Jint p2.2.1,Jint p2.2.2.1,Jint p2.2.2.2.1,Jint p2.2.2.2.2]) 0 W Aa Aa XH Aa).q fun a w W F => ?_
    refine ls W F Aa (Gh (v := Value.agg #[]) uW W Aa Aa Aa).q fun a w W F => ?_
    refine l_setput' (q := 0) (p2 : Sq) W F Aa Aa Aa Aa Aa gV KD XD fun w F => ?_
    have F : sy Y w0 (Jp b2 p2 b1 p0 v1 v2) [BW v5 Co AC (EK AC ([] : List Sq) p2)] w := F
    refine Lg tk 4 W F fun a w W F => ?_
    refine Cq (Hj (DY ?_))
    have H := L1 _ H
    have H := DR H
    subst H
    refine Dr (.inl Aa) W F Aa (CH W Aa) ?_
    have F := F.sub (M' := []) (Z' := [BW v5 Co AC (EK AC ([] : List Sq) p2)]) nl sr
    exact ⟨(v5),Aa,F⟩
   refine E3 (FK (Al ?_))
   have F := F.frontM (i := 1) Aa Aa
   have F := F.frontM (i := 1) Aa Aa
   exact ⟨H,W.ra Aa,F⟩
  have H := Pa (Wu hb) H
  rw [hb] at W
  clear hb
  refine vc tk 6 W F fun a w W F => ?_
  refine QY W Aa (fun hb => ?_) fun hb => ?_
  ·
   have H := O2 (VA hb) H
   rw [hb] at W
   clear hb
   refine vc tk 2 W F fun a w W F => ?_
   refine Iz Co AC W F Aa fun v6 a w W F => ?_
   have F : sy Y w0 (Jp b2 p2 b1 p0 v1 v2) [BW v6 Co AC ([] : List Sq)] w := F
   refine Tw tk 5 [0,1,1] W F (ai (ai (ai fun a w W F => ?_)))
   obtain ⟨x2,h4,H⟩ := A1 H
   refine ls W F Aa (EP (v := Value.agg #[Jint x2.1,Jint x2.2.1,Jint x2.2.2.1,Jint x2.2.2.2.1,Jint x2.2.2.2.2]) W H69 Aa (fun w F => Od any w p2 p0.un.2.2.1 p0.un.2.2.2.1 _ h4 (hG.go0 F))) fun a w W F => ?_
   refine ls W F Aa (Gh (v := Value.agg #[]) uW W Aa Aa Aa).q fun a w W F => ?_
   refine l_setput' (q := 0) (x2 : Sq) W F Aa Aa Aa Aa Aa gV KD XD fun w F => ?_
   have F : sy Y w0 (Jp b2 p2 b1 p0 v1 v2) [BW v6 Co AC (EK AC ([] : List Sq) x2)] w := F
   refine Lg tk 4 W F fun a w W F => ?_
   refine Cq (Hj (DY ?_))
   have H := L1 _ H
   have H := DR H
   subst H
   refine Dr (.inl Aa) W F Aa (CH W Aa) ?_
   have F := F.sub (M' := []) (Z' := [BW v6 Co AC (EK AC ([] : List Sq) x2)]) nl sr
   exact ⟨(v6),Aa,F⟩
  have H := Pa (Wu hb) H
  rw [hb] at W
  clear hb
  refine vc tk 6 W F fun a w W F => ?_
  refine QY W Aa (fun hb => ?_) fun hb => ?_
  ·
   have H := O2 (VA hb) H
   rw [hb] at W
   clear hb
   refine U7 tk 6 [1,0] W F (ai (ai fun a w W F => ?_))
   obtain ⟨x3,h5,H⟩ := A1 H
   refine Gf (Ml := []) (Zl := []) (β := Value) (rv := fun x => x) (MM := fun x => []) (ZZ := fun x => [BW x Co AC x3]) W F H70 Aa Aa (fun hL => (MB fRec ih) _ w (v2) p0.un.2.2.2.2 p1 p2 _ h5 (Sl.hide ST h2 (F.old s_v2)) (hG.go0 F)) fun x a w W F => ?_
   obtain ⟨v7,rfl⟩ : ∃ y,y = x := ⟨x,rfl⟩
   have F : sy Y w0 (Jp b2 p2 b1 p0 v1 v2) [BW v7 Co AC x3] w := F
   refine Lg tk 3 W F fun a w W F => ?_
   refine Cq (Hj (DY ?_))
   have H := L1 _ H
   have H := DR H
   subst H
   refine Dr (.inl Aa) W F Aa (CH W Aa) ?_
   have F := F.sub (M' := []) (Z' := [BW v7 Co AC x3]) nl sr
   exact ⟨(v7),Aa,F⟩
  have H := Pa (Wu hb) H
  rw [hb] at W
  clear hb
  refine vc tk 6 W F fun a w W F => ?_
  refine QY W Aa (fun hb => ?_) fun hb => ?_
  ·
   have H := O2 (VA hb) H
   rw [hb] at W
   clear hb
   refine vc tk 2 W F fun a w W F => ?_
   refine Iz Co AC W F Aa fun v8 a w W F => ?_
   have F : sy Y w0 (Jp b2 p2 b1 p0 v1 v2) [BW v8 Co AC ([] : List Sq)] w := F
   refine vl tk 2 W F fun a w W F => ?_
   refine Al ?_
   obtain ⟨o2,G2,K2⟩ := A1 H
   refine Ek (fun a w => ∃ x4 : List Sq,some (x4) = some o2 ∧ Fr 72 [] [(6,.map none),(7,v8)] a ∧ sy Y w0 (Jp b2 p2 b1 p0 v1 v2) [BW v8 Co AC x4] w) ?_ ?_
   ·
    have H := G2
    clear G2 K2
    refine U7 tk 4 [1] W F (ai fun a w W F => ?_)
    refine ls W F Aa (Lw (r := Iv) (l := p0.un.2.2.2.2) pU Aa W Aa (Hk ST h2 (BZ h_v2))).q fun a w W F => ?_
    refine Lg tk 4 W F fun a w W F => ?_
    have F := F.frontM (i := 1) Aa Aa
    have F := F.frontM (i := 1) Aa Aa
    refine Jq H (fun s a w => Fr 72 [] [(1,Jint p1),(5,pp b2),(6,.map none),(7,v8),(48,v2),(49,Jint (p0.un.2.2.2.2.length : Int)),(50,Jint s.2)] a ∧ sy Y w0 (Jp b2 p2 b1 p0 v1 v2) [BW v8 Co AC s.1] w) ⟨W.ra Aa,F⟩ fun s o a w H L3 hR => ?_
    obtain ⟨x5,x6⟩ := s
    obtain ⟨W,F⟩ := hR
    have W : Fr 72 [] [(1,Jint p1),(5,pp b2),(6,.map none),(7,v8),(48,v2),(49,Jint (p0.un.2.2.2.2.length : Int)),(50,Jint x6)] a := W
    have F : sy Y w0 (Jp b2 p2 b1 p0 v1 v2) [BW v8 Co AC x5] w := F
    rw [BE] at H
    refine vc tk 6 W F fun a w W F => ?_
    refine Ia W Aa H (fun W H => ?_) fun W H => ?_
    ·
     refine W1 tk 6 W F fun a w W F => ?_
     obtain ⟨x7,h6,H⟩ := A1 H
     obtain ⟨v9,h7,h8⟩ := TY h2 h6
     have h9 : fV v9 = [Jint x7.un.1,Jint x7.un.2.1.un.1,Jint x7.un.2.1.un.2.1,Jint x7.un.2.1.un.2.2.1,(v9.2.1.2.2.2.1),Jint x7.un.2.2.1,Jint x7.un.2.2.2.1,(v9.2.2.2.2.1)] := congrArg (fun q : Tr37 => ([Jint q.un.1,Jint q.un.2.1.un.1,Jint q.un.2.1.un.2.1,Jint q.un.2.1.un.2.2.1,(v9.2.1.2.2.2.1),Jint q.un.2.2.1,Jint q.un.2.2.2.1,(v9.2.2.2.2.1)] : List Value)) h8
     refine ls W F Aa (Hq (r := bH) qZ W Aa Aa (BZ h_v2) h7).q fun a w W F => ?_
     refine ls W F Aa (Er (y := Value.agg #[Jint x7.un.1,Jint x7.un.2.1.un.1,Jint x7.un.2.1.un.2.1,Jint x7.un.2.1.un.2.2.1,(v9.2.1.2.2.2.1),Jint x7.un.2.2.1,Jint x7.un.2.2.2.1,(v9.2.2.2.2.1)]) (j := 0) (i := x6) (enc := fV) W Aa Aa (BZ h_v2) h7 sW Z9 (by rw [h9]; rfl)).q fun a w W F => ?_
     refine GM (cs := (Tj)) W F Aa lY Aa fun b3 a w W F => ?_
     refine SN 0 W F Aa Aa Aa Z9 Aa Aa (AR Aa (AR Aa (AR Aa (AR Aa (AR ((L4 (BZ h_v2) h7 (Ce.snd (Ce.fst (Ce.snd (Ce.snd (Ce.snd Ce.here))))) (congrArg (fun q : Tr37 => q.un.2.1.un.2.2.2) h8)) _ F).one (AR Aa (AR Aa (AR ((L4 (BZ h_v2) h7 (Ce.snd (Ce.snd (Ce.snd (Ce.snd Ce.here)))) (congrArg (fun q : Tr37 => q.un.2.2.2.2) h8)) _ F).one Mt)))))))) fun w F => ?_
     refine Vx tk 7 [0,1] W F (ai (ai fun a w W F => ?_))
     obtain ⟨x8,h10,H⟩ := A1 H
     refine Gf (Ml := []) (Zl := []) (β := Value) (rv := fun x => x) (MM := fun x => []) (ZZ := fun x => [BW x Co AC x8]) W F uZ Aa Aa (fun hL => ih _ w ((v9.2.1.2.2.2.1)) ((v9.2.2.2.2.1)) (Tr37.of (x7.un.1,f34 x7.un.2.1,x7.un.2.2.1,x7.un.2.2.2.1,x7.un.2.2.2.2)) p1 p2 _ h10 (Sl.at_ (F.old s_v2) h7 (Ce.snd (Ce.fst (Ce.snd (Ce.snd (Ce.snd Ce.here))))) (congrArg (fun q : Tr37 => q.un.2.1.un.2.2.2) h8)) (Sl.at_ (F.old s_v2) h7 (Ce.snd (Ce.snd (Ce.snd (Ce.snd Ce.here)))) (congrArg (fun q : Tr37 => q.un.2.2.2.2) h8)) (hG.go0 F)) fun x a w W F => ?_
     obtain ⟨v10,rfl⟩ : ∃ y,y = x := ⟨x,rfl⟩
     have F : sy Y w0 [(b3,[Jint x7.un.1,Jint x7.un.2.1.un.1,Jint x7.un.2.1.un.2.1,Jint x7.un.2.1.un.2.2.1,(v9.2.1.2.2.2.1),Jint x7.un.2.2.1,Jint x7.un.2.2.2.1,(v9.2.2.2.2.1)]),(b2,(Fk p2)),(b1,(QX p0 v1 v2))] [BW v10 Co AC x8,BW v8 Co AC x5] w := F
     have F := F.frontZ (i := 1) Aa Aa
     refine Gf (Ml := []) (Zl := [BW v8 Co AC x5,BW v10 Co AC x8]) (β := Unit) (rv := fun _ => .tuple #[]) (MM := fun _ => []) (ZZ := fun _ => [BW v10 Co AC x8,BW v8 Co AC (Iw AC x5 x8)]) W F zR Aa Aa (fun hL => bJ _ _ w _ _ _ _ hL) fun _ a w W F => ?_
     have F : sy Y w0 [(b3,[Jint x7.un.1,Jint x7.un.2.1.un.1,Jint x7.un.2.1.un.2.1,Jint x7.un.2.1.un.2.2.1,(v9.2.1.2.2.2.1),Jint x7.un.2.2.1,Jint x7.un.2.2.2.1,(v9.2.2.2.2.1)]),(b2,(Fk p2)),(b1,(QX p0 v1 v2))] [BW v10 Co AC x8,BW v8 Co AC (Iw AC x5 x8)] w := F
     refine Im (FK ?_)
     refine vn tk 4 W F fun a w W F => ?_
     refine Al ?_
     have F := F.frontZ (i := 1) Aa Aa
     have F := F.frontM (i := 2) Aa Aa
     have F := F.frontM (i := 2) Aa Aa
     have F := F.sub (M' := (Jp b2 p2 b1 p0 v1 v2)) (Z' := [BW v8 Co AC (Iw AC x5 x8)]) (sc (sc nl)) (sc nl)
     exact ⟨_,H,W.ra Aa,F⟩
    refine Ho ?_
    iterate 2 refine KM ?_
    refine GO (Al ?_)
    have F := F.frontM (i := 1) Aa Aa
    have F := F.frontM (i := 1) Aa Aa
    have H := L3 _ H
    exact ⟨_,H,W.ra Aa,F⟩
   rintro a w ⟨x4,hj,W,F⟩
   have hj := DR hj
   subst hj
   have H := K2
   clear G2 K2
   refine vc tk 6 W F fun a w W F => ?_
   refine Cq (Hj (DY ?_))
   have H := L1 _ H
   have H := DR H
   subst H
   refine Dr (.inl Aa) W F Aa (CH W Aa) ?_
   have F := F.sub (M' := []) (Z' := [BW v8 Co AC x4]) nl sr
   exact ⟨(v8),Aa,F⟩
  have H := Pa (Wu hb) H
  rw [hb] at W
  clear hb
  refine vc tk 6 W F fun a w W F => ?_
  refine QY W Aa (fun hb => ?_) fun hb => ?_
  ·
   have H := O2 (VA hb) H
   rw [hb] at W
   clear hb
   refine MY ?_
   refine V7 [(true,0),(true,1),(true,2),(true,4),(true,5),(false,3),(false,6),(false,7)] (CN ⟨Y,[],w0⟩ [(some 3,b1,[Jint p0.un.1,Jint p0.un.2.1.un.1,Jint p0.un.2.1.un.2.1,Jint p0.un.2.1.un.2.2.1,v1,Jint p0.un.2.2.1,Jint p0.un.2.2.2.1,v2]),(some 3,b2,[Jint p2.1,Jint p2.2.1,Jint p2.2.2.1,Jint p2.2.2.2.1,Jint p2.2.2.2.2]),(some 6,b2,[Jint p2.1,Jint p2.2.1,Jint p2.2.2.1,Jint p2.2.2.2.1,Jint p2.2.2.2.2])] []) (fun ch a d v w h => by cases d <;> exact h) MO (by kernel_rfl) F (fun w F => ⟨_,_,F,(all_cons (fun _ => (.tail _ (.head _))) (all_cons (fun _ => (.head _)) (all_cons (fun _ => (.head _)) B6))),B6⟩) fun w F => ?_
   refine O4 (R := [3]) W Aa Aa (yC fun M Z hN hZ => GA (cs := (QX p0 v1 v2)) (v := Value.agg #[Jint p0.un.1,Jint p0.un.2.1.un.1,Jint p0.un.2.1.un.2.1,Jint p0.un.2.1.un.2.2.1,v1,Jint p0.un.2.2.1,Jint p0.un.2.2.2.1,v2]) W Aa (hN ((some 3),b1,(QX p0 v1 v2)) (.head _) Aa) Z9 Aa) (by kernel_rfl) Aa fun a W => ?_
   refine O4 (R := []) W Aa Aa (yC fun M Z hN hZ => C1 W Aa) Aa Aa fun a W => ?_
   refine O4 (R := [3]) W Aa Aa (yC fun M Z hN hZ => GA (cs := (Fk p2)) (v := Value.agg #[Jint p2.1,Jint p2.2.1,Jint p2.2.2.1,Jint p2.2.2.2.1,Jint p2.2.2.2.2]) W Aa (hN ((some 3),b2,(Fk p2)) (.tail _ (.head _)) Aa) XH Aa) (by kernel_rfl) Aa fun a W => ?_
   refine O4 (R := []) W Aa Aa (yC fun M Z hN hZ => C1 W Aa) Aa Aa fun a W => ?_
   refine O4 (R := [6]) W Aa Aa (yC fun M Z hN hZ => GA (cs := (Fk p2)) (v := Value.agg #[Jint p2.1,Jint p2.2.1,Jint p2.2.2.1,Jint p2.2.2.2.1,Jint p2.2.2.2.2]) W Aa (hN ((some 6),b2,(Fk p2)) (.tail _ (.tail _ (.head _))) Aa) XH Aa) (by kernel_rfl) Aa fun a W => ?_
   refine Xz Aa ?_
   obtain ⟨x9,h11,H⟩ := A1 H
   refine Gf (Ml := []) (Zl := []) (β := Value × Value) (rv := fun x => .agg #[Jint x9.un.1,Jint x9.un.2.1.un.1,Jint x9.un.2.1.un.2.1,Jint x9.un.2.1.un.2.2.1,x.1,Jint x9.un.2.2.1,Jint x9.un.2.2.2.1,x.2]) (MM := fun x => []) (ZZ := fun x => [frz x.1 Kq x9.un.2.1.un.2.2.2,frz x.2 Iv x9.un.2.2.2.2]) W F H72 Aa Aa (fun hL => PV _ w (v1) (v2) (Tr37.of (p0.un.1,f34 p0.un.2.1,p0.un.2.2.1,p0.un.2.2.2.1,p0.un.2.2.2.2)) p1 p2 _ h11 (Sl.hide Xi h1 (F.old s_v1)) (Sl.hide ST h2 (F.old s_v2)) (hG.go0 F)) fun x a w W F => ?_
   obtain ⟨v11,v12⟩ := x
   have F : sy Y w0 (Jp b2 p2 b1 p0 v1 v2) [frz v11 Kq x9.un.2.1.un.2.2.2,frz v12 Iv x9.un.2.2.2.2] w := F
   refine KE (N2 := []) (NZ2 := []) (N3 := [(some 3,b1,[Jint p0.un.1,Jint p0.un.2.1.un.1,Jint p0.un.2.1.un.2.1,Jint p0.un.2.1.un.2.2.1,v1,Jint p0.un.2.2.1,Jint p0.un.2.2.2.1,v2]),(some 3,b2,[Jint p2.1,Jint p2.2.1,Jint p2.2.2.1,Jint p2.2.2.2.1,Jint p2.2.2.2.2]),(some 6,b2,[Jint p2.1,Jint p2.2.1,Jint p2.2.2.1,Jint p2.2.2.2.1,Jint p2.2.2.2.2])]) (NZ3 := []) F Aa Aa (all_cons (fun h => CT (by kernel_rfl) h) (all_cons (fun h => CT (by kernel_rfl) h) (all_cons (fun _ => (.head _)) B6))) B6 ?_
   refine Xz Aa ?_
   obtain ⟨x10,h12,H⟩ := A1 H
   refine Gf (Ml := []) (Zl := []) (β := Value) (rv := fun x => x) (MM := fun x => []) (ZZ := fun x => [BW x Co AC x10]) W F uZ Aa Aa (fun hL => ih _ w (v11) (v12) (Tr37.of (x9.un.1,f34 x9.un.2.1,x9.un.2.2.1,x9.un.2.2.2.1,x9.un.2.2.2.2)) p1 p2 _ h12 (F.item (i := 0) Aa) (F.item (i := 1) Aa) (hG.go0 F)) fun x a w W F => ?_
   obtain ⟨v13,rfl⟩ : ∃ y,y = x := ⟨x,rfl⟩
   have F : sy Y w0 (Jp b2 p2 b1 p0 v1 v2) [BW v13 Co AC x10,frz v11 Kq x9.un.2.1.un.2.2.2,frz v12 Iv x9.un.2.2.2.2] w := F
   refine KE (N2 := []) (NZ2 := []) (N3 := [(some 3,b1,[Jint p0.un.1,Jint p0.un.2.1.un.1,Jint p0.un.2.1.un.2.1,Jint p0.un.2.1.un.2.2.1,v1,Jint p0.un.2.2.1,Jint p0.un.2.2.2.1,v2]),(some 3,b2,[Jint p2.1,Jint p2.2.1,Jint p2.2.2.1,Jint p2.2.2.2.1,Jint p2.2.2.2.2]),(some 6,b2,[Jint p2.1,Jint p2.2.1,Jint p2.2.2.1,Jint p2.2.2.2.1,Jint p2.2.2.2.2])]) (NZ3 := []) F Aa Aa (all_cons (fun h => CT (by kernel_rfl) h) (all_cons (fun h => CT (by kernel_rfl) h) (all_cons (fun h => CT (by kernel_rfl) h) B6))) B6 ?_
   refine Xz Aa ?_
   refine ls W F Aa (Ku W Aa).q fun a w W F => ?_
   refine KE (N2 := []) (NZ2 := []) (N3 := [(some 3,b1,[Jint p0.un.1,Jint p0.un.2.1.un.1,Jint p0.un.2.1.un.2.1,Jint p0.un.2.1.un.2.2.1,v1,Jint p0.un.2.2.1,Jint p0.un.2.2.2.1,v2]),(some 3,b2,[Jint p2.1,Jint p2.2.1,Jint p2.2.2.1,Jint p2.2.2.2.1,Jint p2.2.2.2.2]),(some 6,b2,[Jint p2.1,Jint p2.2.1,Jint p2.2.2.1,Jint p2.2.2.2.1,Jint p2.2.2.2.2])]) (NZ3 := []) F Aa Aa (all_cons (fun h => CT (by kernel_rfl) h) (all_cons (fun h => CT (by kernel_rfl) h) (all_cons (fun h => CT (by kernel_rfl) h) B6))) B6 ?_
   refine b9 (Al (Cq (Hj (DY ?_))))
   have H := L1 _ H
   have H := DR H
   subst H
   refine Dr (.inl Aa) W F Aa (CH W Aa) ?_
   have F := F.sub (M' := []) (Z' := [BW v13 Co AC x10]) nl (sc nl)
   exact ⟨(v13),Aa,F⟩
  have H := Pa (Wu hb) H
  rw [hb] at W
  clear hb
  refine E3 (FK (Al ?_))
  have F := F.frontM (i := 1) Aa Aa
  have F := F.frontM (i := 1) Aa Aa
  exact ⟨H,W.ra Aa,F⟩
 rintro a w ⟨hj,W,F⟩
 have H := K1 _ hj
 clear hj G1 K1 L1
 refine vc tk 2 W F fun a w W F => ?_
 refine Iz Co AC W F Aa fun v14 a w W F => ?_
 have F : sy Y w0 (Jp b2 p2 b1 p0 v1 v2) [BW v14 Co AC ([] : List Sq)] w := F
 refine Lg tk 3 W F fun a w W F => ?_
 refine Cq ?_
 have H := DR H
 subst H
 refine Dr (.inl Aa) W F Aa (CH W Aa) ?_
 have F := F.sub (M' := []) (Z' := [BW v14 Co AC ([] : List Sq)]) nl sr
 exact ⟨(v14),Aa,F⟩
theorem Oo : ∀ (n : Nat) (Y : Nat → Prop) (w0 : World) (v1 : Value) (v2 : Value) (p0 : Tr37) (p1 : Int) (p2 : Sq) (r : (List Sq)) (H : AQ n p0 p1 p2 = some r) (s_v1 : Sl w0 Y Kq v1 p0.un.2.1.un.2.2.2) (s_v2 : Sl w0 Y Iv v2 p0.un.2.2.2.2) (hG : Gk [] w0),ca_ 39 #[.agg #[Jint p0.un.1,Jint p0.un.2.1.un.1,Jint p0.un.2.1.un.2.1,Jint p0.un.2.1.un.2.2.1,v1,Jint p0.un.2.2.1,Jint p0.un.2.2.2.1,v2],Jint p1,.agg #[Jint p2.1,Jint p2.2.1,Jint p2.2.2.1,Jint p2.2.2.2.1,Jint p2.2.2.2.2]] w0 fun e w' => ∃ x : Value,e = .returned (x) ∧ sy Y w0 [] [BW (x) Co AC r] w' := by
  intro n
  induction n with
  | zero => intro Y w0 v1 v2 p0 p1 p2 r H; exact nomatch H
  | succ n ih => intro Y w0 v1 v2 p0 p1 p2 r H s_v1 s_v2 hG; exact Nl (AQ n) ih Y w0 v1 v2 p0 p1 p2 r H s_v1 s_v2 hG
theorem Pg (Y : Nat → Prop) (w0 : World) (v1 : Value) (v2 : Value) (p0 : Tr37) (p1 : Int) (p2 : Sq) (r : (List Sq)) (H : El p0 p1 p2 = some r) (s_v1 : Sl w0 Y Kq v1 p0.un.2.1.un.2.2.2) (s_v2 : Sl w0 Y Iv v2 p0.un.2.2.2.2) (hG : Gk [] w0) :
    ca_ 39 #[.agg #[Jint p0.un.1,Jint p0.un.2.1.un.1,Jint p0.un.2.1.un.2.1,Jint p0.un.2.1.un.2.2.1,v1,Jint p0.un.2.2.1,Jint p0.un.2.2.2.1,v2],Jint p1,.agg #[Jint p2.1,Jint p2.2.1,Jint p2.2.2.1,Jint p2.2.2.2.1,Jint p2.2.2.2.2]] w0 fun e w' => ∃ x : Value,e = .returned (x) ∧ sy Y w0 [] [BW (x) Co AC r] w' := by
  obtain ⟨n,H⟩ := Ks H
  exact Oo n Y w0 v1 v2 p0 p1 p2 r H s_v1 s_v2 hG
theorem ZF : type_of% Tryz.underlying45 := Tryz.underlying45
def E29 (a : Int × Int × Int × Int) : List Value := [Jint a.1,Jint a.2.1,Jint a.2.2.1,Jint a.2.2.2]
theorem zL : Fl wA E29 := (Fl.pair Fl.int (Fl.pair Fl.int (Fl.pair Fl.int Fl.int)))
def E63 (a : Sq) : List Value := [Jint a.1,Jint a.2.1,Jint a.2.2.1,Jint a.2.2.2.1,Jint a.2.2.2.2]
theorem gK : Fl Hn E63 := (Fl.pair Fl.int zL)
theorem YM : Et Tryz.prog 45 63 5 40 := Et.of ZF (by kernel_rfl) (by kernel_rfl) (by kernel_rfl) (by decide)
def Ig (p0 : Int) : Option Int := (if 4294967296 ≤ p0 then some (KZ .u64 p0 32,32) else some (p0,0)).bind fun (x1,x2) => (if 65536 ≤ x1 then some (KZ .u64 x1 16,Aq (x2 + 16)) else some (x1,x2)).bind fun (x3,x4) => (if 256 ≤ x3 then some (KZ .u64 x3 8,Aq (x4 + 8)) else some (x3,x4)).bind fun (x5,x6) => (ix ([0,1,2,2,3,3,3,3,4,4,4,4,4,4,4,4,5,5,5,5,5,5,5,5,5,5,5,5,5,5,5,5,6,6,6,6,6,6,6,6,6,6,6,6,6,6,6,6,6,6,6,6,6,6,6,6,6,6,6,6,6,6,6,6,7,7,7,7,7,7,7,7,7,7,7,7,7,7,7,7,7,7,7,7,7,7,7,7,7,7,7,7,7,7,7,7,7,7,7,7,7,7,7,7,7,7,7,7,7,7,7,7,7,7,7,7,7,7,7,7,7,7,7,7,7,7,7,7,8,8,8,8,8,8,8,8,8,8,8,8,8,8,8,8,8,8,8,8,8,8,8,8,8,8,8,8,8,8,8,8,8,8,8,8,8,8,8,8,8,8,8,8,8,8,8,8,8,8,8,8,8,8,8,8,8,8,8,8,8,8,8,8,8,8,8,8,8,8,8,8,8,8,8,8,8,8,8,8,8,8,8,8,8,8,8,8,8,8,8,8,8,8,8,8,8,8,8,8,8,8,8,8,8,8,8,8,8,8,8,8,8,8,8,8,8,8,8,8,8,8,8,8,8,8,8,8] : lb_) (IntKind.u8.wrap x5)).bind fun x7 => some (Aq (x6 + (Aq (x7.toNat : Int))))
abbrev yM : Cn_ := ⟨[(.b false,[.d true (.int .u64)])],[LA],[],false,fun x => Ig x,none⟩
theorem vF : KO (yM) 102 := E0 (ct := (.q (.j (.st false ⟨[(0,false,[.d false (.int .u64)]),(2,false,AZ)],[],[]⟩) .d (.j (.st false ⟨[(0,false,[.d false (.int .u64)]),(2,false,AZ)],[],[]⟩) .d (.j (.st false ⟨[(0,false,[.d false (.int .u64)]),(2,false,AZ)],[],[]⟩) .d .d))))) En BN Tryz.func102 (by kernel_rfl) fun x => by kernel_rfl
def GJ (p0 : Int) : Option Int := (Ig p0).bind fun x1 => some x1
abbrev K74 : Cn_ := ⟨[(.b false,[.d true (.int .u64)])],[LA],[],false,fun x => GJ x,none⟩
theorem zK : KO (K74) 74 := E0 (ct := .d) En (AJ vF BN) Tryz.func74 (by kernel_rfl) fun x => by kernel_rfl
def FQ (p0 : Int) : Bool := decide (p0 ≠ p0)
abbrev K75 : Cn_ := ⟨[EZ],[Lf],[],false,fun x => some (FQ x),some ⟨fun x => FQ x,fun _ => rfl⟩⟩
theorem k75 : KO (K75) 75 := E0 (ct := .d) En BN Tryz.func75 (by kernel_rfl) fun x => by kernel_rfl
def Ay (p0 : Int) (p1 : Int) : Int := (if (FQ p0) = true then (if (FQ p1) = true then 0 else (-1)) else (if (FQ p1) = true then 1 else (if p0 < p1 then (-1) else (if p1 < p0 then 1 else 0))))
noncomputable def b43 : Code := (Tryz.f43.body).getD .skip
def vG : Ct := .d
abbrev K43 : Cn_ := ⟨q7,tZ,[],false,fun x => some (Ay x.1 x.2),some ⟨fun x => Ay x.1 x.2,fun _ => rfl⟩⟩
theorem v43 (x : Int × Int) : @Eq (Option Int) (dF te nK ([(75,K75)] : GC te Tryz.prog) 20 b43 vG q7 tZ [] false [.tmp 4] x).den (some (Ay x.1 x.2)) := by simp only [Ay,apply_ite (some : Int → _)]; kernel_rfl
theorem zG : KO (K43) 43 := dK En (AJ k75 BN) Tryz.func43 (by kernel_rfl) Tryz.ntmps43 rfl rfl rfl (by kernel_rfl) v43
theorem Ny (Y : Nat → Prop) (w0 : World)  (p0 : Int) (p1 : Int) (r : Int) (H : Ay p0 p1 = r) (hG : Gk [] w0) :
    ca_ 43 #[Jint p0,Jint p1] w0 fun e w' => e = .returned (Jint r) ∧ Below w0.heap.size w0 w' := zG.outP (Y := Y) (x := (p0,p1)) (congrArg some H) rfl rfl rfl rfl rfl () trivial rfl hG fun _ => rfl
theorem xI : type_of% Tryz.underlying49 := Tryz.underlying49
theorem H43 : Has Tryz.prog 43 := Ik Tryz.func43
theorem L49 : Et Tryz.prog 49 3 1 8 := Et.of xI (by kernel_rfl) (by kernel_rfl) (by kernel_rfl) (by decide)
def Do (p0 : List Int) (p1 : List Int) : Int → Option (Int ⊕ (Unit ⊕ Int))
  | x1 => (if x1 < (p0.length : Int) then (ix p0 x1).bind fun x2 => (if (p1.length : Int) ≤ x1 then some (.inr (.inr 1)) else (ix p1 x1).bind fun x3 => (if (Ay x2 x3) ≠ 0 then some (.inr (.inr (Ay x2 x3))) else some (.inl (Aq (x1 + 1))))) else some (.inr (.inl ())))
def C8 (p0 : List Int) (p1 : List Int) : Option Int := Hw (Af (Do p0 p1) 0) fun _ => (if (p0.length : Int) < (p1.length : Int) then some (-1) else some 0)
abbrev K44 : Cn_ := ⟨[bX,bX],[LA],[],false,fun x => C8 x.1 x.2,none⟩
theorem k44 : KO (K44) 44 := E0 (ct := (.q (.j (.st true ⟨[],[],[]⟩) (.q (.b (.l ⟨[(11,false,AZ)],[],[]⟩ .d))) .d))) En (AJ zG BN) Tryz.func44 (by kernel_rfl) fun x => by kernel_rfl
theorem JN (Y : Nat → Prop) (w0 : World) (v1 : Value) (v2 : Value) (p0 : List Int) (p1 : List Int) (r : Int) (H : C8 p0 p1 = some r) (h_v1 : Sl w0 (NX []) ri v1 p0) (h_v2 : Sl w0 (NX []) ri v2 p1) (hG : Gk [] w0) :
    ca_ 44 #[v1,v2] w0 fun e w' => e = .returned (Jint r) ∧ Below w0.heap.size w0 w' := k44.outP (Y := Y) (x := (p0,p1)) H rfl rfl rfl rfl rfl (v1,(v2,())) ⟨h_v1,⟨h_v2,trivial⟩⟩ rfl hG fun _ => rfl
theorem H44 : Has Tryz.prog 44 := Ik Tryz.func44
theorem Z3 : (Tryz.prog.info? 3).bind (·.zero) = some (Jint 0) := by kernel_rfl
def FP (p0 : List Int) : Int → Option (Int ⊕ (Unit ⊕ Int))
  | x1 => (if x1 < (p0.length : Int) then (ix p0 x1).bind fun x2 => (if x2 ≠ 0 then some (.inr (.inr x2)) else some (.inl (Aq (x1 + 1)))) else some (.inr (.inl ())))
def IF (p0 : List Int) : Option Int := Hw (Af (FP p0) 0) fun _ => some 0
abbrev K42 : Cn_ := ⟨[bX],[LA],[],false,fun x => IF x,none⟩
theorem k42 : KO (K42) 42 := E0 (ct := (.q (.q (.j (.st true ⟨[],[],[]⟩) (.q (.b (.l ⟨[(8,false,AZ)],[],[]⟩ .d))) .d)))) En BN Tryz.func42 (by kernel_rfl) fun x => by kernel_rfl
theorem UM (Y : Nat → Prop) (w0 : World) (v1 : Value) (p0 : List Int) (r : Int) (H : IF p0 = some r) (h_v1 : Sl w0 (NX []) ri v1 p0) (hG : Gk [] w0) :
    ca_ 42 #[v1] w0 fun e w' => e = .returned (Jint r) ∧ Below w0.heap.size w0 w' := k42.outP (Y := Y) (x := p0) H rfl rfl rfl rfl rfl (v1,()) ⟨h_v1,trivial⟩ rfl hG fun _ => rfl
theorem H42 : Has Tryz.prog 42 := Ik Tryz.func42
def Bw (p0 : Sq) (p1 : Sq) : Option Int := (C8 ([p0.2.1,p0.2.2.1,p0.2.2.2.1,p0.2.2.2.2]) ([p1.2.1,p1.2.2.1,p1.2.2.2.1,p1.2.2.2.2])).bind fun x1 => (IF ([(Ay p0.1 p1.1),x1] : List Int)).bind fun x2 => some x2
theorem Rb (Y : Nat → Prop) (w0 : World)  (p0 : Sq) (p1 : Sq) (r : Int) (H : Bw p0 p1 = some r) (hG : Gk [] w0) :
    ca_ 41 #[.agg #[Jint p0.1,Jint p0.2.1,Jint p0.2.2.1,Jint p0.2.2.2.1,Jint p0.2.2.2.2],.agg #[Jint p1.1,Jint p1.2.1,Jint p1.2.2.1,Jint p1.2.2.2.1,Jint p1.2.2.2.2]] w0 fun e w' => e = .returned (Jint r) ∧ Below w0.heap.size w0 w' := by
 refine enter Tryz.func41 Aa Tryz.ntmps41 Aa fun a W => ?_
 have F := Stw.start Y w0
 unfold Bw at H
 refine vc tk 2 W F fun a w W F => ?_
 refine H7 (cs := (Fk p0)) W F Aa Aa Aa fun b1 a w W F => ?_
 refine H7 (cs := (Fk p1)) W F Aa Aa Aa fun b2 a w W F => ?_
 refine Lg tk 4 W F fun a w W F => ?_
 refine cW 10 F MO (by kernel_rfl) ?_
 refine qs W Aa (Bm PZ Aa Aa Aa T3 W Aa 0 Aa).q fun a W => ?_
 refine qs W Aa (Eh (v := Jint p0.1) 1 W Aa Aa T3 Aa).q fun a W => ?_
 refine qs W Aa (Bm PZ Aa Aa Aa T3 W Aa 0 Aa).q fun a W => ?_
 refine qs W Aa (Eh (v := Jint p1.1) 0 W Aa Aa T3 Aa).q fun a W => ?_
 refine qs W Aa (EP (v := Jint (Ay p0.1 p1.1)) W H43 Aa (fun w F => Ny any w p0.1 p1.1 _ Aa (hG.go0 F))) fun a W => ?_
 refine qs W Aa (Bm PZ Aa Aa Aa dH W Aa 1 Aa).q fun a W => ?_
 refine qs W Aa (Vu O1 W Aa).q fun a W => ?_
 refine qs W Aa (Bm PZ Aa Aa Aa dH W Aa 1 Aa).q fun a W => ?_
 refine qs W Aa (Vu O1 W Aa).q fun a W => ?_
 obtain ⟨x1,h1,H⟩ := A1 H
 refine qs W Aa (EP (v := Jint x1) W H44 Aa (fun w F => JN any w ((Value.slice (some ⟨b1,1,none⟩) 4 4)) ((Value.slice (some ⟨b2,1,none⟩) 4 4)) ([p0.2.1,p0.2.2.1,p0.2.2.2.1,p0.2.2.2.2]) ([p1.2.1,p1.2.2.1,p1.2.2.2.1,p1.2.2.2.2]) _ h1 (bF (lG 1 Fl.int Aa Aa Aa) F) (bF (lG 0 Fl.int Aa Aa Aa) F) (hG.go0 F))) fun a W => ?_
 refine D7 fun w F => ?_
 refine Ps (z := Jint 0) (cs := [Jint (Ay p0.1 p1.1),Jint x1]) ri ([(Ay p0.1 p1.1),x1] : List Int) W F Aa L49 Z3 Aa Aa Aa Aa Aa Aa (Fl.int.repL _ _ ([(Ay p0.1 p1.1),x1] : List Int)) fun v1 a w W F => ?_
 obtain ⟨x2,h2,H⟩ := A1 H
 refine ls W F Aa (EP (v := Jint x2) W H42 Aa (fun w F => UM any w (v1) ([(Ay p0.1 p1.1),x1] : List Int) _ h2 (bF (Ob 0 Aa) F) (hG.go0 F))) fun a w W F => ?_
 refine Lg tk 3 W F fun a w W F => ?_
 refine Cq ?_
 have H := DR H
 subst H
 refine Dr (.inl Aa) W F Aa (CH W Aa) ?_
 exact ⟨rfl,F.done⟩
abbrev K41 : Cn_ := ⟨xE,vO,[],false,fun x => Bw x.1 x.2,none⟩
theorem oB : KO K41 41 := KO.of ⟨fun args w => AN Tryz.func41 rfl (by decide) args w⟩ rfl (fun _ => rfl) (fun _ => rfl) rfl (fun _ => rfl) (fun _ => rfl) (fun _ => rfl) (fun _ => rfl) fun Y w0 x r g H hg hk => (Rb Y w0  x.1 x.2 r H hk).mono fun e w' h => ⟨(),h.1,Stw.ofB h.2⟩
def AP (p1 : Int) : ((List Sq) × Int) → Option (((List Sq) × Int) ⊕ (List Sq))
  | (x4,x5) => (if p1 < x5 then (ix x4 x5).bind fun x7 => (ix x4 (Aq (x5 - 1))).bind fun x8 => (Bw x7 x8).bind fun x9 => some (decide (x9 < 0)) else some false).bind fun x6 => (if x6 = true then (ix x4 (Aq (x5 - 1))).bind fun x10 => (ix x4 x5).bind fun x11 => (ix x4 x5).bind fun x12 => (ix (AW x4 x5 x10) (Aq (x5 - 1))).bind fun x13 => some (.inl ((AW (AW x4 x5 x10) (Aq (x5 - 1)) x11),Aq (x5 - 1))) else some (.inr x4))
def Bp (p1 : Int) (p2 : Int) : ((List Sq) × Int) → Option (((List Sq) × Int) ⊕ (List Sq))
  | (x1,x2) => (if x2 < p2 then (Af (AP p1) (x1,x2)).bind fun x3 => some (.inl (x3,Aq (x2 + 1))) else some (.inr x1))
def BB (p0 : List Sq) (p1 : Int) (p2 : Int) : Option (List Sq) := Af (Bp p1 p2) (p0,Aq (p1 + 1))
abbrev K93 : Cn_ := ⟨[PJ,EZ,EZ,Y0],[],[],true,fun x => BB x.1 x.2.1 x.2.2.1,none⟩
theorem k93 : KO (K93) 93 := E0 (ct := (.q (.b (.l ⟨[(0,false,IK),(8,false,AZ)],[],[0]⟩ (.q (.j (.st false ⟨[(0,false,IK)],[],[0]⟩) (.b (.q (.b (.l ⟨[(0,false,IK),(9,false,AZ)],[],[0]⟩ (.s (.j (.st false ⟨[(34,false,FX)],[],[]⟩) .d .d) .d))))) .d)))))) En (AJ oB BN) Tryz.func93 (by kernel_rfl) fun x => by kernel_rfl
def AF (p2 : Int) (p3 : Int) : ((List Sq) × Int) → Option (((List Sq) × Int) ⊕ (List Sq))
  | (x1,x2) => (if p2 ≤ (Aq ((Aq (2 * x2)) + 1)) then some (.inr x1) else ((if (Aq ((Aq ((Aq (2 * x2)) + 1)) + 1)) < p2 then (ix x1 (Aq (p3 + (Aq ((Aq (2 * x2)) + 1))))).bind fun x5 => (ix x1 (Aq ((Aq (p3 + (Aq ((Aq (2 * x2)) + 1)))) + 1))).bind fun x6 => (Bw x5 x6).bind fun x7 => some (decide (x7 < 0)) else some false).bind fun x4 => (if x4 = true then some (Aq ((Aq ((Aq (2 * x2)) + 1)) + 1)) else some (Aq ((Aq (2 * x2)) + 1)))).bind fun x3 => (ix x1 (Aq (p3 + x2))).bind fun x8 => (ix x1 (Aq (p3 + x3))).bind fun x9 => (Bw x8 x9).bind fun x10 => (if (!(decide (x10 < 0))) = true then some (.inr x1) else (ix x1 (Aq (p3 + x3))).bind fun x11 => (ix x1 (Aq (p3 + x2))).bind fun x12 => (ix x1 (Aq (p3 + x2))).bind fun x13 => (ix (AW x1 (Aq (p3 + x2)) x11) (Aq (p3 + x3))).bind fun x14 => some (.inl ((AW (AW x1 (Aq (p3 + x2)) x11) (Aq (p3 + x3)) x12),x3))))
def BT (p0 : List Sq) (p1 : Int) (p2 : Int) (p3 : Int) : Option (List Sq) := Af (AF p2 p3) (p0,p1)
abbrev wW : Cn_ := ⟨[PJ,EZ,EZ,EZ,Y0],[],[],true,fun x => BT x.1 x.2.1 x.2.2.1 x.2.2.2.1,none⟩
theorem yG : KO (wW) 125 := E0 (ct := (.q (.b (.l ⟨[(0,false,IK),(10,false,AZ)],[],[0]⟩ (.b (.q (.q (.j (.st false ⟨[(11,false,AZ)],[],[]⟩) (.j (.st false ⟨[(40,false,FX)],[],[]⟩) .d .d) .d)))))))) En (AJ oB BN) Tryz.func125 (by kernel_rfl) fun x => by kernel_rfl
end
end Go.Proofs.YtpckgggmgijiiaaGreatDoor
