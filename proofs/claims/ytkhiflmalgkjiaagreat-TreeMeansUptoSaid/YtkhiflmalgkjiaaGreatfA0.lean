/- The functions of layer 31, Sm. Conditions: none. -/
import Derived.Test.YtkhiflmalgkjiaaGreatRows
import Derived.Test.YtkhiflmalgkjiaaGreatfOT
import Derived.Test.YtkhiflmalgkjiaaGreatfQT
import Derived.Test.YtkhiflmalgkjiaaGreatfOD
import Derived.Test.YtkhiflmalgkjiaaGreatfTR
import Derived.Test.YtkhiflmalgkjiaaGreatfSH
import Derived.Test.YtkhiflmalgkjiaaGreatfMS
import Derived.Test.YtkhiflmalgkjiaaGreatfUN
import Derived.Test.YtkhiflmalgkjiaaGreatfHZ
import Derived.Test.YtkhiflmalgkjiaaGreatfOC
import Derived.Test.YtkhiflmalgkjiaaGreatfVC
import Derived.Test.YtkhiflmalgkjiaaGreatfOM
set_option linter.unusedVariables false
set_option linter.unusedSimpArgs false
open Go Go.RowKit
namespace Go.Proofs.YtkhiflmalgkjiaaGreat
noncomputable section
set_option maxRecDepth 20000
set_option maxHeartbeats 1600000
abbrev ri : Rp Int := Rp.int .i64
abbrev ca_ := Calls Tryz.prog
abbrev pp (b : Nat) : Value := .pointer (some ⟨b,0,none⟩)
abbrev sy (Y : Nat → Prop) (w0 : World) := Stw ⟨Y,[],w0⟩
abbrev lb_ := List UInt8
theorem nl {α : Type _} {l : List α} : List.Sublist [] l := List.nil_sublist _
theorem sr {α : Type _} {l : List α} : List.Sublist l l := List.Sublist.refl _
theorem sc {α : Type _} {a : α} {l m : List α} (h : List.Sublist l m) : List.Sublist (a :: l) (a :: m) := List.Sublist.cons_cons _ h
theorem u3_ : type_of% Tryz.underlying3 := Tryz.underlying3
theorem Aax : type_of% Tryz.underlying24 := Tryz.underlying24
theorem aQ : type_of% Tryz.underlying27 := Tryz.underlying27
theorem zY : type_of% Tryz.underlying29 := Tryz.underlying29
theorem Aak : type_of% Tryz.underlying38 := Tryz.underlying38
theorem jE : type_of% Tryz.underlying41 := Tryz.underlying41
theorem yV : type_of% Tryz.underlying56 := Tryz.underlying56
theorem Ph : type_of% Tryz.underlying60 := Tryz.underlying60
theorem AaQ : type_of% Tryz.underlying69 := Tryz.underlying69
theorem zT : type_of% Tryz.underlying95 := Tryz.underlying95
theorem yM : type_of% Tryz.underlying145 := Tryz.underlying145
theorem uB : type_of% Tryz.underlying148 := Tryz.underlying148
inductive Tr24 : Type where
  | mk : Int → Int → Int → (List Tr24) → Tr24
def Tr24.un : Tr24 → Int × Int × Int × List Tr24
  | .mk a0 a1 a2 a3 => (a0,a1,a2,a3)
abbrev Tr24.of (p : Int × Int × Int × List Tr24) : Tr24 := .mk p.1 p.2.1 p.2.2.1 p.2.2.2
def Tr24.cnt : Tr24 → Nat
  | .mk _ _ _ a3 => 1 + ((a3.map Tr24.cnt).sum)
inductive Tr27 : Type where
  | mk : Int → Tr24 → Int → Int → (List Tr27) → Tr27
def Tr27.un : Tr27 → Int × Tr24 × Int × Int × List Tr27
  | .mk a0 a1 a2 a3 a4 => (a0,a1,a2,a3,a4)
abbrev Tr27.of (p : Int × Tr24 × Int × Int × List Tr27) : Tr27 := .mk p.1 p.2.1 p.2.2.1 p.2.2.2.1 p.2.2.2.2
def Tr27.cnt : Tr27 → Nat
  | .mk _ a1 _ _ a4 => 1 + (a1.cnt + (a4.map Tr27.cnt).sum)
abbrev sM (r : Rp Tr24) : Rp (Int × Int × Int × List Tr24) := (Rp.pair ri (Rp.pair ri (Rp.pair ri (Rp.slice r))))
theorem bM : Kt sM := (Kt.pair (Kt.const _) (Kt.pair (Kt.const _) (Kt.pair (Kt.const _) Kt.hole)))
abbrev aC : Rp Tr24 := Rp.knot sM Tr24.un bM
theorem AaV {w : World} {A : Nat → Prop} {cs : List Value} {a : Tr24} : aC.rep w A cs a ↔ (sM aC).rep w A cs a.un := Gk bM
abbrev rE (r : Rp Tr27) : Rp (Int × Tr24 × Int × Int × List Tr27) := (Rp.pair ri (Rp.pair aC (Rp.pair ri (Rp.pair ri (Rp.slice r)))))
theorem gX : Kt rE := (Kt.pair (Kt.const _) (Kt.pair (Kt.const _) (Kt.pair (Kt.const _) (Kt.pair (Kt.const _) Kt.hole))))
abbrev bZ : Rp Tr27 := Rp.knot rE Tr27.un gX
theorem AaJ {w : World} {A : Nat → Prop} {cs : List Value} {a : Tr27} : bZ.rep w A cs a ↔ (rE bZ).rep w A cs a.un := Gk gX
inductive Tr38 : Type where
  | mk : Int → Int → Int → (List Tr38) → Tr38
def Tr38.un : Tr38 → Int × Int × Int × List Tr38
  | .mk a0 a1 a2 a3 => (a0,a1,a2,a3)
abbrev Tr38.of (p : Int × Int × Int × List Tr38) : Tr38 := .mk p.1 p.2.1 p.2.2.1 p.2.2.2
def Tr38.cnt : Tr38 → Nat
  | .mk _ _ _ a3 => 1 + ((a3.map Tr38.cnt).sum)
inductive Tr41 : Type where
  | mk : Int → Tr38 → Int → Int → (List Tr41) → Tr41
def Tr41.un : Tr41 → Int × Tr38 × Int × Int × List Tr41
  | .mk a0 a1 a2 a3 a4 => (a0,a1,a2,a3,a4)
abbrev Tr41.of (p : Int × Tr38 × Int × Int × List Tr41) : Tr41 := .mk p.1 p.2.1 p.2.2.1 p.2.2.2.1 p.2.2.2.2
abbrev f24 (x : Tr24) : Tr24 := Tr24.of (x.un.1,x.un.2.1,x.un.2.2.1,x.un.2.2.2)
abbrev f38 (x : Tr38) : Tr38 := Tr38.of (x.un.1,x.un.2.1,x.un.2.2.1,x.un.2.2.2)
def Tr41.cnt : Tr41 → Nat
  | .mk _ a1 _ _ a4 => 1 + (a1.cnt + (a4.map Tr41.cnt).sum)
abbrev rG (r : Rp Tr38) : Rp (Int × Int × Int × List Tr38) := (Rp.pair ri (Rp.pair ri (Rp.pair ri (Rp.slice r))))
theorem iF : Kt rG := (Kt.pair (Kt.const _) (Kt.pair (Kt.const _) (Kt.pair (Kt.const _) Kt.hole)))
abbrev Lp : Rp Tr38 := Rp.knot rG Tr38.un iF
theorem z7 {w : World} {A : Nat → Prop} {cs : List Value} {a : Tr38} : Lp.rep w A cs a ↔ (rG Lp).rep w A cs a.un := Gk iF
abbrev o0 (r : Rp Tr41) : Rp (Int × Tr38 × Int × Int × List Tr41) := (Rp.pair ri (Rp.pair Lp (Rp.pair ri (Rp.pair ri (Rp.slice r)))))
theorem lS : Kt o0 := (Kt.pair (Kt.const _) (Kt.pair (Kt.const _) (Kt.pair (Kt.const _) (Kt.pair (Kt.const _) Kt.hole))))
abbrev Lz : Rp Tr41 := Rp.knot o0 Tr41.un lS
theorem z6 {w : World} {A : Nat → Prop} {cs : List Value} {a : Tr41} : Lz.rep w A cs a ↔ (o0 Lz).rep w A cs a.un := Gk lS
abbrev y7 : Rp (Int × Int × Int × Int) := (Rp.pair ri (Rp.pair ri (Rp.pair ri ri)))
abbrev JP : Rp (Int × (Int × Int × Int × Int)) := (Rp.pair ri y7)
abbrev MD : Rp (Int × (Int × Int × Int × Int) × (List (Int × (Int × Int × Int × Int)))) := (Rp.pair ri (Rp.pair y7 (Rp.slice JP)))
theorem Tr38.re_eq (x : Tr38) : f38 x = x := by cases x; rfl
theorem Tr41.re_eq (x : Tr41) : Tr41.of (x.un.1,x.un.2.1,x.un.2.2.1,x.un.2.2.2.1,x.un.2.2.2.2) = x := by cases x; rfl
theorem Tr24.re_eq (x : Tr24) : f24 x = x := by cases x; rfl
theorem Tr27.re_eq (x : Tr27) : Tr27.of (x.un.1,x.un.2.1,x.un.2.2.1,x.un.2.2.2.1,x.un.2.2.2.2) = x := by cases x; rfl
def ttk : Tt := ([(24,[(0,false,1),(1,false,1),(2,false,1),(3,false,1)]),(27,[(0,false,1),(1,true,4),(5,false,1),(6,false,1),(7,false,1)]),(38,[(0,false,1),(1,false,1),(2,false,1),(3,false,1)]),(41,[(0,false,1),(1,true,4),(5,false,1),(6,false,1),(7,false,1)]),(56,[(0,false,1),(1,true,4),(5,false,1)]),(60,[(0,false,1),(1,true,4)]),(69,[(0,true,8),(8,false,1),(9,true,5)]),(95,[(0,false,1)]),(145,[(0,false,1),(1,false,1),(2,true,4)]),(148,[(0,false,1)])],[(3,false,1),(22,false,1),(24,true,4),(25,false,1),(27,true,8),(29,true,4),(36,false,1),(38,true,4),(39,false,1),(41,true,8),(53,false,1),(56,true,6),(60,true,5),(62,false,1),(69,true,14),(95,true,1),(145,true,6),(148,true,1),(160,false,1)])
theorem tk : TtOk Tryz.prog ttk := ⟨by kernel_rfl,by kernel_rfl⟩
abbrev Yc : U := (.pr (.int .i64) (.pr (.int .i64) (.pr (.int .i64) (.pr (.int .i64) (.int .i64)))))
abbrev Jb : U := (.int .i64)
abbrev xK : U := (.pr Jb (.pr Jb (.pr Jb Jb)))
abbrev nS : U := (.pr Jb (.pr xK (.sl Yc)))
abbrev VY : U := (.tr 0)
abbrev ux5 : U := (.pr (.tr 1) (.pr Jb (.pr (.sl Jb) (.pr (.sl Jb) (.pr (.sl Jb) (.pr (.sl Jb) (.sl Jb)))))))
abbrev DJ : GK × List CK := (.b false,[.d true Jb])
abbrev JQ : GK × List CK := (.b false,[.d false Jb])
abbrev KP : GK × List CK := (.b false,[.d false .bool])
abbrev QZ : GK × List CK := (.b false,[.o 60 Yc])
abbrev PC : GK × List CK := (.b false,[.d true (.fn 45)])
abbrev Ou : GK × List CK := (.b false,[.d true (.fn 43)])
abbrev QE : GK × List CK := (.b false,[.d true (.sl Yc)])
abbrev WU : GK × List CK := (.b false,[.o 3 Jb])
abbrev N0 : GK × List CK := (.b true,[.d true VY])
abbrev T6 : GK × List CK := (.b true,[.d true (.tr 3)])
abbrev Vh : GK × List CK := (.b false,[.d true (.sl VY)])
abbrev TR : GK × List CK := (.b true,[.d true xK])
abbrev TB : GK × List CK := (.b true,[.d true Yc])
abbrev Wh : GK × List CK := (.b true,[.d true (.tr 2)])
abbrev oN : GK × List CK := (.b false,[.d true (.sl Jb)])
abbrev Yi : GK × List CK := (.b true,[.d false (.tr 1)])
abbrev X6 : GK × List CK := (.b true,[.d true (.tr 1)])
abbrev bD : GK × List CK := (.b false,[.d true (.sl nS)])
abbrev AO : List CK := [.d false Jb]
abbrev Ez : List CK := [.d false .bool]
abbrev D6 : List CK := [.o 60 Yc]
abbrev VL : List CK := [.o 3 Jb]
abbrev Sq : Type := Int × (Int × Int × Int × Int)
theorem T3 : Ty Tryz.prog 3 false 1 := ⟨by kernel_rfl,by kernel_rfl⟩
theorem kU : Ty Tryz.prog 29 true 4 := ⟨by kernel_rfl,by kernel_rfl⟩
theorem Ud : Ar Tryz.prog 29 4 3 1 := ⟨zY,by kernel_rfl⟩
theorem yI (d : Nat) (x0 x1 x2 x3 y0 y1 y2 y3 : Int) (w : World) : (Op.equalIn (d + 2) 29 (.agg #[Jint x0,Jint x1,Jint x2,Jint x3]) (.agg #[Jint y0,Jint y1,Jint y2,Jint y3])).run Tryz.prog w = .ok (decide (x0 = y0 ∧ x1 = y1 ∧ x2 = y2 ∧ x3 = y3)) w :=
  (pX (d := d) (k := .i64) Ud u3_ T3 [x0,x1,x2,x3] [y0,y1,y2,y3] rfl rfl w).trans (by congr 1; exact decide_eq_decide.2 (by simp))
theorem AaL (dd : Nat) (x0 : Int) (x1 : Int) (x2 : Int) (x3 : Int) (x4 : Int) (y0 : Int) (y1 : Int) (y2 : Int) (y3 : Int) (y4 : Int) (w : World) : (Op.equalIn (dd + 3) 60 (.agg #[Jint x0,Jint x1,Jint x2,Jint x3,Jint x4]) (.agg #[Jint y0,Jint y1,Jint y2,Jint y3,Jint y4])).run Tryz.prog w = .ok (decide (x0 = y0 ∧ x1 = y1 ∧ x2 = y2 ∧ x3 = y3 ∧ x4 = y4)) w :=
  Z5 (d := dd + 2) (rs := [decide (x0 = y0),decide (x1 = y1 ∧ x2 = y2 ∧ x3 = y3 ∧ x4 = y4)]) Ph (by kernel_rfl) ⟨rfl,jQ (d := dd + 1) rfl rfl u3_ T3 rfl rfl,rfl,l7 (d := dd + 2) (sz := 4) (xs' := [Jint x1,Jint x2,Jint x3,Jint x4]) (ys' := [Jint y1,Jint y2,Jint y3,Jint y4]) rfl rfl kU rfl rfl (fun w => yI (dd + 0) x1 x2 x3 x4 y1 y2 y3 y4 w),trivial⟩ (by rw [Bool.eq_iff_iff]; simp [and_assoc]) w
theorem G60 : Tryz.prog.eqGuardType Tryz.prog.depth 60 = false := by kernel_rfl
theorem zF (x0 : Int) (x1 : Int) (x2 : Int) (x3 : Int) (x4 : Int) (y0 : Int) (y1 : Int) (y2 : Int) (y3 : Int) (y4 : Int) (w : World) : (Op.equalIn 10000 60 (.agg #[Jint x0,Jint x1,Jint x2,Jint x3,Jint x4]) (.agg #[Jint y0,Jint y1,Jint y2,Jint y3,Jint y4])).run Tryz.prog w = .ok (decide (x0 = y0 ∧ x1 = y1 ∧ x2 = y2 ∧ x3 = y3 ∧ x4 = y4)) w := AaL 9997 x0 x1 x2 x3 x4 y0 y1 y2 y3 y4 w
theorem G29 : Tryz.prog.eqGuardType Tryz.prog.depth 29 = false := by kernel_rfl
theorem Q29 (x0 : Int) (x1 : Int) (x2 : Int) (x3 : Int) (y0 : Int) (y1 : Int) (y2 : Int) (y3 : Int) (w : World) : (Op.equalIn 10000 29 (.agg #[Jint x0,Jint x1,Jint x2,Jint x3]) (.agg #[Jint y0,Jint y1,Jint y2,Jint y3])).run Tryz.prog w = .ok (decide (x0 = y0 ∧ x1 = y1 ∧ x2 = y2 ∧ x3 = y3)) w := yI 9998 x0 x1 x2 x3 y0 y1 y2 y3 w
def teC : Nat → Type | 0 => Tr38 | 1 => Tr41 | 2 => Tr24 | 3 => Tr27 | _ => Unit
def teR : ∀ i,Rp (teC i) | 0 => Lp | 1 => Lz | 2 => aC | 3 => bZ | _ + 4 => Rp.unit
def teU : Nat → U | 0 => (.pr (.int .i64) (.pr (.int .i64) (.pr (.int .i64) (.sl (.tr 0))))) | 1 => (.pr (.int .i64) (.pr (.tr 0) (.pr (.int .i64) (.pr (.int .i64) (.sl (.tr 1)))))) | 2 => (.pr (.int .i64) (.pr (.int .i64) (.pr (.int .i64) (.sl (.tr 2))))) | 3 => (.pr (.int .i64) (.pr (.tr 2) (.pr (.int .i64) (.pr (.int .i64) (.sl (.tr 3)))))) | _ => .unit
def te : TE := ⟨teC,teR,teU,fun i => match i with | 0 => Tr38.un | 1 => Tr41.un | 2 => Tr24.un | 3 => Tr27.un | _ + 4 => fun x => x,fun i => match i with | 0 => Tr38.of | 1 => Tr41.of | 2 => Tr24.of | 3 => Tr27.of | _ + 4 => fun x => x,
  fun i x => match i with | 0 => rfl | 1 => rfl | 2 => rfl | 3 => rfl | _ + 4 => rfl,fun i w A cs a => match i with | 0 => Gk iF | 1 => Gk lS | 2 => Gk bM | 3 => Gk gX | _ + 4 => Iff.rfl,fun _ _ => True,fun _ _ => trivial⟩
abbrev Cn_ := Con te Tryz.prog
def tO : Tb := ⟨ttk,[(22,24,(.tr 2),48),(25,27,(.tr 3),96),(32,56,(.pr (.int .i64) (.pr (.pr (.int .i64) (.pr (.int .i64) (.pr (.int .i64) (.int .i64)))) (.sl (.pr (.int .i64) (.pr (.int .i64) (.pr (.int .i64) (.pr (.int .i64) (.int .i64)))))))),64),(36,38,(.tr 0),48),(39,41,(.tr 1),96),(53,60,(.pr (.int .i64) (.pr (.int .i64) (.pr (.int .i64) (.pr (.int .i64) (.int .i64))))),40),(62,3,(.int .i64),8)],[(2,[.int .i64 0]),(3,[.int .i64 0]),(4,[.bool (.lit false)]),(5,[.int .u8 0]),(9,[.str []]),(22,[.nil]),(24,[.int .i64 0,.int .i64 0,.int .i64 0,.nil]),(25,[.nil]),(27,[.int .i64 0,.int .i64 0,.int .i64 0,.int .i64 0,.nil,.int .i64 0,.int .i64 0,.nil]),(29,[.int .i64 0,.int .i64 0,.int .i64 0,.int .i64 0]),(32,[.nil]),(33,[.int .i64 0]),(36,[.nil]),(38,[.int .i64 0,.int .i64 0,.int .i64 0,.nil]),(39,[.nil]),(41,[.int .i64 0,.int .i64 0,.int .i64 0,.int .i64 0,.nil,.int .i64 0,.int .i64 0,.nil]),(53,[.nil]),(56,[.int .i64 0,.int .i64 0,.int .i64 0,.int .i64 0,.int .i64 0,.nil]),(60,[.int .i64 0,.int .i64 0,.int .i64 0,.int .i64 0,.int .i64 0]),(62,[.nil]),(67,[.nil,.nil,.nil,.nil,.nil]),(69,[.int .i64 0,.int .i64 0,.int .i64 0,.int .i64 0,.nil,.int .i64 0,.int .i64 0,.nil,.int .i64 0,.nil,.nil,.nil,.nil,.nil]),(95,[.int .i64 0]),(112,[.int .u64 0]),(133,[.int .i64 0]),(141,[.int .u32 0]),(143,[.int .u64 0]),(145,[.int .i64 0,.int .i64 0,.int .i64 0,.int .i64 0,.int .i64 0,.int .i64 0]),(148,[.int .i64 0]),(160,[.int .u64 0])],[(2,.i64),(3,.i64),(5,.u8),(33,.i64),(112,.u64),(133,.i64),(141,.u32),(143,.u64),(160,.u64)],[(9,())],[4],[(24,[.int .i64 0,.int .i64 0,.int .i64 0,.nil],[(0,1),(1,1),(2,1),(3,1)]),(27,[.int .i64 0,.int .i64 0,.int .i64 0,.int .i64 0,.nil,.int .i64 0,.int .i64 0,.nil],[(0,1),(1,4),(5,1),(6,1),(7,1)]),(38,[.int .i64 0,.int .i64 0,.int .i64 0,.nil],[(0,1),(1,1),(2,1),(3,1)]),(41,[.int .i64 0,.int .i64 0,.int .i64 0,.int .i64 0,.nil,.int .i64 0,.int .i64 0,.nil],[(0,1),(1,4),(5,1),(6,1),(7,1)]),(56,[.int .i64 0,.int .i64 0,.int .i64 0,.int .i64 0,.int .i64 0,.nil],[(0,1),(1,4),(5,1)]),(60,[.int .i64 0,.int .i64 0,.int .i64 0,.int .i64 0,.int .i64 0],[(0,1),(1,4)]),(69,[.int .i64 0,.int .i64 0,.int .i64 0,.int .i64 0,.nil,.int .i64 0,.int .i64 0,.nil,.int .i64 0,.nil,.nil,.nil,.nil,.nil],[(0,8),(8,1),(9,5)]),(95,[.int .i64 0],[(0,1)]),(145,[.int .i64 0,.int .i64 0,.int .i64 0,.int .i64 0,.int .i64 0,.int .i64 0],[(0,1),(1,1),(2,4)]),(148,[.int .i64 0],[(0,1)])],[(29,4,3,1),(67,5,62,1)],[(29,[.int .i64 0,.int .i64 0,.int .i64 0,.int .i64 0]),(60,[.int .i64 0,.int .i64 0,.int .i64 0,.int .i64 0,.int .i64 0])]⟩
theorem MOx : Tryz.prog.follows .mixedOrders = true := by kernel_rfl
theorem DW : TbOk te Tryz.prog tO := ⟨MOx,⟨by kernel_rfl,by kernel_rfl⟩,by kernel_rfl,by kernel_rfl,by kernel_rfl,by kernel_rfl,by kernel_rfl,⟨⟨G29,fun x0 y0 x1 y1 x2 y2 x3 y3 w => Q29 x0 x1 x2 x3 y0 y1 y2 y3 w⟩,⟨⟨G60,fun x0 y0 x1 y1 x2 y2 x3 y3 x4 y4 w => zF x0 x1 x2 x3 x4 y0 y1 y2 y3 y4 w⟩,trivial⟩⟩,⟨⟨fun _ _ _ => ⟨⟨.agg #[Jint 0,Jint 0,Jint 0,.slice none 0 0],by kernel_rfl,rfl⟩,⟨_,Aax,fun w => by kernel_rfl⟩⟩,rfl⟩,⟨⟨fun _ _ _ => ⟨⟨.agg #[Jint 0,Jint 0,Jint 0,Jint 0,.slice none 0 0,Jint 0,Jint 0,.slice none 0 0],by kernel_rfl,rfl⟩,⟨_,aQ,fun w => by kernel_rfl⟩⟩,rfl⟩,⟨⟨fun _ _ _ => ⟨⟨.agg #[Jint 0,Jint 0,Jint 0,.slice none 0 0],by kernel_rfl,rfl⟩,⟨_,Aak,fun w => by kernel_rfl⟩⟩,rfl⟩,⟨⟨fun _ _ _ => ⟨⟨.agg #[Jint 0,Jint 0,Jint 0,Jint 0,.slice none 0 0,Jint 0,Jint 0,.slice none 0 0],by kernel_rfl,rfl⟩,⟨_,jE,fun w => by kernel_rfl⟩⟩,rfl⟩,⟨⟨fun _ _ _ => ⟨⟨.agg #[Jint 0,Jint 0,Jint 0,Jint 0,Jint 0,.slice none 0 0],by kernel_rfl,rfl⟩,⟨_,yV,fun w => by kernel_rfl⟩⟩,rfl⟩,⟨⟨fun _ _ _ => ⟨⟨.agg #[Jint 0,Jint 0,Jint 0,Jint 0,Jint 0],by kernel_rfl,rfl⟩,⟨_,Ph,fun w => by kernel_rfl⟩⟩,rfl⟩,⟨⟨fun _ _ _ => ⟨⟨.agg #[Jint 0,Jint 0,Jint 0,Jint 0,.slice none 0 0,Jint 0,Jint 0,.slice none 0 0,Jint 0,.slice none 0 0,.slice none 0 0,.slice none 0 0,.slice none 0 0,.slice none 0 0],by kernel_rfl,rfl⟩,⟨_,AaQ,fun w => by kernel_rfl⟩⟩,rfl⟩,⟨⟨fun _ _ _ => ⟨⟨.agg #[Jint 0],by kernel_rfl,rfl⟩,⟨_,zT,fun w => by kernel_rfl⟩⟩,rfl⟩,⟨⟨fun _ _ _ => ⟨⟨.agg #[Jint 0,Jint 0,Jint 0,Jint 0,Jint 0,Jint 0],by kernel_rfl,rfl⟩,⟨_,yM,fun w => by kernel_rfl⟩⟩,rfl⟩,⟨⟨fun _ _ _ => ⟨⟨.agg #[Jint 0],by kernel_rfl,rfl⟩,⟨_,uB,fun w => by kernel_rfl⟩⟩,rfl⟩,trivial⟩⟩⟩⟩⟩⟩⟩⟩⟩⟩,Vc.mem ⟨⟨Jint 0,by kernel_rfl,fun _ _ _ => rfl,rfl⟩,⟨⟨Jint 0,by kernel_rfl,fun _ _ _ => rfl,rfl⟩,⟨⟨.bool false,by kernel_rfl,fun _ _ _ => rfl,rfl⟩,⟨⟨.int .u8 0,by kernel_rfl,fun _ _ _ => rfl,rfl⟩,⟨⟨.string (bs ([] : lb_)),by kernel_rfl,fun _ _ _ => rfl,rfl⟩,⟨⟨.slice none 0 0,by kernel_rfl,fun _ _ _ => rfl,rfl⟩,⟨⟨.agg #[Jint 0,Jint 0,Jint 0,.slice none 0 0],by kernel_rfl,fun _ _ _ => rfl,rfl⟩,⟨⟨.slice none 0 0,by kernel_rfl,fun _ _ _ => rfl,rfl⟩,⟨⟨.agg #[Jint 0,Jint 0,Jint 0,Jint 0,.slice none 0 0,Jint 0,Jint 0,.slice none 0 0],by kernel_rfl,fun _ _ _ => rfl,rfl⟩,⟨⟨.agg #[Jint 0,Jint 0,Jint 0,Jint 0],by kernel_rfl,fun _ _ _ => rfl,rfl⟩,⟨⟨.slice none 0 0,by kernel_rfl,fun _ _ _ => rfl,rfl⟩,⟨⟨Jint 0,by kernel_rfl,fun _ _ _ => rfl,rfl⟩,⟨⟨.slice none 0 0,by kernel_rfl,fun _ _ _ => rfl,rfl⟩,⟨⟨.agg #[Jint 0,Jint 0,Jint 0,.slice none 0 0],by kernel_rfl,fun _ _ _ => rfl,rfl⟩,⟨⟨.slice none 0 0,by kernel_rfl,fun _ _ _ => rfl,rfl⟩,⟨⟨.agg #[Jint 0,Jint 0,Jint 0,Jint 0,.slice none 0 0,Jint 0,Jint 0,.slice none 0 0],by kernel_rfl,fun _ _ _ => rfl,rfl⟩,⟨⟨.slice none 0 0,by kernel_rfl,fun _ _ _ => rfl,rfl⟩,⟨⟨.agg #[Jint 0,Jint 0,Jint 0,Jint 0,Jint 0,.slice none 0 0],by kernel_rfl,fun _ _ _ => rfl,rfl⟩,⟨⟨.agg #[Jint 0,Jint 0,Jint 0,Jint 0,Jint 0],by kernel_rfl,fun _ _ _ => rfl,rfl⟩,⟨⟨.slice none 0 0,by kernel_rfl,fun _ _ _ => rfl,rfl⟩,⟨⟨.agg #[.slice none 0 0,.slice none 0 0,.slice none 0 0,.slice none 0 0,.slice none 0 0],by kernel_rfl,fun _ _ _ => rfl,rfl⟩,⟨⟨.agg #[Jint 0,Jint 0,Jint 0,Jint 0,.slice none 0 0,Jint 0,Jint 0,.slice none 0 0,Jint 0,.slice none 0 0,.slice none 0 0,.slice none 0 0,.slice none 0 0,.slice none 0 0],by kernel_rfl,fun _ _ _ => rfl,rfl⟩,⟨⟨.agg #[Jint 0],by kernel_rfl,fun _ _ _ => rfl,rfl⟩,⟨⟨.int .u64 0,by kernel_rfl,fun _ _ _ => rfl,rfl⟩,⟨⟨Jint 0,by kernel_rfl,fun _ _ _ => rfl,rfl⟩,⟨⟨.int .u32 0,by kernel_rfl,fun _ _ _ => rfl,rfl⟩,⟨⟨.int .u64 0,by kernel_rfl,fun _ _ _ => rfl,rfl⟩,⟨⟨.agg #[Jint 0,Jint 0,Jint 0,Jint 0,Jint 0,Jint 0],by kernel_rfl,fun _ _ _ => rfl,rfl⟩,⟨⟨.agg #[Jint 0],by kernel_rfl,fun _ _ _ => rfl,rfl⟩,⟨⟨.int .u64 0,by kernel_rfl,fun _ _ _ => rfl,rfl⟩,trivial⟩⟩⟩⟩⟩⟩⟩⟩⟩⟩⟩⟩⟩⟩⟩⟩⟩⟩⟩⟩⟩⟩⟩⟩⟩⟩⟩⟩⟩⟩⟩
def wR : Sh := [DJ]
def yP : Sh := [JQ]
def xC : Sh := [DJ]
def wD : Sh := [JQ]
def jC : Sh := [Wh]
def oX : Sh := [KP]
abbrev K92 (g : TT te.c (Dp jC []) → Option (TT te.c (IX jC oX [] false))) : Cn_ := ⟨jC,oX,[],false,g,none⟩
def mO : Sh := [Wh]
def rU : Sh := [JQ]
abbrev K52 (g : TT te.c (Dp mO []) → Option (TT te.c (IX mO rU [] false))) : Cn_ := ⟨mO,rU,[],false,g,none⟩
def jX : Sh := [Wh]
def sQ : Sh := [JQ]
abbrev K93 (g : TT te.c (Dp jX []) → Option (TT te.c (IX jX sQ [] false))) : Cn_ := ⟨jX,sQ,[],false,g,none⟩
def kD : Sh := [Wh,Wh]
def pA : Sh := [KP]
abbrev K68 (g : TT te.c (Dp kD []) → Option (TT te.c (IX kD pA [] false))) : Cn_ := ⟨kD,pA,[],false,g,none⟩
def j6 : Sh := [T6]
def oJ : Sh := [KP]
abbrev K38 (g : TT te.c (Dp j6 []) → Option (TT te.c (IX j6 oJ [] false))) : Cn_ := ⟨j6,oJ,[],false,g,none⟩
def mR : Sh := [T6]
def rN : Sh := [JQ]
abbrev K39 (g : TT te.c (Dp mR []) → Option (TT te.c (IX mR rN [] false))) : Cn_ := ⟨mR,rN,[],false,g,none⟩
def mI : Sh := [T6]
def rR : Sh := [JQ]
abbrev K22 (g : TT te.c (Dp mI []) → Option (TT te.c (IX mI rR [] false))) : Cn_ := ⟨mI,rR,[],false,g,none⟩
def yA : Sh := [DJ]
def tZ : Sh := [JQ]
def jN : Sh := [T6]
def pV : Sh := [JQ]
abbrev K40 (g : TT te.c (Dp jN []) → Option (TT te.c (IX jN pV [] false))) : Cn_ := ⟨jN,pV,[],false,g,none⟩
def kK : Sh := [Wh,DJ,DJ]
def qV : Sh := [KP]
abbrev K78 (g : TT te.c (Dp kK []) → Option (TT te.c (IX kK qV [] false))) : Cn_ := ⟨kK,qV,[],false,g,none⟩
def lK : Sh := [T6,DJ,DJ]
def pG : Sh := [KP]
abbrev K51 (g : TT te.c (Dp lK []) → Option (TT te.c (IX lK pG [] false))) : Cn_ := ⟨lK,pG,[],false,g,none⟩
def Aa6 : Sh := [TR]
def Abc : Sh := [KP]
def Ur : Sh := [N0,N0]
def Zh : Sh := [KP]
abbrev uC (g : TT te.c (Dp Ur []) → Option (TT te.c (IX Ur Zh [] false))) : Cn_ := ⟨Ur,Zh,[],false,g,none⟩
def ZE : Sh := [(.p,[]),N0,DJ]
def cR : Sh := [KP]
abbrev Aad (g : TT te.c (Dp ZE [(true,AO)]) → Option (TT te.c (IX ZE cR [(true,AO)] false))) : Cn_ := ⟨ZE,cR,[(true,AO)],false,g,none⟩
def mQ : Sh := [N0]
def sB : Sh := [JQ]
abbrev K81 (g : TT te.c (Dp mQ []) → Option (TT te.c (IX mQ sB [] false))) : Cn_ := ⟨mQ,sB,[],false,g,none⟩
def mC : Sh := [(.p,[]),X6,DJ]
def oQ : Sh := [KP]
abbrev K53 (g : TT te.c (Dp mC [(true,AO)]) → Option (TT te.c (IX mC oQ [(true,AO)] false))) : Cn_ := ⟨mC,oQ,[(true,AO)],false,g,none⟩
def jG : Sh := [X6]
def qQ : Sh := [JQ]
abbrev K54 (g : TT te.c (Dp jG []) → Option (TT te.c (IX jG qQ [] false))) : Cn_ := ⟨jG,qQ,[],false,g,none⟩
def vT : Sh := [(.b false,[.d true .bool])]
def vF : Sh := [(.b true,[.d false VY])]
def aZ : Sh := [N0,DJ]
def j7 : Sh := [(.b true,[.d false VY])]
abbrev K55 (g : TT te.c (Dp aZ []) → Option (TT te.c (IX aZ j7 [] false))) : Cn_ := ⟨aZ,j7,[],false,g,none⟩
def kY : Sh := [Yi,DJ]
def rQ : Sh := [Yi]
abbrev K24 (g : TT te.c (Dp kY []) → Option (TT te.c (IX kY rQ [] false))) : Cn_ := ⟨kY,rQ,[],false,g,none⟩
def Y7 : Sh := [N0,DJ]
def fX : Sh := [WU]
abbrev AaN (g : TT te.c (Dp Y7 []) → Option (TT te.c (IX Y7 fX [] false))) : Cn_ := ⟨Y7,fX,[],false,g,none⟩
def Aar : Sh := [WU]
def Aa3 : Sh := []
def Abb : Sh := [WU]
def AaP : Sh := [WU]
def j8 : Sh := [X6,DJ]
def sW : Sh := [WU]
abbrev K56 (g : TT te.c (Dp j8 []) → Option (TT te.c (IX j8 sW [] false))) : Cn_ := ⟨j8,sW,[],false,g,none⟩
def Abx : Sh := [DJ]
def zW : Sh := [JQ]
def Abd : Sh := [TB,DJ,DJ]
def Aam : Sh := [(.b true,[.d false Yc])]
def wT : Sh := [TR,DJ]
def wC : Sh := [JQ]
def Ka : Sh := [(.b true,[.d true (.pr Jb Yc)]),N0]
def Qx : Sh := [KP]
abbrev bC (g : TT te.c (Dp Ka []) → Option (TT te.c (IX Ka Qx [] false))) : Cn_ := ⟨Ka,Qx,[],false,g,none⟩
def xL : Sh := [TR,DJ,DJ]
def yL : Sh := [(.b true,[.d false xK])]
def xX : Sh := [DJ,DJ]
def uZ : Sh := [JQ]
def Abp : Sh := [TB,TB]
def Aa5 : Sh := [JQ]
def l5 : Sh := [QZ,DJ,DJ,DJ,PC]
def qM : Sh := []
abbrev K70 (g : TT te.c (Dp l5 []) → Option (TT te.c (IX l5 qM [] true))) : Cn_ := ⟨l5,qM,[],true,g,none⟩
def Aa1 : Sh := [Yi,DJ,DJ,TR]
def Abi : Sh := [QZ]
def Abg : Sh := [TB,TB]
def Abe : Sh := [JQ]
def UX : Sh := [QZ,DJ,DJ,DJ,Ou]
def Ye : Sh := []
abbrev xV (g : TT te.c (Dp UX []) → Option (TT te.c (IX UX Ye [] true))) : Cn_ := ⟨UX,Ye,[],true,g,none⟩
def zI : Sh := [QZ]
def AaK : Sh := [QZ]
def sJ : Sh := [(.b true,[.d false ux5]),DJ,TB]
def wS : Sh := [(.b false,[.o 56 nS])]
abbrev K29 (g : TT te.c (Dp sJ []) → Option (TT te.c (IX sJ wS [] false))) : Cn_ := ⟨sJ,wS,[],false,g,none⟩
def lY : Sh := [Wh]
def qK : Sh := [(.b true,[.d false VY])]
abbrev K30 (g : TT te.c (Dp lY []) → Option (TT te.c (IX lY qK [] false))) : Cn_ := ⟨lY,qK,[],false,g,none⟩
def zN : Sh := [T6]
def ys9 : Sh := [Yi]
abbrev K9 (g : TT te.c (Dp zN []) → Option (TT te.c (IX zN ys9 [] false))) : Cn_ := ⟨zN,ys9,[],false,g,none⟩
abbrev yB : Rp (Int × Int × Int × (Value × List Tr24)) := (Rp.pair ri (Rp.pair ri (Rp.pair ri (Rp.vsl aC))))
abbrev AaA (p : Int × Int × Int × (Value × List Tr24)) : Tr24 := (Tr24.of (p.1,p.2.1,p.2.2.1,p.2.2.2.2))
theorem pB : Ex aC yB AaA := (Ex.knot bM (of := Tr24.of) (fun _ => rfl) (fun x => by cases x; rfl) (Ex.pair Ex.rfl' (Ex.pair Ex.rfl' (Ex.pair Ex.rfl' Ex.sliceF))))
abbrev sK : Rp (Int × (Int × Int × Int × (Value × List Tr24)) × Int × Int × (Value × List Tr27)) := (Rp.pair ri (Rp.pair yB (Rp.pair ri (Rp.pair ri (Rp.vsl bZ)))))
abbrev zQ (p : Int × (Int × Int × Int × (Value × List Tr24)) × Int × Int × (Value × List Tr27)) : Tr27 := (Tr27.of (p.1,(Tr24.of (p.2.1.1,p.2.1.2.1,p.2.1.2.2.1,p.2.1.2.2.2.2)),p.2.2.1,p.2.2.2.1,p.2.2.2.2.2))
theorem vI : Ex bZ sK zQ := (Ex.knot gX (of := Tr27.of) (fun _ => rfl) (fun x => by cases x; rfl) (Ex.pair Ex.rfl' (Ex.pair (Ex.knot bM (of := Tr24.of) (fun _ => rfl) (fun x => by cases x; rfl) (Ex.pair Ex.rfl' (Ex.pair Ex.rfl' (Ex.pair Ex.rfl' Ex.sliceF)))) (Ex.pair Ex.rfl' (Ex.pair Ex.rfl' Ex.sliceF)))))
theorem T27 : Ty Tryz.prog 27 true 8 := ⟨by kernel_rfl,by kernel_rfl⟩
theorem T25 : Ty Tryz.prog 25 false 1 := ⟨by kernel_rfl,by kernel_rfl⟩
theorem T24 : Ty Tryz.prog 24 true 4 := ⟨by kernel_rfl,by kernel_rfl⟩
theorem MO : Tryz.prog.follows .mixedOrders = true := by kernel_rfl
def HX (p0 : Int) : Int := (if p0 = 2 then 15 else (if (decide (p0 = 0) || (decide (p0 = 1) || decide (p0 = 3))) = true then 255 else 0))
noncomputable def b41 : Code := (Tryz.f41.body).getD .skip
def Aa2 : Ct := (.q (.q (.s (.j (.bl [14]) .d .d) .d)))
abbrev K41 : Cn_ := ⟨wR,yP,[],false,fun x => some (HX x),some ⟨fun x => HX x,fun _ => rfl⟩⟩
theorem v41 (x : Int) : @Eq (Option Int) (dF te tO ([] : Hq te Tryz.prog) 15 b41 Aa2 wR yP [] false [.tmp 2] x).den (some (HX x)) := by simp only [HX,apply_ite (some : Int → _)]; kernel_rfl
theorem k41 : KO (K41) 41 := dK DW BC Tryz.func41 (by kernel_rfl) Tryz.ntmps41 rfl rfl rfl (by kernel_rfl) v41
theorem bG (Y : Nat → Prop) (w0 : World)  (p0 : Int) (r : Int) (H : HX p0 = r)  :
    ca_ 41 #[Jint p0] w0 fun e w' => e = .returned (Jint r) ∧ Below w0.heap.size w0 w' := k41.outP (Y := Y) (x := p0) (congrArg some H) rfl rfl rfl rfl rfl () trivial rfl trivial fun _ => rfl
theorem H41 : Has Tryz.prog 41 := Lh Tryz.func41
def Ci (p0 : Int) : Int := (if (decide (p0 = 4) || decide (p0 = 5)) = true then 7 else (HX p0))
noncomputable def b50 : Code := (Tryz.f50.body).getD .skip
def Abr : Ct := (.q (.s (.j (.bl [8]) .d .d) .d))
abbrev K50 : Cn_ := ⟨xC,wD,[],false,fun x => some (Ci x),some ⟨fun x => Ci x,fun _ => rfl⟩⟩
theorem v50 (x : Int) : @Eq (Option Int) (dF te tO ([(41,K41)] : Hq te Tryz.prog) 11 b50 Abr xC wD [] false [.tmp 2] x).den (some (Ci x)) := by simp only [Ci,apply_ite (some : Int → _)]; kernel_rfl
theorem k50 : KO (K50) 50 := dK DW (AH k41 BC) Tryz.func50 (by kernel_rfl) Tryz.ntmps50 rfl rfl rfl (by kernel_rfl) v50
def EX (fRec : Tr24 → Option Bool) (p0 : Tr24) : Int → Option (Int ⊕ (Unit ⊕ Bool))
  | x1 => (if x1 < (p0.un.2.2.2.length : Int) then (ix p0.un.2.2.2 x1).bind fun x2 => (fRec x2).bind fun x3 => (if (!x3) = true then some (.inr (.inr false)) else some (.inl (w64 (x1 + 1)))) else some (.inr (.inl ())))
def EU (fRec : Tr24 → Option Bool) (p0 : Tr24) : Option Bool := (if (bif decide (p0.un.1 ≠ 3) then (decide (p0.un.2.1 ≠ 0) || (decide (p0.un.2.2.1 ≠ 0) || (decide (p0.un.1 < 1) || decide (6 < p0.un.1)))) else (decide (p0.un.1 < 1) || decide (6 < p0.un.1))) = true then some false else (if (decide (p0.un.1 = 3) && (decide (p0.un.2.1 < 0) || (decide (5 < p0.un.2.1) || (decide (p0.un.2.2.1 < 0) || decide ((Ci p0.un.2.1) < p0.un.2.2.1))))) = true then some false else (if (bif decide (p0.un.1 ≤ 3) then (decide ((p0.un.2.2.2.length : Int) ≠ 0) || (bif decide (p0.un.1 = 4) then (decide ((p0.un.2.2.2.length : Int) ≠ 1) || (decide (5 ≤ p0.un.1) && (decide ((p0.un.2.2.2.length : Int) < 2) || decide (8 < (p0.un.2.2.2.length : Int))))) else (decide (5 ≤ p0.un.1) && (decide ((p0.un.2.2.2.length : Int) < 2) || decide (8 < (p0.un.2.2.2.length : Int)))))) else (bif decide (p0.un.1 = 4) then (decide ((p0.un.2.2.2.length : Int) ≠ 1) || (decide (5 ≤ p0.un.1) && (decide ((p0.un.2.2.2.length : Int) < 2) || decide (8 < (p0.un.2.2.2.length : Int))))) else (decide (5 ≤ p0.un.1) && (decide ((p0.un.2.2.2.length : Int) < 2) || decide (8 < (p0.un.2.2.2.length : Int)))))) = true then some false else GN (Aj (EX fRec p0) 0) fun _ => some true)))
def E3 : Nat → Tr24 → Option Bool
  | 0 => fun _ => none
  | n + 1 => EU (E3 n)
def O7 (p0 : Tr24) : Option Bool := GX fun n => E3 n p0
def L6 (fRec : Tr24 → Option Bool) (p0 : Tr24) : Int → Option (Int ⊕ (Unit ⊕ Bool))
  | x1 => (if x1 < (p0.un.2.2.2.length : Int) then (ix p0.un.2.2.2 x1).bind fun x2 => (fRec (f24 x2)).bind fun x3 => (if (!x3) = true then some (.inr (.inr false)) else some (.inl (w64 (x1 + 1)))) else some (.inr (.inl ())))
theorem T2 : @L6 = @EX := by
 unfold L6 EX
 simp only [Tr24.re_eq]
def OT (fRec : Tr24 → Option Bool) (p0 : Tr24) : Option Bool := (if (bif decide (p0.un.1 ≠ 3) then (decide (p0.un.2.1 ≠ 0) || (decide (p0.un.2.2.1 ≠ 0) || (decide (p0.un.1 < 1) || decide (6 < p0.un.1)))) else (decide (p0.un.1 < 1) || decide (6 < p0.un.1))) = true then some false else (if (decide (p0.un.1 = 3) && (decide (p0.un.2.1 < 0) || (decide (5 < p0.un.2.1) || (decide (p0.un.2.2.1 < 0) || decide ((Ci p0.un.2.1) < p0.un.2.2.1))))) = true then some false else (if (bif decide (p0.un.1 ≤ 3) then (decide ((p0.un.2.2.2.length : Int) ≠ 0) || (bif decide (p0.un.1 = 4) then (decide ((p0.un.2.2.2.length : Int) ≠ 1) || (decide (5 ≤ p0.un.1) && (decide ((p0.un.2.2.2.length : Int) < 2) || decide (8 < (p0.un.2.2.2.length : Int))))) else (decide (5 ≤ p0.un.1) && (decide ((p0.un.2.2.2.length : Int) < 2) || decide (8 < (p0.un.2.2.2.length : Int)))))) else (bif decide (p0.un.1 = 4) then (decide ((p0.un.2.2.2.length : Int) ≠ 1) || (decide (5 ≤ p0.un.1) && (decide ((p0.un.2.2.2.length : Int) < 2) || decide (8 < (p0.un.2.2.2.length : Int))))) else (decide (5 ≤ p0.un.1) && (decide ((p0.un.2.2.2.length : Int) < 2) || decide (8 < (p0.un.2.2.2.length : Int)))))) = true then some false else GN (Aj (L6 fRec p0) 0) fun _ => some true)))
theorem Uh : @OT = @EU := by
 unfold OT EU
 simp only [T2]
theorem k92 : KO (K92 fun x => O7 x) 92 := R8 (E := te) (xs := jC) (ys := oX) (bs := []) (io := false) (nn := fun n x => E3 n x) (st := fun g x => EU g x) Tryz.func92 rfl (by kernel_rfl) (fun _ => rfl) (fun _ => rfl) fun g hg => Ea (ct := (.q (.q (.s (.j (.bl [30]) .d .d) (.s (.j (.bl [56]) .d .d) (.s (.j (.bl [85]) .d .d) (.j (.st true ⟨[],[],[]⟩) (.q (.b (.l ⟨[(4,false,AO)],[],[]⟩ .d))) .d))))))) DW (AH hg (AH k50 BC)) Tryz.func92 (by kernel_rfl) fun x => by rw [← Uh]; kernel_rfl
def DB (fRec : Tr24 → Option Int) (p0 : Tr24) : (Int × Int) → Option ((Int × Int) ⊕ Int)
  | (x2,x3) => (if x3 < (p0.un.2.2.2.length : Int) then (ix p0.un.2.2.2 x3).bind fun x4 => (fRec x4).bind fun x5 => some (.inl (w64 (x2 + x5),w64 (x3 + 1))) else some (.inr x2))
def ES (fRec : Tr24 → Option Int) (p0 : Tr24) : Option Int := (Aj (DB fRec p0) (1,0)).bind fun x1 => some x1
def Fg : Nat → Tr24 → Option Int
  | 0 => fun _ => none
  | n + 1 => ES (Fg n)
def Lk (p0 : Tr24) : Option Int := GX fun n => Fg n p0
def LX (fRec : Tr24 → Option Int) (p0 : Tr24) : (Int × Int) → Option ((Int × Int) ⊕ Int)
  | (x2,x3) => (if x3 < (p0.un.2.2.2.length : Int) then (ix p0.un.2.2.2 x3).bind fun x4 => (fRec (f24 x4)).bind fun x5 => some (.inl (w64 (x2 + x5),w64 (x3 + 1))) else some (.inr x2))
theorem T5 : @LX = @DB := by
 unfold LX DB
 simp only [Tr24.re_eq]
def Pk (fRec : Tr24 → Option Int) (p0 : Tr24) : Option Int := (Aj (LX fRec p0) (1,0)).bind fun x1 => some x1
theorem TF : @Pk = @ES := by
 unfold Pk ES
 simp only [T5]
theorem k52 : KO (K52 fun x => Lk x) 52 := R8 (E := te) (xs := mO) (ys := rU) (bs := []) (io := false) (nn := fun n x => Fg n x) (st := fun g x => ES g x) Tryz.func52 rfl (by kernel_rfl) (fun _ => rfl) (fun _ => rfl) fun g hg => Ea (ct := (.q (.q (.j (.st false ⟨[(3,false,AO)],[],[]⟩) (.q (.b (.l ⟨[(3,false,AO),(4,false,AO)],[],[]⟩ .d))) .d)))) DW (AH hg BC) Tryz.func52 (by kernel_rfl) fun x => by rw [← TF]; kernel_rfl
def DF (fRec : Tr24 → Option Int) (p0 : Tr24) : (Int × Int) → Option ((Int × Int) ⊕ Int)
  | (x2,x3) => (if x3 < (p0.un.2.2.2.length : Int) then ((ix p0.un.2.2.2 x3).bind fun x5 => (fRec x5).bind fun x6 => (if x2 < (w64 (x6 + 1)) then (ix p0.un.2.2.2 x3).bind fun x7 => (fRec x7).bind fun x8 => some (w64 (x8 + 1)) else some x2)).bind fun x4 => some (.inl (x4,w64 (x3 + 1))) else some (.inr x2))
def EL (fRec : Tr24 → Option Int) (p0 : Tr24) : Option Int := (Aj (DF fRec p0) (1,0)).bind fun x1 => some x1
def EZ : Nat → Tr24 → Option Int
  | 0 => fun _ => none
  | n + 1 => EL (EZ n)
def O6 (p0 : Tr24) : Option Int := GX fun n => EZ n p0
def LT (fRec : Tr24 → Option Int) (p0 : Tr24) : (Int × Int) → Option ((Int × Int) ⊕ Int)
  | (x2,x3) => (if x3 < (p0.un.2.2.2.length : Int) then ((ix p0.un.2.2.2 x3).bind fun x5 => (fRec (f24 x5)).bind fun x6 => (if x2 < (w64 (x6 + 1)) then (ix p0.un.2.2.2 x3).bind fun x7 => (fRec (f24 x7)).bind fun x8 => some (w64 (x8 + 1)) else some x2)).bind fun x4 => some (.inl (x4,w64 (x3 + 1))) else some (.inr x2))
theorem TM : @LT = @DF := by
 unfold LT DF
 simp only [Tr24.re_eq]
def OK (fRec : Tr24 → Option Int) (p0 : Tr24) : Option Int := (Aj (LT fRec p0) (1,0)).bind fun x1 => some x1
theorem T4 : @OK = @EL := by
 unfold OK EL
 simp only [TM]
theorem k93 : KO (K93 fun x => O6 x) 93 := R8 (E := te) (xs := jX) (ys := sQ) (bs := []) (io := false) (nn := fun n x => EZ n x) (st := fun g x => EL g x) Tryz.func93 rfl (by kernel_rfl) (fun _ => rfl) (fun _ => rfl) fun g hg => Ea (ct := (.q (.q (.j (.st false ⟨[(3,false,AO)],[],[]⟩) (.q (.b (.l ⟨[(3,false,AO),(4,false,AO)],[],[]⟩ (.q (.j (.st false ⟨[(3,false,AO)],[],[]⟩) .d .d))))) .d)))) DW (AH hg BC) Tryz.func93 (by kernel_rfl) fun x => by rw [← T4]; kernel_rfl
def HC (p0 : Tr24) : Option Bool := ((O7 p0).bind fun x2 => (if x2 = true then (Lk p0).bind fun x3 => (if x3 ≤ 64 then (O6 p0).bind fun x4 => some (decide (x4 ≤ 8)) else some false) else some false)).bind fun x1 => some x1
def SR (p0 : Tr24) : Option Bool := ((O7 (f24 p0)).bind fun x2 => (if x2 = true then (Lk (f24 p0)).bind fun x3 => (if x3 ≤ 64 then (O6 (f24 p0)).bind fun x4 => some (decide (x4 ≤ 8)) else some false) else some false)).bind fun x1 => some x1
theorem V8 : @SR = @HC := by
 unfold SR HC
 simp only [Tr24.re_eq]
abbrev K67 : Cn_ := ⟨[Wh],[KP],[],false,fun x => HC x,none⟩
theorem k67 : KO (K67) 67 := Ea (ct := (.q (.j (.st false ⟨[(2,false,Ez)],[],[]⟩) .d .d))) DW (AH k92 (AH k52 (AH k93 BC))) Tryz.func67 (by kernel_rfl) fun x => by rw [← V8]; kernel_rfl
def EQ (fRec : Tr24 → Tr24 → Option Bool) (p0 : Tr24) (p1 : Tr24) : Int → Option (Int ⊕ (Unit ⊕ Bool))
  | x1 => (if x1 < (p0.un.2.2.2.length : Int) then (ix p0.un.2.2.2 x1).bind fun x2 => (ix p1.un.2.2.2 x1).bind fun x3 => (fRec x2 x3).bind fun x4 => (if (!x4) = true then some (.inr (.inr false)) else some (.inl (w64 (x1 + 1)))) else some (.inr (.inl ())))
def EY (fRec : Tr24 → Tr24 → Option Bool) (p0 : Tr24) (p1 : Tr24) : Option Bool := (if (decide (p0.un.1 ≠ p1.un.1) || (decide (p0.un.2.1 ≠ p1.un.2.1) || (decide (p0.un.2.2.1 ≠ p1.un.2.2.1) || decide ((p0.un.2.2.2.length : Int) ≠ (p1.un.2.2.2.length : Int))))) = true then some false else GN (Aj (EQ fRec p0 p1) 0) fun _ => some true)
def FJ : Nat → Tr24 → Tr24 → Option Bool
  | 0 => fun _ _ => none
  | n + 1 => EY (FJ n)
def La (p0 : Tr24) (p1 : Tr24) : Option Bool := GX fun n => FJ n p0 p1
def LL (fRec : Tr24 → Tr24 → Option Bool) (p0 : Tr24) (p1 : Tr24) : Int → Option (Int ⊕ (Unit ⊕ Bool))
  | x1 => (if x1 < (p0.un.2.2.2.length : Int) then (ix p0.un.2.2.2 x1).bind fun x2 => (ix p1.un.2.2.2 x1).bind fun x3 => (fRec (f24 x2) (f24 x3)).bind fun x4 => (if (!x4) = true then some (.inr (.inr false)) else some (.inl (w64 (x1 + 1)))) else some (.inr (.inl ())))
theorem TY : @LL = @EQ := by
 unfold LL EQ
 simp only [Tr24.re_eq]
def Pp (fRec : Tr24 → Tr24 → Option Bool) (p0 : Tr24) (p1 : Tr24) : Option Bool := (if (decide (p0.un.1 ≠ p1.un.1) || (decide (p0.un.2.1 ≠ p1.un.2.1) || (decide (p0.un.2.2.1 ≠ p1.un.2.2.1) || decide ((p0.un.2.2.2.length : Int) ≠ (p1.un.2.2.2.length : Int))))) = true then some false else GN (Aj (LL fRec p0 p1) 0) fun _ => some true)
theorem TK : @Pp = @EY := by
 unfold Pp EY
 simp only [TY]
theorem k68 : KO (K68 fun x => La x.1 x.2) 68 := R8 (E := te) (xs := kD) (ys := pA) (bs := []) (io := false) (nn := fun n x => FJ n x.1 x.2) (st := fun g x => EY (fun yp0 yp1 => g (yp0,yp1)) x.1 x.2) Tryz.func68 rfl (by kernel_rfl) (fun _ => rfl) (fun _ => rfl) fun g hg => Ea (ct := (.q (.s (.j (.bl [33]) .d .d) (.j (.st true ⟨[],[],[]⟩) (.q (.b (.l ⟨[(5,false,AO)],[],[]⟩ .d))) .d)))) DW (AH hg BC) Tryz.func68 (by kernel_rfl) fun x => by rw [← TK]; kernel_rfl
theorem xG : type_of% Tryz.underlying25 := Tryz.underlying25
abbrev rJ (a : Int × (Int × Int × Int × (Value × List Tr24)) × Int × Int × (Value × List Tr27)) : List Value := [Jint a.1,Jint a.2.1.1,Jint a.2.1.2.1,Jint a.2.1.2.2.1,a.2.1.2.2.2.1,Jint a.2.2.1,Jint a.2.2.2.1,a.2.2.2.2.1]
theorem zP : GS sK rJ := (GS.pair Fl.int.to (GS.pair (GS.pair Fl.int.to (GS.pair Fl.int.to (GS.pair Fl.int.to GS.vsl))) (GS.pair Fl.int.to (GS.pair Fl.int.to GS.vsl))))
theorem L25 : Et Tryz.prog 25 27 8 96 := Et.of xG (by kernel_rfl) (by kernel_rfl) (by kernel_rfl) (by decide)
abbrev Tg (a0 : Tr27) (a1 : Value) (a2 : Value) : List Value := [Jint a0.un.1,Jint a0.un.2.1.un.1,Jint a0.un.2.1.un.2.1,Jint a0.un.2.1.un.2.2.1,a1,Jint a0.un.2.2.1,Jint a0.un.2.2.2.1,a2]
def Gs (fRec : Tr27 → Option Bool) (p0 : Tr27) : Int → Option (Int ⊕ (Unit ⊕ Bool))
  | x4 => (if x4 < (p0.un.2.2.2.2.length : Int) then (ix p0.un.2.2.2.2 x4).bind fun x5 => (fRec (Tr27.of (x5.un.1,f24 x5.un.2.1,x5.un.2.2.1,x5.un.2.2.2.1,x5.un.2.2.2.2))).bind fun x6 => (if (!x6) = true then some (.inr (.inr false)) else some (.inl (w64 (x4 + 1)))) else some (.inr (.inl ())))
def ER (fRec : Tr27 → Option Bool) (p0 : Tr27) : Option Bool := (if (decide (p0.un.1 < 1) || (decide (5 < p0.un.1) || (decide (p0.un.1 ≠ 2) && (decide (p0.un.2.2.1 ≠ 0) || decide (p0.un.2.2.2.1 ≠ 0))))) = true then some false else (if (decide (p0.un.1 = 1) || decide (p0.un.1 = 5)) = true then (HC (f24 p0.un.2.1)).bind fun x2 => (if (!x2) = true then some true else some false) else (La (f24 p0.un.2.1) (Tr24.of (0,0,0,([] : List Tr24)))).bind fun x3 => some (!x3)).bind fun x1 => (if x1 = true then some false else (if (decide (p0.un.1 = 2) && (decide (p0.un.2.2.1 < 0) || (decide (4 < p0.un.2.2.1) || (decide (p0.un.2.2.2.1 < 0) || decide ((Ci p0.un.2.2.1) < p0.un.2.2.2.1))))) = true then some false else (if (bif decide (p0.un.1 ≤ 2) then (decide ((p0.un.2.2.2.2.length : Int) ≠ 0) || (bif decide (p0.un.1 = 5) then (decide ((p0.un.2.2.2.2.length : Int) ≠ 2) || (bif decide (p0.un.1 = 3) then (decide ((p0.un.2.2.2.2.length : Int) < 2) || decide (8 < (p0.un.2.2.2.2.length : Int))) else (decide (p0.un.1 = 4) && (decide ((p0.un.2.2.2.2.length : Int) < 2) || decide (8 < (p0.un.2.2.2.2.length : Int)))))) else (bif decide (p0.un.1 = 3) then (decide ((p0.un.2.2.2.2.length : Int) < 2) || decide (8 < (p0.un.2.2.2.2.length : Int))) else (decide (p0.un.1 = 4) && (decide ((p0.un.2.2.2.2.length : Int) < 2) || decide (8 < (p0.un.2.2.2.2.length : Int))))))) else (bif decide (p0.un.1 = 5) then (decide ((p0.un.2.2.2.2.length : Int) ≠ 2) || (bif decide (p0.un.1 = 3) then (decide ((p0.un.2.2.2.2.length : Int) < 2) || decide (8 < (p0.un.2.2.2.2.length : Int))) else (decide (p0.un.1 = 4) && (decide ((p0.un.2.2.2.2.length : Int) < 2) || decide (8 < (p0.un.2.2.2.2.length : Int)))))) else (bif decide (p0.un.1 = 3) then (decide ((p0.un.2.2.2.2.length : Int) < 2) || decide (8 < (p0.un.2.2.2.2.length : Int))) else (decide (p0.un.1 = 4) && (decide ((p0.un.2.2.2.2.length : Int) < 2) || decide (8 < (p0.un.2.2.2.2.length : Int))))))) = true then some false else GN (Aj (Gs fRec p0) 0) fun _ => some true))))
def E8 : Nat → Tr27 → Option Bool
  | 0 => fun _ => none
  | n + 1 => ER (E8 n)
def Rq (p0 : Tr27) : Option Bool := GX fun n => E8 n p0
def VK (fRec : Tr27 → Option Bool) (p0 : Tr27) : Int → Option (Int ⊕ (Unit ⊕ Bool))
  | x5 => (if x5 < (p0.un.2.2.2.2.length : Int) then (ix p0.un.2.2.2.2 x5).bind fun x6 => (fRec (Tr27.of (x6.un.1,f24 x6.un.2.1,x6.un.2.2.1,x6.un.2.2.2.1,x6.un.2.2.2.2))).bind fun x7 => (if (!x7) = true then some (.inr (.inr false)) else some (.inl (w64 (x5 + 1)))) else some (.inr (.inl ())))
def OD (fRec : Tr27 → Option Bool) (p0 : Tr27) : Option Bool := (if (decide (p0.un.1 < 1) || (decide (5 < p0.un.1) || (decide (p0.un.1 ≠ 2) && (decide (p0.un.2.2.1 ≠ 0) || decide (p0.un.2.2.2.1 ≠ 0))))) = true then some false else (if (decide (p0.un.1 = 1) || decide (p0.un.1 = 5)) = true then (HC (f24 p0.un.2.1)).bind fun x2 => (if (!x2) = true then some true else (if (!(decide (p0.un.1 = 1) || decide (p0.un.1 = 5))) = true then (La (f24 p0.un.2.1) (Tr24.of (0,0,0,([] : List Tr24)))).bind fun x3 => some (!x3) else some false)) else (if (!(decide (p0.un.1 = 1) || decide (p0.un.1 = 5))) = true then (La (f24 p0.un.2.1) (Tr24.of (0,0,0,([] : List Tr24)))).bind fun x4 => some (!x4) else some false)).bind fun x1 => (if x1 = true then some false else (if (decide (p0.un.1 = 2) && (decide (p0.un.2.2.1 < 0) || (decide (4 < p0.un.2.2.1) || (decide (p0.un.2.2.2.1 < 0) || decide ((Ci p0.un.2.2.1) < p0.un.2.2.2.1))))) = true then some false else (if (bif decide (p0.un.1 ≤ 2) then (decide ((p0.un.2.2.2.2.length : Int) ≠ 0) || (bif decide (p0.un.1 = 5) then (decide ((p0.un.2.2.2.2.length : Int) ≠ 2) || (bif decide (p0.un.1 = 3) then (decide ((p0.un.2.2.2.2.length : Int) < 2) || decide (8 < (p0.un.2.2.2.2.length : Int))) else (decide (p0.un.1 = 4) && (decide ((p0.un.2.2.2.2.length : Int) < 2) || decide (8 < (p0.un.2.2.2.2.length : Int)))))) else (bif decide (p0.un.1 = 3) then (decide ((p0.un.2.2.2.2.length : Int) < 2) || decide (8 < (p0.un.2.2.2.2.length : Int))) else (decide (p0.un.1 = 4) && (decide ((p0.un.2.2.2.2.length : Int) < 2) || decide (8 < (p0.un.2.2.2.2.length : Int))))))) else (bif decide (p0.un.1 = 5) then (decide ((p0.un.2.2.2.2.length : Int) ≠ 2) || (bif decide (p0.un.1 = 3) then (decide ((p0.un.2.2.2.2.length : Int) < 2) || decide (8 < (p0.un.2.2.2.2.length : Int))) else (decide (p0.un.1 = 4) && (decide ((p0.un.2.2.2.2.length : Int) < 2) || decide (8 < (p0.un.2.2.2.2.length : Int)))))) else (bif decide (p0.un.1 = 3) then (decide ((p0.un.2.2.2.2.length : Int) < 2) || decide (8 < (p0.un.2.2.2.2.length : Int))) else (decide (p0.un.1 = 4) && (decide ((p0.un.2.2.2.2.length : Int) < 2) || decide (8 < (p0.un.2.2.2.2.length : Int))))))) = true then some false else GN (Aj (VK fRec p0) 0) fun _ => some true))))
theorem Ul : @OD = @ER := by
 unfold OD ER
 funext fRec p0
 simp only [Tr24.re_eq]
 cases h1 : decide (p0.un.1 = 1) <;> cases h5 : decide (p0.un.1 = 5) <;> cases h2 : decide (p0.un.1 ≤ 2) <;> cases h3 : decide (p0.un.1 = 3) <;> cases h4 : decide (p0.un.1 = 4) <;> rfl
theorem k38 : KO (K38 fun x => Rq x) 38 := R8 (E := te) (xs := j6) (ys := oJ) (bs := []) (io := false) (nn := fun n x => E8 n x) (st := fun g x => ER g x) Tryz.func38 rfl (by kernel_rfl) (fun _ => rfl) (fun _ => rfl) fun g hg => Ea (ct := (.q (.q (.s (.j (.bl [31]) .d .d) (.j (.bl [4]) .d (.s (.j (.st false ⟨[(57,false,Ez)],[],[]⟩) .d .d) (.s (.j (.bl [83]) .d .d) (.s (.j (.bl [117]) .d .d) (.j (.st true ⟨[],[],[]⟩) (.q (.b (.l ⟨[(5,false,AO)],[],[]⟩ .d))) .d))))))))) DW (AH hg (AH k50 (AH k67 (AH k68 BC)))) Tryz.func38 (by kernel_rfl) fun x => by rw [← Ul]; kernel_rfl
def Ew (fRec : Tr27 → Option Int) (p0 : Tr27) : (Int × Int) → Option ((Int × Int) ⊕ Int)
  | (x2,x3) => (if x3 < (p0.un.2.2.2.2.length : Int) then ((ix p0.un.2.2.2.2 x3).bind fun x5 => (fRec (Tr27.of (x5.un.1,f24 x5.un.2.1,x5.un.2.2.1,x5.un.2.2.2.1,x5.un.2.2.2.2))).bind fun x6 => (if x2 ≤ x6 then (ix p0.un.2.2.2.2 x3).bind fun x7 => (fRec (Tr27.of (x7.un.1,f24 x7.un.2.1,x7.un.2.2.1,x7.un.2.2.2.1,x7.un.2.2.2.2))).bind fun x8 => some (w64 (x8 + 1)) else some x2)).bind fun x4 => some (.inl (x4,w64 (x3 + 1))) else some (.inr x2))
def Gh (fRec : Tr27 → Option Int) (p0 : Tr27) : Option Int := (Aj (Ew fRec p0) (1,0)).bind fun x1 => some x1
def E4 : Nat → Tr27 → Option Int
  | 0 => fun _ => none
  | n + 1 => Gh (E4 n)
def RX (p0 : Tr27) : Option Int := GX fun n => E4 n p0
theorem k39 : KO (K39 fun x => RX x) 39 := R8 (E := te) (xs := mR) (ys := rN) (bs := []) (io := false) (nn := fun n x => E4 n x) (st := fun g x => Gh g x) Tryz.func39 rfl (by kernel_rfl) (fun _ => rfl) (fun _ => rfl) fun g hg => Ea (ct := (.q (.q (.j (.st false ⟨[(3,false,AO)],[],[]⟩) (.q (.b (.l ⟨[(3,false,AO),(4,false,AO)],[],[]⟩ (.q (.j (.st false ⟨[(3,false,AO)],[],[]⟩) .d .d))))) .d)))) DW (AH hg BC) Tryz.func39 (by kernel_rfl) fun x => by kernel_rfl
def Er (fRec : Tr27 → Option Int) (p0 : Tr27) : (Int × Int) → Option ((Int × Int) ⊕ Int)
  | (x4,x5) => (if x5 < (p0.un.2.2.2.2.length : Int) then (ix p0.un.2.2.2.2 x5).bind fun x6 => (fRec (Tr27.of (x6.un.1,f24 x6.un.2.1,x6.un.2.2.1,x6.un.2.2.2.1,x6.un.2.2.2.2))).bind fun x7 => some (.inl (w64 (x4 + x7),w64 (x5 + 1))) else some (.inr x4))
def Gp (fRec : Tr27 → Option Int) (p0 : Tr27) : Option Int := (if (decide (p0.un.1 < 2) || decide (4 < p0.un.1)) = true then (Lk (f24 p0.un.2.1)).bind fun x2 => some (w64 (1 + x2)) else some 1).bind fun x1 => (Aj (Er fRec p0) (x1,0)).bind fun x3 => some x3
def Fa : Nat → Tr27 → Option Int
  | 0 => fun _ => none
  | n + 1 => Gp (Fa n)
def O5 (p0 : Tr27) : Option Int := GX fun n => Fa n p0
theorem k22 : KO (K22 fun x => O5 x) 22 := R8 (E := te) (xs := mI) (ys := rR) (bs := []) (io := false) (nn := fun n x => Fa n x) (st := fun g x => Gp g x) Tryz.func22 rfl (by kernel_rfl) (fun _ => rfl) (fun _ => rfl) fun g hg => Ea (ct := (.q (.q (.j (.st false ⟨[(3,false,AO)],[],[]⟩) (.j (.bl [12]) .d .d) (.j (.st false ⟨[(3,false,AO)],[],[]⟩) (.q (.b (.l ⟨[(3,false,AO),(4,false,AO)],[],[]⟩ .d))) .d))))) DW (AH hg (AH k52 BC)) Tryz.func22 (by kernel_rfl) fun x => by kernel_rfl
def Kb (p0 : Int) : Int := (if 1000 < p0 then 1000 else p0)
noncomputable def b69 : Code := (Tryz.f69.body).getD .skip
def zR : Ct := .d
abbrev K69 : Cn_ := ⟨yA,tZ,[],false,fun x => some (Kb x),some ⟨fun x => Kb x,fun _ => rfl⟩⟩
theorem v69 (x : Int) : @Eq (Option Int) (dF te tO ([] : Hq te Tryz.prog) 6 b69 zR yA tZ [] false [.tmp 2] x).den (some (Kb x)) := by simp only [Kb,apply_ite (some : Int → _)]; kernel_rfl
theorem k69 : KO (K69) 69 := dK DW BC Tryz.func69 (by kernel_rfl) Tryz.ntmps69 rfl rfl rfl (by kernel_rfl) v69
def Eo (fRec : Tr27 → Option Int) (p0 : Tr27) : (Int × Int) → Option ((Int × Int) ⊕ Int)
  | (x3,x4) => (if x4 < (p0.un.2.2.2.2.length : Int) then ((ix p0.un.2.2.2.2 x4).bind fun x6 => (fRec (Tr27.of (x6.un.1,f24 x6.un.2.1,x6.un.2.2.1,x6.un.2.2.2.1,x6.un.2.2.2.2))).bind fun x7 => (if p0.un.1 = 3 then some (Kb (w64 (x3 * x7))) else some x3).bind fun x8 => (if p0.un.1 = 4 then some (Kb (w64 (x8 + x7))) else some x8).bind fun x9 => (if (decide (p0.un.1 = 5) && decide (x9 < x7)) = true then some x7 else some x9)).bind fun x5 => some (.inl (x5,w64 (x4 + 1))) else some (.inr x3))
def Gm (fRec : Tr27 → Option Int) (p0 : Tr27) : Option Int := (if (decide (p0.un.1 < 3) || decide (5 < p0.un.1)) = true then some 1 else (if p0.un.1 = 3 then some 1 else some 0).bind fun x1 => (Aj (Eo fRec p0) (x1,0)).bind fun x2 => some x2)
def EF : Nat → Tr27 → Option Int
  | 0 => fun _ => none
  | n + 1 => Gm (EF n)
def SQ (p0 : Tr27) : Option Int := GX fun n => EF n p0
theorem k40 : KO (K40 fun x => SQ x) 40 := R8 (E := te) (xs := jN) (ys := pV) (bs := []) (io := false) (nn := fun n x => EF n x) (st := fun g x => Gm g x) Tryz.func40 rfl (by kernel_rfl) (fun _ => rfl) (fun _ => rfl) fun g hg => Ea (ct := (.q (.s (.j (.bl [13]) .d .d) (.q (.j (.st false ⟨[(3,false,AO)],[],[]⟩) .d (.j (.st false ⟨[(3,false,AO)],[],[]⟩) (.q (.b (.l ⟨[(3,false,AO),(4,false,AO)],[],[]⟩ (.q (.j (.st false ⟨[(3,false,AO)],[],[]⟩) (.b (.q (.j (.st false ⟨[(3,false,AO)],[],[]⟩) .d (.j (.st false ⟨[(3,false,AO)],[],[]⟩) .d (.j (.bl [51]) .d .d))))) .d))))) .d)))))) DW (AH hg (AH k69 BC)) Tryz.func40 (by kernel_rfl) fun x => by kernel_rfl
def M9 (p0 : Tr27) : Option Bool := ((Rq (Tr27.of (p0.un.1,f24 p0.un.2.1,p0.un.2.2.1,p0.un.2.2.2.1,p0.un.2.2.2.2))).bind fun x2 => (if x2 = true then (RX (Tr27.of (p0.un.1,f24 p0.un.2.1,p0.un.2.2.1,p0.un.2.2.2.1,p0.un.2.2.2.2))).bind fun x3 => (if x3 ≤ 8 then (O5 (Tr27.of (p0.un.1,f24 p0.un.2.1,p0.un.2.2.1,p0.un.2.2.2.1,p0.un.2.2.2.2))).bind fun x4 => (if x4 ≤ 64 then (SQ (Tr27.of (p0.un.1,f24 p0.un.2.1,p0.un.2.2.1,p0.un.2.2.2.1,p0.un.2.2.2.2))).bind fun x5 => some (decide (x5 ≤ 64)) else some false) else some false) else some false)).bind fun x1 => some x1
abbrev K15 : Cn_ := ⟨[T6],[KP],[],false,fun x => M9 x,none⟩
theorem k15 : KO (K15) 15 := Ea (ct := (.q (.j (.st false ⟨[(2,false,Ez)],[],[]⟩) .d .d))) DW (AH k38 (AH k39 (AH k22 (AH k40 BC)))) Tryz.func15 (by kernel_rfl) fun x => by kernel_rfl
def EP (fRec : Tr24 → Int → Int → Option Bool) (p0 : Tr24) (p1 : Int) (p2 : Int) : Int → Option (Int ⊕ (Unit ⊕ Bool))
  | x1 => (if x1 < (p0.un.2.2.2.length : Int) then (ix p0.un.2.2.2 x1).bind fun x2 => (fRec x2 p1 p2).bind fun x3 => (if x3 = true then some (.inr (.inr true)) else some (.inl (w64 (x1 + 1)))) else some (.inr (.inl ())))
def ET (fRec : Tr24 → Int → Int → Option Bool) (p0 : Tr24) (p1 : Int) (p2 : Int) : Option Bool := (if (decide (p0.un.1 = 3) && (decide (p0.un.2.1 = p1) && decide (p0.un.2.2.1 = p2))) = true then some true else GN (Aj (EP fRec p0 p1 p2) 0) fun _ => some false)
def FI : Nat → Tr24 → Int → Int → Option Bool
  | 0 => fun _ _ _ => none
  | n + 1 => ET (FI n)
def M8 (p0 : Tr24) (p1 : Int) (p2 : Int) : Option Bool := GX fun n => FI n p0 p1 p2
def LO (fRec : Tr24 → Int → Int → Option Bool) (p0 : Tr24) (p1 : Int) (p2 : Int) : Int → Option (Int ⊕ (Unit ⊕ Bool))
  | x1 => (if x1 < (p0.un.2.2.2.length : Int) then (ix p0.un.2.2.2 x1).bind fun x2 => (fRec (f24 x2) p1 p2).bind fun x3 => (if x3 = true then some (.inr (.inr true)) else some (.inl (w64 (x1 + 1)))) else some (.inr (.inl ())))
theorem Ua : @LO = @EP := by
 unfold LO EP
 simp only [Tr24.re_eq]
def Pw (fRec : Tr24 → Int → Int → Option Bool) (p0 : Tr24) (p1 : Int) (p2 : Int) : Option Bool := (if (decide (p0.un.1 = 3) && (decide (p0.un.2.1 = p1) && decide (p0.un.2.2.1 = p2))) = true then some true else GN (Aj (LO fRec p0 p1 p2) 0) fun _ => some false)
theorem T1 : @Pw = @ET := by
 unfold Pw ET
 simp only [Ua]
theorem k78 : KO (K78 fun x => M8 x.1 x.2.1 x.2.2) 78 := R8 (E := te) (xs := kK) (ys := qV) (bs := []) (io := false) (nn := fun n x => FI n x.1 x.2.1 x.2.2) (st := fun g x => ET (fun yp0 yp1 yp2 => g (yp0,yp1,yp2)) x.1 x.2.1 x.2.2) Tryz.func78 rfl (by kernel_rfl) (fun _ => rfl) (fun _ => rfl) fun g hg => Ea (ct := (.q (.s (.j (.bl [22]) .d .d) (.j (.st true ⟨[],[],[]⟩) (.q (.b (.l ⟨[(7,false,AO)],[],[]⟩ .d))) .d)))) DW (AH hg BC) Tryz.func78 (by kernel_rfl) fun x => by rw [← T1]; kernel_rfl
def Hh (fRec : Tr27 → Int → Int → Option Bool) (p0 : Tr27) (p1 : Int) (p2 : Int) : Int → Option (Int ⊕ (Unit ⊕ Bool))
  | x5 => (if x5 < (p0.un.2.2.2.2.length : Int) then (ix p0.un.2.2.2.2 x5).bind fun x6 => (fRec (Tr27.of (x6.un.1,f24 x6.un.2.1,x6.un.2.2.1,x6.un.2.2.2.1,x6.un.2.2.2.2)) p1 p2).bind fun x7 => (if x7 = true then some (.inr (.inr true)) else some (.inl (w64 (x5 + 1)))) else some (.inr (.inl ())))
def Hr (fRec : Tr27 → Int → Int → Option Bool) (p0 : Tr27) (p1 : Int) (p2 : Int) : Option Bool := (if p0.un.1 = 2 then (if p0.un.2.2.1 = p1 then (if p0.un.2.2.2.1 = p2 then some true else (M8 (f24 p0.un.2.1) p1 p2).bind fun x2 => some x2) else (M8 (f24 p0.un.2.1) p1 p2).bind fun x3 => some x3) else (M8 (f24 p0.un.2.1) p1 p2).bind fun x4 => some x4).bind fun x1 => (if x1 = true then some true else GN (Aj (Hh fRec p0 p1 p2) 0) fun _ => some false)
def GB : Nat → Tr27 → Int → Int → Option Bool
  | 0 => fun _ _ _ => none
  | n + 1 => Hr (GB n)
def Vm (p0 : Tr27) (p1 : Int) (p2 : Int) : Option Bool := GX fun n => GB n p0 p1 p2
theorem k51 : KO (K51 fun x => Vm x.1 x.2.1 x.2.2) 51 := R8 (E := te) (xs := lK) (ys := pG) (bs := []) (io := false) (nn := fun n x => GB n x.1 x.2.1 x.2.2) (st := fun g x => Hr (fun yp0 yp1 yp2 => g (yp0,yp1,yp2)) x.1 x.2.1 x.2.2) Tryz.func51 rfl (by kernel_rfl) (fun _ => rfl) (fun _ => rfl) fun g hg => Ea (ct := (.q (.s (.j (.st false ⟨[(29,false,Ez)],[],[]⟩) .d .d) (.j (.st true ⟨[],[],[]⟩) (.q (.b (.l ⟨[(7,false,AO)],[],[]⟩ .d))) .d)))) DW (AH hg (AH k78 BC)) Tryz.func51 (by kernel_rfl) fun x => by kernel_rfl
theorem xZ : type_of% Tryz.underlying62 := Tryz.underlying62
theorem Z3 : (Tryz.prog.info? 3).bind (·.zero) = some (Jint 0) := by kernel_rfl
theorem L62 : Et Tryz.prog 62 3 1 8 := Et.of xZ (by kernel_rfl) (by kernel_rfl) (by kernel_rfl) (by decide)
def G5 (p0 : Tr27) (p1 : Int) : (List Int × Int) → Option ((List Int × Int) ⊕ (List Int))
  | (x2,x3) => (if x3 ≤ (Ci p1) then ((Vm (Tr27.of (p0.un.1,f24 p0.un.2.1,p0.un.2.2.1,p0.un.2.2.2.1,p0.un.2.2.2.2)) p1 x3).bind fun x5 => (if x5 = true then (HU x2 ([x3] : List Int)).bind fun x6 => some x6 else some x2)).bind fun x4 => some (.inl (x4,w64 (x3 + 1))) else some (.inr x2))
def Mb (p0 : Tr27) (p1 : Int) : Option (List Int) := (Aj (G5 p0 p1) ([],0)).bind fun x1 => some x1
abbrev K21 : Cn_ := ⟨[T6,DJ],[WU],[],false,fun x => Mb x.1 x.2,none⟩
theorem k21 : KO (K21) 21 := Ea (ct := (.q (.q (.j (.st false ⟨[(5,false,VL)],[],[]⟩) (.q (.b (.l ⟨[(5,false,VL),(6,false,AO)],[],[]⟩ (.q (.j (.st false ⟨[(5,false,VL)],[],[]⟩) .d .d))))) .d)))) DW (AH k50 (AH k51 BC)) Tryz.func21 (by kernel_rfl) fun x => by kernel_rfl
def Id (p0 : Tr27) : (Int × Int) → Option ((Int × Int) ⊕ (Unit ⊕ Bool))
  | (x1,x2) => (if x2 < 5 then (Mb (Tr27.of (p0.un.1,f24 p0.un.2.1,p0.un.2.2.1,p0.un.2.2.2.1,p0.un.2.2.2.2)) x2).bind fun x3 => (if 300 < (w64 (x1 * (w64 ((x3.length : Int) + 1)))) then some (.inr (.inr false)) else some (.inl (w64 (x1 * (w64 ((x3.length : Int) + 1))),w64 (x2 + 1)))) else some (.inr (.inl ())))
def Q3 (p0 : Tr27) : Option Bool := GN (Aj (Id p0) (1,0)) fun _ => (O5 (Tr27.of (p0.un.1,f24 p0.un.2.1,p0.un.2.2.1,p0.un.2.2.2.1,p0.un.2.2.2.2))).bind fun x4 => some (decide (x4 ≤ 150))
abbrev K6 : Cn_ := ⟨[T6],[KP],[],false,fun x => Q3 x,none⟩
theorem k6 : KO (K6) 6 := Ea (ct := (.q (.q (.j (.st true ⟨[],[],[]⟩) (.q (.b (.l ⟨[(3,false,AO),(4,false,AO)],[],[]⟩ .d))) .d)))) DW (AH k22 (AH k21 BC)) Tryz.func6 (by kernel_rfl) fun x => by kernel_rfl
abbrev dU (a0 : Int × Int × Int × Int) : List Value := [Jint a0.1,Jint a0.2.1,Jint a0.2.2.1,Jint a0.2.2.2]
abbrev lE (a0 : Nat) (a1 : Int × Int × Int × Int) : List (Nat × List Value) := [(a0,[Jint a1.1,Jint a1.2.1,Jint a1.2.2.1,Jint a1.2.2.2])]
def FP (p0 : Int × Int × Int × Int) : Int → Option (Int ⊕ (Unit ⊕ Bool))
  | x1 => (if x1 < 4 then ((ix ([p0.1,p0.2.1,p0.2.2.1,p0.2.2.2] : List Int) x1).bind fun x3 => (if x3 < 0 then some true else (ix ([p0.1,p0.2.1,p0.2.2.1,p0.2.2.2] : List Int) x1).bind fun x4 => some (decide ((HX x1) < x4)))).bind fun x2 => (if x2 = true then some (.inr (.inr false)) else some (.inl (w64 (x1 + 1)))) else some (.inr (.inl ())))
def Jj (p0 : Int × Int × Int × Int) : Option Bool := GN (Aj (FP p0) 0) fun _ => some true
theorem XA (Y : Nat → Prop) (w0 : World)  (p0 : Int × Int × Int × Int) (r : Bool) (H : Jj p0 = some r)  :
    ca_ 16 #[.agg #[Jint p0.1,Jint p0.2.1,Jint p0.2.2.1,Jint p0.2.2.2]] w0 fun e w' => e = .returned (.bool r) ∧ Below w0.heap.size w0 w' := by
 refine enter Tryz.func16 Aa Tryz.ntmps16 Aa fun a F => ?_
 have W := Stw.start Y w0
 unfold Jj at H
 refine vc tk 2 F W fun a w F W => ?_
 refine IR (cs := (dU p0)) F W Aa Aa Aa fun b1 a w F W => ?_
 refine vl tk 2 F W fun a w F W => ?_
 refine BJ ?_
 obtain ⟨o1,G1,K1,L1⟩ := zE H
 refine Hg (fun a w => some (Sum.inl ()) = some o1 ∧ Fr 20 [] [(2,.bool false)] a ∧ sy Y w0 (lE b1 p0) [] w) ?_ ?_
 ·
  have H := G1
  clear G1 K1
  refine vc tk 6 F W fun a w F W => ?_
  refine J5 H (fun s a w => Fr 20 [] [(1,pp b1),(2,.bool false),(3,Jint s)] a ∧ sy Y w0 (lE b1 p0) [] w) ⟨F.ra Aa,W⟩ fun s o a w H L2 hR => ?_
  obtain ⟨x1,rfl⟩ : ∃ x,x = s := ⟨s,rfl⟩
  obtain ⟨F,W⟩ := hR
  have F : Fr 20 [] [(1,pp b1),(2,.bool false),(3,Jint x1)] a := F
  have W : sy Y w0 (lE b1 p0) [] w := W
  rw [FP] at H
  refine vc tk 7 F W fun a w F W => ?_
  refine Mg F Aa H (fun F H => ?_) fun F H => ?_
  ·
   refine tN tk 4 F W fun a w F W => ?_
   obtain ⟨o3,G3,K3⟩ := BO H
   refine Hg (fun a w => ∃ x2 : Bool,some (x2) = some o3 ∧ Fr 20 [] [(1,pp b1),(2,.bool false),(3,Jint x1),(19,.bool x2)] a ∧ sy Y w0 (lE b1 p0) [] w) ?_ ?_
   ·
    have H := G3
    clear G3 K3
    refine P1 W MO (by kernel_rfl) ?_
    refine qs F Aa (Gr F Aa).q fun a F => ?_
    obtain ⟨x3,h1,H⟩ := BO H
    refine qs F Aa (HV (0 + (x1).toNat * 1) Ud F Aa Aa Aa h1 Aa).q fun a F => ?_
    refine qs F Aa (Ho (v := Jint x3) 0 F Aa Aa T3 (Ps (base := 0) (m := 4) (l := [p0.1,p0.2.1,p0.2.2.1,p0.2.2.2]) (enc := Value.int .i64) Aa h1)).q fun a F => ?_
    refine qs F Aa (eI F Aa Aa).q fun a F => ?_
    refine qs F Aa (Gr F Aa).q fun a F => ?_
    rcases bxq (decide (x3 < 0)) with hb | hb
    ·
     have H := Ys (Z6 hb) H
     rw [hb] at F
     clear hb
     iterate 6 refine j3 F (fQ F Aa Aa Aa Aa Aa) Aa Aa fun a F => ?_
     refine qs F Aa (Tu F Aa Aa Aa).q fun a F => ?_
     refine Iq fun w W => ?_
     refine BJ ?_
     exact ⟨_,H,F.ra Aa,W⟩
    have H := Yp (bN hb) H
    rw [hb] at F
    clear hb
    refine XV F (Jz F Aa Aa Aa Aa) Aa (UV Aa) (Gr F Aa).q fun a F => ?_
    obtain ⟨x4,h2,H⟩ := BO H
    refine XV F (Jz F Aa Aa Aa Aa) Aa (UV Aa) (HV (0 + (x1).toNat * 1) Ud F Aa Aa Aa h2 Aa).q fun a F => ?_
    refine XV F (Jz F Aa Aa Aa Aa) Aa (UV Aa) (Ho (v := Jint x4) 0 F Aa Aa T3 (Ps (base := 0) (m := 4) (l := [p0.1,p0.2.1,p0.2.2.1,p0.2.2.2]) (enc := Value.int .i64) Aa h2)).q fun a F => ?_
    refine XV F (Jz F Aa Aa Aa Aa) Aa (UV Aa) (Gr F Aa).q fun a F => ?_
    refine XV F (Jz F Aa Aa Aa Aa) Aa (UV Aa) (Hi (v := Jint (HX x1)) F H41 Aa (fun w W => bG any w x1 _ Aa)) fun a F => ?_
    refine XV F (Jz F Aa Aa Aa Aa) Aa (UV Aa) (gR F Aa Aa).q fun a F => ?_
    refine qs F Aa (RR F Aa Aa Aa).q fun a F => ?_
    refine Iq fun w W => ?_
    refine BJ ?_
    exact ⟨_,H,F.ra Aa,W⟩
   rintro a w ⟨x2,hj,F,W⟩
   have hj := Gj hj
   subst hj
   have H := K3
   clear G3 K3
   refine Up F Aa H (fun F H => ?_) fun F H => ?_
   ·
    refine vc tk 5 F W fun a w F W => ?_
    refine Ej (Jh ?_)
    iterate 2 refine I6 ?_
    refine Jh (I6 ?_)
    have H := L2 _ H
    have H := L1 _ H
    have H := Gj H
    subst H
    refine Ga (.inl Aa) F W Aa (E2 F Aa) ?_
    exact ⟨rfl,W.done⟩
   refine F9 (EK ?_)
   refine vn tk 5 F W fun a w F W => ?_
   refine BJ ?_
   exact ⟨_,H,F.ra Aa,W⟩
  refine HW ?_
  iterate 2 refine LQ ?_
  refine Ha (BJ ?_)
  have H := L2 _ H
  exact ⟨H,F.ra Aa,W⟩
 rintro a w ⟨hj,F,W⟩
 have H := K1 _ hj
 clear hj G1 K1 L1
 refine vc tk 5 F W fun a w F W => ?_
 refine Ej ?_
 have H := Gj H
 subst H
 refine Ga (.inl Aa) F W Aa (E2 F Aa) ?_
 exact ⟨rfl,W.done⟩
abbrev K16 : Cn_ := ⟨Aa6,Abc,[],false,fun x => Jj x,none⟩
theorem k16 : KO K16 16 := KO.of ⟨fun args w => Bf Tryz.func16 rfl (by decide) args w⟩ rfl (fun _ => rfl) (fun _ => rfl) rfl (fun _ => rfl) (fun _ => rfl) (fun _ => rfl) (fun _ => rfl) fun Y w0 x r g H hg hk => (XA Y w0  x r H ).mono fun e w' h => ⟨(),h.1,Stw.ofB h.2⟩
theorem s8 : type_of% Tryz.underlying39 := Tryz.underlying39
theorem B41 : Bt Tryz.prog 41 [Jint 0,Jint 0,Jint 0,Jint 0,.slice none 0 0,Jint 0,Jint 0,.slice none 0 0] [(0,1),(1,4),(5,1),(6,1),(7,1)] := ⟨⟨.agg #[Jint 0,Jint 0,Jint 0,Jint 0,.slice none 0 0,Jint 0,Jint 0,.slice none 0 0],by kernel_rfl,rfl⟩,⟨_,jE,fun w => by kernel_rfl⟩⟩
theorem tJ : (Tryz.prog.info? 41).bind (·.zero) = some (.agg #[Jint 0,Jint 0,Jint 0,Jint 0,.slice none 0 0,Jint 0,Jint 0,.slice none 0 0]) := by kernel_rfl
theorem lZ : Ty Tryz.prog 41 true 8 := ⟨by kernel_rfl,by kernel_rfl⟩
theorem yY : Et Tryz.prog 39 41 8 96 := Et.of s8 (by kernel_rfl) (by kernel_rfl) (by kernel_rfl) (by decide)
abbrev kS : Rp (Int × Int × Int × (Value × List Tr38)) := (Rp.pair ri (Rp.pair ri (Rp.pair ri (Rp.vsl Lp))))
abbrev Aat (p : Int × Int × Int × (Value × List Tr38)) : Tr38 := (Tr38.of (p.1,p.2.1,p.2.2.1,p.2.2.2.2))
theorem Sg : Ex Lp kS Aat := (Ex.knot iF (of := Tr38.of) (fun _ => rfl) (fun x => by cases x; rfl) (Ex.pair Ex.rfl' (Ex.pair Ex.rfl' (Ex.pair Ex.rfl' Ex.sliceF))))
abbrev cZ : Rp (Int × (Int × Int × Int × (Value × List Tr38)) × Int × Int × (Value × List Tr41)) := (Rp.pair ri (Rp.pair kS (Rp.pair ri (Rp.pair ri (Rp.vsl Lz)))))
abbrev AaO (p : Int × (Int × Int × Int × (Value × List Tr38)) × Int × Int × (Value × List Tr41)) : Tr41 := (Tr41.of (p.1,(Tr38.of (p.2.1.1,p.2.1.2.1,p.2.1.2.2.1,p.2.1.2.2.2.2)),p.2.2.1,p.2.2.2.1,p.2.2.2.2.2))
theorem OZ : Ex Lz cZ AaO := (Ex.knot lS (of := Tr41.of) (fun _ => rfl) (fun x => by cases x; rfl) (Ex.pair Ex.rfl' (Ex.pair (Ex.knot iF (of := Tr38.of) (fun _ => rfl) (fun x => by cases x; rfl) (Ex.pair Ex.rfl' (Ex.pair Ex.rfl' (Ex.pair Ex.rfl' Ex.sliceF)))) (Ex.pair Ex.rfl' (Ex.pair Ex.rfl' Ex.sliceF)))))
def Ac (Fg58 : Tr38 → Tr38 → Option Bool) (p0 : List Tr38) (p1 : List Tr38) : Int → Option (Int ⊕ (Unit ⊕ Bool))
  | x1 => (if x1 < (p0.length : Int) then (ix p0 x1).bind fun x2 => (ix p1 x1).bind fun x3 => (Fg58 x2 x3).bind fun x4 => (if (!x4) = true then some (.inr (.inr false)) else some (.inl (w64 (x1 + 1)))) else some (.inr (.inl ())))
def Ai (Fg58 : Tr38 → Tr38 → Option Bool) (p0 : List Tr38) (p1 : List Tr38) : Option Bool := (if (p0.length : Int) ≠ (p1.length : Int) then some false else GN (Aj (Ac Fg58 p0 p1) 0) fun _ => some true)
def Bw (Fg58 : Tr38 → Tr38 → Option Bool) (p0 : List Tr38) (p1 : List Tr38) : Int → Option (Int ⊕ (Unit ⊕ Bool))
  | x1 => (if x1 < (p0.length : Int) then (ix p0 x1).bind fun x2 => (ix p1 x1).bind fun x3 => (Fg58 (f38 x2) (f38 x3)).bind fun x4 => (if (!x4) = true then some (.inr (.inr false)) else some (.inl (w64 (x1 + 1)))) else some (.inr (.inl ())))
theorem Dz : @Bw = @Ac := by
 unfold Bw Ac
 simp only [Tr38.re_eq]
def Cx (Fg58 : Tr38 → Tr38 → Option Bool) (p0 : List Tr38) (p1 : List Tr38) : Option Bool := (if (p0.length : Int) ≠ (p1.length : Int) then some false else GN (Aj (Bw Fg58 p0 p1) 0) fun _ => some true)
theorem DY : @Cx = @Ai := by
 unfold Cx Ai
 simp only [Dz]
abbrev zX (h136 : TT te.c (Dp Ur []) → Option (TT te.c (IX Ur Zh [] false))) : Cn_ := ⟨[Vh,Vh,(.b false,[.d true (.fn 136)])],[KP],[],false,fun x => Ai (fun yp0 yp1 => h136 (yp0,yp1)) x.1 x.2.1,none⟩
theorem Abl (h136) (kh136 : KO (uC h136) 136) : KO (zX h136) 146 := Ea (ct := (.q (.q (.j (.st true ⟨[],[],[]⟩) (.q (.b (.l ⟨[(17,false,AO)],[],[]⟩ .d))) .d)))) DW (AH kh136 BC) Tryz.func146 (by kernel_rfl) fun x => by rw [← DY]; kernel_rfl
def En (fRec : Tr38 → Tr38 → Option Bool) (p0 : Tr38) (p1 : Tr38) : Option Bool := (if p0.un.1 = p1.un.1 then (if p0.un.2.1 = p1.un.2.1 then (if p0.un.2.2.1 = p1.un.2.2.1 then ((Ai fRec) p0.un.2.2.2 p1.un.2.2.2).bind fun x2 => some x2 else some false) else some false) else some false).bind fun x1 => some x1
def D9 : Nat → Tr38 → Tr38 → Option Bool
  | 0 => fun _ _ => none
  | n + 1 => En (D9 n)
def Lt (p0 : Tr38) (p1 : Tr38) : Option Bool := GX fun n => D9 n p0 p1
theorem Aaa : KO (uC fun x => Lt x.1 x.2) 136 := R8 (E := te) (xs := Ur) (ys := Zh) (bs := []) (io := false) (nn := fun n x => D9 n x.1 x.2) (st := fun g x => En (fun yp0 yp1 => g (yp0,yp1)) x.1 x.2) Tryz.func136 rfl (by kernel_rfl) (fun _ => rfl) (fun _ => rfl) fun g hg => Ea (ct := (.q (.j (.st false ⟨[(4,false,Ez)],[],[]⟩) .d .d))) DW (AH hg (AH (Abl _ hg) BC)) Tryz.func136 (by kernel_rfl) fun x => by kernel_rfl
def Eu (p0 : Tr38) : Option Bool := (Lt p0 (Tr38.of (0,0,0,([] : List Tr38)))).bind fun x1 => some x1
def MT (p0 : Tr38) : Option Bool := (Lt (f38 p0) (Tr38.of (0,0,0,([] : List Tr38)))).bind fun x1 => some x1
theorem QS : @MT = @Eu := by
 unfold MT Eu
 simp only [Tr38.re_eq]
abbrev AaR : Cn_ := ⟨[N0],[KP],[],false,fun x => Eu x,none⟩
theorem Aaf : KO (AaR) 106 := Ea (ct := .d) DW (AH Aaa BC) Tryz.func106 (by kernel_rfl) fun x => by rw [← QS]; kernel_rfl
theorem zG : Ty Tryz.prog 39 false 1 := ⟨by kernel_rfl,by kernel_rfl⟩
def HB (p0 : Int) : Option Int := (if p0 = 0 then some true else (if p0 = 1 then some true else some (decide (p0 = 3)))).bind fun x1 => (if x1 = true then some 8 else (if p0 = 2 then some 4 else some 0))
abbrev Aal : Cn_ := ⟨[DJ],[JQ],[],false,fun x => HB x,none⟩
theorem zS : KO (Aal) 147 := Ea (ct := (.q (.s (.q (.b (.j (.st false ⟨[(4,false,Ez)],[],[]⟩) .d .d))) .d))) DW BC Tryz.func147 (by kernel_rfl) fun x => by kernel_rfl
def EE (p0 : Int) : Option Int := (HB p0).bind fun x1 => (lM (JT .i64 1 x1) x1).bind fun x2 => some (w64 (x2 - 1))
abbrev Aao : Cn_ := ⟨[DJ],[JQ],[],false,fun x => EE x,none⟩
theorem vY : KO (Aao) 137 := Ea (ct := .d) DW (AH zS BC) Tryz.func137 (by kernel_rfl) fun x => by kernel_rfl
def Jw (p0 : Int) : Option Int := (if (decide (p0 = 4) || decide (p0 = 5)) = true then some 7 else (EE p0).bind fun x1 => some x1)
abbrev Abh : Cn_ := ⟨[DJ],[JQ],[],false,fun x => Jw x,none⟩
theorem vD : KO (Abh) 107 := Ea (ct := (.q (.s (.j (.bl [8]) .d .d) .d))) DW (AH vY BC) Tryz.func107 (by kernel_rfl) fun x => by kernel_rfl
abbrev RB (a0 : Tr41) (a1 : Value) (a2 : Value) : List Value := [Jint a0.un.1,Jint a0.un.2.1.un.1,Jint a0.un.2.1.un.2.1,Jint a0.un.2.1.un.2.2.1,a1,Jint a0.un.2.2.1,Jint a0.un.2.2.2.1,a2]
def HH (p0 : Tr41) : Option Bool := (if p0.un.1 = 2 then ((Eu (f38 p0.un.2.1)).bind fun x2 => (if x2 = true then (if (p0.un.2.2.2.2.length : Int) = 0 then (if 0 ≤ p0.un.2.2.1 then (if p0.un.2.2.1 ≤ 4 then (if 0 ≤ p0.un.2.2.2.1 then (Jw p0.un.2.2.1).bind fun x3 => some (decide (p0.un.2.2.2.1 ≤ x3)) else some false) else some false) else some false) else some false) else some false)).bind fun x1 => some x1 else (if (decide (p0.un.2.2.1 ≠ 0) || decide (p0.un.2.2.2.1 ≠ 0)) = true then some false else (if p0.un.1 = 1 then some (decide ((p0.un.2.2.2.2.length : Int) = 0)) else (if p0.un.1 = 3 then some true else some (decide (p0.un.1 = 4))).bind fun x4 => (if x4 = true then ((Eu (f38 p0.un.2.1)).bind fun x6 => (if x6 = true then (if 2 ≤ (p0.un.2.2.2.2.length : Int) then some (decide ((p0.un.2.2.2.2.length : Int) ≤ 8)) else some false) else some false)).bind fun x5 => some x5 else (if p0.un.1 = 5 then some (decide ((p0.un.2.2.2.2.length : Int) = 2)) else some false)))))
abbrev K79 : Cn_ := ⟨[X6],[KP],[],false,fun x => HH x,none⟩
theorem k79 : KO (K79) 79 := Ea (ct := (.q (.s (.q (.c (.j (.st false ⟨[(2,false,Ez)],[],[]⟩) .d .d) .d)) (.s (.j (.bl [45]) .d .d) (.s (.q (.b (.q (.c .d (.j (.st false ⟨[(54,false,Ez)],[],[]⟩) .d (.c (.j (.st false ⟨[(2,false,Ez)],[],[]⟩) .d .d) .d)))))) .d))))) DW (AH Aaf (AH vD BC)) Tryz.func79 (by kernel_rfl) fun x => by kernel_rfl
def DX (p0 : Int) : Bool := (decide (0 ≤ p0) && decide (p0 ≤ 5))
abbrev Aa0 : Cn_ := ⟨[DJ],[KP],[],false,fun x => some (DX x),some ⟨fun x => DX x,fun _ => rfl⟩⟩
theorem o5 : KO (Aa0) 131 := Ea (ct := (.q (.j (.bl [2]) .d .d))) DW BC Tryz.func131 (by kernel_rfl) fun x => by kernel_rfl
def Im (p0 : Tr38) : Option Bool := (if p0.un.1 = 3 then (if (DX p0.un.2.1) = true then (if 0 ≤ p0.un.2.2.1 then (Jw p0.un.2.1).bind fun x2 => (if p0.un.2.2.1 ≤ x2 then some (decide ((p0.un.2.2.2.length : Int) = 0)) else some false) else some false) else some false).bind fun x1 => some x1 else (if (decide (p0.un.2.1 ≠ 0) || decide (p0.un.2.2.1 ≠ 0)) = true then some false else (if p0.un.1 = 1 then some true else some (decide (p0.un.1 = 2))).bind fun x3 => (if x3 = true then some (decide ((p0.un.2.2.2.length : Int) = 0)) else (if p0.un.1 = 4 then some (decide ((p0.un.2.2.2.length : Int) = 1)) else (if p0.un.1 = 5 then some true else some (decide (p0.un.1 = 6))).bind fun x4 => (if x4 = true then some (decide (2 ≤ (p0.un.2.2.2.length : Int)) && decide ((p0.un.2.2.2.length : Int) ≤ 8)) else some false)))))
abbrev AaZ : Cn_ := ⟨[N0],[KP],[],false,fun x => Im x,none⟩
theorem Aau : KO (AaZ) 138 := Ea (ct := (.q (.s (.q (.c (.j (.st false ⟨[(2,false,Ez)],[],[]⟩) .d .d) .d)) (.s (.j (.bl [35]) .d .d) (.s (.q (.b (.j (.st false ⟨[(38,false,Ez)],[],[]⟩) .d (.c .d (.q (.c .d (.j (.st false ⟨[(51,false,Ez)],[],[]⟩) .d (.c (.j (.bl [2]) .d .d) .d)))))))) .d))))) DW (AH vD (AH o5 BC)) Tryz.func138 (by kernel_rfl) fun x => by kernel_rfl
def AP (fRec : Int → Tr38 → Int → Option (Bool × Int)) (p1 : Tr38) (p2 : Int) : (Int × Int) → Option ((Int × Int) ⊕ (Int ⊕ (Bool × Int)))
  | (x4,x5) => (if x4 < (p1.un.2.2.2.length : Int) then (ix p1.un.2.2.2 x4).bind fun x6 => (fRec x5 x6 (w64 (p2 - 1))).bind fun x7 => (if (!x7.1) = true then some (.inr (.inr (false,x7.2))) else some (.inl (w64 (x4 + 1),x7.2))) else some (.inr (.inl x5)))
def BB (fRec : Int → Tr38 → Int → Option (Bool × Int)) (p0 : Int) (p1 : Tr38) (p2 : Int) : Option (Bool × Int) := (if (w64 (p0 - 1)) < 0 then some true else (if p2 < 1 then some true else (Im p1).bind fun x2 => some (!x2))).bind fun x1 => (if x1 = true then some (false,w64 (p0 - 1)) else GN (Aj (AP fRec p1 p2) (0,w64 (p0 - 1))) fun x3 => some (true,x3))
def AW : Nat → Int → Tr38 → Int → Option (Bool × Int)
  | 0 => fun _ _ _ => none
  | n + 1 => BB (AW n)
def D2 (p0 : Int) (p1 : Tr38) (p2 : Int) : Option (Bool × Int) := GX fun n => AW n p0 p1 p2
def FT (fRec : Int → Tr38 → Int → Option (Bool × Int)) (p1 : Tr38) (p2 : Int) : (Int × Int) → Option ((Int × Int) ⊕ (Int ⊕ (Bool × Int)))
  | (x4,x5) => (if x4 < (p1.un.2.2.2.length : Int) then (ix p1.un.2.2.2 x4).bind fun x6 => (fRec x5 (f38 x6) (w64 (p2 - 1))).bind fun x7 => (if (!x7.1) = true then some (.inr (.inr (false,x7.2))) else some (.inl (w64 (x4 + 1),x7.2))) else some (.inr (.inl x5)))
theorem Lb : @FT = @AP := by
 unfold FT AP
 simp only [Tr38.re_eq]
def HL (fRec : Int → Tr38 → Int → Option (Bool × Int)) (p0 : Int) (p1 : Tr38) (p2 : Int) : Option (Bool × Int) := (if (w64 (p0 - 1)) < 0 then some true else (if p2 < 1 then some true else (Im (f38 p1)).bind fun x2 => some (!x2))).bind fun x1 => (if x1 = true then some (false,w64 (p0 - 1)) else GN (Aj (FT fRec p1 p2) (0,w64 (p0 - 1))) fun x3 => some (true,x3))
theorem Lf : @HL = @BB := by
 unfold HL BB
 simp only [Lb,Tr38.re_eq]
theorem Aay : KO (Aad fun x => D2 x.2.2 x.1 x.2.1) 108 := R8 (E := te) (xs := ZE) (ys := cR) (bs := [(true,AO)]) (io := false) (nn := fun n x => AW n x.2.2 x.1 x.2.1) (st := fun g x => BB (fun yp0 yp1 yp2 => g (yp1,yp2,yp0)) x.2.2 x.1 x.2.1) Tryz.func108 rfl (by kernel_rfl) (fun _ => rfl) (fun _ => rfl) fun g hg => Ea (ct := (.q (.q (.s (.j (.st false ⟨[(29,false,Ez)],[],[]⟩) .d .d) (.j (.st true ⟨[],[(0,[some (.d false Jb)])],[]⟩) (.q (.b (.l ⟨[(33,false,AO)],[(0,[some (.d false Jb)])],[]⟩ .d))) .d))))) DW (AH hg (AH Aau BC)) Tryz.func108 (by kernel_rfl) fun x => by rw [← Lf]; kernel_rfl
def FM (p0 : Tr38) : Option Bool := (D2 64 p0 8).bind fun x1 => some x1.1
def Qp (p0 : Tr38) : Option Bool := (D2 64 (f38 p0) 8).bind fun x1 => some x1.1
theorem Vq : @Qp = @FM := by
 unfold Qp FM
 simp only [Tr38.re_eq]
abbrev K80 : Cn_ := ⟨[N0],[KP],[],false,fun x => FM x,none⟩
theorem k80 : KO (K80) 80 := Ea (ct := .d) DW (AH Aay BC) Tryz.func80 (by kernel_rfl) fun x => by rw [← Vq]; kernel_rfl
def C1 (fRec : Tr38 → Option Int) (p0 : Tr38) : (Int × Int) → Option ((Int × Int) ⊕ Int)
  | (x2,x3) => (if x3 < (p0.un.2.2.2.length : Int) then (ix p0.un.2.2.2 x3).bind fun x4 => (fRec x4).bind fun x5 => some (.inl (w64 (x2 + x5),w64 (x3 + 1))) else some (.inr x2))
def Do (fRec : Tr38 → Option Int) (p0 : Tr38) : Option Int := (Aj (C1 fRec p0) (1,0)).bind fun x1 => some x1
def DA : Nat → Tr38 → Option Int
  | 0 => fun _ => none
  | n + 1 => Do (DA n)
def LB (p0 : Tr38) : Option Int := GX fun n => DA n p0
def KI (fRec : Tr38 → Option Int) (p0 : Tr38) : (Int × Int) → Option ((Int × Int) ⊕ Int)
  | (x2,x3) => (if x3 < (p0.un.2.2.2.length : Int) then (ix p0.un.2.2.2 x3).bind fun x4 => (fRec (f38 x4)).bind fun x5 => some (.inl (w64 (x2 + x5),w64 (x3 + 1))) else some (.inr x2))
theorem Sf : @KI = @C1 := by
 unfold KI C1
 simp only [Tr38.re_eq]
def NI (fRec : Tr38 → Option Int) (p0 : Tr38) : Option Int := (Aj (KI fRec p0) (1,0)).bind fun x1 => some x1
theorem SA : @NI = @Do := by
 unfold NI Do
 simp only [Sf]
theorem k81 : KO (K81 fun x => LB x) 81 := R8 (E := te) (xs := mQ) (ys := sB) (bs := []) (io := false) (nn := fun n x => DA n x) (st := fun g x => Do g x) Tryz.func81 rfl (by kernel_rfl) (fun _ => rfl) (fun _ => rfl) fun g hg => Ea (ct := (.q (.q (.j (.st false ⟨[(3,false,AO)],[],[]⟩) (.q (.b (.l ⟨[(3,false,AO),(9,false,AO)],[],[]⟩ .d))) .d)))) DW (AH hg BC) Tryz.func81 (by kernel_rfl) fun x => by rw [← SA]; kernel_rfl
abbrev gE (a : Int × (Int × Int × Int × (Value × List Tr38)) × Int × Int × (Value × List Tr41)) : List Value := [Jint a.1,Jint a.2.1.1,Jint a.2.1.2.1,Jint a.2.1.2.2.1,a.2.1.2.2.2.1,Jint a.2.2.1,Jint a.2.2.2.1,a.2.2.2.2.1]
theorem uK : GS cZ gE := (GS.pair Fl.int.to (GS.pair (GS.pair Fl.int.to (GS.pair Fl.int.to (GS.pair Fl.int.to GS.vsl))) (GS.pair Fl.int.to (GS.pair Fl.int.to GS.vsl))))
abbrev W5  : List Value := [Jint 0,Jint 0,Jint 0,Jint 0,.slice none 0 0,Jint 0,Jint 0,.slice none 0 0]
def AK (fRec : Int → Tr41 → Int → Option (Bool × Int)) (p1 : Tr41) (p2 : Int) : (Int × Int) → Option ((Int × Int) ⊕ (Int ⊕ (Bool × Int)))
  | (x7,x8) => (if x7 < (p1.un.2.2.2.2.length : Int) then (ix p1.un.2.2.2.2 x7).bind fun x9 => (fRec x8 (Tr41.of (x9.un.1,f38 x9.un.2.1,x9.un.2.2.1,x9.un.2.2.2.1,x9.un.2.2.2.2)) (w64 (p2 - 1))).bind fun x10 => (if (!x10.1) = true then some (.inr (.inr (false,x10.2))) else some (.inl (w64 (x7 + 1),x10.2))) else some (.inr (.inl x8)))
def BP (fRec : Int → Tr41 → Int → Option (Bool × Int)) (p0 : Int) (p1 : Tr41) (p2 : Int) : Option (Bool × Int) := (if p0 < 1 then some true else (if p2 < 1 then some true else (HH (Tr41.of (p1.un.1,f38 p1.un.2.1,p1.un.2.2.1,p1.un.2.2.2.1,p1.un.2.2.2.2))).bind fun x2 => some (!x2))).bind fun x1 => (if x1 = true then some (false,p0) else GN (if (decide (p1.un.1 = 1) || decide (p1.un.1 = 5)) = true then (FM (f38 p1.un.2.1)).bind fun x4 => (if (!x4) = true then some (.inr (false,w64 (p0 - 1))) else (LB (f38 p1.un.2.1)).bind fun x5 => some (.inl (w64 ((w64 (p0 - 1)) - x5)))) else some (.inl (w64 (p0 - 1)))) fun x3 => GN (Aj (AK fRec p1 p2) (0,x3)) fun x6 => some (decide (0 ≤ x6),x6))
def AD : Nat → Int → Tr41 → Int → Option (Bool × Int)
  | 0 => fun _ _ _ => none
  | n + 1 => BP (AD n)
def D8 (p0 : Int) (p1 : Tr41) (p2 : Int) : Option (Bool × Int) := GX fun n => AD n p0 p1 p2
theorem k53 : KO (K53 fun x => D8 x.2.2 x.1 x.2.1) 53 := R8 (E := te) (xs := mC) (ys := oQ) (bs := [(true,AO)]) (io := false) (nn := fun n x => AD n x.2.2 x.1 x.2.1) (st := fun g x => BP (fun yp0 yp1 yp2 => g (yp1,yp2,yp0)) x.2.2 x.1 x.2.1) Tryz.func53 rfl (by kernel_rfl) (fun _ => rfl) (fun _ => rfl) fun g hg => Ea (ct := (.q (.s (.j (.st false ⟨[(22,false,Ez)],[],[]⟩) .d .d) (.q (.j (.st true ⟨[],[(0,[some (.d false Jb)])],[]⟩) (.j (.bl [37]) .d .d) (.j (.st true ⟨[],[(0,[some (.d false Jb)])],[]⟩) (.q (.b (.l ⟨[(55,false,AO)],[(0,[some (.d false Jb)])],[]⟩ .d))) .d)))))) DW (AH hg (AH k79 (AH k80 (AH k81 BC)))) Tryz.func53 (by kernel_rfl) fun x => by kernel_rfl
def CS (fRec : Tr41 → Option Int) (p0 : Tr41) : (Int × Int) → Option ((Int × Int) ⊕ Int)
  | (x2,x3) => (if x3 < (p0.un.2.2.2.2.length : Int) then (ix p0.un.2.2.2.2 x3).bind fun x4 => (fRec (Tr41.of (x4.un.1,f38 x4.un.2.1,x4.un.2.2.1,x4.un.2.2.2.1,x4.un.2.2.2.2))).bind fun x5 => some (.inl (min (w64 (x2 * x5)) 1000,w64 (x3 + 1))) else some (.inr x2))
def CI (fRec : Tr41 → Option Int) (p0 : Tr41) : (Int × Int) → Option ((Int × Int) ⊕ Int)
  | (x6,x7) => (if x7 < (p0.un.2.2.2.2.length : Int) then (ix p0.un.2.2.2.2 x7).bind fun x8 => (fRec (Tr41.of (x8.un.1,f38 x8.un.2.1,x8.un.2.2.1,x8.un.2.2.2.1,x8.un.2.2.2.2))).bind fun x9 => some (.inl (min (w64 (x6 + x9)) 1000,w64 (x7 + 1))) else some (.inr x6))
def CO (fRec : Tr41 → Option Int) (p0 : Tr41) : (Int × Int) → Option ((Int × Int) ⊕ Int)
  | (x10,x11) => (if x11 < (p0.un.2.2.2.2.length : Int) then (ix p0.un.2.2.2.2 x11).bind fun x12 => (fRec (Tr41.of (x12.un.1,f38 x12.un.2.1,x12.un.2.2.1,x12.un.2.2.2.1,x12.un.2.2.2.2))).bind fun x13 => some (.inl (max x10 x13,w64 (x11 + 1))) else some (.inr x10))
def Dv (fRec : Tr41 → Option Int) (p0 : Tr41) : Option Int := (if p0.un.1 = 3 then Aj (CS fRec p0) (1,0) else (if p0.un.1 = 4 then Aj (CI fRec p0) (0,0) else (if p0.un.1 = 5 then Aj (CO fRec p0) (0,0) else some 1))).bind fun x1 => some x1
def B0 : Nat → Tr41 → Option Int
  | 0 => fun _ => none
  | n + 1 => Dv (B0 n)
def J4 (p0 : Tr41) : Option Int := GX fun n => B0 n p0
theorem k54 : KO (K54 fun x => J4 x) 54 := R8 (E := te) (xs := jG) (ys := qQ) (bs := []) (io := false) (nn := fun n x => B0 n x) (st := fun g x => Dv g x) Tryz.func54 rfl (by kernel_rfl) (fun _ => rfl) (fun _ => rfl) fun g hg => Ea (ct := (.q (.q (.j (.st false ⟨[(3,false,AO)],[],[]⟩) (.q (.b (.q (.c (.q (.q (.b (.l ⟨[(3,false,AO),(17,false,AO)],[],[]⟩ .d)))) (.q (.c (.q (.b (.l ⟨[(3,false,AO),(32,false,AO)],[],[]⟩ .d))) (.q (.c (.q (.b (.l ⟨[(3,false,AO),(47,false,AO)],[],[]⟩ .d))) .d)))))))) .d)))) DW (AH hg BC) Tryz.func54 (by kernel_rfl) fun x => by kernel_rfl
def GC (p0 : Tr41) : Option Bool := ((D8 64 (Tr41.of (p0.un.1,f38 p0.un.2.1,p0.un.2.2.1,p0.un.2.2.2.1,p0.un.2.2.2.2)) 8).bind fun x3 => (if x3.1 = true then (J4 (Tr41.of (p0.un.1,f38 p0.un.2.1,p0.un.2.2.1,p0.un.2.2.2.1,p0.un.2.2.2.2))).bind fun x4 => some (decide (x4 ≤ 64),x3.2) else some (false,x3.2))).bind fun (x1,x2) => some x1
abbrev K23 : Cn_ := ⟨[X6],[KP],[],false,fun x => GC x,none⟩
theorem k23 : KO (K23) 23 := Ea (ct := (.q (.q (.j (.st false ⟨[(2,false,Ez)],[(1,[some (.d false Jb)])],[]⟩) .d .d)))) DW (AH k53 (AH k54 BC)) Tryz.func23 (by kernel_rfl) fun x => by kernel_rfl
def Cf (Fe56 : Tr38 → Int → Option Tr38) (p0 : List Tr38) (p1 : Int) : (List Tr38 × Int) → Option ((List Tr38 × Int) ⊕ (List Tr38))
  | (x2,x3) => (if x3 < (p0.length : Int) then (ix p0 x3).bind fun x4 => (Fe56 x4 p1).bind fun x5 => (HU x2 ([x5] : List Tr38)).bind fun x6 => some (.inl (x6,w64 (x3 + 1))) else some (.inr x2))
def De (Fe56 : Tr38 → Int → Option Tr38) (p0 : List Tr38) (p1 : Int) : Option (List Tr38) := (Aj (Cf Fe56 p0 p1) ([],0)).bind fun x1 => some x1
def Ie (Fe56 : Tr38 → Int → Option Tr38) (p0 : List Tr38) (p1 : Int) : (List Tr38 × Int) → Option ((List Tr38 × Int) ⊕ (List Tr38))
  | (x2,x3) => (if x3 < (p0.length : Int) then (ix p0 x3).bind fun x4 => (Fe56 (f38 x4) p1).bind fun x5 => (HU x2 ([f38 x5] : List Tr38)).bind fun x6 => some (.inl (x6,w64 (x3 + 1))) else some (.inr x2))
theorem PH : @Ie = @Cf := by
 unfold Ie Cf
 simp only [Tr38.re_eq]
def NP (Fe56 : Tr38 → Int → Option Tr38) (p0 : List Tr38) (p1 : Int) : Option (List Tr38) := (Aj (Ie Fe56 p0 p1) ([],0)).bind fun x1 => some x1
theorem Sw : @NP = @De := by
 unfold NP De
 simp only [PH]
abbrev K82 (h55 : TT te.c (Dp aZ []) → Option (TT te.c (IX aZ j7 [] false))) : Cn_ := ⟨[Vh,DJ],[(.b false,[.o 38 VY])],[],false,fun x => De (fun yp0 yp1 => h55 (yp0,yp1)) x.1 x.2,none⟩
theorem k82 (h55) (kh55 : KO (K55 h55) 55) : KO (K82 h55) 82 := Ea (ct := (.q (.q (.j (.st false ⟨[(5,false,[.o 38 VY])],[],[]⟩) (.q (.b (.l ⟨[(5,false,[.o 38 VY]),(10,false,AO)],[],[]⟩ .d))) .d)))) DW (AH kh55 BC) Tryz.func82 (by kernel_rfl) fun x => by rw [← Sw]; kernel_rfl
def As (p0 : Bool) : Tr38 := (if p0 = true then Tr38.of (1,0,0,([] : List Tr38)) else Tr38.of (2,0,0,([] : List Tr38)))
noncomputable def b83 : Code := (Tryz.f83.body).getD .skip
def Aa9 : Ct := .d
abbrev K83 : Cn_ := ⟨vT,vF,[],false,fun x => some (As x),some ⟨fun x => As x,fun _ => rfl⟩⟩
theorem v83 (x : Bool) : @Eq (Option Tr38) (dF te tO ([] : Hq te Tryz.prog) 6 b83 Aa9 vT vF [] false [.cell 2 38] x).den (some (As x)) := by simp only [As,apply_ite (some : Tr38 → _)]; kernel_rfl
theorem k83 : KO (K83) 83 := dK DW BC Tryz.func83 (by kernel_rfl) Tryz.ntmps83 rfl rfl rfl (by kernel_rfl) v83
def EA (p0 : Tr38) (p1 : Int) : Bool := decide (p0.un.1 = p1)
abbrev AaU : Cn_ := ⟨[N0,(.p,[])],[KP],[(false,[.d true Jb])],false,fun x => some (EA x.1 x.2),some ⟨fun x => EA x.1 x.2,fun _ => rfl⟩⟩
theorem AbA : KO (AaU) 110 := Ea (ct := .d) DW BC Tryz.func110 (by kernel_rfl) fun x => by kernel_rfl
def AR (p0 : List Tr38) (p1c0 : Int) : Int → Option (Int ⊕ (Unit ⊕ Int))
  | x1 => (if x1 < (p0.length : Int) then (ix p0 x1).bind fun x2 => (if (EA x2 p1c0) = true then some (.inr (.inr x1)) else some (.inl (w64 (x1 + 1)))) else some (.inr (.inl ())))
def A5 (p0 : List Tr38) (p1c0 : Int) : Option Int := GN (Aj (AR p0 p1c0) 0) fun _ => some (-1)
def CW (p0 : List Tr38) (p1c0 : Int) : Int → Option (Int ⊕ (Unit ⊕ Int))
  | x1 => (if x1 < (p0.length : Int) then (ix p0 x1).bind fun x2 => (if (EA (f38 x2) p1c0) = true then some (.inr (.inr x1)) else some (.inl (w64 (x1 + 1)))) else some (.inr (.inl ())))
theorem FZ : @CW = @AR := by
 unfold CW AR
 simp only [Tr38.re_eq]
def Ec (p0 : List Tr38) (p1c0 : Int) : Option Int := GN (Aj (CW p0 p1c0) 0) fun _ => some (-1)
theorem Gn : @Ec = @A5 := by
 unfold Ec A5
 simp only [FZ]
abbrev AaC : Cn_ := ⟨[Vh,(.fn 110 [] 1,[])],[JQ],[(false,[.d true Jb])],false,fun x => A5 x.1 x.2,none⟩
theorem Aai : KO (AaC) 139 := Ea (ct := (.q (.j (.st true ⟨[],[],[]⟩) (.q (.b (.l ⟨[(8,false,AO)],[],[]⟩ .d))) .d))) DW (AH AbA BC) Tryz.func139 (by kernel_rfl) fun x => by rw [← Gn]; kernel_rfl
def Be (p0 : List Tr38) (p1c0 : Int) : Option Bool := (A5 p0 p1c0).bind fun x1 => some (decide (0 ≤ x1))
abbrev zM : Cn_ := ⟨[Vh,(.fn 110 [] 1,[])],[KP],[(false,[.d true Jb])],false,fun x => Be x.1 x.2,none⟩
theorem Abj : KO (zM) 109 := Ea (ct := .d) DW (AH Aai BC) Tryz.func109 (by kernel_rfl) fun x => by kernel_rfl
def DZ (p0 : Tr38) (p1 : Int) : Bool := decide (p0.un.1 ≠ p1)
abbrev Aa4 : Cn_ := ⟨[N0,(.p,[])],[KP],[(false,[.d true Jb])],false,fun x => some (DZ x.1 x.2),some ⟨fun x => DZ x.1 x.2,fun _ => rfl⟩⟩
theorem Abq : KO (Aa4) 112 := Ea (ct := .d) DW BC Tryz.func112 (by kernel_rfl) fun x => by kernel_rfl
def C2 (p0 : List Tr38) (p1c0 : Int) : (List Tr38 × Int) → Option ((List Tr38 × Int) ⊕ (List Tr38))
  | (x2,x3) => (if x3 < (p0.length : Int) then ((ix p0 x3).bind fun x5 => (if (DZ x5 p1c0) = true then (HU x2 ([x5] : List Tr38)).bind fun x6 => some x6 else some x2)).bind fun x4 => some (.inl (x4,w64 (x3 + 1))) else some (.inr x2))
def Dt (p0 : List Tr38) (p1c0 : Int) : Option (List Tr38) := (Aj (C2 p0 p1c0) ([],0)).bind fun x1 => some x1
def Ht (p0 : List Tr38) (p1c0 : Int) : (List Tr38 × Int) → Option ((List Tr38 × Int) ⊕ (List Tr38))
  | (x2,x3) => (if x3 < (p0.length : Int) then ((ix p0 x3).bind fun x5 => (if (DZ (f38 x5) p1c0) = true then (HU x2 ([f38 x5] : List Tr38)).bind fun x6 => some x6 else some x2)).bind fun x4 => some (.inl (x4,w64 (x3 + 1))) else some (.inr x2))
theorem Ny : @Ht = @C2 := by
 unfold Ht C2
 simp only [Tr38.re_eq]
def Md (p0 : List Tr38) (p1c0 : Int) : Option (List Tr38) := (Aj (Ht p0 p1c0) ([],0)).bind fun x1 => some x1
theorem P6 : @Md = @Dt := by
 unfold Md Dt
 simp only [Ny]
abbrev Aah : Cn_ := ⟨[(.b false,[.d false (.sl VY)]),(.fn 112 [] 1,[])],[(.b false,[.o 38 VY])],[(false,[.d true Jb])],false,fun x => Dt x.1 x.2,none⟩
theorem Abu : KO (Aah) 111 := Ea (ct := (.q (.q (.j (.st false ⟨[(5,false,[.o 38 VY])],[],[]⟩) (.q (.b (.l ⟨[(5,false,[.o 38 VY]),(10,false,AO)],[],[]⟩ (.q (.q (.j (.st false ⟨[(5,false,[.o 38 VY])],[],[]⟩) .d .d)))))) .d)))) DW (AH Abq BC) Tryz.func111 (by kernel_rfl) fun x => by rw [← P6]; kernel_rfl
def Co (p0 : Int) (p1 : List Tr38) (p2 : Int) (p3 : Int) : Option Tr38 := (Be p1 p3).bind fun x1 => (if x1 = true then some (Tr38.of (p3,0,0,([] : List Tr38))) else (Dt p1 p2).bind fun x2 => (if (x2.length : Int) = 0 then some (Tr38.of (p2,0,0,([] : List Tr38))) else (if (x2.length : Int) = 1 then (ix x2 0).bind fun x3 => some x3 else some (Tr38.of (p0,0,0,x2)))))
def J2 (p0 : Int) (p1 : List Tr38) (p2 : Int) (p3 : Int) : Option Tr38 := (Be p1 p3).bind fun x1 => (if x1 = true then some (Tr38.of (p3,0,0,([] : List Tr38))) else (Dt p1 p2).bind fun x2 => (if (x2.length : Int) = 0 then some (Tr38.of (p2,0,0,([] : List Tr38))) else (if (x2.length : Int) = 1 then (ix x2 0).bind fun x3 => some (f38 x3) else some (Tr38.of (p0,0,0,x2)))))
theorem Og : @J2 = @Co := by
 unfold J2 Co
 simp only [Tr38.re_eq]
abbrev K84 : Cn_ := ⟨[DJ,(.b false,[.d false (.sl VY)]),DJ,DJ],[(.b true,[.d false VY])],[],false,fun x => Co x.1 x.2.1 x.2.2.1 x.2.2.2,none⟩
theorem k84 : KO (K84) 84 := Ea (ct := .d) DW (AH Abj (AH Abu BC)) Tryz.func84 (by kernel_rfl) fun x => by rw [← Og]; kernel_rfl
def Dw (fRec : Tr38 → Int → Option Tr38) (p0 : Tr38) (p1 : Int) : Option Tr38 := ((De fRec) p0.un.2.2.2 p1).bind fun x1 => GN (if p0.un.1 = 3 then (if p0.un.2.1 = 5 then some (.inr (Tr38.of ((As (decide (p0.un.2.2.1 = p1))).un.1,(As (decide (p0.un.2.2.1 = p1))).un.2.1,(As (decide (p0.un.2.2.1 = p1))).un.2.2.1,(As (decide (p0.un.2.2.1 = p1))).un.2.2.2))) else some (.inl ())) else (if p0.un.1 = 4 then (if (x1.length : Int) = 1 then (ix x1 0).bind fun x3 => some (decide (x3.un.1 = 1)) else some false).bind fun x2 => (if x2 = true then some (.inr (Tr38.of ((As false).un.1,(As false).un.2.1,(As false).un.2.2.1,(As false).un.2.2.2))) else (if (x1.length : Int) = 1 then (ix x1 0).bind fun x5 => some (decide (x5.un.1 = 2)) else some false).bind fun x4 => (if x4 = true then some (.inr (Tr38.of ((As true).un.1,(As true).un.2.1,(As true).un.2.2.1,(As true).un.2.2.2))) else some (.inl ()))) else (if p0.un.1 = 5 then (Co p0.un.1 x1 1 2).bind fun x6 => some (.inr x6) else (if p0.un.1 = 6 then (Co p0.un.1 x1 2 1).bind fun x7 => some (.inr x7) else some (.inl ()))))) fun _ => some (Tr38.of (p0.un.1,p0.un.2.1,p0.un.2.2.1,x1))
def Di : Nat → Tr38 → Int → Option Tr38
  | 0 => fun _ _ => none
  | n + 1 => Dw (Di n)
def LA (p0 : Tr38) (p1 : Int) : Option Tr38 := GX fun n => Di n p0 p1
def NJ (fRec : Tr38 → Int → Option Tr38) (p0 : Tr38) (p1 : Int) : Option Tr38 := ((De fRec) p0.un.2.2.2 p1).bind fun x1 => GN (if p0.un.1 = 3 then (if p0.un.2.1 = 5 then some (.inr (Tr38.of ((As (decide (p0.un.2.2.1 = p1))).un.1,(As (decide (p0.un.2.2.1 = p1))).un.2.1,(As (decide (p0.un.2.2.1 = p1))).un.2.2.1,(As (decide (p0.un.2.2.1 = p1))).un.2.2.2))) else some (.inl ())) else (if p0.un.1 = 4 then (if (x1.length : Int) = 1 then (ix x1 0).bind fun x3 => some (decide (x3.un.1 = 1)) else some false).bind fun x2 => (if x2 = true then some (.inr (Tr38.of ((As false).un.1,(As false).un.2.1,(As false).un.2.2.1,(As false).un.2.2.2))) else (if (x1.length : Int) = 1 then (ix x1 0).bind fun x5 => some (decide (x5.un.1 = 2)) else some false).bind fun x4 => (if x4 = true then some (.inr (Tr38.of ((As true).un.1,(As true).un.2.1,(As true).un.2.2.1,(As true).un.2.2.2))) else some (.inl ()))) else (if p0.un.1 = 5 then (Co p0.un.1 x1 1 2).bind fun x6 => some (.inr (f38 x6)) else (if p0.un.1 = 6 then (Co p0.un.1 x1 2 1).bind fun x7 => some (.inr (f38 x7)) else some (.inl ()))))) fun _ => some (Tr38.of (p0.un.1,p0.un.2.1,p0.un.2.2.1,x1))
theorem Rx : @NJ = @Dw := by
 unfold NJ Dw
 simp only [Tr38.re_eq]
theorem k55 : KO (K55 fun x => LA x.1 x.2) 55 := R8 (E := te) (xs := aZ) (ys := j7) (bs := []) (io := false) (nn := fun n x => Di n x.1 x.2) (st := fun g x => Dw (fun yp0 yp1 => g (yp0,yp1)) x.1 x.2) Tryz.func55 rfl (by kernel_rfl) (fun _ => rfl) (fun _ => rfl) fun g hg => Ea (ct := (.q (.q (.j (.st true ⟨[],[],[]⟩) (.q (.b (.q (.c .d (.q (.c (.s (.j (.st false ⟨[(33,false,Ez)],[],[]⟩) .d .d) (.j (.st false ⟨[(44,false,Ez)],[],[]⟩) .d .d)) .d)))))) .d)))) DW (AH hg (AH (k82 _ hg) (AH k83 (AH k84 BC)))) Tryz.func55 (by kernel_rfl) fun x => by rw [← Rx]; kernel_rfl
def DE (fRec : Tr41 → Int → Option Tr41) (p0 : Tr41) (p1 : Int) : (List Tr41 × Int) → Option ((List Tr41 × Int) ⊕ (List Tr41))
  | (x11,x12) => (if x12 < (p0.un.2.2.2.2.length : Int) then (ix p0.un.2.2.2.2 x12).bind fun x13 => (fRec (Tr41.of (x13.un.1,f38 x13.un.2.1,x13.un.2.2.1,x13.un.2.2.2.1,x13.un.2.2.2.2)) p1).bind fun x14 => (HU x11 ([Tr41.of (x14.un.1,f38 x14.un.2.1,x14.un.2.2.1,x14.un.2.2.2.1,x14.un.2.2.2.2)] : List Tr41)).bind fun x15 => some (.inl (x15,w64 (x12 + 1))) else some (.inr x11))
def EO (fRec : Tr41 → Int → Option Tr41) (p0 : Tr41) (p1 : Int) : Option Tr41 := (if (decide (p0.un.1 = 1) || decide (p0.un.1 = 5)) = true then (LA (f38 p0.un.2.1) p1).bind fun x5 => some (x5.un.1,x5.un.2.1,x5.un.2.2.1,x5.un.2.2.2) else some (p0.un.2.1.un.1,p0.un.2.1.un.2.1,p0.un.2.1.un.2.2.1,p0.un.2.1.un.2.2.2)).bind fun (x1,x2,x3,x4) => (if (decide (p0.un.1 = 5) && (decide ((p0.un.2.2.2.2.length : Int) = 2) && decide (x1 = 1))) = true then (ix p0.un.2.2.2.2 0).bind fun x6 => (fRec (Tr41.of (x6.un.1,f38 x6.un.2.1,x6.un.2.2.1,x6.un.2.2.2.1,x6.un.2.2.2.2)) p1).bind fun x7 => some (Tr41.of (x7.un.1,f38 x7.un.2.1,x7.un.2.2.1,x7.un.2.2.2.1,x7.un.2.2.2.2)) else (if (decide (p0.un.1 = 5) && (decide ((p0.un.2.2.2.2.length : Int) = 2) && decide (x1 = 2))) = true then (ix p0.un.2.2.2.2 1).bind fun x8 => (fRec (Tr41.of (x8.un.1,f38 x8.un.2.1,x8.un.2.2.1,x8.un.2.2.2.1,x8.un.2.2.2.2)) p1).bind fun x9 => some (Tr41.of (x9.un.1,f38 x9.un.2.1,x9.un.2.2.1,x9.un.2.2.2.1,x9.un.2.2.2.2)) else (Aj (DE fRec p0 p1) ([],0)).bind fun x10 => some (Tr41.of (p0.un.1,Tr38.of (x1,x2,x3,x4),p0.un.2.2.1,p0.un.2.2.2.1,x10))))
def Dg : Nat → Tr41 → Int → Option Tr41
  | 0 => fun _ _ => none
  | n + 1 => EO (Dg n)
def Ot (p0 : Tr41) (p1 : Int) : Option Tr41 := GX fun n => Dg n p0 p1
theorem k24 : KO (K24 fun x => Ot x.1 x.2) 24 := R8 (E := te) (xs := kY) (ys := rQ) (bs := []) (io := false) (nn := fun n x => Dg n x.1 x.2) (st := fun g x => EO (fun yp0 yp1 => g (yp0,yp1)) x.1 x.2) Tryz.func24 rfl (by kernel_rfl) (fun _ => rfl) (fun _ => rfl) fun g hg => Ea (ct := (.q (.j (.st false ⟨[],[(0,[none,some (.d false Jb),some (.d false Jb),some (.d false Jb),some (.d false (.sl VY)),none,none,none])],[]⟩) (.j (.bl [15]) .d .d) (.s (.j (.bl [35]) .d .d) (.s (.j (.bl [56]) .d .d) (.q (.j (.st false ⟨[(5,false,[.o 41 (.tr 1)])],[],[]⟩) (.q (.b (.l ⟨[(5,false,[.o 41 (.tr 1)]),(66,false,AO)],[],[]⟩ .d))) .d))))))) DW (AH hg (AH k55 BC)) Tryz.func24 (by kernel_rfl) fun x => by kernel_rfl
theorem T69 : Ty Tryz.prog 69 true 14 := ⟨by kernel_rfl,by kernel_rfl⟩
def BR (fRec : Tr38 → Int → Option (List Int)) (p0 : Tr38) (p1 : Int) : (List Int × Int) → Option ((List Int × Int) ⊕ (List Int))
  | (x4,x5) => (if x5 < (p0.un.2.2.2.length : Int) then (ix p0.un.2.2.2 x5).bind fun x6 => (fRec x6 p1).bind fun x7 => (HU x4 x7).bind fun x8 => some (.inl (x8,w64 (x5 + 1))) else some (.inr x4))
def Cq (fRec : Tr38 → Int → Option (List Int)) (p0 : Tr38) (p1 : Int) : Option (List Int) := (if (decide (p0.un.1 = 3) && decide (p0.un.2.1 = p1)) = true then (HU ([] : List Int) ([p0.un.2.2.1] : List Int)).bind fun x2 => some x2 else some ([])).bind fun x1 => (Aj (BR fRec p0 p1) (x1,0)).bind fun x3 => some x3
def Cn : Nat → Tr38 → Int → Option (List Int)
  | 0 => fun _ _ => none
  | n + 1 => Cq (Cn n)
def G7 (p0 : Tr38) (p1 : Int) : Option (List Int) := GX fun n => Cn n p0 p1
def HZ (fRec : Tr38 → Int → Option (List Int)) (p0 : Tr38) (p1 : Int) : (List Int × Int) → Option ((List Int × Int) ⊕ (List Int))
  | (x4,x5) => (if x5 < (p0.un.2.2.2.length : Int) then (ix p0.un.2.2.2 x5).bind fun x6 => (fRec (f38 x6) p1).bind fun x7 => (HU x4 x7).bind fun x8 => some (.inl (x8,w64 (x5 + 1))) else some (.inr x4))
theorem Ok : @HZ = @BR := by
 unfold HZ BR
 simp only [Tr38.re_eq]
def Kh (fRec : Tr38 → Int → Option (List Int)) (p0 : Tr38) (p1 : Int) : Option (List Int) := (if (decide (p0.un.1 = 3) && decide (p0.un.2.1 = p1)) = true then (HU ([] : List Int) ([p0.un.2.2.1] : List Int)).bind fun x2 => some x2 else some ([])).bind fun x1 => (Aj (HZ fRec p0 p1) (x1,0)).bind fun x3 => some x3
theorem Oh : @Kh = @Cq := by
 unfold Kh Cq
 simp only [Ok]
theorem Aae : KO (AaN fun x => G7 x.1 x.2) 113 := R8 (E := te) (xs := Y7) (ys := fX) (bs := []) (io := false) (nn := fun n x => Cn n x.1 x.2) (st := fun g x => Cq (fun yp0 yp1 => g (yp0,yp1)) x.1 x.2) Tryz.func113 rfl (by kernel_rfl) (fun _ => rfl) (fun _ => rfl) fun g hg => Ea (ct := (.q (.q (.j (.st false ⟨[(5,false,VL)],[],[]⟩) (.j (.bl [16]) .d .d) (.j (.st false ⟨[(5,false,VL)],[],[]⟩) (.q (.b (.l ⟨[(5,false,VL),(25,false,AO)],[],[]⟩ .d))) .d))))) DW (AH hg BC) Tryz.func113 (by kernel_rfl) fun x => by rw [← Oh]; kernel_rfl
def I3 (p0 : Int) : Option Int := (if 4294967296 ≤ p0 then some (Mm .u64 p0 32,32) else some (p0,0)).bind fun (x1,x2) => (if 65536 ≤ x1 then some (Mm .u64 x1 16,w64 (x2 + 16)) else some (x1,x2)).bind fun (x3,x4) => (if 256 ≤ x3 then some (Mm .u64 x3 8,w64 (x4 + 8)) else some (x3,x4)).bind fun (x5,x6) => (ix ([0,1,2,2,3,3,3,3,4,4,4,4,4,4,4,4,5,5,5,5,5,5,5,5,5,5,5,5,5,5,5,5,6,6,6,6,6,6,6,6,6,6,6,6,6,6,6,6,6,6,6,6,6,6,6,6,6,6,6,6,6,6,6,6,7,7,7,7,7,7,7,7,7,7,7,7,7,7,7,7,7,7,7,7,7,7,7,7,7,7,7,7,7,7,7,7,7,7,7,7,7,7,7,7,7,7,7,7,7,7,7,7,7,7,7,7,7,7,7,7,7,7,7,7,7,7,7,7,8,8,8,8,8,8,8,8,8,8,8,8,8,8,8,8,8,8,8,8,8,8,8,8,8,8,8,8,8,8,8,8,8,8,8,8,8,8,8,8,8,8,8,8,8,8,8,8,8,8,8,8,8,8,8,8,8,8,8,8,8,8,8,8,8,8,8,8,8,8,8,8,8,8,8,8,8,8,8,8,8,8,8,8,8,8,8,8,8,8,8,8,8,8,8,8,8,8,8,8,8,8,8,8,8,8,8,8,8,8,8,8,8,8,8,8,8,8,8,8,8,8,8,8,8,8,8,8] : lb_) (IntKind.u8.wrap x5)).bind fun x7 => some (w64 (x6 + (w64 (x7.toNat : Int))))
abbrev Abv : Cn_ := ⟨[(.b false,[.d true (.int .u64)])],[JQ],[],false,fun x => I3 x,none⟩
theorem Aap : KO (Abv) 103 := Ea (ct := (.q (.j (.st false ⟨[(0,false,[.d false (.int .u64)]),(2,false,AO)],[],[]⟩) .d (.j (.st false ⟨[(0,false,[.d false (.int .u64)]),(2,false,AO)],[],[]⟩) .d (.j (.st false ⟨[(0,false,[.d false (.int .u64)]),(2,false,AO)],[],[]⟩) .d .d))))) DW BC Tryz.func103 (by kernel_rfl) fun x => by kernel_rfl
def GW (p0 : Int) : Option Int := (I3 p0).bind fun x1 => some x1
abbrev K71 : Cn_ := ⟨[(.b false,[.d true (.int .u64)])],[JQ],[],false,fun x => GW x,none⟩
theorem z8 : KO (K71) 71 := Ea (ct := .d) DW (AH Aap BC) Tryz.func71 (by kernel_rfl) fun x => by kernel_rfl
def F4 (p0 : Int) : Bool := decide (p0 ≠ p0)
abbrev K77 : Cn_ := ⟨[DJ],[KP],[],false,fun x => some (F4 x),some ⟨fun x => F4 x,fun _ => rfl⟩⟩
theorem k77 : KO (K77) 77 := Ea (ct := .d) DW BC Tryz.func77 (by kernel_rfl) fun x => by kernel_rfl
def DS (p0 : Int) : Option Int := (GW (IntKind.u64.wrap p0)).bind fun x1 => (lM (JT .u64 1 x1) x1).bind fun x2 => some x2
abbrev AaX : Cn_ := ⟨[DJ],[(.b false,[.d false (.int .u64)])],[],false,fun x => DS x,none⟩
theorem yH : KO (AaX) 127 := Ea (ct := .d) DW (AH z8 BC) Tryz.func127 (by kernel_rfl) fun x => by kernel_rfl
def CC (p0 : Int) : Int × Int := (KV .u64 (KV .u64 (KV .u64 p0 (JT .u64 p0 13)) (Mm .u64 (KV .u64 p0 (JT .u64 p0 13)) 7)) (JT .u64 (KV .u64 (KV .u64 p0 (JT .u64 p0 13)) (Mm .u64 (KV .u64 p0 (JT .u64 p0 13)) 7)) 17),KV .u64 (KV .u64 (KV .u64 p0 (JT .u64 p0 13)) (Mm .u64 (KV .u64 p0 (JT .u64 p0 13)) 7)) (JT .u64 (KV .u64 (KV .u64 p0 (JT .u64 p0 13)) (Mm .u64 (KV .u64 p0 (JT .u64 p0 13)) 7)) 17))
abbrev Abs : Cn_ := ⟨[(.p,[])],[(.b false,[.d false (.int .u64)])],[(true,[.d false (.int .u64)])],false,fun x => some (CC x),some ⟨fun x => CC x,fun _ => rfl⟩⟩
theorem tY : KO (Abs) 128 := Ea (ct := .d) DW BC Tryz.func128 (by kernel_rfl) fun x => by kernel_rfl
def Cm (p0 : List Int) : Option (List Int) := Wp p0
theorem Mn (Y : Nat → Prop) (X : List Nat) (w0 : World) (v1 : Value) (p0 : List Int) (r : List Int) (H : Cm p0 = some r) (hL : Stw ⟨Y,X,w0⟩ [] [row v1 3 ri p0] w0) :
    ca_ 57 #[v1] w0 fun e w' => ∃ x : Unit,e = .returned (.tuple #[]) ∧ Stw ⟨Y,X,w0⟩ [] [row v1 3 ri r] w' := p7 Y X w0 v1 p0 r H hL
abbrev K57 : Cn_ := ⟨Aar,Aa3,[],true,fun x => Cm x,none⟩
theorem k57 : KO K57 57 := KO.ofL ⟨fun args w => Bf Tryz.func57 rfl (by decide) args w⟩ rfl (fun _ => rfl) (fun _ => rfl) (fun _ => rfl) (fun _ => rfl) (fun _ => rfl) fun Y X w0 x r g H hg W hk => (Mn Y X w0 g.1 x r H W).mono fun e w' ⟨x,he,W⟩ => ⟨(g.1,()),he,W,fun _ => rfl⟩
def BZ (p0 : List Int) : Option (List Int) := MX p0
theorem Kx (Y : Nat → Prop) (X : List Nat) (w0 : World) (v1 : Value) (p0 : List Int) (r : List Int) (H : BZ p0 = some r) (hL : Stw ⟨Y,X,w0⟩ [] [row v1 3 ri p0] w0) :
    ca_ 58 #[v1] w0 fun e w' => ∃ x : Value,e = .returned (x) ∧ Stw ⟨Y,X,w0⟩ [] [row (x) 3 ri r] w' := aB Y X w0 v1 p0 r H hL
abbrev K58 : Cn_ := ⟨Abb,AaP,[],false,fun x => BZ x,none⟩
theorem k58 : KO K58 58 := KO.ofL ⟨fun args w => Bf Tryz.func58 rfl (by decide) args w⟩ rfl (fun _ => rfl) (fun _ => rfl) (fun _ => rfl) (fun _ => rfl) (fun _ => rfl) fun Y X w0 x r g H hg W hk => (Kx Y X w0 g.1 x r H W).mono fun e w' ⟨x,he,W⟩ => ⟨(x,()),he,W,fun h => nomatch h⟩
def FG (p0 : Tr38) (p1 : Int) : Option (List Int) := (G7 p0 p1).bind fun x1 => (Cm x1).bind fun x2 => (BZ x2).bind fun x3 => some x3
def PB (p0 : Tr38) (p1 : Int) : Option (List Int) := (G7 (f38 p0) p1).bind fun x1 => (Cm x1).bind fun x2 => (BZ x2).bind fun x3 => some x3
theorem Uj : @PB = @FG := by
 unfold PB FG
 simp only [Tr38.re_eq]
abbrev K85 : Cn_ := ⟨[N0,DJ],[WU],[],false,fun x => FG x.1 x.2,none⟩
theorem k85 : KO (K85) 85 := Ea (ct := .d) DW (AH Aae (AH k57 (AH k58 BC))) Tryz.func85 (by kernel_rfl) fun x => by rw [← Uj]; kernel_rfl
end
end Go.Proofs.YtkhiflmalgkjiaaGreat
