/- The functions of layer 31, Qd. Conditions: none. -/
import Derived.Test.YtkhiflmalgkjiaaGreatRows
import Derived.Test.YtkhiflmalgkjiaaGreateOT
import Derived.Test.YtkhiflmalgkjiaaGreateQT
import Derived.Test.YtkhiflmalgkjiaaGreateOD
import Derived.Test.YtkhiflmalgkjiaaGreateTR
import Derived.Test.YtkhiflmalgkjiaaGreateSH
import Derived.Test.YtkhiflmalgkjiaaGreateMS
import Derived.Test.YtkhiflmalgkjiaaGreateUN
import Derived.Test.YtkhiflmalgkjiaaGreateHZ
import Derived.Test.YtkhiflmalgkjiaaGreateOC
import Derived.Test.YtkhiflmalgkjiaaGreateVC
import Derived.Test.YtkhiflmalgkjiaaGreateOM
set_option linter.unusedVariables false
set_option linter.unusedSimpArgs false
open Go Go.RowKit
namespace Go.Proofs.YtkhiflmalgkjiaaGreat
noncomputable section
set_option maxRecDepth 20000
set_option maxHeartbeats 1600000
abbrev ri : Rp Int := Rp.int .i64
abbrev ca_ := Calls Tryz.prog
abbrev pp (b : Nat) : Value := .pointer (some ⟨b,0,none⟩)
abbrev sy (Y : Nat → Prop) (w0 : World) := Stw ⟨Y,[],w0⟩
abbrev lb_ := List UInt8
theorem nl {α : Type _} {l : List α} : List.Sublist [] l := List.nil_sublist _
theorem sr {α : Type _} {l : List α} : List.Sublist l l := List.Sublist.refl _
theorem sc {α : Type _} {a : α} {l m : List α} (h : List.Sublist l m) : List.Sublist (a :: l) (a :: m) := List.Sublist.cons_cons _ h
theorem u3_ : type_of% Tryz.underlying3 := Tryz.underlying3
theorem tR : type_of% Tryz.underlying24 := Tryz.underlying24
theorem QK : type_of% Tryz.underlying27 := Tryz.underlying27
theorem AaD : type_of% Tryz.underlying29 := Tryz.underlying29
theorem AaF : type_of% Tryz.underlying38 := Tryz.underlying38
theorem kB : type_of% Tryz.underlying41 := Tryz.underlying41
theorem sS : type_of% Tryz.underlying56 := Tryz.underlying56
theorem Mu : type_of% Tryz.underlying60 := Tryz.underlying60
theorem AaL : type_of% Tryz.underlying69 := Tryz.underlying69
theorem yG : type_of% Tryz.underlying95 := Tryz.underlying95
theorem sY : type_of% Tryz.underlying145 := Tryz.underlying145
theorem sU : type_of% Tryz.underlying148 := Tryz.underlying148
inductive Tr24 : Type where
  | mk : Int → Int → Int → (List Tr24) → Tr24
def Tr24.un : Tr24 → Int × Int × Int × List Tr24
  | .mk a0 a1 a2 a3 => (a0,a1,a2,a3)
abbrev Tr24.of (p : Int × Int × Int × List Tr24) : Tr24 := .mk p.1 p.2.1 p.2.2.1 p.2.2.2
def Tr24.cnt : Tr24 → Nat
  | .mk _ _ _ a3 => 1 + ((a3.map Tr24.cnt).sum)
inductive Tr27 : Type where
  | mk : Int → Tr24 → Int → Int → (List Tr27) → Tr27
def Tr27.un : Tr27 → Int × Tr24 × Int × Int × List Tr27
  | .mk a0 a1 a2 a3 a4 => (a0,a1,a2,a3,a4)
abbrev Tr27.of (p : Int × Tr24 × Int × Int × List Tr27) : Tr27 := .mk p.1 p.2.1 p.2.2.1 p.2.2.2.1 p.2.2.2.2
def Tr27.cnt : Tr27 → Nat
  | .mk _ a1 _ _ a4 => 1 + (a1.cnt + (a4.map Tr27.cnt).sum)
abbrev r6 (r : Rp Tr24) : Rp (Int × Int × Int × List Tr24) := (Rp.pair ri (Rp.pair ri (Rp.pair ri (Rp.slice r))))
theorem Z4 : Kt r6 := (Kt.pair (Kt.const _) (Kt.pair (Kt.const _) (Kt.pair (Kt.const _) Kt.hole)))
abbrev Ud : Rp Tr24 := Rp.knot r6 Tr24.un Z4
theorem Aad {w : World} {A : Nat → Prop} {cs : List Value} {a : Tr24} : Ud.rep w A cs a ↔ (r6 Ud).rep w A cs a.un := Gy Z4
abbrev qF (r : Rp Tr27) : Rp (Int × Tr24 × Int × Int × List Tr27) := (Rp.pair ri (Rp.pair Ud (Rp.pair ri (Rp.pair ri (Rp.slice r)))))
theorem gR : Kt qF := (Kt.pair (Kt.const _) (Kt.pair (Kt.const _) (Kt.pair (Kt.const _) (Kt.pair (Kt.const _) Kt.hole))))
abbrev Xw : Rp Tr27 := Rp.knot qF Tr27.un gR
theorem yY {w : World} {A : Nat → Prop} {cs : List Value} {a : Tr27} : Xw.rep w A cs a ↔ (qF Xw).rep w A cs a.un := Gy gR
inductive Tr38 : Type where
  | mk : Int → Int → Int → (List Tr38) → Tr38
def Tr38.un : Tr38 → Int × Int × Int × List Tr38
  | .mk a0 a1 a2 a3 => (a0,a1,a2,a3)
abbrev Tr38.of (p : Int × Int × Int × List Tr38) : Tr38 := .mk p.1 p.2.1 p.2.2.1 p.2.2.2
def Tr38.cnt : Tr38 → Nat
  | .mk _ _ _ a3 => 1 + ((a3.map Tr38.cnt).sum)
inductive Tr41 : Type where
  | mk : Int → Tr38 → Int → Int → (List Tr41) → Tr41
def Tr41.un : Tr41 → Int × Tr38 × Int × Int × List Tr41
  | .mk a0 a1 a2 a3 a4 => (a0,a1,a2,a3,a4)
abbrev Tr41.of (p : Int × Tr38 × Int × Int × List Tr41) : Tr41 := .mk p.1 p.2.1 p.2.2.1 p.2.2.2.1 p.2.2.2.2
abbrev f24 (x : Tr24) : Tr24 := Tr24.of (x.un.1,x.un.2.1,x.un.2.2.1,x.un.2.2.2)
abbrev f38 (x : Tr38) : Tr38 := Tr38.of (x.un.1,x.un.2.1,x.un.2.2.1,x.un.2.2.2)
def Tr41.cnt : Tr41 → Nat
  | .mk _ a1 _ _ a4 => 1 + (a1.cnt + (a4.map Tr41.cnt).sum)
abbrev rL (r : Rp Tr38) : Rp (Int × Int × Int × List Tr38) := (Rp.pair ri (Rp.pair ri (Rp.pair ri (Rp.slice r))))
theorem eH : Kt rL := (Kt.pair (Kt.const _) (Kt.pair (Kt.const _) (Kt.pair (Kt.const _) Kt.hole)))
abbrev Lv : Rp Tr38 := Rp.knot rL Tr38.un eH
theorem AaB {w : World} {A : Nat → Prop} {cs : List Value} {a : Tr38} : Lv.rep w A cs a ↔ (rL Lv).rep w A cs a.un := Gy eH
abbrev nQ (r : Rp Tr41) : Rp (Int × Tr38 × Int × Int × List Tr41) := (Rp.pair ri (Rp.pair Lv (Rp.pair ri (Rp.pair ri (Rp.slice r)))))
theorem jM : Kt nQ := (Kt.pair (Kt.const _) (Kt.pair (Kt.const _) (Kt.pair (Kt.const _) (Kt.pair (Kt.const _) Kt.hole))))
abbrev LD : Rp Tr41 := Rp.knot nQ Tr41.un jM
theorem AaW {w : World} {A : Nat → Prop} {cs : List Value} {a : Tr41} : LD.rep w A cs a ↔ (nQ LD).rep w A cs a.un := Gy jM
abbrev yD : Rp (Int × Int × Int × Int) := (Rp.pair ri (Rp.pair ri (Rp.pair ri ri)))
abbrev JQ : Rp (Int × (Int × Int × Int × Int)) := (Rp.pair ri yD)
abbrev MH : Rp (Int × (Int × Int × Int × Int) × (List (Int × (Int × Int × Int × Int)))) := (Rp.pair ri (Rp.pair yD (Rp.slice JQ)))
theorem Tr38.re_eq (x : Tr38) : f38 x = x := by cases x; rfl
theorem Tr41.re_eq (x : Tr41) : Tr41.of (x.un.1,x.un.2.1,x.un.2.2.1,x.un.2.2.2.1,x.un.2.2.2.2) = x := by cases x; rfl
theorem Tr24.re_eq (x : Tr24) : f24 x = x := by cases x; rfl
theorem Tr27.re_eq (x : Tr27) : Tr27.of (x.un.1,x.un.2.1,x.un.2.2.1,x.un.2.2.2.1,x.un.2.2.2.2) = x := by cases x; rfl
def ttk : Tt := ([(24,[(0,false,1),(1,false,1),(2,false,1),(3,false,1)]),(27,[(0,false,1),(1,true,4),(5,false,1),(6,false,1),(7,false,1)]),(38,[(0,false,1),(1,false,1),(2,false,1),(3,false,1)]),(41,[(0,false,1),(1,true,4),(5,false,1),(6,false,1),(7,false,1)]),(56,[(0,false,1),(1,true,4),(5,false,1)]),(60,[(0,false,1),(1,true,4)]),(69,[(0,true,8),(8,false,1),(9,true,5)]),(95,[(0,false,1)]),(145,[(0,false,1),(1,false,1),(2,true,4)]),(148,[(0,false,1)])],[(3,false,1),(22,false,1),(24,true,4),(25,false,1),(27,true,8),(29,true,4),(36,false,1),(38,true,4),(39,false,1),(41,true,8),(53,false,1),(56,true,6),(60,true,5),(62,false,1),(69,true,14),(95,true,1),(145,true,6),(148,true,1),(160,false,1)])
theorem tk : TtOk Tryz.prog ttk := ⟨by kernel_rfl,by kernel_rfl⟩
abbrev X4 : U := (.pr (.int .i64) (.pr (.int .i64) (.pr (.int .i64) (.pr (.int .i64) (.int .i64)))))
abbrev I3 : U := (.int .i64)
abbrev vD : U := (.pr I3 (.pr I3 (.pr I3 I3)))
abbrev rQ : U := (.pr I3 (.pr vD (.sl X4)))
abbrev VQ : U := (.tr 0)
abbrev ux5 : U := (.pr (.tr 1) (.pr I3 (.pr (.sl I3) (.pr (.sl I3) (.pr (.sl I3) (.pr (.sl I3) (.sl I3)))))))
abbrev DT : GK × List CK := (.b false,[.d true I3])
abbrev JR : GK × List CK := (.b false,[.d false I3])
abbrev KS : GK × List CK := (.b false,[.d false .bool])
abbrev QC : GK × List CK := (.b false,[.o 60 X4])
abbrev OE : GK × List CK := (.b false,[.d true (.fn 45)])
abbrev PE : GK × List CK := (.b false,[.d true (.fn 43)])
abbrev P7 : GK × List CK := (.b false,[.d true (.sl X4)])
abbrev WB : GK × List CK := (.b false,[.o 3 I3])
abbrev Ol : GK × List CK := (.b true,[.d true VQ])
abbrev P3 : GK × List CK := (.b true,[.d true X4])
abbrev T6 : GK × List CK := (.b true,[.d true (.tr 3)])
abbrev Vn : GK × List CK := (.b false,[.d true (.sl VQ)])
abbrev WH : GK × List CK := (.b true,[.d true (.tr 2)])
abbrev oD : GK × List CK := (.b false,[.d true (.sl I3)])
abbrev Yb : GK × List CK := (.b true,[.d false (.tr 1)])
abbrev Yh : GK × List CK := (.b true,[.d true (.tr 1)])
abbrev aA : GK × List CK := (.b false,[.d true (.sl rQ)])
abbrev Ya : GK × List CK := (.b true,[.d true vD])
abbrev AG : List CK := [.d false I3]
abbrev Ea : List CK := [.d false .bool]
abbrev Dy : List CK := [.o 60 X4]
abbrev Vp : List CK := [.o 3 I3]
abbrev Sq : Type := Int × (Int × Int × Int × Int)
theorem T3 : Ty Tryz.prog 3 false 1 := ⟨by kernel_rfl,by kernel_rfl⟩
theorem ZR : Ty Tryz.prog 29 true 4 := ⟨by kernel_rfl,by kernel_rfl⟩
theorem QX : Ar Tryz.prog 29 4 3 1 := ⟨AaD,by kernel_rfl⟩
theorem tP (d : Nat) (x0 x1 x2 x3 y0 y1 y2 y3 : Int) (w : World) : (Op.equalIn (d + 2) 29 (.agg #[Jint x0,Jint x1,Jint x2,Jint x3]) (.agg #[Jint y0,Jint y1,Jint y2,Jint y3])).run Tryz.prog w = .ok (decide (x0 = y0 ∧ x1 = y1 ∧ x2 = y2 ∧ x3 = y3)) w :=
  (qS (d := d) (k := .i64) QX u3_ T3 [x0,x1,x2,x3] [y0,y1,y2,y3] rfl rfl w).trans (by congr 1; exact decide_eq_decide.2 (by simp))
theorem AaA (dd : Nat) (x0 : Int) (x1 : Int) (x2 : Int) (x3 : Int) (x4 : Int) (y0 : Int) (y1 : Int) (y2 : Int) (y3 : Int) (y4 : Int) (w : World) : (Op.equalIn (dd + 3) 60 (.agg #[Jint x0,Jint x1,Jint x2,Jint x3,Jint x4]) (.agg #[Jint y0,Jint y1,Jint y2,Jint y3,Jint y4])).run Tryz.prog w = .ok (decide (x0 = y0 ∧ x1 = y1 ∧ x2 = y2 ∧ x3 = y3 ∧ x4 = y4)) w :=
  aX (d := dd + 2) (rs := [decide (x0 = y0),decide (x1 = y1 ∧ x2 = y2 ∧ x3 = y3 ∧ x4 = y4)]) Mu (by kernel_rfl) ⟨rfl,lW (d := dd + 1) rfl rfl u3_ T3 rfl rfl,rfl,iX (d := dd + 2) (sz := 4) (xs' := [Jint x1,Jint x2,Jint x3,Jint x4]) (ys' := [Jint y1,Jint y2,Jint y3,Jint y4]) rfl rfl ZR rfl rfl (fun w => tP (dd + 0) x1 x2 x3 x4 y1 y2 y3 y4 w),trivial⟩ (by rw [Bool.eq_iff_iff]; simp [and_assoc]) w
theorem y8 : Tryz.prog.eqGuardType Tryz.prog.depth 60 = false := by kernel_rfl
theorem xR (x0 : Int) (x1 : Int) (x2 : Int) (x3 : Int) (x4 : Int) (y0 : Int) (y1 : Int) (y2 : Int) (y3 : Int) (y4 : Int) (w : World) : (Op.equalIn 10000 60 (.agg #[Jint x0,Jint x1,Jint x2,Jint x3,Jint x4]) (.agg #[Jint y0,Jint y1,Jint y2,Jint y3,Jint y4])).run Tryz.prog w = .ok (decide (x0 = y0 ∧ x1 = y1 ∧ x2 = y2 ∧ x3 = y3 ∧ x4 = y4)) w := AaA 9997 x0 x1 x2 x3 x4 y0 y1 y2 y3 y4 w
theorem G29 : Tryz.prog.eqGuardType Tryz.prog.depth 29 = false := by kernel_rfl
theorem Q29 (x0 : Int) (x1 : Int) (x2 : Int) (x3 : Int) (y0 : Int) (y1 : Int) (y2 : Int) (y3 : Int) (w : World) : (Op.equalIn 10000 29 (.agg #[Jint x0,Jint x1,Jint x2,Jint x3]) (.agg #[Jint y0,Jint y1,Jint y2,Jint y3])).run Tryz.prog w = .ok (decide (x0 = y0 ∧ x1 = y1 ∧ x2 = y2 ∧ x3 = y3)) w := tP 9998 x0 x1 x2 x3 y0 y1 y2 y3 w
def teC : Nat → Type | 0 => Tr38 | 1 => Tr41 | 2 => Tr24 | 3 => Tr27 | _ => Unit
def teR : ∀ i,Rp (teC i) | 0 => Lv | 1 => LD | 2 => Ud | 3 => Xw | _ + 4 => Rp.unit
def teU : Nat → U | 0 => (.pr (.int .i64) (.pr (.int .i64) (.pr (.int .i64) (.sl (.tr 0))))) | 1 => (.pr (.int .i64) (.pr (.tr 0) (.pr (.int .i64) (.pr (.int .i64) (.sl (.tr 1)))))) | 2 => (.pr (.int .i64) (.pr (.int .i64) (.pr (.int .i64) (.sl (.tr 2))))) | 3 => (.pr (.int .i64) (.pr (.tr 2) (.pr (.int .i64) (.pr (.int .i64) (.sl (.tr 3)))))) | _ => .unit
def te : TE := ⟨teC,teR,teU,fun i => match i with | 0 => Tr38.un | 1 => Tr41.un | 2 => Tr24.un | 3 => Tr27.un | _ + 4 => fun x => x,fun i => match i with | 0 => Tr38.of | 1 => Tr41.of | 2 => Tr24.of | 3 => Tr27.of | _ + 4 => fun x => x,
  fun i x => match i with | 0 => rfl | 1 => rfl | 2 => rfl | 3 => rfl | _ + 4 => rfl,fun i w A cs a => match i with | 0 => Gy eH | 1 => Gy jM | 2 => Gy Z4 | 3 => Gy gR | _ + 4 => Iff.rfl,fun _ _ => True,fun _ _ => trivial⟩
abbrev Cn_ := Con te Tryz.prog
def sA : Tb := ⟨ttk,[(22,24,(.tr 2),48),(25,27,(.tr 3),96),(32,56,(.pr (.int .i64) (.pr (.pr (.int .i64) (.pr (.int .i64) (.pr (.int .i64) (.int .i64)))) (.sl (.pr (.int .i64) (.pr (.int .i64) (.pr (.int .i64) (.pr (.int .i64) (.int .i64)))))))),64),(36,38,(.tr 0),48),(39,41,(.tr 1),96),(53,60,(.pr (.int .i64) (.pr (.int .i64) (.pr (.int .i64) (.pr (.int .i64) (.int .i64))))),40),(62,3,(.int .i64),8)],[(2,[.int .i64 0]),(3,[.int .i64 0]),(4,[.bool (.lit false)]),(5,[.int .u8 0]),(9,[.str []]),(22,[.nil]),(24,[.int .i64 0,.int .i64 0,.int .i64 0,.nil]),(25,[.nil]),(27,[.int .i64 0,.int .i64 0,.int .i64 0,.int .i64 0,.nil,.int .i64 0,.int .i64 0,.nil]),(29,[.int .i64 0,.int .i64 0,.int .i64 0,.int .i64 0]),(32,[.nil]),(33,[.int .i64 0]),(36,[.nil]),(38,[.int .i64 0,.int .i64 0,.int .i64 0,.nil]),(39,[.nil]),(41,[.int .i64 0,.int .i64 0,.int .i64 0,.int .i64 0,.nil,.int .i64 0,.int .i64 0,.nil]),(53,[.nil]),(56,[.int .i64 0,.int .i64 0,.int .i64 0,.int .i64 0,.int .i64 0,.nil]),(60,[.int .i64 0,.int .i64 0,.int .i64 0,.int .i64 0,.int .i64 0]),(62,[.nil]),(67,[.nil,.nil,.nil,.nil,.nil]),(69,[.int .i64 0,.int .i64 0,.int .i64 0,.int .i64 0,.nil,.int .i64 0,.int .i64 0,.nil,.int .i64 0,.nil,.nil,.nil,.nil,.nil]),(95,[.int .i64 0]),(112,[.int .u64 0]),(133,[.int .i64 0]),(141,[.int .u32 0]),(143,[.int .u64 0]),(145,[.int .i64 0,.int .i64 0,.int .i64 0,.int .i64 0,.int .i64 0,.int .i64 0]),(148,[.int .i64 0]),(160,[.int .u64 0])],[(2,.i64),(3,.i64),(5,.u8),(33,.i64),(112,.u64),(133,.i64),(141,.u32),(143,.u64),(160,.u64)],[(9,())],[4],[(24,[.int .i64 0,.int .i64 0,.int .i64 0,.nil],[(0,1),(1,1),(2,1),(3,1)]),(27,[.int .i64 0,.int .i64 0,.int .i64 0,.int .i64 0,.nil,.int .i64 0,.int .i64 0,.nil],[(0,1),(1,4),(5,1),(6,1),(7,1)]),(38,[.int .i64 0,.int .i64 0,.int .i64 0,.nil],[(0,1),(1,1),(2,1),(3,1)]),(41,[.int .i64 0,.int .i64 0,.int .i64 0,.int .i64 0,.nil,.int .i64 0,.int .i64 0,.nil],[(0,1),(1,4),(5,1),(6,1),(7,1)]),(56,[.int .i64 0,.int .i64 0,.int .i64 0,.int .i64 0,.int .i64 0,.nil],[(0,1),(1,4),(5,1)]),(60,[.int .i64 0,.int .i64 0,.int .i64 0,.int .i64 0,.int .i64 0],[(0,1),(1,4)]),(69,[.int .i64 0,.int .i64 0,.int .i64 0,.int .i64 0,.nil,.int .i64 0,.int .i64 0,.nil,.int .i64 0,.nil,.nil,.nil,.nil,.nil],[(0,8),(8,1),(9,5)]),(95,[.int .i64 0],[(0,1)]),(145,[.int .i64 0,.int .i64 0,.int .i64 0,.int .i64 0,.int .i64 0,.int .i64 0],[(0,1),(1,1),(2,4)]),(148,[.int .i64 0],[(0,1)])],[(29,4,3,1),(67,5,62,1)],[(29,[.int .i64 0,.int .i64 0,.int .i64 0,.int .i64 0]),(60,[.int .i64 0,.int .i64 0,.int .i64 0,.int .i64 0,.int .i64 0])]⟩
theorem MOx : Tryz.prog.follows .mixedOrders = true := by kernel_rfl
theorem D6 : TbOk te Tryz.prog sA := ⟨MOx,⟨by kernel_rfl,by kernel_rfl⟩,by kernel_rfl,by kernel_rfl,by kernel_rfl,by kernel_rfl,by kernel_rfl,⟨⟨G29,fun x0 y0 x1 y1 x2 y2 x3 y3 w => Q29 x0 x1 x2 x3 y0 y1 y2 y3 w⟩,⟨⟨y8,fun x0 y0 x1 y1 x2 y2 x3 y3 x4 y4 w => xR x0 x1 x2 x3 x4 y0 y1 y2 y3 y4 w⟩,trivial⟩⟩,⟨⟨fun _ _ _ => ⟨⟨.agg #[Jint 0,Jint 0,Jint 0,.slice none 0 0],by kernel_rfl,rfl⟩,⟨_,tR,fun w => by kernel_rfl⟩⟩,rfl⟩,⟨⟨fun _ _ _ => ⟨⟨.agg #[Jint 0,Jint 0,Jint 0,Jint 0,.slice none 0 0,Jint 0,Jint 0,.slice none 0 0],by kernel_rfl,rfl⟩,⟨_,QK,fun w => by kernel_rfl⟩⟩,rfl⟩,⟨⟨fun _ _ _ => ⟨⟨.agg #[Jint 0,Jint 0,Jint 0,.slice none 0 0],by kernel_rfl,rfl⟩,⟨_,AaF,fun w => by kernel_rfl⟩⟩,rfl⟩,⟨⟨fun _ _ _ => ⟨⟨.agg #[Jint 0,Jint 0,Jint 0,Jint 0,.slice none 0 0,Jint 0,Jint 0,.slice none 0 0],by kernel_rfl,rfl⟩,⟨_,kB,fun w => by kernel_rfl⟩⟩,rfl⟩,⟨⟨fun _ _ _ => ⟨⟨.agg #[Jint 0,Jint 0,Jint 0,Jint 0,Jint 0,.slice none 0 0],by kernel_rfl,rfl⟩,⟨_,sS,fun w => by kernel_rfl⟩⟩,rfl⟩,⟨⟨fun _ _ _ => ⟨⟨.agg #[Jint 0,Jint 0,Jint 0,Jint 0,Jint 0],by kernel_rfl,rfl⟩,⟨_,Mu,fun w => by kernel_rfl⟩⟩,rfl⟩,⟨⟨fun _ _ _ => ⟨⟨.agg #[Jint 0,Jint 0,Jint 0,Jint 0,.slice none 0 0,Jint 0,Jint 0,.slice none 0 0,Jint 0,.slice none 0 0,.slice none 0 0,.slice none 0 0,.slice none 0 0,.slice none 0 0],by kernel_rfl,rfl⟩,⟨_,AaL,fun w => by kernel_rfl⟩⟩,rfl⟩,⟨⟨fun _ _ _ => ⟨⟨.agg #[Jint 0],by kernel_rfl,rfl⟩,⟨_,yG,fun w => by kernel_rfl⟩⟩,rfl⟩,⟨⟨fun _ _ _ => ⟨⟨.agg #[Jint 0,Jint 0,Jint 0,Jint 0,Jint 0,Jint 0],by kernel_rfl,rfl⟩,⟨_,sY,fun w => by kernel_rfl⟩⟩,rfl⟩,⟨⟨fun _ _ _ => ⟨⟨.agg #[Jint 0],by kernel_rfl,rfl⟩,⟨_,sU,fun w => by kernel_rfl⟩⟩,rfl⟩,trivial⟩⟩⟩⟩⟩⟩⟩⟩⟩⟩,Vl.mem ⟨⟨Jint 0,by kernel_rfl,fun _ _ _ => rfl,rfl⟩,⟨⟨Jint 0,by kernel_rfl,fun _ _ _ => rfl,rfl⟩,⟨⟨.bool false,by kernel_rfl,fun _ _ _ => rfl,rfl⟩,⟨⟨.int .u8 0,by kernel_rfl,fun _ _ _ => rfl,rfl⟩,⟨⟨.string (bs ([] : lb_)),by kernel_rfl,fun _ _ _ => rfl,rfl⟩,⟨⟨.slice none 0 0,by kernel_rfl,fun _ _ _ => rfl,rfl⟩,⟨⟨.agg #[Jint 0,Jint 0,Jint 0,.slice none 0 0],by kernel_rfl,fun _ _ _ => rfl,rfl⟩,⟨⟨.slice none 0 0,by kernel_rfl,fun _ _ _ => rfl,rfl⟩,⟨⟨.agg #[Jint 0,Jint 0,Jint 0,Jint 0,.slice none 0 0,Jint 0,Jint 0,.slice none 0 0],by kernel_rfl,fun _ _ _ => rfl,rfl⟩,⟨⟨.agg #[Jint 0,Jint 0,Jint 0,Jint 0],by kernel_rfl,fun _ _ _ => rfl,rfl⟩,⟨⟨.slice none 0 0,by kernel_rfl,fun _ _ _ => rfl,rfl⟩,⟨⟨Jint 0,by kernel_rfl,fun _ _ _ => rfl,rfl⟩,⟨⟨.slice none 0 0,by kernel_rfl,fun _ _ _ => rfl,rfl⟩,⟨⟨.agg #[Jint 0,Jint 0,Jint 0,.slice none 0 0],by kernel_rfl,fun _ _ _ => rfl,rfl⟩,⟨⟨.slice none 0 0,by kernel_rfl,fun _ _ _ => rfl,rfl⟩,⟨⟨.agg #[Jint 0,Jint 0,Jint 0,Jint 0,.slice none 0 0,Jint 0,Jint 0,.slice none 0 0],by kernel_rfl,fun _ _ _ => rfl,rfl⟩,⟨⟨.slice none 0 0,by kernel_rfl,fun _ _ _ => rfl,rfl⟩,⟨⟨.agg #[Jint 0,Jint 0,Jint 0,Jint 0,Jint 0,.slice none 0 0],by kernel_rfl,fun _ _ _ => rfl,rfl⟩,⟨⟨.agg #[Jint 0,Jint 0,Jint 0,Jint 0,Jint 0],by kernel_rfl,fun _ _ _ => rfl,rfl⟩,⟨⟨.slice none 0 0,by kernel_rfl,fun _ _ _ => rfl,rfl⟩,⟨⟨.agg #[.slice none 0 0,.slice none 0 0,.slice none 0 0,.slice none 0 0,.slice none 0 0],by kernel_rfl,fun _ _ _ => rfl,rfl⟩,⟨⟨.agg #[Jint 0,Jint 0,Jint 0,Jint 0,.slice none 0 0,Jint 0,Jint 0,.slice none 0 0,Jint 0,.slice none 0 0,.slice none 0 0,.slice none 0 0,.slice none 0 0,.slice none 0 0],by kernel_rfl,fun _ _ _ => rfl,rfl⟩,⟨⟨.agg #[Jint 0],by kernel_rfl,fun _ _ _ => rfl,rfl⟩,⟨⟨.int .u64 0,by kernel_rfl,fun _ _ _ => rfl,rfl⟩,⟨⟨Jint 0,by kernel_rfl,fun _ _ _ => rfl,rfl⟩,⟨⟨.int .u32 0,by kernel_rfl,fun _ _ _ => rfl,rfl⟩,⟨⟨.int .u64 0,by kernel_rfl,fun _ _ _ => rfl,rfl⟩,⟨⟨.agg #[Jint 0,Jint 0,Jint 0,Jint 0,Jint 0,Jint 0],by kernel_rfl,fun _ _ _ => rfl,rfl⟩,⟨⟨.agg #[Jint 0],by kernel_rfl,fun _ _ _ => rfl,rfl⟩,⟨⟨.int .u64 0,by kernel_rfl,fun _ _ _ => rfl,rfl⟩,trivial⟩⟩⟩⟩⟩⟩⟩⟩⟩⟩⟩⟩⟩⟩⟩⟩⟩⟩⟩⟩⟩⟩⟩⟩⟩⟩⟩⟩⟩⟩⟩
def wY : Sh := [DT]
def uM : Sh := [JR]
def wI : Sh := [DT]
def uR : Sh := [JR]
def jT : Sh := [WH]
def qN : Sh := [KS]
abbrev K92 (g : TT te.c (Do jT []) → Option (TT te.c (I0 jT qN [] false))) : Cn_ := ⟨jT,qN,[],false,g,none⟩
def i5 : Sh := [WH]
def pX : Sh := [JR]
abbrev K52 (g : TT te.c (Do i5 []) → Option (TT te.c (I0 i5 pX [] false))) : Cn_ := ⟨i5,pX,[],false,g,none⟩
def lV : Sh := [WH]
def qQ : Sh := [JR]
abbrev K93 (g : TT te.c (Do lV []) → Option (TT te.c (I0 lV qQ [] false))) : Cn_ := ⟨lV,qQ,[],false,g,none⟩
def j5 : Sh := [WH,WH]
def rY : Sh := [KS]
abbrev K68 (g : TT te.c (Do j5 []) → Option (TT te.c (I0 j5 rY [] false))) : Cn_ := ⟨j5,rY,[],false,g,none⟩
def nP : Sh := [T6]
def uW : Sh := [KS]
abbrev K38 (g : TT te.c (Do nP []) → Option (TT te.c (I0 nP uW [] false))) : Cn_ := ⟨nP,uW,[],false,g,none⟩
def jS : Sh := [T6]
def pA : Sh := [JR]
abbrev K39 (g : TT te.c (Do jS []) → Option (TT te.c (I0 jS pA [] false))) : Cn_ := ⟨jS,pA,[],false,g,none⟩
def kO : Sh := [T6]
def o7 : Sh := [JR]
abbrev K22 (g : TT te.c (Do kO []) → Option (TT te.c (I0 kO o7 [] false))) : Cn_ := ⟨kO,o7,[],false,g,none⟩
def uX : Sh := [DT]
def u0 : Sh := [JR]
def iU : Sh := [T6]
def rP : Sh := [JR]
abbrev K40 (g : TT te.c (Do iU []) → Option (TT te.c (I0 iU rP [] false))) : Cn_ := ⟨iU,rP,[],false,g,none⟩
def lF : Sh := [WH,DT,DT]
def rV : Sh := [KS]
abbrev K78 (g : TT te.c (Do lF []) → Option (TT te.c (I0 lF rV [] false))) : Cn_ := ⟨lF,rV,[],false,g,none⟩
def jN : Sh := [T6,DT,DT]
def qB : Sh := [KS]
abbrev K51 (g : TT te.c (Do jN []) → Option (TT te.c (I0 jN qB [] false))) : Cn_ := ⟨jN,qB,[],false,g,none⟩
def Uw : Sh := [Ol,Ol]
def ZC : Sh := [KS]
abbrev uS (g : TT te.c (Do Uw []) → Option (TT te.c (I0 Uw ZC [] false))) : Cn_ := ⟨Uw,ZC,[],false,g,none⟩
def Zx : Sh := [(.p,[]),Ol,DT]
def dE : Sh := [KS]
abbrev Aaw (g : TT te.c (Do Zx [(true,AG)]) → Option (TT te.c (I0 Zx dE [(true,AG)] false))) : Cn_ := ⟨Zx,dE,[(true,AG)],false,g,none⟩
def l5 : Sh := [Ol]
def qK : Sh := [JR]
abbrev K81 (g : TT te.c (Do l5 []) → Option (TT te.c (I0 l5 qK [] false))) : Cn_ := ⟨l5,qK,[],false,g,none⟩
def i9 : Sh := [(.p,[]),Yh,DT]
def pQ : Sh := [KS]
abbrev K53 (g : TT te.c (Do i9 [(true,AG)]) → Option (TT te.c (I0 i9 pQ [(true,AG)] false))) : Cn_ := ⟨i9,pQ,[(true,AG)],false,g,none⟩
def kT : Sh := [Yh]
def rJ : Sh := [JR]
abbrev K54 (g : TT te.c (Do kT []) → Option (TT te.c (I0 kT rJ [] false))) : Cn_ := ⟨kT,rJ,[],false,g,none⟩
def wN : Sh := [(.b false,[.d true .bool])]
def sL : Sh := [(.b true,[.d false VQ])]
def ZY : Sh := [Ol,DT]
def kK : Sh := [(.b true,[.d false VQ])]
abbrev K55 (g : TT te.c (Do ZY []) → Option (TT te.c (I0 ZY kK [] false))) : Cn_ := ⟨ZY,kK,[],false,g,none⟩
def lE : Sh := [Yb,DT]
def oQ : Sh := [Yb]
abbrev K24 (g : TT te.c (Do lE []) → Option (TT te.c (I0 lE oQ [] false))) : Cn_ := ⟨lE,oQ,[],false,g,none⟩
def Zv : Sh := [Ol,DT]
def iE : Sh := [WB]
abbrev Aat (g : TT te.c (Do Zv []) → Option (TT te.c (I0 Zv iE [] false))) : Cn_ := ⟨Zv,iE,[],false,g,none⟩
def Aav : Sh := [WB]
def Aar : Sh := []
def Aal : Sh := [WB]
def AaY : Sh := [WB]
def kA : Sh := [Yh,DT]
def qL : Sh := [WB]
abbrev K56 (g : TT te.c (Do kA []) → Option (TT te.c (I0 kA qL [] false))) : Cn_ := ⟨kA,qL,[],false,g,none⟩
def Aay : Sh := [DT]
def Aaf : Sh := [JR]
def yM : Sh := [P3,DT,DT]
def AaR : Sh := [(.b true,[.d false X4])]
def tH : Sh := [Ya,DT]
def t6 : Sh := [JR]
def Kb : Sh := [(.b true,[.d true (.pr I3 X4)]),Ol]
def Qs : Sh := [KS]
abbrev aY (g : TT te.c (Do Kb []) → Option (TT te.c (I0 Kb Qs [] false))) : Cn_ := ⟨Kb,Qs,[],false,g,none⟩
def uF : Sh := [Ya,DT,DT]
def tA : Sh := [(.b true,[.d false vD])]
def wD : Sh := [DT,DT]
def tG : Sh := [JR]
def zE : Sh := [P3,P3]
def Aaq : Sh := [JR]
def lT : Sh := [QC,DT,DT,DT,OE]
def oF : Sh := []
abbrev K70 (g : TT te.c (Do lT []) → Option (TT te.c (I0 lT oF [] true))) : Cn_ := ⟨lT,oF,[],true,g,none⟩
def zV : Sh := [Yb,DT,DT,Ya]
def yQ : Sh := [QC]
def Aax : Sh := [P3,P3]
def Aa0 : Sh := [JR]
def UN : Sh := [QC,DT,DT,DT,PE]
def XH : Sh := []
abbrev vQ (g : TT te.c (Do UN []) → Option (TT te.c (I0 UN XH [] true))) : Cn_ := ⟨UN,XH,[],true,g,none⟩
def z7 : Sh := [QC]
def zX : Sh := [QC]
def oU : Sh := [(.b true,[.d false ux5]),DT,P3]
def vB : Sh := [(.b false,[.o 56 rQ])]
abbrev K29 (g : TT te.c (Do oU []) → Option (TT te.c (I0 oU vB [] false))) : Cn_ := ⟨oU,vB,[],false,g,none⟩
def kE : Sh := [WH]
def pH : Sh := [(.b true,[.d false VQ])]
abbrev K30 (g : TT te.c (Do kE []) → Option (TT te.c (I0 kE pH [] false))) : Cn_ := ⟨kE,pH,[],false,g,none⟩
def zL : Sh := [T6]
def ys9 : Sh := [Yb]
abbrev K9 (g : TT te.c (Do zL []) → Option (TT te.c (I0 zL ys9 [] false))) : Cn_ := ⟨zL,ys9,[],false,g,none⟩
def AaZ : Sh := [P3,P3]
def zH : Sh := [KS]
abbrev vM : Rp (Int × Int × Int × (Value × List Tr24)) := (Rp.pair ri (Rp.pair ri (Rp.pair ri (Rp.vsl Ud))))
abbrev yR (p : Int × Int × Int × (Value × List Tr24)) : Tr24 := (Tr24.of (p.1,p.2.1,p.2.2.1,p.2.2.2.2))
theorem bE : Ex Ud vM yR := (Ex.knot Z4 (of := Tr24.of) (fun _ => rfl) (fun x => by cases x; rfl) (Ex.pair Ex.rfl' (Ex.pair Ex.rfl' (Ex.pair Ex.rfl' Ex.sliceF))))
abbrev j3 : Rp (Int × (Int × Int × Int × (Value × List Tr24)) × Int × Int × (Value × List Tr27)) := (Rp.pair ri (Rp.pair vM (Rp.pair ri (Rp.pair ri (Rp.vsl Xw)))))
abbrev yP (p : Int × (Int × Int × Int × (Value × List Tr24)) × Int × Int × (Value × List Tr27)) : Tr27 := (Tr27.of (p.1,(Tr24.of (p.2.1.1,p.2.1.2.1,p.2.1.2.2.1,p.2.1.2.2.2.2)),p.2.2.1,p.2.2.2.1,p.2.2.2.2.2))
theorem jC : Ex Xw j3 yP := (Ex.knot gR (of := Tr27.of) (fun _ => rfl) (fun x => by cases x; rfl) (Ex.pair Ex.rfl' (Ex.pair (Ex.knot Z4 (of := Tr24.of) (fun _ => rfl) (fun x => by cases x; rfl) (Ex.pair Ex.rfl' (Ex.pair Ex.rfl' (Ex.pair Ex.rfl' Ex.sliceF)))) (Ex.pair Ex.rfl' (Ex.pair Ex.rfl' Ex.sliceF)))))
theorem T27 : Ty Tryz.prog 27 true 8 := ⟨by kernel_rfl,by kernel_rfl⟩
theorem T25 : Ty Tryz.prog 25 false 1 := ⟨by kernel_rfl,by kernel_rfl⟩
theorem T24 : Ty Tryz.prog 24 true 4 := ⟨by kernel_rfl,by kernel_rfl⟩
theorem MO : Tryz.prog.follows .mixedOrders = true := by kernel_rfl
def Mg (p0 : Int) : Int := (if p0 = 2 then 15 else (if (decide (p0 = 0) || (decide (p0 = 1) || decide (p0 = 3))) = true then 255 else 0))
noncomputable def b41 : Code := (Tryz.f41.body).getD .skip
def yU : Ct := (.q (.q (.s (.j (.bl [14]) .d .d) .d)))
abbrev K41 : Cn_ := ⟨wY,uM,[],false,fun x => some (Mg x),some ⟨fun x => Mg x,fun _ => rfl⟩⟩
theorem v41 (x : Int) : @Eq (Option Int) (dF te sA ([] : Hz te Tryz.prog) 15 b41 yU wY uM [] false [.tmp 2] x).den (some (Mg x)) := by simp only [Mg,apply_ite (some : Int → _)]; kernel_rfl
theorem k41 : KO (K41) 41 := dK D6 BG Tryz.func41 (by kernel_rfl) Tryz.ntmps41 rfl rfl rfl (by kernel_rfl) v41
def Cg (p0 : Int) : Int := (if (decide (p0 = 4) || decide (p0 = 5)) = true then 7 else (Mg p0))
noncomputable def b50 : Code := (Tryz.f50.body).getD .skip
def zC : Ct := (.q (.s (.j (.bl [8]) .d .d) .d))
abbrev K50 : Cn_ := ⟨wI,uR,[],false,fun x => some (Cg x),some ⟨fun x => Cg x,fun _ => rfl⟩⟩
theorem v50 (x : Int) : @Eq (Option Int) (dF te sA ([(41,K41)] : Hz te Tryz.prog) 11 b50 zC wI uR [] false [.tmp 2] x).den (some (Cg x)) := by simp only [Cg,apply_ite (some : Int → _)]; kernel_rfl
theorem k50 : KO (K50) 50 := dK D6 (AH k41 BG) Tryz.func50 (by kernel_rfl) Tryz.ntmps50 rfl rfl rfl (by kernel_rfl) v50
theorem Z0 (Y : Nat → Prop) (w0 : World)  (p0 : Int) (r : Int) (H : Cg p0 = r)  :
    ca_ 50 #[Jint p0] w0 fun e w' => e = .returned (Jint r) ∧ Below w0.heap.size w0 w' := k50.outP (Y := Y) (x := p0) (congrArg some H) rfl rfl rfl rfl rfl () trivial rfl trivial fun _ => rfl
theorem H50 : Has Tryz.prog 50 := Js Tryz.func50
def ES (fRec : Tr24 → Option Bool) (p0 : Tr24) : Int → Option (Int ⊕ (Unit ⊕ Bool))
  | x1 => (if x1 < (p0.un.2.2.2.length : Int) then (ix p0.un.2.2.2 x1).bind fun x2 => (fRec x2).bind fun x3 => (if (!x3) = true then some (.inr (.inr false)) else some (.inl (w64 (x1 + 1)))) else some (.inr (.inl ())))
def EW (fRec : Tr24 → Option Bool) (p0 : Tr24) : Option Bool := (if (bif decide (p0.un.1 ≠ 3) then (decide (p0.un.2.1 ≠ 0) || (decide (p0.un.2.2.1 ≠ 0) || (decide (p0.un.1 < 1) || decide (6 < p0.un.1)))) else (decide (p0.un.1 < 1) || decide (6 < p0.un.1))) = true then some false else (if (decide (p0.un.1 = 3) && (decide (p0.un.2.1 < 0) || (decide (5 < p0.un.2.1) || (decide (p0.un.2.2.1 < 0) || decide ((Cg p0.un.2.1) < p0.un.2.2.1))))) = true then some false else (if (bif decide (p0.un.1 ≤ 3) then (decide ((p0.un.2.2.2.length : Int) ≠ 0) || (bif decide (p0.un.1 = 4) then (decide ((p0.un.2.2.2.length : Int) ≠ 1) || (decide (5 ≤ p0.un.1) && (decide ((p0.un.2.2.2.length : Int) < 2) || decide (8 < (p0.un.2.2.2.length : Int))))) else (decide (5 ≤ p0.un.1) && (decide ((p0.un.2.2.2.length : Int) < 2) || decide (8 < (p0.un.2.2.2.length : Int)))))) else (bif decide (p0.un.1 = 4) then (decide ((p0.un.2.2.2.length : Int) ≠ 1) || (decide (5 ≤ p0.un.1) && (decide ((p0.un.2.2.2.length : Int) < 2) || decide (8 < (p0.un.2.2.2.length : Int))))) else (decide (5 ≤ p0.un.1) && (decide ((p0.un.2.2.2.length : Int) < 2) || decide (8 < (p0.un.2.2.2.length : Int)))))) = true then some false else GO (Ah (ES fRec p0) 0) fun _ => some true)))
def Fd : Nat → Tr24 → Option Bool
  | 0 => fun _ => none
  | n + 1 => EW (Fd n)
def O7 (p0 : Tr24) : Option Bool := Hc fun n => Fd n p0
def LJ (fRec : Tr24 → Option Bool) (p0 : Tr24) : Int → Option (Int ⊕ (Unit ⊕ Bool))
  | x1 => (if x1 < (p0.un.2.2.2.length : Int) then (ix p0.un.2.2.2 x1).bind fun x2 => (fRec (f24 x2)).bind fun x3 => (if (!x3) = true then some (.inr (.inr false)) else some (.inl (w64 (x1 + 1)))) else some (.inr (.inl ())))
theorem TU : @LJ = @ES := by
 unfold LJ ES
 simp only [Tr24.re_eq]
def PB (fRec : Tr24 → Option Bool) (p0 : Tr24) : Option Bool := (if (bif decide (p0.un.1 ≠ 3) then (decide (p0.un.2.1 ≠ 0) || (decide (p0.un.2.2.1 ≠ 0) || (decide (p0.un.1 < 1) || decide (6 < p0.un.1)))) else (decide (p0.un.1 < 1) || decide (6 < p0.un.1))) = true then some false else (if (decide (p0.un.1 = 3) && (decide (p0.un.2.1 < 0) || (decide (5 < p0.un.2.1) || (decide (p0.un.2.2.1 < 0) || decide ((Cg p0.un.2.1) < p0.un.2.2.1))))) = true then some false else (if (bif decide (p0.un.1 ≤ 3) then (decide ((p0.un.2.2.2.length : Int) ≠ 0) || (bif decide (p0.un.1 = 4) then (decide ((p0.un.2.2.2.length : Int) ≠ 1) || (decide (5 ≤ p0.un.1) && (decide ((p0.un.2.2.2.length : Int) < 2) || decide (8 < (p0.un.2.2.2.length : Int))))) else (decide (5 ≤ p0.un.1) && (decide ((p0.un.2.2.2.length : Int) < 2) || decide (8 < (p0.un.2.2.2.length : Int)))))) else (bif decide (p0.un.1 = 4) then (decide ((p0.un.2.2.2.length : Int) ≠ 1) || (decide (5 ≤ p0.un.1) && (decide ((p0.un.2.2.2.length : Int) < 2) || decide (8 < (p0.un.2.2.2.length : Int))))) else (decide (5 ≤ p0.un.1) && (decide ((p0.un.2.2.2.length : Int) < 2) || decide (8 < (p0.un.2.2.2.length : Int)))))) = true then some false else GO (Ah (LJ fRec p0) 0) fun _ => some true)))
theorem TJ : @PB = @EW := by
 unfold PB EW
 simp only [TU]
theorem k92 : KO (K92 fun x => O7 x) 92 := Tp (E := te) (xs := jT) (ys := qN) (bs := []) (io := false) (nn := fun n x => Fd n x) (st := fun g x => EW g x) Tryz.func92 rfl (by kernel_rfl) (fun _ => rfl) (fun _ => rfl) fun g hg => Eb (ct := (.q (.q (.s (.j (.bl [30]) .d .d) (.s (.j (.bl [56]) .d .d) (.s (.j (.bl [85]) .d .d) (.j (.st true ⟨[],[],[]⟩) (.q (.b (.l ⟨[(4,false,AG)],[],[]⟩ .d))) .d))))))) D6 (AH hg (AH k50 BG)) Tryz.func92 (by kernel_rfl) fun x => by rw [← TJ]; kernel_rfl
def DD (fRec : Tr24 → Option Int) (p0 : Tr24) : (Int × Int) → Option ((Int × Int) ⊕ Int)
  | (x2,x3) => (if x3 < (p0.un.2.2.2.length : Int) then (ix p0.un.2.2.2 x3).bind fun x4 => (fRec x4).bind fun x5 => some (.inl (w64 (x2 + x5),w64 (x3 + 1))) else some (.inr x2))
def ET (fRec : Tr24 → Option Int) (p0 : Tr24) : Option Int := (Ah (DD fRec p0) (1,0)).bind fun x1 => some x1
def Fh : Nat → Tr24 → Option Int
  | 0 => fun _ => none
  | n + 1 => ET (Fh n)
def KW (p0 : Tr24) : Option Int := Hc fun n => Fh n p0
def LV (fRec : Tr24 → Option Int) (p0 : Tr24) : (Int × Int) → Option ((Int × Int) ⊕ Int)
  | (x2,x3) => (if x3 < (p0.un.2.2.2.length : Int) then (ix p0.un.2.2.2 x3).bind fun x4 => (fRec (f24 x4)).bind fun x5 => some (.inl (w64 (x2 + x5),w64 (x3 + 1))) else some (.inr x2))
theorem Ts : @LV = @DD := by
 unfold LV DD
 simp only [Tr24.re_eq]
def O2 (fRec : Tr24 → Option Int) (p0 : Tr24) : Option Int := (Ah (LV fRec p0) (1,0)).bind fun x1 => some x1
theorem TB : @O2 = @ET := by
 unfold O2 ET
 simp only [Ts]
theorem k52 : KO (K52 fun x => KW x) 52 := Tp (E := te) (xs := i5) (ys := pX) (bs := []) (io := false) (nn := fun n x => Fh n x) (st := fun g x => ET g x) Tryz.func52 rfl (by kernel_rfl) (fun _ => rfl) (fun _ => rfl) fun g hg => Eb (ct := (.q (.q (.j (.st false ⟨[(3,false,AG)],[],[]⟩) (.q (.b (.l ⟨[(3,false,AG),(4,false,AG)],[],[]⟩ .d))) .d)))) D6 (AH hg BG) Tryz.func52 (by kernel_rfl) fun x => by rw [← TB]; kernel_rfl
def DH (fRec : Tr24 → Option Int) (p0 : Tr24) : (Int × Int) → Option ((Int × Int) ⊕ Int)
  | (x2,x3) => (if x3 < (p0.un.2.2.2.length : Int) then ((ix p0.un.2.2.2 x3).bind fun x5 => (fRec x5).bind fun x6 => (if x2 < (w64 (x6 + 1)) then (ix p0.un.2.2.2 x3).bind fun x7 => (fRec x7).bind fun x8 => some (w64 (x8 + 1)) else some x2)).bind fun x4 => some (.inl (x4,w64 (x3 + 1))) else some (.inr x2))
def ER (fRec : Tr24 → Option Int) (p0 : Tr24) : Option Int := (Ah (DH fRec p0) (1,0)).bind fun x1 => some x1
def Fg : Nat → Tr24 → Option Int
  | 0 => fun _ => none
  | n + 1 => ER (Fg n)
def Ps (p0 : Tr24) : Option Int := Hc fun n => Fg n p0
def LW (fRec : Tr24 → Option Int) (p0 : Tr24) : (Int × Int) → Option ((Int × Int) ⊕ Int)
  | (x2,x3) => (if x3 < (p0.un.2.2.2.length : Int) then ((ix p0.un.2.2.2 x3).bind fun x5 => (fRec (f24 x5)).bind fun x6 => (if x2 < (w64 (x6 + 1)) then (ix p0.un.2.2.2 x3).bind fun x7 => (fRec (f24 x7)).bind fun x8 => some (w64 (x8 + 1)) else some x2)).bind fun x4 => some (.inl (x4,w64 (x3 + 1))) else some (.inr x2))
theorem TY : @LW = @DH := by
 unfold LW DH
 simp only [Tr24.re_eq]
def Py (fRec : Tr24 → Option Int) (p0 : Tr24) : Option Int := (Ah (LW fRec p0) (1,0)).bind fun x1 => some x1
theorem TM : @Py = @ER := by
 unfold Py ER
 simp only [TY]
theorem k93 : KO (K93 fun x => Ps x) 93 := Tp (E := te) (xs := lV) (ys := qQ) (bs := []) (io := false) (nn := fun n x => Fg n x) (st := fun g x => ER g x) Tryz.func93 rfl (by kernel_rfl) (fun _ => rfl) (fun _ => rfl) fun g hg => Eb (ct := (.q (.q (.j (.st false ⟨[(3,false,AG)],[],[]⟩) (.q (.b (.l ⟨[(3,false,AG),(4,false,AG)],[],[]⟩ (.q (.j (.st false ⟨[(3,false,AG)],[],[]⟩) .d .d))))) .d)))) D6 (AH hg BG) Tryz.func93 (by kernel_rfl) fun x => by rw [← TM]; kernel_rfl
def HK (p0 : Tr24) : Option Bool := ((O7 p0).bind fun x2 => (if x2 = true then (KW p0).bind fun x3 => (if x3 ≤ 64 then (Ps p0).bind fun x4 => some (decide (x4 ≤ 8)) else some false) else some false)).bind fun x1 => some x1
def SD (p0 : Tr24) : Option Bool := ((O7 (f24 p0)).bind fun x2 => (if x2 = true then (KW (f24 p0)).bind fun x3 => (if x3 ≤ 64 then (Ps (f24 p0)).bind fun x4 => some (decide (x4 ≤ 8)) else some false) else some false)).bind fun x1 => some x1
theorem XF : @SD = @HK := by
 unfold SD HK
 simp only [Tr24.re_eq]
abbrev K67 : Cn_ := ⟨[WH],[KS],[],false,fun x => HK x,none⟩
theorem k67 : KO (K67) 67 := Eb (ct := (.q (.j (.st false ⟨[(2,false,Ea)],[],[]⟩) .d .d))) D6 (AH k92 (AH k52 (AH k93 BG))) Tryz.func67 (by kernel_rfl) fun x => by rw [← XF]; kernel_rfl
theorem V7 (Y : Nat → Prop) (w0 : World) (v1 : Value) (p0 : Tr24) (r : Bool) (H : HK p0 = some r) (h_v1 : Sl w0 (NX []) Ud v1 p0.un.2.2.2) :
    ca_ 67 #[.agg #[Jint p0.un.1,Jint p0.un.2.1,Jint p0.un.2.2.1,v1]] w0 fun e w' => e = .returned (.bool r) ∧ Below w0.heap.size w0 w' := k67.outP (Y := Y) (x := p0) H rfl rfl rfl rfl rfl (v1,()) ⟨h_v1,trivial⟩ rfl trivial fun _ => rfl
theorem H67 : Has Tryz.prog 67 := Js Tryz.func67
theorem B24 : Bt Tryz.prog 24 [Jint 0,Jint 0,Jint 0,.slice none 0 0] [(0,1),(1,1),(2,1),(3,1)] := ⟨⟨.agg #[Jint 0,Jint 0,Jint 0,.slice none 0 0],by kernel_rfl,rfl⟩,⟨_,tR,fun w => by kernel_rfl⟩⟩
theorem H68 : Has Tryz.prog 68 := Js Tryz.func68
def EU (fRec : Tr24 → Tr24 → Option Bool) (p0 : Tr24) (p1 : Tr24) : Int → Option (Int ⊕ (Unit ⊕ Bool))
  | x1 => (if x1 < (p0.un.2.2.2.length : Int) then (ix p0.un.2.2.2 x1).bind fun x2 => (ix p1.un.2.2.2 x1).bind fun x3 => (fRec x2 x3).bind fun x4 => (if (!x4) = true then some (.inr (.inr false)) else some (.inl (w64 (x1 + 1)))) else some (.inr (.inl ())))
def EV (fRec : Tr24 → Tr24 → Option Bool) (p0 : Tr24) (p1 : Tr24) : Option Bool := (if (decide (p0.un.1 ≠ p1.un.1) || (decide (p0.un.2.1 ≠ p1.un.2.1) || (decide (p0.un.2.2.1 ≠ p1.un.2.2.1) || decide ((p0.un.2.2.2.length : Int) ≠ (p1.un.2.2.2.length : Int))))) = true then some false else GO (Ah (EU fRec p0 p1) 0) fun _ => some true)
def FT : Nat → Tr24 → Tr24 → Option Bool
  | 0 => fun _ _ => none
  | n + 1 => EV (FT n)
def M1 (p0 : Tr24) (p1 : Tr24) : Option Bool := Hc fun n => FT n p0 p1
def LL (fRec : Tr24 → Tr24 → Option Bool) (p0 : Tr24) (p1 : Tr24) : Int → Option (Int ⊕ (Unit ⊕ Bool))
  | x1 => (if x1 < (p0.un.2.2.2.length : Int) then (ix p0.un.2.2.2 x1).bind fun x2 => (ix p1.un.2.2.2 x1).bind fun x3 => (fRec (f24 x2) (f24 x3)).bind fun x4 => (if (!x4) = true then some (.inr (.inr false)) else some (.inl (w64 (x1 + 1)))) else some (.inr (.inl ())))
theorem Tu : @LL = @EU := by
 unfold LL EU
 simp only [Tr24.re_eq]
def OX (fRec : Tr24 → Tr24 → Option Bool) (p0 : Tr24) (p1 : Tr24) : Option Bool := (if (decide (p0.un.1 ≠ p1.un.1) || (decide (p0.un.2.1 ≠ p1.un.2.1) || (decide (p0.un.2.2.1 ≠ p1.un.2.2.1) || decide ((p0.un.2.2.2.length : Int) ≠ (p1.un.2.2.2.length : Int))))) = true then some false else GO (Ah (LL fRec p0 p1) 0) fun _ => some true)
theorem TX : @OX = @EV := by
 unfold OX EV
 simp only [Tu]
theorem k68 : KO (K68 fun x => M1 x.1 x.2) 68 := Tp (E := te) (xs := j5) (ys := rY) (bs := []) (io := false) (nn := fun n x => FT n x.1 x.2) (st := fun g x => EV (fun yp0 yp1 => g (yp0,yp1)) x.1 x.2) Tryz.func68 rfl (by kernel_rfl) (fun _ => rfl) (fun _ => rfl) fun g hg => Eb (ct := (.q (.s (.j (.bl [33]) .d .d) (.j (.st true ⟨[],[],[]⟩) (.q (.b (.l ⟨[(5,false,AG)],[],[]⟩ .d))) .d)))) D6 (AH hg BG) Tryz.func68 (by kernel_rfl) fun x => by rw [← TX]; kernel_rfl
theorem X6 (Y : Nat → Prop) (w0 : World) (v1 : Value) (v2 : Value) (p0 : Tr24) (p1 : Tr24) (r : Bool) (H : M1 p0 p1 = some r) (h_v1 : Sl w0 (NX []) Ud v1 p0.un.2.2.2) (h_v2 : Sl w0 (NX []) Ud v2 p1.un.2.2.2) :
    ca_ 68 #[.agg #[Jint p0.un.1,Jint p0.un.2.1,Jint p0.un.2.2.1,v1],.agg #[Jint p1.un.1,Jint p1.un.2.1,Jint p1.un.2.2.1,v2]] w0 fun e w' => e = .returned (.bool r) ∧ Below w0.heap.size w0 w' := k68.outP (Y := Y) (x := (p0,p1)) H rfl rfl rfl rfl rfl (v1,(v2,())) ⟨h_v1,⟨h_v2,trivial⟩⟩ rfl trivial fun _ => rfl
theorem rK : type_of% Tryz.underlying25 := Tryz.underlying25
abbrev eA (a : Int × (Int × Int × Int × (Value × List Tr24)) × Int × Int × (Value × List Tr27)) : List Value := [Jint a.1,Jint a.2.1.1,Jint a.2.1.2.1,Jint a.2.1.2.2.1,a.2.1.2.2.2.1,Jint a.2.2.1,Jint a.2.2.2.1,a.2.2.2.2.1]
theorem tS : G8 j3 eA := (G8.pair Fl.int.to (G8.pair (G8.pair Fl.int.to (G8.pair Fl.int.to (G8.pair Fl.int.to G8.vsl))) (G8.pair Fl.int.to (G8.pair Fl.int.to G8.vsl))))
theorem L25 : Et Tryz.prog 25 27 8 96 := Et.of rK (by kernel_rfl) (by kernel_rfl) (by kernel_rfl) (by decide)
theorem H38 : Has Tryz.prog 38 := Js Tryz.func38
abbrev QZ (a0 : Tr27) (a1 : Value) (a2 : Value) : List Value := [Jint a0.un.1,Jint a0.un.2.1.un.1,Jint a0.un.2.1.un.2.1,Jint a0.un.2.1.un.2.2.1,a1,Jint a0.un.2.2.1,Jint a0.un.2.2.2.1,a2]
abbrev W2 (a0 : Nat) (a1 : Tr27) (a2 : Value) (a3 : Value) : List (Nat × List Value) := [(a0,[Jint a1.un.1,Jint a1.un.2.1.un.1,Jint a1.un.2.1.un.2.1,Jint a1.un.2.1.un.2.2.1,a2,Jint a1.un.2.2.1,Jint a1.un.2.2.2.1,a3])]
def FI (fRec : Tr27 → Option Bool) (p0 : Tr27) : Int → Option (Int ⊕ (Unit ⊕ Bool))
  | x4 => (if x4 < (p0.un.2.2.2.2.length : Int) then (ix p0.un.2.2.2.2 x4).bind fun x5 => (fRec (Tr27.of (x5.un.1,f24 x5.un.2.1,x5.un.2.2.1,x5.un.2.2.2.1,x5.un.2.2.2.2))).bind fun x6 => (if (!x6) = true then some (.inr (.inr false)) else some (.inl (w64 (x4 + 1)))) else some (.inr (.inl ())))
def FL (fRec : Tr27 → Option Bool) (p0 : Tr27) : Option Bool := (if (decide (p0.un.1 < 1) || (decide (5 < p0.un.1) || (decide (p0.un.1 ≠ 2) && (decide (p0.un.2.2.1 ≠ 0) || decide (p0.un.2.2.2.1 ≠ 0))))) = true then some false else (if (decide (p0.un.1 = 1) || decide (p0.un.1 = 5)) = true then (HK (f24 p0.un.2.1)).bind fun x2 => (if (!x2) = true then some true else some false) else (M1 (f24 p0.un.2.1) (Tr24.of (0,0,0,([] : List Tr24)))).bind fun x3 => some (!x3)).bind fun x1 => (if x1 = true then some false else (if (decide (p0.un.1 = 2) && (decide (p0.un.2.2.1 < 0) || (decide (4 < p0.un.2.2.1) || (decide (p0.un.2.2.2.1 < 0) || decide ((Cg p0.un.2.2.1) < p0.un.2.2.2.1))))) = true then some false else (if (bif decide (p0.un.1 ≤ 2) then (decide ((p0.un.2.2.2.2.length : Int) ≠ 0) || (bif decide (p0.un.1 = 5) then (decide ((p0.un.2.2.2.2.length : Int) ≠ 2) || (bif decide (p0.un.1 = 3) then (decide ((p0.un.2.2.2.2.length : Int) < 2) || decide (8 < (p0.un.2.2.2.2.length : Int))) else (decide (p0.un.1 = 4) && (decide ((p0.un.2.2.2.2.length : Int) < 2) || decide (8 < (p0.un.2.2.2.2.length : Int)))))) else (bif decide (p0.un.1 = 3) then (decide ((p0.un.2.2.2.2.length : Int) < 2) || decide (8 < (p0.un.2.2.2.2.length : Int))) else (decide (p0.un.1 = 4) && (decide ((p0.un.2.2.2.2.length : Int) < 2) || decide (8 < (p0.un.2.2.2.2.length : Int))))))) else (bif decide (p0.un.1 = 5) then (decide ((p0.un.2.2.2.2.length : Int) ≠ 2) || (bif decide (p0.un.1 = 3) then (decide ((p0.un.2.2.2.2.length : Int) < 2) || decide (8 < (p0.un.2.2.2.2.length : Int))) else (decide (p0.un.1 = 4) && (decide ((p0.un.2.2.2.2.length : Int) < 2) || decide (8 < (p0.un.2.2.2.2.length : Int)))))) else (bif decide (p0.un.1 = 3) then (decide ((p0.un.2.2.2.2.length : Int) < 2) || decide (8 < (p0.un.2.2.2.2.length : Int))) else (decide (p0.un.1 = 4) && (decide ((p0.un.2.2.2.2.length : Int) < 2) || decide (8 < (p0.un.2.2.2.2.length : Int))))))) = true then some false else GO (Ah (FI fRec p0) 0) fun _ => some true))))
def EA : Nat → Tr27 → Option Bool
  | 0 => fun _ => none
  | n + 1 => FL (EA n)
def O5 (p0 : Tr27) : Option Bool := Hc fun n => EA n p0
theorem VF (fRec : Tr27 → Option Bool) (ih : ∀ (Y : Nat → Prop) (w0 : World) (v1 : Value) (v2 : Value) (p0 : Tr27) (r : Bool) (H : fRec p0 = some r) (h_v1 : Sl w0 (NX []) Ud v1 p0.un.2.1.un.2.2.2) (h_v2 : Sl w0 (NX []) Xw v2 p0.un.2.2.2.2),ca_ 38 #[.agg #[Jint p0.un.1,Jint p0.un.2.1.un.1,Jint p0.un.2.1.un.2.1,Jint p0.un.2.1.un.2.2.1,v1,Jint p0.un.2.2.1,Jint p0.un.2.2.2.1,v2]] w0 fun e w' => e = .returned (.bool r) ∧ Below w0.heap.size w0 w') (Y : Nat → Prop) (w0 : World) (v1 : Value) (v2 : Value) (p0 : Tr27) (r : Bool) (H : FL fRec p0 = some r) (h_v1 : Sl w0 (NX []) Ud v1 p0.un.2.1.un.2.2.2) (h_v2 : Sl w0 (NX []) Xw v2 p0.un.2.2.2.2) :
    ca_ 38 #[.agg #[Jint p0.un.1,Jint p0.un.2.1.un.1,Jint p0.un.2.1.un.2.1,Jint p0.un.2.1.un.2.2.1,v1,Jint p0.un.2.2.1,Jint p0.un.2.2.2.1,v2]] w0 fun e w' => e = .returned (.bool r) ∧ Below w0.heap.size w0 w' := by
 refine enter Tryz.func38 Aa Tryz.ntmps38 Aa fun a F => ?_
 have W := Stw.start Y w0
 obtain ⟨v3,h1,h_v1⟩ := h_v1.ex bE
 obtain ⟨v4,h2,h_v2⟩ := h_v2.ex jC
 unfold FL at H
 refine vc tk 2 F W fun a w F W => ?_
 refine Ig (cs := (QZ p0 v1 v2)) F W Aa Aa Aa fun b1 a w F W => ?_
 refine WT tk 7 [0] F W (ai fun a w F W => ?_)
 refine ls F W Aa (NJ (r := Xw) (l := p0.un.2.2.2.2) rK Aa F Aa (HZ jC h2 (Dg h_v2))).q fun a w F W => ?_
 refine KR tk 4 F W fun a w F W => ?_
 refine Fx (fun a w => Fr 130 [] [(1,pp b1),(2,.bool false),(3,Jint (p0.un.2.2.2.2.length : Int)),(31,.bool (decide (p0.un.1 < 1) || (decide (5 < p0.un.1) || (decide (p0.un.1 ≠ 2) && (decide (p0.un.2.2.1 ≠ 0) || decide (p0.un.2.2.2.1 ≠ 0))))))] a ∧ sy Y w0 (W2 b1 p0 v1 v2) [] w) ?_ ?_
 ·
  refine XG tk 5 [0] F W (ai fun a w F W => ?_)
  rcases bxq (decide (p0.un.1 < 1)) with hb0 | hb0
  ·
   rw [hb0] at F
   refine vl tk 20 F W fun a w F W => ?_
   refine Az ?_
   exact ⟨F.re ⟨rfl,Aa,Aa,(Mw (by try rw [hb0]; all_goals simp only [MZ])),trivial⟩,W⟩
  rw [hb0] at F
  refine Uv tk 5 [0] F W (ai fun a w F W => ?_)
  rcases bxq (decide (5 < p0.un.1)) with hb1 | hb1
  ·
   rw [hb1] at F
   refine vl tk 15 F W fun a w F W => ?_
   refine Az ?_
   exact ⟨F.re ⟨rfl,Aa,Aa,(Mw (by try rw [hb0]; try rw [hb1]; all_goals simp only [MZ])),trivial⟩,W⟩
  rw [hb1] at F
  refine Uv tk 4 [0] F W (ai fun a w F W => ?_)
  rcases bxq (decide (p0.un.1 ≠ 2)) with hb2 | hb2
  ·
   rw [hb2] at F
   refine Uv tk 4 [0] F W (ai fun a w F W => ?_)
   rcases bxq (decide (p0.un.2.2.1 ≠ 0)) with hb3 | hb3
   ·
    rw [hb3] at F
    refine vl tk 7 F W fun a w F W => ?_
    refine Az ?_
    exact ⟨F.re ⟨rfl,Aa,Aa,(Mw (by try rw [hb3]; try rw [hb0]; try rw [hb1]; try rw [hb2]; all_goals simp only [MZ])),trivial⟩,W⟩
   rw [hb3] at F
   refine Uv tk 7 [0] F W (ai fun a w F W => ?_)
   refine Az ?_
   exact ⟨F.re ⟨rfl,Aa,Aa,(Mw (by try rw [hb3]; try rw [hb0]; try rw [hb1]; try rw [hb2]; all_goals simp only [MZ])),trivial⟩,W⟩
  rw [hb2] at F
  refine vl tk 11 F W fun a w F W => ?_
  refine Az ?_
  exact ⟨F.re ⟨rfl,Aa,Aa,(Mw (by try rw [hb0]; try rw [hb1]; try rw [hb2]; all_goals simp only [MZ])),trivial⟩,W⟩
 rintro a w ⟨F,W⟩
 refine NG F Aa H (fun F H => ?_) fun F H => ?_
 ·
  refine vc tk 5 F W fun a w F W => ?_
  refine De (FW ?_)
  have H := Fj H
  subst H
  refine EE (.inl Aa) F W Aa (DJ F Aa) ?_
  exact ⟨rfl,W.done⟩
 refine jH tk 2 F W fun a w F W => ?_
 refine Fx (fun a w => Fr 130 [] [(1,pp b1),(2,.bool false),(3,Jint (p0.un.2.2.2.2.length : Int)),(4,.bool (decide (p0.un.1 = 1) || decide (p0.un.1 = 5)))] a ∧ sy Y w0 (W2 b1 p0 v1 v2) [] w) ?_ ?_
 ·
  refine XG tk 5 [0] F W (ai fun a w F W => ?_)
  rcases bxq (decide (p0.un.1 = 1)) with hb0 | hb0
  ·
   rw [hb0] at F
   refine vl tk 6 F W fun a w F W => ?_
   refine Az ?_
   exact ⟨F.re ⟨rfl,Aa,Aa,(Mw (by try rw [hb0]; all_goals simp only [MZ])),trivial⟩,W⟩
  rw [hb0] at F
  refine Uv tk 6 [0] F W (ai fun a w F W => ?_)
  refine Az ?_
  exact ⟨F.re ⟨rfl,Aa,Aa,(Mw (by try rw [hb0]; all_goals simp only [MZ])),trivial⟩,W⟩
 rintro a w ⟨F,W⟩
 refine N8 ?_
 obtain ⟨o1,G1,K1⟩ := Bz H
 refine Fx (fun a w => ∃ x1 : Bool,some (x1) = some o1 ∧ Fr 130 [] [(1,pp b1),(2,.bool false),(3,Jint (p0.un.2.2.2.2.length : Int)),(57,.bool x1)] a ∧ sy Y w0 (W2 b1 p0 v1 v2) [] w) ?_ ?_
 ·
  have H := G1
  refine vc tk 3 F W fun a w F W => ?_
  rcases bxq (decide (p0.un.1 = 1) || decide (p0.un.1 = 5)) with hb | hb
  ·
   have H := Wi hb H
   rw [hb] at F
   refine Uv tk 2 [0] F W (ai fun a w F W => ?_)
   refine rX (BP F Aa Aa Aa Aa) ?_
   obtain ⟨x2,h3,H⟩ := Bz H
   refine ls F W Aa (Gj (v := Value.bool x2) F H67 Aa (fun w W => V7 any w (v1) (f24 p0.un.2.1) _ h3 (aT (HZ bE h1 (Dg h_v1)) W))) fun a w F W => ?_
   refine vl tk 3 F W fun a w F W => ?_
   rcases bxq (!x2) with hb | hb
   ·
    have H := Wi hb H
    rw [hb] at F
    refine vl tk 11 F W fun a w F W => ?_
    refine Az ?_
    exact ⟨_,H,F.ra Aa,W⟩
   have H := Wb (by rw [hb]; decide) H
   rw [hb] at F
   refine vl tk 11 F W fun a w F W => ?_
   refine Az ?_
   exact ⟨_,H,F.ra Aa,W⟩
  have H := Wb (by rw [hb]; decide) H
  rw [hb] at F
  refine Uv tk 11 [0] F W (ai fun a w F W => ?_)
  refine kD F W (BP F Aa Aa Aa Aa) Aa (Ez Aa) (H8 (v := Value.agg #[Jint 0,Jint 0,Jint 0,.slice none 0 0]) B24 F Aa Aa Aa).q fun a w F W => ?_
  refine rX (BP F Aa Aa Aa Aa) ?_
  obtain ⟨x3,h4,H⟩ := Bz H
  refine ls F W Aa (Gj (v := Value.bool x3) F H68 Aa (fun w W => X6 any w (v1) (Value.slice none 0 0) (f24 p0.un.2.1) (Tr24.of (0,0,0,([] : List Tr24))) _ h4 (aT (HZ bE h1 (Dg h_v1)) W) Sl.nil)) fun a w F W => ?_
  refine vl tk 4 F W fun a w F W => ?_
  refine Az ?_
  exact ⟨_,H,F.ra Aa,W⟩
 rintro a w ⟨x1,hj,F,W⟩
 have hj := Fj hj
 subst hj
 have H := K1
 refine NG F Aa H (fun F H => ?_) fun F H => ?_
 ·
  refine vc tk 5 F W fun a w F W => ?_
  refine De (FW ?_)
  have H := Fj H
  subst H
  refine EE (.inl Aa) F W Aa (DJ F Aa) ?_
  exact ⟨rfl,W.done⟩
 refine jH tk 3 F W fun a w F W => ?_
 refine Fx (fun a w => Fr 130 [] [(1,pp b1),(2,.bool false),(3,Jint (p0.un.2.2.2.2.length : Int)),(83,.bool (decide (p0.un.1 = 2) && (decide (p0.un.2.2.1 < 0) || (decide (4 < p0.un.2.2.1) || (decide (p0.un.2.2.2.1 < 0) || decide ((Cg p0.un.2.2.1) < p0.un.2.2.2.1))))))] a ∧ sy Y w0 (W2 b1 p0 v1 v2) [] w) ?_ ?_
 ·
  refine Li W MO (by kernel_rfl) ?_
  refine qs F Aa (A2 QK Aa Aa Aa T3 F Aa 0 Aa).q fun a F => ?_
  refine qs F Aa (ED (v := Jint p0.un.1) 0 F Aa Aa T3 Aa).q fun a F => ?_
  refine qs F Aa (gI F Aa Aa).q fun a F => ?_
  refine qs F Aa (En F Aa).q fun a F => ?_
  rcases bxq (decide (p0.un.1 = 2)) with hb0 | hb0
  ·
   rw [hb0] at F
   refine HG F (BP F Aa Aa Aa Aa) Aa (Ez Aa) (A2 QK Aa Aa Aa T3 F Aa 5 Aa).q fun a F => ?_
   refine HG F (BP F Aa Aa Aa Aa) Aa (Ez Aa) (ED (v := Jint p0.un.2.2.1) 0 F Aa Aa T3 Aa).q fun a F => ?_
   refine HG F (BP F Aa Aa Aa Aa) Aa (Ez Aa) (WO F Aa Aa).q fun a F => ?_
   refine HG F (BP F Aa Aa Aa Aa) Aa (Ez Aa) (En F Aa).q fun a F => ?_
   rcases bxq (decide (p0.un.2.2.1 < 0)) with hb1 | hb1
   ·
    rw [hb1] at F
    iterate 3 refine GI F (Hi F Aa Aa Aa Aa Aa) Aa Aa fun a F => ?_
    refine HG F (BP F Aa Aa Aa Aa) Aa (Ez Aa) (F5 F Aa Aa Aa).q fun a F => ?_
    refine HG F (BP F Aa Aa Aa Aa) Aa (Ez Aa) (En F Aa).q fun a F => ?_
    iterate 3 refine GI F (Hi F Aa Aa Aa Aa Aa) Aa Aa fun a F => ?_
    refine HG F (BP F Aa Aa Aa Aa) Aa (Ez Aa) (F5 F Aa Aa Aa).q fun a F => ?_
    refine HG F (BP F Aa Aa Aa Aa) Aa (Ez Aa) (En F Aa).q fun a F => ?_
    iterate 6 refine GI F (Hi F Aa Aa Aa Aa Aa) Aa Aa fun a F => ?_
    refine HG F (BP F Aa Aa Aa Aa) Aa (Ez Aa) (F5 F Aa Aa Aa).q fun a F => ?_
    refine qs F Aa (F5 F Aa Aa Aa).q fun a F => ?_
    refine EO fun w W => ?_
    refine Az ?_
    exact ⟨F.re ⟨rfl,Aa,Aa,(Mw (by try rw [hb1]; try rw [hb0]; all_goals simp only [MZ])),trivial⟩,W⟩
   rw [hb1] at F
   refine HG F (BP F Aa Aa Aa Aa) Aa (Ez Aa) (A2 QK Aa Aa Aa T3 F Aa 5 Aa).q fun a F => ?_
   refine HG F (BP F Aa Aa Aa Aa) Aa (Ez Aa) (ED (v := Jint p0.un.2.2.1) 0 F Aa Aa T3 Aa).q fun a F => ?_
   refine HG F (BP F Aa Aa Aa Aa) Aa (Ez Aa) (Zm F Aa Aa).q fun a F => ?_
   refine HG F (BP F Aa Aa Aa Aa) Aa (Ez Aa) (Lu F Aa Aa Aa).q fun a F => ?_
   refine HG F (BP F Aa Aa Aa Aa) Aa (Ez Aa) (En F Aa).q fun a F => ?_
   rcases bxq (decide (4 < p0.un.2.2.1)) with hb2 | hb2
   ·
    rw [hb2] at F
    iterate 3 refine GI F (Hi F Aa Aa Aa Aa Aa) Aa Aa fun a F => ?_
    refine HG F (BP F Aa Aa Aa Aa) Aa (Ez Aa) (F5 F Aa Aa Aa).q fun a F => ?_
    refine HG F (BP F Aa Aa Aa Aa) Aa (Ez Aa) (En F Aa).q fun a F => ?_
    iterate 6 refine GI F (Hi F Aa Aa Aa Aa Aa) Aa Aa fun a F => ?_
    refine HG F (BP F Aa Aa Aa Aa) Aa (Ez Aa) (F5 F Aa Aa Aa).q fun a F => ?_
    refine qs F Aa (F5 F Aa Aa Aa).q fun a F => ?_
    refine EO fun w W => ?_
    refine Az ?_
    exact ⟨F.re ⟨rfl,Aa,Aa,(Mw (by try rw [hb1]; try rw [hb2]; try rw [hb0]; all_goals simp only [MZ])),trivial⟩,W⟩
   rw [hb2] at F
   refine HG F (BP F Aa Aa Aa Aa) Aa (Ez Aa) (A2 QK Aa Aa Aa T3 F Aa 6 Aa).q fun a F => ?_
   refine HG F (BP F Aa Aa Aa Aa) Aa (Ez Aa) (ED (v := Jint p0.un.2.2.2.1) 0 F Aa Aa T3 Aa).q fun a F => ?_
   refine HG F (BP F Aa Aa Aa Aa) Aa (Ez Aa) (WO F Aa Aa).q fun a F => ?_
   refine HG F (BP F Aa Aa Aa Aa) Aa (Ez Aa) (Lu F Aa Aa Aa).q fun a F => ?_
   refine HG F (BP F Aa Aa Aa Aa) Aa (Ez Aa) (En F Aa).q fun a F => ?_
   rcases bxq (decide (p0.un.2.2.2.1 < 0)) with hb3 | hb3
   ·
    rw [hb3] at F
    iterate 6 refine GI F (Hi F Aa Aa Aa Aa Aa) Aa Aa fun a F => ?_
    refine HG F (BP F Aa Aa Aa Aa) Aa (Ez Aa) (F5 F Aa Aa Aa).q fun a F => ?_
    refine qs F Aa (F5 F Aa Aa Aa).q fun a F => ?_
    refine EO fun w W => ?_
    refine Az ?_
    exact ⟨F.re ⟨rfl,Aa,Aa,(Mw (by try rw [hb3]; try rw [hb1]; try rw [hb2]; try rw [hb0]; all_goals simp only [MZ])),trivial⟩,W⟩
   rw [hb3] at F
   refine HG F (BP F Aa Aa Aa Aa) Aa (Ez Aa) (A2 QK Aa Aa Aa T3 F Aa 6 Aa).q fun a F => ?_
   refine HG F (BP F Aa Aa Aa Aa) Aa (Ez Aa) (ED (v := Jint p0.un.2.2.2.1) 0 F Aa Aa T3 Aa).q fun a F => ?_
   refine HG F (BP F Aa Aa Aa Aa) Aa (Ez Aa) (A2 QK Aa Aa Aa T3 F Aa 5 Aa).q fun a F => ?_
   refine HG F (BP F Aa Aa Aa Aa) Aa (Ez Aa) (ED (v := Jint p0.un.2.2.1) 0 F Aa Aa T3 Aa).q fun a F => ?_
   refine HG F (BP F Aa Aa Aa Aa) Aa (Ez Aa) (Gj (v := Jint (Cg p0.un.2.2.1)) F H50 Aa (fun w W => Z0 any w p0.un.2.2.1 _ Aa)) fun a F => ?_
   refine HG F (BP F Aa Aa Aa Aa) Aa (Ez Aa) (Zm F Aa Aa).q fun a F => ?_
   refine HG F (BP F Aa Aa Aa Aa) Aa (Ez Aa) (Lu F Aa Aa Aa).q fun a F => ?_
   refine qs F Aa (F5 F Aa Aa Aa).q fun a F => ?_
   refine EO fun w W => ?_
   refine Az ?_
   exact ⟨F.re ⟨rfl,Aa,Aa,(Mw (by try rw [hb3]; try rw [hb1]; try rw [hb2]; try rw [hb0]; all_goals simp only [MZ])),trivial⟩,W⟩
  rw [hb0] at F
  iterate 4 refine GI F (Hi F Aa Aa Aa Aa Aa) Aa Aa fun a F => ?_
  iterate 3 refine GI F (H2 F Aa Aa Aa Aa) Aa Aa fun a F => ?_
  iterate 2 refine GI F (Hi F Aa Aa Aa Aa Aa) Aa Aa fun a F => ?_
  iterate 3 refine GI F (H2 F Aa Aa Aa Aa) Aa Aa fun a F => ?_
  iterate 2 refine GI F (Hi F Aa Aa Aa Aa Aa) Aa Aa fun a F => ?_
  iterate 6 refine GI F (H2 F Aa Aa Aa Aa) Aa Aa fun a F => ?_
  refine GI F (Hi F Aa Aa Aa Aa Aa) Aa Aa fun a F => ?_
  refine qs F Aa (Lu F Aa Aa Aa).q fun a F => ?_
  refine EO fun w W => ?_
  refine Az ?_
  exact ⟨F.re ⟨rfl,Aa,Aa,(Mw (by try rw [hb0]; all_goals simp only [MZ])),trivial⟩,W⟩
 rintro a w ⟨F,W⟩
 refine NG F Aa H (fun F H => ?_) fun F H => ?_
 ·
  refine vc tk 5 F W fun a w F W => ?_
  refine De (FW ?_)
  have H := Fj H
  subst H
  refine EE (.inl Aa) F W Aa (DJ F Aa) ?_
  exact ⟨rfl,W.done⟩
 refine jH tk 3 F W fun a w F W => ?_
 refine Fx (fun a w => Fr 130 [] [(1,pp b1),(2,.bool false),(3,Jint (p0.un.2.2.2.2.length : Int)),(117,.bool (bif decide (p0.un.1 ≤ 2) then (decide ((p0.un.2.2.2.2.length : Int) ≠ 0) || (bif decide (p0.un.1 = 5) then (decide ((p0.un.2.2.2.2.length : Int) ≠ 2) || (bif decide (p0.un.1 = 3) then (decide ((p0.un.2.2.2.2.length : Int) < 2) || decide (8 < (p0.un.2.2.2.2.length : Int))) else (decide (p0.un.1 = 4) && (decide ((p0.un.2.2.2.2.length : Int) < 2) || decide (8 < (p0.un.2.2.2.2.length : Int)))))) else (bif decide (p0.un.1 = 3) then (decide ((p0.un.2.2.2.2.length : Int) < 2) || decide (8 < (p0.un.2.2.2.2.length : Int))) else (decide (p0.un.1 = 4) && (decide ((p0.un.2.2.2.2.length : Int) < 2) || decide (8 < (p0.un.2.2.2.2.length : Int))))))) else (bif decide (p0.un.1 = 5) then (decide ((p0.un.2.2.2.2.length : Int) ≠ 2) || (bif decide (p0.un.1 = 3) then (decide ((p0.un.2.2.2.2.length : Int) < 2) || decide (8 < (p0.un.2.2.2.2.length : Int))) else (decide (p0.un.1 = 4) && (decide ((p0.un.2.2.2.2.length : Int) < 2) || decide (8 < (p0.un.2.2.2.2.length : Int)))))) else (bif decide (p0.un.1 = 3) then (decide ((p0.un.2.2.2.2.length : Int) < 2) || decide (8 < (p0.un.2.2.2.2.length : Int))) else (decide (p0.un.1 = 4) && (decide ((p0.un.2.2.2.2.length : Int) < 2) || decide (8 < (p0.un.2.2.2.2.length : Int))))))))] a ∧ sy Y w0 (W2 b1 p0 v1 v2) [] w) ?_ ?_
 ·
  refine XG tk 5 [0] F W (ai fun a w F W => ?_)
  rcases bxq (decide (p0.un.1 ≤ 2)) with hb0 | hb0
  ·
   rw [hb0] at F
   refine vl tk 4 F W fun a w F W => ?_
   rcases bxq (decide ((p0.un.2.2.2.2.length : Int) ≠ 0)) with hb1 | hb1
   ·
    rw [hb1] at F
    refine vl tk 27 F W fun a w F W => ?_
    refine Az ?_
    exact ⟨F.re ⟨rfl,Aa,Aa,(Mw (by try rw [hb1]; try rw [hb0]; all_goals simp only [MZ])),trivial⟩,W⟩
   rw [hb1] at F
   refine Uv tk 4 [0] F W (ai fun a w F W => ?_)
   rcases bxq (decide (p0.un.1 = 5)) with hb2 | hb2
   ·
    rw [hb2] at F
    refine vl tk 5 F W fun a w F W => ?_
    rcases bxq (decide ((p0.un.2.2.2.2.length : Int) ≠ 2)) with hb3 | hb3
    ·
     rw [hb3] at F
     refine vl tk 18 F W fun a w F W => ?_
     refine Az ?_
     exact ⟨F.re ⟨rfl,Aa,Aa,(Mw (by try rw [hb1]; try rw [hb3]; try rw [hb0]; try rw [hb2]; all_goals simp only [MZ])),trivial⟩,W⟩
    rw [hb3] at F
    refine Uv tk 4 [0] F W (ai fun a w F W => ?_)
    rcases bxq (decide (p0.un.1 = 3)) with hb4 | hb4
    ·
     rw [hb4] at F
     refine vl tk 8 F W fun a w F W => ?_
     rcases bxq (decide ((p0.un.2.2.2.2.length : Int) < 2)) with hb5 | hb5
     ·
      rw [hb5] at F
      refine vl tk 6 F W fun a w F W => ?_
      refine Az ?_
      exact ⟨F.re ⟨rfl,Aa,Aa,(Mw (by try rw [hb1]; try rw [hb3]; try rw [hb5]; try rw [hb0]; try rw [hb2]; try rw [hb4]; all_goals simp only [MZ])),trivial⟩,W⟩
     rw [hb5] at F
     refine vl tk 6 F W fun a w F W => ?_
     refine Az ?_
     exact ⟨F.re ⟨rfl,Aa,Aa,(Mw (by try rw [hb1]; try rw [hb3]; try rw [hb5]; try rw [hb0]; try rw [hb2]; try rw [hb4]; all_goals simp only [MZ])),trivial⟩,W⟩
    rw [hb4] at F
    refine Uv tk 5 [0] F W (ai fun a w F W => ?_)
    rcases bxq (decide (p0.un.1 = 4)) with hb5 | hb5
    ·
     rw [hb5] at F
     refine vl tk 3 F W fun a w F W => ?_
     rcases bxq (decide ((p0.un.2.2.2.2.length : Int) < 2)) with hb6 | hb6
     ·
      rw [hb6] at F
      refine vl tk 6 F W fun a w F W => ?_
      refine Az ?_
      exact ⟨F.re ⟨rfl,Aa,Aa,(Mw (by try rw [hb1]; try rw [hb3]; try rw [hb6]; try rw [hb0]; try rw [hb2]; try rw [hb4]; try rw [hb5]; all_goals simp only [MZ])),trivial⟩,W⟩
     rw [hb6] at F
     refine vl tk 6 F W fun a w F W => ?_
     refine Az ?_
     exact ⟨F.re ⟨rfl,Aa,Aa,(Mw (by try rw [hb1]; try rw [hb3]; try rw [hb6]; try rw [hb0]; try rw [hb2]; try rw [hb4]; try rw [hb5]; all_goals simp only [MZ])),trivial⟩,W⟩
    rw [hb5] at F
    refine vl tk 9 F W fun a w F W => ?_
    refine Az ?_
    exact ⟨F.re ⟨rfl,Aa,Aa,(Mw (by try rw [hb1]; try rw [hb3]; try rw [hb0]; try rw [hb2]; try rw [hb4]; try rw [hb5]; all_goals simp only [MZ])),trivial⟩,W⟩
   rw [hb2] at F
   refine Uv tk 9 [0] F W (ai fun a w F W => ?_)
   rcases bxq (decide (p0.un.1 = 3)) with hb3 | hb3
   ·
    rw [hb3] at F
    refine vl tk 8 F W fun a w F W => ?_
    rcases bxq (decide ((p0.un.2.2.2.2.length : Int) < 2)) with hb4 | hb4
    ·
     rw [hb4] at F
     refine vl tk 6 F W fun a w F W => ?_
     refine Az ?_
     exact ⟨F.re ⟨rfl,Aa,Aa,(Mw (by try rw [hb1]; try rw [hb4]; try rw [hb0]; try rw [hb2]; try rw [hb3]; all_goals simp only [MZ])),trivial⟩,W⟩
    rw [hb4] at F
    refine vl tk 6 F W fun a w F W => ?_
    refine Az ?_
    exact ⟨F.re ⟨rfl,Aa,Aa,(Mw (by try rw [hb1]; try rw [hb4]; try rw [hb0]; try rw [hb2]; try rw [hb3]; all_goals simp only [MZ])),trivial⟩,W⟩
   rw [hb3] at F
   refine Uv tk 5 [0] F W (ai fun a w F W => ?_)
   rcases bxq (decide (p0.un.1 = 4)) with hb4 | hb4
   ·
    rw [hb4] at F
    refine vl tk 3 F W fun a w F W => ?_
    rcases bxq (decide ((p0.un.2.2.2.2.length : Int) < 2)) with hb5 | hb5
    ·
     rw [hb5] at F
     refine vl tk 6 F W fun a w F W => ?_
     refine Az ?_
     exact ⟨F.re ⟨rfl,Aa,Aa,(Mw (by try rw [hb1]; try rw [hb5]; try rw [hb0]; try rw [hb2]; try rw [hb3]; try rw [hb4]; all_goals simp only [MZ])),trivial⟩,W⟩
    rw [hb5] at F
    refine vl tk 6 F W fun a w F W => ?_
    refine Az ?_
    exact ⟨F.re ⟨rfl,Aa,Aa,(Mw (by try rw [hb1]; try rw [hb5]; try rw [hb0]; try rw [hb2]; try rw [hb3]; try rw [hb4]; all_goals simp only [MZ])),trivial⟩,W⟩
   rw [hb4] at F
   refine vl tk 9 F W fun a w F W => ?_
   refine Az ?_
   exact ⟨F.re ⟨rfl,Aa,Aa,(Mw (by try rw [hb1]; try rw [hb0]; try rw [hb2]; try rw [hb3]; try rw [hb4]; all_goals simp only [MZ])),trivial⟩,W⟩
  rw [hb0] at F
  refine Uv tk 8 [0] F W (ai fun a w F W => ?_)
  rcases bxq (decide (p0.un.1 = 5)) with hb1 | hb1
  ·
   rw [hb1] at F
   refine vl tk 5 F W fun a w F W => ?_
   rcases bxq (decide ((p0.un.2.2.2.2.length : Int) ≠ 2)) with hb2 | hb2
   ·
    rw [hb2] at F
    refine vl tk 18 F W fun a w F W => ?_
    refine Az ?_
    exact ⟨F.re ⟨rfl,Aa,Aa,(Mw (by try rw [hb2]; try rw [hb0]; try rw [hb1]; all_goals simp only [MZ])),trivial⟩,W⟩
   rw [hb2] at F
   refine Uv tk 4 [0] F W (ai fun a w F W => ?_)
   rcases bxq (decide (p0.un.1 = 3)) with hb3 | hb3
   ·
    rw [hb3] at F
    refine vl tk 8 F W fun a w F W => ?_
    rcases bxq (decide ((p0.un.2.2.2.2.length : Int) < 2)) with hb4 | hb4
    ·
     rw [hb4] at F
     refine vl tk 6 F W fun a w F W => ?_
     refine Az ?_
     exact ⟨F.re ⟨rfl,Aa,Aa,(Mw (by try rw [hb2]; try rw [hb4]; try rw [hb0]; try rw [hb1]; try rw [hb3]; all_goals simp only [MZ])),trivial⟩,W⟩
    rw [hb4] at F
    refine vl tk 6 F W fun a w F W => ?_
    refine Az ?_
    exact ⟨F.re ⟨rfl,Aa,Aa,(Mw (by try rw [hb2]; try rw [hb4]; try rw [hb0]; try rw [hb1]; try rw [hb3]; all_goals simp only [MZ])),trivial⟩,W⟩
   rw [hb3] at F
   refine Uv tk 5 [0] F W (ai fun a w F W => ?_)
   rcases bxq (decide (p0.un.1 = 4)) with hb4 | hb4
   ·
    rw [hb4] at F
    refine vl tk 3 F W fun a w F W => ?_
    rcases bxq (decide ((p0.un.2.2.2.2.length : Int) < 2)) with hb5 | hb5
    ·
     rw [hb5] at F
     refine vl tk 6 F W fun a w F W => ?_
     refine Az ?_
     exact ⟨F.re ⟨rfl,Aa,Aa,(Mw (by try rw [hb2]; try rw [hb5]; try rw [hb0]; try rw [hb1]; try rw [hb3]; try rw [hb4]; all_goals simp only [MZ])),trivial⟩,W⟩
    rw [hb5] at F
    refine vl tk 6 F W fun a w F W => ?_
    refine Az ?_
    exact ⟨F.re ⟨rfl,Aa,Aa,(Mw (by try rw [hb2]; try rw [hb5]; try rw [hb0]; try rw [hb1]; try rw [hb3]; try rw [hb4]; all_goals simp only [MZ])),trivial⟩,W⟩
   rw [hb4] at F
   refine vl tk 9 F W fun a w F W => ?_
   refine Az ?_
   exact ⟨F.re ⟨rfl,Aa,Aa,(Mw (by try rw [hb2]; try rw [hb0]; try rw [hb1]; try rw [hb3]; try rw [hb4]; all_goals simp only [MZ])),trivial⟩,W⟩
  rw [hb1] at F
  refine Uv tk 9 [0] F W (ai fun a w F W => ?_)
  rcases bxq (decide (p0.un.1 = 3)) with hb2 | hb2
  ·
   rw [hb2] at F
   refine vl tk 8 F W fun a w F W => ?_
   rcases bxq (decide ((p0.un.2.2.2.2.length : Int) < 2)) with hb3 | hb3
   ·
    rw [hb3] at F
    refine vl tk 6 F W fun a w F W => ?_
    refine Az ?_
    exact ⟨F.re ⟨rfl,Aa,Aa,(Mw (by try rw [hb3]; try rw [hb0]; try rw [hb1]; try rw [hb2]; all_goals simp only [MZ])),trivial⟩,W⟩
   rw [hb3] at F
   refine vl tk 6 F W fun a w F W => ?_
   refine Az ?_
   exact ⟨F.re ⟨rfl,Aa,Aa,(Mw (by try rw [hb3]; try rw [hb0]; try rw [hb1]; try rw [hb2]; all_goals simp only [MZ])),trivial⟩,W⟩
  rw [hb2] at F
  refine Uv tk 5 [0] F W (ai fun a w F W => ?_)
  rcases bxq (decide (p0.un.1 = 4)) with hb3 | hb3
  ·
   rw [hb3] at F
   refine vl tk 3 F W fun a w F W => ?_
   rcases bxq (decide ((p0.un.2.2.2.2.length : Int) < 2)) with hb4 | hb4
   ·
    rw [hb4] at F
    refine vl tk 6 F W fun a w F W => ?_
    refine Az ?_
    exact ⟨F.re ⟨rfl,Aa,Aa,(Mw (by try rw [hb4]; try rw [hb0]; try rw [hb1]; try rw [hb2]; try rw [hb3]; all_goals simp only [MZ])),trivial⟩,W⟩
   rw [hb4] at F
   refine vl tk 6 F W fun a w F W => ?_
   refine Az ?_
   exact ⟨F.re ⟨rfl,Aa,Aa,(Mw (by try rw [hb4]; try rw [hb0]; try rw [hb1]; try rw [hb2]; try rw [hb3]; all_goals simp only [MZ])),trivial⟩,W⟩
  rw [hb3] at F
  refine vl tk 9 F W fun a w F W => ?_
  refine Az ?_
  exact ⟨F.re ⟨rfl,Aa,Aa,(Mw (by try rw [hb0]; try rw [hb1]; try rw [hb2]; try rw [hb3]; all_goals simp only [MZ])),trivial⟩,W⟩
 rintro a w ⟨F,W⟩
 refine NG F Aa H (fun F H => ?_) fun F H => ?_
 ·
  refine vc tk 5 F W fun a w F W => ?_
  refine De (FW ?_)
  have H := Fj H
  subst H
  refine EE (.inl Aa) F W Aa (DJ F Aa) ?_
  exact ⟨rfl,W.done⟩
 refine E0 (Az ?_)
 obtain ⟨o2,G2,K2,L2⟩ := wB H
 refine Fx (fun a w => some (Sum.inl ()) = some o2 ∧ Fr 130 [] [(2,.bool false)] a ∧ sy Y w0 (W2 b1 p0 v1 v2) [] w) ?_ ?_
 ·
  have H := G2
  refine vc tk 6 F W fun a w F W => ?_
  refine Jf H (fun s a w => Fr 130 [] [(1,pp b1),(2,.bool false),(3,Jint (p0.un.2.2.2.2.length : Int)),(5,Jint s)] a ∧ sy Y w0 (W2 b1 p0 v1 v2) [] w) ⟨F.ra Aa,W⟩ fun s o a w H L3 hR => ?_
  obtain ⟨x4,rfl⟩ : ∃ x,x = s := ⟨s,rfl⟩
  obtain ⟨F,W⟩ := hR
  have F : Fr 130 [] [(1,pp b1),(2,.bool false),(3,Jint (p0.un.2.2.2.2.length : Int)),(5,Jint x4)] a := F
  have W : sy Y w0 (W2 b1 p0 v1 v2) [] w := W
  rw [FI] at H
  refine vc tk 8 F W fun a w F W => ?_
  refine JP F Aa H (fun F H => ?_) fun F H => ?_
  ·
   refine sV tk 9 [0] F W (ai fun a w F W => ?_)
   obtain ⟨x5,h5,H⟩ := Bz H
   obtain ⟨v5,h6,h7⟩ := Uu h2 h5
   have h8 : eA v5 = [Jint x5.un.1,Jint x5.un.2.1.un.1,Jint x5.un.2.1.un.2.1,Jint x5.un.2.1.un.2.2.1,(v5.2.1.2.2.2.1),Jint x5.un.2.2.1,Jint x5.un.2.2.2.1,(v5.2.2.2.2.1)] := congrArg (fun q : Tr27 => ([Jint q.un.1,Jint q.un.2.1.un.1,Jint q.un.2.1.un.2.1,Jint q.un.2.1.un.2.2.1,(v5.2.1.2.2.2.1),Jint q.un.2.2.1,Jint q.un.2.2.2.1,(v5.2.2.2.2.1)] : List Value)) h7
   refine ls F W Aa (Hj (r := j3) L25 F Aa Aa (Dg h_v2) h6).q fun a w F W => ?_
   refine ls F W Aa (EM (y := Value.agg #[Jint x5.un.1,Jint x5.un.2.1.un.1,Jint x5.un.2.1.un.2.1,Jint x5.un.2.1.un.2.2.1,(v5.2.1.2.2.2.1),Jint x5.un.2.2.1,Jint x5.un.2.2.2.1,(v5.2.2.2.2.1)]) (j := 0) (i := x4) (enc := eA) F Aa Aa (Dg h_v2) h6 tS T27 (by rw [h8]; rfl)).q fun a w F W => ?_
   obtain ⟨x6,h9,H⟩ := Bz H
   refine ls F W Aa (Gj (v := Value.bool x6) F H38 Aa (fun w W => ih any w ((v5.2.1.2.2.2.1)) ((v5.2.2.2.2.1)) (Tr27.of (x5.un.1,f24 x5.un.2.1,x5.un.2.2.1,x5.un.2.2.2.1,x5.un.2.2.2.2)) _ h9 (aT (MP (Dg h_v2) h6 (CP.snd (CP.fst (CP.snd (CP.snd (CP.snd CP.here))))) (congrArg (fun q : Tr27 => q.un.2.1.un.2.2.2) h7)) W) (aT (MP (Dg h_v2) h6 (CP.snd (CP.snd (CP.snd (CP.snd CP.here)))) (congrArg (fun q : Tr27 => q.un.2.2.2.2) h7)) W))) fun a w F W => ?_
   refine KR tk 3 F W fun a w F W => ?_
   refine NG F Aa H (fun F H => ?_) fun F H => ?_
   ·
    refine vc tk 5 F W fun a w F W => ?_
    refine De (Ic ?_)
    iterate 2 refine FW ?_
    refine Ic (FW ?_)
    have H := L3 _ H
    have H := L2 _ H
    have H := Fj H
    subst H
    refine EE (.inl Aa) F W Aa (DJ F Aa) ?_
    exact ⟨rfl,W.done⟩
   refine E0 (EF ?_)
   refine vn tk 5 F W fun a w F W => ?_
   refine Az ?_
   exact ⟨_,H,F.ra Aa,W⟩
  refine Hl ?_
  iterate 2 refine KC ?_
  refine GF (Az ?_)
  have H := L3 _ H
  exact ⟨H,F.ra Aa,W⟩
 rintro a w ⟨hj,F,W⟩
 have H := K2 _ hj
 refine vc tk 5 F W fun a w F W => ?_
 refine De ?_
 have H := Fj H
 subst H
 refine EE (.inl Aa) F W Aa (DJ F Aa) ?_
 exact ⟨rfl,W.done⟩
theorem Xb : ∀ (n : Nat) (Y : Nat → Prop) (w0 : World) (v1 : Value) (v2 : Value) (p0 : Tr27) (r : Bool) (H : EA n p0 = some r) (h_v1 : Sl w0 (NX []) Ud v1 p0.un.2.1.un.2.2.2) (h_v2 : Sl w0 (NX []) Xw v2 p0.un.2.2.2.2),ca_ 38 #[.agg #[Jint p0.un.1,Jint p0.un.2.1.un.1,Jint p0.un.2.1.un.2.1,Jint p0.un.2.1.un.2.2.1,v1,Jint p0.un.2.2.1,Jint p0.un.2.2.2.1,v2]] w0 fun e w' => e = .returned (.bool r) ∧ Below w0.heap.size w0 w' := by
  intro n
  induction n with
  | zero => intro Y w0 v1 v2 p0 r H; exact nomatch H
  | succ n ih => intro Y w0 v1 v2 p0 r H h_v1 h_v2; exact VF (EA n) ih Y w0 v1 v2 p0 r H h_v1 h_v2
theorem XJ (Y : Nat → Prop) (w0 : World) (v1 : Value) (v2 : Value) (p0 : Tr27) (r : Bool) (H : O5 p0 = some r) (h_v1 : Sl w0 (NX []) Ud v1 p0.un.2.1.un.2.2.2) (h_v2 : Sl w0 (NX []) Xw v2 p0.un.2.2.2.2) :
    ca_ 38 #[.agg #[Jint p0.un.1,Jint p0.un.2.1.un.1,Jint p0.un.2.1.un.2.1,Jint p0.un.2.1.un.2.2.1,v1,Jint p0.un.2.2.1,Jint p0.un.2.2.2.1,v2]] w0 fun e w' => e = .returned (.bool r) ∧ Below w0.heap.size w0 w' := by
  obtain ⟨n,H⟩ := Lc H
  exact Xb n Y w0 v1 v2 p0 r H h_v1 h_v2
theorem k38 : KO (K38 fun x => O5 x) 38 := KO.of ⟨fun args w => A9 Tryz.func38 rfl (by decide) args w⟩ rfl (fun _ => rfl) (fun _ => rfl) rfl (fun _ => rfl) (fun _ => rfl) (fun _ => rfl) (fun _ => rfl) fun Y w0 x r g H hg hk => (XJ Y w0 g.1 g.2.1 x r H hg.1 hg.2.1).mono fun e w' h => ⟨(),h.1,Stw.ofB h.2⟩
def Ep (fRec : Tr27 → Option Int) (p0 : Tr27) : (Int × Int) → Option ((Int × Int) ⊕ Int)
  | (x2,x3) => (if x3 < (p0.un.2.2.2.2.length : Int) then ((ix p0.un.2.2.2.2 x3).bind fun x5 => (fRec (Tr27.of (x5.un.1,f24 x5.un.2.1,x5.un.2.2.1,x5.un.2.2.2.1,x5.un.2.2.2.2))).bind fun x6 => (if x2 ≤ x6 then (ix p0.un.2.2.2.2 x3).bind fun x7 => (fRec (Tr27.of (x7.un.1,f24 x7.un.2.1,x7.un.2.2.1,x7.un.2.2.2.1,x7.un.2.2.2.2))).bind fun x8 => some (w64 (x8 + 1)) else some x2)).bind fun x4 => some (.inl (x4,w64 (x3 + 1))) else some (.inr x2))
def Gr (fRec : Tr27 → Option Int) (p0 : Tr27) : Option Int := (Ah (Ep fRec p0) (1,0)).bind fun x1 => some x1
def E5 : Nat → Tr27 → Option Int
  | 0 => fun _ => none
  | n + 1 => Gr (E5 n)
def RO (p0 : Tr27) : Option Int := Hc fun n => E5 n p0
theorem k39 : KO (K39 fun x => RO x) 39 := Tp (E := te) (xs := jS) (ys := pA) (bs := []) (io := false) (nn := fun n x => E5 n x) (st := fun g x => Gr g x) Tryz.func39 rfl (by kernel_rfl) (fun _ => rfl) (fun _ => rfl) fun g hg => Eb (ct := (.q (.q (.j (.st false ⟨[(3,false,AG)],[],[]⟩) (.q (.b (.l ⟨[(3,false,AG),(4,false,AG)],[],[]⟩ (.q (.j (.st false ⟨[(3,false,AG)],[],[]⟩) .d .d))))) .d)))) D6 (AH hg BG) Tryz.func39 (by kernel_rfl) fun x => by kernel_rfl
def Ev (fRec : Tr27 → Option Int) (p0 : Tr27) : (Int × Int) → Option ((Int × Int) ⊕ Int)
  | (x4,x5) => (if x5 < (p0.un.2.2.2.2.length : Int) then (ix p0.un.2.2.2.2 x5).bind fun x6 => (fRec (Tr27.of (x6.un.1,f24 x6.un.2.1,x6.un.2.2.1,x6.un.2.2.2.1,x6.un.2.2.2.2))).bind fun x7 => some (.inl (w64 (x4 + x7),w64 (x5 + 1))) else some (.inr x4))
def GB (fRec : Tr27 → Option Int) (p0 : Tr27) : Option Int := (if (decide (p0.un.1 < 2) || decide (4 < p0.un.1)) = true then (KW (f24 p0.un.2.1)).bind fun x2 => some (w64 (1 + x2)) else some 1).bind fun x1 => (Ah (Ev fRec p0) (x1,0)).bind fun x3 => some x3
def E8 : Nat → Tr27 → Option Int
  | 0 => fun _ => none
  | n + 1 => GB (E8 n)
def O8 (p0 : Tr27) : Option Int := Hc fun n => E8 n p0
theorem k22 : KO (K22 fun x => O8 x) 22 := Tp (E := te) (xs := kO) (ys := o7) (bs := []) (io := false) (nn := fun n x => E8 n x) (st := fun g x => GB g x) Tryz.func22 rfl (by kernel_rfl) (fun _ => rfl) (fun _ => rfl) fun g hg => Eb (ct := (.q (.q (.j (.st false ⟨[(3,false,AG)],[],[]⟩) (.j (.bl [12]) .d .d) (.j (.st false ⟨[(3,false,AG)],[],[]⟩) (.q (.b (.l ⟨[(3,false,AG),(4,false,AG)],[],[]⟩ .d))) .d))))) D6 (AH hg (AH k52 BG)) Tryz.func22 (by kernel_rfl) fun x => by kernel_rfl
def J6 (p0 : Int) : Int := (if 1000 < p0 then 1000 else p0)
noncomputable def b69 : Code := (Tryz.f69.body).getD .skip
def Aae : Ct := .d
abbrev K69 : Cn_ := ⟨uX,u0,[],false,fun x => some (J6 x),some ⟨fun x => J6 x,fun _ => rfl⟩⟩
theorem v69 (x : Int) : @Eq (Option Int) (dF te sA ([] : Hz te Tryz.prog) 6 b69 Aae uX u0 [] false [.tmp 2] x).den (some (J6 x)) := by simp only [J6,apply_ite (some : Int → _)]; kernel_rfl
theorem k69 : KO (K69) 69 := dK D6 BG Tryz.func69 (by kernel_rfl) Tryz.ntmps69 rfl rfl rfl (by kernel_rfl) v69
def Eu (fRec : Tr27 → Option Int) (p0 : Tr27) : (Int × Int) → Option ((Int × Int) ⊕ Int)
  | (x3,x4) => (if x4 < (p0.un.2.2.2.2.length : Int) then ((ix p0.un.2.2.2.2 x4).bind fun x6 => (fRec (Tr27.of (x6.un.1,f24 x6.un.2.1,x6.un.2.2.1,x6.un.2.2.2.1,x6.un.2.2.2.2))).bind fun x7 => (if p0.un.1 = 3 then some (J6 (w64 (x3 * x7))) else some x3).bind fun x8 => (if p0.un.1 = 4 then some (J6 (w64 (x8 + x7))) else some x8).bind fun x9 => (if (decide (p0.un.1 = 5) && decide (x9 < x7)) = true then some x7 else some x9)).bind fun x5 => some (.inl (x5,w64 (x4 + 1))) else some (.inr x3))
def Gv (fRec : Tr27 → Option Int) (p0 : Tr27) : Option Int := (if (decide (p0.un.1 < 3) || decide (5 < p0.un.1)) = true then some 1 else (if p0.un.1 = 3 then some 1 else some 0).bind fun x1 => (Ah (Eu fRec p0) (x1,0)).bind fun x2 => some x2)
def EH : Nat → Tr27 → Option Int
  | 0 => fun _ => none
  | n + 1 => Gv (EH n)
def SG (p0 : Tr27) : Option Int := Hc fun n => EH n p0
theorem k40 : KO (K40 fun x => SG x) 40 := Tp (E := te) (xs := iU) (ys := rP) (bs := []) (io := false) (nn := fun n x => EH n x) (st := fun g x => Gv g x) Tryz.func40 rfl (by kernel_rfl) (fun _ => rfl) (fun _ => rfl) fun g hg => Eb (ct := (.q (.s (.j (.bl [13]) .d .d) (.q (.j (.st false ⟨[(3,false,AG)],[],[]⟩) .d (.j (.st false ⟨[(3,false,AG)],[],[]⟩) (.q (.b (.l ⟨[(3,false,AG),(4,false,AG)],[],[]⟩ (.q (.j (.st false ⟨[(3,false,AG)],[],[]⟩) (.b (.q (.j (.st false ⟨[(3,false,AG)],[],[]⟩) .d (.j (.st false ⟨[(3,false,AG)],[],[]⟩) .d (.j (.bl [51]) .d .d))))) .d))))) .d)))))) D6 (AH hg (AH k69 BG)) Tryz.func40 (by kernel_rfl) fun x => by kernel_rfl
def Nj (p0 : Tr27) : Option Bool := ((O5 (Tr27.of (p0.un.1,f24 p0.un.2.1,p0.un.2.2.1,p0.un.2.2.2.1,p0.un.2.2.2.2))).bind fun x2 => (if x2 = true then (RO (Tr27.of (p0.un.1,f24 p0.un.2.1,p0.un.2.2.1,p0.un.2.2.2.1,p0.un.2.2.2.2))).bind fun x3 => (if x3 ≤ 8 then (O8 (Tr27.of (p0.un.1,f24 p0.un.2.1,p0.un.2.2.1,p0.un.2.2.2.1,p0.un.2.2.2.2))).bind fun x4 => (if x4 ≤ 64 then (SG (Tr27.of (p0.un.1,f24 p0.un.2.1,p0.un.2.2.1,p0.un.2.2.2.1,p0.un.2.2.2.2))).bind fun x5 => some (decide (x5 ≤ 64)) else some false) else some false) else some false)).bind fun x1 => some x1
abbrev K15 : Cn_ := ⟨[T6],[KS],[],false,fun x => Nj x,none⟩
theorem k15 : KO (K15) 15 := Eb (ct := (.q (.j (.st false ⟨[(2,false,Ea)],[],[]⟩) .d .d))) D6 (AH k38 (AH k39 (AH k22 (AH k40 BG)))) Tryz.func15 (by kernel_rfl) fun x => by kernel_rfl
def EX (fRec : Tr24 → Int → Int → Option Bool) (p0 : Tr24) (p1 : Int) (p2 : Int) : Int → Option (Int ⊕ (Unit ⊕ Bool))
  | x1 => (if x1 < (p0.un.2.2.2.length : Int) then (ix p0.un.2.2.2 x1).bind fun x2 => (fRec x2 p1 p2).bind fun x3 => (if x3 = true then some (.inr (.inr true)) else some (.inl (w64 (x1 + 1)))) else some (.inr (.inl ())))
def EY (fRec : Tr24 → Int → Int → Option Bool) (p0 : Tr24) (p1 : Int) (p2 : Int) : Option Bool := (if (decide (p0.un.1 = 3) && (decide (p0.un.2.1 = p1) && decide (p0.un.2.2.1 = p2))) = true then some true else GO (Ah (EX fRec p0 p1 p2) 0) fun _ => some false)
def FX : Nat → Tr24 → Int → Int → Option Bool
  | 0 => fun _ _ _ => none
  | n + 1 => EY (FX n)
def MS (p0 : Tr24) (p1 : Int) (p2 : Int) : Option Bool := Hc fun n => FX n p0 p1 p2
def LZ (fRec : Tr24 → Int → Int → Option Bool) (p0 : Tr24) (p1 : Int) (p2 : Int) : Int → Option (Int ⊕ (Unit ⊕ Bool))
  | x1 => (if x1 < (p0.un.2.2.2.length : Int) then (ix p0.un.2.2.2 x1).bind fun x2 => (fRec (f24 x2) p1 p2).bind fun x3 => (if x3 = true then some (.inr (.inr true)) else some (.inl (w64 (x1 + 1)))) else some (.inr (.inl ())))
theorem TN : @LZ = @EX := by
 unfold LZ EX
 simp only [Tr24.re_eq]
def PN (fRec : Tr24 → Int → Int → Option Bool) (p0 : Tr24) (p1 : Int) (p2 : Int) : Option Bool := (if (decide (p0.un.1 = 3) && (decide (p0.un.2.1 = p1) && decide (p0.un.2.2.1 = p2))) = true then some true else GO (Ah (LZ fRec p0 p1 p2) 0) fun _ => some false)
theorem T1 : @PN = @EY := by
 unfold PN EY
 simp only [TN]
theorem k78 : KO (K78 fun x => MS x.1 x.2.1 x.2.2) 78 := Tp (E := te) (xs := lF) (ys := rV) (bs := []) (io := false) (nn := fun n x => FX n x.1 x.2.1 x.2.2) (st := fun g x => EY (fun yp0 yp1 yp2 => g (yp0,yp1,yp2)) x.1 x.2.1 x.2.2) Tryz.func78 rfl (by kernel_rfl) (fun _ => rfl) (fun _ => rfl) fun g hg => Eb (ct := (.q (.s (.j (.bl [22]) .d .d) (.j (.st true ⟨[],[],[]⟩) (.q (.b (.l ⟨[(7,false,AG)],[],[]⟩ .d))) .d)))) D6 (AH hg BG) Tryz.func78 (by kernel_rfl) fun x => by rw [← T1]; kernel_rfl
def Hp (fRec : Tr27 → Int → Int → Option Bool) (p0 : Tr27) (p1 : Int) (p2 : Int) : Int → Option (Int ⊕ (Unit ⊕ Bool))
  | x5 => (if x5 < (p0.un.2.2.2.2.length : Int) then (ix p0.un.2.2.2.2 x5).bind fun x6 => (fRec (Tr27.of (x6.un.1,f24 x6.un.2.1,x6.un.2.2.1,x6.un.2.2.2.1,x6.un.2.2.2.2)) p1 p2).bind fun x7 => (if x7 = true then some (.inr (.inr true)) else some (.inl (w64 (x5 + 1)))) else some (.inr (.inl ())))
def HE (fRec : Tr27 → Int → Int → Option Bool) (p0 : Tr27) (p1 : Int) (p2 : Int) : Option Bool := (if p0.un.1 = 2 then (if p0.un.2.2.1 = p1 then (if p0.un.2.2.2.1 = p2 then some true else (MS (f24 p0.un.2.1) p1 p2).bind fun x2 => some x2) else (MS (f24 p0.un.2.1) p1 p2).bind fun x3 => some x3) else (MS (f24 p0.un.2.1) p1 p2).bind fun x4 => some x4).bind fun x1 => (if x1 = true then some true else GO (Ah (Hp fRec p0 p1 p2) 0) fun _ => some false)
def GD : Nat → Tr27 → Int → Int → Option Bool
  | 0 => fun _ _ _ => none
  | n + 1 => HE (GD n)
def Vk (p0 : Tr27) (p1 : Int) (p2 : Int) : Option Bool := Hc fun n => GD n p0 p1 p2
theorem k51 : KO (K51 fun x => Vk x.1 x.2.1 x.2.2) 51 := Tp (E := te) (xs := jN) (ys := qB) (bs := []) (io := false) (nn := fun n x => GD n x.1 x.2.1 x.2.2) (st := fun g x => HE (fun yp0 yp1 yp2 => g (yp0,yp1,yp2)) x.1 x.2.1 x.2.2) Tryz.func51 rfl (by kernel_rfl) (fun _ => rfl) (fun _ => rfl) fun g hg => Eb (ct := (.q (.s (.j (.st false ⟨[(29,false,Ea)],[],[]⟩) .d .d) (.j (.st true ⟨[],[],[]⟩) (.q (.b (.l ⟨[(7,false,AG)],[],[]⟩ .d))) .d)))) D6 (AH hg (AH k78 BG)) Tryz.func51 (by kernel_rfl) fun x => by kernel_rfl
theorem s8 : type_of% Tryz.underlying62 := Tryz.underlying62
theorem Z3 : (Tryz.prog.info? 3).bind (·.zero) = some (Jint 0) := by kernel_rfl
theorem L62 : Et Tryz.prog 62 3 1 8 := Et.of s8 (by kernel_rfl) (by kernel_rfl) (by kernel_rfl) (by decide)
def Hh (p0 : Tr27) (p1 : Int) : (List Int × Int) → Option ((List Int × Int) ⊕ (List Int))
  | (x2,x3) => (if x3 ≤ (Cg p1) then ((Vk (Tr27.of (p0.un.1,f24 p0.un.2.1,p0.un.2.2.1,p0.un.2.2.2.1,p0.un.2.2.2.2)) p1 x3).bind fun x5 => (if x5 = true then (HT x2 ([x3] : List Int)).bind fun x6 => some x6 else some x2)).bind fun x4 => some (.inl (x4,w64 (x3 + 1))) else some (.inr x2))
def LU (p0 : Tr27) (p1 : Int) : Option (List Int) := (Ah (Hh p0 p1) ([],0)).bind fun x1 => some x1
abbrev K21 : Cn_ := ⟨[T6,DT],[WB],[],false,fun x => LU x.1 x.2,none⟩
theorem k21 : KO (K21) 21 := Eb (ct := (.q (.q (.j (.st false ⟨[(5,false,Vp)],[],[]⟩) (.q (.b (.l ⟨[(5,false,Vp),(6,false,AG)],[],[]⟩ (.q (.j (.st false ⟨[(5,false,Vp)],[],[]⟩) .d .d))))) .d)))) D6 (AH k50 (AH k51 BG)) Tryz.func21 (by kernel_rfl) fun x => by kernel_rfl
def Iz (p0 : Tr27) : (Int × Int) → Option ((Int × Int) ⊕ (Unit ⊕ Bool))
  | (x1,x2) => (if x2 < 5 then (LU (Tr27.of (p0.un.1,f24 p0.un.2.1,p0.un.2.2.1,p0.un.2.2.2.1,p0.un.2.2.2.2)) x2).bind fun x3 => (if 300 < (w64 (x1 * (w64 ((x3.length : Int) + 1)))) then some (.inr (.inr false)) else some (.inl (w64 (x1 * (w64 ((x3.length : Int) + 1))),w64 (x2 + 1)))) else some (.inr (.inl ())))
def Q6 (p0 : Tr27) : Option Bool := GO (Ah (Iz p0) (1,0)) fun _ => (O8 (Tr27.of (p0.un.1,f24 p0.un.2.1,p0.un.2.2.1,p0.un.2.2.2.1,p0.un.2.2.2.2))).bind fun x4 => some (decide (x4 ≤ 150))
abbrev K6 : Cn_ := ⟨[T6],[KS],[],false,fun x => Q6 x,none⟩
theorem k6 : KO (K6) 6 := Eb (ct := (.q (.q (.j (.st true ⟨[],[],[]⟩) (.q (.b (.l ⟨[(3,false,AG),(4,false,AG)],[],[]⟩ .d))) .d)))) D6 (AH k22 (AH k21 BG)) Tryz.func6 (by kernel_rfl) fun x => by kernel_rfl
theorem qV : type_of% Tryz.underlying39 := Tryz.underlying39
theorem B41 : Bt Tryz.prog 41 [Jint 0,Jint 0,Jint 0,Jint 0,.slice none 0 0,Jint 0,Jint 0,.slice none 0 0] [(0,1),(1,4),(5,1),(6,1),(7,1)] := ⟨⟨.agg #[Jint 0,Jint 0,Jint 0,Jint 0,.slice none 0 0,Jint 0,Jint 0,.slice none 0 0],by kernel_rfl,rfl⟩,⟨_,kB,fun w => by kernel_rfl⟩⟩
theorem sC : (Tryz.prog.info? 41).bind (·.zero) = some (.agg #[Jint 0,Jint 0,Jint 0,Jint 0,.slice none 0 0,Jint 0,Jint 0,.slice none 0 0]) := by kernel_rfl
theorem lA : Ty Tryz.prog 41 true 8 := ⟨by kernel_rfl,by kernel_rfl⟩
theorem xS : Et Tryz.prog 39 41 8 96 := Et.of qV (by kernel_rfl) (by kernel_rfl) (by kernel_rfl) (by decide)
abbrev lR : Rp (Int × Int × Int × (Value × List Tr38)) := (Rp.pair ri (Rp.pair ri (Rp.pair ri (Rp.vsl Lv))))
abbrev Aaz (p : Int × Int × Int × (Value × List Tr38)) : Tr38 := (Tr38.of (p.1,p.2.1,p.2.2.1,p.2.2.2.2))
theorem RI : Ex Lv lR Aaz := (Ex.knot eH (of := Tr38.of) (fun _ => rfl) (fun x => by cases x; rfl) (Ex.pair Ex.rfl' (Ex.pair Ex.rfl' (Ex.pair Ex.rfl' Ex.sliceF))))
abbrev cW : Rp (Int × (Int × Int × Int × (Value × List Tr38)) × Int × Int × (Value × List Tr41)) := (Rp.pair ri (Rp.pair lR (Rp.pair ri (Rp.pair ri (Rp.vsl LD)))))
abbrev Aai (p : Int × (Int × Int × Int × (Value × List Tr38)) × Int × Int × (Value × List Tr41)) : Tr41 := (Tr41.of (p.1,(Tr38.of (p.2.1.1,p.2.1.2.1,p.2.1.2.2.1,p.2.1.2.2.2.2)),p.2.2.1,p.2.2.2.1,p.2.2.2.2.2))
theorem O0 : Ex LD cW Aai := (Ex.knot jM (of := Tr41.of) (fun _ => rfl) (fun x => by cases x; rfl) (Ex.pair Ex.rfl' (Ex.pair (Ex.knot eH (of := Tr38.of) (fun _ => rfl) (fun x => by cases x; rfl) (Ex.pair Ex.rfl' (Ex.pair Ex.rfl' (Ex.pair Ex.rfl' Ex.sliceF)))) (Ex.pair Ex.rfl' (Ex.pair Ex.rfl' Ex.sliceF)))))
def Ab (fRec_pred_Same : Tr38 → Tr38 → Option Bool) (p0 : List Tr38) (p1 : List Tr38) : Int → Option (Int ⊕ (Unit ⊕ Bool))
  | x1 => (if x1 < (p0.length : Int) then (ix p0 x1).bind fun x2 => (ix p1 x1).bind fun x3 => (fRec_pred_Same x2 x3).bind fun x4 => (if (!x4) = true then some (.inr (.inr false)) else some (.inl (w64 (x1 + 1)))) else some (.inr (.inl ())))
def Af (fRec_pred_Same : Tr38 → Tr38 → Option Bool) (p0 : List Tr38) (p1 : List Tr38) : Option Bool := (if (p0.length : Int) ≠ (p1.length : Int) then some false else GO (Ah (Ab fRec_pred_Same p0 p1) 0) fun _ => some true)
def Bv (fRec_pred_Same : Tr38 → Tr38 → Option Bool) (p0 : List Tr38) (p1 : List Tr38) : Int → Option (Int ⊕ (Unit ⊕ Bool))
  | x1 => (if x1 < (p0.length : Int) then (ix p0 x1).bind fun x2 => (ix p1 x1).bind fun x3 => (fRec_pred_Same (f38 x2) (f38 x3)).bind fun x4 => (if (!x4) = true then some (.inr (.inr false)) else some (.inl (w64 (x1 + 1)))) else some (.inr (.inl ())))
theorem Dz : @Bv = @Ab := by
 unfold Bv Ab
 simp only [Tr38.re_eq]
def Cv (fRec_pred_Same : Tr38 → Tr38 → Option Bool) (p0 : List Tr38) (p1 : List Tr38) : Option Bool := (if (p0.length : Int) ≠ (p1.length : Int) then some false else GO (Ah (Bv fRec_pred_Same p0 p1) 0) fun _ => some true)
theorem DX : @Cv = @Af := by
 unfold Cv Af
 simp only [Dz]
abbrev AaO (h136 : TT te.c (Do Uw []) → Option (TT te.c (I0 Uw ZC [] false))) : Cn_ := ⟨[Vn,Vn,(.b false,[.d true (.fn 136)])],[KS],[],false,fun x => Af (fun yp0 yp1 => h136 (yp0,yp1)) x.1 x.2.1,none⟩
theorem yN (h136) (kh136 : KO (uS h136) 136) : KO (AaO h136) 146 := Eb (ct := (.q (.q (.j (.st true ⟨[],[],[]⟩) (.q (.b (.l ⟨[(17,false,AG)],[],[]⟩ .d))) .d)))) D6 (AH kh136 BG) Tryz.func146 (by kernel_rfl) fun x => by rw [← DX]; kernel_rfl
def Ek (fRec : Tr38 → Tr38 → Option Bool) (p0 : Tr38) (p1 : Tr38) : Option Bool := (if p0.un.1 = p1.un.1 then (if p0.un.2.1 = p1.un.2.1 then (if p0.un.2.2.1 = p1.un.2.2.1 then ((Af fRec) p0.un.2.2.2 p1.un.2.2.2).bind fun x2 => some x2 else some false) else some false) else some false).bind fun x1 => some x1
def D9 : Nat → Tr38 → Tr38 → Option Bool
  | 0 => fun _ _ => none
  | n + 1 => Ek (D9 n)
def KT (p0 : Tr38) (p1 : Tr38) : Option Bool := Hc fun n => D9 n p0 p1
theorem AaU : KO (uS fun x => KT x.1 x.2) 136 := Tp (E := te) (xs := Uw) (ys := ZC) (bs := []) (io := false) (nn := fun n x => D9 n x.1 x.2) (st := fun g x => Ek (fun yp0 yp1 => g (yp0,yp1)) x.1 x.2) Tryz.func136 rfl (by kernel_rfl) (fun _ => rfl) (fun _ => rfl) fun g hg => Eb (ct := (.q (.j (.st false ⟨[(4,false,Ea)],[],[]⟩) .d .d))) D6 (AH hg (AH (yN _ hg) BG)) Tryz.func136 (by kernel_rfl) fun x => by kernel_rfl
def Ew (p0 : Tr38) : Option Bool := (KT p0 (Tr38.of (0,0,0,([] : List Tr38)))).bind fun x1 => some x1
def MV (p0 : Tr38) : Option Bool := (KT (f38 p0) (Tr38.of (0,0,0,([] : List Tr38)))).bind fun x1 => some x1
theorem Qy : @MV = @Ew := by
 unfold MV Ew
 simp only [Tr38.re_eq]
abbrev z6 : Cn_ := ⟨[Ol],[KS],[],false,fun x => Ew x,none⟩
theorem z8 : KO (z6) 106 := Eb (ct := .d) D6 (AH AaU BG) Tryz.func106 (by kernel_rfl) fun x => by rw [← Qy]; kernel_rfl
theorem xM : Ty Tryz.prog 39 false 1 := ⟨by kernel_rfl,by kernel_rfl⟩
def HQ (p0 : Int) : Option Int := (if p0 = 0 then some true else (if p0 = 1 then some true else some (decide (p0 = 3)))).bind fun x1 => (if x1 = true then some 8 else (if p0 = 2 then some 4 else some 0))
abbrev AaJ : Cn_ := ⟨[DT],[JR],[],false,fun x => HQ x,none⟩
theorem zR : KO (AaJ) 147 := Eb (ct := (.q (.s (.q (.b (.j (.st false ⟨[(4,false,Ea)],[],[]⟩) .d .d))) .d))) D6 BG Tryz.func147 (by kernel_rfl) fun x => by kernel_rfl
def Hq (p0 : Int) : Option Int := (HQ p0).bind fun x1 => (j7 (JW .i64 1 x1) x1).bind fun x2 => some (w64 (x2 - 1))
abbrev AaP : Cn_ := ⟨[DT],[JR],[],false,fun x => Hq x,none⟩
theorem sP : KO (AaP) 137 := Eb (ct := .d) D6 (AH zR BG) Tryz.func137 (by kernel_rfl) fun x => by kernel_rfl
def Jz (p0 : Int) : Option Int := (if (decide (p0 = 4) || decide (p0 = 5)) = true then some 7 else (Hq p0).bind fun x1 => some x1)
abbrev yO : Cn_ := ⟨[DT],[JR],[],false,fun x => Jz x,none⟩
theorem tI : KO (yO) 107 := Eb (ct := (.q (.s (.j (.bl [8]) .d .d) .d))) D6 (AH sP BG) Tryz.func107 (by kernel_rfl) fun x => by kernel_rfl
abbrev X8 (a0 : Tr41) (a1 : Value) (a2 : Value) : List Value := [Jint a0.un.1,Jint a0.un.2.1.un.1,Jint a0.un.2.1.un.2.1,Jint a0.un.2.1.un.2.2.1,a1,Jint a0.un.2.2.1,Jint a0.un.2.2.2.1,a2]
def HI (p0 : Tr41) : Option Bool := (if p0.un.1 = 2 then ((Ew (f38 p0.un.2.1)).bind fun x2 => (if x2 = true then (if (p0.un.2.2.2.2.length : Int) = 0 then (if 0 ≤ p0.un.2.2.1 then (if p0.un.2.2.1 ≤ 4 then (if 0 ≤ p0.un.2.2.2.1 then (Jz p0.un.2.2.1).bind fun x3 => some (decide (p0.un.2.2.2.1 ≤ x3)) else some false) else some false) else some false) else some false) else some false)).bind fun x1 => some x1 else (if (decide (p0.un.2.2.1 ≠ 0) || decide (p0.un.2.2.2.1 ≠ 0)) = true then some false else (if p0.un.1 = 1 then some (decide ((p0.un.2.2.2.2.length : Int) = 0)) else (if p0.un.1 = 3 then some true else some (decide (p0.un.1 = 4))).bind fun x4 => (if x4 = true then ((Ew (f38 p0.un.2.1)).bind fun x6 => (if x6 = true then (if 2 ≤ (p0.un.2.2.2.2.length : Int) then some (decide ((p0.un.2.2.2.2.length : Int) ≤ 8)) else some false) else some false)).bind fun x5 => some x5 else (if p0.un.1 = 5 then some (decide ((p0.un.2.2.2.2.length : Int) = 2)) else some false)))))
abbrev K79 : Cn_ := ⟨[Yh],[KS],[],false,fun x => HI x,none⟩
theorem k79 : KO (K79) 79 := Eb (ct := (.q (.s (.q (.c (.j (.st false ⟨[(2,false,Ea)],[],[]⟩) .d .d) .d)) (.s (.j (.bl [45]) .d .d) (.s (.q (.b (.q (.c .d (.j (.st false ⟨[(54,false,Ea)],[],[]⟩) .d (.c (.j (.st false ⟨[(2,false,Ea)],[],[]⟩) .d .d) .d)))))) .d))))) D6 (AH z8 (AH tI BG)) Tryz.func79 (by kernel_rfl) fun x => by kernel_rfl
def D2 (p0 : Int) : Bool := (decide (0 ≤ p0) && decide (p0 ≤ 5))
abbrev AaC : Cn_ := ⟨[DT],[KS],[],false,fun x => some (D2 x),some ⟨fun x => D2 x,fun _ => rfl⟩⟩
theorem rT : KO (AaC) 131 := Eb (ct := (.q (.j (.bl [2]) .d .d))) D6 BG Tryz.func131 (by kernel_rfl) fun x => by kernel_rfl
def Iw (p0 : Tr38) : Option Bool := (if p0.un.1 = 3 then (if (D2 p0.un.2.1) = true then (if 0 ≤ p0.un.2.2.1 then (Jz p0.un.2.1).bind fun x2 => (if p0.un.2.2.1 ≤ x2 then some (decide ((p0.un.2.2.2.length : Int) = 0)) else some false) else some false) else some false).bind fun x1 => some x1 else (if (decide (p0.un.2.1 ≠ 0) || decide (p0.un.2.2.1 ≠ 0)) = true then some false else (if p0.un.1 = 1 then some true else some (decide (p0.un.1 = 2))).bind fun x3 => (if x3 = true then some (decide ((p0.un.2.2.2.length : Int) = 0)) else (if p0.un.1 = 4 then some (decide ((p0.un.2.2.2.length : Int) = 1)) else (if p0.un.1 = 5 then some true else some (decide (p0.un.1 = 6))).bind fun x4 => (if x4 = true then some (decide (2 ≤ (p0.un.2.2.2.length : Int)) && decide ((p0.un.2.2.2.length : Int) ≤ 8)) else some false)))))
abbrev Aah : Cn_ := ⟨[Ol],[KS],[],false,fun x => Iw x,none⟩
theorem AaK : KO (Aah) 138 := Eb (ct := (.q (.s (.q (.c (.j (.st false ⟨[(2,false,Ea)],[],[]⟩) .d .d) .d)) (.s (.j (.bl [35]) .d .d) (.s (.q (.b (.j (.st false ⟨[(38,false,Ea)],[],[]⟩) .d (.c .d (.q (.c .d (.j (.st false ⟨[(51,false,Ea)],[],[]⟩) .d (.c (.j (.bl [2]) .d .d) .d)))))))) .d))))) D6 (AH tI (AH rT BG)) Tryz.func138 (by kernel_rfl) fun x => by kernel_rfl
def AJ (fRec : Int → Tr38 → Int → Option (Bool × Int)) (p1 : Tr38) (p2 : Int) : (Int × Int) → Option ((Int × Int) ⊕ (Int ⊕ (Bool × Int)))
  | (x4,x5) => (if x4 < (p1.un.2.2.2.length : Int) then (ix p1.un.2.2.2 x4).bind fun x6 => (fRec x5 x6 (w64 (p2 - 1))).bind fun x7 => (if (!x7.1) = true then some (.inr (.inr (false,x7.2))) else some (.inl (w64 (x4 + 1),x7.2))) else some (.inr (.inl x5)))
def BA (fRec : Int → Tr38 → Int → Option (Bool × Int)) (p0 : Int) (p1 : Tr38) (p2 : Int) : Option (Bool × Int) := (if (w64 (p0 - 1)) < 0 then some true else (if p2 < 1 then some true else (Iw p1).bind fun x2 => some (!x2))).bind fun x1 => (if x1 = true then some (false,w64 (p0 - 1)) else GO (Ah (AJ fRec p1 p2) (0,w64 (p0 - 1))) fun x3 => some (true,x3))
def AR : Nat → Int → Tr38 → Int → Option (Bool × Int)
  | 0 => fun _ _ _ => none
  | n + 1 => BA (AR n)
def DZ (p0 : Int) (p1 : Tr38) (p2 : Int) : Option (Bool × Int) := Hc fun n => AR n p0 p1 p2
def FP (fRec : Int → Tr38 → Int → Option (Bool × Int)) (p1 : Tr38) (p2 : Int) : (Int × Int) → Option ((Int × Int) ⊕ (Int ⊕ (Bool × Int)))
  | (x4,x5) => (if x4 < (p1.un.2.2.2.length : Int) then (ix p1.un.2.2.2 x4).bind fun x6 => (fRec x5 (f38 x6) (w64 (p2 - 1))).bind fun x7 => (if (!x7.1) = true then some (.inr (.inr (false,x7.2))) else some (.inl (w64 (x4 + 1),x7.2))) else some (.inr (.inl x5)))
theorem LF : @FP = @AJ := by
 unfold FP AJ
 simp only [Tr38.re_eq]
def Id (fRec : Int → Tr38 → Int → Option (Bool × Int)) (p0 : Int) (p1 : Tr38) (p2 : Int) : Option (Bool × Int) := (if (w64 (p0 - 1)) < 0 then some true else (if p2 < 1 then some true else (Iw (f38 p1)).bind fun x2 => some (!x2))).bind fun x1 => (if x1 = true then some (false,w64 (p0 - 1)) else GO (Ah (FP fRec p1 p2) (0,w64 (p0 - 1))) fun x3 => some (true,x3))
theorem KU : @Id = @BA := by
 unfold Id BA
 simp only [LF,Tr38.re_eq]
theorem Aa1 : KO (Aaw fun x => DZ x.2.2 x.1 x.2.1) 108 := Tp (E := te) (xs := Zx) (ys := dE) (bs := [(true,AG)]) (io := false) (nn := fun n x => AR n x.2.2 x.1 x.2.1) (st := fun g x => BA (fun yp0 yp1 yp2 => g (yp1,yp2,yp0)) x.2.2 x.1 x.2.1) Tryz.func108 rfl (by kernel_rfl) (fun _ => rfl) (fun _ => rfl) fun g hg => Eb (ct := (.q (.q (.s (.j (.st false ⟨[(29,false,Ea)],[],[]⟩) .d .d) (.j (.st true ⟨[],[(0,[some (.d false I3)])],[]⟩) (.q (.b (.l ⟨[(33,false,AG)],[(0,[some (.d false I3)])],[]⟩ .d))) .d))))) D6 (AH hg (AH AaK BG)) Tryz.func108 (by kernel_rfl) fun x => by rw [← KU]; kernel_rfl
def FO (p0 : Tr38) : Option Bool := (DZ 64 p0 8).bind fun x1 => some x1.1
def Qm (p0 : Tr38) : Option Bool := (DZ 64 (f38 p0) 8).bind fun x1 => some x1.1
theorem VG : @Qm = @FO := by
 unfold Qm FO
 simp only [Tr38.re_eq]
abbrev K80 : Cn_ := ⟨[Ol],[KS],[],false,fun x => FO x,none⟩
theorem k80 : KO (K80) 80 := Eb (ct := .d) D6 (AH Aa1 BG) Tryz.func80 (by kernel_rfl) fun x => by rw [← VG]; kernel_rfl
def CY (fRec : Tr38 → Option Int) (p0 : Tr38) : (Int × Int) → Option ((Int × Int) ⊕ Int)
  | (x2,x3) => (if x3 < (p0.un.2.2.2.length : Int) then (ix p0.un.2.2.2 x3).bind fun x4 => (fRec x4).bind fun x5 => some (.inl (w64 (x2 + x5),w64 (x3 + 1))) else some (.inr x2))
def Dm (fRec : Tr38 → Option Int) (p0 : Tr38) : Option Int := (Ah (CY fRec p0) (1,0)).bind fun x1 => some x1
def DC : Nat → Tr38 → Option Int
  | 0 => fun _ => none
  | n + 1 => Dm (DC n)
def LC (p0 : Tr38) : Option Int := Hc fun n => DC n p0
def KA (fRec : Tr38 → Option Int) (p0 : Tr38) : (Int × Int) → Option ((Int × Int) ⊕ Int)
  | (x2,x3) => (if x3 < (p0.un.2.2.2.length : Int) then (ix p0.un.2.2.2 x3).bind fun x4 => (fRec (f38 x4)).bind fun x5 => some (.inl (w64 (x2 + x5),w64 (x3 + 1))) else some (.inr x2))
theorem RL : @KA = @CY := by
 unfold KA CY
 simp only [Tr38.re_eq]
def N1 (fRec : Tr38 → Option Int) (p0 : Tr38) : Option Int := (Ah (KA fRec p0) (1,0)).bind fun x1 => some x1
theorem Sg : @N1 = @Dm := by
 unfold N1 Dm
 simp only [RL]
theorem k81 : KO (K81 fun x => LC x) 81 := Tp (E := te) (xs := l5) (ys := qK) (bs := []) (io := false) (nn := fun n x => DC n x) (st := fun g x => Dm g x) Tryz.func81 rfl (by kernel_rfl) (fun _ => rfl) (fun _ => rfl) fun g hg => Eb (ct := (.q (.q (.j (.st false ⟨[(3,false,AG)],[],[]⟩) (.q (.b (.l ⟨[(3,false,AG),(9,false,AG)],[],[]⟩ .d))) .d)))) D6 (AH hg BG) Tryz.func81 (by kernel_rfl) fun x => by rw [← Sg]; kernel_rfl
abbrev fD (a : Int × (Int × Int × Int × (Value × List Tr38)) × Int × Int × (Value × List Tr41)) : List Value := [Jint a.1,Jint a.2.1.1,Jint a.2.1.2.1,Jint a.2.1.2.2.1,a.2.1.2.2.2.1,Jint a.2.2.1,Jint a.2.2.2.1,a.2.2.2.2.1]
theorem wL : G8 cW fD := (G8.pair Fl.int.to (G8.pair (G8.pair Fl.int.to (G8.pair Fl.int.to (G8.pair Fl.int.to G8.vsl))) (G8.pair Fl.int.to (G8.pair Fl.int.to G8.vsl))))
abbrev W6  : List Value := [Jint 0,Jint 0,Jint 0,Jint 0,.slice none 0 0,Jint 0,Jint 0,.slice none 0 0]
def AC (fRec : Int → Tr41 → Int → Option (Bool × Int)) (p1 : Tr41) (p2 : Int) : (Int × Int) → Option ((Int × Int) ⊕ (Int ⊕ (Bool × Int)))
  | (x7,x8) => (if x7 < (p1.un.2.2.2.2.length : Int) then (ix p1.un.2.2.2.2 x7).bind fun x9 => (fRec x8 (Tr41.of (x9.un.1,f38 x9.un.2.1,x9.un.2.2.1,x9.un.2.2.2.1,x9.un.2.2.2.2)) (w64 (p2 - 1))).bind fun x10 => (if (!x10.1) = true then some (.inr (.inr (false,x10.2))) else some (.inl (w64 (x7 + 1),x10.2))) else some (.inr (.inl x8)))
def BR (fRec : Int → Tr41 → Int → Option (Bool × Int)) (p0 : Int) (p1 : Tr41) (p2 : Int) : Option (Bool × Int) := (if p0 < 1 then some true else (if p2 < 1 then some true else (HI (Tr41.of (p1.un.1,f38 p1.un.2.1,p1.un.2.2.1,p1.un.2.2.2.1,p1.un.2.2.2.2))).bind fun x2 => some (!x2))).bind fun x1 => (if x1 = true then some (false,p0) else GO (if (decide (p1.un.1 = 1) || decide (p1.un.1 = 5)) = true then (FO (f38 p1.un.2.1)).bind fun x4 => (if (!x4) = true then some (.inr (false,w64 (p0 - 1))) else (LC (f38 p1.un.2.1)).bind fun x5 => some (.inl (w64 ((w64 (p0 - 1)) - x5)))) else some (.inl (w64 (p0 - 1)))) fun x3 => GO (Ah (AC fRec p1 p2) (0,x3)) fun x6 => some (decide (0 ≤ x6),x6))
def AA : Nat → Int → Tr41 → Int → Option (Bool × Int)
  | 0 => fun _ _ _ => none
  | n + 1 => BR (AA n)
def D8 (p0 : Int) (p1 : Tr41) (p2 : Int) : Option (Bool × Int) := Hc fun n => AA n p0 p1 p2
theorem k53 : KO (K53 fun x => D8 x.2.2 x.1 x.2.1) 53 := Tp (E := te) (xs := i9) (ys := pQ) (bs := [(true,AG)]) (io := false) (nn := fun n x => AA n x.2.2 x.1 x.2.1) (st := fun g x => BR (fun yp0 yp1 yp2 => g (yp1,yp2,yp0)) x.2.2 x.1 x.2.1) Tryz.func53 rfl (by kernel_rfl) (fun _ => rfl) (fun _ => rfl) fun g hg => Eb (ct := (.q (.s (.j (.st false ⟨[(22,false,Ea)],[],[]⟩) .d .d) (.q (.j (.st true ⟨[],[(0,[some (.d false I3)])],[]⟩) (.j (.bl [37]) .d .d) (.j (.st true ⟨[],[(0,[some (.d false I3)])],[]⟩) (.q (.b (.l ⟨[(55,false,AG)],[(0,[some (.d false I3)])],[]⟩ .d))) .d)))))) D6 (AH hg (AH k79 (AH k80 (AH k81 BG)))) Tryz.func53 (by kernel_rfl) fun x => by kernel_rfl
def CH (fRec : Tr41 → Option Int) (p0 : Tr41) : (Int × Int) → Option ((Int × Int) ⊕ Int)
  | (x2,x3) => (if x3 < (p0.un.2.2.2.2.length : Int) then (ix p0.un.2.2.2.2 x3).bind fun x4 => (fRec (Tr41.of (x4.un.1,f38 x4.un.2.1,x4.un.2.2.1,x4.un.2.2.2.1,x4.un.2.2.2.2))).bind fun x5 => some (.inl (min (w64 (x2 * x5)) 1000,w64 (x3 + 1))) else some (.inr x2))
def CI (fRec : Tr41 → Option Int) (p0 : Tr41) : (Int × Int) → Option ((Int × Int) ⊕ Int)
  | (x6,x7) => (if x7 < (p0.un.2.2.2.2.length : Int) then (ix p0.un.2.2.2.2 x7).bind fun x8 => (fRec (Tr41.of (x8.un.1,f38 x8.un.2.1,x8.un.2.2.1,x8.un.2.2.2.1,x8.un.2.2.2.2))).bind fun x9 => some (.inl (min (w64 (x6 + x9)) 1000,w64 (x7 + 1))) else some (.inr x6))
def CO (fRec : Tr41 → Option Int) (p0 : Tr41) : (Int × Int) → Option ((Int × Int) ⊕ Int)
  | (x10,x11) => (if x11 < (p0.un.2.2.2.2.length : Int) then (ix p0.un.2.2.2.2 x11).bind fun x12 => (fRec (Tr41.of (x12.un.1,f38 x12.un.2.1,x12.un.2.2.1,x12.un.2.2.2.1,x12.un.2.2.2.2))).bind fun x13 => some (.inl (max x10 x13,w64 (x11 + 1))) else some (.inr x10))
def Dp (fRec : Tr41 → Option Int) (p0 : Tr41) : Option Int := (if p0.un.1 = 3 then Ah (CH fRec p0) (1,0) else (if p0.un.1 = 4 then Ah (CI fRec p0) (0,0) else (if p0.un.1 = 5 then Ah (CO fRec p0) (0,0) else some 1))).bind fun x1 => some x1
def B0 : Nat → Tr41 → Option Int
  | 0 => fun _ => none
  | n + 1 => Dp (B0 n)
def Km (p0 : Tr41) : Option Int := Hc fun n => B0 n p0
theorem k54 : KO (K54 fun x => Km x) 54 := Tp (E := te) (xs := kT) (ys := rJ) (bs := []) (io := false) (nn := fun n x => B0 n x) (st := fun g x => Dp g x) Tryz.func54 rfl (by kernel_rfl) (fun _ => rfl) (fun _ => rfl) fun g hg => Eb (ct := (.q (.q (.j (.st false ⟨[(3,false,AG)],[],[]⟩) (.q (.b (.q (.c (.q (.q (.b (.l ⟨[(3,false,AG),(17,false,AG)],[],[]⟩ .d)))) (.q (.c (.q (.b (.l ⟨[(3,false,AG),(32,false,AG)],[],[]⟩ .d))) (.q (.c (.q (.b (.l ⟨[(3,false,AG),(47,false,AG)],[],[]⟩ .d))) .d)))))))) .d)))) D6 (AH hg BG) Tryz.func54 (by kernel_rfl) fun x => by kernel_rfl
def GJ (p0 : Tr41) : Option Bool := ((D8 64 (Tr41.of (p0.un.1,f38 p0.un.2.1,p0.un.2.2.1,p0.un.2.2.2.1,p0.un.2.2.2.2)) 8).bind fun x3 => (if x3.1 = true then (Km (Tr41.of (p0.un.1,f38 p0.un.2.1,p0.un.2.2.1,p0.un.2.2.2.1,p0.un.2.2.2.2))).bind fun x4 => some (decide (x4 ≤ 64),x3.2) else some (false,x3.2))).bind fun (x1,x2) => some x1
abbrev K23 : Cn_ := ⟨[Yh],[KS],[],false,fun x => GJ x,none⟩
theorem k23 : KO (K23) 23 := Eb (ct := (.q (.q (.j (.st false ⟨[(2,false,Ea)],[(1,[some (.d false I3)])],[]⟩) .d .d)))) D6 (AH k53 (AH k54 BG)) Tryz.func23 (by kernel_rfl) fun x => by kernel_rfl
end
end Go.Proofs.YtkhiflmalgkjiaaGreat
