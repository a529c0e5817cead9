/- The functions of CtlCheck, Hu. Conditions: none. -/
import Derived.Test.YtbiekjhlijdjbaaGreatRows
import Derived.Test.YtbiekjhlijdjbaaGreatbXR
import Derived.Test.YtbiekjhlijdjbaaGreatbOF
import Derived.Test.YtbiekjhlijdjbaaGreatbOT
import Derived.Test.YtbiekjhlijdjbaaGreatbQT
import Derived.Test.YtbiekjhlijdjbaaGreatbOD
import Derived.Test.YtbiekjhlijdjbaaGreatbRF
import Derived.Test.YtbiekjhlijdjbaaGreatbDR
import Derived.Test.YtbiekjhlijdjbaaGreatbOC
import Derived.Test.YtbiekjhlijdjbaaGreatbVC
import Derived.Test.YtbiekjhlijdjbaaGreatbOM
import Derived.Test.YtbiekjhlijdjbaaGreatbOX
set_option linter.unusedVariables false
set_option linter.unusedSimpArgs false
open Go Go.RowKit
namespace Go.Proofs.YtbiekjhlijdjbaaGreat
noncomputable section
set_option maxRecDepth 20000
set_option maxHeartbeats 1600000
def fM : Tt := ([(25,[(0,false,1),(1,false,1),(2,false,1)]),(29,[(0,true,3),(3,false,1),(4,false,1),(5,false,1),(6,false,1),(7,false,1),(8,false,1),(9,false,1),(10,false,1)]),(45,[(0,false,1),(1,false,1),(2,false,1),(3,false,1),(4,false,1),(5,false,1),(6,false,1),(7,false,1),(8,false,1),(9,false,1)]),(57,[(0,false,1),(1,true,2),(3,false,1)]),(65,[(0,false,1),(1,false,1),(2,false,1),(3,false,1),(4,false,1),(5,false,1)]),(71,[(0,false,1),(1,false,1),(2,false,1),(3,false,1),(4,true,10)]),(74,[(0,false,1),(1,true,4),(5,true,4)]),(77,[(0,false,1),(1,true,9),(10,false,1)]),(79,[(0,false,1),(1,true,11),(12,false,1)]),(127,[(0,false,1),(1,false,1),(2,false,1),(3,false,1),(4,false,1),(5,false,1)]),(130,[(0,false,1),(1,false,1)]),(137,[(0,false,1),(1,false,1)]),(187,[(0,false,1),(1,false,1),(2,false,1)]),(200,[(0,false,1),(1,false,1),(2,false,1)]),(252,[(0,false,1),(1,false,1),(2,false,1)])],[(3,false,1),(4,false,1),(22,false,1),(23,false,1),(25,true,3),(26,false,1),(27,false,1),(29,true,11),(43,false,1),(45,true,10),(72,true,4),(74,true,9),(75,false,1),(77,true,11),(79,true,13),(89,false,1),(137,true,2),(252,true,3)])
theorem tk : TtOk Tryz.prog fM := ⟨by kernel_rfl,by kernel_rfl⟩
theorem JB : type_of% Tryz.underlying22 := Tryz.underlying22
theorem JG : type_of% Tryz.underlying23 := Tryz.underlying23
theorem SG : type_of% Tryz.underlying25 := Tryz.underlying25
theorem Pi : type_of% Tryz.underlying26 := Tryz.underlying26
theorem GG : type_of% Tryz.underlying27 := Tryz.underlying27
theorem W8 : type_of% Tryz.underlying29 := Tryz.underlying29
theorem WE : type_of% Tryz.underlying43 := Tryz.underlying43
theorem aK : type_of% Tryz.underlying45 := Tryz.underlying45
theorem Yp : type_of% Tryz.underlying68 := Tryz.underlying68
theorem Mq : type_of% Tryz.underlying69 := Tryz.underlying69
theorem X5 : type_of% Tryz.underlying71 := Tryz.underlying71
theorem dU : type_of% Tryz.underlying75 := Tryz.underlying75
abbrev B8 : Rp (Int × Int × Int × Int × Int × Int) := (Rp.pair (Rp.int .i64) (Rp.pair (Rp.int .i64) (Rp.pair (Rp.int .i64) (Rp.pair (Rp.int .i64) (Rp.pair (Rp.int .i64) (Rp.int .i64))))))
abbrev Cc : Rp (Int × Int) := (Rp.pair (Rp.int .i64) (Rp.int .i64))
abbrev bS (p : Value × List Int) : List Int := p.2
theorem HW : Ex (Rp.slice (Rp.int .u64)) (Rp.vsl (Rp.int .u64)) bS := Ex.sliceF
theorem gK : Ty Tryz.prog 29 true 11 := ⟨by kernel_rfl,by kernel_rfl⟩
abbrev cR : Rp (Int × Int × Int × Int) := (Rp.pair (Rp.int .i64) (Rp.pair (Rp.int .i64) (Rp.pair (Rp.int .i64) (Rp.int .i64))))
abbrev ZS : Rp (Int × (Int × Int × Int × Int) × (Int × Int × Int × Int)) := (Rp.pair (Rp.int .i64) (Rp.pair cR cR))
abbrev WS : Rp (Int × Int × Int) := (Rp.pair (Rp.int .i64) (Rp.pair (Rp.int .i64) (Rp.int .i64)))
abbrev fL : Rp (Int × (Int × (Int × Int × Int × Int) × (Int × Int × Int × Int)) × (List (Int × Int × Int))) := (Rp.pair (Rp.int .i64) (Rp.pair ZS (Rp.slice WS)))
abbrev Y9 : Rp (Int × (Int × (Int × (Int × Int × Int × Int) × (Int × Int × Int × Int)) × (List (Int × Int × Int))) × Bool) := (Rp.pair (Rp.int .i64) (Rp.pair fL Rp.bool))
abbrev eQ : Rp (Int × Int × Int × Int × Int × Int × Int × Int × Int × (List (Int × (Int × (Int × (Int × Int × Int × Int) × (Int × Int × Int × Int)) × (List (Int × Int × Int))) × Bool))) := (Rp.pair (Rp.int .i64) (Rp.pair (Rp.int .i64) (Rp.pair (Rp.int .i64) (Rp.pair (Rp.int .i64) (Rp.pair (Rp.int .i64) (Rp.pair (Rp.int .i64) (Rp.pair (Rp.int .i64) (Rp.pair (Rp.int .i64) (Rp.pair (Rp.int .i64) (Rp.slice Y9))))))))))
abbrev bM : Rp (Int × Int × Int × Int × (Int × Int × Int × Int × Int × Int × Int × Int × Int × (List (Int × (Int × (Int × (Int × Int × Int × Int) × (Int × Int × Int × Int)) × (List (Int × Int × Int))) × Bool)))) := (Rp.pair (Rp.int .i64) (Rp.pair (Rp.int .i64) (Rp.pair (Rp.int .i64) (Rp.pair (Rp.int .i64) eQ))))
abbrev aJ : Rp (Int × (Int × (Int × Int × Int × Int) × (Int × Int × Int × Int)) × (Value × List (Int × Int × Int))) := (Rp.pair (Rp.int .i64) (Rp.pair ZS (Rp.vsl WS)))
abbrev Vi : Rp (Int × (Int × (Int × (Int × Int × Int × Int) × (Int × Int × Int × Int)) × (Value × List (Int × Int × Int))) × Bool) := (Rp.pair (Rp.int .i64) (Rp.pair aJ Rp.bool))
abbrev b7 : Rp (Int × Int × Int × Int × Int × Int × Int × Int × Int × (Value × List (Int × (Int × (Int × (Int × Int × Int × Int) × (Int × Int × Int × Int)) × (Value × List (Int × Int × Int))) × Bool))) := (Rp.pair (Rp.int .i64) (Rp.pair (Rp.int .i64) (Rp.pair (Rp.int .i64) (Rp.pair (Rp.int .i64) (Rp.pair (Rp.int .i64) (Rp.pair (Rp.int .i64) (Rp.pair (Rp.int .i64) (Rp.pair (Rp.int .i64) (Rp.pair (Rp.int .i64) (Rp.vsl Vi))))))))))
abbrev P4 : Rp (Int × Int × Int × Int × (Int × Int × Int × Int × Int × Int × Int × Int × Int × (Value × List (Int × (Int × (Int × (Int × Int × Int × Int) × (Int × Int × Int × Int)) × (Value × List (Int × Int × Int))) × Bool)))) := (Rp.pair (Rp.int .i64) (Rp.pair (Rp.int .i64) (Rp.pair (Rp.int .i64) (Rp.pair (Rp.int .i64) b7))))
abbrev Zf (p : Int × (Int × (Int × (Int × Int × Int × Int) × (Int × Int × Int × Int)) × (Value × List (Int × Int × Int))) × Bool) : Int × (Int × (Int × (Int × Int × Int × Int) × (Int × Int × Int × Int)) × (List (Int × Int × Int))) × Bool := (p.1,(p.2.1.1,p.2.1.2.1,p.2.1.2.2.2),p.2.2)
theorem U3 : Ex Y9 Vi Zf := (Ex.pair Ex.rfl' (Ex.pair (Ex.pair Ex.rfl' (Ex.pair Ex.rfl' Ex.sliceF)) Ex.rfl'))
abbrev ZQ (p : Int × Int × Int × Int × (Int × Int × Int × Int × Int × Int × Int × Int × Int × (Value × List (Int × (Int × (Int × (Int × Int × Int × Int) × (Int × Int × Int × Int)) × (Value × List (Int × Int × Int))) × Bool)))) : Int × Int × Int × Int × (Int × Int × Int × Int × Int × Int × Int × Int × Int × (List (Int × (Int × (Int × (Int × Int × Int × Int) × (Int × Int × Int × Int)) × (List (Int × Int × Int))) × Bool))) := (p.1,p.2.1,p.2.2.1,p.2.2.2.1,(p.2.2.2.2.1,p.2.2.2.2.2.1,p.2.2.2.2.2.2.1,p.2.2.2.2.2.2.2.1,p.2.2.2.2.2.2.2.2.1,p.2.2.2.2.2.2.2.2.2.1,p.2.2.2.2.2.2.2.2.2.2.1,p.2.2.2.2.2.2.2.2.2.2.2.1,p.2.2.2.2.2.2.2.2.2.2.2.2.1,(p.2.2.2.2.2.2.2.2.2.2.2.2.2.2.map Zf)))
theorem Zq : Ex bM P4 ZQ := (Ex.pair Ex.rfl' (Ex.pair Ex.rfl' (Ex.pair Ex.rfl' (Ex.pair Ex.rfl' (Ex.pair Ex.rfl' (Ex.pair Ex.rfl' (Ex.pair Ex.rfl' (Ex.pair Ex.rfl' (Ex.pair Ex.rfl' (Ex.pair Ex.rfl' (Ex.pair Ex.rfl' (Ex.pair Ex.rfl' (Ex.pair Ex.rfl' (Ex.slice U3))))))))))))))
theorem fA : Ty Tryz.prog 26 false 1 := ⟨by kernel_rfl,by kernel_rfl⟩
abbrev Qc (a : Value × List Int) : List Value := [a.1]
theorem Wh : Dr (Rp.vsl (Rp.int .u64)) Qc := Dr.vsl
theorem cN : Et Tryz.prog 26 69 1 24 := Et.of Pi (by kernel_rfl) (by kernel_rfl) (by kernel_rfl) (by decide)
theorem dC : Ty Tryz.prog 69 false 1 := ⟨by kernel_rfl,by kernel_rfl⟩
abbrev Lt (a : Int × Int × Int × Int × (Int × Int × Int × Int × Int × Int × Int × Int × Int × (Value × List (Int × (Int × (Int × (Int × Int × Int × Int) × (Int × Int × Int × Int)) × (Value × List (Int × Int × Int))) × Bool)))) : List Value := [.int .i64 a.1,.int .i64 a.2.1,.int .i64 a.2.2.1,.int .i64 a.2.2.2.1,.int .i64 a.2.2.2.2.1,.int .i64 a.2.2.2.2.2.1,.int .i64 a.2.2.2.2.2.2.1,.int .i64 a.2.2.2.2.2.2.2.1,.int .i64 a.2.2.2.2.2.2.2.2.1,.int .i64 a.2.2.2.2.2.2.2.2.2.1,.int .i64 a.2.2.2.2.2.2.2.2.2.2.1,.int .i64 a.2.2.2.2.2.2.2.2.2.2.2.1,.int .i64 a.2.2.2.2.2.2.2.2.2.2.2.2.1,a.2.2.2.2.2.2.2.2.2.2.2.2.2.1]
theorem TL : Dr P4 Lt := (Dr.pair Fl.int.to (Dr.pair Fl.int.to (Dr.pair Fl.int.to (Dr.pair Fl.int.to (Dr.pair Fl.int.to (Dr.pair Fl.int.to (Dr.pair Fl.int.to (Dr.pair Fl.int.to (Dr.pair Fl.int.to (Dr.pair Fl.int.to (Dr.pair Fl.int.to (Dr.pair Fl.int.to (Dr.pair Fl.int.to Dr.vsl)))))))))))))
theorem YS : Et Tryz.prog 68 71 14 128 := Et.of Yp (by kernel_rfl) (by kernel_rfl) (by kernel_rfl) (by decide)
theorem T3 : Ty Tryz.prog 3 false 1 := ⟨by kernel_rfl,by kernel_rfl⟩
theorem aU : Ty Tryz.prog 43 false 1 := ⟨by kernel_rfl,by kernel_rfl⟩
def gS (a : Int × Int × Int × Int) : List Value := [.int .i64 a.1,.int .i64 a.2.1,.int .i64 a.2.2.1,.int .i64 a.2.2.2]
theorem eD : Fl cR gS := (Fl.pair Fl.int (Fl.pair Fl.int (Fl.pair Fl.int Fl.int)))
def fF (a : Int × (Int × Int × Int × Int) × (Int × Int × Int × Int)) : List Value := [.int .i64 a.1,.int .i64 a.2.1.1,.int .i64 a.2.1.2.1,.int .i64 a.2.1.2.2.1,.int .i64 a.2.1.2.2.2,.int .i64 a.2.2.1,.int .i64 a.2.2.2.1,.int .i64 a.2.2.2.2.1,.int .i64 a.2.2.2.2.2]
theorem fH : Fl ZS fF := (Fl.pair Fl.int (Fl.pair eD eD))
abbrev WZ (a : Int × (Int × (Int × (Int × Int × Int × Int) × (Int × Int × Int × Int)) × (Value × List (Int × Int × Int))) × Bool) : List Value := [.int .i64 a.1,.int .i64 a.2.1.1,.int .i64 a.2.1.2.1.1,.int .i64 a.2.1.2.1.2.1.1,.int .i64 a.2.1.2.1.2.1.2.1,.int .i64 a.2.1.2.1.2.1.2.2.1,.int .i64 a.2.1.2.1.2.1.2.2.2,.int .i64 a.2.1.2.1.2.2.1,.int .i64 a.2.1.2.1.2.2.2.1,.int .i64 a.2.1.2.1.2.2.2.2.1,.int .i64 a.2.1.2.1.2.2.2.2.2,a.2.1.2.2.1,.bool a.2.2]
theorem Z8 : Dr Vi WZ := (Dr.pair Fl.int.to (Dr.pair (Dr.pair Fl.int.to (Dr.pair fH.to Dr.vsl)) Fl.bool.to))
theorem f0 : Et Tryz.prog 43 79 13 120 := Et.of WE (by kernel_rfl) (by kernel_rfl) (by kernel_rfl) (by decide)
theorem gP : Ty Tryz.prog 75 false 1 := ⟨by kernel_rfl,by kernel_rfl⟩
theorem Ww : Ty Tryz.prog 25 true 3 := ⟨by kernel_rfl,by kernel_rfl⟩
theorem ZH : Ty Tryz.prog 22 false 1 := ⟨by kernel_rfl,by kernel_rfl⟩
theorem Zt : Ty Tryz.prog 23 false 1 := ⟨by kernel_rfl,by kernel_rfl⟩
theorem Wi : Ty Tryz.prog 27 false 1 := ⟨by kernel_rfl,by kernel_rfl⟩
def EJ (p0 : (Int × (List (Int × Int × Int × Int × Int × Int)) × (List (Int × Int))) × List (List Int) × List Int × Int × Int × Int × Int × Int × Int) : Int → Option (Int ⊕ (Unit ⊕ Bool))
  | x1 => (if x1 < (p0.2.1.length : Int) then (ix p0.2.1 x1).bind fun x2 => (if 30 < (x2.length : Int) then some (.inr (.inr false)) else some (.inl (w64 (x1 + 1)))) else some (.inr (.inl ())))
def Jj (p1 : List (Int × Int × Int × Int × (Int × Int × Int × Int × Int × Int × Int × Int × Int × (List (Int × (Int × (Int × (Int × Int × Int × Int) × (Int × Int × Int × Int)) × (List (Int × Int × Int))) × Bool))))) (x3 : Int) : Int → Option (Int ⊕ (Unit ⊕ (Int ⊕ (Unit ⊕ Bool))))
  | x8 => (ix p1 x3).bind fun x9 => (if x8 < (x9.2.2.2.2.2.2.2.2.2.2.2.2.2.length : Int) then (ix p1 x3).bind fun x10 => (ix x10.2.2.2.2.2.2.2.2.2.2.2.2.2 x8).bind fun x11 => (if 16 < (x11.2.1.2.2.length : Int) then some (.inr (.inr (.inr (.inr false)))) else some (.inl (w64 (x8 + 1)))) else some (.inr (.inl ())))
def Ff (p1 : List (Int × Int × Int × Int × (Int × Int × Int × Int × Int × Int × Int × Int × Int × (List (Int × (Int × (Int × (Int × Int × Int × Int) × (Int × Int × Int × Int)) × (List (Int × Int × Int))) × Bool))))) : Int → Option (Int ⊕ (Unit ⊕ Bool))
  | x3 => (if x3 < (p1.length : Int) then GU ((if 79 < x3 then some true else (ix p1 x3).bind fun x5 => (if x5.2.1 < 0 then some true else (ix p1 x3).bind fun x6 => (if 1099511627776 < x6.2.1 then some true else (ix p1 x3).bind fun x7 => some (decide (20 < (x7.2.2.2.2.2.2.2.2.2.2.2.2.2.length : Int)))))).bind fun x4 => (if x4 = true then some (.inr (.inr (.inr false))) else Am (Jj p1 x3) 0)) fun _ => some (.inl (w64 (x3 + 1))) else some (.inr (.inl ())))
def Gb (p0 : (Int × (List (Int × Int × Int × Int × Int × Int)) × (List (Int × Int))) × List (List Int) × List Int × Int × Int × Int × Int × Int × Int) (p1 : List (Int × Int × Int × Int × (Int × Int × Int × Int × Int × Int × Int × Int × Int × (List (Int × (Int × (Int × (Int × Int × Int × Int) × (Int × Int × Int × Int)) × (List (Int × Int × Int))) × Bool))))) : Option Bool := GU (Am (EJ p0) 0) fun _ => GU (Am (Ff p1) 0) fun _ => some (decide ((p0.1.2.1.length : Int) ≤ 30) && (decide ((p0.1.2.2.length : Int) ≤ 12) && (decide ((p0.2.1.length : Int) ≤ 6) && decide ((p0.2.2.1.length : Int) ≤ 12))))
theorem Og (Y : Nat → Prop) (w0 : World) (v1 : Value) (v2 : Value) (v3 : Value) (v4 : Value) (v5 : Value) (p0 : (Int × (List (Int × Int × Int × Int × Int × Int)) × (List (Int × Int))) × List (List Int) × List Int × Int × Int × Int × Int × Int × Int) (p1 : List (Int × Int × Int × Int × (Int × Int × Int × Int × Int × Int × Int × Int × Int × (List (Int × (Int × (Int × (Int × Int × Int × Int) × (Int × Int × Int × Int)) × (List (Int × Int × Int))) × Bool))))) (r : Bool) (H : Gb p0 p1 = some r) (h_v1 : Sl w0 (NX []) B8 v1 p0.1.2.1) (h_v2 : Sl w0 (NX []) Cc v2 p0.1.2.2) (h_v3 : Sl w0 (NX []) (Rp.slice (Rp.int .u64)) v3 p0.2.1) (h_v4 : Sl w0 (NX []) (Rp.int .i64) v4 p0.2.2.1) (h_v5 : Sl w0 (NX []) bM v5 p1) :
    Calls Tryz.prog 4 #[.agg #[.int .i64 p0.1.1,v1,v2,v3,v4,.int .i64 p0.2.2.2.1,.int .i64 p0.2.2.2.2.1,.int .i64 p0.2.2.2.2.2.1,.int .i64 p0.2.2.2.2.2.2.1,.int .i64 p0.2.2.2.2.2.2.2.1,.int .i64 p0.2.2.2.2.2.2.2.2],v5] w0 fun e w' => e = .returned (.bool r) ∧ Below w0.heap.size w0 w' := by
 refine enter Tryz.func4 rfl Tryz.ntmps4 rfl (fun a hF => ?_)
 have hW := Stw.start Y w0
 obtain ⟨v6,h1,h_v3⟩ := h_v3.ex HW
 obtain ⟨v7,h2,h_v5⟩ := h_v5.ex Zq
 unfold Gb at H
 refine vc tk 2 hF hW fun a w hF hW => ?_
 refine Cv (cs := [.int .i64 p0.1.1,v1,v2,v3,v4,.int .i64 p0.2.2.2.1,.int .i64 p0.2.2.2.2.1,.int .i64 p0.2.2.2.2.2.1,.int .i64 p0.2.2.2.2.2.2.1,.int .i64 p0.2.2.2.2.2.2.2.1,.int .i64 p0.2.2.2.2.2.2.2.2]) hF hW rfl rfl rfl (fun b1 a w hF hW => ?_)
 refine vl tk 2 hF hW fun a w hF hW => ?_
 refine Aa ?_
 obtain ⟨o1,G1,K1,L1⟩ := KC H
 refine Aj (fun a w => some (Sum.inl ()) = some o1 ∧ Fr 104 [] [(1,v5),(2,.pointer (some ⟨b1,0,none⟩)),(4,.bool false)] a ∧ Stw ⟨Y,[],w0⟩ [(b1,[.int .i64 p0.1.1,v1,v2,v3,v4,.int .i64 p0.2.2.2.1,.int .i64 p0.2.2.2.2.1,.int .i64 p0.2.2.2.2.2.1,.int .i64 p0.2.2.2.2.2.2.1,.int .i64 p0.2.2.2.2.2.2.2.1,.int .i64 p0.2.2.2.2.2.2.2.2])] [] w) ?_ ?_
 ·
  have H := G1
  clear G1 K1
  refine vc tk 6 hF hW fun a w hF hW => ?_
  refine AD H (fun s a w => Fr 104 [] [(1,v5),(2,.pointer (some ⟨b1,0,none⟩)),(4,.bool false),(5,.int .i64 s)] a ∧ Stw ⟨Y,[],w0⟩ [(b1,[.int .i64 p0.1.1,v1,v2,v3,v4,.int .i64 p0.2.2.2.1,.int .i64 p0.2.2.2.2.1,.int .i64 p0.2.2.2.2.2.1,.int .i64 p0.2.2.2.2.2.2.1,.int .i64 p0.2.2.2.2.2.2.2.1,.int .i64 p0.2.2.2.2.2.2.2.2])] [] w) ⟨hF.ra rfl,hW⟩ (fun s o a w H L2 hR => ?_)
  obtain ⟨x1,rfl⟩ : ∃ x,x = s := ⟨s,rfl⟩
  obtain ⟨hF,hW⟩ := hR
  have hF : Fr 104 [] [(1,v5),(2,.pointer (some ⟨b1,0,none⟩)),(4,.bool false),(5,.int .i64 x1)] a := hF
  have hW : Stw ⟨Y,[],w0⟩ [(b1,[.int .i64 p0.1.1,v1,v2,v3,v4,.int .i64 p0.2.2.2.1,.int .i64 p0.2.2.2.2.1,.int .i64 p0.2.2.2.2.2.1,.int .i64 p0.2.2.2.2.2.2.1,.int .i64 p0.2.2.2.2.2.2.2.1,.int .i64 p0.2.2.2.2.2.2.2.2])] [] w := hW
  rw [EJ] at H
  refine D7 tk 6 [0] hF hW (ai fun a w hF hW => ?_)
  refine ls hF hW rfl ((AK (r := (Rp.slice (Rp.int .u64))) (l := p0.2.1) Pi rfl hF rfl (Ch HW h1 (Ab h_v3))).q) (fun a w hF hW => ?_)
  refine Bc tk 3 hF hW fun a w hF hW => ?_
  refine AG hF rfl H (fun hF H => ?_) (fun hF H => ?_)
  ·
   refine LT tk 9 [0] hF hW (ai fun a w hF hW => ?_)
   obtain ⟨x2,h3,H⟩ := Ad H
   obtain ⟨v8,h4,h5⟩ := Dm h1 h3
   have h6 : Qc v8 = [(v8.1)] := congrArg (fun q : List Int => ([(v8.1)] : List Value)) h5
   refine ls hF hW rfl ((Ai (r := (Rp.vsl (Rp.int .u64))) cN hF rfl rfl (Ab h_v3) h4).q) (fun a w hF hW => ?_)
   refine ls hF hW rfl ((Af (y := (v8.1)) (j := 0) (i := x1) (enc := Qc) hF rfl rfl (Ab h_v3) h4 Wh dC (by rw [h6]; rfl)).q) (fun a w hF hW => ?_)
   refine ls hF hW rfl ((AK (r := (Rp.int .u64)) (l := x2) Mq rfl hF rfl (BL (Ab h_v3) h4 AN.here (congrArg (fun q : List Int => q) h5))).q) (fun a w hF hW => ?_)
   refine Bc tk 3 hF hW fun a w hF hW => ?_
   refine AG hF rfl H (fun hF H => ?_) (fun hF H => ?_)
   ·
    refine vc tk 5 hF hW fun a w hF hW => ?_
    refine Ah ?_
    refine Az ?_
    iterate 2 refine Ak ?_
    refine Az ?_
    refine Ak ?_
    have H := L2 _ H
    have H := L1 _ H
    have H := Option.some.inj H
    subst H
    refine Aw (.inl rfl) hF hW rfl (Ag hF rfl) ?_
    exact ⟨rfl,hW.done⟩
   ·
    refine Ay ?_
    refine An ?_
    refine vn tk 5 hF hW fun a w hF hW => ?_
    refine Aa ?_
    exact ⟨_,H,hF.ra rfl,hW⟩
  ·
   refine AE ?_
   iterate 2 refine AQ ?_
   refine AF ?_
   refine Aa ?_
   have H := L2 _ H
   exact ⟨H,hF.ra rfl,hW⟩
 rintro a w ⟨hj,hF,hW⟩
 have H := K1 _ hj
 clear hj G1 K1 L1
 obtain ⟨o3,G3,K3,L3⟩ := KC H
 refine Aj (fun a w => some (Sum.inl ()) = some o3 ∧ Fr 104 [] [(2,.pointer (some ⟨b1,0,none⟩)),(4,.bool false)] a ∧ Stw ⟨Y,[],w0⟩ [(b1,[.int .i64 p0.1.1,v1,v2,v3,v4,.int .i64 p0.2.2.2.1,.int .i64 p0.2.2.2.2.1,.int .i64 p0.2.2.2.2.2.1,.int .i64 p0.2.2.2.2.2.2.1,.int .i64 p0.2.2.2.2.2.2.2.1,.int .i64 p0.2.2.2.2.2.2.2.2])] [] w) ?_ ?_
 ·
  have H := G3
  clear G3 K3
  refine vc tk 6 hF hW fun a w hF hW => ?_
  refine AD H (fun s a w => Fr 104 [] [(1,v5),(2,.pointer (some ⟨b1,0,none⟩)),(4,.bool false),(6,.int .i64 s)] a ∧ Stw ⟨Y,[],w0⟩ [(b1,[.int .i64 p0.1.1,v1,v2,v3,v4,.int .i64 p0.2.2.2.1,.int .i64 p0.2.2.2.2.1,.int .i64 p0.2.2.2.2.2.1,.int .i64 p0.2.2.2.2.2.2.1,.int .i64 p0.2.2.2.2.2.2.2.1,.int .i64 p0.2.2.2.2.2.2.2.2])] [] w) ⟨hF.ra rfl,hW⟩ (fun s o a w H L4 hR => ?_)
  obtain ⟨x3,rfl⟩ : ∃ x,x = s := ⟨s,rfl⟩
  obtain ⟨hF,hW⟩ := hR
  have hF : Fr 104 [] [(1,v5),(2,.pointer (some ⟨b1,0,none⟩)),(4,.bool false),(6,.int .i64 x3)] a := hF
  have hW : Stw ⟨Y,[],w0⟩ [(b1,[.int .i64 p0.1.1,v1,v2,v3,v4,.int .i64 p0.2.2.2.1,.int .i64 p0.2.2.2.2.1,.int .i64 p0.2.2.2.2.2.1,.int .i64 p0.2.2.2.2.2.2.1,.int .i64 p0.2.2.2.2.2.2.2.1,.int .i64 p0.2.2.2.2.2.2.2.2])] [] w := hW
  rw [Ff] at H
  refine vc tk 5 hF hW fun a w hF hW => ?_
  refine ls hF hW rfl ((AK (r := bM) (l := p1) Yp rfl hF rfl (Ch Zq h2 (Ab h_v5))).q) (fun a w hF hW => ?_)
  refine Bc tk 3 hF hW fun a w hF hW => ?_
  refine AG hF rfl H (fun hF H => ?_) (fun hF H => ?_)
  ·
   refine Ay ?_
   refine Aa ?_
   obtain ⟨o5,G5,K5,L5⟩ := KC H
   refine Aj (fun a w => some (Sum.inl ()) = some o5 ∧ Fr 104 [] [(1,v5),(2,.pointer (some ⟨b1,0,none⟩)),(4,.bool false),(6,.int .i64 x3)] a ∧ Stw ⟨Y,[],w0⟩ [(b1,[.int .i64 p0.1.1,v1,v2,v3,v4,.int .i64 p0.2.2.2.1,.int .i64 p0.2.2.2.2.1,.int .i64 p0.2.2.2.2.2.1,.int .i64 p0.2.2.2.2.2.2.1,.int .i64 p0.2.2.2.2.2.2.2.1,.int .i64 p0.2.2.2.2.2.2.2.2])] [] w) ?_ ?_
   ·
    have H := G5
    clear G5 K5
    refine vc tk 2 hF hW fun a w hF hW => ?_
    obtain ⟨o6,G6,K6⟩ := Ad H
    refine Aj (fun a w => ∃ x4 : Bool,some (x4) = some o6 ∧ Fr 104 [] [(1,v5),(2,.pointer (some ⟨b1,0,none⟩)),(4,.bool false),(6,.int .i64 x3),(55,.bool x4)] a ∧ Stw ⟨Y,[],w0⟩ [(b1,[.int .i64 p0.1.1,v1,v2,v3,v4,.int .i64 p0.2.2.2.1,.int .i64 p0.2.2.2.2.1,.int .i64 p0.2.2.2.2.2.1,.int .i64 p0.2.2.2.2.2.2.1,.int .i64 p0.2.2.2.2.2.2.2.1,.int .i64 p0.2.2.2.2.2.2.2.2])] [] w) ?_ ?_
    ·
     have H := G6
     clear G6 K6
     refine vc tk 4 hF hW fun a w hF hW => ?_
     rcases bxq (decide (79 < x3)) with hb | hb
     ·
      have H := BP (of_decide_eq_true hb) H
      rw [hb] at hF
      clear hb
      refine vl tk 26 hF hW fun a w hF hW => ?_
      refine Aa ?_
      exact ⟨_,H,hF.ra rfl,hW⟩
     ·
      have H := BQ (of_decide_eq_false hb) H
      rw [hb] at hF
      clear hb
      refine vl tk 2 hF hW fun a w hF hW => ?_
      obtain ⟨x5,h7,H⟩ := Ad H
      obtain ⟨v9,h8,h9⟩ := Dm h2 h7
      have h10 : Lt v9 = [.int .i64 x5.1,.int .i64 x5.2.1,.int .i64 x5.2.2.1,.int .i64 x5.2.2.2.1,.int .i64 x5.2.2.2.2.1,.int .i64 x5.2.2.2.2.2.1,.int .i64 x5.2.2.2.2.2.2.1,.int .i64 x5.2.2.2.2.2.2.2.1,.int .i64 x5.2.2.2.2.2.2.2.2.1,.int .i64 x5.2.2.2.2.2.2.2.2.2.1,.int .i64 x5.2.2.2.2.2.2.2.2.2.2.1,.int .i64 x5.2.2.2.2.2.2.2.2.2.2.2.1,.int .i64 x5.2.2.2.2.2.2.2.2.2.2.2.2.1,(v9.2.2.2.2.2.2.2.2.2.2.2.2.2.1)] := congrArg (fun q : Int × Int × Int × Int × (Int × Int × Int × Int × Int × Int × Int × Int × Int × (List (Int × (Int × (Int × (Int × Int × Int × Int) × (Int × Int × Int × Int)) × (List (Int × Int × Int))) × Bool))) => ([.int .i64 q.1,.int .i64 q.2.1,.int .i64 q.2.2.1,.int .i64 q.2.2.2.1,.int .i64 q.2.2.2.2.1,.int .i64 q.2.2.2.2.2.1,.int .i64 q.2.2.2.2.2.2.1,.int .i64 q.2.2.2.2.2.2.2.1,.int .i64 q.2.2.2.2.2.2.2.2.1,.int .i64 q.2.2.2.2.2.2.2.2.2.1,.int .i64 q.2.2.2.2.2.2.2.2.2.2.1,.int .i64 q.2.2.2.2.2.2.2.2.2.2.2.1,.int .i64 q.2.2.2.2.2.2.2.2.2.2.2.2.1,(v9.2.2.2.2.2.2.2.2.2.2.2.2.2.1)] : List Value)) h9
      refine BC hF hW (Ac hF rfl rfl rfl rfl) rfl (ze rfl) ((Ai (r := P4) YS hF rfl rfl (Ab h_v5) h8).q) (fun a w hF hW => ?_)
      refine BC hF hW (Ac hF rfl rfl rfl rfl) rfl (ze rfl) ((Au X5 rfl rfl rfl T3 hF rfl (Dt v5 + (x3).toNat * 14 + 1) rfl).q) (fun a w hF hW => ?_)
      refine BC hF hW (Ac hF rfl rfl rfl rfl) rfl (ze rfl) ((Af (y := Value.int .i64 x5.2.1) (j := 1) (i := x3) (enc := Lt) hF rfl rfl (Ab h_v5) h8 TL T3 (by rw [h10]; rfl)).q) (fun a w hF hW => ?_)
      refine vl tk 3 hF hW fun a w hF hW => ?_
      rcases bxq (decide (x5.2.1 < 0)) with hb | hb
      ·
       have H := BP (of_decide_eq_true hb) H
       rw [hb] at hF
       clear hb
       refine vl tk 18 hF hW fun a w hF hW => ?_
       refine Aa ?_
       exact ⟨_,H,hF.ra rfl,hW⟩
      ·
       have H := BQ (of_decide_eq_false hb) H
       rw [hb] at hF
       clear hb
       refine vl tk 2 hF hW fun a w hF hW => ?_
       obtain ⟨x6,h11,H⟩ := Ad H
       obtain ⟨v10,h12,h13⟩ := Dm h2 h11
       have h14 : Lt v10 = [.int .i64 x6.1,.int .i64 x6.2.1,.int .i64 x6.2.2.1,.int .i64 x6.2.2.2.1,.int .i64 x6.2.2.2.2.1,.int .i64 x6.2.2.2.2.2.1,.int .i64 x6.2.2.2.2.2.2.1,.int .i64 x6.2.2.2.2.2.2.2.1,.int .i64 x6.2.2.2.2.2.2.2.2.1,.int .i64 x6.2.2.2.2.2.2.2.2.2.1,.int .i64 x6.2.2.2.2.2.2.2.2.2.2.1,.int .i64 x6.2.2.2.2.2.2.2.2.2.2.2.1,.int .i64 x6.2.2.2.2.2.2.2.2.2.2.2.2.1,(v10.2.2.2.2.2.2.2.2.2.2.2.2.2.1)] := congrArg (fun q : Int × Int × Int × Int × (Int × Int × Int × Int × Int × Int × Int × Int × Int × (List (Int × (Int × (Int × (Int × Int × Int × Int) × (Int × Int × Int × Int)) × (List (Int × Int × Int))) × Bool))) => ([.int .i64 q.1,.int .i64 q.2.1,.int .i64 q.2.2.1,.int .i64 q.2.2.2.1,.int .i64 q.2.2.2.2.1,.int .i64 q.2.2.2.2.2.1,.int .i64 q.2.2.2.2.2.2.1,.int .i64 q.2.2.2.2.2.2.2.1,.int .i64 q.2.2.2.2.2.2.2.2.1,.int .i64 q.2.2.2.2.2.2.2.2.2.1,.int .i64 q.2.2.2.2.2.2.2.2.2.2.1,.int .i64 q.2.2.2.2.2.2.2.2.2.2.2.1,.int .i64 q.2.2.2.2.2.2.2.2.2.2.2.2.1,(v10.2.2.2.2.2.2.2.2.2.2.2.2.2.1)] : List Value)) h13
       refine BC hF hW (Ac hF rfl rfl rfl rfl) rfl (ze rfl) ((Ai (r := P4) YS hF rfl rfl (Ab h_v5) h12).q) (fun a w hF hW => ?_)
       refine BC hF hW (Ac hF rfl rfl rfl rfl) rfl (ze rfl) ((Au X5 rfl rfl rfl T3 hF rfl (Dt v5 + (x3).toNat * 14 + 1) rfl).q) (fun a w hF hW => ?_)
       refine BC hF hW (Ac hF rfl rfl rfl rfl) rfl (ze rfl) ((Af (y := Value.int .i64 x6.2.1) (j := 1) (i := x3) (enc := Lt) hF rfl rfl (Ab h_v5) h12 TL T3 (by rw [h14]; rfl)).q) (fun a w hF hW => ?_)
       refine vl tk 3 hF hW fun a w hF hW => ?_
       rcases bxq (decide (1099511627776 < x6.2.1)) with hb | hb
       ·
        have H := BP (of_decide_eq_true hb) H
        rw [hb] at hF
        clear hb
        refine vl tk 10 hF hW fun a w hF hW => ?_
        refine Aa ?_
        exact ⟨_,H,hF.ra rfl,hW⟩
       ·
        have H := BQ (of_decide_eq_false hb) H
        rw [hb] at hF
        clear hb
        refine vl tk 2 hF hW fun a w hF hW => ?_
        obtain ⟨x7,h15,H⟩ := Ad H
        obtain ⟨v11,h16,h17⟩ := Dm h2 h15
        have h18 : Lt v11 = [.int .i64 x7.1,.int .i64 x7.2.1,.int .i64 x7.2.2.1,.int .i64 x7.2.2.2.1,.int .i64 x7.2.2.2.2.1,.int .i64 x7.2.2.2.2.2.1,.int .i64 x7.2.2.2.2.2.2.1,.int .i64 x7.2.2.2.2.2.2.2.1,.int .i64 x7.2.2.2.2.2.2.2.2.1,.int .i64 x7.2.2.2.2.2.2.2.2.2.1,.int .i64 x7.2.2.2.2.2.2.2.2.2.2.1,.int .i64 x7.2.2.2.2.2.2.2.2.2.2.2.1,.int .i64 x7.2.2.2.2.2.2.2.2.2.2.2.2.1,(v11.2.2.2.2.2.2.2.2.2.2.2.2.2.1)] := congrArg (fun q : Int × Int × Int × Int × (Int × Int × Int × Int × Int × Int × Int × Int × Int × (List (Int × (Int × (Int × (Int × Int × Int × Int) × (Int × Int × Int × Int)) × (List (Int × Int × Int))) × Bool))) => ([.int .i64 q.1,.int .i64 q.2.1,.int .i64 q.2.2.1,.int .i64 q.2.2.2.1,.int .i64 q.2.2.2.2.1,.int .i64 q.2.2.2.2.2.1,.int .i64 q.2.2.2.2.2.2.1,.int .i64 q.2.2.2.2.2.2.2.1,.int .i64 q.2.2.2.2.2.2.2.2.1,.int .i64 q.2.2.2.2.2.2.2.2.2.1,.int .i64 q.2.2.2.2.2.2.2.2.2.2.1,.int .i64 q.2.2.2.2.2.2.2.2.2.2.2.1,.int .i64 q.2.2.2.2.2.2.2.2.2.2.2.2.1,(v11.2.2.2.2.2.2.2.2.2.2.2.2.2.1)] : List Value)) h17
        refine BC hF hW (Ac hF rfl rfl rfl rfl) rfl (ze rfl) ((Ai (r := P4) YS hF rfl rfl (Ab h_v5) h16).q) (fun a w hF hW => ?_)
        refine vl tk 2 hF hW fun a w hF hW => ?_
        refine BC hF hW (Ac hF rfl rfl rfl rfl) rfl (ze rfl) ((Af (y := (v11.2.2.2.2.2.2.2.2.2.2.2.2.2.1)) (j := 13) (i := x3) (enc := Lt) hF rfl rfl (Ab h_v5) h16 TL aU (by rw [h18]; rfl)).q) (fun a w hF hW => ?_)
        refine BC hF hW (Ac hF rfl rfl rfl rfl) rfl (ze rfl) ((AK (r := Y9) (l := x7.2.2.2.2.2.2.2.2.2.2.2.2.2) WE rfl hF rfl (Ch U3 (congrArg (fun q : Int × Int × Int × Int × (Int × Int × Int × Int × Int × Int × Int × Int × Int × (List (Int × (Int × (Int × (Int × Int × Int × Int) × (Int × Int × Int × Int)) × (List (Int × Int × Int))) × Bool))) => q.2.2.2.2.2.2.2.2.2.2.2.2.2) h17) (BL (Ab h_v5) h16 (AN.snd (AN.snd (AN.snd (AN.snd (AN.snd (AN.snd (AN.snd (AN.snd (AN.snd (AN.snd (AN.snd (AN.snd (AN.snd AN.here))))))))))))) rfl))).q) (fun a w hF hW => ?_)
        refine vl tk 3 hF hW fun a w hF hW => ?_
        refine Aa ?_
        exact ⟨_,H,hF.ra rfl,hW⟩
    rintro a w ⟨x4,hj,hF,hW⟩
    have hj := Option.some.inj hj
    subst hj
    have H := K6
    clear G6 K6
    refine BA hF rfl H (fun hF H => ?_) (fun hF H => ?_)
    ·
     refine vc tk 5 hF hW fun a w hF hW => ?_
     refine Ah ?_
     refine Ak ?_
     refine Az ?_
     iterate 2 refine Ak ?_
     refine Az ?_
     refine Ak ?_
     have H := L5 _ H
     have H := L4 _ H
     have H := L3 _ H
     have H := Option.some.inj H
     subst H
     refine Aw (.inl rfl) hF hW rfl (Ag hF rfl) ?_
     exact ⟨rfl,hW.done⟩
    ·
     refine D2 tk 8 hF hW fun a w hF hW => ?_
     refine AD H (fun s a w => Fr 104 [] [(1,v5),(2,.pointer (some ⟨b1,0,none⟩)),(4,.bool false),(6,.int .i64 x3),(7,.int .i64 s)] a ∧ Stw ⟨Y,[],w0⟩ [(b1,[.int .i64 p0.1.1,v1,v2,v3,v4,.int .i64 p0.2.2.2.1,.int .i64 p0.2.2.2.2.1,.int .i64 p0.2.2.2.2.2.1,.int .i64 p0.2.2.2.2.2.2.1,.int .i64 p0.2.2.2.2.2.2.2.1,.int .i64 p0.2.2.2.2.2.2.2.2])] [] w) ⟨hF.ra rfl,hW⟩ (fun s o a w H L7 hR => ?_)
     obtain ⟨x8,rfl⟩ : ∃ x,x = s := ⟨s,rfl⟩
     obtain ⟨hF,hW⟩ := hR
     have hF : Fr 104 [] [(1,v5),(2,.pointer (some ⟨b1,0,none⟩)),(4,.bool false),(6,.int .i64 x3),(7,.int .i64 x8)] a := hF
     have hW : Stw ⟨Y,[],w0⟩ [(b1,[.int .i64 p0.1.1,v1,v2,v3,v4,.int .i64 p0.2.2.2.1,.int .i64 p0.2.2.2.2.1,.int .i64 p0.2.2.2.2.2.1,.int .i64 p0.2.2.2.2.2.2.1,.int .i64 p0.2.2.2.2.2.2.2.1,.int .i64 p0.2.2.2.2.2.2.2.2])] [] w := hW
     rw [Jj] at H
     refine vc tk 6 hF hW fun a w hF hW => ?_
     obtain ⟨x9,h19,H⟩ := Ad H
     obtain ⟨v12,h20,h21⟩ := Dm h2 h19
     have h22 : Lt v12 = [.int .i64 x9.1,.int .i64 x9.2.1,.int .i64 x9.2.2.1,.int .i64 x9.2.2.2.1,.int .i64 x9.2.2.2.2.1,.int .i64 x9.2.2.2.2.2.1,.int .i64 x9.2.2.2.2.2.2.1,.int .i64 x9.2.2.2.2.2.2.2.1,.int .i64 x9.2.2.2.2.2.2.2.2.1,.int .i64 x9.2.2.2.2.2.2.2.2.2.1,.int .i64 x9.2.2.2.2.2.2.2.2.2.2.1,.int .i64 x9.2.2.2.2.2.2.2.2.2.2.2.1,.int .i64 x9.2.2.2.2.2.2.2.2.2.2.2.2.1,(v12.2.2.2.2.2.2.2.2.2.2.2.2.2.1)] := congrArg (fun q : Int × Int × Int × Int × (Int × Int × Int × Int × Int × Int × Int × Int × Int × (List (Int × (Int × (Int × (Int × Int × Int × Int) × (Int × Int × Int × Int)) × (List (Int × Int × Int))) × Bool))) => ([.int .i64 q.1,.int .i64 q.2.1,.int .i64 q.2.2.1,.int .i64 q.2.2.2.1,.int .i64 q.2.2.2.2.1,.int .i64 q.2.2.2.2.2.1,.int .i64 q.2.2.2.2.2.2.1,.int .i64 q.2.2.2.2.2.2.2.1,.int .i64 q.2.2.2.2.2.2.2.2.1,.int .i64 q.2.2.2.2.2.2.2.2.2.1,.int .i64 q.2.2.2.2.2.2.2.2.2.2.1,.int .i64 q.2.2.2.2.2.2.2.2.2.2.2.1,.int .i64 q.2.2.2.2.2.2.2.2.2.2.2.2.1,(v12.2.2.2.2.2.2.2.2.2.2.2.2.2.1)] : List Value)) h21
     refine ls hF hW rfl ((Ai (r := P4) YS hF rfl rfl (Ab h_v5) h20).q) (fun a w hF hW => ?_)
     refine vl tk 2 hF hW fun a w hF hW => ?_
     refine ls hF hW rfl ((Af (y := (v12.2.2.2.2.2.2.2.2.2.2.2.2.2.1)) (j := 13) (i := x3) (enc := Lt) hF rfl rfl (Ab h_v5) h20 TL aU (by rw [h22]; rfl)).q) (fun a w hF hW => ?_)
     refine ls hF hW rfl ((AK (r := Y9) (l := x9.2.2.2.2.2.2.2.2.2.2.2.2.2) WE rfl hF rfl (Ch U3 (congrArg (fun q : Int × Int × Int × Int × (Int × Int × Int × Int × Int × Int × Int × Int × Int × (List (Int × (Int × (Int × (Int × Int × Int × Int) × (Int × Int × Int × Int)) × (List (Int × Int × Int))) × Bool))) => q.2.2.2.2.2.2.2.2.2.2.2.2.2) h21) (BL (Ab h_v5) h20 (AN.snd (AN.snd (AN.snd (AN.snd (AN.snd (AN.snd (AN.snd (AN.snd (AN.snd (AN.snd (AN.snd (AN.snd (AN.snd AN.here))))))))))))) rfl))).q) (fun a w hF hW => ?_)
     refine Bc tk 3 hF hW fun a w hF hW => ?_
     refine AG hF rfl H (fun hF H => ?_) (fun hF H => ?_)
     ·
      refine D2 tk 8 hF hW fun a w hF hW => ?_
      obtain ⟨x10,h23,H⟩ := Ad H
      obtain ⟨v13,h24,h25⟩ := Dm h2 h23
      have h26 : Lt v13 = [.int .i64 x10.1,.int .i64 x10.2.1,.int .i64 x10.2.2.1,.int .i64 x10.2.2.2.1,.int .i64 x10.2.2.2.2.1,.int .i64 x10.2.2.2.2.2.1,.int .i64 x10.2.2.2.2.2.2.1,.int .i64 x10.2.2.2.2.2.2.2.1,.int .i64 x10.2.2.2.2.2.2.2.2.1,.int .i64 x10.2.2.2.2.2.2.2.2.2.1,.int .i64 x10.2.2.2.2.2.2.2.2.2.2.1,.int .i64 x10.2.2.2.2.2.2.2.2.2.2.2.1,.int .i64 x10.2.2.2.2.2.2.2.2.2.2.2.2.1,(v13.2.2.2.2.2.2.2.2.2.2.2.2.2.1)] := congrArg (fun q : Int × Int × Int × Int × (Int × Int × Int × Int × Int × Int × Int × Int × Int × (List (Int × (Int × (Int × (Int × Int × Int × Int) × (Int × Int × Int × Int)) × (List (Int × Int × Int))) × Bool))) => ([.int .i64 q.1,.int .i64 q.2.1,.int .i64 q.2.2.1,.int .i64 q.2.2.2.1,.int .i64 q.2.2.2.2.1,.int .i64 q.2.2.2.2.2.1,.int .i64 q.2.2.2.2.2.2.1,.int .i64 q.2.2.2.2.2.2.2.1,.int .i64 q.2.2.2.2.2.2.2.2.1,.int .i64 q.2.2.2.2.2.2.2.2.2.1,.int .i64 q.2.2.2.2.2.2.2.2.2.2.1,.int .i64 q.2.2.2.2.2.2.2.2.2.2.2.1,.int .i64 q.2.2.2.2.2.2.2.2.2.2.2.2.1,(v13.2.2.2.2.2.2.2.2.2.2.2.2.2.1)] : List Value)) h25
      refine ls hF hW rfl ((Ai (r := P4) YS hF rfl rfl (Ab h_v5) h24).q) (fun a w hF hW => ?_)
      refine vl tk 2 hF hW fun a w hF hW => ?_
      refine ls hF hW rfl ((Af (y := (v13.2.2.2.2.2.2.2.2.2.2.2.2.2.1)) (j := 13) (i := x3) (enc := Lt) hF rfl rfl (Ab h_v5) h24 TL aU (by rw [h26]; rfl)).q) (fun a w hF hW => ?_)
      refine ls hF hW rfl ((Al hF rfl).q) (fun a w hF hW => ?_)
      obtain ⟨x11,h27,H⟩ := Ad H
      obtain ⟨v14,h28,h29⟩ := Dm (congrArg (fun q : Int × Int × Int × Int × (Int × Int × Int × Int × Int × Int × Int × Int × Int × (List (Int × (Int × (Int × (Int × Int × Int × Int) × (Int × Int × Int × Int)) × (List (Int × Int × Int))) × Bool))) => q.2.2.2.2.2.2.2.2.2.2.2.2.2) h25) h27
      have h30 : WZ v14 = [.int .i64 x11.1,.int .i64 x11.2.1.1,.int .i64 x11.2.1.2.1.1,.int .i64 x11.2.1.2.1.2.1.1,.int .i64 x11.2.1.2.1.2.1.2.1,.int .i64 x11.2.1.2.1.2.1.2.2.1,.int .i64 x11.2.1.2.1.2.1.2.2.2,.int .i64 x11.2.1.2.1.2.2.1,.int .i64 x11.2.1.2.1.2.2.2.1,.int .i64 x11.2.1.2.1.2.2.2.2.1,.int .i64 x11.2.1.2.1.2.2.2.2.2,(v14.2.1.2.2.1),.bool x11.2.2] := congrArg (fun q : Int × (Int × (Int × (Int × Int × Int × Int) × (Int × Int × Int × Int)) × (List (Int × Int × Int))) × Bool => ([.int .i64 q.1,.int .i64 q.2.1.1,.int .i64 q.2.1.2.1.1,.int .i64 q.2.1.2.1.2.1.1,.int .i64 q.2.1.2.1.2.1.2.1,.int .i64 q.2.1.2.1.2.1.2.2.1,.int .i64 q.2.1.2.1.2.1.2.2.2,.int .i64 q.2.1.2.1.2.2.1,.int .i64 q.2.1.2.1.2.2.2.1,.int .i64 q.2.1.2.1.2.2.2.2.1,.int .i64 q.2.1.2.1.2.2.2.2.2,(v14.2.1.2.2.1),.bool q.2.2] : List Value)) h29
      refine ls hF hW rfl ((Ai (r := Vi) f0 hF rfl rfl (BL (Ab h_v5) h24 (AN.snd (AN.snd (AN.snd (AN.snd (AN.snd (AN.snd (AN.snd (AN.snd (AN.snd (AN.snd (AN.snd (AN.snd (AN.snd AN.here))))))))))))) rfl) h28).q) (fun a w hF hW => ?_)
      refine vl tk 2 hF hW fun a w hF hW => ?_
      refine ls hF hW rfl ((Af (y := (v14.2.1.2.2.1)) (j := 11) (i := x8) (enc := WZ) hF rfl rfl (BL (Ab h_v5) h24 (AN.snd (AN.snd (AN.snd (AN.snd (AN.snd (AN.snd (AN.snd (AN.snd (AN.snd (AN.snd (AN.snd (AN.snd (AN.snd AN.here))))))))))))) rfl) h28 Z8 gP (by rw [h30]; rfl)).q) (fun a w hF hW => ?_)
      refine ls hF hW rfl ((AK (r := WS) (l := x11.2.1.2.2) dU rfl hF rfl (BL (BL (Ab h_v5) h24 (AN.snd (AN.snd (AN.snd (AN.snd (AN.snd (AN.snd (AN.snd (AN.snd (AN.snd (AN.snd (AN.snd (AN.snd (AN.snd AN.here))))))))))))) rfl) h28 (AN.snd (AN.fst (AN.snd (AN.snd AN.here)))) (congrArg (fun q : Int × (Int × (Int × (Int × Int × Int × Int) × (Int × Int × Int × Int)) × (List (Int × Int × Int))) × Bool => q.2.1.2.2) h29))).q) (fun a w hF hW => ?_)
      refine Bc tk 3 hF hW fun a w hF hW => ?_
      refine AG hF rfl H (fun hF H => ?_) (fun hF H => ?_)
      ·
       refine vc tk 5 hF hW fun a w hF hW => ?_
       refine Ah ?_
       refine Az ?_
       iterate 2 refine Ak ?_
       iterate 2 refine Az ?_
       iterate 2 refine Ak ?_
       refine Az ?_
       refine Ak ?_
       have H := L7 _ H
       have H := L5 _ H
       have H := L4 _ H
       have H := L3 _ H
       have H := Option.some.inj H
       subst H
       refine Aw (.inl rfl) hF hW rfl (Ag hF rfl) ?_
       exact ⟨rfl,hW.done⟩
      ·
       refine Ay ?_
       refine An ?_
       refine vn tk 5 hF hW fun a w hF hW => ?_
       refine Aa ?_
       exact ⟨_,H,hF.ra rfl,hW⟩
     ·
      refine AE ?_
      iterate 2 refine AQ ?_
      refine AF ?_
      refine An ?_
      refine Aa ?_
      have H := L7 _ H
      exact ⟨H,hF.ra rfl,hW⟩
   rintro a w ⟨hj,hF,hW⟩
   have H := K5 _ hj
   clear hj G5 K5 L5
   refine vc tk 5 hF hW fun a w hF hW => ?_
   refine Aa ?_
   exact ⟨_,H,hF.ra rfl,hW⟩
  ·
   refine AE ?_
   iterate 2 refine AQ ?_
   refine AF ?_
   refine Aa ?_
   have H := L4 _ H
   exact ⟨H,hF.ra rfl,hW⟩
 rintro a w ⟨hj,hF,hW⟩
 have H := K3 _ hj
 clear hj G3 K3 L3
 refine Aj (fun a w => Fr 104 [] [(4,.bool (decide ((p0.1.2.1.length : Int) ≤ 30) && (decide ((p0.1.2.2.length : Int) ≤ 12) && (decide ((p0.2.1.length : Int) ≤ 6) && decide ((p0.2.2.1.length : Int) ≤ 12)))))] a ∧ Stw ⟨Y,[],w0⟩ [(b1,[.int .i64 p0.1.1,v1,v2,v3,v4,.int .i64 p0.2.2.2.1,.int .i64 p0.2.2.2.2.1,.int .i64 p0.2.2.2.2.2.1,.int .i64 p0.2.2.2.2.2.2.1,.int .i64 p0.2.2.2.2.2.2.2.1,.int .i64 p0.2.2.2.2.2.2.2.2])] [] w) ?_ ?_
 ·
  refine D7 tk 4 [0] hF hW (ai fun a w hF hW => ?_)
  refine ls hF hW rfl ((AK (r := B8) (l := p0.1.2.1) JB rfl hF rfl (Ab h_v1)).q) (fun a w hF hW => ?_)
  refine vl tk 2 hF hW fun a w hF hW => ?_
  rcases bxq (decide ((p0.1.2.1.length : Int) ≤ 30)) with hb0 | hb0
  ·
   rw [hb0] at hF
   refine Eb tk 3 [0] hF hW (ai fun a w hF hW => ?_)
   refine BC hF hW (Ac hF rfl rfl rfl rfl) rfl (ze rfl) ((AK (r := Cc) (l := p0.1.2.2) JG rfl hF rfl (Ab h_v2)).q) (fun a w hF hW => ?_)
   refine vl tk 3 hF hW fun a w hF hW => ?_
   rcases bxq (decide ((p0.1.2.2.length : Int) ≤ 12)) with hb1 | hb1
   ·
    rw [hb1] at hF
    refine Eb tk 2 [0] hF hW (ai fun a w hF hW => ?_)
    refine BC hF hW (Ac hF rfl rfl rfl rfl) rfl (ze rfl) ((AK (r := (Rp.slice (Rp.int .u64))) (l := p0.2.1) Pi rfl hF rfl (Ch HW h1 (Ab h_v3))).q) (fun a w hF hW => ?_)
    refine vl tk 3 hF hW fun a w hF hW => ?_
    rcases bxq (decide ((p0.2.1.length : Int) ≤ 6)) with hb2 | hb2
    ·
     rw [hb2] at hF
     refine Eb tk 2 [0] hF hW (ai fun a w hF hW => ?_)
     refine BC hF hW (Ac hF rfl rfl rfl rfl) rfl (ze rfl) ((AK (r := (Rp.int .i64)) (l := p0.2.2.1) GG rfl hF rfl (Ab h_v4)).q) (fun a w hF hW => ?_)
     refine vl tk 4 hF hW fun a w hF hW => ?_
     refine Aa ?_
     exact ⟨hF.re ⟨(Di (by try rw [hb0]; try rw [hb1]; try rw [hb2]; all_goals simp only [Dl])),trivial⟩,hW⟩
    ·
     rw [hb2] at hF
     refine vl tk 7 hF hW fun a w hF hW => ?_
     refine Aa ?_
     exact ⟨hF.re ⟨(Di (by try rw [hb0]; try rw [hb1]; try rw [hb2]; all_goals simp only [Dl])),trivial⟩,hW⟩
   ·
    rw [hb1] at hF
    refine vl tk 13 hF hW fun a w hF hW => ?_
    refine Aa ?_
    exact ⟨hF.re ⟨(Di (by try rw [hb0]; try rw [hb1]; all_goals simp only [Dl])),trivial⟩,hW⟩
  ·
   rw [hb0] at hF
   refine vl tk 20 hF hW fun a w hF hW => ?_
   refine Aa ?_
   exact ⟨hF.re ⟨(Di (by try rw [hb0]; all_goals simp only [Dl])),trivial⟩,hW⟩
 rintro a w ⟨hF,hW⟩
 refine Ah ?_
 have H := Option.some.inj H
 subst H
 refine Aw (.inl rfl) hF hW rfl (Ag hF rfl) ?_
 exact ⟨rfl,hW.done⟩
theorem H4 : Has Tryz.prog 4 := Bj Tryz.func4
def Fk  : Bool := true
theorem J0 (Y : Nat → Prop) (w0 : World)   (r : Bool) (H : Fk  = r)  :
    Calls Tryz.prog 5 #[] w0 fun e w' => e = .returned (.bool r) ∧ Below w0.heap.size w0 w' := H ▸ dS w0
theorem MH : type_of% Tryz.underlying127 := Tryz.underlying127
theorem JY : type_of% Tryz.underlying130 := Tryz.underlying130
theorem V2 : type_of% Tryz.underlying134 := Tryz.underlying134
theorem QN : type_of% Tryz.underlying137 := Tryz.underlying137
theorem H5 : Has Tryz.prog 5 := Bj Tryz.func5
abbrev FY (x : Int × Int) : Value := .agg #[.int .i64 x.1,.int .i64 x.2]
abbrev GI (x : Unit) : Value := .agg #[]
theorem Wb : Et Tryz.prog 22 127 6 48 := Et.of JB (by kernel_rfl) (by kernel_rfl) (by kernel_rfl) (by decide)
def cA (a : Int × Int × Int × Int × Int × Int) : List Value := [.int .i64 a.1,.int .i64 a.2.1,.int .i64 a.2.2.1,.int .i64 a.2.2.2.1,.int .i64 a.2.2.2.2.1,.int .i64 a.2.2.2.2.2]
theorem Pf : Fl B8 cA := (Fl.pair Fl.int (Fl.pair Fl.int (Fl.pair Fl.int (Fl.pair Fl.int (Fl.pair Fl.int Fl.int)))))
theorem Lv : Ty Tryz.prog 127 true 6 := ⟨by kernel_rfl,by kernel_rfl⟩
theorem Tn : (Tryz.prog.info? 127).bind (·.zero) = some (.agg #[.int .i64 0,.int .i64 0,.int .i64 0,.int .i64 0,.int .i64 0,.int .i64 0]) := by kernel_rfl
theorem XA : Bt Tryz.prog 137 [.int .i64 0,.int .i64 0] [(0,1),(1,1)] := ⟨⟨.agg #[.int .i64 0,.int .i64 0],by kernel_rfl,rfl⟩,⟨_,QN,fun w => by kernel_rfl⟩⟩
theorem Xk : (Tryz.prog.info? 137).bind (·.zero) = some (.agg #[.int .i64 0,.int .i64 0]) := by kernel_rfl
abbrev EH : Rp (Int × Int) := (Rp.pair (Rp.int .i64) (Rp.int .i64))
def aL (a : Int × Int) : List Value := [.int .i64 a.1,.int .i64 a.2]
theorem Xr : Fl EH aL := (Fl.pair Fl.int Fl.int)
theorem SZ : Et Tryz.prog 134 137 2 16 := Et.of V2 (by kernel_rfl) (by kernel_rfl) (by kernel_rfl) (by decide)
theorem UE : Et Tryz.prog 23 130 2 16 := Et.of JG (by kernel_rfl) (by kernel_rfl) (by kernel_rfl) (by decide)
def bF (a : Int × Int) : List Value := [.int .i64 a.1,.int .i64 a.2]
theorem Nz : Fl Cc bF := (Fl.pair Fl.int Fl.int)
theorem Y2 : Ty Tryz.prog 130 true 2 := ⟨by kernel_rfl,by kernel_rfl⟩
theorem dN : (Tryz.prog.info? 130).bind (·.zero) = some (.agg #[.int .i64 0,.int .i64 0]) := by kernel_rfl
def CQ (p0 : Int × (List (Int × Int × Int × Int × Int × Int)) × (List (Int × Int))) : ((List (Int × Int)) × Int) → Option (((List (Int × Int)) × Int) ⊕ (List (Int × Int)))
  | (x2,x3) => (if x3 < (p0.2.1.length : Int) then (ix p0.2.1 x3).bind fun x4 => (app x2 ([(x4.1,x4.2.1),(x4.2.2.1,x4.2.2.2.1)] : List (Int × Int))).bind fun x5 => some (.inl (x5,w64 (x3 + 1))) else some (.inr x2))
def CM (p0 : Int × (List (Int × Int × Int × Int × Int × Int)) × (List (Int × Int))) : ((List (Int × Int)) × Int) → Option (((List (Int × Int)) × Int) ⊕ (List (Int × Int)))
  | (x7,x8) => (if x8 < (p0.2.2.length : Int) then (ix p0.2.2 x8).bind fun x9 => (app x7 ([x9] : List (Int × Int))).bind fun x10 => some (.inl (x10,w64 (x8 + 1))) else some (.inr x7))
def E3 (p0 : Int × (List (Int × Int × Int × Int × Int × Int)) × (List (Int × Int))) : Option (List (Int × Int)) := (Am (CQ p0) ([],0)).bind fun x1 => (Am (CM p0) (x1,0)).bind fun x6 => some x6
theorem Ma (Y : Nat → Prop) (w0 : World) (v1 : Value) (v2 : Value) (p0 : Int × (List (Int × Int × Int × Int × Int × Int)) × (List (Int × Int))) (r : (List (Int × Int))) (H : E3 p0 = some r) (h_v1 : Sl w0 (NX []) B8 v1 p0.2.1) (h_v2 : Sl w0 (NX []) Cc v2 p0.2.2) :
    Calls Tryz.prog 52 #[.agg #[.int .i64 p0.1,v1,v2]] w0 fun e w' => ∃ x : Value,e = .returned (x) ∧ Stw ⟨Y,[],w0⟩ [] [row (x) 137 EH r] w' := by
 refine enter Tryz.func52 rfl Tryz.ntmps52 rfl (fun a hF => ?_)
 have hW := Stw.start Y w0
 unfold E3 at H
 refine vc tk 2 hF hW fun a w hF hW => ?_
 refine Cv (cs := [.int .i64 p0.1,v1,v2]) hF hW rfl rfl rfl (fun b1 a w hF hW => ?_)
 refine Bc tk 8 hF hW fun a w hF hW => ?_
 obtain ⟨o1,G1,K1⟩ := Ad H
 refine Aj (fun a w => ∃ x1 : List (Int × Int), ∃ v3 : Value,some (x1) = some o1 ∧ Fr 46 [] [(1,.pointer (some ⟨b1,0,none⟩)),(2,.slice none 0 0),(3,v3)] a ∧ Stw ⟨Y,[],w0⟩ [(b1,[.int .i64 p0.1,v1,v2])] [row v3 137 EH x1] w) ?_ ?_
 ·
  have H := G1
  clear G1 K1
  refine D7 tk 4 [0] hF hW (ai fun a w hF hW => ?_)
  refine ls hF hW rfl ((AK (r := B8) (l := p0.2.1) JB rfl hF rfl (Ab h_v1)).q) (fun a w hF hW => ?_)
  refine Bc tk 4 hF hW fun a w hF hW => ?_
  have hW := hW.nilRow 137 EH
  refine AD H (fun s a w => ∃ v4 : Value,Fr 46 [] [(1,.pointer (some ⟨b1,0,none⟩)),(2,.slice none 0 0),(3,v4),(9,v1),(10,.int .i64 (p0.2.1.length : Int)),(11,.int .i64 s.2)] a ∧ Stw ⟨Y,[],w0⟩ [(b1,[.int .i64 p0.1,v1,v2])] [row v4 137 EH s.1] w) ⟨(Value.slice none 0 0),hF.ra rfl,hW⟩ (fun s o a w H L2 hR => ?_)
  obtain ⟨x2,x3⟩ := s
  obtain ⟨v4,hF,hW⟩ := hR
  have hF : Fr 46 [] [(1,.pointer (some ⟨b1,0,none⟩)),(2,.slice none 0 0),(3,v4),(9,v1),(10,.int .i64 (p0.2.1.length : Int)),(11,.int .i64 x3)] a := hF
  have hW : Stw ⟨Y,[],w0⟩ [(b1,[.int .i64 p0.1,v1,v2])] [row v4 137 EH x2] w := hW
  rw [CQ] at H
  refine vc tk 6 hF hW fun a w hF hW => ?_
  refine AG hF rfl H (fun hF H => ?_) (fun hF H => ?_)
  ·
   refine D2 tk 6 hF hW fun a w hF hW => ?_
   obtain ⟨x4,h1,H⟩ := Ad H
   refine ls hF hW rfl ((Ai (r := B8) Wb hF rfl rfl (Ab h_v1) h1).q) (fun a w hF hW => ?_)
   refine ls hF hW rfl ((Af (y := Value.agg #[.int .i64 x4.1,.int .i64 x4.2.1,.int .i64 x4.2.2.1,.int .i64 x4.2.2.2.1,.int .i64 x4.2.2.2.2.1,.int .i64 x4.2.2.2.2.2]) (j := 0) (i := x3) hF rfl rfl (Ab h_v1) h1 Pf.to Lv rfl).q) (fun a w hF hW => ?_)
   refine Ck (cs := [.int .i64 0,.int .i64 0,.int .i64 0,.int .i64 0,.int .i64 0,.int .i64 0]) hF hW rfl Tn rfl (fun b2 a w hF hW => ?_)
   refine Iw 0 hF hW rfl rfl rfl Lv rfl rfl rfl (fun w hW => ?_)
   refine E9 tk 8 [0,0] hF hW (ai (ai fun a w hF hW => ?_))
   refine ls hF hW rfl ((DV (v := Value.agg #[.int .i64 x4.1,.int .i64 x4.2.1]) XA hF rfl rfl rfl).q) (fun a w hF hW => ?_)
   refine Eb tk 4 [0,0] hF hW (ai (ai fun a w hF hW => ?_))
   refine ls hF hW rfl ((DV (v := Value.agg #[.int .i64 x4.2.2.1,.int .i64 x4.2.2.2.1]) XA hF rfl rfl rfl).q) (fun a w hF hW => ?_)
   refine CK (z := Value.agg #[.int .i64 0,.int .i64 0]) (cs := [.int .i64 x4.1,.int .i64 x4.2.1,.int .i64 x4.2.2.1,.int .i64 x4.2.2.2.1]) EH ([(x4.1,x4.2.1),(x4.2.2.1,x4.2.2.2.1)] : List (Int × Int)) hF hW rfl SZ Xk rfl rfl rfl rfl rfl rfl (Xr.repL _ _ ([(x4.1,x4.2.1),(x4.2.2.1,x4.2.2.2.1)] : List (Int × Int))) (fun v5 a w hF hW => ?_)
   obtain ⟨x5,h2,H⟩ := Ad H
   refine BF (r := EH) (i := 1) hF hW rfl SZ rfl rfl rfl rfl (BU hW 0 rfl) h2 rfl (fun v6 a w hF hW => ?_)
   have hW : Stw ⟨Y,[],w0⟩ [(b2,[.int .i64 x4.1,.int .i64 x4.2.1,.int .i64 x4.2.2.1,.int .i64 x4.2.2.2.1,.int .i64 x4.2.2.2.2.1,.int .i64 x4.2.2.2.2.2]),(b1,[.int .i64 p0.1,v1,v2])] [row v6 137 EH x5,row v5 137 EH ([(x4.1,x4.2.1),(x4.2.2.1,x4.2.2.2.1)] : List (Int × Int))] w := hW
   refine vl tk 2 hF hW fun a w hF hW => ?_
   refine An ?_
   refine vn tk 4 hF hW fun a w hF hW => ?_
   refine Aa ?_
   have hW := hW.frontM (i := 1) rfl rfl
   have hW := hW.sub (M' := [(b1,[.int .i64 p0.1,v1,v2])]) (Z' := [row v6 137 EH x5]) (List.Sublist.cons_cons _ (List.nil_sublist _)) (List.Sublist.cons_cons _ (List.nil_sublist _))
   exact ⟨_,H,(v6),hF.ra rfl,hW⟩
  ·
   refine AE ?_
   iterate 2 refine AQ ?_
   refine AF ?_
   refine Aa ?_
   have H := L2 _ H
   exact ⟨_,(v4),H,hF.ra rfl,hW⟩
 rintro a w ⟨x1,v3,hj,hF,hW⟩
 have hj := Option.some.inj hj
 subst hj
 have H := K1
 clear G1 K1
 obtain ⟨o3,G3,K3⟩ := Ad H
 refine Aj (fun a w => ∃ x6 : List (Int × Int), ∃ v7 : Value,some (x6) = some o3 ∧ Fr 46 [] [(2,.slice none 0 0),(3,v7)] a ∧ Stw ⟨Y,[],w0⟩ [(b1,[.int .i64 p0.1,v1,v2])] [row v7 137 EH x6] w) ?_ ?_
 ·
  have H := G3
  clear G3 K3
  refine D7 tk 4 [0] hF hW (ai fun a w hF hW => ?_)
  refine ls hF hW rfl ((AK (r := Cc) (l := p0.2.2) JG rfl hF rfl (Ab h_v2)).q) (fun a w hF hW => ?_)
  refine Bc tk 4 hF hW fun a w hF hW => ?_
  refine AD H (fun s a w => ∃ v8 : Value,Fr 46 [] [(2,.slice none 0 0),(3,v8),(30,v2),(31,.int .i64 (p0.2.2.length : Int)),(32,.int .i64 s.2)] a ∧ Stw ⟨Y,[],w0⟩ [(b1,[.int .i64 p0.1,v1,v2])] [row v8 137 EH s.1] w) ⟨(v3),hF.ra rfl,hW⟩ (fun s o a w H L4 hR => ?_)
  obtain ⟨x7,x8⟩ := s
  obtain ⟨v8,hF,hW⟩ := hR
  have hF : Fr 46 [] [(2,.slice none 0 0),(3,v8),(30,v2),(31,.int .i64 (p0.2.2.length : Int)),(32,.int .i64 x8)] a := hF
  have hW : Stw ⟨Y,[],w0⟩ [(b1,[.int .i64 p0.1,v1,v2])] [row v8 137 EH x7] w := hW
  rw [CM] at H
  refine vc tk 6 hF hW fun a w hF hW => ?_
  refine AG hF rfl H (fun hF H => ?_) (fun hF H => ?_)
  ·
   refine D2 tk 6 hF hW fun a w hF hW => ?_
   obtain ⟨x9,h3,H⟩ := Ad H
   refine ls hF hW rfl ((Ai (r := Cc) UE hF rfl rfl (Ab h_v2) h3).q) (fun a w hF hW => ?_)
   refine ls hF hW rfl ((Af (y := Value.agg #[.int .i64 x9.1,.int .i64 x9.2]) (j := 0) (i := x8) hF rfl rfl (Ab h_v2) h3 Nz.to Y2 rfl).q) (fun a w hF hW => ?_)
   refine Ck (cs := [.int .i64 0,.int .i64 0]) hF hW rfl dN rfl (fun b3 a w hF hW => ?_)
   refine Iw 0 hF hW rfl rfl rfl Y2 rfl rfl rfl (fun w hW => ?_)
   refine E9 tk 8 [0,0] hF hW (ai (ai fun a w hF hW => ?_))
   refine ls hF hW rfl ((DV (v := Value.agg #[.int .i64 x9.1,.int .i64 x9.2]) XA hF rfl rfl rfl).q) (fun a w hF hW => ?_)
   refine CK (z := Value.agg #[.int .i64 0,.int .i64 0]) (cs := [.int .i64 x9.1,.int .i64 x9.2]) EH ([x9] : List (Int × Int)) hF hW rfl SZ Xk rfl rfl rfl rfl rfl rfl (Xr.repL _ _ ([x9] : List (Int × Int))) (fun v9 a w hF hW => ?_)
   obtain ⟨x10,h4,H⟩ := Ad H
   refine BF (r := EH) (i := 1) hF hW rfl SZ rfl rfl rfl rfl (BU hW 0 rfl) h4 rfl (fun v10 a w hF hW => ?_)
   have hW : Stw ⟨Y,[],w0⟩ [(b3,[.int .i64 x9.1,.int .i64 x9.2]),(b1,[.int .i64 p0.1,v1,v2])] [row v10 137 EH x10,row v9 137 EH ([x9] : List (Int × Int))] w := hW
   refine vl tk 2 hF hW fun a w hF hW => ?_
   refine An ?_
   refine vn tk 4 hF hW fun a w hF hW => ?_
   refine Aa ?_
   have hW := hW.frontM (i := 1) rfl rfl
   have hW := hW.sub (M' := [(b1,[.int .i64 p0.1,v1,v2])]) (Z' := [row v10 137 EH x10]) (List.Sublist.cons_cons _ (List.nil_sublist _)) (List.Sublist.cons_cons _ (List.nil_sublist _))
   exact ⟨_,H,(v10),hF.ra rfl,hW⟩
  ·
   refine AE ?_
   iterate 2 refine AQ ?_
   refine AF ?_
   refine Aa ?_
   have H := L4 _ H
   exact ⟨_,(v8),H,hF.ra rfl,hW⟩
 rintro a w ⟨x6,v7,hj,hF,hW⟩
 have hj := Option.some.inj hj
 subst hj
 have H := K3
 clear G3 K3
 refine vc tk 6 hF hW fun a w hF hW => ?_
 refine Ah ?_
 have H := Option.some.inj H
 subst H
 refine Aw (.inl rfl) hF hW rfl (Ag hF rfl) ?_
 have hW := hW.sub (M' := []) (Z' := [row v7 137 EH x6]) (List.nil_sublist _) (List.Sublist.refl _)
 exact ⟨(v7),rfl,hW⟩
theorem M4 : type_of% Tryz.underlying3 := Tryz.underlying3
theorem YT : type_of% Tryz.underlying138 := Tryz.underlying138
theorem gR : Has Tryz.prog 52 := Bj Tryz.func52
theorem YN : Ty Tryz.prog 137 true 2 := ⟨by kernel_rfl,by kernel_rfl⟩
theorem Zi (dd : Nat) (x0 : Int) (x1 : Int) (y0 : Int) (y1 : Int) (w : World) : (Op.equalIn (dd + 2) 137 (.agg #[.int .i64 x0,.int .i64 x1]) (.agg #[.int .i64 y0,.int .i64 y1])).run Tryz.prog w = .ok (decide (x0 = y0 ∧ x1 = y1)) w :=
  MT (d := dd + 1) (rs := [decide (x0 = y0),decide (x1 = y1)]) QN (by kernel_rfl) ⟨rfl,FJ (d := dd + 0) rfl rfl M4 T3 rfl rfl,rfl,FJ (d := dd + 0) rfl rfl M4 T3 rfl rfl,trivial⟩ (by simp) w
theorem aV (x0 : Int) (x1 : Int) (y0 : Int) (y1 : Int) (w : World) : (Op.equalIn 10000 137 (.agg #[.int .i64 x0,.int .i64 x1]) (.agg #[.int .i64 y0,.int .i64 y1])).run Tryz.prog w = .ok (decide (x0 = y0 ∧ x1 = y1)) w := Zi 9998 x0 x1 y0 y1 w
theorem VE : KeyEnc Tryz.prog 137 FY := ⟨⟨_,QN,.inl fun _ _ => rfl⟩,fun x y w => (aV x.1 x.2 y.1 y.2 w).trans (by congr 1; exact decide_eq_decide.2 (by simp only [Prod.ext_iff])),fun b x w => Kc (m := 9999) (cs := List.toArray [.int .i64 x.1,.int .i64 x.2]) QN ⟨⟨_,OG T3 rfl,GE (m := 9998) M4⟩,⟨_,OG T3 rfl,GE (m := 9998) M4⟩,trivial⟩ b w,fun x => by simp [Instr.sameBits]⟩
theorem Yy : (Tryz.prog.info? 138).bind (·.zero) = some (.agg #[]) := by kernel_rfl
theorem dO : Ty Tryz.prog 138 true 0 := ⟨by kernel_rfl,by kernel_rfl⟩
theorem dL : Bt Tryz.prog 138 [] [] := ⟨⟨.agg #[],by kernel_rfl,rfl⟩,⟨_,YT,fun w => by kernel_rfl⟩⟩
def Bh (p0 : Int × Int × Int × Int × Int × Int) : Bool := (decide (p0.1 = p0.2.2.1) || (decide (p0.2.2.2.2.1 < 1) || (decide (p0.2.2.2.2.2 < p0.2.2.2.2.1) || decide (1000 < p0.2.2.2.2.2))))
theorem JH (Y : Nat → Prop) (w0 : World)  (p0 : Int × Int × Int × Int × Int × Int) (r : Bool) (H : Bh p0 = r)  :
    Calls Tryz.prog 54 #[.agg #[.int .i64 p0.1,.int .i64 p0.2.1,.int .i64 p0.2.2.1,.int .i64 p0.2.2.2.1,.int .i64 p0.2.2.2.2.1,.int .i64 p0.2.2.2.2.2]] w0 fun e w' => e = .returned (.bool r) ∧ Below w0.heap.size w0 w' := by
 refine enter Tryz.func54 rfl Tryz.ntmps54 rfl (fun a hF => ?_)
 have hW := Stw.start Y w0
 unfold Bh at H
 refine vc tk 2 hF hW fun a w hF hW => ?_
 refine Cv (cs := [.int .i64 p0.1,.int .i64 p0.2.1,.int .i64 p0.2.2.1,.int .i64 p0.2.2.2.1,.int .i64 p0.2.2.2.2.1,.int .i64 p0.2.2.2.2.2]) hF hW rfl rfl rfl (fun b1 a w hF hW => ?_)
 refine Bc tk 3 hF hW fun a w hF hW => ?_
 refine Aj (fun a w => Fr 25 [] [(2,.bool (decide (p0.1 = p0.2.2.1) || (decide (p0.2.2.2.2.1 < 1) || (decide (p0.2.2.2.2.2 < p0.2.2.2.2.1) || decide (1000 < p0.2.2.2.2.2)))))] a ∧ Stw ⟨Y,[],w0⟩ [(b1,[.int .i64 p0.1,.int .i64 p0.2.1,.int .i64 p0.2.2.1,.int .i64 p0.2.2.2.1,.int .i64 p0.2.2.2.2.1,.int .i64 p0.2.2.2.2.2])] [] w) ?_ ?_
 ·
  refine D7 tk 7 [0,0] hF hW (ai (ai fun a w hF hW => ?_))
  rcases bxq (decide (p0.1 = p0.2.2.1)) with hb0 | hb0
  ·
   rw [hb0] at hF
   refine vl tk 18 hF hW fun a w hF hW => ?_
   refine Aa ?_
   exact ⟨hF.re ⟨(Di (by try rw [hb0]; all_goals simp only [Dl])),trivial⟩,hW⟩
  ·
   rw [hb0] at hF
   refine Eb tk 5 [0] hF hW (ai fun a w hF hW => ?_)
   rcases bxq (decide (p0.2.2.2.2.1 < 1)) with hb1 | hb1
   ·
    rw [hb1] at hF
    refine vl tk 13 hF hW fun a w hF hW => ?_
    refine Aa ?_
    exact ⟨hF.re ⟨(Di (by try rw [hb1]; try rw [hb0]; all_goals simp only [Dl])),trivial⟩,hW⟩
   ·
    rw [hb1] at hF
    refine Eb tk 7 [0,0] hF hW (ai (ai fun a w hF hW => ?_))
    rcases bxq (decide (p0.2.2.2.2.2 < p0.2.2.2.2.1)) with hb2 | hb2
    ·
     rw [hb2] at hF
     refine vl tk 6 hF hW fun a w hF hW => ?_
     refine Aa ?_
     exact ⟨hF.re ⟨(Di (by try rw [hb2]; try rw [hb1]; try rw [hb0]; all_goals simp only [Dl])),trivial⟩,hW⟩
    ·
     rw [hb2] at hF
     refine Eb tk 6 [0] hF hW (ai fun a w hF hW => ?_)
     refine Aa ?_
     exact ⟨hF.re ⟨(Di (by try rw [hb2]; try rw [hb1]; try rw [hb0]; all_goals simp only [Dl])),trivial⟩,hW⟩
 rintro a w ⟨hF,hW⟩
 refine Ah ?_
 subst H
 refine Aw (.inl rfl) hF hW rfl (Ag hF rfl) ?_
 exact ⟨rfl,hW.done⟩
theorem fV : Has Tryz.prog 54 := Bj Tryz.func54
def AB (p0 : List (Int × Int × Int × Int × Int × Int)) : Int → Option (Int ⊕ (Unit ⊕ Int))
  | x1 => (if x1 < (p0.length : Int) then (ix p0 x1).bind fun x2 => (if (Bh x2) = true then some (.inr (.inr x1)) else some (.inl (w64 (x1 + 1)))) else some (.inr (.inl ())))
def Bn (p0 : List (Int × Int × Int × Int × Int × Int)) : Option Int := GU (Am (AB p0) 0) fun _ => some (-1)
theorem D0 (Y : Nat → Prop) (w0 : World) (v1 : Value) (p0 : List (Int × Int × Int × Int × Int × Int)) (r : Int) (H : Bn p0 = some r) (h_v1 : Sl w0 (NX []) B8 v1 p0) :
    Calls Tryz.prog 93 #[v1,.func (.func 54) #[] #[]] w0 fun e w' => e = .returned (.int .i64 r) ∧ Below w0.heap.size w0 w' := by
 refine enter Tryz.func93 rfl Tryz.ntmps93 rfl (fun a hF => ?_)
 have hW := Stw.start Y w0
 unfold Bn at H
 refine vc tk 5 hF hW fun a w hF hW => ?_
 obtain ⟨o1,G1,K1,L1⟩ := KC H
 refine Aj (fun a w => some (Sum.inl ()) = some o1 ∧ Fr 19 [] [(4,.int .i64 0)] a ∧ Stw ⟨Y,[],w0⟩ [] [] w) ?_ ?_
 ·
  have H := G1
  clear G1 K1
  refine vc tk 3 hF hW fun a w hF hW => ?_
  refine ls hF hW rfl ((AK (r := B8) (l := p0) JB rfl hF rfl (Ab h_v1)).q) (fun a w hF hW => ?_)
  refine Bc tk 4 hF hW fun a w hF hW => ?_
  refine AD H (fun s a w => Fr 19 [] [(0,v1),(1,.func (.func 54) #[] #[]),(4,.int .i64 0),(7,.int .i64 (p0.length : Int)),(8,.int .i64 s)] a ∧ Stw ⟨Y,[],w0⟩ [] [] w) ⟨hF.ra rfl,hW⟩ (fun s o a w H L2 hR => ?_)
  obtain ⟨x1,rfl⟩ : ∃ x,x = s := ⟨s,rfl⟩
  obtain ⟨hF,hW⟩ := hR
  have hF : Fr 19 [] [(0,v1),(1,.func (.func 54) #[] #[]),(4,.int .i64 0),(7,.int .i64 (p0.length : Int)),(8,.int .i64 x1)] a := hF
  have hW : Stw ⟨Y,[],w0⟩ [] [] w := hW
  rw [AB] at H
  refine vc tk 6 hF hW fun a w hF hW => ?_
  refine AG hF rfl H (fun hF H => ?_) (fun hF H => ?_)
  ·
   refine D2 tk 15 hF hW fun a w hF hW => ?_
   obtain ⟨x2,h1,H⟩ := Ad H
   refine ls hF hW rfl ((Ai (r := B8) Wb hF rfl rfl (Ab h_v1) h1).q) (fun a w hF hW => ?_)
   refine ls hF hW rfl ((Af (y := Value.agg #[.int .i64 x2.1,.int .i64 x2.2.1,.int .i64 x2.2.2.1,.int .i64 x2.2.2.2.1,.int .i64 x2.2.2.2.2.1,.int .i64 x2.2.2.2.2.2]) (j := 0) (i := x1) hF rfl rfl (Ab h_v1) h1 Pf.to Lv rfl).q) (fun a w hF hW => ?_)
   refine ls hF hW rfl (Nj (ws := [.agg #[.int .i64 x2.1,.int .i64 x2.2.1,.int .i64 x2.2.2.1,.int .i64 x2.2.2.2.1,.int .i64 x2.2.2.2.2.1,.int .i64 x2.2.2.2.2.2]]) (v := Value.bool (Bh x2)) hF fV rfl (fun w hW => JH any w x2 _ rfl)) (fun a w hF hW => ?_)
   refine Bc tk 2 hF hW fun a w hF hW => ?_
   refine BA hF rfl H (fun hF H => ?_) (fun hF H => ?_)
   ·
    refine vc tk 6 hF hW fun a w hF hW => ?_
    refine Ah ?_
    refine Az ?_
    iterate 2 refine Ak ?_
    refine Az ?_
    refine Ak ?_
    have H := L2 _ H
    have H := L1 _ H
    have H := Option.some.inj H
    subst H
    refine Aw (.inl rfl) hF hW rfl (Ag hF rfl) ?_
    exact ⟨rfl,hW.done⟩
   ·
    refine Ay ?_
    refine An ?_
    refine vn tk 4 hF hW fun a w hF hW => ?_
    refine Aa ?_
    exact ⟨_,H,hF.ra rfl,hW⟩
  ·
   refine AE ?_
   iterate 2 refine AQ ?_
   refine AF ?_
   refine Aa ?_
   have H := L2 _ H
   exact ⟨H,hF.ra rfl,hW⟩
 rintro a w ⟨hj,hF,hW⟩
 have H := K1 _ hj
 clear hj G1 K1 L1
 refine vc tk 5 hF hW fun a w hF hW => ?_
 refine Ah ?_
 have H := Option.some.inj H
 subst H
 refine Aw (.inl rfl) hF hW rfl (Ag hF rfl) ?_
 exact ⟨rfl,hW.done⟩
theorem gQ : Has Tryz.prog 93 := Bj Tryz.func93
def AY (p0 : List (Int × Int × Int × Int × Int × Int)) : Option Bool := (Bn p0).bind fun x1 => some (decide (0 ≤ x1))
theorem Ds (Y : Nat → Prop) (w0 : World) (v1 : Value) (p0 : List (Int × Int × Int × Int × Int × Int)) (r : Bool) (H : AY p0 = some r) (h_v1 : Sl w0 (NX []) B8 v1 p0) :
    Calls Tryz.prog 53 #[v1,.func (.func 54) #[] #[]] w0 fun e w' => e = .returned (.bool r) ∧ Below w0.heap.size w0 w' := by
 refine enter Tryz.func53 rfl Tryz.ntmps53 rfl (fun a hF => ?_)
 have hW := Stw.start Y w0
 unfold AY at H
 refine vc tk 9 hF hW fun a w hF hW => ?_
 obtain ⟨x1,h1,H⟩ := Ad H
 refine ls hF hW rfl (Av (v := Value.int .i64 x1) hF gQ rfl (fun w hW => D0 any w (v1) p0 _ h1 (D3 (Ab h_v1) hW))) (fun a w hF hW => ?_)
 refine Bc tk 4 hF hW fun a w hF hW => ?_
 refine Ah ?_
 have H := Option.some.inj H
 subst H
 refine Aw (.inl rfl) hF hW rfl (Ag hF rfl) ?_
 exact ⟨rfl,hW.done⟩
theorem We : type_of% Tryz.underlying133 := Tryz.underlying133
theorem gM : Has Tryz.prog 53 := Bj Tryz.func53
def B1 (p0 : Int × (List (Int × Int × Int × Int × Int × Int)) × (List (Int × Int))) (x2 : (List (Int × Int))) : (Int × (List ((Int × Int) × Unit))) → Option ((Int × (List ((Int × Int) × Unit))) ⊕ ((List ((Int × Int) × Unit)) ⊕ Bool))
  | (x3,x4) => (if x3 < (x2.length : Int) then (ix x2 x3).bind fun x5 => (if (decide (x5.1 < 0) || (decide (p0.1 ≤ x5.1) || (decide (x5.2 < 0) || decide (8 ≤ x5.2)))) = true then some (.inr (.inr false)) else (if ((Ki x4 x5).isSome) = true then some (.inr (.inr false)) else some (.inl (w64 (x3 + 1),Ks x4 x5 ())))) else some (.inr (.inl x4)))
def Eg (p0 : Int × (List (Int × Int × Int × Int × Int × Int)) × (List (Int × Int))) : Option Bool := (if (decide (p0.1 < 1) || (decide (8 < p0.1) || (decide (24 < (p0.2.1.length : Int)) || decide (8 < (p0.2.2.length : Int))))) = true then some false else GU ((E3 p0).bind fun x2 => Am (B1 p0 x2) (0,([] : List ((Int × Int) × Unit)))) fun x1 => (AY p0.2.1).bind fun x6 => some (!x6))
theorem Gw (Y : Nat → Prop) (w0 : World) (v1 : Value) (v2 : Value) (p0 : Int × (List (Int × Int × Int × Int × Int × Int)) × (List (Int × Int))) (r : Bool) (H : Eg p0 = some r) (h_v1 : Sl w0 (NX []) B8 v1 p0.2.1) (h_v2 : Sl w0 (NX []) Cc v2 p0.2.2) :
    Calls Tryz.prog 21 #[.agg #[.int .i64 p0.1,v1,v2]] w0 fun e w' => e = .returned (.bool r) ∧ Below w0.heap.size w0 w' := by
 refine enter Tryz.func21 rfl Tryz.ntmps21 rfl (fun a hF => ?_)
 have hW := Stw.start Y w0
 unfold Eg at H
 refine vc tk 2 hF hW fun a w hF hW => ?_
 refine Cv (cs := [.int .i64 p0.1,v1,v2]) hF hW rfl rfl rfl (fun b1 a w hF hW => ?_)
 refine Bc tk 4 hF hW fun a w hF hW => ?_
 refine Aj (fun a w => Fr 71 [] [(1,.pointer (some ⟨b1,0,none⟩)),(2,.bool false),(27,.bool (decide (p0.1 < 1) || (decide (8 < p0.1) || (decide (24 < (p0.2.1.length : Int)) || decide (8 < (p0.2.2.length : Int))))))] a ∧ Stw ⟨Y,[],w0⟩ [(b1,[.int .i64 p0.1,v1,v2])] [] w) ?_ ?_
 ·
  refine D7 tk 5 [0] hF hW (ai fun a w hF hW => ?_)
  rcases bxq (decide (p0.1 < 1)) with hb0 | hb0
  ·
   rw [hb0] at hF
   refine vl tk 17 hF hW fun a w hF hW => ?_
   refine Aa ?_
   exact ⟨hF.re ⟨rfl,rfl,(Di (by try rw [hb0]; all_goals simp only [Dl])),trivial⟩,hW⟩
  ·
   rw [hb0] at hF
   refine Eb tk 5 [0] hF hW (ai fun a w hF hW => ?_)
   rcases bxq (decide (8 < p0.1)) with hb1 | hb1
   ·
    rw [hb1] at hF
    refine vl tk 12 hF hW fun a w hF hW => ?_
    refine Aa ?_
    exact ⟨hF.re ⟨rfl,rfl,(Di (by try rw [hb0]; try rw [hb1]; all_goals simp only [Dl])),trivial⟩,hW⟩
   ·
    rw [hb1] at hF
    refine Eb tk 2 [0] hF hW (ai fun a w hF hW => ?_)
    refine BC hF hW (Ac hF rfl rfl rfl rfl) rfl (ze rfl) ((AK (r := B8) (l := p0.2.1) JB rfl hF rfl (Ab h_v1)).q) (fun a w hF hW => ?_)
    refine vl tk 3 hF hW fun a w hF hW => ?_
    rcases bxq (decide (24 < (p0.2.1.length : Int))) with hb2 | hb2
    ·
     rw [hb2] at hF
     refine vl tk 6 hF hW fun a w hF hW => ?_
     refine Aa ?_
     exact ⟨hF.re ⟨rfl,rfl,(Di (by try rw [hb2]; try rw [hb0]; try rw [hb1]; all_goals simp only [Dl])),trivial⟩,hW⟩
    ·
     rw [hb2] at hF
     refine Eb tk 2 [0] hF hW (ai fun a w hF hW => ?_)
     refine BC hF hW (Ac hF rfl rfl rfl rfl) rfl (ze rfl) ((AK (r := Cc) (l := p0.2.2) JG rfl hF rfl (Ab h_v2)).q) (fun a w hF hW => ?_)
     refine vl tk 3 hF hW fun a w hF hW => ?_
     refine Aa ?_
     exact ⟨hF.re ⟨rfl,rfl,(Di (by try rw [hb2]; try rw [hb0]; try rw [hb1]; all_goals simp only [Dl])),trivial⟩,hW⟩
 rintro a w ⟨hF,hW⟩
 refine BA hF rfl H (fun hF H => ?_) (fun hF H => ?_)
 ·
  refine vc tk 5 hF hW fun a w hF hW => ?_
  refine Ah ?_
  refine Ak ?_
  have H := Option.some.inj H
  subst H
  refine Aw (.inl rfl) hF hW rfl (Ag hF rfl) ?_
  exact ⟨rfl,hW.done⟩
 ·
  refine D2 tk 4 hF hW fun a w hF hW => ?_
  refine RL FY GI hF hW rfl (fun b2 a w hF hW => ?_)
  have hW : Stw ⟨Y,[],w0⟩ [(b1,[.int .i64 p0.1,v1,v2])] [mp b2 FY GI ([] : List ((Int × Int) × Unit))] w := hW
  refine vl tk 2 hF hW fun a w hF hW => ?_
  refine Aa ?_
  obtain ⟨o1,G1,K1,L1⟩ := KC H
  refine Aj (fun a w => ∃ x1 : List ((Int × Int) × Unit),some (Sum.inl x1) = some o1 ∧ Fr 71 [] [(1,.pointer (some ⟨b1,0,none⟩)),(2,.bool false)] a ∧ Stw ⟨Y,[],w0⟩ [(b1,[.int .i64 p0.1,v1,v2])] [mp b2 FY GI x1] w) ?_ ?_
  ·
   have H := G1
   clear G1 K1
   refine D7 tk 3 [0] hF hW (ai fun a w hF hW => ?_)
   obtain ⟨x2,h1,H⟩ := Ad H
   refine A9 (Ml := []) (Zl := []) (β := Value) (rv := fun x => x) (MM := fun x => []) (ZZ := fun x => [row x 137 EH x2]) hF hW gR rfl rfl (fun hL => Ma _ w (v1) (v2) p0 _ h1 ((Ab h_v1) w hW).nx ((Ab h_v2) w hW).nx) (fun x a w hF hW => ?_)
   obtain ⟨v3,rfl⟩ : ∃ y,y = x := ⟨x,rfl⟩
   have hW : Stw ⟨Y,[],w0⟩ [(b1,[.int .i64 p0.1,v1,v2])] [row v3 137 EH x2,mp b2 FY GI ([] : List ((Int × Int) × Unit))] w := hW
   refine ls hF hW rfl ((AK (r := EH) (l := x2) V2 rfl hF rfl (Ae 0 rfl)).q) (fun a w hF hW => ?_)
   refine Bc tk 4 hF hW fun a w hF hW => ?_
   have hW := hW.frontZ (i := 1) rfl rfl
   have hW := hW.frontZ (i := 1) rfl rfl
   refine AD H (fun s a w => Fr 71 [] [(1,.pointer (some ⟨b1,0,none⟩)),(2,.bool false),(3,.map (some b2)),(30,v3),(31,.int .i64 (x2.length : Int)),(32,.int .i64 s.1)] a ∧ Stw ⟨Y,[],w0⟩ [(b1,[.int .i64 p0.1,v1,v2])] [row v3 137 EH x2,mp b2 FY GI s.2] w) ⟨hF.ra rfl,hW⟩ (fun s o a w H L2 hR => ?_)
   obtain ⟨x3,x4⟩ := s
   obtain ⟨hF,hW⟩ := hR
   have hF : Fr 71 [] [(1,.pointer (some ⟨b1,0,none⟩)),(2,.bool false),(3,.map (some b2)),(30,v3),(31,.int .i64 (x2.length : Int)),(32,.int .i64 x3)] a := hF
   have hW : Stw ⟨Y,[],w0⟩ [(b1,[.int .i64 p0.1,v1,v2])] [row v3 137 EH x2,mp b2 FY GI x4] w := hW
   rw [B1] at H
   refine vc tk 6 hF hW fun a w hF hW => ?_
   refine AG hF rfl H (fun hF H => ?_) (fun hF H => ?_)
   ·
    refine D2 tk 6 hF hW fun a w hF hW => ?_
    obtain ⟨x5,h2,H⟩ := Ad H
    refine ls hF hW rfl ((Ai (r := EH) SZ hF rfl rfl (Ae 0 rfl) h2).q) (fun a w hF hW => ?_)
    refine ls hF hW rfl ((Af (y := Value.agg #[.int .i64 x5.1,.int .i64 x5.2]) (j := 0) (i := x3) hF rfl rfl (Ae 0 rfl) h2 Xr.to YN rfl).q) (fun a w hF hW => ?_)
    refine Ck (cs := [.int .i64 0,.int .i64 0]) hF hW rfl Xk rfl (fun b3 a w hF hW => ?_)
    refine Iw 0 hF hW rfl rfl rfl YN rfl rfl rfl (fun w hW => ?_)
    refine Bc tk 3 hF hW fun a w hF hW => ?_
    refine Aj (fun a w => Fr 71 [] [(1,.pointer (some ⟨b1,0,none⟩)),(2,.bool false),(3,.map (some b2)),(5,.pointer (some ⟨b3,0,none⟩)),(30,v3),(31,.int .i64 (x2.length : Int)),(32,.int .i64 x3),(55,.bool (decide (x5.1 < 0) || (decide (p0.1 ≤ x5.1) || (decide (x5.2 < 0) || decide (8 ≤ x5.2)))))] a ∧ Stw ⟨Y,[],w0⟩ [(b3,[.int .i64 x5.1,.int .i64 x5.2]),(b1,[.int .i64 p0.1,v1,v2])] [row v3 137 EH x2,mp b2 FY GI x4] w) ?_ ?_
    ·
     refine D7 tk 5 [0] hF hW (ai fun a w hF hW => ?_)
     rcases bxq (decide (x5.1 < 0)) with hb0 | hb0
     ·
      rw [hb0] at hF
      refine vl tk 17 hF hW fun a w hF hW => ?_
      refine Aa ?_
      exact ⟨hF.re ⟨rfl,rfl,rfl,rfl,rfl,rfl,rfl,(Di (by try rw [hb0]; all_goals simp only [Dl])),trivial⟩,hW⟩
     ·
      rw [hb0] at hF
      refine Eb tk 7 [0,1] hF hW (ai (ai fun a w hF hW => ?_))
      rcases bxq (decide (p0.1 ≤ x5.1)) with hb1 | hb1
      ·
       rw [hb1] at hF
       refine vl tk 10 hF hW fun a w hF hW => ?_
       refine Aa ?_
       exact ⟨hF.re ⟨rfl,rfl,rfl,rfl,rfl,rfl,rfl,(Di (by try rw [hb1]; try rw [hb0]; all_goals simp only [Dl])),trivial⟩,hW⟩
      ·
       rw [hb1] at hF
       refine Eb tk 5 [0] hF hW (ai fun a w hF hW => ?_)
       rcases bxq (decide (x5.2 < 0)) with hb2 | hb2
       ·
        rw [hb2] at hF
        refine vl tk 5 hF hW fun a w hF hW => ?_
        refine Aa ?_
        exact ⟨hF.re ⟨rfl,rfl,rfl,rfl,rfl,rfl,rfl,(Di (by try rw [hb1]; try rw [hb0]; try rw [hb2]; all_goals simp only [Dl])),trivial⟩,hW⟩
       ·
        rw [hb2] at hF
        refine Eb tk 5 [0] hF hW (ai fun a w hF hW => ?_)
        refine Aa ?_
        exact ⟨hF.re ⟨rfl,rfl,rfl,rfl,rfl,rfl,rfl,(Di (by try rw [hb1]; try rw [hb0]; try rw [hb2]; all_goals simp only [Dl])),trivial⟩,hW⟩
    rintro a w ⟨hF,hW⟩
    refine BA hF rfl H (fun hF H => ?_) (fun hF H => ?_)
    ·
     refine vc tk 5 hF hW fun a w hF hW => ?_
     refine Ah ?_
     refine Ak ?_
     refine Az ?_
     iterate 2 refine Ak ?_
     refine Az ?_
     refine Ak ?_
     have H := L2 _ H
     have H := L1 _ H
     have H := Option.some.inj H
     subst H
     refine Aw (.inl rfl) hF hW rfl (Ag hF rfl) ?_
     exact ⟨rfl,hW.done⟩
    ·
     refine LT tk 7 [0] hF hW (ai fun a w hF hW => ?_)
     refine ls hF hW rfl ((R7 (zv := (() : Unit)) (kx := (x5 : Int × Int)) (q := 1) (E := FY) (V := GI) hF rfl rfl rfl VE We Yy).q) (fun a w hF hW => ?_)
     refine ls hF hW rfl ((Al hF rfl).q) (fun a w hF hW => ?_)
     refine ls hF hW rfl ((A4 (v := Value.agg #[]) hF rfl rfl).q) (fun a w hF hW => ?_)
     refine ls hF hW rfl ((A4 (v := Value.bool ((Ki x4 x5).isSome)) hF rfl rfl).q) (fun a w hF hW => ?_)
     refine Ck (cs := []) hF hW rfl Yy rfl (fun b4 a w hF hW => ?_)
     refine Iw 0 hF hW rfl rfl rfl dO rfl rfl rfl (fun w hW => ?_)
     refine Bc tk 8 hF hW fun a w hF hW => ?_
     refine Dw hF rfl (fun hb => ?_) (fun hb => ?_)
     ·
      have H := BP hb H
      rw [hb] at hF
      clear hb
      refine vc tk 5 hF hW fun a w hF hW => ?_
      refine Ah ?_
      refine Ak ?_
      refine Az ?_
      iterate 2 refine Ak ?_
      refine Az ?_
      refine Ak ?_
      have H := L2 _ H
      have H := L1 _ H
      have H := Option.some.inj H
      subst H
      refine Aw (.inl rfl) hF hW rfl (Ag hF rfl) ?_
      exact ⟨rfl,hW.done⟩
     ·
      have H := BQ (by rw [hb]; decide) H
      rw [hb] at hF
      clear hb
      refine LT tk 5 [1] hF hW (ai fun a w hF hW => ?_)
      refine ls hF hW rfl ((DV (v := Value.agg #[]) dL hF rfl rfl rfl).q) (fun a w hF hW => ?_)
      refine SQ (q := 1) (kx := (x5 : Int × Int)) (vx := (() : Unit)) (E := FY) (V := GI) hF hW rfl rfl rfl rfl rfl VE We (fun w hW => ?_)
      have hW : Stw ⟨Y,[],w0⟩ [(b4,[]),(b3,[.int .i64 x5.1,.int .i64 x5.2]),(b1,[.int .i64 p0.1,v1,v2])] [mp b2 FY GI (Ks x4 x5 ()),row v3 137 EH x2] w := hW
      refine D1 ?_
      refine An ?_
      refine vn tk 4 hF hW fun a w hF hW => ?_
      refine Aa ?_
      have hW := hW.frontZ (i := 1) rfl rfl
      have hW := hW.frontM (i := 2) rfl rfl
      have hW := hW.sub (M' := [(b1,[.int .i64 p0.1,v1,v2])]) (Z' := [row v3 137 EH x2,mp b2 FY GI (Ks x4 x5 ())]) (List.Sublist.cons_cons _ (List.nil_sublist _)) (List.Sublist.refl _)
      exact ⟨_,H,hF.ra rfl,hW⟩
   ·
    refine AE ?_
    iterate 2 refine AQ ?_
    refine AF ?_
    refine Aa ?_
    have hW := hW.frontZ (i := 1) rfl rfl
    have hW := hW.sub (M' := [(b1,[.int .i64 p0.1,v1,v2])]) (Z' := [mp b2 FY GI x4]) (List.Sublist.refl _) (List.Sublist.cons_cons _ (List.nil_sublist _))
    have H := L2 _ H
    exact ⟨_,H,hF.ra rfl,hW⟩
  rintro a w ⟨x1,hj,hF,hW⟩
  have H := K1 _ hj
  clear hj G1 K1 L1
  refine D7 tk 4 [0] hF hW (ai fun a w hF hW => ?_)
  obtain ⟨x6,h3,H⟩ := Ad H
  refine ls hF hW rfl (Av (v := Value.bool x6) hF gM rfl (fun w hW => Ds any w (v1) p0.2.1 _ h3 (D3 (Ab h_v1) hW))) (fun a w hF hW => ?_)
  refine Bc tk 4 hF hW fun a w hF hW => ?_
  refine Ah ?_
  have H := Option.some.inj H
  subst H
  refine Aw (.inl rfl) hF hW rfl (Ag hF rfl) ?_
  exact ⟨rfl,hW.done⟩
theorem ZX : Has Tryz.prog 21 := Bj Tryz.func21
theorem Z3 : (Tryz.prog.info? 3).bind (·.zero) = some (.int .i64 0) := by kernel_rfl
theorem Do : Et Tryz.prog 27 3 1 8 := Et.of GG (by kernel_rfl) (by kernel_rfl) (by kernel_rfl) (by decide)
theorem I9 : (Tryz.prog.underlying 9).map (fun d => match d with | .interface _ => true | _ => false) = some false := by kernel_rfl
def BX (p0 : Int) (p1 : Int) : Int × Int := (IntKind.u64.wrap ((IntKind.u64.wrap ((IntKind.u64.wrap ((ID .u64 p0 32) * (ID .u64 p1 32))) + (ID .u64 (IntKind.u64.wrap ((IntKind.u64.wrap ((ID .u64 p0 32) * (LF .u64 p1 4294967295))) + (ID .u64 (IntKind.u64.wrap ((LF .u64 p0 4294967295) * (LF .u64 p1 4294967295))) 32))) 32))) + (ID .u64 (IntKind.u64.wrap ((LF .u64 (IntKind.u64.wrap ((IntKind.u64.wrap ((ID .u64 p0 32) * (LF .u64 p1 4294967295))) + (ID .u64 (IntKind.u64.wrap ((LF .u64 p0 4294967295) * (LF .u64 p1 4294967295))) 32))) 4294967295) + (IntKind.u64.wrap ((LF .u64 p0 4294967295) * (ID .u64 p1 32))))) 32)),IntKind.u64.wrap (p0 * p1))
theorem IH (Y : Nat → Prop) (w0 : World)  (p0 : Int) (p1 : Int) (r : Int × Int) (H : BX p0 p1 = r)  :
    Calls Tryz.prog 172 #[.int .u64 p0,.int .u64 p1] w0 fun e w' => e = .returned (.tuple #[.int .u64 r.1,.int .u64 r.2]) ∧ Below w0.heap.size w0 w' := by
 refine enter Tryz.func172 rfl Tryz.ntmps172 rfl (fun a hF => ?_)
 have hW := Stw.start Y w0
 unfold BX at H
 refine vc tk 16 hF hW fun a w hF hW => ?_
 refine ls hF hW rfl ((Jo hF rfl rfl (by decide)).q) (fun a w hF hW => ?_)
 refine Bc tk 13 hF hW fun a w hF hW => ?_
 refine ls hF hW rfl ((Jo hF rfl rfl (by decide)).q) (fun a w hF hW => ?_)
 refine Bc tk 17 hF hW fun a w hF hW => ?_
 refine ls hF hW rfl ((Jo hF rfl rfl (by decide)).q) (fun a w hF hW => ?_)
 refine Bc tk 14 hF hW fun a w hF hW => ?_
 refine ls hF hW rfl ((Jo hF rfl rfl (by decide)).q) (fun a w hF hW => ?_)
 refine Bc tk 21 hF hW fun a w hF hW => ?_
 refine ls hF hW rfl ((Jo hF rfl rfl (by decide)).q) (fun a w hF hW => ?_)
 refine Bc tk 12 hF hW fun a w hF hW => ?_
 refine Ah ?_
 subst H
 refine Dz (.inl rfl) hF hW rfl (Ag hF rfl) (Ag hF rfl) ?_
 exact ⟨rfl,hW.done⟩
theorem cW : Has Tryz.prog 172 := Bj Tryz.func172
def AH (p0 : Int) (p1 : Int) : Int × Int := ((BX p0 p1).1,(BX p0 p1).2)
theorem GL (Y : Nat → Prop) (w0 : World)  (p0 : Int) (p1 : Int) (r : Int × Int) (H : AH p0 p1 = r)  :
    Calls Tryz.prog 130 #[.int .u64 p0,.int .u64 p1] w0 fun e w' => e = .returned (.tuple #[.int .u64 r.1,.int .u64 r.2]) ∧ Below w0.heap.size w0 w' := by
 refine enter Tryz.func130 rfl Tryz.ntmps130 rfl (fun a hF => ?_)
 have hW := Stw.start Y w0
 unfold AH at H
 refine vc tk 14 hF hW fun a w hF hW => ?_
 refine ls hF hW rfl (Av (v := Value.tuple #[.int .u64 ((BX p0 p1).1),.int .u64 ((BX p0 p1).2)]) hF cW rfl (fun w hW => IH any w p0 p1 _ rfl)) (fun a w hF hW => ?_)
 refine ls hF hW rfl ((Al hF rfl).q) (fun a w hF hW => ?_)
 refine ls hF hW rfl ((A4 (v := Value.int .u64 ((BX p0 p1).1)) hF rfl rfl).q) (fun a w hF hW => ?_)
 refine ls hF hW rfl ((A4 (v := Value.int .u64 ((BX p0 p1).2)) hF rfl rfl).q) (fun a w hF hW => ?_)
 refine Bc tk 12 hF hW fun a w hF hW => ?_
 refine Ah ?_
 subst H
 refine Dz (.inl rfl) hF hW rfl (Ag hF rfl) (Ag hF rfl) ?_
 exact ⟨rfl,hW.done⟩
theorem JT : type_of% Tryz.underlying222 := Tryz.underlying222
theorem YA : Has Tryz.prog 130 := Bj Tryz.func130
theorem MO : Tryz.prog.follows .mixedOrders = true := by kernel_rfl
def Ap  : (List Int × Int) → Option ((List Int × Int) ⊕ (List Int))
  | (x3,x4) => (if x4 < (x3.length : Int) then (GF x3 x4 (x3.length : Int)).bind fun x5 => (GF x3 0 x4).bind fun x6 => some (.inl (NV x3 x4 (min x6.length x5.length) x6,w64 (x4 + ((min x6.length x5.length : Nat) : Int)))) else some (.inr x3))
def Aq (p0 : List Int) (p1 : Int) : Option (List Int) := (if p1 < 0 then none else (if (decide (0 < ((AH (IntKind.u64.wrap (p0.length : Int)) (IntKind.u64.wrap p1)).1)) || decide (9223372036854775807 < ((AH (IntKind.u64.wrap (p0.length : Int)) (IntKind.u64.wrap p1)).2))) = true then none else (mk (w64 ((AH (IntKind.u64.wrap (p0.length : Int)) (IntKind.u64.wrap p1)).2)) (0 : Int)).bind fun x1 => (Am (Ap) (NV x1 0 (min p0.length x1.length) p0,((min p0.length x1.length : Nat) : Int))).bind fun x2 => some x2))
theorem Ek (Y : Nat → Prop) (w0 : World) (v1 : Value) (p0 : List Int) (p1 : Int) (r : List Int) (H : Aq p0 p1 = some r) (s_v1 : Sl w0 Y (Rp.int .i64) v1 p0) :
    Calls Tryz.prog 94 #[v1,.int .i64 p1] w0 fun e w' => ∃ x : Value,e = .returned (x) ∧ Stw ⟨Y,[],w0⟩ [] [row (x) 3 (Rp.int .i64) r] w' := by
 refine enter Tryz.func94 rfl Tryz.ntmps94 rfl (fun a hF => ?_)
 have hW := Stw.start Y w0
 have h_v1 := hW.nx s_v1
 unfold Aq at H
 refine vc tk 12 hF hW fun a w hF hW => ?_
 refine AG hF rfl H (fun hF H => ?_) (fun hF H => ?_)
 ·
  refine F4 ?_
  refine ls hF hW rfl ((FP I9 hF rfl).q) (fun a w hF hW => ?_)
  exact nomatch H
 ·
  refine D2 tk 5 hF hW fun a w hF hW => ?_
  refine ls hF hW rfl ((AK (r := (Rp.int .i64)) (l := p0) GG rfl hF rfl (Ab h_v1)).q) (fun a w hF hW => ?_)
  refine ls hF hW rfl ((Ec M4 JT hF rfl).q) (fun a w hF hW => ?_)
  refine ls hF hW rfl ((Al hF rfl).q) (fun a w hF hW => ?_)
  refine ls hF hW rfl ((Ec M4 JT hF rfl).q) (fun a w hF hW => ?_)
  refine ls hF hW rfl (Av (v := Value.tuple #[.int .u64 ((AH (IntKind.u64.wrap (p0.length : Int)) (IntKind.u64.wrap p1)).1),.int .u64 ((AH (IntKind.u64.wrap (p0.length : Int)) (IntKind.u64.wrap p1)).2)]) hF YA rfl (fun w hW => GL any w (IntKind.u64.wrap (p0.length : Int)) (IntKind.u64.wrap p1) _ rfl)) (fun a w hF hW => ?_)
  refine ls hF hW rfl ((Al hF rfl).q) (fun a w hF hW => ?_)
  refine ls hF hW rfl ((A4 (v := Value.int .u64 ((AH (IntKind.u64.wrap (p0.length : Int)) (IntKind.u64.wrap p1)).1)) hF rfl rfl).q) (fun a w hF hW => ?_)
  refine ls hF hW rfl ((A4 (v := Value.int .u64 ((AH (IntKind.u64.wrap (p0.length : Int)) (IntKind.u64.wrap p1)).2)) hF rfl rfl).q) (fun a w hF hW => ?_)
  refine Bc tk 5 hF hW fun a w hF hW => ?_
  refine Aj (fun a w => Fr 48 [] [(0,v1),(4,.slice none 0 0),(6,.int .u64 ((AH (IntKind.u64.wrap (p0.length : Int)) (IntKind.u64.wrap p1)).2)),(26,.bool (decide (0 < ((AH (IntKind.u64.wrap (p0.length : Int)) (IntKind.u64.wrap p1)).1)) || decide (9223372036854775807 < ((AH (IntKind.u64.wrap (p0.length : Int)) (IntKind.u64.wrap p1)).2))))] a ∧ Stw ⟨Y,[],w0⟩ [] [] w) ?_ ?_
  ·
   refine vc tk 4 hF hW fun a w hF hW => ?_
   rcases bxq (decide (0 < ((AH (IntKind.u64.wrap (p0.length : Int)) (IntKind.u64.wrap p1)).1))) with hb0 | hb0
   ·
    rw [hb0] at hF
    refine vl tk 4 hF hW fun a w hF hW => ?_
    refine Aa ?_
    exact ⟨hF.re ⟨rfl,rfl,rfl,(Di (by try rw [hb0]; all_goals simp only [Dl])),trivial⟩,hW⟩
   ·
    rw [hb0] at hF
    refine vl tk 4 hF hW fun a w hF hW => ?_
    refine Aa ?_
    exact ⟨hF.re ⟨rfl,rfl,rfl,(Di (by try rw [hb0]; all_goals simp only [Dl])),trivial⟩,hW⟩
  rintro a w ⟨hF,hW⟩
  refine BA hF rfl H (fun hF H => ?_) (fun hF H => ?_)
  ·
   refine F4 ?_
   refine ls hF hW rfl ((FP I9 hF rfl).q) (fun a w hF hW => ?_)
   exact nomatch H
  ·
   refine D2 tk 5 hF hW fun a w hF hW => ?_
   refine ls hF hW rfl ((Ec JT M4 hF rfl).q) (fun a w hF hW => ?_)
   obtain ⟨x1,h1,H⟩ := Ad H
   refine P5 (r := (Rp.int .i64)) (0 : Int) hF hW rfl Do Z3 rfl rfl (fun w A => Fl.int.mk' w A _) h1 rfl (fun v2 a w hF hW => ?_)
   refine Bc tk 7 hF hW fun a w hF hW => ?_
   refine T5 (r := (Rp.int .i64)) (k := 0) hF hW rfl Do rfl rfl rfl rfl (Q3 hW s_v1) (fun a w hF hW => ?_)
   have hW : Stw ⟨Y,[],w0⟩ [] [row v2 3 (Rp.int .i64) (NV x1 0 (min p0.length x1.length) p0)] w := hW
   refine vl tk 2 hF hW fun a w hF hW => ?_
   refine Aa ?_
   obtain ⟨o1,G1,K1⟩ := Ad H
   refine Aj (fun a w => ∃ x2 : List Int,some (x2) = some o1 ∧ Fr 48 [] [(4,.slice none 0 0),(7,v2)] a ∧ Stw ⟨Y,[],w0⟩ [] [row v2 3 (Rp.int .i64) x2] w) ?_ ?_
   ·
    have H := G1
    clear G1 K1
    refine EI ?_
    refine AD H (fun s a w => Fr 48 [] [(4,.slice none 0 0),(7,v2),(8,.int .i64 s.2)] a ∧ Stw ⟨Y,[],w0⟩ [] [row v2 3 (Rp.int .i64) s.1] w) ⟨hF.ra rfl,hW⟩ (fun s o a w H L2 hR => ?_)
    obtain ⟨x3,x4⟩ := s
    obtain ⟨hF,hW⟩ := hR
    have hF : Fr 48 [] [(4,.slice none 0 0),(7,v2),(8,.int .i64 x4)] a := hF
    have hW : Stw ⟨Y,[],w0⟩ [] [row v2 3 (Rp.int .i64) x3] w := hW
    rw [Ap] at H
    refine vc tk 5 hF hW fun a w hF hW => ?_
    refine ls hF hW rfl ((AK (r := (Rp.int .i64)) (l := x3) GG rfl hF rfl (Ae 0 rfl)).q) (fun a w hF hW => ?_)
    refine Bc tk 3 hF hW fun a w hF hW => ?_
    refine AG hF rfl H (fun hF H => ?_) (fun hF H => ?_)
    ·
     refine D2 tk 3 hF hW fun a w hF hW => ?_
     refine QK 7 [0] [1,2,3,4,5,6] (fun ch a d v w h => by cases d <;> exact h) hW MO (by kernel_rfl) ?_
     refine hm hF rfl rfl rfl (fun a hF => ?_)
     refine SN ?_
     iterate 2 refine hs hF rfl rfl rfl ((Al hF rfl).q) (fun a hF => ?_)
     obtain ⟨x5,h2,H⟩ := Ad H
     refine hs hF rfl rfl rfl ((GH (r := (Rp.int .i64)) Do hF rfl rfl rfl (Ae 0 rfl) h2).q) (fun a hF => ?_)
     iterate 2 refine hs hF rfl rfl rfl ((Al hF rfl).q) (fun a hF => ?_)
     obtain ⟨x6,h3,H⟩ := Ad H
     refine hs hF rfl rfl rfl ((GH (r := (Rp.int .i64)) Do hF rfl rfl rfl (Ae 0 rfl) h3).q) (fun a hF => ?_)
     refine VR (fun w hW => ?_)
     have hW : Stw ⟨Y,[],w0⟩ [] [row v2 3 (Rp.int .i64) x3] w := hW
     refine Rq (r := (Rp.int .i64)) (v := v2) (k := 0) hF hW rfl Do rfl rfl rfl rfl h2 (Mg.sub (BU hW 0 rfl) h3) (fun a w hF hW => ?_)
     have hW : Stw ⟨Y,[],w0⟩ [] [row v2 3 (Rp.int .i64) (NV x3 x4 (min x6.length x5.length) x6)] w := hW
     refine vl tk 3 hF hW fun a w hF hW => ?_
     refine An ?_
     refine Aa ?_
     exact ⟨_,H,hF.ra rfl,hW⟩
    ·
     refine AE ?_
     iterate 2 refine AQ ?_
     refine AF ?_
     refine Aa ?_
     have H := L2 _ H
     exact ⟨_,H,hF.ra rfl,hW⟩
   rintro a w ⟨x2,hj,hF,hW⟩
   have hj := Option.some.inj hj
   subst hj
   have H := K1
   clear G1 K1
   refine vc tk 6 hF hW fun a w hF hW => ?_
   refine Ah ?_
   have H := Option.some.inj H
   subst H
   refine Aw (.inl rfl) hF hW rfl (Ag hF rfl) ?_
   exact ⟨(v2),rfl,hW⟩
theorem eM : type_of% Tryz.underlying5 := Tryz.underlying5
theorem gJ : type_of% Tryz.underlying9 := Tryz.underlying9
theorem VN : type_of% Tryz.underlying131 := Tryz.underlying131
theorem MW : type_of% Tryz.underlying184 := Tryz.underlying184
theorem IW : type_of% Tryz.underlying187 := Tryz.underlying187
theorem eX : Has Tryz.prog 94 := Bj Tryz.func94
theorem Yd : Bt Tryz.prog 187 [.int .i64 0,.int .i64 0,.int .i64 0] [(0,1),(1,1),(2,1)] := ⟨⟨.agg #[.int .i64 0,.int .i64 0,.int .i64 0],by kernel_rfl,rfl⟩,⟨_,IW,fun w => by kernel_rfl⟩⟩
theorem RU : (Tryz.prog.info? 187).bind (·.zero) = some (.agg #[.int .i64 0,.int .i64 0,.int .i64 0]) := by kernel_rfl
abbrev A7 : Rp (Int × Int × Int) := (Rp.pair (Rp.int .i64) (Rp.pair (Rp.int .i64) (Rp.int .i64)))
def cI (a : Int × Int × Int) : List Value := [.int .i64 a.1,.int .i64 a.2.1,.int .i64 a.2.2]
theorem Kb : Fl A7 cI := (Fl.pair Fl.int (Fl.pair Fl.int Fl.int))
theorem Jh : Et Tryz.prog 184 187 3 24 := Et.of MW (by kernel_rfl) (by kernel_rfl) (by kernel_rfl) (by decide)
def Fb (p0 : Int) : Option Int := (if 4294967296 ≤ p0 then some (ID .u64 p0 32,32) else some (p0,0)).bind fun (x1,x2) => (if 65536 ≤ x1 then some (ID .u64 x1 16,w64 (x2 + 16)) else some (x1,x2)).bind fun (x3,x4) => (if 256 ≤ x3 then some (ID .u64 x3 8,w64 (x4 + 8)) else some (x3,x4)).bind fun (x5,x6) => (ix ([0,1,2,2,3,3,3,3,4,4,4,4,4,4,4,4,5,5,5,5,5,5,5,5,5,5,5,5,5,5,5,5,6,6,6,6,6,6,6,6,6,6,6,6,6,6,6,6,6,6,6,6,6,6,6,6,6,6,6,6,6,6,6,6,7,7,7,7,7,7,7,7,7,7,7,7,7,7,7,7,7,7,7,7,7,7,7,7,7,7,7,7,7,7,7,7,7,7,7,7,7,7,7,7,7,7,7,7,7,7,7,7,7,7,7,7,7,7,7,7,7,7,7,7,7,7,7,7,8,8,8,8,8,8,8,8,8,8,8,8,8,8,8,8,8,8,8,8,8,8,8,8,8,8,8,8,8,8,8,8,8,8,8,8,8,8,8,8,8,8,8,8,8,8,8,8,8,8,8,8,8,8,8,8,8,8,8,8,8,8,8,8,8,8,8,8,8,8,8,8,8,8,8,8,8,8,8,8,8,8,8,8,8,8,8,8,8,8,8,8,8,8,8,8,8,8,8,8,8,8,8,8,8,8,8,8,8,8,8,8,8,8,8,8,8,8,8,8,8,8,8,8,8,8,8,8] : List UInt8) (IntKind.u8.wrap x5)).bind fun x7 => some (w64 (x6 + (w64 (x7.toNat : Int))))
theorem Jf (Y : Nat → Prop) (w0 : World)  (p0 : Int) (r : Int) (H : Fb p0 = some r)  :
    Calls Tryz.prog 208 #[.int .u64 p0] w0 fun e w' => e = .returned (.int .i64 r) ∧ Below w0.heap.size w0 w' := by
 refine enter Tryz.func208 rfl Tryz.ntmps208 rfl (fun a hF => ?_)
 have hW := Stw.start Y w0
 unfold Fb at H
 refine vc tk 5 hF hW fun a w hF hW => ?_
 obtain ⟨o1,G1,K1⟩ := Ad H
 refine Aj (fun a w => ∃ x1 : Int, ∃ x2 : Int,some ((x1,x2)) = some o1 ∧ Fr 25 [] [(0,.int .u64 x1),(2,.int .i64 x2)] a ∧ Stw ⟨Y,[],w0⟩ [] [] w) ?_ ?_
 ·
  have H := G1
  clear G1 K1
  refine vc tk 6 hF hW fun a w hF hW => ?_
  refine AG hF rfl H (fun hF H => ?_) (fun hF H => ?_)
  ·
   refine vc tk 3 hF hW fun a w hF hW => ?_
   refine ls hF hW rfl ((Jo hF rfl rfl (by decide)).q) (fun a w hF hW => ?_)
   refine Bc tk 6 hF hW fun a w hF hW => ?_
   refine Aa ?_
   exact ⟨_,_,H,hF.ra rfl,hW⟩
  ·
   refine Ay ?_
   refine Aa ?_
   exact ⟨_,_,H,hF.ra rfl,hW⟩
 rintro a w ⟨x1,x2,hj,hF,hW⟩
 have hj := Option.some.inj hj
 subst hj
 have H := K1
 clear G1 K1
 obtain ⟨o2,G2,K2⟩ := Ad H
 refine Aj (fun a w => ∃ x3 : Int, ∃ x4 : Int,some ((x3,x4)) = some o2 ∧ Fr 25 [] [(0,.int .u64 x3),(2,.int .i64 x4)] a ∧ Stw ⟨Y,[],w0⟩ [] [] w) ?_ ?_
 ·
  have H := G2
  clear G2 K2
  refine vc tk 6 hF hW fun a w hF hW => ?_
  refine AG hF rfl H (fun hF H => ?_) (fun hF H => ?_)
  ·
   refine vc tk 3 hF hW fun a w hF hW => ?_
   refine ls hF hW rfl ((Jo hF rfl rfl (by decide)).q) (fun a w hF hW => ?_)
   refine Bc tk 8 hF hW fun a w hF hW => ?_
   refine Aa ?_
   exact ⟨_,_,H,hF.ra rfl,hW⟩
  ·
   refine Ay ?_
   refine Aa ?_
   exact ⟨_,_,H,hF.ra rfl,hW⟩
 rintro a w ⟨x3,x4,hj,hF,hW⟩
 have hj := Option.some.inj hj
 subst hj
 have H := K2
 clear G2 K2
 obtain ⟨o3,G3,K3⟩ := Ad H
 refine Aj (fun a w => ∃ x5 : Int, ∃ x6 : Int,some ((x5,x6)) = some o3 ∧ Fr 25 [] [(0,.int .u64 x5),(2,.int .i64 x6)] a ∧ Stw ⟨Y,[],w0⟩ [] [] w) ?_ ?_
 ·
  have H := G3
  clear G3 K3
  refine vc tk 6 hF hW fun a w hF hW => ?_
  refine AG hF rfl H (fun hF H => ?_) (fun hF H => ?_)
  ·
   refine vc tk 3 hF hW fun a w hF hW => ?_
   refine ls hF hW rfl ((Jo hF rfl rfl (by decide)).q) (fun a w hF hW => ?_)
   refine Bc tk 8 hF hW fun a w hF hW => ?_
   refine Aa ?_
   exact ⟨_,_,H,hF.ra rfl,hW⟩
  ·
   refine Ay ?_
   refine Aa ?_
   exact ⟨_,_,H,hF.ra rfl,hW⟩
 rintro a w ⟨x5,x6,hj,hF,hW⟩
 have hj := Option.some.inj hj
 subst hj
 have H := K3
 clear G3 K3
 refine vc tk 4 hF hW fun a w hF hW => ?_
 refine ls hF hW rfl ((Ec VN eM hF rfl).q) (fun a w hF hW => ?_)
 obtain ⟨x7,h1,H⟩ := Ad H
 refine ls hF hW rfl ((Ol (l := ([0,1,2,2,3,3,3,3,4,4,4,4,4,4,4,4,5,5,5,5,5,5,5,5,5,5,5,5,5,5,5,5,6,6,6,6,6,6,6,6,6,6,6,6,6,6,6,6,6,6,6,6,6,6,6,6,6,6,6,6,6,6,6,6,7,7,7,7,7,7,7,7,7,7,7,7,7,7,7,7,7,7,7,7,7,7,7,7,7,7,7,7,7,7,7,7,7,7,7,7,7,7,7,7,7,7,7,7,7,7,7,7,7,7,7,7,7,7,7,7,7,7,7,7,7,7,7,7,8,8,8,8,8,8,8,8,8,8,8,8,8,8,8,8,8,8,8,8,8,8,8,8,8,8,8,8,8,8,8,8,8,8,8,8,8,8,8,8,8,8,8,8,8,8,8,8,8,8,8,8,8,8,8,8,8,8,8,8,8,8,8,8,8,8,8,8,8,8,8,8,8,8,8,8,8,8,8,8,8,8,8,8,8,8,8,8,8,8,8,8,8,8,8,8,8,8,8,8,8,8,8,8,8,8,8,8,8,8,8,8,8,8,8,8,8,8,8,8,8,8,8,8,8,8,8,8] : List UInt8)) gJ hF rfl rfl h1).q) (fun a w hF hW => ?_)
 refine ls hF hW rfl ((Ec eM M4 hF rfl).q) (fun a w hF hW => ?_)
 refine Bc tk 4 hF hW fun a w hF hW => ?_
 refine Ah ?_
 have H := Option.some.inj H
 subst H
 refine Aw (.inl rfl) hF hW rfl (Ag hF rfl) ?_
 exact ⟨rfl,hW.done⟩
theorem aY : Has Tryz.prog 208 := Bj Tryz.func208
def Dh (p0 : Int) : Option Int := (Fb p0).bind fun x1 => some x1
theorem GP (Y : Nat → Prop) (w0 : World)  (p0 : Int) (r : Int) (H : Dh p0 = some r)  :
    Calls Tryz.prog 174 #[.int .u64 p0] w0 fun e w' => e = .returned (.int .i64 r) ∧ Below w0.heap.size w0 w' := by
 refine enter Tryz.func174 rfl Tryz.ntmps174 rfl (fun a hF => ?_)
 have hW := Stw.start Y w0
 unfold Dh at H
 refine vc tk 12 hF hW fun a w hF hW => ?_
 obtain ⟨x1,h1,H⟩ := Ad H
 refine ls hF hW rfl (Av (v := Value.int .i64 x1) hF aY rfl (fun w hW => Jf any w p0 _ h1)) (fun a w hF hW => ?_)
 refine Bc tk 3 hF hW fun a w hF hW => ?_
 refine Ah ?_
 have H := Option.some.inj H
 subst H
 refine Aw (.inl rfl) hF hW rfl (Ag hF rfl) ?_
 exact ⟨rfl,hW.done⟩
theorem Zj : Has Tryz.prog 174 := Bj Tryz.func174
theorem I8 : Ty Tryz.prog 187 true 3 := ⟨by kernel_rfl,by kernel_rfl⟩
def Co (p0 : Int) : Bool := decide (p0 ≠ p0)
theorem GN (Y : Nat → Prop) (w0 : World)  (p0 : Int) (r : Bool) (H : Co p0 = r)  :
    Calls Tryz.prog 175 #[.int .i64 p0] w0 fun e w' => e = .returned (.bool r) ∧ Below w0.heap.size w0 w' := by
 refine enter Tryz.func175 rfl Tryz.ntmps175 rfl (fun a hF => ?_)
 have hW := Stw.start Y w0
 unfold Co at H
 refine vc tk 13 hF hW fun a w hF hW => ?_
 refine Ah ?_
 subst H
 refine Aw (.inl rfl) hF hW rfl (Ag hF rfl) ?_
 exact ⟨rfl,hW.done⟩
theorem Yl : Has Tryz.prog 175 := Bj Tryz.func175
def Cz (p0 : Int) (p1 : Int) : Int := (if (Co p0) = true then (if (Co p1) = true then 0 else (-1)) else (if (Co p1) = true then 1 else (if p0 < p1 then (-1) else (if p1 < p0 then 1 else 0))))
theorem Js (Y : Nat → Prop) (w0 : World)  (p0 : Int) (p1 : Int) (r : Int) (H : Cz p0 p1 = r)  :
    Calls Tryz.prog 133 #[.int .i64 p0,.int .i64 p1] w0 fun e w' => e = .returned (.int .i64 r) ∧ Below w0.heap.size w0 w' := by
 refine enter Tryz.func133 rfl Tryz.ntmps133 rfl (fun a hF => ?_)
 have hW := Stw.start Y w0
 unfold Cz at H
 refine vc tk 8 hF hW fun a w hF hW => ?_
 refine ls hF hW rfl (Av (v := Value.bool (Co p0)) hF Yl rfl (fun w hW => GN any w p0 _ rfl)) (fun a w hF hW => ?_)
 refine Bc tk 6 hF hW fun a w hF hW => ?_
 refine ls hF hW rfl (Av (v := Value.bool (Co p1)) hF Yl rfl (fun w hW => GN any w p1 _ rfl)) (fun a w hF hW => ?_)
 refine Bc tk 9 hF hW fun a w hF hW => ?_
 refine Dw hF rfl (fun hb => ?_) (fun hb => ?_)
 ·
  have H := BP hb H
  rw [hb] at hF
  clear hb
  refine vc tk 6 hF hW fun a w hF hW => ?_
  refine Dw hF rfl (fun hb => ?_) (fun hb => ?_)
  ·
   have H := BP hb H
   rw [hb] at hF
   clear hb
   refine vc tk 5 hF hW fun a w hF hW => ?_
   refine Ah ?_
   iterate 2 refine Ak ?_
   subst H
   refine Aw (.inl rfl) hF hW rfl (Ag hF rfl) ?_
   exact ⟨rfl,hW.done⟩
  ·
   have H := BQ (by rw [hb]; decide) H
   rw [hb] at hF
   clear hb
   refine D2 tk 7 hF hW fun a w hF hW => ?_
   refine Ah ?_
   refine Ak ?_
   subst H
   refine Aw (.inl rfl) hF hW rfl (Ag hF rfl) ?_
   exact ⟨rfl,hW.done⟩
 ·
  have H := BQ (by rw [hb]; decide) H
  rw [hb] at hF
  clear hb
  refine D2 tk 8 hF hW fun a w hF hW => ?_
  refine Dw hF rfl (fun hb => ?_) (fun hb => ?_)
  ·
   have H := BP hb H
   rw [hb] at hF
   clear hb
   refine vc tk 5 hF hW fun a w hF hW => ?_
   refine Ah ?_
   refine Ak ?_
   subst H
   refine Aw (.inl rfl) hF hW rfl (Ag hF rfl) ?_
   exact ⟨rfl,hW.done⟩
  ·
   have H := BQ (by rw [hb]; decide) H
   rw [hb] at hF
   clear hb
   refine D2 tk 10 hF hW fun a w hF hW => ?_
   refine AG hF rfl H (fun hF H => ?_) (fun hF H => ?_)
   ·
    refine vc tk 5 hF hW fun a w hF hW => ?_
    refine Ah ?_
    refine Ak ?_
    subst H
    refine Aw (.inl rfl) hF hW rfl (Ag hF rfl) ?_
    exact ⟨rfl,hW.done⟩
   ·
    refine D2 tk 10 hF hW fun a w hF hW => ?_
    refine AG hF rfl H (fun hF H => ?_) (fun hF H => ?_)
    ·
     refine vc tk 5 hF hW fun a w hF hW => ?_
     refine Ah ?_
     refine Ak ?_
     subst H
     refine Aw (.inl rfl) hF hW rfl (Ag hF rfl) ?_
     exact ⟨rfl,hW.done⟩
    ·
     refine D2 tk 7 hF hW fun a w hF hW => ?_
     refine Ah ?_
     subst H
     refine Aw (.inl rfl) hF hW rfl (Ag hF rfl) ?_
     exact ⟨rfl,hW.done⟩
theorem bC : Has Tryz.prog 133 := Bj Tryz.func133
def E1 (p0 : Int × Int × Int) (p1 : Int × Int × Int) : Int := (Cz p0.1 p1.1)
theorem LY (Y : Nat → Prop) (w0 : World)  (p0 : Int × Int × Int) (p1 : Int × Int × Int) (r : Int) (H : E1 p0 p1 = r)  :
    Calls Tryz.prog 132 #[.agg #[.int .i64 p0.1,.int .i64 p0.2.1,.int .i64 p0.2.2],.agg #[.int .i64 p1.1,.int .i64 p1.2.1,.int .i64 p1.2.2]] w0 fun e w' => e = .returned (.int .i64 r) ∧ Below w0.heap.size w0 w' := by
 refine enter Tryz.func132 rfl Tryz.ntmps132 rfl (fun a hF => ?_)
 have hW := Stw.start Y w0
 unfold E1 at H
 refine vc tk 2 hF hW fun a w hF hW => ?_
 refine Cv (cs := [.int .i64 p0.1,.int .i64 p0.2.1,.int .i64 p0.2.2]) hF hW rfl rfl rfl (fun b1 a w hF hW => ?_)
 refine Cv (cs := [.int .i64 p1.1,.int .i64 p1.2.1,.int .i64 p1.2.2]) hF hW rfl rfl rfl (fun b2 a w hF hW => ?_)
 refine E9 tk 9 [1,0] hF hW (ai (ai fun a w hF hW => ?_))
 refine ls hF hW rfl (Av (v := Value.int .i64 (Cz p0.1 p1.1)) hF bC rfl (fun w hW => Js any w p0.1 p1.1 _ rfl)) (fun a w hF hW => ?_)
 refine Bc tk 3 hF hW fun a w hF hW => ?_
 refine Ah ?_
 subst H
 refine Aw (.inl rfl) hF hW rfl (Ag hF rfl) ?_
 exact ⟨rfl,hW.done⟩
theorem Z0 : Has Tryz.prog 132 := Bj Tryz.func132
def AS (p1 : Int) : ((List (Int × Int × Int)) × Int) → Option (((List (Int × Int × Int)) × Int) ⊕ (List (Int × Int × Int)))
  | (x4,x5) => (if p1 < x5 then (ix x4 x5).bind fun x7 => (ix x4 (w64 (x5 - 1))).bind fun x8 => some (decide ((E1 x7 x8) < 0)) else some false).bind fun x6 => (if x6 = true then (ix x4 (w64 (x5 - 1))).bind fun x9 => (ix x4 x5).bind fun x10 => (ix x4 x5).bind fun x11 => (ix (Ao x4 x5 x9) (w64 (x5 - 1))).bind fun x12 => some (.inl ((Ao (Ao x4 x5 x9) (w64 (x5 - 1)) x10),w64 (x5 - 1))) else some (.inr x4))
def AL (p1 : Int) (p2 : Int) : ((List (Int × Int × Int)) × Int) → Option (((List (Int × Int × Int)) × Int) ⊕ (List (Int × Int × Int)))
  | (x1,x2) => (if x2 < p2 then (Am (AS p1) (x1,x2)).bind fun x3 => some (.inl (x3,w64 (x2 + 1))) else some (.inr x1))
def Bd (p0 : List (Int × Int × Int)) (p1 : Int) (p2 : Int) : Option (List (Int × Int × Int)) := Am (AL p1 p2) (p0,w64 (p1 + 1))
theorem Dq (Y : Nat → Prop) (X : List Nat) (w0 : World) (v1 : Value) (p0 : List (Int × Int × Int)) (p1 : Int) (p2 : Int) (r : (List (Int × Int × Int))) (H : Bd p0 p1 p2 = some r) (hL : Stw ⟨Y,X,w0⟩ [] [row v1 187 A7 p0] w0) :
    Calls Tryz.prog 199 #[v1,.int .i64 p1,.int .i64 p2,.func (.func 132) #[] #[]] w0 fun e w' => ∃ x : Unit,e = .returned (.tuple #[]) ∧ Stw ⟨Y,X,w0⟩ [] [row v1 187 A7 r] w' := by
 refine enter Tryz.func199 rfl Tryz.ntmps199 rfl (fun a hF => ?_)
 have hW := hL
 unfold Bd at H
 refine vc tk 8 hF hW fun a w hF hW => ?_
 refine AD H (fun s a w => Fr 53 [] [(0,v1),(1,.int .i64 p1),(2,.int .i64 p2),(3,.func (.func 132) #[] #[]),(8,.int .i64 s.2)] a ∧ Stw ⟨Y,X,w0⟩ [] [row v1 187 A7 s.1] w) ⟨hF.ra rfl,hW⟩ (fun s o a w H L1 hR => ?_)
 obtain ⟨x1,x2⟩ := s
 obtain ⟨hF,hW⟩ := hR
 have hF : Fr 53 [] [(0,v1),(1,.int .i64 p1),(2,.int .i64 p2),(3,.func (.func 132) #[] #[]),(8,.int .i64 x2)] a := hF
 have hW : Stw ⟨Y,X,w0⟩ [] [row v1 187 A7 x1] w := hW
 rw [AL] at H
 refine vc tk 8 hF hW fun a w hF hW => ?_
 refine AG hF rfl H (fun hF H => ?_) (fun hF H => ?_)
 ·
  refine Ay ?_
  refine Aa ?_
  obtain ⟨o2,G2,K2⟩ := Ad H
  refine Aj (fun a w => ∃ x3 : List (Int × Int × Int),some (x3) = some o2 ∧ Fr 53 [] [(0,v1),(1,.int .i64 p1),(2,.int .i64 p2),(3,.func (.func 132) #[] #[]),(8,.int .i64 x2)] a ∧ Stw ⟨Y,X,w0⟩ [] [row v1 187 A7 x3] w) ?_ ?_
  ·
   have H := G2
   clear G2 K2
   refine vc tk 8 hF hW fun a w hF hW => ?_
   refine AD H (fun s a w => Fr 53 [] [(0,v1),(1,.int .i64 p1),(2,.int .i64 p2),(3,.func (.func 132) #[] #[]),(8,.int .i64 x2),(9,.int .i64 s.2)] a ∧ Stw ⟨Y,X,w0⟩ [] [row v1 187 A7 s.1] w) ⟨hF.ra rfl,hW⟩ (fun s o a w H L3 hR => ?_)
   obtain ⟨x4,x5⟩ := s
   obtain ⟨hF,hW⟩ := hR
   have hF : Fr 53 [] [(0,v1),(1,.int .i64 p1),(2,.int .i64 p2),(3,.func (.func 132) #[] #[]),(8,.int .i64 x2),(9,.int .i64 x5)] a := hF
   have hW : Stw ⟨Y,X,w0⟩ [] [row v1 187 A7 x4] w := hW
   rw [AS] at H
   refine Ly ?_
   obtain ⟨o4,G4,K4⟩ := Ad H
   refine Aj (fun a w => ∃ x6 : Bool,some (x6) = some o4 ∧ Fr 53 [] [(0,v1),(1,.int .i64 p1),(2,.int .i64 p2),(3,.func (.func 132) #[] #[]),(8,.int .i64 x2),(9,.int .i64 x5),(34,.bool x6)] a ∧ Stw ⟨Y,X,w0⟩ [] [row v1 187 A7 x4] w) ?_ ?_
   ·
    have H := G4
    clear G4 K4
    refine BV hW MO (by kernel_rfl) ?_
    iterate 2 refine qs hF rfl ((Al hF rfl).q) (fun a hF => ?_)
    refine qs hF rfl ((QO hF rfl rfl).q) (fun a hF => ?_)
    refine qs hF rfl ((Al hF rfl).q) (fun a hF => ?_)
    rcases bxq (decide (p1 < x5)) with hb | hb
    ·
     have H := BP (of_decide_eq_true hb) H
     rw [hb] at hF
     clear hb
     iterate 3 refine Bf hF (Ac hF rfl rfl rfl rfl) rfl (ze rfl) ((Al hF rfl).q) (fun a hF => ?_)
     obtain ⟨x7,h1,H⟩ := Ad H
     refine Bf hF (Ac hF rfl rfl rfl rfl) rfl (ze rfl) ((Ai (r := A7) Jh hF rfl rfl (Ae 0 rfl) h1).q) (fun a hF => ?_)
     refine Bf hF (Ac hF rfl rfl rfl rfl) rfl (ze rfl) ((Af (y := Value.agg #[.int .i64 x7.1,.int .i64 x7.2.1,.int .i64 x7.2.2]) (j := 0) (i := x5) hF rfl rfl (Ae 0 rfl) h1 Kb.to I8 rfl).q) (fun a hF => ?_)
     iterate 2 refine Bf hF (Ac hF rfl rfl rfl rfl) rfl (ze rfl) ((Al hF rfl).q) (fun a hF => ?_)
     refine Bf hF (Ac hF rfl rfl rfl rfl) rfl (ze rfl) ((IX hF rfl rfl rfl).q) (fun a hF => ?_)
     obtain ⟨x8,h2,H⟩ := Ad H
     refine Bf hF (Ac hF rfl rfl rfl rfl) rfl (ze rfl) ((Ai (r := A7) Jh hF rfl rfl (Ae 0 rfl) h2).q) (fun a hF => ?_)
     refine Bf hF (Ac hF rfl rfl rfl rfl) rfl (ze rfl) ((Af (y := Value.agg #[.int .i64 x8.1,.int .i64 x8.2.1,.int .i64 x8.2.2]) (j := 0) (i := w64 (x5 - 1)) hF rfl rfl (Ae 0 rfl) h2 Kb.to I8 rfl).q) (fun a hF => ?_)
     refine Bf hF (Ac hF rfl rfl rfl rfl) rfl (ze rfl) (Nj (ws := [.agg #[.int .i64 x7.1,.int .i64 x7.2.1,.int .i64 x7.2.2],.agg #[.int .i64 x8.1,.int .i64 x8.2.1,.int .i64 x8.2.2]]) (v := Value.int .i64 (E1 x7 x8)) hF Z0 rfl (fun w hW => LY any w x7 x8 _ rfl)) (fun a hF => ?_)
     refine Bf hF (Ac hF rfl rfl rfl rfl) rfl (ze rfl) ((O1 hF rfl rfl).q) (fun a hF => ?_)
     refine qs hF rfl ((CE hF rfl rfl rfl).q) (fun a hF => ?_)
     refine AX (fun w hW => ?_)
     refine Aa ?_
     exact ⟨_,H,hF.ra rfl,hW⟩
    ·
     have H := BQ (of_decide_eq_false hb) H
     rw [hb] at hF
     clear hb
     iterate 12 refine DS hF (B4 hF rfl rfl rfl rfl rfl) rfl rfl (fun a hF => ?_)
     refine qs hF rfl ((Cy hF rfl rfl rfl).q) (fun a hF => ?_)
     refine AX (fun w hW => ?_)
     refine Aa ?_
     exact ⟨_,H,hF.ra rfl,hW⟩
   rintro a w ⟨x6,hj,hF,hW⟩
   have hj := Option.some.inj hj
   subst hj
   have H := K4
   clear G4 K4
   refine BA hF rfl H (fun hF H => ?_) (fun hF H => ?_)
   ·
    refine D2 tk 4 hF hW fun a w hF hW => ?_
    refine Gp [(true,0),(true,1),(true,2),(true,3),(true,4),(true,5),(true,6),(true,7),(true,8),(true,9),(true,10),(true,11),(true,12),(true,13),(true,14),(false,15),(true,16),(false,17)] (CN ⟨Y,X,w0⟩ [] [(some 15,row v1 187 A7 x4)]) (fun ch a d v w h => by cases d <;> exact h) MO (by kernel_rfl) hW (fun w hW => ⟨_,_,hW,As,(all_cons (fun _ => (.head _)) As)⟩) (fun w hW => ?_)
    iterate 4 refine Cp (R := []) hF rfl rfl (yC fun M Z hN hZ => Al hF rfl) rfl rfl (fun a hF => ?_)
    refine Cp (R := []) hF rfl rfl (yC fun M Z hN hZ => IX hF rfl rfl rfl) rfl rfl (fun a hF => ?_)
    iterate 2 refine Cp (R := []) hF rfl rfl (yC fun M Z hN hZ => Al hF rfl) rfl rfl (fun a hF => ?_)
    refine Cp (R := []) hF rfl rfl (yC fun M Z hN hZ => IX hF rfl rfl rfl) rfl rfl (fun a hF => ?_)
    obtain ⟨x9,h3,H⟩ := Ad H
    refine Cp (R := []) hF rfl rfl (yC fun M Z hN hZ => E8 (r := A7) Jh hF rfl rfl (J3 hW (Ae 0 rfl)) h3) rfl rfl (fun a hF => ?_)
    refine Cp (R := [15]) hF rfl rfl (yC fun M Z hN hZ => Af (y := Value.agg #[.int .i64 x9.1,.int .i64 x9.2.1,.int .i64 x9.2.2]) (j := 0) (i := w64 (x5 - 1)) hF rfl rfl (Ji (hZ ((some 15),row v1 187 A7 x4) (.head _) rfl)) h3 Kb.to I8 rfl) (by kernel_rfl) rfl (fun a hF => ?_)
    iterate 2 refine Cp (R := []) hF rfl rfl (yC fun M Z hN hZ => Al hF rfl) rfl rfl (fun a hF => ?_)
    obtain ⟨x10,h4,H⟩ := Ad H
    refine Cp (R := []) hF rfl rfl (yC fun M Z hN hZ => E8 (r := A7) Jh hF rfl rfl (J3 hW (Ae 0 rfl)) h4) rfl rfl (fun a hF => ?_)
    refine Cp (R := [15]) hF rfl rfl (yC fun M Z hN hZ => Af (y := Value.agg #[.int .i64 x10.1,.int .i64 x10.2.1,.int .i64 x10.2.2]) (j := 0) (i := x5) hF rfl rfl (Ji (hZ ((some 15),row v1 187 A7 x4) (.head _) rfl)) h4 Kb.to I8 rfl) (by kernel_rfl) rfl (fun a hF => ?_)
    obtain ⟨x11,h5,H⟩ := Ad H
    refine Cp (R := []) hF rfl rfl (yC fun M Z hN hZ => E8 (r := A7) Jh hF rfl rfl (J3 hW (Ae 0 rfl)) h5) rfl rfl (fun a hF => ?_)
    refine HD rfl ?_
    refine BE (i := x5) (j := 0) (vs := [.int .i64 x9.1,.int .i64 x9.2.1,.int .i64 x9.2.2]) (x' := x9) hF hW rfl rfl rfl (k := 0) rfl rfl h5 I8 rfl rfl rfl rfl (fun A cs _ => Kb.sto (by rfl) _ _ _) (fun w hW => ?_)
    refine CC (N2 := []) (NZ2 := []) (N3 := []) (NZ3 := [(some 15,row v1 187 A7 x4)]) hW rfl rfl As (all_cons (fun h => Bl (by kernel_rfl) h) As) ?_
    obtain ⟨x12,h6,H⟩ := Ad H
    refine Cp (R := []) hF rfl rfl (yC fun M Z hN hZ => E8 (r := A7) Jh hF rfl rfl (J3 hW (Ae 0 rfl)) h6) rfl rfl (fun a hF => ?_)
    refine HD rfl ?_
    refine BE (i := w64 (x5 - 1)) (j := 0) (vs := [.int .i64 x10.1,.int .i64 x10.2.1,.int .i64 x10.2.2]) (x' := x10) hF hW rfl rfl rfl (k := 0) rfl rfl h6 I8 rfl rfl rfl rfl (fun A cs _ => Kb.sto (by rfl) _ _ _) (fun w hW => ?_)
    refine CC (N2 := []) (NZ2 := []) (N3 := []) (NZ3 := [(some 15,row v1 187 A7 x4)]) hW rfl rfl As (all_cons (fun h => Bl (by kernel_rfl) h) As) ?_
    refine JE ?_
    refine An ?_
    refine vn tk 5 hF hW fun a w hF hW => ?_
    refine Aa ?_
    exact ⟨_,H,hF.ra rfl,hW⟩
   ·
    refine AE ?_
    iterate 2 refine AQ ?_
    refine AF ?_
    refine An ?_
    refine Aa ?_
    have H := L3 _ H
    exact ⟨_,H,hF.ra rfl,hW⟩
  rintro a w ⟨x3,hj,hF,hW⟩
  have hj := Option.some.inj hj
  subst hj
  have H := K2
  clear G2 K2
  refine vc tk 5 hF hW fun a w hF hW => ?_
  refine Aa ?_
  exact ⟨_,H,hF.ra rfl,hW⟩
 ·
  refine AE ?_
  iterate 2 refine AQ ?_
  refine AF ?_
  have H := L1 _ H
  have H := Option.some.inj H
  subst H
  refine GO (.inr rfl) hF rfl ?_
  exact ⟨(),rfl,hW⟩
theorem aF : Has Tryz.prog 199 := Bj Tryz.func199
def BK (p0 : List (Int × Int × Int)) (p1 : Int) (p2 : Int) : Unit → Option (Unit ⊕ (List (Int × Int × Int)))
  | _ => (if (w64 (p2 - p1)) ≤ 12 then (Bd p0 p1 p2).bind fun x1 => some (.inr x1) else none)
def Be (p0 : List (Int × Int × Int)) (p1 : Int) (p2 : Int) (p3 : Int) : Option (List (Int × Int × Int)) := Am (BK p0 p1 p2) ()
theorem EA (Y : Nat → Prop) (X : List Nat) (w0 : World) (v1 : Value) (p0 : List (Int × Int × Int)) (p1 : Int) (p2 : Int) (p3 : Int) (r : (List (Int × Int × Int))) (H : Be p0 p1 p2 p3 = some r) (hL : Stw ⟨Y,X,w0⟩ [] [row v1 187 A7 p0] w0) :
    Calls Tryz.prog 173 #[v1,.int .i64 p1,.int .i64 p2,.int .i64 p3,.func (.func 132) #[] #[]] w0 fun e w' => ∃ x : Unit,e = .returned (.tuple #[]) ∧ Stw ⟨Y,X,w0⟩ [] [row v1 187 A7 r] w' := by
 refine enter Tryz.func173 rfl Tryz.ntmps173 rfl (fun a hF => ?_)
 have hW := hL
 unfold Be at H
 refine vc tk 11 hF hW fun a w hF hW => ?_
 refine AD H (fun s a w => Fr 148 [] [(0,v1),(1,.int .i64 p1),(2,.int .i64 p2),(3,.int .i64 p3),(4,.func (.func 132) #[] #[]),(10,.bool true),(11,.bool true)] a ∧ Stw ⟨Y,X,w0⟩ [] [row v1 187 A7 p0] w) ⟨hF.ra rfl,hW⟩ (fun s o a w H L1 hR => ?_)
 obtain ⟨hF,hW⟩ := hR
 have hF : Fr 148 [] [(0,v1),(1,.int .i64 p1),(2,.int .i64 p2),(3,.int .i64 p3),(4,.func (.func 132) #[] #[]),(10,.bool true),(11,.bool true)] a := hF
 have hW : Stw ⟨Y,X,w0⟩ [] [row v1 187 A7 p0] w := hW
 rw [BK] at H
 refine vc tk 16 hF hW fun a w hF hW => ?_
 refine AG hF rfl H (fun hF H => ?_) (fun hF H => ?_)
 ·
  refine vc tk 6 hF hW fun a w hF hW => ?_
  obtain ⟨x1,h1,H⟩ := Ad H
  refine A9 (Ml := []) (Zl := [row v1 187 A7 p0]) (β := Unit) (rv := fun x => .tuple #[]) (MM := fun x => []) (ZZ := fun x => [row v1 187 A7 x1]) hF hW aF rfl rfl (fun hL => Dq _ _ w (v1) p0 p1 p2 _ h1 hL) (fun x a w hF hW => ?_)
  have hW : Stw ⟨Y,X,w0⟩ [] [row v1 187 A7 x1] w := hW
  refine Bc tk 2 hF hW fun a w hF hW => ?_
  refine Ah ?_
  refine Ak ?_
  refine Az ?_
  refine Ak ?_
  refine Az ?_
  have H := L1 _ H
  have H := Option.some.inj H
  subst H
  refine GO (.inl rfl) hF rfl ?_
  exact ⟨(),rfl,hW⟩
 ·
  exact nomatch H
theorem aE : Has Tryz.prog 173 := Bj Tryz.func173
def A2 (p0 : List (Int × Int × Int)) : Option (List (Int × Int × Int)) := (Dh (IntKind.u64.wrap (p0.length : Int))).bind fun x1 => (Be p0 0 (p0.length : Int) x1).bind fun x2 => some x2
theorem DH (Y : Nat → Prop) (X : List Nat) (w0 : World) (v1 : Value) (p0 : List (Int × Int × Int)) (r : (List (Int × Int × Int))) (H : A2 p0 = some r) (hL : Stw ⟨Y,X,w0⟩ [] [row v1 187 A7 p0] w0) :
    Calls Tryz.prog 131 #[v1,.func (.func 132) #[] #[]] w0 fun e w' => ∃ x : Unit,e = .returned (.tuple #[]) ∧ Stw ⟨Y,X,w0⟩ [] [row v1 187 A7 r] w' := by
 refine enter Tryz.func131 rfl Tryz.ntmps131 rfl (fun a hF => ?_)
 have hW := hL
 unfold A2 at H
 refine vc tk 3 hF hW fun a w hF hW => ?_
 refine ls hF hW rfl ((AK (r := A7) (l := p0) MW rfl hF rfl (Ae 0 rfl)).q) (fun a w hF hW => ?_)
 refine Bc tk 7 hF hW fun a w hF hW => ?_
 refine ls hF hW rfl ((Ec M4 JT hF rfl).q) (fun a w hF hW => ?_)
 obtain ⟨x1,h1,H⟩ := Ad H
 refine ls hF hW rfl (Av (v := Value.int .i64 x1) hF Zj rfl (fun w hW => GP any w (IntKind.u64.wrap (p0.length : Int)) _ h1)) (fun a w hF hW => ?_)
 refine ls hF hW rfl ((Al hF rfl).q) (fun a w hF hW => ?_)
 obtain ⟨x2,h2,H⟩ := Ad H
 refine A9 (Ml := []) (Zl := [row v1 187 A7 p0]) (β := Unit) (rv := fun x => .tuple #[]) (MM := fun x => []) (ZZ := fun x => [row v1 187 A7 x2]) hF hW aE rfl rfl (fun hL => EA _ _ w (v1) p0 0 (p0.length : Int) x1 _ h2 hL) (fun x a w hF hW => ?_)
 have hW : Stw ⟨Y,X,w0⟩ [] [row v1 187 A7 x2] w := hW
 refine D1 ?_
 have H := Option.some.inj H
 subst H
 refine GO (.inr rfl) hF rfl ?_
 exact ⟨(),rfl,hW⟩
end
end Go.Proofs.YtbiekjhlijdjbaaGreat
