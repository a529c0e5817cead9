/- The functions of CtlCheck, Hu. Conditions: none. -/
import Derived.Test.YtbiekjhlijdjbaaGreatbA4
set_option linter.unusedVariables false
set_option linter.unusedSimpArgs false
open Go Go.RowKit
namespace Go.Proofs.YtbiekjhlijdjbaaGreat
noncomputable section
set_option maxRecDepth 20000
set_option maxHeartbeats 1600000
def IJ (p1 : Int) (p2 : Int × Int × Int × Int × Int × Int × Int × Int × Int × (List (Int × (Int × (Int × (Int × Int × Int × Int) × (Int × Int × Int × Int)) × (List (Int × Int × Int))) × Bool))) (p3 : Int) : Unit := ()
theorem KX (Y : Nat → Prop) (w0 : World) (v1 : Value) (p1 : Int) (p2 : Int × Int × Int × Int × Int × Int × Int × Int × Int × (List (Int × (Int × (Int × (Int × Int × Int × Int) × (Int × Int × Int × Int)) × (List (Int × Int × Int))) × Bool))) (p3 : Int) (r : Unit) (H : IJ p1 p2 p3 = r) (h_v1 : Sl w0 (NX []) Y9 v1 p2.2.2.2.2.2.2.2.2.2) :
    Calls Tryz.prog 11 #[.pointer none,.int .i64 p1,.agg #[.int .i64 p2.1,.int .i64 p2.2.1,.int .i64 p2.2.2.1,.int .i64 p2.2.2.2.1,.int .i64 p2.2.2.2.2.1,.int .i64 p2.2.2.2.2.2.1,.int .i64 p2.2.2.2.2.2.2.1,.int .i64 p2.2.2.2.2.2.2.2.1,.int .i64 p2.2.2.2.2.2.2.2.2.1,v1],.int .i64 p3] w0 fun e w' => e = .returned (.tuple #[]) ∧ Below w0.heap.size w0 w' := by
 refine enter Tryz.func11 rfl Tryz.ntmps11 rfl (fun a hF => ?_)
 have hW := Stw.start Y w0
 obtain ⟨v2,h1,h_v1⟩ := h_v1.ex U3
 unfold IJ at H
 refine vc tk 2 hF hW fun a w hF hW => ?_
 refine Cv (cs := [.int .i64 p2.1,.int .i64 p2.2.1,.int .i64 p2.2.2.1,.int .i64 p2.2.2.2.1,.int .i64 p2.2.2.2.2.1,.int .i64 p2.2.2.2.2.2.1,.int .i64 p2.2.2.2.2.2.2.1,.int .i64 p2.2.2.2.2.2.2.2.1,.int .i64 p2.2.2.2.2.2.2.2.2.1,v1]) hF hW rfl rfl rfl (fun b1 a w hF hW => ?_)
 refine Bc tk 4 hF hW fun a w hF hW => ?_
 refine Gp [(true,0),(false,1),(true,2),(true,3),(true,4),(false,5),(true,6),(true,7),(true,8),(true,9),(true,10),(true,11),(true,12),(true,13),(true,14),(true,15),(true,16),(true,17),(true,18)] (CN ⟨Y,[],w0⟩ [] []) (fun ch a d v w h => by cases d <;> exact h) MO (by kernel_rfl) hW (fun w hW => ⟨_,_,hW,As,As⟩) (fun w hW => ?_)
 refine Cp (R := []) hF rfl rfl (yC fun M Z hN hZ => Al hF rfl) rfl rfl (fun a hF => ?_)
 refine HD rfl ?_
 refine ls hF hW rfl (Av (v := Value.int .i64 6) hF ZA rfl (fun w hW => Ea any w _ rfl)) (fun a w hF hW => ?_)
 refine CC (N2 := []) (NZ2 := []) (N3 := []) (NZ3 := []) hW rfl rfl As As ?_
 refine Cp (R := []) hF rfl rfl (yC fun M Z hN hZ => IR hF rfl rfl) rfl rfl (fun a hF => ?_)
 rw [show decide ((6 : Int) = 6) = true from by decide] at hF
 refine Cp (R := []) hF rfl rfl (yC fun M Z hN hZ => Al hF rfl) rfl rfl (fun a hF => ?_)
 refine Nv hF rfl (B4 hF rfl rfl rfl rfl rfl) rfl rfl rfl (fun a hF => ?_)
 refine HD rfl ?_
 refine gG hF rfl rfl rfl rfl rfl rfl rfl (fun a hF => ?_)
 refine CC (N2 := []) (NZ2 := []) (N3 := []) (NZ3 := []) hW rfl rfl As As ?_
 refine Nv hF rfl (B4 hF rfl rfl rfl rfl rfl) rfl rfl rfl (fun a hF => ?_)
 refine Cp (R := []) hF rfl rfl (yC fun M Z hN hZ => CE hF rfl rfl rfl) rfl rfl (fun a hF => ?_)
 refine Cp (R := []) hF rfl rfl (yC fun M Z hN hZ => Al hF rfl) rfl rfl (fun a hF => ?_)
 iterate 9 refine Nv hF rfl (B4 hF rfl rfl rfl rfl rfl) rfl rfl rfl (fun a hF => ?_)
 refine Cp (R := []) hF rfl rfl (yC fun M Z hN hZ => CE hF rfl rfl rfl) rfl rfl (fun a hF => ?_)
 refine JE ?_
 refine vn tk 1 hF hW fun a w hF hW => ?_
 refine Ah ?_
 refine Ak ?_
 subst H
 refine GO (.inl rfl) hF rfl ?_
 exact ⟨rfl,hW.done⟩
theorem gA : Has Tryz.prog 11 := Bj Tryz.func11
def Il  : Unit := ()
theorem J8 (Y : Nat → Prop) (w0 : World)   (r : Unit) (H : Il  = r)  :
    Calls Tryz.prog 12 #[.pointer none] w0 fun e w' => e = .returned (.tuple #[.slice none 0 0,.slice none 0 0]) ∧ Below w0.heap.size w0 w' := by
 refine enter Tryz.func12 rfl Tryz.ntmps12 rfl (fun a hF => ?_)
 have hW := Stw.start Y w0
 unfold Il at H
 refine vc tk 10 hF hW fun a w hF hW => ?_
 refine ls hF hW rfl ((Cm O5 hF rfl rfl).q) (fun a w hF hW => ?_)
 refine Bc tk 9 hF hW fun a w hF hW => ?_
 refine Ah ?_
 refine Ak ?_
 subst H
 refine Dz (.inl rfl) hF hW rfl (Ag hF rfl) (Ag hF rfl) ?_
 exact ⟨rfl,hW.done⟩
theorem iL : Has Tryz.prog 12 := Bj Tryz.func12
def Hp (p1 : Int) (p2 : Int) (p3 : Int) : Unit := ()
theorem JD (Y : Nat → Prop) (w0 : World)  (p1 : Int) (p2 : Int) (p3 : Int) (r : Unit) (H : Hp p1 p2 p3 = r)  :
    Calls Tryz.prog 14 #[.pointer none,.int .i64 p1,.int .i64 p2,.int .i64 p3] w0 fun e w' => e = .returned (.int .i64 16) ∧ Below w0.heap.size w0 w' := by
 refine enter Tryz.func14 rfl Tryz.ntmps14 rfl (fun a hF => ?_)
 have hW := Stw.start Y w0
 unfold Hp at H
 refine vc tk 9 hF hW fun a w hF hW => ?_
 refine ls hF hW rfl (Av (v := Value.int .i64 6) hF ZA rfl (fun w hW => Ea any w _ rfl)) (fun a w hF hW => ?_)
 refine ls hF hW rfl ((KH hF rfl rfl).q) (fun a w hF hW => ?_)
 rw [show decide ((6 : Int) ≠ 0) = true from by decide] at hF
 refine Bc tk 24 hF hW fun a w hF hW => ?_
 refine Ah ?_
 refine Ak ?_
 subst H
 refine Aw (.inl rfl) hF hW rfl (Ag hF rfl) ?_
 exact ⟨rfl,hW.done⟩
theorem gZ : Has Tryz.prog 14 := Bj Tryz.func14
abbrev hG : Rp (Int × Int × Int × Int × Int × Int) := (Rp.pair (Rp.int .i64) (Rp.pair (Rp.int .i64) (Rp.pair (Rp.int .i64) (Rp.pair (Rp.int .i64) (Rp.pair (Rp.int .i64) (Rp.int .i64))))))
def GM  : Unit := ()
theorem Jw (Y : Nat → Prop) (w0 : World)   (r : Unit) (H : GM  = r)  :
    Calls Tryz.prog 15 #[.pointer none] w0 fun e w' => e = .returned (.slice none 0 0) ∧ Below w0.heap.size w0 w' := by
 refine enter Tryz.func15 rfl Tryz.ntmps15 rfl (fun a hF => ?_)
 have hW := Stw.start Y w0
 unfold GM at H
 refine vc tk 9 hF hW fun a w hF hW => ?_
 refine ls hF hW rfl ((Cm O5 hF rfl rfl).q) (fun a w hF hW => ?_)
 refine Bc tk 8 hF hW fun a w hF hW => ?_
 refine Ah ?_
 refine Ak ?_
 subst H
 refine Aw (.inl rfl) hF hW rfl (Ag hF rfl) ?_
 exact ⟨rfl,hW.done⟩
theorem aG : type_of% Tryz.underlying57 := Tryz.underlying57
theorem iH : Has Tryz.prog 15 := Bj Tryz.func15
abbrev dE : Rp (Int × Int × Int × Int) := (Rp.pair (Rp.int .i64) (Rp.pair (Rp.int .i64) (Rp.pair (Rp.int .i64) (Rp.int .i64))))
theorem fT : (Tryz.prog.info? 57).bind (·.zero) = some (.agg #[.bool false,.int .i64 0,.int .i64 0,.int .i64 0]) := by kernel_rfl
theorem f9 : Bt Tryz.prog 57 [.bool false,.int .i64 0,.int .i64 0,.int .i64 0] [(0,1),(1,2),(3,1)] := ⟨⟨.agg #[.bool false,.int .i64 0,.int .i64 0,.int .i64 0],by kernel_rfl,rfl⟩,⟨_,aG,fun w => by kernel_rfl⟩⟩
theorem eA : Ty Tryz.prog 57 true 4 := ⟨by kernel_rfl,by kernel_rfl⟩
def Gq (p1 : Int) : Unit := ()
theorem Iy (Y : Nat → Prop) (w0 : World)  (p1 : Int) (r : Unit) (H : Gq p1 = r)  :
    Calls Tryz.prog 16 #[.pointer none,.int .i64 p1] w0 fun e w' => e = .returned (.agg #[.bool false,.int .i64 0,.int .i64 0,.int .i64 0]) ∧ Below w0.heap.size w0 w' := by
 refine enter Tryz.func16 rfl Tryz.ntmps16 rfl (fun a hF => ?_)
 have hW := Stw.start Y w0
 unfold Gq at H
 refine vc tk 2 hF hW fun a w hF hW => ?_
 refine Ck (cs := [.bool false,.int .i64 0,.int .i64 0,.int .i64 0]) hF hW rfl fT rfl (fun b1 a w hF hW => ?_)
 refine Bc tk 6 hF hW fun a w hF hW => ?_
 refine ls hF hW rfl ((Cm O5 hF rfl rfl).q) (fun a w hF hW => ?_)
 refine Bc tk 19 hF hW fun a w hF hW => ?_
 refine ls hF hW rfl ((DV (v := Value.agg #[.bool false,.int .i64 0,.int .i64 0,.int .i64 0]) f9 hF rfl rfl rfl).q) (fun a w hF hW => ?_)
 refine Iw 0 hF hW rfl rfl rfl eA rfl rfl rfl (fun w hW => ?_)
 refine Bc tk 2 hF hW fun a w hF hW => ?_
 refine Ah ?_
 refine Ak ?_
 subst H
 refine Aw (.inl rfl) hF hW rfl (Nf 0 hF rfl rfl eA rfl) ?_
 exact ⟨rfl,hW.done⟩
theorem Yj : type_of% Tryz.underlying60 := Tryz.underlying60
theorem hH : Has Tryz.prog 16 := Bj Tryz.func16
theorem iC : (Tryz.prog.info? 60).bind (·.zero) = some (.agg #[.int .i64 0,.int .i64 0,.bool false,.int .i64 0,.int .i64 0,.int .i64 0,.bool false,.bool false,.int .i64 0]) := by kernel_rfl
theorem eS : Bt Tryz.prog 60 [.int .i64 0,.int .i64 0,.bool false,.int .i64 0,.int .i64 0,.int .i64 0,.bool false,.bool false,.int .i64 0] [(0,1),(1,1),(2,1),(3,1),(4,1),(5,1),(6,1),(7,1),(8,1)] := ⟨⟨.agg #[.int .i64 0,.int .i64 0,.bool false,.int .i64 0,.int .i64 0,.int .i64 0,.bool false,.bool false,.int .i64 0],by kernel_rfl,rfl⟩,⟨_,Yj,fun w => by kernel_rfl⟩⟩
theorem eP : Ty Tryz.prog 60 true 9 := ⟨by kernel_rfl,by kernel_rfl⟩
def Im  : Unit := ()
theorem Ke (Y : Nat → Prop) (w0 : World)   (r : Unit) (H : Im  = r)  :
    Calls Tryz.prog 17 #[.pointer none] w0 fun e w' => e = .returned (.agg #[.int .i64 0,.int .i64 0,.bool false,.int .i64 0,.int .i64 0,.int .i64 0,.bool false,.bool false,.int .i64 0]) ∧ Below w0.heap.size w0 w' := by
 refine enter Tryz.func17 rfl Tryz.ntmps17 rfl (fun a hF => ?_)
 have hW := Stw.start Y w0
 unfold Im at H
 refine vc tk 2 hF hW fun a w hF hW => ?_
 refine Ck (cs := [.int .i64 0,.int .i64 0,.bool false,.int .i64 0,.int .i64 0,.int .i64 0,.bool false,.bool false,.int .i64 0]) hF hW rfl iC rfl (fun b1 a w hF hW => ?_)
 refine Bc tk 6 hF hW fun a w hF hW => ?_
 refine ls hF hW rfl ((Cm O5 hF rfl rfl).q) (fun a w hF hW => ?_)
 refine Bc tk 5 hF hW fun a w hF hW => ?_
 refine ls hF hW rfl ((DV (v := Value.agg #[.int .i64 0,.int .i64 0,.bool false,.int .i64 0,.int .i64 0,.int .i64 0,.bool false,.bool false,.int .i64 0]) eS hF rfl rfl rfl).q) (fun a w hF hW => ?_)
 refine Iw 0 hF hW rfl rfl rfl eP rfl rfl rfl (fun w hW => ?_)
 refine Bc tk 2 hF hW fun a w hF hW => ?_
 refine Ah ?_
 refine Ak ?_
 subst H
 refine Aw (.inl rfl) hF hW rfl (Nf 0 hF rfl rfl eP rfl) ?_
 exact ⟨rfl,hW.done⟩
theorem Yr : type_of% Tryz.underlying65 := Tryz.underlying65
theorem YH : Has Tryz.prog 17 := Bj Tryz.func17
theorem dF (dd : Nat) (x0 : Int) (x1 : Int) (x2 : Bool) (x3 : Int) (x4 : Int) (x5 : Int) (x6 : Bool) (x7 : Bool) (x8 : Int) (y0 : Int) (y1 : Int) (y2 : Bool) (y3 : Int) (y4 : Int) (y5 : Int) (y6 : Bool) (y7 : Bool) (y8 : Int) (w : World) : (Op.equalIn (dd + 2) 60 (.agg #[.int .i64 x0,.int .i64 x1,.bool x2,.int .i64 x3,.int .i64 x4,.int .i64 x5,.bool x6,.bool x7,.int .i64 x8]) (.agg #[.int .i64 y0,.int .i64 y1,.bool y2,.int .i64 y3,.int .i64 y4,.int .i64 y5,.bool y6,.bool y7,.int .i64 y8])).run Tryz.prog w = .ok (decide (x0 = y0 ∧ x1 = y1 ∧ x2 = y2 ∧ x3 = y3 ∧ x4 = y4 ∧ x5 = y5 ∧ x6 = y6 ∧ x7 = y7 ∧ x8 = y8)) w :=
  MT (d := dd + 1) (rs := [decide (x0 = y0),decide (x1 = y1),decide (x2 = y2),decide (x3 = y3),decide (x4 = y4),decide (x5 = y5),decide (x6 = y6),decide (x7 = y7),decide (x8 = y8)]) Yj (by kernel_rfl) ⟨rfl,FJ (d := dd + 0) rfl rfl M4 T3 rfl rfl,rfl,FJ (d := dd + 0) rfl rfl M4 T3 rfl rfl,rfl,LG (d := dd + 0) rfl rfl Zv T4 rfl rfl,rfl,FJ (d := dd + 0) rfl rfl M4 T3 rfl rfl,rfl,FJ (d := dd + 0) rfl rfl M4 T3 rfl rfl,rfl,FJ (d := dd + 0) rfl rfl M4 T3 rfl rfl,rfl,LG (d := dd + 0) rfl rfl Zv T4 rfl rfl,rfl,LG (d := dd + 0) rfl rfl Zv T4 rfl rfl,rfl,FJ (d := dd + 0) rfl rfl M4 T3 rfl rfl,trivial⟩ (by simp) w
theorem g9 : Tryz.prog.eqGuardType Tryz.prog.depth 60 = false := by kernel_rfl
theorem fJ (x0 : Int) (x1 : Int) (x2 : Bool) (x3 : Int) (x4 : Int) (x5 : Int) (x6 : Bool) (x7 : Bool) (x8 : Int) (y0 : Int) (y1 : Int) (y2 : Bool) (y3 : Int) (y4 : Int) (y5 : Int) (y6 : Bool) (y7 : Bool) (y8 : Int) (w : World) : (Op.equalIn 10000 60 (.agg #[.int .i64 x0,.int .i64 x1,.bool x2,.int .i64 x3,.int .i64 x4,.int .i64 x5,.bool x6,.bool x7,.int .i64 x8]) (.agg #[.int .i64 y0,.int .i64 y1,.bool y2,.int .i64 y3,.int .i64 y4,.int .i64 y5,.bool y6,.bool y7,.int .i64 y8])).run Tryz.prog w = .ok (decide (x0 = y0 ∧ x1 = y1 ∧ x2 = y2 ∧ x3 = y3 ∧ x4 = y4 ∧ x5 = y5 ∧ x6 = y6 ∧ x7 = y7 ∧ x8 = y8)) w := dF 9998 x0 x1 x2 x3 x4 x5 x6 x7 x8 y0 y1 y2 y3 y4 y5 y6 y7 y8 w
theorem iA : (Tryz.prog.info? 65).bind (·.zero) = some (.agg #[.slice none 0 0,.slice none 0 0,.int .i64 0,.int .i64 0,.int .i64 0,.int .i64 0]) := by kernel_rfl
theorem gN : Bt Tryz.prog 65 [.slice none 0 0,.slice none 0 0,.int .i64 0,.int .i64 0,.int .i64 0,.int .i64 0] [(0,1),(1,1),(2,1),(3,1),(4,1),(5,1)] := ⟨⟨.agg #[.slice none 0 0,.slice none 0 0,.int .i64 0,.int .i64 0,.int .i64 0,.int .i64 0],by kernel_rfl,rfl⟩,⟨_,Yr,fun w => by kernel_rfl⟩⟩
theorem e9 : Ty Tryz.prog 65 true 6 := ⟨by kernel_rfl,by kernel_rfl⟩
def Jt  : Unit := ()
theorem KY (Y : Nat → Prop) (w0 : World)   (r : Unit) (H : Jt  = r)  :
    Calls Tryz.prog 18 #[.pointer none] w0 fun e w' => e = .returned (.agg #[.slice none 0 0,.slice none 0 0,.int .i64 0,.int .i64 0,.int .i64 0,.int .i64 0]) ∧ Below w0.heap.size w0 w' := by
 refine enter Tryz.func18 rfl Tryz.ntmps18 rfl (fun a hF => ?_)
 have hW := Stw.start Y w0
 unfold Jt at H
 refine vc tk 2 hF hW fun a w hF hW => ?_
 refine Ck (cs := [.slice none 0 0,.slice none 0 0,.int .i64 0,.int .i64 0,.int .i64 0,.int .i64 0]) hF hW rfl iA rfl (fun b1 a w hF hW => ?_)
 refine Bc tk 6 hF hW fun a w hF hW => ?_
 refine ls hF hW rfl ((Cm O5 hF rfl rfl).q) (fun a w hF hW => ?_)
 refine Bc tk 5 hF hW fun a w hF hW => ?_
 refine ls hF hW rfl ((DV (v := Value.agg #[.slice none 0 0,.slice none 0 0,.int .i64 0,.int .i64 0,.int .i64 0,.int .i64 0]) gN hF rfl rfl rfl).q) (fun a w hF hW => ?_)
 refine Iw 0 hF hW rfl rfl rfl e9 rfl rfl rfl (fun w hW => ?_)
 refine Bc tk 2 hF hW fun a w hF hW => ?_
 refine Ah ?_
 refine Ak ?_
 subst H
 refine Aw (.inl rfl) hF hW rfl (Nf 0 hF rfl rfl e9 rfl) ?_
 exact ⟨rfl,hW.done⟩
theorem d8 : type_of% Tryz.underlying46 := Tryz.underlying46
theorem cK : type_of% Tryz.underlying47 := Tryz.underlying47
theorem aT : type_of% Tryz.underlying52 := Tryz.underlying52
theorem aQ : type_of% Tryz.underlying63 := Tryz.underlying63
theorem fP : Has Tryz.prog 18 := Bj Tryz.func18
theorem g8 : Ty Tryz.prog 63 false 1 := ⟨by kernel_rfl,by kernel_rfl⟩
abbrev cD : Rp (Int × Int × List Int) := (Rp.pair (Rp.int .i64) (Rp.pair (Rp.int .i64) (Rp.slice (Rp.int .i64))))
def C8 (x2 : List (List (List Int)) × Int) (x3 : List (List (List Int)) × Bool) (x4 : Int) (x7 : Int) : Int → Option (Int ⊕ (Unit ⊕ (Int ⊕ (Unit ⊕ (Int ⊕ (Unit ⊕ Bool))))))
  | x13 => (ix x3.1 x4).bind fun x14 => (ix x14 x7).bind fun x15 => (if x13 < (x15.length : Int) then (ix x2.1 x4).bind fun x16 => (ix x16 x7).bind fun x17 => (ix x17 x13).bind fun x18 => (ix x3.1 x4).bind fun x19 => (ix x19 x7).bind fun x20 => (ix x20 x13).bind fun x21 => (if x18 ≠ x21 then some (.inr (.inr (.inr (.inr (.inr (.inr false)))))) else some (.inl (w64 (x13 + 1)))) else some (.inr (.inl ())))
def Da (x2 : List (List (List Int)) × Int) (x3 : List (List (List Int)) × Bool) (x4 : Int) : Int → Option (Int ⊕ (Unit ⊕ (Int ⊕ (Unit ⊕ Bool))))
  | x7 => (ix x3.1 x4).bind fun x8 => (if x7 < (x8.length : Int) then GU ((ix x2.1 x4).bind fun x9 => (ix x9 x7).bind fun x10 => (ix x3.1 x4).bind fun x11 => (ix x11 x7).bind fun x12 => (if (x10.length : Int) ≠ (x12.length : Int) then some (.inr (.inr (.inr (.inr (.inr false))))) else Am (C8 x2 x3 x4 x7) 0)) fun _ => some (.inl (w64 (x7 + 1))) else some (.inr (.inl ())))
def Db (x2 : List (List (List Int)) × Int) (x3 : List (List (List Int)) × Bool) : Int → Option (Int ⊕ (Unit ⊕ Bool))
  | x4 => (if x4 < (x3.1.length : Int) then GU ((ix x2.1 x4).bind fun x5 => (ix x3.1 x4).bind fun x6 => (if (x5.length : Int) ≠ (x6.length : Int) then some (.inr (.inr (.inr false))) else Am (Da x2 x3 x4) 0)) fun _ => some (.inl (w64 (x4 + 1))) else some (.inr (.inl ())))
def Fg (p0 : (Int × (List (Int × Int × Int × Int × Int × Int)) × (List (Int × Int))) × List (List Int) × List Int × Int × Int × Int × Int × Int × Int) : Option Bool := (Gb p0 ([] : List (Int × Int × Int × Int × (Int × Int × Int × Int × Int × Int × Int × Int × Int × (List (Int × (Int × (Int × (Int × Int × Int × Int) × (Int × Int × Int × Int)) × (List (Int × Int × Int))) × Bool)))))).bind fun x1 => (if (!x1) = true then some Fk else (DT p0).bind fun x2 => (DL p0).bind fun x3 => (if (decide (x3.2 ≠ (decide (x2.2 = 0))) || (bif !x3.2 then (decide (x2.2 ≠ 2) || decide ((x2.1.length : Int) ≠ (x3.1.length : Int))) else decide ((x2.1.length : Int) ≠ (x3.1.length : Int)))) = true then some false else GU (Am (Db x2 x3) 0) fun _ => some (decide ((w64 ((w64 ((([] : List (Int × Int × Int × Int × Int × Int × Int × Int × Int × (List (Int × (Int × (Int × (Int × Int × Int × Int) × (Int × Int × Int × Int)) × (List (Int × Int × Int))) × Bool)))).length : Int) + (([] : List (Int × Int × Int × Int × Int × Int)).length : Int))) + (([] : List (Int × Int × Int × Int)).length : Int))) = 0) && (decide ((0 : Int) = 0 ∧ (0 : Int) = 0 ∧ false = false ∧ (0 : Int) = 0 ∧ (0 : Int) = 0 ∧ (0 : Int) = 0 ∧ false = false ∧ false = false ∧ (0 : Int) = 0) && (decide ((([] : List (Int × Int × List Int)).length : Int) = 0) && Fk)))))
theorem Lg (Y : Nat → Prop) (w0 : World) (v1 : Value) (v2 : Value) (v3 : Value) (v4 : Value) (p0 : (Int × (List (Int × Int × Int × Int × Int × Int)) × (List (Int × Int))) × List (List Int) × List Int × Int × Int × Int × Int × Int × Int) (r : Bool) (H : Fg p0 = some r) (h_v1 : Sl w0 (NX []) B8 v1 p0.1.2.1) (h_v2 : Sl w0 (NX []) Cc v2 p0.1.2.2) (h_v3 : Sl w0 (NX []) (Rp.slice (Rp.int .u64)) v3 p0.2.1) (h_v4 : Sl w0 (NX []) (Rp.int .i64) v4 p0.2.2.1) :
    Calls Tryz.prog 3 #[.agg #[.int .i64 p0.1.1,v1,v2,v3,v4,.int .i64 p0.2.2.2.1,.int .i64 p0.2.2.2.2.1,.int .i64 p0.2.2.2.2.2.1,.int .i64 p0.2.2.2.2.2.2.1,.int .i64 p0.2.2.2.2.2.2.2.1,.int .i64 p0.2.2.2.2.2.2.2.2]] w0 fun e w' => e = .returned (.bool r) ∧ Below w0.heap.size w0 w' := by
 refine enter Tryz.func3 rfl Tryz.ntmps3 rfl (fun a hF => ?_)
 have hW := Stw.start Y w0
 obtain ⟨v5,h1,h_v3⟩ := h_v3.ex HW
 unfold Fg at H
 refine vc tk 2 hF hW fun a w hF hW => ?_
 refine Cv (cs := [.int .i64 p0.1.1,v1,v2,v3,v4,.int .i64 p0.2.2.2.1,.int .i64 p0.2.2.2.2.1,.int .i64 p0.2.2.2.2.2.1,.int .i64 p0.2.2.2.2.2.2.1,.int .i64 p0.2.2.2.2.2.2.2.1,.int .i64 p0.2.2.2.2.2.2.2.2]) hF hW rfl rfl rfl (fun b1 a w hF hW => ?_)
 refine E9 tk 7 [0] hF hW (ai fun a w hF hW => ?_)
 obtain ⟨x1,h2,H⟩ := Ad H
 refine ls hF hW rfl (Av (v := Value.bool x1) hF H4 rfl (fun w hW => Og any w (v1) (v2) (v3) (v4) (Value.slice none 0 0) p0 ([] : List (Int × Int × Int × Int × (Int × Int × Int × Int × Int × Int × Int × Int × Int × (List (Int × (Int × (Int × (Int × Int × Int × Int) × (Int × Int × Int × Int)) × (List (Int × Int × Int))) × Bool))))) _ h2 (D3 (Ab h_v1) hW) (D3 (Ab h_v2) hW) (D3 (Ch HW h1 (Ab h_v3)) hW) (D3 (Ab h_v4) hW) Sl.nil)) (fun a w hF hW => ?_)
 refine Bc tk 3 hF hW fun a w hF hW => ?_
 refine BA hF rfl H (fun hF H => ?_) (fun hF H => ?_)
 ·
  refine vc tk 2 hF hW fun a w hF hW => ?_
  refine ls hF hW rfl (Av (v := Value.bool Fk) hF H5 rfl (fun w hW => J0 any w _ rfl)) (fun a w hF hW => ?_)
  refine Bc tk 3 hF hW fun a w hF hW => ?_
  refine Ah ?_
  refine Ak ?_
  have H := Option.some.inj H
  subst H
  refine Aw (.inl rfl) hF hW rfl (Ag hF rfl) ?_
  exact ⟨rfl,hW.done⟩
 ·
  refine LT tk 5 [0] hF hW (ai fun a w hF hW => ?_)
  obtain ⟨x2,h3,H⟩ := Ad H
  refine A9 (Ml := []) (Zl := []) (β := Value) (rv := fun x => .tuple #[x,.int .i64 x2.2]) (MM := fun x => []) (ZZ := fun x => [row x 39 (Rp.slice (Rp.slice (Rp.int .i64))) x2.1]) hF hW H6 rfl rfl (fun hL => O7 _ w (v1) (v2) (v3) (v4) p0 _ h3 ((Ab h_v1) w hW).nx ((Ab h_v2) w hW).nx ((Ch HW h1 (Ab h_v3)) w hW).nx ((Ab h_v4) w hW).nx) (fun x a w hF hW => ?_)
  obtain ⟨v6,rfl⟩ : ∃ y,y = x := ⟨x,rfl⟩
  have hW : Stw ⟨Y,[],w0⟩ [(b1,[.int .i64 p0.1.1,v1,v2,v3,v4,.int .i64 p0.2.2.2.1,.int .i64 p0.2.2.2.2.1,.int .i64 p0.2.2.2.2.2.1,.int .i64 p0.2.2.2.2.2.2.1,.int .i64 p0.2.2.2.2.2.2.2.1,.int .i64 p0.2.2.2.2.2.2.2.2])] [row v6 39 (Rp.slice (Rp.slice (Rp.int .i64))) x2.1] w := hW
  refine ls hF hW rfl ((Al hF rfl).q) (fun a w hF hW => ?_)
  refine ls hF hW rfl ((A4 (v := v6) hF rfl rfl).q) (fun a w hF hW => ?_)
  refine ls hF hW rfl ((A4 (v := Value.int .i64 x2.2) hF rfl rfl).q) (fun a w hF hW => ?_)
  refine E9 tk 7 [0] hF hW (ai fun a w hF hW => ?_)
  obtain ⟨x3,h4,H⟩ := Ad H
  refine A9 (Ml := []) (Zl := []) (β := Value) (rv := fun x => .tuple #[x,.bool x3.2]) (MM := fun x => []) (ZZ := fun x => [row x 39 (Rp.slice (Rp.slice (Rp.int .i64))) x3.1]) hF hW H7 rfl rfl (fun hL => OH _ w (v1) (v2) (v3) (v4) p0 _ h4 ((Ab h_v1) w hW).nx ((Ab h_v2) w hW).nx ((Ch HW h1 (Ab h_v3)) w hW).nx ((Ab h_v4) w hW).nx) (fun x a w hF hW => ?_)
  obtain ⟨v7,rfl⟩ : ∃ y,y = x := ⟨x,rfl⟩
  have hW : Stw ⟨Y,[],w0⟩ [(b1,[.int .i64 p0.1.1,v1,v2,v3,v4,.int .i64 p0.2.2.2.1,.int .i64 p0.2.2.2.2.1,.int .i64 p0.2.2.2.2.2.1,.int .i64 p0.2.2.2.2.2.2.1,.int .i64 p0.2.2.2.2.2.2.2.1,.int .i64 p0.2.2.2.2.2.2.2.2])] [row v7 39 (Rp.slice (Rp.slice (Rp.int .i64))) x3.1,row v6 39 (Rp.slice (Rp.slice (Rp.int .i64))) x2.1] w := hW
  refine ls hF hW rfl ((Al hF rfl).q) (fun a w hF hW => ?_)
  refine ls hF hW rfl ((A4 (v := v7) hF rfl rfl).q) (fun a w hF hW => ?_)
  refine ls hF hW rfl ((A4 (v := Value.bool x3.2) hF rfl rfl).q) (fun a w hF hW => ?_)
  refine Bc tk 5 hF hW fun a w hF hW => ?_
  refine Aj (fun a w => Fr 178 [] [(2,.bool false),(3,v6),(5,v7),(45,.bool (decide (x3.2 ≠ (decide (x2.2 = 0))) || (bif !x3.2 then (decide (x2.2 ≠ 2) || decide ((x2.1.length : Int) ≠ (x3.1.length : Int))) else decide ((x2.1.length : Int) ≠ (x3.1.length : Int)))))] a ∧ Stw ⟨Y,[],w0⟩ [(b1,[.int .i64 p0.1.1,v1,v2,v3,v4,.int .i64 p0.2.2.2.1,.int .i64 p0.2.2.2.2.1,.int .i64 p0.2.2.2.2.2.1,.int .i64 p0.2.2.2.2.2.2.1,.int .i64 p0.2.2.2.2.2.2.2.1,.int .i64 p0.2.2.2.2.2.2.2.2])] [row v7 39 (Rp.slice (Rp.slice (Rp.int .i64))) x3.1,row v6 39 (Rp.slice (Rp.slice (Rp.int .i64))) x2.1] w) ?_ ?_
  ·
   refine vc tk 4 hF hW fun a w hF hW => ?_
   refine ls hF hW rfl ((VU Zv hF rfl rfl).q) (fun a w hF hW => ?_)
   refine ls hF hW rfl ((Al hF rfl).q) (fun a w hF hW => ?_)
   rcases bxq (decide (x3.2 ≠ (decide (x2.2 = 0)))) with hb0 | hb0
   ·
    rw [hb0] at hF
    refine vl tk 15 hF hW fun a w hF hW => ?_
    refine Aa ?_
    exact ⟨hF.re ⟨rfl,rfl,rfl,(Di (by try rw [hb0]; all_goals simp only [Dl])),trivial⟩,hW⟩
   ·
    rw [hb0] at hF
    refine vl tk 3 hF hW fun a w hF hW => ?_
    rcases bxq (!x3.2) with hb1 | hb1
    ·
     rw [hb1] at hF
     refine vl tk 5 hF hW fun a w hF hW => ?_
     rcases bxq (decide (x2.2 ≠ 2)) with hb2 | hb2
     ·
      rw [hb2] at hF
      refine vl tk 7 hF hW fun a w hF hW => ?_
      refine Aa ?_
      exact ⟨hF.re ⟨rfl,rfl,rfl,(Di (by try rw [hb0]; try rw [hb2]; try rw [hb1]; all_goals simp only [Dl])),trivial⟩,hW⟩
     ·
      rw [hb2] at hF
      refine BC hF hW (Ac hF rfl rfl rfl rfl) rfl (ze rfl) ((Al hF rfl).q) (fun a w hF hW => ?_)
      refine BC hF hW (Ac hF rfl rfl rfl rfl) rfl (ze rfl) ((AK (r := (Rp.slice (Rp.slice (Rp.int .i64)))) (l := x2.1) Sa rfl hF rfl (Ae 1 rfl)).q) (fun a w hF hW => ?_)
      refine BC hF hW (Ac hF rfl rfl rfl rfl) rfl (ze rfl) ((Al hF rfl).q) (fun a w hF hW => ?_)
      refine BC hF hW (Ac hF rfl rfl rfl rfl) rfl (ze rfl) ((AK (r := (Rp.slice (Rp.slice (Rp.int .i64)))) (l := x3.1) Sa rfl hF rfl (Ae 0 rfl)).q) (fun a w hF hW => ?_)
      refine vl tk 3 hF hW fun a w hF hW => ?_
      refine Aa ?_
      exact ⟨hF.re ⟨rfl,rfl,rfl,(Di (by try rw [hb0]; try rw [hb2]; try rw [hb1]; all_goals simp only [Dl])),trivial⟩,hW⟩
    ·
     rw [hb1] at hF
     refine vl tk 6 hF hW fun a w hF hW => ?_
     refine BC hF hW (Ac hF rfl rfl rfl rfl) rfl (ze rfl) ((AK (r := (Rp.slice (Rp.slice (Rp.int .i64)))) (l := x2.1) Sa rfl hF rfl (Ae 1 rfl)).q) (fun a w hF hW => ?_)
     refine BC hF hW (Ac hF rfl rfl rfl rfl) rfl (ze rfl) ((Al hF rfl).q) (fun a w hF hW => ?_)
     refine BC hF hW (Ac hF rfl rfl rfl rfl) rfl (ze rfl) ((AK (r := (Rp.slice (Rp.slice (Rp.int .i64)))) (l := x3.1) Sa rfl hF rfl (Ae 0 rfl)).q) (fun a w hF hW => ?_)
     refine vl tk 3 hF hW fun a w hF hW => ?_
     refine Aa ?_
     exact ⟨hF.re ⟨rfl,rfl,rfl,(Di (by try rw [hb0]; try rw [hb1]; all_goals simp only [Dl])),trivial⟩,hW⟩
  rintro a w ⟨hF,hW⟩
  refine BA hF rfl H (fun hF H => ?_) (fun hF H => ?_)
  ·
   refine vc tk 5 hF hW fun a w hF hW => ?_
   refine Ah ?_
   refine Ak ?_
   have H := Option.some.inj H
   subst H
   refine Aw (.inl rfl) hF hW rfl (Ag hF rfl) ?_
   exact ⟨rfl,hW.done⟩
  ·
   refine Ay ?_
   refine Aa ?_
   obtain ⟨o1,G1,K1,L1⟩ := KC H
   refine Aj (fun a w => some (Sum.inl ()) = some o1 ∧ Fr 178 [] [(2,.bool false)] a ∧ Stw ⟨Y,[],w0⟩ [(b1,[.int .i64 p0.1.1,v1,v2,v3,v4,.int .i64 p0.2.2.2.1,.int .i64 p0.2.2.2.2.1,.int .i64 p0.2.2.2.2.2.1,.int .i64 p0.2.2.2.2.2.2.1,.int .i64 p0.2.2.2.2.2.2.2.1,.int .i64 p0.2.2.2.2.2.2.2.2])] [] w) ?_ ?_
   ·
    have H := G1
    clear G1 K1
    refine vc tk 6 hF hW fun a w hF hW => ?_
    have hW := hW.frontZ (i := 1) rfl rfl
    refine AD H (fun s a w => Fr 178 [] [(2,.bool false),(3,v6),(5,v7),(7,.int .i64 s)] a ∧ Stw ⟨Y,[],w0⟩ [(b1,[.int .i64 p0.1.1,v1,v2,v3,v4,.int .i64 p0.2.2.2.1,.int .i64 p0.2.2.2.2.1,.int .i64 p0.2.2.2.2.2.1,.int .i64 p0.2.2.2.2.2.2.1,.int .i64 p0.2.2.2.2.2.2.2.1,.int .i64 p0.2.2.2.2.2.2.2.2])] [row v6 39 (Rp.slice (Rp.slice (Rp.int .i64))) x2.1,row v7 39 (Rp.slice (Rp.slice (Rp.int .i64))) x3.1] w) ⟨hF.ra rfl,hW⟩ (fun s o a w H L2 hR => ?_)
    obtain ⟨x4,rfl⟩ : ∃ x,x = s := ⟨s,rfl⟩
    obtain ⟨hF,hW⟩ := hR
    have hF : Fr 178 [] [(2,.bool false),(3,v6),(5,v7),(7,.int .i64 x4)] a := hF
    have hW : Stw ⟨Y,[],w0⟩ [(b1,[.int .i64 p0.1.1,v1,v2,v3,v4,.int .i64 p0.2.2.2.1,.int .i64 p0.2.2.2.2.1,.int .i64 p0.2.2.2.2.2.1,.int .i64 p0.2.2.2.2.2.2.1,.int .i64 p0.2.2.2.2.2.2.2.1,.int .i64 p0.2.2.2.2.2.2.2.2])] [row v6 39 (Rp.slice (Rp.slice (Rp.int .i64))) x2.1,row v7 39 (Rp.slice (Rp.slice (Rp.int .i64))) x3.1] w := hW
    rw [Db] at H
    refine vc tk 5 hF hW fun a w hF hW => ?_
    refine ls hF hW rfl ((AK (r := (Rp.slice (Rp.slice (Rp.int .i64)))) (l := x3.1) Sa rfl hF rfl (Ae 1 rfl)).q) (fun a w hF hW => ?_)
    refine Bc tk 3 hF hW fun a w hF hW => ?_
    refine AG hF rfl H (fun hF H => ?_) (fun hF H => ?_)
    ·
     refine Ay ?_
     refine Aa ?_
     obtain ⟨o3,G3,K3,L3⟩ := KC H
     refine Aj (fun a w => some (Sum.inl ()) = some o3 ∧ Fr 178 [] [(2,.bool false),(3,v6),(5,v7),(7,.int .i64 x4)] a ∧ Stw ⟨Y,[],w0⟩ [(b1,[.int .i64 p0.1.1,v1,v2,v3,v4,.int .i64 p0.2.2.2.1,.int .i64 p0.2.2.2.2.1,.int .i64 p0.2.2.2.2.2.1,.int .i64 p0.2.2.2.2.2.2.1,.int .i64 p0.2.2.2.2.2.2.2.1,.int .i64 p0.2.2.2.2.2.2.2.2])] [row v6 39 (Rp.slice (Rp.slice (Rp.int .i64))) x2.1,row v7 39 (Rp.slice (Rp.slice (Rp.int .i64))) x3.1] w) ?_ ?_
     ·
      have H := G3
      clear G3 K3
      refine vc tk 3 hF hW fun a w hF hW => ?_
      obtain ⟨v8,h5,hW⟩ := hW.exR F7
      have hW := hW.frontZ (i := 1) rfl rfl
      obtain ⟨v9,h6,hW⟩ := hW.exR F7
      refine BV hW MO (by kernel_rfl) ?_
      iterate 2 refine qs hF rfl ((Al hF rfl).q) (fun a hF => ?_)
      obtain ⟨x5,h7,H⟩ := Ad H
      obtain ⟨v10,h8,h9⟩ := Dm h5 h7
      have h10 : Hr v10 = [(v10.1)] := congrArg (fun q : List (List Int) => ([(v10.1)] : List Value)) h9
      refine qs hF rfl ((Ai (r := (Rp.vsl (Rp.vsl (Rp.int .i64)))) Sm hF rfl rfl (Ae 1 rfl) h8).q) (fun a hF => ?_)
      refine qs hF rfl ((Af (y := (v10.1)) (j := 0) (i := x4) (enc := Hr) hF rfl rfl (Ae 1 rfl) h8 OC Wa (by rw [h10]; rfl)).q) (fun a hF => ?_)
      refine qs hF rfl ((AK (r := (Rp.slice (Rp.int .i64))) (l := x5) UJ rfl hF rfl (Ch JL (congrArg (fun q : List (List Int) => q) h9) (BL (Ae 1 rfl) h8 AN.here rfl))).q) (fun a hF => ?_)
      iterate 2 refine qs hF rfl ((Al hF rfl).q) (fun a hF => ?_)
      obtain ⟨x6,h11,H⟩ := Ad H
      obtain ⟨v11,h12,h13⟩ := Dm h6 h11
      have h14 : Hr v11 = [(v11.1)] := congrArg (fun q : List (List Int) => ([(v11.1)] : List Value)) h13
      refine qs hF rfl ((Ai (r := (Rp.vsl (Rp.vsl (Rp.int .i64)))) Sm hF rfl rfl (Ae 0 rfl) h12).q) (fun a hF => ?_)
      refine qs hF rfl ((Af (y := (v11.1)) (j := 0) (i := x4) (enc := Hr) hF rfl rfl (Ae 0 rfl) h12 OC Wa (by rw [h14]; rfl)).q) (fun a hF => ?_)
      refine qs hF rfl ((AK (r := (Rp.slice (Rp.int .i64))) (l := x6) UJ rfl hF rfl (Ch JL (congrArg (fun q : List (List Int) => q) h13) (BL (Ae 0 rfl) h12 AN.here rfl))).q) (fun a hF => ?_)
      refine qs hF rfl ((KH hF rfl rfl).q) (fun a hF => ?_)
      refine AX (fun w hW => ?_)
      have hW := hW.note (Sl.hide JL (congrArg (fun q : List (List Int) => q) h9) (hW.rowAt (k := 1) rfl h8 AN.here rfl))
      have hW := hW.note (Sl.hide JL (congrArg (fun q : List (List Int) => q) h13) (hW.rowAt (k := 1) rfl h12 AN.here rfl))
      refine Aa ?_
      refine AG hF rfl H (fun hF H => ?_) (fun hF H => ?_)
      ·
       refine vc tk 5 hF hW fun a w hF hW => ?_
       refine Ah ?_
       refine Ak ?_
       refine Az ?_
       iterate 2 refine Ak ?_
       refine Az ?_
       refine Ak ?_
       have H := L3 _ H
       have H := L2 _ H
       have H := L1 _ H
       have H := Option.some.inj H
       subst H
       refine Aw (.inl rfl) hF hW rfl (Ag hF rfl) ?_
       exact ⟨rfl,hW.done⟩
      ·
       refine D2 tk 8 hF hW fun a w hF hW => ?_
       have hW := hW.frontZ (i := 3) rfl rfl
       have hW := hW.hideR F7 h5
       have hW := hW.frontZ (i := 3) rfl rfl
       have hW := hW.hideR F7 h6
       have hW := hW.frontZ (i := 1) rfl rfl
       have hW := hW.sub (M' := [(b1,[.int .i64 p0.1.1,v1,v2,v3,v4,.int .i64 p0.2.2.2.1,.int .i64 p0.2.2.2.2.1,.int .i64 p0.2.2.2.2.2.1,.int .i64 p0.2.2.2.2.2.2.1,.int .i64 p0.2.2.2.2.2.2.2.1,.int .i64 p0.2.2.2.2.2.2.2.2])]) (Z' := [row v6 39 (Rp.slice (Rp.slice (Rp.int .i64))) x2.1,row v7 39 (Rp.slice (Rp.slice (Rp.int .i64))) x3.1]) (List.Sublist.refl _) (List.Sublist.cons_cons _ (List.Sublist.cons_cons _ (List.nil_sublist _)))
       refine AD H (fun s a w => Fr 178 [] [(2,.bool false),(3,v6),(5,v7),(7,.int .i64 x4),(8,.int .i64 s)] a ∧ Stw ⟨Y,[],w0⟩ [(b1,[.int .i64 p0.1.1,v1,v2,v3,v4,.int .i64 p0.2.2.2.1,.int .i64 p0.2.2.2.2.1,.int .i64 p0.2.2.2.2.2.1,.int .i64 p0.2.2.2.2.2.2.1,.int .i64 p0.2.2.2.2.2.2.2.1,.int .i64 p0.2.2.2.2.2.2.2.2])] [row v6 39 (Rp.slice (Rp.slice (Rp.int .i64))) x2.1,row v7 39 (Rp.slice (Rp.slice (Rp.int .i64))) x3.1] w) ⟨hF.ra rfl,hW⟩ (fun s o a w H L4 hR => ?_)
       obtain ⟨x7,rfl⟩ : ∃ x,x = s := ⟨s,rfl⟩
       obtain ⟨hF,hW⟩ := hR
       have hF : Fr 178 [] [(2,.bool false),(3,v6),(5,v7),(7,.int .i64 x4),(8,.int .i64 x7)] a := hF
       have hW : Stw ⟨Y,[],w0⟩ [(b1,[.int .i64 p0.1.1,v1,v2,v3,v4,.int .i64 p0.2.2.2.1,.int .i64 p0.2.2.2.2.1,.int .i64 p0.2.2.2.2.2.1,.int .i64 p0.2.2.2.2.2.2.1,.int .i64 p0.2.2.2.2.2.2.2.1,.int .i64 p0.2.2.2.2.2.2.2.2])] [row v6 39 (Rp.slice (Rp.slice (Rp.int .i64))) x2.1,row v7 39 (Rp.slice (Rp.slice (Rp.int .i64))) x3.1] w := hW
       rw [Da] at H
       refine vc tk 2 hF hW fun a w hF hW => ?_
       obtain ⟨v12,h15,hW⟩ := hW.exR F7
       have hW := hW.frontZ (i := 1) rfl rfl
       obtain ⟨v13,h16,hW⟩ := hW.exR F7
       refine vc tk 4 hF hW fun a w hF hW => ?_
       obtain ⟨x8,h17,H⟩ := Ad H
       obtain ⟨v14,h18,h19⟩ := Dm h16 h17
       have h20 : Hr v14 = [(v14.1)] := congrArg (fun q : List (List Int) => ([(v14.1)] : List Value)) h19
       refine ls hF hW rfl ((Ai (r := (Rp.vsl (Rp.vsl (Rp.int .i64)))) Sm hF rfl rfl (Ae 0 rfl) h18).q) (fun a w hF hW => ?_)
       refine ls hF hW rfl ((Af (y := (v14.1)) (j := 0) (i := x4) (enc := Hr) hF rfl rfl (Ae 0 rfl) h18 OC Wa (by rw [h20]; rfl)).q) (fun a w hF hW => ?_)
       have hW := hW.note (Sl.hide JL (congrArg (fun q : List (List Int) => q) h19) (hW.rowAt (k := 0) rfl h18 AN.here rfl))
       refine ls hF hW rfl ((AK (r := (Rp.slice (Rp.int .i64))) (l := x8) UJ rfl hF rfl (Kv 0 rfl)).q) (fun a w hF hW => ?_)
       refine Bc tk 3 hF hW fun a w hF hW => ?_
       refine AG hF rfl H (fun hF H => ?_) (fun hF H => ?_)
       ·
        refine Ay ?_
        refine Aa ?_
        obtain ⟨o5,G5,K5,L5⟩ := KC H
        refine Aj (fun a w => some (Sum.inl ()) = some o5 ∧ Fr 178 [] [(2,.bool false),(3,v6),(5,v7),(7,.int .i64 x4),(8,.int .i64 x7)] a ∧ Stw ⟨Y,[],w0⟩ [(b1,[.int .i64 p0.1.1,v1,v2,v3,v4,.int .i64 p0.2.2.2.1,.int .i64 p0.2.2.2.2.1,.int .i64 p0.2.2.2.2.2.1,.int .i64 p0.2.2.2.2.2.2.1,.int .i64 p0.2.2.2.2.2.2.2.1,.int .i64 p0.2.2.2.2.2.2.2.2])] [row v6 39 (Rp.slice (Rp.slice (Rp.int .i64))) x2.1,row v7 39 (Rp.slice (Rp.slice (Rp.int .i64))) x3.1] w) ?_ ?_
        ·
         have H := G5
         clear G5 K5
         refine vc tk 3 hF hW fun a w hF hW => ?_
         obtain ⟨v15,h21,hW⟩ := hW.exF JL
         refine BV hW MO (by kernel_rfl) ?_
         iterate 2 refine qs hF rfl ((Al hF rfl).q) (fun a hF => ?_)
         obtain ⟨x9,h22,H⟩ := Ad H
         obtain ⟨v16,h23,h24⟩ := Dm h15 h22
         have h25 : Hr v16 = [(v16.1)] := congrArg (fun q : List (List Int) => ([(v16.1)] : List Value)) h24
         refine qs hF rfl ((Ai (r := (Rp.vsl (Rp.vsl (Rp.int .i64)))) Sm hF rfl rfl (Ae 2 rfl) h23).q) (fun a hF => ?_)
         refine qs hF rfl ((Af (y := (v16.1)) (j := 0) (i := x4) (enc := Hr) hF rfl rfl (Ae 2 rfl) h23 OC Wa (by rw [h25]; rfl)).q) (fun a hF => ?_)
         refine qs hF rfl ((Al hF rfl).q) (fun a hF => ?_)
         obtain ⟨x10,h26,H⟩ := Ad H
         obtain ⟨v17,h27,h28⟩ := Dm (congrArg (fun q : List (List Int) => q) h24) h26
         have h29 : KJ v17 = [(v17.1)] := congrArg (fun q : List Int => ([(v17.1)] : List Value)) h28
         refine qs hF rfl ((Ai (r := (Rp.vsl (Rp.int .i64))) Uv hF rfl rfl (BL (Ae 2 rfl) h23 AN.here rfl) h27).q) (fun a hF => ?_)
         refine qs hF rfl ((Af (y := (v17.1)) (j := 0) (i := x7) (enc := KJ) hF rfl rfl (BL (Ae 2 rfl) h23 AN.here rfl) h27 Sz Wi (by rw [h29]; rfl)).q) (fun a hF => ?_)
         refine qs hF rfl ((AK (r := (Rp.int .i64)) (l := x10) GG rfl hF rfl (BL (BL (Ae 2 rfl) h23 AN.here rfl) h27 AN.here (congrArg (fun q : List Int => q) h28))).q) (fun a hF => ?_)
         iterate 2 refine qs hF rfl ((Al hF rfl).q) (fun a hF => ?_)
         obtain ⟨x11,h30,H⟩ := Ad H
         obtain ⟨v18,h31,h32⟩ := Dm h16 h30
         have h33 : Hr v18 = [(v18.1)] := congrArg (fun q : List (List Int) => ([(v18.1)] : List Value)) h32
         refine qs hF rfl ((Ai (r := (Rp.vsl (Rp.vsl (Rp.int .i64)))) Sm hF rfl rfl (Ae 1 rfl) h31).q) (fun a hF => ?_)
         refine qs hF rfl ((Af (y := (v18.1)) (j := 0) (i := x4) (enc := Hr) hF rfl rfl (Ae 1 rfl) h31 OC Wa (by rw [h33]; rfl)).q) (fun a hF => ?_)
         refine qs hF rfl ((Al hF rfl).q) (fun a hF => ?_)
         obtain ⟨x12,h34,H⟩ := Ad H
         obtain ⟨v19,h35,h36⟩ := Dm (congrArg (fun q : List (List Int) => q) h32) h34
         have h37 : KJ v19 = [(v19.1)] := congrArg (fun q : List Int => ([(v19.1)] : List Value)) h36
         refine qs hF rfl ((Ai (r := (Rp.vsl (Rp.int .i64))) Uv hF rfl rfl (BL (Ae 1 rfl) h31 AN.here rfl) h35).q) (fun a hF => ?_)
         refine qs hF rfl ((Af (y := (v19.1)) (j := 0) (i := x7) (enc := KJ) hF rfl rfl (BL (Ae 1 rfl) h31 AN.here rfl) h35 Sz Wi (by rw [h37]; rfl)).q) (fun a hF => ?_)
         refine qs hF rfl ((AK (r := (Rp.int .i64)) (l := x12) GG rfl hF rfl (BL (BL (Ae 1 rfl) h31 AN.here rfl) h35 AN.here (congrArg (fun q : List Int => q) h36))).q) (fun a hF => ?_)
         refine qs hF rfl ((KH hF rfl rfl).q) (fun a hF => ?_)
         refine AX (fun w hW => ?_)
         have hW := hW.note (Sl.hide JL (congrArg (fun q : List (List Int) => q) h24) (hW.rowAt (k := 2) rfl h23 AN.here rfl))
         have hW := hW.note (Sl.at_ (hW.rowAt (k := 3) rfl h23 AN.here rfl) h27 AN.here (congrArg (fun q : List Int => q) h28))
         have hW := hW.note (Sl.hide JL (congrArg (fun q : List (List Int) => q) h32) (hW.rowAt (k := 3) rfl h31 AN.here rfl))
         have hW := hW.note (Sl.at_ (hW.rowAt (k := 4) rfl h31 AN.here rfl) h35 AN.here (congrArg (fun q : List Int => q) h36))
         refine Aa ?_
         refine AG hF rfl H (fun hF H => ?_) (fun hF H => ?_)
         ·
          refine vc tk 5 hF hW fun a w hF hW => ?_
          refine Ah ?_
          refine Ak ?_
          refine Az ?_
          iterate 2 refine Ak ?_
          iterate 2 refine Az ?_
          iterate 2 refine Ak ?_
          refine Az ?_
          refine Ak ?_
          have H := L5 _ H
          have H := L4 _ H
          have H := L3 _ H
          have H := L2 _ H
          have H := L1 _ H
          have H := Option.some.inj H
          subst H
          refine Aw (.inl rfl) hF hW rfl (Ag hF rfl) ?_
          exact ⟨rfl,hW.done⟩
         ·
          refine D2 tk 8 hF hW fun a w hF hW => ?_
          have hW := hW.frontZ (i := 6) rfl rfl
          have hW := hW.hideR F7 h15
          have hW := hW.frontZ (i := 6) rfl rfl
          have hW := hW.hideR F7 h16
          have hW := hW.frontZ (i := 1) rfl rfl
          have hW := hW.sub (M' := [(b1,[.int .i64 p0.1.1,v1,v2,v3,v4,.int .i64 p0.2.2.2.1,.int .i64 p0.2.2.2.2.1,.int .i64 p0.2.2.2.2.2.1,.int .i64 p0.2.2.2.2.2.2.1,.int .i64 p0.2.2.2.2.2.2.2.1,.int .i64 p0.2.2.2.2.2.2.2.2])]) (Z' := [row v6 39 (Rp.slice (Rp.slice (Rp.int .i64))) x2.1,row v7 39 (Rp.slice (Rp.slice (Rp.int .i64))) x3.1]) (List.Sublist.refl _) (List.Sublist.cons_cons _ (List.Sublist.cons_cons _ (List.nil_sublist _)))
          refine AD H (fun s a w => Fr 178 [] [(2,.bool false),(3,v6),(5,v7),(7,.int .i64 x4),(8,.int .i64 x7),(9,.int .i64 s)] a ∧ Stw ⟨Y,[],w0⟩ [(b1,[.int .i64 p0.1.1,v1,v2,v3,v4,.int .i64 p0.2.2.2.1,.int .i64 p0.2.2.2.2.1,.int .i64 p0.2.2.2.2.2.1,.int .i64 p0.2.2.2.2.2.2.1,.int .i64 p0.2.2.2.2.2.2.2.1,.int .i64 p0.2.2.2.2.2.2.2.2])] [row v6 39 (Rp.slice (Rp.slice (Rp.int .i64))) x2.1,row v7 39 (Rp.slice (Rp.slice (Rp.int .i64))) x3.1] w) ⟨hF.ra rfl,hW⟩ (fun s o a w H L6 hR => ?_)
          obtain ⟨x13,rfl⟩ : ∃ x,x = s := ⟨s,rfl⟩
          obtain ⟨hF,hW⟩ := hR
          have hF : Fr 178 [] [(2,.bool false),(3,v6),(5,v7),(7,.int .i64 x4),(8,.int .i64 x7),(9,.int .i64 x13)] a := hF
          have hW : Stw ⟨Y,[],w0⟩ [(b1,[.int .i64 p0.1.1,v1,v2,v3,v4,.int .i64 p0.2.2.2.1,.int .i64 p0.2.2.2.2.1,.int .i64 p0.2.2.2.2.2.1,.int .i64 p0.2.2.2.2.2.2.1,.int .i64 p0.2.2.2.2.2.2.2.1,.int .i64 p0.2.2.2.2.2.2.2.2])] [row v6 39 (Rp.slice (Rp.slice (Rp.int .i64))) x2.1,row v7 39 (Rp.slice (Rp.slice (Rp.int .i64))) x3.1] w := hW
          rw [C8] at H
          refine vc tk 2 hF hW fun a w hF hW => ?_
          obtain ⟨v20,h38,hW⟩ := hW.exR F7
          have hW := hW.frontZ (i := 1) rfl rfl
          obtain ⟨v21,h39,hW⟩ := hW.exR F7
          refine vc tk 4 hF hW fun a w hF hW => ?_
          obtain ⟨x14,h40,H⟩ := Ad H
          obtain ⟨v22,h41,h42⟩ := Dm h39 h40
          have h43 : Hr v22 = [(v22.1)] := congrArg (fun q : List (List Int) => ([(v22.1)] : List Value)) h42
          refine ls hF hW rfl ((Ai (r := (Rp.vsl (Rp.vsl (Rp.int .i64)))) Sm hF rfl rfl (Ae 0 rfl) h41).q) (fun a w hF hW => ?_)
          refine ls hF hW rfl ((Af (y := (v22.1)) (j := 0) (i := x4) (enc := Hr) hF rfl rfl (Ae 0 rfl) h41 OC Wa (by rw [h43]; rfl)).q) (fun a w hF hW => ?_)
          have hW := hW.note (Sl.hide JL (congrArg (fun q : List (List Int) => q) h42) (hW.rowAt (k := 0) rfl h41 AN.here rfl))
          refine ls hF hW rfl ((Al hF rfl).q) (fun a w hF hW => ?_)
          obtain ⟨x15,h44,H⟩ := Ad H
          obtain ⟨v23,h45,hW⟩ := hW.exF JL
          obtain ⟨v24,h46,h47⟩ := Dm h45 h44
          have h48 : KJ v24 = [(v24.1)] := congrArg (fun q : List Int => ([(v24.1)] : List Value)) h47
          refine ls hF hW rfl ((Ai (r := (Rp.vsl (Rp.int .i64))) Uv hF rfl rfl (Kv 0 rfl) h46).q) (fun a w hF hW => ?_)
          refine ls hF hW rfl ((Af (y := (v24.1)) (j := 0) (i := x7) (enc := KJ) hF rfl rfl (Kv 0 rfl) h46 Sz Wi (by rw [h48]; rfl)).q) (fun a w hF hW => ?_)
          have hW := hW.note (Sl.at_ (hW.item (i := 0) rfl) h46 AN.here (congrArg (fun q : List Int => q) h47))
          refine ls hF hW rfl ((AK (r := (Rp.int .i64)) (l := x15) GG rfl hF rfl (Kv 0 rfl)).q) (fun a w hF hW => ?_)
          refine Bc tk 3 hF hW fun a w hF hW => ?_
          refine AG hF rfl H (fun hF H => ?_) (fun hF H => ?_)
          ·
           refine D2 tk 5 hF hW fun a w hF hW => ?_
           refine BV hW MO (by kernel_rfl) ?_
           iterate 2 refine qs hF rfl ((Al hF rfl).q) (fun a hF => ?_)
           obtain ⟨x16,h49,H⟩ := Ad H
           obtain ⟨v25,h50,h51⟩ := Dm h38 h49
           have h52 : Hr v25 = [(v25.1)] := congrArg (fun q : List (List Int) => ([(v25.1)] : List Value)) h51
           refine qs hF rfl ((Ai (r := (Rp.vsl (Rp.vsl (Rp.int .i64)))) Sm hF rfl rfl (Ae 3 rfl) h50).q) (fun a hF => ?_)
           refine qs hF rfl ((Af (y := (v25.1)) (j := 0) (i := x4) (enc := Hr) hF rfl rfl (Ae 3 rfl) h50 OC Wa (by rw [h52]; rfl)).q) (fun a hF => ?_)
           refine qs hF rfl ((Al hF rfl).q) (fun a hF => ?_)
           obtain ⟨x17,h53,H⟩ := Ad H
           obtain ⟨v26,h54,h55⟩ := Dm (congrArg (fun q : List (List Int) => q) h51) h53
           have h56 : KJ v26 = [(v26.1)] := congrArg (fun q : List Int => ([(v26.1)] : List Value)) h55
           refine qs hF rfl ((Ai (r := (Rp.vsl (Rp.int .i64))) Uv hF rfl rfl (BL (Ae 3 rfl) h50 AN.here rfl) h54).q) (fun a hF => ?_)
           refine qs hF rfl ((Af (y := (v26.1)) (j := 0) (i := x7) (enc := KJ) hF rfl rfl (BL (Ae 3 rfl) h50 AN.here rfl) h54 Sz Wi (by rw [h56]; rfl)).q) (fun a hF => ?_)
           refine qs hF rfl ((Al hF rfl).q) (fun a hF => ?_)
           obtain ⟨x18,h57,H⟩ := Ad H
           refine qs hF rfl ((Ai (r := (Rp.int .i64)) Do hF rfl rfl (BL (BL (Ae 3 rfl) h50 AN.here rfl) h54 AN.here (congrArg (fun q : List Int => q) h55)) h57).q) (fun a hF => ?_)
           refine qs hF rfl ((Af (y := Value.int .i64 x18) (j := 0) (i := x13) hF rfl rfl (BL (BL (Ae 3 rfl) h50 AN.here rfl) h54 AN.here (congrArg (fun q : List Int => q) h55)) h57 Fl.int.to T3 rfl).q) (fun a hF => ?_)
           iterate 2 refine qs hF rfl ((Al hF rfl).q) (fun a hF => ?_)
           obtain ⟨x19,h58,H⟩ := Ad H
           obtain ⟨v27,h59,h60⟩ := Dm h39 h58
           have h61 : Hr v27 = [(v27.1)] := congrArg (fun q : List (List Int) => ([(v27.1)] : List Value)) h60
           refine qs hF rfl ((Ai (r := (Rp.vsl (Rp.vsl (Rp.int .i64)))) Sm hF rfl rfl (Ae 2 rfl) h59).q) (fun a hF => ?_)
           refine qs hF rfl ((Af (y := (v27.1)) (j := 0) (i := x4) (enc := Hr) hF rfl rfl (Ae 2 rfl) h59 OC Wa (by rw [h61]; rfl)).q) (fun a hF => ?_)
           refine qs hF rfl ((Al hF rfl).q) (fun a hF => ?_)
           obtain ⟨x20,h62,H⟩ := Ad H
           obtain ⟨v28,h63,h64⟩ := Dm (congrArg (fun q : List (List Int) => q) h60) h62
           have h65 : KJ v28 = [(v28.1)] := congrArg (fun q : List Int => ([(v28.1)] : List Value)) h64
           refine qs hF rfl ((Ai (r := (Rp.vsl (Rp.int .i64))) Uv hF rfl rfl (BL (Ae 2 rfl) h59 AN.here rfl) h63).q) (fun a hF => ?_)
           refine qs hF rfl ((Af (y := (v28.1)) (j := 0) (i := x7) (enc := KJ) hF rfl rfl (BL (Ae 2 rfl) h59 AN.here rfl) h63 Sz Wi (by rw [h65]; rfl)).q) (fun a hF => ?_)
           refine qs hF rfl ((Al hF rfl).q) (fun a hF => ?_)
           obtain ⟨x21,h66,H⟩ := Ad H
           refine qs hF rfl ((Ai (r := (Rp.int .i64)) Do hF rfl rfl (BL (BL (Ae 2 rfl) h59 AN.here rfl) h63 AN.here (congrArg (fun q : List Int => q) h64)) h66).q) (fun a hF => ?_)
           refine qs hF rfl ((Af (y := Value.int .i64 x21) (j := 0) (i := x13) hF rfl rfl (BL (BL (Ae 2 rfl) h59 AN.here rfl) h63 AN.here (congrArg (fun q : List Int => q) h64)) h66 Fl.int.to T3 rfl).q) (fun a hF => ?_)
           refine qs hF rfl ((KH hF rfl rfl).q) (fun a hF => ?_)
           refine AX (fun w hW => ?_)
           have hW := hW.note (Sl.hide JL (congrArg (fun q : List (List Int) => q) h51) (hW.rowAt (k := 3) rfl h50 AN.here rfl))
           have hW := hW.note (Sl.at_ (hW.rowAt (k := 4) rfl h50 AN.here rfl) h54 AN.here (congrArg (fun q : List Int => q) h55))
           have hW := hW.note (Sl.hide JL (congrArg (fun q : List (List Int) => q) h60) (hW.rowAt (k := 4) rfl h59 AN.here rfl))
           have hW := hW.note (Sl.at_ (hW.rowAt (k := 5) rfl h59 AN.here rfl) h63 AN.here (congrArg (fun q : List Int => q) h64))
           refine Aa ?_
           refine AG hF rfl H (fun hF H => ?_) (fun hF H => ?_)
           ·
            refine vc tk 5 hF hW fun a w hF hW => ?_
            refine Ah ?_
            refine Az ?_
            iterate 2 refine Ak ?_
            iterate 2 refine Az ?_
            iterate 2 refine Ak ?_
            iterate 2 refine Az ?_
            iterate 2 refine Ak ?_
            refine Az ?_
            refine Ak ?_
            have H := L6 _ H
            have H := L5 _ H
            have H := L4 _ H
            have H := L3 _ H
            have H := L2 _ H
            have H := L1 _ H
            have H := Option.some.inj H
            subst H
            refine Aw (.inl rfl) hF hW rfl (Ag hF rfl) ?_
            exact ⟨rfl,hW.done⟩
           ·
            refine Ay ?_
            refine An ?_
            refine vn tk 5 hF hW fun a w hF hW => ?_
            refine Aa ?_
            have hW := hW.frontZ (i := 7) rfl rfl
            have hW := hW.hideR F7 h38
            have hW := hW.frontZ (i := 7) rfl rfl
            have hW := hW.hideR F7 h39
            have hW := hW.frontZ (i := 1) rfl rfl
            have hW := hW.sub (M' := [(b1,[.int .i64 p0.1.1,v1,v2,v3,v4,.int .i64 p0.2.2.2.1,.int .i64 p0.2.2.2.2.1,.int .i64 p0.2.2.2.2.2.1,.int .i64 p0.2.2.2.2.2.2.1,.int .i64 p0.2.2.2.2.2.2.2.1,.int .i64 p0.2.2.2.2.2.2.2.2])]) (Z' := [row v6 39 (Rp.slice (Rp.slice (Rp.int .i64))) x2.1,row v7 39 (Rp.slice (Rp.slice (Rp.int .i64))) x3.1]) (List.Sublist.refl _) (List.Sublist.cons_cons _ (List.Sublist.cons_cons _ (List.nil_sublist _)))
            exact ⟨_,H,hF.ra rfl,hW⟩
          ·
           refine AE ?_
           iterate 2 refine AQ ?_
           refine AF ?_
           refine An ?_
           refine Aa ?_
           have hW := hW.frontZ (i := 3) rfl rfl
           have hW := hW.hideR F7 h38
           have hW := hW.frontZ (i := 3) rfl rfl
           have hW := hW.hideR F7 h39
           have hW := hW.frontZ (i := 1) rfl rfl
           have hW := hW.sub (M' := [(b1,[.int .i64 p0.1.1,v1,v2,v3,v4,.int .i64 p0.2.2.2.1,.int .i64 p0.2.2.2.2.1,.int .i64 p0.2.2.2.2.2.1,.int .i64 p0.2.2.2.2.2.2.1,.int .i64 p0.2.2.2.2.2.2.2.1,.int .i64 p0.2.2.2.2.2.2.2.2])]) (Z' := [row v6 39 (Rp.slice (Rp.slice (Rp.int .i64))) x2.1,row v7 39 (Rp.slice (Rp.slice (Rp.int .i64))) x3.1]) (List.Sublist.refl _) (List.Sublist.cons_cons _ (List.Sublist.cons_cons _ (List.nil_sublist _)))
           have H := L6 _ H
           exact ⟨H,hF.ra rfl,hW⟩
        rintro a w ⟨hj,hF,hW⟩
        have H := K5 _ hj
        clear hj G5 K5 L5
        refine vc tk 5 hF hW fun a w hF hW => ?_
        refine Aa ?_
        have hW := hW.frontZ (i := 1) rfl rfl
        have hW := hW.frontZ (i := 1) rfl rfl
        exact ⟨_,H,hF.ra rfl,hW⟩
       ·
        refine AE ?_
        iterate 2 refine AQ ?_
        refine AF ?_
        refine An ?_
        refine Aa ?_
        have hW := hW.frontZ (i := 2) rfl rfl
        have hW := hW.hideR F7 h15
        have hW := hW.frontZ (i := 2) rfl rfl
        have hW := hW.hideR F7 h16
        have hW := hW.frontZ (i := 1) rfl rfl
        have hW := hW.sub (M' := [(b1,[.int .i64 p0.1.1,v1,v2,v3,v4,.int .i64 p0.2.2.2.1,.int .i64 p0.2.2.2.2.1,.int .i64 p0.2.2.2.2.2.1,.int .i64 p0.2.2.2.2.2.2.1,.int .i64 p0.2.2.2.2.2.2.2.1,.int .i64 p0.2.2.2.2.2.2.2.2])]) (Z' := [row v6 39 (Rp.slice (Rp.slice (Rp.int .i64))) x2.1,row v7 39 (Rp.slice (Rp.slice (Rp.int .i64))) x3.1]) (List.Sublist.refl _) (List.Sublist.cons_cons _ (List.Sublist.cons_cons _ (List.nil_sublist _)))
        have H := L4 _ H
        exact ⟨H,hF.ra rfl,hW⟩
     rintro a w ⟨hj,hF,hW⟩
     have H := K3 _ hj
     clear hj G3 K3 L3
     refine vc tk 5 hF hW fun a w hF hW => ?_
     refine Aa ?_
     have hW := hW.frontZ (i := 1) rfl rfl
     have hW := hW.frontZ (i := 1) rfl rfl
     exact ⟨_,H,hF.ra rfl,hW⟩
    ·
     refine AE ?_
     iterate 2 refine AQ ?_
     refine AF ?_
     refine Aa ?_
     have hW := hW.sub (M' := [(b1,[.int .i64 p0.1.1,v1,v2,v3,v4,.int .i64 p0.2.2.2.1,.int .i64 p0.2.2.2.2.1,.int .i64 p0.2.2.2.2.2.1,.int .i64 p0.2.2.2.2.2.2.1,.int .i64 p0.2.2.2.2.2.2.2.1,.int .i64 p0.2.2.2.2.2.2.2.2])]) (Z' := []) (List.Sublist.refl _) (List.nil_sublist _)
     have H := L2 _ H
     exact ⟨H,hF.ra rfl,hW⟩
   rintro a w ⟨hj,hF,hW⟩
   have H := K1 _ hj
   clear hj G1 K1 L1
   refine vc tk 8 hF hW fun a w hF hW => ?_
   refine ls hF hW rfl (Av (v := Value.tuple #[]) hF H8 rfl (fun w hW => J7 any w 0 255 _ rfl)) (fun a w hF hW => ?_)
   refine Bc tk 5 hF hW fun a w hF hW => ?_
   refine ls hF hW rfl (Av (v := Value.tuple #[]) hF H9 rfl (fun w hW => J5 any w _ rfl)) (fun a w hF hW => ?_)
   refine Bc tk 5 hF hW fun a w hF hW => ?_
   refine ls hF hW rfl (Av (v := Value.tuple #[]) hF gO rfl (fun w hW => Ko any w 0 255 _ rfl)) (fun a w hF hW => ?_)
   refine Bc tk 5 hF hW fun a w hF hW => ?_
   refine ls hF hW rfl ((DV (v := Value.agg #[.int .i64 2,.int .i64 0,.int .i64 0,.int .i64 0,.int .i64 0,.int .i64 0,.int .i64 0,.int .i64 0,.int .i64 0,.slice none 0 0]) fU hF rfl rfl rfl).q) (fun a w hF hW => ?_)
   refine ls hF hW rfl (Av (v := Value.tuple #[]) hF gA rfl (fun w hW => KX any w (Value.slice none 0 0) 0 (2,0,0,0,0,0,0,0,0,([] : List (Int × (Int × (Int × (Int × Int × Int × Int) × (Int × Int × Int × Int)) × (List (Int × Int × Int))) × Bool))) 255 _ rfl Sl.nil)) (fun a w hF hW => ?_)
   refine Bc tk 5 hF hW fun a w hF hW => ?_
   refine ls hF hW rfl (Av (v := Value.tuple #[.slice none 0 0,.slice none 0 0]) hF iL rfl (fun w hW => J8 any w _ rfl)) (fun a w hF hW => ?_)
   refine ls hF hW rfl ((Al hF rfl).q) (fun a w hF hW => ?_)
   iterate 2 refine ls hF hW rfl ((A4 (v := Value.slice none 0 0) hF rfl rfl).q) (fun a w hF hW => ?_)
   refine Bc tk 4 hF hW fun a w hF hW => ?_
   refine Aj (fun a w => Fr 178 [] [(2,.bool (decide ((w64 ((w64 ((([] : List (Int × Int × Int × Int × Int × Int × Int × Int × Int × (List (Int × (Int × (Int × (Int × Int × Int × Int) × (Int × Int × Int × Int)) × (List (Int × Int × Int))) × Bool)))).length : Int) + (([] : List (Int × Int × Int × Int × Int × Int)).length : Int))) + (([] : List (Int × Int × Int × Int)).length : Int))) = 0) && (decide ((0 : Int) = 0 ∧ (0 : Int) = 0 ∧ false = false ∧ (0 : Int) = 0 ∧ (0 : Int) = 0 ∧ (0 : Int) = 0 ∧ false = false ∧ false = false ∧ (0 : Int) = 0) && (decide ((([] : List (Int × Int × List Int)).length : Int) = 0) && Fk))))] a ∧ Stw ⟨Y,[],w0⟩ [(b1,[.int .i64 p0.1.1,v1,v2,v3,v4,.int .i64 p0.2.2.2.1,.int .i64 p0.2.2.2.2.1,.int .i64 p0.2.2.2.2.2.1,.int .i64 p0.2.2.2.2.2.2.1,.int .i64 p0.2.2.2.2.2.2.2.1,.int .i64 p0.2.2.2.2.2.2.2.2])] [] w) ?_ ?_
   ·
    refine vc tk 2 hF hW fun a w hF hW => ?_
    refine ls hF hW rfl (Av (v := Value.int .i64 6) hF ZA rfl (fun w hW => Ea any w _ rfl)) (fun a w hF hW => ?_)
    refine ls hF hW rfl ((IR hF rfl rfl).q) (fun a w hF hW => ?_)
    rw [show decide ((6 : Int) = 6) = true from by decide] at hF
    refine vl tk 2 hF hW fun a w hF hW => ?_
    refine Fq (Ac hF rfl rfl rfl rfl) ?_
    refine ls hF hW rfl (Av (v := Value.int .i64 16) hF gZ rfl (fun w hW => JD any w 0 0 255 _ rfl)) (fun a w hF hW => ?_)
    refine BC hF hW (Ac hF rfl rfl rfl rfl) rfl (ze rfl) ((IR hF rfl rfl).q) (fun a w hF hW => ?_)
    rw [show decide ((16 : Int) = 16) = true from by decide] at hF
    refine vl tk 3 hF hW fun a w hF hW => ?_
    refine BC hF hW (Ac hF rfl rfl rfl rfl) rfl (ze rfl) ((AK (r := eQ) (l := ([] : List (Int × Int × Int × Int × Int × Int × Int × Int × Int × (List (Int × (Int × (Int × (Int × Int × Int × Int) × (Int × Int × Int × Int)) × (List (Int × Int × Int))) × Bool))))) d8 rfl hF rfl Kt).q) (fun a w hF hW => ?_)
    refine BC hF hW (Ac hF rfl rfl rfl rfl) rfl (ze rfl) ((Al hF rfl).q) (fun a w hF hW => ?_)
    refine BC hF hW (Ac hF rfl rfl rfl rfl) rfl (ze rfl) ((AK (r := hG) (l := ([] : List (Int × Int × Int × Int × Int × Int))) cK rfl hF rfl Kt).q) (fun a w hF hW => ?_)
    refine vl tk 2 hF hW fun a w hF hW => ?_
    refine Fq (Ac hF rfl rfl rfl rfl) ?_
    refine ls hF hW rfl (Av (v := Value.slice none 0 0) hF iH rfl (fun w hW => Jw any w _ rfl)) (fun a w hF hW => ?_)
    refine BC hF hW (Ac hF rfl rfl rfl rfl) rfl (ze rfl) ((AK (r := dE) (l := ([] : List (Int × Int × Int × Int))) aT rfl hF rfl Kt).q) (fun a w hF hW => ?_)
    refine vl tk 4 hF hW fun a w hF hW => ?_
    rcases bxq (decide ((w64 ((w64 ((([] : List (Int × Int × Int × Int × Int × Int × Int × Int × Int × (List (Int × (Int × (Int × (Int × Int × Int × Int) × (Int × Int × Int × Int)) × (List (Int × Int × Int))) × Bool)))).length : Int) + (([] : List (Int × Int × Int × Int × Int × Int)).length : Int))) + (([] : List (Int × Int × Int × Int)).length : Int))) = 0)) with hb0 | hb0
    ·
     rw [hb0] at hF
     refine BC hF hW (Ac hF rfl rfl rfl rfl) rfl (ze rfl) ((Al hF rfl).q) (fun a w hF hW => ?_)
     refine Fq (Ac hF rfl rfl rfl rfl) ?_
     refine ls hF hW rfl (Av (v := Value.agg #[.bool false,.int .i64 0,.int .i64 0,.int .i64 0]) hF hH rfl (fun w hW => Iy any w 0 _ rfl)) (fun a w hF hW => ?_)
     refine vl tk 5 hF hW fun a w hF hW => ?_
     refine Fq (Ac hF rfl rfl rfl rfl) ?_
     refine ls hF hW rfl (Av (v := Value.agg #[.int .i64 0,.int .i64 0,.bool false,.int .i64 0,.int .i64 0,.int .i64 0,.bool false,.bool false,.int .i64 0]) hF YH rfl (fun w hW => Ke any w _ rfl)) (fun a w hF hW => ?_)
     refine BC hF hW (Ac hF rfl rfl rfl rfl) rfl (ze rfl) ((DV (v := Value.agg #[.int .i64 0,.int .i64 0,.bool false,.int .i64 0,.int .i64 0,.int .i64 0,.bool false,.bool false,.int .i64 0]) eS hF rfl rfl rfl).q) (fun a w hF hW => ?_)
     refine BC hF hW (Ac hF rfl rfl rfl rfl) rfl (ze rfl) ((V5 (t := decide ((0 : Int) = 0 ∧ (0 : Int) = 0 ∧ false = false ∧ (0 : Int) = 0 ∧ (0 : Int) = 0 ∧ (0 : Int) = 0 ∧ false = false ∧ false = false ∧ (0 : Int) = 0)) g9 (fJ _ _ _ _ _ _ _ _ _ _ _ _ _ _ _ _ _ _) hF rfl rfl).q) (fun a w hF hW => ?_)
     refine vl tk 2 hF hW fun a w hF hW => ?_
     rcases bxq (decide ((0 : Int) = 0 ∧ (0 : Int) = 0 ∧ false = false ∧ (0 : Int) = 0 ∧ (0 : Int) = 0 ∧ (0 : Int) = 0 ∧ false = false ∧ false = false ∧ (0 : Int) = 0)) with hb1 | hb1
     ·
      rw [hb1] at hF
      refine BC hF hW (Ac hF rfl rfl rfl rfl) rfl (ze rfl) ((Al hF rfl).q) (fun a w hF hW => ?_)
      refine Fq (Ac hF rfl rfl rfl rfl) ?_
      refine ls hF hW rfl (Av (v := Value.agg #[.slice none 0 0,.slice none 0 0,.int .i64 0,.int .i64 0,.int .i64 0,.int .i64 0]) hF fP rfl (fun w hW => KY any w _ rfl)) (fun a w hF hW => ?_)
      refine BC hF hW (Ac hF rfl rfl rfl rfl) rfl (ze rfl) ((NB (v := Value.slice none 0 0) Yr rfl rfl rfl g8 hF rfl rfl).q) (fun a w hF hW => ?_)
      refine BC hF hW (Ac hF rfl rfl rfl rfl) rfl (ze rfl) ((AK (r := cD) (l := ([] : List (Int × Int × List Int))) aQ rfl hF rfl Kt).q) (fun a w hF hW => ?_)
      refine vl tk 3 hF hW fun a w hF hW => ?_
      rcases bxq (decide ((([] : List (Int × Int × List Int)).length : Int) = 0)) with hb2 | hb2
      ·
       rw [hb2] at hF
       refine Fq (Ac hF rfl rfl rfl rfl) ?_
       refine ls hF hW rfl (Av (v := Value.bool Fk) hF H5 rfl (fun w hW => J0 any w _ rfl)) (fun a w hF hW => ?_)
       refine vl tk 3 hF hW fun a w hF hW => ?_
       refine Aa ?_
       exact ⟨hF.re ⟨(Di (by try rw [hb0]; try rw [hb1]; try rw [hb2]; all_goals simp only [Dl])),trivial⟩,hW⟩
      ·
       rw [hb2] at hF
       refine vl tk 4 hF hW fun a w hF hW => ?_
       refine Aa ?_
       exact ⟨hF.re ⟨(Di (by try rw [hb0]; try rw [hb1]; try rw [hb2]; all_goals simp only [Dl])),trivial⟩,hW⟩
     ·
      rw [hb1] at hF
      refine vl tk 11 hF hW fun a w hF hW => ?_
      refine Aa ?_
      exact ⟨hF.re ⟨(Di (by try rw [hb0]; try rw [hb1]; all_goals simp only [Dl])),trivial⟩,hW⟩
    ·
     rw [hb0] at hF
     refine vl tk 23 hF hW fun a w hF hW => ?_
     refine Aa ?_
     exact ⟨hF.re ⟨(Di (by try rw [hb0]; all_goals simp only [Dl])),trivial⟩,hW⟩
   rintro a w ⟨hF,hW⟩
   refine Ah ?_
   have H := Option.some.inj H
   subst H
   refine Aw (.inl rfl) hF hW rfl (Ag hF rfl) ?_
   exact ⟨rfl,hW.done⟩
end
end Go.Proofs.YtbiekjhlijdjbaaGreat
