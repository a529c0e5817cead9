/- The functions of layer 31, Qd. Conditions: none. -/
import Derived.Test.YtkhiflmalgkjiaaGreateA2
set_option linter.unusedVariables false
set_option linter.unusedSimpArgs false
open Go Go.RowKit
namespace Go.Proofs.YtkhiflmalgkjiaaGreat
noncomputable section
set_option maxRecDepth 20000
set_option maxHeartbeats 1600000
theorem H9 : Has Tryz.prog 9 := Js Tryz.func9
abbrev pB (a0 : Nat) (a1 : Tr27) (a2 : Tr38) (a3 : Value) (a4 : Nat) (a5 : Nat) (a6 : Value) (a7 : Value) : List (Nat × List Value) := [(a0,[Jint a1.un.1,Jint a2.un.1,Jint a2.un.2.1,Jint a2.un.2.2.1,a3,Jint a1.un.2.2.1,Jint a1.un.2.2.2.1,.slice none 0 0]),(a4,[Jint 0,Jint 0,Jint 0,Jint 0,.slice none 0 0,Jint 0,Jint 0,.slice none 0 0]),(a5,[Jint a1.un.1,Jint a1.un.2.1.un.1,Jint a1.un.2.1.un.2.1,Jint a1.un.2.1.un.2.2.1,a6,Jint a1.un.2.2.1,Jint a1.un.2.2.2.1,a7])]
abbrev pN (a0 : Nat) (a1 : Nat) (a2 : Tr27) (a3 : Value) (a4 : Value) : List (Nat × List Value) := [(a0,[Jint 0,Jint 0,Jint 0,Jint 0,.slice none 0 0,Jint 0,Jint 0,.slice none 0 0]),(a1,[Jint a2.un.1,Jint a2.un.2.1.un.1,Jint a2.un.2.1.un.2.1,Jint a2.un.2.1.un.2.2.1,a3,Jint a2.un.2.2.1,Jint a2.un.2.2.2.1,a4])]
abbrev qO (a0 : Nat) (a1 : Nat) (a2 : Nat) (a3 : Tr27) (a4 : Value) (a5 : Value) : List (Nat × List Value) := [(a0,[Jint 0,Jint 0,Jint 0,Jint 0,.slice none 0 0,Jint 0,Jint 0,.slice none 0 0]),(a1,[Jint 0,Jint 0,Jint 0,Jint 0,.slice none 0 0,Jint 0,Jint 0,.slice none 0 0]),(a2,[Jint a3.un.1,Jint a3.un.2.1.un.1,Jint a3.un.2.1.un.2.1,Jint a3.un.2.1.un.2.2.1,a4,Jint a3.un.2.2.1,Jint a3.un.2.2.2.1,a5])]
abbrev Oc (a0 : Nat) (a1 : Tr27) (a2 : Tr38) (a3 : Value) (a4 : Value) (a5 : Nat) (a6 : Nat) (a7 : Value) (a8 : Value) : List (Nat × List Value) := [(a0,[Jint a1.un.1,Jint a2.un.1,Jint a2.un.2.1,Jint a2.un.2.2.1,a3,Jint a1.un.2.2.1,Jint a1.un.2.2.2.1,a4]),(a5,[Jint 0,Jint 0,Jint 0,Jint 0,.slice none 0 0,Jint 0,Jint 0,.slice none 0 0]),(a6,[Jint a1.un.1,Jint a1.un.2.1.un.1,Jint a1.un.2.1.un.2.1,Jint a1.un.2.1.un.2.2.1,a7,Jint a1.un.2.2.1,Jint a1.un.2.2.2.1,a8])]
abbrev dD (a0 : Tr27) (a1 : Tr38) (a2 : Value) (a3 : Value) : List Value := [Jint a0.un.1,Jint a1.un.1,Jint a1.un.2.1,Jint a1.un.2.2.1,a2,Jint a0.un.2.2.1,Jint a0.un.2.2.2.1,a3]
def Er (fRec : Tr27 → Option Tr41) (p0 : Tr27) : (Int × List Tr41) → Option ((Int × List Tr41) ⊕ (List Tr41))
  | (x3,x4) => (if x3 < (p0.un.2.2.2.2.length : Int) then (ix p0.un.2.2.2.2 x3).bind fun x5 => (fRec (Tr27.of (x5.un.1,f24 x5.un.2.1,x5.un.2.2.1,x5.un.2.2.2.1,x5.un.2.2.2.2))).bind fun x6 => (HT x4 ([Tr41.of (x6.un.1,f38 x6.un.2.1,x6.un.2.2.1,x6.un.2.2.2.1,x6.un.2.2.2.2)] : List Tr41)).bind fun x7 => some (.inl (w64 (x3 + 1),x7)) else some (.inr x4))
def FH (fRec : Tr27 → Option Tr41) (p0 : Tr27) : Option Tr41 := (PA (f24 p0.un.2.1)).bind fun x1 => (Ah (Er fRec p0) (0,[])).bind fun x2 => some (Tr41.of (p0.un.1,x1,p0.un.2.2.1,p0.un.2.2.2.1,x2))
def E3 : Nat → Tr27 → Option Tr41
  | 0 => fun _ => none
  | n + 1 => FH (E3 n)
def PO (p0 : Tr27) : Option Tr41 := Hc fun n => E3 n p0
theorem UY (fRec : Tr27 → Option Tr41) (ih : ∀ (Y : Nat → Prop) (w0 : World) (v1 : Value) (v2 : Value) (p0 : Tr27) (r : Tr41) (H : fRec p0 = some r) (h_v1 : Sl w0 (NX []) Ud v1 p0.un.2.1.un.2.2.2) (h_v2 : Sl w0 (NX []) Xw v2 p0.un.2.2.2.2),ca_ 9 #[.agg #[Jint p0.un.1,Jint p0.un.2.1.un.1,Jint p0.un.2.1.un.2.1,Jint p0.un.2.1.un.2.2.1,v1,Jint p0.un.2.2.1,Jint p0.un.2.2.2.1,v2]] w0 fun e w' => ∃ x : Value × Value,e = .returned (.agg #[Jint r.un.1,Jint r.un.2.1.un.1,Jint r.un.2.1.un.2.1,Jint r.un.2.1.un.2.2.1,x.1,Jint r.un.2.2.1,Jint r.un.2.2.2.1,x.2]) ∧ sy Y w0 [] [frz (x.1) Lv r.un.2.1.un.2.2.2,frz (x.2) LD r.un.2.2.2.2] w') (Y : Nat → Prop) (w0 : World) (v1 : Value) (v2 : Value) (p0 : Tr27) (r : Tr41) (H : FH fRec p0 = some r) (h_v1 : Sl w0 (NX []) Ud v1 p0.un.2.1.un.2.2.2) (h_v2 : Sl w0 (NX []) Xw v2 p0.un.2.2.2.2) :
    ca_ 9 #[.agg #[Jint p0.un.1,Jint p0.un.2.1.un.1,Jint p0.un.2.1.un.2.1,Jint p0.un.2.1.un.2.2.1,v1,Jint p0.un.2.2.1,Jint p0.un.2.2.2.1,v2]] w0 fun e w' => ∃ x : Value × Value,e = .returned (.agg #[Jint r.un.1,Jint r.un.2.1.un.1,Jint r.un.2.1.un.2.1,Jint r.un.2.1.un.2.2.1,x.1,Jint r.un.2.2.1,Jint r.un.2.2.2.1,x.2]) ∧ sy Y w0 [] [frz (x.1) Lv r.un.2.1.un.2.2.2,frz (x.2) LD r.un.2.2.2.2] w' := by
 refine enter Tryz.func9 Aa Tryz.ntmps9 Aa fun a W => ?_
 have F := Stw.start Y w0
 obtain ⟨v3,h1,h_v1⟩ := h_v1.ex bE
 obtain ⟨v4,h2,h_v2⟩ := h_v2.ex jC
 unfold FH at H
 refine vc tk 2 W F fun a w W F => ?_
 refine Ig (cs := (QZ p0 v1 v2)) W F Aa Aa Aa fun b1 a w W F => ?_
 refine Hm (cs := (W6)) W F Aa sC Aa fun b2 a w W F => ?_
 refine KR tk 3 W F fun a w W F => ?_
 obtain ⟨x1,h3,H⟩ := Bz H
 refine j1 (fun a w => ∃ b3 : Nat, ∃ v5 : Value,Fr 34 [] [(0,.agg #[Jint p0.un.1,Jint p0.un.2.1.un.1,Jint p0.un.2.1.un.2.1,Jint p0.un.2.1.un.2.2.1,v1,Jint p0.un.2.2.1,Jint p0.un.2.2.2.1,v2]),(1,pp b1),(2,pp b2),(3,pp b3),(5,pp b1),(6,Jint p0.un.1),(7,.pointer (some ⟨b1,1,none⟩)),(8,.agg #[Jint p0.un.2.1.un.1,Jint p0.un.2.1.un.2.1,Jint p0.un.2.1.un.2.2.1,v1]),(9,.agg #[Jint x1.un.1,Jint x1.un.2.1,Jint x1.un.2.2.1,v5]),(10,.pointer (some ⟨b1,5,none⟩)),(11,Jint p0.un.2.2.1),(12,.pointer (some ⟨b1,6,none⟩)),(13,Jint p0.un.2.2.2.1),(14,.agg #[Jint p0.un.1,Jint x1.un.1,Jint x1.un.2.1,Jint x1.un.2.2.1,v5,Jint p0.un.2.2.1,Jint p0.un.2.2.2.1,.slice none 0 0])] a ∧ sy Y w0 (pB b3 p0 x1 v5 b2 b1 v1 v2) [frz v5 Lv x1.un.2.2.2] w) ?_ ?_
 ·
  refine dJ (PT.st 0 (PT.st 1 (PT.st 2 (PT.st 3 (PT.st 5 (PT.st 6 (PT.st 7 (PT.st 8 (PT.alt 4 (PT.st 9 (PT.alt 10 (PT.alt 11 PT.done PT.stop) PT.stop)) (PT.alt 10 (PT.alt 4 (PT.st 9 (PT.alt 11 PT.done PT.stop)) PT.stop) PT.stop)))))))))) (CN ⟨Y,[],w0⟩ [(some 11,b1,[Jint p0.un.1,Jint p0.un.2.1.un.1,Jint p0.un.2.1.un.2.1,Jint p0.un.2.1.un.2.2.1,v1,Jint p0.un.2.2.1,Jint p0.un.2.2.2.1,v2]),(some 4,b1,[Jint p0.un.1,Jint p0.un.2.1.un.1,Jint p0.un.2.1.un.2.1,Jint p0.un.2.1.un.2.2.1,v1,Jint p0.un.2.2.1,Jint p0.un.2.2.2.1,v2])] []) (fun ch a d v w h => by cases d <;> exact h) MO (by kernel_rfl) F (fun w F => ⟨_,_,F,(all_cons (fun _ => (.tail _ (.head _))) (all_cons (fun _ => (.tail _ (.head _))) BS)),BS⟩) fun w F => ?_
  refine T8 (R := []) W Aa Aa (yC fun M Z hN hZ => A2 QK Aa Aa Aa T3 W Aa 0 Aa) Aa Aa fun a W => ?_
  refine T8 (R := [11]) W Aa Aa (yC fun M Z hN hZ => EQ (cs := (QZ p0 v1 v2)) (v := Jint p0.un.1) W Aa (hN ((some 11),b1,(QZ p0 v1 v2)) (.head _) Aa) T3 Aa) (by kernel_rfl) Aa fun a W => ?_
  refine T8 (R := []) W Aa Aa (yC fun M Z hN hZ => A2 QK Aa Aa Aa T24 W Aa 1 Aa) Aa Aa fun a W => ?_
  refine T8 (R := [4]) W Aa Aa (yC fun M Z hN hZ => EQ (cs := (QZ p0 v1 v2)) (v := Value.agg #[Jint p0.un.2.1.un.1,Jint p0.un.2.1.un.2.1,Jint p0.un.2.1.un.2.2.1,v1]) W Aa (hN ((some 4),b1,(QZ p0 v1 v2)) (.tail _ (.head _)) Aa) T24 Aa) (by kernel_rfl) Aa fun a W => ?_
  refine T8 (R := []) W Aa Aa (yC fun M Z hN hZ => A2 QK Aa Aa Aa T3 W Aa 5 Aa) Aa Aa fun a W => ?_
  refine T8 (R := [11]) W Aa Aa (yC fun M Z hN hZ => EQ (cs := (QZ p0 v1 v2)) (v := Jint p0.un.2.2.1) W Aa (hN ((some 11),b1,(QZ p0 v1 v2)) (.head _) Aa) T3 Aa) (by kernel_rfl) Aa fun a W => ?_
  refine T8 (R := []) W Aa Aa (yC fun M Z hN hZ => A2 QK Aa Aa Aa T3 W Aa 6 Aa) Aa Aa fun a W => ?_
  refine T8 (R := [11]) W Aa Aa (yC fun M Z hN hZ => EQ (cs := (QZ p0 v1 v2)) (v := Jint p0.un.2.2.2.1) W Aa (hN ((some 11),b1,(QZ p0 v1 v2)) (.head _) Aa) T3 Aa) (by kernel_rfl) Aa fun a W => ?_
  refine rG Aa ?_ ?_
  ·
   refine FM (Ml := []) (Zl := []) (β := Value) (rv := fun x => .agg #[Jint x1.un.1,Jint x1.un.2.1,Jint x1.un.2.2.1,x]) (MM := fun x => []) (ZZ := fun x => [frz x Lv x1.un.2.2.2]) W F H30 Aa Aa (fun hL => Ti _ w (v1) (f24 p0.un.2.1) _ h3 ((HZ bE h1 (Dg h_v1)) w F).nx) fun x a w W F => ?_
   obtain ⟨v5,rfl⟩ : ∃ y,y = x := ⟨x,rfl⟩
   have F : sy Y w0 (pN b2 b1 p0 v1 v2) [frz v5 Lv x1.un.2.2.2] w := F
   refine Nl (N2 := []) (NZ2 := []) (N3 := [(some 11,b1,[Jint p0.un.1,Jint p0.un.2.1.un.1,Jint p0.un.2.1.un.2.1,Jint p0.un.2.1.un.2.2.1,v1,Jint p0.un.2.2.1,Jint p0.un.2.2.2.1,v2]),(some 4,b1,[Jint p0.un.1,Jint p0.un.2.1.un.1,Jint p0.un.2.1.un.2.1,Jint p0.un.2.1.un.2.2.1,v1,Jint p0.un.2.2.1,Jint p0.un.2.2.2.1,v2])]) (NZ3 := []) F Aa Aa (all_cons (fun _ => (.tail _ (.head _))) (all_cons (fun h => Ce (by kernel_rfl) h) BS)) BS ?_
   refine T8 (R := []) W Aa Aa (yC fun M Z hN hZ => H8 (v := Value.agg #[Jint p0.un.1,Jint x1.un.1,Jint x1.un.2.1,Jint x1.un.2.2.1,v5,Jint p0.un.2.2.1,Jint p0.un.2.2.2.1,.slice none 0 0]) B41 W Aa (Ey Aa Aa Aa (Ey Aa Aa Aa (Ey Aa Aa Aa (Ey Aa Aa Aa MY)))) Aa) Aa Aa fun a W => ?_
   refine YC Aa ?_
   refine Hm (cs := (W6)) W F Aa sC Aa fun b3 a w W F => ?_
   refine Nl (N2 := []) (NZ2 := []) (N3 := [(some 11,b1,[Jint p0.un.1,Jint p0.un.2.1.un.1,Jint p0.un.2.1.un.2.1,Jint p0.un.2.1.un.2.2.1,v1,Jint p0.un.2.2.1,Jint p0.un.2.2.2.1,v2]),(some 4,b1,[Jint p0.un.1,Jint p0.un.2.1.un.1,Jint p0.un.2.1.un.2.1,Jint p0.un.2.1.un.2.2.1,v1,Jint p0.un.2.2.1,Jint p0.un.2.2.2.1,v2])]) (NZ3 := []) F Aa Aa (all_cons (fun _ => (.tail _ (.tail _ (.head _)))) (all_cons (fun h => Ce (by kernel_rfl) h) BS)) BS ?_
   refine YC Aa ?_
   refine SK 0 W F Aa Aa Aa lA Aa Aa (Bi Aa (Bi Aa (Bi Aa (Bi Aa (Bi (F.oneF (k := 0) Aa) (Bi Aa (Bi Aa (Bi Aa Pp)))))))) fun w F => ?_
   refine Nl (N2 := []) (NZ2 := []) (N3 := [(some 11,b1,[Jint p0.un.1,Jint p0.un.2.1.un.1,Jint p0.un.2.1.un.2.1,Jint p0.un.2.1.un.2.2.1,v1,Jint p0.un.2.2.1,Jint p0.un.2.2.2.1,v2]),(some 4,b1,[Jint p0.un.1,Jint p0.un.2.1.un.1,Jint p0.un.2.1.un.2.1,Jint p0.un.2.1.un.2.2.1,v1,Jint p0.un.2.2.1,Jint p0.un.2.2.2.1,v2])]) (NZ3 := []) F Aa Aa (all_cons (fun h => Ce (by kernel_rfl) h) (all_cons (fun h => Ce (by kernel_rfl) h) BS)) BS ?_
   have F := F.frontM (i := 2) Aa Aa
   have F := F.frontM (i := 2) Aa Aa
   have F := F.frontM (i := 2) Aa Aa
   refine dB ?_
   exact ⟨b3,v5,W.ra Aa,F⟩
  refine rG Aa ?_ ?_
  ·
   refine Hm (cs := (W6)) W F Aa sC Aa fun b3 a w W F => ?_
   refine Nl (N2 := []) (NZ2 := []) (N3 := [(some 11,b1,[Jint p0.un.1,Jint p0.un.2.1.un.1,Jint p0.un.2.1.un.2.1,Jint p0.un.2.1.un.2.2.1,v1,Jint p0.un.2.2.1,Jint p0.un.2.2.2.1,v2]),(some 4,b1,[Jint p0.un.1,Jint p0.un.2.1.un.1,Jint p0.un.2.1.un.2.1,Jint p0.un.2.1.un.2.2.1,v1,Jint p0.un.2.2.1,Jint p0.un.2.2.2.1,v2])]) (NZ3 := []) F Aa Aa (all_cons (fun _ => (.tail _ (.tail _ (.head _)))) (all_cons (fun _ => (.tail _ (.tail _ (.head _)))) BS)) BS ?_
   refine YC Aa ?_
   refine FM (Ml := []) (Zl := []) (β := Value) (rv := fun x => .agg #[Jint x1.un.1,Jint x1.un.2.1,Jint x1.un.2.2.1,x]) (MM := fun x => []) (ZZ := fun x => [frz x Lv x1.un.2.2.2]) W F H30 Aa Aa (fun hL => Ti _ w (v1) (f24 p0.un.2.1) _ h3 ((HZ bE h1 (Dg h_v1)) w F).nx) fun x a w W F => ?_
   obtain ⟨v5,rfl⟩ : ∃ y,y = x := ⟨x,rfl⟩
   have F : sy Y w0 (qO b3 b2 b1 p0 v1 v2) [frz v5 Lv x1.un.2.2.2] w := F
   refine Nl (N2 := []) (NZ2 := []) (N3 := [(some 11,b1,[Jint p0.un.1,Jint p0.un.2.1.un.1,Jint p0.un.2.1.un.2.1,Jint p0.un.2.1.un.2.2.1,v1,Jint p0.un.2.2.1,Jint p0.un.2.2.2.1,v2]),(some 4,b1,[Jint p0.un.1,Jint p0.un.2.1.un.1,Jint p0.un.2.1.un.2.1,Jint p0.un.2.1.un.2.2.1,v1,Jint p0.un.2.2.1,Jint p0.un.2.2.2.1,v2])]) (NZ3 := []) F Aa Aa (all_cons (fun _ => (.tail _ (.tail _ (.head _)))) (all_cons (fun h => Ce (by kernel_rfl) h) BS)) BS ?_
   refine T8 (R := []) W Aa Aa (yC fun M Z hN hZ => H8 (v := Value.agg #[Jint p0.un.1,Jint x1.un.1,Jint x1.un.2.1,Jint x1.un.2.2.1,v5,Jint p0.un.2.2.1,Jint p0.un.2.2.2.1,.slice none 0 0]) B41 W Aa (Ey Aa Aa Aa (Ey Aa Aa Aa (Ey Aa Aa Aa (Ey Aa Aa Aa MY)))) Aa) Aa Aa fun a W => ?_
   refine YC Aa ?_
   refine SK 0 W F Aa Aa Aa lA Aa Aa (Bi Aa (Bi Aa (Bi Aa (Bi Aa (Bi (F.oneF (k := 0) Aa) (Bi Aa (Bi Aa (Bi Aa Pp)))))))) fun w F => ?_
   refine Nl (N2 := []) (NZ2 := []) (N3 := [(some 11,b1,[Jint p0.un.1,Jint p0.un.2.1.un.1,Jint p0.un.2.1.un.2.1,Jint p0.un.2.1.un.2.2.1,v1,Jint p0.un.2.2.1,Jint p0.un.2.2.2.1,v2]),(some 4,b1,[Jint p0.un.1,Jint p0.un.2.1.un.1,Jint p0.un.2.1.un.2.1,Jint p0.un.2.1.un.2.2.1,v1,Jint p0.un.2.2.1,Jint p0.un.2.2.2.1,v2])]) (NZ3 := []) F Aa Aa (all_cons (fun h => Ce (by kernel_rfl) h) (all_cons (fun h => Ce (by kernel_rfl) h) BS)) BS ?_
   have F := F.frontM (i := 2) Aa Aa
   have F := F.frontM (i := 2) Aa Aa
   have F := F.frontM (i := 2) Aa Aa
   refine dB ?_
   exact ⟨b3,v5,W.ra Aa,F⟩
  exact trivial
 rintro a w ⟨b3,v5,W,F⟩
 refine Az ?_
 obtain ⟨o1,G1,K1⟩ := Bz H
 refine Fx (fun a w => ∃ x2 : List Tr41, ∃ v6 : Value,some (x2) = some o1 ∧ Fr 34 [] [(2,pp b2),(3,pp b3)] a ∧ sy Y w0 (Oc b3 p0 x1 v5 v6 b2 b1 v1 v2) [frz v5 Lv x1.un.2.2.2,row v6 41 LD x2] w) ?_ ?_
 ·
  have H := G1
  clear G1 K1
  refine vc tk 6 W F fun a w W F => ?_
  have F := F.nilRow 41 LD
  have F := F.frontZ (i := 1) Aa Aa
  have F := F.frontM (i := 2) Aa Aa
  have F := F.frontM (i := 2) Aa Aa
  have F := F.frontM (i := 2) Aa Aa
  refine Jf H (fun s a w => ∃ v7 : Value,Fr 34 [] [(1,pp b1),(2,pp b2),(3,pp b3),(4,Jint s.1)] a ∧ sy Y w0 (Oc b3 p0 x1 v5 v7 b2 b1 v1 v2) [frz v5 Lv x1.un.2.2.2,row v7 41 LD s.2] w) ⟨(Value.slice none 0 0),W.ra Aa,F⟩ fun s o a w H L2 hR => ?_
  obtain ⟨x3,x4⟩ := s
  obtain ⟨v7,W,F⟩ := hR
  have W : Fr 34 [] [(1,pp b1),(2,pp b2),(3,pp b3),(4,Jint x3)] a := W
  have F : sy Y w0 (Oc b3 p0 x1 v5 v7 b2 b1 v1 v2) [frz v5 Lv x1.un.2.2.2,row v7 41 LD x4] w := F
  rw [Er] at H
  refine XG tk 6 [2] W F (ai fun a w W F => ?_)
  refine ls W F Aa (NJ (r := Xw) (l := p0.un.2.2.2.2) rK Aa W Aa (HZ jC h2 (Dg h_v2))).q fun a w W F => ?_
  refine KR tk 3 W F fun a w W F => ?_
  refine JP W Aa H (fun W H => ?_) fun W H => ?_
  ·
   refine jH tk 4 W F fun a w W F => ?_
   obtain ⟨v8,h4,F⟩ := F.exF RI
   have F := F.frontZ (i := 1) Aa Aa
   obtain ⟨v9,h5,F⟩ := F.exR O0
   refine S5 [(true,0),(true,1),(true,2),(true,3),(true,4),(true,5),(true,6),(false,7),(false,8),(false,9),(true,10),(false,11)] (CN ⟨Y,[],w0⟩ [(some 9,b3,[Jint p0.un.1,Jint x1.un.1,Jint x1.un.2.1,Jint x1.un.2.2.1,v5,Jint p0.un.2.2.1,Jint p0.un.2.2.2.1,v7]),(some 7,b1,[Jint p0.un.1,Jint p0.un.2.1.un.1,Jint p0.un.2.1.un.2.1,Jint p0.un.2.1.un.2.2.1,v1,Jint p0.un.2.2.1,Jint p0.un.2.2.2.1,v2])] []) (fun ch a d v w h => by cases d <;> exact h) MO (by kernel_rfl) F (fun w F => ⟨_,_,F,(all_cons (fun _ => (.head _)) (all_cons (fun _ => (.tail _ (.tail _ (.head _)))) BS)),BS⟩) fun w F => ?_
   refine Lj (R := []) W Aa Aa (yC fun M Z hN hZ => A2 kB Aa Aa Aa xM W Aa 7 Aa) Aa Aa fun a W => ?_
   refine Lj (R := [9]) W Aa Aa (yC fun M Z hN hZ => EQ (cs := (dD p0 x1 v5 v7)) (v := v7) W Aa (hN ((some 9),b3,(dD p0 x1 v5 v7)) (.head _) Aa) xM Aa) (by kernel_rfl) Aa fun a W => ?_
   refine Lj (R := []) W Aa Aa (yC fun M Z hN hZ => A2 QK Aa Aa Aa T25 W Aa 7 Aa) Aa Aa fun a W => ?_
   refine Lj (R := [7,6,5]) W Aa Aa (yC fun M Z hN hZ => EQ (cs := (QZ p0 v1 v2)) (v := v2) W Aa (hN ((some 7),b1,(QZ p0 v1 v2)) (.tail _ (.head _)) Aa) T25 Aa) (by kernel_rfl) Aa fun a W => ?_
   refine Lj (R := []) W Aa Aa (yC fun M Z hN hZ => En W Aa) Aa Aa fun a W => ?_
   obtain ⟨x5,h6,H⟩ := Bz H
   obtain ⟨v10,h7,h8⟩ := Uu h2 h6
   have h9 : eA v10 = [Jint x5.un.1,Jint x5.un.2.1.un.1,Jint x5.un.2.1.un.2.1,Jint x5.un.2.1.un.2.2.1,(v10.2.1.2.2.2.1),Jint x5.un.2.2.1,Jint x5.un.2.2.2.1,(v10.2.2.2.2.1)] := congrArg (fun q : Tr27 => ([Jint q.un.1,Jint q.un.2.1.un.1,Jint q.un.2.1.un.2.1,Jint q.un.2.1.un.2.2.1,(v10.2.1.2.2.2.1),Jint q.un.2.2.1,Jint q.un.2.2.2.1,(v10.2.2.2.2.1)] : List Value)) h8
   refine Lj (R := []) W Aa Aa (yC fun M Z hN hZ => Hj (r := j3) L25 W Aa Aa (Dg h_v2) h7) Aa Aa fun a W => ?_
   refine Lj (R := []) W Aa Aa (yC fun M Z hN hZ => EM (y := Value.agg #[Jint x5.un.1,Jint x5.un.2.1.un.1,Jint x5.un.2.1.un.2.1,Jint x5.un.2.1.un.2.2.1,(v10.2.1.2.2.2.1),Jint x5.un.2.2.1,Jint x5.un.2.2.2.1,(v10.2.2.2.2.1)]) (j := 0) (i := x3) (enc := eA) W Aa Aa (Dg h_v2) h7 tS T27 (by rw [h9]; rfl)) Aa Aa fun a W => ?_
   refine TP Aa ?_
   obtain ⟨x6,h10,H⟩ := Bz H
   refine FM (Ml := []) (Zl := []) (β := Value × Value) (rv := fun x => .agg #[Jint x6.un.1,Jint x6.un.2.1.un.1,Jint x6.un.2.1.un.2.1,Jint x6.un.2.1.un.2.2.1,x.1,Jint x6.un.2.2.1,Jint x6.un.2.2.2.1,x.2]) (MM := fun x => []) (ZZ := fun x => [frz x.1 Lv x6.un.2.1.un.2.2.2,frz x.2 LD x6.un.2.2.2.2]) W F H9 Aa Aa (fun hL => ih _ w ((v10.2.1.2.2.2.1)) ((v10.2.2.2.2.1)) (Tr27.of (x5.un.1,f24 x5.un.2.1,x5.un.2.2.1,x5.un.2.2.2.1,x5.un.2.2.2.2)) _ h10 ((MP (Dg h_v2) h7 (CP.snd (CP.fst (CP.snd (CP.snd (CP.snd CP.here))))) (congrArg (fun q : Tr27 => q.un.2.1.un.2.2.2) h8)) w F).nx ((MP (Dg h_v2) h7 (CP.snd (CP.snd (CP.snd (CP.snd CP.here)))) (congrArg (fun q : Tr27 => q.un.2.2.2.2) h8)) w F).nx) fun x a w W F => ?_
   obtain ⟨v11,v12⟩ := x
   have F : sy Y w0 (Oc b3 p0 x1 v5 v7 b2 b1 v1 v2) [frz v11 Lv x6.un.2.1.un.2.2.2,frz v12 LD x6.un.2.2.2.2,row v7 41 cW v9,frz v5 lR v8] w := F
   refine IL (N2 := []) (NZ2 := []) (N3 := [(some 9,b3,[Jint p0.un.1,Jint x1.un.1,Jint x1.un.2.1,Jint x1.un.2.2.1,v5,Jint p0.un.2.2.1,Jint p0.un.2.2.2.1,v7]),(some 7,b1,[Jint p0.un.1,Jint p0.un.2.1.un.1,Jint p0.un.2.1.un.2.1,Jint p0.un.2.1.un.2.2.1,v1,Jint p0.un.2.2.1,Jint p0.un.2.2.2.1,v2])]) (NZ3 := []) F Aa Aa (all_cons (fun _ => (.head _)) (all_cons (fun h => Ce (by kernel_rfl) h) BS)) BS ?_
   refine TP Aa ?_
   refine Ub (z := Value.agg #[Jint 0,Jint 0,Jint 0,Jint 0,.slice none 0 0,Jint 0,Jint 0,.slice none 0 0]) (cs := (X8 x6 v11 v12)) LD ([Tr41.of (x6.un.1,f38 x6.un.2.1,x6.un.2.2.1,x6.un.2.2.2.1,x6.un.2.2.2.2)] : List Tr41) W F Aa xS sC Aa Aa Aa (Ey Aa Aa Aa MY) Aa Aa ⟨[Jint x6.un.1,Jint x6.un.2.1.un.1,Jint x6.un.2.1.un.2.1,Jint x6.un.2.1.un.2.2.1,v11,Jint x6.un.2.2.1,Jint x6.un.2.2.2.1,v12],_,Aa,(AaW.2 ⟨[Jint x6.un.1],[Jint x6.un.2.1.un.1,Jint x6.un.2.1.un.2.1,Jint x6.un.2.1.un.2.2.1,v11,Jint x6.un.2.2.1,Jint x6.un.2.2.2.1,v12],Aa,Aa,⟨[Jint x6.un.2.1.un.1,Jint x6.un.2.1.un.2.1,Jint x6.un.2.1.un.2.2.1,v11],[Jint x6.un.2.2.1,Jint x6.un.2.2.2.1,v12],Aa,(AaB.2 ⟨[Jint x6.un.2.1.un.1],[Jint x6.un.2.1.un.2.1,Jint x6.un.2.1.un.2.2.1,v11],Aa,Aa,⟨[Jint x6.un.2.1.un.2.1],[Jint x6.un.2.1.un.2.2.1,v11],Aa,Aa,⟨[Jint x6.un.2.1.un.2.2.1],[v11],Aa,Aa,⟨_,Aa,(F.item (i := 0) Aa)⟩⟩⟩⟩),⟨[Jint x6.un.2.2.1],[Jint x6.un.2.2.2.1,v12],Aa,Aa,⟨[Jint x6.un.2.2.2.1],[v12],Aa,Aa,⟨_,Aa,(F.item (i := 1) Aa)⟩⟩⟩⟩⟩),Aa⟩ fun v13 a w W F => ?_
   refine IL (N2 := []) (NZ2 := []) (N3 := [(some 9,b3,[Jint p0.un.1,Jint x1.un.1,Jint x1.un.2.1,Jint x1.un.2.2.1,v5,Jint p0.un.2.2.1,Jint p0.un.2.2.2.1,v7]),(some 7,b1,[Jint p0.un.1,Jint p0.un.2.1.un.1,Jint p0.un.2.1.un.2.1,Jint p0.un.2.1.un.2.2.1,v1,Jint p0.un.2.2.1,Jint p0.un.2.2.2.1,v2])]) (NZ3 := []) F Aa Aa (all_cons (fun _ => (.head _)) (all_cons (fun h => Ce (by kernel_rfl) h) BS)) BS ?_
   refine TP Aa ?_
   have F := F.frontZ (i := 3) Aa Aa
   have F := F.hideR O0 h5
   obtain ⟨x7,h11,H⟩ := Bz H
   refine Ls (r := LD) (i := 0) W F Aa xS Aa Aa Aa Aa (Rh F 1 Aa) h11 Aa fun v14 a w W F => ?_
   have F : sy Y w0 (Oc b3 p0 x1 v5 v7 b2 b1 v1 v2) [row v14 41 LD x7,row v13 41 LD ([Tr41.of (x6.un.1,f38 x6.un.2.1,x6.un.2.2.1,x6.un.2.2.2.1,x6.un.2.2.2.2)] : List Tr41),frz v11 Lv x6.un.2.1.un.2.2.2,frz v12 LD x6.un.2.2.2.2,frz v5 lR v8] w := F
   refine IL (N2 := []) (NZ2 := []) (N3 := [(some 9,b3,[Jint p0.un.1,Jint x1.un.1,Jint x1.un.2.1,Jint x1.un.2.2.1,v5,Jint p0.un.2.2.1,Jint p0.un.2.2.2.1,v7]),(some 7,b1,[Jint p0.un.1,Jint p0.un.2.1.un.1,Jint p0.un.2.1.un.2.1,Jint p0.un.2.1.un.2.2.1,v1,Jint p0.un.2.2.1,Jint p0.un.2.2.2.1,v2])]) (NZ3 := []) F Aa Aa (all_cons (fun h => Ce (by kernel_rfl) h) (all_cons (fun h => Ce (by kernel_rfl) h) BS)) BS ?_
   refine Lj (R := []) W Aa Aa (yC fun M Z hN hZ => A2 kB Aa Aa Aa xM W Aa 7 Aa) Aa Aa fun a W => ?_
   refine TP Aa ?_
   refine fV (M' := (Oc b3 p0 x1 v5 v14 b2 b1 v1 v2)) 0 W F Aa Aa Aa xM (F.one (k := 0) Aa) Aa Aa fun w F => ?_
   refine IL (N2 := []) (NZ2 := []) (N3 := [(some 9,b3,[Jint p0.un.1,Jint x1.un.1,Jint x1.un.2.1,Jint x1.un.2.2.1,v5,Jint p0.un.2.2.1,Jint p0.un.2.2.2.1,v7]),(some 7,b1,[Jint p0.un.1,Jint p0.un.2.1.un.1,Jint p0.un.2.1.un.2.1,Jint p0.un.2.1.un.2.2.1,v1,Jint p0.un.2.2.1,Jint p0.un.2.2.2.1,v2])]) (NZ3 := []) F Aa Aa (all_cons (fun h => Ce (by kernel_rfl) h) (all_cons (fun h => Ce (by kernel_rfl) h) BS)) BS ?_
   refine Yc (EF ?_)
   refine vn tk 5 W F fun a w W F => ?_
   refine Az ?_
   have F := F.frontZ (i := 4) Aa Aa
   have F := F.hideF RI h4
   have F := F.frontZ (i := 1) Aa Aa
   have F := F.frontZ (i := 1) Aa Aa
   have F := F.frontM (i := 2) Aa Aa
   have F := F.frontM (i := 2) Aa Aa
   have F := F.frontM (i := 2) Aa Aa
   have F := F.sub (M' := (Oc b3 p0 x1 v5 v14 b2 b1 v1 v2)) (Z' := [frz v5 Lv x1.un.2.2.2,row v14 41 LD x7]) sr (sc (sc nl))
   exact ⟨_,H,(v14),W.ra Aa,F⟩
  refine Hl ?_
  iterate 2 refine KC ?_
  refine GF (Az ?_)
  have F := F.frontZ (i := 1) Aa Aa
  have F := F.frontZ (i := 1) Aa Aa
  have F := F.frontM (i := 2) Aa Aa
  have F := F.frontM (i := 2) Aa Aa
  have F := F.frontM (i := 2) Aa Aa
  have H := L2 _ H
  exact ⟨_,(v7),H,W.ra Aa,F⟩
 rintro a w ⟨x2,v6,hj,W,F⟩
 have hj := Fj hj
 subst hj
 have H := K1
 clear G1 K1
 refine XG tk 3 [0] W F (ai fun a w W F => ?_)
 refine SK 1 W F Aa Aa Aa lA Aa Aa (Bi Aa (Bi Aa (Bi Aa (Bi Aa (Bi (F.oneF (k := 0) Aa) (Bi Aa (Bi Aa (Bi (F.one (k := 1) Aa) Pp)))))))) fun w F => ?_
 refine KR tk 2 W F fun a w W F => ?_
 refine De ?_
 have H := Fj H
 subst H
 refine EE (.inl Aa) W F Aa (Rc 1 W Aa Aa lA Aa) ?_
 have F := F.frontZ (i := 1) Aa Aa
 have F := F.freeze
 have F := F.frontZ (i := 1) Aa Aa
 have F := F.sub (M' := []) (Z' := [frz v5 Lv x1.un.2.2.2,frz v6 LD x2]) nl sr
 exact ⟨((v5),(v6)),Aa,F⟩
theorem WR : ∀ (n : Nat) (Y : Nat → Prop) (w0 : World) (v1 : Value) (v2 : Value) (p0 : Tr27) (r : Tr41) (H : E3 n p0 = some r) (h_v1 : Sl w0 (NX []) Ud v1 p0.un.2.1.un.2.2.2) (h_v2 : Sl w0 (NX []) Xw v2 p0.un.2.2.2.2),ca_ 9 #[.agg #[Jint p0.un.1,Jint p0.un.2.1.un.1,Jint p0.un.2.1.un.2.1,Jint p0.un.2.1.un.2.2.1,v1,Jint p0.un.2.2.1,Jint p0.un.2.2.2.1,v2]] w0 fun e w' => ∃ x : Value × Value,e = .returned (.agg #[Jint r.un.1,Jint r.un.2.1.un.1,Jint r.un.2.1.un.2.1,Jint r.un.2.1.un.2.2.1,x.1,Jint r.un.2.2.1,Jint r.un.2.2.2.1,x.2]) ∧ sy Y w0 [] [frz (x.1) Lv r.un.2.1.un.2.2.2,frz (x.2) LD r.un.2.2.2.2] w' := by
  intro n
  induction n with
  | zero => intro Y w0 v1 v2 p0 r H; exact nomatch H
  | succ n ih => intro Y w0 v1 v2 p0 r H h_v1 h_v2; exact UY (E3 n) ih Y w0 v1 v2 p0 r H h_v1 h_v2
theorem XN (Y : Nat → Prop) (w0 : World) (v1 : Value) (v2 : Value) (p0 : Tr27) (r : Tr41) (H : PO p0 = some r) (h_v1 : Sl w0 (NX []) Ud v1 p0.un.2.1.un.2.2.2) (h_v2 : Sl w0 (NX []) Xw v2 p0.un.2.2.2.2) :
    ca_ 9 #[.agg #[Jint p0.un.1,Jint p0.un.2.1.un.1,Jint p0.un.2.1.un.2.1,Jint p0.un.2.1.un.2.2.1,v1,Jint p0.un.2.2.1,Jint p0.un.2.2.2.1,v2]] w0 fun e w' => ∃ x : Value × Value,e = .returned (.agg #[Jint r.un.1,Jint r.un.2.1.un.1,Jint r.un.2.1.un.2.1,Jint r.un.2.1.un.2.2.1,x.1,Jint r.un.2.2.1,Jint r.un.2.2.2.1,x.2]) ∧ sy Y w0 [] [frz (x.1) Lv r.un.2.1.un.2.2.2,frz (x.2) LD r.un.2.2.2.2] w' := by
  obtain ⟨n,H⟩ := Lc H
  exact WR n Y w0 v1 v2 p0 r H h_v1 h_v2
theorem k9 : KO (K9 fun x => PO x) 9 := KO.of ⟨fun args w => A9 Tryz.func9 rfl (by decide) args w⟩ rfl (fun _ => rfl) (fun _ => rfl) rfl (fun _ => rfl) (fun _ => rfl) (fun _ => rfl) (fun _ => rfl) fun Y w0 x r g H hg hk => (XN Y w0 g.1 g.2.1 x r H hg.1 hg.2.1).mono fun e w' ⟨x,he,F⟩ => ⟨(x.1,(x.2,())),he,F⟩
abbrev Yi (a0 : Nat) (a1 : Sq) (a2 : Nat) (a3 : Sq) : List (Nat × List Value) := [(a0,[Jint a1.1,Jint a1.2.1,Jint a1.2.2.1,Jint a1.2.2.2.1,Jint a1.2.2.2.2]),(a2,[Jint a3.1,Jint a3.2.1,Jint a3.2.2.1,Jint a3.2.2.2.1,Jint a3.2.2.2.2])]
def H4 (p0 : Sq) (p1 : Sq) : Int → Option (Int ⊕ (Unit ⊕ Bool))
  | x1 => (if x1 < 4 then (ix ([p0.2.1,p0.2.2.1,p0.2.2.2.1,p0.2.2.2.2] : List Int) x1).bind fun x2 => (ix ([p1.2.1,p1.2.2.1,p1.2.2.2.1,p1.2.2.2.2] : List Int) x1).bind fun x3 => (if x2 ≠ x3 then (ix ([p0.2.1,p0.2.2.1,p0.2.2.2.1,p0.2.2.2.2] : List Int) x1).bind fun x4 => (ix ([p1.2.1,p1.2.2.1,p1.2.2.2.1,p1.2.2.2.2] : List Int) x1).bind fun x5 => some (.inr (.inr (decide (x4 < x5)))) else some (.inl (w64 (x1 + 1)))) else some (.inr (.inl ())))
def Jo (p0 : Sq) (p1 : Sq) : Option Bool := (if p0.1 ≠ p1.1 then some (decide (p0.1 < p1.1)) else GO (Ah (H4 p0 p1) 0) fun _ => some false)
theorem Wg (Y : Nat → Prop) (w0 : World)  (p0 : Sq) (p1 : Sq) (r : Bool) (H : Jo p0 p1 = some r)  :
    ca_ 49 #[.agg #[Jint p0.1,Jint p0.2.1,Jint p0.2.2.1,Jint p0.2.2.2.1,Jint p0.2.2.2.2],.agg #[Jint p1.1,Jint p1.2.1,Jint p1.2.2.1,Jint p1.2.2.2.1,Jint p1.2.2.2.2]] w0 fun e w' => e = .returned (.bool r) ∧ Below w0.heap.size w0 w' := by
 refine enter Tryz.func49 Aa Tryz.ntmps49 Aa fun a W => ?_
 have F := Stw.start Y w0
 unfold Jo at H
 refine vc tk 2 W F fun a w W F => ?_
 refine Ig (cs := (C7 p0)) W F Aa Aa Aa fun b1 a w W F => ?_
 refine Ig (cs := (C7 p1)) W F Aa Aa Aa fun b2 a w W F => ?_
 refine WT tk 13 [1,0] W F (ai (ai fun a w W F => ?_))
 refine JP W Aa H (fun W H => ?_) fun W H => ?_
 ·
  refine XG tk 10 [1,0] W F (ai (ai fun a w W F => ?_))
  refine De (FW ?_)
  have H := Fj H
  subst H
  refine EE (.inl Aa) W F Aa (DJ W Aa) ?_
  exact ⟨rfl,F.done⟩
 refine E0 (Az ?_)
 obtain ⟨o1,G1,K1,L1⟩ := wB H
 refine Fx (fun a w => some (Sum.inl ()) = some o1 ∧ Fr 38 [] [(4,.bool false)] a ∧ sy Y w0 (Yi b2 p1 b1 p0) [] w) ?_ ?_
 ·
  have H := G1
  clear G1 K1
  refine vc tk 6 W F fun a w W F => ?_
  have F := F.frontM (i := 1) Aa Aa
  have F := F.frontM (i := 1) Aa Aa
  refine Jf H (fun s a w => Fr 38 [] [(2,pp b1),(3,pp b2),(4,.bool false),(5,Jint s)] a ∧ sy Y w0 (Yi b2 p1 b1 p0) [] w) ⟨W.ra Aa,F⟩ fun s o a w H L2 hR => ?_
  obtain ⟨x1,rfl⟩ : ∃ x,x = s := ⟨s,rfl⟩
  obtain ⟨W,F⟩ := hR
  have W : Fr 38 [] [(2,pp b1),(3,pp b2),(4,.bool false),(5,Jint x1)] a := W
  have F : sy Y w0 (Yi b2 p1 b1 p0) [] w := F
  rw [H4] at H
  refine vc tk 7 W F fun a w W F => ?_
  refine JP W Aa H (fun W H => ?_) fun W H => ?_
  ·
   refine jH tk 5 W F fun a w W F => ?_
   refine Li F MO (by kernel_rfl) ?_
   refine qs W Aa (En W Aa).q fun a W => ?_
   refine qs W Aa (A2 Mu Aa Aa Aa ZR W Aa 1 Aa).q fun a W => ?_
   obtain ⟨x2,h1,H⟩ := Bz H
   refine qs W Aa (Gz (1 + (x1).toNat * 1) QX W Aa Aa Aa h1 Aa).q fun a W => ?_
   refine qs W Aa (ED (v := Jint x2) 1 W Aa Aa T3 (LN (base := 1) (m := 4) (l := [p0.2.1,p0.2.2.1,p0.2.2.2.1,p0.2.2.2.2]) (enc := Value.int .i64) Aa h1)).q fun a W => ?_
   refine qs W Aa (En W Aa).q fun a W => ?_
   refine qs W Aa (A2 Mu Aa Aa Aa ZR W Aa 1 Aa).q fun a W => ?_
   obtain ⟨x3,h2,H⟩ := Bz H
   refine qs W Aa (Gz (1 + (x1).toNat * 1) QX W Aa Aa Aa h2 Aa).q fun a W => ?_
   refine qs W Aa (ED (v := Jint x3) 0 W Aa Aa T3 (LN (base := 1) (m := 4) (l := [p1.2.1,p1.2.2.1,p1.2.2.2.1,p1.2.2.2.2]) (enc := Value.int .i64) Aa h2)).q fun a W => ?_
   refine qs W Aa (b6 W Aa Aa).q fun a W => ?_
   refine EO fun w F => ?_
   refine Az ?_
   refine JP W Aa H (fun W H => ?_) fun W H => ?_
   ·
    refine N8 ?_
    refine Li F MO (by kernel_rfl) ?_
    refine qs W Aa (En W Aa).q fun a W => ?_
    refine qs W Aa (A2 Mu Aa Aa Aa ZR W Aa 1 Aa).q fun a W => ?_
    obtain ⟨x4,h3,H⟩ := Bz H
    refine qs W Aa (Gz (1 + (x1).toNat * 1) QX W Aa Aa Aa h3 Aa).q fun a W => ?_
    refine qs W Aa (ED (v := Jint x4) 1 W Aa Aa T3 (LN (base := 1) (m := 4) (l := [p0.2.1,p0.2.2.1,p0.2.2.2.1,p0.2.2.2.2]) (enc := Value.int .i64) Aa h3)).q fun a W => ?_
    refine qs W Aa (En W Aa).q fun a W => ?_
    refine qs W Aa (A2 Mu Aa Aa Aa ZR W Aa 1 Aa).q fun a W => ?_
    obtain ⟨x5,h4,H⟩ := Bz H
    refine qs W Aa (Gz (1 + (x1).toNat * 1) QX W Aa Aa Aa h4 Aa).q fun a W => ?_
    refine qs W Aa (ED (v := Jint x5) 0 W Aa Aa T3 (LN (base := 1) (m := 4) (l := [p1.2.1,p1.2.2.1,p1.2.2.2.1,p1.2.2.2.2]) (enc := Value.int .i64) Aa h4)).q fun a W => ?_
    refine qs W Aa (WO W Aa Aa).q fun a W => ?_
    refine qs W Aa (MG W Aa).q fun a W => ?_
    refine EO fun w F => ?_
    refine Az (De (Ic ?_))
    iterate 2 refine FW ?_
    refine Ic (FW ?_)
    have H := L2 _ H
    have H := L1 _ H
    have H := Fj H
    subst H
    refine EE (.inl Aa) W F Aa (DJ W Aa) ?_
    exact ⟨rfl,F.done⟩
   refine E0 (EF ?_)
   refine vn tk 5 W F fun a w W F => ?_
   refine Az ?_
   have F := F.frontM (i := 1) Aa Aa
   have F := F.frontM (i := 1) Aa Aa
   exact ⟨_,H,W.ra Aa,F⟩
  refine Hl ?_
  iterate 2 refine KC ?_
  refine GF (Az ?_)
  have F := F.frontM (i := 1) Aa Aa
  have F := F.frontM (i := 1) Aa Aa
  have H := L2 _ H
  exact ⟨H,W.ra Aa,F⟩
 rintro a w ⟨hj,W,F⟩
 have H := K1 _ hj
 clear hj G1 K1 L1
 refine vc tk 5 W F fun a w W F => ?_
 refine De ?_
 have H := Fj H
 subst H
 refine EE (.inl Aa) W F Aa (DJ W Aa) ?_
 exact ⟨rfl,F.done⟩
abbrev K49 : Cn_ := ⟨AaZ,zH,[],false,fun x => Jo x.1 x.2,none⟩
theorem k49 : KO K49 49 := KO.of ⟨fun args w => A9 Tryz.func49 rfl (by decide) args w⟩ rfl (fun _ => rfl) (fun _ => rfl) rfl (fun _ => rfl) (fun _ => rfl) (fun _ => rfl) (fun _ => rfl) fun Y w0 x r g H hg hk => (Wg Y w0  x.1 x.2 r H ).mono fun e w' h => ⟨(),h.1,Stw.ofB h.2⟩
def JA (p0 : List Sq) (p1 : Sq) : ((List Sq) × Bool × Int) → Option (((List Sq) × Bool × Int) ⊕ ((List Sq) × Bool))
  | (x3,x4,x5) => (if x5 < (p0.length : Int) then ((ix p0 x5).bind fun x7 => (if x7.1 = p1.1 ∧ x7.2.1 = p1.2.1 ∧ x7.2.2.1 = p1.2.2.1 ∧ x7.2.2.2.1 = p1.2.2.2.1 ∧ x7.2.2.2.2 = p1.2.2.2.2 then some true else some x4)).bind fun x6 => ((if (!x6) = true then (ix p0 x5).bind fun x11 => (Jo p1 x11).bind fun x12 => some x12 else some false).bind fun x10 => (if x10 = true then (HT x3 ([p1] : List Sq)).bind fun x13 => some (x13,true) else some (x3,x6))).bind fun (x8,x9) => (ix p0 x5).bind fun x14 => (HT x8 ([x14] : List Sq)).bind fun x15 => some (.inl (x15,x9,w64 (x5 + 1))) else some (.inr (x3,x4)))
def Q4 (p0 : List Sq) (p1 : Sq) : Option (List Sq) := (Ah (JA p0 p1) ([],false,0)).bind fun (x1,x2) => (if (!x2) = true then (HT x1 ([p1] : List Sq)).bind fun x17 => some x17 else some x1).bind fun x16 => some x16
abbrev K20 : Cn_ := ⟨[P7,P3],[QC],[],false,fun x => Q4 x.1 x.2,none⟩
theorem k20 : KO (K20) 20 := Eb (ct := (.q (.q (.q (.j (.st false ⟨[(5,false,Dy),(6,false,Ea)],[],[]⟩) (.q (.b (.l ⟨[(5,false,Dy),(6,false,Ea),(7,false,AG)],[],[]⟩ (.q (.s (.b (.j (.st false ⟨[(6,false,Ea)],[],[]⟩) .d (.j (.st false ⟨[(5,false,Dy),(6,false,Ea)],[],[]⟩) (.j (.st false ⟨[(29,false,Ea)],[],[]⟩) .d .d) .d))) .d))))) (.j (.st false ⟨[(5,false,Dy)],[],[]⟩) .d .d)))))) D6 (AH k49 BG) Tryz.func20 (by kernel_rfl) fun x => by kernel_rfl
abbrev K17 : Cn_ := ⟨[P7,P7],[KS],[],false,fun x => AU x.1 x.2,none⟩
theorem k17 : KO (K17) 17 := Eb (ct := (.q (.q (.j (.st true ⟨[],[],[]⟩) (.q (.b (.l ⟨[(5,false,AG)],[],[]⟩ .d))) .d)))) D6 BG Tryz.func17 (by kernel_rfl) fun x => by kernel_rfl
def F6 (x6 : (List (Int × (Int × Int × Int × Int) × (List Sq))) × Int) (x10 : Int) : ((List Sq) × Int) → Option (((List Sq) × Int) ⊕ (List Sq))
  | (x12,x13) => (ix x6.1 x10).bind fun x14 => (if x13 < (x14.2.2.length : Int) then (ix x6.1 x10).bind fun x15 => (ix x15.2.2 x13).bind fun x16 => (Q4 x12 x16).bind fun x17 => some (.inl (x17,w64 (x13 + 1))) else some (.inr x12))
def F4 (x6 : (List (Int × (Int × Int × Int × Int) × (List Sq))) × Int) (x10 : Int) : Int → Option (Int ⊕ (Unit ⊕ (Int ⊕ (Unit ⊕ Bool))))
  | x20 => (if x20 < x10 then ((ix x6.1 x10).bind fun x22 => (ix x6.1 x20).bind fun x23 => (if x22.1 = x23.1 then (ix x6.1 x10).bind fun x24 => (ix x6.1 x20).bind fun x25 => some (decide (x24.2.1.1 = x25.2.1.1 ∧ x24.2.1.2.1 = x25.2.1.2.1 ∧ x24.2.1.2.2.1 = x25.2.1.2.2.1 ∧ x24.2.1.2.2.2 = x25.2.1.2.2.2)) else some false)).bind fun x21 => (if x21 = true then some (.inr (.inr (.inr (.inr false)))) else some (.inl (w64 (x20 + 1)))) else some (.inr (.inl ())))
def FZ (x6 : (List (Int × (Int × Int × Int × Int) × (List Sq))) × Int) : Int → Option (Int ⊕ (Unit ⊕ Bool))
  | x10 => (if x10 < (x6.1.length : Int) then GO ((Ah (F6 x6 x10) ([],0)).bind fun x11 => (ix x6.1 x10).bind fun x18 => (AU x11 x18.2.2).bind fun x19 => (if (!x19) = true then some (.inr (.inr (.inr false))) else Ah (F4 x6 x10) 0)) fun _ => some (.inl (w64 (x10 + 1))) else some (.inr (.inl ())))
def Jg (p0 : Tr27) (p1 : Int) : Option Bool := ((Nj (Tr27.of (p0.un.1,f24 p0.un.2.1,p0.un.2.2.1,p0.un.2.2.2.1,p0.un.2.2.2.2))).bind fun x2 => (if (!x2) = true then some true else (Q6 (Tr27.of (p0.un.1,f24 p0.un.2.1,p0.un.2.2.1,p0.un.2.2.2.1,p0.un.2.2.2.2))).bind fun x3 => some (!x3))).bind fun x1 => (if x1 = true then (Jl).bind fun x4 => some x4 else (PO (Tr27.of (p0.un.1,f24 p0.un.2.1,p0.un.2.2.1,p0.un.2.2.2.1,p0.un.2.2.2.2))).bind fun x5 => (Ht (Tr41.of (x5.un.1,f38 x5.un.2.1,x5.un.2.2.1,x5.un.2.2.2.1,x5.un.2.2.2.2)) p1).bind fun x6 => (if x6.2 ≠ 0 then some true else (if (x6.1.length : Int) = 0 then some true else (if 300 < (x6.1.length : Int) then some true else (ix x6.1 (w64 ((x6.1.length : Int) - 1))).bind fun x8 => (if x8.1 ≠ (-1) then some true else (ix x6.1 (w64 ((x6.1.length : Int) - 1))).bind fun x9 => some (!(decide (x9.2.1.1 = (-1) ∧ x9.2.1.2.1 = (-1) ∧ x9.2.1.2.2.1 = (-1) ∧ x9.2.1.2.2.2 = (-1)))))))).bind fun x7 => (if x7 = true then some false else GO (Ah (FZ x6) 0) fun _ => (Jl).bind fun x26 => some x26))
abbrev K5 : Cn_ := ⟨[T6,DT],[KS],[],false,fun x => Jg x.1 x.2,none⟩
theorem k5 : KO (K5) 5 := Eb (ct := (.q (.s (.j (.st false ⟨[(18,false,Ea)],[],[]⟩) .d .d) (.q (.s (.j (.st false ⟨[(59,false,Ea)],[],[]⟩) .d .d) (.j (.st true ⟨[],[],[]⟩) (.q (.b (.l ⟨[(7,false,AG)],[],[]⟩ (.q (.j (.st true ⟨[],[],[]⟩) (.b (.q (.j (.st false ⟨[(8,false,Dy)],[],[]⟩) (.q (.b (.l ⟨[(8,false,Dy),(9,false,AG)],[],[]⟩ .d))) (.q (.q (.b (.l ⟨[(10,false,AG)],[],[]⟩ (.q (.s (.b (.j (.st false ⟨[(122,false,Ea)],[],[]⟩) .d .d)) .d))))))))) .d))))) .d)))))) D6 (AH k15 (AH k6 (AH k8 (AH k7 (AH k9 (AH k20 (AH k17 BG))))))) Tryz.func5 (by kernel_rfl) fun x => by kernel_rfl
theorem Td (Y : Nat → Prop) (w0 : World) (v1 : Value) (v2 : Value) (p0 : Tr27) (p1 : Int) (r : Bool) (H : Jg p0 p1 = some r) (h_v1 : Sl w0 (NX []) Ud v1 p0.un.2.1.un.2.2.2) (h_v2 : Sl w0 (NX []) Xw v2 p0.un.2.2.2.2) :
    ca_ 5 #[.agg #[Jint p0.un.1,Jint p0.un.2.1.un.1,Jint p0.un.2.1.un.2.1,Jint p0.un.2.1.un.2.2.1,v1,Jint p0.un.2.2.1,Jint p0.un.2.2.2.1,v2],Jint p1] w0 fun e w' => e = .returned (.bool r) ∧ Below w0.heap.size w0 w' := k5.outP (Y := Y) (x := (p0,p1)) H rfl rfl rfl rfl rfl (v1,(v2,())) ⟨h_v1,⟨h_v2,trivial⟩⟩ rfl trivial fun _ => rfl
end
end Go.Proofs.YtkhiflmalgkjiaaGreat
