/- The functions of layer 31, Sm. Conditions: none. -/
import Derived.Test.YtkhiflmalgkjiaaGreatfA0
set_option linter.unusedVariables false
set_option linter.unusedSimpArgs false
open Go Go.RowKit
namespace Go.Proofs.YtkhiflmalgkjiaaGreat
noncomputable section
set_option maxRecDepth 20000
set_option maxHeartbeats 1600000
def CH (fRec : Tr41 → Int → Option (List Int)) (p0 : Tr41) (p1 : Int) : (List Int × Int) → Option ((List Int × Int) ⊕ (List Int))
  | (x5,x6) => (if x6 < (p0.un.2.2.2.2.length : Int) then (ix p0.un.2.2.2.2 x6).bind fun x7 => (fRec (Tr41.of (x7.un.1,f38 x7.un.2.1,x7.un.2.2.1,x7.un.2.2.2.1,x7.un.2.2.2.2)) p1).bind fun x8 => (HU x5 x8).bind fun x9 => some (.inl (x9,w64 (x6 + 1))) else some (.inr x5))
def Ds (fRec : Tr41 → Int → Option (List Int)) (p0 : Tr41) (p1 : Int) : Option (List Int) := (FG (f38 p0.un.2.1) p1).bind fun x1 => (if (decide (p0.un.1 = 2) && decide (p0.un.2.2.1 = p1)) = true then (HU x1 ([p0.un.2.2.2.1] : List Int)).bind fun x3 => some x3 else some x1).bind fun x2 => (Aj (CH fRec p0 p1) (x2,0)).bind fun x4 => some x4
def C5 : Nat → Tr41 → Int → Option (List Int)
  | 0 => fun _ _ => none
  | n + 1 => Ds (C5 n)
def Kk (p0 : Tr41) (p1 : Int) : Option (List Int) := GX fun n => C5 n p0 p1
theorem k56 : KO (K56 fun x => Kk x.1 x.2) 56 := R8 (E := te) (xs := j8) (ys := sW) (bs := []) (io := false) (nn := fun n x => C5 n x.1 x.2) (st := fun g x => Ds (fun yp0 yp1 => g (yp0,yp1)) x.1 x.2) Tryz.func56 rfl (by kernel_rfl) (fun _ => rfl) (fun _ => rfl) fun g hg => Ea (ct := (.q (.q (.j (.st false ⟨[(5,false,VL)],[],[]⟩) (.j (.bl [20]) .d .d) (.j (.st false ⟨[(5,false,VL)],[],[]⟩) (.q (.b (.l ⟨[(5,false,VL),(29,false,AO)],[],[]⟩ .d))) .d))))) DW (AH hg (AH k85 BC)) Tryz.func56 (by kernel_rfl) fun x => by kernel_rfl
def Dc (p0 : Tr41) (p1 : Int) : Option (List Int) := (Kk (Tr41.of (p0.un.1,f38 p0.un.2.1,p0.un.2.2.1,p0.un.2.2.2.1,p0.un.2.2.2.2)) p1).bind fun x1 => (Cm x1).bind fun x2 => (BZ x2).bind fun x3 => some x3
abbrev K26 : Cn_ := ⟨[X6,DJ],[WU],[],false,fun x => Dc x.1 x.2,none⟩
theorem k26 : KO (K26) 26 := Ea (ct := .d) DW (AH k57 (AH k58 (AH k56 BC))) Tryz.func26 (by kernel_rfl) fun x => by kernel_rfl
def ED (p0 : Tr41) : (Int × Int) → Option ((Int × Int) ⊕ Int)
  | (x2,x3) => (if x3 ≤ 4 then (Dc (Tr41.of (p0.un.1,f38 p0.un.2.1,p0.un.2.2.1,p0.un.2.2.2.1,p0.un.2.2.2.2)) x3).bind fun x4 => some (.inl (min (w64 (x2 * (w64 ((x4.length : Int) + 1)))) 100000,w64 (x3 + 1))) else some (.inr x2))
def Hz (p0 : Tr41) : Option Int := (Aj (ED p0) (1,0)).bind fun x1 => some x1
abbrev K25 : Cn_ := ⟨[X6],[JQ],[],false,fun x => Hz x,none⟩
theorem k25 : KO (K25) 25 := Ea (ct := (.q (.q (.j (.st false ⟨[(3,false,AO)],[],[]⟩) (.q (.b (.l ⟨[(3,false,AO),(4,false,AO)],[],[]⟩ .d))) .d)))) DW (AH k26 BC) Tryz.func25 (by kernel_rfl) fun x => by kernel_rfl
theorem vE : type_of% Tryz.underlying100 := Tryz.underlying100
theorem B60 : Bt Tryz.prog 60 [Jint 0,Jint 0,Jint 0,Jint 0,Jint 0] [(0,1),(1,4)] := ⟨⟨.agg #[Jint 0,Jint 0,Jint 0,Jint 0,Jint 0],by kernel_rfl,rfl⟩,⟨_,Ph,fun w => by kernel_rfl⟩⟩
theorem tG : (Tryz.prog.info? 60).bind (·.zero) = some (.agg #[Jint 0,Jint 0,Jint 0,Jint 0,Jint 0]) := by kernel_rfl
theorem Xh : Ty Tryz.prog 60 true 5 := ⟨by kernel_rfl,by kernel_rfl⟩
theorem wO : ∃ z,(Tryz.prog.info? 100).bind (·.zero) = some z ∧ z.cells = [Jint 0,Jint 0,Jint 0,Jint 0,Jint 0].toArray := ⟨.agg #[Jint 0,Jint 0,Jint 0,Jint 0,Jint 0],by kernel_rfl,rfl⟩
theorem m6 : Ar Tryz.prog 100 5 3 1 := ⟨vE,by kernel_rfl⟩
theorem Aag : (Tryz.prog.info? 100).bind (·.zero) = some (.agg #[Jint 0,Jint 0,Jint 0,Jint 0,Jint 0]) := by kernel_rfl
theorem Aav : Ty Tryz.prog 100 true 5 := ⟨by kernel_rfl,by kernel_rfl⟩
abbrev Wv  : List Value := [Jint 0,Jint 0,Jint 0,Jint 0,Jint 0]
def Bm (p0 : Int) : Option Int := (ix ([4,0,1,2,3] : List Int) p0).bind fun x1 => some x1
theorem Mv (Y : Nat → Prop) (w0 : World)  (p0 : Int) (r : Int) (H : Bm p0 = some r)  :
    ca_ 27 #[Jint p0] w0 fun e w' => e = .returned (Jint r) ∧ Below w0.heap.size w0 w' := by
 refine enter Tryz.func27 Aa Tryz.ntmps27 Aa fun a W => ?_
 have F := Stw.start Y w0
 unfold Bm at H
 refine vc tk 7 W F fun a w W F => ?_
 refine ls W F Aa (Wk (v := Value.agg #[Jint 4,Jint 0,Jint 1,Jint 2,Jint 3]) m6 wO W Aa Aa Aa).q fun a w W F => ?_
 refine Hb (cs := (Wv)) W F Aa Aag Aa fun b1 a w W F => ?_
 refine RC 0 W F Aa Aa Aa Aav Aa Aa Aa fun w F => ?_
 refine LD tk 5 W F fun a w W F => ?_
 obtain ⟨x1,h1,H⟩ := BO H
 refine ls W F Aa (HV (0 + (p0).toNat * 1) m6 W Aa Aa Aa h1 Aa).q fun a w W F => ?_
 refine ls W F Aa (Ho (v := Jint x1) 0 W Aa Aa T3 (Ps (base := 0) (m := 5) (l := [4,0,1,2,3]) (enc := Value.int .i64) Aa h1)).q fun a w W F => ?_
 refine LD tk 3 W F fun a w W F => ?_
 refine Ej ?_
 have H := Gj H
 subst H
 refine Ga (.inl Aa) W F Aa (E2 W Aa) ?_
 exact ⟨rfl,F.done⟩
abbrev K27 : Cn_ := ⟨Abx,zW,[],false,fun x => Bm x,none⟩
theorem k27 : KO K27 27 := KO.of ⟨fun args w => Bf Tryz.func27 rfl (by decide) args w⟩ rfl (fun _ => rfl) (fun _ => rfl) rfl (fun _ => rfl) (fun _ => rfl) (fun _ => rfl) (fun _ => rfl) fun Y w0 x r g H hg hk => (Mv Y w0  x r H ).mono fun e w' h => ⟨(),h.1,Stw.ofB h.2⟩
theorem AaD : type_of% Tryz.underlying67 := Tryz.underlying67
theorem H27 : Has Tryz.prog 27 := Lh Tryz.func27
theorem AbB : Ar Tryz.prog 67 5 62 1 := ⟨AaD,by kernel_rfl⟩
theorem T62 : Ty Tryz.prog 62 false 1 := ⟨by kernel_rfl,by kernel_rfl⟩
abbrev Dd (a0 : Sq) : List Value := [Jint a0.1,Jint a0.2.1,Jint a0.2.2.1,Jint a0.2.2.2.1,Jint a0.2.2.2.2]
def CT (p0 : Sq) (p1 : Int) (p2 : Int) : Option Sq := (if p1 = 4 then some (p2,p0.2.1,p0.2.2.1,p0.2.2.2.1,p0.2.2.2.2) else (ix ([p0.2.1,p0.2.2.1,p0.2.2.2.1,p0.2.2.2.2] : List Int) p1).bind fun x6 => some (p0.1,(if p1 = 0 then p2 else p0.2.1),(if p1 = 1 then p2 else p0.2.2.1),(if p1 = 2 then p2 else p0.2.2.2.1),(if p1 = 3 then p2 else p0.2.2.2.2))).bind fun (x1,x2,x3,x4,x5) => some (x1,(x2,x3,x4,x5))
theorem Qg (Y : Nat → Prop) (w0 : World)  (p0 : Sq) (p1 : Int) (p2 : Int) (r : Sq) (H : CT p0 p1 p2 = some r)  :
    ca_ 28 #[.agg #[Jint p0.1,Jint p0.2.1,Jint p0.2.2.1,Jint p0.2.2.2.1,Jint p0.2.2.2.2],Jint p1,Jint p2] w0 fun e w' => e = .returned (.agg #[Jint r.1,Jint r.2.1,Jint r.2.2.1,Jint r.2.2.2.1,Jint r.2.2.2.2]) ∧ Below w0.heap.size w0 w' := by
 refine enter Tryz.func28 Aa Tryz.ntmps28 Aa fun a W => ?_
 have F := Stw.start Y w0
 unfold CT at H
 refine vc tk 2 W F fun a w W F => ?_
 refine IR (cs := (Dd p0)) W F Aa Aa Aa fun b1 a w W F => ?_
 refine Hb (cs := (Wv)) W F Aa tG Aa fun b2 a w W F => ?_
 refine Ig (BJ ?_)
 obtain ⟨o1,G1,K1⟩ := BO H
 refine Hg (fun a w => ∃ x1 : Int, ∃ x2 : Int, ∃ x3 : Int, ∃ x4 : Int, ∃ x5 : Int,some ((x1,x2,x3,x4,x5)) = some o1 ∧ Fr 16 [] [(3,pp b1),(6,pp b2)] a ∧ sy Y w0 [(b2,[Jint 0,Jint 0,Jint 0,Jint 0,Jint 0]),(b1,[Jint x1,Jint x2,Jint x3,Jint x4,Jint x5])] [] w) ?_ ?_
 ·
  have H := G1
  clear G1 K1
  refine vc tk 6 W F fun a w W F => ?_
  refine Mg W Aa H (fun W H => ?_) fun W H => ?_
  ·
   refine vc tk 3 W F fun a w W F => ?_
   refine RC 1 W F Aa Aa Aa T3 Aa Aa Aa fun w F => ?_
   refine Ig (BJ ?_)
   have F := F.frontM (i := 1) Aa Aa
   have F := F.frontM (i := 1) Aa Aa
   exact ⟨_,_,_,_,_,H,W.ra Aa,F⟩
  refine vc tk 4 W F fun a w W F => ?_
  obtain ⟨x6,h1,H⟩ := BO H
  refine ls W F Aa (HV (1 + (p1).toNat * 1) Ud W Aa Aa Aa h1 Aa).q fun a w W F => ?_
  refine Qr (o := 1) (m := 4) (i := p1) (l := ([p0.2.1,p0.2.2.1,p0.2.2.2.1,p0.2.2.2.2] : List Int)) (x := x6) (cs := (Dd p0)) (cs' := [Jint p0.1,Jint (if p1 = 0 then p2 else p0.2.1),Jint (if p1 = 1 then p2 else p0.2.2.1),Jint (if p1 = 2 then p2 else p0.2.2.2.1),Jint (if p1 = 3 then p2 else p0.2.2.2.2)]) 1 W F Aa Aa Aa T3 Aa Aa Aa Aa h1 (by intro k hk hn; rw [hk]; match k,hn with | 0,_ => rfl | 1,_ => rfl | 2,_ => rfl | 3,_ => rfl | (z + 4),h => exact absurd h (by omega)) fun w F => ?_
  have F : sy Y w0 [(b2,(Wv)),(b1,[Jint p0.1,Jint (if p1 = 0 then p2 else p0.2.1),Jint (if p1 = 1 then p2 else p0.2.2.1),Jint (if p1 = 2 then p2 else p0.2.2.2.1),Jint (if p1 = 3 then p2 else p0.2.2.2.2)])] [] w := F
  refine Ig (BJ ?_)
  have F := F.frontM (i := 1) Aa Aa
  have F := F.frontM (i := 1) Aa Aa
  exact ⟨_,_,_,_,_,H,W.ra Aa,F⟩
 rintro a w ⟨x1,x2,x3,x4,x5,hj,W,F⟩
 have hj := Gj hj
 subst hj
 have H := K1
 clear G1 K1
 refine bW tk 3 [1] W F (ai fun a w W F => ?_)
 refine RC 0 W F Aa Aa Aa Xh Aa Aa Aa fun w F => ?_
 refine LD tk 2 W F fun a w W F => ?_
 refine Ej ?_
 have H := Gj H
 subst H
 refine Ga (.inl Aa) W F Aa (Q4 0 W Aa Aa Xh Aa) ?_
 exact ⟨rfl,F.done⟩
abbrev K28 : Cn_ := ⟨Abd,Aam,[],false,fun x => CT x.1 x.2.1 x.2.2,none⟩
theorem k28 : KO K28 28 := KO.of ⟨fun args w => Bf Tryz.func28 rfl (by decide) args w⟩ rfl (fun _ => rfl) (fun _ => rfl) rfl (fun _ => rfl) (fun _ => rfl) (fun _ => rfl) (fun _ => rfl) fun Y w0 x r g H hg hk => (Qg Y w0  x.1 x.2.1 x.2.2 r H ).mono fun e w' h => ⟨(),h.1,Stw.ofB h.2⟩
theorem H28 : Has Tryz.prog 28 := Lh Tryz.func28
def CG (p0 : Int) : Bool := (decide (0 ≤ p0) && decide (p0 < 4))
abbrev AaS : Cn_ := ⟨[DJ],[KP],[],false,fun x => some (CG x),some ⟨fun x => CG x,fun _ => rfl⟩⟩
theorem Aas : KO (AaS) 134 := Ea (ct := (.q (.j (.bl [2]) .d .d))) DW BC Tryz.func134 (by kernel_rfl) fun x => by kernel_rfl
theorem MN (Y : Nat → Prop) (w0 : World)  (p0 : Int) (r : Bool) (H : CG p0 = r)  :
    ca_ 134 #[Jint p0] w0 fun e w' => e = .returned (.bool r) ∧ Below w0.heap.size w0 w' := Aas.outP (Y := Y) (x := p0) (congrArg some H) rfl rfl rfl rfl rfl () trivial rfl trivial fun _ => rfl
theorem wW : Has Tryz.prog 134 := Lh Tryz.func134
def Hk (p0 : Int × Int × Int × Int) (p1 : Int) : Option Int := (if (!(CG p1)) = true then some 0 else (ix ([p0.1,p0.2.1,p0.2.2.1,p0.2.2.2] : List Int) p1).bind fun x1 => some x1)
theorem Vv (Y : Nat → Prop) (w0 : World)  (p0 : Int × Int × Int × Int) (p1 : Int) (r : Int) (H : Hk p0 p1 = some r)  :
    ca_ 145 #[.agg #[Jint p0.1,Jint p0.2.1,Jint p0.2.2.1,Jint p0.2.2.2],Jint p1] w0 fun e w' => e = .returned (Jint r) ∧ Below w0.heap.size w0 w' := by
 refine enter Tryz.func145 Aa Tryz.ntmps145 Aa fun a W => ?_
 have F := Stw.start Y w0
 unfold Hk at H
 refine vc tk 2 W F fun a w W F => ?_
 refine IR (cs := (dU p0)) W F Aa Aa Aa fun b1 a w W F => ?_
 refine LD tk 7 W F fun a w W F => ?_
 refine ls W F Aa (Hi (v := Value.bool (CG p1)) W wW Aa (fun w F => MN any w p1 _ Aa)) fun a w W F => ?_
 refine LD tk 3 W F fun a w W F => ?_
 refine Up W Aa H (fun W H => ?_) fun W H => ?_
 ·
  refine vc tk 5 W F fun a w W F => ?_
  refine Ej (I6 ?_)
  have H := Gj H
  subst H
  refine Ga (.inl Aa) W F Aa (E2 W Aa) ?_
  exact ⟨rfl,F.done⟩
 refine tN tk 5 W F fun a w W F => ?_
 obtain ⟨x1,h1,H⟩ := BO H
 refine ls W F Aa (HV (0 + (p1).toNat * 1) Ud W Aa Aa Aa h1 Aa).q fun a w W F => ?_
 refine ls W F Aa (Ho (v := Jint x1) 0 W Aa Aa T3 (Ps (base := 0) (m := 4) (l := [p0.1,p0.2.1,p0.2.2.1,p0.2.2.2]) (enc := Value.int .i64) Aa h1)).q fun a w W F => ?_
 refine LD tk 3 W F fun a w W F => ?_
 refine Ej ?_
 have H := Gj H
 subst H
 refine Ga (.inl Aa) W F Aa (E2 W Aa) ?_
 exact ⟨rfl,F.done⟩
abbrev Aaq : Cn_ := ⟨wT,wC,[],false,fun x => Hk x.1 x.2,none⟩
theorem AaH : KO Aaq 145 := KO.of ⟨fun args w => Bf Tryz.func145 rfl (by decide) args w⟩ rfl (fun _ => rfl) (fun _ => rfl) rfl (fun _ => rfl) (fun _ => rfl) (fun _ => rfl) (fun _ => rfl) fun Y w0 x r g H hg hk => (Vv Y w0  x.1 x.2 r H ).mono fun e w' h => ⟨(),h.1,Stw.ofB h.2⟩
def JD (p0 : Int) (p1 : Int) (p2 : Int) (p3 : Int × Int × Int × Int) : Option Int := (if p0 = 4 then some p2 else (if p0 = 5 then some p1 else (if (DX p0) = true then (Hk p3 p0).bind fun x1 => some x1 else some (-1))))
abbrev Aab : Cn_ := ⟨[DJ,DJ,DJ,TR],[JQ],[],false,fun x => JD x.1 x.2.1 x.2.2.1 x.2.2.2,none⟩
theorem Aa7 : KO (Aab) 132 := Ea (ct := .d) DW (AH o5 (AH AaH BC)) Tryz.func132 (by kernel_rfl) fun x => by kernel_rfl
def Bo (Fa52 : (Int × Sq) → Tr38 → Option Bool) (p0 : Int × Sq) (p1 : Tr38) : Option Bool := (Fa52 p0 p1).bind fun x1 => some (!x1)
def Jc (Fa52 : (Int × Sq) → Tr38 → Option Bool) (p0 : Int × Sq) (p1 : Tr38) : Option Bool := (Fa52 p0 (f38 p1)).bind fun x1 => some (!x1)
theorem ML : @Jc = @Bo := by
 unfold Jc Bo
 simp only [Tr38.re_eq]
abbrev AaW (h104 : TT te.c (Dp Ka []) → Option (TT te.c (IX Ka Qx [] false))) : Cn_ := ⟨[(.b true,[.d true (.pr Jb Yc)]),N0],[KP],[],false,fun x => Bo (fun yp0 yp1 => h104 (yp0,yp1)) x.1 x.2,none⟩
theorem uU (h104) (kh104 : KO (bC h104) 104) : KO (AaW h104) 133 := Ea (ct := .d) DW (AH kh104 BC) Tryz.func133 (by kernel_rfl) fun x => by rw [← ML]; kernel_rfl
def Am (Fa52 : (Int × Sq) → Tr38 → Option Bool) (p0 : List Tr38) (p1f0 : Int × Sq) : Int → Option (Int ⊕ (Unit ⊕ Int))
  | x1 => (if x1 < (p0.length : Int) then (ix p0 x1).bind fun x2 => ((Bo Fa52) p1f0 x2).bind fun x3 => (if x3 = true then some (.inr (.inr x1)) else some (.inl (w64 (x1 + 1)))) else some (.inr (.inl ())))
def Av (Fa52 : (Int × Sq) → Tr38 → Option Bool) (p0 : List Tr38) (p1f0 : Int × Sq) : Option Int := GN (Aj (Am Fa52 p0 p1f0) 0) fun _ => some (-1)
def CE (Fa52 : (Int × Sq) → Tr38 → Option Bool) (p0 : List Tr38) (p1f0 : Int × Sq) : Int → Option (Int ⊕ (Unit ⊕ Int))
  | x1 => (if x1 < (p0.length : Int) then (ix p0 x1).bind fun x2 => ((Bo Fa52) p1f0 (f38 x2)).bind fun x3 => (if x3 = true then some (.inr (.inr x1)) else some (.inl (w64 (x1 + 1)))) else some (.inr (.inl ())))
theorem FE : @CE = @Am := by
 unfold CE Am
 simp only [Tr38.re_eq]
def D3 (Fa52 : (Int × Sq) → Tr38 → Option Bool) (p0 : List Tr38) (p1f0 : Int × Sq) : Option Int := GN (Aj (CE Fa52 p0 p1f0) 0) fun _ => some (-1)
theorem F5 : @D3 = @Av := by
 unfold D3 Av
 simp only [FE]
abbrev rD (h104 : TT te.c (Dp Ka []) → Option (TT te.c (IX Ka Qx [] false))) : Cn_ := ⟨[Vh,(.fn 133 [(true,6)] 0,[.d true (.pr Jb Yc)])],[JQ],[],false,fun x => Av (fun yp0 yp1 => h104 (yp0,yp1)) x.1 x.2,none⟩
theorem tB (h104) (kh104 : KO (bC h104) 104) : KO (rD h104) 139 := Ea (ct := (.q (.j (.st true ⟨[],[],[]⟩) (.q (.b (.l ⟨[(8,false,AO)],[],[]⟩ .d))) .d))) DW (AH kh104 (AH (uU _ kh104) BC)) Tryz.func139 (by kernel_rfl) fun x => by rw [← F5]; kernel_rfl
def Ay (Fa52 : (Int × Sq) → Tr38 → Option Bool) (p0 : List Tr38) (p1f0 : Int × Sq) : Option Bool := ((Av Fa52) p0 p1f0).bind fun x1 => some (decide (0 ≤ x1))
abbrev pF (h104 : TT te.c (Dp Ka []) → Option (TT te.c (IX Ka Qx [] false))) : Cn_ := ⟨[Vh,(.fn 133 [(true,6)] 0,[.d true (.pr Jb Yc)])],[KP],[],false,fun x => Ay (fun yp0 yp1 => h104 (yp0,yp1)) x.1 x.2,none⟩
theorem rV (h104) (kh104 : KO (bC h104) 104) : KO (pF h104) 109 := Ea (ct := .d) DW (AH kh104 (AH (tB _ kh104) BC)) Tryz.func109 (by kernel_rfl) fun x => by kernel_rfl
def An (Fa52 : (Int × Sq) → Tr38 → Option Bool) (p0 : List Tr38) (p1f0 : Int × Sq) : Int → Option (Int ⊕ (Unit ⊕ Int))
  | x1 => (if x1 < (p0.length : Int) then (ix p0 x1).bind fun x2 => (Fa52 p1f0 x2).bind fun x3 => (if x3 = true then some (.inr (.inr x1)) else some (.inl (w64 (x1 + 1)))) else some (.inr (.inl ())))
def Aw (Fa52 : (Int × Sq) → Tr38 → Option Bool) (p0 : List Tr38) (p1f0 : Int × Sq) : Option Int := GN (Aj (An Fa52 p0 p1f0) 0) fun _ => some (-1)
def CD (Fa52 : (Int × Sq) → Tr38 → Option Bool) (p0 : List Tr38) (p1f0 : Int × Sq) : Int → Option (Int ⊕ (Unit ⊕ Int))
  | x1 => (if x1 < (p0.length : Int) then (ix p0 x1).bind fun x2 => (Fa52 p1f0 (f38 x2)).bind fun x3 => (if x3 = true then some (.inr (.inr x1)) else some (.inl (w64 (x1 + 1)))) else some (.inr (.inl ())))
theorem FF : @CD = @An := by
 unfold CD An
 simp only [Tr38.re_eq]
def D4 (Fa52 : (Int × Sq) → Tr38 → Option Bool) (p0 : List Tr38) (p1f0 : Int × Sq) : Option Int := GN (Aj (CD Fa52 p0 p1f0) 0) fun _ => some (-1)
theorem F6 : @D4 = @Aw := by
 unfold D4 Aw
 simp only [FF]
abbrev rI (h104 : TT te.c (Dp Ka []) → Option (TT te.c (IX Ka Qx [] false))) : Cn_ := ⟨[Vh,(.fn 104 [(true,6)] 0,[.d true (.pr Jb Yc)])],[JQ],[],false,fun x => Aw (fun yp0 yp1 => h104 (yp0,yp1)) x.1 x.2,none⟩
theorem qY (h104) (kh104 : KO (bC h104) 104) : KO (rI h104) 139 := Ea (ct := (.q (.j (.st true ⟨[],[],[]⟩) (.q (.b (.l ⟨[(8,false,AO)],[],[]⟩ .d))) .d))) DW (AH kh104 BC) Tryz.func139 (by kernel_rfl) fun x => by rw [← F6]; kernel_rfl
def Az (Fa52 : (Int × Sq) → Tr38 → Option Bool) (p0 : List Tr38) (p1f0 : Int × Sq) : Option Bool := ((Aw Fa52) p0 p1f0).bind fun x1 => some (decide (0 ≤ x1))
abbrev pN (h104 : TT te.c (Dp Ka []) → Option (TT te.c (IX Ka Qx [] false))) : Cn_ := ⟨[Vh,(.fn 104 [(true,6)] 0,[.d true (.pr Jb Yc)])],[KP],[],false,fun x => Az (fun yp0 yp1 => h104 (yp0,yp1)) x.1 x.2,none⟩
theorem pH (h104) (kh104 : KO (bC h104) 104) : KO (pN h104) 109 := Ea (ct := .d) DW (AH kh104 (AH (qY _ kh104) BC)) Tryz.func109 (by kernel_rfl) fun x => by kernel_rfl
def A4 (fRec : (Int × Sq) → Tr38 → Option Bool) (p0 : Int × Sq) (p1 : Tr38) : Option Bool := (if p1.un.1 = 1 then some true else (if p1.un.1 = 3 then (if (DX p1.un.2.1) = true then (JD p1.un.2.1 p0.1 p0.2.1 p0.2.2).bind fun x2 => some (decide (x2 = p1.un.2.2.1)) else some false).bind fun x1 => some x1 else (if p1.un.1 = 4 then (if 0 < (p1.un.2.2.2.length : Int) then (ix p1.un.2.2.2 0).bind fun x4 => ((Bo fRec) p0 x4).bind fun x5 => some x5 else some false).bind fun x3 => some x3 else (if p1.un.1 = 5 then ((Ay fRec) p1.un.2.2.2 p0).bind fun x6 => some (!x6) else (if p1.un.1 = 6 then ((Az fRec) p1.un.2.2.2 p0).bind fun x7 => some x7 else some false)))))
def AY : Nat → (Int × Sq) → Tr38 → Option Bool
  | 0 => fun _ _ => none
  | n + 1 => A4 (AY n)
def Dq (p0 : Int × Sq) (p1 : Tr38) : Option Bool := GX fun n => AY n p0 p1
def Gi (fRec : (Int × Sq) → Tr38 → Option Bool) (p0 : Int × Sq) (p1 : Tr38) : Option Bool := (if p1.un.1 = 1 then some true else (if p1.un.1 = 3 then (if (DX p1.un.2.1) = true then (JD p1.un.2.1 p0.1 p0.2.1 p0.2.2).bind fun x2 => some (decide (x2 = p1.un.2.2.1)) else some false).bind fun x1 => some x1 else (if p1.un.1 = 4 then (if 0 < (p1.un.2.2.2.length : Int) then (ix p1.un.2.2.2 0).bind fun x4 => ((Bo fRec) p0 (f38 x4)).bind fun x5 => some x5 else some false).bind fun x3 => some x3 else (if p1.un.1 = 5 then ((Ay fRec) p1.un.2.2.2 p0).bind fun x6 => some (!x6) else (if p1.un.1 = 6 then ((Az fRec) p1.un.2.2.2 p0).bind fun x7 => some x7 else some false)))))
theorem Ji : @Gi = @A4 := by
 unfold Gi A4
 simp only [Tr38.re_eq]
theorem AaI : KO (bC fun x => Dq x.1 x.2) 104 := R8 (E := te) (xs := Ka) (ys := Qx) (bs := []) (io := false) (nn := fun n x => AY n x.1 x.2) (st := fun g x => A4 (fun yp0 yp1 => g (yp0,yp1)) x.1 x.2) Tryz.func104 rfl (by kernel_rfl) (fun _ => rfl) (fun _ => rfl) fun g hg => Ea (ct := (.q (.s (.q (.b (.q (.c .d (.q (.c (.j (.st false ⟨[(4,false,Ez)],[],[]⟩) .d .d) (.q (.c (.j (.st false ⟨[(4,false,Ez)],[],[]⟩) .d .d) .d)))))))) .d))) DW (AH hg (AH o5 (AH Aa7 (AH (uU _ hg) (AH (rV _ hg) (AH (pH _ hg) BC)))))) Tryz.func104 (by kernel_rfl) fun x => by rw [← Ji]; kernel_rfl
def Fv (p0 : Tr38) (p1 : Int) (p2 : Int) (p3 : Int × Int × Int × Int) : Option Bool := (Dq (p1,p2,p3) p0).bind fun x1 => some x1
def Tc (p0 : Tr38) (p1 : Int) (p2 : Int) (p3 : Int × Int × Int × Int) : Option Bool := (Dq (p1,p2,p3) (f38 p0)).bind fun x1 => some x1
theorem WP : @Tc = @Fv := by
 unfold Tc Fv
 simp only [Tr38.re_eq]
abbrev K72 : Cn_ := ⟨[N0,DJ,DJ,TR],[KP],[],false,fun x => Fv x.1 x.2.1 x.2.2.1 x.2.2.2,none⟩
theorem k72 : KO (K72) 72 := Ea (ct := .d) DW (AH AaI BC) Tryz.func72 (by kernel_rfl) fun x => by rw [← WP]; kernel_rfl
theorem Xm (Y : Nat → Prop) (w0 : World) (v1 : Value) (p0 : Tr38) (p1 : Int) (p2 : Int) (p3 : Int × Int × Int × Int) (r : Bool) (H : Fv p0 p1 p2 p3 = some r) (h_v1 : Sl w0 (NX []) Lp v1 p0.un.2.2.2) :
    ca_ 72 #[.agg #[Jint p0.un.1,Jint p0.un.2.1,Jint p0.un.2.2.1,v1],Jint p1,Jint p2,.agg #[Jint p3.1,Jint p3.2.1,Jint p3.2.2.1,Jint p3.2.2.2]] w0 fun e w' => e = .returned (.bool r) ∧ Below w0.heap.size w0 w' := k72.outP (Y := Y) (x := (p0,p1,p2,p3)) H rfl rfl rfl rfl rfl (v1,()) ⟨h_v1,trivial⟩ rfl trivial fun _ => rfl
theorem uE : type_of% Tryz.underlying114 := Tryz.underlying114
theorem H72 : Has Tryz.prog 72 := Lh Tryz.func72
abbrev CY (x : Sq) : Value := .agg #[Jint x.1,Jint x.2.1,Jint x.2.2.1,Jint x.2.2.2.1,Jint x.2.2.2.2]
abbrev bL (x : Sq) : List Int := [x.1,x.2.1,x.2.2.1,x.2.2.2.1,x.2.2.2.2]
abbrev AQ (x y : Sq) : Bool := JM (bL x) (bL y)
theorem Gz : Lo AQ := p9 bL 5 (fun _ => rfl) fun x y h => by simp only [bL,List.cons.injEq] at h; simp only [Prod.ext_iff,h,and_self]
theorem kE : Bt Tryz.prog 114 [] [] := ⟨⟨.agg #[],by kernel_rfl,rfl⟩,⟨_,uE,fun w => by kernel_rfl⟩⟩
instance : DecidableEq (Int × Int) := inferInstance
instance : DecidableEq (Int × Int × Int) := inferInstance
instance : DecidableEq (Int × Int × Int × Int) := inferInstance
instance : DecidableEq Sq := inferInstance
theorem lT : KeyEnc Tryz.prog 60 CY := ⟨⟨_,Ph,.inl fun _ _ => rfl⟩,fun x y w => (zF x.1 x.2.1 x.2.2.1 x.2.2.2.1 x.2.2.2.2 y.1 y.2.1 y.2.2.1 y.2.2.2.1 y.2.2.2.2 w).trans (by congr 1; exact decide_eq_decide.2 (by simp only [Prod.ext_iff,and_assoc])),fun b x w => by kernel_rfl,fun x => by simp [Instr.sameBits]⟩
theorem Z29 : (Tryz.prog.info? 29).bind (·.zero) = some (.agg #[Jint 0,Jint 0,Jint 0,Jint 0]) := by kernel_rfl
def EN (p0 : Int) (p1 : Int) : Option Bool := (if 0 ≤ p1 then (EE p0).bind fun x2 => some (decide (p1 ≤ x2)) else some false).bind fun x1 => some x1
abbrev zL : Cn_ := ⟨[DJ,DJ],[KP],[],false,fun x => EN x.1 x.2,none⟩
theorem AaE : KO (zL) 135 := Ea (ct := (.q (.j (.st false ⟨[(4,false,Ez)],[],[]⟩) .d .d))) DW (AH vY BC) Tryz.func135 (by kernel_rfl) fun x => by kernel_rfl
theorem TI (Y : Nat → Prop) (w0 : World)  (p0 : Int) (p1 : Int) (r : Bool) (H : EN p0 p1 = some r)  :
    ca_ 135 #[Jint p0,Jint p1] w0 fun e w' => e = .returned (.bool r) ∧ Below w0.heap.size w0 w' := AaE.outP (Y := Y) (x := (p0,p1)) H rfl rfl rfl rfl rfl () trivial rfl trivial fun _ => rfl
theorem zH : Has Tryz.prog 135 := Lh Tryz.func135
abbrev nY  : List Value := [Jint 0,Jint 0,Jint 0,Jint 0]
def Dk (p0 : Int × Int × Int × Int) (p1 : Int) (p2 : Int) : Option (Int × Int × Int × Int) := ((if (CG p1) = true then (EN p1 p2).bind fun x6 => some x6 else some false).bind fun x5 => (if x5 = true then (ix ([p0.1,p0.2.1,p0.2.2.1,p0.2.2.2] : List Int) p1).bind fun x7 => some ((if p1 = 0 then p2 else p0.1),(if p1 = 1 then p2 else p0.2.1),(if p1 = 2 then p2 else p0.2.2.1),(if p1 = 3 then p2 else p0.2.2.2)) else some (p0.1,p0.2.1,p0.2.2.1,p0.2.2.2))).bind fun (x1,x2,x3,x4) => some (x1,x2,x3,x4)
theorem Uk (Y : Nat → Prop) (w0 : World)  (p0 : Int × Int × Int × Int) (p1 : Int) (p2 : Int) (r : (Int × Int × Int × Int)) (H : Dk p0 p1 p2 = some r)  :
    ca_ 105 #[.agg #[Jint p0.1,Jint p0.2.1,Jint p0.2.2.1,Jint p0.2.2.2],Jint p1,Jint p2] w0 fun e w' => e = .returned (.agg #[Jint r.1,Jint r.2.1,Jint r.2.2.1,Jint r.2.2.2]) ∧ Below w0.heap.size w0 w' := by
 refine enter Tryz.func105 Aa Tryz.ntmps105 Aa fun a W => ?_
 have F := Stw.start Y w0
 unfold Dk at H
 refine vc tk 2 W F fun a w W F => ?_
 refine IR (cs := (dU p0)) W F Aa Aa Aa fun b1 a w W F => ?_
 refine Hb (cs := (nY)) W F Aa Z29 Aa fun b2 a w W F => ?_
 refine Ig (BJ ?_)
 obtain ⟨o1,G1,K1⟩ := BO H
 refine Hg (fun a w => ∃ x1 : Int, ∃ x2 : Int, ∃ x3 : Int, ∃ x4 : Int,some ((x1,x2,x3,x4)) = some o1 ∧ Fr 18 [] [(3,pp b1),(6,pp b2)] a ∧ sy Y w0 [(b2,[Jint 0,Jint 0,Jint 0,Jint 0]),(b1,[Jint x1,Jint x2,Jint x3,Jint x4])] [] w) ?_ ?_
 ·
  have H := G1
  clear G1 K1
  obtain ⟨o2,G2,K2⟩ := BO H
  refine Hg (fun a w => ∃ x5 : Bool,some (x5) = some o2 ∧ Fr 18 [] [(1,Jint p1),(2,Jint p2),(3,pp b1),(6,pp b2),(13,.bool x5)] a ∧ sy Y w0 [(b2,[Jint 0,Jint 0,Jint 0,Jint 0]),(b1,[Jint p0.1,Jint p0.2.1,Jint p0.2.2.1,Jint p0.2.2.2])] [] w) ?_ ?_
  ·
   have H := G2
   clear G2 K2
   refine vc tk 2 W F fun a w W F => ?_
   refine ls W F Aa (Hi (v := Value.bool (CG p1)) W wW Aa (fun w F => MN any w p1 _ Aa)) fun a w W F => ?_
   refine ls W F Aa (Gr W Aa).q fun a w W F => ?_
   rcases bxq (CG p1) with hb | hb
   ·
    have H := Ys hb H
    rw [hb] at W
    clear hb
    refine vl tk 2 W F fun a w W F => ?_
    refine AaM (Jz W Aa Aa Aa Aa) ?_
    obtain ⟨x6,h1,H⟩ := BO H
    refine ls W F Aa (Hi (v := Value.bool x6) W zH Aa (fun w F => TI any w p1 p2 _ h1)) fun a w W F => ?_
    refine vl tk 2 W F fun a w W F => ?_
    refine BJ ?_
    have F := F.frontM (i := 1) Aa Aa
    have F := F.frontM (i := 1) Aa Aa
    exact ⟨_,H,W.ra Aa,F⟩
   have H := Yp (by rw [hb]; decide) H
   rw [hb] at W
   clear hb
   refine vl tk 5 W F fun a w W F => ?_
   refine BJ ?_
   have F := F.frontM (i := 1) Aa Aa
   have F := F.frontM (i := 1) Aa Aa
   exact ⟨_,H,W.ra Aa,F⟩
  rintro a w ⟨x5,hj,W,F⟩
  have hj := Gj hj
  subst hj
  have H := K2
  clear G2 K2
  refine Up W Aa H (fun W H => ?_) fun W H => ?_
  ·
   refine vc tk 3 W F fun a w W F => ?_
   obtain ⟨x7,h2,H⟩ := BO H
   refine ls W F Aa (HV (0 + (p1).toNat * 1) Ud W Aa Aa Aa h2 Aa).q fun a w W F => ?_
   refine Qr (o := 0) (m := 4) (i := p1) (l := ([p0.1,p0.2.1,p0.2.2.1,p0.2.2.2] : List Int)) (x := x7) (cs := (dU p0)) (cs' := [Jint (if p1 = 0 then p2 else p0.1),Jint (if p1 = 1 then p2 else p0.2.1),Jint (if p1 = 2 then p2 else p0.2.2.1),Jint (if p1 = 3 then p2 else p0.2.2.2)]) 1 W F Aa Aa Aa T3 Aa Aa Aa Aa h2 (by intro k hk hn; rw [hk]; match k,hn with | 0,_ => rfl | 1,_ => rfl | 2,_ => rfl | 3,_ => rfl | (z + 4),h => exact absurd h (by omega)) fun w F => ?_
   have F : sy Y w0 [(b2,(nY)),(b1,[Jint (if p1 = 0 then p2 else p0.1),Jint (if p1 = 1 then p2 else p0.2.1),Jint (if p1 = 2 then p2 else p0.2.2.1),Jint (if p1 = 3 then p2 else p0.2.2.2)])] [] w := F
   refine Ig (BJ ?_)
   have F := F.frontM (i := 1) Aa Aa
   have F := F.frontM (i := 1) Aa Aa
   exact ⟨_,_,_,_,H,W.ra Aa,F⟩
  refine F9 (BJ ?_)
  have F := F.frontM (i := 1) Aa Aa
  have F := F.frontM (i := 1) Aa Aa
  exact ⟨_,_,_,_,H,W.ra Aa,F⟩
 rintro a w ⟨x1,x2,x3,x4,hj,W,F⟩
 have hj := Gj hj
 subst hj
 have H := K1
 clear G1 K1
 refine bW tk 3 [1] W F (ai fun a w W F => ?_)
 refine RC 0 W F Aa Aa Aa kU Aa Aa Aa fun w F => ?_
 refine LD tk 2 W F fun a w W F => ?_
 refine Ej ?_
 have H := Gj H
 subst H
 refine Ga (.inl Aa) W F Aa (Q4 0 W Aa Aa kU Aa) ?_
 exact ⟨rfl,F.done⟩
abbrev Abk : Cn_ := ⟨xL,yL,[],false,fun x => Dk x.1 x.2.1 x.2.2,none⟩
theorem Abf : KO Abk 105 := KO.of ⟨fun args w => Bf Tryz.func105 rfl (by decide) args w⟩ rfl (fun _ => rfl) (fun _ => rfl) rfl (fun _ => rfl) (fun _ => rfl) (fun _ => rfl) (fun _ => rfl) fun Y w0 x r g H hg hk => (Uk Y w0  x.1 x.2.1 x.2.2 r H ).mono fun e w' h => ⟨(),h.1,Stw.ofB h.2⟩
def CM (p0 : Sq) (p1 : Int) (p2 : Int) : Option Sq := (if p1 = 4 then some p2 else some p0.1).bind fun x1 => (Dk p0.2 p1 p2).bind fun x2 => some (x1,x2)
abbrev K73 : Cn_ := ⟨[TB,DJ,DJ],[(.b true,[.d false Yc])],[],false,fun x => CM x.1 x.2.1 x.2.2,none⟩
theorem k73 : KO (K73) 73 := Ea (ct := (.q (.j (.st false ⟨[],[(0,[some (.d false Jb),none,none,none,none])],[]⟩) .d .d))) DW (AH Abf BC) Tryz.func73 (by kernel_rfl) fun x => by kernel_rfl
theorem PJ (Y : Nat → Prop) (w0 : World)  (p0 : Sq) (p1 : Int) (p2 : Int) (r : Sq) (H : CM p0 p1 p2 = some r)  :
    ca_ 73 #[.agg #[Jint p0.1,Jint p0.2.1,Jint p0.2.2.1,Jint p0.2.2.2.1,Jint p0.2.2.2.2],Jint p1,Jint p2] w0 fun e w' => e = .returned (.agg #[Jint r.1,Jint r.2.1,Jint r.2.2.1,Jint r.2.2.2.1,Jint r.2.2.2.2]) ∧ Below w0.heap.size w0 w' := k73.outP (Y := Y) (x := (p0,p1,p2)) H rfl rfl rfl rfl rfl () trivial rfl trivial fun _ => rfl
theorem XJ : type_of% Tryz.underlying86 := Tryz.underlying86
theorem H73 : Has Tryz.prog 73 := Lh Tryz.func73
theorem zD : Has Tryz.prog 44 := Lh Tryz.func44
theorem eK (Y : Nat → Prop) (X : List Nat) (w0 : World) (v0 v1 : Value) (s0 s1 : List Sq) (hL : Stw ⟨Y,X,w0⟩ [] [Cj v0 CY AQ s0,Cj v1 CY AQ s1] w0) :
    ca_ 75 #[v0,v1] w0 fun e w' => ∃ x : Unit,e = .returned (.tuple #[]) ∧ Stw ⟨Y,X,w0⟩ [] [Cj v1 CY AQ s1,Cj v0 CY AQ (Mk AQ s0 s1)] w' := by
  refine enter Tryz.func75 Aa Tryz.ntmps75 Aa fun a W => ?_
  have hA : Ku AQ s0 := hL.asc (i := 0) Aa
  refine Qm (Lg (l := [_,_]) ?_)
  refine ls W hL Aa (Gr W Aa).q fun a w W F => ?_
  refine Oa (q := 1) W F Aa Aa Aa Aa XJ fun i b es clock l a w hv hE W F => ?_
  refine Ig (BJ (O0 ?_))
  refine Uq (fun done s => s = Mk AQ s0 done) (fun _ => [(0,v0)]) (fun s => [Cj v0 CY AQ s]) (W.ra Aa) F hE Aa Aa Aa (fun done kx s seen a w hk hc hR W F => ?_) fun done s seen a w hp hR W F => ?_
  · refine O0 (Qm (Lg (l := [_,_,_,_]) ?_))
    refine ls W F Aa (Oe (q := 0) (q' := 1) W Aa Aa Aa hc).q fun a w W F => ?_
    refine ls W F Aa (Hy (vs := [CY kx,.agg #[]]) W Aa Aa).q fun a w W F => ?_
    refine Hb W F Aa tG Aa fun b2 a w W F => ?_
    refine OE 0 W F Aa Aa Aa Xh Aa Aa Aa Aa Aa fun w F => ?_
    refine Ig (BJ (Lg (l := [_,_,_,_]) ?_))
    refine vlm tk 2 [0] W F (ai fun a w W F => ?_)
    refine ls W F Aa (IC (zs := []) (cs := []) (parts := []) (vp := []) (v := .agg #[]) kE W Aa Aa Aa).q fun a w W F => ?_
    refine dO (q := 2) kx W F Aa Aa Aa Aa Aa lT Gz XJ fun w F => ?_
    refine Ig (EK (BJ ⟨_, ?_,W.ra Aa,(F.frontZ (i := 2) Aa Aa |>.frontZ (i := 2) Aa Aa |>.sub nl sr)⟩))
    rw [hR]; simp only [Mk,List.foldl_append,List.foldl_cons,List.foldl_nil]
  · have F := F.unfix hE
    rw [← hv] at F
    rw [hR,cY Gz hA hp] at F
    refine Ha (n5 (.inr Aa) W Aa ?_)
    exact ⟨(),Aa,F⟩
theorem H75 : Has Tryz.prog 75 := Lh Tryz.func75
abbrev UB (a0 : Nat) (a1 : Sq) : List (Nat × List Value) := [(a0,[Jint a1.1,Jint a1.2.1,Jint a1.2.2.1,Jint a1.2.2.2.1,Jint a1.2.2.2.2])]
def Cg (Fc54 : Tr41 → Int → Sq → Option (List Sq)) (p1 : Int) (x4 : Tr41) (kx5196 : Sq) : Option (List Sq) := (Fc54 (Tr41.of (x4.un.1,f38 x4.un.2.1,x4.un.2.2.1,x4.un.2.2.2.1,x4.un.2.2.2.2)) p1 kx5196).bind fun x6 => some x6
def Bu (Fc54 : Tr41 → Int → Sq → Option (List Sq)) (p0 : List Tr41) (p1 : Int) : ((List Sq) × Int) → Option (((List Sq) × Int) ⊕ (List Sq))
  | (x2,x3) => (if x3 < (p0.length : Int) then (ix p0 x3).bind fun x4 => (H4 AQ (Cg Fc54 p1 x4) x2 ([] : List Sq)).bind fun x5 => some (.inl (x5,w64 (x3 + 1))) else some (.inr x2))
def Cw (Fc54 : Tr41 → Int → Sq → Option (List Sq)) (p0 : List Tr41) (p1 : Int) (p2 : Sq) : Option (List Sq) := (Aj (Bu Fc54 p0 p1) ((Gw AQ ([] : List Sq) p2),0)).bind fun x1 => some x1
theorem Nq (Fc54 : Tr41 → Int → Sq → Option (List Sq)) (ih_policy_results : ∀ (Y : Nat → Prop) (w0 : World) (v1 : Value) (v2 : Value) (p0 : Tr41) (p1 : Int) (p2 : Sq) (r : (List Sq)) (H : Fc54 p0 p1 p2 = some r) (s_v1 : Sl w0 Y Lp v1 p0.un.2.1.un.2.2.2) (s_v2 : Sl w0 Y Lz v2 p0.un.2.2.2.2),ca_ 44 #[.agg #[Jint p0.un.1,Jint p0.un.2.1.un.1,Jint p0.un.2.1.un.2.1,Jint p0.un.2.1.un.2.2.1,v1,Jint p0.un.2.2.1,Jint p0.un.2.2.2.1,v2],Jint p1,.agg #[Jint p2.1,Jint p2.2.1,Jint p2.2.2.1,Jint p2.2.2.2.1,Jint p2.2.2.2.2]] w0 fun e w' => ∃ x : Value,e = .returned (x) ∧ sy Y w0 [] [Cj (x) CY AQ r] w') (Y : Nat → Prop) (w0 : World) (v1 : Value) (p0 : List Tr41) (p1 : Int) (p2 : Sq) (r : (List Sq)) (H : Cw Fc54 p0 p1 p2 = some r) (s_v1 : Sl w0 Y Lz v1 p0) :
    ca_ 74 #[v1,Jint p1,.agg #[Jint p2.1,Jint p2.2.1,Jint p2.2.2.1,Jint p2.2.2.2.1,Jint p2.2.2.2.2]] w0 fun e w' => ∃ x : Value,e = .returned (x) ∧ sy Y w0 [] [Cj (x) CY AQ r] w' := by
 refine enter Tryz.func74 Aa Tryz.ntmps74 Aa fun a W => ?_
 have F := Stw.start Y w0
 obtain ⟨v2,h1,s_v1⟩ := s_v1.ex OZ
 have h_v1 := F.nx s_v1
 unfold Cw at H
 refine vc tk 2 W F fun a w W F => ?_
 refine IR (cs := (Dd p2)) W F Aa Aa Aa fun b1 a w W F => ?_
 refine LD tk 5 W F fun a w W F => ?_
 refine Jl CY AQ W F Aa fun v3 a w W F => ?_
 have F : sy Y w0 (UB b1 p2) [Cj v3 CY AQ ([] : List Sq)] w := F
 refine ls W F Aa (Ho (v := Value.agg #[Jint p2.1,Jint p2.2.1,Jint p2.2.2.1,Jint p2.2.2.2.1,Jint p2.2.2.2.2]) 0 W Aa Aa Xh Aa).q fun a w W F => ?_
 refine ls W F Aa (IC (v := Value.agg #[]) kE W Aa Aa Aa).q fun a w W F => ?_
 refine l_setput' (q := 0) (p2 : Sq) W F Aa Aa Aa Aa Aa lT Gz XJ fun w F => ?_
 have F : sy Y w0 (UB b1 p2) [Cj v3 CY AQ (Gw AQ ([] : List Sq) p2)] w := F
 refine vl tk 3 W F fun a w W F => ?_
 refine BJ ?_
 obtain ⟨o1,G1,K1⟩ := BO H
 refine Hg (fun a w => ∃ x1 : List Sq, ∃ v4 : Value,some (x1) = some o1 ∧ Fr 38 [] [(6,.map none),(7,v4)] a ∧ sy Y w0 (UB b1 p2) [Cj v4 CY AQ x1] w) ?_ ?_
 ·
  have H := G1
  clear G1 K1
  refine vc tk 3 W F fun a w W F => ?_
  refine ls W F Aa (Pe (r := Lz) (l := p0) s8 Aa W Aa (Ln OZ h1 (Ek h_v1))).q fun a w W F => ?_
  refine LD tk 4 W F fun a w W F => ?_
  refine J5 H (fun s a w => ∃ v5 : Value,Fr 38 [] [(1,Jint p1),(6,.map none),(7,v5),(16,v1),(17,Jint (p0.length : Int)),(18,Jint s.2)] a ∧ sy Y w0 (UB b1 p2) [Cj v5 CY AQ s.1] w) ⟨(v3),W.ra Aa,F⟩ fun s o a w H L2 hR => ?_
  obtain ⟨x2,x3⟩ := s
  obtain ⟨v5,W,F⟩ := hR
  have W : Fr 38 [] [(1,Jint p1),(6,.map none),(7,v5),(16,v1),(17,Jint (p0.length : Int)),(18,Jint x3)] a := W
  have F : sy Y w0 (UB b1 p2) [Cj v5 CY AQ x2] w := F
  rw [Bu] at H
  refine vc tk 6 W F fun a w W F => ?_
  refine Mg W Aa H (fun W H => ?_) fun W H => ?_
  ·
   refine tN tk 6 W F fun a w W F => ?_
   obtain ⟨x4,h2,H⟩ := BO H
   obtain ⟨v6,h3,h4⟩ := XD h1 h2
   have h5 : gE v6 = [Jint x4.un.1,Jint x4.un.2.1.un.1,Jint x4.un.2.1.un.2.1,Jint x4.un.2.1.un.2.2.1,(v6.2.1.2.2.2.1),Jint x4.un.2.2.1,Jint x4.un.2.2.2.1,(v6.2.2.2.2.1)] := congrArg (fun q : Tr41 => ([Jint q.un.1,Jint q.un.2.1.un.1,Jint q.un.2.1.un.2.1,Jint q.un.2.1.un.2.2.1,(v6.2.1.2.2.2.1),Jint q.un.2.2.1,Jint q.un.2.2.2.1,(v6.2.2.2.2.1)] : List Value)) h4
   refine ls W F Aa (H2 (r := cZ) yY W Aa Aa (Ek h_v1) h3).q fun a w W F => ?_
   refine ls W F Aa (Fq (y := Value.agg #[Jint x4.un.1,Jint x4.un.2.1.un.1,Jint x4.un.2.1.un.2.1,Jint x4.un.2.1.un.2.2.1,(v6.2.1.2.2.2.1),Jint x4.un.2.2.1,Jint x4.un.2.2.2.1,(v6.2.2.2.2.1)]) (j := 0) (i := x3) (enc := gE) W Aa Aa (Ek h_v1) h3 uK lZ (by rw [h5]; rfl)).q fun a w W F => ?_
   refine Hb (cs := (W5)) W F Aa tJ Aa fun b2 a w W F => ?_
   refine RC 0 W F Aa Aa Aa lZ Aa Aa (Bj Aa (Bj Aa (Bj Aa (Bj Aa (Bj ((PP (Ek h_v1) h3 (C9.snd (C9.fst (C9.snd (C9.snd (C9.snd C9.here))))) (congrArg (fun q : Tr41 => q.un.2.1.un.2.2.2) h4)) _ F).one (Bj Aa (Bj Aa (Bj ((PP (Ek h_v1) h3 (C9.snd (C9.snd (C9.snd (C9.snd C9.here)))) (congrArg (fun q : Tr41 => q.un.2.2.2.2) h4)) _ F).one OP)))))))) fun w F => ?_
   refine LD tk 4 W F fun a w W F => ?_
   refine Jl CY AQ W F Aa fun v7 a w W F => ?_
   have F : sy Y w0 [(b2,[Jint x4.un.1,Jint x4.un.2.1.un.1,Jint x4.un.2.1.un.2.1,Jint x4.un.2.1.un.2.2.1,(v6.2.1.2.2.2.1),Jint x4.un.2.2.1,Jint x4.un.2.2.2.1,(v6.2.2.2.2.1)]),(b1,(Dd p2))] [Cj v7 CY AQ ([] : List Sq),Cj v5 CY AQ x2] w := F
   refine LD tk 7 W F fun a w W F => ?_
   refine Oa (q := 1) W F Aa Aa Aa Aa XJ fun i5196 m5196 e5196 c5196 l5196 a w hv5196 hE5196 W F => ?_
   have F : sy Y w0 [(b2,[Jint x4.un.1,Jint x4.un.2.1.un.1,Jint x4.un.2.1.un.2.1,Jint x4.un.2.1.un.2.2.1,(v6.2.1.2.2.2.1),Jint x4.un.2.2.1,Jint x4.un.2.2.2.1,(v6.2.2.2.2.1)]),(b1,(Dd p2))] [Hn i5196 m5196 c5196 #[] c5196,GG m5196 e5196 c5196,Cj v7 CY AQ ([] : List Sq)] w := F
   refine LD tk 3 W F fun a w W F => ?_
   obtain ⟨x5,h6,H⟩ := BO H
   refine fO (Ff := [(1,Jint p1),(6,.map none),(7,v5),(9,pp b2),(10,v7),(16,v1),(17,Jint (p0.length : Int)),(18,Jint x3),(19,.bool true),(21,.agg #[Jint x4.un.1,Jint x4.un.2.1.un.1,Jint x4.un.2.1.un.2.1,Jint x4.un.2.1.un.2.2.1,(v6.2.1.2.2.2.1),Jint x4.un.2.2.1,Jint x4.un.2.2.2.1,(v6.2.2.2.2.1)]),(22,v7),(23,v5)]) (Zr := []) (va := v7) Gz h6 (W.ra Aa) F hv5196 hE5196 Aa Aa (fun kx5196 r5196 s5196 sn5196 a w G5196_ hc5196 W F => ?_) fun a w W F => ?_
   ·
    have W : Fr 38 [] [(1,Jint p1),(6,.map none),(7,v5),(9,pp b2),(10,v7),(16,v1),(17,Jint (p0.length : Int)),(18,Jint x3),(19,.bool true),(21,.agg #[Jint x4.un.1,Jint x4.un.2.1.un.1,Jint x4.un.2.1.un.2.1,Jint x4.un.2.1.un.2.2.1,(v6.2.1.2.2.2.1),Jint x4.un.2.2.1,Jint x4.un.2.2.2.1,(v6.2.2.2.2.1)]),(22,v7),(23,v5),(24,pp i5196),(25,.tuple #[.bool true,.agg #[Jint kx5196.1,Jint kx5196.2.1,Jint kx5196.2.2.1,Jint kx5196.2.2.2.1,Jint kx5196.2.2.2.2],.agg #[]]),(26,.bool true)] a := W.ra Aa
    have F : sy Y w0 [(b2,[Jint x4.un.1,Jint x4.un.2.1.un.1,Jint x4.un.2.1.un.2.1,Jint x4.un.2.1.un.2.2.1,(v6.2.1.2.2.2.1),Jint x4.un.2.2.1,Jint x4.un.2.2.2.1,(v6.2.2.2.2.1)]),(b1,(Dd p2))] [Hn i5196 m5196 c5196 sn5196 c5196,GG m5196 e5196 c5196,Cj v7 CY AQ s5196] w := F
    have H := G5196_
    rw [Cg] at H
    refine vc tk 3 W F fun a w W F => ?_
    refine ls W F Aa (Oe (q := 0) (q' := 1) W Aa Aa Aa hc5196).q fun a w W F => ?_
    refine ls W F Aa (Hy (v := Value.agg #[Jint kx5196.1,Jint kx5196.2.1,Jint kx5196.2.2.1,Jint kx5196.2.2.2.1,Jint kx5196.2.2.2.2]) W Aa Aa).q fun a w W F => ?_
    refine Hb (cs := (Wv)) W F Aa tG Aa fun b3 a w W F => ?_
    refine RC 0 W F Aa Aa Aa Xh Aa Aa Aa fun w F => ?_
    refine aN tk 7 [1,0] W F (ai (ai fun a w W F => ?_))
    obtain ⟨x6,h7,H⟩ := BO H
    refine FK (Ml := []) (Zl := []) (β := Value) (rv := fun x => x) (MM := fun x => []) (ZZ := fun x => [Cj x CY AQ x6]) W F zD Aa Aa (fun hL => ih_policy_results _ w ((v6.2.1.2.2.2.1)) ((v6.2.2.2.2.1)) (Tr41.of (x4.un.1,f38 x4.un.2.1,x4.un.2.2.1,x4.un.2.2.2.1,x4.un.2.2.2.2)) p1 kx5196 _ h7 (Sl.at_ (F.old s_v1) h3 (C9.snd (C9.fst (C9.snd (C9.snd (C9.snd C9.here))))) (congrArg (fun q : Tr41 => q.un.2.1.un.2.2.2) h4)) (Sl.at_ (F.old s_v1) h3 (C9.snd (C9.snd (C9.snd (C9.snd C9.here)))) (congrArg (fun q : Tr41 => q.un.2.2.2.2) h4))) fun x a w W F => ?_
    obtain ⟨v8,rfl⟩ : ∃ y,y = x := ⟨x,rfl⟩
    have F : sy Y w0 [(b3,(Dd kx5196)),(b2,[Jint x4.un.1,Jint x4.un.2.1.un.1,Jint x4.un.2.1.un.2.1,Jint x4.un.2.1.un.2.2.1,(v6.2.1.2.2.2.1),Jint x4.un.2.2.1,Jint x4.un.2.2.2.1,(v6.2.2.2.2.1)]),(b1,(Dd p2))] [Cj v8 CY AQ x6,Hn i5196 m5196 c5196 sn5196 c5196,GG m5196 e5196 c5196,Cj v7 CY AQ s5196] w := F
    have F := F.frontZ (i := 3) Aa Aa
    refine FK (Ml := []) (Zl := [Cj v7 CY AQ s5196,Cj v8 CY AQ x6]) (β := Unit) (rv := fun _ => .tuple #[]) (MM := fun _ => []) (ZZ := fun _ => [Cj v8 CY AQ x6,Cj v7 CY AQ (Mk AQ s5196 x6)]) W F H75 Aa Aa (fun hL => eK _ _ w _ _ _ _ hL) fun _ a w W F => ?_
    have F : sy Y w0 [(b3,(Dd kx5196)),(b2,[Jint x4.un.1,Jint x4.un.2.1.un.1,Jint x4.un.2.1.un.2.1,Jint x4.un.2.1.un.2.2.1,(v6.2.1.2.2.2.1),Jint x4.un.2.2.1,Jint x4.un.2.2.2.1,(v6.2.2.2.2.1)]),(b1,(Dd p2))] [Cj v8 CY AQ x6,Cj v7 CY AQ (Mk AQ s5196 x6),Hn i5196 m5196 c5196 sn5196 c5196,GG m5196 e5196 c5196] w := F
    refine Ig (EK (BJ ?_))
    have H := Gj H
    subst H
    have F := F.frontZ (i := 1) Aa Aa
    have F := F.frontZ (i := 3) Aa Aa
    have F := F.frontZ (i := 3) Aa Aa
    have F := F.frontM (i := 2) Aa Aa
    have F := F.frontM (i := 2) Aa Aa
    have F := F.sub (M' := [(b2,[Jint x4.un.1,Jint x4.un.2.1.un.1,Jint x4.un.2.1.un.2.1,Jint x4.un.2.1.un.2.2.1,(v6.2.1.2.2.2.1),Jint x4.un.2.2.1,Jint x4.un.2.2.2.1,(v6.2.2.2.2.1)]),(b1,(Dd p2))]) (Z' := [Hn i5196 m5196 c5196 sn5196 c5196,GG m5196 e5196 c5196,Cj v7 CY AQ (Mk AQ s5196 x6)]) (sc (sc nl)) (sc (sc (sc nl)))
    exact ⟨W.ra Aa,F⟩
   have W : Fr 38 [] [(1,Jint p1),(6,.map none),(7,v5),(9,pp b2),(10,v7),(16,v1),(17,Jint (p0.length : Int)),(18,Jint x3),(19,.bool true),(21,.agg #[Jint x4.un.1,Jint x4.un.2.1.un.1,Jint x4.un.2.1.un.2.1,Jint x4.un.2.1.un.2.2.1,(v6.2.1.2.2.2.1),Jint x4.un.2.2.1,Jint x4.un.2.2.2.1,(v6.2.2.2.2.1)]),(22,v7),(23,v5)] a := W.ra Aa
   have F : sy Y w0 [(b2,[Jint x4.un.1,Jint x4.un.2.1.un.1,Jint x4.un.2.1.un.2.1,Jint x4.un.2.1.un.2.2.1,(v6.2.1.2.2.2.1),Jint x4.un.2.2.1,Jint x4.un.2.2.2.1,(v6.2.2.2.2.1)]),(b1,(Dd p2))] [Cj v5 CY AQ x2,Cj v7 CY AQ x5] w := F
   refine Ha ?_
   refine vn tk 4 W F fun a w W F => ?_
   refine EK ?_
   refine vn tk 4 W F fun a w W F => ?_
   refine BJ ?_
   have F := F.frontZ (i := 1) Aa Aa
   have F := F.frontM (i := 1) Aa Aa
   have F := F.sub (M' := (UB b1 p2)) (Z' := [Cj v7 CY AQ x5]) (sc nl) (sc nl)
   exact ⟨_,H,(v7),W.ra Aa,F⟩
  refine HW ?_
  iterate 2 refine LQ ?_
  refine Ha (BJ ?_)
  have H := L2 _ H
  exact ⟨_,(v5),H,W.ra Aa,F⟩
 rintro a w ⟨x1,v4,hj,W,F⟩
 have hj := Gj hj
 subst hj
 have H := K1
 clear G1 K1
 refine vc tk 6 W F fun a w W F => ?_
 refine Ej ?_
 have H := Gj H
 subst H
 refine Ga (.inl Aa) W F Aa (E2 W Aa) ?_
 have F := F.sub (M' := []) (Z' := [Cj v4 CY AQ x1]) nl sr
 exact ⟨(v4),Aa,F⟩
theorem H74 : Has Tryz.prog 74 := Lh Tryz.func74
def Fe (p0 : Tr41) (p1 : Int) (p2 : Sq) : Option Tr41 := ((Fv (f38 p0.un.2.1) p1 p2.1 p2.2).bind fun x2 => (if x2 = true then some 0 else some 1)).bind fun x1 => (if (p0.un.2.2.2.2.length : Int) ≤ x1 then some (Tr41.of (0,Tr38.of (0,0,0,([] : List Tr38)),0,0,([] : List Tr41))) else (ix p0.un.2.2.2.2 x1).bind fun x3 => some (Tr41.of (x3.un.1,f38 x3.un.2.1,x3.un.2.2.1,x3.un.2.2.2.1,x3.un.2.2.2.2)))
abbrev K76 : Cn_ := ⟨[Yi,DJ,TB],[Yi],[],false,fun x => Fe x.1 x.2.1 x.2.2,none⟩
theorem k76 : KO (K76) 76 := Ea (ct := (.q (.q (.j (.st false ⟨[(7,false,AO)],[],[]⟩) .d .d)))) DW (AH k72 BC) Tryz.func76 (by kernel_rfl) fun x => by kernel_rfl
theorem QY (Y : Nat → Prop) (w0 : World) (v1 : Value) (v2 : Value) (p0 : Tr41) (p1 : Int) (p2 : Sq) (r : Tr41) (H : Fe p0 p1 p2 = some r) (s_v1 : Sl w0 Y Lp v1 p0.un.2.1.un.2.2.2) (s_v2 : Sl w0 Y Lz v2 p0.un.2.2.2.2) :
    ca_ 76 #[.agg #[Jint p0.un.1,Jint p0.un.2.1.un.1,Jint p0.un.2.1.un.2.1,Jint p0.un.2.1.un.2.2.1,v1,Jint p0.un.2.2.1,Jint p0.un.2.2.2.1,v2],Jint p1,.agg #[Jint p2.1,Jint p2.2.1,Jint p2.2.2.1,Jint p2.2.2.2.1,Jint p2.2.2.2.2]] w0 fun e w' => ∃ x : Value × Value,e = .returned (.agg #[Jint r.un.1,Jint r.un.2.1.un.1,Jint r.un.2.1.un.2.1,Jint r.un.2.1.un.2.2.1,x.1,Jint r.un.2.2.1,Jint r.un.2.2.2.1,x.2]) ∧ sy Y w0 [] [frz (x.1) Lp r.un.2.1.un.2.2.2,frz (x.2) Lz r.un.2.2.2.2] w' := by
 refine (k76.out (Y := Y) (X := []) (x := (p0,p1,p2)) (r := r) H Aa Aa Aa Aa Aa (v1,(v2,())) ⟨s_v1,⟨s_v2,trivial⟩⟩ (Stw.start Y w0) trivial).mono ?_
 rintro e w' ⟨⟨a0,a1,u⟩,he,F,hi⟩
 exact ⟨(a0,a1),he,F⟩
theorem H76 : Has Tryz.prog 76 := Lh Tryz.func76
abbrev J7 (a0 : Nat) (a1 : Sq) (a2 : Nat) (a3 : Tr41) (a4 : Value) (a5 : Value) : List (Nat × List Value) := [(a0,[Jint a1.1,Jint a1.2.1,Jint a1.2.2.1,Jint a1.2.2.2.1,Jint a1.2.2.2.2]),(a2,[Jint a3.un.1,Jint a3.un.2.1.un.1,Jint a3.un.2.1.un.2.1,Jint a3.un.2.1.un.2.2.1,a4,Jint a3.un.2.2.1,Jint a3.un.2.2.2.1,a5])]
def B5 (fRec : Tr41 → Int → Sq → Option (List Sq)) (p0 : Tr41) (p1 : Int) (p2 : Sq) : ((List Sq) × Int) → Option (((List Sq) × Int) ⊕ (List Sq))
  | (x5,x6) => (if x6 < (p0.un.2.2.2.2.length : Int) then (ix p0.un.2.2.2.2 x6).bind fun x7 => (fRec (Tr41.of (x7.un.1,f38 x7.un.2.1,x7.un.2.2.1,x7.un.2.2.2.1,x7.un.2.2.2.2)) p1 p2).bind fun x8 => some (.inl ((Mk AQ x5 x8),w64 (x6 + 1))) else some (.inr x5))
def AJ (fRec : Tr41 → Int → Sq → Option (List Sq)) (p0 : Tr41) (p1 : Int) (p2 : Sq) : Option (List Sq) := GN (if p0.un.1 = 1 then (Fv (f38 p0.un.2.1) p1 p2.1 p2.2).bind fun x1 => (if x1 = true then some (.inr (Gw AQ ([] : List Sq) p2)) else some (.inl ())) else (if p0.un.1 = 2 then (CM p2 p0.un.2.2.1 p0.un.2.2.2.1).bind fun x2 => some (.inr (Gw AQ ([] : List Sq) x2)) else (if p0.un.1 = 3 then ((Cw fRec) p0.un.2.2.2.2 p1 p2).bind fun x3 => some (.inr x3) else (if p0.un.1 = 4 then (Aj (B5 fRec p0 p1 p2) (([] : List Sq),0)).bind fun x4 => some (.inr x4) else (if p0.un.1 = 5 then (Fe (Tr41.of (p0.un.1,f38 p0.un.2.1,p0.un.2.2.1,p0.un.2.2.2.1,p0.un.2.2.2.2)) p1 p2).bind fun x9 => (fRec (Tr41.of (x9.un.1,f38 x9.un.2.1,x9.un.2.2.1,x9.un.2.2.2.1,x9.un.2.2.2.2)) p1 p2).bind fun x10 => some (.inr x10) else some (.inl ())))))) fun _ => some ([] : List Sq)
def Ab : Nat → Tr41 → Int → Sq → Option (List Sq)
  | 0 => fun _ _ _ => none
  | n + 1 => AJ (Ab n)
def Fw (p0 : Tr41) (p1 : Int) (p2 : Sq) : Option (List Sq) := GX fun n => Ab n p0 p1 p2
theorem N7 (fRec : Tr41 → Int → Sq → Option (List Sq)) (ih : ∀ (Y : Nat → Prop) (w0 : World) (v1 : Value) (v2 : Value) (p0 : Tr41) (p1 : Int) (p2 : Sq) (r : (List Sq)) (H : fRec p0 p1 p2 = some r) (s_v1 : Sl w0 Y Lp v1 p0.un.2.1.un.2.2.2) (s_v2 : Sl w0 Y Lz v2 p0.un.2.2.2.2),ca_ 44 #[.agg #[Jint p0.un.1,Jint p0.un.2.1.un.1,Jint p0.un.2.1.un.2.1,Jint p0.un.2.1.un.2.2.1,v1,Jint p0.un.2.2.1,Jint p0.un.2.2.2.1,v2],Jint p1,.agg #[Jint p2.1,Jint p2.2.1,Jint p2.2.2.1,Jint p2.2.2.2.1,Jint p2.2.2.2.2]] w0 fun e w' => ∃ x : Value,e = .returned (x) ∧ sy Y w0 [] [Cj (x) CY AQ r] w') (Y : Nat → Prop) (w0 : World) (v1 : Value) (v2 : Value) (p0 : Tr41) (p1 : Int) (p2 : Sq) (r : (List Sq)) (H : AJ fRec p0 p1 p2 = some r) (s_v1 : Sl w0 Y Lp v1 p0.un.2.1.un.2.2.2) (s_v2 : Sl w0 Y Lz v2 p0.un.2.2.2.2) :
    ca_ 44 #[.agg #[Jint p0.un.1,Jint p0.un.2.1.un.1,Jint p0.un.2.1.un.2.1,Jint p0.un.2.1.un.2.2.1,v1,Jint p0.un.2.2.1,Jint p0.un.2.2.2.1,v2],Jint p1,.agg #[Jint p2.1,Jint p2.2.1,Jint p2.2.2.1,Jint p2.2.2.2.1,Jint p2.2.2.2.2]] w0 fun e w' => ∃ x : Value,e = .returned (x) ∧ sy Y w0 [] [Cj (x) CY AQ r] w' := by
 refine enter Tryz.func44 Aa Tryz.ntmps44 Aa fun a W => ?_
 have F := Stw.start Y w0
 obtain ⟨v3,h1,s_v1⟩ := s_v1.ex Sg
 obtain ⟨v4,h2,s_v2⟩ := s_v2.ex OZ
 have h_v1 := F.nx s_v1
 have h_v2 := F.nx s_v2
 unfold AJ at H
 refine vc tk 2 W F fun a w W F => ?_
 refine IR (cs := (RB p0 v1 v2)) W F Aa Aa Aa fun b1 a w W F => ?_
 refine IR (cs := (Dd p2)) W F Aa Aa Aa fun b2 a w W F => ?_
 refine vl tk 2 W F fun a w W F => ?_
 refine BJ ?_
 obtain ⟨o1,G1,K1,L1⟩ := zE H
 refine Hg (fun a w => some (Sum.inl ()) = some o1 ∧ Fr 72 [] [(6,.map none)] a ∧ sy Y w0 (J7 b2 p2 b1 p0 v1 v2) [] w) ?_ ?_
 ·
  have H := G1
  clear G1 K1
  refine bW tk 13 [1] W F (ai fun a w W F => ?_)
  refine SK W Aa (fun hb => ?_) fun hb => ?_
  ·
   have H := Ys (Z6 hb) H
   rw [hb] at W
   clear hb
   refine bW tk 9 [1,0,0] W F (ai (ai (ai fun a w W F => ?_)))
   obtain ⟨x1,h3,H⟩ := BO H
   refine ls W F Aa (Hi (v := Value.bool x1) W H72 Aa (fun w F => Xm any w (v1) (f38 p0.un.2.1) p1 p2.1 p2.2 _ h3 (kA (Ln Sg h1 (Ek h_v1)) F))) fun a w W F => ?_
   refine LD tk 2 W F fun a w W F => ?_
   refine Up W Aa H (fun W H => ?_) fun W H => ?_
   ·
    refine vc tk 2 W F fun a w W F => ?_
    refine Jl CY AQ W F Aa fun v5 a w W F => ?_
    have F : sy Y w0 (J7 b2 p2 b1 p0 v1 v2) [Cj v5 CY AQ ([] : List Sq)] w := F
    refine ls W F Aa (Ho (v := Value.agg #[Jint p2.1,Jint p2.2.1,Jint p2.2.2.1,Jint p2.2.2.2.1,Jint p2.2.2.2.2]) 0 W Aa Aa Xh Aa).q fun a w W F => ?_
    refine ls W F Aa (IC (v := Value.agg #[]) kE W Aa Aa Aa).q fun a w W F => ?_
    refine l_setput' (q := 0) (p2 : Sq) W F Aa Aa Aa Aa Aa lT Gz XJ fun w F => ?_
    have F : sy Y w0 (J7 b2 p2 b1 p0 v1 v2) [Cj v5 CY AQ (Gw AQ ([] : List Sq) p2)] w := F
    refine LD tk 4 W F fun a w W F => ?_
    refine Ej (Jh (I6 ?_))
    have H := L1 _ H
    have H := Gj H
    subst H
    refine Ga (.inl Aa) W F Aa (E2 W Aa) ?_
    have F := F.sub (M' := []) (Z' := [Cj v5 CY AQ (Gw AQ ([] : List Sq) p2)]) nl sr
    exact ⟨(v5),Aa,F⟩
   refine F9 (EK (BJ ?_))
   have F := F.frontM (i := 1) Aa Aa
   have F := F.frontM (i := 1) Aa Aa
   exact ⟨H,W.ra Aa,F⟩
  have H := Yp (bN hb) H
  rw [hb] at W
  clear hb
  refine vc tk 6 W F fun a w W F => ?_
  refine SK W Aa (fun hb => ?_) fun hb => ?_
  ·
   have H := Ys (Z6 hb) H
   rw [hb] at W
   clear hb
   refine vc tk 2 W F fun a w W F => ?_
   refine Jl CY AQ W F Aa fun v6 a w W F => ?_
   have F : sy Y w0 (J7 b2 p2 b1 p0 v1 v2) [Cj v6 CY AQ ([] : List Sq)] w := F
   refine vlm tk 5 [0,1,1] W F (ai (ai (ai fun a w W F => ?_)))
   obtain ⟨x2,h4,H⟩ := BO H
   refine ls W F Aa (Hi (v := Value.agg #[Jint x2.1,Jint x2.2.1,Jint x2.2.2.1,Jint x2.2.2.2.1,Jint x2.2.2.2.2]) W H73 Aa (fun w F => PJ any w p2 p0.un.2.2.1 p0.un.2.2.2.1 _ h4)) fun a w W F => ?_
   refine ls W F Aa (IC (v := Value.agg #[]) kE W Aa Aa Aa).q fun a w W F => ?_
   refine l_setput' (q := 0) (x2 : Sq) W F Aa Aa Aa Aa Aa lT Gz XJ fun w F => ?_
   have F : sy Y w0 (J7 b2 p2 b1 p0 v1 v2) [Cj v6 CY AQ (Gw AQ ([] : List Sq) x2)] w := F
   refine LD tk 4 W F fun a w W F => ?_
   refine Ej (Jh (I6 ?_))
   have H := L1 _ H
   have H := Gj H
   subst H
   refine Ga (.inl Aa) W F Aa (E2 W Aa) ?_
   have F := F.sub (M' := []) (Z' := [Cj v6 CY AQ (Gw AQ ([] : List Sq) x2)]) nl sr
   exact ⟨(v6),Aa,F⟩
  have H := Yp (bN hb) H
  rw [hb] at W
  clear hb
  refine vc tk 6 W F fun a w W F => ?_
  refine SK W Aa (fun hb => ?_) fun hb => ?_
  ·
   have H := Ys (Z6 hb) H
   rw [hb] at W
   clear hb
   refine bW tk 6 [1,0] W F (ai (ai fun a w W F => ?_))
   obtain ⟨x3,h5,H⟩ := BO H
   refine FK (Ml := []) (Zl := []) (β := Value) (rv := fun x => x) (MM := fun x => []) (ZZ := fun x => [Cj x CY AQ x3]) W F H74 Aa Aa (fun hL => (Nq fRec ih) _ w (v2) p0.un.2.2.2.2 p1 p2 _ h5 (Sl.hide OZ h2 (F.old s_v2))) fun x a w W F => ?_
   obtain ⟨v7,rfl⟩ : ∃ y,y = x := ⟨x,rfl⟩
   have F : sy Y w0 (J7 b2 p2 b1 p0 v1 v2) [Cj v7 CY AQ x3] w := F
   refine LD tk 3 W F fun a w W F => ?_
   refine Ej (Jh (I6 ?_))
   have H := L1 _ H
   have H := Gj H
   subst H
   refine Ga (.inl Aa) W F Aa (E2 W Aa) ?_
   have F := F.sub (M' := []) (Z' := [Cj v7 CY AQ x3]) nl sr
   exact ⟨(v7),Aa,F⟩
  have H := Yp (bN hb) H
  rw [hb] at W
  clear hb
  refine vc tk 6 W F fun a w W F => ?_
  refine SK W Aa (fun hb => ?_) fun hb => ?_
  ·
   have H := Ys (Z6 hb) H
   rw [hb] at W
   clear hb
   refine vc tk 2 W F fun a w W F => ?_
   refine Jl CY AQ W F Aa fun v8 a w W F => ?_
   have F : sy Y w0 (J7 b2 p2 b1 p0 v1 v2) [Cj v8 CY AQ ([] : List Sq)] w := F
   refine vl tk 2 W F fun a w W F => ?_
   refine BJ ?_
   obtain ⟨o2,G2,K2⟩ := BO H
   refine Hg (fun a w => ∃ x4 : List Sq,some (x4) = some o2 ∧ Fr 72 [] [(6,.map none),(7,v8)] a ∧ sy Y w0 (J7 b2 p2 b1 p0 v1 v2) [Cj v8 CY AQ x4] w) ?_ ?_
   ·
    have H := G2
    clear G2 K2
    refine bW tk 4 [1] W F (ai fun a w W F => ?_)
    refine ls W F Aa (Pe (r := Lz) (l := p0.un.2.2.2.2) s8 Aa W Aa (Ln OZ h2 (Ek h_v2))).q fun a w W F => ?_
    refine LD tk 4 W F fun a w W F => ?_
    have F := F.frontM (i := 1) Aa Aa
    have F := F.frontM (i := 1) Aa Aa
    refine J5 H (fun s a w => Fr 72 [] [(1,Jint p1),(5,pp b2),(6,.map none),(7,v8),(48,v2),(49,Jint (p0.un.2.2.2.2.length : Int)),(50,Jint s.2)] a ∧ sy Y w0 (J7 b2 p2 b1 p0 v1 v2) [Cj v8 CY AQ s.1] w) ⟨W.ra Aa,F⟩ fun s o a w H L3 hR => ?_
    obtain ⟨x5,x6⟩ := s
    obtain ⟨W,F⟩ := hR
    have W : Fr 72 [] [(1,Jint p1),(5,pp b2),(6,.map none),(7,v8),(48,v2),(49,Jint (p0.un.2.2.2.2.length : Int)),(50,Jint x6)] a := W
    have F : sy Y w0 (J7 b2 p2 b1 p0 v1 v2) [Cj v8 CY AQ x5] w := F
    rw [B5] at H
    refine vc tk 6 W F fun a w W F => ?_
    refine Mg W Aa H (fun W H => ?_) fun W H => ?_
    ·
     refine tN tk 6 W F fun a w W F => ?_
     obtain ⟨x7,h6,H⟩ := BO H
     obtain ⟨v9,h7,h8⟩ := XD h2 h6
     have h9 : gE v9 = [Jint x7.un.1,Jint x7.un.2.1.un.1,Jint x7.un.2.1.un.2.1,Jint x7.un.2.1.un.2.2.1,(v9.2.1.2.2.2.1),Jint x7.un.2.2.1,Jint x7.un.2.2.2.1,(v9.2.2.2.2.1)] := congrArg (fun q : Tr41 => ([Jint q.un.1,Jint q.un.2.1.un.1,Jint q.un.2.1.un.2.1,Jint q.un.2.1.un.2.2.1,(v9.2.1.2.2.2.1),Jint q.un.2.2.1,Jint q.un.2.2.2.1,(v9.2.2.2.2.1)] : List Value)) h8
     refine ls W F Aa (H2 (r := cZ) yY W Aa Aa (Ek h_v2) h7).q fun a w W F => ?_
     refine ls W F Aa (Fq (y := Value.agg #[Jint x7.un.1,Jint x7.un.2.1.un.1,Jint x7.un.2.1.un.2.1,Jint x7.un.2.1.un.2.2.1,(v9.2.1.2.2.2.1),Jint x7.un.2.2.1,Jint x7.un.2.2.2.1,(v9.2.2.2.2.1)]) (j := 0) (i := x6) (enc := gE) W Aa Aa (Ek h_v2) h7 uK lZ (by rw [h9]; rfl)).q fun a w W F => ?_
     refine Hb (cs := (W5)) W F Aa tJ Aa fun b3 a w W F => ?_
     refine RC 0 W F Aa Aa Aa lZ Aa Aa (Bj Aa (Bj Aa (Bj Aa (Bj Aa (Bj ((PP (Ek h_v2) h7 (C9.snd (C9.fst (C9.snd (C9.snd (C9.snd C9.here))))) (congrArg (fun q : Tr41 => q.un.2.1.un.2.2.2) h8)) _ F).one (Bj Aa (Bj Aa (Bj ((PP (Ek h_v2) h7 (C9.snd (C9.snd (C9.snd (C9.snd C9.here)))) (congrArg (fun q : Tr41 => q.un.2.2.2.2) h8)) _ F).one OP)))))))) fun w F => ?_
     refine aN tk 7 [0,1] W F (ai (ai fun a w W F => ?_))
     obtain ⟨x8,h10,H⟩ := BO H
     refine FK (Ml := []) (Zl := []) (β := Value) (rv := fun x => x) (MM := fun x => []) (ZZ := fun x => [Cj x CY AQ x8]) W F zD Aa Aa (fun hL => ih _ w ((v9.2.1.2.2.2.1)) ((v9.2.2.2.2.1)) (Tr41.of (x7.un.1,f38 x7.un.2.1,x7.un.2.2.1,x7.un.2.2.2.1,x7.un.2.2.2.2)) p1 p2 _ h10 (Sl.at_ (F.old s_v2) h7 (C9.snd (C9.fst (C9.snd (C9.snd (C9.snd C9.here))))) (congrArg (fun q : Tr41 => q.un.2.1.un.2.2.2) h8)) (Sl.at_ (F.old s_v2) h7 (C9.snd (C9.snd (C9.snd (C9.snd C9.here)))) (congrArg (fun q : Tr41 => q.un.2.2.2.2) h8))) fun x a w W F => ?_
     obtain ⟨v10,rfl⟩ : ∃ y,y = x := ⟨x,rfl⟩
     have F : sy Y w0 [(b3,[Jint x7.un.1,Jint x7.un.2.1.un.1,Jint x7.un.2.1.un.2.1,Jint x7.un.2.1.un.2.2.1,(v9.2.1.2.2.2.1),Jint x7.un.2.2.1,Jint x7.un.2.2.2.1,(v9.2.2.2.2.1)]),(b2,(Dd p2)),(b1,(RB p0 v1 v2))] [Cj v10 CY AQ x8,Cj v8 CY AQ x5] w := F
     have F := F.frontZ (i := 1) Aa Aa
     refine FK (Ml := []) (Zl := [Cj v8 CY AQ x5,Cj v10 CY AQ x8]) (β := Unit) (rv := fun _ => .tuple #[]) (MM := fun _ => []) (ZZ := fun _ => [Cj v10 CY AQ x8,Cj v8 CY AQ (Mk AQ x5 x8)]) W F H75 Aa Aa (fun hL => eK _ _ w _ _ _ _ hL) fun _ a w W F => ?_
     have F : sy Y w0 [(b3,[Jint x7.un.1,Jint x7.un.2.1.un.1,Jint x7.un.2.1.un.2.1,Jint x7.un.2.1.un.2.2.1,(v9.2.1.2.2.2.1),Jint x7.un.2.2.1,Jint x7.un.2.2.2.1,(v9.2.2.2.2.1)]),(b2,(Dd p2)),(b1,(RB p0 v1 v2))] [Cj v10 CY AQ x8,Cj v8 CY AQ (Mk AQ x5 x8)] w := F
     refine Ig (EK ?_)
     refine vn tk 4 W F fun a w W F => ?_
     refine BJ ?_
     have F := F.frontZ (i := 1) Aa Aa
     have F := F.frontM (i := 2) Aa Aa
     have F := F.frontM (i := 2) Aa Aa
     have F := F.sub (M' := (J7 b2 p2 b1 p0 v1 v2)) (Z' := [Cj v8 CY AQ (Mk AQ x5 x8)]) (sc (sc nl)) (sc nl)
     exact ⟨_,H,W.ra Aa,F⟩
    refine HW ?_
    iterate 2 refine LQ ?_
    refine Ha (BJ ?_)
    have F := F.frontM (i := 1) Aa Aa
    have F := F.frontM (i := 1) Aa Aa
    have H := L3 _ H
    exact ⟨_,H,W.ra Aa,F⟩
   rintro a w ⟨x4,hj,W,F⟩
   have hj := Gj hj
   subst hj
   have H := K2
   clear G2 K2
   refine vc tk 6 W F fun a w W F => ?_
   refine Ej (Jh (I6 ?_))
   have H := L1 _ H
   have H := Gj H
   subst H
   refine Ga (.inl Aa) W F Aa (E2 W Aa) ?_
   have F := F.sub (M' := []) (Z' := [Cj v8 CY AQ x4]) nl sr
   exact ⟨(v8),Aa,F⟩
  have H := Yp (bN hb) H
  rw [hb] at W
  clear hb
  refine vc tk 6 W F fun a w W F => ?_
  refine SK W Aa (fun hb => ?_) fun hb => ?_
  ·
   have H := Ys (Z6 hb) H
   rw [hb] at W
   clear hb
   refine Qm ?_
   refine SB [(true,0),(true,1),(true,2),(true,4),(true,5),(false,3),(false,6),(false,7)] (CN ⟨Y,[],w0⟩ [(some 3,b1,[Jint p0.un.1,Jint p0.un.2.1.un.1,Jint p0.un.2.1.un.2.1,Jint p0.un.2.1.un.2.2.1,v1,Jint p0.un.2.2.1,Jint p0.un.2.2.2.1,v2]),(some 3,b2,[Jint p2.1,Jint p2.2.1,Jint p2.2.2.1,Jint p2.2.2.2.1,Jint p2.2.2.2.2]),(some 6,b2,[Jint p2.1,Jint p2.2.1,Jint p2.2.2.1,Jint p2.2.2.2.1,Jint p2.2.2.2.2])] []) (fun ch a d v w h => by cases d <;> exact h) MO (by kernel_rfl) F (fun w F => ⟨_,_,F,(all_cons (fun _ => (.tail _ (.head _))) (all_cons (fun _ => (.head _)) (all_cons (fun _ => (.head _)) BS))),BS⟩) fun w F => ?_
   refine KU (R := [3]) W Aa Aa (yC fun M Z hN hZ => EW (cs := (RB p0 v1 v2)) (v := Value.agg #[Jint p0.un.1,Jint p0.un.2.1.un.1,Jint p0.un.2.1.un.2.1,Jint p0.un.2.1.un.2.2.1,v1,Jint p0.un.2.2.1,Jint p0.un.2.2.2.1,v2]) W Aa (hN ((some 3),b1,(RB p0 v1 v2)) (.head _) Aa) lZ Aa) (by kernel_rfl) Aa fun a W => ?_
   refine KU (R := []) W Aa Aa (yC fun M Z hN hZ => Gr W Aa) Aa Aa fun a W => ?_
   refine KU (R := [3]) W Aa Aa (yC fun M Z hN hZ => EW (cs := (Dd p2)) (v := Value.agg #[Jint p2.1,Jint p2.2.1,Jint p2.2.2.1,Jint p2.2.2.2.1,Jint p2.2.2.2.2]) W Aa (hN ((some 3),b2,(Dd p2)) (.tail _ (.head _)) Aa) Xh Aa) (by kernel_rfl) Aa fun a W => ?_
   refine KU (R := []) W Aa Aa (yC fun M Z hN hZ => Gr W Aa) Aa Aa fun a W => ?_
   refine KU (R := [6]) W Aa Aa (yC fun M Z hN hZ => EW (cs := (Dd p2)) (v := Value.agg #[Jint p2.1,Jint p2.2.1,Jint p2.2.2.1,Jint p2.2.2.2.1,Jint p2.2.2.2.2]) W Aa (hN ((some 6),b2,(Dd p2)) (.tail _ (.tail _ (.head _))) Aa) Xh Aa) (by kernel_rfl) Aa fun a W => ?_
   refine TN Aa ?_
   obtain ⟨x9,h11,H⟩ := BO H
   refine FK (Ml := []) (Zl := []) (β := Value × Value) (rv := fun x => .agg #[Jint x9.un.1,Jint x9.un.2.1.un.1,Jint x9.un.2.1.un.2.1,Jint x9.un.2.1.un.2.2.1,x.1,Jint x9.un.2.2.1,Jint x9.un.2.2.2.1,x.2]) (MM := fun x => []) (ZZ := fun x => [frz x.1 Lp x9.un.2.1.un.2.2.2,frz x.2 Lz x9.un.2.2.2.2]) W F H76 Aa Aa (fun hL => QY _ w (v1) (v2) (Tr41.of (p0.un.1,f38 p0.un.2.1,p0.un.2.2.1,p0.un.2.2.2.1,p0.un.2.2.2.2)) p1 p2 _ h11 (Sl.hide Sg h1 (F.old s_v1)) (Sl.hide OZ h2 (F.old s_v2))) fun x a w W F => ?_
   obtain ⟨v11,v12⟩ := x
   have F : sy Y w0 (J7 b2 p2 b1 p0 v1 v2) [frz v11 Lp x9.un.2.1.un.2.2.2,frz v12 Lz x9.un.2.2.2.2] w := F
   refine ID (N2 := []) (NZ2 := []) (N3 := [(some 3,b1,[Jint p0.un.1,Jint p0.un.2.1.un.1,Jint p0.un.2.1.un.2.1,Jint p0.un.2.1.un.2.2.1,v1,Jint p0.un.2.2.1,Jint p0.un.2.2.2.1,v2]),(some 3,b2,[Jint p2.1,Jint p2.2.1,Jint p2.2.2.1,Jint p2.2.2.2.1,Jint p2.2.2.2.2]),(some 6,b2,[Jint p2.1,Jint p2.2.1,Jint p2.2.2.1,Jint p2.2.2.2.1,Jint p2.2.2.2.2])]) (NZ3 := []) F Aa Aa (all_cons (fun h => Ch (by kernel_rfl) h) (all_cons (fun h => Ch (by kernel_rfl) h) (all_cons (fun _ => (.head _)) BS))) BS ?_
   refine TN Aa ?_
   obtain ⟨x10,h12,H⟩ := BO H
   refine FK (Ml := []) (Zl := []) (β := Value) (rv := fun x => x) (MM := fun x => []) (ZZ := fun x => [Cj x CY AQ x10]) W F zD Aa Aa (fun hL => ih _ w (v11) (v12) (Tr41.of (x9.un.1,f38 x9.un.2.1,x9.un.2.2.1,x9.un.2.2.2.1,x9.un.2.2.2.2)) p1 p2 _ h12 (F.item (i := 0) Aa) (F.item (i := 1) Aa)) fun x a w W F => ?_
   obtain ⟨v13,rfl⟩ : ∃ y,y = x := ⟨x,rfl⟩
   have F : sy Y w0 (J7 b2 p2 b1 p0 v1 v2) [Cj v13 CY AQ x10,frz v11 Lp x9.un.2.1.un.2.2.2,frz v12 Lz x9.un.2.2.2.2] w := F
   refine ID (N2 := []) (NZ2 := []) (N3 := [(some 3,b1,[Jint p0.un.1,Jint p0.un.2.1.un.1,Jint p0.un.2.1.un.2.1,Jint p0.un.2.1.un.2.2.1,v1,Jint p0.un.2.2.1,Jint p0.un.2.2.2.1,v2]),(some 3,b2,[Jint p2.1,Jint p2.2.1,Jint p2.2.2.1,Jint p2.2.2.2.1,Jint p2.2.2.2.2]),(some 6,b2,[Jint p2.1,Jint p2.2.1,Jint p2.2.2.1,Jint p2.2.2.2.1,Jint p2.2.2.2.2])]) (NZ3 := []) F Aa Aa (all_cons (fun h => Ch (by kernel_rfl) h) (all_cons (fun h => Ch (by kernel_rfl) h) (all_cons (fun h => Ch (by kernel_rfl) h) BS))) BS ?_
   refine TN Aa ?_
   refine ls W F Aa (Px W Aa).q fun a w W F => ?_
   refine ID (N2 := []) (NZ2 := []) (N3 := [(some 3,b1,[Jint p0.un.1,Jint p0.un.2.1.un.1,Jint p0.un.2.1.un.2.1,Jint p0.un.2.1.un.2.2.1,v1,Jint p0.un.2.2.1,Jint p0.un.2.2.2.1,v2]),(some 3,b2,[Jint p2.1,Jint p2.2.1,Jint p2.2.2.1,Jint p2.2.2.2.1,Jint p2.2.2.2.2]),(some 6,b2,[Jint p2.1,Jint p2.2.1,Jint p2.2.2.1,Jint p2.2.2.2.1,Jint p2.2.2.2.2])]) (NZ3 := []) F Aa Aa (all_cons (fun h => Ch (by kernel_rfl) h) (all_cons (fun h => Ch (by kernel_rfl) h) (all_cons (fun h => Ch (by kernel_rfl) h) BS))) BS ?_
   refine XS (BJ (Ej (Jh (I6 ?_))))
   have H := L1 _ H
   have H := Gj H
   subst H
   refine Ga (.inl Aa) W F Aa (E2 W Aa) ?_
   have F := F.sub (M' := []) (Z' := [Cj v13 CY AQ x10]) nl (sc nl)
   exact ⟨(v13),Aa,F⟩
  have H := Yp (bN hb) H
  rw [hb] at W
  clear hb
  refine F9 (EK (BJ ?_))
  have F := F.frontM (i := 1) Aa Aa
  have F := F.frontM (i := 1) Aa Aa
  exact ⟨H,W.ra Aa,F⟩
 rintro a w ⟨hj,W,F⟩
 have H := K1 _ hj
 clear hj G1 K1 L1
 refine vc tk 2 W F fun a w W F => ?_
 refine Jl CY AQ W F Aa fun v14 a w W F => ?_
 have F : sy Y w0 (J7 b2 p2 b1 p0 v1 v2) [Cj v14 CY AQ ([] : List Sq)] w := F
 refine LD tk 3 W F fun a w W F => ?_
 refine Ej ?_
 have H := Gj H
 subst H
 refine Ga (.inl Aa) W F Aa (E2 W Aa) ?_
 have F := F.sub (M' := []) (Z' := [Cj v14 CY AQ ([] : List Sq)]) nl sr
 exact ⟨(v14),Aa,F⟩
theorem On : ∀ (n : Nat) (Y : Nat → Prop) (w0 : World) (v1 : Value) (v2 : Value) (p0 : Tr41) (p1 : Int) (p2 : Sq) (r : (List Sq)) (H : Ab n p0 p1 p2 = some r) (s_v1 : Sl w0 Y Lp v1 p0.un.2.1.un.2.2.2) (s_v2 : Sl w0 Y Lz v2 p0.un.2.2.2.2),ca_ 44 #[.agg #[Jint p0.un.1,Jint p0.un.2.1.un.1,Jint p0.un.2.1.un.2.1,Jint p0.un.2.1.un.2.2.1,v1,Jint p0.un.2.2.1,Jint p0.un.2.2.2.1,v2],Jint p1,.agg #[Jint p2.1,Jint p2.2.1,Jint p2.2.2.1,Jint p2.2.2.2.1,Jint p2.2.2.2.2]] w0 fun e w' => ∃ x : Value,e = .returned (x) ∧ sy Y w0 [] [Cj (x) CY AQ r] w' := by
  intro n
  induction n with
  | zero => intro Y w0 v1 v2 p0 p1 p2 r H; exact nomatch H
  | succ n ih => intro Y w0 v1 v2 p0 p1 p2 r H s_v1 s_v2; exact N7 (Ab n) ih Y w0 v1 v2 p0 p1 p2 r H s_v1 s_v2
theorem Qa (Y : Nat → Prop) (w0 : World) (v1 : Value) (v2 : Value) (p0 : Tr41) (p1 : Int) (p2 : Sq) (r : (List Sq)) (H : Fw p0 p1 p2 = some r) (s_v1 : Sl w0 Y Lp v1 p0.un.2.1.un.2.2.2) (s_v2 : Sl w0 Y Lz v2 p0.un.2.2.2.2) :
    ca_ 44 #[.agg #[Jint p0.un.1,Jint p0.un.2.1.un.1,Jint p0.un.2.1.un.2.1,Jint p0.un.2.1.un.2.2.1,v1,Jint p0.un.2.2.1,Jint p0.un.2.2.2.1,v2],Jint p1,.agg #[Jint p2.1,Jint p2.2.1,Jint p2.2.2.1,Jint p2.2.2.2.1,Jint p2.2.2.2.2]] w0 fun e w' => ∃ x : Value,e = .returned (x) ∧ sy Y w0 [] [Cj (x) CY AQ r] w' := by
  obtain ⟨n,H⟩ := Na H
  exact On n Y w0 v1 v2 p0 p1 p2 r H s_v1 s_v2
theorem mJ : type_of% Tryz.underlying53 := Tryz.underlying53
def E29 (a : Int × Int × Int × Int) : List Value := [Jint a.1,Jint a.2.1,Jint a.2.2.1,Jint a.2.2.2]
theorem F29 : Fl y7 E29 := (Fl.pair Fl.int (Fl.pair Fl.int (Fl.pair Fl.int Fl.int)))
def E60 (a : Sq) : List Value := [Jint a.1,Jint a.2.1,Jint a.2.2.1,Jint a.2.2.2.1,Jint a.2.2.2.2]
theorem nK : Fl JP E60 := (Fl.pair Fl.int F29)
theorem bV : Et Tryz.prog 53 60 5 40 := Et.of mJ (by kernel_rfl) (by kernel_rfl) (by kernel_rfl) (by decide)
def Ao (p0 : Int) (p1 : Int) : Int := (if (F4 p0) = true then (if (F4 p1) = true then 0 else (-1)) else (if (F4 p1) = true then 1 else (if p0 < p1 then (-1) else (if p1 < p0 then 1 else 0))))
noncomputable def b47 : Code := (Tryz.f47.body).getD .skip
def Aan : Ct := .d
abbrev K47 : Cn_ := ⟨xX,uZ,[],false,fun x => some (Ao x.1 x.2),some ⟨fun x => Ao x.1 x.2,fun _ => rfl⟩⟩
theorem v47 (x : Int × Int) : @Eq (Option Int) (dF te tO ([(77,K77)] : Hq te Tryz.prog) 20 b47 Aan xX uZ [] false [.tmp 4] x).den (some (Ao x.1 x.2)) := by simp only [Ao,apply_ite (some : Int → _)]; kernel_rfl
theorem k47 : KO (K47) 47 := dK DW (AH k77 BC) Tryz.func47 (by kernel_rfl) Tryz.ntmps47 rfl rfl rfl (by kernel_rfl) v47
theorem J3 (Y : Nat → Prop) (w0 : World)  (p0 : Int) (p1 : Int) (r : Int) (H : Ao p0 p1 = r)  :
    ca_ 47 #[Jint p0,Jint p1] w0 fun e w' => e = .returned (Jint r) ∧ Below w0.heap.size w0 w' := k47.outP (Y := Y) (x := (p0,p1)) (congrArg some H) rfl rfl rfl rfl rfl () trivial rfl trivial fun _ => rfl
theorem H47 : Has Tryz.prog 47 := Lh Tryz.func47
def DN (p0 : List Int) (p1 : List Int) : Int → Option (Int ⊕ (Unit ⊕ Int))
  | x1 => (if x1 < (p0.length : Int) then (ix p0 x1).bind fun x2 => (if (p1.length : Int) ≤ x1 then some (.inr (.inr 1)) else (ix p1 x1).bind fun x3 => (if (Ao x2 x3) ≠ 0 then some (.inr (.inr (Ao x2 x3))) else some (.inl (w64 (x1 + 1))))) else some (.inr (.inl ())))
def Du (p0 : List Int) (p1 : List Int) : Option Int := GN (Aj (DN p0 p1) 0) fun _ => (if (p0.length : Int) < (p1.length : Int) then some (-1) else some 0)
abbrev K48 : Cn_ := ⟨[oN,oN],[JQ],[],false,fun x => Du x.1 x.2,none⟩
theorem k48 : KO (K48) 48 := Ea (ct := (.q (.j (.st true ⟨[],[],[]⟩) (.q (.b (.l ⟨[(11,false,AO)],[],[]⟩ .d))) .d))) DW (AH k47 BC) Tryz.func48 (by kernel_rfl) fun x => by kernel_rfl
theorem GU (Y : Nat → Prop) (w0 : World) (v1 : Value) (v2 : Value) (p0 : List Int) (p1 : List Int) (r : Int) (H : Du p0 p1 = some r) (h_v1 : Sl w0 (NX []) ri v1 p0) (h_v2 : Sl w0 (NX []) ri v2 p1) :
    ca_ 48 #[v1,v2] w0 fun e w' => e = .returned (Jint r) ∧ Below w0.heap.size w0 w' := k48.outP (Y := Y) (x := (p0,p1)) H rfl rfl rfl rfl rfl (v1,(v2,())) ⟨h_v1,⟨h_v2,trivial⟩⟩ rfl trivial fun _ => rfl
theorem H48 : Has Tryz.prog 48 := Lh Tryz.func48
def F3 (p0 : List Int) : Int → Option (Int ⊕ (Unit ⊕ Int))
  | x1 => (if x1 < (p0.length : Int) then (ix p0 x1).bind fun x2 => (if x2 ≠ 0 then some (.inr (.inr x2)) else some (.inl (w64 (x1 + 1)))) else some (.inr (.inl ())))
def JA (p0 : List Int) : Option Int := GN (Aj (F3 p0) 0) fun _ => some 0
abbrev K46 : Cn_ := ⟨[oN],[JQ],[],false,fun x => JA x,none⟩
theorem k46 : KO (K46) 46 := Ea (ct := (.q (.q (.j (.st true ⟨[],[],[]⟩) (.q (.b (.l ⟨[(8,false,AO)],[],[]⟩ .d))) .d)))) DW BC Tryz.func46 (by kernel_rfl) fun x => by kernel_rfl
theorem Oy (Y : Nat → Prop) (w0 : World) (v1 : Value) (p0 : List Int) (r : Int) (H : JA p0 = some r) (h_v1 : Sl w0 (NX []) ri v1 p0) :
    ca_ 46 #[v1] w0 fun e w' => e = .returned (Jint r) ∧ Below w0.heap.size w0 w' := k46.outP (Y := Y) (x := p0) H rfl rfl rfl rfl rfl (v1,()) ⟨h_v1,trivial⟩ rfl trivial fun _ => rfl
theorem H46 : Has Tryz.prog 46 := Lh Tryz.func46
def Bn (p0 : Sq) (p1 : Sq) : Option Int := (Du ([p0.2.1,p0.2.2.1,p0.2.2.2.1,p0.2.2.2.2]) ([p1.2.1,p1.2.2.1,p1.2.2.2.1,p1.2.2.2.2])).bind fun x1 => (JA ([(Ao p0.1 p1.1),x1] : List Int)).bind fun x2 => some x2
theorem RJ (Y : Nat → Prop) (w0 : World)  (p0 : Sq) (p1 : Sq) (r : Int) (H : Bn p0 p1 = some r)  :
    ca_ 45 #[.agg #[Jint p0.1,Jint p0.2.1,Jint p0.2.2.1,Jint p0.2.2.2.1,Jint p0.2.2.2.2],.agg #[Jint p1.1,Jint p1.2.1,Jint p1.2.2.1,Jint p1.2.2.2.1,Jint p1.2.2.2.2]] w0 fun e w' => e = .returned (Jint r) ∧ Below w0.heap.size w0 w' := by
 refine enter Tryz.func45 Aa Tryz.ntmps45 Aa fun a W => ?_
 have F := Stw.start Y w0
 unfold Bn at H
 refine vc tk 2 W F fun a w W F => ?_
 refine IR (cs := (Dd p0)) W F Aa Aa Aa fun b1 a w W F => ?_
 refine IR (cs := (Dd p1)) W F Aa Aa Aa fun b2 a w W F => ?_
 refine LD tk 4 W F fun a w W F => ?_
 refine R6 10 F MO (by kernel_rfl) ?_
 refine qs W Aa (Cd Ph Aa Aa Aa T3 W Aa 0 Aa).q fun a W => ?_
 refine qs W Aa (Ho (v := Jint p0.1) 1 W Aa Aa T3 Aa).q fun a W => ?_
 refine qs W Aa (Cd Ph Aa Aa Aa T3 W Aa 0 Aa).q fun a W => ?_
 refine qs W Aa (Ho (v := Jint p1.1) 0 W Aa Aa T3 Aa).q fun a W => ?_
 refine qs W Aa (Hi (v := Jint (Ao p0.1 p1.1)) W H47 Aa (fun w F => J3 any w p0.1 p1.1 _ Aa)) fun a W => ?_
 refine qs W Aa (Cd Ph Aa Aa Aa kU W Aa 1 Aa).q fun a W => ?_
 refine qs W Aa (PE Ud W Aa).q fun a W => ?_
 refine qs W Aa (Cd Ph Aa Aa Aa kU W Aa 1 Aa).q fun a W => ?_
 refine qs W Aa (PE Ud W Aa).q fun a W => ?_
 obtain ⟨x1,h1,H⟩ := BO H
 refine qs W Aa (Hi (v := Jint x1) W H48 Aa (fun w F => GU any w ((Value.slice (some ⟨b1,1,none⟩) 4 4)) ((Value.slice (some ⟨b2,1,none⟩) 4 4)) ([p0.2.1,p0.2.2.1,p0.2.2.2.1,p0.2.2.2.2]) ([p1.2.1,p1.2.2.1,p1.2.2.2.1,p1.2.2.2.2]) _ h1 (kA (ZB 1 Fl.int Aa Aa Aa) F) (kA (ZB 0 Fl.int Aa Aa Aa) F))) fun a W => ?_
 refine Iq fun w F => ?_
 refine Ut (z := Jint 0) (cs := [Jint (Ao p0.1 p1.1),Jint x1]) ri ([(Ao p0.1 p1.1),x1] : List Int) W F Aa L62 Z3 Aa Aa Aa Aa Aa Aa (Fl.int.repL _ _ ([(Ao p0.1 p1.1),x1] : List Int)) fun v1 a w W F => ?_
 obtain ⟨x2,h2,H⟩ := BO H
 refine ls W F Aa (Hi (v := Jint x2) W H46 Aa (fun w F => Oy any w (v1) ([(Ao p0.1 p1.1),x1] : List Int) _ h2 (kA (DP 0 Aa) F))) fun a w W F => ?_
 refine LD tk 3 W F fun a w W F => ?_
 refine Ej ?_
 have H := Gj H
 subst H
 refine Ga (.inl Aa) W F Aa (E2 W Aa) ?_
 exact ⟨rfl,F.done⟩
abbrev K45 : Cn_ := ⟨Abp,Aa5,[],false,fun x => Bn x.1 x.2,none⟩
theorem pJ : KO K45 45 := KO.of ⟨fun args w => Bf Tryz.func45 rfl (by decide) args w⟩ rfl (fun _ => rfl) (fun _ => rfl) rfl (fun _ => rfl) (fun _ => rfl) (fun _ => rfl) (fun _ => rfl) fun Y w0 x r g H hg hk => (RJ Y w0  x.1 x.2 r H ).mono fun e w' h => ⟨(),h.1,Stw.ofB h.2⟩
def A0 (p1 : Int) : ((List Sq) × Int) → Option (((List Sq) × Int) ⊕ (List Sq))
  | (x4,x5) => (if p1 < x5 then (ix x4 x5).bind fun x7 => (ix x4 (w64 (x5 - 1))).bind fun x8 => (Bn x7 x8).bind fun x9 => some (decide (x9 < 0)) else some false).bind fun x6 => (if x6 = true then (ix x4 (w64 (x5 - 1))).bind fun x10 => (ix x4 x5).bind fun x11 => (ix x4 x5).bind fun x12 => (ix (AU x4 x5 x10) (w64 (x5 - 1))).bind fun x13 => some (.inl ((AU (AU x4 x5 x10) (w64 (x5 - 1)) x11),w64 (x5 - 1))) else some (.inr x4))
def BH (p1 : Int) (p2 : Int) : ((List Sq) × Int) → Option (((List Sq) × Int) ⊕ (List Sq))
  | (x1,x2) => (if x2 < p2 then (Aj (A0 p1) (x1,x2)).bind fun x3 => some (.inl (x3,w64 (x2 + 1))) else some (.inr x1))
def Bp (p0 : List Sq) (p1 : Int) (p2 : Int) : Option (List Sq) := Aj (BH p1 p2) (p0,w64 (p1 + 1))
abbrev K94 : Cn_ := ⟨[QZ,DJ,DJ,PC],[],[],true,fun x => Bp x.1 x.2.1 x.2.2.1,none⟩
theorem k94 : KO (K94) 94 := Ea (ct := (.q (.b (.l ⟨[(0,false,D6),(8,false,AO)],[],[0]⟩ (.q (.j (.st false ⟨[(0,false,D6)],[],[0]⟩) (.b (.q (.b (.l ⟨[(0,false,D6),(9,false,AO)],[],[0]⟩ (.s (.j (.st false ⟨[(34,false,Ez)],[],[]⟩) .d .d) .d))))) .d)))))) DW (AH pJ BC) Tryz.func94 (by kernel_rfl) fun x => by kernel_rfl
def AN (p2 : Int) (p3 : Int) : ((List Sq) × Int) → Option (((List Sq) × Int) ⊕ (List Sq))
  | (x1,x2) => (if p2 ≤ (w64 ((w64 (2 * x2)) + 1)) then some (.inr x1) else ((if (w64 ((w64 ((w64 (2 * x2)) + 1)) + 1)) < p2 then (ix x1 (w64 (p3 + (w64 ((w64 (2 * x2)) + 1))))).bind fun x5 => (ix x1 (w64 ((w64 (p3 + (w64 ((w64 (2 * x2)) + 1)))) + 1))).bind fun x6 => (Bn x5 x6).bind fun x7 => some (decide (x7 < 0)) else some false).bind fun x4 => (if x4 = true then some (w64 ((w64 ((w64 (2 * x2)) + 1)) + 1)) else some (w64 ((w64 (2 * x2)) + 1)))).bind fun x3 => (ix x1 (w64 (p3 + x2))).bind fun x8 => (ix x1 (w64 (p3 + x3))).bind fun x9 => (Bn x8 x9).bind fun x10 => (if (!(decide (x10 < 0))) = true then some (.inr x1) else (ix x1 (w64 (p3 + x3))).bind fun x11 => (ix x1 (w64 (p3 + x2))).bind fun x12 => (ix x1 (w64 (p3 + x2))).bind fun x13 => (ix (AU x1 (w64 (p3 + x2)) x11) (w64 (p3 + x3))).bind fun x14 => some (.inl ((AU (AU x1 (w64 (p3 + x2)) x11) (w64 (p3 + x3)) x12),x3))))
def BU (p0 : List Sq) (p1 : Int) (p2 : Int) (p3 : Int) : Option (List Sq) := Aj (AN p2 p3) (p0,p1)
abbrev AaF : Cn_ := ⟨[QZ,DJ,DJ,DJ,PC],[],[],true,fun x => BU x.1 x.2.1 x.2.2.1 x.2.2.2.1,none⟩
theorem Aa8 : KO (AaF) 126 := Ea (ct := (.q (.b (.l ⟨[(0,false,D6),(10,false,AO)],[],[0]⟩ (.b (.q (.q (.j (.st false ⟨[(11,false,AO)],[],[]⟩) (.j (.st false ⟨[(40,false,Ez)],[],[]⟩) .d .d) .d)))))))) DW (AH pJ BC) Tryz.func126 (by kernel_rfl) fun x => by kernel_rfl
def B9 (p1 : Int) (p2 : Int) : ((List Sq) × Int) → Option (((List Sq) × Int) ⊕ (List Sq))
  | (x2,x3) => (if 0 ≤ x3 then (BU x2 x3 (w64 (p2 - p1)) p1).bind fun x4 => some (.inl (x4,w64 (x3 - 1))) else some (.inr x2))
def B7 (p1 : Int) : ((List Sq) × Int) → Option (((List Sq) × Int) ⊕ (List Sq))
  | (x5,x6) => (if 0 ≤ x6 then (ix x5 (w64 (p1 + x6))).bind fun x7 => (ix x5 p1).bind fun x8 => (ix x5 p1).bind fun x9 => (ix (AU x5 p1 x7) (w64 (p1 + x6))).bind fun x10 => (BU (AU (AU x5 p1 x7) (w64 (p1 + x6)) x8) 0 x6 p1).bind fun x11 => some (.inl (x11,w64 (x6 - 1))) else some (.inr x5))
def BW (p0 : List Sq) (p1 : Int) (p2 : Int) : Option (List Sq) := (Aj (B9 p1 p2) (p0,w64 (Int.tdiv (w64 ((w64 (p2 - p1)) - 1)) 2))).bind fun x1 => Aj (B7 p1) (x1,w64 ((w64 (p2 - p1)) - 1))
abbrev K95 : Cn_ := ⟨[QZ,DJ,DJ,PC],[],[],true,fun x => BW x.1 x.2.1 x.2.2.1,none⟩
theorem k95 : KO (K95) 95 := Ea (ct := (.q (.q (.q (.j (.st false ⟨[(0,false,D6)],[],[0]⟩) (.q (.b (.l ⟨[(0,false,D6),(11,false,AO)],[],[0]⟩ .d))) (.q (.b (.l ⟨[(0,false,D6),(12,false,AO)],[],[0]⟩ .d)))))))) DW (AH Aa8 BC) Tryz.func95 (by kernel_rfl) fun x => by kernel_rfl
def BM (p0 : List Sq) (p1 : Int) (p2 : Int) (p3 : Int) : Option (Int × Int × Int) := (ix p0 p2).bind fun x1 => (ix p0 p1).bind fun x2 => (Bn x1 x2).bind fun x3 => (if x3 < 0 then some (p2,p1,w64 (p3 + 1)) else some (p1,p2,p3))
abbrev Abo : Cn_ := ⟨[QE,DJ,DJ,(.p,[]),PC],[JQ,JQ],[(true,AO)],false,fun x => BM x.1 x.2.1 x.2.2.1 x.2.2.2.2,none⟩
theorem Aaj : KO (Abo) 144 := Ea (ct := .d) DW (AH pJ BC) Tryz.func144 (by kernel_rfl) fun x => by kernel_rfl
def BL (p0 : List Sq) (p1 : Int) (p2 : Int) (p3 : Int) (p4 : Int) : Option (Int × Int) := (BM p0 p1 p2 p4).bind fun x1 => (BM p0 x1.2.1 p3 x1.2.2).bind fun x2 => (BM p0 x1.1 x2.1 x2.2.2).bind fun x3 => some (x3.2.1,x3.2.2)
abbrev Aaw : Cn_ := ⟨[QE,DJ,DJ,DJ,(.p,[]),PC],[JQ],[(true,AO)],false,fun x => BL x.1 x.2.1 x.2.2.1 x.2.2.2.1 x.2.2.2.2.2,none⟩
theorem wK : KO (Aaw) 130 := Ea (ct := .d) DW (AH Aaj BC) Tryz.func130 (by kernel_rfl) fun x => by kernel_rfl
def AX (p0 : List Sq) (p1 : Int) (p2 : Int) : Option (Int × Int) := (BL p0 (w64 (p1 - 1)) p1 (w64 (p1 + 1)) p2).bind fun x1 => some (x1.1,x1.2)
abbrev AbC : Cn_ := ⟨[QE,DJ,(.p,[]),PC],[JQ],[(true,AO)],false,fun x => AX x.1 x.2.1 x.2.2.2,none⟩
theorem Abw : KO (AbC) 129 := Ea (ct := .d) DW (AH wK BC) Tryz.func129 (by kernel_rfl) fun x => by kernel_rfl
def BF (p0 : List Sq) (p1 : Int) (p2 : Int) : Option (Int × Int) := (if 8 ≤ (w64 (p2 - p1)) then (if 50 ≤ (w64 (p2 - p1)) then (AX p0 (w64 (p1 + (w64 ((w64 (Int.tdiv (w64 (p2 - p1)) 4)) * 1)))) 0).bind fun x7 => (AX p0 (w64 (p1 + (w64 ((w64 (Int.tdiv (w64 (p2 - p1)) 4)) * 2)))) x7.2).bind fun x8 => (AX p0 (w64 (p1 + (w64 ((w64 (Int.tdiv (w64 (p2 - p1)) 4)) * 3)))) x8.2).bind fun x9 => some (x7.1,x8.1,x9.1,x9.2) else some (w64 (p1 + (w64 ((w64 (Int.tdiv (w64 (p2 - p1)) 4)) * 1))),w64 (p1 + (w64 ((w64 (Int.tdiv (w64 (p2 - p1)) 4)) * 2))),w64 (p1 + (w64 ((w64 (Int.tdiv (w64 (p2 - p1)) 4)) * 3))),0)).bind fun (x3,x4,x5,x6) => (BL p0 x3 x4 x5 x6).bind fun x10 => some (x10.1,x10.2) else some (w64 (p1 + (w64 ((w64 (Int.tdiv (w64 (p2 - p1)) 4)) * 2))),0)).bind fun (x1,x2) => (if x2 = 0 then some (x1,1) else (if x2 = 12 then some (x1,2) else some (x1,0)))
abbrev K97 : Cn_ := ⟨[QE,DJ,DJ,PC],[JQ,JQ],[],false,fun x => BF x.1 x.2.1 x.2.2.1,none⟩
theorem k97 : KO (K97) 97 := Ea (ct := (.q (.q (.q (.q (.q (.q (.j (.st false ⟨[(13,false,AO)],[(0,[some (.d false Jb)])],[]⟩) (.q (.c (.j (.st false ⟨[(12,false,AO),(13,false,AO),(14,false,AO)],[(0,[some (.d false Jb)])],[]⟩) .d .d) .d)) .d)))))))) DW (AH wK (AH Abw BC)) Tryz.func97 (by kernel_rfl) fun x => by kernel_rfl
def Bg  : ((List Sq) × Int × Int) → Option (((List Sq) × Int × Int) ⊕ (List Sq))
  | (x1,x2,x3) => (if x2 < x3 then (ix x1 x3).bind fun x4 => (ix x1 x2).bind fun x5 => (ix x1 x2).bind fun x6 => (ix (AU x1 x2 x4) x3).bind fun x7 => some (.inl ((AU (AU x1 x2 x4) x3 x5),w64 (x2 + 1),w64 (x3 - 1))) else some (.inr x1))
def Ba (p0 : List Sq) (p1 : Int) (p2 : Int) : Option (List Sq) := Aj (Bg) (p0,p1,w64 (p2 - 1))
abbrev K98 : Cn_ := ⟨[QZ,DJ,DJ,PC],[],[],true,fun x => Ba x.1 x.2.1 x.2.2.1,none⟩
theorem k98 : KO (K98) 98 := Ea (ct := (.q (.q (.b (.l ⟨[(0,false,D6),(8,false,AO),(9,false,AO)],[],[0]⟩ .d))))) DW BC Tryz.func98 (by kernel_rfl) fun x => by kernel_rfl
def BK (p2 : Int) (x2 : List Sq) : Int → Option (Int ⊕ Int)
  | x8 => (if x8 < p2 then (ix x2 x8).bind fun x10 => (ix x2 (w64 (x8 - 1))).bind fun x11 => (Bn x10 x11).bind fun x12 => some (!(decide (x12 < 0))) else some false).bind fun x9 => (if x9 = true then some (.inl (w64 (x8 + 1))) else some (.inr x8))
def Ax  : ((List Sq) × Int) → Option (((List Sq) × Int) ⊕ (List Sq))
  | (x18,x19) => (if 1 ≤ x19 then (ix x18 x19).bind fun x20 => (ix x18 (w64 (x19 - 1))).bind fun x21 => (Bn x20 x21).bind fun x22 => (if (!(decide (x22 < 0))) = true then some (.inr x18) else (ix x18 (w64 (x19 - 1))).bind fun x23 => (ix x18 x19).bind fun x24 => (ix x18 x19).bind fun x25 => (ix (AU x18 x19 x23) (w64 (x19 - 1))).bind fun x26 => some (.inl ((AU (AU x18 x19 x23) (w64 (x19 - 1)) x24),w64 (x19 - 1)))) else some (.inr x18))
def AM (p2 : Int) (x7 : Int) : ((List Sq) × Int) → Option (((List Sq) × Int) ⊕ (((List Sq) × Int) ⊕ (((List Sq) × Int × Int) ⊕ ((List Sq) ⊕ (Bool × (List Sq))))))
  | (x27,x28) => (if x28 < p2 then (ix x27 x28).bind fun x29 => (ix x27 (w64 (x28 - 1))).bind fun x30 => (Bn x29 x30).bind fun x31 => (if (!(decide (x31 < 0))) = true then some (.inr (.inl (x27,x7))) else (ix x27 (w64 (x28 - 1))).bind fun x32 => (ix x27 x28).bind fun x33 => (ix x27 x28).bind fun x34 => (ix (AU x27 x28 x32) (w64 (x28 - 1))).bind fun x35 => some (.inl ((AU (AU x27 x28 x32) (w64 (x28 - 1)) x33),w64 (x28 + 1)))) else some (.inr (.inl (x27,x7))))
def AL (p1 : Int) (p2 : Int) : ((List Sq) × Int × Int) → Option (((List Sq) × Int × Int) ⊕ ((List Sq) ⊕ (Bool × (List Sq))))
  | (x2,x3,x4) => (if x4 < 5 then GN ((Aj (BK p2 x2) x3).bind fun x7 => (if x7 = p2 then some (.inr (.inr (.inr (true,x2)))) else (if (w64 (p2 - p1)) < 50 then some (.inr (.inr (.inr (false,x2)))) else (ix x2 (w64 (x7 - 1))).bind fun x13 => (ix x2 x7).bind fun x14 => (ix x2 x7).bind fun x15 => (ix (AU x2 x7 x13) (w64 (x7 - 1))).bind fun x16 => (if 2 ≤ (w64 (x7 - p1)) then Aj (Ax) ((AU (AU x2 x7 x13) (w64 (x7 - 1)) x14),w64 (x7 - 1)) else some (AU (AU x2 x7 x13) (w64 (x7 - 1)) x14)).bind fun x17 => (if 2 ≤ (w64 (p2 - x7)) then Aj (AM p2 x7) (x17,w64 (x7 + 1)) else some (.inl (x17,x7)))))) fun (x5,x6) => some (.inl (x5,x6,w64 (x4 + 1))) else some (.inr (.inl x2)))
def AS (p0 : List Sq) (p1 : Int) (p2 : Int) : Option (Bool × (List Sq)) := GN (Aj (AL p1 p2) (p0,w64 (p1 + 1),0)) fun x1 => some (false,x1)
abbrev K99 : Cn_ := ⟨[QZ,DJ,DJ,PC],[KP],[],true,fun x => AS x.1 x.2.1 x.2.2.1,none⟩
theorem k99 : KO (K99) 99 := Ea (ct := (.q (.q (.j (.st true ⟨[(0,false,D6)],[],[0]⟩) (.q (.b (.l ⟨[(0,false,D6),(9,false,AO),(10,false,AO)],[],[0]⟩ (.q (.j (.st true ⟨[(0,false,D6),(9,false,AO)],[],[0]⟩) (.b (.j (.st false ⟨[(9,false,AO)],[],[]⟩) (.b (.l ⟨[(9,false,AO)],[],[]⟩ (.s (.j (.st false ⟨[(36,false,Ez)],[],[]⟩) .d .d) .d))) (.q (.q (.q (.j (.st false ⟨[(0,false,D6)],[],[0]⟩) (.q (.c (.q (.b (.l ⟨[(0,false,D6),(11,false,AO)],[],[0]⟩ .d))) .d)) (.q (.c (.q (.b (.l ⟨[(0,false,D6),(12,false,AO)],[],[0]⟩ .d))) .d)))))))) .d))))) .d)))) DW (AH pJ BC) Tryz.func99 (by kernel_rfl) fun x => by kernel_rfl
def Cc (p1 : Int) (x7 : List Sq) (x9 : Int) : Int → Option (Int ⊕ Int)
  | x11 => (if x11 ≤ x9 then (ix x7 p1).bind fun x13 => (ix x7 x11).bind fun x14 => (Bn x13 x14).bind fun x15 => some (!(decide (x15 < 0))) else some false).bind fun x12 => (if x12 = true then some (.inl (w64 (x11 + 1))) else some (.inr x11))
def Cb (p1 : Int) (x7 : List Sq) (x10 : Int) : Int → Option (Int ⊕ Int)
  | x17 => (if x10 ≤ x17 then (ix x7 p1).bind fun x19 => (ix x7 x17).bind fun x20 => (Bn x19 x20).bind fun x21 => some (decide (x21 < 0)) else some false).bind fun x18 => (if x18 = true then some (.inl (w64 (x17 - 1))) else some (.inr x17))
def BA (p1 : Int) : ((List Sq) × Int × Int) → Option (((List Sq) × Int × Int) ⊕ (Int × (List Sq)))
  | (x7,x8,x9) => (Aj (Cc p1 x7 x9) x8).bind fun x10 => (Aj (Cb p1 x7 x10) x9).bind fun x16 => (if x16 < x10 then some (.inr (x10,x7)) else (ix x7 x16).bind fun x22 => (ix x7 x10).bind fun x23 => (ix x7 x10).bind fun x24 => (ix (AU x7 x10 x22) x16).bind fun x25 => some (.inl ((AU (AU x7 x10 x22) x16 x23),w64 (x10 + 1),w64 (x16 - 1))))
def Bl (p0 : List Sq) (p1 : Int) (p2 : Int) (p3 : Int) : Option (Int × (List Sq)) := (ix p0 p3).bind fun x1 => (ix p0 p1).bind fun x2 => (ix p0 p1).bind fun x3 => (ix (AU p0 p1 x1) p3).bind fun x4 => (Aj (BA p1) ((AU (AU p0 p1 x1) p3 x2),w64 (p1 + 1),w64 (p2 - 1))).bind fun (x5,x6) => some (x5,x6)
abbrev AaT : Cn_ := ⟨[QZ,DJ,DJ,DJ,PC],[JQ],[],true,fun x => Bl x.1 x.2.1 x.2.2.1 x.2.2.2.1,none⟩
theorem Abt : KO (AaT) 100 := Ea (ct := (.q (.q (.q (.j (.st false ⟨[(11,false,AO),(0,false,D6)],[],[0]⟩) (.b (.l ⟨[(0,false,D6),(11,false,AO),(12,false,AO)],[],[0]⟩ (.b (.j (.st false ⟨[(11,false,AO)],[],[]⟩) (.b (.l ⟨[(11,false,AO)],[],[]⟩ (.s (.j (.st false ⟨[(47,false,Ez)],[],[]⟩) .d .d) .d))) (.j (.st false ⟨[(12,false,AO)],[],[]⟩) (.b (.l ⟨[(12,false,AO)],[],[]⟩ (.s (.j (.st false ⟨[(65,false,Ez)],[],[]⟩) .d .d) .d))) .d))))) .d))))) DW (AH pJ BC) Tryz.func100 (by kernel_rfl) fun x => by kernel_rfl
def B4 (p0 : List Sq) (p1 : Int) (p2 : Int) (p3 : Int) (x1 : Sq) (x2 : Sq) : Int → Option (Int ⊕ Int)
  | x6 => (if x6 ≤ (w64 (p2 - 1)) then (ix (AU (AU p0 p1 x1) p3 x2) x6).bind fun x8 => (ix (AU (AU p0 p1 x1) p3 x2) p1).bind fun x9 => (Bn x8 x9).bind fun x10 => some (decide (x10 < 0)) else some false).bind fun x7 => (if x7 = true then some (.inl (w64 (x6 + 1))) else some (.inr x6))
def Cs (p0 : List Sq) (p1 : Int) (p3 : Int) (x1 : Sq) (x2 : Sq) (x5 : Int) : Int → Option (Int ⊕ Int)
  | x12 => (if x5 ≤ x12 then (ix (AU (AU p0 p1 x1) p3 x2) x12).bind fun x14 => (ix (AU (AU p0 p1 x1) p3 x2) p1).bind fun x15 => (Bn x14 x15).bind fun x16 => some (!(decide (x16 < 0))) else some false).bind fun x13 => (if x13 = true then some (.inl (w64 (x12 - 1))) else some (.inr x12))
def Cu (p1 : Int) (x27 : List Sq) (x29 : Int) : Int → Option (Int ⊕ Int)
  | x31 => (if x31 ≤ x29 then (ix x27 x31).bind fun x33 => (ix x27 p1).bind fun x34 => (Bn x33 x34).bind fun x35 => some (decide (x35 < 0)) else some false).bind fun x32 => (if x32 = true then some (.inl (w64 (x31 + 1))) else some (.inr x31))
def Cv (p1 : Int) (x27 : List Sq) (x30 : Int) : Int → Option (Int ⊕ Int)
  | x37 => (if x30 ≤ x37 then (ix x27 x37).bind fun x39 => (ix x27 p1).bind fun x40 => (Bn x39 x40).bind fun x41 => some (!(decide (x41 < 0))) else some false).bind fun x38 => (if x38 = true then some (.inl (w64 (x37 - 1))) else some (.inr x37))
def Bz (p1 : Int) : ((List Sq) × Int × Int) → Option (((List Sq) × Int × Int) ⊕ ((List Sq) × Int))
  | (x27,x28,x29) => (Aj (Cu p1 x27 x29) x28).bind fun x30 => (Aj (Cv p1 x27 x30) x29).bind fun x36 => (if x36 < x30 then some (.inr (x27,x36)) else (ix x27 x36).bind fun x42 => (ix x27 x30).bind fun x43 => (ix x27 x30).bind fun x44 => (ix (AU x27 x30 x42) x36).bind fun x45 => some (.inl ((AU (AU x27 x30 x42) x36 x43),w64 (x30 + 1),w64 (x36 - 1))))
def BQ (p0 : List Sq) (p1 : Int) (p2 : Int) (p3 : Int) : Option (Int × Bool × (List Sq)) := (ix p0 p3).bind fun x1 => (ix p0 p1).bind fun x2 => (ix p0 p1).bind fun x3 => (ix (AU p0 p1 x1) p3).bind fun x4 => (Aj (B4 p0 p1 p2 p3 x1 x2) (w64 (p1 + 1))).bind fun x5 => (Aj (Cs p0 p1 p3 x1 x2 x5) (w64 (p2 - 1))).bind fun x11 => (if x11 < x5 then (ix (AU (AU p0 p1 x1) p3 x2) p1).bind fun x17 => (ix (AU (AU p0 p1 x1) p3 x2) x11).bind fun x18 => (ix (AU (AU p0 p1 x1) p3 x2) x11).bind fun x19 => (ix (AU (AU (AU p0 p1 x1) p3 x2) x11 x17) p1).bind fun x20 => some (x11,true,(AU (AU (AU (AU p0 p1 x1) p3 x2) x11 x17) p1 x18)) else (ix (AU (AU p0 p1 x1) p3 x2) x11).bind fun x21 => (ix (AU (AU p0 p1 x1) p3 x2) x5).bind fun x22 => (ix (AU (AU p0 p1 x1) p3 x2) x5).bind fun x23 => (ix (AU (AU (AU p0 p1 x1) p3 x2) x5 x21) x11).bind fun x24 => (Aj (Bz p1) ((AU (AU (AU (AU p0 p1 x1) p3 x2) x5 x21) x11 x22),w64 (x5 + 1),w64 (x11 - 1))).bind fun (x25,x26) => (ix x25 p1).bind fun x46 => (ix x25 x26).bind fun x47 => (ix x25 x26).bind fun x48 => (ix (AU x25 x26 x46) p1).bind fun x49 => some (x26,false,(AU (AU x25 x26 x46) p1 x47)))
abbrev zK : Cn_ := ⟨[QZ,DJ,DJ,DJ,PC],[JQ,KP],[],true,fun x => BQ x.1 x.2.1 x.2.2.1 x.2.2.2.1,none⟩
theorem AaG : KO (zK) 101 := Ea (ct := (.q (.q (.q (.j (.st false ⟨[(12,false,AO)],[],[]⟩) (.b (.l ⟨[(12,false,AO)],[],[]⟩ (.s (.j (.st false ⟨[(47,false,Ez)],[],[]⟩) .d .d) .d))) (.j (.st false ⟨[(13,false,AO)],[],[]⟩) (.b (.l ⟨[(13,false,AO)],[],[]⟩ (.s (.j (.st false ⟨[(66,false,Ez)],[],[]⟩) .d .d) .d))) (.q (.q (.q (.q (.j (.st false ⟨[(0,false,D6),(13,false,AO)],[],[0]⟩) (.b (.l ⟨[(0,false,D6),(12,false,AO),(13,false,AO)],[],[0]⟩ (.b (.j (.st false ⟨[(12,false,AO)],[],[]⟩) (.b (.l ⟨[(12,false,AO)],[],[]⟩ (.s (.j (.st false ⟨[(120,false,Ez)],[],[]⟩) .d .d) .d))) (.j (.st false ⟨[(13,false,AO)],[],[]⟩) (.b (.l ⟨[(13,false,AO)],[],[]⟩ (.s (.j (.st false ⟨[(139,false,Ez)],[],[]⟩) .d .d) .d))) .d))))) .d))))))))))) DW (AH pJ BC) Tryz.func101 (by kernel_rfl) fun x => by kernel_rfl
def BG (p1 : Int) (p2 : Int) (x1 : Int) : ((List Sq) × Int × Int) → Option (((List Sq) × Int × Int) ⊕ (List Sq))
  | (x2,x3,x4) => (if x3 ≤ (w64 ((w64 (p1 + (w64 ((w64 (Int.tdiv (w64 (p2 - p1)) 4)) * 2)))) + 1)) then (if (w64 (p2 - p1)) ≤ (w64 (U9 .u64 ((CC x4).1) (IntKind.u64.wrap (x1 - 1)))) then some (w64 ((w64 (U9 .u64 ((CC x4).1) (IntKind.u64.wrap (x1 - 1)))) - (w64 (p2 - p1)))) else some (w64 (U9 .u64 ((CC x4).1) (IntKind.u64.wrap (x1 - 1))))).bind fun x5 => (ix x2 (w64 (p1 + x5))).bind fun x6 => (ix x2 x3).bind fun x7 => (ix x2 x3).bind fun x8 => (ix (AU x2 x3 x6) (w64 (p1 + x5))).bind fun x9 => some (.inl ((AU (AU x2 x3 x6) (w64 (p1 + x5)) x7),w64 (x3 + 1),(CC x4).2)) else some (.inr x2))
def A6 (p0 : List Sq) (p1 : Int) (p2 : Int) : Option (List Sq) := (if 8 ≤ (w64 (p2 - p1)) then (DS (w64 (p2 - p1))).bind fun x1 => Aj (BG p1 p2 x1) (p0,w64 ((w64 (p1 + (w64 ((w64 (Int.tdiv (w64 (p2 - p1)) 4)) * 2)))) - 1),IntKind.u64.wrap (w64 (p2 - p1))) else some p0)
abbrev K96 : Cn_ := ⟨[QZ,DJ,DJ,PC],[],[],true,fun x => A6 x.1 x.2.1 x.2.2.1,none⟩
theorem k96 : KO (K96) 96 := Ea (ct := (.q (.q (.c (.q (.q (.q (.b (.l ⟨[(0,false,D6),(11,false,AO)],[(0,[some (.d false (.int .u64))])],[0]⟩ (.q (.s (.b (.q (.j (.st false ⟨[(12,false,AO)],[],[]⟩) .d .d))) .d))))))) .d)))) DW (AH yH (AH tY BC)) Tryz.func96 (by kernel_rfl) fun x => by kernel_rfl
def Af (fRec : (List Sq) → Int → Int → Int → Option (List Sq)) : ((List Sq) × Int × Int × Int × Bool × Bool) → Option (((List Sq) × Int × Int × Int × Bool × Bool) ⊕ (List Sq))
  | (x1,x2,x3,x4,x5,x6) => (if (w64 (x3 - x2)) ≤ 12 then (Bp x1 x2 x3).bind fun x7 => some (.inr x7) else (if x4 = 0 then (BW x1 x2 x3).bind fun x8 => some (.inr x8) else (if (!x5) = true then (A6 x1 x2 x3).bind fun x11 => some (x11,w64 (x4 - 1)) else some (x1,x4)).bind fun (x9,x10) => (BF x9 x2 x3).bind fun x12 => (if x12.2 = 2 then (Ba x9 x2 x3).bind fun x16 => some (x16,w64 ((w64 (x3 - 1)) - (w64 (x12.1 - x2))),1) else some (x9,x12.1,x12.2)).bind fun (x13,x14,x15) => GN (if (x5 && (x6 && decide (x15 = 1))) = true then (AS x13 x2 x3).bind fun x18 => (if x18.1 = true then some (.inr (.inr x18.2)) else some (.inl x18.2)) else some (.inl x13)) fun x17 => (if 0 < x2 then (ix x17 (w64 (x2 - 1))).bind fun x20 => (ix x17 x14).bind fun x21 => (Bn x20 x21).bind fun x22 => some (!(decide (x22 < 0))) else some false).bind fun x19 => (if x19 = true then (Bl x17 x2 x3 x14).bind fun x23 => some (.inl (x23.2,x23.1,x3,x10,(x5 && (x6 || true)),(bif x5 then x6 else x6))) else (BQ x17 x2 x3 x14).bind fun x24 => (if (w64 (x24.1 - x2)) < (w64 (x3 - x24.1)) then (fRec x24.2.2 x2 x24.1 x10).bind fun x25 => some (.inl (x25,w64 (x24.1 + 1),x3,x10,decide ((w64 (Int.tdiv (w64 (x3 - x2)) 8)) ≤ (w64 (x24.1 - x2))),x24.2.1)) else (fRec x24.2.2 (w64 (x24.1 + 1)) x3 x10).bind fun x26 => some (.inl (x26,x2,x24.1,x10,decide ((w64 (Int.tdiv (w64 (x3 - x2)) 8)) ≤ (w64 (x3 - x24.1))),x24.2.1))))))
def Bh (fRec : (List Sq) → Int → Int → Int → Option (List Sq)) (p0 : List Sq) (p1 : Int) (p2 : Int) (p3 : Int) : Option (List Sq) := Aj (Af fRec) (p0,p1,p2,p3,true,true)
def AA : Nat → (List Sq) → Int → Int → Int → Option (List Sq)
  | 0 => fun _ _ _ _ => none
  | n + 1 => Bh (AA n)
def Cp (p0 : List Sq) (p1 : Int) (p2 : Int) (p3 : Int) : Option (List Sq) := GX fun n => AA n p0 p1 p2 p3
def B8 (fRec : (List Sq) → Int → Int → Int → Option (List Sq)) : ((List Sq) × Int × Int × Int × Bool × Bool) → Option (((List Sq) × Int × Int × Int × Bool × Bool) ⊕ (List Sq))
  | (x1,x2,x3,x4,x5,x6) => (if (w64 (x3 - x2)) ≤ 12 then (Bp x1 x2 x3).bind fun x7 => some (.inr x7) else (if x4 = 0 then (BW x1 x2 x3).bind fun x8 => some (.inr x8) else (if (!x5) = true then (A6 x1 x2 x3).bind fun x11 => some (x11,w64 (x4 - 1)) else some (x1,x4)).bind fun (x9,x10) => (BF x9 x2 x3).bind fun x12 => (if x12.2 = 2 then (Ba x9 x2 x3).bind fun x16 => some (x16,w64 ((w64 (x3 - 1)) - (w64 (x12.1 - x2))),1) else some (x9,x12.1,x12.2)).bind fun (x13,x14,x15) => GN (if (x5 && (x6 && decide (x15 = 1))) = true then (AS x13 x2 x3).bind fun x18 => (if x18.1 = true then some (.inr (.inr x18.2)) else some (.inl x18.2)) else some (.inl x13)) fun x17 => (if 0 < x2 then (ix x17 (w64 (x2 - 1))).bind fun x20 => (ix x17 x14).bind fun x21 => (Bn x20 x21).bind fun x22 => some (!(decide (x22 < 0))) else some false).bind fun x19 => (if x19 = true then (Bl x17 x2 x3 x14).bind fun x23 => some (.inl (x23.2,x23.1,x3,x10,x5,x6)) else (BQ x17 x2 x3 x14).bind fun x24 => (if (w64 (x24.1 - x2)) < (w64 (x3 - x24.1)) then (fRec x24.2.2 x2 x24.1 x10).bind fun x25 => some (.inl (x25,w64 (x24.1 + 1),x3,x10,decide ((w64 (Int.tdiv (w64 (x3 - x2)) 8)) ≤ (w64 (x24.1 - x2))),x24.2.1)) else (fRec x24.2.2 (w64 (x24.1 + 1)) x3 x10).bind fun x26 => some (.inl (x26,x2,x24.1,x10,decide ((w64 (Int.tdiv (w64 (x3 - x2)) 8)) ≤ (w64 (x3 - x24.1))),x24.2.1))))))
theorem G0 : @B8 = @Af := by
 unfold B8 Af
 simp only [Bool.or_true,Bool.and_true,Bool.cond_self]
def CF (fRec : (List Sq) → Int → Int → Int → Option (List Sq)) (p0 : List Sq) (p1 : Int) (p2 : Int) (p3 : Int) : Option (List Sq) := Aj (B8 fRec) (p0,p1,p2,p3,true,true)
theorem G8 : @CF = @Bh := by
 unfold CF Bh
 simp only [G0]
theorem k70 : KO (K70 fun x => Cp x.1 x.2.1 x.2.2.1 x.2.2.2.1) 70 := R8 (E := te) (xs := l5) (ys := qM) (bs := []) (io := true) (nn := fun n x => AA n x.1 x.2.1 x.2.2.1 x.2.2.2.1) (st := fun g x => Bh (fun yp0 yp1 yp2 yp3 => g (yp0,yp1,yp2,yp3,())) x.1 x.2.1 x.2.2.1 x.2.2.2.1) Tryz.func70 rfl (by kernel_rfl) (fun _ => rfl) (fun _ => rfl) fun g hg => Ea (ct := (.q (.q (.b (.l ⟨[(0,false,D6),(1,false,AO),(2,false,AO),(3,false,AO),(10,false,Ez),(11,false,Ez)],[],[0]⟩ (.b (.q (.q (.q (.j (.st false ⟨[(0,false,D6),(3,false,AO)],[],[0]⟩) .d (.q (.j (.st false ⟨[(0,false,D6),(13,false,AO),(14,false,AO)],[],[0]⟩) .d (.j (.st true ⟨[(0,false,D6)],[],[0]⟩) (.j (.bl [75]) .d .d) (.s (.j (.st false ⟨[(97,false,Ez)],[],[]⟩) .d .d) .d)))))))))))))) DW (AH hg (AH pJ (AH k94 (AH k95 (AH k97 (AH k98 (AH k99 (AH Abt (AH AaG (AH k96 BC)))))))))) Tryz.func70 (by kernel_rfl) fun x => by rw [← G8]; kernel_rfl
def AF (p0 : List Sq) : Option (List Sq) := (GW (IntKind.u64.wrap (p0.length : Int))).bind fun x1 => (Cp p0 0 (p0.length : Int) x1).bind fun x2 => some x2
abbrev K42 : Cn_ := ⟨[QZ,PC],[],[],true,fun x => AF x.1,none⟩
theorem k42 : KO (K42) 42 := Ea (ct := .d) DW (AH z8 (AH k70 BC)) Tryz.func42 (by kernel_rfl) fun x => by kernel_rfl
theorem GQ (Y : Nat → Prop) (X : List Nat) (w0 : World) (v1 : Value) (p0 : List Sq) (r : (List Sq)) (H : AF p0 = some r) (hL : Stw ⟨Y,X,w0⟩ [] [row v1 60 JP p0] w0) :
    ca_ 42 #[v1,.func (.func 45) #[] #[]] w0 fun e w' => ∃ x : Unit,e = .returned (.tuple #[]) ∧ Stw ⟨Y,X,w0⟩ [] [row v1 60 JP r] w' := by
 refine (k42.out (Y := Y) (X := X) (x := (p0,())) (r := r) H Aa Aa Aa Aa Aa (v1,()) trivial hL trivial).mono ?_
 rintro e w' ⟨⟨b0,u⟩,he,F,hi⟩
 obtain rfl := (List.cons.inj (hi rfl)).1
 exact ⟨(),he,F⟩
end
end Go.Proofs.YtkhiflmalgkjiaaGreat
