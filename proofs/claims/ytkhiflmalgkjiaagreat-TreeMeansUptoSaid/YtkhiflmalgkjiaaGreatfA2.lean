/- The functions of layer 31, Sm. Conditions: none. -/
import Derived.Test.YtkhiflmalgkjiaaGreatfA1
set_option linter.unusedVariables false
set_option linter.unusedSimpArgs false
open Go Go.RowKit
namespace Go.Proofs.YtkhiflmalgkjiaaGreat
noncomputable section
set_option maxRecDepth 20000
set_option maxHeartbeats 1600000
theorem H42 : Has Tryz.prog 42 := Lh Tryz.func42
abbrev Ti (a0 : Nat) (a1 : Int × Int × Int × Int) (a2 : Nat) (a3 : Tr41) (a4 : Value) (a5 : Value) : List (Nat × List Value) := [(a0,[Jint a1.1,Jint a1.2.1,Jint a1.2.2.1,Jint a1.2.2.2]),(a2,[Jint a3.un.1,Jint a3.un.2.1.un.1,Jint a3.un.2.1.un.2.1,Jint a3.un.2.1.un.2.2.1,a4,Jint a3.un.2.2.1,Jint a3.un.2.2.2.1,a5])]
abbrev wI (a0 : Nat) (a1 : Sq) (a2 : Nat) (a3 : Int × Int × Int × Int) (a4 : Nat) (a5 : Tr41) (a6 : Value) (a7 : Value) : List (Nat × List Value) := [(a0,[Jint a1.1,Jint a1.2.1,Jint a1.2.2.1,Jint a1.2.2.2.1,Jint a1.2.2.2.2]),(a2,[Jint a3.1,Jint a3.2.1,Jint a3.2.2.1,Jint a3.2.2.2]),(a4,[Jint a5.un.1,Jint a5.un.2.1.un.1,Jint a5.un.2.1.un.2.1,Jint a5.un.2.1.un.2.2.1,a6,Jint a5.un.2.2.1,Jint a5.un.2.2.2.1,a7])]
def Gq (p0 : Tr41) (p1 : Int) (p2 : Int) (p3 : Int × Int × Int × Int) : Option (List Sq) := (Fw (Tr41.of (p0.un.1,f38 p0.un.2.1,p0.un.2.2.1,p0.un.2.2.2.1,p0.un.2.2.2.2)) p1 (p2,p3)).bind fun x1 => (HU ([] : List Sq) x1).bind fun _ => (Xa (fun lg8458 => AF lg8458) x1).bind fun x3 => some x3
theorem Vb (Y : Nat → Prop) (w0 : World) (v1 : Value) (v2 : Value) (p0 : Tr41) (p1 : Int) (p2 : Int) (p3 : Int × Int × Int × Int) (r : (List Sq)) (H : Gq p0 p1 p2 p3 = some r) (s_v1 : Sl w0 Y Lp v1 p0.un.2.1.un.2.2.2) (s_v2 : Sl w0 Y Lz v2 p0.un.2.2.2.2) :
    ca_ 19 #[.agg #[Jint p0.un.1,Jint p0.un.2.1.un.1,Jint p0.un.2.1.un.2.1,Jint p0.un.2.1.un.2.2.1,v1,Jint p0.un.2.2.1,Jint p0.un.2.2.2.1,v2],Jint p1,Jint p2,.agg #[Jint p3.1,Jint p3.2.1,Jint p3.2.2.1,Jint p3.2.2.2]] w0 fun e w' => ∃ x : Value,e = .returned (x) ∧ sy Y w0 [] [row (x) 60 JP r] w' := by
 refine enter Tryz.func19 Aa Tryz.ntmps19 Aa fun a W => ?_
 have F := Stw.start Y w0
 obtain ⟨v3,h1,s_v1⟩ := s_v1.ex Sg
 obtain ⟨v4,h2,s_v2⟩ := s_v2.ex OZ
 have h_v1 := F.nx s_v1
 have h_v2 := F.nx s_v2
 unfold Gq at H
 refine vc tk 2 W F fun a w W F => ?_
 refine IR (cs := (RB p0 v1 v2)) W F Aa Aa Aa fun b1 a w W F => ?_
 refine IR (cs := (dU p3)) W F Aa Aa Aa fun b2 a w W F => ?_
 refine aN tk 15 [1,0] W F (ai (ai fun a w W F => ?_))
 refine ls W F Aa (IC (v := Value.agg #[Jint p2,Jint p3.1,Jint p3.2.1,Jint p3.2.2.1,Jint p3.2.2.2]) B60 W Aa Aa Aa).q fun a w W F => ?_
 obtain ⟨x1,h3,H⟩ := BO H
 refine FK (Ml := []) (Zl := []) (β := Value) (rv := fun x => x) (MM := fun x => []) (ZZ := fun x => [Cj x CY AQ x1]) W F zD Aa Aa (fun hL => Qa _ w (v1) (v2) (Tr41.of (p0.un.1,f38 p0.un.2.1,p0.un.2.2.1,p0.un.2.2.2.1,p0.un.2.2.2.2)) p1 (p2,p3) _ h3 (Sl.hide Sg h1 (F.old s_v1)) (Sl.hide OZ h2 (F.old s_v2))) fun x a w W F => ?_
 obtain ⟨v5,rfl⟩ : ∃ y,y = x := ⟨x,rfl⟩
 have F : sy Y w0 (Ti b2 p3 b1 p0 v1 v2) [Cj v5 CY AQ x1] w := F
 refine Oa (q := 0) W F Aa Aa Aa Aa XJ fun i8458 m8458 e8458 c8458 l8458 a w hv8458 hE8458 W F => ?_
 have F : sy Y w0 (Ti b2 p3 b1 p0 v1 v2) [Hn i8458 m8458 c8458 #[] c8458,GG m8458 e8458 c8458] w := F
 refine LD tk 3 W F fun a w W F => ?_
 have F := F.nilRow 60 JP
 have F := F.frontZ (i := 2) Aa Aa
 have F := F.frontZ (i := 2) Aa Aa
 have F : sy Y w0 (Ti b2 p3 b1 p0 v1 v2) [Hn i8458 m8458 c8458 #[] c8458,GG m8458 e8458 c8458,row (Value.slice none 0 0) 60 JP ([] : List Sq)] w := F
 obtain ⟨x2,h4,H⟩ := BO H
 refine aH (sl := 9) (v0 := (Value.slice none 0 0)) (Ff := [(0,.agg #[Jint p0.un.1,Jint p0.un.2.1.un.1,Jint p0.un.2.1.un.2.1,Jint p0.un.2.1.un.2.2.1,v1,Jint p0.un.2.2.1,Jint p0.un.2.2.2.1,v2]),(1,Jint p1),(2,Jint p2),(3,.agg #[Jint p3.1,Jint p3.2.1,Jint p3.2.2.1,Jint p3.2.2.2]),(4,pp b1),(7,pp b2),(8,.slice none 0 0),(11,.agg #[Jint p0.un.1,Jint p0.un.2.1.un.1,Jint p0.un.2.1.un.2.1,Jint p0.un.2.1.un.2.2.1,v1,Jint p0.un.2.2.1,Jint p0.un.2.2.2.1,v2]),(12,Jint p1),(13,Jint p2),(14,.agg #[Jint p3.1,Jint p3.2.1,Jint p3.2.2.1,Jint p3.2.2.2]),(15,.agg #[Jint p2,Jint p3.1,Jint p3.2.1,Jint p3.2.2.1,Jint p3.2.2.2]),(16,v5)]) (Zr := []) (re := 60) (r := JP) h4 (W.ra Aa) F hv8458 hE8458 Aa Aa (fun kx8458 v8458_ s8458 sn8458 a w ha8458 hc8458 W F => ?_) fun v8458_ lg8458 a w hp8458 W F => ?_
 ·
  have W : Fr 29 [] [(0,.agg #[Jint p0.un.1,Jint p0.un.2.1.un.1,Jint p0.un.2.1.un.2.1,Jint p0.un.2.1.un.2.2.1,v1,Jint p0.un.2.2.1,Jint p0.un.2.2.2.1,v2]),(1,Jint p1),(2,Jint p2),(3,.agg #[Jint p3.1,Jint p3.2.1,Jint p3.2.2.1,Jint p3.2.2.2]),(4,pp b1),(7,pp b2),(8,.slice none 0 0),(9,v8458_),(11,.agg #[Jint p0.un.1,Jint p0.un.2.1.un.1,Jint p0.un.2.1.un.2.1,Jint p0.un.2.1.un.2.2.1,v1,Jint p0.un.2.2.1,Jint p0.un.2.2.2.1,v2]),(12,Jint p1),(13,Jint p2),(14,.agg #[Jint p3.1,Jint p3.2.1,Jint p3.2.2.1,Jint p3.2.2.2]),(15,.agg #[Jint p2,Jint p3.1,Jint p3.2.1,Jint p3.2.2.1,Jint p3.2.2.2]),(16,v5),(17,pp i8458),(18,.tuple #[.bool true,.agg #[Jint kx8458.1,Jint kx8458.2.1,Jint kx8458.2.2.1,Jint kx8458.2.2.2.1,Jint kx8458.2.2.2.2],.agg #[]]),(19,.bool true)] a := W.ra Aa
  have F : sy Y w0 (Ti b2 p3 b1 p0 v1 v2) [Hn i8458 m8458 c8458 sn8458 c8458,GG m8458 e8458 c8458,row v8458_ 60 JP s8458] w := F
  refine vc tk 3 W F fun a w W F => ?_
  refine ls W F Aa (Oe (q := 0) (q' := 1) W Aa Aa Aa hc8458).q fun a w W F => ?_
  refine ls W F Aa (Hy (v := Value.agg #[Jint kx8458.1,Jint kx8458.2.1,Jint kx8458.2.2.1,Jint kx8458.2.2.2.1,Jint kx8458.2.2.2.2]) W Aa Aa).q fun a w W F => ?_
  refine Hb (cs := (Wv)) W F Aa tG Aa fun b3 a w W F => ?_
  refine RC 0 W F Aa Aa Aa Xh Aa Aa Aa fun w F => ?_
  refine aN tk 5 [0] W F (ai fun a w W F => ?_)
  refine Ut (z := Value.agg #[Jint 0,Jint 0,Jint 0,Jint 0,Jint 0]) (cs := (Dd kx8458)) JP ([kx8458] : List Sq) W F Aa bV tG Aa Aa Aa Aa Aa Aa (nK.repL _ _ ([kx8458] : List Sq)) fun v6 a w W F => ?_
  refine Ls (r := JP) (i := 3) W F Aa bV Aa Aa Aa Aa (Re F 0 Aa) ha8458 Aa fun v7 a w W F => ?_
  have F : sy Y w0 (wI b3 kx8458 b2 p3 b1 p0 v1 v2) [row v7 60 JP (s8458 ++ [kx8458]),row v6 60 JP ([kx8458] : List Sq),Hn i8458 m8458 c8458 sn8458 c8458,GG m8458 e8458 c8458] w := F
  refine vl tk 2 W F fun a w W F => ?_
  refine EK (BJ ?_)
  have F := F.frontZ (i := 3) Aa Aa
  have F := F.frontZ (i := 3) Aa Aa
  have F := F.frontM (i := 2) Aa Aa
  have F := F.frontM (i := 2) Aa Aa
  have F := F.sub (M' := (Ti b2 p3 b1 p0 v1 v2)) (Z' := [Hn i8458 m8458 c8458 sn8458 c8458,GG m8458 e8458 c8458,row v7 60 JP (s8458 ++ [kx8458])]) (sc (sc nl)) (sc (sc (sc nl)))
  exact ⟨v7,W.ra Aa,F⟩
 have W : Fr 29 [] [(0,.agg #[Jint p0.un.1,Jint p0.un.2.1.un.1,Jint p0.un.2.1.un.2.1,Jint p0.un.2.1.un.2.2.1,v1,Jint p0.un.2.2.1,Jint p0.un.2.2.2.1,v2]),(1,Jint p1),(2,Jint p2),(3,.agg #[Jint p3.1,Jint p3.2.1,Jint p3.2.2.1,Jint p3.2.2.2]),(4,pp b1),(7,pp b2),(8,.slice none 0 0),(9,v8458_),(11,.agg #[Jint p0.un.1,Jint p0.un.2.1.un.1,Jint p0.un.2.1.un.2.1,Jint p0.un.2.1.un.2.2.1,v1,Jint p0.un.2.2.1,Jint p0.un.2.2.2.1,v2]),(12,Jint p1),(13,Jint p2),(14,.agg #[Jint p3.1,Jint p3.2.1,Jint p3.2.2.1,Jint p3.2.2.2]),(15,.agg #[Jint p2,Jint p3.1,Jint p3.2.1,Jint p3.2.2.1,Jint p3.2.2.2]),(16,v5)] a := W.ra Aa
 have F : sy Y w0 (Ti b2 p3 b1 p0 v1 v2) [Cj v5 CY AQ x1,row v8458_ 60 JP lg8458] w := F
 refine Ha ?_
 refine vn tk 3 W F fun a w W F => ?_
 obtain ⟨x3,h5,H⟩ := BO H
 have h6 := Yr h5 _ hp8458
 have F := F.frontZ (i := 1) Aa Aa
 refine FK (Ml := []) (Zl := [row v8458_ 60 JP lg8458]) (β := Unit) (rv := fun x => .tuple #[]) (MM := fun x => []) (ZZ := fun x => [row v8458_ 60 JP x3]) W F H42 Aa Aa (fun hL => GQ _ _ w (v8458_) lg8458 _ h6 hL) fun x a w W F => ?_
 have F : sy Y w0 (Ti b2 p3 b1 p0 v1 v2) [row v8458_ 60 JP x3,Cj v5 CY AQ x1] w := F
 refine LD tk 8 W F fun a w W F => ?_
 refine Ej ?_
 have H := Gj H
 subst H
 refine Ga (.inl Aa) W F Aa (E2 W Aa) ?_
 have F := F.sub (M' := []) (Z' := [row v8458_ 60 JP x3]) nl (sc nl)
 exact ⟨(v8458_),Aa,F⟩
abbrev K19 : Cn_ := ⟨Aa1,Abi,[],false,fun x => Gq x.1 x.2.1 x.2.2.1 x.2.2.2,none⟩
theorem k19 : KO K19 19 := KO.of ⟨fun args w => Bf Tryz.func19 rfl (by decide) args w⟩ rfl (fun _ => rfl) (fun _ => rfl) rfl (fun _ => rfl) (fun _ => rfl) (fun _ => rfl) (fun _ => rfl) fun Y w0 x r g H hg hk => (Vb Y w0 g.1 g.2.1 x.1 x.2.1 x.2.2.1 x.2.2.2 r H hg.1 hg.2.1).mono fun e w' ⟨x,he,F⟩ => ⟨(x,()),he,F⟩
theorem RK (Y : Nat → Prop) (w0 : World)  (p0 : Sq) (p1 : Sq) (r : Int) (H : Bn p0 p1 = some r)  :
    ca_ 43 #[.agg #[Jint p0.1,Jint p0.2.1,Jint p0.2.2.1,Jint p0.2.2.2.1,Jint p0.2.2.2.2],.agg #[Jint p1.1,Jint p1.2.1,Jint p1.2.2.1,Jint p1.2.2.2.1,Jint p1.2.2.2.2]] w0 fun e w' => e = .returned (Jint r) ∧ Below w0.heap.size w0 w' := by
 refine enter Tryz.func43 Aa Tryz.ntmps43 Aa fun a W => ?_
 have F := Stw.start Y w0
 unfold Bn at H
 refine vc tk 2 W F fun a w W F => ?_
 refine IR (cs := (Dd p0)) W F Aa Aa Aa fun b1 a w W F => ?_
 refine IR (cs := (Dd p1)) W F Aa Aa Aa fun b2 a w W F => ?_
 refine LD tk 4 W F fun a w W F => ?_
 refine R6 10 F MO (by kernel_rfl) ?_
 refine qs W Aa (Cd Ph Aa Aa Aa T3 W Aa 0 Aa).q fun a W => ?_
 refine qs W Aa (Ho (v := Jint p0.1) 1 W Aa Aa T3 Aa).q fun a W => ?_
 refine qs W Aa (Cd Ph Aa Aa Aa T3 W Aa 0 Aa).q fun a W => ?_
 refine qs W Aa (Ho (v := Jint p1.1) 0 W Aa Aa T3 Aa).q fun a W => ?_
 refine qs W Aa (Hi (v := Jint (Ao p0.1 p1.1)) W H47 Aa (fun w F => J3 any w p0.1 p1.1 _ Aa)) fun a W => ?_
 refine qs W Aa (Cd Ph Aa Aa Aa kU W Aa 1 Aa).q fun a W => ?_
 refine qs W Aa (PE Ud W Aa).q fun a W => ?_
 refine qs W Aa (Cd Ph Aa Aa Aa kU W Aa 1 Aa).q fun a W => ?_
 refine qs W Aa (PE Ud W Aa).q fun a W => ?_
 obtain ⟨x1,h1,H⟩ := BO H
 refine qs W Aa (Hi (v := Jint x1) W H48 Aa (fun w F => GU any w ((Value.slice (some ⟨b1,1,none⟩) 4 4)) ((Value.slice (some ⟨b2,1,none⟩) 4 4)) ([p0.2.1,p0.2.2.1,p0.2.2.2.1,p0.2.2.2.2]) ([p1.2.1,p1.2.2.1,p1.2.2.2.1,p1.2.2.2.2]) _ h1 (kA (ZB 1 Fl.int Aa Aa Aa) F) (kA (ZB 0 Fl.int Aa Aa Aa) F))) fun a W => ?_
 refine Iq fun w F => ?_
 refine Ut (z := Jint 0) (cs := [Jint (Ao p0.1 p1.1),Jint x1]) ri ([(Ao p0.1 p1.1),x1] : List Int) W F Aa L62 Z3 Aa Aa Aa Aa Aa Aa (Fl.int.repL _ _ ([(Ao p0.1 p1.1),x1] : List Int)) fun v1 a w W F => ?_
 obtain ⟨x2,h2,H⟩ := BO H
 refine ls W F Aa (Hi (v := Jint x2) W H46 Aa (fun w F => Oy any w (v1) ([(Ao p0.1 p1.1),x1] : List Int) _ h2 (kA (DP 0 Aa) F))) fun a w W F => ?_
 refine LD tk 3 W F fun a w W F => ?_
 refine Ej ?_
 have H := Gj H
 subst H
 refine Ga (.inl Aa) W F Aa (E2 W Aa) ?_
 exact ⟨rfl,F.done⟩
abbrev K43 : Cn_ := ⟨Abg,Abe,[],false,fun x => Bn x.1 x.2,none⟩
theorem oV : KO K43 43 := KO.of ⟨fun args w => Bf Tryz.func43 rfl (by decide) args w⟩ rfl (fun _ => rfl) (fun _ => rfl) rfl (fun _ => rfl) (fun _ => rfl) (fun _ => rfl) (fun _ => rfl) fun Y w0 x r g H hg hk => (RK Y w0  x.1 x.2 r H ).mono fun e w' h => ⟨(),h.1,Stw.ofB h.2⟩
abbrev uL : Cn_ := ⟨[QZ,DJ,DJ,Ou],[],[],true,fun x => Bp x.1 x.2.1 x.2.2.1,none⟩
theorem t7 : KO (uL) 94 := Ea (ct := (.q (.b (.l ⟨[(0,false,D6),(8,false,AO)],[],[0]⟩ (.q (.j (.st false ⟨[(0,false,D6)],[],[0]⟩) (.b (.q (.b (.l ⟨[(0,false,D6),(9,false,AO)],[],[0]⟩ (.s (.j (.st false ⟨[(34,false,Ez)],[],[]⟩) .d .d) .d))))) .d)))))) DW (AH oV BC) Tryz.func94 (by kernel_rfl) fun x => by kernel_rfl
abbrev qC : Cn_ := ⟨[QZ,DJ,DJ,DJ,Ou],[],[],true,fun x => BU x.1 x.2.1 x.2.2.1 x.2.2.2.1,none⟩
theorem r9 : KO (qC) 126 := Ea (ct := (.q (.b (.l ⟨[(0,false,D6),(10,false,AO)],[],[0]⟩ (.b (.q (.q (.j (.st false ⟨[(11,false,AO)],[],[]⟩) (.j (.st false ⟨[(40,false,Ez)],[],[]⟩) .d .d) .d)))))))) DW (AH oV BC) Tryz.func126 (by kernel_rfl) fun x => by kernel_rfl
abbrev uO : Cn_ := ⟨[QZ,DJ,DJ,Ou],[],[],true,fun x => BW x.1 x.2.1 x.2.2.1,none⟩
theorem wG : KO (uO) 95 := Ea (ct := (.q (.q (.q (.j (.st false ⟨[(0,false,D6)],[],[0]⟩) (.q (.b (.l ⟨[(0,false,D6),(11,false,AO)],[],[0]⟩ .d))) (.q (.b (.l ⟨[(0,false,D6),(12,false,AO)],[],[0]⟩ .d)))))))) DW (AH r9 BC) Tryz.func95 (by kernel_rfl) fun x => by kernel_rfl
abbrev oO : Cn_ := ⟨[QE,DJ,DJ,(.p,[]),Ou],[JQ,JQ],[(true,AO)],false,fun x => BM x.1 x.2.1 x.2.2.1 x.2.2.2.2,none⟩
theorem oI : KO (oO) 144 := Ea (ct := .d) DW (AH oV BC) Tryz.func144 (by kernel_rfl) fun x => by kernel_rfl
abbrev pD : Cn_ := ⟨[QE,DJ,DJ,DJ,(.p,[]),Ou],[JQ],[(true,AO)],false,fun x => BL x.1 x.2.1 x.2.2.1 x.2.2.2.1 x.2.2.2.2.2,none⟩
theorem gM : KO (pD) 130 := Ea (ct := .d) DW (AH oI BC) Tryz.func130 (by kernel_rfl) fun x => by kernel_rfl
abbrev o7 : Cn_ := ⟨[QE,DJ,(.p,[]),Ou],[JQ],[(true,AO)],false,fun x => AX x.1 x.2.1 x.2.2.2,none⟩
theorem qH : KO (o7) 129 := Ea (ct := .d) DW (AH gM BC) Tryz.func129 (by kernel_rfl) fun x => by kernel_rfl
abbrev uG : Cn_ := ⟨[QE,DJ,DJ,Ou],[JQ,JQ],[],false,fun x => BF x.1 x.2.1 x.2.2.1,none⟩
theorem yD : KO (uG) 97 := Ea (ct := (.q (.q (.q (.q (.q (.q (.j (.st false ⟨[(13,false,AO)],[(0,[some (.d false Jb)])],[]⟩) (.q (.c (.j (.st false ⟨[(12,false,AO),(13,false,AO),(14,false,AO)],[(0,[some (.d false Jb)])],[]⟩) .d .d) .d)) .d)))))))) DW (AH gM (AH qH BC)) Tryz.func97 (by kernel_rfl) fun x => by kernel_rfl
abbrev uX : Cn_ := ⟨[QZ,DJ,DJ,Ou],[],[],true,fun x => Ba x.1 x.2.1 x.2.2.1,none⟩
theorem u9 : KO (uX) 98 := Ea (ct := (.q (.q (.b (.l ⟨[(0,false,D6),(8,false,AO),(9,false,AO)],[],[0]⟩ .d))))) DW BC Tryz.func98 (by kernel_rfl) fun x => by kernel_rfl
abbrev yU : Cn_ := ⟨[QZ,DJ,DJ,Ou],[KP],[],true,fun x => AS x.1 x.2.1 x.2.2.1,none⟩
theorem wN : KO (yU) 99 := Ea (ct := (.q (.q (.j (.st true ⟨[(0,false,D6)],[],[0]⟩) (.q (.b (.l ⟨[(0,false,D6),(9,false,AO),(10,false,AO)],[],[0]⟩ (.q (.j (.st true ⟨[(0,false,D6),(9,false,AO)],[],[0]⟩) (.b (.j (.st false ⟨[(9,false,AO)],[],[]⟩) (.b (.l ⟨[(9,false,AO)],[],[]⟩ (.s (.j (.st false ⟨[(36,false,Ez)],[],[]⟩) .d .d) .d))) (.q (.q (.q (.j (.st false ⟨[(0,false,D6)],[],[0]⟩) (.q (.c (.q (.b (.l ⟨[(0,false,D6),(11,false,AO)],[],[0]⟩ .d))) .d)) (.q (.c (.q (.b (.l ⟨[(0,false,D6),(12,false,AO)],[],[0]⟩ .d))) .d)))))))) .d))))) .d)))) DW (AH oV BC) Tryz.func99 (by kernel_rfl) fun x => by kernel_rfl
abbrev qL : Cn_ := ⟨[QZ,DJ,DJ,DJ,Ou],[JQ],[],true,fun x => Bl x.1 x.2.1 x.2.2.1 x.2.2.2.1,none⟩
theorem oU : KO (qL) 100 := Ea (ct := (.q (.q (.q (.j (.st false ⟨[(11,false,AO),(0,false,D6)],[],[0]⟩) (.b (.l ⟨[(0,false,D6),(11,false,AO),(12,false,AO)],[],[0]⟩ (.b (.j (.st false ⟨[(11,false,AO)],[],[]⟩) (.b (.l ⟨[(11,false,AO)],[],[]⟩ (.s (.j (.st false ⟨[(47,false,Ez)],[],[]⟩) .d .d) .d))) (.j (.st false ⟨[(12,false,AO)],[],[]⟩) (.b (.l ⟨[(12,false,AO)],[],[]⟩ (.s (.j (.st false ⟨[(65,false,Ez)],[],[]⟩) .d .d) .d))) .d))))) .d))))) DW (AH oV BC) Tryz.func100 (by kernel_rfl) fun x => by kernel_rfl
abbrev tA : Cn_ := ⟨[QZ,DJ,DJ,DJ,Ou],[JQ,KP],[],true,fun x => BQ x.1 x.2.1 x.2.2.1 x.2.2.2.1,none⟩
theorem qN : KO (tA) 101 := Ea (ct := (.q (.q (.q (.j (.st false ⟨[(12,false,AO)],[],[]⟩) (.b (.l ⟨[(12,false,AO)],[],[]⟩ (.s (.j (.st false ⟨[(47,false,Ez)],[],[]⟩) .d .d) .d))) (.j (.st false ⟨[(13,false,AO)],[],[]⟩) (.b (.l ⟨[(13,false,AO)],[],[]⟩ (.s (.j (.st false ⟨[(66,false,Ez)],[],[]⟩) .d .d) .d))) (.q (.q (.q (.q (.j (.st false ⟨[(0,false,D6),(13,false,AO)],[],[0]⟩) (.b (.l ⟨[(0,false,D6),(12,false,AO),(13,false,AO)],[],[0]⟩ (.b (.j (.st false ⟨[(12,false,AO)],[],[]⟩) (.b (.l ⟨[(12,false,AO)],[],[]⟩ (.s (.j (.st false ⟨[(120,false,Ez)],[],[]⟩) .d .d) .d))) (.j (.st false ⟨[(13,false,AO)],[],[]⟩) (.b (.l ⟨[(13,false,AO)],[],[]⟩ (.s (.j (.st false ⟨[(139,false,Ez)],[],[]⟩) .d .d) .d))) .d))))) .d))))))))))) DW (AH oV BC) Tryz.func101 (by kernel_rfl) fun x => by kernel_rfl
abbrev tV : Cn_ := ⟨[QZ,DJ,DJ,Ou],[],[],true,fun x => A6 x.1 x.2.1 x.2.2.1,none⟩
theorem w6 : KO (tV) 96 := Ea (ct := (.q (.q (.c (.q (.q (.q (.b (.l ⟨[(0,false,D6),(11,false,AO)],[(0,[some (.d false (.int .u64))])],[0]⟩ (.q (.s (.b (.q (.j (.st false ⟨[(12,false,AO)],[],[]⟩) .d .d))) .d))))))) .d)))) DW (AH yH (AH tY BC)) Tryz.func96 (by kernel_rfl) fun x => by kernel_rfl
theorem Gu : @B8 = @Af := by
 unfold B8 Af
 simp only [Bool.or_true,Bool.and_true,Bool.cond_self]
theorem Gt : @CF = @Bh := by
 unfold CF Bh
 simp only [Gu]
theorem wU : KO (xV fun x => Cp x.1 x.2.1 x.2.2.1 x.2.2.2.1) 70 := R8 (E := te) (xs := UX) (ys := Ye) (bs := []) (io := true) (nn := fun n x => AA n x.1 x.2.1 x.2.2.1 x.2.2.2.1) (st := fun g x => Bh (fun yp0 yp1 yp2 yp3 => g (yp0,yp1,yp2,yp3,())) x.1 x.2.1 x.2.2.1 x.2.2.2.1) Tryz.func70 rfl (by kernel_rfl) (fun _ => rfl) (fun _ => rfl) fun g hg => Ea (ct := (.q (.q (.b (.l ⟨[(0,false,D6),(1,false,AO),(2,false,AO),(3,false,AO),(10,false,Ez),(11,false,Ez)],[],[0]⟩ (.b (.q (.q (.q (.j (.st false ⟨[(0,false,D6),(3,false,AO)],[],[0]⟩) .d (.q (.j (.st false ⟨[(0,false,D6),(13,false,AO),(14,false,AO)],[],[0]⟩) .d (.j (.st true ⟨[(0,false,D6)],[],[0]⟩) (.j (.bl [75]) .d .d) (.s (.j (.st false ⟨[(97,false,Ez)],[],[]⟩) .d .d) .d)))))))))))))) DW (AH hg (AH oV (AH t7 (AH wG (AH yD (AH u9 (AH wN (AH oU (AH qN (AH w6 BC)))))))))) Tryz.func70 (by kernel_rfl) fun x => by rw [← Gt]; kernel_rfl
abbrev uQ : Cn_ := ⟨[QZ,Ou],[],[],true,fun x => AF x.1,none⟩
theorem nL : KO (uQ) 42 := Ea (ct := .d) DW (AH z8 (AH wU BC)) Tryz.func42 (by kernel_rfl) fun x => by kernel_rfl
def Bb (p0 : List Sq) (x1 : Int) : ((List Sq) × Int × Int) → Option (((List Sq) × Int × Int) ⊕ ((List Sq) × Int))
  | (x7,x8,x9) => (JV x7 x1 (p0.length : Int)).bind fun x10 => (if x9 < (x10.length : Int) then ((ix x10 x9).bind fun x13 => (ix x10 (w64 (x9 - 1))).bind fun x14 => (if (!(decide (x13.1 = x14.1 ∧ x13.2.1 = x14.2.1 ∧ x13.2.2.1 = x14.2.2.1 ∧ x13.2.2.2.1 = x14.2.2.2.1 ∧ x13.2.2.2.2 = x14.2.2.2.2))) = true then (ix x10 x9).bind fun x15 => (ix x7 x8).bind fun x16 => some ((AU x7 x8 x15),w64 (x8 + 1)) else some (x7,x8))).bind fun (x11,x12) => some (.inl (x11,x12,w64 (x9 + 1))) else some (.inr (x7,x8)))
def AZ (p0 : List Sq) : Int → Option (Int ⊕ (Unit ⊕ (List Sq)))
  | x1 => (if x1 < (p0.length : Int) then GN ((ix p0 x1).bind fun x2 => (ix p0 (w64 (x1 - 1))).bind fun x3 => (if x2.1 = x3.1 ∧ x2.2.1 = x3.2.1 ∧ x2.2.2.1 = x3.2.2.1 ∧ x2.2.2.2.1 = x3.2.2.2.1 ∧ x2.2.2.2.2 = x3.2.2.2.2 then (JV p0 x1 (p0.length : Int)).bind fun x4 => (Aj (Bb p0 x1) (p0,x1,1)).bind fun (x5,x6) => (JV x5 x6 (x5.length : Int)).bind fun x17 => (tP x5 x6 (List.replicate (x17.length) ((0,(0,0,0,0)) : Sq))).bind fun x18 => (JV x18 0 x6).bind fun x19 => some (.inr (.inr (.inr x19))) else some (.inl ()))) fun _ => some (.inl (w64 (x1 + 1))) else some (.inr (.inl ())))
def A7 (p0 : List Sq) : Option (List Sq) := (if (p0.length : Int) < 2 then some p0 else GN (Aj (AZ p0) 1) fun _ => some p0)
theorem Hp (Y : Nat → Prop) (X : List Nat) (w0 : World) (v1 : Value) (p0 : List Sq) (r : (List Sq)) (H : A7 p0 = some r) (hL : Stw ⟨Y,X,w0⟩ [] [row v1 60 JP p0] w0) :
    ca_ 87 #[v1] w0 fun e w' => ∃ x : Value,e = .returned (x) ∧ Stw ⟨Y,X,w0⟩ [] [row (x) 60 JP r] w' := by
 refine enter Tryz.func87 Aa Tryz.ntmps87 Aa fun a W => ?_
 have F := hL
 unfold A7 at H
 refine vc tk 9 W F fun a w W F => ?_
 refine ls W F Aa (Pe (r := JP) (l := p0) mJ Aa W Aa (DP 0 Aa)).q fun a w W F => ?_
 refine LD tk 3 W F fun a w W F => ?_
 refine Mg W Aa H (fun W H => ?_) fun W H => ?_
 ·
  refine vc tk 6 W F fun a w W F => ?_
  refine Ej (I6 ?_)
  have H := Gj H
  subst H
  refine Ga (.inl Aa) W F Aa (E2 W Aa) ?_
  exact ⟨(v1),Aa,F⟩
 refine F9 (BJ ?_)
 obtain ⟨o1,G1,K1,L1⟩ := zE H
 refine Hg (fun a w => some (Sum.inl ()) = some o1 ∧ Fr 61 [] [(0,v1),(2,.slice none 0 0)] a ∧ Stw ⟨Y,X,w0⟩ [] [row v1 60 JP p0] w) ?_ ?_
 ·
  have H := G1
  clear G1 K1
  refine vc tk 6 W F fun a w W F => ?_
  refine J5 H (fun s a w => Fr 61 [] [(0,v1),(2,.slice none 0 0),(3,Jint s)] a ∧ Stw ⟨Y,X,w0⟩ [] [row v1 60 JP p0] w) ⟨W.ra Aa,F⟩ fun s o a w H L2 hR => ?_
  obtain ⟨x1,rfl⟩ : ∃ x,x = s := ⟨s,rfl⟩
  obtain ⟨W,F⟩ := hR
  have W : Fr 61 [] [(0,v1),(2,.slice none 0 0),(3,Jint x1)] a := W
  have F : Stw ⟨Y,X,w0⟩ [] [row v1 60 JP p0] w := F
  rw [AZ] at H
  refine vc tk 5 W F fun a w W F => ?_
  refine ls W F Aa (Pe (r := JP) (l := p0) mJ Aa W Aa (DP 0 Aa)).q fun a w W F => ?_
  refine LD tk 3 W F fun a w W F => ?_
  refine Mg W Aa H (fun W H => ?_) fun W H => ?_
  ·
   refine F9 (BJ ?_)
   obtain ⟨o3,G3,K3,L3⟩ := zE H
   refine Hg (fun a w => some (Sum.inl ()) = some o3 ∧ Fr 61 [] [(0,v1),(2,.slice none 0 0),(3,Jint x1)] a ∧ Stw ⟨Y,X,w0⟩ [] [row v1 60 JP p0] w) ?_ ?_
   ·
    have H := G3
    clear G3 K3
    refine vc tk 2 W F fun a w W F => ?_
    refine P1 F MO (by kernel_rfl) ?_
    iterate 2 refine qs W Aa (Gr W Aa).q fun a W => ?_
    obtain ⟨x2,h1,H⟩ := BO H
    refine qs W Aa (H2 (r := JP) bV W Aa Aa (DP 0 Aa) h1).q fun a W => ?_
    refine qs W Aa (Fq (y := Value.agg #[Jint x2.1,Jint x2.2.1,Jint x2.2.2.1,Jint x2.2.2.2.1,Jint x2.2.2.2.2]) (j := 0) (i := x1) W Aa Aa (DP 0 Aa) h1 nK.to Xh Aa).q fun a W => ?_
    iterate 2 refine qs W Aa (Gr W Aa).q fun a W => ?_
    refine qs W Aa (YA W Aa Aa Aa).q fun a W => ?_
    obtain ⟨x3,h2,H⟩ := BO H
    refine qs W Aa (H2 (r := JP) bV W Aa Aa (DP 0 Aa) h2).q fun a W => ?_
    refine qs W Aa (Fq (y := Value.agg #[Jint x3.1,Jint x3.2.1,Jint x3.2.2.1,Jint x3.2.2.2.1,Jint x3.2.2.2.2]) (j := 0) (i := w64 (x1 - 1)) W Aa Aa (DP 0 Aa) h2 nK.to Xh Aa).q fun a W => ?_
    refine qs W Aa (n8 (t := decide (x2.1 = x3.1 ∧ x2.2.1 = x3.2.1 ∧ x2.2.2.1 = x3.2.2.1 ∧ x2.2.2.2.1 = x3.2.2.2.1 ∧ x2.2.2.2.2 = x3.2.2.2.2)) G60 (zF _ _ _ _ _ _ _ _ _ _) W Aa Aa).q fun a W => ?_
    refine Iq fun w F => ?_
    refine BJ ?_
    refine Mg W Aa H (fun W H => ?_) fun W H => ?_
    ·
     refine vc tk 4 W F fun a w W F => ?_
     obtain ⟨x4,h3,H⟩ := BO H
     refine ls W F Aa (Rn (r := JP) bV W Aa Aa Aa (DP 0 Aa) h3).q fun a w W F => ?_
     refine vl tk 2 W F fun a w W F => ?_
     refine BJ ?_
     obtain ⟨o4,G4,K4⟩ := BO H
     refine Hg (fun a w => ∃ x5 : List Sq, ∃ x6 : Int,some ((x5,x6)) = some o4 ∧ Fr 61 [] [(0,v1),(2,.slice none 0 0),(3,Jint x6)] a ∧ Stw ⟨Y,X,w0⟩ [] [row v1 60 JP x5] w) ?_ ?_
     ·
      have H := G4
      clear G4 K4
      refine vc tk 6 W F fun a w W F => ?_
      refine J5 H (fun s a w => Fr 61 [] [(0,v1),(2,.slice none 0 0),(3,Jint s.2.1),(4,(Ep v1 x1 (p0.length : Int) 5)),(5,Jint s.2.2)] a ∧ Stw ⟨Y,X,w0⟩ [] [row v1 60 JP s.1] w) ⟨W.ra Aa,F⟩ fun s o a w H L5 hR => ?_
      obtain ⟨x7,x8,x9⟩ := s
      obtain ⟨W,F⟩ := hR
      have W : Fr 61 [] [(0,v1),(2,.slice none 0 0),(3,Jint x8),(4,(Ep v1 x1 (p0.length : Int) 5)),(5,Jint x9)] a := W
      have F : Stw ⟨Y,X,w0⟩ [] [row v1 60 JP x7] w := F
      rw [Bb] at H
      refine vc tk 5 W F fun a w W F => ?_
      obtain ⟨x10,h4,H⟩ := BO H
      refine ls W F Aa (Pe (r := JP) (l := x10) mJ Aa W Aa (LK (DP 0 Aa) h4)).q fun a w W F => ?_
      refine LD tk 3 W F fun a w W F => ?_
      refine Mg W Aa H (fun W H => ?_) fun W H => ?_
      ·
       refine F9 (BJ ?_)
       obtain ⟨o6,G6,K6⟩ := BO H
       refine Hg (fun a w => ∃ x11 : List Sq, ∃ x12 : Int,some ((x11,x12)) = some o6 ∧ Fr 61 [] [(0,v1),(2,.slice none 0 0),(3,Jint x12),(4,(Ep v1 x1 (p0.length : Int) 5)),(5,Jint x9)] a ∧ Stw ⟨Y,X,w0⟩ [] [row v1 60 JP x11] w) ?_ ?_
       ·
        have H := G6
        clear G6 K6
        refine vc tk 2 W F fun a w W F => ?_
        refine P1 F MO (by kernel_rfl) ?_
        iterate 2 refine qs W Aa (Gr W Aa).q fun a W => ?_
        obtain ⟨x13,h5,H⟩ := BO H
        refine qs W Aa (H2 (r := JP) bV W Aa Aa (LK (DP 0 Aa) h4) h5).q fun a W => ?_
        refine qs W Aa (Fq (y := Value.agg #[Jint x13.1,Jint x13.2.1,Jint x13.2.2.1,Jint x13.2.2.2.1,Jint x13.2.2.2.2]) (j := 0) (i := x9) W Aa Aa (LK (DP 0 Aa) h4) h5 nK.to Xh Aa).q fun a W => ?_
        iterate 2 refine qs W Aa (Gr W Aa).q fun a W => ?_
        refine qs W Aa (YA W Aa Aa Aa).q fun a W => ?_
        obtain ⟨x14,h6,H⟩ := BO H
        refine qs W Aa (H2 (r := JP) bV W Aa Aa (LK (DP 0 Aa) h4) h6).q fun a W => ?_
        refine qs W Aa (Fq (y := Value.agg #[Jint x14.1,Jint x14.2.1,Jint x14.2.2.1,Jint x14.2.2.2.1,Jint x14.2.2.2.2]) (j := 0) (i := w64 (x9 - 1)) W Aa Aa (LK (DP 0 Aa) h4) h6 nK.to Xh Aa).q fun a W => ?_
        refine qs W Aa (oD (t := decide (x13.1 = x14.1 ∧ x13.2.1 = x14.2.1 ∧ x13.2.2.1 = x14.2.2.1 ∧ x13.2.2.2.1 = x14.2.2.2.1 ∧ x13.2.2.2.2 = x14.2.2.2.2)) G60 (zF _ _ _ _ _ _ _ _ _ _) W Aa Aa).q fun a W => ?_
        refine Iq fun w F => ?_
        refine BJ ?_
        refine Up W Aa H (fun W H => ?_) fun W H => ?_
        ·
         refine vc tk 6 W F fun a w W F => ?_
         obtain ⟨x15,h7,H⟩ := BO H
         refine ls W F Aa (H2 (r := JP) bV W Aa Aa (LK (DP 0 Aa) h4) h7).q fun a w W F => ?_
         refine ls W F Aa (Fq (y := Value.agg #[Jint x15.1,Jint x15.2.1,Jint x15.2.2.1,Jint x15.2.2.2.1,Jint x15.2.2.2.2]) (j := 0) (i := x9) W Aa Aa (LK (DP 0 Aa) h4) h7 nK.to Xh Aa).q fun a w W F => ?_
         obtain ⟨x16,h8,H⟩ := BO H
         refine ls W F Aa (H2 (r := JP) bV W Aa Aa (DP 0 Aa) h8).q fun a w W F => ?_
         refine Sd (i := x8) (j := 0) (vs := (Dd x15)) (x' := x15) W F Aa Aa Aa (k := 0) Aa Aa h8 Xh Aa Aa Aa Aa (fun A cs _ => nK.sto (by rfl) _ _ _) fun w F => ?_
         refine LD tk 7 W F fun a w W F => ?_
         refine EK (BJ ?_)
         exact ⟨_,_,H,W.ra Aa,F⟩
        refine F9 (EK (BJ ?_))
        exact ⟨_,_,H,W.ra Aa,F⟩
       rintro a w ⟨x11,x12,hj,W,F⟩
       have hj := Gj hj
       subst hj
       have H := K6
       clear G6 K6
       refine vc tk 5 W F fun a w W F => ?_
       refine BJ ?_
       exact ⟨_,H,W.ra Aa,F⟩
      refine HW ?_
      iterate 2 refine LQ ?_
      refine Ha (BJ ?_)
      have H := L5 _ H
      exact ⟨_,_,H,W.ra Aa,F⟩
     rintro a w ⟨x5,x6,hj,W,F⟩
     have hj := Gj hj
     subst hj
     have H := K4
     clear G4 K4
     refine vc tk 4 W F fun a w W F => ?_
     obtain ⟨x17,h9,H⟩ := BO H
     refine ls W F Aa (Rn (r := JP) bV W Aa Aa Aa (DP 0 Aa) h9).q fun a w W F => ?_
     obtain ⟨x18,h10,H⟩ := BO H
     refine jF (r := JP) (v := v1) (k := 0) ((0,(0,0,0,0)) : Sq) W F bV tG Aa Aa Aa h9 (fun w A => nK.mk' w A ((0,(0,0,0,0)) : Sq)) h10 fun w F => ?_
     have F : Stw ⟨Y,X,w0⟩ [] [row v1 60 JP x18] w := F
     refine LD tk 6 W F fun a w W F => ?_
     obtain ⟨x19,h11,H⟩ := BO H
     refine ls W F Aa (Rn (r := JP) bV W Aa Aa Aa (DP 0 Aa) h11).q fun a w W F => ?_
     refine LD tk 3 W F fun a w W F => ?_
     refine Ej (Jh ?_)
     iterate 2 refine I6 ?_
     refine Jh (I6 ?_)
     have H := L3 _ H
     have H := L2 _ H
     have H := L1 _ H
     have H := Gj H
     subst H
     refine Ga (.inl Aa) W F Aa (E2 W Aa) ?_
     have F := F.subRow (k := 0) Aa Aa h11
     exact ⟨((Ep v1 (0 : Int) x6 5)),Aa,F⟩
    refine F9 (EK (BJ ?_))
    exact ⟨H,W.ra Aa,F⟩
   rintro a w ⟨hj,W,F⟩
   have H := K3 _ hj
   clear hj G3 K3 L3
   refine vc tk 5 W F fun a w W F => ?_
   refine BJ ?_
   exact ⟨_,H,W.ra Aa,F⟩
  refine HW ?_
  iterate 2 refine LQ ?_
  refine Ha (BJ ?_)
  have H := L2 _ H
  exact ⟨H,W.ra Aa,F⟩
 rintro a w ⟨hj,W,F⟩
 have H := K1 _ hj
 clear hj G1 K1 L1
 refine vc tk 6 W F fun a w W F => ?_
 refine Ej ?_
 have H := Gj H
 subst H
 refine Ga (.inl Aa) W F Aa (E2 W Aa) ?_
 exact ⟨(v1),Aa,F⟩
abbrev K87 : Cn_ := ⟨zI,AaK,[],false,fun x => A7 x,none⟩
theorem k87 : KO K87 87 := KO.ofL ⟨fun args w => Bf Tryz.func87 rfl (by decide) args w⟩ rfl (fun _ => rfl) (fun _ => rfl) (fun _ => rfl) (fun _ => rfl) (fun _ => rfl) fun Y X w0 x r g H hg F hk => (Hp Y X w0 g.1 x r H F).mono fun e w' ⟨x,he,F⟩ => ⟨(x,()),he,F,fun h => nomatch h⟩
abbrev Ki (a0 : Tr41 × Int × (List Int × List Int × List Int × List Int × List Int)) (a1 : Value) (a2 : Value) (a3 : Value) (a4 : Value) (a5 : Value) (a6 : Value) (a7 : Value) : List Value := [Jint a0.1.un.1,Jint a0.1.un.2.1.un.1,Jint a0.1.un.2.1.un.2.1,Jint a0.1.un.2.1.un.2.2.1,a1,Jint a0.1.un.2.2.1,Jint a0.1.un.2.2.2.1,a2,Jint a0.2.1,a3,a4,a5,a6,a7]
def Ce (p1 : Sq) (x1 : (List Sq)) : ((List Sq) × Int) → Option (((List Sq) × Int) ⊕ (List Sq))
  | (x3,x4) => (if x4 < (x1.length : Int) then ((ix x3 x4).bind fun x6 => (if x6.2.1 = p1.2.1 then (ix x3 x4).bind fun x7 => some (AU x3 x4 (x7.1,((-1),x7.2.2.1,x7.2.2.2.1,x7.2.2.2.2))) else some x3)).bind fun x5 => ((ix x5 x4).bind fun x9 => (if x9.2.2.1 = p1.2.2.1 then (ix x5 x4).bind fun x10 => some (AU x5 x4 (x10.1,(x10.2.1,(-1),x10.2.2.2.1,x10.2.2.2.2))) else some x5)).bind fun x8 => ((ix x8 x4).bind fun x12 => (if x12.2.2.2.1 = p1.2.2.2.1 then (ix x8 x4).bind fun x13 => some (AU x8 x4 (x13.1,(x13.2.1,x13.2.2.1,(-1),x13.2.2.2.2))) else some x8)).bind fun x11 => ((ix x11 x4).bind fun x15 => (if x15.2.2.2.2 = p1.2.2.2.2 then (ix x11 x4).bind fun x16 => some (AU x11 x4 (x16.1,(x16.2.1,x16.2.2.1,x16.2.2.2.1,(-1)))) else some x11)).bind fun x14 => some (.inl (x14,w64 (x4 + 1))) else some (.inr x3))
def BI (p0 : Tr41 × Int × (List Int × List Int × List Int × List Int × List Int)) (p1 : Sq) : Option (List Sq) := (Gq (Tr41.of (p0.1.un.1,f38 p0.1.un.2.1,p0.1.un.2.2.1,p0.1.un.2.2.2.1,p0.1.un.2.2.2.2)) p0.2.1 p1.1 p1.2).bind fun x1 => (Aj (Ce p1 x1) (x1,0)).bind fun x2 => (AF x2).bind fun x17 => (A7 x17).bind fun x18 => some x18
abbrev K59 : Cn_ := ⟨[(.b true,[.d false ux5]),TB],[QZ],[],false,fun x => BI x.1 x.2,none⟩
theorem k59 : KO (K59) 59 := Ea (ct := (.q (.q (.j (.st false ⟨[(5,false,D6)],[],[5]⟩) (.q (.b (.l ⟨[(5,false,D6),(20,false,AO)],[],[5]⟩ (.q (.q (.s (.b (.q (.q (.b (.un (.q (.q (.j (.st false ⟨[(5,false,D6)],[],[5]⟩) .d .d))) (.un (.q (.q (.j (.st false ⟨[(5,false,D6)],[],[5]⟩) .d .d))) (.un (.q (.q (.j (.st false ⟨[(5,false,D6)],[],[5]⟩) .d .d))) (.un (.q (.q (.j (.st false ⟨[(5,false,D6)],[],[5]⟩) .d .d))) (.un .d .d))))))))) .d)))))) .d)))) DW (AH k19 (AH nL (AH k87 BC))) Tryz.func59 (by kernel_rfl) fun x => by kernel_rfl
theorem Ky (Y : Nat → Prop) (w0 : World) (v1 : Value) (v2 : Value) (v3 : Value) (v4 : Value) (v5 : Value) (v6 : Value) (v7 : Value) (p0 : Tr41 × Int × (List Int × List Int × List Int × List Int × List Int)) (p1 : Sq) (r : (List Sq)) (H : BI p0 p1 = some r) (s_v1 : Sl w0 Y Lp v1 p0.1.un.2.1.un.2.2.2) (s_v2 : Sl w0 Y Lz v2 p0.1.un.2.2.2.2) (s_v3 : Sl w0 Y ri v3 p0.2.2.1) (s_v4 : Sl w0 Y ri v4 p0.2.2.2.1) (s_v5 : Sl w0 Y ri v5 p0.2.2.2.2.1) (s_v6 : Sl w0 Y ri v6 p0.2.2.2.2.2.1) (s_v7 : Sl w0 Y ri v7 p0.2.2.2.2.2.2) :
    ca_ 59 #[.agg #[Jint p0.1.un.1,Jint p0.1.un.2.1.un.1,Jint p0.1.un.2.1.un.2.1,Jint p0.1.un.2.1.un.2.2.1,v1,Jint p0.1.un.2.2.1,Jint p0.1.un.2.2.2.1,v2,Jint p0.2.1,v3,v4,v5,v6,v7],.agg #[Jint p1.1,Jint p1.2.1,Jint p1.2.2.1,Jint p1.2.2.2.1,Jint p1.2.2.2.2]] w0 fun e w' => ∃ x : Value,e = .returned (x) ∧ sy Y w0 [] [row (x) 60 JP r] w' := by
 refine (k59.out (Y := Y) (X := []) (x := (p0,p1)) (r := r) H Aa Aa Aa Aa Aa (v1,(v2,(v3,(v4,(v5,(v6,(v7,()))))))) ⟨s_v1,⟨s_v2,⟨s_v3,⟨s_v4,⟨s_v5,⟨s_v6,⟨s_v7,trivial⟩⟩⟩⟩⟩⟩⟩ (Stw.start Y w0) trivial).mono ?_
 rintro e w' ⟨⟨a0,u⟩,he,F,hi⟩
 exact ⟨a0,he,F⟩
theorem zV : type_of% Tryz.underlying32 := Tryz.underlying32
theorem H59 : Has Tryz.prog 59 := Lh Tryz.func59
theorem B56 : Bt Tryz.prog 56 [Jint 0,Jint 0,Jint 0,Jint 0,Jint 0,.slice none 0 0] [(0,1),(1,4),(5,1)] := ⟨⟨.agg #[Jint 0,Jint 0,Jint 0,Jint 0,Jint 0,.slice none 0 0],by kernel_rfl,rfl⟩,⟨_,yV,fun w => by kernel_rfl⟩⟩
theorem Z56 : (Tryz.prog.info? 56).bind (·.zero) = some (.agg #[Jint 0,Jint 0,Jint 0,Jint 0,Jint 0,.slice none 0 0]) := by kernel_rfl
theorem zO : Et Tryz.prog 32 56 6 64 := Et.of zV (by kernel_rfl) (by kernel_rfl) (by kernel_rfl) (by decide)
theorem H29 : Has Tryz.prog 29 := Lh Tryz.func29
def AC (p0 : Int × (Int × Int × Int × Int) × (List Sq)) : Sq := (p0.1,p0.2.1)
abbrev K37 : Cn_ := ⟨[(.b true,[.d true nS])],[(.b true,[.d false Yc])],[],false,fun x => some (AC x),some ⟨fun x => AC x,fun _ => rfl⟩⟩
theorem k37 : KO (K37) 37 := Ea (ct := .d) DW BC Tryz.func37 (by kernel_rfl) fun x => by kernel_rfl
def Ak (p0 : List Sq) (p1 : List Sq) : Int → Option (Int ⊕ (Unit ⊕ Bool))
  | x1 => (if x1 < (p0.length : Int) then (ix p0 x1).bind fun x2 => (ix p1 x1).bind fun x3 => (if (!(decide (x2.1 = x3.1 ∧ x2.2.1 = x3.2.1 ∧ x2.2.2.1 = x3.2.2.1 ∧ x2.2.2.2.1 = x3.2.2.2.1 ∧ x2.2.2.2.2 = x3.2.2.2.2))) = true then some (.inr (.inr false)) else some (.inl (w64 (x1 + 1)))) else some (.inr (.inl ())))
def AG (p0 : List Sq) (p1 : List Sq) : Option Bool := (if (p0.length : Int) ≠ (p1.length : Int) then some false else GN (Aj (Ak p0 p1) 0) fun _ => some true)
abbrev K90 : Cn_ := ⟨[QE,QE],[KP],[],false,fun x => AG x.1 x.2,none⟩
theorem k90 : KO (K90) 90 := Ea (ct := (.q (.q (.j (.st true ⟨[],[],[]⟩) (.q (.b (.l ⟨[(13,false,AO)],[],[]⟩ .d))) .d)))) DW BC Tryz.func90 (by kernel_rfl) fun x => by kernel_rfl
def C8 (p0 : Int × (Int × Int × Int × Int) × (List Sq)) (p1 : Int × (Int × Int × Int × Int) × (List Sq)) (p2 : Int) : Option Bool := ((CT ((AC p0).1,((AC p0).2.1,(AC p0).2.2.1,(AC p0).2.2.2.1,(AC p0).2.2.2.2)) p2 (-1)).bind fun x2 => (CT ((AC p1).1,((AC p1).2.1,(AC p1).2.2.1,(AC p1).2.2.2.1,(AC p1).2.2.2.2)) p2 (-1)).bind fun x3 => (if x2.1 = x3.1 ∧ x2.2.1 = x3.2.1 ∧ x2.2.2.1 = x3.2.2.1 ∧ x2.2.2.2.1 = x3.2.2.2.1 ∧ x2.2.2.2.2 = x3.2.2.2.2 then (AG p0.2.2 p1.2.2).bind fun x4 => some x4 else some false)).bind fun x1 => some x1
abbrev K89 : Cn_ := ⟨[(.b true,[.d true nS]),(.b true,[.d true nS]),(.p,[])],[KP],[(false,[.d true Jb])],false,fun x => C8 x.1 x.2.1 x.2.2,none⟩
theorem k89 : KO (K89) 89 := Ea (ct := (.q (.j (.st false ⟨[(5,false,Ez)],[],[]⟩) .d .d))) DW (AH k28 (AH k37 (AH k90 BC))) Tryz.func89 (by kernel_rfl) fun x => by kernel_rfl
def Ad (p0 : List (Int × (Int × Int × Int × Int) × (List Sq))) (p1 : List (Int × (Int × Int × Int × Int) × (List Sq))) (p2c0 : Int) : Int → Option (Int ⊕ (Unit ⊕ Bool))
  | x1 => (if x1 < (p0.length : Int) then (ix p0 x1).bind fun x2 => (ix p1 x1).bind fun x3 => (C8 x2 x3 p2c0).bind fun x4 => (if (!x4) = true then some (.inr (.inr false)) else some (.inl (w64 (x1 + 1)))) else some (.inr (.inl ())))
def AE (p0 : List (Int × (Int × Int × Int × Int) × (List Sq))) (p1 : List (Int × (Int × Int × Int × Int) × (List Sq))) (p2c0 : Int) : Option Bool := (if (p0.length : Int) ≠ (p1.length : Int) then some false else GN (Aj (Ad p0 p1 p2c0) 0) fun _ => some true)
abbrev K88 : Cn_ := ⟨[bD,bD,(.fn 89 [] 1,[])],[KP],[(false,[.d true Jb])],false,fun x => AE x.1 x.2.1 x.2.2,none⟩
theorem k88 : KO (K88) 88 := Ea (ct := (.q (.q (.j (.st true ⟨[],[],[]⟩) (.q (.b (.l ⟨[(17,false,AO)],[],[]⟩ .d))) .d)))) DW (AH k89 BC) Tryz.func88 (by kernel_rfl) fun x => by kernel_rfl
def CJ (p0 : List (Int × (Int × Int × Int × Int) × (List Sq))) (p1 : List (Int × (Int × Int × Int × Int) × (List Sq))) (p2 : Int) : Option Bool := (AE p0 p1 p2).bind fun x1 => some x1
abbrev K60 : Cn_ := ⟨[bD,bD,DJ],[KP],[],false,fun x => CJ x.1 x.2.1 x.2.2,none⟩
theorem k60 : KO (K60) 60 := Ea (ct := .d) DW (AH k88 BC) Tryz.func60 (by kernel_rfl) fun x => by kernel_rfl
theorem Pd (Y : Nat → Prop) (w0 : World) (v1 : Value) (v2 : Value) (p0 : List (Int × (Int × Int × Int × Int) × (List Sq))) (p1 : List (Int × (Int × Int × Int × Int) × (List Sq))) (p2 : Int) (r : Bool) (H : CJ p0 p1 p2 = some r) (h_v1 : Sl w0 (NX []) MD v1 p0) (h_v2 : Sl w0 (NX []) MD v2 p1) :
    ca_ 60 #[v1,v2,Jint p2] w0 fun e w' => e = .returned (.bool r) ∧ Below w0.heap.size w0 w' := k60.outP (Y := Y) (x := (p0,p1,p2)) H rfl rfl rfl rfl rfl (v1,(v2,())) ⟨h_v1,⟨h_v2,trivial⟩⟩ rfl trivial fun _ => rfl
theorem H60 : Has Tryz.prog 60 := Lh Tryz.func60
def A3 (fRec : (Tr41 × Int × (List Int × List Int × List Int × List Int × List Int)) → Int → Sq → Option (List (Int × (Int × Int × Int × Int) × (List Sq)))) (p0 : Tr41 × Int × (List Int × List Int × List Int × List Int × List Int)) (p1 : Int) (p2 : Sq) (x2 : Int) (x3 : (List (Int × (Int × Int × Int × Int) × (List Sq)))) (x5 : List Int) : ((List (Int × (Int × Int × Int × Int) × (List Sq))) × Int) → Option (((List (Int × (Int × Int × Int × Int) × (List Sq))) × Int) ⊕ (List (Int × (Int × Int × Int × Int) × (List Sq))))
  | (x6,x7) => (if x7 < (x5.length : Int) then ((ix x5 x7).bind fun x9 => (CT p2 x2 x9).bind fun x10 => (fRec (Tr41.of (p0.1.un.1,f38 p0.1.un.2.1,p0.1.un.2.2.1,p0.1.un.2.2.2.1,p0.1.un.2.2.2.2),p0.2.1,p0.2.2) (w64 (p1 + 1)) x10).bind fun x11 => (CJ x11 x3 x2).bind fun x12 => (if (!x12) = true then (HU x6 x11).bind fun x13 => some x13 else some x6)).bind fun x8 => some (.inl (x8,w64 (x7 + 1))) else some (.inr x6))
def Bc (fRec : (Tr41 × Int × (List Int × List Int × List Int × List Int × List Int)) → Int → Sq → Option (List (Int × (Int × Int × Int × Int) × (List Sq)))) (p0 : Tr41 × Int × (List Int × List Int × List Int × List Int × List Int)) (p1 : Int) (p2 : Sq) : Option (List (Int × (Int × Int × Int × Int) × (List Sq))) := (if p1 = 5 then (BI (Tr41.of (p0.1.un.1,f38 p0.1.un.2.1,p0.1.un.2.2.1,p0.1.un.2.2.2.1,p0.1.un.2.2.2.2),p0.2.1,p0.2.2) p2).bind fun x1 => some ([(p2.1,p2.2,x1)] : List (Int × (Int × Int × Int × Int) × (List Sq))) else (Bm p1).bind fun x2 => (fRec (Tr41.of (p0.1.un.1,f38 p0.1.un.2.1,p0.1.un.2.2.1,p0.1.un.2.2.2.1,p0.1.un.2.2.2.2),p0.2.1,p0.2.2) (w64 (p1 + 1)) p2).bind fun x3 => ((ix ([p0.2.2.1,p0.2.2.2.1,p0.2.2.2.2.1,p0.2.2.2.2.2.1,p0.2.2.2.2.2.2] : List (List Int)) p1).bind fun x5 => Aj (A3 fRec p0 p1 p2 x2 x3 x5) ([],0)).bind fun x4 => (HU x4 x3).bind fun x14 => some x14)
def A2 : Nat → (Tr41 × Int × (List Int × List Int × List Int × List Int × List Int)) → Int → Sq → Option (List (Int × (Int × Int × Int × Int) × (List Sq)))
  | 0 => fun _ _ _ => none
  | n + 1 => Bc (A2 n)
def Dy (p0 : Tr41 × Int × (List Int × List Int × List Int × List Int × List Int)) (p1 : Int) (p2 : Sq) : Option (List (Int × (Int × Int × Int × Int) × (List Sq))) := GX fun n => A2 n p0 p1 p2
theorem KR (fRec : (Tr41 × Int × (List Int × List Int × List Int × List Int × List Int)) → Int → Sq → Option (List (Int × (Int × Int × Int × Int) × (List Sq)))) (ih : ∀ (Y : Nat → Prop) (w0 : World) (v1 : Value) (v2 : Value) (v3 : Value) (v4 : Value) (v5 : Value) (v6 : Value) (v7 : Value) (p0 : Tr41 × Int × (List Int × List Int × List Int × List Int × List Int)) (p1 : Int) (p2 : Sq) (r : (List (Int × (Int × Int × Int × Int) × (List Sq)))) (H : fRec p0 p1 p2 = some r) (s_v1 : Sl w0 Y Lp v1 p0.1.un.2.1.un.2.2.2) (s_v2 : Sl w0 Y Lz v2 p0.1.un.2.2.2.2) (s_v3 : Sl w0 Y ri v3 p0.2.2.1) (s_v4 : Sl w0 Y ri v4 p0.2.2.2.1) (s_v5 : Sl w0 Y ri v5 p0.2.2.2.2.1) (s_v6 : Sl w0 Y ri v6 p0.2.2.2.2.2.1) (s_v7 : Sl w0 Y ri v7 p0.2.2.2.2.2.2),ca_ 29 #[.agg #[Jint p0.1.un.1,Jint p0.1.un.2.1.un.1,Jint p0.1.un.2.1.un.2.1,Jint p0.1.un.2.1.un.2.2.1,v1,Jint p0.1.un.2.2.1,Jint p0.1.un.2.2.2.1,v2,Jint p0.2.1,v3,v4,v5,v6,v7],Jint p1,.agg #[Jint p2.1,Jint p2.2.1,Jint p2.2.2.1,Jint p2.2.2.2.1,Jint p2.2.2.2.2]] w0 fun e w' => ∃ x : Value,e = .returned (x) ∧ sy Y w0 [] [row (x) 56 MD r] w') (Y : Nat → Prop) (w0 : World) (v1 : Value) (v2 : Value) (v3 : Value) (v4 : Value) (v5 : Value) (v6 : Value) (v7 : Value) (p0 : Tr41 × Int × (List Int × List Int × List Int × List Int × List Int)) (p1 : Int) (p2 : Sq) (r : (List (Int × (Int × Int × Int × Int) × (List Sq)))) (H : Bc fRec p0 p1 p2 = some r) (s_v1 : Sl w0 Y Lp v1 p0.1.un.2.1.un.2.2.2) (s_v2 : Sl w0 Y Lz v2 p0.1.un.2.2.2.2) (s_v3 : Sl w0 Y ri v3 p0.2.2.1) (s_v4 : Sl w0 Y ri v4 p0.2.2.2.1) (s_v5 : Sl w0 Y ri v5 p0.2.2.2.2.1) (s_v6 : Sl w0 Y ri v6 p0.2.2.2.2.2.1) (s_v7 : Sl w0 Y ri v7 p0.2.2.2.2.2.2) :
    ca_ 29 #[.agg #[Jint p0.1.un.1,Jint p0.1.un.2.1.un.1,Jint p0.1.un.2.1.un.2.1,Jint p0.1.un.2.1.un.2.2.1,v1,Jint p0.1.un.2.2.1,Jint p0.1.un.2.2.2.1,v2,Jint p0.2.1,v3,v4,v5,v6,v7],Jint p1,.agg #[Jint p2.1,Jint p2.2.1,Jint p2.2.2.1,Jint p2.2.2.2.1,Jint p2.2.2.2.2]] w0 fun e w' => ∃ x : Value,e = .returned (x) ∧ sy Y w0 [] [row (x) 56 MD r] w' := by
 refine enter Tryz.func29 Aa Tryz.ntmps29 Aa fun a W => ?_
 have F := Stw.start Y w0
 obtain ⟨v8,h1,s_v1⟩ := s_v1.ex Sg
 obtain ⟨v9,h2,s_v2⟩ := s_v2.ex OZ
 have h_v1 := F.nx s_v1
 have h_v2 := F.nx s_v2
 have h_v3 := F.nx s_v3
 have h_v4 := F.nx s_v4
 have h_v5 := F.nx s_v5
 have h_v6 := F.nx s_v6
 have h_v7 := F.nx s_v7
 unfold Bc at H
 refine vc tk 2 W F fun a w W F => ?_
 refine IR (cs := (Ki p0 v1 v2 v3 v4 v5 v6 v7)) W F Aa Aa Aa fun b1 a w W F => ?_
 refine IR (cs := (Dd p2)) W F Aa Aa Aa fun b2 a w W F => ?_
 refine LD tk 10 W F fun a w W F => ?_
 refine Mg W Aa H (fun W H => ?_) fun W H => ?_
 ·
  refine Qm ?_
  refine SB [(true,0),(true,1),(true,2),(true,3),(true,4),(true,5),(false,6),(true,7),(false,8),(false,9)] (CN ⟨Y,[],w0⟩ [(some 8,b2,[Jint p2.1,Jint p2.2.1,Jint p2.2.2.1,Jint p2.2.2.2.1,Jint p2.2.2.2.2]),(some 6,b1,[Jint p0.1.un.1,Jint p0.1.un.2.1.un.1,Jint p0.1.un.2.1.un.2.1,Jint p0.1.un.2.1.un.2.2.1,v1,Jint p0.1.un.2.2.1,Jint p0.1.un.2.2.2.1,v2,Jint p0.2.1,v3,v4,v5,v6,v7]),(some 6,b2,[Jint p2.1,Jint p2.2.1,Jint p2.2.2.1,Jint p2.2.2.2.1,Jint p2.2.2.2.2])] []) (fun ch a d v w h => by cases d <;> exact h) MO (by kernel_rfl) F (fun w F => ⟨_,_,F,(all_cons (fun _ => (.head _)) (all_cons (fun _ => (.tail _ (.head _))) (all_cons (fun _ => (.head _)) BS))),BS⟩) fun w F => ?_
  refine KU (R := []) W Aa Aa (yC fun M Z hN hZ => Cd Ph Aa Aa Aa T3 W Aa 0 Aa) Aa Aa fun a W => ?_
  refine KU (R := [8,7]) W Aa Aa (yC fun M Z hN hZ => EW (cs := (Dd p2)) (v := Jint p2.1) W Aa (hN ((some 8),b2,(Dd p2)) (.head _) Aa) T3 Aa) (by kernel_rfl) Aa fun a W => ?_
  refine KU (R := []) W Aa Aa (yC fun M Z hN hZ => Cd Ph Aa Aa Aa kU W Aa 1 Aa) Aa Aa fun a W => ?_
  refine KU (R := [8,7]) W Aa Aa (yC fun M Z hN hZ => EW (cs := (Dd p2)) (v := Value.agg #[Jint p2.2.1,Jint p2.2.2.1,Jint p2.2.2.2.1,Jint p2.2.2.2.2]) W Aa (hN ((some 8),b2,(Dd p2)) (.head _) Aa) kU Aa) (by kernel_rfl) Aa fun a W => ?_
  refine KU (R := [6]) W Aa Aa (yC fun M Z hN hZ => EW (cs := (Ki p0 v1 v2 v3 v4 v5 v6 v7)) (v := Value.agg #[Jint p0.1.un.1,Jint p0.1.un.2.1.un.1,Jint p0.1.un.2.1.un.2.1,Jint p0.1.un.2.1.un.2.2.1,v1,Jint p0.1.un.2.2.1,Jint p0.1.un.2.2.2.1,v2,Jint p0.2.1,v3,v4,v5,v6,v7]) W Aa (hN ((some 6),b1,(Ki p0 v1 v2 v3 v4 v5 v6 v7)) (.tail _ (.head _)) Aa) T69 Aa) (by kernel_rfl) Aa fun a W => ?_
  refine KU (R := [6]) W Aa Aa (yC fun M Z hN hZ => EW (cs := (Dd p2)) (v := Value.agg #[Jint p2.1,Jint p2.2.1,Jint p2.2.2.1,Jint p2.2.2.2.1,Jint p2.2.2.2.2]) W Aa (hN ((some 6),b2,(Dd p2)) (.tail _ (.tail _ (.head _))) Aa) Xh Aa) (by kernel_rfl) Aa fun a W => ?_
  refine TN Aa ?_
  obtain ⟨x1,h3,H⟩ := BO H
  refine FK (Ml := []) (Zl := []) (β := Value) (rv := fun x => x) (MM := fun x => []) (ZZ := fun x => [row x 60 JP x1]) W F H59 Aa Aa (fun hL => Ky _ w (v1) (v2) (v3) (v4) (v5) (v6) (v7) (Tr41.of (p0.1.un.1,f38 p0.1.un.2.1,p0.1.un.2.2.1,p0.1.un.2.2.2.1,p0.1.un.2.2.2.2),p0.2.1,p0.2.2) p2 _ h3 (Sl.hide Sg h1 (F.old s_v1)) (Sl.hide OZ h2 (F.old s_v2)) (F.old s_v3) (F.old s_v4) (F.old s_v5) (F.old s_v6) (F.old s_v7)) fun x a w W F => ?_
  obtain ⟨v10,rfl⟩ : ∃ y,y = x := ⟨x,rfl⟩
  have F : sy Y w0 [(b2,(Dd p2)),(b1,(Ki p0 v1 v2 v3 v4 v5 v6 v7))] [row v10 60 JP x1] w := F
  refine ID (N2 := []) (NZ2 := []) (N3 := [(some 8,b2,[Jint p2.1,Jint p2.2.1,Jint p2.2.2.1,Jint p2.2.2.2.1,Jint p2.2.2.2.2]),(some 6,b1,[Jint p0.1.un.1,Jint p0.1.un.2.1.un.1,Jint p0.1.un.2.1.un.2.1,Jint p0.1.un.2.1.un.2.2.1,v1,Jint p0.1.un.2.2.1,Jint p0.1.un.2.2.2.1,v2,Jint p0.2.1,v3,v4,v5,v6,v7]),(some 6,b2,[Jint p2.1,Jint p2.2.1,Jint p2.2.2.1,Jint p2.2.2.2.1,Jint p2.2.2.2.2])]) (NZ3 := []) F Aa Aa (all_cons (fun _ => (.head _)) (all_cons (fun h => Ch (by kernel_rfl) h) (all_cons (fun h => Ch (by kernel_rfl) h) BS))) BS ?_
  refine KU (R := []) W Aa Aa (yC fun M Z hN hZ => IC (v := Value.agg #[Jint p2.1,Jint p2.2.1,Jint p2.2.2.1,Jint p2.2.2.2.1,Jint p2.2.2.2.2,v10]) B56 W Aa (Ey Aa Aa Aa (Ey Aa Aa Aa (Ey Aa (Nd (F.one (k := 0) Aa)) Aa MF))) Aa) Aa Aa fun a W => ?_
  refine TN Aa ?_
  have F := F.freeze
  refine Ut (z := Value.agg #[Jint 0,Jint 0,Jint 0,Jint 0,Jint 0,.slice none 0 0]) (cs := [Jint p2.1,Jint p2.2.1,Jint p2.2.2.1,Jint p2.2.2.2.1,Jint p2.2.2.2.2,v10]) MD ([(p2.1,p2.2,x1)] : List (Int × (Int × Int × Int × Int) × (List Sq))) W F Aa zO Z56 Aa Aa Aa (Ey Aa Aa Aa MF) Aa Aa ⟨[Jint p2.1,Jint p2.2.1,Jint p2.2.2.1,Jint p2.2.2.2.1,Jint p2.2.2.2.2,v10],_,Aa,⟨[Jint p2.1],[Jint p2.2.1,Jint p2.2.2.1,Jint p2.2.2.2.1,Jint p2.2.2.2.2,v10],Aa,Aa,⟨[Jint p2.2.1,Jint p2.2.2.1,Jint p2.2.2.2.1,Jint p2.2.2.2.2],[v10],Aa,⟨[Jint p2.2.1],[Jint p2.2.2.1,Jint p2.2.2.2.1,Jint p2.2.2.2.2],Aa,Aa,⟨[Jint p2.2.2.1],[Jint p2.2.2.2.1,Jint p2.2.2.2.2],Aa,Aa,⟨[Jint p2.2.2.2.1],[Jint p2.2.2.2.2],Aa,Aa,Aa⟩⟩⟩,⟨_,Aa,(F.item (i := 0) Aa)⟩⟩⟩,Aa⟩ fun v11 a w W F => ?_
  refine ID (N2 := []) (NZ2 := []) (N3 := [(some 8,b2,[Jint p2.1,Jint p2.2.1,Jint p2.2.2.1,Jint p2.2.2.2.1,Jint p2.2.2.2.2]),(some 6,b1,[Jint p0.1.un.1,Jint p0.1.un.2.1.un.1,Jint p0.1.un.2.1.un.2.1,Jint p0.1.un.2.1.un.2.2.1,v1,Jint p0.1.un.2.2.1,Jint p0.1.un.2.2.2.1,v2,Jint p0.2.1,v3,v4,v5,v6,v7]),(some 6,b2,[Jint p2.1,Jint p2.2.1,Jint p2.2.2.1,Jint p2.2.2.2.1,Jint p2.2.2.2.2])]) (NZ3 := []) F Aa Aa (all_cons (fun h => Ch (by kernel_rfl) h) (all_cons (fun h => Ch (by kernel_rfl) h) (all_cons (fun h => Ch (by kernel_rfl) h) BS))) BS ?_
  refine TN Aa ?_
  refine ls W F Aa (Px W Aa).q fun a w W F => ?_
  refine ID (N2 := []) (NZ2 := []) (N3 := [(some 8,b2,[Jint p2.1,Jint p2.2.1,Jint p2.2.2.1,Jint p2.2.2.2.1,Jint p2.2.2.2.2]),(some 6,b1,[Jint p0.1.un.1,Jint p0.1.un.2.1.un.1,Jint p0.1.un.2.1.un.2.1,Jint p0.1.un.2.1.un.2.2.1,v1,Jint p0.1.un.2.2.1,Jint p0.1.un.2.2.2.1,v2,Jint p0.2.1,v3,v4,v5,v6,v7]),(some 6,b2,[Jint p2.1,Jint p2.2.1,Jint p2.2.2.1,Jint p2.2.2.2.1,Jint p2.2.2.2.2])]) (NZ3 := []) F Aa Aa (all_cons (fun h => Ch (by kernel_rfl) h) (all_cons (fun h => Ch (by kernel_rfl) h) (all_cons (fun h => Ch (by kernel_rfl) h) BS))) BS ?_
  refine XS (BJ (Ej (I6 ?_)))
  have H := Gj H
  subst H
  refine Ga (.inl Aa) W F Aa (E2 W Aa) ?_
  have F := F.sub (M' := []) (Z' := [row v11 56 MD ([(p2.1,p2.2,x1)] : List (Int × (Int × Int × Int × Int) × (List Sq)))]) nl (sc nl)
  exact ⟨(v11),Aa,F⟩
 refine tN tk 5 W F fun a w W F => ?_
 obtain ⟨x2,h4,H⟩ := BO H
 refine ls W F Aa (Hi (v := Jint x2) W H27 Aa (fun w F => Mv any w p1 _ h4)) fun a w W F => ?_
 refine aN tk 9 [1,0] W F (ai (ai fun a w W F => ?_))
 obtain ⟨x3,h5,H⟩ := BO H
 refine FK (Ml := []) (Zl := []) (β := Value) (rv := fun x => x) (MM := fun x => []) (ZZ := fun x => [row x 56 MD x3]) W F H29 Aa Aa (fun hL => ih _ w (v1) (v2) (v3) (v4) (v5) (v6) (v7) (Tr41.of (p0.1.un.1,f38 p0.1.un.2.1,p0.1.un.2.2.1,p0.1.un.2.2.2.1,p0.1.un.2.2.2.2),p0.2.1,p0.2.2) (w64 (p1 + 1)) p2 _ h5 (Sl.hide Sg h1 (F.old s_v1)) (Sl.hide OZ h2 (F.old s_v2)) (F.old s_v3) (F.old s_v4) (F.old s_v5) (F.old s_v6) (F.old s_v7)) fun x a w W F => ?_
 obtain ⟨v12,rfl⟩ : ∃ y,y = x := ⟨x,rfl⟩
 have F : sy Y w0 [(b2,(Dd p2)),(b1,(Ki p0 v1 v2 v3 v4 v5 v6 v7))] [row v12 56 MD x3] w := F
 refine LD tk 8 W F fun a w W F => ?_
 obtain ⟨o1,G1,K1⟩ := BO H
 refine Hg (fun a w => ∃ x4 : List (Int × (Int × Int × Int × Int) × (List Sq)), ∃ v13 : Value,some (x4) = some o1 ∧ Fr 60 [] [(6,.slice none 0 0),(8,v12),(9,v13)] a ∧ sy Y w0 [(b2,(Dd p2)),(b1,(Ki p0 v1 v2 v3 v4 v5 v6 v7))] [row v12 56 MD x3,row v13 56 MD x4] w) ?_ ?_
 ·
  have H := G1
  clear G1 K1
  refine vc tk 4 W F fun a w W F => ?_
  obtain ⟨x5,h6,H⟩ := BO H
  refine ls W F Aa (HV (9 + (p1).toNat * 1) AbB W Aa Aa Aa h6 Aa).q fun a w W F => ?_
  refine ls W F Aa (Ho (v := (Xy [v3,v4,v5,v6,v7] p1)) 1 W Aa Aa T62 (Ps (base := 9) (m := 5) (l := [v3,v4,v5,v6,v7]) (enc := fun v => v) Aa (sD h6 Aa))).q fun a w W F => ?_
  refine ls W F Aa (Pe (r := ri) (l := x5) xZ Aa W Aa (Ek (Yo (vs := [v3,v4,v5,v6,v7]) (ls := [p0.2.2.1,p0.2.2.2.1,p0.2.2.2.2.1,p0.2.2.2.2.2.1,p0.2.2.2.2.2.2]) ⟨h_v3,⟨h_v4,⟨h_v5,⟨h_v6,⟨h_v7,trivial⟩⟩⟩⟩⟩ Aa h6))).q fun a w W F => ?_
  refine LD tk 4 W F fun a w W F => ?_
  have F := F.nilRow 56 MD
  have F := F.frontZ (i := 1) Aa Aa
  have F := F.frontM (i := 1) Aa Aa
  have F := F.frontM (i := 1) Aa Aa
  refine J5 H (fun s a w => ∃ v14 : Value,Fr 60 [] [(1,Jint p1),(3,pp b1),(5,pp b2),(6,.slice none 0 0),(7,Jint x2),(8,v12),(9,v14),(34,(Xy [v3,v4,v5,v6,v7] p1)),(35,Jint (x5.length : Int)),(36,Jint s.2)] a ∧ sy Y w0 [(b2,(Dd p2)),(b1,(Ki p0 v1 v2 v3 v4 v5 v6 v7))] [row v12 56 MD x3,row v14 56 MD s.1] w) ⟨(Value.slice none 0 0),W.ra Aa,F⟩ fun s o a w H L2 hR => ?_
  obtain ⟨x6,x7⟩ := s
  obtain ⟨v14,W,F⟩ := hR
  have W : Fr 60 [] [(1,Jint p1),(3,pp b1),(5,pp b2),(6,.slice none 0 0),(7,Jint x2),(8,v12),(9,v14),(34,(Xy [v3,v4,v5,v6,v7] p1)),(35,Jint (x5.length : Int)),(36,Jint x7)] a := W
  have F : sy Y w0 [(b2,(Dd p2)),(b1,(Ki p0 v1 v2 v3 v4 v5 v6 v7))] [row v12 56 MD x3,row v14 56 MD x6] w := F
  rw [A3] at H
  refine vc tk 6 W F fun a w W F => ?_
  refine Mg W Aa H (fun W H => ?_) fun W H => ?_
  ·
   refine F9 (BJ ?_)
   obtain ⟨o3,G3,K3⟩ := BO H
   refine Hg (fun a w => ∃ x8 : List (Int × (Int × Int × Int × Int) × (List Sq)), ∃ v15 : Value,some (x8) = some o3 ∧ Fr 60 [] [(1,Jint p1),(3,pp b1),(5,pp b2),(6,.slice none 0 0),(7,Jint x2),(8,v12),(9,v15),(34,(Xy [v3,v4,v5,v6,v7] p1)),(35,Jint (x5.length : Int)),(36,Jint x7)] a ∧ sy Y w0 [(b2,(Dd p2)),(b1,(Ki p0 v1 v2 v3 v4 v5 v6 v7))] [row v12 56 MD x3,row v15 56 MD x8] w) ?_ ?_
   ·
    have H := G3
    clear G3 K3
    refine vc tk 3 W F fun a w W F => ?_
    obtain ⟨x9,h7,H⟩ := BO H
    refine ls W F Aa (H2 (r := ri) L62 W Aa Aa (Ek (Yo (vs := [v3,v4,v5,v6,v7]) (ls := [p0.2.2.1,p0.2.2.2.1,p0.2.2.2.2.1,p0.2.2.2.2.2.1,p0.2.2.2.2.2.2]) ⟨h_v3,⟨h_v4,⟨h_v5,⟨h_v6,⟨h_v7,trivial⟩⟩⟩⟩⟩ Aa h6)) h7).q fun a w W F => ?_
    refine ls W F Aa (Fq (y := Jint x9) (j := 0) (i := x7) W Aa Aa (Ek (Yo (vs := [v3,v4,v5,v6,v7]) (ls := [p0.2.2.1,p0.2.2.2.1,p0.2.2.2.2.1,p0.2.2.2.2.2.1,p0.2.2.2.2.2.2]) ⟨h_v3,⟨h_v4,⟨h_v5,⟨h_v6,⟨h_v7,trivial⟩⟩⟩⟩⟩ Aa h6)) h7 Fl.int.to T3 Aa).q fun a w W F => ?_
    refine LD tk 4 W F fun a w W F => ?_
    refine R6 7 F MO (by kernel_rfl) ?_
    refine qs W Aa (Ho (v := Value.agg #[Jint p0.1.un.1,Jint p0.1.un.2.1.un.1,Jint p0.1.un.2.1.un.2.1,Jint p0.1.un.2.1.un.2.2.1,v1,Jint p0.1.un.2.2.1,Jint p0.1.un.2.2.2.1,v2,Jint p0.2.1,v3,v4,v5,v6,v7]) 1 W Aa Aa T69 Aa).q fun a W => ?_
    refine qs W Aa (Gr W Aa).q fun a W => ?_
    refine qs W Aa (gF W Aa Aa Aa).q fun a W => ?_
    refine qs W Aa (Ho (v := Value.agg #[Jint p2.1,Jint p2.2.1,Jint p2.2.2.1,Jint p2.2.2.2.1,Jint p2.2.2.2.2]) 0 W Aa Aa Xh Aa).q fun a W => ?_
    iterate 2 refine qs W Aa (Gr W Aa).q fun a W => ?_
    obtain ⟨x10,h8,H⟩ := BO H
    refine qs W Aa (Hi (v := Value.agg #[Jint x10.1,Jint x10.2.1,Jint x10.2.2.1,Jint x10.2.2.2.1,Jint x10.2.2.2.2]) W H28 Aa (fun w F => Qg any w p2 x2 x9 _ h8)) fun a W => ?_
    refine Iq fun w F => ?_
    obtain ⟨x11,h9,H⟩ := BO H
    refine FK (Ml := []) (Zl := []) (β := Value) (rv := fun x => x) (MM := fun x => []) (ZZ := fun x => [row x 56 MD x11]) W F H29 Aa Aa (fun hL => ih _ w (v1) (v2) (v3) (v4) (v5) (v6) (v7) (Tr41.of (p0.1.un.1,f38 p0.1.un.2.1,p0.1.un.2.2.1,p0.1.un.2.2.2.1,p0.1.un.2.2.2.2),p0.2.1,p0.2.2) (w64 (p1 + 1)) x10 _ h9 (Sl.hide Sg h1 (F.old s_v1)) (Sl.hide OZ h2 (F.old s_v2)) (F.old s_v3) (F.old s_v4) (F.old s_v5) (F.old s_v6) (F.old s_v7)) fun x a w W F => ?_
    obtain ⟨v16,rfl⟩ : ∃ y,y = x := ⟨x,rfl⟩
    have F : sy Y w0 [(b2,(Dd p2)),(b1,(Ki p0 v1 v2 v3 v4 v5 v6 v7))] [row v16 56 MD x11,row v12 56 MD x3,row v14 56 MD x6] w := F
    refine LD tk 8 W F fun a w W F => ?_
    obtain ⟨x12,h10,H⟩ := BO H
    refine ls W F Aa (Hi (v := Value.bool x12) W H60 Aa (fun w F => Pd any w (v16) (v12) x11 x3 x2 _ h10 (kA (DP 0 Aa) F) (kA (DP 1 Aa) F))) fun a w W F => ?_
    refine LD tk 3 W F fun a w W F => ?_
    refine Up W Aa H (fun W H => ?_) fun W H => ?_
    ·
     refine vc tk 3 W F fun a w W F => ?_
     obtain ⟨x13,h11,H⟩ := BO H
     refine Ls (r := MD) (i := 2) W F Aa zO Aa Aa Aa Aa (Re F 0 Aa) h11 Aa fun v17 a w W F => ?_
     have F : sy Y w0 [(b2,(Dd p2)),(b1,(Ki p0 v1 v2 v3 v4 v5 v6 v7))] [row v17 56 MD x13,row v16 56 MD x11,row v12 56 MD x3] w := F
     refine vl tk 2 W F fun a w W F => ?_
     refine EK (BJ ?_)
     have F := F.frontZ (i := 2) Aa Aa
     have F := F.frontM (i := 1) Aa Aa
     have F := F.frontM (i := 1) Aa Aa
     have F := F.sub (M' := [(b2,(Dd p2)),(b1,(Ki p0 v1 v2 v3 v4 v5 v6 v7))]) (Z' := [row v12 56 MD x3,row v17 56 MD x13]) sr (sc (sc nl))
     exact ⟨_,(v17),H,W.ra Aa,F⟩
    refine F9 (EK (BJ ?_))
    have F := F.frontZ (i := 2) Aa Aa
    have F := F.frontZ (i := 2) Aa Aa
    have F := F.frontM (i := 1) Aa Aa
    have F := F.frontM (i := 1) Aa Aa
    have F := F.sub (M' := [(b2,(Dd p2)),(b1,(Ki p0 v1 v2 v3 v4 v5 v6 v7))]) (Z' := [row v12 56 MD x3,row v14 56 MD x6]) sr (sc (sc nl))
    exact ⟨_,(v14),H,W.ra Aa,F⟩
   rintro a w ⟨x8,v15,hj,W,F⟩
   have hj := Gj hj
   subst hj
   have H := K3
   clear G3 K3
   refine vc tk 4 W F fun a w W F => ?_
   refine BJ ?_
   have F := F.frontZ (i := 1) Aa Aa
   have F := F.frontZ (i := 1) Aa Aa
   have F := F.frontM (i := 1) Aa Aa
   have F := F.frontM (i := 1) Aa Aa
   exact ⟨_,H,(v15),W.ra Aa,F⟩
  refine HW ?_
  iterate 2 refine LQ ?_
  refine Ha (BJ ?_)
  have F := F.frontZ (i := 1) Aa Aa
  have F := F.frontZ (i := 1) Aa Aa
  have F := F.frontM (i := 1) Aa Aa
  have F := F.frontM (i := 1) Aa Aa
  have H := L2 _ H
  exact ⟨_,(v14),H,W.ra Aa,F⟩
 rintro a w ⟨x4,v13,hj,W,F⟩
 have hj := Gj hj
 subst hj
 have H := K1
 clear G1 K1
 refine vc tk 4 W F fun a w W F => ?_
 obtain ⟨x14,h12,H⟩ := BO H
 refine Ls (r := MD) (i := 1) W F Aa zO Aa Aa Aa Aa (Re F 0 Aa) h12 Aa fun v18 a w W F => ?_
 have F : sy Y w0 [(b2,(Dd p2)),(b1,(Ki p0 v1 v2 v3 v4 v5 v6 v7))] [row v18 56 MD x14,row v12 56 MD x3] w := F
 refine LD tk 3 W F fun a w W F => ?_
 refine Ej ?_
 have H := Gj H
 subst H
 refine Ga (.inl Aa) W F Aa (E2 W Aa) ?_
 have F := F.sub (M' := []) (Z' := [row v18 56 MD x14]) nl (sc nl)
 exact ⟨(v18),Aa,F⟩
theorem Ma : ∀ (n : Nat) (Y : Nat → Prop) (w0 : World) (v1 : Value) (v2 : Value) (v3 : Value) (v4 : Value) (v5 : Value) (v6 : Value) (v7 : Value) (p0 : Tr41 × Int × (List Int × List Int × List Int × List Int × List Int)) (p1 : Int) (p2 : Sq) (r : (List (Int × (Int × Int × Int × Int) × (List Sq)))) (H : A2 n p0 p1 p2 = some r) (s_v1 : Sl w0 Y Lp v1 p0.1.un.2.1.un.2.2.2) (s_v2 : Sl w0 Y Lz v2 p0.1.un.2.2.2.2) (s_v3 : Sl w0 Y ri v3 p0.2.2.1) (s_v4 : Sl w0 Y ri v4 p0.2.2.2.1) (s_v5 : Sl w0 Y ri v5 p0.2.2.2.2.1) (s_v6 : Sl w0 Y ri v6 p0.2.2.2.2.2.1) (s_v7 : Sl w0 Y ri v7 p0.2.2.2.2.2.2),ca_ 29 #[.agg #[Jint p0.1.un.1,Jint p0.1.un.2.1.un.1,Jint p0.1.un.2.1.un.2.1,Jint p0.1.un.2.1.un.2.2.1,v1,Jint p0.1.un.2.2.1,Jint p0.1.un.2.2.2.1,v2,Jint p0.2.1,v3,v4,v5,v6,v7],Jint p1,.agg #[Jint p2.1,Jint p2.2.1,Jint p2.2.2.1,Jint p2.2.2.2.1,Jint p2.2.2.2.2]] w0 fun e w' => ∃ x : Value,e = .returned (x) ∧ sy Y w0 [] [row (x) 56 MD r] w' := by
  intro n
  induction n with
  | zero => intro Y w0 v1 v2 v3 v4 v5 v6 v7 p0 p1 p2 r H; exact nomatch H
  | succ n ih => intro Y w0 v1 v2 v3 v4 v5 v6 v7 p0 p1 p2 r H s_v1 s_v2 s_v3 s_v4 s_v5 s_v6 s_v7; exact KR (A2 n) ih Y w0 v1 v2 v3 v4 v5 v6 v7 p0 p1 p2 r H s_v1 s_v2 s_v3 s_v4 s_v5 s_v6 s_v7
theorem Mo (Y : Nat → Prop) (w0 : World) (v1 : Value) (v2 : Value) (v3 : Value) (v4 : Value) (v5 : Value) (v6 : Value) (v7 : Value) (p0 : Tr41 × Int × (List Int × List Int × List Int × List Int × List Int)) (p1 : Int) (p2 : Sq) (r : (List (Int × (Int × Int × Int × Int) × (List Sq)))) (H : Dy p0 p1 p2 = some r) (s_v1 : Sl w0 Y Lp v1 p0.1.un.2.1.un.2.2.2) (s_v2 : Sl w0 Y Lz v2 p0.1.un.2.2.2.2) (s_v3 : Sl w0 Y ri v3 p0.2.2.1) (s_v4 : Sl w0 Y ri v4 p0.2.2.2.1) (s_v5 : Sl w0 Y ri v5 p0.2.2.2.2.1) (s_v6 : Sl w0 Y ri v6 p0.2.2.2.2.2.1) (s_v7 : Sl w0 Y ri v7 p0.2.2.2.2.2.2) :
    ca_ 29 #[.agg #[Jint p0.1.un.1,Jint p0.1.un.2.1.un.1,Jint p0.1.un.2.1.un.2.1,Jint p0.1.un.2.1.un.2.2.1,v1,Jint p0.1.un.2.2.1,Jint p0.1.un.2.2.2.1,v2,Jint p0.2.1,v3,v4,v5,v6,v7],Jint p1,.agg #[Jint p2.1,Jint p2.2.1,Jint p2.2.2.1,Jint p2.2.2.2.1,Jint p2.2.2.2.2]] w0 fun e w' => ∃ x : Value,e = .returned (x) ∧ sy Y w0 [] [row (x) 56 MD r] w' := by
  obtain ⟨n,H⟩ := Na H
  exact Ma n Y w0 v1 v2 v3 v4 v5 v6 v7 p0 p1 p2 r H s_v1 s_v2 s_v3 s_v4 s_v5 s_v6 s_v7
theorem k29 : KO (K29 fun x => Dy x.1 x.2.1 x.2.2) 29 := KO.of ⟨fun args w => Bf Tryz.func29 rfl (by decide) args w⟩ rfl (fun _ => rfl) (fun _ => rfl) rfl (fun _ => rfl) (fun _ => rfl) (fun _ => rfl) (fun _ => rfl) fun Y w0 x r g H hg hk => (Mo Y w0 g.1 g.2.1 g.2.2.1 g.2.2.2.1 g.2.2.2.2.1 g.2.2.2.2.2.1 g.2.2.2.2.2.2.1 x.1 x.2.1 x.2.2 r H hg.1 hg.2.1 hg.2.2.1 hg.2.2.2.1 hg.2.2.2.2.1 hg.2.2.2.2.2.1 hg.2.2.2.2.2.2.1).mono fun e w' ⟨x,he,F⟩ => ⟨(x,()),he,F⟩
def Hm (p0 : Tr41) (p1 : Int) : Option ((List (Int × (Int × Int × Int × Int) × (List Sq))) × Int) := (GC (Tr41.of (p0.un.1,f38 p0.un.2.1,p0.un.2.2.1,p0.un.2.2.2.1,p0.un.2.2.2.2))).bind fun x1 => (if (!x1) = true then some (([] : List (Int × (Int × Int × Int × Int) × (List Sq))),17) else (Ot (Tr41.of (p0.un.1,f38 p0.un.2.1,p0.un.2.2.1,p0.un.2.2.2.1,p0.un.2.2.2.2)) p1).bind fun x2 => (Hz (Tr41.of (x2.un.1,f38 x2.un.2.1,x2.un.2.2.1,x2.un.2.2.2.1,x2.un.2.2.2.2))).bind fun x3 => (if 4096 < x3 then some (([] : List (Int × (Int × Int × Int × Int) × (List Sq))),6) else (Bm 0).bind fun x4 => (Dc (Tr41.of (x2.un.1,f38 x2.un.2.1,x2.un.2.2.1,x2.un.2.2.2.1,x2.un.2.2.2.2)) x4).bind fun x5 => (Bm 0).bind fun x6 => (CT ((-1),(0,0,0,0)) x6 (-1)).bind fun x7 => (Bm 1).bind fun x8 => (Dc (Tr41.of (x2.un.1,f38 x2.un.2.1,x2.un.2.2.1,x2.un.2.2.2.1,x2.un.2.2.2.2)) x8).bind fun x9 => (Bm 1).bind fun x10 => (CT x7 x10 (-1)).bind fun x11 => (Bm 2).bind fun x12 => (Dc (Tr41.of (x2.un.1,f38 x2.un.2.1,x2.un.2.2.1,x2.un.2.2.2.1,x2.un.2.2.2.2)) x12).bind fun x13 => (Bm 2).bind fun x14 => (CT x11 x14 (-1)).bind fun x15 => (Bm 3).bind fun x16 => (Dc (Tr41.of (x2.un.1,f38 x2.un.2.1,x2.un.2.2.1,x2.un.2.2.2.1,x2.un.2.2.2.2)) x16).bind fun x17 => (Bm 3).bind fun x18 => (CT x15 x18 (-1)).bind fun x19 => (Bm 4).bind fun x20 => (Dc (Tr41.of (x2.un.1,f38 x2.un.2.1,x2.un.2.2.1,x2.un.2.2.2.1,x2.un.2.2.2.2)) x20).bind fun x21 => (Bm 4).bind fun x22 => (CT x19 x22 (-1)).bind fun x23 => (Dy (Tr41.of (x2.un.1,f38 x2.un.2.1,x2.un.2.2.1,x2.un.2.2.2.1,x2.un.2.2.2.2),p1,(x5,x9,x13,x17,x21)) 0 x23).bind fun x24 => some (x24,0)))
abbrev K8 : Cn_ := ⟨[Yi,DJ],[(.b false,[.o 56 nS]),JQ],[],false,fun x => Hm x.1 x.2,none⟩
theorem k8 : KO (K8) 8 := Ea (ct := (.q (.q (.q (.q (.q (.s (.q (.b (.un .d (.un .d (.un .d (.un .d (.un .d (.un .d .d)))))))) .d))))))) DW (AH k23 (AH k24 (AH k26 (AH k25 (AH k27 (AH k28 (AH k29 BC))))))) Tryz.func8 (by kernel_rfl) fun x => by kernel_rfl
def D7 (p0 : Sq) (p1 : Int) (p2 : Int × Int × Int × Int) : Option Sq := (if p0.1 = (-1) then some p1 else some p0.1).bind fun x1 => (if p0.2.1 = (-1) then some p2.1 else some p0.2.1).bind fun x2 => (if p0.2.2.1 = (-1) then some p2.2.1 else some p0.2.2.1).bind fun x3 => (if p0.2.2.2.1 = (-1) then some p2.2.2.1 else some p0.2.2.2.1).bind fun x4 => (if p0.2.2.2.2 = (-1) then some p2.2.2.2 else some p0.2.2.2.2).bind fun x5 => some (x1,(x2,x3,x4,x5))
abbrev K36 : Cn_ := ⟨[TB,DJ,TR],[(.b true,[.d false Yc])],[],false,fun x => D7 x.1 x.2.1 x.2.2,none⟩
theorem k36 : KO (K36) 36 := Ea (ct := (.q (.j (.st false ⟨[],[(0,[some (.d false Jb),none,none,none,none])],[]⟩) .d (.s (.q (.b (.un (.q (.q (.j (.st false ⟨[],[(0,[none,some (.d false Jb),none,none,none])],[]⟩) .d .d))) (.un (.q (.q (.j (.st false ⟨[],[(0,[none,none,some (.d false Jb),none,none])],[]⟩) .d .d))) (.un (.q (.q (.j (.st false ⟨[],[(0,[none,none,none,some (.d false Jb),none])],[]⟩) .d .d))) (.un (.q (.q (.j (.st false ⟨[],[(0,[none,none,none,none,some (.d false Jb)])],[]⟩) .d .d))) (.un .d .d))))))) .d)))) DW BC Tryz.func36 (by kernel_rfl) fun x => by kernel_rfl
def HG (p0 : Int × (Int × Int × Int × Int) × (List Sq)) (p1 : Int) (p2 : Int × Int × Int × Int) : Option Bool := (D7 ((AC p0).1,((AC p0).2.1,(AC p0).2.2.1,(AC p0).2.2.2.1,(AC p0).2.2.2.2)) p1 p2).bind fun x1 => some (decide (x1.1 = p1 ∧ x1.2.1 = p2.1 ∧ x1.2.2.1 = p2.2.1 ∧ x1.2.2.2.1 = p2.2.2.1 ∧ x1.2.2.2.2 = p2.2.2.2))
abbrev K35 : Cn_ := ⟨[(.b true,[.d true nS]),(.p,[]),(.p,[])],[KP],[(false,[.d true Jb]),(false,[.d true xK])],false,fun x => HG x.1 x.2.1 x.2.2,none⟩
theorem k35 : KO (K35) 35 := Ea (ct := .d) DW (AH k37 (AH k36 BC)) Tryz.func35 (by kernel_rfl) fun x => by kernel_rfl
def A1 (p0 : List (Int × (Int × Int × Int × Int) × (List Sq))) (p1c0 : Int) (p1c1 : Int × Int × Int × Int) : Int → Option (Int ⊕ (Unit ⊕ Int))
  | x1 => (if x1 < (p0.length : Int) then (ix p0 x1).bind fun x2 => (HG x2 p1c0 p1c1).bind fun x3 => (if x3 = true then some (.inr (.inr x1)) else some (.inl (w64 (x1 + 1)))) else some (.inr (.inl ())))
def BT (p0 : List (Int × (Int × Int × Int × Int) × (List Sq))) (p1c0 : Int) (p1c1 : Int × Int × Int × Int) : Option Int := GN (Aj (A1 p0 p1c0 p1c1) 0) fun _ => some (-1)
abbrev K34 : Cn_ := ⟨[bD,(.fn 35 [] 2,[])],[JQ],[(false,[.d true Jb]),(false,[.d true xK])],false,fun x => BT x.1 x.2.1 x.2.2,none⟩
theorem k34 : KO (K34) 34 := Ea (ct := (.q (.j (.st true ⟨[],[],[]⟩) (.q (.b (.l ⟨[(8,false,AO)],[],[]⟩ .d))) .d))) DW (AH k35 BC) Tryz.func34 (by kernel_rfl) fun x => by kernel_rfl
def HD (p0 : List (Int × (Int × Int × Int × Int) × (List Sq))) (p1 : Int) (p2 : Int × Int × Int × Int) : Option Int := (BT p0 p1 p2).bind fun x1 => some x1
abbrev K13 : Cn_ := ⟨[bD,DJ,TR],[JQ],[],false,fun x => HD x.1 x.2.1 x.2.2,none⟩
theorem k13 : KO (K13) 13 := Ea (ct := .d) DW (AH k34 BC) Tryz.func13 (by kernel_rfl) fun x => by kernel_rfl
def Jp  : Option Bool := (Hm (Tr41.of (5,Tr38.of (3,1,1,([] : List Tr38)),0,0,([Tr41.of (2,Tr38.of (0,0,0,([] : List Tr38)),4,2,([] : List Tr41)),Tr41.of (1,Tr38.of (2,0,0,([] : List Tr38)),0,0,([] : List Tr41))] : List Tr41))) 0).bind fun x1 => (if x1.2 = 0 then (if (x1.1.length : Int) = 2 then (ix x1.1 0).bind fun x3 => (if x3.2.1.1 = (-1) ∧ x3.2.1.2.1 = 1 ∧ x3.2.1.2.2.1 = (-1) ∧ x3.2.1.2.2.2 = (-1) then (ix x1.1 0).bind fun x4 => (if (x4.2.2.length : Int) = 1 then (ix x1.1 0).bind fun x5 => (ix x5.2.2 0).bind fun x6 => (if x6.1 = 2 then (ix x1.1 1).bind fun x7 => (if (x7.2.2.length : Int) = 0 then (HD x1.1 0 (0,0,0,0)).bind fun x8 => some (decide (x8 = 1)) else some false) else some false) else some false) else some false) else some false) else some false).bind fun x2 => some x2
abbrev K7 : Cn_ := ⟨[],[KP],[],false,fun x => Jp ,none⟩
theorem k7 : KO (K7) 7 := Ea (ct := (.q (.q (.q (.q (.j (.st false ⟨[(0,false,Ez)],[],[]⟩) .d .d)))))) DW (AH k8 (AH k13 BC)) Tryz.func7 (by kernel_rfl) fun x => by kernel_rfl
theorem H30 : Has Tryz.prog 30 := Lh Tryz.func30
def DC (fRec : Tr24 → Option Tr38) (p0 : Tr24) : (Int × List Tr38) → Option ((Int × List Tr38) ⊕ (List Tr38))
  | (x2,x3) => (if x2 < (p0.un.2.2.2.length : Int) then (ix p0.un.2.2.2 x2).bind fun x4 => (fRec x4).bind fun x5 => (HU x3 ([x5] : List Tr38)).bind fun x6 => some (.inl (w64 (x2 + 1),x6)) else some (.inr x3))
def EM (fRec : Tr24 → Option Tr38) (p0 : Tr24) : Option Tr38 := (Aj (DC fRec p0) (0,[])).bind fun x1 => some (Tr38.of (p0.un.1,p0.un.2.1,p0.un.2.2.1,x1))
def E0 : Nat → Tr24 → Option Tr38
  | 0 => fun _ => none
  | n + 1 => EM (E0 n)
def Pf (p0 : Tr24) : Option Tr38 := GX fun n => E0 n p0
def LU (fRec : Tr24 → Option Tr38) (p0 : Tr24) : (Int × List Tr38) → Option ((Int × List Tr38) ⊕ (List Tr38))
  | (x2,x3) => (if x2 < (p0.un.2.2.2.length : Int) then (ix p0.un.2.2.2 x2).bind fun x4 => (fRec (f24 x4)).bind fun x5 => (HU x3 ([f38 x5] : List Tr38)).bind fun x6 => some (.inl (w64 (x2 + 1),x6)) else some (.inr x3))
theorem TO : @LU = @DC := by
 unfold LU DC
 simp only [Tr38.re_eq,Tr24.re_eq]
def OU (fRec : Tr24 → Option Tr38) (p0 : Tr24) : Option Tr38 := (Aj (LU fRec p0) (0,[])).bind fun x1 => some (Tr38.of (p0.un.1,p0.un.2.1,p0.un.2.2.1,x1))
theorem Ug : @OU = @EM := by
 unfold OU EM
 simp only [TO,Tr38.re_eq]
theorem k30 : KO (K30 fun x => Pf x) 30 := R8 (E := te) (xs := lY) (ys := qK) (bs := []) (io := false) (nn := fun n x => E0 n x) (st := fun g x => EM g x) Tryz.func30 rfl (by kernel_rfl) (fun _ => rfl) (fun _ => rfl) fun g hg => Ea (ct := (.q (.q (.j (.st false ⟨[],[(2,[none,none,none,some (.o 38 VY)])],[]⟩) (.q (.b (.l ⟨[(4,false,AO)],[(2,[none,none,none,some (.o 38 VY)])],[]⟩ .d))) .d)))) DW (AH hg BC) Tryz.func30 (by kernel_rfl) fun x => by rw [← Ug]; kernel_rfl
theorem Ry (Y : Nat → Prop) (w0 : World) (v1 : Value) (p0 : Tr24) (r : Tr38) (H : Pf p0 = some r) (h_v1 : Sl w0 (NX []) aC v1 p0.un.2.2.2) :
    ca_ 30 #[.agg #[Jint p0.un.1,Jint p0.un.2.1,Jint p0.un.2.2.1,v1]] w0 fun e w' => ∃ x : Value,e = .returned (.agg #[Jint r.un.1,Jint r.un.2.1,Jint r.un.2.2.1,x]) ∧ sy Y w0 [] [frz (x) Lp r.un.2.2.2] w' := by
 refine (k30.out (Y := Y) (X := []) (x := p0) (r := r) H Aa Aa Aa Aa Aa (v1,()) ⟨h_v1,trivial⟩ (Stw.start Y w0) trivial).mono ?_
 rintro e w' ⟨⟨a0,u⟩,he,F,hi⟩
 exact ⟨a0,he,F⟩
theorem H9 : Has Tryz.prog 9 := Lh Tryz.func9
abbrev q6 (a0 : Nat) (a1 : Tr27) (a2 : Tr38) (a3 : Value) (a4 : Nat) (a5 : Nat) (a6 : Value) (a7 : Value) : List (Nat × List Value) := [(a0,[Jint a1.un.1,Jint a2.un.1,Jint a2.un.2.1,Jint a2.un.2.2.1,a3,Jint a1.un.2.2.1,Jint a1.un.2.2.2.1,.slice none 0 0]),(a4,[Jint 0,Jint 0,Jint 0,Jint 0,.slice none 0 0,Jint 0,Jint 0,.slice none 0 0]),(a5,[Jint a1.un.1,Jint a1.un.2.1.un.1,Jint a1.un.2.1.un.2.1,Jint a1.un.2.1.un.2.2.1,a6,Jint a1.un.2.2.1,Jint a1.un.2.2.2.1,a7])]
abbrev qO (a0 : Nat) (a1 : Nat) (a2 : Tr27) (a3 : Value) (a4 : Value) : List (Nat × List Value) := [(a0,[Jint 0,Jint 0,Jint 0,Jint 0,.slice none 0 0,Jint 0,Jint 0,.slice none 0 0]),(a1,[Jint a2.un.1,Jint a2.un.2.1.un.1,Jint a2.un.2.1.un.2.1,Jint a2.un.2.1.un.2.2.1,a3,Jint a2.un.2.2.1,Jint a2.un.2.2.2.1,a4])]
abbrev oK (a0 : Nat) (a1 : Nat) (a2 : Nat) (a3 : Tr27) (a4 : Value) (a5 : Value) : List (Nat × List Value) := [(a0,[Jint 0,Jint 0,Jint 0,Jint 0,.slice none 0 0,Jint 0,Jint 0,.slice none 0 0]),(a1,[Jint 0,Jint 0,Jint 0,Jint 0,.slice none 0 0,Jint 0,Jint 0,.slice none 0 0]),(a2,[Jint a3.un.1,Jint a3.un.2.1.un.1,Jint a3.un.2.1.un.2.1,Jint a3.un.2.1.un.2.2.1,a4,Jint a3.un.2.2.1,Jint a3.un.2.2.2.1,a5])]
abbrev N1 (a0 : Nat) (a1 : Tr27) (a2 : Tr38) (a3 : Value) (a4 : Value) (a5 : Nat) (a6 : Nat) (a7 : Value) (a8 : Value) : List (Nat × List Value) := [(a0,[Jint a1.un.1,Jint a2.un.1,Jint a2.un.2.1,Jint a2.un.2.2.1,a3,Jint a1.un.2.2.1,Jint a1.un.2.2.2.1,a4]),(a5,[Jint 0,Jint 0,Jint 0,Jint 0,.slice none 0 0,Jint 0,Jint 0,.slice none 0 0]),(a6,[Jint a1.un.1,Jint a1.un.2.1.un.1,Jint a1.un.2.1.un.2.1,Jint a1.un.2.1.un.2.2.1,a7,Jint a1.un.2.2.1,Jint a1.un.2.2.2.1,a8])]
abbrev iU (a0 : Tr27) (a1 : Tr38) (a2 : Value) (a3 : Value) : List Value := [Jint a0.un.1,Jint a1.un.1,Jint a1.un.2.1,Jint a1.un.2.2.1,a2,Jint a0.un.2.2.1,Jint a0.un.2.2.2.1,a3]
def Es (fRec : Tr27 → Option Tr41) (p0 : Tr27) : (Int × List Tr41) → Option ((Int × List Tr41) ⊕ (List Tr41))
  | (x3,x4) => (if x3 < (p0.un.2.2.2.2.length : Int) then (ix p0.un.2.2.2.2 x3).bind fun x5 => (fRec (Tr27.of (x5.un.1,f24 x5.un.2.1,x5.un.2.2.1,x5.un.2.2.2.1,x5.un.2.2.2.2))).bind fun x6 => (HU x4 ([Tr41.of (x6.un.1,f38 x6.un.2.1,x6.un.2.2.1,x6.un.2.2.2.1,x6.un.2.2.2.2)] : List Tr41)).bind fun x7 => some (.inl (w64 (x3 + 1),x7)) else some (.inr x4))
def FH (fRec : Tr27 → Option Tr41) (p0 : Tr27) : Option Tr41 := (Pf (f24 p0.un.2.1)).bind fun x1 => (Aj (Es fRec p0) (0,[])).bind fun x2 => some (Tr41.of (p0.un.1,x1,p0.un.2.2.1,p0.un.2.2.2.1,x2))
def Fb : Nat → Tr27 → Option Tr41
  | 0 => fun _ => none
  | n + 1 => FH (Fb n)
def MR (p0 : Tr27) : Option Tr41 := GX fun n => Fb n p0
theorem U5 (fRec : Tr27 → Option Tr41) (ih : ∀ (Y : Nat → Prop) (w0 : World) (v1 : Value) (v2 : Value) (p0 : Tr27) (r : Tr41) (H : fRec p0 = some r) (h_v1 : Sl w0 (NX []) aC v1 p0.un.2.1.un.2.2.2) (h_v2 : Sl w0 (NX []) bZ v2 p0.un.2.2.2.2),ca_ 9 #[.agg #[Jint p0.un.1,Jint p0.un.2.1.un.1,Jint p0.un.2.1.un.2.1,Jint p0.un.2.1.un.2.2.1,v1,Jint p0.un.2.2.1,Jint p0.un.2.2.2.1,v2]] w0 fun e w' => ∃ x : Value × Value,e = .returned (.agg #[Jint r.un.1,Jint r.un.2.1.un.1,Jint r.un.2.1.un.2.1,Jint r.un.2.1.un.2.2.1,x.1,Jint r.un.2.2.1,Jint r.un.2.2.2.1,x.2]) ∧ sy Y w0 [] [frz (x.1) Lp r.un.2.1.un.2.2.2,frz (x.2) Lz r.un.2.2.2.2] w') (Y : Nat → Prop) (w0 : World) (v1 : Value) (v2 : Value) (p0 : Tr27) (r : Tr41) (H : FH fRec p0 = some r) (h_v1 : Sl w0 (NX []) aC v1 p0.un.2.1.un.2.2.2) (h_v2 : Sl w0 (NX []) bZ v2 p0.un.2.2.2.2) :
    ca_ 9 #[.agg #[Jint p0.un.1,Jint p0.un.2.1.un.1,Jint p0.un.2.1.un.2.1,Jint p0.un.2.1.un.2.2.1,v1,Jint p0.un.2.2.1,Jint p0.un.2.2.2.1,v2]] w0 fun e w' => ∃ x : Value × Value,e = .returned (.agg #[Jint r.un.1,Jint r.un.2.1.un.1,Jint r.un.2.1.un.2.1,Jint r.un.2.1.un.2.2.1,x.1,Jint r.un.2.2.1,Jint r.un.2.2.2.1,x.2]) ∧ sy Y w0 [] [frz (x.1) Lp r.un.2.1.un.2.2.2,frz (x.2) Lz r.un.2.2.2.2] w' := by
 refine enter Tryz.func9 Aa Tryz.ntmps9 Aa fun a W => ?_
 have F := Stw.start Y w0
 obtain ⟨v3,h1,h_v1⟩ := h_v1.ex pB
 obtain ⟨v4,h2,h_v2⟩ := h_v2.ex vI
 unfold FH at H
 refine vc tk 2 W F fun a w W F => ?_
 refine IR (cs := (Tg p0 v1 v2)) W F Aa Aa Aa fun b1 a w W F => ?_
 refine Hb (cs := (W5)) W F Aa tJ Aa fun b2 a w W F => ?_
 refine LD tk 3 W F fun a w W F => ?_
 obtain ⟨x1,h3,H⟩ := BO H
 refine mF (fun a w => ∃ b3 : Nat, ∃ v5 : Value,Fr 34 [] [(0,.agg #[Jint p0.un.1,Jint p0.un.2.1.un.1,Jint p0.un.2.1.un.2.1,Jint p0.un.2.1.un.2.2.1,v1,Jint p0.un.2.2.1,Jint p0.un.2.2.2.1,v2]),(1,pp b1),(2,pp b2),(3,pp b3),(5,pp b1),(6,Jint p0.un.1),(7,.pointer (some ⟨b1,1,none⟩)),(8,.agg #[Jint p0.un.2.1.un.1,Jint p0.un.2.1.un.2.1,Jint p0.un.2.1.un.2.2.1,v1]),(9,.agg #[Jint x1.un.1,Jint x1.un.2.1,Jint x1.un.2.2.1,v5]),(10,.pointer (some ⟨b1,5,none⟩)),(11,Jint p0.un.2.2.1),(12,.pointer (some ⟨b1,6,none⟩)),(13,Jint p0.un.2.2.2.1),(14,.agg #[Jint p0.un.1,Jint x1.un.1,Jint x1.un.2.1,Jint x1.un.2.2.1,v5,Jint p0.un.2.2.1,Jint p0.un.2.2.2.1,.slice none 0 0])] a ∧ sy Y w0 (q6 b3 p0 x1 v5 b2 b1 v1 v2) [frz v5 Lp x1.un.2.2.2] w) ?_ ?_
 ·
  refine b9 (PT.st 0 (PT.st 1 (PT.st 2 (PT.st 3 (PT.st 5 (PT.st 6 (PT.st 7 (PT.st 8 (PT.alt 4 (PT.st 9 (PT.alt 10 (PT.alt 11 PT.done PT.stop) PT.stop)) (PT.alt 10 (PT.alt 4 (PT.st 9 (PT.alt 11 PT.done PT.stop)) PT.stop) PT.stop)))))))))) (CN ⟨Y,[],w0⟩ [(some 11,b1,[Jint p0.un.1,Jint p0.un.2.1.un.1,Jint p0.un.2.1.un.2.1,Jint p0.un.2.1.un.2.2.1,v1,Jint p0.un.2.2.1,Jint p0.un.2.2.2.1,v2]),(some 4,b1,[Jint p0.un.1,Jint p0.un.2.1.un.1,Jint p0.un.2.1.un.2.1,Jint p0.un.2.1.un.2.2.1,v1,Jint p0.un.2.2.1,Jint p0.un.2.2.2.1,v2])] []) (fun ch a d v w h => by cases d <;> exact h) MO (by kernel_rfl) F (fun w F => ⟨_,_,F,(all_cons (fun _ => (.tail _ (.head _))) (all_cons (fun _ => (.tail _ (.head _))) BS)),BS⟩) fun w F => ?_
  refine TG (R := []) W Aa Aa (yC fun M Z hN hZ => Cd aQ Aa Aa Aa T3 W Aa 0 Aa) Aa Aa fun a W => ?_
  refine TG (R := [11]) W Aa Aa (yC fun M Z hN hZ => EW (cs := (Tg p0 v1 v2)) (v := Jint p0.un.1) W Aa (hN ((some 11),b1,(Tg p0 v1 v2)) (.head _) Aa) T3 Aa) (by kernel_rfl) Aa fun a W => ?_
  refine TG (R := []) W Aa Aa (yC fun M Z hN hZ => Cd aQ Aa Aa Aa T24 W Aa 1 Aa) Aa Aa fun a W => ?_
  refine TG (R := [4]) W Aa Aa (yC fun M Z hN hZ => EW (cs := (Tg p0 v1 v2)) (v := Value.agg #[Jint p0.un.2.1.un.1,Jint p0.un.2.1.un.2.1,Jint p0.un.2.1.un.2.2.1,v1]) W Aa (hN ((some 4),b1,(Tg p0 v1 v2)) (.tail _ (.head _)) Aa) T24 Aa) (by kernel_rfl) Aa fun a W => ?_
  refine TG (R := []) W Aa Aa (yC fun M Z hN hZ => Cd aQ Aa Aa Aa T3 W Aa 5 Aa) Aa Aa fun a W => ?_
  refine TG (R := [11]) W Aa Aa (yC fun M Z hN hZ => EW (cs := (Tg p0 v1 v2)) (v := Jint p0.un.2.2.1) W Aa (hN ((some 11),b1,(Tg p0 v1 v2)) (.head _) Aa) T3 Aa) (by kernel_rfl) Aa fun a W => ?_
  refine TG (R := []) W Aa Aa (yC fun M Z hN hZ => Cd aQ Aa Aa Aa T3 W Aa 6 Aa) Aa Aa fun a W => ?_
  refine TG (R := [11]) W Aa Aa (yC fun M Z hN hZ => EW (cs := (Tg p0 v1 v2)) (v := Jint p0.un.2.2.2.1) W Aa (hN ((some 11),b1,(Tg p0 v1 v2)) (.head _) Aa) T3 Aa) (by kernel_rfl) Aa fun a W => ?_
  refine sF Aa ?_ ?_
  ·
   refine FK (Ml := []) (Zl := []) (β := Value) (rv := fun x => .agg #[Jint x1.un.1,Jint x1.un.2.1,Jint x1.un.2.2.1,x]) (MM := fun x => []) (ZZ := fun x => [frz x Lp x1.un.2.2.2]) W F H30 Aa Aa (fun hL => Ry _ w (v1) (f24 p0.un.2.1) _ h3 ((Ln pB h1 (Ek h_v1)) w F).nx) fun x a w W F => ?_
   obtain ⟨v5,rfl⟩ : ∃ y,y = x := ⟨x,rfl⟩
   have F : sy Y w0 (qO b2 b1 p0 v1 v2) [frz v5 Lp x1.un.2.2.2] w := F
   refine Ni (N2 := []) (NZ2 := []) (N3 := [(some 11,b1,[Jint p0.un.1,Jint p0.un.2.1.un.1,Jint p0.un.2.1.un.2.1,Jint p0.un.2.1.un.2.2.1,v1,Jint p0.un.2.2.1,Jint p0.un.2.2.2.1,v2]),(some 4,b1,[Jint p0.un.1,Jint p0.un.2.1.un.1,Jint p0.un.2.1.un.2.1,Jint p0.un.2.1.un.2.2.1,v1,Jint p0.un.2.2.1,Jint p0.un.2.2.2.1,v2])]) (NZ3 := []) F Aa Aa (all_cons (fun _ => (.tail _ (.head _))) (all_cons (fun h => Ch (by kernel_rfl) h) BS)) BS ?_
   refine TG (R := []) W Aa Aa (yC fun M Z hN hZ => IC (v := Value.agg #[Jint p0.un.1,Jint x1.un.1,Jint x1.un.2.1,Jint x1.un.2.2.1,v5,Jint p0.un.2.2.1,Jint p0.un.2.2.2.1,.slice none 0 0]) B41 W Aa (Ey Aa Aa Aa (Ey Aa Aa Aa (Ey Aa Aa Aa (Ey Aa Aa Aa MF)))) Aa) Aa Aa fun a W => ?_
   refine ZN Aa ?_
   refine Hb (cs := (W5)) W F Aa tJ Aa fun b3 a w W F => ?_
   refine Ni (N2 := []) (NZ2 := []) (N3 := [(some 11,b1,[Jint p0.un.1,Jint p0.un.2.1.un.1,Jint p0.un.2.1.un.2.1,Jint p0.un.2.1.un.2.2.1,v1,Jint p0.un.2.2.1,Jint p0.un.2.2.2.1,v2]),(some 4,b1,[Jint p0.un.1,Jint p0.un.2.1.un.1,Jint p0.un.2.1.un.2.1,Jint p0.un.2.1.un.2.2.1,v1,Jint p0.un.2.2.1,Jint p0.un.2.2.2.1,v2])]) (NZ3 := []) F Aa Aa (all_cons (fun _ => (.tail _ (.tail _ (.head _)))) (all_cons (fun h => Ch (by kernel_rfl) h) BS)) BS ?_
   refine ZN Aa ?_
   refine RC 0 W F Aa Aa Aa lZ Aa Aa (Bj Aa (Bj Aa (Bj Aa (Bj Aa (Bj (F.oneF (k := 0) Aa) (Bj Aa (Bj Aa (Bj Aa OP)))))))) fun w F => ?_
   refine Ni (N2 := []) (NZ2 := []) (N3 := [(some 11,b1,[Jint p0.un.1,Jint p0.un.2.1.un.1,Jint p0.un.2.1.un.2.1,Jint p0.un.2.1.un.2.2.1,v1,Jint p0.un.2.2.1,Jint p0.un.2.2.2.1,v2]),(some 4,b1,[Jint p0.un.1,Jint p0.un.2.1.un.1,Jint p0.un.2.1.un.2.1,Jint p0.un.2.1.un.2.2.1,v1,Jint p0.un.2.2.1,Jint p0.un.2.2.2.1,v2])]) (NZ3 := []) F Aa Aa (all_cons (fun h => Ch (by kernel_rfl) h) (all_cons (fun h => Ch (by kernel_rfl) h) BS)) BS ?_
   have F := F.frontM (i := 2) Aa Aa
   have F := F.frontM (i := 2) Aa Aa
   have F := F.frontM (i := 2) Aa Aa
   refine fN ?_
   exact ⟨b3,v5,W.ra Aa,F⟩
  refine sF Aa ?_ ?_
  ·
   refine Hb (cs := (W5)) W F Aa tJ Aa fun b3 a w W F => ?_
   refine Ni (N2 := []) (NZ2 := []) (N3 := [(some 11,b1,[Jint p0.un.1,Jint p0.un.2.1.un.1,Jint p0.un.2.1.un.2.1,Jint p0.un.2.1.un.2.2.1,v1,Jint p0.un.2.2.1,Jint p0.un.2.2.2.1,v2]),(some 4,b1,[Jint p0.un.1,Jint p0.un.2.1.un.1,Jint p0.un.2.1.un.2.1,Jint p0.un.2.1.un.2.2.1,v1,Jint p0.un.2.2.1,Jint p0.un.2.2.2.1,v2])]) (NZ3 := []) F Aa Aa (all_cons (fun _ => (.tail _ (.tail _ (.head _)))) (all_cons (fun _ => (.tail _ (.tail _ (.head _)))) BS)) BS ?_
   refine ZN Aa ?_
   refine FK (Ml := []) (Zl := []) (β := Value) (rv := fun x => .agg #[Jint x1.un.1,Jint x1.un.2.1,Jint x1.un.2.2.1,x]) (MM := fun x => []) (ZZ := fun x => [frz x Lp x1.un.2.2.2]) W F H30 Aa Aa (fun hL => Ry _ w (v1) (f24 p0.un.2.1) _ h3 ((Ln pB h1 (Ek h_v1)) w F).nx) fun x a w W F => ?_
   obtain ⟨v5,rfl⟩ : ∃ y,y = x := ⟨x,rfl⟩
   have F : sy Y w0 (oK b3 b2 b1 p0 v1 v2) [frz v5 Lp x1.un.2.2.2] w := F
   refine Ni (N2 := []) (NZ2 := []) (N3 := [(some 11,b1,[Jint p0.un.1,Jint p0.un.2.1.un.1,Jint p0.un.2.1.un.2.1,Jint p0.un.2.1.un.2.2.1,v1,Jint p0.un.2.2.1,Jint p0.un.2.2.2.1,v2]),(some 4,b1,[Jint p0.un.1,Jint p0.un.2.1.un.1,Jint p0.un.2.1.un.2.1,Jint p0.un.2.1.un.2.2.1,v1,Jint p0.un.2.2.1,Jint p0.un.2.2.2.1,v2])]) (NZ3 := []) F Aa Aa (all_cons (fun _ => (.tail _ (.tail _ (.head _)))) (all_cons (fun h => Ch (by kernel_rfl) h) BS)) BS ?_
   refine TG (R := []) W Aa Aa (yC fun M Z hN hZ => IC (v := Value.agg #[Jint p0.un.1,Jint x1.un.1,Jint x1.un.2.1,Jint x1.un.2.2.1,v5,Jint p0.un.2.2.1,Jint p0.un.2.2.2.1,.slice none 0 0]) B41 W Aa (Ey Aa Aa Aa (Ey Aa Aa Aa (Ey Aa Aa Aa (Ey Aa Aa Aa MF)))) Aa) Aa Aa fun a W => ?_
   refine ZN Aa ?_
   refine RC 0 W F Aa Aa Aa lZ Aa Aa (Bj Aa (Bj Aa (Bj Aa (Bj Aa (Bj (F.oneF (k := 0) Aa) (Bj Aa (Bj Aa (Bj Aa OP)))))))) fun w F => ?_
   refine Ni (N2 := []) (NZ2 := []) (N3 := [(some 11,b1,[Jint p0.un.1,Jint p0.un.2.1.un.1,Jint p0.un.2.1.un.2.1,Jint p0.un.2.1.un.2.2.1,v1,Jint p0.un.2.2.1,Jint p0.un.2.2.2.1,v2]),(some 4,b1,[Jint p0.un.1,Jint p0.un.2.1.un.1,Jint p0.un.2.1.un.2.1,Jint p0.un.2.1.un.2.2.1,v1,Jint p0.un.2.2.1,Jint p0.un.2.2.2.1,v2])]) (NZ3 := []) F Aa Aa (all_cons (fun h => Ch (by kernel_rfl) h) (all_cons (fun h => Ch (by kernel_rfl) h) BS)) BS ?_
   have F := F.frontM (i := 2) Aa Aa
   have F := F.frontM (i := 2) Aa Aa
   have F := F.frontM (i := 2) Aa Aa
   refine fN ?_
   exact ⟨b3,v5,W.ra Aa,F⟩
  exact trivial
 rintro a w ⟨b3,v5,W,F⟩
 refine BJ ?_
 obtain ⟨o1,G1,K1⟩ := BO H
 refine Hg (fun a w => ∃ x2 : List Tr41, ∃ v6 : Value,some (x2) = some o1 ∧ Fr 34 [] [(2,pp b2),(3,pp b3)] a ∧ sy Y w0 (N1 b3 p0 x1 v5 v6 b2 b1 v1 v2) [frz v5 Lp x1.un.2.2.2,row v6 41 Lz x2] w) ?_ ?_
 ·
  have H := G1
  clear G1 K1
  refine vc tk 6 W F fun a w W F => ?_
  have F := F.nilRow 41 Lz
  have F := F.frontZ (i := 1) Aa Aa
  have F := F.frontM (i := 2) Aa Aa
  have F := F.frontM (i := 2) Aa Aa
  have F := F.frontM (i := 2) Aa Aa
  refine J5 H (fun s a w => ∃ v7 : Value,Fr 34 [] [(1,pp b1),(2,pp b2),(3,pp b3),(4,Jint s.1)] a ∧ sy Y w0 (N1 b3 p0 x1 v5 v7 b2 b1 v1 v2) [frz v5 Lp x1.un.2.2.2,row v7 41 Lz s.2] w) ⟨(Value.slice none 0 0),W.ra Aa,F⟩ fun s o a w H L2 hR => ?_
  obtain ⟨x3,x4⟩ := s
  obtain ⟨v7,W,F⟩ := hR
  have W : Fr 34 [] [(1,pp b1),(2,pp b2),(3,pp b3),(4,Jint x3)] a := W
  have F : sy Y w0 (N1 b3 p0 x1 v5 v7 b2 b1 v1 v2) [frz v5 Lp x1.un.2.2.2,row v7 41 Lz x4] w := F
  rw [Es] at H
  refine bW tk 6 [2] W F (ai fun a w W F => ?_)
  refine ls W F Aa (Pe (r := bZ) (l := p0.un.2.2.2.2) xG Aa W Aa (Ln vI h2 (Ek h_v2))).q fun a w W F => ?_
  refine LD tk 3 W F fun a w W F => ?_
  refine Mg W Aa H (fun W H => ?_) fun W H => ?_
  ·
   refine tN tk 4 W F fun a w W F => ?_
   obtain ⟨v8,h4,F⟩ := F.exF Sg
   have F := F.frontZ (i := 1) Aa Aa
   obtain ⟨v9,h5,F⟩ := F.exR OZ
   refine SB [(true,0),(true,1),(true,2),(true,3),(true,4),(true,5),(true,6),(false,7),(false,8),(false,9),(true,10),(false,11)] (CN ⟨Y,[],w0⟩ [(some 9,b3,[Jint p0.un.1,Jint x1.un.1,Jint x1.un.2.1,Jint x1.un.2.2.1,v5,Jint p0.un.2.2.1,Jint p0.un.2.2.2.1,v7]),(some 7,b1,[Jint p0.un.1,Jint p0.un.2.1.un.1,Jint p0.un.2.1.un.2.1,Jint p0.un.2.1.un.2.2.1,v1,Jint p0.un.2.2.1,Jint p0.un.2.2.2.1,v2])] []) (fun ch a d v w h => by cases d <;> exact h) MO (by kernel_rfl) F (fun w F => ⟨_,_,F,(all_cons (fun _ => (.head _)) (all_cons (fun _ => (.tail _ (.tail _ (.head _)))) BS)),BS⟩) fun w F => ?_
   refine KU (R := []) W Aa Aa (yC fun M Z hN hZ => Cd jE Aa Aa Aa zG W Aa 7 Aa) Aa Aa fun a W => ?_
   refine KU (R := [9]) W Aa Aa (yC fun M Z hN hZ => EW (cs := (iU p0 x1 v5 v7)) (v := v7) W Aa (hN ((some 9),b3,(iU p0 x1 v5 v7)) (.head _) Aa) zG Aa) (by kernel_rfl) Aa fun a W => ?_
   refine KU (R := []) W Aa Aa (yC fun M Z hN hZ => Cd aQ Aa Aa Aa T25 W Aa 7 Aa) Aa Aa fun a W => ?_
   refine KU (R := [7,6,5]) W Aa Aa (yC fun M Z hN hZ => EW (cs := (Tg p0 v1 v2)) (v := v2) W Aa (hN ((some 7),b1,(Tg p0 v1 v2)) (.tail _ (.head _)) Aa) T25 Aa) (by kernel_rfl) Aa fun a W => ?_
   refine KU (R := []) W Aa Aa (yC fun M Z hN hZ => Gr W Aa) Aa Aa fun a W => ?_
   obtain ⟨x5,h6,H⟩ := BO H
   obtain ⟨v10,h7,h8⟩ := XD h2 h6
   have h9 : rJ v10 = [Jint x5.un.1,Jint x5.un.2.1.un.1,Jint x5.un.2.1.un.2.1,Jint x5.un.2.1.un.2.2.1,(v10.2.1.2.2.2.1),Jint x5.un.2.2.1,Jint x5.un.2.2.2.1,(v10.2.2.2.2.1)] := congrArg (fun q : Tr27 => ([Jint q.un.1,Jint q.un.2.1.un.1,Jint q.un.2.1.un.2.1,Jint q.un.2.1.un.2.2.1,(v10.2.1.2.2.2.1),Jint q.un.2.2.1,Jint q.un.2.2.2.1,(v10.2.2.2.2.1)] : List Value)) h8
   refine KU (R := []) W Aa Aa (yC fun M Z hN hZ => H2 (r := sK) L25 W Aa Aa (Ek h_v2) h7) Aa Aa fun a W => ?_
   refine KU (R := []) W Aa Aa (yC fun M Z hN hZ => Fq (y := Value.agg #[Jint x5.un.1,Jint x5.un.2.1.un.1,Jint x5.un.2.1.un.2.1,Jint x5.un.2.1.un.2.2.1,(v10.2.1.2.2.2.1),Jint x5.un.2.2.1,Jint x5.un.2.2.2.1,(v10.2.2.2.2.1)]) (j := 0) (i := x3) (enc := rJ) W Aa Aa (Ek h_v2) h7 zP T27 (by rw [h9]; rfl)) Aa Aa fun a W => ?_
   refine TN Aa ?_
   obtain ⟨x6,h10,H⟩ := BO H
   refine FK (Ml := []) (Zl := []) (β := Value × Value) (rv := fun x => .agg #[Jint x6.un.1,Jint x6.un.2.1.un.1,Jint x6.un.2.1.un.2.1,Jint x6.un.2.1.un.2.2.1,x.1,Jint x6.un.2.2.1,Jint x6.un.2.2.2.1,x.2]) (MM := fun x => []) (ZZ := fun x => [frz x.1 Lp x6.un.2.1.un.2.2.2,frz x.2 Lz x6.un.2.2.2.2]) W F H9 Aa Aa (fun hL => ih _ w ((v10.2.1.2.2.2.1)) ((v10.2.2.2.2.1)) (Tr27.of (x5.un.1,f24 x5.un.2.1,x5.un.2.2.1,x5.un.2.2.2.1,x5.un.2.2.2.2)) _ h10 ((PP (Ek h_v2) h7 (C9.snd (C9.fst (C9.snd (C9.snd (C9.snd C9.here))))) (congrArg (fun q : Tr27 => q.un.2.1.un.2.2.2) h8)) w F).nx ((PP (Ek h_v2) h7 (C9.snd (C9.snd (C9.snd (C9.snd C9.here)))) (congrArg (fun q : Tr27 => q.un.2.2.2.2) h8)) w F).nx) fun x a w W F => ?_
   obtain ⟨v11,v12⟩ := x
   have F : sy Y w0 (N1 b3 p0 x1 v5 v7 b2 b1 v1 v2) [frz v11 Lp x6.un.2.1.un.2.2.2,frz v12 Lz x6.un.2.2.2.2,row v7 41 cZ v9,frz v5 kS v8] w := F
   refine ID (N2 := []) (NZ2 := []) (N3 := [(some 9,b3,[Jint p0.un.1,Jint x1.un.1,Jint x1.un.2.1,Jint x1.un.2.2.1,v5,Jint p0.un.2.2.1,Jint p0.un.2.2.2.1,v7]),(some 7,b1,[Jint p0.un.1,Jint p0.un.2.1.un.1,Jint p0.un.2.1.un.2.1,Jint p0.un.2.1.un.2.2.1,v1,Jint p0.un.2.2.1,Jint p0.un.2.2.2.1,v2])]) (NZ3 := []) F Aa Aa (all_cons (fun _ => (.head _)) (all_cons (fun h => Ch (by kernel_rfl) h) BS)) BS ?_
   refine TN Aa ?_
   refine Ut (z := Value.agg #[Jint 0,Jint 0,Jint 0,Jint 0,.slice none 0 0,Jint 0,Jint 0,.slice none 0 0]) (cs := (RB x6 v11 v12)) Lz ([Tr41.of (x6.un.1,f38 x6.un.2.1,x6.un.2.2.1,x6.un.2.2.2.1,x6.un.2.2.2.2)] : List Tr41) W F Aa yY tJ Aa Aa Aa (Ey Aa Aa Aa MF) Aa Aa ⟨[Jint x6.un.1,Jint x6.un.2.1.un.1,Jint x6.un.2.1.un.2.1,Jint x6.un.2.1.un.2.2.1,v11,Jint x6.un.2.2.1,Jint x6.un.2.2.2.1,v12],_,Aa,(z6.2 ⟨[Jint x6.un.1],[Jint x6.un.2.1.un.1,Jint x6.un.2.1.un.2.1,Jint x6.un.2.1.un.2.2.1,v11,Jint x6.un.2.2.1,Jint x6.un.2.2.2.1,v12],Aa,Aa,⟨[Jint x6.un.2.1.un.1,Jint x6.un.2.1.un.2.1,Jint x6.un.2.1.un.2.2.1,v11],[Jint x6.un.2.2.1,Jint x6.un.2.2.2.1,v12],Aa,(z7.2 ⟨[Jint x6.un.2.1.un.1],[Jint x6.un.2.1.un.2.1,Jint x6.un.2.1.un.2.2.1,v11],Aa,Aa,⟨[Jint x6.un.2.1.un.2.1],[Jint x6.un.2.1.un.2.2.1,v11],Aa,Aa,⟨[Jint x6.un.2.1.un.2.2.1],[v11],Aa,Aa,⟨_,Aa,(F.item (i := 0) Aa)⟩⟩⟩⟩),⟨[Jint x6.un.2.2.1],[Jint x6.un.2.2.2.1,v12],Aa,Aa,⟨[Jint x6.un.2.2.2.1],[v12],Aa,Aa,⟨_,Aa,(F.item (i := 1) Aa)⟩⟩⟩⟩⟩),Aa⟩ fun v13 a w W F => ?_
   refine ID (N2 := []) (NZ2 := []) (N3 := [(some 9,b3,[Jint p0.un.1,Jint x1.un.1,Jint x1.un.2.1,Jint x1.un.2.2.1,v5,Jint p0.un.2.2.1,Jint p0.un.2.2.2.1,v7]),(some 7,b1,[Jint p0.un.1,Jint p0.un.2.1.un.1,Jint p0.un.2.1.un.2.1,Jint p0.un.2.1.un.2.2.1,v1,Jint p0.un.2.2.1,Jint p0.un.2.2.2.1,v2])]) (NZ3 := []) F Aa Aa (all_cons (fun _ => (.head _)) (all_cons (fun h => Ch (by kernel_rfl) h) BS)) BS ?_
   refine TN Aa ?_
   have F := F.frontZ (i := 3) Aa Aa
   have F := F.hideR OZ h5
   obtain ⟨x7,h11,H⟩ := BO H
   refine Ls (r := Lz) (i := 0) W F Aa yY Aa Aa Aa Aa (Re F 1 Aa) h11 Aa fun v14 a w W F => ?_
   have F : sy Y w0 (N1 b3 p0 x1 v5 v7 b2 b1 v1 v2) [row v14 41 Lz x7,row v13 41 Lz ([Tr41.of (x6.un.1,f38 x6.un.2.1,x6.un.2.2.1,x6.un.2.2.2.1,x6.un.2.2.2.2)] : List Tr41),frz v11 Lp x6.un.2.1.un.2.2.2,frz v12 Lz x6.un.2.2.2.2,frz v5 kS v8] w := F
   refine ID (N2 := []) (NZ2 := []) (N3 := [(some 9,b3,[Jint p0.un.1,Jint x1.un.1,Jint x1.un.2.1,Jint x1.un.2.2.1,v5,Jint p0.un.2.2.1,Jint p0.un.2.2.2.1,v7]),(some 7,b1,[Jint p0.un.1,Jint p0.un.2.1.un.1,Jint p0.un.2.1.un.2.1,Jint p0.un.2.1.un.2.2.1,v1,Jint p0.un.2.2.1,Jint p0.un.2.2.2.1,v2])]) (NZ3 := []) F Aa Aa (all_cons (fun h => Ch (by kernel_rfl) h) (all_cons (fun h => Ch (by kernel_rfl) h) BS)) BS ?_
   refine KU (R := []) W Aa Aa (yC fun M Z hN hZ => Cd jE Aa Aa Aa zG W Aa 7 Aa) Aa Aa fun a W => ?_
   refine TN Aa ?_
   refine fS (M' := (N1 b3 p0 x1 v5 v14 b2 b1 v1 v2)) 0 W F Aa Aa Aa zG (F.one (k := 0) Aa) Aa Aa fun w F => ?_
   refine ID (N2 := []) (NZ2 := []) (N3 := [(some 9,b3,[Jint p0.un.1,Jint x1.un.1,Jint x1.un.2.1,Jint x1.un.2.2.1,v5,Jint p0.un.2.2.1,Jint p0.un.2.2.2.1,v7]),(some 7,b1,[Jint p0.un.1,Jint p0.un.2.1.un.1,Jint p0.un.2.1.un.2.1,Jint p0.un.2.1.un.2.2.1,v1,Jint p0.un.2.2.1,Jint p0.un.2.2.2.1,v2])]) (NZ3 := []) F Aa Aa (all_cons (fun h => Ch (by kernel_rfl) h) (all_cons (fun h => Ch (by kernel_rfl) h) BS)) BS ?_
   refine XS (EK ?_)
   refine vn tk 5 W F fun a w W F => ?_
   refine BJ ?_
   have F := F.frontZ (i := 4) Aa Aa
   have F := F.hideF Sg h4
   have F := F.frontZ (i := 1) Aa Aa
   have F := F.frontZ (i := 1) Aa Aa
   have F := F.frontM (i := 2) Aa Aa
   have F := F.frontM (i := 2) Aa Aa
   have F := F.frontM (i := 2) Aa Aa
   have F := F.sub (M' := (N1 b3 p0 x1 v5 v14 b2 b1 v1 v2)) (Z' := [frz v5 Lp x1.un.2.2.2,row v14 41 Lz x7]) sr (sc (sc nl))
   exact ⟨_,H,(v14),W.ra Aa,F⟩
  refine HW ?_
  iterate 2 refine LQ ?_
  refine Ha (BJ ?_)
  have F := F.frontZ (i := 1) Aa Aa
  have F := F.frontZ (i := 1) Aa Aa
  have F := F.frontM (i := 2) Aa Aa
  have F := F.frontM (i := 2) Aa Aa
  have F := F.frontM (i := 2) Aa Aa
  have H := L2 _ H
  exact ⟨_,(v7),H,W.ra Aa,F⟩
 rintro a w ⟨x2,v6,hj,W,F⟩
 have hj := Gj hj
 subst hj
 have H := K1
 clear G1 K1
 refine bW tk 3 [0] W F (ai fun a w W F => ?_)
 refine RC 1 W F Aa Aa Aa lZ Aa Aa (Bj Aa (Bj Aa (Bj Aa (Bj Aa (Bj (F.oneF (k := 0) Aa) (Bj Aa (Bj Aa (Bj (F.one (k := 1) Aa) OP)))))))) fun w F => ?_
 refine LD tk 2 W F fun a w W F => ?_
 refine Ej ?_
 have H := Gj H
 subst H
 refine Ga (.inl Aa) W F Aa (Q4 1 W Aa Aa lZ Aa) ?_
 have F := F.frontZ (i := 1) Aa Aa
 have F := F.freeze
 have F := F.frontZ (i := 1) Aa Aa
 have F := F.sub (M' := []) (Z' := [frz v5 Lp x1.un.2.2.2,frz v6 Lz x2]) nl sr
 exact ⟨((v5),(v6)),Aa,F⟩
theorem Wq : ∀ (n : Nat) (Y : Nat → Prop) (w0 : World) (v1 : Value) (v2 : Value) (p0 : Tr27) (r : Tr41) (H : Fb n p0 = some r) (h_v1 : Sl w0 (NX []) aC v1 p0.un.2.1.un.2.2.2) (h_v2 : Sl w0 (NX []) bZ v2 p0.un.2.2.2.2),ca_ 9 #[.agg #[Jint p0.un.1,Jint p0.un.2.1.un.1,Jint p0.un.2.1.un.2.1,Jint p0.un.2.1.un.2.2.1,v1,Jint p0.un.2.2.1,Jint p0.un.2.2.2.1,v2]] w0 fun e w' => ∃ x : Value × Value,e = .returned (.agg #[Jint r.un.1,Jint r.un.2.1.un.1,Jint r.un.2.1.un.2.1,Jint r.un.2.1.un.2.2.1,x.1,Jint r.un.2.2.1,Jint r.un.2.2.2.1,x.2]) ∧ sy Y w0 [] [frz (x.1) Lp r.un.2.1.un.2.2.2,frz (x.2) Lz r.un.2.2.2.2] w' := by
  intro n
  induction n with
  | zero => intro Y w0 v1 v2 p0 r H; exact nomatch H
  | succ n ih => intro Y w0 v1 v2 p0 r H h_v1 h_v2; exact U5 (Fb n) ih Y w0 v1 v2 p0 r H h_v1 h_v2
theorem X2 (Y : Nat → Prop) (w0 : World) (v1 : Value) (v2 : Value) (p0 : Tr27) (r : Tr41) (H : MR p0 = some r) (h_v1 : Sl w0 (NX []) aC v1 p0.un.2.1.un.2.2.2) (h_v2 : Sl w0 (NX []) bZ v2 p0.un.2.2.2.2) :
    ca_ 9 #[.agg #[Jint p0.un.1,Jint p0.un.2.1.un.1,Jint p0.un.2.1.un.2.1,Jint p0.un.2.1.un.2.2.1,v1,Jint p0.un.2.2.1,Jint p0.un.2.2.2.1,v2]] w0 fun e w' => ∃ x : Value × Value,e = .returned (.agg #[Jint r.un.1,Jint r.un.2.1.un.1,Jint r.un.2.1.un.2.1,Jint r.un.2.1.un.2.2.1,x.1,Jint r.un.2.2.1,Jint r.un.2.2.2.1,x.2]) ∧ sy Y w0 [] [frz (x.1) Lp r.un.2.1.un.2.2.2,frz (x.2) Lz r.un.2.2.2.2] w' := by
  obtain ⟨n,H⟩ := Na H
  exact Wq n Y w0 v1 v2 p0 r H h_v1 h_v2
theorem k9 : KO (K9 fun x => MR x) 9 := KO.of ⟨fun args w => Bf Tryz.func9 rfl (by decide) args w⟩ rfl (fun _ => rfl) (fun _ => rfl) rfl (fun _ => rfl) (fun _ => rfl) (fun _ => rfl) (fun _ => rfl) fun Y w0 x r g H hg hk => (X2 Y w0 g.1 g.2.1 x r H hg.1 hg.2.1).mono fun e w' ⟨x,he,F⟩ => ⟨(x.1,(x.2,())),he,F⟩
def J6 (p0 : Int × (Int × Int × Int × Int) × (List Sq)) (p1 : Int) (p2 : Int × Int × Int × Int) : ((List Sq) × Int) → Option (((List Sq) × Int) ⊕ (List Sq))
  | (x2,x3) => (if x3 < (p0.2.2.length : Int) then (ix p0.2.2 x3).bind fun x4 => (D7 x4 p1 p2).bind fun x5 => (HU x2 ([x5] : List Sq)).bind fun x6 => some (.inl (x6,w64 (x3 + 1))) else some (.inr x2))
def Mw (p0 : Int × (Int × Int × Int × Int) × (List Sq)) (p1 : Int) (p2 : Int × Int × Int × Int) : Option (List Sq) := (Aj (J6 p0 p1 p2) ([],0)).bind fun x1 => (AF x1).bind fun x7 => some x7
abbrev K18 : Cn_ := ⟨[(.b true,[.d true nS]),DJ,TR],[QZ],[],false,fun x => Mw x.1 x.2.1 x.2.2,none⟩
theorem k18 : KO (K18) 18 := Ea (ct := (.q (.q (.j (.st false ⟨[(7,false,D6)],[],[]⟩) (.q (.b (.l ⟨[(7,false,D6),(13,false,AO)],[],[]⟩ .d))) .d)))) DW (AH nL (AH k36 BC)) Tryz.func18 (by kernel_rfl) fun x => by kernel_rfl
abbrev K17 : Cn_ := ⟨[QE,QE],[KP],[],false,fun x => AG x.1 x.2,none⟩
theorem k17 : KO (K17) 17 := Ea (ct := (.q (.q (.j (.st true ⟨[],[],[]⟩) (.q (.b (.l ⟨[(5,false,AO)],[],[]⟩ .d))) .d)))) DW BC Tryz.func17 (by kernel_rfl) fun x => by kernel_rfl
def IF (p0 : Tr27) (p1 : Int) (p2 : Int) (p3 : Int × Int × Int × Int) : Option Bool := ((M9 (Tr27.of (p0.un.1,f24 p0.un.2.1,p0.un.2.2.1,p0.un.2.2.2.1,p0.un.2.2.2.2))).bind fun x2 => (if (!x2) = true then some true else (Q3 (Tr27.of (p0.un.1,f24 p0.un.2.1,p0.un.2.2.1,p0.un.2.2.2.1,p0.un.2.2.2.2))).bind fun x3 => (if (!x3) = true then some true else (Jj p3).bind fun x4 => (if (!x4) = true then some true else (if p2 < 0 then some true else some (decide (7 < p2))))))).bind fun x1 => (if x1 = true then (Jp).bind fun x5 => some x5 else (MR (Tr27.of (p0.un.1,f24 p0.un.2.1,p0.un.2.2.1,p0.un.2.2.2.1,p0.un.2.2.2.2))).bind fun x6 => (Hm (Tr41.of (x6.un.1,f38 x6.un.2.1,x6.un.2.2.1,x6.un.2.2.2.1,x6.un.2.2.2.2)) p1).bind fun x7 => (HD x7.1 p2 p3).bind fun x8 => (if (decide (x7.2 ≠ 0) || (decide (x8 < 0) || decide ((x7.1.length : Int) ≤ x8))) = true then some false else ((ix x7.1 x8).bind fun x10 => (Mw x10 p2 p3).bind fun x11 => (MR (Tr27.of (p0.un.1,f24 p0.un.2.1,p0.un.2.2.1,p0.un.2.2.2.1,p0.un.2.2.2.2))).bind fun x12 => (Gq (Tr41.of (x12.un.1,f38 x12.un.2.1,x12.un.2.2.1,x12.un.2.2.2.1,x12.un.2.2.2.2)) p1 p2 p3).bind fun x13 => (AG x11 x13).bind fun x14 => (if x14 = true then (Jp).bind fun x15 => some x15 else some false)).bind fun x9 => some x9))
abbrev K4 : Cn_ := ⟨[T6,DJ,DJ,TR],[KP],[],false,fun x => IF x.1 x.2.1 x.2.2.1 x.2.2.2,none⟩
theorem k4 : KO (K4) 4 := Ea (ct := (.q (.s (.j (.st false ⟨[(32,false,Ez)],[],[]⟩) .d .d) (.q (.q (.s (.j (.bl [56]) .d .d) (.j (.st false ⟨[(8,false,Ez)],[],[]⟩) .d .d))))))) DW (AH k15 (AH k6 (AH k16 (AH k19 (AH k8 (AH k13 (AH k7 (AH k9 (AH k18 (AH k17 BC)))))))))) Tryz.func4 (by kernel_rfl) fun x => by kernel_rfl
theorem QJ (Y : Nat → Prop) (w0 : World) (v1 : Value) (v2 : Value) (p0 : Tr27) (p1 : Int) (p2 : Int) (p3 : Int × Int × Int × Int) (r : Bool) (H : IF p0 p1 p2 p3 = some r) (h_v1 : Sl w0 (NX []) aC v1 p0.un.2.1.un.2.2.2) (h_v2 : Sl w0 (NX []) bZ v2 p0.un.2.2.2.2) :
    ca_ 4 #[.agg #[Jint p0.un.1,Jint p0.un.2.1.un.1,Jint p0.un.2.1.un.2.1,Jint p0.un.2.1.un.2.2.1,v1,Jint p0.un.2.2.1,Jint p0.un.2.2.2.1,v2],Jint p1,Jint p2,.agg #[Jint p3.1,Jint p3.2.1,Jint p3.2.2.1,Jint p3.2.2.2]] w0 fun e w' => e = .returned (.bool r) ∧ Below w0.heap.size w0 w' := k4.outP (Y := Y) (x := (p0,p1,p2,p3)) H rfl rfl rfl rfl rfl (v1,(v2,())) ⟨h_v1,⟨h_v2,trivial⟩⟩ rfl trivial fun _ => rfl
end
end Go.Proofs.YtkhiflmalgkjiaaGreat
