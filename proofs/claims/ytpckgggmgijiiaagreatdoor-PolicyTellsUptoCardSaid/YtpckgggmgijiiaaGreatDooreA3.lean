/- The functions of layer 27, O7. Conditions: none. -/
import Derived.Test.YtpckgggmgijiiaaGreatDooreA2
namespace Go.Proofs.YtpckgggmgijiiaaGreatDoor
noncomputable section
open Go Go.RowKit
set_option linter.unusedVariables false
set_option linter.unusedSimpArgs false
set_option maxRecDepth 20000
set_option maxHeartbeats 1600000
def GP (fRec : Tr27 → Int → Int → Option Bool) (p0 : Tr27) (p1 : Int) (p2 : Int) : Int → Option (Int ⊕ (Unit ⊕ Bool))
  | x5 => (if x5 < (p0.un.2.2.2.2.length : Int) then (ix p0.un.2.2.2.2 x5).bind fun x6 => (fRec (Tr27.of (x6.un.1,f24 x6.un.2.1,x6.un.2.2.1,x6.un.2.2.2.1,x6.un.2.2.2.2)) p1 p2).bind fun x7 => (if x7 = true then some (.inr (.inr true)) else some (.inl (Aq (x5 + 1)))) else some (.inr (.inl ())))
def GV (fRec : Tr27 → Int → Int → Option Bool) (p0 : Tr27) (p1 : Int) (p2 : Int) : Option Bool := (if p0.un.1 = 2 then (if p0.un.2.2.1 = p1 then (if p0.un.2.2.2.1 = p2 then some true else (LE (f24 p0.un.2.1) p1 p2).bind fun x2 => some x2) else (LE (f24 p0.un.2.1) p1 p2).bind fun x3 => some x3) else (LE (f24 p0.un.2.1) p1 p2).bind fun x4 => some x4).bind fun x1 => (if x1 = true then some true else Hw (Af (GP fRec p0 p1 p2) 0) fun _ => some false)
def Gg : Nat → Tr27 → Int → Int → Option Bool
  | 0 => fun _ _ _ => none
  | n + 1 => GV (Gg n)
def UH (p0 : Tr27) (p1 : Int) (p2 : Int) : Option Bool := E2 fun n => Gg n p0 p1 p2
theorem k52 : KO (K52 fun x => UH x.1 x.2.1 x.2.2) 52 := Nq (E := te) (xs := gY) (ys := p9) (bs := []) (io := false) (nn := fun n x => Gg n x.1 x.2.1 x.2.2) (st := fun g x => GV (fun yp0 yp1 yp2 => g (yp0,yp1,yp2)) x.1 x.2.1 x.2.2) Tryz.func52 rfl (by kernel_rfl) (fun _ => rfl) (fun _ => rfl) fun g hg => E0 (ct := (.q (.s (.j (.st false ⟨[(29,false,FX)],[],[]⟩) .d .d) (.j (.st true ⟨[],[],[]⟩) (.q (.b (.l ⟨[(7,false,AZ)],[],[]⟩ .d))) .d)))) En (AJ hg (AJ k81 BN)) Tryz.func52 (by kernel_rfl) fun x => by kernel_rfl
def GH (p0 : Tr27) (p1 : Int) : (List Int × Int) → Option ((List Int × Int) ⊕ (List Int))
  | (x2,x3) => (if x3 ≤ (CF p1) then ((UH (Tr27.of (p0.un.1,f24 p0.un.2.1,p0.un.2.2.1,p0.un.2.2.2.1,p0.un.2.2.2.2)) p1 x3).bind fun x5 => (if x5 = true then (Dg x2 ([x3] : List Int)).bind fun x6 => some x6 else some x2)).bind fun x4 => some (.inl (x4,Aq (x3 + 1))) else some (.inr x2))
def KQ (p0 : Tr27) (p1 : Int) : Option (List Int) := (Af (GH p0 p1) ([],0)).bind fun x1 => some x1
abbrev K24 : Cn_ := ⟨[Xp,EZ],[WT],[],false,fun x => KQ x.1 x.2,none⟩
theorem k24 : KO (K24) 24 := E0 (ct := (.q (.q (.j (.st false ⟨[(5,false,UT)],[],[]⟩) (.q (.b (.l ⟨[(5,false,UT),(6,false,AZ)],[],[]⟩ (.q (.j (.st false ⟨[(5,false,UT)],[],[]⟩) .d .d))))) .d)))) En (AJ vQ (AJ k52 BN)) Tryz.func24 (by kernel_rfl) fun x => by kernel_rfl
def Jk (p0 : List Int) (p1 : List Int) : Int → Option (Int ⊕ (Unit ⊕ Bool))
  | x1 => (if x1 < (p0.length : Int) then (ix p0 x1).bind fun x2 => (ix p1 x1).bind fun x3 => (if x2 ≠ x3 then some (.inr (.inr false)) else some (.inl (Aq (x1 + 1)))) else some (.inr (.inl ())))
def ND (p0 : List Int) (p1 : List Int) : Option Bool := (if (p0.length : Int) ≠ (p1.length : Int) then some false else Hw (Af (Jk p0 p1) 0) fun _ => some true)
abbrev K22 : Cn_ := ⟨[bX,bX],[Lf],[],false,fun x => ND x.1 x.2,none⟩
theorem k22 : KO (K22) 22 := E0 (ct := (.q (.q (.j (.st true ⟨[],[],[]⟩) (.q (.b (.l ⟨[(5,false,AZ)],[],[]⟩ .d))) .d)))) En BN Tryz.func22 (by kernel_rfl) fun x => by kernel_rfl
def Ki (p0 : Int) : Option lb_ := (ix ([([115,114,99] : lb_),([100,115,116] : lb_),([107,105,110,100] : lb_),([116,97,103] : lb_),([112,111,114,116] : lb_),([115,119,105,116,99,104] : lb_)] : List lb_) p0).bind fun x1 => some x1
abbrev K60 : Cn_ := ⟨[EZ],[P2],[],false,fun x => Ki x,none⟩
theorem k60 : KO (K60) 60 := E0 (ct := .d) En BN Tryz.func60 (by kernel_rfl) fun x => by kernel_rfl
theorem zH : type_of% Tryz.underlying9 := Tryz.underlying9
theorem uT : Has Tryz.prog 61 := Ik Tryz.func61
def HV (fRec : Int → Option lb_) (p0 : Int) : Option lb_ := (if p0 < 0 then (if (-10) < p0 then (fRec (Aq (0 - p0))).bind fun x1 => (Dg ([45] : lb_) x1).bind fun x2 => some x2 else (fRec (Aq (0 - (Aq (Int.tdiv p0 10))))).bind fun x3 => (Dg ([45] : lb_) x3).bind fun x4 => (fRec (Aq (0 - (Int.tmod p0 10)))).bind fun x5 => (Dg x4 x5).bind fun x6 => some x6) else (if p0 < 10 then (K0 ([48,49,50,51,52,53,54,55,56,57] : lb_) p0 (Aq (p0 + 1))).bind fun x7 => some x7 else (fRec (Aq (Int.tdiv p0 10))).bind fun x8 => (K0 ([48,49,50,51,52,53,54,55,56,57] : lb_) (Int.tmod p0 10) (Aq ((Int.tmod p0 10) + 1))).bind fun x9 => (Dg x8 x9).bind fun x10 => some x10))
def Hs : Nat → Int → Option lb_
  | 0 => fun _ => none
  | n + 1 => HV (Hs n)
def HB (p0 : Int) : Option lb_ := E2 fun n => Hs n p0
theorem Rs (fRec : Int → Option lb_) (ih : ∀ (Y : Nat → Prop) (w0 : World)  (p0 : Int) (r : lb_) (H : fRec p0 = some r) (hG : Gk [] w0),ca_ 61 #[Jint p0] w0 fun e w' => e = .returned (.string (bs r)) ∧ Below w0.heap.size w0 w') (Y : Nat → Prop) (w0 : World)  (p0 : Int) (r : lb_) (H : HV fRec p0 = some r) (hG : Gk [] w0) :
    ca_ 61 #[Jint p0] w0 fun e w' => e = .returned (.string (bs r)) ∧ Below w0.heap.size w0 w' := by
 refine enter Tryz.func61 Aa Tryz.ntmps61 Aa fun a F => ?_
 have W := Stw.start Y w0
 unfold HV at H
 refine vc tk 2 F W fun a w F W => ?_
 refine ls F W Aa (Ku (v := Value.string (bs ([] : lb_))) F Aa).q fun a w F W => ?_
 refine Lg tk 9 F W fun a w F W => ?_
 refine Ia F Aa H (fun F H => ?_) fun F H => ?_
 ·
  refine vc tk 7 F W fun a w F W => ?_
  refine Ia F Aa H (fun F H => ?_) fun F H => ?_
  ·
   refine vc tk 4 F W fun a w F W => ?_
   obtain ⟨x1,h1,H⟩ := A1 H
   refine ls F W Aa (EP (v := Value.string (bs x1)) F uT Aa (fun w W => ih any w (Aq (0 - p0)) _ h1 (hG.go0 W))) fun a w F W => ?_
   obtain ⟨x2,h2,H⟩ := A1 H
   refine ls F W Aa (Rc (l := ([45] : lb_)) (m := x1) F Aa Aa h2).q fun a w F W => ?_
   refine Lg tk 3 F W fun a w F W => ?_
   refine Cq ?_
   iterate 2 refine DY ?_
   have H := DR H
   subst H
   refine Dr (.inl Aa) F W Aa (CH F Aa) ?_
   exact ⟨rfl,W.done⟩
  refine W1 tk 5 F W fun a w F W => ?_
  refine ls F W Aa (d9 F Aa Aa (by decide) Aa).q fun a w F W => ?_
  refine ls F W Aa (YT F Aa Aa Aa).q fun a w F W => ?_
  obtain ⟨x3,h3,H⟩ := A1 H
  refine ls F W Aa (EP (v := Value.string (bs x3)) F uT Aa (fun w W => ih any w (Aq (0 - (Aq (Int.tdiv p0 10)))) _ h3 (hG.go0 W))) fun a w F W => ?_
  obtain ⟨x4,h4,H⟩ := A1 H
  refine ls F W Aa (Rc (l := ([45] : lb_)) (m := x3) F Aa Aa h4).q fun a w F W => ?_
  refine ls F W Aa (C1 F Aa).q fun a w F W => ?_
  refine ls F W Aa (XM F Aa Aa (by decide) Aa).q fun a w F W => ?_
  refine ls F W Aa (YT F Aa Aa Aa).q fun a w F W => ?_
  obtain ⟨x5,h5,H⟩ := A1 H
  refine ls F W Aa (EP (v := Value.string (bs x5)) F uT Aa (fun w W => ih any w (Aq (0 - (Int.tmod p0 10))) _ h5 (hG.go0 W))) fun a w F W => ?_
  obtain ⟨x6,h6,H⟩ := A1 H
  refine ls F W Aa (Rc (l := x4) (m := x5) F Aa Aa h6).q fun a w F W => ?_
  refine Lg tk 3 F W fun a w F W => ?_
  refine Cq (DY ?_)
  have H := DR H
  subst H
  refine Dr (.inl Aa) F W Aa (CH F Aa) ?_
  exact ⟨rfl,W.done⟩
 refine W1 tk 9 F W fun a w F W => ?_
 refine Ia F Aa H (fun F H => ?_) fun F H => ?_
 ·
  refine vc tk 5 F W fun a w F W => ?_
  obtain ⟨x7,h7,H⟩ := A1 H
  refine ls F W Aa (QQ (l := ([48,49,50,51,52,53,54,55,56,57] : lb_)) zH F Aa Aa Aa h7).q fun a w F W => ?_
  refine Lg tk 3 F W fun a w F W => ?_
  refine Cq (DY ?_)
  have H := DR H
  subst H
  refine Dr (.inl Aa) F W Aa (CH F Aa) ?_
  exact ⟨rfl,W.done⟩
 refine W1 tk 3 F W fun a w F W => ?_
 refine HK W MO (by kernel_rfl) ?_
 refine qs F Aa (C1 F Aa).q fun a F => ?_
 refine qs F Aa (d9 F Aa Aa (by decide) Aa).q fun a F => ?_
 obtain ⟨x8,h8,H⟩ := A1 H
 refine qs F Aa (EP (v := Value.string (bs x8)) F uT Aa (fun w W => ih any w (Aq (Int.tdiv p0 10)) _ h8 (hG.go0 W))) fun a F => ?_
 refine qs F Aa (C1 F Aa).q fun a F => ?_
 refine qs F Aa (XM F Aa Aa (by decide) Aa).q fun a F => ?_
 refine qs F Aa (C1 F Aa).q fun a F => ?_
 refine qs F Aa (XM F Aa Aa (by decide) Aa).q fun a F => ?_
 refine qs F Aa (aK F Aa Aa Aa).q fun a F => ?_
 obtain ⟨x9,h9,H⟩ := A1 H
 refine qs F Aa (QQ (l := ([48,49,50,51,52,53,54,55,56,57] : lb_)) zH F Aa Aa Aa h9).q fun a F => ?_
 obtain ⟨x10,h10,H⟩ := A1 H
 refine qs F Aa (Rc (l := x8) (m := x9) F Aa Aa h10).q fun a F => ?_
 refine qs F Aa (Ku F Aa).q fun a F => ?_
 refine D7 fun w W => ?_
 refine Al (Cq ?_)
 have H := DR H
 subst H
 refine Dr (.inl Aa) F W Aa (CH F Aa) ?_
 exact ⟨rfl,W.done⟩
theorem Sk : ∀ (n : Nat) (Y : Nat → Prop) (w0 : World)  (p0 : Int) (r : lb_) (H : Hs n p0 = some r) (hG : Gk [] w0),ca_ 61 #[Jint p0] w0 fun e w' => e = .returned (.string (bs r)) ∧ Below w0.heap.size w0 w' := by
  intro n
  induction n with
  | zero => intro Y w0  p0 r H; exact nomatch H
  | succ n ih => intro Y w0  p0 r H hG; exact Rs (Hs n) ih Y w0  p0 r H hG
theorem Ub (Y : Nat → Prop) (w0 : World)  (p0 : Int) (r : lb_) (H : HB p0 = some r) (hG : Gk [] w0) :
    ca_ 61 #[Jint p0] w0 fun e w' => e = .returned (.string (bs r)) ∧ Below w0.heap.size w0 w' := by
  obtain ⟨n,H⟩ := Ks H
  exact Sk n Y w0  p0 r H hG
theorem zI : KO (K61 fun x => HB x) 61 := KO.of ⟨fun args w => AN Tryz.func61 rfl (by decide) args w⟩ rfl (fun _ => rfl) (fun _ => rfl) rfl (fun _ => rfl) (fun _ => rfl) (fun _ => rfl) (fun _ => rfl) fun Y w0 x r g H hg hk => (Ub Y w0  x r H hk).mono fun e w' h => ⟨(),h.1,Stw.ofB h.2⟩
def C0 (fRec : Tr24 → Option lb_) (p0 : Tr24) (x5 : lb_) : (lb_ × Int) → Option ((lb_ × Int) ⊕ lb_)
  | (x7,x8) => (if x8 < (p0.un.2.2.2.length : Int) then (ix p0.un.2.2.2 x8).bind fun x9 => (fRec x9).bind fun x10 => ((ix p0.un.2.2.2 x8).bind fun x12 => (if 4 < x12.un.1 then (Dg ([40] : lb_) x10).bind fun x13 => (Dg x13 ([41] : lb_)).bind fun x14 => some x14 else some x10)).bind fun x11 => (if 0 < x8 then (Dg x7 x5).bind fun x16 => some x16 else some x7).bind fun x15 => (Dg x15 x11).bind fun x17 => some (.inl (x17,Aq (x8 + 1))) else some (.inr x7))
def EF (fRec : Tr24 → Option lb_) (p0 : Tr24) : Option lb_ := (if p0.un.1 = 1 then some ([116,114,117,101] : lb_) else (if p0.un.1 = 2 then some ([102,97,108,115,101] : lb_) else (if p0.un.1 = 3 then (Ki p0.un.2.1).bind fun x1 => (Dg x1 ([32,61,32] : lb_)).bind fun x2 => (HB p0.un.2.2.1).bind fun x3 => (Dg x2 x3).bind fun x4 => some x4 else (if p0.un.1 = 5 then some ([32,97,110,100,32] : lb_) else some ([32,111,114,32] : lb_)).bind fun x5 => (Af (C0 fRec p0 x5) (([] : lb_),0)).bind fun x6 => (if p0.un.1 = 4 then (Dg ([110,111,116,32] : lb_) x6).bind fun x18 => some x18 else some x6))))
def DQ : Nat → Tr24 → Option lb_
  | 0 => fun _ => none
  | n + 1 => EF (DQ n)
def Om (p0 : Tr24) : Option lb_ := E2 fun n => DQ n p0
def KN (fRec : Tr24 → Option lb_) (p0 : Tr24) (x5 : lb_) : (lb_ × Int) → Option ((lb_ × Int) ⊕ lb_)
  | (x7,x8) => (if x8 < (p0.un.2.2.2.length : Int) then (ix p0.un.2.2.2 x8).bind fun x9 => (fRec (f24 x9)).bind fun x10 => ((ix p0.un.2.2.2 x8).bind fun x12 => (if 4 < x12.un.1 then (Dg ([40] : lb_) x10).bind fun x13 => (Dg x13 ([41] : lb_)).bind fun x14 => some x14 else some x10)).bind fun x11 => (if 0 < x8 then (Dg x7 x5).bind fun x16 => some x16 else some x7).bind fun x15 => (Dg x15 x11).bind fun x17 => some (.inl (x17,Aq (x8 + 1))) else some (.inr x7))
theorem Sy : @KN = @C0 := by
 unfold KN C0
 simp only [Tr24.re_eq]
def N1 (fRec : Tr24 → Option lb_) (p0 : Tr24) : Option lb_ := (if p0.un.1 = 1 then some ([116,114,117,101] : lb_) else (if p0.un.1 = 2 then some ([102,97,108,115,101] : lb_) else (if p0.un.1 = 3 then (Ki p0.un.2.1).bind fun x1 => (Dg x1 ([32,61,32] : lb_)).bind fun x2 => (HB p0.un.2.2.1).bind fun x3 => (Dg x2 x3).bind fun x4 => some x4 else (if p0.un.1 = 5 then some ([32,97,110,100,32] : lb_) else some ([32,111,114,32] : lb_)).bind fun x5 => (Af (KN fRec p0 x5) (([] : lb_),0)).bind fun x6 => (if p0.un.1 = 4 then (Dg ([110,111,116,32] : lb_) x6).bind fun x18 => some x18 else some x6))))
theorem So : @N1 = @EF := by
 unfold N1 EF
 simp only [Sy]
theorem k59 : KO (K59 fun x => Om x) 59 := Nq (E := te) (xs := g8) (ys := oJ) (bs := []) (io := false) (nn := fun n x => DQ n x) (st := fun g x => EF g x) Tryz.func59 rfl (by kernel_rfl) (fun _ => rfl) (fun _ => rfl) fun g hg => E0 (ct := (.q (.q (.q (.q (.q (.j (.st false ⟨[(3,false,N6)],[],[]⟩) .d (.q (.j (.st false ⟨[(4,false,N6)],[],[]⟩) (.q (.b (.l ⟨[(4,false,N6),(5,false,AZ)],[],[]⟩ (.q (.s (.b (.q (.j (.st false ⟨[(6,false,N6)],[],[]⟩) .d (.j (.st false ⟨[(4,false,N6)],[],[]⟩) .d .d)))) .d))))) .d))))))))) En (AJ hg (AJ k60 (AJ zI BN))) Tryz.func59 (by kernel_rfl) fun x => by rw [← So]; kernel_rfl
def CL (fRec : Tr27 → Option lb_) (p0 : Tr27) (x9 : lb_) : (lb_ × Int) → Option ((lb_ × Int) ⊕ lb_)
  | (x14,x15) => (if x15 < (p0.un.2.2.2.2.length : Int) then (ix p0.un.2.2.2.2 x15).bind fun x16 => (fRec (Tr27.of (x16.un.1,f24 x16.un.2.1,x16.un.2.2.1,x16.un.2.2.2.1,x16.un.2.2.2.2))).bind fun x17 => ((ix p0.un.2.2.2.2 x15).bind fun x19 => (if 2 < x19.un.1 then (Dg ([40] : lb_) x17).bind fun x20 => (Dg x20 ([41] : lb_)).bind fun x21 => some x21 else some x17)).bind fun x18 => (if 0 < x15 then (Dg x14 x9).bind fun x23 => some x23 else some x14).bind fun x22 => (Dg x22 x18).bind fun x24 => some (.inl (x24,Aq (x15 + 1))) else some (.inr x14))
def Gd (fRec : Tr27 → Option lb_) (p0 : Tr27) : Option lb_ := (if (decide (p0.un.1 = 1) && decide (p0.un.2.1.un.1 = 1)) = true then some ([105,100] : lb_) else (if (decide (p0.un.1 = 1) && decide (p0.un.2.1.un.1 = 2)) = true then some ([100,114,111,112] : lb_) else (if p0.un.1 = 1 then (Om (f24 p0.un.2.1)).bind fun x1 => (Dg ([119,104,101,110,32] : lb_) x1).bind fun x2 => some x2 else (if p0.un.1 = 2 then (Ki p0.un.2.2.1).bind fun x3 => (Dg x3 ([32,58,61,32] : lb_)).bind fun x4 => (HB p0.un.2.2.2.1).bind fun x5 => (Dg x4 x5).bind fun x6 => some x6 else (if p0.un.1 = 4 then some ([32,124,32] : lb_) else some ([59,32] : lb_)).bind fun x7 => (if p0.un.1 = 5 then (Om (f24 p0.un.2.1)).bind fun x10 => (Dg ([105,102,32] : lb_) x10).bind fun x11 => (Dg x11 ([32,116,104,101,110,32] : lb_)).bind fun x12 => some (x12,([32,101,108,115,101,32] : lb_)) else some (([] : lb_),x7)).bind fun (x8,x9) => (Af (CL fRec p0 x9) (x8,0)).bind fun x13 => some x13))))
def CX : Nat → Tr27 → Option lb_
  | 0 => fun _ => none
  | n + 1 => Gd (CX n)
def R6 (p0 : Tr27) : Option lb_ := E2 fun n => CX n p0
theorem k26 : KO (K26 fun x => R6 x) 26 := Nq (E := te) (xs := iE) (ys := oR) (bs := []) (io := false) (nn := fun n x => CX n x) (st := fun g x => Gd g x) Tryz.func26 rfl (by kernel_rfl) (fun _ => rfl) (fun _ => rfl) fun g hg => E0 (ct := (.q (.s (.j (.bl [15]) .d .d) (.s (.j (.bl [24]) .d .d) (.q (.q (.q (.j (.st false ⟨[(4,false,N6)],[],[]⟩) .d (.j (.st false ⟨[(3,false,N6),(4,false,N6)],[],[]⟩) .d (.j (.st false ⟨[(3,false,N6)],[],[]⟩) (.q (.b (.l ⟨[(3,false,N6),(5,false,AZ)],[],[]⟩ (.q (.s (.b (.q (.j (.st false ⟨[(6,false,N6)],[],[]⟩) .d (.j (.st false ⟨[(3,false,N6)],[],[]⟩) .d .d)))) .d))))) .d)))))))))) En (AJ hg (AJ k60 (AJ zI (AJ k59 BN)))) Tryz.func26 (by kernel_rfl) fun x => by kernel_rfl
def GL (p0 : Tr27) (p1 : Tr27) (p2 : Int) (p3 : Int) (p4 : Int × Int × Int × Int) (p5 : Int) : Option Bool := ((Mu (Tr27.of (p0.un.1,f24 p0.un.2.1,p0.un.2.2.1,p0.un.2.2.2.1,p0.un.2.2.2.2))).bind fun x2 => (if 150 < x2 then some true else (Mu (Tr27.of (p1.un.1,f24 p1.un.2.1,p1.un.2.2.1,p1.un.2.2.2.1,p1.un.2.2.2.2))).bind fun x3 => some (decide (150 < x3)))).bind fun x1 => (if x1 = true then (G9).bind fun x4 => some x4 else (LM (Tr27.of (p0.un.1,f24 p0.un.2.1,p0.un.2.2.1,p0.un.2.2.2.1,p0.un.2.2.2.2))).bind fun x5 => ((DE (Tr37.of (x5.un.1,f34 x5.un.2.1,x5.un.2.2.1,x5.un.2.2.2.1,x5.un.2.2.2.2))).bind fun x7 => (Ke (Tr27.of (p0.un.1,f24 p0.un.2.1,p0.un.2.2.1,p0.un.2.2.2.1,p0.un.2.2.2.2))).bind fun x8 => (if x7 ≠ x8 then some true else (LF (Tr37.of (x5.un.1,f34 x5.un.2.1,x5.un.2.2.1,x5.un.2.2.2.1,x5.un.2.2.2.2))).bind fun x9 => (N5 (Tr27.of (p0.un.1,f24 p0.un.2.1,p0.un.2.2.1,p0.un.2.2.2.1,p0.un.2.2.2.2))).bind fun x10 => (if x9 ≠ x10 then some true else (LI (Tr37.of (x5.un.1,f34 x5.un.2.1,x5.un.2.2.1,x5.un.2.2.2.1,x5.un.2.2.2.2))).bind fun x11 => (Oc (Tr27.of (p0.un.1,f24 p0.un.2.1,p0.un.2.2.1,p0.un.2.2.2.1,p0.un.2.2.2.2))).bind fun x12 => (if x11 ≠ x12 then some true else (EA (Tr37.of (x5.un.1,f34 x5.un.2.1,x5.un.2.2.1,x5.un.2.2.2.1,x5.un.2.2.2.2))).bind fun x13 => (Ns (Tr27.of (p0.un.1,f24 p0.un.2.1,p0.un.2.2.1,p0.un.2.2.2.1,p0.un.2.2.2.2))).bind fun x14 => (if x13 ≠ x14 then some true else (LM (Tr27.of (p1.un.1,f24 p1.un.2.1,p1.un.2.2.1,p1.un.2.2.2.1,p1.un.2.2.2.2))).bind fun x15 => (LO (Tr37.of (x5.un.1,f34 x5.un.2.1,x5.un.2.2.1,x5.un.2.2.2.1,x5.un.2.2.2.2)) (Tr37.of (x15.un.1,f34 x15.un.2.1,x15.un.2.2.1,x15.un.2.2.2.1,x15.un.2.2.2.2))).bind fun x16 => (Sf (Tr27.of (p0.un.1,f24 p0.un.2.1,p0.un.2.2.1,p0.un.2.2.2.1,p0.un.2.2.2.2)) (Tr27.of (p1.un.1,f24 p1.un.2.1,p1.un.2.2.1,p1.un.2.2.2.1,p1.un.2.2.2.2))).bind fun x17 => some (decide (x16 ≠ x17))))))).bind fun x6 => (if x6 = true then some false else (Ke (Tr27.of (p0.un.1,f24 p0.un.2.1,p0.un.2.2.1,p0.un.2.2.2.1,p0.un.2.2.2.2))).bind fun x18 => (if (!x18) = true then (G9).bind fun x19 => some x19 else ((ER (Tr37.of (x5.un.1,f34 x5.un.2.1,x5.un.2.2.1,x5.un.2.2.2.1,x5.un.2.2.2.2)) p2 p3 p4).bind fun x21 => (Us (Tr27.of (p0.un.1,f24 p0.un.2.1,p0.un.2.2.1,p0.un.2.2.2.1,p0.un.2.2.2.2)) p2 p3 p4).bind fun x22 => (J8 x21 x22).bind fun x23 => (if x23 = true then (HS (Tr37.of (x5.un.1,f34 x5.un.2.1,x5.un.2.2.1,x5.un.2.2.2.1,x5.un.2.2.2.2)) p5).bind fun x24 => (KQ (Tr27.of (p0.un.1,f24 p0.un.2.1,p0.un.2.2.1,p0.un.2.2.2.1,p0.un.2.2.2.2)) p5).bind fun x25 => (ND x24 x25).bind fun x26 => (if x26 = true then (Fo (Tr37.of (x5.un.1,f34 x5.un.2.1,x5.un.2.2.1,x5.un.2.2.2.1,x5.un.2.2.2.2))).bind fun x27 => (R6 (Tr27.of (p0.un.1,f24 p0.un.2.1,p0.un.2.2.1,p0.un.2.2.2.1,p0.un.2.2.2.2))).bind fun x28 => (if x27 = x28 then (G9).bind fun x29 => some x29 else some false) else some false) else some false)).bind fun x20 => some x20)))
abbrev K3 : Cn_ := ⟨[Xp,Xp,EZ,EZ,Ta,EZ],[Lf],[],false,fun x => GL x.1 x.2.1 x.2.2.1 x.2.2.2.1 x.2.2.2.2.1 x.2.2.2.2.2,none⟩
theorem k3 : KO (K3) 3 := E0 (ct := (.q (.s (.j (.st false ⟨[(21,false,FX)],[],[]⟩) .d .d) (.q (.s (.j (.st false ⟨[(60,false,FX)],[],[]⟩) .d .d) (.q (.j (.st false ⟨[(12,false,FX)],[],[]⟩) .d .d))))))) En (AJ k6 (AJ k20 (AJ zO (AJ yB (AJ k9 (AJ k7 (AJ k8 (AJ k14 (AJ zE (AJ zQ (AJ k10 (AJ k11 (AJ k13 (AJ k17 (AJ k18 (AJ k21 (AJ k19 (AJ k23 (AJ k24 (AJ k22 (AJ k26 BN))))))))))))))))))))) Tryz.func3 (by kernel_rfl) fun x => by kernel_rfl
theorem NY (Y : Nat → Prop) (w0 : World) (v1 : Value) (v2 : Value) (v3 : Value) (v4 : Value) (p0 : Tr27) (p1 : Tr27) (p2 : Int) (p3 : Int) (p4 : Int × Int × Int × Int) (p5 : Int) (r : Bool) (H : GL p0 p1 p2 p3 p4 p5 = some r) (h_v1 : Sl w0 (NX []) Sn v1 p0.un.2.1.un.2.2.2) (h_v2 : Sl w0 (NX []) U6 v2 p0.un.2.2.2.2) (h_v3 : Sl w0 (NX []) Sn v3 p1.un.2.1.un.2.2.2) (h_v4 : Sl w0 (NX []) U6 v4 p1.un.2.2.2.2) (hG : Gk [] w0) :
    ca_ 3 #[.agg #[Jint p0.un.1,Jint p0.un.2.1.un.1,Jint p0.un.2.1.un.2.1,Jint p0.un.2.1.un.2.2.1,v1,Jint p0.un.2.2.1,Jint p0.un.2.2.2.1,v2],.agg #[Jint p1.un.1,Jint p1.un.2.1.un.1,Jint p1.un.2.1.un.2.1,Jint p1.un.2.1.un.2.2.1,v3,Jint p1.un.2.2.1,Jint p1.un.2.2.2.1,v4],Jint p2,Jint p3,.agg #[Jint p4.1,Jint p4.2.1,Jint p4.2.2.1,Jint p4.2.2.2],Jint p5] w0 fun e w' => e = .returned (.bool r) ∧ Below w0.heap.size w0 w' := k3.outP (Y := Y) (x := (p0,p1,p2,p3,p4,p5)) H rfl rfl rfl rfl rfl (v1,(v2,(v3,(v4,())))) ⟨h_v1,⟨h_v2,⟨h_v3,⟨h_v4,trivial⟩⟩⟩⟩ rfl hG fun _ => rfl
end
end Go.Proofs.YtpckgggmgijiiaaGreatDoor
