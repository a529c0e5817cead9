/- The functions of layer 31, Qd. Conditions: none. -/
import Derived.Test.YtkhiflmalgkjiaaGreateA0
set_option linter.unusedVariables false
set_option linter.unusedSimpArgs false
open Go Go.RowKit
namespace Go.Proofs.YtkhiflmalgkjiaaGreat
noncomputable section
set_option maxRecDepth 20000
set_option maxHeartbeats 1600000
def Cd (fRec_check_Cut : Tr38 → Int → Option Tr38) (p0 : List Tr38) (p1 : Int) : (List Tr38 × Int) → Option ((List Tr38 × Int) ⊕ (List Tr38))
  | (x2,x3) => (if x3 < (p0.length : Int) then (ix p0 x3).bind fun x4 => (fRec_check_Cut x4 p1).bind fun x5 => (HT x2 ([x5] : List Tr38)).bind fun x6 => some (.inl (x6,w64 (x3 + 1))) else some (.inr x2))
def Dc (fRec_check_Cut : Tr38 → Int → Option Tr38) (p0 : List Tr38) (p1 : Int) : Option (List Tr38) := (Ah (Cd fRec_check_Cut p0 p1) ([],0)).bind fun x1 => some x1
def ID (fRec_check_Cut : Tr38 → Int → Option Tr38) (p0 : List Tr38) (p1 : Int) : (List Tr38 × Int) → Option ((List Tr38 × Int) ⊕ (List Tr38))
  | (x2,x3) => (if x3 < (p0.length : Int) then (ix p0 x3).bind fun x4 => (fRec_check_Cut (f38 x4) p1).bind fun x5 => (HT x2 ([f38 x5] : List Tr38)).bind fun x6 => some (.inl (x6,w64 (x3 + 1))) else some (.inr x2))
theorem PF : @ID = @Cd := by
 unfold ID Cd
 simp only [Tr38.re_eq]
def Oa (fRec_check_Cut : Tr38 → Int → Option Tr38) (p0 : List Tr38) (p1 : Int) : Option (List Tr38) := (Ah (ID fRec_check_Cut p0 p1) ([],0)).bind fun x1 => some x1
theorem SB : @Oa = @Dc := by
 unfold Oa Dc
 simp only [PF]
abbrev K82 (h55 : TT te.c (Do ZY []) → Option (TT te.c (I0 ZY kK [] false))) : Cn_ := ⟨[Vn,DT],[(.b false,[.o 38 VQ])],[],false,fun x => Dc (fun yp0 yp1 => h55 (yp0,yp1)) x.1 x.2,none⟩
theorem k82 (h55) (kh55 : KO (K55 h55) 55) : KO (K82 h55) 82 := Eb (ct := (.q (.q (.j (.st false ⟨[(5,false,[.o 38 VQ])],[],[]⟩) (.q (.b (.l ⟨[(5,false,[.o 38 VQ]),(10,false,AG)],[],[]⟩ .d))) .d)))) D6 (AH kh55 BG) Tryz.func82 (by kernel_rfl) fun x => by rw [← SB]; kernel_rfl
def An (p0 : Bool) : Tr38 := (if p0 = true then Tr38.of (1,0,0,([] : List Tr38)) else Tr38.of (2,0,0,([] : List Tr38)))
noncomputable def b83 : Code := (Tryz.f83.body).getD .skip
def Aak : Ct := .d
abbrev K83 : Cn_ := ⟨wN,sL,[],false,fun x => some (An x),some ⟨fun x => An x,fun _ => rfl⟩⟩
theorem v83 (x : Bool) : @Eq (Option Tr38) (dF te sA ([] : Hz te Tryz.prog) 6 b83 Aak wN sL [] false [.cell 2 38] x).den (some (An x)) := by simp only [An,apply_ite (some : Tr38 → _)]; kernel_rfl
theorem k83 : KO (K83) 83 := dK D6 BG Tryz.func83 (by kernel_rfl) Tryz.ntmps83 rfl rfl rfl (by kernel_rfl) v83
def EB (p0 : Tr38) (p1 : Int) : Bool := decide (p0.un.1 = p1)
abbrev AaI : Cn_ := ⟨[Ol,(.p,[])],[KS],[(false,[.d true I3])],false,fun x => some (EB x.1 x.2),some ⟨fun x => EB x.1 x.2,fun _ => rfl⟩⟩
theorem Aau : KO (AaI) 110 := Eb (ct := .d) D6 BG Tryz.func110 (by kernel_rfl) fun x => by kernel_rfl
def AM (p0 : List Tr38) (p1c0 : Int) : Int → Option (Int ⊕ (Unit ⊕ Int))
  | x1 => (if x1 < (p0.length : Int) then (ix p0 x1).bind fun x2 => (if (EB x2 p1c0) = true then some (.inr (.inr x1)) else some (.inl (w64 (x1 + 1)))) else some (.inr (.inl ())))
def A7 (p0 : List Tr38) (p1c0 : Int) : Option Int := GO (Ah (AM p0 p1c0) 0) fun _ => some (-1)
def CU (p0 : List Tr38) (p1c0 : Int) : Int → Option (Int ⊕ (Unit ⊕ Int))
  | x1 => (if x1 < (p0.length : Int) then (ix p0 x1).bind fun x2 => (if (EB (f38 x2) p1c0) = true then some (.inr (.inr x1)) else some (.inl (w64 (x1 + 1)))) else some (.inr (.inl ())))
theorem F2 : @CU = @AM := by
 unfold CU AM
 simp only [Tr38.re_eq]
def Ec (p0 : List Tr38) (p1c0 : Int) : Option Int := GO (Ah (CU p0 p1c0) 0) fun _ => some (-1)
theorem Gw : @Ec = @A7 := by
 unfold Ec A7
 simp only [F2]
abbrev Aab : Cn_ := ⟨[Vn,(.fn 110 [] 1,[])],[JR],[(false,[.d true I3])],false,fun x => A7 x.1 x.2,none⟩
theorem zK : KO (Aab) 139 := Eb (ct := (.q (.j (.st true ⟨[],[],[]⟩) (.q (.b (.l ⟨[(8,false,AG)],[],[]⟩ .d))) .d))) D6 (AH Aau BG) Tryz.func139 (by kernel_rfl) fun x => by rw [← Gw]; kernel_rfl
def Bf (p0 : List Tr38) (p1c0 : Int) : Option Bool := (A7 p0 p1c0).bind fun x1 => some (decide (0 ≤ x1))
abbrev Aag : Cn_ := ⟨[Vn,(.fn 110 [] 1,[])],[KS],[(false,[.d true I3])],false,fun x => Bf x.1 x.2,none⟩
theorem AaT : KO (Aag) 109 := Eb (ct := .d) D6 (AH zK BG) Tryz.func109 (by kernel_rfl) fun x => by kernel_rfl
def D0 (p0 : Tr38) (p1 : Int) : Bool := decide (p0.un.1 ≠ p1)
abbrev y7 : Cn_ := ⟨[Ol,(.p,[])],[KS],[(false,[.d true I3])],false,fun x => some (D0 x.1 x.2),some ⟨fun x => D0 x.1 x.2,fun _ => rfl⟩⟩
theorem AaH : KO (y7) 112 := Eb (ct := .d) D6 BG Tryz.func112 (by kernel_rfl) fun x => by kernel_rfl
def CX (p0 : List Tr38) (p1c0 : Int) : (List Tr38 × Int) → Option ((List Tr38 × Int) ⊕ (List Tr38))
  | (x2,x3) => (if x3 < (p0.length : Int) then ((ix p0 x3).bind fun x5 => (if (D0 x5 p1c0) = true then (HT x2 ([x5] : List Tr38)).bind fun x6 => some x6 else some x2)).bind fun x4 => some (.inl (x4,w64 (x3 + 1))) else some (.inr x2))
def Dr (p0 : List Tr38) (p1c0 : Int) : Option (List Tr38) := (Ah (CX p0 p1c0) ([],0)).bind fun x1 => some x1
def HB (p0 : List Tr38) (p1c0 : Int) : (List Tr38 × Int) → Option ((List Tr38 × Int) ⊕ (List Tr38))
  | (x2,x3) => (if x3 < (p0.length : Int) then ((ix p0 x3).bind fun x5 => (if (D0 (f38 x5) p1c0) = true then (HT x2 ([f38 x5] : List Tr38)).bind fun x6 => some x6 else some x2)).bind fun x4 => some (.inl (x4,w64 (x3 + 1))) else some (.inr x2))
theorem NB : @HB = @CX := by
 unfold HB CX
 simp only [Tr38.re_eq]
def Mm (p0 : List Tr38) (p1c0 : Int) : Option (List Tr38) := (Ah (HB p0 p1c0) ([],0)).bind fun x1 => some x1
theorem PW : @Mm = @Dr := by
 unfold Mm Dr
 simp only [NB]
abbrev zJ : Cn_ := ⟨[(.b false,[.d false (.sl VQ)]),(.fn 112 [] 1,[])],[(.b false,[.o 38 VQ])],[(false,[.d true I3])],false,fun x => Dr x.1 x.2,none⟩
theorem yJ : KO (zJ) 111 := Eb (ct := (.q (.q (.j (.st false ⟨[(5,false,[.o 38 VQ])],[],[]⟩) (.q (.b (.l ⟨[(5,false,[.o 38 VQ]),(10,false,AG)],[],[]⟩ (.q (.q (.j (.st false ⟨[(5,false,[.o 38 VQ])],[],[]⟩) .d .d)))))) .d)))) D6 (AH AaH BG) Tryz.func111 (by kernel_rfl) fun x => by rw [← PW]; kernel_rfl
def Co (p0 : Int) (p1 : List Tr38) (p2 : Int) (p3 : Int) : Option Tr38 := (Bf p1 p3).bind fun x1 => (if x1 = true then some (Tr38.of (p3,0,0,([] : List Tr38))) else (Dr p1 p2).bind fun x2 => (if (x2.length : Int) = 0 then some (Tr38.of (p2,0,0,([] : List Tr38))) else (if (x2.length : Int) = 1 then (ix x2 0).bind fun x3 => some x3 else some (Tr38.of (p0,0,0,x2)))))
def Kk (p0 : Int) (p1 : List Tr38) (p2 : Int) (p3 : Int) : Option Tr38 := (Bf p1 p3).bind fun x1 => (if x1 = true then some (Tr38.of (p3,0,0,([] : List Tr38))) else (Dr p1 p2).bind fun x2 => (if (x2.length : Int) = 0 then some (Tr38.of (p2,0,0,([] : List Tr38))) else (if (x2.length : Int) = 1 then (ix x2 0).bind fun x3 => some (f38 x3) else some (Tr38.of (p0,0,0,x2)))))
theorem Ox : @Kk = @Co := by
 unfold Kk Co
 simp only [Tr38.re_eq]
abbrev K84 : Cn_ := ⟨[DT,(.b false,[.d false (.sl VQ)]),DT,DT],[(.b true,[.d false VQ])],[],false,fun x => Co x.1 x.2.1 x.2.2.1 x.2.2.2,none⟩
theorem k84 : KO (K84) 84 := Eb (ct := .d) D6 (AH AaT (AH yJ BG)) Tryz.func84 (by kernel_rfl) fun x => by rw [← Ox]; kernel_rfl
def Du (fRec : Tr38 → Int → Option Tr38) (p0 : Tr38) (p1 : Int) : Option Tr38 := ((Dc fRec) p0.un.2.2.2 p1).bind fun x1 => GO (if p0.un.1 = 3 then (if p0.un.2.1 = 5 then some (.inr (Tr38.of ((An (decide (p0.un.2.2.1 = p1))).un.1,(An (decide (p0.un.2.2.1 = p1))).un.2.1,(An (decide (p0.un.2.2.1 = p1))).un.2.2.1,(An (decide (p0.un.2.2.1 = p1))).un.2.2.2))) else some (.inl ())) else (if p0.un.1 = 4 then (if (x1.length : Int) = 1 then (ix x1 0).bind fun x3 => some (decide (x3.un.1 = 1)) else some false).bind fun x2 => (if x2 = true then some (.inr (Tr38.of ((An false).un.1,(An false).un.2.1,(An false).un.2.2.1,(An false).un.2.2.2))) else (if (x1.length : Int) = 1 then (ix x1 0).bind fun x5 => some (decide (x5.un.1 = 2)) else some false).bind fun x4 => (if x4 = true then some (.inr (Tr38.of ((An true).un.1,(An true).un.2.1,(An true).un.2.2.1,(An true).un.2.2.2))) else some (.inl ()))) else (if p0.un.1 = 5 then (Co p0.un.1 x1 1 2).bind fun x6 => some (.inr x6) else (if p0.un.1 = 6 then (Co p0.un.1 x1 2 1).bind fun x7 => some (.inr x7) else some (.inl ()))))) fun _ => some (Tr38.of (p0.un.1,p0.un.2.1,p0.un.2.2.1,x1))
def Dj : Nat → Tr38 → Int → Option Tr38
  | 0 => fun _ _ => none
  | n + 1 => Du (Dj n)
def Lf (p0 : Tr38) (p1 : Int) : Option Tr38 := Hc fun n => Dj n p0 p1
def NH (fRec : Tr38 → Int → Option Tr38) (p0 : Tr38) (p1 : Int) : Option Tr38 := ((Dc fRec) p0.un.2.2.2 p1).bind fun x1 => GO (if p0.un.1 = 3 then (if p0.un.2.1 = 5 then some (.inr (Tr38.of ((An (decide (p0.un.2.2.1 = p1))).un.1,(An (decide (p0.un.2.2.1 = p1))).un.2.1,(An (decide (p0.un.2.2.1 = p1))).un.2.2.1,(An (decide (p0.un.2.2.1 = p1))).un.2.2.2))) else some (.inl ())) else (if p0.un.1 = 4 then (if (x1.length : Int) = 1 then (ix x1 0).bind fun x3 => some (decide (x3.un.1 = 1)) else some false).bind fun x2 => (if x2 = true then some (.inr (Tr38.of ((An false).un.1,(An false).un.2.1,(An false).un.2.2.1,(An false).un.2.2.2))) else (if (x1.length : Int) = 1 then (ix x1 0).bind fun x5 => some (decide (x5.un.1 = 2)) else some false).bind fun x4 => (if x4 = true then some (.inr (Tr38.of ((An true).un.1,(An true).un.2.1,(An true).un.2.2.1,(An true).un.2.2.2))) else some (.inl ()))) else (if p0.un.1 = 5 then (Co p0.un.1 x1 1 2).bind fun x6 => some (.inr (f38 x6)) else (if p0.un.1 = 6 then (Co p0.un.1 x1 2 1).bind fun x7 => some (.inr (f38 x7)) else some (.inl ()))))) fun _ => some (Tr38.of (p0.un.1,p0.un.2.1,p0.un.2.2.1,x1))
theorem Ry : @NH = @Du := by
 unfold NH Du
 simp only [Tr38.re_eq]
theorem k55 : KO (K55 fun x => Lf x.1 x.2) 55 := Tp (E := te) (xs := ZY) (ys := kK) (bs := []) (io := false) (nn := fun n x => Dj n x.1 x.2) (st := fun g x => Du (fun yp0 yp1 => g (yp0,yp1)) x.1 x.2) Tryz.func55 rfl (by kernel_rfl) (fun _ => rfl) (fun _ => rfl) fun g hg => Eb (ct := (.q (.q (.j (.st true ⟨[],[],[]⟩) (.q (.b (.q (.c .d (.q (.c (.s (.j (.st false ⟨[(33,false,Ea)],[],[]⟩) .d .d) (.j (.st false ⟨[(44,false,Ea)],[],[]⟩) .d .d)) .d)))))) .d)))) D6 (AH hg (AH (k82 _ hg) (AH k83 (AH k84 BG)))) Tryz.func55 (by kernel_rfl) fun x => by rw [← Ry]; kernel_rfl
def DB (fRec : Tr41 → Int → Option Tr41) (p0 : Tr41) (p1 : Int) : (List Tr41 × Int) → Option ((List Tr41 × Int) ⊕ (List Tr41))
  | (x11,x12) => (if x12 < (p0.un.2.2.2.2.length : Int) then (ix p0.un.2.2.2.2 x12).bind fun x13 => (fRec (Tr41.of (x13.un.1,f38 x13.un.2.1,x13.un.2.2.1,x13.un.2.2.2.1,x13.un.2.2.2.2)) p1).bind fun x14 => (HT x11 ([Tr41.of (x14.un.1,f38 x14.un.2.1,x14.un.2.2.1,x14.un.2.2.2.1,x14.un.2.2.2.2)] : List Tr41)).bind fun x15 => some (.inl (x15,w64 (x12 + 1))) else some (.inr x11))
def EP (fRec : Tr41 → Int → Option Tr41) (p0 : Tr41) (p1 : Int) : Option Tr41 := (if (decide (p0.un.1 = 1) || decide (p0.un.1 = 5)) = true then (Lf (f38 p0.un.2.1) p1).bind fun x5 => some (x5.un.1,x5.un.2.1,x5.un.2.2.1,x5.un.2.2.2) else some (p0.un.2.1.un.1,p0.un.2.1.un.2.1,p0.un.2.1.un.2.2.1,p0.un.2.1.un.2.2.2)).bind fun (x1,x2,x3,x4) => (if (decide (p0.un.1 = 5) && (decide ((p0.un.2.2.2.2.length : Int) = 2) && decide (x1 = 1))) = true then (ix p0.un.2.2.2.2 0).bind fun x6 => (fRec (Tr41.of (x6.un.1,f38 x6.un.2.1,x6.un.2.2.1,x6.un.2.2.2.1,x6.un.2.2.2.2)) p1).bind fun x7 => some (Tr41.of (x7.un.1,f38 x7.un.2.1,x7.un.2.2.1,x7.un.2.2.2.1,x7.un.2.2.2.2)) else (if (decide (p0.un.1 = 5) && (decide ((p0.un.2.2.2.2.length : Int) = 2) && decide (x1 = 2))) = true then (ix p0.un.2.2.2.2 1).bind fun x8 => (fRec (Tr41.of (x8.un.1,f38 x8.un.2.1,x8.un.2.2.1,x8.un.2.2.2.1,x8.un.2.2.2.2)) p1).bind fun x9 => some (Tr41.of (x9.un.1,f38 x9.un.2.1,x9.un.2.2.1,x9.un.2.2.2.1,x9.un.2.2.2.2)) else (Ah (DB fRec p0 p1) ([],0)).bind fun x10 => some (Tr41.of (p0.un.1,Tr38.of (x1,x2,x3,x4),p0.un.2.2.1,p0.un.2.2.2.1,x10))))
def Dd : Nat → Tr41 → Int → Option Tr41
  | 0 => fun _ _ => none
  | n + 1 => EP (Dd n)
def OQ (p0 : Tr41) (p1 : Int) : Option Tr41 := Hc fun n => Dd n p0 p1
theorem k24 : KO (K24 fun x => OQ x.1 x.2) 24 := Tp (E := te) (xs := lE) (ys := oQ) (bs := []) (io := false) (nn := fun n x => Dd n x.1 x.2) (st := fun g x => EP (fun yp0 yp1 => g (yp0,yp1)) x.1 x.2) Tryz.func24 rfl (by kernel_rfl) (fun _ => rfl) (fun _ => rfl) fun g hg => Eb (ct := (.q (.j (.st false ⟨[],[(0,[none,some (.d false I3),some (.d false I3),some (.d false I3),some (.d false (.sl VQ)),none,none,none])],[]⟩) (.j (.bl [15]) .d .d) (.s (.j (.bl [35]) .d .d) (.s (.j (.bl [56]) .d .d) (.q (.j (.st false ⟨[(5,false,[.o 41 (.tr 1)])],[],[]⟩) (.q (.b (.l ⟨[(5,false,[.o 41 (.tr 1)]),(66,false,AG)],[],[]⟩ .d))) .d))))))) D6 (AH hg (AH k55 BG)) Tryz.func24 (by kernel_rfl) fun x => by kernel_rfl
theorem T69 : Ty Tryz.prog 69 true 14 := ⟨by kernel_rfl,by kernel_rfl⟩
def BQ (fRec : Tr38 → Int → Option (List Int)) (p0 : Tr38) (p1 : Int) : (List Int × Int) → Option ((List Int × Int) ⊕ (List Int))
  | (x4,x5) => (if x5 < (p0.un.2.2.2.length : Int) then (ix p0.un.2.2.2 x5).bind fun x6 => (fRec x6 p1).bind fun x7 => (HT x4 x7).bind fun x8 => some (.inl (x8,w64 (x5 + 1))) else some (.inr x4))
def Cp (fRec : Tr38 → Int → Option (List Int)) (p0 : Tr38) (p1 : Int) : Option (List Int) := (if (decide (p0.un.1 = 3) && decide (p0.un.2.1 = p1)) = true then (HT ([] : List Int) ([p0.un.2.2.1] : List Int)).bind fun x2 => some x2 else some ([])).bind fun x1 => (Ah (BQ fRec p0 p1) (x1,0)).bind fun x3 => some x3
def Cm : Nat → Tr38 → Int → Option (List Int)
  | 0 => fun _ _ => none
  | n + 1 => Cp (Cm n)
def GZ (p0 : Tr38) (p1 : Int) : Option (List Int) := Hc fun n => Cm n p0 p1
def H6 (fRec : Tr38 → Int → Option (List Int)) (p0 : Tr38) (p1 : Int) : (List Int × Int) → Option ((List Int × Int) ⊕ (List Int))
  | (x4,x5) => (if x5 < (p0.un.2.2.2.length : Int) then (ix p0.un.2.2.2 x5).bind fun x6 => (fRec (f38 x6) p1).bind fun x7 => (HT x4 x7).bind fun x8 => some (.inl (x8,w64 (x5 + 1))) else some (.inr x4))
theorem Od : @H6 = @BQ := by
 unfold H6 BQ
 simp only [Tr38.re_eq]
def Ka (fRec : Tr38 → Int → Option (List Int)) (p0 : Tr38) (p1 : Int) : Option (List Int) := (if (decide (p0.un.1 = 3) && decide (p0.un.2.1 = p1)) = true then (HT ([] : List Int) ([p0.un.2.2.1] : List Int)).bind fun x2 => some x2 else some ([])).bind fun x1 => (Ah (H6 fRec p0 p1) (x1,0)).bind fun x3 => some x3
theorem Ob : @Ka = @Cp := by
 unfold Ka Cp
 simp only [Od]
theorem AaM : KO (Aat fun x => GZ x.1 x.2) 113 := Tp (E := te) (xs := Zv) (ys := iE) (bs := []) (io := false) (nn := fun n x => Cm n x.1 x.2) (st := fun g x => Cp (fun yp0 yp1 => g (yp0,yp1)) x.1 x.2) Tryz.func113 rfl (by kernel_rfl) (fun _ => rfl) (fun _ => rfl) fun g hg => Eb (ct := (.q (.q (.j (.st false ⟨[(5,false,Vp)],[],[]⟩) (.j (.bl [16]) .d .d) (.j (.st false ⟨[(5,false,Vp)],[],[]⟩) (.q (.b (.l ⟨[(5,false,Vp),(25,false,AG)],[],[]⟩ .d))) .d))))) D6 (AH hg BG) Tryz.func113 (by kernel_rfl) fun x => by rw [← Ob]; kernel_rfl
def I6 (p0 : Int) : Option Int := (if 4294967296 ≤ p0 then some (Ms .u64 p0 32,32) else some (p0,0)).bind fun (x1,x2) => (if 65536 ≤ x1 then some (Ms .u64 x1 16,w64 (x2 + 16)) else some (x1,x2)).bind fun (x3,x4) => (if 256 ≤ x3 then some (Ms .u64 x3 8,w64 (x4 + 8)) else some (x3,x4)).bind fun (x5,x6) => (ix ([0,1,2,2,3,3,3,3,4,4,4,4,4,4,4,4,5,5,5,5,5,5,5,5,5,5,5,5,5,5,5,5,6,6,6,6,6,6,6,6,6,6,6,6,6,6,6,6,6,6,6,6,6,6,6,6,6,6,6,6,6,6,6,6,7,7,7,7,7,7,7,7,7,7,7,7,7,7,7,7,7,7,7,7,7,7,7,7,7,7,7,7,7,7,7,7,7,7,7,7,7,7,7,7,7,7,7,7,7,7,7,7,7,7,7,7,7,7,7,7,7,7,7,7,7,7,7,7,8,8,8,8,8,8,8,8,8,8,8,8,8,8,8,8,8,8,8,8,8,8,8,8,8,8,8,8,8,8,8,8,8,8,8,8,8,8,8,8,8,8,8,8,8,8,8,8,8,8,8,8,8,8,8,8,8,8,8,8,8,8,8,8,8,8,8,8,8,8,8,8,8,8,8,8,8,8,8,8,8,8,8,8,8,8,8,8,8,8,8,8,8,8,8,8,8,8,8,8,8,8,8,8,8,8,8,8,8,8,8,8,8,8,8,8,8,8,8,8,8,8,8,8,8,8,8,8] : lb_) (IntKind.u8.wrap x5)).bind fun x7 => some (w64 (x6 + (w64 (x7.toNat : Int))))
abbrev Aa3 : Cn_ := ⟨[(.b false,[.d true (.int .u64)])],[JR],[],false,fun x => I6 x,none⟩
theorem AaE : KO (Aa3) 103 := Eb (ct := (.q (.j (.st false ⟨[(0,false,[.d false (.int .u64)]),(2,false,AG)],[],[]⟩) .d (.j (.st false ⟨[(0,false,[.d false (.int .u64)]),(2,false,AG)],[],[]⟩) .d (.j (.st false ⟨[(0,false,[.d false (.int .u64)]),(2,false,AG)],[],[]⟩) .d .d))))) D6 BG Tryz.func103 (by kernel_rfl) fun x => by kernel_rfl
def Hg (p0 : Int) : Option Int := (I6 p0).bind fun x1 => some x1
abbrev K71 : Cn_ := ⟨[(.b false,[.d true (.int .u64)])],[JR],[],false,fun x => Hg x,none⟩
theorem yZ : KO (K71) 71 := Eb (ct := .d) D6 (AH AaE BG) Tryz.func71 (by kernel_rfl) fun x => by kernel_rfl
def Gb (p0 : Int) : Bool := decide (p0 ≠ p0)
abbrev K77 : Cn_ := ⟨[DT],[KS],[],false,fun x => some (Gb x),some ⟨fun x => Gb x,fun _ => rfl⟩⟩
theorem k77 : KO (K77) 77 := Eb (ct := .d) D6 BG Tryz.func77 (by kernel_rfl) fun x => by kernel_rfl
def DV (p0 : Int) : Option Int := (Hg (IntKind.u64.wrap p0)).bind fun x1 => (j7 (JW .u64 1 x1) x1).bind fun x2 => some x2
abbrev y9 : Cn_ := ⟨[DT],[(.b false,[.d false (.int .u64)])],[],false,fun x => DV x,none⟩
theorem vO : KO (y9) 127 := Eb (ct := .d) D6 (AH yZ BG) Tryz.func127 (by kernel_rfl) fun x => by kernel_rfl
def CB (p0 : Int) : Int × Int := (Lz .u64 (Lz .u64 (Lz .u64 p0 (JW .u64 p0 13)) (Ms .u64 (Lz .u64 p0 (JW .u64 p0 13)) 7)) (JW .u64 (Lz .u64 (Lz .u64 p0 (JW .u64 p0 13)) (Ms .u64 (Lz .u64 p0 (JW .u64 p0 13)) 7)) 17),Lz .u64 (Lz .u64 (Lz .u64 p0 (JW .u64 p0 13)) (Ms .u64 (Lz .u64 p0 (JW .u64 p0 13)) 7)) (JW .u64 (Lz .u64 (Lz .u64 p0 (JW .u64 p0 13)) (Ms .u64 (Lz .u64 p0 (JW .u64 p0 13)) 7)) 17))
abbrev AaS : Cn_ := ⟨[(.p,[])],[(.b false,[.d false (.int .u64)])],[(true,[.d false (.int .u64)])],false,fun x => some (CB x),some ⟨fun x => CB x,fun _ => rfl⟩⟩
theorem vE : KO (AaS) 128 := Eb (ct := .d) D6 BG Tryz.func128 (by kernel_rfl) fun x => by kernel_rfl
def Ck (p0 : List Int) : Option (List Int) := Xk p0
theorem Mv (Y : Nat → Prop) (X : List Nat) (w0 : World) (v1 : Value) (p0 : List Int) (r : List Int) (H : Ck p0 = some r) (hL : Stw ⟨Y,X,w0⟩ [] [row v1 3 ri p0] w0) :
    ca_ 57 #[v1] w0 fun e w' => ∃ x : Unit,e = .returned (.tuple #[]) ∧ Stw ⟨Y,X,w0⟩ [] [row v1 3 ri r] w' := pR Y X w0 v1 p0 r H hL
abbrev K57 : Cn_ := ⟨Aav,Aar,[],true,fun x => Ck x,none⟩
theorem k57 : KO K57 57 := KO.ofL ⟨fun args w => A9 Tryz.func57 rfl (by decide) args w⟩ rfl (fun _ => rfl) (fun _ => rfl) (fun _ => rfl) (fun _ => rfl) (fun _ => rfl) fun Y X w0 x r g H hg F hk => (Mv Y X w0 g.1 x r H F).mono fun e w' ⟨x,he,F⟩ => ⟨(g.1,()),he,F,fun _ => rfl⟩
def BW (p0 : List Int) : Option (List Int) := M0 p0
theorem KQ (Y : Nat → Prop) (X : List Nat) (w0 : World) (v1 : Value) (p0 : List Int) (r : List Int) (H : BW p0 = some r) (hL : Stw ⟨Y,X,w0⟩ [] [row v1 3 ri p0] w0) :
    ca_ 58 #[v1] w0 fun e w' => ∃ x : Value,e = .returned (x) ∧ Stw ⟨Y,X,w0⟩ [] [row (x) 3 ri r] w' := aU Y X w0 v1 p0 r H hL
abbrev K58 : Cn_ := ⟨Aal,AaY,[],false,fun x => BW x,none⟩
theorem k58 : KO K58 58 := KO.ofL ⟨fun args w => A9 Tryz.func58 rfl (by decide) args w⟩ rfl (fun _ => rfl) (fun _ => rfl) (fun _ => rfl) (fun _ => rfl) (fun _ => rfl) fun Y X w0 x r g H hg F hk => (KQ Y X w0 g.1 x r H F).mono fun e w' ⟨x,he,F⟩ => ⟨(x,()),he,F,fun h => nomatch h⟩
def FJ (p0 : Tr38) (p1 : Int) : Option (List Int) := (GZ p0 p1).bind fun x1 => (Ck x1).bind fun x2 => (BW x2).bind fun x3 => some x3
def OH (p0 : Tr38) (p1 : Int) : Option (List Int) := (GZ (f38 p0) p1).bind fun x1 => (Ck x1).bind fun x2 => (BW x2).bind fun x3 => some x3
theorem T5 : @OH = @FJ := by
 unfold OH FJ
 simp only [Tr38.re_eq]
abbrev K85 : Cn_ := ⟨[Ol,DT],[WB],[],false,fun x => FJ x.1 x.2,none⟩
theorem k85 : KO (K85) 85 := Eb (ct := .d) D6 (AH AaM (AH k57 (AH k58 BG))) Tryz.func85 (by kernel_rfl) fun x => by rw [← T5]; kernel_rfl
def CM (fRec : Tr41 → Int → Option (List Int)) (p0 : Tr41) (p1 : Int) : (List Int × Int) → Option ((List Int × Int) ⊕ (List Int))
  | (x5,x6) => (if x6 < (p0.un.2.2.2.2.length : Int) then (ix p0.un.2.2.2.2 x6).bind fun x7 => (fRec (Tr41.of (x7.un.1,f38 x7.un.2.1,x7.un.2.2.1,x7.un.2.2.2.1,x7.un.2.2.2.2)) p1).bind fun x8 => (HT x5 x8).bind fun x9 => some (.inl (x9,w64 (x6 + 1))) else some (.inr x5))
def Dw (fRec : Tr41 → Int → Option (List Int)) (p0 : Tr41) (p1 : Int) : Option (List Int) := (FJ (f38 p0.un.2.1) p1).bind fun x1 => (if (decide (p0.un.1 = 2) && decide (p0.un.2.2.1 = p1)) = true then (HT x1 ([p0.un.2.2.2.1] : List Int)).bind fun x3 => some x3 else some x1).bind fun x2 => (Ah (CM fRec p0 p1) (x2,0)).bind fun x4 => some x4
def C3 : Nat → Tr41 → Int → Option (List Int)
  | 0 => fun _ _ => none
  | n + 1 => Dw (C3 n)
def Kf (p0 : Tr41) (p1 : Int) : Option (List Int) := Hc fun n => C3 n p0 p1
theorem k56 : KO (K56 fun x => Kf x.1 x.2) 56 := Tp (E := te) (xs := kA) (ys := qL) (bs := []) (io := false) (nn := fun n x => C3 n x.1 x.2) (st := fun g x => Dw (fun yp0 yp1 => g (yp0,yp1)) x.1 x.2) Tryz.func56 rfl (by kernel_rfl) (fun _ => rfl) (fun _ => rfl) fun g hg => Eb (ct := (.q (.q (.j (.st false ⟨[(5,false,Vp)],[],[]⟩) (.j (.bl [20]) .d .d) (.j (.st false ⟨[(5,false,Vp)],[],[]⟩) (.q (.b (.l ⟨[(5,false,Vp),(29,false,AG)],[],[]⟩ .d))) .d))))) D6 (AH hg (AH k85 BG)) Tryz.func56 (by kernel_rfl) fun x => by kernel_rfl
def C9 (p0 : Tr41) (p1 : Int) : Option (List Int) := (Kf (Tr41.of (p0.un.1,f38 p0.un.2.1,p0.un.2.2.1,p0.un.2.2.2.1,p0.un.2.2.2.2)) p1).bind fun x1 => (Ck x1).bind fun x2 => (BW x2).bind fun x3 => some x3
abbrev K26 : Cn_ := ⟨[Yh,DT],[WB],[],false,fun x => C9 x.1 x.2,none⟩
theorem k26 : KO (K26) 26 := Eb (ct := .d) D6 (AH k57 (AH k58 (AH k56 BG))) Tryz.func26 (by kernel_rfl) fun x => by kernel_rfl
def EC (p0 : Tr41) : (Int × Int) → Option ((Int × Int) ⊕ Int)
  | (x2,x3) => (if x3 ≤ 4 then (C9 (Tr41.of (p0.un.1,f38 p0.un.2.1,p0.un.2.2.1,p0.un.2.2.2.1,p0.un.2.2.2.2)) x3).bind fun x4 => some (.inl (min (w64 (x2 * (w64 ((x4.length : Int) + 1)))) 100000,w64 (x3 + 1))) else some (.inr x2))
def HR (p0 : Tr41) : Option Int := (Ah (EC p0) (1,0)).bind fun x1 => some x1
abbrev K25 : Cn_ := ⟨[Yh],[JR],[],false,fun x => HR x,none⟩
theorem k25 : KO (K25) 25 := Eb (ct := (.q (.q (.j (.st false ⟨[(3,false,AG)],[],[]⟩) (.q (.b (.l ⟨[(3,false,AG),(4,false,AG)],[],[]⟩ .d))) .d)))) D6 (AH k26 BG) Tryz.func25 (by kernel_rfl) fun x => by kernel_rfl
theorem sQ : type_of% Tryz.underlying100 := Tryz.underlying100
theorem B60 : Bt Tryz.prog 60 [Jint 0,Jint 0,Jint 0,Jint 0,Jint 0] [(0,1),(1,4)] := ⟨⟨.agg #[Jint 0,Jint 0,Jint 0,Jint 0,Jint 0],by kernel_rfl,rfl⟩,⟨_,Mu,fun w => by kernel_rfl⟩⟩
theorem sJ : (Tryz.prog.info? 60).bind (·.zero) = some (.agg #[Jint 0,Jint 0,Jint 0,Jint 0,Jint 0]) := by kernel_rfl
theorem W9 : Ty Tryz.prog 60 true 5 := ⟨by kernel_rfl,by kernel_rfl⟩
theorem uA : ∃ z,(Tryz.prog.info? 100).bind (·.zero) = some z ∧ z.cells = [Jint 0,Jint 0,Jint 0,Jint 0,Jint 0].toArray := ⟨.agg #[Jint 0,Jint 0,Jint 0,Jint 0,Jint 0],by kernel_rfl,rfl⟩
theorem nC : Ar Tryz.prog 100 5 3 1 := ⟨sQ,by kernel_rfl⟩
theorem AaG : (Tryz.prog.info? 100).bind (·.zero) = some (.agg #[Jint 0,Jint 0,Jint 0,Jint 0,Jint 0]) := by kernel_rfl
theorem y5 : Ty Tryz.prog 100 true 5 := ⟨by kernel_rfl,by kernel_rfl⟩
abbrev W8  : List Value := [Jint 0,Jint 0,Jint 0,Jint 0,Jint 0]
def Bl (p0 : Int) : Option Int := (ix ([4,0,1,2,3] : List Int) p0).bind fun x1 => some x1
theorem Nd (Y : Nat → Prop) (w0 : World)  (p0 : Int) (r : Int) (H : Bl p0 = some r)  :
    ca_ 27 #[Jint p0] w0 fun e w' => e = .returned (Jint r) ∧ Below w0.heap.size w0 w' := by
 refine enter Tryz.func27 Aa Tryz.ntmps27 Aa fun a W => ?_
 have F := Stw.start Y w0
 unfold Bl at H
 refine vc tk 7 W F fun a w W F => ?_
 refine ls W F Aa (XC (v := Value.agg #[Jint 4,Jint 0,Jint 1,Jint 2,Jint 3]) nC uA W Aa Aa Aa).q fun a w W F => ?_
 refine Hm (cs := (W8)) W F Aa AaG Aa fun b1 a w W F => ?_
 refine SK 0 W F Aa Aa Aa y5 Aa Aa Aa fun w F => ?_
 refine KR tk 5 W F fun a w W F => ?_
 obtain ⟨x1,h1,H⟩ := Bz H
 refine ls W F Aa (Gz (0 + (p0).toNat * 1) nC W Aa Aa Aa h1 Aa).q fun a w W F => ?_
 refine ls W F Aa (ED (v := Jint x1) 0 W Aa Aa T3 (LN (base := 0) (m := 5) (l := [4,0,1,2,3]) (enc := Value.int .i64) Aa h1)).q fun a w W F => ?_
 refine KR tk 3 W F fun a w W F => ?_
 refine De ?_
 have H := Fj H
 subst H
 refine EE (.inl Aa) W F Aa (DJ W Aa) ?_
 exact ⟨rfl,F.done⟩
abbrev K27 : Cn_ := ⟨Aay,Aaf,[],false,fun x => Bl x,none⟩
theorem k27 : KO K27 27 := KO.of ⟨fun args w => A9 Tryz.func27 rfl (by decide) args w⟩ rfl (fun _ => rfl) (fun _ => rfl) rfl (fun _ => rfl) (fun _ => rfl) (fun _ => rfl) (fun _ => rfl) fun Y w0 x r g H hg hk => (Nd Y w0  x r H ).mono fun e w' h => ⟨(),h.1,Stw.ofB h.2⟩
theorem Aap : type_of% Tryz.underlying67 := Tryz.underlying67
theorem H27 : Has Tryz.prog 27 := Js Tryz.func27
theorem zB : Ar Tryz.prog 67 5 62 1 := ⟨Aap,by kernel_rfl⟩
theorem T62 : Ty Tryz.prog 62 false 1 := ⟨by kernel_rfl,by kernel_rfl⟩
abbrev C7 (a0 : Sq) : List Value := [Jint a0.1,Jint a0.2.1,Jint a0.2.2.1,Jint a0.2.2.2.1,Jint a0.2.2.2.2]
def C0 (p0 : Sq) (p1 : Int) (p2 : Int) : Option Sq := (if p1 = 4 then some (p2,p0.2.1,p0.2.2.1,p0.2.2.2.1,p0.2.2.2.2) else (ix ([p0.2.1,p0.2.2.1,p0.2.2.2.1,p0.2.2.2.2] : List Int) p1).bind fun x6 => some (p0.1,(if p1 = 0 then p2 else p0.2.1),(if p1 = 1 then p2 else p0.2.2.1),(if p1 = 2 then p2 else p0.2.2.2.1),(if p1 = 3 then p2 else p0.2.2.2.2))).bind fun (x1,x2,x3,x4,x5) => some (x1,(x2,x3,x4,x5))
theorem Qh (Y : Nat → Prop) (w0 : World)  (p0 : Sq) (p1 : Int) (p2 : Int) (r : Sq) (H : C0 p0 p1 p2 = some r)  :
    ca_ 28 #[.agg #[Jint p0.1,Jint p0.2.1,Jint p0.2.2.1,Jint p0.2.2.2.1,Jint p0.2.2.2.2],Jint p1,Jint p2] w0 fun e w' => e = .returned (.agg #[Jint r.1,Jint r.2.1,Jint r.2.2.1,Jint r.2.2.2.1,Jint r.2.2.2.2]) ∧ Below w0.heap.size w0 w' := by
 refine enter Tryz.func28 Aa Tryz.ntmps28 Aa fun a W => ?_
 have F := Stw.start Y w0
 unfold C0 at H
 refine vc tk 2 W F fun a w W F => ?_
 refine Ig (cs := (C7 p0)) W F Aa Aa Aa fun b1 a w W F => ?_
 refine Hm (cs := (W8)) W F Aa sJ Aa fun b2 a w W F => ?_
 refine Iu (Az ?_)
 obtain ⟨o1,G1,K1⟩ := Bz H
 refine Fx (fun a w => ∃ x1 : Int, ∃ x2 : Int, ∃ x3 : Int, ∃ x4 : Int, ∃ x5 : Int,some ((x1,x2,x3,x4,x5)) = some o1 ∧ Fr 16 [] [(3,pp b1),(6,pp b2)] a ∧ sy Y w0 [(b2,[Jint 0,Jint 0,Jint 0,Jint 0,Jint 0]),(b1,[Jint x1,Jint x2,Jint x3,Jint x4,Jint x5])] [] w) ?_ ?_
 ·
  have H := G1
  clear G1 K1
  refine vc tk 6 W F fun a w W F => ?_
  refine JP W Aa H (fun W H => ?_) fun W H => ?_
  ·
   refine vc tk 3 W F fun a w W F => ?_
   refine SK 1 W F Aa Aa Aa T3 Aa Aa Aa fun w F => ?_
   refine Iu (Az ?_)
   have F := F.frontM (i := 1) Aa Aa
   have F := F.frontM (i := 1) Aa Aa
   exact ⟨_,_,_,_,_,H,W.ra Aa,F⟩
  refine vc tk 4 W F fun a w W F => ?_
  obtain ⟨x6,h1,H⟩ := Bz H
  refine ls W F Aa (Gz (1 + (p1).toNat * 1) QX W Aa Aa Aa h1 Aa).q fun a w W F => ?_
  refine Qv (o := 1) (m := 4) (i := p1) (l := ([p0.2.1,p0.2.2.1,p0.2.2.2.1,p0.2.2.2.2] : List Int)) (x := x6) (cs := (C7 p0)) (cs' := [Jint p0.1,Jint (if p1 = 0 then p2 else p0.2.1),Jint (if p1 = 1 then p2 else p0.2.2.1),Jint (if p1 = 2 then p2 else p0.2.2.2.1),Jint (if p1 = 3 then p2 else p0.2.2.2.2)]) 1 W F Aa Aa Aa T3 Aa Aa Aa Aa h1 (by intro k hk hn; rw [hk]; match k,hn with | 0,_ => rfl | 1,_ => rfl | 2,_ => rfl | 3,_ => rfl | (z + 4),h => exact absurd h (by omega)) fun w F => ?_
  have F : sy Y w0 [(b2,(W8)),(b1,[Jint p0.1,Jint (if p1 = 0 then p2 else p0.2.1),Jint (if p1 = 1 then p2 else p0.2.2.1),Jint (if p1 = 2 then p2 else p0.2.2.2.1),Jint (if p1 = 3 then p2 else p0.2.2.2.2)])] [] w := F
  refine Iu (Az ?_)
  have F := F.frontM (i := 1) Aa Aa
  have F := F.frontM (i := 1) Aa Aa
  exact ⟨_,_,_,_,_,H,W.ra Aa,F⟩
 rintro a w ⟨x1,x2,x3,x4,x5,hj,W,F⟩
 have hj := Fj hj
 subst hj
 have H := K1
 clear G1 K1
 refine XG tk 3 [1] W F (ai fun a w W F => ?_)
 refine SK 0 W F Aa Aa Aa W9 Aa Aa Aa fun w F => ?_
 refine KR tk 2 W F fun a w W F => ?_
 refine De ?_
 have H := Fj H
 subst H
 refine EE (.inl Aa) W F Aa (Rc 0 W Aa Aa W9 Aa) ?_
 exact ⟨rfl,F.done⟩
abbrev K28 : Cn_ := ⟨yM,AaR,[],false,fun x => C0 x.1 x.2.1 x.2.2,none⟩
theorem k28 : KO K28 28 := KO.of ⟨fun args w => A9 Tryz.func28 rfl (by decide) args w⟩ rfl (fun _ => rfl) (fun _ => rfl) rfl (fun _ => rfl) (fun _ => rfl) (fun _ => rfl) (fun _ => rfl) fun Y w0 x r g H hg hk => (Qh Y w0  x.1 x.2.1 x.2.2 r H ).mono fun e w' h => ⟨(),h.1,Stw.ofB h.2⟩
theorem H28 : Has Tryz.prog 28 := Js Tryz.func28
def C5 (p0 : Int) : Bool := (decide (0 ≤ p0) && decide (p0 < 4))
abbrev yB : Cn_ := ⟨[DT],[KS],[],false,fun x => some (C5 x),some ⟨fun x => C5 x,fun _ => rfl⟩⟩
theorem Aa2 : KO (yB) 134 := Eb (ct := (.q (.j (.bl [2]) .d .d))) D6 BG Tryz.func134 (by kernel_rfl) fun x => by kernel_rfl
theorem MQ (Y : Nat → Prop) (w0 : World)  (p0 : Int) (r : Bool) (H : C5 p0 = r)  :
    ca_ 134 #[Jint p0] w0 fun e w' => e = .returned (.bool r) ∧ Below w0.heap.size w0 w' := Aa2.outP (Y := Y) (x := p0) (congrArg some H) rfl rfl rfl rfl rfl () trivial rfl trivial fun _ => rfl
theorem w6 : Has Tryz.prog 134 := Js Tryz.func134
abbrev Zg (a0 : Int × Int × Int × Int) : List Value := [Jint a0.1,Jint a0.2.1,Jint a0.2.2.1,Jint a0.2.2.2]
def Hw (p0 : Int × Int × Int × Int) (p1 : Int) : Option Int := (if (!(C5 p1)) = true then some 0 else (ix ([p0.1,p0.2.1,p0.2.2.1,p0.2.2.2] : List Int) p1).bind fun x1 => some x1)
theorem Vg (Y : Nat → Prop) (w0 : World)  (p0 : Int × Int × Int × Int) (p1 : Int) (r : Int) (H : Hw p0 p1 = some r)  :
    ca_ 145 #[.agg #[Jint p0.1,Jint p0.2.1,Jint p0.2.2.1,Jint p0.2.2.2],Jint p1] w0 fun e w' => e = .returned (Jint r) ∧ Below w0.heap.size w0 w' := by
 refine enter Tryz.func145 Aa Tryz.ntmps145 Aa fun a W => ?_
 have F := Stw.start Y w0
 unfold Hw at H
 refine vc tk 2 W F fun a w W F => ?_
 refine Ig (cs := (Zg p0)) W F Aa Aa Aa fun b1 a w W F => ?_
 refine KR tk 7 W F fun a w W F => ?_
 refine ls W F Aa (Gj (v := Value.bool (C5 p1)) W w6 Aa (fun w F => MQ any w p1 _ Aa)) fun a w W F => ?_
 refine KR tk 3 W F fun a w W F => ?_
 refine NG W Aa H (fun W H => ?_) fun W H => ?_
 ·
  refine vc tk 5 W F fun a w W F => ?_
  refine De (FW ?_)
  have H := Fj H
  subst H
  refine EE (.inl Aa) W F Aa (DJ W Aa) ?_
  exact ⟨rfl,F.done⟩
 refine jH tk 5 W F fun a w W F => ?_
 obtain ⟨x1,h1,H⟩ := Bz H
 refine ls W F Aa (Gz (0 + (p1).toNat * 1) QX W Aa Aa Aa h1 Aa).q fun a w W F => ?_
 refine ls W F Aa (ED (v := Jint x1) 0 W Aa Aa T3 (LN (base := 0) (m := 4) (l := [p0.1,p0.2.1,p0.2.2.1,p0.2.2.2]) (enc := Value.int .i64) Aa h1)).q fun a w W F => ?_
 refine KR tk 3 W F fun a w W F => ?_
 refine De ?_
 have H := Fj H
 subst H
 refine EE (.inl Aa) W F Aa (DJ W Aa) ?_
 exact ⟨rfl,F.done⟩
abbrev Aac : Cn_ := ⟨tH,t6,[],false,fun x => Hw x.1 x.2,none⟩
theorem y6 : KO Aac 145 := KO.of ⟨fun args w => A9 Tryz.func145 rfl (by decide) args w⟩ rfl (fun _ => rfl) (fun _ => rfl) rfl (fun _ => rfl) (fun _ => rfl) (fun _ => rfl) (fun _ => rfl) fun Y w0 x r g H hg hk => (Vg Y w0  x.1 x.2 r H ).mono fun e w' h => ⟨(),h.1,Stw.ofB h.2⟩
def JG (p0 : Int) (p1 : Int) (p2 : Int) (p3 : Int × Int × Int × Int) : Option Int := (if p0 = 4 then some p2 else (if p0 = 5 then some p1 else (if (D2 p0) = true then (Hw p3 p0).bind fun x1 => some x1 else some (-1))))
abbrev yH : Cn_ := ⟨[DT,DT,DT,Ya],[JR],[],false,fun x => JG x.1 x.2.1 x.2.2.1 x.2.2.2,none⟩
theorem yA : KO (yH) 132 := Eb (ct := .d) D6 (AH rT (AH y6 BG)) Tryz.func132 (by kernel_rfl) fun x => by kernel_rfl
def Bn (fRec_pred_arrival_satisfies : (Int × Sq) → Tr38 → Option Bool) (p0 : Int × Sq) (p1 : Tr38) : Option Bool := (fRec_pred_arrival_satisfies p0 p1).bind fun x1 => some (!x1)
def Jc (fRec_pred_arrival_satisfies : (Int × Sq) → Tr38 → Option Bool) (p0 : Int × Sq) (p1 : Tr38) : Option Bool := (fRec_pred_arrival_satisfies p0 (f38 p1)).bind fun x1 => some (!x1)
theorem MR : @Jc = @Bn := by
 unfold Jc Bn
 simp only [Tr38.re_eq]
abbrev AaN (h104 : TT te.c (Do Kb []) → Option (TT te.c (I0 Kb Qs [] false))) : Cn_ := ⟨[(.b true,[.d true (.pr I3 X4)]),Ol],[KS],[],false,fun x => Bn (fun yp0 yp1 => h104 (yp0,yp1)) x.1 x.2,none⟩
theorem wK (h104) (kh104 : KO (aY h104) 104) : KO (AaN h104) 133 := Eb (ct := .d) D6 (AH kh104 BG) Tryz.func133 (by kernel_rfl) fun x => by rw [← MR]; kernel_rfl
def Ai (fRec_pred_arrival_satisfies : (Int × Sq) → Tr38 → Option Bool) (p0 : List Tr38) (p1f0 : Int × Sq) : Int → Option (Int ⊕ (Unit ⊕ Int))
  | x1 => (if x1 < (p0.length : Int) then (ix p0 x1).bind fun x2 => ((Bn fRec_pred_arrival_satisfies) p1f0 x2).bind fun x3 => (if x3 = true then some (.inr (.inr x1)) else some (.inl (w64 (x1 + 1)))) else some (.inr (.inl ())))
def Aq (fRec_pred_arrival_satisfies : (Int × Sq) → Tr38 → Option Bool) (p0 : List Tr38) (p1f0 : Int × Sq) : Option Int := GO (Ah (Ai fRec_pred_arrival_satisfies p0 p1f0) 0) fun _ => some (-1)
def CE (fRec_pred_arrival_satisfies : (Int × Sq) → Tr38 → Option Bool) (p0 : List Tr38) (p1f0 : Int × Sq) : Int → Option (Int ⊕ (Unit ⊕ Int))
  | x1 => (if x1 < (p0.length : Int) then (ix p0 x1).bind fun x2 => ((Bn fRec_pred_arrival_satisfies) p1f0 (f38 x2)).bind fun x3 => (if x3 = true then some (.inr (.inr x1)) else some (.inl (w64 (x1 + 1)))) else some (.inr (.inl ())))
theorem FF : @CE = @Ai := by
 unfold CE Ai
 simp only [Tr38.re_eq]
def D4 (fRec_pred_arrival_satisfies : (Int × Sq) → Tr38 → Option Bool) (p0 : List Tr38) (p1f0 : Int × Sq) : Option Int := GO (Ah (CE fRec_pred_arrival_satisfies p0 p1f0) 0) fun _ => some (-1)
theorem Gi : @D4 = @Aq := by
 unfold D4 Aq
 simp only [FF]
abbrev rR (h104 : TT te.c (Do Kb []) → Option (TT te.c (I0 Kb Qs [] false))) : Cn_ := ⟨[Vn,(.fn 133 [(true,6)] 0,[.d true (.pr I3 X4)])],[JR],[],false,fun x => Aq (fun yp0 yp1 => h104 (yp0,yp1)) x.1 x.2,none⟩
theorem nN (h104) (kh104 : KO (aY h104) 104) : KO (rR h104) 139 := Eb (ct := (.q (.j (.st true ⟨[],[],[]⟩) (.q (.b (.l ⟨[(8,false,AG)],[],[]⟩ .d))) .d))) D6 (AH kh104 (AH (wK _ kh104) BG)) Tryz.func139 (by kernel_rfl) fun x => by rw [← Gi]; kernel_rfl
def Ax (fRec_pred_arrival_satisfies : (Int × Sq) → Tr38 → Option Bool) (p0 : List Tr38) (p1f0 : Int × Sq) : Option Bool := ((Aq fRec_pred_arrival_satisfies) p0 p1f0).bind fun x1 => some (decide (0 ≤ x1))
abbrev oW (h104 : TT te.c (Do Kb []) → Option (TT te.c (I0 Kb Qs [] false))) : Cn_ := ⟨[Vn,(.fn 133 [(true,6)] 0,[.d true (.pr I3 X4)])],[KS],[],false,fun x => Ax (fun yp0 yp1 => h104 (yp0,yp1)) x.1 x.2,none⟩
theorem qR (h104) (kh104 : KO (aY h104) 104) : KO (oW h104) 109 := Eb (ct := .d) D6 (AH kh104 (AH (nN _ kh104) BG)) Tryz.func109 (by kernel_rfl) fun x => by kernel_rfl
def Aj (fRec_pred_arrival_satisfies : (Int × Sq) → Tr38 → Option Bool) (p0 : List Tr38) (p1f0 : Int × Sq) : Int → Option (Int ⊕ (Unit ⊕ Int))
  | x1 => (if x1 < (p0.length : Int) then (ix p0 x1).bind fun x2 => (fRec_pred_arrival_satisfies p1f0 x2).bind fun x3 => (if x3 = true then some (.inr (.inr x1)) else some (.inl (w64 (x1 + 1)))) else some (.inr (.inl ())))
def Au (fRec_pred_arrival_satisfies : (Int × Sq) → Tr38 → Option Bool) (p0 : List Tr38) (p1f0 : Int × Sq) : Option Int := GO (Ah (Aj fRec_pred_arrival_satisfies p0 p1f0) 0) fun _ => some (-1)
def CD (fRec_pred_arrival_satisfies : (Int × Sq) → Tr38 → Option Bool) (p0 : List Tr38) (p1f0 : Int × Sq) : Int → Option (Int ⊕ (Unit ⊕ Int))
  | x1 => (if x1 < (p0.length : Int) then (ix p0 x1).bind fun x2 => (fRec_pred_arrival_satisfies p1f0 (f38 x2)).bind fun x3 => (if x3 = true then some (.inr (.inr x1)) else some (.inl (w64 (x1 + 1)))) else some (.inr (.inl ())))
theorem FG : @CD = @Aj := by
 unfold CD Aj
 simp only [Tr38.re_eq]
def D5 (fRec_pred_arrival_satisfies : (Int × Sq) → Tr38 → Option Bool) (p0 : List Tr38) (p1f0 : Int × Sq) : Option Int := GO (Ah (CD fRec_pred_arrival_satisfies p0 p1f0) 0) fun _ => some (-1)
theorem Gf : @D5 = @Au := by
 unfold D5 Au
 simp only [FG]
abbrev nM (h104 : TT te.c (Do Kb []) → Option (TT te.c (I0 Kb Qs [] false))) : Cn_ := ⟨[Vn,(.fn 104 [(true,6)] 0,[.d true (.pr I3 X4)])],[JR],[],false,fun x => Au (fun yp0 yp1 => h104 (yp0,yp1)) x.1 x.2,none⟩
theorem rI (h104) (kh104 : KO (aY h104) 104) : KO (nM h104) 139 := Eb (ct := (.q (.j (.st true ⟨[],[],[]⟩) (.q (.b (.l ⟨[(8,false,AG)],[],[]⟩ .d))) .d))) D6 (AH kh104 BG) Tryz.func139 (by kernel_rfl) fun x => by rw [← Gf]; kernel_rfl
def Av (fRec_pred_arrival_satisfies : (Int × Sq) → Tr38 → Option Bool) (p0 : List Tr38) (p1f0 : Int × Sq) : Option Bool := ((Au fRec_pred_arrival_satisfies) p0 p1f0).bind fun x1 => some (decide (0 ≤ x1))
abbrev pL (h104 : TT te.c (Do Kb []) → Option (TT te.c (I0 Kb Qs [] false))) : Cn_ := ⟨[Vn,(.fn 104 [(true,6)] 0,[.d true (.pr I3 X4)])],[KS],[],false,fun x => Av (fun yp0 yp1 => h104 (yp0,yp1)) x.1 x.2,none⟩
theorem nR (h104) (kh104 : KO (aY h104) 104) : KO (pL h104) 109 := Eb (ct := .d) D6 (AH kh104 (AH (rI _ kh104) BG)) Tryz.func109 (by kernel_rfl) fun x => by kernel_rfl
def A3 (fRec : (Int × Sq) → Tr38 → Option Bool) (p0 : Int × Sq) (p1 : Tr38) : Option Bool := (if p1.un.1 = 1 then some true else (if p1.un.1 = 3 then (if (D2 p1.un.2.1) = true then (JG p1.un.2.1 p0.1 p0.2.1 p0.2.2).bind fun x2 => some (decide (x2 = p1.un.2.2.1)) else some false).bind fun x1 => some x1 else (if p1.un.1 = 4 then (if 0 < (p1.un.2.2.2.length : Int) then (ix p1.un.2.2.2 0).bind fun x4 => ((Bn fRec) p0 x4).bind fun x5 => some x5 else some false).bind fun x3 => some x3 else (if p1.un.1 = 5 then ((Ax fRec) p1.un.2.2.2 p0).bind fun x6 => some (!x6) else (if p1.un.1 = 6 then ((Av fRec) p1.un.2.2.2 p0).bind fun x7 => some x7 else some false)))))
def AW : Nat → (Int × Sq) → Tr38 → Option Bool
  | 0 => fun _ _ => none
  | n + 1 => A3 (AW n)
def Dl (p0 : Int × Sq) (p1 : Tr38) : Option Bool := Hc fun n => AW n p0 p1
def GA (fRec : (Int × Sq) → Tr38 → Option Bool) (p0 : Int × Sq) (p1 : Tr38) : Option Bool := (if p1.un.1 = 1 then some true else (if p1.un.1 = 3 then (if (D2 p1.un.2.1) = true then (JG p1.un.2.1 p0.1 p0.2.1 p0.2.2).bind fun x2 => some (decide (x2 = p1.un.2.2.1)) else some false).bind fun x1 => some x1 else (if p1.un.1 = 4 then (if 0 < (p1.un.2.2.2.length : Int) then (ix p1.un.2.2.2 0).bind fun x4 => ((Bn fRec) p0 (f38 x4)).bind fun x5 => some x5 else some false).bind fun x3 => some x3 else (if p1.un.1 = 5 then ((Ax fRec) p1.un.2.2.2 p0).bind fun x6 => some (!x6) else (if p1.un.1 = 6 then ((Av fRec) p1.un.2.2.2 p0).bind fun x7 => some x7 else some false)))))
theorem Jh : @GA = @A3 := by
 unfold GA A3
 simp only [Tr38.re_eq]
theorem zM : KO (aY fun x => Dl x.1 x.2) 104 := Tp (E := te) (xs := Kb) (ys := Qs) (bs := []) (io := false) (nn := fun n x => AW n x.1 x.2) (st := fun g x => A3 (fun yp0 yp1 => g (yp0,yp1)) x.1 x.2) Tryz.func104 rfl (by kernel_rfl) (fun _ => rfl) (fun _ => rfl) fun g hg => Eb (ct := (.q (.s (.q (.b (.q (.c .d (.q (.c (.j (.st false ⟨[(4,false,Ea)],[],[]⟩) .d .d) (.q (.c (.j (.st false ⟨[(4,false,Ea)],[],[]⟩) .d .d) .d)))))))) .d))) D6 (AH hg (AH rT (AH yA (AH (wK _ hg) (AH (qR _ hg) (AH (nR _ hg) BG)))))) Tryz.func104 (by kernel_rfl) fun x => by rw [← Jh]; kernel_rfl
def Fm (p0 : Tr38) (p1 : Int) (p2 : Int) (p3 : Int × Int × Int × Int) : Option Bool := (Dl (p1,p2,p3) p0).bind fun x1 => some x1
def Rk (p0 : Tr38) (p1 : Int) (p2 : Int) (p3 : Int × Int × Int × Int) : Option Bool := (Dl (p1,p2,p3) (f38 p0)).bind fun x1 => some x1
theorem WZ : @Rk = @Fm := by
 unfold Rk Fm
 simp only [Tr38.re_eq]
abbrev K72 : Cn_ := ⟨[Ol,DT,DT,Ya],[KS],[],false,fun x => Fm x.1 x.2.1 x.2.2.1 x.2.2.2,none⟩
theorem k72 : KO (K72) 72 := Eb (ct := .d) D6 (AH zM BG) Tryz.func72 (by kernel_rfl) fun x => by rw [← WZ]; kernel_rfl
theorem Ww (Y : Nat → Prop) (w0 : World) (v1 : Value) (p0 : Tr38) (p1 : Int) (p2 : Int) (p3 : Int × Int × Int × Int) (r : Bool) (H : Fm p0 p1 p2 p3 = some r) (h_v1 : Sl w0 (NX []) Lv v1 p0.un.2.2.2) :
    ca_ 72 #[.agg #[Jint p0.un.1,Jint p0.un.2.1,Jint p0.un.2.2.1,v1],Jint p1,Jint p2,.agg #[Jint p3.1,Jint p3.2.1,Jint p3.2.2.1,Jint p3.2.2.2]] w0 fun e w' => e = .returned (.bool r) ∧ Below w0.heap.size w0 w' := k72.outP (Y := Y) (x := (p0,p1,p2,p3)) H rfl rfl rfl rfl rfl (v1,()) ⟨h_v1,trivial⟩ rfl trivial fun _ => rfl
theorem xF : type_of% Tryz.underlying114 := Tryz.underlying114
theorem H72 : Has Tryz.prog 72 := Js Tryz.func72
abbrev CW (x : Sq) : Value := .agg #[Jint x.1,Jint x.2.1,Jint x.2.2.1,Jint x.2.2.2.1,Jint x.2.2.2.2]
abbrev Z9 (x : Sq) : List Int := [x.1,x.2.1,x.2.2.1,x.2.2.2.1,x.2.2.2.2]
abbrev AL (x y : Sq) : Bool := G9 (Z9 x) (Z9 y)
theorem H7 : Lo AL := qI Z9 5 (fun _ => rfl) fun x y h => by simp only [Z9,List.cons.injEq] at h; simp only [Prod.ext_iff,h,and_self]
theorem kN : Bt Tryz.prog 114 [] [] := ⟨⟨.agg #[],by kernel_rfl,rfl⟩,⟨_,xF,fun w => by kernel_rfl⟩⟩
instance : DecidableEq (Int × Int) := inferInstance
instance : DecidableEq (Int × Int × Int) := inferInstance
instance : DecidableEq (Int × Int × Int × Int) := inferInstance
instance : DecidableEq Sq := inferInstance
theorem lB : KeyEnc Tryz.prog 60 CW := ⟨⟨_,Mu,.inl fun _ _ => rfl⟩,fun x y w => (xR x.1 x.2.1 x.2.2.1 x.2.2.2.1 x.2.2.2.2 y.1 y.2.1 y.2.2.1 y.2.2.2.1 y.2.2.2.2 w).trans (by congr 1; exact decide_eq_decide.2 (by simp only [Prod.ext_iff,and_assoc])),fun b x w => by kernel_rfl,fun x => by simp [Instr.sameBits]⟩
theorem Z29 : (Tryz.prog.info? 29).bind (·.zero) = some (.agg #[Jint 0,Jint 0,Jint 0,Jint 0]) := by kernel_rfl
def Gs (p0 : Int) (p1 : Int) : Option Bool := (if 0 ≤ p1 then (Hq p0).bind fun x2 => some (decide (p1 ≤ x2)) else some false).bind fun x1 => some x1
abbrev yW : Cn_ := ⟨[DT,DT],[KS],[],false,fun x => Gs x.1 x.2,none⟩
theorem Aan : KO (yW) 135 := Eb (ct := (.q (.j (.st false ⟨[(4,false,Ea)],[],[]⟩) .d .d))) D6 (AH sP BG) Tryz.func135 (by kernel_rfl) fun x => by kernel_rfl
theorem T4 (Y : Nat → Prop) (w0 : World)  (p0 : Int) (p1 : Int) (r : Bool) (H : Gs p0 p1 = some r)  :
    ca_ 135 #[Jint p0,Jint p1] w0 fun e w' => e = .returned (.bool r) ∧ Below w0.heap.size w0 w' := Aan.outP (Y := Y) (x := (p0,p1)) H rfl rfl rfl rfl rfl () trivial rfl trivial fun _ => rfl
theorem yS : Has Tryz.prog 135 := Js Tryz.func135
abbrev nA  : List Value := [Jint 0,Jint 0,Jint 0,Jint 0]
def FK (p0 : Int × Int × Int × Int) (p1 : Int) (p2 : Int) : Option (Int × Int × Int × Int) := ((if (C5 p1) = true then (Gs p1 p2).bind fun x6 => some x6 else some false).bind fun x5 => (if x5 = true then (ix ([p0.1,p0.2.1,p0.2.2.1,p0.2.2.2] : List Int) p1).bind fun x7 => some ((if p1 = 0 then p2 else p0.1),(if p1 = 1 then p2 else p0.2.1),(if p1 = 2 then p2 else p0.2.2.1),(if p1 = 3 then p2 else p0.2.2.2)) else some (p0.1,p0.2.1,p0.2.2.1,p0.2.2.2))).bind fun (x1,x2,x3,x4) => some (x1,x2,x3,x4)
theorem TO (Y : Nat → Prop) (w0 : World)  (p0 : Int × Int × Int × Int) (p1 : Int) (p2 : Int) (r : (Int × Int × Int × Int)) (H : FK p0 p1 p2 = some r)  :
    ca_ 105 #[.agg #[Jint p0.1,Jint p0.2.1,Jint p0.2.2.1,Jint p0.2.2.2],Jint p1,Jint p2] w0 fun e w' => e = .returned (.agg #[Jint r.1,Jint r.2.1,Jint r.2.2.1,Jint r.2.2.2]) ∧ Below w0.heap.size w0 w' := by
 refine enter Tryz.func105 Aa Tryz.ntmps105 Aa fun a W => ?_
 have F := Stw.start Y w0
 unfold FK at H
 refine vc tk 2 W F fun a w W F => ?_
 refine Ig (cs := (Zg p0)) W F Aa Aa Aa fun b1 a w W F => ?_
 refine Hm (cs := (nA)) W F Aa Z29 Aa fun b2 a w W F => ?_
 refine Iu (Az ?_)
 obtain ⟨o1,G1,K1⟩ := Bz H
 refine Fx (fun a w => ∃ x1 : Int, ∃ x2 : Int, ∃ x3 : Int, ∃ x4 : Int,some ((x1,x2,x3,x4)) = some o1 ∧ Fr 18 [] [(3,pp b1),(6,pp b2)] a ∧ sy Y w0 [(b2,[Jint 0,Jint 0,Jint 0,Jint 0]),(b1,[Jint x1,Jint x2,Jint x3,Jint x4])] [] w) ?_ ?_
 ·
  have H := G1
  clear G1 K1
  obtain ⟨o2,G2,K2⟩ := Bz H
  refine Fx (fun a w => ∃ x5 : Bool,some (x5) = some o2 ∧ Fr 18 [] [(1,Jint p1),(2,Jint p2),(3,pp b1),(6,pp b2),(13,.bool x5)] a ∧ sy Y w0 [(b2,[Jint 0,Jint 0,Jint 0,Jint 0]),(b1,[Jint p0.1,Jint p0.2.1,Jint p0.2.2.1,Jint p0.2.2.2])] [] w) ?_ ?_
  ·
   have H := G2
   clear G2 K2
   refine vc tk 2 W F fun a w W F => ?_
   refine ls W F Aa (Gj (v := Value.bool (C5 p1)) W w6 Aa (fun w F => MQ any w p1 _ Aa)) fun a w W F => ?_
   refine ls W F Aa (En W Aa).q fun a w W F => ?_
   rcases bxq (C5 p1) with hb | hb
   ·
    have H := Wi hb H
    rw [hb] at W
    clear hb
    refine vl tk 2 W F fun a w W F => ?_
    refine rX (BP W Aa Aa Aa Aa) ?_
    obtain ⟨x6,h1,H⟩ := Bz H
    refine ls W F Aa (Gj (v := Value.bool x6) W yS Aa (fun w F => T4 any w p1 p2 _ h1)) fun a w W F => ?_
    refine vl tk 2 W F fun a w W F => ?_
    refine Az ?_
    have F := F.frontM (i := 1) Aa Aa
    have F := F.frontM (i := 1) Aa Aa
    exact ⟨_,H,W.ra Aa,F⟩
   have H := Wb (by rw [hb]; decide) H
   rw [hb] at W
   clear hb
   refine vl tk 5 W F fun a w W F => ?_
   refine Az ?_
   have F := F.frontM (i := 1) Aa Aa
   have F := F.frontM (i := 1) Aa Aa
   exact ⟨_,H,W.ra Aa,F⟩
  rintro a w ⟨x5,hj,W,F⟩
  have hj := Fj hj
  subst hj
  have H := K2
  clear G2 K2
  refine NG W Aa H (fun W H => ?_) fun W H => ?_
  ·
   refine vc tk 3 W F fun a w W F => ?_
   obtain ⟨x7,h2,H⟩ := Bz H
   refine ls W F Aa (Gz (0 + (p1).toNat * 1) QX W Aa Aa Aa h2 Aa).q fun a w W F => ?_
   refine Qv (o := 0) (m := 4) (i := p1) (l := ([p0.1,p0.2.1,p0.2.2.1,p0.2.2.2] : List Int)) (x := x7) (cs := (Zg p0)) (cs' := [Jint (if p1 = 0 then p2 else p0.1),Jint (if p1 = 1 then p2 else p0.2.1),Jint (if p1 = 2 then p2 else p0.2.2.1),Jint (if p1 = 3 then p2 else p0.2.2.2)]) 1 W F Aa Aa Aa T3 Aa Aa Aa Aa h2 (by intro k hk hn; rw [hk]; match k,hn with | 0,_ => rfl | 1,_ => rfl | 2,_ => rfl | 3,_ => rfl | (z + 4),h => exact absurd h (by omega)) fun w F => ?_
   have F : sy Y w0 [(b2,(nA)),(b1,[Jint (if p1 = 0 then p2 else p0.1),Jint (if p1 = 1 then p2 else p0.2.1),Jint (if p1 = 2 then p2 else p0.2.2.1),Jint (if p1 = 3 then p2 else p0.2.2.2)])] [] w := F
   refine Iu (Az ?_)
   have F := F.frontM (i := 1) Aa Aa
   have F := F.frontM (i := 1) Aa Aa
   exact ⟨_,_,_,_,H,W.ra Aa,F⟩
  refine E0 (Az ?_)
  have F := F.frontM (i := 1) Aa Aa
  have F := F.frontM (i := 1) Aa Aa
  exact ⟨_,_,_,_,H,W.ra Aa,F⟩
 rintro a w ⟨x1,x2,x3,x4,hj,W,F⟩
 have hj := Fj hj
 subst hj
 have H := K1
 clear G1 K1
 refine XG tk 3 [1] W F (ai fun a w W F => ?_)
 refine SK 0 W F Aa Aa Aa ZR Aa Aa Aa fun w F => ?_
 refine KR tk 2 W F fun a w W F => ?_
 refine De ?_
 have H := Fj H
 subst H
 refine EE (.inl Aa) W F Aa (Rc 0 W Aa Aa ZR Aa) ?_
 exact ⟨rfl,F.done⟩
abbrev zT : Cn_ := ⟨uF,tA,[],false,fun x => FK x.1 x.2.1 x.2.2,none⟩
theorem AaX : KO zT 105 := KO.of ⟨fun args w => A9 Tryz.func105 rfl (by decide) args w⟩ rfl (fun _ => rfl) (fun _ => rfl) rfl (fun _ => rfl) (fun _ => rfl) (fun _ => rfl) (fun _ => rfl) fun Y w0 x r g H hg hk => (TO Y w0  x.1 x.2.1 x.2.2 r H ).mono fun e w' h => ⟨(),h.1,Stw.ofB h.2⟩
def DE (p0 : Sq) (p1 : Int) (p2 : Int) : Option Sq := (if p1 = 4 then some p2 else some p0.1).bind fun x1 => (FK p0.2 p1 p2).bind fun x2 => some (x1,x2)
abbrev K73 : Cn_ := ⟨[P3,DT,DT],[(.b true,[.d false X4])],[],false,fun x => DE x.1 x.2.1 x.2.2,none⟩
theorem k73 : KO (K73) 73 := Eb (ct := (.q (.j (.st false ⟨[],[(0,[some (.d false I3),none,none,none,none])],[]⟩) .d .d))) D6 (AH AaX BG) Tryz.func73 (by kernel_rfl) fun x => by kernel_rfl
theorem OG (Y : Nat → Prop) (w0 : World)  (p0 : Sq) (p1 : Int) (p2 : Int) (r : Sq) (H : DE p0 p1 p2 = some r)  :
    ca_ 73 #[.agg #[Jint p0.1,Jint p0.2.1,Jint p0.2.2.1,Jint p0.2.2.2.1,Jint p0.2.2.2.2],Jint p1,Jint p2] w0 fun e w' => e = .returned (.agg #[Jint r.1,Jint r.2.1,Jint r.2.2.1,Jint r.2.2.2.1,Jint r.2.2.2.2]) ∧ Below w0.heap.size w0 w' := k73.outP (Y := Y) (x := (p0,p1,p2)) H rfl rfl rfl rfl rfl () trivial rfl trivial fun _ => rfl
theorem XP : type_of% Tryz.underlying86 := Tryz.underlying86
theorem H73 : Has Tryz.prog 73 := Js Tryz.func73
theorem xQ : Has Tryz.prog 44 := Js Tryz.func44
theorem cO (Y : Nat → Prop) (X : List Nat) (w0 : World) (v0 v1 : Value) (s0 s1 : List Sq) (hL : Stw ⟨Y,X,w0⟩ [] [Ch v0 CW AL s0,Ch v1 CW AL s1] w0) :
    ca_ 75 #[v0,v1] w0 fun e w' => ∃ x : Unit,e = .returned (.tuple #[]) ∧ Stw ⟨Y,X,w0⟩ [] [Ch v1 CW AL s1,Ch v0 CW AL (On AL s0 s1)] w' := by
  refine enter Tryz.func75 Aa Tryz.ntmps75 Aa fun a W => ?_
  have hA : J3 AL s0 := hL.asc (i := 0) Aa
  refine N8 (KZ (l := [_,_]) ?_)
  refine ls W hL Aa (En W Aa).q fun a w W F => ?_
  refine Ok (q := 1) W F Aa Aa Aa Aa XP fun i b es clock l a w hv hE W F => ?_
  refine Iu (Az (PG ?_))
  refine Ux (fun done s => s = On AL s0 done) (fun _ => [(0,v0)]) (fun s => [Ch v0 CW AL s]) (W.ra Aa) F hE Aa Aa Aa (fun done kx s seen a w hk hc hR W F => ?_) fun done s seen a w hp hR W F => ?_
  · refine PG (N8 (KZ (l := [_,_,_,_]) ?_))
    refine ls W F Aa (Ou (q := 0) (q' := 1) W Aa Aa Aa hc).q fun a w W F => ?_
    refine ls W F Aa (HN (vs := [CW kx,.agg #[]]) W Aa Aa).q fun a w W F => ?_
    refine Hm W F Aa sJ Aa fun b2 a w W F => ?_
    refine PJ 0 W F Aa Aa Aa W9 Aa Aa Aa Aa Aa fun w F => ?_
    refine Iu (Az (KZ (l := [_,_,_,_]) ?_))
    refine Uv tk 2 [0] W F (ai fun a w W F => ?_)
    refine ls W F Aa (H8 (zs := []) (cs := []) (parts := []) (vp := []) (v := .agg #[]) kN W Aa Aa Aa).q fun a w W F => ?_
    refine eC (q := 2) kx W F Aa Aa Aa Aa Aa lB H7 XP fun w F => ?_
    refine Iu (EF (Az ⟨_, ?_,W.ra Aa,(F.frontZ (i := 2) Aa Aa |>.frontZ (i := 2) Aa Aa |>.sub nl sr)⟩))
    rw [hR]; simp only [On,List.foldl_append,List.foldl_cons,List.foldl_nil]
  · have F := F.unfix hE
    rw [← hv] at F
    rw [hR,iO H7 hA hp] at F
    refine GF (mH (.inr Aa) W Aa ?_)
    exact ⟨(),Aa,F⟩
theorem H75 : Has Tryz.prog 75 := Js Tryz.func75
abbrev Ue (a0 : Nat) (a1 : Sq) : List (Nat × List Value) := [(a0,[Jint a1.1,Jint a1.2.1,Jint a1.2.2.1,Jint a1.2.2.2.1,Jint a1.2.2.2.2])]
def Cf (fRec_policy_results : Tr41 → Int → Sq → Option (List Sq)) (p1 : Int) (x4 : Tr41) (kx5156 : Sq) : Option (List Sq) := (fRec_policy_results (Tr41.of (x4.un.1,f38 x4.un.2.1,x4.un.2.2.1,x4.un.2.2.2.1,x4.un.2.2.2.2)) p1 kx5156).bind fun x6 => some x6
def Br (fRec_policy_results : Tr41 → Int → Sq → Option (List Sq)) (p0 : List Tr41) (p1 : Int) : ((List Sq) × Int) → Option (((List Sq) × Int) ⊕ (List Sq))
  | (x2,x3) => (if x3 < (p0.length : Int) then (ix p0 x3).bind fun x4 => (JU AL (Cf fRec_policy_results p1 x4) x2 ([] : List Sq)).bind fun x5 => some (.inl (x5,w64 (x3 + 1))) else some (.inr x2))
def Cr (fRec_policy_results : Tr41 → Int → Sq → Option (List Sq)) (p0 : List Tr41) (p1 : Int) (p2 : Sq) : Option (List Sq) := (Ah (Br fRec_policy_results p0 p1) ((F9 AL ([] : List Sq) p2),0)).bind fun x1 => some x1
theorem Nx (fRec_policy_results : Tr41 → Int → Sq → Option (List Sq)) (ih_policy_results : ∀ (Y : Nat → Prop) (w0 : World) (v1 : Value) (v2 : Value) (p0 : Tr41) (p1 : Int) (p2 : Sq) (r : (List Sq)) (H : fRec_policy_results p0 p1 p2 = some r) (s_v1 : Sl w0 Y Lv v1 p0.un.2.1.un.2.2.2) (s_v2 : Sl w0 Y LD v2 p0.un.2.2.2.2),ca_ 44 #[.agg #[Jint p0.un.1,Jint p0.un.2.1.un.1,Jint p0.un.2.1.un.2.1,Jint p0.un.2.1.un.2.2.1,v1,Jint p0.un.2.2.1,Jint p0.un.2.2.2.1,v2],Jint p1,.agg #[Jint p2.1,Jint p2.2.1,Jint p2.2.2.1,Jint p2.2.2.2.1,Jint p2.2.2.2.2]] w0 fun e w' => ∃ x : Value,e = .returned (x) ∧ sy Y w0 [] [Ch (x) CW AL r] w') (Y : Nat → Prop) (w0 : World) (v1 : Value) (p0 : List Tr41) (p1 : Int) (p2 : Sq) (r : (List Sq)) (H : Cr fRec_policy_results p0 p1 p2 = some r) (s_v1 : Sl w0 Y LD v1 p0) :
    ca_ 74 #[v1,Jint p1,.agg #[Jint p2.1,Jint p2.2.1,Jint p2.2.2.1,Jint p2.2.2.2.1,Jint p2.2.2.2.2]] w0 fun e w' => ∃ x : Value,e = .returned (x) ∧ sy Y w0 [] [Ch (x) CW AL r] w' := by
 refine enter Tryz.func74 Aa Tryz.ntmps74 Aa fun a W => ?_
 have F := Stw.start Y w0
 obtain ⟨v2,h1,s_v1⟩ := s_v1.ex O0
 have h_v1 := F.nx s_v1
 unfold Cr at H
 refine vc tk 2 W F fun a w W F => ?_
 refine Ig (cs := (C7 p2)) W F Aa Aa Aa fun b1 a w W F => ?_
 refine KR tk 5 W F fun a w W F => ?_
 refine Jq CW AL W F Aa fun v3 a w W F => ?_
 have F : sy Y w0 (Ue b1 p2) [Ch v3 CW AL ([] : List Sq)] w := F
 refine ls W F Aa (ED (v := Value.agg #[Jint p2.1,Jint p2.2.1,Jint p2.2.2.1,Jint p2.2.2.2.1,Jint p2.2.2.2.2]) 0 W Aa Aa W9 Aa).q fun a w W F => ?_
 refine ls W F Aa (H8 (v := Value.agg #[]) kN W Aa Aa Aa).q fun a w W F => ?_
 refine l_setput' (q := 0) (p2 : Sq) W F Aa Aa Aa Aa Aa lB H7 XP fun w F => ?_
 have F : sy Y w0 (Ue b1 p2) [Ch v3 CW AL (F9 AL ([] : List Sq) p2)] w := F
 refine vl tk 3 W F fun a w W F => ?_
 refine Az ?_
 obtain ⟨o1,G1,K1⟩ := Bz H
 refine Fx (fun a w => ∃ x1 : List Sq, ∃ v4 : Value,some (x1) = some o1 ∧ Fr 38 [] [(6,.map none),(7,v4)] a ∧ sy Y w0 (Ue b1 p2) [Ch v4 CW AL x1] w) ?_ ?_
 ·
  have H := G1
  clear G1 K1
  refine vc tk 3 W F fun a w W F => ?_
  refine ls W F Aa (NJ (r := LD) (l := p0) qV Aa W Aa (HZ O0 h1 (Dg h_v1))).q fun a w W F => ?_
  refine KR tk 4 W F fun a w W F => ?_
  refine Jf H (fun s a w => ∃ v5 : Value,Fr 38 [] [(1,Jint p1),(6,.map none),(7,v5),(16,v1),(17,Jint (p0.length : Int)),(18,Jint s.2)] a ∧ sy Y w0 (Ue b1 p2) [Ch v5 CW AL s.1] w) ⟨(v3),W.ra Aa,F⟩ fun s o a w H L2 hR => ?_
  obtain ⟨x2,x3⟩ := s
  obtain ⟨v5,W,F⟩ := hR
  have W : Fr 38 [] [(1,Jint p1),(6,.map none),(7,v5),(16,v1),(17,Jint (p0.length : Int)),(18,Jint x3)] a := W
  have F : sy Y w0 (Ue b1 p2) [Ch v5 CW AL x2] w := F
  rw [Br] at H
  refine vc tk 6 W F fun a w W F => ?_
  refine JP W Aa H (fun W H => ?_) fun W H => ?_
  ·
   refine jH tk 6 W F fun a w W F => ?_
   obtain ⟨x4,h2,H⟩ := Bz H
   obtain ⟨v6,h3,h4⟩ := Uu h1 h2
   have h5 : fD v6 = [Jint x4.un.1,Jint x4.un.2.1.un.1,Jint x4.un.2.1.un.2.1,Jint x4.un.2.1.un.2.2.1,(v6.2.1.2.2.2.1),Jint x4.un.2.2.1,Jint x4.un.2.2.2.1,(v6.2.2.2.2.1)] := congrArg (fun q : Tr41 => ([Jint q.un.1,Jint q.un.2.1.un.1,Jint q.un.2.1.un.2.1,Jint q.un.2.1.un.2.2.1,(v6.2.1.2.2.2.1),Jint q.un.2.2.1,Jint q.un.2.2.2.1,(v6.2.2.2.2.1)] : List Value)) h4
   refine ls W F Aa (Hj (r := cW) xS W Aa Aa (Dg h_v1) h3).q fun a w W F => ?_
   refine ls W F Aa (EM (y := Value.agg #[Jint x4.un.1,Jint x4.un.2.1.un.1,Jint x4.un.2.1.un.2.1,Jint x4.un.2.1.un.2.2.1,(v6.2.1.2.2.2.1),Jint x4.un.2.2.1,Jint x4.un.2.2.2.1,(v6.2.2.2.2.1)]) (j := 0) (i := x3) (enc := fD) W Aa Aa (Dg h_v1) h3 wL lA (by rw [h5]; rfl)).q fun a w W F => ?_
   refine Hm (cs := (W6)) W F Aa sC Aa fun b2 a w W F => ?_
   refine SK 0 W F Aa Aa Aa lA Aa Aa (Bi Aa (Bi Aa (Bi Aa (Bi Aa (Bi ((MP (Dg h_v1) h3 (CP.snd (CP.fst (CP.snd (CP.snd (CP.snd CP.here))))) (congrArg (fun q : Tr41 => q.un.2.1.un.2.2.2) h4)) _ F).one (Bi Aa (Bi Aa (Bi ((MP (Dg h_v1) h3 (CP.snd (CP.snd (CP.snd (CP.snd CP.here)))) (congrArg (fun q : Tr41 => q.un.2.2.2.2) h4)) _ F).one Pp)))))))) fun w F => ?_
   refine KR tk 4 W F fun a w W F => ?_
   refine Jq CW AL W F Aa fun v7 a w W F => ?_
   have F : sy Y w0 [(b2,[Jint x4.un.1,Jint x4.un.2.1.un.1,Jint x4.un.2.1.un.2.1,Jint x4.un.2.1.un.2.2.1,(v6.2.1.2.2.2.1),Jint x4.un.2.2.1,Jint x4.un.2.2.2.1,(v6.2.2.2.2.1)]),(b1,(C7 p2))] [Ch v7 CW AL ([] : List Sq),Ch v5 CW AL x2] w := F
   refine KR tk 7 W F fun a w W F => ?_
   refine Ok (q := 1) W F Aa Aa Aa Aa XP fun i5156 m5156 e5156 c5156 l5156 a w hv5156 hE5156 W F => ?_
   have F : sy Y w0 [(b2,[Jint x4.un.1,Jint x4.un.2.1.un.1,Jint x4.un.2.1.un.2.1,Jint x4.un.2.1.un.2.2.1,(v6.2.1.2.2.2.1),Jint x4.un.2.2.1,Jint x4.un.2.2.2.1,(v6.2.2.2.2.1)]),(b1,(C7 p2))] [Hr i5156 m5156 c5156 #[] c5156,GU m5156 e5156 c5156,Ch v7 CW AL ([] : List Sq)] w := F
   refine KR tk 3 W F fun a w W F => ?_
   obtain ⟨x5,h6,H⟩ := Bz H
   refine g8 (Ff := [(1,Jint p1),(6,.map none),(7,v5),(9,pp b2),(10,v7),(16,v1),(17,Jint (p0.length : Int)),(18,Jint x3),(19,.bool true),(21,.agg #[Jint x4.un.1,Jint x4.un.2.1.un.1,Jint x4.un.2.1.un.2.1,Jint x4.un.2.1.un.2.2.1,(v6.2.1.2.2.2.1),Jint x4.un.2.2.1,Jint x4.un.2.2.2.1,(v6.2.2.2.2.1)]),(22,v7),(23,v5)]) (Zr := []) (va := v7) H7 h6 (W.ra Aa) F hv5156 hE5156 Aa Aa (fun kx5156 r5156 s5156 sn5156 a w G5156_ hc5156 W F => ?_) fun a w W F => ?_
   ·
    have W : Fr 38 [] [(1,Jint p1),(6,.map none),(7,v5),(9,pp b2),(10,v7),(16,v1),(17,Jint (p0.length : Int)),(18,Jint x3),(19,.bool true),(21,.agg #[Jint x4.un.1,Jint x4.un.2.1.un.1,Jint x4.un.2.1.un.2.1,Jint x4.un.2.1.un.2.2.1,(v6.2.1.2.2.2.1),Jint x4.un.2.2.1,Jint x4.un.2.2.2.1,(v6.2.2.2.2.1)]),(22,v7),(23,v5),(24,pp i5156),(25,.tuple #[.bool true,.agg #[Jint kx5156.1,Jint kx5156.2.1,Jint kx5156.2.2.1,Jint kx5156.2.2.2.1,Jint kx5156.2.2.2.2],.agg #[]]),(26,.bool true)] a := W.ra Aa
    have F : sy Y w0 [(b2,[Jint x4.un.1,Jint x4.un.2.1.un.1,Jint x4.un.2.1.un.2.1,Jint x4.un.2.1.un.2.2.1,(v6.2.1.2.2.2.1),Jint x4.un.2.2.1,Jint x4.un.2.2.2.1,(v6.2.2.2.2.1)]),(b1,(C7 p2))] [Hr i5156 m5156 c5156 sn5156 c5156,GU m5156 e5156 c5156,Ch v7 CW AL s5156] w := F
    have H := G5156_
    rw [Cf] at H
    refine vc tk 3 W F fun a w W F => ?_
    refine ls W F Aa (Ou (q := 0) (q' := 1) W Aa Aa Aa hc5156).q fun a w W F => ?_
    refine ls W F Aa (HN (v := Value.agg #[Jint kx5156.1,Jint kx5156.2.1,Jint kx5156.2.2.1,Jint kx5156.2.2.2.1,Jint kx5156.2.2.2.2]) W Aa Aa).q fun a w W F => ?_
    refine Hm (cs := (W8)) W F Aa sJ Aa fun b3 a w W F => ?_
    refine SK 0 W F Aa Aa Aa W9 Aa Aa Aa fun w F => ?_
    refine WT tk 7 [1,0] W F (ai (ai fun a w W F => ?_))
    obtain ⟨x6,h7,H⟩ := Bz H
    refine FM (Ml := []) (Zl := []) (β := Value) (rv := fun x => x) (MM := fun x => []) (ZZ := fun x => [Ch x CW AL x6]) W F xQ Aa Aa (fun hL => ih_policy_results _ w ((v6.2.1.2.2.2.1)) ((v6.2.2.2.2.1)) (Tr41.of (x4.un.1,f38 x4.un.2.1,x4.un.2.2.1,x4.un.2.2.2.1,x4.un.2.2.2.2)) p1 kx5156 _ h7 (Sl.at_ (F.old s_v1) h3 (CP.snd (CP.fst (CP.snd (CP.snd (CP.snd CP.here))))) (congrArg (fun q : Tr41 => q.un.2.1.un.2.2.2) h4)) (Sl.at_ (F.old s_v1) h3 (CP.snd (CP.snd (CP.snd (CP.snd CP.here)))) (congrArg (fun q : Tr41 => q.un.2.2.2.2) h4))) fun x a w W F => ?_
    obtain ⟨v8,rfl⟩ : ∃ y,y = x := ⟨x,rfl⟩
    have F : sy Y w0 [(b3,(C7 kx5156)),(b2,[Jint x4.un.1,Jint x4.un.2.1.un.1,Jint x4.un.2.1.un.2.1,Jint x4.un.2.1.un.2.2.1,(v6.2.1.2.2.2.1),Jint x4.un.2.2.1,Jint x4.un.2.2.2.1,(v6.2.2.2.2.1)]),(b1,(C7 p2))] [Ch v8 CW AL x6,Hr i5156 m5156 c5156 sn5156 c5156,GU m5156 e5156 c5156,Ch v7 CW AL s5156] w := F
    have F := F.frontZ (i := 3) Aa Aa
    refine FM (Ml := []) (Zl := [Ch v7 CW AL s5156,Ch v8 CW AL x6]) (β := Unit) (rv := fun _ => .tuple #[]) (MM := fun _ => []) (ZZ := fun _ => [Ch v8 CW AL x6,Ch v7 CW AL (On AL s5156 x6)]) W F H75 Aa Aa (fun hL => cO _ _ w _ _ _ _ hL) fun _ a w W F => ?_
    have F : sy Y w0 [(b3,(C7 kx5156)),(b2,[Jint x4.un.1,Jint x4.un.2.1.un.1,Jint x4.un.2.1.un.2.1,Jint x4.un.2.1.un.2.2.1,(v6.2.1.2.2.2.1),Jint x4.un.2.2.1,Jint x4.un.2.2.2.1,(v6.2.2.2.2.1)]),(b1,(C7 p2))] [Ch v8 CW AL x6,Ch v7 CW AL (On AL s5156 x6),Hr i5156 m5156 c5156 sn5156 c5156,GU m5156 e5156 c5156] w := F
    refine Iu (EF (Az ?_))
    have H := Fj H
    subst H
    have F := F.frontZ (i := 1) Aa Aa
    have F := F.frontZ (i := 3) Aa Aa
    have F := F.frontZ (i := 3) Aa Aa
    have F := F.frontM (i := 2) Aa Aa
    have F := F.frontM (i := 2) Aa Aa
    have F := F.sub (M' := [(b2,[Jint x4.un.1,Jint x4.un.2.1.un.1,Jint x4.un.2.1.un.2.1,Jint x4.un.2.1.un.2.2.1,(v6.2.1.2.2.2.1),Jint x4.un.2.2.1,Jint x4.un.2.2.2.1,(v6.2.2.2.2.1)]),(b1,(C7 p2))]) (Z' := [Hr i5156 m5156 c5156 sn5156 c5156,GU m5156 e5156 c5156,Ch v7 CW AL (On AL s5156 x6)]) (sc (sc nl)) (sc (sc (sc nl)))
    exact ⟨W.ra Aa,F⟩
   have W : Fr 38 [] [(1,Jint p1),(6,.map none),(7,v5),(9,pp b2),(10,v7),(16,v1),(17,Jint (p0.length : Int)),(18,Jint x3),(19,.bool true),(21,.agg #[Jint x4.un.1,Jint x4.un.2.1.un.1,Jint x4.un.2.1.un.2.1,Jint x4.un.2.1.un.2.2.1,(v6.2.1.2.2.2.1),Jint x4.un.2.2.1,Jint x4.un.2.2.2.1,(v6.2.2.2.2.1)]),(22,v7),(23,v5)] a := W.ra Aa
   have F : sy Y w0 [(b2,[Jint x4.un.1,Jint x4.un.2.1.un.1,Jint x4.un.2.1.un.2.1,Jint x4.un.2.1.un.2.2.1,(v6.2.1.2.2.2.1),Jint x4.un.2.2.1,Jint x4.un.2.2.2.1,(v6.2.2.2.2.1)]),(b1,(C7 p2))] [Ch v5 CW AL x2,Ch v7 CW AL x5] w := F
   refine GF ?_
   refine vn tk 4 W F fun a w W F => ?_
   refine EF ?_
   refine vn tk 4 W F fun a w W F => ?_
   refine Az ?_
   have F := F.frontZ (i := 1) Aa Aa
   have F := F.frontM (i := 1) Aa Aa
   have F := F.sub (M' := (Ue b1 p2)) (Z' := [Ch v7 CW AL x5]) (sc nl) (sc nl)
   exact ⟨_,H,(v7),W.ra Aa,F⟩
  refine Hl ?_
  iterate 2 refine KC ?_
  refine GF (Az ?_)
  have H := L2 _ H
  exact ⟨_,(v5),H,W.ra Aa,F⟩
 rintro a w ⟨x1,v4,hj,W,F⟩
 have hj := Fj hj
 subst hj
 have H := K1
 clear G1 K1
 refine vc tk 6 W F fun a w W F => ?_
 refine De ?_
 have H := Fj H
 subst H
 refine EE (.inl Aa) W F Aa (DJ W Aa) ?_
 have F := F.sub (M' := []) (Z' := [Ch v4 CW AL x1]) nl sr
 exact ⟨(v4),Aa,F⟩
theorem H74 : Has Tryz.prog 74 := Js Tryz.func74
def Fa (p0 : Tr41) (p1 : Int) (p2 : Sq) : Option Tr41 := ((Fm (f38 p0.un.2.1) p1 p2.1 p2.2).bind fun x2 => (if x2 = true then some 0 else some 1)).bind fun x1 => (if (p0.un.2.2.2.2.length : Int) ≤ x1 then some (Tr41.of (0,Tr38.of (0,0,0,([] : List Tr38)),0,0,([] : List Tr41))) else (ix p0.un.2.2.2.2 x1).bind fun x3 => some (Tr41.of (x3.un.1,f38 x3.un.2.1,x3.un.2.2.1,x3.un.2.2.2.1,x3.un.2.2.2.2)))
abbrev K76 : Cn_ := ⟨[Yb,DT,P3],[Yb],[],false,fun x => Fa x.1 x.2.1 x.2.2,none⟩
theorem k76 : KO (K76) 76 := Eb (ct := (.q (.q (.j (.st false ⟨[(7,false,AG)],[],[]⟩) .d .d)))) D6 (AH k72 BG) Tryz.func76 (by kernel_rfl) fun x => by kernel_rfl
theorem QS (Y : Nat → Prop) (w0 : World) (v1 : Value) (v2 : Value) (p0 : Tr41) (p1 : Int) (p2 : Sq) (r : Tr41) (H : Fa p0 p1 p2 = some r) (s_v1 : Sl w0 Y Lv v1 p0.un.2.1.un.2.2.2) (s_v2 : Sl w0 Y LD v2 p0.un.2.2.2.2) :
    ca_ 76 #[.agg #[Jint p0.un.1,Jint p0.un.2.1.un.1,Jint p0.un.2.1.un.2.1,Jint p0.un.2.1.un.2.2.1,v1,Jint p0.un.2.2.1,Jint p0.un.2.2.2.1,v2],Jint p1,.agg #[Jint p2.1,Jint p2.2.1,Jint p2.2.2.1,Jint p2.2.2.2.1,Jint p2.2.2.2.2]] w0 fun e w' => ∃ x : Value × Value,e = .returned (.agg #[Jint r.un.1,Jint r.un.2.1.un.1,Jint r.un.2.1.un.2.1,Jint r.un.2.1.un.2.2.1,x.1,Jint r.un.2.2.1,Jint r.un.2.2.2.1,x.2]) ∧ sy Y w0 [] [frz (x.1) Lv r.un.2.1.un.2.2.2,frz (x.2) LD r.un.2.2.2.2] w' := by
 refine (k76.out (Y := Y) (X := []) (x := (p0,p1,p2)) (r := r) H Aa Aa Aa Aa Aa (v1,(v2,())) ⟨s_v1,⟨s_v2,trivial⟩⟩ (Stw.start Y w0) trivial).mono ?_
 rintro e w' ⟨⟨a0,a1,u⟩,he,F,hi⟩
 exact ⟨(a0,a1),he,F⟩
theorem H76 : Has Tryz.prog 76 := Js Tryz.func76
abbrev Kj (a0 : Nat) (a1 : Sq) (a2 : Nat) (a3 : Tr41) (a4 : Value) (a5 : Value) : List (Nat × List Value) := [(a0,[Jint a1.1,Jint a1.2.1,Jint a1.2.2.1,Jint a1.2.2.2.1,Jint a1.2.2.2.2]),(a2,[Jint a3.un.1,Jint a3.un.2.1.un.1,Jint a3.un.2.1.un.2.1,Jint a3.un.2.1.un.2.2.1,a4,Jint a3.un.2.2.1,Jint a3.un.2.2.2.1,a5])]
def B5 (fRec : Tr41 → Int → Sq → Option (List Sq)) (p0 : Tr41) (p1 : Int) (p2 : Sq) : ((List Sq) × Int) → Option (((List Sq) × Int) ⊕ (List Sq))
  | (x5,x6) => (if x6 < (p0.un.2.2.2.2.length : Int) then (ix p0.un.2.2.2.2 x6).bind fun x7 => (fRec (Tr41.of (x7.un.1,f38 x7.un.2.1,x7.un.2.2.1,x7.un.2.2.2.1,x7.un.2.2.2.2)) p1 p2).bind fun x8 => some (.inl ((On AL x5 x8),w64 (x6 + 1))) else some (.inr x5))
def AX (fRec : Tr41 → Int → Sq → Option (List Sq)) (p0 : Tr41) (p1 : Int) (p2 : Sq) : Option (List Sq) := GO (if p0.un.1 = 1 then (Fm (f38 p0.un.2.1) p1 p2.1 p2.2).bind fun x1 => (if x1 = true then some (.inr (F9 AL ([] : List Sq) p2)) else some (.inl ())) else (if p0.un.1 = 2 then (DE p2 p0.un.2.2.1 p0.un.2.2.2.1).bind fun x2 => some (.inr (F9 AL ([] : List Sq) x2)) else (if p0.un.1 = 3 then ((Cr fRec) p0.un.2.2.2.2 p1 p2).bind fun x3 => some (.inr x3) else (if p0.un.1 = 4 then (Ah (B5 fRec p0 p1 p2) (([] : List Sq),0)).bind fun x4 => some (.inr x4) else (if p0.un.1 = 5 then (Fa (Tr41.of (p0.un.1,f38 p0.un.2.1,p0.un.2.2.1,p0.un.2.2.2.1,p0.un.2.2.2.2)) p1 p2).bind fun x9 => (fRec (Tr41.of (x9.un.1,f38 x9.un.2.1,x9.un.2.2.1,x9.un.2.2.2.1,x9.un.2.2.2.2)) p1 p2).bind fun x10 => some (.inr x10) else some (.inl ())))))) fun _ => some ([] : List Sq)
def BE : Nat → Tr41 → Int → Sq → Option (List Sq)
  | 0 => fun _ _ _ => none
  | n + 1 => AX (BE n)
def Fo (p0 : Tr41) (p1 : Int) (p2 : Sq) : Option (List Sq) := Hc fun n => BE n p0 p1 p2
theorem Ow (fRec : Tr41 → Int → Sq → Option (List Sq)) (ih : ∀ (Y : Nat → Prop) (w0 : World) (v1 : Value) (v2 : Value) (p0 : Tr41) (p1 : Int) (p2 : Sq) (r : (List Sq)) (H : fRec p0 p1 p2 = some r) (s_v1 : Sl w0 Y Lv v1 p0.un.2.1.un.2.2.2) (s_v2 : Sl w0 Y LD v2 p0.un.2.2.2.2),ca_ 44 #[.agg #[Jint p0.un.1,Jint p0.un.2.1.un.1,Jint p0.un.2.1.un.2.1,Jint p0.un.2.1.un.2.2.1,v1,Jint p0.un.2.2.1,Jint p0.un.2.2.2.1,v2],Jint p1,.agg #[Jint p2.1,Jint p2.2.1,Jint p2.2.2.1,Jint p2.2.2.2.1,Jint p2.2.2.2.2]] w0 fun e w' => ∃ x : Value,e = .returned (x) ∧ sy Y w0 [] [Ch (x) CW AL r] w') (Y : Nat → Prop) (w0 : World) (v1 : Value) (v2 : Value) (p0 : Tr41) (p1 : Int) (p2 : Sq) (r : (List Sq)) (H : AX fRec p0 p1 p2 = some r) (s_v1 : Sl w0 Y Lv v1 p0.un.2.1.un.2.2.2) (s_v2 : Sl w0 Y LD v2 p0.un.2.2.2.2) :
    ca_ 44 #[.agg #[Jint p0.un.1,Jint p0.un.2.1.un.1,Jint p0.un.2.1.un.2.1,Jint p0.un.2.1.un.2.2.1,v1,Jint p0.un.2.2.1,Jint p0.un.2.2.2.1,v2],Jint p1,.agg #[Jint p2.1,Jint p2.2.1,Jint p2.2.2.1,Jint p2.2.2.2.1,Jint p2.2.2.2.2]] w0 fun e w' => ∃ x : Value,e = .returned (x) ∧ sy Y w0 [] [Ch (x) CW AL r] w' := by
 refine enter Tryz.func44 Aa Tryz.ntmps44 Aa fun a W => ?_
 have F := Stw.start Y w0
 obtain ⟨v3,h1,s_v1⟩ := s_v1.ex RI
 obtain ⟨v4,h2,s_v2⟩ := s_v2.ex O0
 have h_v1 := F.nx s_v1
 have h_v2 := F.nx s_v2
 unfold AX at H
 refine vc tk 2 W F fun a w W F => ?_
 refine Ig (cs := (X8 p0 v1 v2)) W F Aa Aa Aa fun b1 a w W F => ?_
 refine Ig (cs := (C7 p2)) W F Aa Aa Aa fun b2 a w W F => ?_
 refine vl tk 2 W F fun a w W F => ?_
 refine Az ?_
 obtain ⟨o1,G1,K1,L1⟩ := wB H
 refine Fx (fun a w => some (Sum.inl ()) = some o1 ∧ Fr 72 [] [(6,.map none)] a ∧ sy Y w0 (Kj b2 p2 b1 p0 v1 v2) [] w) ?_ ?_
 ·
  have H := G1
  clear G1 K1
  refine XG tk 13 [1] W F (ai fun a w W F => ?_)
  refine RH W Aa (fun hb => ?_) fun hb => ?_
  ·
   have H := Wi (fP hb) H
   rw [hb] at W
   clear hb
   refine XG tk 9 [1,0,0] W F (ai (ai (ai fun a w W F => ?_)))
   obtain ⟨x1,h3,H⟩ := Bz H
   refine ls W F Aa (Gj (v := Value.bool x1) W H72 Aa (fun w F => Ww any w (v1) (f38 p0.un.2.1) p1 p2.1 p2.2 _ h3 (aT (HZ RI h1 (Dg h_v1)) F))) fun a w W F => ?_
   refine KR tk 2 W F fun a w W F => ?_
   refine NG W Aa H (fun W H => ?_) fun W H => ?_
   ·
    refine vc tk 2 W F fun a w W F => ?_
    refine Jq CW AL W F Aa fun v5 a w W F => ?_
    have F : sy Y w0 (Kj b2 p2 b1 p0 v1 v2) [Ch v5 CW AL ([] : List Sq)] w := F
    refine ls W F Aa (ED (v := Value.agg #[Jint p2.1,Jint p2.2.1,Jint p2.2.2.1,Jint p2.2.2.2.1,Jint p2.2.2.2.2]) 0 W Aa Aa W9 Aa).q fun a w W F => ?_
    refine ls W F Aa (H8 (v := Value.agg #[]) kN W Aa Aa Aa).q fun a w W F => ?_
    refine l_setput' (q := 0) (p2 : Sq) W F Aa Aa Aa Aa Aa lB H7 XP fun w F => ?_
    have F : sy Y w0 (Kj b2 p2 b1 p0 v1 v2) [Ch v5 CW AL (F9 AL ([] : List Sq) p2)] w := F
    refine KR tk 4 W F fun a w W F => ?_
    refine De (Ic (FW ?_))
    have H := L1 _ H
    have H := Fj H
    subst H
    refine EE (.inl Aa) W F Aa (DJ W Aa) ?_
    have F := F.sub (M' := []) (Z' := [Ch v5 CW AL (F9 AL ([] : List Sq) p2)]) nl sr
    exact ⟨(v5),Aa,F⟩
   refine E0 (EF (Az ?_))
   have F := F.frontM (i := 1) Aa Aa
   have F := F.frontM (i := 1) Aa Aa
   exact ⟨H,W.ra Aa,F⟩
  have H := Wb (gK hb) H
  rw [hb] at W
  clear hb
  refine vc tk 6 W F fun a w W F => ?_
  refine RH W Aa (fun hb => ?_) fun hb => ?_
  ·
   have H := Wi (fP hb) H
   rw [hb] at W
   clear hb
   refine vc tk 2 W F fun a w W F => ?_
   refine Jq CW AL W F Aa fun v6 a w W F => ?_
   have F : sy Y w0 (Kj b2 p2 b1 p0 v1 v2) [Ch v6 CW AL ([] : List Sq)] w := F
   refine Uv tk 5 [0,1,1] W F (ai (ai (ai fun a w W F => ?_)))
   obtain ⟨x2,h4,H⟩ := Bz H
   refine ls W F Aa (Gj (v := Value.agg #[Jint x2.1,Jint x2.2.1,Jint x2.2.2.1,Jint x2.2.2.2.1,Jint x2.2.2.2.2]) W H73 Aa (fun w F => OG any w p2 p0.un.2.2.1 p0.un.2.2.2.1 _ h4)) fun a w W F => ?_
   refine ls W F Aa (H8 (v := Value.agg #[]) kN W Aa Aa Aa).q fun a w W F => ?_
   refine l_setput' (q := 0) (x2 : Sq) W F Aa Aa Aa Aa Aa lB H7 XP fun w F => ?_
   have F : sy Y w0 (Kj b2 p2 b1 p0 v1 v2) [Ch v6 CW AL (F9 AL ([] : List Sq) x2)] w := F
   refine KR tk 4 W F fun a w W F => ?_
   refine De (Ic (FW ?_))
   have H := L1 _ H
   have H := Fj H
   subst H
   refine EE (.inl Aa) W F Aa (DJ W Aa) ?_
   have F := F.sub (M' := []) (Z' := [Ch v6 CW AL (F9 AL ([] : List Sq) x2)]) nl sr
   exact ⟨(v6),Aa,F⟩
  have H := Wb (gK hb) H
  rw [hb] at W
  clear hb
  refine vc tk 6 W F fun a w W F => ?_
  refine RH W Aa (fun hb => ?_) fun hb => ?_
  ·
   have H := Wi (fP hb) H
   rw [hb] at W
   clear hb
   refine XG tk 6 [1,0] W F (ai (ai fun a w W F => ?_))
   obtain ⟨x3,h5,H⟩ := Bz H
   refine FM (Ml := []) (Zl := []) (β := Value) (rv := fun x => x) (MM := fun x => []) (ZZ := fun x => [Ch x CW AL x3]) W F H74 Aa Aa (fun hL => (Nx fRec ih) _ w (v2) p0.un.2.2.2.2 p1 p2 _ h5 (Sl.hide O0 h2 (F.old s_v2))) fun x a w W F => ?_
   obtain ⟨v7,rfl⟩ : ∃ y,y = x := ⟨x,rfl⟩
   have F : sy Y w0 (Kj b2 p2 b1 p0 v1 v2) [Ch v7 CW AL x3] w := F
   refine KR tk 3 W F fun a w W F => ?_
   refine De (Ic (FW ?_))
   have H := L1 _ H
   have H := Fj H
   subst H
   refine EE (.inl Aa) W F Aa (DJ W Aa) ?_
   have F := F.sub (M' := []) (Z' := [Ch v7 CW AL x3]) nl sr
   exact ⟨(v7),Aa,F⟩
  have H := Wb (gK hb) H
  rw [hb] at W
  clear hb
  refine vc tk 6 W F fun a w W F => ?_
  refine RH W Aa (fun hb => ?_) fun hb => ?_
  ·
   have H := Wi (fP hb) H
   rw [hb] at W
   clear hb
   refine vc tk 2 W F fun a w W F => ?_
   refine Jq CW AL W F Aa fun v8 a w W F => ?_
   have F : sy Y w0 (Kj b2 p2 b1 p0 v1 v2) [Ch v8 CW AL ([] : List Sq)] w := F
   refine vl tk 2 W F fun a w W F => ?_
   refine Az ?_
   obtain ⟨o2,G2,K2⟩ := Bz H
   refine Fx (fun a w => ∃ x4 : List Sq,some (x4) = some o2 ∧ Fr 72 [] [(6,.map none),(7,v8)] a ∧ sy Y w0 (Kj b2 p2 b1 p0 v1 v2) [Ch v8 CW AL x4] w) ?_ ?_
   ·
    have H := G2
    clear G2 K2
    refine XG tk 4 [1] W F (ai fun a w W F => ?_)
    refine ls W F Aa (NJ (r := LD) (l := p0.un.2.2.2.2) qV Aa W Aa (HZ O0 h2 (Dg h_v2))).q fun a w W F => ?_
    refine KR tk 4 W F fun a w W F => ?_
    have F := F.frontM (i := 1) Aa Aa
    have F := F.frontM (i := 1) Aa Aa
    refine Jf H (fun s a w => Fr 72 [] [(1,Jint p1),(5,pp b2),(6,.map none),(7,v8),(48,v2),(49,Jint (p0.un.2.2.2.2.length : Int)),(50,Jint s.2)] a ∧ sy Y w0 (Kj b2 p2 b1 p0 v1 v2) [Ch v8 CW AL s.1] w) ⟨W.ra Aa,F⟩ fun s o a w H L3 hR => ?_
    obtain ⟨x5,x6⟩ := s
    obtain ⟨W,F⟩ := hR
    have W : Fr 72 [] [(1,Jint p1),(5,pp b2),(6,.map none),(7,v8),(48,v2),(49,Jint (p0.un.2.2.2.2.length : Int)),(50,Jint x6)] a := W
    have F : sy Y w0 (Kj b2 p2 b1 p0 v1 v2) [Ch v8 CW AL x5] w := F
    rw [B5] at H
    refine vc tk 6 W F fun a w W F => ?_
    refine JP W Aa H (fun W H => ?_) fun W H => ?_
    ·
     refine jH tk 6 W F fun a w W F => ?_
     obtain ⟨x7,h6,H⟩ := Bz H
     obtain ⟨v9,h7,h8⟩ := Uu h2 h6
     have h9 : fD v9 = [Jint x7.un.1,Jint x7.un.2.1.un.1,Jint x7.un.2.1.un.2.1,Jint x7.un.2.1.un.2.2.1,(v9.2.1.2.2.2.1),Jint x7.un.2.2.1,Jint x7.un.2.2.2.1,(v9.2.2.2.2.1)] := congrArg (fun q : Tr41 => ([Jint q.un.1,Jint q.un.2.1.un.1,Jint q.un.2.1.un.2.1,Jint q.un.2.1.un.2.2.1,(v9.2.1.2.2.2.1),Jint q.un.2.2.1,Jint q.un.2.2.2.1,(v9.2.2.2.2.1)] : List Value)) h8
     refine ls W F Aa (Hj (r := cW) xS W Aa Aa (Dg h_v2) h7).q fun a w W F => ?_
     refine ls W F Aa (EM (y := Value.agg #[Jint x7.un.1,Jint x7.un.2.1.un.1,Jint x7.un.2.1.un.2.1,Jint x7.un.2.1.un.2.2.1,(v9.2.1.2.2.2.1),Jint x7.un.2.2.1,Jint x7.un.2.2.2.1,(v9.2.2.2.2.1)]) (j := 0) (i := x6) (enc := fD) W Aa Aa (Dg h_v2) h7 wL lA (by rw [h9]; rfl)).q fun a w W F => ?_
     refine Hm (cs := (W6)) W F Aa sC Aa fun b3 a w W F => ?_
     refine SK 0 W F Aa Aa Aa lA Aa Aa (Bi Aa (Bi Aa (Bi Aa (Bi Aa (Bi ((MP (Dg h_v2) h7 (CP.snd (CP.fst (CP.snd (CP.snd (CP.snd CP.here))))) (congrArg (fun q : Tr41 => q.un.2.1.un.2.2.2) h8)) _ F).one (Bi Aa (Bi Aa (Bi ((MP (Dg h_v2) h7 (CP.snd (CP.snd (CP.snd (CP.snd CP.here)))) (congrArg (fun q : Tr41 => q.un.2.2.2.2) h8)) _ F).one Pp)))))))) fun w F => ?_
     refine WT tk 7 [0,1] W F (ai (ai fun a w W F => ?_))
     obtain ⟨x8,h10,H⟩ := Bz H
     refine FM (Ml := []) (Zl := []) (β := Value) (rv := fun x => x) (MM := fun x => []) (ZZ := fun x => [Ch x CW AL x8]) W F xQ Aa Aa (fun hL => ih _ w ((v9.2.1.2.2.2.1)) ((v9.2.2.2.2.1)) (Tr41.of (x7.un.1,f38 x7.un.2.1,x7.un.2.2.1,x7.un.2.2.2.1,x7.un.2.2.2.2)) p1 p2 _ h10 (Sl.at_ (F.old s_v2) h7 (CP.snd (CP.fst (CP.snd (CP.snd (CP.snd CP.here))))) (congrArg (fun q : Tr41 => q.un.2.1.un.2.2.2) h8)) (Sl.at_ (F.old s_v2) h7 (CP.snd (CP.snd (CP.snd (CP.snd CP.here)))) (congrArg (fun q : Tr41 => q.un.2.2.2.2) h8))) fun x a w W F => ?_
     obtain ⟨v10,rfl⟩ : ∃ y,y = x := ⟨x,rfl⟩
     have F : sy Y w0 [(b3,[Jint x7.un.1,Jint x7.un.2.1.un.1,Jint x7.un.2.1.un.2.1,Jint x7.un.2.1.un.2.2.1,(v9.2.1.2.2.2.1),Jint x7.un.2.2.1,Jint x7.un.2.2.2.1,(v9.2.2.2.2.1)]),(b2,(C7 p2)),(b1,(X8 p0 v1 v2))] [Ch v10 CW AL x8,Ch v8 CW AL x5] w := F
     have F := F.frontZ (i := 1) Aa Aa
     refine FM (Ml := []) (Zl := [Ch v8 CW AL x5,Ch v10 CW AL x8]) (β := Unit) (rv := fun _ => .tuple #[]) (MM := fun _ => []) (ZZ := fun _ => [Ch v10 CW AL x8,Ch v8 CW AL (On AL x5 x8)]) W F H75 Aa Aa (fun hL => cO _ _ w _ _ _ _ hL) fun _ a w W F => ?_
     have F : sy Y w0 [(b3,[Jint x7.un.1,Jint x7.un.2.1.un.1,Jint x7.un.2.1.un.2.1,Jint x7.un.2.1.un.2.2.1,(v9.2.1.2.2.2.1),Jint x7.un.2.2.1,Jint x7.un.2.2.2.1,(v9.2.2.2.2.1)]),(b2,(C7 p2)),(b1,(X8 p0 v1 v2))] [Ch v10 CW AL x8,Ch v8 CW AL (On AL x5 x8)] w := F
     refine Iu (EF ?_)
     refine vn tk 4 W F fun a w W F => ?_
     refine Az ?_
     have F := F.frontZ (i := 1) Aa Aa
     have F := F.frontM (i := 2) Aa Aa
     have F := F.frontM (i := 2) Aa Aa
     have F := F.sub (M' := (Kj b2 p2 b1 p0 v1 v2)) (Z' := [Ch v8 CW AL (On AL x5 x8)]) (sc (sc nl)) (sc nl)
     exact ⟨_,H,W.ra Aa,F⟩
    refine Hl ?_
    iterate 2 refine KC ?_
    refine GF (Az ?_)
    have F := F.frontM (i := 1) Aa Aa
    have F := F.frontM (i := 1) Aa Aa
    have H := L3 _ H
    exact ⟨_,H,W.ra Aa,F⟩
   rintro a w ⟨x4,hj,W,F⟩
   have hj := Fj hj
   subst hj
   have H := K2
   clear G2 K2
   refine vc tk 6 W F fun a w W F => ?_
   refine De (Ic (FW ?_))
   have H := L1 _ H
   have H := Fj H
   subst H
   refine EE (.inl Aa) W F Aa (DJ W Aa) ?_
   have F := F.sub (M' := []) (Z' := [Ch v8 CW AL x4]) nl sr
   exact ⟨(v8),Aa,F⟩
  have H := Wb (gK hb) H
  rw [hb] at W
  clear hb
  refine vc tk 6 W F fun a w W F => ?_
  refine RH W Aa (fun hb => ?_) fun hb => ?_
  ·
   have H := Wi (fP hb) H
   rw [hb] at W
   clear hb
   refine N8 ?_
   refine S5 [(true,0),(true,1),(true,2),(true,4),(true,5),(false,3),(false,6),(false,7)] (CN ⟨Y,[],w0⟩ [(some 3,b1,[Jint p0.un.1,Jint p0.un.2.1.un.1,Jint p0.un.2.1.un.2.1,Jint p0.un.2.1.un.2.2.1,v1,Jint p0.un.2.2.1,Jint p0.un.2.2.2.1,v2]),(some 3,b2,[Jint p2.1,Jint p2.2.1,Jint p2.2.2.1,Jint p2.2.2.2.1,Jint p2.2.2.2.2]),(some 6,b2,[Jint p2.1,Jint p2.2.1,Jint p2.2.2.1,Jint p2.2.2.2.1,Jint p2.2.2.2.2])] []) (fun ch a d v w h => by cases d <;> exact h) MO (by kernel_rfl) F (fun w F => ⟨_,_,F,(all_cons (fun _ => (.tail _ (.head _))) (all_cons (fun _ => (.head _)) (all_cons (fun _ => (.head _)) BS))),BS⟩) fun w F => ?_
   refine Lj (R := [3]) W Aa Aa (yC fun M Z hN hZ => EQ (cs := (X8 p0 v1 v2)) (v := Value.agg #[Jint p0.un.1,Jint p0.un.2.1.un.1,Jint p0.un.2.1.un.2.1,Jint p0.un.2.1.un.2.2.1,v1,Jint p0.un.2.2.1,Jint p0.un.2.2.2.1,v2]) W Aa (hN ((some 3),b1,(X8 p0 v1 v2)) (.head _) Aa) lA Aa) (by kernel_rfl) Aa fun a W => ?_
   refine Lj (R := []) W Aa Aa (yC fun M Z hN hZ => En W Aa) Aa Aa fun a W => ?_
   refine Lj (R := [3]) W Aa Aa (yC fun M Z hN hZ => EQ (cs := (C7 p2)) (v := Value.agg #[Jint p2.1,Jint p2.2.1,Jint p2.2.2.1,Jint p2.2.2.2.1,Jint p2.2.2.2.2]) W Aa (hN ((some 3),b2,(C7 p2)) (.tail _ (.head _)) Aa) W9 Aa) (by kernel_rfl) Aa fun a W => ?_
   refine Lj (R := []) W Aa Aa (yC fun M Z hN hZ => En W Aa) Aa Aa fun a W => ?_
   refine Lj (R := [6]) W Aa Aa (yC fun M Z hN hZ => EQ (cs := (C7 p2)) (v := Value.agg #[Jint p2.1,Jint p2.2.1,Jint p2.2.2.1,Jint p2.2.2.2.1,Jint p2.2.2.2.2]) W Aa (hN ((some 6),b2,(C7 p2)) (.tail _ (.tail _ (.head _))) Aa) W9 Aa) (by kernel_rfl) Aa fun a W => ?_
   refine TP Aa ?_
   obtain ⟨x9,h11,H⟩ := Bz H
   refine FM (Ml := []) (Zl := []) (β := Value × Value) (rv := fun x => .agg #[Jint x9.un.1,Jint x9.un.2.1.un.1,Jint x9.un.2.1.un.2.1,Jint x9.un.2.1.un.2.2.1,x.1,Jint x9.un.2.2.1,Jint x9.un.2.2.2.1,x.2]) (MM := fun x => []) (ZZ := fun x => [frz x.1 Lv x9.un.2.1.un.2.2.2,frz x.2 LD x9.un.2.2.2.2]) W F H76 Aa Aa (fun hL => QS _ w (v1) (v2) (Tr41.of (p0.un.1,f38 p0.un.2.1,p0.un.2.2.1,p0.un.2.2.2.1,p0.un.2.2.2.2)) p1 p2 _ h11 (Sl.hide RI h1 (F.old s_v1)) (Sl.hide O0 h2 (F.old s_v2))) fun x a w W F => ?_
   obtain ⟨v11,v12⟩ := x
   have F : sy Y w0 (Kj b2 p2 b1 p0 v1 v2) [frz v11 Lv x9.un.2.1.un.2.2.2,frz v12 LD x9.un.2.2.2.2] w := F
   refine IL (N2 := []) (NZ2 := []) (N3 := [(some 3,b1,[Jint p0.un.1,Jint p0.un.2.1.un.1,Jint p0.un.2.1.un.2.1,Jint p0.un.2.1.un.2.2.1,v1,Jint p0.un.2.2.1,Jint p0.un.2.2.2.1,v2]),(some 3,b2,[Jint p2.1,Jint p2.2.1,Jint p2.2.2.1,Jint p2.2.2.2.1,Jint p2.2.2.2.2]),(some 6,b2,[Jint p2.1,Jint p2.2.1,Jint p2.2.2.1,Jint p2.2.2.2.1,Jint p2.2.2.2.2])]) (NZ3 := []) F Aa Aa (all_cons (fun h => Ce (by kernel_rfl) h) (all_cons (fun h => Ce (by kernel_rfl) h) (all_cons (fun _ => (.head _)) BS))) BS ?_
   refine TP Aa ?_
   obtain ⟨x10,h12,H⟩ := Bz H
   refine FM (Ml := []) (Zl := []) (β := Value) (rv := fun x => x) (MM := fun x => []) (ZZ := fun x => [Ch x CW AL x10]) W F xQ Aa Aa (fun hL => ih _ w (v11) (v12) (Tr41.of (x9.un.1,f38 x9.un.2.1,x9.un.2.2.1,x9.un.2.2.2.1,x9.un.2.2.2.2)) p1 p2 _ h12 (F.item (i := 0) Aa) (F.item (i := 1) Aa)) fun x a w W F => ?_
   obtain ⟨v13,rfl⟩ : ∃ y,y = x := ⟨x,rfl⟩
   have F : sy Y w0 (Kj b2 p2 b1 p0 v1 v2) [Ch v13 CW AL x10,frz v11 Lv x9.un.2.1.un.2.2.2,frz v12 LD x9.un.2.2.2.2] w := F
   refine IL (N2 := []) (NZ2 := []) (N3 := [(some 3,b1,[Jint p0.un.1,Jint p0.un.2.1.un.1,Jint p0.un.2.1.un.2.1,Jint p0.un.2.1.un.2.2.1,v1,Jint p0.un.2.2.1,Jint p0.un.2.2.2.1,v2]),(some 3,b2,[Jint p2.1,Jint p2.2.1,Jint p2.2.2.1,Jint p2.2.2.2.1,Jint p2.2.2.2.2]),(some 6,b2,[Jint p2.1,Jint p2.2.1,Jint p2.2.2.1,Jint p2.2.2.2.1,Jint p2.2.2.2.2])]) (NZ3 := []) F Aa Aa (all_cons (fun h => Ce (by kernel_rfl) h) (all_cons (fun h => Ce (by kernel_rfl) h) (all_cons (fun h => Ce (by kernel_rfl) h) BS))) BS ?_
   refine TP Aa ?_
   refine ls W F Aa (MG W Aa).q fun a w W F => ?_
   refine IL (N2 := []) (NZ2 := []) (N3 := [(some 3,b1,[Jint p0.un.1,Jint p0.un.2.1.un.1,Jint p0.un.2.1.un.2.1,Jint p0.un.2.1.un.2.2.1,v1,Jint p0.un.2.2.1,Jint p0.un.2.2.2.1,v2]),(some 3,b2,[Jint p2.1,Jint p2.2.1,Jint p2.2.2.1,Jint p2.2.2.2.1,Jint p2.2.2.2.2]),(some 6,b2,[Jint p2.1,Jint p2.2.1,Jint p2.2.2.1,Jint p2.2.2.2.1,Jint p2.2.2.2.2])]) (NZ3 := []) F Aa Aa (all_cons (fun h => Ce (by kernel_rfl) h) (all_cons (fun h => Ce (by kernel_rfl) h) (all_cons (fun h => Ce (by kernel_rfl) h) BS))) BS ?_
   refine Yc (Az (De (Ic (FW ?_))))
   have H := L1 _ H
   have H := Fj H
   subst H
   refine EE (.inl Aa) W F Aa (DJ W Aa) ?_
   have F := F.sub (M' := []) (Z' := [Ch v13 CW AL x10]) nl (sc nl)
   exact ⟨(v13),Aa,F⟩
  have H := Wb (gK hb) H
  rw [hb] at W
  clear hb
  refine E0 (EF (Az ?_))
  have F := F.frontM (i := 1) Aa Aa
  have F := F.frontM (i := 1) Aa Aa
  exact ⟨H,W.ra Aa,F⟩
 rintro a w ⟨hj,W,F⟩
 have H := K1 _ hj
 clear hj G1 K1 L1
 refine vc tk 2 W F fun a w W F => ?_
 refine Jq CW AL W F Aa fun v14 a w W F => ?_
 have F : sy Y w0 (Kj b2 p2 b1 p0 v1 v2) [Ch v14 CW AL ([] : List Sq)] w := F
 refine KR tk 3 W F fun a w W F => ?_
 refine De ?_
 have H := Fj H
 subst H
 refine EE (.inl Aa) W F Aa (DJ W Aa) ?_
 have F := F.sub (M' := []) (Z' := [Ch v14 CW AL ([] : List Sq)]) nl sr
 exact ⟨(v14),Aa,F⟩
theorem OS : ∀ (n : Nat) (Y : Nat → Prop) (w0 : World) (v1 : Value) (v2 : Value) (p0 : Tr41) (p1 : Int) (p2 : Sq) (r : (List Sq)) (H : BE n p0 p1 p2 = some r) (s_v1 : Sl w0 Y Lv v1 p0.un.2.1.un.2.2.2) (s_v2 : Sl w0 Y LD v2 p0.un.2.2.2.2),ca_ 44 #[.agg #[Jint p0.un.1,Jint p0.un.2.1.un.1,Jint p0.un.2.1.un.2.1,Jint p0.un.2.1.un.2.2.1,v1,Jint p0.un.2.2.1,Jint p0.un.2.2.2.1,v2],Jint p1,.agg #[Jint p2.1,Jint p2.2.1,Jint p2.2.2.1,Jint p2.2.2.2.1,Jint p2.2.2.2.2]] w0 fun e w' => ∃ x : Value,e = .returned (x) ∧ sy Y w0 [] [Ch (x) CW AL r] w' := by
  intro n
  induction n with
  | zero => intro Y w0 v1 v2 p0 p1 p2 r H; exact nomatch H
  | succ n ih => intro Y w0 v1 v2 p0 p1 p2 r H s_v1 s_v2; exact Ow (BE n) ih Y w0 v1 v2 p0 p1 p2 r H s_v1 s_v2
theorem P9 (Y : Nat → Prop) (w0 : World) (v1 : Value) (v2 : Value) (p0 : Tr41) (p1 : Int) (p2 : Sq) (r : (List Sq)) (H : Fo p0 p1 p2 = some r) (s_v1 : Sl w0 Y Lv v1 p0.un.2.1.un.2.2.2) (s_v2 : Sl w0 Y LD v2 p0.un.2.2.2.2) :
    ca_ 44 #[.agg #[Jint p0.un.1,Jint p0.un.2.1.un.1,Jint p0.un.2.1.un.2.1,Jint p0.un.2.1.un.2.2.1,v1,Jint p0.un.2.2.1,Jint p0.un.2.2.2.1,v2],Jint p1,.agg #[Jint p2.1,Jint p2.2.1,Jint p2.2.2.1,Jint p2.2.2.2.1,Jint p2.2.2.2.2]] w0 fun e w' => ∃ x : Value,e = .returned (x) ∧ sy Y w0 [] [Ch (x) CW AL r] w' := by
  obtain ⟨n,H⟩ := Lc H
  exact OS n Y w0 v1 v2 p0 p1 p2 r H s_v1 s_v2
theorem jJ : type_of% Tryz.underlying53 := Tryz.underlying53
def E29 (a : Int × Int × Int × Int) : List Value := [Jint a.1,Jint a.2.1,Jint a.2.2.1,Jint a.2.2.2]
theorem F29 : Fl yD E29 := (Fl.pair Fl.int (Fl.pair Fl.int (Fl.pair Fl.int Fl.int)))
def E60 (a : Sq) : List Value := [Jint a.1,Jint a.2.1,Jint a.2.2.1,Jint a.2.2.2.1,Jint a.2.2.2.2]
theorem l8 : Fl JQ E60 := (Fl.pair Fl.int F29)
theorem bN : Et Tryz.prog 53 60 5 40 := Et.of jJ (by kernel_rfl) (by kernel_rfl) (by kernel_rfl) (by decide)
def Al (p0 : Int) (p1 : Int) : Int := (if (Gb p0) = true then (if (Gb p1) = true then 0 else (-1)) else (if (Gb p1) = true then 1 else (if p0 < p1 then (-1) else (if p1 < p0 then 1 else 0))))
noncomputable def b47 : Code := (Tryz.f47.body).getD .skip
def yF : Ct := .d
abbrev K47 : Cn_ := ⟨wD,tG,[],false,fun x => some (Al x.1 x.2),some ⟨fun x => Al x.1 x.2,fun _ => rfl⟩⟩
theorem v47 (x : Int × Int) : @Eq (Option Int) (dF te sA ([(77,K77)] : Hz te Tryz.prog) 20 b47 yF wD tG [] false [.tmp 4] x).den (some (Al x.1 x.2)) := by simp only [Al,apply_ite (some : Int → _)]; kernel_rfl
theorem k47 : KO (K47) 47 := dK D6 (AH k77 BG) Tryz.func47 (by kernel_rfl) Tryz.ntmps47 rfl rfl rfl (by kernel_rfl) v47
theorem Kn (Y : Nat → Prop) (w0 : World)  (p0 : Int) (p1 : Int) (r : Int) (H : Al p0 p1 = r)  :
    ca_ 47 #[Jint p0,Jint p1] w0 fun e w' => e = .returned (Jint r) ∧ Below w0.heap.size w0 w' := k47.outP (Y := Y) (x := (p0,p1)) (congrArg some H) rfl rfl rfl rfl rfl () trivial rfl trivial fun _ => rfl
theorem H47 : Has Tryz.prog 47 := Js Tryz.func47
def DN (p0 : List Int) (p1 : List Int) : Int → Option (Int ⊕ (Unit ⊕ Int))
  | x1 => (if x1 < (p0.length : Int) then (ix p0 x1).bind fun x2 => (if (p1.length : Int) ≤ x1 then some (.inr (.inr 1)) else (ix p1 x1).bind fun x3 => (if (Al x2 x3) ≠ 0 then some (.inr (.inr (Al x2 x3))) else some (.inl (w64 (x1 + 1))))) else some (.inr (.inl ())))
def Ds (p0 : List Int) (p1 : List Int) : Option Int := GO (Ah (DN p0 p1) 0) fun _ => (if (p0.length : Int) < (p1.length : Int) then some (-1) else some 0)
abbrev K48 : Cn_ := ⟨[oD,oD],[JR],[],false,fun x => Ds x.1 x.2,none⟩
theorem k48 : KO (K48) 48 := Eb (ct := (.q (.j (.st true ⟨[],[],[]⟩) (.q (.b (.l ⟨[(11,false,AG)],[],[]⟩ .d))) .d))) D6 (AH k47 BG) Tryz.func48 (by kernel_rfl) fun x => by kernel_rfl
theorem He (Y : Nat → Prop) (w0 : World) (v1 : Value) (v2 : Value) (p0 : List Int) (p1 : List Int) (r : Int) (H : Ds p0 p1 = some r) (h_v1 : Sl w0 (NX []) ri v1 p0) (h_v2 : Sl w0 (NX []) ri v2 p1) :
    ca_ 48 #[v1,v2] w0 fun e w' => e = .returned (Jint r) ∧ Below w0.heap.size w0 w' := k48.outP (Y := Y) (x := (p0,p1)) H rfl rfl rfl rfl rfl (v1,(v2,())) ⟨h_v1,⟨h_v2,trivial⟩⟩ rfl trivial fun _ => rfl
theorem H48 : Has Tryz.prog 48 := Js Tryz.func48
def Ga (p0 : List Int) : Int → Option (Int ⊕ (Unit ⊕ Int))
  | x1 => (if x1 < (p0.length : Int) then (ix p0 x1).bind fun x2 => (if x2 ≠ 0 then some (.inr (.inr x2)) else some (.inl (w64 (x1 + 1)))) else some (.inr (.inl ())))
def JO (p0 : List Int) : Option Int := GO (Ah (Ga p0) 0) fun _ => some 0
abbrev K46 : Cn_ := ⟨[oD],[JR],[],false,fun x => JO x,none⟩
theorem k46 : KO (K46) 46 := Eb (ct := (.q (.q (.j (.st true ⟨[],[],[]⟩) (.q (.b (.l ⟨[(8,false,AG)],[],[]⟩ .d))) .d)))) D6 BG Tryz.func46 (by kernel_rfl) fun x => by kernel_rfl
theorem Pd (Y : Nat → Prop) (w0 : World) (v1 : Value) (p0 : List Int) (r : Int) (H : JO p0 = some r) (h_v1 : Sl w0 (NX []) ri v1 p0) :
    ca_ 46 #[v1] w0 fun e w' => e = .returned (Jint r) ∧ Below w0.heap.size w0 w' := k46.outP (Y := Y) (x := p0) H rfl rfl rfl rfl rfl (v1,()) ⟨h_v1,trivial⟩ rfl trivial fun _ => rfl
theorem H46 : Has Tryz.prog 46 := Js Tryz.func46
def Bm (p0 : Sq) (p1 : Sq) : Option Int := (Ds ([p0.2.1,p0.2.2.1,p0.2.2.2.1,p0.2.2.2.2]) ([p1.2.1,p1.2.2.1,p1.2.2.2.1,p1.2.2.2.2])).bind fun x1 => (JO ([(Al p0.1 p1.1),x1] : List Int)).bind fun x2 => some x2
theorem To (Y : Nat → Prop) (w0 : World)  (p0 : Sq) (p1 : Sq) (r : Int) (H : Bm p0 p1 = some r)  :
    ca_ 45 #[.agg #[Jint p0.1,Jint p0.2.1,Jint p0.2.2.1,Jint p0.2.2.2.1,Jint p0.2.2.2.2],.agg #[Jint p1.1,Jint p1.2.1,Jint p1.2.2.1,Jint p1.2.2.2.1,Jint p1.2.2.2.2]] w0 fun e w' => e = .returned (Jint r) ∧ Below w0.heap.size w0 w' := by
 refine enter Tryz.func45 Aa Tryz.ntmps45 Aa fun a W => ?_
 have F := Stw.start Y w0
 unfold Bm at H
 refine vc tk 2 W F fun a w W F => ?_
 refine Ig (cs := (C7 p0)) W F Aa Aa Aa fun b1 a w W F => ?_
 refine Ig (cs := (C7 p1)) W F Aa Aa Aa fun b2 a w W F => ?_
 refine KR tk 4 W F fun a w W F => ?_
 refine Sx 10 F MO (by kernel_rfl) ?_
 refine qs W Aa (A2 Mu Aa Aa Aa T3 W Aa 0 Aa).q fun a W => ?_
 refine qs W Aa (ED (v := Jint p0.1) 1 W Aa Aa T3 Aa).q fun a W => ?_
 refine qs W Aa (A2 Mu Aa Aa Aa T3 W Aa 0 Aa).q fun a W => ?_
 refine qs W Aa (ED (v := Jint p1.1) 0 W Aa Aa T3 Aa).q fun a W => ?_
 refine qs W Aa (Gj (v := Jint (Al p0.1 p1.1)) W H47 Aa (fun w F => Kn any w p0.1 p1.1 _ Aa)) fun a W => ?_
 refine qs W Aa (A2 Mu Aa Aa Aa ZR W Aa 1 Aa).q fun a W => ?_
 refine qs W Aa (O9 QX W Aa).q fun a W => ?_
 refine qs W Aa (A2 Mu Aa Aa Aa ZR W Aa 1 Aa).q fun a W => ?_
 refine qs W Aa (O9 QX W Aa).q fun a W => ?_
 obtain ⟨x1,h1,H⟩ := Bz H
 refine qs W Aa (Gj (v := Jint x1) W H48 Aa (fun w F => He any w ((Value.slice (some ⟨b1,1,none⟩) 4 4)) ((Value.slice (some ⟨b2,1,none⟩) 4 4)) ([p0.2.1,p0.2.2.1,p0.2.2.2.1,p0.2.2.2.2]) ([p1.2.1,p1.2.2.1,p1.2.2.2.1,p1.2.2.2.2]) _ h1 (aT (Y3 1 Fl.int Aa Aa Aa) F) (aT (Y3 0 Fl.int Aa Aa Aa) F))) fun a W => ?_
 refine EO fun w F => ?_
 refine Ub (z := Jint 0) (cs := [Jint (Al p0.1 p1.1),Jint x1]) ri ([(Al p0.1 p1.1),x1] : List Int) W F Aa L62 Z3 Aa Aa Aa Aa Aa Aa (Fl.int.repL _ _ ([(Al p0.1 p1.1),x1] : List Int)) fun v1 a w W F => ?_
 obtain ⟨x2,h2,H⟩ := Bz H
 refine ls W F Aa (Gj (v := Jint x2) W H46 Aa (fun w F => Pd any w (v1) ([(Al p0.1 p1.1),x1] : List Int) _ h2 (aT (DQ 0 Aa) F))) fun a w W F => ?_
 refine KR tk 3 W F fun a w W F => ?_
 refine De ?_
 have H := Fj H
 subst H
 refine EE (.inl Aa) W F Aa (DJ W Aa) ?_
 exact ⟨rfl,F.done⟩
abbrev K45 : Cn_ := ⟨zE,Aaq,[],false,fun x => Bm x.1 x.2,none⟩
theorem rB : KO K45 45 := KO.of ⟨fun args w => A9 Tryz.func45 rfl (by decide) args w⟩ rfl (fun _ => rfl) (fun _ => rfl) rfl (fun _ => rfl) (fun _ => rfl) (fun _ => rfl) (fun _ => rfl) fun Y w0 x r g H hg hk => (To Y w0  x.1 x.2 r H ).mono fun e w' h => ⟨(),h.1,Stw.ofB h.2⟩
def AZ (p1 : Int) : ((List Sq) × Int) → Option (((List Sq) × Int) ⊕ (List Sq))
  | (x4,x5) => (if p1 < x5 then (ix x4 x5).bind fun x7 => (ix x4 (w64 (x5 - 1))).bind fun x8 => (Bm x7 x8).bind fun x9 => some (decide (x9 < 0)) else some false).bind fun x6 => (if x6 = true then (ix x4 (w64 (x5 - 1))).bind fun x10 => (ix x4 x5).bind fun x11 => (ix x4 x5).bind fun x12 => (ix (AP x4 x5 x10) (w64 (x5 - 1))).bind fun x13 => some (.inl ((AP (AP x4 x5 x10) (w64 (x5 - 1)) x11),w64 (x5 - 1))) else some (.inr x4))
def BI (p1 : Int) (p2 : Int) : ((List Sq) × Int) → Option (((List Sq) × Int) ⊕ (List Sq))
  | (x1,x2) => (if x2 < p2 then (Ah (AZ p1) (x1,x2)).bind fun x3 => some (.inl (x3,w64 (x2 + 1))) else some (.inr x1))
def Bo (p0 : List Sq) (p1 : Int) (p2 : Int) : Option (List Sq) := Ah (BI p1 p2) (p0,w64 (p1 + 1))
abbrev K94 : Cn_ := ⟨[QC,DT,DT,OE],[],[],true,fun x => Bo x.1 x.2.1 x.2.2.1,none⟩
theorem k94 : KO (K94) 94 := Eb (ct := (.q (.b (.l ⟨[(0,false,Dy),(8,false,AG)],[],[0]⟩ (.q (.j (.st false ⟨[(0,false,Dy)],[],[0]⟩) (.b (.q (.b (.l ⟨[(0,false,Dy),(9,false,AG)],[],[0]⟩ (.s (.j (.st false ⟨[(34,false,Ea)],[],[]⟩) .d .d) .d))))) .d)))))) D6 (AH rB BG) Tryz.func94 (by kernel_rfl) fun x => by kernel_rfl
def AE (p2 : Int) (p3 : Int) : ((List Sq) × Int) → Option (((List Sq) × Int) ⊕ (List Sq))
  | (x1,x2) => (if p2 ≤ (w64 ((w64 (2 * x2)) + 1)) then some (.inr x1) else ((if (w64 ((w64 ((w64 (2 * x2)) + 1)) + 1)) < p2 then (ix x1 (w64 (p3 + (w64 ((w64 (2 * x2)) + 1))))).bind fun x5 => (ix x1 (w64 ((w64 (p3 + (w64 ((w64 (2 * x2)) + 1)))) + 1))).bind fun x6 => (Bm x5 x6).bind fun x7 => some (decide (x7 < 0)) else some false).bind fun x4 => (if x4 = true then some (w64 ((w64 ((w64 (2 * x2)) + 1)) + 1)) else some (w64 ((w64 (2 * x2)) + 1)))).bind fun x3 => (ix x1 (w64 (p3 + x2))).bind fun x8 => (ix x1 (w64 (p3 + x3))).bind fun x9 => (Bm x8 x9).bind fun x10 => (if (!(decide (x10 < 0))) = true then some (.inr x1) else (ix x1 (w64 (p3 + x3))).bind fun x11 => (ix x1 (w64 (p3 + x2))).bind fun x12 => (ix x1 (w64 (p3 + x2))).bind fun x13 => (ix (AP x1 (w64 (p3 + x2)) x11) (w64 (p3 + x3))).bind fun x14 => some (.inl ((AP (AP x1 (w64 (p3 + x2)) x11) (w64 (p3 + x3)) x12),x3))))
def BT (p0 : List Sq) (p1 : Int) (p2 : Int) (p3 : Int) : Option (List Sq) := Ah (AE p2 p3) (p0,p1)
abbrev zU : Cn_ := ⟨[QC,DT,DT,DT,OE],[],[],true,fun x => BT x.1 x.2.1 x.2.2.1 x.2.2.2.1,none⟩
theorem zZ : KO (zU) 126 := Eb (ct := (.q (.b (.l ⟨[(0,false,Dy),(10,false,AG)],[],[0]⟩ (.b (.q (.q (.j (.st false ⟨[(11,false,AG)],[],[]⟩) (.j (.st false ⟨[(40,false,Ea)],[],[]⟩) .d .d) .d)))))))) D6 (AH rB BG) Tryz.func126 (by kernel_rfl) fun x => by kernel_rfl
def B6 (p1 : Int) (p2 : Int) : ((List Sq) × Int) → Option (((List Sq) × Int) ⊕ (List Sq))
  | (x2,x3) => (if 0 ≤ x3 then (BT x2 x3 (w64 (p2 - p1)) p1).bind fun x4 => some (.inl (x4,w64 (x3 - 1))) else some (.inr x2))
def B8 (p1 : Int) : ((List Sq) × Int) → Option (((List Sq) × Int) ⊕ (List Sq))
  | (x5,x6) => (if 0 ≤ x6 then (ix x5 (w64 (p1 + x6))).bind fun x7 => (ix x5 p1).bind fun x8 => (ix x5 p1).bind fun x9 => (ix (AP x5 p1 x7) (w64 (p1 + x6))).bind fun x10 => (BT (AP (AP x5 p1 x7) (w64 (p1 + x6)) x8) 0 x6 p1).bind fun x11 => some (.inl (x11,w64 (x6 - 1))) else some (.inr x5))
def BU (p0 : List Sq) (p1 : Int) (p2 : Int) : Option (List Sq) := (Ah (B6 p1 p2) (p0,w64 (Int.tdiv (w64 ((w64 (p2 - p1)) - 1)) 2))).bind fun x1 => Ah (B8 p1) (x1,w64 ((w64 (p2 - p1)) - 1))
abbrev K95 : Cn_ := ⟨[QC,DT,DT,OE],[],[],true,fun x => BU x.1 x.2.1 x.2.2.1,none⟩
theorem k95 : KO (K95) 95 := Eb (ct := (.q (.q (.q (.j (.st false ⟨[(0,false,Dy)],[],[0]⟩) (.q (.b (.l ⟨[(0,false,Dy),(11,false,AG)],[],[0]⟩ .d))) (.q (.b (.l ⟨[(0,false,Dy),(12,false,AG)],[],[0]⟩ .d)))))))) D6 (AH zZ BG) Tryz.func95 (by kernel_rfl) fun x => by kernel_rfl
def BL (p0 : List Sq) (p1 : Int) (p2 : Int) (p3 : Int) : Option (Int × Int × Int) := (ix p0 p2).bind fun x1 => (ix p0 p1).bind fun x2 => (Bm x1 x2).bind fun x3 => (if x3 < 0 then some (p2,p1,w64 (p3 + 1)) else some (p1,p2,p3))
abbrev zW : Cn_ := ⟨[P7,DT,DT,(.p,[]),OE],[JR,JR],[(true,AG)],false,fun x => BL x.1 x.2.1 x.2.2.1 x.2.2.2.2,none⟩
theorem Aam : KO (zW) 144 := Eb (ct := .d) D6 (AH rB BG) Tryz.func144 (by kernel_rfl) fun x => by kernel_rfl
def BM (p0 : List Sq) (p1 : Int) (p2 : Int) (p3 : Int) (p4 : Int) : Option (Int × Int) := (BL p0 p1 p2 p4).bind fun x1 => (BL p0 x1.2.1 p3 x1.2.2).bind fun x2 => (BL p0 x1.1 x2.1 x2.2.2).bind fun x3 => some (x3.2.1,x3.2.2)
abbrev Aao : Cn_ := ⟨[P7,DT,DT,DT,(.p,[]),OE],[JR],[(true,AG)],false,fun x => BM x.1 x.2.1 x.2.2.1 x.2.2.2.1 x.2.2.2.2.2,none⟩
theorem wP : KO (Aao) 130 := Eb (ct := .d) D6 (AH Aam BG) Tryz.func130 (by kernel_rfl) fun x => by kernel_rfl
end
end Go.Proofs.YtkhiflmalgkjiaaGreat
