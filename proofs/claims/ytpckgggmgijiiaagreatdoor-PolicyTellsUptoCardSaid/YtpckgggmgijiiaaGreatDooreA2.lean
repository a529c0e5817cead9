/- The functions of layer 27, O7. Conditions: none. -/
import Derived.Test.YtpckgggmgijiiaaGreatDooreA1
namespace Go.Proofs.YtpckgggmgijiiaaGreatDoor
noncomputable section
open Go Go.RowKit
set_option linter.unusedVariables false
set_option linter.unusedSimpArgs false
set_option maxRecDepth 20000
set_option maxHeartbeats 1600000
theorem H77 : Has Tryz.prog 77 := Ik Tryz.func77
def CF (p0 : Int) : Int := (if (decide (p0 = 4) || decide (p0 = 5)) = true then 7 else (E4 p0))
noncomputable def b51 : Code := (Tryz.f51.body).getD .skip
def yO : Ct := (.q (.s (.j (.bl [8]) .d .d) .d))
abbrev K51 : Cn_ := ⟨uJ,uB,[],false,fun x => some (CF x),some ⟨fun x => CF x,fun _ => rfl⟩⟩
theorem wG (x : Int) : @Eq (Option Int) (dF te nK ([(77,z8)] : GC te Tryz.prog) 11 b51 yO uJ uB [] false [.tmp 2] x).den (some (CF x)) := by simp only [CF,apply_ite (some : Int → _)]; kernel_rfl
theorem vQ : KO (K51) 51 := dK En (AJ k77 BN) Tryz.func51 (by kernel_rfl) Tryz.ntmps51 rfl rfl rfl (by kernel_rfl) wG
theorem ZB (Y : Nat → Prop) (w0 : World)  (p0 : Int) (r : Int) (H : CF p0 = r) (hG : Gk [] w0) :
    ca_ 51 #[Jint p0] w0 fun e w' => e = .returned (Jint r) ∧ Below w0.heap.size w0 w' := vQ.outP (Y := Y) (x := p0) (congrArg some H) rfl rfl rfl rfl rfl () trivial rfl hG fun _ => rfl
theorem H51 : Has Tryz.prog 51 := Ik Tryz.func51
def EJ (fRec : Tr24 → Option Bool) (p0 : Tr24) : Int → Option (Int ⊕ (Unit ⊕ Bool))
  | x1 => (if x1 < (p0.un.2.2.2.length : Int) then (ix p0.un.2.2.2 x1).bind fun x2 => (fRec x2).bind fun x3 => (if (!x3) = true then some (.inr (.inr false)) else some (.inl (Aq (x1 + 1)))) else some (.inr (.inl ())))
def Ez (fRec : Tr24 → Option Bool) (p0 : Tr24) : Option Bool := (if (bif decide (p0.un.1 ≠ 3) then (decide (p0.un.2.1 ≠ 0) || (decide (p0.un.2.2.1 ≠ 0) || (decide (p0.un.1 < 1) || decide (6 < p0.un.1)))) else (decide (p0.un.1 < 1) || decide (6 < p0.un.1))) = true then some false else (if (decide (p0.un.1 = 3) && (decide (p0.un.2.1 < 0) || (decide (5 < p0.un.2.1) || (decide (p0.un.2.2.1 < 0) || decide ((CF p0.un.2.1) < p0.un.2.2.1))))) = true then some false else (if (bif decide (p0.un.1 ≤ 3) then (decide ((p0.un.2.2.2.length : Int) ≠ 0) || (bif decide (p0.un.1 = 4) then (decide ((p0.un.2.2.2.length : Int) ≠ 1) || (decide (5 ≤ p0.un.1) && (decide ((p0.un.2.2.2.length : Int) < 2) || decide (8 < (p0.un.2.2.2.length : Int))))) else (decide (5 ≤ p0.un.1) && (decide ((p0.un.2.2.2.length : Int) < 2) || decide (8 < (p0.un.2.2.2.length : Int)))))) else (bif decide (p0.un.1 = 4) then (decide ((p0.un.2.2.2.length : Int) ≠ 1) || (decide (5 ≤ p0.un.1) && (decide ((p0.un.2.2.2.length : Int) < 2) || decide (8 < (p0.un.2.2.2.length : Int))))) else (decide (5 ≤ p0.un.1) && (decide ((p0.un.2.2.2.length : Int) < 2) || decide (8 < (p0.un.2.2.2.length : Int)))))) = true then some false else Hw (Af (EJ fRec p0) 0) fun _ => some true)))
def EQ : Nat → Tr24 → Option Bool
  | 0 => fun _ => none
  | n + 1 => Ez (EQ n)
def OC (p0 : Tr24) : Option Bool := E2 fun n => EQ n p0
def KP (fRec : Tr24 → Option Bool) (p0 : Tr24) : Int → Option (Int ⊕ (Unit ⊕ Bool))
  | x1 => (if x1 < (p0.un.2.2.2.length : Int) then (ix p0.un.2.2.2 x1).bind fun x2 => (fRec (f24 x2)).bind fun x3 => (if (!x3) = true then some (.inr (.inr false)) else some (.inl (Aq (x1 + 1)))) else some (.inr (.inl ())))
theorem Si : @KP = @EJ := by
 unfold KP EJ
 simp only [Tr24.re_eq]
def Ou (fRec : Tr24 → Option Bool) (p0 : Tr24) : Option Bool := (if (bif decide (p0.un.1 ≠ 3) then (decide (p0.un.2.1 ≠ 0) || (decide (p0.un.2.2.1 ≠ 0) || (decide (p0.un.1 < 1) || decide (6 < p0.un.1)))) else (decide (p0.un.1 < 1) || decide (6 < p0.un.1))) = true then some false else (if (decide (p0.un.1 = 3) && (decide (p0.un.2.1 < 0) || (decide (5 < p0.un.2.1) || (decide (p0.un.2.2.1 < 0) || decide ((CF p0.un.2.1) < p0.un.2.2.1))))) = true then some false else (if (bif decide (p0.un.1 ≤ 3) then (decide ((p0.un.2.2.2.length : Int) ≠ 0) || (bif decide (p0.un.1 = 4) then (decide ((p0.un.2.2.2.length : Int) ≠ 1) || (decide (5 ≤ p0.un.1) && (decide ((p0.un.2.2.2.length : Int) < 2) || decide (8 < (p0.un.2.2.2.length : Int))))) else (decide (5 ≤ p0.un.1) && (decide ((p0.un.2.2.2.length : Int) < 2) || decide (8 < (p0.un.2.2.2.length : Int)))))) else (bif decide (p0.un.1 = 4) then (decide ((p0.un.2.2.2.length : Int) ≠ 1) || (decide (5 ≤ p0.un.1) && (decide ((p0.un.2.2.2.length : Int) < 2) || decide (8 < (p0.un.2.2.2.length : Int))))) else (decide (5 ≤ p0.un.1) && (decide ((p0.un.2.2.2.length : Int) < 2) || decide (8 < (p0.un.2.2.2.length : Int)))))) = true then some false else Hw (Af (KP fRec p0) 0) fun _ => some true)))
theorem SW : @Ou = @Ez := by
 unfold Ou Ez
 simp only [Si]
theorem k62 : KO (K62 fun x => OC x) 62 := Nq (E := te) (xs := jZ) (ys := mW) (bs := []) (io := false) (nn := fun n x => EQ n x) (st := fun g x => Ez g x) Tryz.func62 rfl (by kernel_rfl) (fun _ => rfl) (fun _ => rfl) fun g hg => E0 (ct := (.q (.q (.s (.j (.bl [30]) .d .d) (.s (.j (.bl [56]) .d .d) (.s (.j (.bl [85]) .d .d) (.j (.st true ⟨[],[],[]⟩) (.q (.b (.l ⟨[(4,false,AZ)],[],[]⟩ .d))) .d))))))) En (AJ hg (AJ vQ BN)) Tryz.func62 (by kernel_rfl) fun x => by rw [← SW]; kernel_rfl
def Dh (fRec : Tr24 → Option Int) (p0 : Tr24) : (Int × Int) → Option ((Int × Int) ⊕ Int)
  | (x2,x3) => (if x3 < (p0.un.2.2.2.length : Int) then ((ix p0.un.2.2.2 x3).bind fun x5 => (fRec x5).bind fun x6 => (if x2 < (Aq (x6 + 1)) then (ix p0.un.2.2.2 x3).bind fun x7 => (fRec x7).bind fun x8 => some (Aq (x8 + 1)) else some x2)).bind fun x4 => some (.inl (x4,Aq (x3 + 1))) else some (.inr x2))
def Ew (fRec : Tr24 → Option Int) (p0 : Tr24) : Option Int := (Af (Dh fRec p0) (1,0)).bind fun x1 => some x1
def EO : Nat → Tr24 → Option Int
  | 0 => fun _ => none
  | n + 1 => Ew (EO n)
def NS (p0 : Tr24) : Option Int := E2 fun n => EO n p0
def Kz (fRec : Tr24 → Option Int) (p0 : Tr24) : (Int × Int) → Option ((Int × Int) ⊕ Int)
  | (x2,x3) => (if x3 < (p0.un.2.2.2.length : Int) then ((ix p0.un.2.2.2 x3).bind fun x5 => (fRec (f24 x5)).bind fun x6 => (if x2 < (Aq (x6 + 1)) then (ix p0.un.2.2.2 x3).bind fun x7 => (fRec (f24 x7)).bind fun x8 => some (Aq (x8 + 1)) else some x2)).bind fun x4 => some (.inl (x4,Aq (x3 + 1))) else some (.inr x2))
theorem SS : @Kz = @Dh := by
 unfold Kz Dh
 simp only [Tr24.re_eq]
def Oj (fRec : Tr24 → Option Int) (p0 : Tr24) : Option Int := (Af (Kz fRec p0) (1,0)).bind fun x1 => some x1
theorem Ss : @Oj = @Ew := by
 unfold Oj Ew
 simp only [SS]
theorem k63 : KO (K63 fun x => NS x) 63 := Nq (E := te) (xs := gQ) (ys := qI) (bs := []) (io := false) (nn := fun n x => EO n x) (st := fun g x => Ew g x) Tryz.func63 rfl (by kernel_rfl) (fun _ => rfl) (fun _ => rfl) fun g hg => E0 (ct := (.q (.q (.j (.st false ⟨[(3,false,AZ)],[],[]⟩) (.q (.b (.l ⟨[(3,false,AZ),(4,false,AZ)],[],[]⟩ (.q (.j (.st false ⟨[(3,false,AZ)],[],[]⟩) .d .d))))) .d)))) En (AJ hg BN) Tryz.func63 (by kernel_rfl) fun x => by rw [← Ss]; kernel_rfl
def Hd (p0 : Tr24) : Option Bool := ((OC p0).bind fun x2 => (if x2 = true then (I4 p0).bind fun x3 => (if x3 ≤ 64 then (NS p0).bind fun x4 => some (decide (x4 ≤ 8)) else some false) else some false)).bind fun x1 => some x1
def RJ (p0 : Tr24) : Option Bool := ((OC (f24 p0)).bind fun x2 => (if x2 = true then (I4 (f24 p0)).bind fun x3 => (if x3 ≤ 64 then (NS (f24 p0)).bind fun x4 => some (decide (x4 ≤ 8)) else some false) else some false)).bind fun x1 => some x1
theorem VU : @RJ = @Hd := by
 unfold RJ Hd
 simp only [Tr24.re_eq]
abbrev K27 : Cn_ := ⟨[SB],[Lf],[],false,fun x => Hd x,none⟩
theorem k27 : KO (K27) 27 := E0 (ct := (.q (.j (.st false ⟨[(2,false,FX)],[],[]⟩) .d .d))) En (AJ xQ (AJ k62 (AJ k63 BN))) Tryz.func27 (by kernel_rfl) fun x => by rw [← VU]; kernel_rfl
theorem Vl (Y : Nat → Prop) (w0 : World) (v1 : Value) (p0 : Tr24) (r : Bool) (H : Hd p0 = some r) (h_v1 : Sl w0 (NX []) Sn v1 p0.un.2.2.2) (hG : Gk [] w0) :
    ca_ 27 #[.agg #[Jint p0.un.1,Jint p0.un.2.1,Jint p0.un.2.2.1,v1]] w0 fun e w' => e = .returned (.bool r) ∧ Below w0.heap.size w0 w' := k27.outP (Y := Y) (x := p0) H rfl rfl rfl rfl rfl (v1,()) ⟨h_v1,trivial⟩ rfl hG fun _ => rfl
theorem H27 : Has Tryz.prog 27 := Ik Tryz.func27
theorem B24 : Bt Tryz.prog 24 [Jint 0,Jint 0,Jint 0,.slice none 0 0] [(0,1),(1,1),(2,1),(3,1)] := ⟨⟨.agg #[Jint 0,Jint 0,Jint 0,.slice none 0 0],by kernel_rfl,rfl⟩,⟨_,qU,fun w => by kernel_rfl⟩⟩
theorem H38 : Has Tryz.prog 38 := Ik Tryz.func38
def EI (fRec : Tr24 → Tr24 → Option Bool) (p0 : Tr24) (p1 : Tr24) : Int → Option (Int ⊕ (Unit ⊕ Bool))
  | x1 => (if x1 < (p0.un.2.2.2.length : Int) then (ix p0.un.2.2.2 x1).bind fun x2 => (ix p1.un.2.2.2 x1).bind fun x3 => (fRec x2 x3).bind fun x4 => (if (!x4) = true then some (.inr (.inr false)) else some (.inl (Aq (x1 + 1)))) else some (.inr (.inl ())))
def Ey (fRec : Tr24 → Tr24 → Option Bool) (p0 : Tr24) (p1 : Tr24) : Option Bool := (if (decide (p0.un.1 ≠ p1.un.1) || (decide (p0.un.2.1 ≠ p1.un.2.1) || (decide (p0.un.2.2.1 ≠ p1.un.2.2.1) || decide ((p0.un.2.2.2.length : Int) ≠ (p1.un.2.2.2.length : Int))))) = true then some false else Hw (Af (EI fRec p0 p1) 0) fun _ => some true)
def FC : Nat → Tr24 → Tr24 → Option Bool
  | 0 => fun _ _ => none
  | n + 1 => Ey (FC n)
def Ka (p0 : Tr24) (p1 : Tr24) : Option Bool := E2 fun n => FC n p0 p1
def KS (fRec : Tr24 → Tr24 → Option Bool) (p0 : Tr24) (p1 : Tr24) : Int → Option (Int ⊕ (Unit ⊕ Bool))
  | x1 => (if x1 < (p0.un.2.2.2.length : Int) then (ix p0.un.2.2.2 x1).bind fun x2 => (ix p1.un.2.2.2 x1).bind fun x3 => (fRec (f24 x2) (f24 x3)).bind fun x4 => (if (!x4) = true then some (.inr (.inr false)) else some (.inl (Aq (x1 + 1)))) else some (.inr (.inl ())))
theorem SY : @KS = @EI := by
 unfold KS EI
 simp only [Tr24.re_eq]
def NA (fRec : Tr24 → Tr24 → Option Bool) (p0 : Tr24) (p1 : Tr24) : Option Bool := (if (decide (p0.un.1 ≠ p1.un.1) || (decide (p0.un.2.1 ≠ p1.un.2.1) || (decide (p0.un.2.2.1 ≠ p1.un.2.2.1) || decide ((p0.un.2.2.2.length : Int) ≠ (p1.un.2.2.2.length : Int))))) = true then some false else Hw (Af (KS fRec p0 p1) 0) fun _ => some true)
theorem SM : @NA = @Ey := by
 unfold NA Ey
 simp only [SY]
theorem z7 : KO (K38 fun x => Ka x.1 x.2) 38 := Nq (E := te) (xs := jP) (ys := mQ) (bs := []) (io := false) (nn := fun n x => FC n x.1 x.2) (st := fun g x => Ey (fun yp0 yp1 => g (yp0,yp1)) x.1 x.2) Tryz.func38 rfl (by kernel_rfl) (fun _ => rfl) (fun _ => rfl) fun g hg => E0 (ct := (.q (.s (.j (.bl [33]) .d .d) (.j (.st true ⟨[],[],[]⟩) (.q (.b (.l ⟨[(5,false,AZ)],[],[]⟩ .d))) .d)))) En (AJ hg BN) Tryz.func38 (by kernel_rfl) fun x => by rw [← SM]; kernel_rfl
theorem XE (Y : Nat → Prop) (w0 : World) (v1 : Value) (v2 : Value) (p0 : Tr24) (p1 : Tr24) (r : Bool) (H : Ka p0 p1 = some r) (h_v1 : Sl w0 (NX []) Sn v1 p0.un.2.2.2) (h_v2 : Sl w0 (NX []) Sn v2 p1.un.2.2.2) (hG : Gk [] w0) :
    ca_ 38 #[.agg #[Jint p0.un.1,Jint p0.un.2.1,Jint p0.un.2.2.1,v1],.agg #[Jint p1.un.1,Jint p1.un.2.1,Jint p1.un.2.2.1,v2]] w0 fun e w' => e = .returned (.bool r) ∧ Below w0.heap.size w0 w' := z7.outP (Y := Y) (x := (p0,p1)) H rfl rfl rfl rfl rfl (v1,(v2,())) ⟨h_v1,⟨h_v2,trivial⟩⟩ rfl hG fun _ => rfl
theorem H32 : Has Tryz.prog 32 := Ik Tryz.func32
def Fj (fRec : Tr27 → Option Bool) (p0 : Tr27) : Int → Option (Int ⊕ (Unit ⊕ Bool))
  | x4 => (if x4 < (p0.un.2.2.2.2.length : Int) then (ix p0.un.2.2.2.2 x4).bind fun x5 => (fRec (Tr27.of (x5.un.1,f24 x5.un.2.1,x5.un.2.2.1,x5.un.2.2.2.1,x5.un.2.2.2.2))).bind fun x6 => (if (!x6) = true then some (.inr (.inr false)) else some (.inl (Aq (x4 + 1)))) else some (.inr (.inl ())))
def Fh (fRec : Tr27 → Option Bool) (p0 : Tr27) : Option Bool := (if (decide (p0.un.1 < 1) || (decide (5 < p0.un.1) || (decide (p0.un.1 ≠ 2) && (decide (p0.un.2.2.1 ≠ 0) || decide (p0.un.2.2.2.1 ≠ 0))))) = true then some false else (if (decide (p0.un.1 = 1) || decide (p0.un.1 = 5)) = true then (Hd (f24 p0.un.2.1)).bind fun x2 => (if (!x2) = true then some true else some false) else (Ka (f24 p0.un.2.1) (Tr24.of (0,0,0,([] : List Tr24)))).bind fun x3 => some (!x3)).bind fun x1 => (if x1 = true then some false else (if (decide (p0.un.1 = 2) && (decide (p0.un.2.2.1 < 0) || (decide (4 < p0.un.2.2.1) || (decide (p0.un.2.2.2.1 < 0) || decide ((CF p0.un.2.2.1) < p0.un.2.2.2.1))))) = true then some false else (if (bif decide (p0.un.1 ≤ 2) then (decide ((p0.un.2.2.2.2.length : Int) ≠ 0) || (bif decide (p0.un.1 = 5) then (decide ((p0.un.2.2.2.2.length : Int) ≠ 2) || (bif decide (p0.un.1 = 3) then (decide ((p0.un.2.2.2.2.length : Int) < 2) || decide (8 < (p0.un.2.2.2.2.length : Int))) else (decide (p0.un.1 = 4) && (decide ((p0.un.2.2.2.2.length : Int) < 2) || decide (8 < (p0.un.2.2.2.2.length : Int)))))) else (bif decide (p0.un.1 = 3) then (decide ((p0.un.2.2.2.2.length : Int) < 2) || decide (8 < (p0.un.2.2.2.2.length : Int))) else (decide (p0.un.1 = 4) && (decide ((p0.un.2.2.2.2.length : Int) < 2) || decide (8 < (p0.un.2.2.2.2.length : Int))))))) else (bif decide (p0.un.1 = 5) then (decide ((p0.un.2.2.2.2.length : Int) ≠ 2) || (bif decide (p0.un.1 = 3) then (decide ((p0.un.2.2.2.2.length : Int) < 2) || decide (8 < (p0.un.2.2.2.2.length : Int))) else (decide (p0.un.1 = 4) && (decide ((p0.un.2.2.2.2.length : Int) < 2) || decide (8 < (p0.un.2.2.2.2.length : Int)))))) else (bif decide (p0.un.1 = 3) then (decide ((p0.un.2.2.2.2.length : Int) < 2) || decide (8 < (p0.un.2.2.2.2.length : Int))) else (decide (p0.un.1 = 4) && (decide ((p0.un.2.2.2.2.length : Int) < 2) || decide (8 < (p0.un.2.2.2.2.length : Int))))))) = true then some false else Hw (Af (Fj fRec p0) 0) fun _ => some true))))
def Ea : Nat → Tr27 → Option Bool
  | 0 => fun _ => none
  | n + 1 => Fh (Ea n)
def Ov (p0 : Tr27) : Option Bool := E2 fun n => Ea n p0
theorem U1 (fRec : Tr27 → Option Bool) (ih : ∀ (Y : Nat → Prop) (w0 : World) (v1 : Value) (v2 : Value) (p0 : Tr27) (r : Bool) (H : fRec p0 = some r) (h_v1 : Sl w0 (NX []) Sn v1 p0.un.2.1.un.2.2.2) (h_v2 : Sl w0 (NX []) U6 v2 p0.un.2.2.2.2) (hG : Gk [] w0),ca_ 32 #[.agg #[Jint p0.un.1,Jint p0.un.2.1.un.1,Jint p0.un.2.1.un.2.1,Jint p0.un.2.1.un.2.2.1,v1,Jint p0.un.2.2.1,Jint p0.un.2.2.2.1,v2]] w0 fun e w' => e = .returned (.bool r) ∧ Below w0.heap.size w0 w') (Y : Nat → Prop) (w0 : World) (v1 : Value) (v2 : Value) (p0 : Tr27) (r : Bool) (H : Fh fRec p0 = some r) (h_v1 : Sl w0 (NX []) Sn v1 p0.un.2.1.un.2.2.2) (h_v2 : Sl w0 (NX []) U6 v2 p0.un.2.2.2.2) (hG : Gk [] w0) :
    ca_ 32 #[.agg #[Jint p0.un.1,Jint p0.un.2.1.un.1,Jint p0.un.2.1.un.2.1,Jint p0.un.2.1.un.2.2.1,v1,Jint p0.un.2.2.1,Jint p0.un.2.2.2.1,v2]] w0 fun e w' => e = .returned (.bool r) ∧ Below w0.heap.size w0 w' := by
 refine enter Tryz.func32 Aa Tryz.ntmps32 Aa fun a F => ?_
 have W := Stw.start Y w0
 obtain ⟨v3,h1,h_v1⟩ := h_v1.ex Zc
 obtain ⟨v4,h2,h_v2⟩ := h_v2.ex j5
 unfold Fh at H
 refine vc tk 2 F W fun a w F W => ?_
 refine H7 (cs := (P4 p0 v1 v2)) F W Aa Aa Aa fun b1 a w F W => ?_
 refine Vx tk 7 [0] F W (ai fun a w F W => ?_)
 refine ls F W Aa (Lw (r := U6) (l := p0.un.2.2.2.2) n0 Aa F Aa (Hk j5 h2 (BZ h_v2))).q fun a w F W => ?_
 refine Lg tk 4 F W fun a w F W => ?_
 refine Ek (fun a w => Fr 130 [] [(1,pp b1),(2,.bool false),(3,Jint (p0.un.2.2.2.2.length : Int)),(31,.bool (decide (p0.un.1 < 1) || (decide (5 < p0.un.1) || (decide (p0.un.1 ≠ 2) && (decide (p0.un.2.2.1 ≠ 0) || decide (p0.un.2.2.2.1 ≠ 0))))))] a ∧ sy Y w0 (VQ b1 p0 v1 v2) [] w) ?_ ?_
 ·
  refine U7 tk 5 [0] F W (ai fun a w F W => ?_)
  rcases bxq (decide (p0.un.1 < 1)) with hb0 | hb0
  ·
   rw [hb0] at F
   refine vl tk 20 F W fun a w F W => ?_
   refine Al ?_
   exact ⟨F.re ⟨rfl,Aa,Aa,(J6 (by try rw [hb0]; all_goals simp only [Kn])),trivial⟩,W⟩
  rw [hb0] at F
  refine Tw tk 5 [0] F W (ai fun a w F W => ?_)
  rcases bxq (decide (5 < p0.un.1)) with hb1 | hb1
  ·
   rw [hb1] at F
   refine vl tk 15 F W fun a w F W => ?_
   refine Al ?_
   exact ⟨F.re ⟨rfl,Aa,Aa,(J6 (by try rw [hb0]; try rw [hb1]; all_goals simp only [Kn])),trivial⟩,W⟩
  rw [hb1] at F
  refine Tw tk 4 [0] F W (ai fun a w F W => ?_)
  rcases bxq (decide (p0.un.1 ≠ 2)) with hb2 | hb2
  ·
   rw [hb2] at F
   refine Tw tk 4 [0] F W (ai fun a w F W => ?_)
   rcases bxq (decide (p0.un.2.2.1 ≠ 0)) with hb3 | hb3
   ·
    rw [hb3] at F
    refine vl tk 7 F W fun a w F W => ?_
    refine Al ?_
    exact ⟨F.re ⟨rfl,Aa,Aa,(J6 (by try rw [hb3]; try rw [hb0]; try rw [hb1]; try rw [hb2]; all_goals simp only [Kn])),trivial⟩,W⟩
   rw [hb3] at F
   refine Tw tk 7 [0] F W (ai fun a w F W => ?_)
   refine Al ?_
   exact ⟨F.re ⟨rfl,Aa,Aa,(J6 (by try rw [hb3]; try rw [hb0]; try rw [hb1]; try rw [hb2]; all_goals simp only [Kn])),trivial⟩,W⟩
  rw [hb2] at F
  refine vl tk 11 F W fun a w F W => ?_
  refine Al ?_
  exact ⟨F.re ⟨rfl,Aa,Aa,(J6 (by try rw [hb0]; try rw [hb1]; try rw [hb2]; all_goals simp only [Kn])),trivial⟩,W⟩
 rintro a w ⟨F,W⟩
 refine Kx F Aa H (fun F H => ?_) fun F H => ?_
 ·
  refine vc tk 5 F W fun a w F W => ?_
  refine Cq (DY ?_)
  have H := DR H
  subst H
  refine Dr (.inl Aa) F W Aa (CH F Aa) ?_
  exact ⟨rfl,W.done⟩
 refine W1 tk 2 F W fun a w F W => ?_
 refine Ek (fun a w => Fr 130 [] [(1,pp b1),(2,.bool false),(3,Jint (p0.un.2.2.2.2.length : Int)),(4,.bool (decide (p0.un.1 = 1) || decide (p0.un.1 = 5)))] a ∧ sy Y w0 (VQ b1 p0 v1 v2) [] w) ?_ ?_
 ·
  refine U7 tk 5 [0] F W (ai fun a w F W => ?_)
  rcases bxq (decide (p0.un.1 = 1)) with hb0 | hb0
  ·
   rw [hb0] at F
   refine vl tk 6 F W fun a w F W => ?_
   refine Al ?_
   exact ⟨F.re ⟨rfl,Aa,Aa,(J6 (by try rw [hb0]; all_goals simp only [Kn])),trivial⟩,W⟩
  rw [hb0] at F
  refine Tw tk 6 [0] F W (ai fun a w F W => ?_)
  refine Al ?_
  exact ⟨F.re ⟨rfl,Aa,Aa,(J6 (by try rw [hb0]; all_goals simp only [Kn])),trivial⟩,W⟩
 rintro a w ⟨F,W⟩
 refine MY ?_
 obtain ⟨o1,G1,K1⟩ := A1 H
 refine Ek (fun a w => ∃ x1 : Bool,some (x1) = some o1 ∧ Fr 130 [] [(1,pp b1),(2,.bool false),(3,Jint (p0.un.2.2.2.2.length : Int)),(57,.bool x1)] a ∧ sy Y w0 (VQ b1 p0 v1 v2) [] w) ?_ ?_
 ·
  have H := G1
  refine vc tk 3 F W fun a w F W => ?_
  rcases bxq (decide (p0.un.1 = 1) || decide (p0.un.1 = 5)) with hb | hb
  ·
   have H := O2 hb H
   rw [hb] at F
   refine Tw tk 2 [0] F W (ai fun a w F W => ?_)
   refine W6 (AL F Aa Aa Aa Aa) ?_
   obtain ⟨x2,h3,H⟩ := A1 H
   refine ls F W Aa (EP (v := Value.bool x2) F H27 Aa (fun w W => Vl any w (v1) (f24 p0.un.2.1) _ h3 (bF (Hk Zc h1 (BZ h_v1)) W) (hG.go0 W))) fun a w F W => ?_
   refine vl tk 3 F W fun a w F W => ?_
   rcases bxq (!x2) with hb | hb
   ·
    have H := O2 hb H
    rw [hb] at F
    refine vl tk 11 F W fun a w F W => ?_
    refine Al ?_
    exact ⟨_,H,F.ra Aa,W⟩
   have H := Pa (by rw [hb]; decide) H
   rw [hb] at F
   refine vl tk 11 F W fun a w F W => ?_
   refine Al ?_
   exact ⟨_,H,F.ra Aa,W⟩
  have H := Pa (by rw [hb]; decide) H
  rw [hb] at F
  refine Tw tk 11 [0] F W (ai fun a w F W => ?_)
  refine OS F W (AL F Aa Aa Aa Aa) Aa (CA Aa) (Gh (v := Value.agg #[Jint 0,Jint 0,Jint 0,.slice none 0 0]) B24 F Aa Aa Aa).q fun a w F W => ?_
  refine W6 (AL F Aa Aa Aa Aa) ?_
  obtain ⟨x3,h4,H⟩ := A1 H
  refine ls F W Aa (EP (v := Value.bool x3) F H38 Aa (fun w W => XE any w (v1) (Value.slice none 0 0) (f24 p0.un.2.1) (Tr24.of (0,0,0,([] : List Tr24))) _ h4 (bF (Hk Zc h1 (BZ h_v1)) W) Sl.nil (hG.go0 W))) fun a w F W => ?_
  refine vl tk 4 F W fun a w F W => ?_
  refine Al ?_
  exact ⟨_,H,F.ra Aa,W⟩
 rintro a w ⟨x1,hj,F,W⟩
 have hj := DR hj
 subst hj
 have H := K1
 refine Kx F Aa H (fun F H => ?_) fun F H => ?_
 ·
  refine vc tk 5 F W fun a w F W => ?_
  refine Cq (DY ?_)
  have H := DR H
  subst H
  refine Dr (.inl Aa) F W Aa (CH F Aa) ?_
  exact ⟨rfl,W.done⟩
 refine W1 tk 3 F W fun a w F W => ?_
 refine Ek (fun a w => Fr 130 [] [(1,pp b1),(2,.bool false),(3,Jint (p0.un.2.2.2.2.length : Int)),(83,.bool (decide (p0.un.1 = 2) && (decide (p0.un.2.2.1 < 0) || (decide (4 < p0.un.2.2.1) || (decide (p0.un.2.2.2.1 < 0) || decide ((CF p0.un.2.2.1) < p0.un.2.2.2.1))))))] a ∧ sy Y w0 (VQ b1 p0 v1 v2) [] w) ?_ ?_
 ·
  refine HK W MO (by kernel_rfl) ?_
  refine qs F Aa (Bm P3 Aa Aa Aa T3 F Aa 0 Aa).q fun a F => ?_
  refine qs F Aa (Eh (v := Jint p0.un.1) 0 F Aa Aa T3 Aa).q fun a F => ?_
  refine qs F Aa (bM F Aa Aa).q fun a F => ?_
  refine qs F Aa (C1 F Aa).q fun a F => ?_
  rcases bxq (decide (p0.un.1 = 2)) with hb0 | hb0
  ·
   rw [hb0] at F
   refine FW F (AL F Aa Aa Aa Aa) Aa (CA Aa) (Bm P3 Aa Aa Aa T3 F Aa 5 Aa).q fun a F => ?_
   refine FW F (AL F Aa Aa Aa Aa) Aa (CA Aa) (Eh (v := Jint p0.un.2.2.1) 0 F Aa Aa T3 Aa).q fun a F => ?_
   refine FW F (AL F Aa Aa Aa Aa) Aa (CA Aa) (WV F Aa Aa).q fun a F => ?_
   refine FW F (AL F Aa Aa Aa Aa) Aa (CA Aa) (C1 F Aa).q fun a F => ?_
   rcases bxq (decide (p0.un.2.2.1 < 0)) with hb1 | hb1
   ·
    rw [hb1] at F
    iterate 3 refine FV F (F1 F Aa Aa Aa Aa Aa) Aa Aa fun a F => ?_
    refine FW F (AL F Aa Aa Aa Aa) Aa (CA Aa) (Fd F Aa Aa Aa).q fun a F => ?_
    refine FW F (AL F Aa Aa Aa Aa) Aa (CA Aa) (C1 F Aa).q fun a F => ?_
    iterate 3 refine FV F (F1 F Aa Aa Aa Aa Aa) Aa Aa fun a F => ?_
    refine FW F (AL F Aa Aa Aa Aa) Aa (CA Aa) (Fd F Aa Aa Aa).q fun a F => ?_
    refine FW F (AL F Aa Aa Aa Aa) Aa (CA Aa) (C1 F Aa).q fun a F => ?_
    iterate 6 refine FV F (F1 F Aa Aa Aa Aa Aa) Aa Aa fun a F => ?_
    refine FW F (AL F Aa Aa Aa Aa) Aa (CA Aa) (Fd F Aa Aa Aa).q fun a F => ?_
    refine qs F Aa (Fd F Aa Aa Aa).q fun a F => ?_
    refine D7 fun w W => ?_
    refine Al ?_
    exact ⟨F.re ⟨rfl,Aa,Aa,(J6 (by try rw [hb1]; try rw [hb0]; all_goals simp only [Kn])),trivial⟩,W⟩
   rw [hb1] at F
   refine FW F (AL F Aa Aa Aa Aa) Aa (CA Aa) (Bm P3 Aa Aa Aa T3 F Aa 5 Aa).q fun a F => ?_
   refine FW F (AL F Aa Aa Aa Aa) Aa (CA Aa) (Eh (v := Jint p0.un.2.2.1) 0 F Aa Aa T3 Aa).q fun a F => ?_
   refine FW F (AL F Aa Aa Aa Aa) Aa (CA Aa) (XR F Aa Aa).q fun a F => ?_
   refine FW F (AL F Aa Aa Aa Aa) Aa (CA Aa) (I3 F Aa Aa Aa).q fun a F => ?_
   refine FW F (AL F Aa Aa Aa Aa) Aa (CA Aa) (C1 F Aa).q fun a F => ?_
   rcases bxq (decide (4 < p0.un.2.2.1)) with hb2 | hb2
   ·
    rw [hb2] at F
    iterate 3 refine FV F (F1 F Aa Aa Aa Aa Aa) Aa Aa fun a F => ?_
    refine FW F (AL F Aa Aa Aa Aa) Aa (CA Aa) (Fd F Aa Aa Aa).q fun a F => ?_
    refine FW F (AL F Aa Aa Aa Aa) Aa (CA Aa) (C1 F Aa).q fun a F => ?_
    iterate 6 refine FV F (F1 F Aa Aa Aa Aa Aa) Aa Aa fun a F => ?_
    refine FW F (AL F Aa Aa Aa Aa) Aa (CA Aa) (Fd F Aa Aa Aa).q fun a F => ?_
    refine qs F Aa (Fd F Aa Aa Aa).q fun a F => ?_
    refine D7 fun w W => ?_
    refine Al ?_
    exact ⟨F.re ⟨rfl,Aa,Aa,(J6 (by try rw [hb1]; try rw [hb2]; try rw [hb0]; all_goals simp only [Kn])),trivial⟩,W⟩
   rw [hb2] at F
   refine FW F (AL F Aa Aa Aa Aa) Aa (CA Aa) (Bm P3 Aa Aa Aa T3 F Aa 6 Aa).q fun a F => ?_
   refine FW F (AL F Aa Aa Aa Aa) Aa (CA Aa) (Eh (v := Jint p0.un.2.2.2.1) 0 F Aa Aa T3 Aa).q fun a F => ?_
   refine FW F (AL F Aa Aa Aa Aa) Aa (CA Aa) (WV F Aa Aa).q fun a F => ?_
   refine FW F (AL F Aa Aa Aa Aa) Aa (CA Aa) (I3 F Aa Aa Aa).q fun a F => ?_
   refine FW F (AL F Aa Aa Aa Aa) Aa (CA Aa) (C1 F Aa).q fun a F => ?_
   rcases bxq (decide (p0.un.2.2.2.1 < 0)) with hb3 | hb3
   ·
    rw [hb3] at F
    iterate 6 refine FV F (F1 F Aa Aa Aa Aa Aa) Aa Aa fun a F => ?_
    refine FW F (AL F Aa Aa Aa Aa) Aa (CA Aa) (Fd F Aa Aa Aa).q fun a F => ?_
    refine qs F Aa (Fd F Aa Aa Aa).q fun a F => ?_
    refine D7 fun w W => ?_
    refine Al ?_
    exact ⟨F.re ⟨rfl,Aa,Aa,(J6 (by try rw [hb3]; try rw [hb1]; try rw [hb2]; try rw [hb0]; all_goals simp only [Kn])),trivial⟩,W⟩
   rw [hb3] at F
   refine FW F (AL F Aa Aa Aa Aa) Aa (CA Aa) (Bm P3 Aa Aa Aa T3 F Aa 6 Aa).q fun a F => ?_
   refine FW F (AL F Aa Aa Aa Aa) Aa (CA Aa) (Eh (v := Jint p0.un.2.2.2.1) 0 F Aa Aa T3 Aa).q fun a F => ?_
   refine FW F (AL F Aa Aa Aa Aa) Aa (CA Aa) (Bm P3 Aa Aa Aa T3 F Aa 5 Aa).q fun a F => ?_
   refine FW F (AL F Aa Aa Aa Aa) Aa (CA Aa) (Eh (v := Jint p0.un.2.2.1) 0 F Aa Aa T3 Aa).q fun a F => ?_
   refine FW F (AL F Aa Aa Aa Aa) Aa (CA Aa) (EP (v := Jint (CF p0.un.2.2.1)) F H51 Aa (fun w W => ZB any w p0.un.2.2.1 _ Aa (hG.go0 W))) fun a F => ?_
   refine FW F (AL F Aa Aa Aa Aa) Aa (CA Aa) (XR F Aa Aa).q fun a F => ?_
   refine FW F (AL F Aa Aa Aa Aa) Aa (CA Aa) (I3 F Aa Aa Aa).q fun a F => ?_
   refine qs F Aa (Fd F Aa Aa Aa).q fun a F => ?_
   refine D7 fun w W => ?_
   refine Al ?_
   exact ⟨F.re ⟨rfl,Aa,Aa,(J6 (by try rw [hb3]; try rw [hb1]; try rw [hb2]; try rw [hb0]; all_goals simp only [Kn])),trivial⟩,W⟩
  rw [hb0] at F
  iterate 4 refine FV F (F1 F Aa Aa Aa Aa Aa) Aa Aa fun a F => ?_
  iterate 3 refine FV F (Hr F Aa Aa Aa Aa) Aa Aa fun a F => ?_
  iterate 2 refine FV F (F1 F Aa Aa Aa Aa Aa) Aa Aa fun a F => ?_
  iterate 3 refine FV F (Hr F Aa Aa Aa Aa) Aa Aa fun a F => ?_
  iterate 2 refine FV F (F1 F Aa Aa Aa Aa Aa) Aa Aa fun a F => ?_
  iterate 6 refine FV F (Hr F Aa Aa Aa Aa) Aa Aa fun a F => ?_
  refine FV F (F1 F Aa Aa Aa Aa Aa) Aa Aa fun a F => ?_
  refine qs F Aa (I3 F Aa Aa Aa).q fun a F => ?_
  refine D7 fun w W => ?_
  refine Al ?_
  exact ⟨F.re ⟨rfl,Aa,Aa,(J6 (by try rw [hb0]; all_goals simp only [Kn])),trivial⟩,W⟩
 rintro a w ⟨F,W⟩
 refine Kx F Aa H (fun F H => ?_) fun F H => ?_
 ·
  refine vc tk 5 F W fun a w F W => ?_
  refine Cq (DY ?_)
  have H := DR H
  subst H
  refine Dr (.inl Aa) F W Aa (CH F Aa) ?_
  exact ⟨rfl,W.done⟩
 refine W1 tk 3 F W fun a w F W => ?_
 refine Ek (fun a w => Fr 130 [] [(1,pp b1),(2,.bool false),(3,Jint (p0.un.2.2.2.2.length : Int)),(117,.bool (bif decide (p0.un.1 ≤ 2) then (decide ((p0.un.2.2.2.2.length : Int) ≠ 0) || (bif decide (p0.un.1 = 5) then (decide ((p0.un.2.2.2.2.length : Int) ≠ 2) || (bif decide (p0.un.1 = 3) then (decide ((p0.un.2.2.2.2.length : Int) < 2) || decide (8 < (p0.un.2.2.2.2.length : Int))) else (decide (p0.un.1 = 4) && (decide ((p0.un.2.2.2.2.length : Int) < 2) || decide (8 < (p0.un.2.2.2.2.length : Int)))))) else (bif decide (p0.un.1 = 3) then (decide ((p0.un.2.2.2.2.length : Int) < 2) || decide (8 < (p0.un.2.2.2.2.length : Int))) else (decide (p0.un.1 = 4) && (decide ((p0.un.2.2.2.2.length : Int) < 2) || decide (8 < (p0.un.2.2.2.2.length : Int))))))) else (bif decide (p0.un.1 = 5) then (decide ((p0.un.2.2.2.2.length : Int) ≠ 2) || (bif decide (p0.un.1 = 3) then (decide ((p0.un.2.2.2.2.length : Int) < 2) || decide (8 < (p0.un.2.2.2.2.length : Int))) else (decide (p0.un.1 = 4) && (decide ((p0.un.2.2.2.2.length : Int) < 2) || decide (8 < (p0.un.2.2.2.2.length : Int)))))) else (bif decide (p0.un.1 = 3) then (decide ((p0.un.2.2.2.2.length : Int) < 2) || decide (8 < (p0.un.2.2.2.2.length : Int))) else (decide (p0.un.1 = 4) && (decide ((p0.un.2.2.2.2.length : Int) < 2) || decide (8 < (p0.un.2.2.2.2.length : Int))))))))] a ∧ sy Y w0 (VQ b1 p0 v1 v2) [] w) ?_ ?_
 ·
  refine U7 tk 5 [0] F W (ai fun a w F W => ?_)
  rcases bxq (decide (p0.un.1 ≤ 2)) with hb0 | hb0
  ·
   rw [hb0] at F
   refine vl tk 4 F W fun a w F W => ?_
   rcases bxq (decide ((p0.un.2.2.2.2.length : Int) ≠ 0)) with hb1 | hb1
   ·
    rw [hb1] at F
    refine vl tk 27 F W fun a w F W => ?_
    refine Al ?_
    exact ⟨F.re ⟨rfl,Aa,Aa,(J6 (by try rw [hb1]; try rw [hb0]; all_goals simp only [Kn])),trivial⟩,W⟩
   rw [hb1] at F
   refine Tw tk 4 [0] F W (ai fun a w F W => ?_)
   rcases bxq (decide (p0.un.1 = 5)) with hb2 | hb2
   ·
    rw [hb2] at F
    refine vl tk 5 F W fun a w F W => ?_
    rcases bxq (decide ((p0.un.2.2.2.2.length : Int) ≠ 2)) with hb3 | hb3
    ·
     rw [hb3] at F
     refine vl tk 18 F W fun a w F W => ?_
     refine Al ?_
     exact ⟨F.re ⟨rfl,Aa,Aa,(J6 (by try rw [hb1]; try rw [hb3]; try rw [hb0]; try rw [hb2]; all_goals simp only [Kn])),trivial⟩,W⟩
    rw [hb3] at F
    refine Tw tk 4 [0] F W (ai fun a w F W => ?_)
    rcases bxq (decide (p0.un.1 = 3)) with hb4 | hb4
    ·
     rw [hb4] at F
     refine vl tk 8 F W fun a w F W => ?_
     rcases bxq (decide ((p0.un.2.2.2.2.length : Int) < 2)) with hb5 | hb5
     ·
      rw [hb5] at F
      refine vl tk 6 F W fun a w F W => ?_
      refine Al ?_
      exact ⟨F.re ⟨rfl,Aa,Aa,(J6 (by try rw [hb1]; try rw [hb3]; try rw [hb5]; try rw [hb0]; try rw [hb2]; try rw [hb4]; all_goals simp only [Kn])),trivial⟩,W⟩
     rw [hb5] at F
     refine vl tk 6 F W fun a w F W => ?_
     refine Al ?_
     exact ⟨F.re ⟨rfl,Aa,Aa,(J6 (by try rw [hb1]; try rw [hb3]; try rw [hb5]; try rw [hb0]; try rw [hb2]; try rw [hb4]; all_goals simp only [Kn])),trivial⟩,W⟩
    rw [hb4] at F
    refine Tw tk 5 [0] F W (ai fun a w F W => ?_)
    rcases bxq (decide (p0.un.1 = 4)) with hb5 | hb5
    ·
     rw [hb5] at F
     refine vl tk 3 F W fun a w F W => ?_
     rcases bxq (decide ((p0.un.2.2.2.2.length : Int) < 2)) with hb6 | hb6
     ·
      rw [hb6] at F
      refine vl tk 6 F W fun a w F W => ?_
      refine Al ?_
      exact ⟨F.re ⟨rfl,Aa,Aa,(J6 (by try rw [hb1]; try rw [hb3]; try rw [hb6]; try rw [hb0]; try rw [hb2]; try rw [hb4]; try rw [hb5]; all_goals simp only [Kn])),trivial⟩,W⟩
     rw [hb6] at F
     refine vl tk 6 F W fun a w F W => ?_
     refine Al ?_
     exact ⟨F.re ⟨rfl,Aa,Aa,(J6 (by try rw [hb1]; try rw [hb3]; try rw [hb6]; try rw [hb0]; try rw [hb2]; try rw [hb4]; try rw [hb5]; all_goals simp only [Kn])),trivial⟩,W⟩
    rw [hb5] at F
    refine vl tk 9 F W fun a w F W => ?_
    refine Al ?_
    exact ⟨F.re ⟨rfl,Aa,Aa,(J6 (by try rw [hb1]; try rw [hb3]; try rw [hb0]; try rw [hb2]; try rw [hb4]; try rw [hb5]; all_goals simp only [Kn])),trivial⟩,W⟩
   rw [hb2] at F
   refine Tw tk 9 [0] F W (ai fun a w F W => ?_)
   rcases bxq (decide (p0.un.1 = 3)) with hb3 | hb3
   ·
    rw [hb3] at F
    refine vl tk 8 F W fun a w F W => ?_
    rcases bxq (decide ((p0.un.2.2.2.2.length : Int) < 2)) with hb4 | hb4
    ·
     rw [hb4] at F
     refine vl tk 6 F W fun a w F W => ?_
     refine Al ?_
     exact ⟨F.re ⟨rfl,Aa,Aa,(J6 (by try rw [hb1]; try rw [hb4]; try rw [hb0]; try rw [hb2]; try rw [hb3]; all_goals simp only [Kn])),trivial⟩,W⟩
    rw [hb4] at F
    refine vl tk 6 F W fun a w F W => ?_
    refine Al ?_
    exact ⟨F.re ⟨rfl,Aa,Aa,(J6 (by try rw [hb1]; try rw [hb4]; try rw [hb0]; try rw [hb2]; try rw [hb3]; all_goals simp only [Kn])),trivial⟩,W⟩
   rw [hb3] at F
   refine Tw tk 5 [0] F W (ai fun a w F W => ?_)
   rcases bxq (decide (p0.un.1 = 4)) with hb4 | hb4
   ·
    rw [hb4] at F
    refine vl tk 3 F W fun a w F W => ?_
    rcases bxq (decide ((p0.un.2.2.2.2.length : Int) < 2)) with hb5 | hb5
    ·
     rw [hb5] at F
     refine vl tk 6 F W fun a w F W => ?_
     refine Al ?_
     exact ⟨F.re ⟨rfl,Aa,Aa,(J6 (by try rw [hb1]; try rw [hb5]; try rw [hb0]; try rw [hb2]; try rw [hb3]; try rw [hb4]; all_goals simp only [Kn])),trivial⟩,W⟩
    rw [hb5] at F
    refine vl tk 6 F W fun a w F W => ?_
    refine Al ?_
    exact ⟨F.re ⟨rfl,Aa,Aa,(J6 (by try rw [hb1]; try rw [hb5]; try rw [hb0]; try rw [hb2]; try rw [hb3]; try rw [hb4]; all_goals simp only [Kn])),trivial⟩,W⟩
   rw [hb4] at F
   refine vl tk 9 F W fun a w F W => ?_
   refine Al ?_
   exact ⟨F.re ⟨rfl,Aa,Aa,(J6 (by try rw [hb1]; try rw [hb0]; try rw [hb2]; try rw [hb3]; try rw [hb4]; all_goals simp only [Kn])),trivial⟩,W⟩
  rw [hb0] at F
  refine Tw tk 8 [0] F W (ai fun a w F W => ?_)
  rcases bxq (decide (p0.un.1 = 5)) with hb1 | hb1
  ·
   rw [hb1] at F
   refine vl tk 5 F W fun a w F W => ?_
   rcases bxq (decide ((p0.un.2.2.2.2.length : Int) ≠ 2)) with hb2 | hb2
   ·
    rw [hb2] at F
    refine vl tk 18 F W fun a w F W => ?_
    refine Al ?_
    exact ⟨F.re ⟨rfl,Aa,Aa,(J6 (by try rw [hb2]; try rw [hb0]; try rw [hb1]; all_goals simp only [Kn])),trivial⟩,W⟩
   rw [hb2] at F
   refine Tw tk 4 [0] F W (ai fun a w F W => ?_)
   rcases bxq (decide (p0.un.1 = 3)) with hb3 | hb3
   ·
    rw [hb3] at F
    refine vl tk 8 F W fun a w F W => ?_
    rcases bxq (decide ((p0.un.2.2.2.2.length : Int) < 2)) with hb4 | hb4
    ·
     rw [hb4] at F
     refine vl tk 6 F W fun a w F W => ?_
     refine Al ?_
     exact ⟨F.re ⟨rfl,Aa,Aa,(J6 (by try rw [hb2]; try rw [hb4]; try rw [hb0]; try rw [hb1]; try rw [hb3]; all_goals simp only [Kn])),trivial⟩,W⟩
    rw [hb4] at F
    refine vl tk 6 F W fun a w F W => ?_
    refine Al ?_
    exact ⟨F.re ⟨rfl,Aa,Aa,(J6 (by try rw [hb2]; try rw [hb4]; try rw [hb0]; try rw [hb1]; try rw [hb3]; all_goals simp only [Kn])),trivial⟩,W⟩
   rw [hb3] at F
   refine Tw tk 5 [0] F W (ai fun a w F W => ?_)
   rcases bxq (decide (p0.un.1 = 4)) with hb4 | hb4
   ·
    rw [hb4] at F
    refine vl tk 3 F W fun a w F W => ?_
    rcases bxq (decide ((p0.un.2.2.2.2.length : Int) < 2)) with hb5 | hb5
    ·
     rw [hb5] at F
     refine vl tk 6 F W fun a w F W => ?_
     refine Al ?_
     exact ⟨F.re ⟨rfl,Aa,Aa,(J6 (by try rw [hb2]; try rw [hb5]; try rw [hb0]; try rw [hb1]; try rw [hb3]; try rw [hb4]; all_goals simp only [Kn])),trivial⟩,W⟩
    rw [hb5] at F
    refine vl tk 6 F W fun a w F W => ?_
    refine Al ?_
    exact ⟨F.re ⟨rfl,Aa,Aa,(J6 (by try rw [hb2]; try rw [hb5]; try rw [hb0]; try rw [hb1]; try rw [hb3]; try rw [hb4]; all_goals simp only [Kn])),trivial⟩,W⟩
   rw [hb4] at F
   refine vl tk 9 F W fun a w F W => ?_
   refine Al ?_
   exact ⟨F.re ⟨rfl,Aa,Aa,(J6 (by try rw [hb2]; try rw [hb0]; try rw [hb1]; try rw [hb3]; try rw [hb4]; all_goals simp only [Kn])),trivial⟩,W⟩
  rw [hb1] at F
  refine Tw tk 9 [0] F W (ai fun a w F W => ?_)
  rcases bxq (decide (p0.un.1 = 3)) with hb2 | hb2
  ·
   rw [hb2] at F
   refine vl tk 8 F W fun a w F W => ?_
   rcases bxq (decide ((p0.un.2.2.2.2.length : Int) < 2)) with hb3 | hb3
   ·
    rw [hb3] at F
    refine vl tk 6 F W fun a w F W => ?_
    refine Al ?_
    exact ⟨F.re ⟨rfl,Aa,Aa,(J6 (by try rw [hb3]; try rw [hb0]; try rw [hb1]; try rw [hb2]; all_goals simp only [Kn])),trivial⟩,W⟩
   rw [hb3] at F
   refine vl tk 6 F W fun a w F W => ?_
   refine Al ?_
   exact ⟨F.re ⟨rfl,Aa,Aa,(J6 (by try rw [hb3]; try rw [hb0]; try rw [hb1]; try rw [hb2]; all_goals simp only [Kn])),trivial⟩,W⟩
  rw [hb2] at F
  refine Tw tk 5 [0] F W (ai fun a w F W => ?_)
  rcases bxq (decide (p0.un.1 = 4)) with hb3 | hb3
  ·
   rw [hb3] at F
   refine vl tk 3 F W fun a w F W => ?_
   rcases bxq (decide ((p0.un.2.2.2.2.length : Int) < 2)) with hb4 | hb4
   ·
    rw [hb4] at F
    refine vl tk 6 F W fun a w F W => ?_
    refine Al ?_
    exact ⟨F.re ⟨rfl,Aa,Aa,(J6 (by try rw [hb4]; try rw [hb0]; try rw [hb1]; try rw [hb2]; try rw [hb3]; all_goals simp only [Kn])),trivial⟩,W⟩
   rw [hb4] at F
   refine vl tk 6 F W fun a w F W => ?_
   refine Al ?_
   exact ⟨F.re ⟨rfl,Aa,Aa,(J6 (by try rw [hb4]; try rw [hb0]; try rw [hb1]; try rw [hb2]; try rw [hb3]; all_goals simp only [Kn])),trivial⟩,W⟩
  rw [hb3] at F
  refine vl tk 9 F W fun a w F W => ?_
  refine Al ?_
  exact ⟨F.re ⟨rfl,Aa,Aa,(J6 (by try rw [hb0]; try rw [hb1]; try rw [hb2]; try rw [hb3]; all_goals simp only [Kn])),trivial⟩,W⟩
 rintro a w ⟨F,W⟩
 refine Kx F Aa H (fun F H => ?_) fun F H => ?_
 ·
  refine vc tk 5 F W fun a w F W => ?_
  refine Cq (DY ?_)
  have H := DR H
  subst H
  refine Dr (.inl Aa) F W Aa (CH F Aa) ?_
  exact ⟨rfl,W.done⟩
 refine E3 (Al ?_)
 obtain ⟨o2,G2,K2,L2⟩ := uY H
 refine Ek (fun a w => some (Sum.inl ()) = some o2 ∧ Fr 130 [] [(2,.bool false)] a ∧ sy Y w0 (VQ b1 p0 v1 v2) [] w) ?_ ?_
 ·
  have H := G2
  refine vc tk 6 F W fun a w F W => ?_
  refine Jq H (fun s a w => Fr 130 [] [(1,pp b1),(2,.bool false),(3,Jint (p0.un.2.2.2.2.length : Int)),(5,Jint s)] a ∧ sy Y w0 (VQ b1 p0 v1 v2) [] w) ⟨F.ra Aa,W⟩ fun s o a w H L3 hR => ?_
  obtain ⟨x4,rfl⟩ : ∃ x,x = s := ⟨s,rfl⟩
  obtain ⟨F,W⟩ := hR
  have F : Fr 130 [] [(1,pp b1),(2,.bool false),(3,Jint (p0.un.2.2.2.2.length : Int)),(5,Jint x4)] a := F
  have W : sy Y w0 (VQ b1 p0 v1 v2) [] w := W
  rw [Fj] at H
  refine vc tk 8 F W fun a w F W => ?_
  refine Ia F Aa H (fun F H => ?_) fun F H => ?_
  ·
   refine tG tk 9 [0] F W (ai fun a w F W => ?_)
   obtain ⟨x5,h5,H⟩ := A1 H
   obtain ⟨v5,h6,h7⟩ := TY h2 h5
   have h8 : bC v5 = [Jint x5.un.1,Jint x5.un.2.1.un.1,Jint x5.un.2.1.un.2.1,Jint x5.un.2.1.un.2.2.1,(v5.2.1.2.2.2.1),Jint x5.un.2.2.1,Jint x5.un.2.2.2.1,(v5.2.2.2.2.1)] := congrArg (fun q : Tr27 => ([Jint q.un.1,Jint q.un.2.1.un.1,Jint q.un.2.1.un.2.1,Jint q.un.2.1.un.2.2.1,(v5.2.1.2.2.2.1),Jint q.un.2.2.1,Jint q.un.2.2.2.1,(v5.2.2.2.2.1)] : List Value)) h7
   refine ls F W Aa (Hq (r := gT) zN F Aa Aa (BZ h_v2) h6).q fun a w F W => ?_
   refine ls F W Aa (Er (y := Value.agg #[Jint x5.un.1,Jint x5.un.2.1.un.1,Jint x5.un.2.1.un.2.1,Jint x5.un.2.1.un.2.2.1,(v5.2.1.2.2.2.1),Jint x5.un.2.2.1,Jint x5.un.2.2.2.1,(v5.2.2.2.2.1)]) (j := 0) (i := x4) (enc := bC) F Aa Aa (BZ h_v2) h6 sS T27 (by rw [h8]; rfl)).q fun a w F W => ?_
   obtain ⟨x6,h9,H⟩ := A1 H
   refine ls F W Aa (EP (v := Value.bool x6) F H32 Aa (fun w W => ih any w ((v5.2.1.2.2.2.1)) ((v5.2.2.2.2.1)) (Tr27.of (x5.un.1,f24 x5.un.2.1,x5.un.2.2.1,x5.un.2.2.2.1,x5.un.2.2.2.2)) _ h9 (bF (L4 (BZ h_v2) h6 (Ce.snd (Ce.fst (Ce.snd (Ce.snd (Ce.snd Ce.here))))) (congrArg (fun q : Tr27 => q.un.2.1.un.2.2.2) h7)) W) (bF (L4 (BZ h_v2) h6 (Ce.snd (Ce.snd (Ce.snd (Ce.snd Ce.here)))) (congrArg (fun q : Tr27 => q.un.2.2.2.2) h7)) W) (hG.go0 W))) fun a w F W => ?_
   refine Lg tk 3 F W fun a w F W => ?_
   refine Kx F Aa H (fun F H => ?_) fun F H => ?_
   ·
    refine vc tk 5 F W fun a w F W => ?_
    refine Cq (Hj ?_)
    iterate 2 refine DY ?_
    refine Hj (DY ?_)
    have H := L3 _ H
    have H := L2 _ H
    have H := DR H
    subst H
    refine Dr (.inl Aa) F W Aa (CH F Aa) ?_
    exact ⟨rfl,W.done⟩
   refine E3 (FK ?_)
   refine vn tk 5 F W fun a w F W => ?_
   refine Al ?_
   exact ⟨_,H,F.ra Aa,W⟩
  refine Ho ?_
  iterate 2 refine KM ?_
  refine GO (Al ?_)
  have H := L3 _ H
  exact ⟨H,F.ra Aa,W⟩
 rintro a w ⟨hj,F,W⟩
 have H := K2 _ hj
 refine vc tk 5 F W fun a w F W => ?_
 refine Cq ?_
 have H := DR H
 subst H
 refine Dr (.inl Aa) F W Aa (CH F Aa) ?_
 exact ⟨rfl,W.done⟩
theorem VM : ∀ (n : Nat) (Y : Nat → Prop) (w0 : World) (v1 : Value) (v2 : Value) (p0 : Tr27) (r : Bool) (H : Ea n p0 = some r) (h_v1 : Sl w0 (NX []) Sn v1 p0.un.2.1.un.2.2.2) (h_v2 : Sl w0 (NX []) U6 v2 p0.un.2.2.2.2) (hG : Gk [] w0),ca_ 32 #[.agg #[Jint p0.un.1,Jint p0.un.2.1.un.1,Jint p0.un.2.1.un.2.1,Jint p0.un.2.1.un.2.2.1,v1,Jint p0.un.2.2.1,Jint p0.un.2.2.2.1,v2]] w0 fun e w' => e = .returned (.bool r) ∧ Below w0.heap.size w0 w' := by
  intro n
  induction n with
  | zero => intro Y w0 v1 v2 p0 r H; exact nomatch H
  | succ n ih => intro Y w0 v1 v2 p0 r H h_v1 h_v2 hG; exact U1 (Ea n) ih Y w0 v1 v2 p0 r H h_v1 h_v2 hG
theorem Xq (Y : Nat → Prop) (w0 : World) (v1 : Value) (v2 : Value) (p0 : Tr27) (r : Bool) (H : Ov p0 = some r) (h_v1 : Sl w0 (NX []) Sn v1 p0.un.2.1.un.2.2.2) (h_v2 : Sl w0 (NX []) U6 v2 p0.un.2.2.2.2) (hG : Gk [] w0) :
    ca_ 32 #[.agg #[Jint p0.un.1,Jint p0.un.2.1.un.1,Jint p0.un.2.1.un.2.1,Jint p0.un.2.1.un.2.2.1,v1,Jint p0.un.2.2.1,Jint p0.un.2.2.2.1,v2]] w0 fun e w' => e = .returned (.bool r) ∧ Below w0.heap.size w0 w' := by
  obtain ⟨n,H⟩ := Ks H
  exact VM n Y w0 v1 v2 p0 r H h_v1 h_v2 hG
theorem k32 : KO (K32 fun x => Ov x) 32 := KO.of ⟨fun args w => AN Tryz.func32 rfl (by decide) args w⟩ rfl (fun _ => rfl) (fun _ => rfl) rfl (fun _ => rfl) (fun _ => rfl) (fun _ => rfl) (fun _ => rfl) fun Y w0 x r g H hg hk => (Xq Y w0 g.1 g.2.1 x r H hg.1 hg.2.1 hk).mono fun e w' h => ⟨(),h.1,Stw.ofB h.2⟩
def DZ (fRec : Tr27 → Option Int) (p0 : Tr27) : (Int × Int) → Option ((Int × Int) ⊕ Int)
  | (x2,x3) => (if x3 < (p0.un.2.2.2.2.length : Int) then ((ix p0.un.2.2.2.2 x3).bind fun x5 => (fRec (Tr27.of (x5.un.1,f24 x5.un.2.1,x5.un.2.2.1,x5.un.2.2.2.1,x5.un.2.2.2.2))).bind fun x6 => (if x2 ≤ x6 then (ix p0.un.2.2.2.2 x3).bind fun x7 => (fRec (Tr27.of (x7.un.1,f24 x7.un.2.1,x7.un.2.2.1,x7.un.2.2.2.1,x7.un.2.2.2.2))).bind fun x8 => some (Aq (x8 + 1)) else some x2)).bind fun x4 => some (.inl (x4,Aq (x3 + 1))) else some (.inr x2))
def F3 (fRec : Tr27 → Option Int) (p0 : Tr27) : Option Int := (Af (DZ fRec p0) (1,0)).bind fun x1 => some x1
def EW : Nat → Tr27 → Option Int
  | 0 => fun _ => none
  | n + 1 => F3 (EW n)
def Oc (p0 : Tr27) : Option Int := E2 fun n => EW n p0
theorem k14 : KO (K14 fun x => Oc x) 14 := Nq (E := te) (xs := kH) (ys := nH) (bs := []) (io := false) (nn := fun n x => EW n x) (st := fun g x => F3 g x) Tryz.func14 rfl (by kernel_rfl) (fun _ => rfl) (fun _ => rfl) fun g hg => E0 (ct := (.q (.q (.j (.st false ⟨[(3,false,AZ)],[],[]⟩) (.q (.b (.l ⟨[(3,false,AZ),(4,false,AZ)],[],[]⟩ (.q (.j (.st false ⟨[(3,false,AZ)],[],[]⟩) .d .d))))) .d)))) En (AJ hg BN) Tryz.func14 (by kernel_rfl) fun x => by kernel_rfl
def D5 (fRec : Tr27 → Option Int) (p0 : Tr27) : (Int × Int) → Option ((Int × Int) ⊕ Int)
  | (x4,x5) => (if x5 < (p0.un.2.2.2.2.length : Int) then (ix p0.un.2.2.2.2 x5).bind fun x6 => (fRec (Tr27.of (x6.un.1,f24 x6.un.2.1,x6.un.2.2.1,x6.un.2.2.2.1,x6.un.2.2.2.2))).bind fun x7 => some (.inl (Aq (x4 + x7),Aq (x5 + 1))) else some (.inr x4))
def Gb (fRec : Tr27 → Option Int) (p0 : Tr27) : Option Int := (if (decide (p0.un.1 < 2) || decide (4 < p0.un.1)) = true then (I4 (f24 p0.un.2.1)).bind fun x2 => some (Aq (1 + x2)) else some 1).bind fun x1 => (Af (D5 fRec p0) (x1,0)).bind fun x3 => some x3
def ES : Nat → Tr27 → Option Int
  | 0 => fun _ => none
  | n + 1 => Gb (ES n)
def N5 (p0 : Tr27) : Option Int := E2 fun n => ES n p0
theorem zE : KO (K12 fun x => N5 x) 12 := Nq (E := te) (xs := jM) (ys := nV) (bs := []) (io := false) (nn := fun n x => ES n x) (st := fun g x => Gb g x) Tryz.func12 rfl (by kernel_rfl) (fun _ => rfl) (fun _ => rfl) fun g hg => E0 (ct := (.q (.q (.j (.st false ⟨[(3,false,AZ)],[],[]⟩) (.j (.bl [12]) .d .d) (.j (.st false ⟨[(3,false,AZ)],[],[]⟩) (.q (.b (.l ⟨[(3,false,AZ),(4,false,AZ)],[],[]⟩ .d))) .d))))) En (AJ hg (AJ xQ BN)) Tryz.func12 (by kernel_rfl) fun x => by kernel_rfl
def Jv (p0 : Int) : Int := (if 1000 < p0 then 1000 else p0)
noncomputable def b35 : Code := (Tryz.f35.body).getD .skip
def w9 : Ct := .d
abbrev K35 : Cn_ := ⟨tY,tI,[],false,fun x => some (Jv x),some ⟨fun x => Jv x,fun _ => rfl⟩⟩
theorem v35 (x : Int) : @Eq (Option Int) (dF te nK ([] : GC te Tryz.prog) 6 b35 w9 tY tI [] false [.tmp 2] x).den (some (Jv x)) := by simp only [Jv,apply_ite (some : Int → _)]; kernel_rfl
theorem k35 : KO (K35) 35 := dK En BN Tryz.func35 (by kernel_rfl) Tryz.ntmps35 rfl rfl rfl (by kernel_rfl) v35
def D1 (fRec : Tr27 → Option Int) (p0 : Tr27) : (Int × Int) → Option ((Int × Int) ⊕ Int)
  | (x3,x4) => (if x4 < (p0.un.2.2.2.2.length : Int) then ((ix p0.un.2.2.2.2 x4).bind fun x6 => (fRec (Tr27.of (x6.un.1,f24 x6.un.2.1,x6.un.2.2.1,x6.un.2.2.2.1,x6.un.2.2.2.2))).bind fun x7 => (if p0.un.1 = 3 then some (Jv (Aq (x3 * x7))) else some x3).bind fun x8 => (if p0.un.1 = 4 then some (Jv (Aq (x8 + x7))) else some x8).bind fun x9 => (if (decide (p0.un.1 = 5) && decide (x9 < x7)) = true then some x7 else some x9)).bind fun x5 => some (.inl (x5,Aq (x4 + 1))) else some (.inr x3))
def F0 (fRec : Tr27 → Option Int) (p0 : Tr27) : Option Int := (if (decide (p0.un.1 < 3) || decide (5 < p0.un.1)) = true then some 1 else (if p0.un.1 = 3 then some 1 else some 0).bind fun x1 => (Af (D1 fRec p0) (x1,0)).bind fun x2 => some x2)
def Ec : Nat → Tr27 → Option Int
  | 0 => fun _ => none
  | n + 1 => F0 (Ec n)
def Ns (p0 : Tr27) : Option Int := E2 fun n => Ec n p0
theorem zQ : KO (K16 fun x => Ns x) 16 := Nq (E := te) (xs := gL) (ys := pK) (bs := []) (io := false) (nn := fun n x => Ec n x) (st := fun g x => F0 g x) Tryz.func16 rfl (by kernel_rfl) (fun _ => rfl) (fun _ => rfl) fun g hg => E0 (ct := (.q (.s (.j (.bl [13]) .d .d) (.q (.j (.st false ⟨[(3,false,AZ)],[],[]⟩) .d (.j (.st false ⟨[(3,false,AZ)],[],[]⟩) (.q (.b (.l ⟨[(3,false,AZ),(4,false,AZ)],[],[]⟩ (.q (.j (.st false ⟨[(3,false,AZ)],[],[]⟩) (.b (.q (.j (.st false ⟨[(3,false,AZ)],[],[]⟩) .d (.j (.st false ⟨[(3,false,AZ)],[],[]⟩) .d (.j (.bl [51]) .d .d))))) .d))))) .d)))))) En (AJ hg (AJ k35 BN)) Tryz.func16 (by kernel_rfl) fun x => by kernel_rfl
def Ke (p0 : Tr27) : Option Bool := ((Ov (Tr27.of (p0.un.1,f24 p0.un.2.1,p0.un.2.2.1,p0.un.2.2.2.1,p0.un.2.2.2.2))).bind fun x2 => (if x2 = true then (Oc (Tr27.of (p0.un.1,f24 p0.un.2.1,p0.un.2.2.1,p0.un.2.2.2.1,p0.un.2.2.2.2))).bind fun x3 => (if x3 ≤ 8 then (N5 (Tr27.of (p0.un.1,f24 p0.un.2.1,p0.un.2.2.1,p0.un.2.2.2.1,p0.un.2.2.2.2))).bind fun x4 => (if x4 ≤ 64 then (Ns (Tr27.of (p0.un.1,f24 p0.un.2.1,p0.un.2.2.1,p0.un.2.2.2.1,p0.un.2.2.2.2))).bind fun x5 => some (decide (x5 ≤ 64)) else some false) else some false) else some false)).bind fun x1 => some x1
abbrev K10 : Cn_ := ⟨[Xp],[Lf],[],false,fun x => Ke x,none⟩
theorem k10 : KO (K10) 10 := E0 (ct := (.q (.j (.st false ⟨[(2,false,FX)],[],[]⟩) .d .d))) En (AJ k32 (AJ k14 (AJ zE (AJ zQ BN)))) Tryz.func10 (by kernel_rfl) fun x => by kernel_rfl
def De (p0 : Tr37) : Bool := (decide (p0.un.1 ≠ 2) && (decide (p0.un.1 ≠ 3) && decide (p0.un.1 ≠ 4)))
abbrev K33 : Cn_ := ⟨[PN],[Lf],[],false,fun x => some (De x),some ⟨fun x => De x,fun _ => rfl⟩⟩
theorem k33 : KO (K33) 33 := E0 (ct := (.q (.j (.bl [2]) .d .d))) En BN Tryz.func33 (by kernel_rfl) fun x => by kernel_rfl
def CS (fRec : Tr37 → Option Int) (p0 : Tr37) : (Int × Int) → Option ((Int × Int) ⊕ Int)
  | (x4,x5) => (if x5 < (p0.un.2.2.2.2.length : Int) then (ix p0.un.2.2.2.2 x5).bind fun x6 => (fRec (Tr37.of (x6.un.1,f34 x6.un.2.1,x6.un.2.2.1,x6.un.2.2.2.1,x6.un.2.2.2.2))).bind fun x7 => some (.inl (Aq (x4 + x7),Aq (x5 + 1))) else some (.inr x4))
def Ef (fRec : Tr37 → Option Int) (p0 : Tr37) : Option Int := (if (De (Tr37.of (p0.un.1,f34 p0.un.2.1,p0.un.2.2.1,p0.un.2.2.2.1,p0.un.2.2.2.2))) = true then (HA (f34 p0.un.2.1)).bind fun x2 => some (Aq (1 + x2)) else some 1).bind fun x1 => (Af (CS fRec p0) (x1,0)).bind fun x3 => some x3
def C5 : Nat → Tr37 → Option Int
  | 0 => fun _ => none
  | n + 1 => Ef (C5 n)
def LF (p0 : Tr37) : Option Int := E2 fun n => C5 n p0
theorem k11 : KO (K11 fun x => LF x) 11 := Nq (E := te) (xs := jR) (ys := oP) (bs := []) (io := false) (nn := fun n x => C5 n x) (st := fun g x => Ef g x) Tryz.func11 rfl (by kernel_rfl) (fun _ => rfl) (fun _ => rfl) fun g hg => E0 (ct := (.q (.q (.j (.st false ⟨[(3,false,AZ)],[],[]⟩) .d (.j (.st false ⟨[(3,false,AZ)],[],[]⟩) (.q (.b (.l ⟨[(3,false,AZ),(16,false,AZ)],[],[]⟩ .d))) .d))))) En (AJ hg (AJ k34 (AJ k33 BN))) Tryz.func11 (by kernel_rfl) fun x => by kernel_rfl
def CO (fRec : Tr37 → Option Int) (p0 : Tr37) : (Int × Int) → Option ((Int × Int) ⊕ Int)
  | (x2,x3) => (if x3 < (p0.un.2.2.2.2.length : Int) then (ix p0.un.2.2.2.2 x3).bind fun x4 => (fRec (Tr37.of (x4.un.1,f34 x4.un.2.1,x4.un.2.2.1,x4.un.2.2.2.1,x4.un.2.2.2.2))).bind fun x5 => some (.inl (max x2 x5,Aq (x3 + 1))) else some (.inr x2))
def Ej (fRec : Tr37 → Option Int) (p0 : Tr37) : Option Int := (Af (CO fRec p0) (0,0)).bind fun x1 => some (Aq (x1 + 1))
def C3 : Nat → Tr37 → Option Int
  | 0 => fun _ => none
  | n + 1 => Ej (C3 n)
def LI (p0 : Tr37) : Option Int := E2 fun n => C3 n p0
theorem k13 : KO (K13 fun x => LI x) 13 := Nq (E := te) (xs := gS) (ys := mR) (bs := []) (io := false) (nn := fun n x => C3 n x) (st := fun g x => Ej g x) Tryz.func13 rfl (by kernel_rfl) (fun _ => rfl) (fun _ => rfl) fun g hg => E0 (ct := (.q (.q (.j (.st false ⟨[(3,false,AZ)],[],[]⟩) (.q (.b (.l ⟨[(3,false,AZ),(9,false,AZ)],[],[]⟩ .d))) .d)))) En (AJ hg BN) Tryz.func13 (by kernel_rfl) fun x => by kernel_rfl
def Ai (fRec_policy_Same : Tr37 → Tr37 → Option Bool) (p0 : List Tr37) (p1 : List Tr37) : Int → Option (Int ⊕ (Unit ⊕ Bool))
  | x1 => (if x1 < (p0.length : Int) then (ix p0 x1).bind fun x2 => (ix p1 x1).bind fun x3 => (fRec_policy_Same (Tr37.of (x2.un.1,f34 x2.un.2.1,x2.un.2.2.1,x2.un.2.2.2.1,x2.un.2.2.2.2)) (Tr37.of (x3.un.1,f34 x3.un.2.1,x3.un.2.2.1,x3.un.2.2.2.1,x3.un.2.2.2.2))).bind fun x4 => (if (!x4) = true then some (.inr (.inr false)) else some (.inl (Aq (x1 + 1)))) else some (.inr (.inl ())))
def Ao (fRec_policy_Same : Tr37 → Tr37 → Option Bool) (p0 : List Tr37) (p1 : List Tr37) : Option Bool := (if (p0.length : Int) ≠ (p1.length : Int) then some false else Hw (Af (Ai fRec_policy_Same p0 p1) 0) fun _ => some true)
abbrev K37 (h17 : TT te.c (CB ZX []) → Option (TT te.c (He ZX iK [] false))) : Cn_ := ⟨[(.b false,[.d true (.sl (.tr 1))]),(.b false,[.d true (.sl (.tr 1))]),(.b false,[.d true (.fn 17)])],[Lf],[],false,fun x => Ao (fun yp0 yp1 => h17 (yp0,yp1)) x.1 x.2.1,none⟩
theorem k37 (h17) (kh17 : KO (K17 h17) 17) : KO (K37 h17) 37 := E0 (ct := (.q (.q (.j (.st true ⟨[],[],[]⟩) (.q (.b (.l ⟨[(17,false,AZ)],[],[]⟩ .d))) .d)))) En (AJ kh17 BN) Tryz.func37 (by kernel_rfl) fun x => by kernel_rfl
def Ee (fRec : Tr37 → Tr37 → Option Bool) (p0 : Tr37) (p1 : Tr37) : Option Bool := (if p0.un.1 = p1.un.1 then (if p0.un.2.2.1 = p1.un.2.2.1 then (if p0.un.2.2.2.1 = p1.un.2.2.2.1 then (Iy (f34 p0.un.2.1) (f34 p1.un.2.1)).bind fun x2 => (if x2 = true then ((Ao fRec) p0.un.2.2.2.2 p1.un.2.2.2.2).bind fun x3 => some x3 else some false) else some false) else some false) else some false).bind fun x1 => some x1
def DC : Nat → Tr37 → Tr37 → Option Bool
  | 0 => fun _ _ => none
  | n + 1 => Ee (DC n)
def LO (p0 : Tr37) (p1 : Tr37) : Option Bool := E2 fun n => DC n p0 p1
theorem k17 : KO (K17 fun x => LO x.1 x.2) 17 := Nq (E := te) (xs := ZX) (ys := iK) (bs := []) (io := false) (nn := fun n x => DC n x.1 x.2) (st := fun g x => Ee (fun yp0 yp1 => g (yp0,yp1)) x.1 x.2) Tryz.func17 rfl (by kernel_rfl) (fun _ => rfl) (fun _ => rfl) fun g hg => E0 (ct := (.q (.j (.st false ⟨[(4,false,FX)],[],[]⟩) .d .d))) En (AJ hg (AJ zV (AJ (k37 _ hg) BN))) Tryz.func17 (by kernel_rfl) fun x => by kernel_rfl
def F2 (fRec : Tr27 → Tr27 → Option Bool) (p0 : Tr27) (p1 : Tr27) : Int → Option (Int ⊕ (Unit ⊕ Bool))
  | x3 => (if x3 < (p0.un.2.2.2.2.length : Int) then (ix p0.un.2.2.2.2 x3).bind fun x4 => (ix p1.un.2.2.2.2 x3).bind fun x5 => (fRec (Tr27.of (x4.un.1,f24 x4.un.2.1,x4.un.2.2.1,x4.un.2.2.2.1,x4.un.2.2.2.2)) (Tr27.of (x5.un.1,f24 x5.un.2.1,x5.un.2.2.1,x5.un.2.2.2.1,x5.un.2.2.2.2))).bind fun x6 => (if (!x6) = true then some (.inr (.inr false)) else some (.inl (Aq (x3 + 1)))) else some (.inr (.inl ())))
def F8 (fRec : Tr27 → Tr27 → Option Bool) (p0 : Tr27) (p1 : Tr27) : Option Bool := (if p0.un.1 ≠ p1.un.1 then some true else (if p0.un.2.2.1 ≠ p1.un.2.2.1 then some true else (if p0.un.2.2.2.1 ≠ p1.un.2.2.2.1 then some true else (Ka (f24 p0.un.2.1) (f24 p1.un.2.1)).bind fun x2 => (if (!x2) = true then some true else some (decide ((p0.un.2.2.2.2.length : Int) ≠ (p1.un.2.2.2.2.length : Int))))))).bind fun x1 => (if x1 = true then some false else Hw (Af (F2 fRec p0 p1) 0) fun _ => some true)
def Fw : Nat → Tr27 → Tr27 → Option Bool
  | 0 => fun _ _ => none
  | n + 1 => F8 (Fw n)
def Sf (p0 : Tr27) (p1 : Tr27) : Option Bool := E2 fun n => Fw n p0 p1
theorem k18 : KO (K18 fun x => Sf x.1 x.2) 18 := Nq (E := te) (xs := jI) (ys := qJ) (bs := []) (io := false) (nn := fun n x => Fw n x.1 x.2) (st := fun g x => F8 (fun yp0 yp1 => g (yp0,yp1)) x.1 x.2) Tryz.func18 rfl (by kernel_rfl) (fun _ => rfl) (fun _ => rfl) fun g hg => E0 (ct := (.q (.s (.j (.st false ⟨[(41,false,FX)],[],[]⟩) .d .d) (.j (.st true ⟨[],[],[]⟩) (.q (.b (.l ⟨[(5,false,AZ)],[],[]⟩ .d))) .d)))) En (AJ hg (AJ z7 BN)) Tryz.func18 (by kernel_rfl) fun x => by kernel_rfl
def KH (p0 : Int) (p1 : Int) (p2 : Int) (p3 : Int × Int × Int × Int) : Option Int := (if (decide (0 ≤ p0) && decide (p0 < 4)) = true then (ix ([p3.1,p3.2.1,p3.2.2.1,p3.2.2.2] : List Int) p0).bind fun x1 => some x1 else (if p0 = 4 then some p2 else (if p0 = 5 then some p1 else some (-1))))
theorem aD (Y : Nat → Prop) (w0 : World)  (p0 : Int) (p1 : Int) (p2 : Int) (p3 : Int × Int × Int × Int) (r : Int) (H : KH p0 p1 p2 p3 = some r) (hG : Gk [] w0) :
    ca_ 76 #[Jint p0,Jint p1,Jint p2,.agg #[Jint p3.1,Jint p3.2.1,Jint p3.2.2.1,Jint p3.2.2.2]] w0 fun e w' => e = .returned (Jint r) ∧ Below w0.heap.size w0 w' := by
 refine enter Tryz.func76 Aa Tryz.ntmps76 Aa fun a F => ?_
 have W := Stw.start Y w0
 unfold KH at H
 refine vc tk 2 F W fun a w F W => ?_
 refine H7 (cs := (Xs p3)) F W Aa Aa Aa fun b1 a w F W => ?_
 refine Lg tk 4 F W fun a w F W => ?_
 refine Ek (fun a w => Fr 24 [] [(0,Jint p0),(1,Jint p1),(2,Jint p2),(7,pp b1),(8,Jint 0),(14,.bool (decide (0 ≤ p0) && decide (p0 < 4)))] a ∧ sy Y w0 [(b1,[Jint p3.1,Jint p3.2.1,Jint p3.2.2.1,Jint p3.2.2.2])] [] w) ?_ ?_
 ·
  refine vc tk 4 F W fun a w F W => ?_
  rcases bxq (decide (0 ≤ p0)) with hb0 | hb0
  ·
   rw [hb0] at F
   refine vl tk 4 F W fun a w F W => ?_
   refine Al ?_
   exact ⟨F.re ⟨rfl,Aa,Aa,Aa,Aa,(J6 (by try rw [hb0]; all_goals simp only [Kn])),trivial⟩,W⟩
  rw [hb0] at F
  refine vl tk 4 F W fun a w F W => ?_
  refine Al ?_
  exact ⟨F.re ⟨rfl,Aa,Aa,Aa,Aa,(J6 (by try rw [hb0]; all_goals simp only [Kn])),trivial⟩,W⟩
 rintro a w ⟨F,W⟩
 refine Kx F Aa H (fun F H => ?_) fun F H => ?_
 ·
  refine vc tk 3 F W fun a w F W => ?_
  obtain ⟨x1,h1,H⟩ := A1 H
  refine ls F W Aa (HY (0 + (p0).toNat * 1) O1 F Aa Aa Aa h1 Aa).q fun a w F W => ?_
  refine ls F W Aa (Eh (v := Jint x1) 0 F Aa Aa T3 (Mg (base := 0) (m := 4) (l := [p3.1,p3.2.1,p3.2.2.1,p3.2.2.2]) (enc := Value.int .i64) Aa h1)).q fun a w F W => ?_
  refine Lg tk 3 F W fun a w F W => ?_
  refine Cq (DY ?_)
  have H := DR H
  subst H
  refine Dr (.inl Aa) F W Aa (CH F Aa) ?_
  exact ⟨rfl,W.done⟩
 refine W1 tk 9 F W fun a w F W => ?_
 refine Ia F Aa H (fun F H => ?_) fun F H => ?_
 ·
  refine vc tk 6 F W fun a w F W => ?_
  refine Cq (DY ?_)
  have H := DR H
  subst H
  refine Dr (.inl Aa) F W Aa (CH F Aa) ?_
  exact ⟨rfl,W.done⟩
 refine W1 tk 9 F W fun a w F W => ?_
 refine Ia F Aa H (fun F H => ?_) fun F H => ?_
 ·
  refine vc tk 6 F W fun a w F W => ?_
  refine Cq (DY ?_)
  have H := DR H
  subst H
  refine Dr (.inl Aa) F W Aa (CH F Aa) ?_
  exact ⟨rfl,W.done⟩
 refine W1 tk 7 F W fun a w F W => ?_
 refine Cq ?_
 have H := DR H
 subst H
 refine Dr (.inl Aa) F W Aa (CH F Aa) ?_
 exact ⟨rfl,W.done⟩
abbrev K76 : Cn_ := ⟨vT,vH,[],false,fun x => KH x.1 x.2.1 x.2.2.1 x.2.2.2,none⟩
theorem k76 : KO K76 76 := KO.of ⟨fun args w => AN Tryz.func76 rfl (by decide) args w⟩ rfl (fun _ => rfl) (fun _ => rfl) rfl (fun _ => rfl) (fun _ => rfl) (fun _ => rfl) (fun _ => rfl) fun Y w0 x r g H hg hk => (aD Y w0  x.1 x.2.1 x.2.2.1 x.2.2.2 r H hk).mono fun e w' h => ⟨(),h.1,Stw.ofB h.2⟩
def Dk (fRec : Tr24 → Int → Int → (Int × Int × Int × Int) → Option Bool) (p0 : Tr24) (p1 : Int) (p2 : Int) (p3 : Int × Int × Int × Int) : (Int × Int) → Option ((Int × Int) ⊕ Int)
  | (x7,x8) => (if x8 < (p0.un.2.2.2.length : Int) then ((ix p0.un.2.2.2 x8).bind fun x10 => (fRec x10 p1 p2 p3).bind fun x11 => (if x11 = true then some (Aq (x7 + 1)) else some x7)).bind fun x9 => some (.inl (x9,Aq (x8 + 1))) else some (.inr x7))
def EC (fRec : Tr24 → Int → Int → (Int × Int × Int × Int) → Option Bool) (p0 : Tr24) (p1 : Int) (p2 : Int) (p3 : Int × Int × Int × Int) : Option Bool := (if p0.un.1 = 1 then some true else (if p0.un.1 = 3 then (if 0 ≤ p0.un.2.1 then (if p0.un.2.1 < 6 then (KH p0.un.2.1 p1 p2 p3).bind fun x2 => some (decide (x2 = p0.un.2.2.1)) else some false) else some false).bind fun x1 => some x1 else (if p0.un.1 = 4 then (if 0 < (p0.un.2.2.2.length : Int) then (ix p0.un.2.2.2 0).bind fun x4 => (fRec x4 p1 p2 p3).bind fun x5 => some (!x5) else some false).bind fun x3 => some x3 else (Af (Dk fRec p0 p1 p2 p3) (0,0)).bind fun x6 => some (bif decide (p0.un.1 = 5) then (decide (x6 = (p0.un.2.2.2.length : Int)) || (decide (p0.un.1 = 6) && decide (0 < x6))) else (decide (p0.un.1 = 6) && decide (0 < x6))))))
def Eg : Nat → Tr24 → Int → Int → (Int × Int × Int × Int) → Option Bool
  | 0 => fun _ _ _ _ => none
  | n + 1 => EC (Eg n)
def OT (p0 : Tr24) (p1 : Int) (p2 : Int) (p3 : Int × Int × Int × Int) : Option Bool := E2 fun n => Eg n p0 p1 p2 p3
def KK (fRec : Tr24 → Int → Int → (Int × Int × Int × Int) → Option Bool) (p0 : Tr24) (p1 : Int) (p2 : Int) (p3 : Int × Int × Int × Int) : (Int × Int) → Option ((Int × Int) ⊕ Int)
  | (x7,x8) => (if x8 < (p0.un.2.2.2.length : Int) then ((ix p0.un.2.2.2 x8).bind fun x10 => (fRec (f24 x10) p1 p2 p3).bind fun x11 => (if x11 = true then some (Aq (x7 + 1)) else some x7)).bind fun x9 => some (.inl (x9,Aq (x8 + 1))) else some (.inr x7))
theorem SI : @KK = @Dk := by
 unfold KK Dk
 simp only [Tr24.re_eq]
def Ol (fRec : Tr24 → Int → Int → (Int × Int × Int × Int) → Option Bool) (p0 : Tr24) (p1 : Int) (p2 : Int) (p3 : Int × Int × Int × Int) : Option Bool := (if p0.un.1 = 1 then some true else (if p0.un.1 = 3 then (if 0 ≤ p0.un.2.1 then (if p0.un.2.1 < 6 then (KH p0.un.2.1 p1 p2 p3).bind fun x2 => some (decide (x2 = p0.un.2.2.1)) else some false) else some false).bind fun x1 => some x1 else (if p0.un.1 = 4 then (if 0 < (p0.un.2.2.2.length : Int) then (ix p0.un.2.2.2 0).bind fun x4 => (fRec (f24 x4) p1 p2 p3).bind fun x5 => some (!x5) else some false).bind fun x3 => some x3 else (Af (KK fRec p0 p1 p2 p3) (0,0)).bind fun x6 => some (bif decide (p0.un.1 = 5) then (decide (x6 = (p0.un.2.2.2.length : Int)) || (decide (p0.un.1 = 6) && decide (0 < x6))) else (decide (p0.un.1 = 6) && decide (0 < x6))))))
theorem SF : @Ol = @EC := by
 unfold Ol EC
 simp only [SI,Tr24.re_eq]
theorem k45 : KO (K45 fun x => OT x.1 x.2.1 x.2.2.1 x.2.2.2) 45 := Nq (E := te) (xs := jV) (ys := oN) (bs := []) (io := false) (nn := fun n x => Eg n x.1 x.2.1 x.2.2.1 x.2.2.2) (st := fun g x => EC (fun yp0 yp1 yp2 yp3 => g (yp0,yp1,yp2,yp3)) x.1 x.2.1 x.2.2.1 x.2.2.2) Tryz.func45 rfl (by kernel_rfl) (fun _ => rfl) (fun _ => rfl) fun g hg => E0 (ct := (.q (.q (.s (.q (.c (.j (.st false ⟨[(8,false,FX)],[],[]⟩) .d .d) .d)) (.s (.q (.c (.j (.st false ⟨[(8,false,FX)],[],[]⟩) .d .d) .d)) (.q (.j (.st false ⟨[(9,false,AZ)],[],[]⟩) (.q (.b (.l ⟨[(9,false,AZ),(10,false,AZ)],[],[]⟩ (.q (.j (.st false ⟨[(9,false,AZ)],[],[]⟩) .d .d))))) (.j (.bl [8]) .d .d)))))))) En (AJ hg (AJ k76 BN)) Tryz.func45 (by kernel_rfl) fun x => by rw [← SF]; kernel_rfl
def H3 (p0 : Int × Int × Int × Int) (p1 : Int) (p2 : Int) : Option (Int × Int × Int × Int) := (if (decide (0 ≤ p1) && (decide (p1 < 4) && (decide (0 ≤ p2) && decide (p2 ≤ (E4 p1))))) = true then (ix ([p0.1,p0.2.1,p0.2.2.1,p0.2.2.2] : List Int) p1).bind fun x5 => some ((if p1 = 0 then p2 else p0.1),(if p1 = 1 then p2 else p0.2.1),(if p1 = 2 then p2 else p0.2.2.1),(if p1 = 3 then p2 else p0.2.2.2)) else some (p0.1,p0.2.1,p0.2.2.1,p0.2.2.2)).bind fun (x1,x2,x3,x4) => some (x1,x2,x3,x4)
theorem XG (Y : Nat → Prop) (w0 : World)  (p0 : Int × Int × Int × Int) (p1 : Int) (p2 : Int) (r : (Int × Int × Int × Int)) (H : H3 p0 p1 p2 = some r) (hG : Gk [] w0) :
    ca_ 46 #[.agg #[Jint p0.1,Jint p0.2.1,Jint p0.2.2.1,Jint p0.2.2.2],Jint p1,Jint p2] w0 fun e w' => e = .returned (.agg #[Jint r.1,Jint r.2.1,Jint r.2.2.1,Jint r.2.2.2]) ∧ Below w0.heap.size w0 w' := by
 refine enter Tryz.func46 Aa Tryz.ntmps46 Aa fun a F => ?_
 have W := Stw.start Y w0
 unfold H3 at H
 refine vc tk 2 F W fun a w F W => ?_
 refine H7 (cs := (Xs p0)) F W Aa Aa Aa fun b1 a w F W => ?_
 refine GM (cs := (YN)) F W Aa zZ Aa fun b2 a w F W => ?_
 refine Im (Al ?_)
 obtain ⟨o1,G1,K1⟩ := A1 H
 refine Ek (fun a w => ∃ x1 : Int, ∃ x2 : Int, ∃ x3 : Int, ∃ x4 : Int,some ((x1,x2,x3,x4)) = some o1 ∧ Fr 27 [] [(3,pp b1),(6,pp b2)] a ∧ sy Y w0 [(b2,[Jint 0,Jint 0,Jint 0,Jint 0]),(b1,[Jint x1,Jint x2,Jint x3,Jint x4])] [] w) ?_ ?_
 ·
  have H := G1
  refine Ek (fun a w => Fr 27 [] [(1,Jint p1),(2,Jint p2),(3,pp b1),(6,pp b2),(22,.bool (decide (0 ≤ p1) && (decide (p1 < 4) && (decide (0 ≤ p2) && decide (p2 ≤ (E4 p1))))))] a ∧ sy Y w0 (lK b2 b1 p0) [] w) ?_ ?_
  ·
   refine vc tk 4 F W fun a w F W => ?_
   rcases bxq (decide (0 ≤ p1)) with hb0 | hb0
   ·
    rw [hb0] at F
    refine vl tk 4 F W fun a w F W => ?_
    rcases bxq (decide (p1 < 4)) with hb1 | hb1
    ·
     rw [hb1] at F
     refine vl tk 4 F W fun a w F W => ?_
     rcases bxq (decide (0 ≤ p2)) with hb2 | hb2
     ·
      rw [hb2] at F
      refine vl tk 2 F W fun a w F W => ?_
      refine W6 (AL F Aa Aa Aa Aa) ?_
      refine ls F W Aa (EP (v := Jint (E4 p1)) F H77 Aa (fun w W => ZY any w p1 _ Aa (hG.go0 W))) fun a w F W => ?_
      refine vl tk 3 F W fun a w F W => ?_
      refine Al ?_
      exact ⟨F.re ⟨rfl,Aa,Aa,Aa,(J6 (by try rw [hb0]; try rw [hb1]; try rw [hb2]; all_goals simp only [Kn])),trivial⟩,W⟩
     rw [hb2] at F
     refine vl tk 6 F W fun a w F W => ?_
     refine Al ?_
     exact ⟨F.re ⟨rfl,Aa,Aa,Aa,(J6 (by try rw [hb0]; try rw [hb1]; try rw [hb2]; all_goals simp only [Kn])),trivial⟩,W⟩
    rw [hb1] at F
    refine vl tk 10 F W fun a w F W => ?_
    refine Al ?_
    exact ⟨F.re ⟨rfl,Aa,Aa,Aa,(J6 (by try rw [hb0]; try rw [hb1]; all_goals simp only [Kn])),trivial⟩,W⟩
   rw [hb0] at F
   refine vl tk 14 F W fun a w F W => ?_
   refine Al ?_
   exact ⟨F.re ⟨rfl,Aa,Aa,Aa,(J6 (by try rw [hb0]; all_goals simp only [Kn])),trivial⟩,W⟩
  rintro a w ⟨F,W⟩
  refine Kx F Aa H (fun F H => ?_) fun F H => ?_
  ·
   refine vc tk 3 F W fun a w F W => ?_
   obtain ⟨x5,h1,H⟩ := A1 H
   refine ls F W Aa (HY (0 + (p1).toNat * 1) O1 F Aa Aa Aa h1 Aa).q fun a w F W => ?_
   refine Pp (o := 0) (m := 4) (i := p1) (l := ([p0.1,p0.2.1,p0.2.2.1,p0.2.2.2] : List Int)) (x := x5) (cs := (Xs p0)) (cs' := [Jint (if p1 = 0 then p2 else p0.1),Jint (if p1 = 1 then p2 else p0.2.1),Jint (if p1 = 2 then p2 else p0.2.2.1),Jint (if p1 = 3 then p2 else p0.2.2.2)]) 1 F W Aa Aa Aa T3 Aa Aa Aa Aa h1 (by intro k hk hn; rw [hk]; match k,hn with | 0,_ => rfl | 1,_ => rfl | 2,_ => rfl | 3,_ => rfl | (z + 4),h => exact absurd h (by omega)) fun w W => ?_
   have W : sy Y w0 [(b2,(YN)),(b1,[Jint (if p1 = 0 then p2 else p0.1),Jint (if p1 = 1 then p2 else p0.2.1),Jint (if p1 = 2 then p2 else p0.2.2.1),Jint (if p1 = 3 then p2 else p0.2.2.2)])] [] w := W
   refine Im (Al ?_)
   have W := W.frontM (i := 1) Aa Aa
   have W := W.frontM (i := 1) Aa Aa
   exact ⟨_,_,_,_,H,F.ra Aa,W⟩
  refine E3 (Al ?_)
  have W := W.frontM (i := 1) Aa Aa
  have W := W.frontM (i := 1) Aa Aa
  exact ⟨_,_,_,_,H,F.ra Aa,W⟩
 rintro a w ⟨x1,x2,x3,x4,hj,F,W⟩
 have hj := DR hj
 subst hj
 have H := K1
 refine U7 tk 3 [1] F W (ai fun a w F W => ?_)
 refine SN 0 F W Aa Aa Aa dH Aa Aa Aa fun w W => ?_
 refine Lg tk 2 F W fun a w F W => ?_
 refine Cq ?_
 have H := DR H
 subst H
 refine Dr (.inl Aa) F W Aa (P9 0 F Aa Aa dH Aa) ?_
 exact ⟨rfl,W.done⟩
abbrev K46 : Cn_ := ⟨yD,yH,[],false,fun x => H3 x.1 x.2.1 x.2.2,none⟩
theorem k46 : KO K46 46 := KO.of ⟨fun args w => AN Tryz.func46 rfl (by decide) args w⟩ rfl (fun _ => rfl) (fun _ => rfl) rfl (fun _ => rfl) (fun _ => rfl) (fun _ => rfl) (fun _ => rfl) fun Y w0 x r g H hg hk => (XG Y w0  x.1 x.2.1 x.2.2 r H hk).mono fun e w' h => ⟨(),h.1,Stw.ofB h.2⟩
abbrev gC (a0 : Nat) (a1 : Sq) (a2 : Nat) (a3 : Sq) : List (Nat × List Value) := [(a0,[Jint a1.1,Jint a1.2.1,Jint a1.2.2.1,Jint a1.2.2.2.1,Jint a1.2.2.2.2]),(a2,[Jint a3.1,Jint a3.2.1,Jint a3.2.2.1,Jint a3.2.2.2.1,Jint a3.2.2.2.2])]
def Hl (p0 : Sq) (p1 : Sq) : Int → Option (Int ⊕ (Unit ⊕ Bool))
  | x1 => (if x1 < 4 then (ix ([p0.2.1,p0.2.2.1,p0.2.2.2.1,p0.2.2.2.2] : List Int) x1).bind fun x2 => (ix ([p1.2.1,p1.2.2.1,p1.2.2.2.1,p1.2.2.2.2] : List Int) x1).bind fun x3 => (if x2 ≠ x3 then (ix ([p0.2.1,p0.2.2.1,p0.2.2.2.1,p0.2.2.2.2] : List Int) x1).bind fun x4 => (ix ([p1.2.1,p1.2.2.1,p1.2.2.2.1,p1.2.2.2.2] : List Int) x1).bind fun x5 => some (.inr (.inr (decide (x4 < x5)))) else some (.inl (Aq (x1 + 1)))) else some (.inr (.inl ())))
def Kp (p0 : Sq) (p1 : Sq) : Option Bool := (if p0.1 ≠ p1.1 then some (decide (p0.1 < p1.1)) else Hw (Af (Hl p0 p1) 0) fun _ => some false)
theorem VF (Y : Nat → Prop) (w0 : World)  (p0 : Sq) (p1 : Sq) (r : Bool) (H : Kp p0 p1 = some r) (hG : Gk [] w0) :
    ca_ 103 #[.agg #[Jint p0.1,Jint p0.2.1,Jint p0.2.2.1,Jint p0.2.2.2.1,Jint p0.2.2.2.2],.agg #[Jint p1.1,Jint p1.2.1,Jint p1.2.2.1,Jint p1.2.2.2.1,Jint p1.2.2.2.2]] w0 fun e w' => e = .returned (.bool r) ∧ Below w0.heap.size w0 w' := by
 refine enter Tryz.func103 Aa Tryz.ntmps103 Aa fun a F => ?_
 have W := Stw.start Y w0
 unfold Kp at H
 refine vc tk 2 F W fun a w F W => ?_
 refine H7 (cs := (Fk p0)) F W Aa Aa Aa fun b1 a w F W => ?_
 refine H7 (cs := (Fk p1)) F W Aa Aa Aa fun b2 a w F W => ?_
 refine Vx tk 13 [1,0] F W (ai (ai fun a w F W => ?_))
 refine Ia F Aa H (fun F H => ?_) fun F H => ?_
 ·
  refine U7 tk 10 [1,0] F W (ai (ai fun a w F W => ?_))
  refine Cq (DY ?_)
  have H := DR H
  subst H
  refine Dr (.inl Aa) F W Aa (CH F Aa) ?_
  exact ⟨rfl,W.done⟩
 refine E3 (Al ?_)
 obtain ⟨o1,G1,K1,L1⟩ := uY H
 refine Ek (fun a w => some (Sum.inl ()) = some o1 ∧ Fr 38 [] [(4,.bool false)] a ∧ sy Y w0 (gC b2 p1 b1 p0) [] w) ?_ ?_
 ·
  have H := G1
  refine vc tk 6 F W fun a w F W => ?_
  have W := W.frontM (i := 1) Aa Aa
  have W := W.frontM (i := 1) Aa Aa
  refine Jq H (fun s a w => Fr 38 [] [(2,pp b1),(3,pp b2),(4,.bool false),(5,Jint s)] a ∧ sy Y w0 (gC b2 p1 b1 p0) [] w) ⟨F.ra Aa,W⟩ fun s o a w H L2 hR => ?_
  obtain ⟨x1,rfl⟩ : ∃ x,x = s := ⟨s,rfl⟩
  obtain ⟨F,W⟩ := hR
  have F : Fr 38 [] [(2,pp b1),(3,pp b2),(4,.bool false),(5,Jint x1)] a := F
  have W : sy Y w0 (gC b2 p1 b1 p0) [] w := W
  rw [Hl] at H
  refine vc tk 7 F W fun a w F W => ?_
  refine Ia F Aa H (fun F H => ?_) fun F H => ?_
  ·
   refine W1 tk 5 F W fun a w F W => ?_
   refine HK W MO (by kernel_rfl) ?_
   refine qs F Aa (C1 F Aa).q fun a F => ?_
   refine qs F Aa (Bm PZ Aa Aa Aa dH F Aa 1 Aa).q fun a F => ?_
   obtain ⟨x2,h1,H⟩ := A1 H
   refine qs F Aa (HY (1 + (x1).toNat * 1) O1 F Aa Aa Aa h1 Aa).q fun a F => ?_
   refine qs F Aa (Eh (v := Jint x2) 1 F Aa Aa T3 (Mg (base := 1) (m := 4) (l := [p0.2.1,p0.2.2.1,p0.2.2.2.1,p0.2.2.2.2]) (enc := Value.int .i64) Aa h1)).q fun a F => ?_
   refine qs F Aa (C1 F Aa).q fun a F => ?_
   refine qs F Aa (Bm PZ Aa Aa Aa dH F Aa 1 Aa).q fun a F => ?_
   obtain ⟨x3,h2,H⟩ := A1 H
   refine qs F Aa (HY (1 + (x1).toNat * 1) O1 F Aa Aa Aa h2 Aa).q fun a F => ?_
   refine qs F Aa (Eh (v := Jint x3) 0 F Aa Aa T3 (Mg (base := 1) (m := 4) (l := [p1.2.1,p1.2.2.1,p1.2.2.2.1,p1.2.2.2.2]) (enc := Value.int .i64) Aa h2)).q fun a F => ?_
   refine qs F Aa (fQ F Aa Aa).q fun a F => ?_
   refine D7 fun w W => ?_
   refine Al ?_
   refine Ia F Aa H (fun F H => ?_) fun F H => ?_
   ·
    refine MY ?_
    refine HK W MO (by kernel_rfl) ?_
    refine qs F Aa (C1 F Aa).q fun a F => ?_
    refine qs F Aa (Bm PZ Aa Aa Aa dH F Aa 1 Aa).q fun a F => ?_
    obtain ⟨x4,h3,H⟩ := A1 H
    refine qs F Aa (HY (1 + (x1).toNat * 1) O1 F Aa Aa Aa h3 Aa).q fun a F => ?_
    refine qs F Aa (Eh (v := Jint x4) 1 F Aa Aa T3 (Mg (base := 1) (m := 4) (l := [p0.2.1,p0.2.2.1,p0.2.2.2.1,p0.2.2.2.2]) (enc := Value.int .i64) Aa h3)).q fun a F => ?_
    refine qs F Aa (C1 F Aa).q fun a F => ?_
    refine qs F Aa (Bm PZ Aa Aa Aa dH F Aa 1 Aa).q fun a F => ?_
    obtain ⟨x5,h4,H⟩ := A1 H
    refine qs F Aa (HY (1 + (x1).toNat * 1) O1 F Aa Aa Aa h4 Aa).q fun a F => ?_
    refine qs F Aa (Eh (v := Jint x5) 0 F Aa Aa T3 (Mg (base := 1) (m := 4) (l := [p1.2.1,p1.2.2.1,p1.2.2.2.1,p1.2.2.2.2]) (enc := Value.int .i64) Aa h4)).q fun a F => ?_
    refine qs F Aa (WV F Aa Aa).q fun a F => ?_
    refine qs F Aa (Ku F Aa).q fun a F => ?_
    refine D7 fun w W => ?_
    refine Al (Cq (Hj ?_))
    iterate 2 refine DY ?_
    refine Hj (DY ?_)
    have H := L2 _ H
    have H := L1 _ H
    have H := DR H
    subst H
    refine Dr (.inl Aa) F W Aa (CH F Aa) ?_
    exact ⟨rfl,W.done⟩
   refine E3 (FK ?_)
   refine vn tk 5 F W fun a w F W => ?_
   refine Al ?_
   have W := W.frontM (i := 1) Aa Aa
   have W := W.frontM (i := 1) Aa Aa
   exact ⟨_,H,F.ra Aa,W⟩
  refine Ho ?_
  iterate 2 refine KM ?_
  refine GO (Al ?_)
  have W := W.frontM (i := 1) Aa Aa
  have W := W.frontM (i := 1) Aa Aa
  have H := L2 _ H
  exact ⟨H,F.ra Aa,W⟩
 rintro a w ⟨hj,F,W⟩
 have H := K1 _ hj
 refine vc tk 5 F W fun a w F W => ?_
 refine Cq ?_
 have H := DR H
 subst H
 refine Dr (.inl Aa) F W Aa (CH F Aa) ?_
 exact ⟨rfl,W.done⟩
theorem y5 : Has Tryz.prog 103 := Ik Tryz.func103
def HI (p0 : List Sq) (p1 : Sq) : ((List Sq) × Bool × Int) → Option (((List Sq) × Bool × Int) ⊕ ((List Sq) × Bool))
  | (x3,x4,x5) => (if x5 < (p0.length : Int) then ((ix p0 x5).bind fun x7 => (if x7.1 = p1.1 ∧ x7.2.1 = p1.2.1 ∧ x7.2.2.1 = p1.2.2.1 ∧ x7.2.2.2.1 = p1.2.2.2.1 ∧ x7.2.2.2.2 = p1.2.2.2.2 then some true else some x4)).bind fun x6 => ((if (!x6) = true then (ix p0 x5).bind fun x11 => (Kp p1 x11).bind fun x12 => some x12 else some false).bind fun x10 => (if x10 = true then (Dg x3 ([p1] : List Sq)).bind fun x13 => some (x13,true) else some (x3,x6))).bind fun (x8,x9) => (ix p0 x5).bind fun x14 => (Dg x8 ([x14] : List Sq)).bind fun x15 => some (.inl (x15,x9,Aq (x5 + 1))) else some (.inr (x3,x4)))
def Mj (p0 : List Sq) (p1 : Sq) : Option (List Sq) := (Af (HI p0 p1) ([],false,0)).bind fun (x1,x2) => (if (!x2) = true then (Dg x1 ([p1] : List Sq)).bind fun x17 => some x17 else some x1).bind fun x16 => some x16
theorem ZR (Y : Nat → Prop) (w0 : World) (v1 : Value) (p0 : List Sq) (p1 : Sq) (r : (List Sq)) (H : Mj p0 p1 = some r) (h_v1 : Sl w0 (NX []) Hn v1 p0) (hG : Gk [] w0) :
    ca_ 78 #[v1,.agg #[Jint p1.1,Jint p1.2.1,Jint p1.2.2.1,Jint p1.2.2.2.1,Jint p1.2.2.2.2]] w0 fun e w' => ∃ x : Value,e = .returned (x) ∧ sy Y w0 [] [row (x) 63 Hn r] w' := by
 refine enter Tryz.func78 Aa Tryz.ntmps78 Aa fun a F => ?_
 have W := Stw.start Y w0
 unfold Mj at H
 refine vc tk 2 F W fun a w F W => ?_
 refine H7 (cs := (Fk p1)) F W Aa Aa Aa fun b1 a w F W => ?_
 refine Lg tk 13 F W fun a w F W => ?_
 obtain ⟨o1,G1,K1⟩ := A1 H
 refine Ek (fun a w => ∃ x1 : List Sq, ∃ x2 : Bool, ∃ v2 : Value,some ((x1,x2)) = some o1 ∧ Fr 48 [] [(3,pp b1),(4,.slice none 0 0),(5,v2),(6,.bool x2)] a ∧ sy Y w0 (Hh b1 p1) [row v2 63 Hn x1] w) ?_ ?_
 ·
  have H := G1
  refine vc tk 6 F W fun a w F W => ?_
  have W := W.nilRow 63 Hn
  refine Jq H (fun s a w => ∃ v3 : Value,Fr 48 [] [(0,v1),(3,pp b1),(4,.slice none 0 0),(5,v3),(6,.bool s.2.1),(7,Jint s.2.2)] a ∧ sy Y w0 (Hh b1 p1) [row v3 63 Hn s.1] w) ⟨(Value.slice none 0 0),F.ra Aa,W⟩ fun s o a w H L2 hR => ?_
  obtain ⟨x3,x4,x5⟩ := s
  obtain ⟨v3,F,W⟩ := hR
  have F : Fr 48 [] [(0,v1),(3,pp b1),(4,.slice none 0 0),(5,v3),(6,.bool x4),(7,Jint x5)] a := F
  have W : sy Y w0 (Hh b1 p1) [row v3 63 Hn x3] w := W
  rw [HI] at H
  refine vc tk 5 F W fun a w F W => ?_
  refine ls F W Aa (Lw (r := Hn) (l := p0) ZF Aa F Aa (BZ h_v1)).q fun a w F W => ?_
  refine Lg tk 3 F W fun a w F W => ?_
  refine Ia F Aa H (fun F H => ?_) fun F H => ?_
  ·
   refine W1 tk 4 F W fun a w F W => ?_
   obtain ⟨o3,G3,K3⟩ := A1 H
   refine Ek (fun a w => ∃ x6 : Bool,some (x6) = some o3 ∧ Fr 48 [] [(0,v1),(3,pp b1),(4,.slice none 0 0),(5,v3),(6,.bool x6),(7,Jint x5)] a ∧ sy Y w0 (Hh b1 p1) [row v3 63 Hn x3] w) ?_ ?_
   ·
    have H := G3
    refine MY ?_
    refine HK W MO (by kernel_rfl) ?_
    iterate 2 refine qs F Aa (C1 F Aa).q fun a F => ?_
    obtain ⟨x7,h1,H⟩ := A1 H
    refine qs F Aa (Hq (r := Hn) YM F Aa Aa (BZ h_v1) h1).q fun a F => ?_
    refine qs F Aa (Er (y := Value.agg #[Jint x7.1,Jint x7.2.1,Jint x7.2.2.1,Jint x7.2.2.2.1,Jint x7.2.2.2.2]) (j := 0) (i := x5) F Aa Aa (BZ h_v1) h1 gK.to XH Aa).q fun a F => ?_
    refine qs F Aa (Eh (v := Value.agg #[Jint p1.1,Jint p1.2.1,Jint p1.2.2.1,Jint p1.2.2.2.1,Jint p1.2.2.2.2]) 0 F Aa Aa XH Aa).q fun a F => ?_
    refine qs F Aa (l5 (t := decide (x7.1 = p1.1 ∧ x7.2.1 = p1.2.1 ∧ x7.2.2.1 = p1.2.2.1 ∧ x7.2.2.2.1 = p1.2.2.2.1 ∧ x7.2.2.2.2 = p1.2.2.2.2)) vZ (uR _ _ _ _ _ _ _ _ _ _) F Aa Aa).q fun a F => ?_
    refine D7 fun w W => ?_
    refine Al ?_
    refine Ia F Aa H (fun F H => ?_) fun F H => ?_
    ·
     refine vc tk 3 F W fun a w F W => ?_
     refine Al ?_
     exact ⟨_,H,F.ra Aa,W⟩
    refine E3 (Al ?_)
    exact ⟨_,H,F.ra Aa,W⟩
   rintro a w ⟨x6,hj,F,W⟩
   have hj := DR hj
   subst hj
   have H := K3
   obtain ⟨o4,G4,K4⟩ := A1 H
   refine Ek (fun a w => ∃ x8 : List Sq, ∃ x9 : Bool, ∃ v4 : Value,some ((x8,x9)) = some o4 ∧ Fr 48 [] [(0,v1),(3,pp b1),(4,.slice none 0 0),(5,v4),(6,.bool x9),(7,Jint x5)] a ∧ sy Y w0 (Hh b1 p1) [row v4 63 Hn x8] w) ?_ ?_
   ·
    have H := G4
    obtain ⟨o5,G5,K5⟩ := A1 H
    refine Ek (fun a w => ∃ x10 : Bool,some (x10) = some o5 ∧ Fr 48 [] [(0,v1),(3,pp b1),(4,.slice none 0 0),(5,v3),(6,.bool x6),(7,Jint x5),(29,.bool x10)] a ∧ sy Y w0 (Hh b1 p1) [row v3 63 Hn x3] w) ?_ ?_
    ·
     have H := G5
     refine HK W MO (by kernel_rfl) ?_
     refine qs F Aa (C1 F Aa).q fun a F => ?_
     refine qs F Aa (eS F Aa).q fun a F => ?_
     refine qs F Aa (C1 F Aa).q fun a F => ?_
     rcases bxq (!x6) with hb | hb
     ·
      have H := O2 hb H
      rw [hb] at F
      refine FW F (AL F Aa Aa Aa Aa) Aa (CA Aa) (Eh (v := Value.agg #[Jint p1.1,Jint p1.2.1,Jint p1.2.2.1,Jint p1.2.2.2.1,Jint p1.2.2.2.2]) 0 F Aa Aa XH Aa).q fun a F => ?_
      iterate 2 refine FW F (AL F Aa Aa Aa Aa) Aa (CA Aa) (C1 F Aa).q fun a F => ?_
      obtain ⟨x11,h2,H⟩ := A1 H
      refine FW F (AL F Aa Aa Aa Aa) Aa (CA Aa) (Hq (r := Hn) YM F Aa Aa (BZ h_v1) h2).q fun a F => ?_
      refine FW F (AL F Aa Aa Aa Aa) Aa (CA Aa) (Er (y := Value.agg #[Jint x11.1,Jint x11.2.1,Jint x11.2.2.1,Jint x11.2.2.2.1,Jint x11.2.2.2.2]) (j := 0) (i := x5) F Aa Aa (BZ h_v1) h2 gK.to XH Aa).q fun a F => ?_
      obtain ⟨x12,h3,H⟩ := A1 H
      refine FW F (AL F Aa Aa Aa Aa) Aa (CA Aa) (EP (v := Value.bool x12) F y5 Aa (fun w W => VF any w p1 x11 _ h3 (hG.go0 W))) fun a F => ?_
      refine qs F Aa (Fd F Aa Aa Aa).q fun a F => ?_
      refine D7 fun w W => ?_
      refine Al ?_
      exact ⟨_,H,F.ra Aa,W⟩
     have H := Pa (by rw [hb]; decide) H
     rw [hb] at F
     iterate 6 refine FV F (F1 F Aa Aa Aa Aa Aa) Aa Aa fun a F => ?_
     refine qs F Aa (I3 F Aa Aa Aa).q fun a F => ?_
     refine D7 fun w W => ?_
     refine Al ?_
     exact ⟨_,H,F.ra Aa,W⟩
    rintro a w ⟨x10,hj,F,W⟩
    have hj := DR hj
    subst hj
    have H := K5
    refine Kx F Aa H (fun F H => ?_) fun F H => ?_
    ·
     refine U7 tk 4 [0] F W (ai fun a w F W => ?_)
     refine Ps (z := Value.agg #[Jint 0,Jint 0,Jint 0,Jint 0,Jint 0]) (cs := (Fk p1)) Hn ([p1] : List Sq) F W Aa YM oE Aa Aa Aa Aa Aa Aa (gK.repL _ _ ([p1] : List Sq)) fun v5 a w F W => ?_
     obtain ⟨x13,h4,H⟩ := A1 H
     refine IM (r := Hn) (i := 1) F W Aa YM Aa Aa Aa Aa (NN W 0 Aa) h4 Aa fun v6 a w F W => ?_
     have W : sy Y w0 (Hh b1 p1) [row v6 63 Hn x13,row v5 63 Hn ([p1] : List Sq)] w := W
     refine Lg tk 6 F W fun a w F W => ?_
     refine Al ?_
     have W := W.sub (M' := (Hh b1 p1)) (Z' := [row v6 63 Hn x13]) sr (sc nl)
     exact ⟨_,_,(v6),H,F.ra Aa,W⟩
    refine E3 (Al ?_)
    exact ⟨_,_,(v3),H,F.ra Aa,W⟩
   rintro a w ⟨x8,x9,v4,hj,F,W⟩
   have hj := DR hj
   subst hj
   have H := K4
   refine vc tk 4 F W fun a w F W => ?_
   obtain ⟨x14,h5,H⟩ := A1 H
   refine ls F W Aa (Hq (r := Hn) YM F Aa Aa (BZ h_v1) h5).q fun a w F W => ?_
   refine ls F W Aa (Er (y := Value.agg #[Jint x14.1,Jint x14.2.1,Jint x14.2.2.1,Jint x14.2.2.2.1,Jint x14.2.2.2.2]) (j := 0) (i := x5) F Aa Aa (BZ h_v1) h5 gK.to XH Aa).q fun a w F W => ?_
   refine Ps (z := Value.agg #[Jint 0,Jint 0,Jint 0,Jint 0,Jint 0]) (cs := (Fk x14)) Hn ([x14] : List Sq) F W Aa YM oE Aa Aa Aa Aa Aa Aa (gK.repL _ _ ([x14] : List Sq)) fun v7 a w F W => ?_
   obtain ⟨x15,h6,H⟩ := A1 H
   refine IM (r := Hn) (i := 1) F W Aa YM Aa Aa Aa Aa (NN W 0 Aa) h6 Aa fun v8 a w F W => ?_
   have W : sy Y w0 (Hh b1 p1) [row v8 63 Hn x15,row v7 63 Hn ([x14] : List Sq)] w := W
   refine vl tk 2 F W fun a w F W => ?_
   refine FK ?_
   refine vn tk 5 F W fun a w F W => ?_
   refine Al ?_
   have W := W.sub (M' := (Hh b1 p1)) (Z' := [row v8 63 Hn x15]) sr (sc nl)
   exact ⟨_,H,(v8),F.ra Aa,W⟩
  refine Ho ?_
  iterate 2 refine KM ?_
  refine GO (Al ?_)
  have H := L2 _ H
  exact ⟨_,_,(v3),H,F.ra Aa,W⟩
 rintro a w ⟨x1,x2,v2,hj,F,W⟩
 have hj := DR hj
 subst hj
 have H := K1
 obtain ⟨o6,G6,K6⟩ := A1 H
 refine Ek (fun a w => ∃ x16 : List Sq, ∃ v9 : Value,some (x16) = some o6 ∧ Fr 48 [] [(4,.slice none 0 0),(5,v9)] a ∧ sy Y w0 (Hh b1 p1) [row v9 63 Hn x16] w) ?_ ?_
 ·
  have H := G6
  refine vc tk 6 F W fun a w F W => ?_
  refine Kx F Aa H (fun F H => ?_) fun F H => ?_
  ·
   refine U7 tk 3 [0] F W (ai fun a w F W => ?_)
   refine Ps (z := Value.agg #[Jint 0,Jint 0,Jint 0,Jint 0,Jint 0]) (cs := (Fk p1)) Hn ([p1] : List Sq) F W Aa YM oE Aa Aa Aa Aa Aa Aa (gK.repL _ _ ([p1] : List Sq)) fun v10 a w F W => ?_
   obtain ⟨x17,h7,H⟩ := A1 H
   refine IM (r := Hn) (i := 1) F W Aa YM Aa Aa Aa Aa (NN W 0 Aa) h7 Aa fun v11 a w F W => ?_
   have W : sy Y w0 (Hh b1 p1) [row v11 63 Hn x17,row v10 63 Hn ([p1] : List Sq)] w := W
   refine vl tk 2 F W fun a w F W => ?_
   refine Al ?_
   have W := W.sub (M' := (Hh b1 p1)) (Z' := [row v11 63 Hn x17]) sr (sc nl)
   exact ⟨_,(v11),H,F.ra Aa,W⟩
  refine E3 (Al ?_)
  exact ⟨_,(v2),H,F.ra Aa,W⟩
 rintro a w ⟨x16,v9,hj,F,W⟩
 have hj := DR hj
 subst hj
 have H := K6
 refine vc tk 6 F W fun a w F W => ?_
 refine Cq ?_
 have H := DR H
 subst H
 refine Dr (.inl Aa) F W Aa (CH F Aa) ?_
 have W := W.sub (M' := []) (Z' := [row v9 63 Hn x16]) nl sr
 exact ⟨(v9),Aa,W⟩
abbrev K78 : Cn_ := ⟨xN,vM,[],false,fun x => Mj x.1 x.2,none⟩
theorem k78 : KO K78 78 := KO.of ⟨fun args w => AN Tryz.func78 rfl (by decide) args w⟩ rfl (fun _ => rfl) (fun _ => rfl) rfl (fun _ => rfl) (fun _ => rfl) (fun _ => rfl) (fun _ => rfl) fun Y w0 x r g H hg hk => (ZR Y w0 g.1 x.1 x.2 r H hg.1 hk).mono fun e w' ⟨x,he,W⟩ => ⟨(x,()),he,W⟩
def Jm (p1 : List Sq) : ((List Sq) × Int) → Option (((List Sq) × Int) ⊕ (List Sq))
  | (x2,x3) => (if x3 < (p1.length : Int) then (ix p1 x3).bind fun x4 => (Mj x2 x4).bind fun x5 => some (.inl (x5,Aq (x3 + 1))) else some (.inr x2))
def Me (p0 : List Sq) (p1 : List Sq) : Option (List Sq) := (Af (Jm p1) (p0,0)).bind fun x1 => some x1
abbrev K47 : Cn_ := ⟨[(.b false,[.d false aE]),V6],[(.b false,[.d false aE])],[],false,fun x => Me x.1 x.2,none⟩
theorem k47 : KO (K47) 47 := E0 (ct := (.q (.j (.st false ⟨[(0,false,[.d false aE])],[],[]⟩) (.q (.b (.l ⟨[(0,false,[.d false aE]),(5,false,AZ)],[],[]⟩ .d))) .d))) En (AJ k78 BN) Tryz.func47 (by kernel_rfl) fun x => by kernel_rfl
def FE (fRec : Tr27 → Int → Int → (Int × Int × Int × Int) → Option (List Sq)) (p0 : Tr27) (p1 : Int) (x8 : List Sq) (x9 : Int) : ((List Sq) × Int) → Option (((List Sq) × Int) ⊕ (List Sq))
  | (x12,x13) => (if x13 < (x8.length : Int) then (ix p0.un.2.2.2.2 x9).bind fun x14 => (ix x8 x13).bind fun x15 => (ix x8 x13).bind fun x16 => (fRec (Tr27.of (x14.un.1,f24 x14.un.2.1,x14.un.2.2.1,x14.un.2.2.2.1,x14.un.2.2.2.2)) p1 x15.1 x16.2).bind fun x17 => (Me x12 x17).bind fun x18 => some (.inl (x18,Aq (x13 + 1))) else some (.inr x12))
def EV (fRec : Tr27 → Int → Int → (Int × Int × Int × Int) → Option (List Sq)) (p0 : Tr27) (p1 : Int) : ((List Sq) × Int) → Option (((List Sq) × Int) ⊕ ((List Sq) ⊕ (List Sq)))
  | (x8,x9) => (if x9 < (p0.un.2.2.2.2.length : Int) then ((Af (FE fRec p0 p1 x8 x9) ([],0)).bind fun x11 => some x11).bind fun x10 => some (.inl (x10,Aq (x9 + 1))) else some (.inr (.inl x8)))
def EN (fRec : Tr27 → Int → Int → (Int × Int × Int × Int) → Option (List Sq)) (p0 : Tr27) (p1 : Int) (p2 : Int) (p3 : Int × Int × Int × Int) : ((List Sq) × Int) → Option (((List Sq) × Int) ⊕ ((List Sq) ⊕ (List Sq)))
  | (x19,x20) => (if x20 < (p0.un.2.2.2.2.length : Int) then (ix p0.un.2.2.2.2 x20).bind fun x21 => (fRec (Tr27.of (x21.un.1,f24 x21.un.2.1,x21.un.2.2.1,x21.un.2.2.2.1,x21.un.2.2.2.2)) p1 p2 p3).bind fun x22 => (Me x19 x22).bind fun x23 => some (.inl (x23,Aq (x20 + 1))) else some (.inr (.inl x19)))
def CI (fRec : Tr27 → Int → Int → (Int × Int × Int × Int) → Option (List Sq)) (p0 : Tr27) (p1 : Int) (p2 : Int) (p3 : Int × Int × Int × Int) : Option (List Sq) := (OT (f24 p0.un.2.1) p1 p2 p3).bind fun x1 => Hw (if p0.un.1 = 1 then (if x1 = true then (Dg ([] : List Sq) ([(p2,p3)] : List Sq)).bind fun x3 => some (.inl x3) else some (.inl ([]))) else (if p0.un.1 = 2 then (if p0.un.2.2.1 = 4 then some p0.un.2.2.2.1 else some p2).bind fun x4 => (H3 p3 p0.un.2.2.1 p0.un.2.2.2.1).bind fun x5 => (Dg ([] : List Sq) ([(x4,x5)] : List Sq)).bind fun x6 => some (.inl x6) else (if p0.un.1 = 3 then (Dg ([] : List Sq) ([(p2,p3)] : List Sq)).bind fun x7 => Af (EV fRec p0 p1) (x7,0) else (if p0.un.1 = 4 then Af (EN fRec p0 p1 p2 p3) ([],0) else (if p0.un.1 = 5 then (if x1 = true then (ix p0.un.2.2.2.2 0).bind fun x24 => (fRec (Tr27.of (x24.un.1,f24 x24.un.2.1,x24.un.2.2.1,x24.un.2.2.2.1,x24.un.2.2.2.2)) p1 p2 p3).bind fun x25 => some (.inr x25) else (ix p0.un.2.2.2.2 1).bind fun x26 => (fRec (Tr27.of (x26.un.1,f24 x26.un.2.1,x26.un.2.2.1,x26.un.2.2.2.1,x26.un.2.2.2.2)) p1 p2 p3).bind fun x27 => some (.inr x27)) else some (.inl ([]))))))) fun x2 => some x2
def DM : Nat → Tr27 → Int → Int → (Int × Int × Int × Int) → Option (List Sq)
  | 0 => fun _ _ _ _ => none
  | n + 1 => CI (DM n)
def Us (p0 : Tr27) (p1 : Int) (p2 : Int) (p3 : Int × Int × Int × Int) : Option (List Sq) := E2 fun n => DM n p0 p1 p2 p3
theorem k21 : KO (K21 fun x => Us x.1 x.2.1 x.2.2.1 x.2.2.2) 21 := Nq (E := te) (xs := jD) (ys := m8) (bs := []) (io := false) (nn := fun n x => DM n x.1 x.2.1 x.2.2.1 x.2.2.2) (st := fun g x => CI (fun yp0 yp1 yp2 yp3 => g (yp0,yp1,yp2,yp3)) x.1 x.2.1 x.2.2.1 x.2.2.2) Tryz.func21 rfl (by kernel_rfl) (fun _ => rfl) (fun _ => rfl) fun g hg => E0 (ct := (.q (.q (.q (.j (.st true ⟨[(9,false,[.d false aE])],[],[]⟩) (.q (.b (.q (.c .d (.q (.c (.j (.st false ⟨[(2,false,AZ)],[],[]⟩) .d .d) (.q (.c (.q (.q (.b (.l ⟨[(9,false,[.d false aE]),(11,false,AZ)],[],[]⟩ (.q (.j (.st false ⟨[(9,false,[.d false aE])],[],[]⟩) (.b (.q (.j (.st false ⟨[(12,false,[.d false aE])],[],[]⟩) (.q (.b (.l ⟨[(12,false,[.d false aE]),(13,false,AZ)],[],[]⟩ .d))) .d))) .d)))))) (.q (.c (.q (.b (.l ⟨[(9,false,[.d false aE]),(14,false,AZ)],[],[]⟩ .d))) .d)))))))))) .d))))) En (AJ hg (AJ k45 (AJ k46 (AJ k47 BN)))) Tryz.func21 (by kernel_rfl) fun x => by kernel_rfl
def F9 (p0 : List Sq) (p1 : List Sq) : Int → Option (Int ⊕ (Unit ⊕ Bool))
  | x1 => (if x1 < (p0.length : Int) then (ix p0 x1).bind fun x2 => (ix p1 x1).bind fun x3 => (if (!(decide (x2.1 = x3.1 ∧ x2.2.1 = x3.2.1 ∧ x2.2.2.1 = x3.2.2.1 ∧ x2.2.2.2.1 = x3.2.2.2.1 ∧ x2.2.2.2.2 = x3.2.2.2.2))) = true then some (.inr (.inr false)) else some (.inl (Aq (x1 + 1)))) else some (.inr (.inl ())))
def J8 (p0 : List Sq) (p1 : List Sq) : Option Bool := (if (p0.length : Int) ≠ (p1.length : Int) then some false else Hw (Af (F9 p0 p1) 0) fun _ => some true)
theorem Xu (Y : Nat → Prop) (w0 : World) (v1 : Value) (v2 : Value) (p0 : List Sq) (p1 : List Sq) (r : Bool) (H : J8 p0 p1 = some r) (h_v1 : Sl w0 (NX []) Hn v1 p0) (h_v2 : Sl w0 (NX []) Hn v2 p1) (hG : Gk [] w0) :
    ca_ 19 #[v1,v2] w0 fun e w' => e = .returned (.bool r) ∧ Below w0.heap.size w0 w' := by
 refine enter Tryz.func19 Aa Tryz.ntmps19 Aa fun a F => ?_
 have W := Stw.start Y w0
 unfold J8 at H
 refine vc tk 9 F W fun a w F W => ?_
 refine ls F W Aa (Lw (r := Hn) (l := p0) ZF Aa F Aa (BZ h_v1)).q fun a w F W => ?_
 refine ls F W Aa (C1 F Aa).q fun a w F W => ?_
 refine ls F W Aa (Lw (r := Hn) (l := p1) ZF Aa F Aa (BZ h_v2)).q fun a w F W => ?_
 refine Lg tk 3 F W fun a w F W => ?_
 refine Ia F Aa H (fun F H => ?_) fun F H => ?_
 ·
  refine vc tk 5 F W fun a w F W => ?_
  refine Cq (DY ?_)
  have H := DR H
  subst H
  refine Dr (.inl Aa) F W Aa (CH F Aa) ?_
  exact ⟨rfl,W.done⟩
 refine E3 (Al ?_)
 obtain ⟨o1,G1,K1,L1⟩ := uY H
 refine Ek (fun a w => some (Sum.inl ()) = some o1 ∧ Fr 26 [] [(4,.bool false)] a ∧ sy Y w0 [] [] w) ?_ ?_
 ·
  have H := G1
  refine vc tk 6 F W fun a w F W => ?_
  refine Jq H (fun s a w => Fr 26 [] [(0,v1),(1,v2),(4,.bool false),(5,Jint s)] a ∧ sy Y w0 [] [] w) ⟨F.ra Aa,W⟩ fun s o a w H L2 hR => ?_
  obtain ⟨x1,rfl⟩ : ∃ x,x = s := ⟨s,rfl⟩
  obtain ⟨F,W⟩ := hR
  have F : Fr 26 [] [(0,v1),(1,v2),(4,.bool false),(5,Jint x1)] a := F
  have W : sy Y w0 [] [] w := W
  rw [F9] at H
  refine vc tk 5 F W fun a w F W => ?_
  refine ls F W Aa (Lw (r := Hn) (l := p0) ZF Aa F Aa (BZ h_v1)).q fun a w F W => ?_
  refine Lg tk 3 F W fun a w F W => ?_
  refine Ia F Aa H (fun F H => ?_) fun F H => ?_
  ·
   refine W1 tk 5 F W fun a w F W => ?_
   refine HK W MO (by kernel_rfl) ?_
   iterate 2 refine qs F Aa (C1 F Aa).q fun a F => ?_
   obtain ⟨x2,h1,H⟩ := A1 H
   refine qs F Aa (Hq (r := Hn) YM F Aa Aa (BZ h_v1) h1).q fun a F => ?_
   refine qs F Aa (Er (y := Value.agg #[Jint x2.1,Jint x2.2.1,Jint x2.2.2.1,Jint x2.2.2.2.1,Jint x2.2.2.2.2]) (j := 0) (i := x1) F Aa Aa (BZ h_v1) h1 gK.to XH Aa).q fun a F => ?_
   iterate 2 refine qs F Aa (C1 F Aa).q fun a F => ?_
   obtain ⟨x3,h2,H⟩ := A1 H
   refine qs F Aa (Hq (r := Hn) YM F Aa Aa (BZ h_v2) h2).q fun a F => ?_
   refine qs F Aa (Er (y := Value.agg #[Jint x3.1,Jint x3.2.1,Jint x3.2.2.1,Jint x3.2.2.2.1,Jint x3.2.2.2.2]) (j := 0) (i := x1) F Aa Aa (BZ h_v2) h2 gK.to XH Aa).q fun a F => ?_
   refine qs F Aa (rC (t := decide (x2.1 = x3.1 ∧ x2.2.1 = x3.2.1 ∧ x2.2.2.1 = x3.2.2.1 ∧ x2.2.2.2.1 = x3.2.2.2.1 ∧ x2.2.2.2.2 = x3.2.2.2.2)) vZ (uR _ _ _ _ _ _ _ _ _ _) F Aa Aa).q fun a F => ?_
   refine D7 fun w W => ?_
   refine Al ?_
   refine Kx F Aa H (fun F H => ?_) fun F H => ?_
   ·
    refine vc tk 5 F W fun a w F W => ?_
    refine Cq (Hj ?_)
    iterate 2 refine DY ?_
    refine Hj (DY ?_)
    have H := L2 _ H
    have H := L1 _ H
    have H := DR H
    subst H
    refine Dr (.inl Aa) F W Aa (CH F Aa) ?_
    exact ⟨rfl,W.done⟩
   refine E3 (FK ?_)
   refine vn tk 5 F W fun a w F W => ?_
   refine Al ?_
   exact ⟨_,H,F.ra Aa,W⟩
  refine Ho ?_
  iterate 2 refine KM ?_
  refine GO (Al ?_)
  have H := L2 _ H
  exact ⟨H,F.ra Aa,W⟩
 rintro a w ⟨hj,F,W⟩
 have H := K1 _ hj
 refine vc tk 5 F W fun a w F W => ?_
 refine Cq ?_
 have H := DR H
 subst H
 refine Dr (.inl Aa) F W Aa (CH F Aa) ?_
 exact ⟨rfl,W.done⟩
abbrev K19 : Cn_ := ⟨yY,zA,[],false,fun x => J8 x.1 x.2,none⟩
theorem k19 : KO K19 19 := KO.of ⟨fun args w => AN Tryz.func19 rfl (by decide) args w⟩ rfl (fun _ => rfl) (fun _ => rfl) rfl (fun _ => rfl) (fun _ => rfl) (fun _ => rfl) (fun _ => rfl) fun Y w0 x r g H hg hk => (Xu Y w0 g.1 g.2.1 x.1 x.2 r H hg.1 hg.2.1 hk).mono fun e w' h => ⟨(),h.1,Stw.ofB h.2⟩
def BP (fRec : Tr34 → Int → Option (List Int)) (p0 : Tr34) (p1 : Int) : (List Int × Int) → Option ((List Int × Int) ⊕ (List Int))
  | (x4,x5) => (if x5 < (p0.un.2.2.2.length : Int) then (ix p0.un.2.2.2 x5).bind fun x6 => (fRec x6 p1).bind fun x7 => (Dg x4 x7).bind fun x8 => some (.inl (x8,Aq (x5 + 1))) else some (.inr x4))
def CG (fRec : Tr34 → Int → Option (List Int)) (p0 : Tr34) (p1 : Int) : Option (List Int) := (if (decide (p0.un.1 = 3) && decide (p0.un.2.1 = p1)) = true then (Dg ([] : List Int) ([p0.un.2.2.1] : List Int)).bind fun x2 => some x2 else some ([])).bind fun x1 => (Af (BP fRec p0 p1) (x1,0)).bind fun x3 => some x3
def Cy : Nat → Tr34 → Int → Option (List Int)
  | 0 => fun _ _ => none
  | n + 1 => CG (Cy n)
def HT (p0 : Tr34) (p1 : Int) : Option (List Int) := E2 fun n => Cy n p0 p1
def Hg (fRec : Tr34 → Int → Option (List Int)) (p0 : Tr34) (p1 : Int) : (List Int × Int) → Option ((List Int × Int) ⊕ (List Int))
  | (x4,x5) => (if x5 < (p0.un.2.2.2.length : Int) then (ix p0.un.2.2.2 x5).bind fun x6 => (fRec (f34 x6) p1).bind fun x7 => (Dg x4 x7).bind fun x8 => some (.inl (x8,Aq (x5 + 1))) else some (.inr x4))
theorem Nk : @Hg = @BP := by
 unfold Hg BP
 simp only [Tr34.re_eq]
def Ji (fRec : Tr34 → Int → Option (List Int)) (p0 : Tr34) (p1 : Int) : Option (List Int) := (if (decide (p0.un.1 = 3) && decide (p0.un.2.1 = p1)) = true then (Dg ([] : List Int) ([p0.un.2.2.1] : List Int)).bind fun x2 => some x2 else some ([])).bind fun x1 => (Af (Hg fRec p0 p1) (x1,0)).bind fun x3 => some x3
theorem Nj : @Ji = @CG := by
 unfold Ji CG
 simp only [Nk]
theorem y6 : KO (vP fun x => HT x.1 x.2) 104 := Nq (E := te) (xs := Y5) (ys := b5) (bs := []) (io := false) (nn := fun n x => Cy n x.1 x.2) (st := fun g x => CG (fun yp0 yp1 => g (yp0,yp1)) x.1 x.2) Tryz.func104 rfl (by kernel_rfl) (fun _ => rfl) (fun _ => rfl) fun g hg => E0 (ct := (.q (.q (.j (.st false ⟨[(5,false,UT)],[],[]⟩) (.j (.bl [16]) .d .d) (.j (.st false ⟨[(5,false,UT)],[],[]⟩) (.q (.b (.l ⟨[(5,false,UT),(25,false,AZ)],[],[]⟩ .d))) .d))))) En (AJ hg BN) Tryz.func104 (by kernel_rfl) fun x => by rw [← Nj]; kernel_rfl
def CJ (p0 : List Int) : Option (List Int) := Ym p0
theorem La (Y : Nat → Prop) (X : List Nat) (w0 : World) (v1 : Value) (p0 : List Int) (r : List Int) (H : CJ p0 = some r) (hG : Gk X w0) (hL : Stw ⟨Y,X,w0⟩ [] [row v1 3 ri p0] w0) :
    ca_ 49 #[v1] w0 fun e w' => ∃ x : Unit,e = .returned (.tuple #[]) ∧ Stw ⟨Y,X,w0⟩ [] [row v1 3 ri r] w' := n5 Y X w0 v1 p0 r H hG hL
abbrev K49 : Cn_ := ⟨xV,vK,[],true,fun x => CJ x,none⟩
theorem zS : KO K49 49 := KO.ofL ⟨fun args w => AN Tryz.func49 rfl (by decide) args w⟩ rfl (fun _ => rfl) (fun _ => rfl) (fun _ => rfl) (fun _ => rfl) (fun _ => rfl) fun Y X w0 x r g H hg W hk => (La Y X w0 g.1 x r H hk W).mono fun e w' ⟨x,he,W⟩ => ⟨(g.1,()),he,W,fun _ => rfl⟩
def Cc (p0 : List Int) : Option (List Int) := OB p0
theorem JE (Y : Nat → Prop) (X : List Nat) (w0 : World) (v1 : Value) (p0 : List Int) (r : List Int) (H : Cc p0 = some r) (hG : Gk X w0) (hL : Stw ⟨Y,X,w0⟩ [] [row v1 3 ri p0] w0) :
    ca_ 50 #[v1] w0 fun e w' => ∃ x : Value,e = .returned (x) ∧ Stw ⟨Y,X,w0⟩ [] [row (x) 3 ri r] w' := Zs Y X w0 v1 p0 r H hG hL
abbrev K50 : Cn_ := ⟨xP,vW,[],false,fun x => Cc x,none⟩
theorem zT : KO K50 50 := KO.ofL ⟨fun args w => AN Tryz.func50 rfl (by decide) args w⟩ rfl (fun _ => rfl) (fun _ => rfl) (fun _ => rfl) (fun _ => rfl) (fun _ => rfl) fun Y X w0 x r g H hg W hk => (JE Y X w0 g.1 x r H hk W).mono fun e w' ⟨x,he,W⟩ => ⟨(x,()),he,W,fun h => nomatch h⟩
def Hf (p0 : Tr34) (p1 : Int) : Option (List Int) := (HT p0 p1).bind fun x1 => (CJ x1).bind fun x2 => (Cc x2).bind fun x3 => some x3
def Oq (p0 : Tr34) (p1 : Int) : Option (List Int) := (HT (f34 p0) p1).bind fun x1 => (CJ x1).bind fun x2 => (Cc x2).bind fun x3 => some x3
theorem Sr : @Oq = @Hf := by
 unfold Oq Hf
 simp only [Tr34.re_eq]
abbrev K79 : Cn_ := ⟨[X5,EZ],[WT],[],false,fun x => Hf x.1 x.2,none⟩
theorem k79 : KO (K79) 79 := E0 (ct := .d) En (AJ y6 (AJ zS (AJ zT BN))) Tryz.func79 (by kernel_rfl) fun x => by rw [← Sr]; kernel_rfl
def CU (fRec : Tr37 → Int → Option (List Int)) (p0 : Tr37) (p1 : Int) : (List Int × Int) → Option ((List Int × Int) ⊕ (List Int))
  | (x5,x6) => (if x6 < (p0.un.2.2.2.2.length : Int) then (ix p0.un.2.2.2.2 x6).bind fun x7 => (fRec (Tr37.of (x7.un.1,f34 x7.un.2.1,x7.un.2.2.1,x7.un.2.2.2.1,x7.un.2.2.2.2)) p1).bind fun x8 => (Dg x5 x8).bind fun x9 => some (.inl (x9,Aq (x6 + 1))) else some (.inr x5))
def Ei (fRec : Tr37 → Int → Option (List Int)) (p0 : Tr37) (p1 : Int) : Option (List Int) := (Hf (f34 p0.un.2.1) p1).bind fun x1 => (if (decide (p0.un.1 = 2) && decide (p0.un.2.2.1 = p1)) = true then (Dg x1 ([p0.un.2.2.2.1] : List Int)).bind fun x3 => some x3 else some x1).bind fun x2 => (Af (CU fRec p0 p1) (x2,0)).bind fun x4 => some x4
def C4 : Nat → Tr37 → Int → Option (List Int)
  | 0 => fun _ _ => none
  | n + 1 => Ei (C4 n)
def Ln (p0 : Tr37) (p1 : Int) : Option (List Int) := E2 fun n => C4 n p0 p1
theorem k48 : KO (K48 fun x => Ln x.1 x.2) 48 := Nq (E := te) (xs := kR) (ys := mY) (bs := []) (io := false) (nn := fun n x => C4 n x.1 x.2) (st := fun g x => Ei (fun yp0 yp1 => g (yp0,yp1)) x.1 x.2) Tryz.func48 rfl (by kernel_rfl) (fun _ => rfl) (fun _ => rfl) fun g hg => E0 (ct := (.q (.q (.j (.st false ⟨[(5,false,UT)],[],[]⟩) (.j (.bl [20]) .d .d) (.j (.st false ⟨[(5,false,UT)],[],[]⟩) (.q (.b (.l ⟨[(5,false,UT),(29,false,AZ)],[],[]⟩ .d))) .d))))) En (AJ hg (AJ k79 BN)) Tryz.func48 (by kernel_rfl) fun x => by kernel_rfl
def HS (p0 : Tr37) (p1 : Int) : Option (List Int) := (Ln (Tr37.of (p0.un.1,f34 p0.un.2.1,p0.un.2.2.1,p0.un.2.2.2.1,p0.un.2.2.2.2)) p1).bind fun x1 => (CJ x1).bind fun x2 => (Cc x2).bind fun x3 => some x3
abbrev K23 : Cn_ := ⟨[PN,EZ],[WT],[],false,fun x => HS x.1 x.2,none⟩
theorem k23 : KO (K23) 23 := E0 (ct := .d) En (AJ zS (AJ zT (AJ k48 BN))) Tryz.func23 (by kernel_rfl) fun x => by kernel_rfl
def EE (fRec : Tr24 → Int → Int → Option Bool) (p0 : Tr24) (p1 : Int) (p2 : Int) : Int → Option (Int ⊕ (Unit ⊕ Bool))
  | x1 => (if x1 < (p0.un.2.2.2.length : Int) then (ix p0.un.2.2.2 x1).bind fun x2 => (fRec x2 p1 p2).bind fun x3 => (if x3 = true then some (.inr (.inr true)) else some (.inl (Aq (x1 + 1)))) else some (.inr (.inl ())))
def EG (fRec : Tr24 → Int → Int → Option Bool) (p0 : Tr24) (p1 : Int) (p2 : Int) : Option Bool := (if (decide (p0.un.1 = 3) && (decide (p0.un.2.1 = p1) && decide (p0.un.2.2.1 = p2))) = true then some true else Hw (Af (EE fRec p0 p1 p2) 0) fun _ => some false)
def FB : Nat → Tr24 → Int → Int → Option Bool
  | 0 => fun _ _ _ => none
  | n + 1 => EG (FB n)
def LE (p0 : Tr24) (p1 : Int) (p2 : Int) : Option Bool := E2 fun n => FB n p0 p1 p2
def KB (fRec : Tr24 → Int → Int → Option Bool) (p0 : Tr24) (p1 : Int) (p2 : Int) : Int → Option (Int ⊕ (Unit ⊕ Bool))
  | x1 => (if x1 < (p0.un.2.2.2.length : Int) then (ix p0.un.2.2.2 x1).bind fun x2 => (fRec (f24 x2) p1 p2).bind fun x3 => (if x3 = true then some (.inr (.inr true)) else some (.inl (Aq (x1 + 1)))) else some (.inr (.inl ())))
theorem S8 : @KB = @EE := by
 unfold KB EE
 simp only [Tr24.re_eq]
def OG (fRec : Tr24 → Int → Int → Option Bool) (p0 : Tr24) (p1 : Int) (p2 : Int) : Option Bool := (if (decide (p0.un.1 = 3) && (decide (p0.un.2.1 = p1) && decide (p0.un.2.2.1 = p2))) = true then some true else Hw (Af (KB fRec p0 p1 p2) 0) fun _ => some false)
theorem Sz : @OG = @EG := by
 unfold OG EG
 simp only [S8]
theorem k81 : KO (K81 fun x => LE x.1 x.2.1 x.2.2) 81 := Nq (E := te) (xs := jT) (ys := oC) (bs := []) (io := false) (nn := fun n x => FB n x.1 x.2.1 x.2.2) (st := fun g x => EG (fun yp0 yp1 yp2 => g (yp0,yp1,yp2)) x.1 x.2.1 x.2.2) Tryz.func81 rfl (by kernel_rfl) (fun _ => rfl) (fun _ => rfl) fun g hg => E0 (ct := (.q (.s (.j (.bl [22]) .d .d) (.j (.st true ⟨[],[],[]⟩) (.q (.b (.l ⟨[(7,false,AZ)],[],[]⟩ .d))) .d)))) En (AJ hg BN) Tryz.func81 (by kernel_rfl) fun x => by rw [← Sz]; kernel_rfl
end
end Go.Proofs.YtpckgggmgijiiaaGreatDoor
