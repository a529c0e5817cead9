/- The functions of layer 30, Og. Conditions: none. -/
import Derived.Test.YtgoifghhcekahaaGreatDooreA0
namespace Go.Proofs.YtgoifghhcekahaaGreatDoor
noncomputable section
open Go Go.RowKit
set_option linter.unusedVariables false
set_option linter.unusedSimpArgs false
set_option maxRecDepth 20000
set_option maxHeartbeats 1600000
theorem eE : type_of% Tryz.underlying63 := Tryz.underlying63
theorem Z3 : (Tryz.prog.info? 3).bind (·.zero) = some (Jint 0) := by kernel_rfl
theorem ZG : Et Tryz.prog 63 3 1 8 := Et.of eE (by kernel_rfl) (by kernel_rfl) (by kernel_rfl) (by decide)
def B9 (fRec : Tr36 → Int → Option (List Int)) (p0 : Tr36) (p1 : Int) : (List Int × Int) → Option ((List Int × Int) ⊕ (List Int))
  | (x4,x5) => (if x5 < (p0.un.2.2.2.length : Int) then (ix p0.un.2.2.2 x5).bind fun x6 => (fRec x6 p1).bind fun x7 => (Fy x4 x7).bind fun x8 => some (.inl (x8,Ae (x5 + 1))) else some (.inr x4))
def C4 (fRec : Tr36 → Int → Option (List Int)) (p0 : Tr36) (p1 : Int) : Option (List Int) := (if (decide (p0.un.1 = 3) && decide (p0.un.2.1 = p1)) = true then (Fy ([] : List Int) ([p0.un.2.2.1] : List Int)).bind fun x2 => some x2 else some ([])).bind fun x1 => (Ac (B9 fRec p0 p1) (x1,0)).bind fun x3 => some x3
def C3 : Nat → Tr36 → Int → Option (List Int)
  | 0 => fun _ _ => none
  | n + 1 => C4 (C3 n)
def H1 (p0 : Tr36) (p1 : Int) : Option (List Int) := GY fun n => C3 n p0 p1
def Hv (fRec : Tr36 → Int → Option (List Int)) (p0 : Tr36) (p1 : Int) : (List Int × Int) → Option ((List Int × Int) ⊕ (List Int))
  | (x4,x5) => (if x5 < (p0.un.2.2.2.length : Int) then (ix p0.un.2.2.2 x5).bind fun x6 => (fRec (f36 x6) p1).bind fun x7 => (Fy x4 x7).bind fun x8 => some (.inl (x8,Ae (x5 + 1))) else some (.inr x4))
theorem MK : @Hv = @B9 := by
 unfold Hv B9
 simp only [Tr36.re_eq]
def Jc (fRec : Tr36 → Int → Option (List Int)) (p0 : Tr36) (p1 : Int) : Option (List Int) := (if (decide (p0.un.1 = 3) && decide (p0.un.2.1 = p1)) = true then (Fy ([] : List Int) ([p0.un.2.2.1] : List Int)).bind fun x2 => some x2 else some ([])).bind fun x1 => (Ac (Hv fRec p0 p1) (x1,0)).bind fun x3 => some x3
theorem MF : @Jc = @C4 := by
 unfold Jc C4
 simp only [MK]
theorem k55 : KO (K55 fun x => H1 x.1 x.2) 55 := Q7 (E := te) (xs := eT) (ys := mL) (bs := []) (io := false) (nn := fun n x => C3 n x.1 x.2) (st := fun g x => C4 (fun yp0 yp1 => g (yp0,yp1)) x.1 x.2) Tryz.func55 rfl (by kernel_rfl) (fun _ => rfl) (fun _ => rfl) fun g hg => DY (ct := (.q (.q (.j (.st false ⟨[(5,false,Hz)],[],[]⟩) (.j (.bl [16]) .d .d) (.j (.st false ⟨[(5,false,Hz)],[],[]⟩) (.q (.b (.l ⟨[(5,false,Hz),(25,false,AG)],[],[]⟩ .d))) .d))))) Dz (Az hg Bc) Tryz.func55 (by kernel_rfl) fun x => by rw [← MF]; kernel_rfl
def Ii (p0 : Int) : Option Int := (if 4294967296 ≤ p0 then some (Kf .u64 p0 32,32) else some (p0,0)).bind fun (x1,x2) => (if 65536 ≤ x1 then some (Kf .u64 x1 16,Ae (x2 + 16)) else some (x1,x2)).bind fun (x3,x4) => (if 256 ≤ x3 then some (Kf .u64 x3 8,Ae (x4 + 8)) else some (x3,x4)).bind fun (x5,x6) => (ix ([0,1,2,2,3,3,3,3,4,4,4,4,4,4,4,4,5,5,5,5,5,5,5,5,5,5,5,5,5,5,5,5,6,6,6,6,6,6,6,6,6,6,6,6,6,6,6,6,6,6,6,6,6,6,6,6,6,6,6,6,6,6,6,6,7,7,7,7,7,7,7,7,7,7,7,7,7,7,7,7,7,7,7,7,7,7,7,7,7,7,7,7,7,7,7,7,7,7,7,7,7,7,7,7,7,7,7,7,7,7,7,7,7,7,7,7,7,7,7,7,7,7,7,7,7,7,7,7,8,8,8,8,8,8,8,8,8,8,8,8,8,8,8,8,8,8,8,8,8,8,8,8,8,8,8,8,8,8,8,8,8,8,8,8,8,8,8,8,8,8,8,8,8,8,8,8,8,8,8,8,8,8,8,8,8,8,8,8,8,8,8,8,8,8,8,8,8,8,8,8,8,8,8,8,8,8,8,8,8,8,8,8,8,8,8,8,8,8,8,8,8,8,8,8,8,8,8,8,8,8,8,8,8,8,8,8,8,8,8,8,8,8,8,8,8,8,8,8,8,8,8,8,8,8,8,8] : lb_) (IntKind.u8.wrap x5)).bind fun x7 => some (Ae (x6 + (Ae (x7.toNat : Int))))
abbrev yM : Cn_ := ⟨[(.b false,[.d true (.int .u64)])],[IP],[],false,fun x => Ii x,none⟩
theorem wP : KO (yM) 123 := DY (ct := (.q (.j (.st false ⟨[(0,false,[.d false (.int .u64)]),(2,false,AG)],[],[]⟩) .d (.j (.st false ⟨[(0,false,[.d false (.int .u64)]),(2,false,AG)],[],[]⟩) .d (.j (.st false ⟨[(0,false,[.d false (.int .u64)]),(2,false,AG)],[],[]⟩) .d .d))))) Dz Bc Tryz.func123 (by kernel_rfl) fun x => by kernel_rfl
def FZ (p0 : Int) : Option Int := (Ii p0).bind fun x1 => some x1
abbrev K93 : Cn_ := ⟨[(.b false,[.d true (.int .u64)])],[IP],[],false,fun x => FZ x,none⟩
theorem uT : KO (K93) 93 := DY (ct := .d) Dz (Az wP Bc) Tryz.func93 (by kernel_rfl) fun x => by kernel_rfl
def Ea (p0 : Int) : Bool := decide (p0 ≠ p0)
abbrev sU : Cn_ := ⟨[D6],[ID],[],false,fun x => some (Ea x),some ⟨fun x => Ea x,fun _ => rfl⟩⟩
theorem zM : KO (sU) 99 := DY (ct := .d) Dz Bc Tryz.func99 (by kernel_rfl) fun x => by kernel_rfl
def Bz (p0 : Int) (p1 : Int) : Bool := (bif (Ea p0) then (!(Ea p1) || decide (p0 < p1)) else decide (p0 < p1))
noncomputable def sY : Code := (Tryz.f119.body).getD .skip
def rA : Ct := (.q (.j (.bl [4]) .d .d))
abbrev wB : Cn_ := ⟨iI,gW,[],false,fun x => some (Bz x.1 x.2),some ⟨fun x => Bz x.1 x.2,fun _ => rfl⟩⟩
theorem vA (x : Int × Int) : @Eq (Option Bool) (dF te fN ([(99,sU)] : Gy te Tryz.prog) 17 sY rA iI gW [] false [.tmp 4] x).den (some (Bz x.1 x.2)) := by simp only [Bz,apply_ite (some : Bool → _)]; kernel_rfl
theorem Vw : KO (wB) 119 := dK Dz (Az zM Bc) Tryz.func119 (by kernel_rfl) Tryz.ntmps119 rfl rfl rfl (by kernel_rfl) vA
def A8 (p1 : Int) : (List Int × Int) → Option ((List Int × Int) ⊕ (List Int))
  | (x4,x5) => (if p1 < x5 then (ix x4 x5).bind fun x7 => (ix x4 (Ae (x5 - 1))).bind fun x8 => some (Bz x7 x8) else some false).bind fun x6 => (if x6 = true then (ix x4 (Ae (x5 - 1))).bind fun x9 => (ix x4 x5).bind fun x10 => (ix x4 x5).bind fun x11 => (ix (Ak x4 x5 x9) (Ae (x5 - 1))).bind fun x12 => some (.inl ((Ak (Ak x4 x5 x9) (Ae (x5 - 1)) x10),Ae (x5 - 1))) else some (.inr x4))
def BS (p1 : Int) (p2 : Int) : (List Int × Int) → Option ((List Int × Int) ⊕ (List Int))
  | (x1,x2) => (if x2 < p2 then (Ac (A8 p1) (x1,x2)).bind fun x3 => some (.inl (x3,Ae (x2 + 1))) else some (.inr x1))
def Ch (p0 : List Int) (p1 : Int) (p2 : Int) : Option (List Int) := Ac (BS p1 p2) (p0,Ae (p1 + 1))
abbrev uB : Cn_ := ⟨[L4,D6,D6],[],[],true,fun x => Ch x.1 x.2.1 x.2.2,none⟩
theorem yA : KO (uB) 113 := DY (ct := (.q (.b (.l ⟨[(0,false,Hz),(6,false,AG)],[],[0]⟩ (.q (.j (.st false ⟨[(0,false,Hz)],[],[0]⟩) (.b (.q (.b (.l ⟨[(0,false,Hz),(7,false,AG)],[],[0]⟩ (.s (.j (.st false ⟨[(30,false,EK)],[],[]⟩) .d .d) .d))))) .d)))))) Dz (Az Vw Bc) Tryz.func113 (by kernel_rfl) fun x => by kernel_rfl
def AX (p2 : Int) (p3 : Int) : (List Int × Int) → Option ((List Int × Int) ⊕ (List Int))
  | (x1,x2) => (if p2 ≤ (Ae ((Ae (2 * x2)) + 1)) then some (.inr x1) else ((if (Ae ((Ae ((Ae (2 * x2)) + 1)) + 1)) < p2 then (ix x1 (Ae (p3 + (Ae ((Ae (2 * x2)) + 1))))).bind fun x5 => (ix x1 (Ae ((Ae (p3 + (Ae ((Ae (2 * x2)) + 1)))) + 1))).bind fun x6 => some (Bz x5 x6) else some false).bind fun x4 => (if x4 = true then some (Ae ((Ae ((Ae (2 * x2)) + 1)) + 1)) else some (Ae ((Ae (2 * x2)) + 1)))).bind fun x3 => (ix x1 (Ae (p3 + x2))).bind fun x7 => (ix x1 (Ae (p3 + x3))).bind fun x8 => (if (!(Bz x7 x8)) = true then some (.inr x1) else (ix x1 (Ae (p3 + x3))).bind fun x9 => (ix x1 (Ae (p3 + x2))).bind fun x10 => (ix x1 (Ae (p3 + x2))).bind fun x11 => (ix (Ak x1 (Ae (p3 + x2)) x9) (Ae (p3 + x3))).bind fun x12 => some (.inl ((Ak (Ak x1 (Ae (p3 + x2)) x9) (Ae (p3 + x3)) x10),x3))))
def CZ (p0 : List Int) (p1 : Int) (p2 : Int) (p3 : Int) : Option (List Int) := Ac (AX p2 p3) (p0,p1)
abbrev xO : Cn_ := ⟨[L4,D6,D6,D6],[],[],true,fun x => CZ x.1 x.2.1 x.2.2.1 x.2.2.2,none⟩
theorem y5 : KO (xO) 139 := DY (ct := (.q (.b (.l ⟨[(0,false,Hz),(8,false,AG)],[],[0]⟩ (.b (.q (.q (.j (.st false ⟨[(9,false,AG)],[],[]⟩) (.j (.st false ⟨[(36,false,EK)],[],[]⟩) .d .d) .d)))))))) Dz (Az Vw Bc) Tryz.func139 (by kernel_rfl) fun x => by kernel_rfl
def CA (p1 : Int) (p2 : Int) : (List Int × Int) → Option ((List Int × Int) ⊕ (List Int))
  | (x2,x3) => (if 0 ≤ x3 then (CZ x2 x3 (Ae (p2 - p1)) p1).bind fun x4 => some (.inl (x4,Ae (x3 - 1))) else some (.inr x2))
def Cz (p1 : Int) : (List Int × Int) → Option ((List Int × Int) ⊕ (List Int))
  | (x5,x6) => (if 0 ≤ x6 then (ix x5 (Ae (p1 + x6))).bind fun x7 => (ix x5 p1).bind fun x8 => (ix x5 p1).bind fun x9 => (ix (Ak x5 p1 x7) (Ae (p1 + x6))).bind fun x10 => (CZ (Ak (Ak x5 p1 x7) (Ae (p1 + x6)) x8) 0 x6 p1).bind fun x11 => some (.inl (x11,Ae (x6 - 1))) else some (.inr x5))
def C1 (p0 : List Int) (p1 : Int) (p2 : Int) : Option (List Int) := (Ac (CA p1 p2) (p0,Ae (Int.tdiv (Ae ((Ae (p2 - p1)) - 1)) 2))).bind fun x1 => Ac (Cz p1) (x1,Ae ((Ae (p2 - p1)) - 1))
abbrev xB : Cn_ := ⟨[L4,D6,D6],[],[],true,fun x => C1 x.1 x.2.1 x.2.2,none⟩
theorem wS : KO (xB) 114 := DY (ct := (.q (.q (.q (.j (.st false ⟨[(0,false,Hz)],[],[0]⟩) (.q (.b (.l ⟨[(0,false,Hz),(9,false,AG)],[],[0]⟩ .d))) (.q (.b (.l ⟨[(0,false,Hz),(10,false,AG)],[],[0]⟩ .d)))))))) Dz (Az y5 Bc) Tryz.func114 (by kernel_rfl) fun x => by kernel_rfl
def CM (p0 : List Int) (p1 : Int) (p2 : Int) (p3 : Int) : Option (Int × Int × Int) := (ix p0 p2).bind fun x1 => (ix p0 p1).bind fun x2 => (if (Bz x1 x2) = true then some (p2,p1,Ae (p3 + 1)) else some (p1,p2,p3))
abbrev tR : Cn_ := ⟨[QI,D6,D6,(.p,[])],[IP,IP],[(true,AG)],false,fun x => CM x.1 x.2.1 x.2.2.1 x.2.2.2,none⟩
theorem yT : KO (tR) 156 := DY (ct := .d) Dz (Az Vw Bc) Tryz.func156 (by kernel_rfl) fun x => by kernel_rfl
def CL (p0 : List Int) (p1 : Int) (p2 : Int) (p3 : Int) (p4 : Int) : Option (Int × Int) := (CM p0 p1 p2 p4).bind fun x1 => (CM p0 x1.2.1 p3 x1.2.2).bind fun x2 => (CM p0 x1.1 x2.1 x2.2.2).bind fun x3 => some (x3.2.1,x3.2.2)
abbrev tW : Cn_ := ⟨[QI,D6,D6,D6,(.p,[])],[IP],[(true,AG)],false,fun x => CL x.1 x.2.1 x.2.2.1 x.2.2.2.1 x.2.2.2.2,none⟩
theorem pO : KO (tW) 143 := DY (ct := .d) Dz (Az yT Bc) Tryz.func143 (by kernel_rfl) fun x => by kernel_rfl
def Be (p0 : List Int) (p1 : Int) (p2 : Int) : Option (Int × Int) := (CL p0 (Ae (p1 - 1)) p1 (Ae (p1 + 1)) p2).bind fun x1 => some (x1.1,x1.2)
abbrev y6 : Cn_ := ⟨[QI,D6,(.p,[])],[IP],[(true,AG)],false,fun x => Be x.1 x.2.1 x.2.2,none⟩
theorem xN : KO (y6) 142 := DY (ct := .d) Dz (Az pO Bc) Tryz.func142 (by kernel_rfl) fun x => by kernel_rfl
def Cy (p0 : List Int) (p1 : Int) (p2 : Int) : Option (Int × Int) := (if 8 ≤ (Ae (p2 - p1)) then (if 50 ≤ (Ae (p2 - p1)) then (Be p0 (Ae (p1 + (Ae ((Ae (Int.tdiv (Ae (p2 - p1)) 4)) * 1)))) 0).bind fun x7 => (Be p0 (Ae (p1 + (Ae ((Ae (Int.tdiv (Ae (p2 - p1)) 4)) * 2)))) x7.2).bind fun x8 => (Be p0 (Ae (p1 + (Ae ((Ae (Int.tdiv (Ae (p2 - p1)) 4)) * 3)))) x8.2).bind fun x9 => some (x7.1,x8.1,x9.1,x9.2) else some (Ae (p1 + (Ae ((Ae (Int.tdiv (Ae (p2 - p1)) 4)) * 1))),Ae (p1 + (Ae ((Ae (Int.tdiv (Ae (p2 - p1)) 4)) * 2))),Ae (p1 + (Ae ((Ae (Int.tdiv (Ae (p2 - p1)) 4)) * 3))),0)).bind fun (x3,x4,x5,x6) => (CL p0 x3 x4 x5 x6).bind fun x10 => some (x10.1,x10.2) else some (Ae (p1 + (Ae ((Ae (Int.tdiv (Ae (p2 - p1)) 4)) * 2))),0)).bind fun (x1,x2) => (if x2 = 0 then some (x1,1) else (if x2 = 12 then some (x1,2) else some (x1,0)))
abbrev xI : Cn_ := ⟨[QI,D6,D6],[IP,IP],[],false,fun x => Cy x.1 x.2.1 x.2.2,none⟩
theorem tT : KO (xI) 116 := DY (ct := (.q (.q (.q (.q (.q (.q (.j (.st false ⟨[(11,false,AG)],[(0,[some (.d false Ht)])],[]⟩) (.q (.c (.j (.st false ⟨[(10,false,AG),(11,false,AG),(12,false,AG)],[(0,[some (.d false Ht)])],[]⟩) .d .d) .d)) .d)))))))) Dz (Az pO (Az xN Bc)) Tryz.func116 (by kernel_rfl) fun x => by kernel_rfl
def BA  : (List Int × Int × Int) → Option ((List Int × Int × Int) ⊕ (List Int))
  | (x1,x2,x3) => (if x2 < x3 then (ix x1 x3).bind fun x4 => (ix x1 x2).bind fun x5 => (ix x1 x2).bind fun x6 => (ix (Ak x1 x2 x4) x3).bind fun x7 => some (.inl ((Ak (Ak x1 x2 x4) x3 x5),Ae (x2 + 1),Ae (x3 - 1))) else some (.inr x1))
def BN (p0 : List Int) (p1 : Int) (p2 : Int) : Option (List Int) := Ac (BA) (p0,p1,Ae (p2 - 1))
abbrev vW : Cn_ := ⟨[L4,D6,D6],[],[],true,fun x => BN x.1 x.2.1 x.2.2,none⟩
theorem wC : KO (vW) 117 := DY (ct := (.q (.q (.b (.l ⟨[(0,false,Hz),(6,false,AG),(7,false,AG)],[],[0]⟩ .d))))) Dz Bc Tryz.func117 (by kernel_rfl) fun x => by kernel_rfl
def BO (p2 : Int) (x2 : List Int) : Int → Option (Int ⊕ Int)
  | x8 => (if x8 < p2 then (ix x2 x8).bind fun x10 => (ix x2 (Ae (x8 - 1))).bind fun x11 => some (!(Bz x10 x11)) else some false).bind fun x9 => (if x9 = true then some (.inl (Ae (x8 + 1))) else some (.inr x8))
def AE  : (List Int × Int) → Option ((List Int × Int) ⊕ (List Int))
  | (x17,x18) => (if 1 ≤ x18 then (ix x17 x18).bind fun x19 => (ix x17 (Ae (x18 - 1))).bind fun x20 => (if (!(Bz x19 x20)) = true then some (.inr x17) else (ix x17 (Ae (x18 - 1))).bind fun x21 => (ix x17 x18).bind fun x22 => (ix x17 x18).bind fun x23 => (ix (Ak x17 x18 x21) (Ae (x18 - 1))).bind fun x24 => some (.inl ((Ak (Ak x17 x18 x21) (Ae (x18 - 1)) x22),Ae (x18 - 1)))) else some (.inr x17))
def AP (p2 : Int) (x7 : Int) : (List Int × Int) → Option ((List Int × Int) ⊕ ((List Int × Int) ⊕ ((List Int × Int × Int) ⊕ ((List Int) ⊕ (Bool × List Int)))))
  | (x25,x26) => (if x26 < p2 then (ix x25 x26).bind fun x27 => (ix x25 (Ae (x26 - 1))).bind fun x28 => (if (!(Bz x27 x28)) = true then some (.inr (.inl (x25,x7))) else (ix x25 (Ae (x26 - 1))).bind fun x29 => (ix x25 x26).bind fun x30 => (ix x25 x26).bind fun x31 => (ix (Ak x25 x26 x29) (Ae (x26 - 1))).bind fun x32 => some (.inl ((Ak (Ak x25 x26 x29) (Ae (x26 - 1)) x30),Ae (x26 + 1)))) else some (.inr (.inl (x25,x7))))
def AN (p1 : Int) (p2 : Int) : (List Int × Int × Int) → Option ((List Int × Int × Int) ⊕ ((List Int) ⊕ (Bool × List Int)))
  | (x2,x3,x4) => (if x4 < 5 then Hc ((Ac (BO p2 x2) x3).bind fun x7 => (if x7 = p2 then some (.inr (.inr (.inr (true,x2)))) else (if (Ae (p2 - p1)) < 50 then some (.inr (.inr (.inr (false,x2)))) else (ix x2 (Ae (x7 - 1))).bind fun x12 => (ix x2 x7).bind fun x13 => (ix x2 x7).bind fun x14 => (ix (Ak x2 x7 x12) (Ae (x7 - 1))).bind fun x15 => (if 2 ≤ (Ae (x7 - p1)) then Ac (AE) ((Ak (Ak x2 x7 x12) (Ae (x7 - 1)) x13),Ae (x7 - 1)) else some (Ak (Ak x2 x7 x12) (Ae (x7 - 1)) x13)).bind fun x16 => (if 2 ≤ (Ae (p2 - x7)) then Ac (AP p2 x7) (x16,Ae (x7 + 1)) else some (.inl (x16,x7)))))) fun (x5,x6) => some (.inl (x5,x6,Ae (x4 + 1))) else some (.inr (.inl x2)))
def A9 (p0 : List Int) (p1 : Int) (p2 : Int) : Option (Bool × List Int) := Hc (Ac (AN p1 p2) (p0,Ae (p1 + 1),0)) fun x1 => some (false,x1)
abbrev zA : Cn_ := ⟨[L4,D6,D6],[ID],[],true,fun x => A9 x.1 x.2.1 x.2.2,none⟩
theorem tX : KO (zA) 118 := DY (ct := (.q (.q (.j (.st true ⟨[(0,false,Hz)],[],[0]⟩) (.q (.b (.l ⟨[(0,false,Hz),(7,false,AG),(8,false,AG)],[],[0]⟩ (.q (.j (.st true ⟨[(0,false,Hz),(7,false,AG)],[],[0]⟩) (.b (.j (.st false ⟨[(7,false,AG)],[],[]⟩) (.b (.l ⟨[(7,false,AG)],[],[]⟩ (.s (.j (.st false ⟨[(32,false,EK)],[],[]⟩) .d .d) .d))) (.q (.q (.q (.j (.st false ⟨[(0,false,Hz)],[],[0]⟩) (.q (.c (.q (.b (.l ⟨[(0,false,Hz),(9,false,AG)],[],[0]⟩ .d))) .d)) (.q (.c (.q (.b (.l ⟨[(0,false,Hz),(10,false,AG)],[],[0]⟩ .d))) .d)))))))) .d))))) .d)))) Dz (Az Vw Bc) Tryz.func118 (by kernel_rfl) fun x => by kernel_rfl
def Cq (p1 : Int) (x7 : List Int) (x9 : Int) : Int → Option (Int ⊕ Int)
  | x11 => (if x11 ≤ x9 then (ix x7 p1).bind fun x13 => (ix x7 x11).bind fun x14 => some (!(Bz x13 x14)) else some false).bind fun x12 => (if x12 = true then some (.inl (Ae (x11 + 1))) else some (.inr x11))
def Cu (p1 : Int) (x7 : List Int) (x10 : Int) : Int → Option (Int ⊕ Int)
  | x16 => (if x10 ≤ x16 then (ix x7 p1).bind fun x18 => (ix x7 x16).bind fun x19 => some (Bz x18 x19) else some false).bind fun x17 => (if x17 = true then some (.inl (Ae (x16 - 1))) else some (.inr x16))
def BJ (p1 : Int) : (List Int × Int × Int) → Option ((List Int × Int × Int) ⊕ (Int × List Int))
  | (x7,x8,x9) => (Ac (Cq p1 x7 x9) x8).bind fun x10 => (Ac (Cu p1 x7 x10) x9).bind fun x15 => (if x15 < x10 then some (.inr (x10,x7)) else (ix x7 x15).bind fun x20 => (ix x7 x10).bind fun x21 => (ix x7 x10).bind fun x22 => (ix (Ak x7 x10 x20) x15).bind fun x23 => some (.inl ((Ak (Ak x7 x10 x20) x15 x21),Ae (x10 + 1),Ae (x15 - 1))))
def Cd (p0 : List Int) (p1 : Int) (p2 : Int) (p3 : Int) : Option (Int × List Int) := (ix p0 p3).bind fun x1 => (ix p0 p1).bind fun x2 => (ix p0 p1).bind fun x3 => (ix (Ak p0 p1 x1) p3).bind fun x4 => (Ac (BJ p1) ((Ak (Ak p0 p1 x1) p3 x2),Ae (p1 + 1),Ae (p2 - 1))).bind fun (x5,x6) => some (x5,x6)
abbrev wD : Cn_ := ⟨[L4,D6,D6,D6],[IP],[],true,fun x => Cd x.1 x.2.1 x.2.2.1 x.2.2.2,none⟩
theorem sX : KO (wD) 120 := DY (ct := (.q (.q (.q (.j (.st false ⟨[(9,false,AG),(0,false,Hz)],[],[0]⟩) (.b (.l ⟨[(0,false,Hz),(9,false,AG),(10,false,AG)],[],[0]⟩ (.b (.j (.st false ⟨[(9,false,AG)],[],[]⟩) (.b (.l ⟨[(9,false,AG)],[],[]⟩ (.s (.j (.st false ⟨[(43,false,EK)],[],[]⟩) .d .d) .d))) (.j (.st false ⟨[(10,false,AG)],[],[]⟩) (.b (.l ⟨[(10,false,AG)],[],[]⟩ (.s (.j (.st false ⟨[(59,false,EK)],[],[]⟩) .d .d) .d))) .d))))) .d))))) Dz (Az Vw Bc) Tryz.func120 (by kernel_rfl) fun x => by kernel_rfl
def Ck (p0 : List Int) (p1 : Int) (p2 : Int) (p3 : Int) (x1 : Int) (x2 : Int) : Int → Option (Int ⊕ Int)
  | x6 => (if x6 ≤ (Ae (p2 - 1)) then (ix (Ak (Ak p0 p1 x1) p3 x2) x6).bind fun x8 => (ix (Ak (Ak p0 p1 x1) p3 x2) p1).bind fun x9 => some (Bz x8 x9) else some false).bind fun x7 => (if x7 = true then some (.inl (Ae (x6 + 1))) else some (.inr x6))
def C9 (p0 : List Int) (p1 : Int) (p3 : Int) (x1 : Int) (x2 : Int) (x5 : Int) : Int → Option (Int ⊕ Int)
  | x11 => (if x5 ≤ x11 then (ix (Ak (Ak p0 p1 x1) p3 x2) x11).bind fun x13 => (ix (Ak (Ak p0 p1 x1) p3 x2) p1).bind fun x14 => some (!(Bz x13 x14)) else some false).bind fun x12 => (if x12 = true then some (.inl (Ae (x11 - 1))) else some (.inr x11))
def C5 (p1 : Int) (x25 : List Int) (x27 : Int) : Int → Option (Int ⊕ Int)
  | x29 => (if x29 ≤ x27 then (ix x25 x29).bind fun x31 => (ix x25 p1).bind fun x32 => some (Bz x31 x32) else some false).bind fun x30 => (if x30 = true then some (.inl (Ae (x29 + 1))) else some (.inr x29))
def Db (p1 : Int) (x25 : List Int) (x28 : Int) : Int → Option (Int ⊕ Int)
  | x34 => (if x28 ≤ x34 then (ix x25 x34).bind fun x36 => (ix x25 p1).bind fun x37 => some (!(Bz x36 x37)) else some false).bind fun x35 => (if x35 = true then some (.inl (Ae (x34 - 1))) else some (.inr x34))
def BM (p1 : Int) : (List Int × Int × Int) → Option ((List Int × Int × Int) ⊕ (List Int × Int))
  | (x25,x26,x27) => (Ac (C5 p1 x25 x27) x26).bind fun x28 => (Ac (Db p1 x25 x28) x27).bind fun x33 => (if x33 < x28 then some (.inr (x25,x33)) else (ix x25 x33).bind fun x38 => (ix x25 x28).bind fun x39 => (ix x25 x28).bind fun x40 => (ix (Ak x25 x28 x38) x33).bind fun x41 => some (.inl ((Ak (Ak x25 x28 x38) x33 x39),Ae (x28 + 1),Ae (x33 - 1))))
def CU (p0 : List Int) (p1 : Int) (p2 : Int) (p3 : Int) : Option (Int × Bool × List Int) := (ix p0 p3).bind fun x1 => (ix p0 p1).bind fun x2 => (ix p0 p1).bind fun x3 => (ix (Ak p0 p1 x1) p3).bind fun x4 => (Ac (Ck p0 p1 p2 p3 x1 x2) (Ae (p1 + 1))).bind fun x5 => (Ac (C9 p0 p1 p3 x1 x2 x5) (Ae (p2 - 1))).bind fun x10 => (if x10 < x5 then (ix (Ak (Ak p0 p1 x1) p3 x2) p1).bind fun x15 => (ix (Ak (Ak p0 p1 x1) p3 x2) x10).bind fun x16 => (ix (Ak (Ak p0 p1 x1) p3 x2) x10).bind fun x17 => (ix (Ak (Ak (Ak p0 p1 x1) p3 x2) x10 x15) p1).bind fun x18 => some (x10,true,(Ak (Ak (Ak (Ak p0 p1 x1) p3 x2) x10 x15) p1 x16)) else (ix (Ak (Ak p0 p1 x1) p3 x2) x10).bind fun x19 => (ix (Ak (Ak p0 p1 x1) p3 x2) x5).bind fun x20 => (ix (Ak (Ak p0 p1 x1) p3 x2) x5).bind fun x21 => (ix (Ak (Ak (Ak p0 p1 x1) p3 x2) x5 x19) x10).bind fun x22 => (Ac (BM p1) ((Ak (Ak (Ak (Ak p0 p1 x1) p3 x2) x5 x19) x10 x20),Ae (x5 + 1),Ae (x10 - 1))).bind fun (x23,x24) => (ix x23 p1).bind fun x42 => (ix x23 x24).bind fun x43 => (ix x23 x24).bind fun x44 => (ix (Ak x23 x24 x42) p1).bind fun x45 => some (x24,false,(Ak (Ak x23 x24 x42) p1 x43)))
abbrev yK : Cn_ := ⟨[L4,D6,D6,D6],[IP,ID],[],true,fun x => CU x.1 x.2.1 x.2.2.1 x.2.2.2,none⟩
theorem uI : KO (yK) 121 := DY (ct := (.q (.q (.q (.j (.st false ⟨[(10,false,AG)],[],[]⟩) (.b (.l ⟨[(10,false,AG)],[],[]⟩ (.s (.j (.st false ⟨[(43,false,EK)],[],[]⟩) .d .d) .d))) (.j (.st false ⟨[(11,false,AG)],[],[]⟩) (.b (.l ⟨[(11,false,AG)],[],[]⟩ (.s (.j (.st false ⟨[(60,false,EK)],[],[]⟩) .d .d) .d))) (.q (.q (.q (.q (.j (.st false ⟨[(0,false,Hz),(11,false,AG)],[],[0]⟩) (.b (.l ⟨[(0,false,Hz),(10,false,AG),(11,false,AG)],[],[0]⟩ (.b (.j (.st false ⟨[(10,false,AG)],[],[]⟩) (.b (.l ⟨[(10,false,AG)],[],[]⟩ (.s (.j (.st false ⟨[(112,false,EK)],[],[]⟩) .d .d) .d))) (.j (.st false ⟨[(11,false,AG)],[],[]⟩) (.b (.l ⟨[(11,false,AG)],[],[]⟩ (.s (.j (.st false ⟨[(129,false,EK)],[],[]⟩) .d .d) .d))) .d))))) .d))))))))))) Dz (Az Vw Bc) Tryz.func121 (by kernel_rfl) fun x => by kernel_rfl
def CQ (p0 : Int) : Option Int := (FZ (IntKind.u64.wrap p0)).bind fun x1 => (jI (Iy .u64 1 x1) x1).bind fun x2 => some x2
abbrev tA : Cn_ := ⟨[D6],[(.b false,[.d false (.int .u64)])],[],false,fun x => CQ x,none⟩
theorem nX : KO (tA) 140 := DY (ct := .d) Dz (Az uT Bc) Tryz.func140 (by kernel_rfl) fun x => by kernel_rfl
def A4 (p0 : Int) : Int × Int := (JJ .u64 (JJ .u64 (JJ .u64 p0 (Iy .u64 p0 13)) (Kf .u64 (JJ .u64 p0 (Iy .u64 p0 13)) 7)) (Iy .u64 (JJ .u64 (JJ .u64 p0 (Iy .u64 p0 13)) (Kf .u64 (JJ .u64 p0 (Iy .u64 p0 13)) 7)) 17),JJ .u64 (JJ .u64 (JJ .u64 p0 (Iy .u64 p0 13)) (Kf .u64 (JJ .u64 p0 (Iy .u64 p0 13)) 7)) (Iy .u64 (JJ .u64 (JJ .u64 p0 (Iy .u64 p0 13)) (Kf .u64 (JJ .u64 p0 (Iy .u64 p0 13)) 7)) 17))
abbrev yE : Cn_ := ⟨[(.p,[])],[(.b false,[.d false (.int .u64)])],[(true,[.d false (.int .u64)])],false,fun x => some (A4 x),some ⟨fun x => A4 x,fun _ => rfl⟩⟩
theorem oI : KO (yE) 141 := DY (ct := .d) Dz Bc Tryz.func141 (by kernel_rfl) fun x => by kernel_rfl
def BP (p1 : Int) (p2 : Int) (x1 : Int) : (List Int × Int × Int) → Option ((List Int × Int × Int) ⊕ (List Int))
  | (x2,x3,x4) => (if x3 ≤ (Ae ((Ae (p1 + (Ae ((Ae (Int.tdiv (Ae (p2 - p1)) 4)) * 2)))) + 1)) then (if (Ae (p2 - p1)) ≤ (Ae (OR .u64 ((A4 x4).1) (IntKind.u64.wrap (x1 - 1)))) then some (Ae ((Ae (OR .u64 ((A4 x4).1) (IntKind.u64.wrap (x1 - 1)))) - (Ae (p2 - p1)))) else some (Ae (OR .u64 ((A4 x4).1) (IntKind.u64.wrap (x1 - 1))))).bind fun x5 => (ix x2 (Ae (p1 + x5))).bind fun x6 => (ix x2 x3).bind fun x7 => (ix x2 x3).bind fun x8 => (ix (Ak x2 x3 x6) (Ae (p1 + x5))).bind fun x9 => some (.inl ((Ak (Ak x2 x3 x6) (Ae (p1 + x5)) x7),Ae (x3 + 1),(A4 x4).2)) else some (.inr x2))
def BH (p0 : List Int) (p1 : Int) (p2 : Int) : Option (List Int) := (if 8 ≤ (Ae (p2 - p1)) then (CQ (Ae (p2 - p1))).bind fun x1 => Ac (BP p1 p2 x1) (p0,Ae ((Ae (p1 + (Ae ((Ae (Int.tdiv (Ae (p2 - p1)) 4)) * 2)))) - 1),IntKind.u64.wrap (Ae (p2 - p1))) else some p0)
abbrev vF : Cn_ := ⟨[L4,D6,D6],[],[],true,fun x => BH x.1 x.2.1 x.2.2,none⟩
theorem y9 : KO (vF) 115 := DY (ct := (.q (.q (.c (.q (.q (.q (.b (.l ⟨[(0,false,Hz),(9,false,AG)],[(0,[some (.d false (.int .u64))])],[0]⟩ (.q (.s (.b (.q (.j (.st false ⟨[(10,false,AG)],[],[]⟩) .d .d))) .d))))))) .d)))) Dz (Az nX (Az oI Bc)) Tryz.func115 (by kernel_rfl) fun x => by kernel_rfl
def Am (fRec : (List Int) → Int → Int → Int → Option (List Int)) : (List Int × Int × Int × Int × Bool × Bool) → Option ((List Int × Int × Int × Int × Bool × Bool) ⊕ (List Int))
  | (x1,x2,x3,x4,x5,x6) => (if (Ae (x3 - x2)) ≤ 12 then (Ch x1 x2 x3).bind fun x7 => some (.inr x7) else (if x4 = 0 then (C1 x1 x2 x3).bind fun x8 => some (.inr x8) else (if (!x5) = true then (BH x1 x2 x3).bind fun x11 => some (x11,Ae (x4 - 1)) else some (x1,x4)).bind fun (x9,x10) => (Cy x9 x2 x3).bind fun x12 => (if x12.2 = 2 then (BN x9 x2 x3).bind fun x16 => some (x16,Ae ((Ae (x3 - 1)) - (Ae (x12.1 - x2))),1) else some (x9,x12.1,x12.2)).bind fun (x13,x14,x15) => Hc (if (x5 && (x6 && decide (x15 = 1))) = true then (A9 x13 x2 x3).bind fun x18 => (if x18.1 = true then some (.inr (.inr x18.2)) else some (.inl x18.2)) else some (.inl x13)) fun x17 => (if 0 < x2 then (ix x17 (Ae (x2 - 1))).bind fun x20 => (ix x17 x14).bind fun x21 => some (!(Bz x20 x21)) else some false).bind fun x19 => (if x19 = true then (Cd x17 x2 x3 x14).bind fun x22 => some (.inl (x22.2,x22.1,x3,x10,(x5 && (x6 || true)),(bif x5 then x6 else x6))) else (CU x17 x2 x3 x14).bind fun x23 => (if (Ae (x23.1 - x2)) < (Ae (x3 - x23.1)) then (fRec x23.2.2 x2 x23.1 x10).bind fun x24 => some (.inl (x24,Ae (x23.1 + 1),x3,x10,decide ((Ae (Int.tdiv (Ae (x3 - x2)) 8)) ≤ (Ae (x23.1 - x2))),x23.2.1)) else (fRec x23.2.2 (Ae (x23.1 + 1)) x3 x10).bind fun x25 => some (.inl (x25,x2,x23.1,x10,decide ((Ae (Int.tdiv (Ae (x3 - x2)) 8)) ≤ (Ae (x3 - x23.1))),x23.2.1))))))
def Dn (fRec : (List Int) → Int → Int → Int → Option (List Int)) (p0 : List Int) (p1 : Int) (p2 : Int) (p3 : Int) : Option (List Int) := Ac (Am fRec) (p0,p1,p2,p3,true,true)
def AW : Nat → (List Int) → Int → Int → Int → Option (List Int)
  | 0 => fun _ _ _ _ => none
  | n + 1 => Dn (AW n)
def DU (p0 : List Int) (p1 : Int) (p2 : Int) (p3 : Int) : Option (List Int) := GY fun n => AW n p0 p1 p2 p3
def Ec (fRec : (List Int) → Int → Int → Int → Option (List Int)) : (List Int × Int × Int × Int × Bool × Bool) → Option ((List Int × Int × Int × Int × Bool × Bool) ⊕ (List Int))
  | (x1,x2,x3,x4,x5,x6) => (if (Ae (x3 - x2)) ≤ 12 then (Ch x1 x2 x3).bind fun x7 => some (.inr x7) else (if x4 = 0 then (C1 x1 x2 x3).bind fun x8 => some (.inr x8) else (if (!x5) = true then (BH x1 x2 x3).bind fun x11 => some (x11,Ae (x4 - 1)) else some (x1,x4)).bind fun (x9,x10) => (Cy x9 x2 x3).bind fun x12 => (if x12.2 = 2 then (BN x9 x2 x3).bind fun x16 => some (x16,Ae ((Ae (x3 - 1)) - (Ae (x12.1 - x2))),1) else some (x9,x12.1,x12.2)).bind fun (x13,x14,x15) => Hc (if (x5 && (x6 && decide (x15 = 1))) = true then (A9 x13 x2 x3).bind fun x18 => (if x18.1 = true then some (.inr (.inr x18.2)) else some (.inl x18.2)) else some (.inl x13)) fun x17 => (if 0 < x2 then (ix x17 (Ae (x2 - 1))).bind fun x20 => (ix x17 x14).bind fun x21 => some (!(Bz x20 x21)) else some false).bind fun x19 => (if x19 = true then (Cd x17 x2 x3 x14).bind fun x22 => some (.inl (x22.2,x22.1,x3,x10,x5,x6)) else (CU x17 x2 x3 x14).bind fun x23 => (if (Ae (x23.1 - x2)) < (Ae (x3 - x23.1)) then (fRec x23.2.2 x2 x23.1 x10).bind fun x24 => some (.inl (x24,Ae (x23.1 + 1),x3,x10,decide ((Ae (Int.tdiv (Ae (x3 - x2)) 8)) ≤ (Ae (x23.1 - x2))),x23.2.1)) else (fRec x23.2.2 (Ae (x23.1 + 1)) x3 x10).bind fun x25 => some (.inl (x25,x2,x23.1,x10,decide ((Ae (Int.tdiv (Ae (x3 - x2)) 8)) ≤ (Ae (x3 - x23.1))),x23.2.1))))))
theorem HN : @Ec = @Am := by
 unfold Ec Am
 simp only [Bool.or_true,Bool.and_true,Bool.cond_self]
def FE (fRec : (List Int) → Int → Int → Int → Option (List Int)) (p0 : List Int) (p1 : Int) (p2 : Int) (p3 : Int) : Option (List Int) := Ac (Ec fRec) (p0,p1,p2,p3,true,true)
theorem HT : @FE = @Dn := by
 unfold FE Dn
 simp only [HN]
theorem k92 : KO (K92 fun x => DU x.1 x.2.1 x.2.2.1 x.2.2.2) 92 := Q7 (E := te) (xs := eA) (ys := j8) (bs := []) (io := true) (nn := fun n x => AW n x.1 x.2.1 x.2.2.1 x.2.2.2) (st := fun g x => Dn (fun yp0 yp1 yp2 yp3 => g (yp0,yp1,yp2,yp3)) x.1 x.2.1 x.2.2.1 x.2.2.2) Tryz.func92 rfl (by kernel_rfl) (fun _ => rfl) (fun _ => rfl) fun g hg => DY (ct := (.q (.q (.b (.l ⟨[(0,false,Hz),(1,false,AG),(2,false,AG),(3,false,AG),(8,false,EK),(9,false,EK)],[],[0]⟩ (.b (.q (.q (.q (.j (.st false ⟨[(0,false,Hz),(3,false,AG)],[],[0]⟩) .d (.q (.j (.st false ⟨[(0,false,Hz),(11,false,AG),(12,false,AG)],[],[0]⟩) .d (.j (.st true ⟨[(0,false,Hz)],[],[0]⟩) (.j (.bl [68]) .d .d) (.s (.j (.st false ⟨[(87,false,EK)],[],[]⟩) .d .d) .d)))))))))))))) Dz (Az hg (Az Vw (Az yA (Az wS (Az tT (Az wC (Az tX (Az sX (Az uI (Az y9 Bc)))))))))) Tryz.func92 (by kernel_rfl) fun x => by rw [← HT]; kernel_rfl
def DH (p0 : List Int) : Option (List Int) := (FZ (IntKind.u64.wrap (p0.length : Int))).bind fun x1 => (DU p0 0 (p0.length : Int) x1).bind fun x2 => some x2
abbrev K56 : Cn_ := ⟨[L4],[],[],true,fun x => DH x,none⟩
theorem k56 : KO (K56) 56 := DY (ct := .d) Dz (Az uT (Az k92 Bc)) Tryz.func56 (by kernel_rfl) fun x => by kernel_rfl
def B7 (p0 : List Int) (x1 : Int) : (List Int × Int × Int) → Option ((List Int × Int × Int) ⊕ (List Int × Int))
  | (x7,x8,x9) => (I0 x7 x1 (p0.length : Int)).bind fun x10 => (if x9 < (x10.length : Int) then ((ix x10 x9).bind fun x13 => (ix x10 (Ae (x9 - 1))).bind fun x14 => (if x13 ≠ x14 then (ix x10 x9).bind fun x15 => (ix x7 x8).bind fun x16 => some ((Ak x7 x8 x15),Ae (x8 + 1)) else some (x7,x8))).bind fun (x11,x12) => some (.inl (x11,x12,Ae (x9 + 1))) else some (.inr (x7,x8)))
def BF (p0 : List Int) : Int → Option (Int ⊕ (Unit ⊕ (List Int)))
  | x1 => (if x1 < (p0.length : Int) then Hc ((ix p0 x1).bind fun x2 => (ix p0 (Ae (x1 - 1))).bind fun x3 => (if x2 = x3 then (I0 p0 x1 (p0.length : Int)).bind fun x4 => (Ac (B7 p0 x1) (p0,x1,1)).bind fun (x5,x6) => (I0 x5 x6 (x5.length : Int)).bind fun x17 => (nN x5 x6 (List.replicate (x17.length) (0 : Int))).bind fun x18 => (I0 x18 0 x6).bind fun x19 => some (.inr (.inr (.inr x19))) else some (.inl ()))) fun _ => some (.inl (Ae (x1 + 1))) else some (.inr (.inl ())))
def Ca (p0 : List Int) : Option (List Int) := (if (p0.length : Int) < 2 then some p0 else Hc (Ac (BF p0) 1) fun _ => some p0)
theorem Ji (Y : Nat → Prop) (X : List Nat) (w0 : World) (v1 : Value) (p0 : List Int) (r : List Int) (H : Ca p0 = some r) (hG : Gk X w0) (hL : Stw ⟨Y,X,w0⟩ [] [row v1 3 ri p0] w0) :
    ca_ 57 #[v1] w0 fun e w' => ∃ x : Value,e = .returned (x) ∧ Stw ⟨Y,X,w0⟩ [] [row (x) 3 ri r] w' := by
 refine enter Tryz.func57 Aa Tryz.ntmps57 Aa fun a F => ?_
 have W := hL
 unfold Ca at H
 refine vc tk 9 F W fun a w F W => ?_
 refine ls F W Aa (IW (r := ri) (l := p0) eE Aa F Aa (DT 0 Aa)).q fun a w F W => ?_
 refine KC tk 3 F W fun a w F W => ?_
 refine J2 F Aa H (fun F H => ?_) fun F H => ?_
 ·
  refine vc tk 6 F W fun a w F W => ?_
  refine Dx (Ej ?_)
  have H := FU H
  subst H
  refine EL (.inl Aa) F W Aa (DR F Aa) ?_
  exact ⟨(v1),Aa,W⟩
 refine FP (Ax ?_)
 obtain ⟨o1,G1,K1,L1⟩ := nM H
 refine Fw (fun a w => some (Sum.inl ()) = some o1 ∧ Fr 61 [] [(0,v1),(2,.slice none 0 0)] a ∧ Stw ⟨Y,X,w0⟩ [] [row v1 3 ri p0] w) ?_ ?_
 ·
  have H := G1
  refine vc tk 6 F W fun a w F W => ?_
  refine Ip H (fun s a w => Fr 61 [] [(0,v1),(2,.slice none 0 0),(3,Jint s)] a ∧ Stw ⟨Y,X,w0⟩ [] [row v1 3 ri p0] w) ⟨F.ra Aa,W⟩ fun s o a w H L2 hR => ?_
  obtain ⟨x1,rfl⟩ : ∃ x,x = s := ⟨s,rfl⟩
  obtain ⟨F,W⟩ := hR
  have F : Fr 61 [] [(0,v1),(2,.slice none 0 0),(3,Jint x1)] a := F
  have W : Stw ⟨Y,X,w0⟩ [] [row v1 3 ri p0] w := W
  rw [BF] at H
  refine vc tk 5 F W fun a w F W => ?_
  refine ls F W Aa (IW (r := ri) (l := p0) eE Aa F Aa (DT 0 Aa)).q fun a w F W => ?_
  refine KC tk 3 F W fun a w F W => ?_
  refine J2 F Aa H (fun F H => ?_) fun F H => ?_
  ·
   refine FP (Ax ?_)
   obtain ⟨o3,G3,K3,L3⟩ := nM H
   refine Fw (fun a w => some (Sum.inl ()) = some o3 ∧ Fr 61 [] [(0,v1),(2,.slice none 0 0),(3,Jint x1)] a ∧ Stw ⟨Y,X,w0⟩ [] [row v1 3 ri p0] w) ?_ ?_
   ·
    have H := G3
    refine vc tk 2 F W fun a w F W => ?_
    refine LJ W MO (by kernel_rfl) ?_
    iterate 2 refine qs F Aa (EN F Aa).q fun a F => ?_
    obtain ⟨x2,h1,H⟩ := Cc H
    refine qs F Aa (F9 (r := ri) ZG F Aa Aa (DT 0 Aa) h1).q fun a F => ?_
    refine qs F Aa (Eg (y := Jint x2) (j := 0) (i := x1) F Aa Aa (DT 0 Aa) h1 Fl.int.to T3 Aa).q fun a F => ?_
    iterate 2 refine qs F Aa (EN F Aa).q fun a F => ?_
    refine qs F Aa (WL F Aa Aa Aa).q fun a F => ?_
    obtain ⟨x3,h2,H⟩ := Cc H
    refine qs F Aa (F9 (r := ri) ZG F Aa Aa (DT 0 Aa) h2).q fun a F => ?_
    refine qs F Aa (Eg (y := Jint x3) (j := 0) (i := Ae (x1 - 1)) F Aa Aa (DT 0 Aa) h2 Fl.int.to T3 Aa).q fun a F => ?_
    refine qs F Aa (Wq F Aa Aa).q fun a F => ?_
    refine GB fun w W => ?_
    refine Ax ?_
    refine J2 F Aa H (fun F H => ?_) fun F H => ?_
    ·
     refine vc tk 4 F W fun a w F W => ?_
     obtain ⟨x4,h3,H⟩ := Cc H
     refine ls F W Aa (Pn (r := ri) ZG F Aa Aa Aa (DT 0 Aa) h3).q fun a w F W => ?_
     refine vl tk 2 F W fun a w F W => ?_
     refine Ax ?_
     obtain ⟨o4,G4,K4⟩ := Cc H
     refine Fw (fun a w => ∃ x5 : List Int, ∃ x6 : Int,some ((x5,x6)) = some o4 ∧ Fr 61 [] [(0,v1),(2,.slice none 0 0),(3,Jint x6)] a ∧ Stw ⟨Y,X,w0⟩ [] [row v1 3 ri x5] w) ?_ ?_
     ·
      have H := G4
      refine vc tk 6 F W fun a w F W => ?_
      refine Ip H (fun s a w => Fr 61 [] [(0,v1),(2,.slice none 0 0),(3,Jint s.2.1),(4,(Ey v1 x1 (p0.length : Int) 1)),(5,Jint s.2.2)] a ∧ Stw ⟨Y,X,w0⟩ [] [row v1 3 ri s.1] w) ⟨F.ra Aa,W⟩ fun s o a w H L5 hR => ?_
      obtain ⟨x7,x8,x9⟩ := s
      obtain ⟨F,W⟩ := hR
      have F : Fr 61 [] [(0,v1),(2,.slice none 0 0),(3,Jint x8),(4,(Ey v1 x1 (p0.length : Int) 1)),(5,Jint x9)] a := F
      have W : Stw ⟨Y,X,w0⟩ [] [row v1 3 ri x7] w := W
      rw [B7] at H
      refine vc tk 5 F W fun a w F W => ?_
      obtain ⟨x10,h4,H⟩ := Cc H
      refine ls F W Aa (IW (r := ri) (l := x10) eE Aa F Aa (Kq (DT 0 Aa) h4)).q fun a w F W => ?_
      refine KC tk 3 F W fun a w F W => ?_
      refine J2 F Aa H (fun F H => ?_) fun F H => ?_
      ·
       refine FP (Ax ?_)
       obtain ⟨o6,G6,K6⟩ := Cc H
       refine Fw (fun a w => ∃ x11 : List Int, ∃ x12 : Int,some ((x11,x12)) = some o6 ∧ Fr 61 [] [(0,v1),(2,.slice none 0 0),(3,Jint x12),(4,(Ey v1 x1 (p0.length : Int) 1)),(5,Jint x9)] a ∧ Stw ⟨Y,X,w0⟩ [] [row v1 3 ri x11] w) ?_ ?_
       ·
        have H := G6
        refine vc tk 2 F W fun a w F W => ?_
        refine LJ W MO (by kernel_rfl) ?_
        iterate 2 refine qs F Aa (EN F Aa).q fun a F => ?_
        obtain ⟨x13,h5,H⟩ := Cc H
        refine qs F Aa (F9 (r := ri) ZG F Aa Aa (Kq (DT 0 Aa) h4) h5).q fun a F => ?_
        refine qs F Aa (Eg (y := Jint x13) (j := 0) (i := x9) F Aa Aa (Kq (DT 0 Aa) h4) h5 Fl.int.to T3 Aa).q fun a F => ?_
        iterate 2 refine qs F Aa (EN F Aa).q fun a F => ?_
        refine qs F Aa (WL F Aa Aa Aa).q fun a F => ?_
        obtain ⟨x14,h6,H⟩ := Cc H
        refine qs F Aa (F9 (r := ri) ZG F Aa Aa (Kq (DT 0 Aa) h4) h6).q fun a F => ?_
        refine qs F Aa (Eg (y := Jint x14) (j := 0) (i := Ae (x9 - 1)) F Aa Aa (Kq (DT 0 Aa) h4) h6 Fl.int.to T3 Aa).q fun a F => ?_
        refine qs F Aa (Y8 F Aa Aa).q fun a F => ?_
        refine GB fun w W => ?_
        refine Ax ?_
        refine J2 F Aa H (fun F H => ?_) fun F H => ?_
        ·
         refine vc tk 6 F W fun a w F W => ?_
         obtain ⟨x15,h7,H⟩ := Cc H
         refine ls F W Aa (F9 (r := ri) ZG F Aa Aa (Kq (DT 0 Aa) h4) h7).q fun a w F W => ?_
         refine ls F W Aa (Eg (y := Jint x15) (j := 0) (i := x9) F Aa Aa (Kq (DT 0 Aa) h4) h7 Fl.int.to T3 Aa).q fun a w F W => ?_
         obtain ⟨x16,h8,H⟩ := Cc H
         refine ls F W Aa (F9 (r := ri) ZG F Aa Aa (DT 0 Aa) h8).q fun a w F W => ?_
         refine Pv (i := x8) (j := 0) (vs := [Jint x15]) (x' := x15) F W Aa Aa Aa (k := 0) Aa Aa h8 T3 Aa Aa Aa Aa (fun A cs _ => Fl.int.sto (by rfl) _ _ _) fun w W => ?_
         refine KC tk 7 F W fun a w F W => ?_
         refine EY (Ax ?_)
         exact ⟨_,_,H,F.ra Aa,W⟩
        refine FP (EY (Ax ?_))
        exact ⟨_,_,H,F.ra Aa,W⟩
       rintro a w ⟨x11,x12,hj,F,W⟩
       have hj := FU hj
       subst hj
       have H := K6
       refine vc tk 5 F W fun a w F W => ?_
       refine Ax ?_
       exact ⟨_,H,F.ra Aa,W⟩
      refine G9 ?_
      iterate 2 refine Jp ?_
      refine GH (Ax ?_)
      have H := L5 _ H
      exact ⟨_,_,H,F.ra Aa,W⟩
     rintro a w ⟨x5,x6,hj,F,W⟩
     have hj := FU hj
     subst hj
     have H := K4
     refine vc tk 4 F W fun a w F W => ?_
     obtain ⟨x17,h9,H⟩ := Cc H
     refine ls F W Aa (Pn (r := ri) ZG F Aa Aa Aa (DT 0 Aa) h9).q fun a w F W => ?_
     obtain ⟨x18,h10,H⟩ := Cc H
     refine eF (r := ri) (v := v1) (k := 0) (0 : Int) F W ZG Z3 Aa Aa Aa h9 (fun w A => Fl.int.mk' w A (0 : Int)) h10 fun w W => ?_
     have W : Stw ⟨Y,X,w0⟩ [] [row v1 3 ri x18] w := W
     refine KC tk 6 F W fun a w F W => ?_
     obtain ⟨x19,h11,H⟩ := Cc H
     refine ls F W Aa (Pn (r := ri) ZG F Aa Aa Aa (DT 0 Aa) h11).q fun a w F W => ?_
     refine KC tk 3 F W fun a w F W => ?_
     refine Dx (FR ?_)
     iterate 2 refine Ej ?_
     refine FR (Ej ?_)
     have H := L3 _ H
     have H := L2 _ H
     have H := L1 _ H
     have H := FU H
     subst H
     refine EL (.inl Aa) F W Aa (DR F Aa) ?_
     have W := W.subRow (k := 0) Aa Aa h11
     exact ⟨((Ey v1 (0 : Int) x6 1)),Aa,W⟩
    refine FP (EY (Ax ?_))
    exact ⟨H,F.ra Aa,W⟩
   rintro a w ⟨hj,F,W⟩
   have H := K3 _ hj
   refine vc tk 5 F W fun a w F W => ?_
   refine Ax ?_
   exact ⟨_,H,F.ra Aa,W⟩
  refine G9 ?_
  iterate 2 refine Jp ?_
  refine GH (Ax ?_)
  have H := L2 _ H
  exact ⟨H,F.ra Aa,W⟩
 rintro a w ⟨hj,F,W⟩
 have H := K1 _ hj
 refine vc tk 6 F W fun a w F W => ?_
 refine Dx ?_
 have H := FU H
 subst H
 refine EL (.inl Aa) F W Aa (DR F Aa) ?_
 exact ⟨(v1),Aa,W⟩
abbrev K57 : Cn_ := ⟨xS,tZ,[],false,fun x => Ca x,none⟩
theorem zE : KO K57 57 := KO.ofL ⟨fun args w => Br Tryz.func57 rfl (by decide) args w⟩ rfl (fun _ => rfl) (fun _ => rfl) (fun _ => rfl) (fun _ => rfl) (fun _ => rfl) fun Y X w0 x r g H hg W hk => (Ji Y X w0 g.1 x r H hk W).mono fun e w' ⟨x,he,W⟩ => ⟨(x,()),he,W,fun h => nomatch h⟩
def Hs (p0 : Tr36) (p1 : Int) : Option (List Int) := (H1 p0 p1).bind fun x1 => (DH x1).bind fun x2 => (Ca x2).bind fun x3 => some x3
def Nq (p0 : Tr36) (p1 : Int) : Option (List Int) := (H1 (f36 p0) p1).bind fun x1 => (DH x1).bind fun x2 => (Ca x2).bind fun x3 => some x3
theorem Rt : @Nq = @Hs := by
 unfold Nq Hs
 simp only [Tr36.re_eq]
abbrev K28 : Cn_ := ⟨[Ll,D6],[L4],[],false,fun x => Hs x.1 x.2,none⟩
theorem k28 : KO (K28) 28 := DY (ct := .d) Dz (Az k55 (Az k56 (Az zE Bc))) Tryz.func28 (by kernel_rfl) fun x => by rw [← Rt]; kernel_rfl
def Di (fRec : Tr39 → Int → Option (List Int)) (p0 : Tr39) (p1 : Int) : (List Int × Int) → Option ((List Int × Int) ⊕ (List Int))
  | (x5,x6) => (if x6 < (p0.un.2.2.2.2.length : Int) then (ix p0.un.2.2.2.2 x6).bind fun x7 => (fRec (Tr39.of (x7.un.1,f36 x7.un.2.1,x7.un.2.2.1,x7.un.2.2.2.1,x7.un.2.2.2.2)) p1).bind fun x8 => (Fy x5 x8).bind fun x9 => some (.inl (x9,Ae (x6 + 1))) else some (.inr x5))
def EF (fRec : Tr39 → Int → Option (List Int)) (p0 : Tr39) (p1 : Int) : Option (List Int) := (Hs (f36 p0.un.2.1) p1).bind fun x1 => (if (decide (p0.un.1 = 2) && decide (p0.un.2.2.1 = p1)) = true then (Fy x1 ([p0.un.2.2.2.1] : List Int)).bind fun x3 => some x3 else some x1).bind fun x2 => (Ac (Di fRec p0 p1) (x2,0)).bind fun x4 => some x4
def DA : Nat → Tr39 → Int → Option (List Int)
  | 0 => fun _ _ => none
  | n + 1 => EF (DA n)
def KQ (p0 : Tr39) (p1 : Int) : Option (List Int) := GY fun n => DA n p0 p1
theorem k66 : KO (K66 fun x => KQ x.1 x.2) 66 := Q7 (E := te) (xs := f6) (ys := lT) (bs := []) (io := false) (nn := fun n x => DA n x.1 x.2) (st := fun g x => EF (fun yp0 yp1 => g (yp0,yp1)) x.1 x.2) Tryz.func66 rfl (by kernel_rfl) (fun _ => rfl) (fun _ => rfl) fun g hg => DY (ct := (.q (.q (.j (.st false ⟨[(5,false,Hz)],[],[]⟩) (.j (.bl [20]) .d .d) (.j (.st false ⟨[(5,false,Hz)],[],[]⟩) (.q (.b (.l ⟨[(5,false,Hz),(29,false,AG)],[],[]⟩ .d))) .d))))) Dz (Az hg (Az k28 Bc)) Tryz.func66 (by kernel_rfl) fun x => by kernel_rfl
def Fg (p0 : Tr39) (p1 : Int) : Option (List Int) := (KQ (Tr39.of (p0.un.1,f36 p0.un.2.1,p0.un.2.2.1,p0.un.2.2.2.1,p0.un.2.2.2.2)) p1).bind fun x1 => (DH x1).bind fun x2 => (Ca x2).bind fun x3 => some x3
abbrev K32 : Cn_ := ⟨[RG,D6],[L4],[],false,fun x => Fg x.1 x.2,none⟩
theorem wL : KO (K32) 32 := DY (ct := .d) Dz (Az k56 (Az zE (Az k66 Bc))) Tryz.func32 (by kernel_rfl) fun x => by kernel_rfl
def Gv (p0 : Tr39) : (Int × Int) → Option ((Int × Int) ⊕ Int)
  | (x2,x3) => (if x3 ≤ 4 then (Fg (Tr39.of (p0.un.1,f36 p0.un.2.1,p0.un.2.2.1,p0.un.2.2.2.1,p0.un.2.2.2.2)) x3).bind fun x4 => some (.inl (min (Ae (x2 * (Ae ((x4.length : Int) + 1)))) 100000,Ae (x3 + 1))) else some (.inr x2))
def EU (p0 : Tr39) : Option Int := (Ac (Gv p0) (1,0)).bind fun x1 => some x1
abbrev K14 : Cn_ := ⟨[RG],[IP],[],false,fun x => EU x,none⟩
theorem yX : KO (K14) 14 := DY (ct := (.q (.q (.j (.st false ⟨[(3,false,AG)],[],[]⟩) (.q (.b (.l ⟨[(3,false,AG),(4,false,AG)],[],[]⟩ .d))) .d)))) Dz (Az wL Bc) Tryz.func14 (by kernel_rfl) fun x => by kernel_rfl
theorem vT : type_of% Tryz.underlying22 := Tryz.underlying22
theorem vV : type_of% Tryz.underlying23 := Tryz.underlying23
theorem iS : type_of% Tryz.underlying115 := Tryz.underlying115
abbrev J0 (x : Int × Int) : Value := .agg #[Jint x.1,Jint x.2]
abbrev Kz (x : Unit) : Value := .agg #[]
theorem wR : (Tryz.prog.info? 118).bind (·.zero) = some (.agg #[Jint 0,Jint 0]) := by kernel_rfl
def xA (a : Int × Int) : List Value := [Jint a.1,Jint a.2]
theorem u9 : Fl QT xA := (Fl.pair Fl.int Fl.int)
theorem xU : Et Tryz.prog 115 118 2 16 := Et.of iS (by kernel_rfl) (by kernel_rfl) (by kernel_rfl) (by decide)
def Gr (p0 : Int × (List (Int × Int × Int × Int × Int × Int)) × (List (Int × Int))) : ((List (Int × Int)) × Int) → Option (((List (Int × Int)) × Int) ⊕ (List (Int × Int)))
  | (x2,x3) => (if x3 < (p0.2.1.length : Int) then (ix p0.2.1 x3).bind fun x4 => (Fy x2 ([(x4.1,x4.2.1),(x4.2.2.1,x4.2.2.2.1)] : List (Int × Int))).bind fun x5 => some (.inl (x5,Ae (x3 + 1))) else some (.inr x2))
def Gj (p0 : Int × (List (Int × Int × Int × Int × Int × Int)) × (List (Int × Int))) : ((List (Int × Int)) × Int) → Option (((List (Int × Int)) × Int) ⊕ (List (Int × Int)))
  | (x7,x8) => (if x8 < (p0.2.2.length : Int) then (ix p0.2.2 x8).bind fun x9 => (Fy x7 ([x9] : List (Int × Int))).bind fun x10 => some (.inl (x10,Ae (x8 + 1))) else some (.inr x7))
def H5 (p0 : Int × (List (Int × Int × Int × Int × Int × Int)) × (List (Int × Int))) : Option (List (Int × Int)) := (Ac (Gr p0) ([],0)).bind fun x1 => (Ac (Gj p0) (x1,0)).bind fun x6 => some x6
abbrev K73 : Cn_ := ⟨[(.b true,[.d true ZL])],[(.b false,[.o 118 (.pr Ht Ht)])],[],false,fun x => H5 x,none⟩
theorem k73 : KO (K73) 73 := DY (ct := (.q (.q (.j (.st false ⟨[(3,false,[.o 118 (.pr Ht Ht)])],[],[]⟩) (.q (.b (.l ⟨[(3,false,[.o 118 (.pr Ht Ht)]),(11,false,AG)],[],[]⟩ .d))) (.j (.st false ⟨[(3,false,[.o 118 (.pr Ht Ht)])],[],[]⟩) (.q (.b (.l ⟨[(3,false,[.o 118 (.pr Ht Ht)]),(32,false,AG)],[],[]⟩ .d))) .d))))) Dz Bc Tryz.func73 (by kernel_rfl) fun x => by kernel_rfl
theorem RI (Y : Nat → Prop) (w0 : World) (v1 : Value) (v2 : Value) (p0 : Int × (List (Int × Int × Int × Int × Int × Int)) × (List (Int × Int))) (r : (List (Int × Int))) (H : H5 p0 = some r) (h_v1 : Sl w0 (NX []) sO v1 p0.2.1) (h_v2 : Sl w0 (NX []) xC v2 p0.2.2) (hG : Gk [] w0) :
    ca_ 73 #[.agg #[Jint p0.1,v1,v2]] w0 fun e w' => ∃ x : Value,e = .returned (x) ∧ sy Y w0 [] [row (x) 118 QT r] w' := by
 refine (k73.out (Y := Y) (X := []) (x := p0) (r := r) H Aa Aa Aa Aa Aa (v1,(v2,())) ⟨h_v1,⟨h_v2,trivial⟩⟩ (Stw.start Y w0) hG).mono ?_
 rintro e w' ⟨⟨a0,u⟩,he,W,hi⟩
 exact ⟨a0,he,W⟩
theorem nK : type_of% Tryz.underlying3 := Tryz.underlying3
theorem oC : type_of% Tryz.underlying119 := Tryz.underlying119
theorem H73 : Has Tryz.prog 73 := JR Tryz.func73
theorem qL : Ty Tryz.prog 118 true 2 := ⟨by kernel_rfl,by kernel_rfl⟩
theorem qU (dd : Nat) (x0 : Int) (x1 : Int) (y0 : Int) (y1 : Int) (w : World) : (Op.equalIn (dd + 2) 118 (.agg #[Jint x0,Jint x1]) (.agg #[Jint y0,Jint y1])).run Tryz.prog w = .ok (decide (x0 = y0 ∧ x1 = y1)) w :=
  Sx (d := dd + 1) (rs := [decide (x0 = y0),decide (x1 = y1)]) WW (by kernel_rfl) ⟨rfl,TC (d := dd + 0) rfl rfl nK T3 rfl rfl,rfl,TC (d := dd + 0) rfl rfl nK T3 rfl rfl,trivial⟩ (by simp) w
theorem tI (x0 : Int) (x1 : Int) (y0 : Int) (y1 : Int) (w : World) : (Op.equalIn 10000 118 (.agg #[Jint x0,Jint x1]) (.agg #[Jint y0,Jint y1])).run Tryz.prog w = .ok (decide (x0 = y0 ∧ x1 = y1)) w := qU 9998 x0 x1 y0 y1 w
theorem iV : KeyEnc Tryz.prog 118 J0 := ⟨⟨_,WW,.inl fun _ _ => rfl⟩,fun x y w => (tI x.1 x.2 y.1 y.2 w).trans (by congr 1; exact decide_eq_decide.2 (by simp only [Prod.ext_iff])),fun b x w => OH (m := 9999) (cs := List.toArray [Jint x.1,Jint x.2]) WW ⟨⟨_,Ul T3 rfl,Nw (m := 9998) nK⟩,⟨_,Ul T3 rfl,Nw (m := 9998) nK⟩,trivial⟩ b w,fun x => by simp [Instr.sameBits]⟩
theorem rF : (Tryz.prog.info? 119).bind (·.zero) = some (.agg #[]) := by kernel_rfl
theorem t6 : Ty Tryz.prog 119 true 0 := ⟨by kernel_rfl,by kernel_rfl⟩
theorem aT : Bt Tryz.prog 119 [] [] := ⟨⟨.agg #[],by kernel_rfl,rfl⟩,⟨_,oC,fun w => by kernel_rfl⟩⟩
def CI (p0 : Int × Int × Int × Int × Int × Int) : Bool := (decide (p0.1 = p0.2.2.1) || (decide (p0.2.2.2.2.1 < 1) || (decide (p0.2.2.2.2.2 < p0.2.2.2.2.1) || decide (1000 < p0.2.2.2.2.2))))
abbrev K74 : Cn_ := ⟨[(.b true,[.d true Yw])],[ID],[],false,fun x => some (CI x),some ⟨fun x => CI x,fun _ => rfl⟩⟩
theorem k74 : KO (K74) 74 := DY (ct := (.q (.j (.bl [2]) .d .d))) Dz Bc Tryz.func74 (by kernel_rfl) fun x => by kernel_rfl
def A1 (p0 : List (Int × Int × Int × Int × Int × Int)) : Int → Option (Int ⊕ (Unit ⊕ Int))
  | x1 => (if x1 < (p0.length : Int) then (ix p0 x1).bind fun x2 => (if (CI x2) = true then some (.inr (.inr x1)) else some (.inl (Ae (x1 + 1)))) else some (.inr (.inl ())))
def Dq (p0 : List (Int × Int × Int × Int × Int × Int)) : Option Int := Hc (Ac (A1 p0) 0) fun _ => some (-1)
abbrev K80 : Cn_ := ⟨[(.b false,[.d true (.sl Yw)]),(.b false,[.d true (.fn 74)])],[IP],[],false,fun x => Dq x.1,none⟩
theorem k80 : KO (K80) 80 := DY (ct := (.q (.j (.st true ⟨[],[],[]⟩) (.q (.b (.l ⟨[(8,false,AG)],[],[]⟩ .d))) .d))) Dz (Az k74 Bc) Tryz.func80 (by kernel_rfl) fun x => by kernel_rfl
def BB (p0 : List (Int × Int × Int × Int × Int × Int)) : Option Bool := (Dq p0).bind fun x1 => some (decide (0 ≤ x1))
abbrev K39 : Cn_ := ⟨[(.b false,[.d true (.sl Yw)]),(.b false,[.d true (.fn 74)])],[ID],[],false,fun x => BB x.1,none⟩
theorem k39 : KO (K39) 39 := DY (ct := .d) Dz (Az k80 Bc) Tryz.func39 (by kernel_rfl) fun x => by kernel_rfl
theorem Ga (Y : Nat → Prop) (w0 : World) (v1 : Value) (p0 : List (Int × Int × Int × Int × Int × Int)) (r : Bool) (H : BB p0 = some r) (h_v1 : Sl w0 (NX []) sO v1 p0) (hG : Gk [] w0) :
    ca_ 39 #[v1,.func (.func 74) #[] #[]] w0 fun e w' => e = .returned (.bool r) ∧ Below w0.heap.size w0 w' := k39.outP (Y := Y) (x := (p0,())) H rfl rfl rfl rfl rfl (v1,()) ⟨h_v1,trivial⟩ rfl hG fun _ => rfl
theorem iJ : type_of% Tryz.underlying114 := Tryz.underlying114
theorem H39 : Has Tryz.prog 39 := JR Tryz.func39
def D8 (p0 : Int × (List (Int × Int × Int × Int × Int × Int)) × (List (Int × Int))) (x2 : (List (Int × Int))) : (Int × (List ((Int × Int) × Unit))) → Option ((Int × (List ((Int × Int) × Unit))) ⊕ ((List ((Int × Int) × Unit)) ⊕ Bool))
  | (x3,x4) => (if x3 < (x2.length : Int) then (ix x2 x3).bind fun x5 => (if (decide (x5.1 < 0) || (decide (p0.1 ≤ x5.1) || (decide (x5.2 < 0) || decide (8 ≤ x5.2)))) = true then some (.inr (.inr false)) else (if ((O1 x4 x5).isSome) = true then some (.inr (.inr false)) else some (.inl (Ae (x3 + 1),KD x4 x5 ())))) else some (.inr (.inl x4)))
def HL (p0 : Int × (List (Int × Int × Int × Int × Int × Int)) × (List (Int × Int))) : Option Bool := (if (decide (p0.1 < 1) || (decide (8 < p0.1) || (decide (24 < (p0.2.1.length : Int)) || decide (8 < (p0.2.2.length : Int))))) = true then some false else Hc ((H5 p0).bind fun x2 => Ac (D8 p0 x2) (0,([] : List ((Int × Int) × Unit)))) fun x1 => (BB p0.2.1).bind fun x6 => some (!x6))
theorem Th (Y : Nat → Prop) (w0 : World) (v1 : Value) (v2 : Value) (p0 : Int × (List (Int × Int × Int × Int × Int × Int)) × (List (Int × Int))) (r : Bool) (H : HL p0 = some r) (h_v1 : Sl w0 (NX []) sO v1 p0.2.1) (h_v2 : Sl w0 (NX []) xC v2 p0.2.2) (hG : Gk [] w0) :
    ca_ 35 #[.agg #[Jint p0.1,v1,v2]] w0 fun e w' => e = .returned (.bool r) ∧ Below w0.heap.size w0 w' := by
 refine enter Tryz.func35 Aa Tryz.ntmps35 Aa fun a F => ?_
 have W := Stw.start Y w0
 unfold HL at H
 refine vc tk 2 F W fun a w F W => ?_
 refine JK (cs := [Jint p0.1,v1,v2]) F W Aa Aa Aa fun b1 a w F W => ?_
 refine KC tk 4 F W fun a w F W => ?_
 refine Fw (fun a w => Fr 71 [] [(1,pp b1),(2,.bool false),(27,.bool (decide (p0.1 < 1) || (decide (8 < p0.1) || (decide (24 < (p0.2.1.length : Int)) || decide (8 < (p0.2.2.length : Int))))))] a ∧ sy Y w0 [(b1,[Jint p0.1,v1,v2])] [] w) ?_ ?_
 ·
  refine TR tk 5 [0] F W (ai fun a w F W => ?_)
  rcases bxq (decide (p0.1 < 1)) with hb0 | hb0
  ·
   rw [hb0] at F
   refine vl tk 17 F W fun a w F W => ?_
   refine Ax ?_
   exact ⟨F.re ⟨rfl,Aa,(Jr (by try rw [hb0]; all_goals simp only [Jz])),trivial⟩,W⟩
  rw [hb0] at F
  refine Oj tk 5 [0] F W (ai fun a w F W => ?_)
  rcases bxq (decide (8 < p0.1)) with hb1 | hb1
  ·
   rw [hb1] at F
   refine vl tk 12 F W fun a w F W => ?_
   refine Ax ?_
   exact ⟨F.re ⟨rfl,Aa,(Jr (by try rw [hb0]; try rw [hb1]; all_goals simp only [Jz])),trivial⟩,W⟩
  rw [hb1] at F
  refine Oj tk 2 [0] F W (ai fun a w F W => ?_)
  refine XY F W (Bw F Aa Aa Aa Aa) Aa (El Aa) (IW (r := sO) (l := p0.2.1) vT Aa F Aa (Cx h_v1)).q fun a w F W => ?_
  refine vl tk 3 F W fun a w F W => ?_
  rcases bxq (decide (24 < (p0.2.1.length : Int))) with hb2 | hb2
  ·
   rw [hb2] at F
   refine vl tk 6 F W fun a w F W => ?_
   refine Ax ?_
   exact ⟨F.re ⟨rfl,Aa,(Jr (by try rw [hb2]; try rw [hb0]; try rw [hb1]; all_goals simp only [Jz])),trivial⟩,W⟩
  rw [hb2] at F
  refine Oj tk 2 [0] F W (ai fun a w F W => ?_)
  refine XY F W (Bw F Aa Aa Aa Aa) Aa (El Aa) (IW (r := xC) (l := p0.2.2) vV Aa F Aa (Cx h_v2)).q fun a w F W => ?_
  refine vl tk 3 F W fun a w F W => ?_
  refine Ax ?_
  exact ⟨F.re ⟨rfl,Aa,(Jr (by try rw [hb2]; try rw [hb0]; try rw [hb1]; all_goals simp only [Jz])),trivial⟩,W⟩
 rintro a w ⟨F,W⟩
 refine Ld F Aa H (fun F H => ?_) fun F H => ?_
 ·
  refine vc tk 5 F W fun a w F W => ?_
  refine Dx (Ej ?_)
  have H := FU H
  subst H
  refine EL (.inl Aa) F W Aa (DR F Aa) ?_
  exact ⟨rfl,W.done⟩
 refine cQ tk 4 F W fun a w F W => ?_
 refine XU J0 Kz F W Aa fun b2 a w F W => ?_
 have W : sy Y w0 [(b1,[Jint p0.1,v1,v2])] [mp b2 J0 Kz ([] : List ((Int × Int) × Unit))] w := W
 refine vl tk 2 F W fun a w F W => ?_
 refine Ax ?_
 obtain ⟨o1,G1,K1,L1⟩ := nM H
 refine Fw (fun a w => ∃ x1 : List ((Int × Int) × Unit),some (Sum.inl x1) = some o1 ∧ Fr 71 [] [(1,pp b1),(2,.bool false)] a ∧ sy Y w0 [(b1,[Jint p0.1,v1,v2])] [mp b2 J0 Kz x1] w) ?_ ?_
 ·
  have H := G1
  refine TR tk 3 [0] F W (ai fun a w F W => ?_)
  obtain ⟨x2,h1,H⟩ := Cc H
  refine GA (Ml := []) (Zl := []) (β := Value) (rv := fun x => x) (MM := fun x => []) (ZZ := fun x => [row x 118 QT x2]) F W H73 Aa Aa (fun hL => RI _ w (v1) (v2) p0 _ h1 ((Cx h_v1) w W).nx ((Cx h_v2) w W).nx (hG.go0 W)) fun x a w F W => ?_
  obtain ⟨v3,rfl⟩ : ∃ y,y = x := ⟨x,rfl⟩
  have W : sy Y w0 [(b1,[Jint p0.1,v1,v2])] [row v3 118 QT x2,mp b2 J0 Kz ([] : List ((Int × Int) × Unit))] w := W
  refine ls F W Aa (IW (r := QT) (l := x2) iS Aa F Aa (DT 0 Aa)).q fun a w F W => ?_
  refine KC tk 4 F W fun a w F W => ?_
  have W := W.frontZ (i := 1) Aa Aa
  have W := W.frontZ (i := 1) Aa Aa
  refine Ip H (fun s a w => Fr 71 [] [(1,pp b1),(2,.bool false),(3,.map (some b2)),(30,v3),(31,Jint (x2.length : Int)),(32,Jint s.1)] a ∧ sy Y w0 [(b1,[Jint p0.1,v1,v2])] [row v3 118 QT x2,mp b2 J0 Kz s.2] w) ⟨F.ra Aa,W⟩ fun s o a w H L2 hR => ?_
  obtain ⟨x3,x4⟩ := s
  obtain ⟨F,W⟩ := hR
  have F : Fr 71 [] [(1,pp b1),(2,.bool false),(3,.map (some b2)),(30,v3),(31,Jint (x2.length : Int)),(32,Jint x3)] a := F
  have W : sy Y w0 [(b1,[Jint p0.1,v1,v2])] [row v3 118 QT x2,mp b2 J0 Kz x4] w := W
  rw [D8] at H
  refine vc tk 6 F W fun a w F W => ?_
  refine J2 F Aa H (fun F H => ?_) fun F H => ?_
  ·
   refine cQ tk 6 F W fun a w F W => ?_
   obtain ⟨x5,h2,H⟩ := Cc H
   refine ls F W Aa (F9 (r := QT) xU F Aa Aa (DT 0 Aa) h2).q fun a w F W => ?_
   refine ls F W Aa (Eg (y := Value.agg #[Jint x5.1,Jint x5.2]) (j := 0) (i := x3) F Aa Aa (DT 0 Aa) h2 u9.to qL Aa).q fun a w F W => ?_
   refine Ha (cs := [Jint 0,Jint 0]) F W Aa wR Aa fun b3 a w F W => ?_
   refine Q9 0 F W Aa Aa Aa qL Aa Aa Aa fun w W => ?_
   refine KC tk 3 F W fun a w F W => ?_
   refine Fw (fun a w => Fr 71 [] [(1,pp b1),(2,.bool false),(3,.map (some b2)),(5,pp b3),(30,v3),(31,Jint (x2.length : Int)),(32,Jint x3),(55,.bool (decide (x5.1 < 0) || (decide (p0.1 ≤ x5.1) || (decide (x5.2 < 0) || decide (8 ≤ x5.2)))))] a ∧ sy Y w0 [(b3,[Jint x5.1,Jint x5.2]),(b1,[Jint p0.1,v1,v2])] [row v3 118 QT x2,mp b2 J0 Kz x4] w) ?_ ?_
   ·
    refine TR tk 5 [0] F W (ai fun a w F W => ?_)
    rcases bxq (decide (x5.1 < 0)) with hb0 | hb0
    ·
     rw [hb0] at F
     refine vl tk 17 F W fun a w F W => ?_
     refine Ax ?_
     exact ⟨F.re ⟨rfl,Aa,Aa,Aa,Aa,Aa,Aa,(Jr (by try rw [hb0]; all_goals simp only [Jz])),trivial⟩,W⟩
    rw [hb0] at F
    refine Oj tk 7 [0,1] F W (ai (ai fun a w F W => ?_))
    rcases bxq (decide (p0.1 ≤ x5.1)) with hb1 | hb1
    ·
     rw [hb1] at F
     refine vl tk 10 F W fun a w F W => ?_
     refine Ax ?_
     exact ⟨F.re ⟨rfl,Aa,Aa,Aa,Aa,Aa,Aa,(Jr (by try rw [hb1]; try rw [hb0]; all_goals simp only [Jz])),trivial⟩,W⟩
    rw [hb1] at F
    refine Oj tk 5 [0] F W (ai fun a w F W => ?_)
    rcases bxq (decide (x5.2 < 0)) with hb2 | hb2
    ·
     rw [hb2] at F
     refine vl tk 5 F W fun a w F W => ?_
     refine Ax ?_
     exact ⟨F.re ⟨rfl,Aa,Aa,Aa,Aa,Aa,Aa,(Jr (by try rw [hb1]; try rw [hb0]; try rw [hb2]; all_goals simp only [Jz])),trivial⟩,W⟩
    rw [hb2] at F
    refine Oj tk 5 [0] F W (ai fun a w F W => ?_)
    refine Ax ?_
    exact ⟨F.re ⟨rfl,Aa,Aa,Aa,Aa,Aa,Aa,(Jr (by try rw [hb1]; try rw [hb0]; try rw [hb2]; all_goals simp only [Jz])),trivial⟩,W⟩
   rintro a w ⟨F,W⟩
   refine Ld F Aa H (fun F H => ?_) fun F H => ?_
   ·
    refine vc tk 5 F W fun a w F W => ?_
    refine Dx (Ej (FR ?_))
    iterate 2 refine Ej ?_
    refine FR (Ej ?_)
    have H := L2 _ H
    have H := L1 _ H
    have H := FU H
    subst H
    refine EL (.inl Aa) F W Aa (DR F Aa) ?_
    exact ⟨rfl,W.done⟩
   refine fD tk 7 [0] F W (ai fun a w F W => ?_)
   refine ls F W Aa (XM (zv := (() : Unit)) (kx := (x5 : Int × Int)) (q := 1) (E := J0) (V := Kz) F Aa Aa Aa iV iJ rF).q fun a w F W => ?_
   refine ls F W Aa (EN F Aa).q fun a w F W => ?_
   refine ls F W Aa (F3 (v := Value.agg #[]) F Aa Aa).q fun a w F W => ?_
   refine ls F W Aa (F3 (v := Value.bool ((O1 x4 x5).isSome)) F Aa Aa).q fun a w F W => ?_
   refine Ha (cs := []) F W Aa rF Aa fun b4 a w F W => ?_
   refine Q9 0 F W Aa Aa Aa t6 Aa Aa Aa fun w W => ?_
   refine KC tk 8 F W fun a w F W => ?_
   refine N0 F Aa (fun hb => ?_) fun hb => ?_
   ·
    have H := Tq hb H
    rw [hb] at F
    refine vc tk 5 F W fun a w F W => ?_
    refine Dx (Ej (FR ?_))
    iterate 2 refine Ej ?_
    refine FR (Ej ?_)
    have H := L2 _ H
    have H := L1 _ H
    have H := FU H
    subst H
    refine EL (.inl Aa) F W Aa (DR F Aa) ?_
    exact ⟨rfl,W.done⟩
   have H := TD (by rw [hb]; decide) H
   rw [hb] at F
   refine fD tk 5 [1] F W (ai fun a w F W => ?_)
   refine ls F W Aa (H3 (v := Value.agg #[]) aT F Aa Aa Aa).q fun a w F W => ?_
   refine bO (q := 1) (kx := (x5 : Int × Int)) (vx := (() : Unit)) (E := J0) (V := Kz) F W Aa Aa Aa Aa Aa iV iJ fun w W => ?_
   have W : sy Y w0 [(b4,[]),(b3,[Jint x5.1,Jint x5.2]),(b1,[Jint p0.1,v1,v2])] [mp b2 J0 Kz (KD x4 x5 ()),row v3 118 QT x2] w := W
   refine IF (EY ?_)
   refine vn tk 4 F W fun a w F W => ?_
   refine Ax ?_
   have W := W.frontZ (i := 1) Aa Aa
   have W := W.frontM (i := 2) Aa Aa
   have W := W.sub (M' := [(b1,[Jint p0.1,v1,v2])]) (Z' := [row v3 118 QT x2,mp b2 J0 Kz (KD x4 x5 ())]) (sc nl) sr
   exact ⟨_,H,F.ra Aa,W⟩
  refine G9 ?_
  iterate 2 refine Jp ?_
  refine GH (Ax ?_)
  have W := W.frontZ (i := 1) Aa Aa
  have W := W.sub (M' := [(b1,[Jint p0.1,v1,v2])]) (Z' := [mp b2 J0 Kz x4]) sr (sc nl)
  have H := L2 _ H
  exact ⟨_,H,F.ra Aa,W⟩
 rintro a w ⟨x1,hj,F,W⟩
 have H := K1 _ hj
 refine TR tk 4 [0] F W (ai fun a w F W => ?_)
 obtain ⟨x6,h3,H⟩ := Cc H
 refine ls F W Aa (HS (v := Value.bool x6) F H39 Aa (fun w W => Ga any w (v1) p0.2.1 _ h3 (d7 (Cx h_v1) W) (hG.go0 W))) fun a w F W => ?_
 refine KC tk 4 F W fun a w F W => ?_
 refine Dx ?_
 have H := FU H
 subst H
 refine EL (.inl Aa) F W Aa (DR F Aa) ?_
 exact ⟨rfl,W.done⟩
abbrev K35 : Cn_ := ⟨vG,tU,[],false,fun x => HL x,none⟩
theorem k35 : KO K35 35 := KO.of ⟨fun args w => Br Tryz.func35 rfl (by decide) args w⟩ rfl (fun _ => rfl) (fun _ => rfl) rfl (fun _ => rfl) (fun _ => rfl) (fun _ => rfl) (fun _ => rfl) fun Y w0 x r g H hg hk => (Th Y w0 g.1 g.2.1 x r H hg.1 hg.2.1 hk).mono fun e w' h => ⟨(),h.1,Stw.ofB h.2⟩
def Ah (fRec_pred_Same : Tr36 → Tr36 → Option Bool) (p0 : List Tr36) (p1 : List Tr36) : Int → Option (Int ⊕ (Unit ⊕ Bool))
  | x1 => (if x1 < (p0.length : Int) then (ix p0 x1).bind fun x2 => (ix p1 x1).bind fun x3 => (fRec_pred_Same x2 x3).bind fun x4 => (if (!x4) = true then some (.inr (.inr false)) else some (.inl (Ae (x1 + 1)))) else some (.inr (.inl ())))
def Al (fRec_pred_Same : Tr36 → Tr36 → Option Bool) (p0 : List Tr36) (p1 : List Tr36) : Option Bool := (if (p0.length : Int) ≠ (p1.length : Int) then some false else Hc (Ac (Ah fRec_pred_Same p0 p1) 0) fun _ => some true)
def Bj (fRec_pred_Same : Tr36 → Tr36 → Option Bool) (p0 : List Tr36) (p1 : List Tr36) : Int → Option (Int ⊕ (Unit ⊕ Bool))
  | x1 => (if x1 < (p0.length : Int) then (ix p0 x1).bind fun x2 => (ix p1 x1).bind fun x3 => (fRec_pred_Same (f36 x2) (f36 x3)).bind fun x4 => (if (!x4) = true then some (.inr (.inr false)) else some (.inl (Ae (x1 + 1)))) else some (.inr (.inl ())))
theorem DJ : @Bj = @Ah := by
 unfold Bj Ah
 simp only [Tr36.re_eq]
def Cs (fRec_pred_Same : Tr36 → Tr36 → Option Bool) (p0 : List Tr36) (p1 : List Tr36) : Option Bool := (if (p0.length : Int) ≠ (p1.length : Int) then some false else Hc (Ac (Bj fRec_pred_Same p0 p1) 0) fun _ => some true)
theorem DZ : @Cs = @Al := by
 unfold Cs Al
 simp only [DJ]
abbrev w7 (h148 : TT te.c (Dy Si []) → Option (TT te.c (H4 Si Xa [] false))) : Cn_ := ⟨[Ra,Ra,(.b false,[.d true (.fn 148)])],[ID],[],false,fun x => Al (fun yp0 yp1 => h148 (yp0,yp1)) x.1 x.2.1,none⟩
theorem uX (h148) (kh148 : KO (pT h148) 148) : KO (w7 h148) 158 := DY (ct := (.q (.q (.j (.st true ⟨[],[],[]⟩) (.q (.b (.l ⟨[(17,false,AG)],[],[]⟩ .d))) .d)))) Dz (Az kh148 Bc) Tryz.func158 (by kernel_rfl) fun x => by rw [← DZ]; kernel_rfl
def FI (fRec : Tr36 → Tr36 → Option Bool) (p0 : Tr36) (p1 : Tr36) : Option Bool := (if p0.un.1 = p1.un.1 then (if p0.un.2.1 = p1.un.2.1 then (if p0.un.2.2.1 = p1.un.2.2.1 then ((Al fRec) p0.un.2.2.2 p1.un.2.2.2).bind fun x2 => some x2 else some false) else some false) else some false).bind fun x1 => some x1
def EW : Nat → Tr36 → Tr36 → Option Bool
  | 0 => fun _ _ => none
  | n + 1 => FI (EW n)
def LT (p0 : Tr36) (p1 : Tr36) : Option Bool := GY fun n => EW n p0 p1
theorem wG : KO (pT fun x => LT x.1 x.2) 148 := Q7 (E := te) (xs := Si) (ys := Xa) (bs := []) (io := false) (nn := fun n x => EW n x.1 x.2) (st := fun g x => FI (fun yp0 yp1 => g (yp0,yp1)) x.1 x.2) Tryz.func148 rfl (by kernel_rfl) (fun _ => rfl) (fun _ => rfl) fun g hg => DY (ct := (.q (.j (.st false ⟨[(4,false,EK)],[],[]⟩) .d .d))) Dz (Az hg (Az (uX _ hg) Bc)) Tryz.func148 (by kernel_rfl) fun x => by kernel_rfl
def F1 (p0 : Tr36) : Option Bool := (LT p0 (Tr36.of (0,0,0,([] : List Tr36)))).bind fun x1 => some x1
def La (p0 : Tr36) : Option Bool := (LT (f36 p0) (Tr36.of (0,0,0,([] : List Tr36)))).bind fun x1 => some x1
theorem OU : @La = @F1 := by
 unfold La F1
 simp only [Tr36.re_eq]
abbrev yG : Cn_ := ⟨[Ll],[ID],[],false,fun x => F1 x,none⟩
theorem yQ : KO (yG) 133 := DY (ct := .d) Dz (Az wG Bc) Tryz.func133 (by kernel_rfl) fun x => by rw [← OU]; kernel_rfl
def I5 (p0 : Int) : Option Int := (if p0 = 0 then some true else (if p0 = 1 then some true else some (decide (p0 = 3)))).bind fun x1 => (if x1 = true then some 8 else (if p0 = 2 then some 4 else some 0))
abbrev wK : Cn_ := ⟨[D6],[IP],[],false,fun x => I5 x,none⟩
theorem xL : KO (wK) 155 := DY (ct := (.q (.s (.q (.b (.j (.st false ⟨[(4,false,EK)],[],[]⟩) .d .d))) .d))) Dz Bc Tryz.func155 (by kernel_rfl) fun x => by kernel_rfl
def IR (p0 : Int) : Option Int := (I5 p0).bind fun x1 => (jI (Iy .i64 1 x1) x1).bind fun x2 => some (Ae (x2 - 1))
abbrev vE : Cn_ := ⟨[D6],[IP],[],false,fun x => IR x,none⟩
theorem qT : KO (vE) 138 := DY (ct := .d) Dz (Az xL Bc) Tryz.func138 (by kernel_rfl) fun x => by kernel_rfl
def KR (p0 : Int) : Option Int := (if (decide (p0 = 4) || decide (p0 = 5)) = true then some 7 else (IR p0).bind fun x1 => some x1)
abbrev uN : Cn_ := ⟨[D6],[IP],[],false,fun x => KR x,none⟩
theorem qG : KO (uN) 112 := DY (ct := (.q (.s (.j (.bl [8]) .d .d) .d))) Dz (Az qT Bc) Tryz.func112 (by kernel_rfl) fun x => by kernel_rfl
def Jf (p0 : Tr39) : Option Bool := (if p0.un.1 = 2 then ((F1 (f36 p0.un.2.1)).bind fun x2 => (if x2 = true then (if (p0.un.2.2.2.2.length : Int) = 0 then (if 0 ≤ p0.un.2.2.1 then (if p0.un.2.2.1 ≤ 4 then (if 0 ≤ p0.un.2.2.2.1 then (KR p0.un.2.2.1).bind fun x3 => some (decide (p0.un.2.2.2.1 ≤ x3)) else some false) else some false) else some false) else some false) else some false)).bind fun x1 => some x1 else (if (decide (p0.un.2.2.1 ≠ 0) || decide (p0.un.2.2.2.1 ≠ 0)) = true then some false else (if p0.un.1 = 1 then some (decide ((p0.un.2.2.2.2.length : Int) = 0)) else (if p0.un.1 = 3 then some true else some (decide (p0.un.1 = 4))).bind fun x4 => (if x4 = true then ((F1 (f36 p0.un.2.1)).bind fun x6 => (if x6 = true then (if 2 ≤ (p0.un.2.2.2.2.length : Int) then some (decide ((p0.un.2.2.2.2.length : Int) ≤ 8)) else some false) else some false)).bind fun x5 => some x5 else (if p0.un.1 = 5 then some (decide ((p0.un.2.2.2.2.length : Int) = 2)) else some false)))))
abbrev uA : Cn_ := ⟨[RG],[ID],[],false,fun x => Jf x,none⟩
theorem tD : KO (uA) 100 := DY (ct := (.q (.s (.q (.c (.j (.st false ⟨[(2,false,EK)],[],[]⟩) .d .d) .d)) (.s (.j (.bl [45]) .d .d) (.s (.q (.b (.q (.c .d (.j (.st false ⟨[(54,false,EK)],[],[]⟩) .d (.c (.j (.st false ⟨[(2,false,EK)],[],[]⟩) .d .d) .d)))))) .d))))) Dz (Az yQ (Az qG Bc)) Tryz.func100 (by kernel_rfl) fun x => by kernel_rfl
def Fh (p0 : Int) : Bool := (decide (0 ≤ p0) && decide (p0 ≤ 5))
abbrev K88 : Cn_ := ⟨[D6],[ID],[],false,fun x => some (Fh x),some ⟨fun x => Fh x,fun _ => rfl⟩⟩
theorem t8 : KO (K88) 88 := DY (ct := (.q (.j (.bl [2]) .d .d))) Dz Bc Tryz.func88 (by kernel_rfl) fun x => by kernel_rfl
def JD (p0 : Tr36) : Option Bool := (if p0.un.1 = 3 then (if (Fh p0.un.2.1) = true then (if 0 ≤ p0.un.2.2.1 then (KR p0.un.2.1).bind fun x2 => (if p0.un.2.2.1 ≤ x2 then some (decide ((p0.un.2.2.2.length : Int) = 0)) else some false) else some false) else some false).bind fun x1 => some x1 else (if (decide (p0.un.2.1 ≠ 0) || decide (p0.un.2.2.1 ≠ 0)) = true then some false else (if p0.un.1 = 1 then some true else some (decide (p0.un.1 = 2))).bind fun x3 => (if x3 = true then some (decide ((p0.un.2.2.2.length : Int) = 0)) else (if p0.un.1 = 4 then some (decide ((p0.un.2.2.2.length : Int) = 1)) else (if p0.un.1 = 5 then some true else some (decide (p0.un.1 = 6))).bind fun x4 => (if x4 = true then some (decide (2 ≤ (p0.un.2.2.2.length : Int)) && decide ((p0.un.2.2.2.length : Int) ≤ 8)) else some false)))))
abbrev K91 : Cn_ := ⟨[Ll],[ID],[],false,fun x => JD x,none⟩
theorem k91 : KO (K91) 91 := DY (ct := (.q (.s (.q (.c (.j (.st false ⟨[(2,false,EK)],[],[]⟩) .d .d) .d)) (.s (.j (.bl [35]) .d .d) (.s (.q (.b (.j (.st false ⟨[(38,false,EK)],[],[]⟩) .d (.c .d (.q (.c .d (.j (.st false ⟨[(51,false,EK)],[],[]⟩) .d (.c (.j (.bl [2]) .d .d) .d)))))))) .d))))) Dz (Az qG (Az t8 Bc)) Tryz.func91 (by kernel_rfl) fun x => by kernel_rfl
def AR (fRec : Int → Tr36 → Int → Option (Bool × Int)) (p1 : Tr36) (p2 : Int) : (Int × Int) → Option ((Int × Int) ⊕ (Int ⊕ (Bool × Int)))
  | (x4,x5) => (if x4 < (p1.un.2.2.2.length : Int) then (ix p1.un.2.2.2 x4).bind fun x6 => (fRec x5 x6 (Ae (p2 - 1))).bind fun x7 => (if (!x7.1) = true then some (.inr (.inr (false,x7.2))) else some (.inl (Ae (x4 + 1),x7.2))) else some (.inr (.inl x5)))
def BZ (fRec : Int → Tr36 → Int → Option (Bool × Int)) (p0 : Int) (p1 : Tr36) (p2 : Int) : Option (Bool × Int) := (if (Ae (p0 - 1)) < 0 then some true else (if p2 < 1 then some true else (JD p1).bind fun x2 => some (!x2))).bind fun x1 => (if x1 = true then some (false,Ae (p0 - 1)) else Hc (Ac (AR fRec p1 p2) (0,Ae (p0 - 1))) fun x3 => some (true,x3))
def AZ : Nat → Int → Tr36 → Int → Option (Bool × Int)
  | 0 => fun _ _ _ => none
  | n + 1 => BZ (AZ n)
def EC (p0 : Int) (p1 : Tr36) (p2 : Int) : Option (Bool × Int) := GY fun n => AZ n p0 p1 p2
def FL (fRec : Int → Tr36 → Int → Option (Bool × Int)) (p1 : Tr36) (p2 : Int) : (Int × Int) → Option ((Int × Int) ⊕ (Int ⊕ (Bool × Int)))
  | (x4,x5) => (if x4 < (p1.un.2.2.2.length : Int) then (ix p1.un.2.2.2 x4).bind fun x6 => (fRec x5 (f36 x6) (Ae (p2 - 1))).bind fun x7 => (if (!x7.1) = true then some (.inr (.inr (false,x7.2))) else some (.inl (Ae (x4 + 1),x7.2))) else some (.inr (.inl x5)))
theorem JH : @FL = @AR := by
 unfold FL AR
 simp only [Tr36.re_eq]
def Hy (fRec : Int → Tr36 → Int → Option (Bool × Int)) (p0 : Int) (p1 : Tr36) (p2 : Int) : Option (Bool × Int) := (if (Ae (p0 - 1)) < 0 then some true else (if p2 < 1 then some true else (JD (f36 p1)).bind fun x2 => some (!x2))).bind fun x1 => (if x1 = true then some (false,Ae (p0 - 1)) else Hc (Ac (FL fRec p1 p2) (0,Ae (p0 - 1))) fun x3 => some (true,x3))
theorem J7 : @Hy = @BZ := by
 unfold Hy BZ
 simp only [JH,Tr36.re_eq]
theorem k54 : KO (K54 fun x => EC x.2.2 x.1 x.2.1) 54 := Q7 (E := te) (xs := c9) (ys := jV) (bs := [(true,AG)]) (io := false) (nn := fun n x => AZ n x.2.2 x.1 x.2.1) (st := fun g x => BZ (fun yp0 yp1 yp2 => g (yp1,yp2,yp0)) x.2.2 x.1 x.2.1) Tryz.func54 rfl (by kernel_rfl) (fun _ => rfl) (fun _ => rfl) fun g hg => DY (ct := (.q (.q (.s (.j (.st false ⟨[(29,false,EK)],[],[]⟩) .d .d) (.j (.st true ⟨[],[(0,[some (.d false Ht)])],[]⟩) (.q (.b (.l ⟨[(33,false,AG)],[(0,[some (.d false Ht)])],[]⟩ .d))) .d))))) Dz (Az hg (Az k91 Bc)) Tryz.func54 (by kernel_rfl) fun x => by rw [← J7]; kernel_rfl
def Hl (p0 : Tr36) : Option Bool := (EC 64 p0 8).bind fun x1 => some x1.1
def Oz (p0 : Tr36) : Option Bool := (EC 64 (f36 p0) 8).bind fun x1 => some x1.1
theorem Td : @Oz = @Hl := by
 unfold Oz Hl
 simp only [Tr36.re_eq]
abbrev K27 : Cn_ := ⟨[Ll],[ID],[],false,fun x => Hl x,none⟩
theorem k27 : KO (K27) 27 := DY (ct := .d) Dz (Az k54 Bc) Tryz.func27 (by kernel_rfl) fun x => by rw [← Td]; kernel_rfl
def Dm (fRec : Tr36 → Option Int) (p0 : Tr36) : (Int × Int) → Option ((Int × Int) ⊕ Int)
  | (x2,x3) => (if x3 < (p0.un.2.2.2.length : Int) then (ix p0.un.2.2.2 x3).bind fun x4 => (fRec x4).bind fun x5 => some (.inl (Ae (x2 + x5),Ae (x3 + 1))) else some (.inr x2))
def Eo (fRec : Tr36 → Option Int) (p0 : Tr36) : Option Int := (Ac (Dm fRec p0) (1,0)).bind fun x1 => some x1
def Ew : Nat → Tr36 → Option Int
  | 0 => fun _ => none
  | n + 1 => Eo (Ew n)
def LP (p0 : Tr36) : Option Int := GY fun n => Ew n p0
def Jh (fRec : Tr36 → Option Int) (p0 : Tr36) : (Int × Int) → Option ((Int × Int) ⊕ Int)
  | (x2,x3) => (if x3 < (p0.un.2.2.2.length : Int) then (ix p0.un.2.2.2 x3).bind fun x4 => (fRec (f36 x4)).bind fun x5 => some (.inl (Ae (x2 + x5),Ae (x3 + 1))) else some (.inr x2))
theorem QN : @Jh = @Dm := by
 unfold Jh Dm
 simp only [Tr36.re_eq]
def Mv (fRec : Tr36 → Option Int) (p0 : Tr36) : Option Int := (Ac (Jh fRec p0) (1,0)).bind fun x1 => some x1
theorem QA : @Mv = @Eo := by
 unfold Mv Eo
 simp only [QN]
theorem xR : KO (xM fun x => LP x) 101 := Q7 (E := te) (xs := Wj) (ys := Zk) (bs := []) (io := false) (nn := fun n x => Ew n x) (st := fun g x => Eo g x) Tryz.func101 rfl (by kernel_rfl) (fun _ => rfl) (fun _ => rfl) fun g hg => DY (ct := (.q (.q (.j (.st false ⟨[(3,false,AG)],[],[]⟩) (.q (.b (.l ⟨[(3,false,AG),(9,false,AG)],[],[]⟩ .d))) .d)))) Dz (Az hg Bc) Tryz.func101 (by kernel_rfl) fun x => by rw [← QA]; kernel_rfl
def AM (fRec : Int → Tr39 → Int → Option (Bool × Int)) (p1 : Tr39) (p2 : Int) : (Int × Int) → Option ((Int × Int) ⊕ (Int ⊕ (Bool × Int)))
  | (x7,x8) => (if x7 < (p1.un.2.2.2.2.length : Int) then (ix p1.un.2.2.2.2 x7).bind fun x9 => (fRec x8 (Tr39.of (x9.un.1,f36 x9.un.2.1,x9.un.2.2.1,x9.un.2.2.2.1,x9.un.2.2.2.2)) (Ae (p2 - 1))).bind fun x10 => (if (!x10.1) = true then some (.inr (.inr (false,x10.2))) else some (.inl (Ae (x7 + 1),x10.2))) else some (.inr (.inl x8)))
def Cm (fRec : Int → Tr39 → Int → Option (Bool × Int)) (p0 : Int) (p1 : Tr39) (p2 : Int) : Option (Bool × Int) := (if p0 < 1 then some true else (if p2 < 1 then some true else (Jf (Tr39.of (p1.un.1,f36 p1.un.2.1,p1.un.2.2.1,p1.un.2.2.2.1,p1.un.2.2.2.2))).bind fun x2 => some (!x2))).bind fun x1 => (if x1 = true then some (false,p0) else Hc (if (decide (p1.un.1 = 1) || decide (p1.un.1 = 5)) = true then (Hl (f36 p1.un.2.1)).bind fun x4 => (if (!x4) = true then some (.inr (false,Ae (p0 - 1))) else (LP (f36 p1.un.2.1)).bind fun x5 => some (.inl (Ae ((Ae (p0 - 1)) - x5)))) else some (.inl (Ae (p0 - 1)))) fun x3 => Hc (Ac (AM fRec p1 p2) (0,x3)) fun x6 => some (decide (0 ≤ x6),x6))
def AF : Nat → Int → Tr39 → Int → Option (Bool × Int)
  | 0 => fun _ _ _ => none
  | n + 1 => Cm (AF n)
def EQ (p0 : Int) (p1 : Tr39) (p2 : Int) : Option (Bool × Int) := GY fun n => AF n p0 p1 p2
theorem k64 : KO (K64 fun x => EQ x.2.2 x.1 x.2.1) 64 := Q7 (E := te) (xs := fQ) (ys := mF) (bs := [(true,AG)]) (io := false) (nn := fun n x => AF n x.2.2 x.1 x.2.1) (st := fun g x => Cm (fun yp0 yp1 yp2 => g (yp1,yp2,yp0)) x.2.2 x.1 x.2.1) Tryz.func64 rfl (by kernel_rfl) (fun _ => rfl) (fun _ => rfl) fun g hg => DY (ct := (.q (.s (.j (.st false ⟨[(22,false,EK)],[],[]⟩) .d .d) (.q (.j (.st true ⟨[],[(0,[some (.d false Ht)])],[]⟩) (.j (.bl [37]) .d .d) (.j (.st true ⟨[],[(0,[some (.d false Ht)])],[]⟩) (.q (.b (.l ⟨[(55,false,AG)],[(0,[some (.d false Ht)])],[]⟩ .d))) .d)))))) Dz (Az hg (Az tD (Az k27 (Az xR Bc)))) Tryz.func64 (by kernel_rfl) fun x => by kernel_rfl
def Dj (fRec : Tr39 → Option Int) (p0 : Tr39) : (Int × Int) → Option ((Int × Int) ⊕ Int)
  | (x2,x3) => (if x3 < (p0.un.2.2.2.2.length : Int) then (ix p0.un.2.2.2.2 x3).bind fun x4 => (fRec (Tr39.of (x4.un.1,f36 x4.un.2.1,x4.un.2.2.1,x4.un.2.2.2.1,x4.un.2.2.2.2))).bind fun x5 => some (.inl (min (Ae (x2 * x5)) 1000,Ae (x3 + 1))) else some (.inr x2))
def Dh (fRec : Tr39 → Option Int) (p0 : Tr39) : (Int × Int) → Option ((Int × Int) ⊕ Int)
  | (x6,x7) => (if x7 < (p0.un.2.2.2.2.length : Int) then (ix p0.un.2.2.2.2 x7).bind fun x8 => (fRec (Tr39.of (x8.un.1,f36 x8.un.2.1,x8.un.2.2.1,x8.un.2.2.2.1,x8.un.2.2.2.2))).bind fun x9 => some (.inl (min (Ae (x6 + x9)) 1000,Ae (x7 + 1))) else some (.inr x6))
def Dk (fRec : Tr39 → Option Int) (p0 : Tr39) : (Int × Int) → Option ((Int × Int) ⊕ Int)
  | (x10,x11) => (if x11 < (p0.un.2.2.2.2.length : Int) then (ix p0.un.2.2.2.2 x11).bind fun x12 => (fRec (Tr39.of (x12.un.1,f36 x12.un.2.1,x12.un.2.2.1,x12.un.2.2.2.1,x12.un.2.2.2.2))).bind fun x13 => some (.inl (max x10 x13,Ae (x11 + 1))) else some (.inr x10))
def EJ (fRec : Tr39 → Option Int) (p0 : Tr39) : Option Int := (if p0.un.1 = 3 then Ac (Dj fRec p0) (1,0) else (if p0.un.1 = 4 then Ac (Dh fRec p0) (0,0) else (if p0.un.1 = 5 then Ac (Dk fRec p0) (0,0) else some 1))).bind fun x1 => some x1
def Ce : Nat → Tr39 → Option Int
  | 0 => fun _ => none
  | n + 1 => EJ (Ce n)
def KK (p0 : Tr39) : Option Int := GY fun n => Ce n p0
theorem k65 : KO (K65 fun x => KK x) 65 := Q7 (E := te) (xs := eN) (ys := kQ) (bs := []) (io := false) (nn := fun n x => Ce n x) (st := fun g x => EJ g x) Tryz.func65 rfl (by kernel_rfl) (fun _ => rfl) (fun _ => rfl) fun g hg => DY (ct := (.q (.q (.j (.st false ⟨[(3,false,AG)],[],[]⟩) (.q (.b (.q (.c (.q (.q (.b (.l ⟨[(3,false,AG),(17,false,AG)],[],[]⟩ .d)))) (.q (.c (.q (.b (.l ⟨[(3,false,AG),(32,false,AG)],[],[]⟩ .d))) (.q (.c (.q (.b (.l ⟨[(3,false,AG),(47,false,AG)],[],[]⟩ .d))) .d)))))))) .d)))) Dz (Az hg Bc) Tryz.func65 (by kernel_rfl) fun x => by kernel_rfl
def HF (p0 : Tr39) : Option Bool := ((EQ 64 (Tr39.of (p0.un.1,f36 p0.un.2.1,p0.un.2.2.1,p0.un.2.2.2.1,p0.un.2.2.2.2)) 8).bind fun x3 => (if x3.1 = true then (KK (Tr39.of (p0.un.1,f36 p0.un.2.1,p0.un.2.2.1,p0.un.2.2.2.1,p0.un.2.2.2.2))).bind fun x4 => some (decide (x4 ≤ 64),x3.2) else some (false,x3.2))).bind fun (x1,x2) => some x1
abbrev K31 : Cn_ := ⟨[RG],[ID],[],false,fun x => HF x,none⟩
theorem z6 : KO (K31) 31 := DY (ct := (.q (.q (.j (.st false ⟨[(2,false,EK)],[(1,[some (.d false Ht)])],[]⟩) .d .d)))) Dz (Az k64 (Az k65 Bc)) Tryz.func31 (by kernel_rfl) fun x => by kernel_rfl
def F2 (p0 : Int × Int × Int × Int × Int × Int) (p1 : Int) : Bool := (decide (p0.2.1 = p1) || decide (p0.2.2.2.1 = p1))
abbrev K40 : Cn_ := ⟨[(.b true,[.d true Yw]),(.p,[])],[ID],[(false,[.d true Ht])],false,fun x => some (F2 x.1 x.2),some ⟨fun x => F2 x.1 x.2,fun _ => rfl⟩⟩
theorem k40 : KO (K40) 40 := DY (ct := (.q (.j (.bl [3]) .d .d))) Dz Bc Tryz.func40 (by kernel_rfl) fun x => by kernel_rfl
def B6 (p0 : List (Int × Int × Int × Int × Int × Int)) (p1c0 : Int) : Int → Option (Int ⊕ (Unit ⊕ Int))
  | x1 => (if x1 < (p0.length : Int) then (ix p0 x1).bind fun x2 => (if (F2 x2 p1c0) = true then some (.inr (.inr x1)) else some (.inl (Ae (x1 + 1)))) else some (.inr (.inl ())))
def Dc (p0 : List (Int × Int × Int × Int × Int × Int)) (p1c0 : Int) : Option Int := Hc (Ac (B6 p0 p1c0) 0) fun _ => some (-1)
abbrev rG : Cn_ := ⟨[(.b false,[.d true (.sl Yw)]),(.fn 40 [] 1,[])],[IP],[(false,[.d true Ht])],false,fun x => Dc x.1 x.2,none⟩
theorem pI : KO (rG) 80 := DY (ct := (.q (.j (.st true ⟨[],[],[]⟩) (.q (.b (.l ⟨[(8,false,AG)],[],[]⟩ .d))) .d))) Dz (Az k40 Bc) Tryz.func80 (by kernel_rfl) fun x => by kernel_rfl
def CX (p0 : List (Int × Int × Int × Int × Int × Int)) (p1c0 : Int) : Option Bool := (Dc p0 p1c0).bind fun x1 => some (decide (0 ≤ x1))
abbrev rR : Cn_ := ⟨[(.b false,[.d true (.sl Yw)]),(.fn 40 [] 1,[])],[ID],[(false,[.d true Ht])],false,fun x => CX x.1 x.2,none⟩
theorem oV : KO (rR) 39 := DY (ct := .d) Dz (Az pI Bc) Tryz.func39 (by kernel_rfl) fun x => by kernel_rfl
def G5 (p0 : Int × Int) (p1 : Int) : Bool := decide (p0.2 = p1)
abbrev K42 : Cn_ := ⟨[(.b true,[.d true (.pr Ht Ht)]),(.p,[])],[ID],[(false,[.d true Ht])],false,fun x => some (G5 x.1 x.2),some ⟨fun x => G5 x.1 x.2,fun _ => rfl⟩⟩
theorem k42 : KO (K42) 42 := DY (ct := .d) Dz Bc Tryz.func42 (by kernel_rfl) fun x => by kernel_rfl
def Cf (p0 : List (Int × Int)) (p1c0 : Int) : Int → Option (Int ⊕ (Unit ⊕ Int))
  | x1 => (if x1 < (p0.length : Int) then (ix p0 x1).bind fun x2 => (if (G5 x2 p1c0) = true then some (.inr (.inr x1)) else some (.inl (Ae (x1 + 1)))) else some (.inr (.inl ())))
def Ds (p0 : List (Int × Int)) (p1c0 : Int) : Option Int := Hc (Ac (Cf p0 p1c0) 0) fun _ => some (-1)
abbrev K81 : Cn_ := ⟨[(.b false,[.d true (.sl (.pr Ht Ht))]),(.fn 42 [] 1,[])],[IP],[(false,[.d true Ht])],false,fun x => Ds x.1 x.2,none⟩
theorem k81 : KO (K81) 81 := DY (ct := (.q (.j (.st true ⟨[],[],[]⟩) (.q (.b (.l ⟨[(8,false,AG)],[],[]⟩ .d))) .d))) Dz (Az k42 Bc) Tryz.func81 (by kernel_rfl) fun x => by kernel_rfl
def C6 (p0 : List (Int × Int)) (p1c0 : Int) : Option Bool := (Ds p0 p1c0).bind fun x1 => some (decide (0 ≤ x1))
abbrev K41 : Cn_ := ⟨[(.b false,[.d true (.sl (.pr Ht Ht))]),(.fn 42 [] 1,[])],[ID],[(false,[.d true Ht])],false,fun x => C6 x.1 x.2,none⟩
theorem k41 : KO (K41) 41 := DY (ct := .d) Dz (Az k81 Bc) Tryz.func41 (by kernel_rfl) fun x => by kernel_rfl
def Jb (p0 : Int × (List (Int × Int × Int × Int × Int × Int)) × (List (Int × Int))) (p1 : Int) : Option Bool := ((CX p0.2.1 p1).bind fun x2 => (if x2 = true then some true else (C6 p0.2.2 p1).bind fun x3 => some x3)).bind fun x1 => some x1
abbrev K11 : Cn_ := ⟨[(.b true,[.d true ZL]),D6],[ID],[],false,fun x => Jb x.1 x.2,none⟩
theorem k11 : KO (K11) 11 := DY (ct := (.q (.j (.st false ⟨[(4,false,EK)],[],[]⟩) .d .d))) Dz (Az oV (Az k41 Bc)) Tryz.func11 (by kernel_rfl) fun x => by kernel_rfl
def HC (p0 : Int) (p1 : Int × (List (Int × Int × Int × Int × Int × Int)) × (List (Int × Int))) : Option Bool := (Jb p1 p0).bind fun x1 => some (!x1)
abbrev K76 : Cn_ := ⟨[D6,(.p,[])],[ID],[(false,[.d true ZL])],false,fun x => HC x.1 x.2,none⟩
theorem k76 : KO (K76) 76 := DY (ct := .d) Dz (Az k11 Bc) Tryz.func76 (by kernel_rfl) fun x => by kernel_rfl
def Dw (p0 : List Int) (p1c0 : Int × (List (Int × Int × Int × Int × Int × Int)) × (List (Int × Int))) : Int → Option (Int ⊕ (Unit ⊕ Int))
  | x1 => (if x1 < (p0.length : Int) then (ix p0 x1).bind fun x2 => (HC x2 p1c0).bind fun x3 => (if x3 = true then some (.inr (.inr x1)) else some (.inl (Ae (x1 + 1)))) else some (.inr (.inl ())))
def Fa (p0 : List Int) (p1c0 : Int × (List (Int × Int × Int × Int × Int × Int)) × (List (Int × Int))) : Option Int := Hc (Ac (Dw p0 p1c0) 0) fun _ => some (-1)
abbrev wQ : Cn_ := ⟨[QI,(.fn 76 [] 1,[])],[IP],[(false,[.d true ZL])],false,fun x => Fa x.1 x.2,none⟩
theorem xV : KO (wQ) 108 := DY (ct := (.q (.j (.st true ⟨[],[],[]⟩) (.q (.b (.l ⟨[(8,false,AG)],[],[]⟩ .d))) .d))) Dz (Az k76 Bc) Tryz.func108 (by kernel_rfl) fun x => by kernel_rfl
def En (p0 : List Int) (p1c0 : Int × (List (Int × Int × Int × Int × Int × Int)) × (List (Int × Int))) : Option Bool := (Fa p0 p1c0).bind fun x1 => some (decide (0 ≤ x1))
abbrev K75 : Cn_ := ⟨[QI,(.fn 76 [] 1,[])],[ID],[(false,[.d true ZL])],false,fun x => En x.1 x.2,none⟩
theorem k75 : KO (K75) 75 := DY (ct := .d) Dz (Az xV Bc) Tryz.func75 (by kernel_rfl) fun x => by kernel_rfl
def E0 (p0 : Int) (p1 : Int × (List (Int × Int × Int × Int × Int × Int)) × (List (Int × Int))) : Bool := decide (p1.1 ≤ p0)
abbrev K77 : Cn_ := ⟨[D6,(.p,[])],[ID],[(false,[.d true ZL])],false,fun x => some (E0 x.1 x.2),some ⟨fun x => E0 x.1 x.2,fun _ => rfl⟩⟩
theorem k77 : KO (K77) 77 := DY (ct := .d) Dz Bc Tryz.func77 (by kernel_rfl) fun x => by kernel_rfl
def Dd (p0 : List Int) (p1c0 : Int × (List (Int × Int × Int × Int × Int × Int)) × (List (Int × Int))) : Int → Option (Int ⊕ (Unit ⊕ Int))
  | x1 => (if x1 < (p0.length : Int) then (ix p0 x1).bind fun x2 => (if (E0 x2 p1c0) = true then some (.inr (.inr x1)) else some (.inl (Ae (x1 + 1)))) else some (.inr (.inl ())))
def ED (p0 : List Int) (p1c0 : Int × (List (Int × Int × Int × Int × Int × Int)) × (List (Int × Int))) : Option Int := Hc (Ac (Dd p0 p1c0) 0) fun _ => some (-1)
abbrev mU : Cn_ := ⟨[QI,(.fn 77 [] 1,[])],[IP],[(false,[.d true ZL])],false,fun x => ED x.1 x.2,none⟩
theorem j0 : KO (mU) 108 := DY (ct := (.q (.j (.st true ⟨[],[],[]⟩) (.q (.b (.l ⟨[(8,false,AG)],[],[]⟩ .d))) .d))) Dz (Az k77 Bc) Tryz.func108 (by kernel_rfl) fun x => by kernel_rfl
def Eb (p0 : List Int) (p1c0 : Int × (List (Int × Int × Int × Int × Int × Int)) × (List (Int × Int))) : Option Bool := (ED p0 p1c0).bind fun x1 => some (decide (0 ≤ x1))
abbrev oB : Cn_ := ⟨[QI,(.fn 77 [] 1,[])],[ID],[(false,[.d true ZL])],false,fun x => Eb x.1 x.2,none⟩
theorem rB : KO (oB) 75 := DY (ct := .d) Dz (Az j0 Bc) Tryz.func75 (by kernel_rfl) fun x => by kernel_rfl
def G8 (p0 : Int × (List (Int × Int × Int × Int × Int × Int)) × (List (Int × Int))) (p1 : Tr39) : Option Bool := ((Fg (Tr39.of (p1.un.1,f36 p1.un.2.1,p1.un.2.2.1,p1.un.2.2.2.1,p1.un.2.2.2.2)) 4).bind fun x2 => (En x2 p0).bind fun x3 => (if x3 = true then some true else (Fg (Tr39.of (p1.un.1,f36 p1.un.2.1,p1.un.2.2.1,p1.un.2.2.2.1,p1.un.2.2.2.2)) 5).bind fun x4 => (Eb x4 p0).bind fun x5 => some x5)).bind fun x1 => some x1
abbrev K36 : Cn_ := ⟨[(.b true,[.d true ZL]),RG],[ID],[],false,fun x => G8 x.1 x.2,none⟩
theorem k36 : KO (K36) 36 := DY (ct := (.q (.j (.st false ⟨[(4,false,EK)],[],[]⟩) .d .d))) Dz (Az wL (Az k75 (Az rB Bc))) Tryz.func36 (by kernel_rfl) fun x => by kernel_rfl
def Gm (p0 : Int × (List (Int × Int × Int × Int × Int × Int)) × (List (Int × Int))) (p1 : Tr39) : Option Int := (HL p0).bind fun x1 => (if (!x1) = true then some 2 else (HF (Tr39.of (p1.un.1,f36 p1.un.2.1,p1.un.2.2.1,p1.un.2.2.2.1,p1.un.2.2.2.2))).bind fun x2 => (if (!x2) = true then some 17 else (G8 p0 (Tr39.of (p1.un.1,f36 p1.un.2.1,p1.un.2.2.1,p1.un.2.2.2.1,p1.un.2.2.2.2))).bind fun x3 => (if x3 = true then some 13 else (EU (Tr39.of (p1.un.1,f36 p1.un.2.1,p1.un.2.2.1,p1.un.2.2.2.1,p1.un.2.2.2.2))).bind fun x4 => (if 4096 < x4 then some 6 else some 0))))
abbrev K9 : Cn_ := ⟨[(.b true,[.d true ZL]),RG],[IP],[],false,fun x => Gm x.1 x.2,none⟩
theorem k9 : KO (K9) 9 := DY (ct := .d) Dz (Az yX (Az k35 (Az z6 (Az k36 Bc)))) Tryz.func9 (by kernel_rfl) fun x => by kernel_rfl
def JY  : Option Bool := ((GZ (Tr39.of (1,Tr36.of (5,0,0,([Tr36.of (3,5,2,([] : List Tr36)),Tr36.of (3,1,1,([] : List Tr36))] : List Tr36)),0,0,([] : List Tr39))) 2).bind fun x2 => (FD (Tr39.of (x2.un.1,f36 x2.un.2.1,x2.un.2.2.1,x2.un.2.2.2.1,x2.un.2.2.2.2))).bind fun x3 => (if x3 = ([119,104,101,110,32,100,115,116,32,61,32,49] : lb_) then (GZ (Tr39.of (1,Tr36.of (5,0,0,([Tr36.of (3,5,2,([] : List Tr36)),Tr36.of (3,1,1,([] : List Tr36))] : List Tr36)),0,0,([] : List Tr39))) 1).bind fun x4 => (FD (Tr39.of (x4.un.1,f36 x4.un.2.1,x4.un.2.2.1,x4.un.2.2.2.1,x4.un.2.2.2.2))).bind fun x5 => (if x5 = ([100,114,111,112] : lb_) then (EU (Tr39.of (1,Tr36.of (5,0,0,([Tr36.of (3,5,2,([] : List Tr36)),Tr36.of (3,1,1,([] : List Tr36))] : List Tr36)),0,0,([] : List Tr39)))).bind fun x6 => (if x6 = 2 then (Gm (3,([] : List (Int × Int × Int × Int × Int × Int)),([] : List (Int × Int))) (Tr39.of (1,Tr36.of (5,0,0,([Tr36.of (3,5,2,([] : List Tr36)),Tr36.of (3,1,1,([] : List Tr36))] : List Tr36)),0,0,([] : List Tr39)))).bind fun x7 => (if x7 = 0 then (Gm (2,([] : List (Int × Int × Int × Int × Int × Int)),([] : List (Int × Int))) (Tr39.of (1,Tr36.of (5,0,0,([Tr36.of (3,5,2,([] : List Tr36)),Tr36.of (3,1,1,([] : List Tr36))] : List Tr36)),0,0,([] : List Tr39)))).bind fun x8 => some (decide (x8 = 13)) else some false) else some false) else some false) else some false)).bind fun x1 => some x1
abbrev K7 : Cn_ := ⟨[],[ID],[],false,fun x => JY ,none⟩
theorem k7 : KO (K7) 7 := DY (ct := (.q (.q (.q (.j (.st false ⟨[(0,false,EK)],[],[]⟩) .d .d))))) Dz (Az zN (Az k34 (Az yX (Az k9 Bc)))) Tryz.func7 (by kernel_rfl) fun x => by kernel_rfl
theorem zJ : Has Tryz.prog 21 := JR Tryz.func21
def DN (fRec : Tr28 → Option Tr36) (p0 : Tr28) : (Int × List Tr36) → Option ((Int × List Tr36) ⊕ (List Tr36))
  | (x2,x3) => (if x2 < (p0.un.2.2.2.length : Int) then (ix p0.un.2.2.2 x2).bind fun x4 => (fRec x4).bind fun x5 => (Fy x3 ([x5] : List Tr36)).bind fun x6 => some (.inl (Ae (x2 + 1),x6)) else some (.inr x3))
def E3 (fRec : Tr28 → Option Tr36) (p0 : Tr28) : Option Tr36 := (Ac (DN fRec p0) (0,[])).bind fun x1 => some (Tr36.of (p0.un.1,p0.un.2.1,p0.un.2.2.1,x1))
def E4 : Nat → Tr28 → Option Tr36
  | 0 => fun _ => none
  | n + 1 => E3 (E4 n)
def NH (p0 : Tr28) : Option Tr36 := GY fun n => E4 n p0
def Kd (fRec : Tr28 → Option Tr36) (p0 : Tr28) : (Int × List Tr36) → Option ((Int × List Tr36) ⊕ (List Tr36))
  | (x2,x3) => (if x2 < (p0.un.2.2.2.length : Int) then (ix p0.un.2.2.2 x2).bind fun x4 => (fRec (f28 x4)).bind fun x5 => (Fy x3 ([f36 x5] : List Tr36)).bind fun x6 => some (.inl (Ae (x2 + 1),x6)) else some (.inr x3))
theorem Rz : @Kd = @DN := by
 unfold Kd DN
 simp only [Tr36.re_eq,Tr28.re_eq]
def NC (fRec : Tr28 → Option Tr36) (p0 : Tr28) : Option Tr36 := (Ac (Kd fRec p0) (0,[])).bind fun x1 => some (Tr36.of (p0.un.1,p0.un.2.1,p0.un.2.2.1,x1))
theorem Rs : @NC = @E3 := by
 unfold NC E3
 simp only [Rz,Tr36.re_eq]
theorem k21 : KO (K21 fun x => NH x) 21 := Q7 (E := te) (xs := gC) (ys := kB) (bs := []) (io := false) (nn := fun n x => E4 n x) (st := fun g x => E3 g x) Tryz.func21 rfl (by kernel_rfl) (fun _ => rfl) (fun _ => rfl) fun g hg => DY (ct := (.q (.q (.j (.st false ⟨[],[(2,[none,none,none,some (.o 36 TP)])],[]⟩) (.q (.b (.l ⟨[(4,false,AG)],[(2,[none,none,none,some (.o 36 TP)])],[]⟩ .d))) .d)))) Dz (Az hg Bc) Tryz.func21 (by kernel_rfl) fun x => by rw [← Rs]; kernel_rfl
theorem PG (Y : Nat → Prop) (w0 : World) (v1 : Value) (p0 : Tr28) (r : Tr36) (H : NH p0 = some r) (h_v1 : Sl w0 (NX []) Sf v1 p0.un.2.2.2) (hG : Gk [] w0) :
    ca_ 21 #[.agg #[Jint p0.un.1,Jint p0.un.2.1,Jint p0.un.2.2.1,v1]] w0 fun e w' => ∃ x : Value,e = .returned (.agg #[Jint r.un.1,Jint r.un.2.1,Jint r.un.2.2.1,x]) ∧ sy Y w0 [] [frz (x) KE r.un.2.2.2] w' := by
 refine (k21.out (Y := Y) (X := []) (x := p0) (r := r) H Aa Aa Aa Aa Aa (v1,()) ⟨h_v1,trivial⟩ (Stw.start Y w0) hG).mono ?_
 rintro e w' ⟨⟨a0,u⟩,he,W,hi⟩
 exact ⟨a0,he,W⟩
end
end Go.Proofs.YtgoifghhcekahaaGreatDoor
