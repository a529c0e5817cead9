/- The functions of layer 27, O7. Conditions: none. -/
import Derived.Test.YtpckgggmgijiiaaGreatDooreA0
namespace Go.Proofs.YtpckgggmgijiiaaGreatDoor
noncomputable section
open Go Go.RowKit
set_option linter.unusedVariables false
set_option linter.unusedSimpArgs false
set_option maxRecDepth 20000
set_option maxHeartbeats 1600000
def BH (p1 : Int) (p2 : Int) : ((List Sq) × Int) → Option (((List Sq) × Int) ⊕ (List Sq))
  | (x2,x3) => (if 0 ≤ x3 then (BT x2 x3 (Aq (p2 - p1)) p1).bind fun x4 => some (.inl (x4,Aq (x3 - 1))) else some (.inr x2))
def BG (p1 : Int) : ((List Sq) × Int) → Option (((List Sq) × Int) ⊕ (List Sq))
  | (x5,x6) => (if 0 ≤ x6 then (ix x5 (Aq (p1 + x6))).bind fun x7 => (ix x5 p1).bind fun x8 => (ix x5 p1).bind fun x9 => (ix (AW x5 p1 x7) (Aq (p1 + x6))).bind fun x10 => (BT (AW (AW x5 p1 x7) (Aq (p1 + x6)) x8) 0 x6 p1).bind fun x11 => some (.inl (x11,Aq (x6 - 1))) else some (.inr x5))
def BU (p0 : List Sq) (p1 : Int) (p2 : Int) : Option (List Sq) := (Af (BH p1 p2) (p0,Aq (Int.tdiv (Aq ((Aq (p2 - p1)) - 1)) 2))).bind fun x1 => Af (BG p1) (x1,Aq ((Aq (p2 - p1)) - 1))
abbrev K94 : Cn_ := ⟨[PJ,EZ,EZ,Y0],[],[],true,fun x => BU x.1 x.2.1 x.2.2.1,none⟩
theorem k94 : KO (K94) 94 := E0 (ct := (.q (.q (.q (.j (.st false ⟨[(0,false,IK)],[],[0]⟩) (.q (.b (.l ⟨[(0,false,IK),(11,false,AZ)],[],[0]⟩ .d))) (.q (.b (.l ⟨[(0,false,IK),(12,false,AZ)],[],[0]⟩ .d)))))))) En (AJ yG BN) Tryz.func94 (by kernel_rfl) fun x => by kernel_rfl
def BL (p0 : List Sq) (p1 : Int) (p2 : Int) (p3 : Int) : Option (Int × Int × Int) := (ix p0 p2).bind fun x1 => (ix p0 p1).bind fun x2 => (Bw x1 x2).bind fun x3 => (if x3 < 0 then some (p2,p1,Aq (p3 + 1)) else some (p1,p2,p3))
abbrev xZ : Cn_ := ⟨[V6,EZ,EZ,(.p,[]),Y0],[LA,LA],[(true,AZ)],false,fun x => BL x.1 x.2.1 x.2.2.1 x.2.2.2.2,none⟩
theorem yK : KO (xZ) 142 := E0 (ct := .d) En (AJ oB BN) Tryz.func142 (by kernel_rfl) fun x => by kernel_rfl
def BK (p0 : List Sq) (p1 : Int) (p2 : Int) (p3 : Int) (p4 : Int) : Option (Int × Int) := (BL p0 p1 p2 p4).bind fun x1 => (BL p0 x1.2.1 p3 x1.2.2).bind fun x2 => (BL p0 x1.1 x2.1 x2.2.2).bind fun x3 => some (x3.2.1,x3.2.2)
abbrev wB : Cn_ := ⟨[V6,EZ,EZ,EZ,(.p,[]),Y0],[LA],[(true,AZ)],false,fun x => BK x.1 x.2.1 x.2.2.1 x.2.2.2.1 x.2.2.2.2.2,none⟩
theorem tP : KO (wB) 129 := E0 (ct := .d) En (AJ yK BN) Tryz.func129 (by kernel_rfl) fun x => by kernel_rfl
def AX (p0 : List Sq) (p1 : Int) (p2 : Int) : Option (Int × Int) := (BK p0 (Aq (p1 - 1)) p1 (Aq (p1 + 1)) p2).bind fun x1 => some (x1.1,x1.2)
abbrev zB : Cn_ := ⟨[V6,EZ,(.p,[]),Y0],[LA],[(true,AZ)],false,fun x => AX x.1 x.2.1 x.2.2.2,none⟩
theorem y7 : KO (zB) 128 := E0 (ct := .d) En (AJ tP BN) Tryz.func128 (by kernel_rfl) fun x => by kernel_rfl
def BF (p0 : List Sq) (p1 : Int) (p2 : Int) : Option (Int × Int) := (if 8 ≤ (Aq (p2 - p1)) then (if 50 ≤ (Aq (p2 - p1)) then (AX p0 (Aq (p1 + (Aq ((Aq (Int.tdiv (Aq (p2 - p1)) 4)) * 1)))) 0).bind fun x7 => (AX p0 (Aq (p1 + (Aq ((Aq (Int.tdiv (Aq (p2 - p1)) 4)) * 2)))) x7.2).bind fun x8 => (AX p0 (Aq (p1 + (Aq ((Aq (Int.tdiv (Aq (p2 - p1)) 4)) * 3)))) x8.2).bind fun x9 => some (x7.1,x8.1,x9.1,x9.2) else some (Aq (p1 + (Aq ((Aq (Int.tdiv (Aq (p2 - p1)) 4)) * 1))),Aq (p1 + (Aq ((Aq (Int.tdiv (Aq (p2 - p1)) 4)) * 2))),Aq (p1 + (Aq ((Aq (Int.tdiv (Aq (p2 - p1)) 4)) * 3))),0)).bind fun (x3,x4,x5,x6) => (BK p0 x3 x4 x5 x6).bind fun x10 => some (x10.1,x10.2) else some (Aq (p1 + (Aq ((Aq (Int.tdiv (Aq (p2 - p1)) 4)) * 2))),0)).bind fun (x1,x2) => (if x2 = 0 then some (x1,1) else (if x2 = 12 then some (x1,2) else some (x1,0)))
abbrev K96 : Cn_ := ⟨[V6,EZ,EZ,Y0],[LA,LA],[],false,fun x => BF x.1 x.2.1 x.2.2.1,none⟩
theorem k96 : KO (K96) 96 := E0 (ct := (.q (.q (.q (.q (.q (.q (.j (.st false ⟨[(13,false,AZ)],[(0,[some (.d false Nr)])],[]⟩) (.q (.c (.j (.st false ⟨[(12,false,AZ),(13,false,AZ),(14,false,AZ)],[(0,[some (.d false Nr)])],[]⟩) .d .d) .d)) .d)))))))) En (AJ tP (AJ y7 BN)) Tryz.func96 (by kernel_rfl) fun x => by kernel_rfl
def A6  : ((List Sq) × Int × Int) → Option (((List Sq) × Int × Int) ⊕ (List Sq))
  | (x1,x2,x3) => (if x2 < x3 then (ix x1 x3).bind fun x4 => (ix x1 x2).bind fun x5 => (ix x1 x2).bind fun x6 => (ix (AW x1 x2 x4) x3).bind fun x7 => some (.inl ((AW (AW x1 x2 x4) x3 x5),Aq (x2 + 1),Aq (x3 - 1))) else some (.inr x1))
def Bh (p0 : List Sq) (p1 : Int) (p2 : Int) : Option (List Sq) := Af (A6) (p0,p1,Aq (p2 - 1))
abbrev K97 : Cn_ := ⟨[PJ,EZ,EZ,Y0],[],[],true,fun x => Bh x.1 x.2.1 x.2.2.1,none⟩
theorem k97 : KO (K97) 97 := E0 (ct := (.q (.q (.b (.l ⟨[(0,false,IK),(8,false,AZ),(9,false,AZ)],[],[0]⟩ .d))))) En BN Tryz.func97 (by kernel_rfl) fun x => by kernel_rfl
def Br (p2 : Int) (x2 : List Sq) : Int → Option (Int ⊕ Int)
  | x8 => (if x8 < p2 then (ix x2 x8).bind fun x10 => (ix x2 (Aq (x8 - 1))).bind fun x11 => (Bw x10 x11).bind fun x12 => some (!(decide (x12 < 0))) else some false).bind fun x9 => (if x9 = true then some (.inl (Aq (x8 + 1))) else some (.inr x8))
def As  : ((List Sq) × Int) → Option (((List Sq) × Int) ⊕ (List Sq))
  | (x18,x19) => (if 1 ≤ x19 then (ix x18 x19).bind fun x20 => (ix x18 (Aq (x19 - 1))).bind fun x21 => (Bw x20 x21).bind fun x22 => (if (!(decide (x22 < 0))) = true then some (.inr x18) else (ix x18 (Aq (x19 - 1))).bind fun x23 => (ix x18 x19).bind fun x24 => (ix x18 x19).bind fun x25 => (ix (AW x18 x19 x23) (Aq (x19 - 1))).bind fun x26 => some (.inl ((AW (AW x18 x19 x23) (Aq (x19 - 1)) x24),Aq (x19 - 1)))) else some (.inr x18))
def AE (p2 : Int) (x7 : Int) : ((List Sq) × Int) → Option (((List Sq) × Int) ⊕ (((List Sq) × Int) ⊕ (((List Sq) × Int × Int) ⊕ ((List Sq) ⊕ (Bool × (List Sq))))))
  | (x27,x28) => (if x28 < p2 then (ix x27 x28).bind fun x29 => (ix x27 (Aq (x28 - 1))).bind fun x30 => (Bw x29 x30).bind fun x31 => (if (!(decide (x31 < 0))) = true then some (.inr (.inl (x27,x7))) else (ix x27 (Aq (x28 - 1))).bind fun x32 => (ix x27 x28).bind fun x33 => (ix x27 x28).bind fun x34 => (ix (AW x27 x28 x32) (Aq (x28 - 1))).bind fun x35 => some (.inl ((AW (AW x27 x28 x32) (Aq (x28 - 1)) x33),Aq (x28 + 1)))) else some (.inr (.inl (x27,x7))))
def AG (p1 : Int) (p2 : Int) : ((List Sq) × Int × Int) → Option (((List Sq) × Int × Int) ⊕ ((List Sq) ⊕ (Bool × (List Sq))))
  | (x2,x3,x4) => (if x4 < 5 then Hw ((Af (Br p2 x2) x3).bind fun x7 => (if x7 = p2 then some (.inr (.inr (.inr (true,x2)))) else (if (Aq (p2 - p1)) < 50 then some (.inr (.inr (.inr (false,x2)))) else (ix x2 (Aq (x7 - 1))).bind fun x13 => (ix x2 x7).bind fun x14 => (ix x2 x7).bind fun x15 => (ix (AW x2 x7 x13) (Aq (x7 - 1))).bind fun x16 => (if 2 ≤ (Aq (x7 - p1)) then Af (As) ((AW (AW x2 x7 x13) (Aq (x7 - 1)) x14),Aq (x7 - 1)) else some (AW (AW x2 x7 x13) (Aq (x7 - 1)) x14)).bind fun x17 => (if 2 ≤ (Aq (p2 - x7)) then Af (AE p2 x7) (x17,Aq (x7 + 1)) else some (.inl (x17,x7)))))) fun (x5,x6) => some (.inl (x5,x6,Aq (x4 + 1))) else some (.inr (.inl x2)))
def AU (p0 : List Sq) (p1 : Int) (p2 : Int) : Option (Bool × (List Sq)) := Hw (Af (AG p1 p2) (p0,Aq (p1 + 1),0)) fun x1 => some (false,x1)
abbrev K98 : Cn_ := ⟨[PJ,EZ,EZ,Y0],[Lf],[],true,fun x => AU x.1 x.2.1 x.2.2.1,none⟩
theorem k98 : KO (K98) 98 := E0 (ct := (.q (.q (.j (.st true ⟨[(0,false,IK)],[],[0]⟩) (.q (.b (.l ⟨[(0,false,IK),(9,false,AZ),(10,false,AZ)],[],[0]⟩ (.q (.j (.st true ⟨[(0,false,IK),(9,false,AZ)],[],[0]⟩) (.b (.j (.st false ⟨[(9,false,AZ)],[],[]⟩) (.b (.l ⟨[(9,false,AZ)],[],[]⟩ (.s (.j (.st false ⟨[(36,false,FX)],[],[]⟩) .d .d) .d))) (.q (.q (.q (.j (.st false ⟨[(0,false,IK)],[],[0]⟩) (.q (.c (.q (.b (.l ⟨[(0,false,IK),(11,false,AZ)],[],[0]⟩ .d))) .d)) (.q (.c (.q (.b (.l ⟨[(0,false,IK),(12,false,AZ)],[],[0]⟩ .d))) .d)))))))) .d))))) .d)))) En (AJ oB BN) Tryz.func98 (by kernel_rfl) fun x => by kernel_rfl
def BJ (p1 : Int) (x7 : List Sq) (x9 : Int) : Int → Option (Int ⊕ Int)
  | x11 => (if x11 ≤ x9 then (ix x7 p1).bind fun x13 => (ix x7 x11).bind fun x14 => (Bw x13 x14).bind fun x15 => some (!(decide (x15 < 0))) else some false).bind fun x12 => (if x12 = true then some (.inl (Aq (x11 + 1))) else some (.inr x11))
def BI (p1 : Int) (x7 : List Sq) (x10 : Int) : Int → Option (Int ⊕ Int)
  | x17 => (if x10 ≤ x17 then (ix x7 p1).bind fun x19 => (ix x7 x17).bind fun x20 => (Bw x19 x20).bind fun x21 => some (decide (x21 < 0)) else some false).bind fun x18 => (if x18 = true then some (.inl (Aq (x17 - 1))) else some (.inr x17))
def Bj (p1 : Int) : ((List Sq) × Int × Int) → Option (((List Sq) × Int × Int) ⊕ (Int × (List Sq)))
  | (x7,x8,x9) => (Af (BJ p1 x7 x9) x8).bind fun x10 => (Af (BI p1 x7 x10) x9).bind fun x16 => (if x16 < x10 then some (.inr (x10,x7)) else (ix x7 x16).bind fun x22 => (ix x7 x10).bind fun x23 => (ix x7 x10).bind fun x24 => (ix (AW x7 x10 x22) x16).bind fun x25 => some (.inl ((AW (AW x7 x10 x22) x16 x23),Aq (x10 + 1),Aq (x16 - 1))))
def Bz (p0 : List Sq) (p1 : Int) (p2 : Int) (p3 : Int) : Option (Int × (List Sq)) := (ix p0 p3).bind fun x1 => (ix p0 p1).bind fun x2 => (ix p0 p1).bind fun x3 => (ix (AW p0 p1 x1) p3).bind fun x4 => (Af (Bj p1) ((AW (AW p0 p1 x1) p3 x2),Aq (p1 + 1),Aq (p2 - 1))).bind fun (x5,x6) => some (x5,x6)
abbrev K99 : Cn_ := ⟨[PJ,EZ,EZ,EZ,Y0],[LA],[],true,fun x => Bz x.1 x.2.1 x.2.2.1 x.2.2.2.1,none⟩
theorem k99 : KO (K99) 99 := E0 (ct := (.q (.q (.q (.j (.st false ⟨[(11,false,AZ),(0,false,IK)],[],[0]⟩) (.b (.l ⟨[(0,false,IK),(11,false,AZ),(12,false,AZ)],[],[0]⟩ (.b (.j (.st false ⟨[(11,false,AZ)],[],[]⟩) (.b (.l ⟨[(11,false,AZ)],[],[]⟩ (.s (.j (.st false ⟨[(47,false,FX)],[],[]⟩) .d .d) .d))) (.j (.st false ⟨[(12,false,AZ)],[],[]⟩) (.b (.l ⟨[(12,false,AZ)],[],[]⟩ (.s (.j (.st false ⟨[(65,false,FX)],[],[]⟩) .d .d) .d))) .d))))) .d))))) En (AJ oB BN) Tryz.func99 (by kernel_rfl) fun x => by kernel_rfl
def BC (p0 : List Sq) (p1 : Int) (p2 : Int) (p3 : Int) (x1 : Sq) (x2 : Sq) : Int → Option (Int ⊕ Int)
  | x6 => (if x6 ≤ (Aq (p2 - 1)) then (ix (AW (AW p0 p1 x1) p3 x2) x6).bind fun x8 => (ix (AW (AW p0 p1 x1) p3 x2) p1).bind fun x9 => (Bw x8 x9).bind fun x10 => some (decide (x10 < 0)) else some false).bind fun x7 => (if x7 = true then some (.inl (Aq (x6 + 1))) else some (.inr x6))
def B5 (p0 : List Sq) (p1 : Int) (p3 : Int) (x1 : Sq) (x2 : Sq) (x5 : Int) : Int → Option (Int ⊕ Int)
  | x12 => (if x5 ≤ x12 then (ix (AW (AW p0 p1 x1) p3 x2) x12).bind fun x14 => (ix (AW (AW p0 p1 x1) p3 x2) p1).bind fun x15 => (Bw x14 x15).bind fun x16 => some (!(decide (x16 < 0))) else some false).bind fun x13 => (if x13 = true then some (.inl (Aq (x12 - 1))) else some (.inr x12))
def B7 (p1 : Int) (x27 : List Sq) (x29 : Int) : Int → Option (Int ⊕ Int)
  | x31 => (if x31 ≤ x29 then (ix x27 x31).bind fun x33 => (ix x27 p1).bind fun x34 => (Bw x33 x34).bind fun x35 => some (decide (x35 < 0)) else some false).bind fun x32 => (if x32 = true then some (.inl (Aq (x31 + 1))) else some (.inr x31))
def B8 (p1 : Int) (x27 : List Sq) (x30 : Int) : Int → Option (Int ⊕ Int)
  | x37 => (if x30 ≤ x37 then (ix x27 x37).bind fun x39 => (ix x27 p1).bind fun x40 => (Bw x39 x40).bind fun x41 => some (!(decide (x41 < 0))) else some false).bind fun x38 => (if x38 = true then some (.inl (Aq (x37 - 1))) else some (.inr x37))
def Bg (p1 : Int) : ((List Sq) × Int × Int) → Option (((List Sq) × Int × Int) ⊕ ((List Sq) × Int))
  | (x27,x28,x29) => (Af (B7 p1 x27 x29) x28).bind fun x30 => (Af (B8 p1 x27 x30) x29).bind fun x36 => (if x36 < x30 then some (.inr (x27,x36)) else (ix x27 x36).bind fun x42 => (ix x27 x30).bind fun x43 => (ix x27 x30).bind fun x44 => (ix (AW x27 x30 x42) x36).bind fun x45 => some (.inl ((AW (AW x27 x30 x42) x36 x43),Aq (x30 + 1),Aq (x36 - 1))))
def BQ (p0 : List Sq) (p1 : Int) (p2 : Int) (p3 : Int) : Option (Int × Bool × (List Sq)) := (ix p0 p3).bind fun x1 => (ix p0 p1).bind fun x2 => (ix p0 p1).bind fun x3 => (ix (AW p0 p1 x1) p3).bind fun x4 => (Af (BC p0 p1 p2 p3 x1 x2) (Aq (p1 + 1))).bind fun x5 => (Af (B5 p0 p1 p3 x1 x2 x5) (Aq (p2 - 1))).bind fun x11 => (if x11 < x5 then (ix (AW (AW p0 p1 x1) p3 x2) p1).bind fun x17 => (ix (AW (AW p0 p1 x1) p3 x2) x11).bind fun x18 => (ix (AW (AW p0 p1 x1) p3 x2) x11).bind fun x19 => (ix (AW (AW (AW p0 p1 x1) p3 x2) x11 x17) p1).bind fun x20 => some (x11,true,(AW (AW (AW (AW p0 p1 x1) p3 x2) x11 x17) p1 x18)) else (ix (AW (AW p0 p1 x1) p3 x2) x11).bind fun x21 => (ix (AW (AW p0 p1 x1) p3 x2) x5).bind fun x22 => (ix (AW (AW p0 p1 x1) p3 x2) x5).bind fun x23 => (ix (AW (AW (AW p0 p1 x1) p3 x2) x5 x21) x11).bind fun x24 => (Af (Bg p1) ((AW (AW (AW (AW p0 p1 x1) p3 x2) x5 x21) x11 x22),Aq (x5 + 1),Aq (x11 - 1))).bind fun (x25,x26) => (ix x25 p1).bind fun x46 => (ix x25 x26).bind fun x47 => (ix x25 x26).bind fun x48 => (ix (AW x25 x26 x46) p1).bind fun x49 => some (x26,false,(AW (AW x25 x26 x46) p1 x47)))
abbrev yT : Cn_ := ⟨[PJ,EZ,EZ,EZ,Y0],[LA,Lf],[],true,fun x => BQ x.1 x.2.1 x.2.2.1 x.2.2.2.1,none⟩
theorem xL : KO (yT) 100 := E0 (ct := (.q (.q (.q (.j (.st false ⟨[(12,false,AZ)],[],[]⟩) (.b (.l ⟨[(12,false,AZ)],[],[]⟩ (.s (.j (.st false ⟨[(47,false,FX)],[],[]⟩) .d .d) .d))) (.j (.st false ⟨[(13,false,AZ)],[],[]⟩) (.b (.l ⟨[(13,false,AZ)],[],[]⟩ (.s (.j (.st false ⟨[(66,false,FX)],[],[]⟩) .d .d) .d))) (.q (.q (.q (.q (.j (.st false ⟨[(0,false,IK),(13,false,AZ)],[],[0]⟩) (.b (.l ⟨[(0,false,IK),(12,false,AZ),(13,false,AZ)],[],[0]⟩ (.b (.j (.st false ⟨[(12,false,AZ)],[],[]⟩) (.b (.l ⟨[(12,false,AZ)],[],[]⟩ (.s (.j (.st false ⟨[(120,false,FX)],[],[]⟩) .d .d) .d))) (.j (.st false ⟨[(13,false,AZ)],[],[]⟩) (.b (.l ⟨[(13,false,AZ)],[],[]⟩ (.s (.j (.st false ⟨[(139,false,FX)],[],[]⟩) .d .d) .d))) .d))))) .d))))))))))) En (AJ oB BN) Tryz.func100 (by kernel_rfl) fun x => by kernel_rfl
def Dt (p0 : Int) : Option Int := (GJ (IntKind.u64.wrap p0)).bind fun x1 => (jL (Jg .u64 1 x1) x1).bind fun x2 => some x2
abbrev wL : Cn_ := ⟨[EZ],[(.b false,[.d false (.int .u64)])],[],false,fun x => Dt x,none⟩
theorem xG : KO (wL) 126 := E0 (ct := .d) En (AJ zK BN) Tryz.func126 (by kernel_rfl) fun x => by kernel_rfl
def Cb (p0 : Int) : Int × Int := (Kd .u64 (Kd .u64 (Kd .u64 p0 (Jg .u64 p0 13)) (KZ .u64 (Kd .u64 p0 (Jg .u64 p0 13)) 7)) (Jg .u64 (Kd .u64 (Kd .u64 p0 (Jg .u64 p0 13)) (KZ .u64 (Kd .u64 p0 (Jg .u64 p0 13)) 7)) 17),Kd .u64 (Kd .u64 (Kd .u64 p0 (Jg .u64 p0 13)) (KZ .u64 (Kd .u64 p0 (Jg .u64 p0 13)) 7)) (Jg .u64 (Kd .u64 (Kd .u64 p0 (Jg .u64 p0 13)) (KZ .u64 (Kd .u64 p0 (Jg .u64 p0 13)) 7)) 17))
abbrev zD : Cn_ := ⟨[(.p,[])],[(.b false,[.d false (.int .u64)])],[(true,[.d false (.int .u64)])],false,fun x => some (Cb x),some ⟨fun x => Cb x,fun _ => rfl⟩⟩
theorem yE : KO (zD) 127 := E0 (ct := .d) En BN Tryz.func127 (by kernel_rfl) fun x => by kernel_rfl
def Bo (p1 : Int) (p2 : Int) (x1 : Int) : ((List Sq) × Int × Int) → Option (((List Sq) × Int × Int) ⊕ (List Sq))
  | (x2,x3,x4) => (if x3 ≤ (Aq ((Aq (p1 + (Aq ((Aq (Int.tdiv (Aq (p2 - p1)) 4)) * 2)))) + 1)) then (if (Aq (p2 - p1)) ≤ (Aq (Uq .u64 ((Cb x4).1) (IntKind.u64.wrap (x1 - 1)))) then some (Aq ((Aq (Uq .u64 ((Cb x4).1) (IntKind.u64.wrap (x1 - 1)))) - (Aq (p2 - p1)))) else some (Aq (Uq .u64 ((Cb x4).1) (IntKind.u64.wrap (x1 - 1))))).bind fun x5 => (ix x2 (Aq (p1 + x5))).bind fun x6 => (ix x2 x3).bind fun x7 => (ix x2 x3).bind fun x8 => (ix (AW x2 x3 x6) (Aq (p1 + x5))).bind fun x9 => some (.inl ((AW (AW x2 x3 x6) (Aq (p1 + x5)) x7),Aq (x3 + 1),(Cb x4).2)) else some (.inr x2))
def Ba (p0 : List Sq) (p1 : Int) (p2 : Int) : Option (List Sq) := (if 8 ≤ (Aq (p2 - p1)) then (Dt (Aq (p2 - p1))).bind fun x1 => Af (Bo p1 p2 x1) (p0,Aq ((Aq (p1 + (Aq ((Aq (Int.tdiv (Aq (p2 - p1)) 4)) * 2)))) - 1),IntKind.u64.wrap (Aq (p2 - p1))) else some p0)
abbrev K95 : Cn_ := ⟨[PJ,EZ,EZ,Y0],[],[],true,fun x => Ba x.1 x.2.1 x.2.2.1,none⟩
theorem k95 : KO (K95) 95 := E0 (ct := (.q (.q (.c (.q (.q (.q (.b (.l ⟨[(0,false,IK),(11,false,AZ)],[(0,[some (.d false (.int .u64))])],[0]⟩ (.q (.s (.b (.q (.j (.st false ⟨[(12,false,AZ)],[],[]⟩) .d .d))) .d))))))) .d)))) En (AJ xG (AJ yE BN)) Tryz.func95 (by kernel_rfl) fun x => by kernel_rfl
def Ah (fRec : (List Sq) → Int → Int → Int → Option (List Sq)) : ((List Sq) × Int × Int × Int × Bool × Bool) → Option (((List Sq) × Int × Int × Int × Bool × Bool) ⊕ (List Sq))
  | (x1,x2,x3,x4,x5,x6) => (if (Aq (x3 - x2)) ≤ 12 then (BB x1 x2 x3).bind fun x7 => some (.inr x7) else (if x4 = 0 then (BU x1 x2 x3).bind fun x8 => some (.inr x8) else (if (!x5) = true then (Ba x1 x2 x3).bind fun x11 => some (x11,Aq (x4 - 1)) else some (x1,x4)).bind fun (x9,x10) => (BF x9 x2 x3).bind fun x12 => (if x12.2 = 2 then (Bh x9 x2 x3).bind fun x16 => some (x16,Aq ((Aq (x3 - 1)) - (Aq (x12.1 - x2))),1) else some (x9,x12.1,x12.2)).bind fun (x13,x14,x15) => Hw (if (x5 && (x6 && decide (x15 = 1))) = true then (AU x13 x2 x3).bind fun x18 => (if x18.1 = true then some (.inr (.inr x18.2)) else some (.inl x18.2)) else some (.inl x13)) fun x17 => (if 0 < x2 then (ix x17 (Aq (x2 - 1))).bind fun x20 => (ix x17 x14).bind fun x21 => (Bw x20 x21).bind fun x22 => some (!(decide (x22 < 0))) else some false).bind fun x19 => (if x19 = true then (Bz x17 x2 x3 x14).bind fun x23 => some (.inl (x23.2,x23.1,x3,x10,(x5 && (x6 || true)),(bif x5 then x6 else x6))) else (BQ x17 x2 x3 x14).bind fun x24 => (if (Aq (x24.1 - x2)) < (Aq (x3 - x24.1)) then (fRec x24.2.2 x2 x24.1 x10).bind fun x25 => some (.inl (x25,Aq (x24.1 + 1),x3,x10,decide ((Aq (Int.tdiv (Aq (x3 - x2)) 8)) ≤ (Aq (x24.1 - x2))),x24.2.1)) else (fRec x24.2.2 (Aq (x24.1 + 1)) x3 x10).bind fun x26 => some (.inl (x26,x2,x24.1,x10,decide ((Aq (Int.tdiv (Aq (x3 - x2)) 8)) ≤ (Aq (x3 - x24.1))),x24.2.1))))))
def Ck (fRec : (List Sq) → Int → Int → Int → Option (List Sq)) (p0 : List Sq) (p1 : Int) (p2 : Int) (p3 : Int) : Option (List Sq) := Af (Ah fRec) (p0,p1,p2,p3,true,true)
def AB : Nat → (List Sq) → Int → Int → Int → Option (List Sq)
  | 0 => fun _ _ _ _ => none
  | n + 1 => Ck (AB n)
def CE (p0 : List Sq) (p1 : Int) (p2 : Int) (p3 : Int) : Option (List Sq) := E2 fun n => AB n p0 p1 p2 p3
def CY (fRec : (List Sq) → Int → Int → Int → Option (List Sq)) : ((List Sq) × Int × Int × Int × Bool × Bool) → Option (((List Sq) × Int × Int × Int × Bool × Bool) ⊕ (List Sq))
  | (x1,x2,x3,x4,x5,x6) => (if (Aq (x3 - x2)) ≤ 12 then (BB x1 x2 x3).bind fun x7 => some (.inr x7) else (if x4 = 0 then (BU x1 x2 x3).bind fun x8 => some (.inr x8) else (if (!x5) = true then (Ba x1 x2 x3).bind fun x11 => some (x11,Aq (x4 - 1)) else some (x1,x4)).bind fun (x9,x10) => (BF x9 x2 x3).bind fun x12 => (if x12.2 = 2 then (Bh x9 x2 x3).bind fun x16 => some (x16,Aq ((Aq (x3 - 1)) - (Aq (x12.1 - x2))),1) else some (x9,x12.1,x12.2)).bind fun (x13,x14,x15) => Hw (if (x5 && (x6 && decide (x15 = 1))) = true then (AU x13 x2 x3).bind fun x18 => (if x18.1 = true then some (.inr (.inr x18.2)) else some (.inl x18.2)) else some (.inl x13)) fun x17 => (if 0 < x2 then (ix x17 (Aq (x2 - 1))).bind fun x20 => (ix x17 x14).bind fun x21 => (Bw x20 x21).bind fun x22 => some (!(decide (x22 < 0))) else some false).bind fun x19 => (if x19 = true then (Bz x17 x2 x3 x14).bind fun x23 => some (.inl (x23.2,x23.1,x3,x10,x5,x6)) else (BQ x17 x2 x3 x14).bind fun x24 => (if (Aq (x24.1 - x2)) < (Aq (x3 - x24.1)) then (fRec x24.2.2 x2 x24.1 x10).bind fun x25 => some (.inl (x25,Aq (x24.1 + 1),x3,x10,decide ((Aq (Int.tdiv (Aq (x3 - x2)) 8)) ≤ (Aq (x24.1 - x2))),x24.2.1)) else (fRec x24.2.2 (Aq (x24.1 + 1)) x3 x10).bind fun x26 => some (.inl (x26,x2,x24.1,x10,decide ((Aq (Int.tdiv (Aq (x3 - x2)) 8)) ≤ (Aq (x3 - x24.1))),x24.2.1))))))
theorem GB : @CY = @Ah := by
 unfold CY Ah
 simp only [Bool.or_true,Bool.and_true,Bool.cond_self]
def Em (fRec : (List Sq) → Int → Int → Int → Option (List Sq)) (p0 : List Sq) (p1 : Int) (p2 : Int) (p3 : Int) : Option (List Sq) := Af (CY fRec) (p0,p1,p2,p3,true,true)
theorem GG : @Em = @Ck := by
 unfold Em Ck
 simp only [GB]
theorem k73 : KO (K73 fun x => CE x.1 x.2.1 x.2.2.1 x.2.2.2.1) 73 := Nq (E := te) (xs := iY) (ys := qE) (bs := []) (io := true) (nn := fun n x => AB n x.1 x.2.1 x.2.2.1 x.2.2.2.1) (st := fun g x => Ck (fun yp0 yp1 yp2 yp3 => g (yp0,yp1,yp2,yp3,())) x.1 x.2.1 x.2.2.1 x.2.2.2.1) Tryz.func73 rfl (by kernel_rfl) (fun _ => rfl) (fun _ => rfl) fun g hg => E0 (ct := (.q (.q (.b (.l ⟨[(0,false,IK),(1,false,AZ),(2,false,AZ),(3,false,AZ),(10,false,FX),(11,false,FX)],[],[0]⟩ (.b (.q (.q (.q (.j (.st false ⟨[(0,false,IK),(3,false,AZ)],[],[0]⟩) .d (.q (.j (.st false ⟨[(0,false,IK),(13,false,AZ),(14,false,AZ)],[],[0]⟩) .d (.j (.st true ⟨[(0,false,IK)],[],[0]⟩) (.j (.bl [75]) .d .d) (.s (.j (.st false ⟨[(97,false,FX)],[],[]⟩) .d .d) .d)))))))))))))) En (AJ hg (AJ oB (AJ k93 (AJ k94 (AJ k96 (AJ k97 (AJ k98 (AJ k99 (AJ xL (AJ k95 BN)))))))))) Tryz.func73 (by kernel_rfl) fun x => by rw [← GG]; kernel_rfl
def BM (p0 : List Sq) : Option (List Sq) := (GJ (IntKind.u64.wrap (p0.length : Int))).bind fun x1 => (CE p0 0 (p0.length : Int) x1).bind fun x2 => some x2
abbrev K40 : Cn_ := ⟨[PJ,Y0],[],[],true,fun x => BM x.1,none⟩
theorem k40 : KO (K40) 40 := E0 (ct := .d) En (AJ zK (AJ k73 BN)) Tryz.func40 (by kernel_rfl) fun x => by kernel_rfl
theorem GE (Y : Nat → Prop) (X : List Nat) (w0 : World) (v1 : Value) (p0 : List Sq) (r : (List Sq)) (H : BM p0 = some r) (hG : Gk X w0) (hL : Stw ⟨Y,X,w0⟩ [] [row v1 63 Hn p0] w0) :
    ca_ 40 #[v1,.func (.func 41) #[] #[]] w0 fun e w' => ∃ x : Unit,e = .returned (.tuple #[]) ∧ Stw ⟨Y,X,w0⟩ [] [row v1 63 Hn r] w' := by
 refine (k40.out (Y := Y) (X := X) (x := (p0,())) (r := r) H Aa Aa Aa Aa Aa (v1,()) trivial hL hG).mono ?_
 rintro e w' ⟨⟨b0,u⟩,he,F,hi⟩
 obtain rfl := (List.cons.inj (hi rfl)).1
 exact ⟨(),he,F⟩
theorem H40 : Has Tryz.prog 40 := Ik Tryz.func40
abbrev Re (a0 : Nat) (a1 : Int × Int × Int × Int) (a2 : Nat) (a3 : Tr37) (a4 : Value) (a5 : Value) : List (Nat × List Value) := [(a0,[Jint a1.1,Jint a1.2.1,Jint a1.2.2.1,Jint a1.2.2.2]),(a2,[Jint a3.un.1,Jint a3.un.2.1.un.1,Jint a3.un.2.1.un.2.1,Jint a3.un.2.1.un.2.2.1,a4,Jint a3.un.2.2.1,Jint a3.un.2.2.2.1,a5])]
abbrev rK (a0 : Nat) (a1 : Sq) (a2 : Nat) (a3 : Int × Int × Int × Int) (a4 : Nat) (a5 : Tr37) (a6 : Value) (a7 : Value) : List (Nat × List Value) := [(a0,[Jint a1.1,Jint a1.2.1,Jint a1.2.2.1,Jint a1.2.2.2.1,Jint a1.2.2.2.2]),(a2,[Jint a3.1,Jint a3.2.1,Jint a3.2.2.1,Jint a3.2.2.2]),(a4,[Jint a5.un.1,Jint a5.un.2.1.un.1,Jint a5.un.2.1.un.2.1,Jint a5.un.2.1.un.2.2.1,a6,Jint a5.un.2.2.1,Jint a5.un.2.2.2.1,a7])]
def ER (p0 : Tr37) (p1 : Int) (p2 : Int) (p3 : Int × Int × Int × Int) : Option (List Sq) := (El (Tr37.of (p0.un.1,f34 p0.un.2.1,p0.un.2.2.1,p0.un.2.2.2.1,p0.un.2.2.2.2)) p1 (p2,p3)).bind fun x1 => (Dg ([] : List Sq) x1).bind fun _ => (Wn (fun lg3601 => BM lg3601) x1).bind fun x3 => some x3
theorem NW (Y : Nat → Prop) (w0 : World) (v1 : Value) (v2 : Value) (p0 : Tr37) (p1 : Int) (p2 : Int) (p3 : Int × Int × Int × Int) (r : (List Sq)) (H : ER p0 p1 p2 p3 = some r) (s_v1 : Sl w0 Y Kq v1 p0.un.2.1.un.2.2.2) (s_v2 : Sl w0 Y Iv v2 p0.un.2.2.2.2) (hG : Gk [] w0) :
    ca_ 20 #[.agg #[Jint p0.un.1,Jint p0.un.2.1.un.1,Jint p0.un.2.1.un.2.1,Jint p0.un.2.1.un.2.2.1,v1,Jint p0.un.2.2.1,Jint p0.un.2.2.2.1,v2],Jint p1,Jint p2,.agg #[Jint p3.1,Jint p3.2.1,Jint p3.2.2.1,Jint p3.2.2.2]] w0 fun e w' => ∃ x : Value,e = .returned (x) ∧ sy Y w0 [] [row (x) 63 Hn r] w' := by
 refine enter Tryz.func20 Aa Tryz.ntmps20 Aa fun a W => ?_
 have F := Stw.start Y w0
 obtain ⟨v3,h1,s_v1⟩ := s_v1.ex Xi
 obtain ⟨v4,h2,s_v2⟩ := s_v2.ex ST
 have h_v1 := F.nx s_v1
 have h_v2 := F.nx s_v2
 unfold ER at H
 refine vc tk 2 W F fun a w W F => ?_
 refine H7 (cs := (QX p0 v1 v2)) W F Aa Aa Aa fun b1 a w W F => ?_
 refine H7 (cs := (Xs p3)) W F Aa Aa Aa fun b2 a w W F => ?_
 refine Vx tk 15 [1,0] W F (ai (ai fun a w W F => ?_))
 refine ls W F Aa (Gh (v := Value.agg #[Jint p2,Jint p3.1,Jint p3.2.1,Jint p3.2.2.1,Jint p3.2.2.2]) zW W Aa Aa Aa).q fun a w W F => ?_
 obtain ⟨x1,h3,H⟩ := A1 H
 refine Gf (Ml := []) (Zl := []) (β := Value) (rv := fun x => x) (MM := fun x => []) (ZZ := fun x => [BW x Co AC x1]) W F uZ Aa Aa (fun hL => Pg _ w (v1) (v2) (Tr37.of (p0.un.1,f34 p0.un.2.1,p0.un.2.2.1,p0.un.2.2.2.1,p0.un.2.2.2.2)) p1 (p2,p3) _ h3 (Sl.hide Xi h1 (F.old s_v1)) (Sl.hide ST h2 (F.old s_v2)) (hG.go0 F)) fun x a w W F => ?_
 obtain ⟨v5,rfl⟩ : ∃ y,y = x := ⟨x,rfl⟩
 have F : sy Y w0 (Re b2 p3 b1 p0 v1 v2) [BW v5 Co AC x1] w := F
 refine Nn (q := 0) W F Aa Aa Aa Aa XD fun i3601 m3601 e3601 c3601 l3601 a w hv3601 hE3601 W F => ?_
 have F : sy Y w0 (Re b2 p3 b1 p0 v1 v2) [GZ i3601 m3601 c3601 #[] c3601,Gw m3601 e3601 c3601] w := F
 refine Lg tk 3 W F fun a w W F => ?_
 have F := F.nilRow 63 Hn
 have F := F.frontZ (i := 2) Aa Aa
 have F := F.frontZ (i := 2) Aa Aa
 have F : sy Y w0 (Re b2 p3 b1 p0 v1 v2) [GZ i3601 m3601 c3601 #[] c3601,Gw m3601 e3601 c3601,row (Value.slice none 0 0) 63 Hn ([] : List Sq)] w := F
 obtain ⟨x2,h4,H⟩ := A1 H
 refine Zp (sl := 9) (v0 := (Value.slice none 0 0)) (Ff := [(0,.agg #[Jint p0.un.1,Jint p0.un.2.1.un.1,Jint p0.un.2.1.un.2.1,Jint p0.un.2.1.un.2.2.1,v1,Jint p0.un.2.2.1,Jint p0.un.2.2.2.1,v2]),(1,Jint p1),(2,Jint p2),(3,.agg #[Jint p3.1,Jint p3.2.1,Jint p3.2.2.1,Jint p3.2.2.2]),(4,pp b1),(7,pp b2),(8,.slice none 0 0),(11,.agg #[Jint p0.un.1,Jint p0.un.2.1.un.1,Jint p0.un.2.1.un.2.1,Jint p0.un.2.1.un.2.2.1,v1,Jint p0.un.2.2.1,Jint p0.un.2.2.2.1,v2]),(12,Jint p1),(13,Jint p2),(14,.agg #[Jint p3.1,Jint p3.2.1,Jint p3.2.2.1,Jint p3.2.2.2]),(15,.agg #[Jint p2,Jint p3.1,Jint p3.2.1,Jint p3.2.2.1,Jint p3.2.2.2]),(16,v5)]) (Zr := []) (re := 63) (r := Hn) h4 (W.ra Aa) F hv3601 hE3601 Aa Aa (fun kx3601 v3601_ s3601 sn3601 a w ha3601 hc3601 W F => ?_) fun v3601_ lg3601 a w hp3601 W F => ?_
 ·
  have W : Fr 29 [] [(0,.agg #[Jint p0.un.1,Jint p0.un.2.1.un.1,Jint p0.un.2.1.un.2.1,Jint p0.un.2.1.un.2.2.1,v1,Jint p0.un.2.2.1,Jint p0.un.2.2.2.1,v2]),(1,Jint p1),(2,Jint p2),(3,.agg #[Jint p3.1,Jint p3.2.1,Jint p3.2.2.1,Jint p3.2.2.2]),(4,pp b1),(7,pp b2),(8,.slice none 0 0),(9,v3601_),(11,.agg #[Jint p0.un.1,Jint p0.un.2.1.un.1,Jint p0.un.2.1.un.2.1,Jint p0.un.2.1.un.2.2.1,v1,Jint p0.un.2.2.1,Jint p0.un.2.2.2.1,v2]),(12,Jint p1),(13,Jint p2),(14,.agg #[Jint p3.1,Jint p3.2.1,Jint p3.2.2.1,Jint p3.2.2.2]),(15,.agg #[Jint p2,Jint p3.1,Jint p3.2.1,Jint p3.2.2.1,Jint p3.2.2.2]),(16,v5),(17,pp i3601),(18,.tuple #[.bool true,.agg #[Jint kx3601.1,Jint kx3601.2.1,Jint kx3601.2.2.1,Jint kx3601.2.2.2.1,Jint kx3601.2.2.2.2],.agg #[]]),(19,.bool true)] a := W.ra Aa
  have F : sy Y w0 (Re b2 p3 b1 p0 v1 v2) [GZ i3601 m3601 c3601 sn3601 c3601,Gw m3601 e3601 c3601,row v3601_ 63 Hn s3601] w := F
  refine vc tk 3 W F fun a w W F => ?_
  refine ls W F Aa (Nh (q := 0) (q' := 1) W Aa Aa Aa hc3601).q fun a w W F => ?_
  refine ls W F Aa (G8 (v := Value.agg #[Jint kx3601.1,Jint kx3601.2.1,Jint kx3601.2.2.1,Jint kx3601.2.2.2.1,Jint kx3601.2.2.2.2]) W Aa Aa).q fun a w W F => ?_
  refine GM (cs := (lF)) W F Aa oE Aa fun b3 a w W F => ?_
  refine SN 0 W F Aa Aa Aa XH Aa Aa Aa fun w F => ?_
  refine Vx tk 5 [0] W F (ai fun a w W F => ?_)
  refine Ps (z := Value.agg #[Jint 0,Jint 0,Jint 0,Jint 0,Jint 0]) (cs := (Fk kx3601)) Hn ([kx3601] : List Sq) W F Aa YM oE Aa Aa Aa Aa Aa Aa (gK.repL _ _ ([kx3601] : List Sq)) fun v6 a w W F => ?_
  refine IM (r := Hn) (i := 3) W F Aa YM Aa Aa Aa Aa (NN F 0 Aa) ha3601 Aa fun v7 a w W F => ?_
  have F : sy Y w0 (rK b3 kx3601 b2 p3 b1 p0 v1 v2) [row v7 63 Hn (s3601 ++ [kx3601]),row v6 63 Hn ([kx3601] : List Sq),GZ i3601 m3601 c3601 sn3601 c3601,Gw m3601 e3601 c3601] w := F
  refine vl tk 2 W F fun a w W F => ?_
  refine FK (Al ?_)
  have F := F.frontZ (i := 3) Aa Aa
  have F := F.frontZ (i := 3) Aa Aa
  have F := F.frontM (i := 2) Aa Aa
  have F := F.frontM (i := 2) Aa Aa
  have F := F.sub (M' := (Re b2 p3 b1 p0 v1 v2)) (Z' := [GZ i3601 m3601 c3601 sn3601 c3601,Gw m3601 e3601 c3601,row v7 63 Hn (s3601 ++ [kx3601])]) (sc (sc nl)) (sc (sc (sc nl)))
  exact ⟨v7,W.ra Aa,F⟩
 have W : Fr 29 [] [(0,.agg #[Jint p0.un.1,Jint p0.un.2.1.un.1,Jint p0.un.2.1.un.2.1,Jint p0.un.2.1.un.2.2.1,v1,Jint p0.un.2.2.1,Jint p0.un.2.2.2.1,v2]),(1,Jint p1),(2,Jint p2),(3,.agg #[Jint p3.1,Jint p3.2.1,Jint p3.2.2.1,Jint p3.2.2.2]),(4,pp b1),(7,pp b2),(8,.slice none 0 0),(9,v3601_),(11,.agg #[Jint p0.un.1,Jint p0.un.2.1.un.1,Jint p0.un.2.1.un.2.1,Jint p0.un.2.1.un.2.2.1,v1,Jint p0.un.2.2.1,Jint p0.un.2.2.2.1,v2]),(12,Jint p1),(13,Jint p2),(14,.agg #[Jint p3.1,Jint p3.2.1,Jint p3.2.2.1,Jint p3.2.2.2]),(15,.agg #[Jint p2,Jint p3.1,Jint p3.2.1,Jint p3.2.2.1,Jint p3.2.2.2]),(16,v5)] a := W.ra Aa
 have F : sy Y w0 (Re b2 p3 b1 p0 v1 v2) [BW v5 Co AC x1,row v3601_ 63 Hn lg3601] w := F
 refine GO ?_
 refine vn tk 3 W F fun a w W F => ?_
 obtain ⟨x3,h5,H⟩ := A1 H
 have h6 := Xk h5 _ hp3601
 have F := F.frontZ (i := 1) Aa Aa
 refine Gf (Ml := []) (Zl := [row v3601_ 63 Hn lg3601]) (β := Unit) (rv := fun x => .tuple #[]) (MM := fun x => []) (ZZ := fun x => [row v3601_ 63 Hn x3]) W F H40 Aa Aa (fun hL => GE _ _ w (v3601_) lg3601 _ h6 (hG.go F) hL) fun x a w W F => ?_
 have F : sy Y w0 (Re b2 p3 b1 p0 v1 v2) [row v3601_ 63 Hn x3,BW v5 Co AC x1] w := F
 refine Lg tk 8 W F fun a w W F => ?_
 refine Cq ?_
 have H := DR H
 subst H
 refine Dr (.inl Aa) W F Aa (CH W Aa) ?_
 have F := F.sub (M' := []) (Z' := [row v3601_ 63 Hn x3]) nl (sc nl)
 exact ⟨(v3601_),Aa,F⟩
abbrev K20 : Cn_ := ⟨vV,yL,[],false,fun x => ER x.1 x.2.1 x.2.2.1 x.2.2.2,none⟩
theorem k20 : KO K20 20 := KO.of ⟨fun args w => AN Tryz.func20 rfl (by decide) args w⟩ rfl (fun _ => rfl) (fun _ => rfl) rfl (fun _ => rfl) (fun _ => rfl) (fun _ => rfl) (fun _ => rfl) fun Y w0 x r g H hg hk => (NW Y w0 g.1 g.2.1 x.1 x.2.1 x.2.2.1 x.2.2.2 r H hg.1 hg.2.1 hk).mono fun e w' ⟨x,he,F⟩ => ⟨(x,()),he,F⟩
theorem H20 : Has Tryz.prog 20 := Ik Tryz.func20
def CQ (p0 : Int) : lb_ := (if p0 = 0 then ([115,114,99] : lb_) else (if p0 = 1 then ([100,115,116] : lb_) else (if p0 = 2 then ([107,105,110,100] : lb_) else (if p0 = 3 then ([116,97,103] : lb_) else (if p0 = 4 then ([112,111,114,116] : lb_) else (if p0 = 5 then ([115,119,105,116,99,104] : lb_) else ([63] : lb_)))))))
noncomputable def b86 : Code := (Tryz.f86.body).getD .skip
def xF : Ct := .d
abbrev K86 : Cn_ := ⟨tU,sV,[],false,fun x => some (CQ x),some ⟨fun x => CQ x,fun _ => rfl⟩⟩
theorem v86 (x : Int) : @Eq (Option lb_) (dF te nK ([] : GC te Tryz.prog) 16 b86 xF tU sV [] false [.tmp 2] x).den (some (CQ x)) := by simp only [CQ,apply_ite (some : lb_ → _)]; kernel_rfl
theorem k86 : KO (K86) 86 := dK En BN Tryz.func86 (by kernel_rfl) Tryz.ntmps86 rfl rfl rfl (by kernel_rfl) v86
def CC (fRec_pred_Text : Tr34 → Option lb_) (p0 : List Tr34) : (List lb_ × Int) → Option ((List lb_ × Int) ⊕ (List lb_))
  | (x2,x3) => (if x3 < (p0.length : Int) then (ix p0 x3).bind fun x4 => (fRec_pred_Text x4).bind fun x5 => (if (decide (x4.un.1 = 5) || decide (x4.un.1 = 6)) = true then (Dg ([40] : lb_) x5).bind fun x7 => (Dg x7 ([41] : lb_)).bind fun x8 => some x8 else some x5).bind fun x6 => (Dg x2 ([x6] : List lb_)).bind fun x9 => some (.inl (x9,Aq (x3 + 1))) else some (.inr x2))
def D6 (fRec_pred_Text : Tr34 → Option lb_) (p0 : List Tr34) (p1 : lb_) : Option lb_ := (Af (CC fRec_pred_Text p0) ([],0)).bind fun x1 => (I2 x1 p1).bind fun x10 => some x10
def JB (fRec_pred_Text : Tr34 → Option lb_) (p0 : List Tr34) : (List lb_ × Int) → Option ((List lb_ × Int) ⊕ (List lb_))
  | (x2,x3) => (if x3 < (p0.length : Int) then (ix p0 x3).bind fun x4 => (fRec_pred_Text (f34 x4)).bind fun x5 => (if (decide (x4.un.1 = 5) || decide (x4.un.1 = 6)) = true then (Dg ([40] : lb_) x5).bind fun x7 => (Dg x7 ([41] : lb_)).bind fun x8 => some x8 else some x5).bind fun x6 => (Dg x2 ([x6] : List lb_)).bind fun x9 => some (.inl (x9,Aq (x3 + 1))) else some (.inr x2))
theorem Qw : @JB = @CC := by
 unfold JB CC
 simp only [Tr34.re_eq]
def R5 (fRec_pred_Text : Tr34 → Option lb_) (p0 : List Tr34) (p1 : lb_) : Option lb_ := (Af (JB fRec_pred_Text p0) ([],0)).bind fun x1 => (I2 x1 p1).bind fun x10 => some x10
theorem Vd : @R5 = @D6 := by
 unfold R5 D6
 simp only [Qw]
abbrev K87 (h58 : TT te.c (CB ZS []) → Option (TT te.c (He ZS iN [] false))) : Cn_ := ⟨[Xc,(.b false,[.d true .str])],[P2],[],false,fun x => D6 h58 x.1 x.2,none⟩
theorem k87 (h58) (kh58 : KO (zF h58) 58) : KO (K87 h58) 87 := E0 (ct := (.q (.q (.j (.st false ⟨[(5,false,[.o 9 .str])],[],[]⟩) (.q (.b (.l ⟨[(5,false,[.o 9 .str]),(11,false,AZ)],[],[]⟩ (.q (.q (.s (.b (.q (.q (.j (.st false ⟨[(8,false,N6)],[],[]⟩) (.j (.bl [24]) .d .d) .d)))) .d)))))) .d)))) En (AJ kh58 (AJ fZ BN)) Tryz.func87 (by kernel_rfl) fun x => by rw [← Vd]; kernel_rfl
def DU (fRec : Tr34 → Option lb_) (p0 : Tr34) : Option lb_ := (if p0.un.1 = 1 then some ([116,114,117,101] : lb_) else (if p0.un.1 = 2 then some ([102,97,108,115,101] : lb_) else (if p0.un.1 = 3 then (Dg (CQ p0.un.2.1) ([32,61,32] : lb_)).bind fun x1 => (Px p0.un.2.2.1).bind fun x2 => (Dg x1 x2).bind fun x3 => some x3 else (if p0.un.1 = 4 then ((D6 fRec) p0.un.2.2.2 ([] : lb_)).bind fun x4 => (Dg ([110,111,116,32] : lb_) x4).bind fun x5 => some x5 else (if p0.un.1 = 5 then ((D6 fRec) p0.un.2.2.2 ([32,97,110,100,32] : lb_)).bind fun x6 => some x6 else (if p0.un.1 = 6 then ((D6 fRec) p0.un.2.2.2 ([32,111,114,32] : lb_)).bind fun x7 => some x7 else some ([63] : lb_)))))))
def DK : Nat → Tr34 → Option lb_
  | 0 => fun _ => none
  | n + 1 => DU (DK n)
def IB (p0 : Tr34) : Option lb_ := E2 fun n => DK n p0
theorem k58 : KO (zF fun x => IB x) 58 := Nq (E := te) (xs := ZS) (ys := iN) (bs := []) (io := false) (nn := fun n x => DK n x) (st := fun g x => DU g x) Tryz.func58 rfl (by kernel_rfl) (fun _ => rfl) (fun _ => rfl) fun g hg => E0 (ct := .d) En (AJ hg (AJ k86 (AJ (k87 _ hg) (AJ bA BN)))) Tryz.func58 (by kernel_rfl) fun x => by kernel_rfl
def Db (p0 : Tr34) : Option lb_ := (if p0.un.1 = 1 then some ([105,100] : lb_) else (if p0.un.1 = 2 then some ([100,114,111,112] : lb_) else (IB p0).bind fun x1 => (Dg ([119,104,101,110,32] : lb_) x1).bind fun x2 => some x2))
def I6 (p0 : Tr34) : Option lb_ := (if p0.un.1 = 1 then some ([105,100] : lb_) else (if p0.un.1 = 2 then some ([100,114,111,112] : lb_) else (IB (f34 p0)).bind fun x1 => (Dg ([119,104,101,110,32] : lb_) x1).bind fun x2 => some x2))
theorem ME : @I6 = @Db := by
 unfold I6 Db
 simp only [Tr34.re_eq]
abbrev K53 : Cn_ := ⟨[X5],[P2],[],false,fun x => Db x,none⟩
theorem k53 : KO (K53) 53 := E0 (ct := .d) En (AJ k58 BN) Tryz.func53 (by kernel_rfl) fun x => by rw [← ME]; kernel_rfl
def Cm (p0 : Int) : lb_ := (if p0 = 0 then ([115,114,99] : lb_) else (if p0 = 1 then ([100,115,116] : lb_) else (if p0 = 2 then ([107,105,110,100] : lb_) else (if p0 = 3 then ([116,97,103] : lb_) else (if p0 = 4 then ([112,111,114,116] : lb_) else ([63] : lb_))))))
noncomputable def b54 : Code := (Tryz.f54.body).getD .skip
def vR : Ct := .d
abbrev K54 : Cn_ := ⟨tS,sH,[],false,fun x => some (Cm x),some ⟨fun x => Cm x,fun _ => rfl⟩⟩
theorem v54 (x : Int) : @Eq (Option lb_) (dF te nK ([] : GC te Tryz.prog) 14 b54 vR tS sH [] false [.tmp 2] x).den (some (Cm x)) := by simp only [Cm,apply_ite (some : lb_ → _)]; kernel_rfl
theorem k54 : KO (K54) 54 := dK En BN Tryz.func54 (by kernel_rfl) Tryz.ntmps54 rfl rfl rfl (by kernel_rfl) v54
theorem H25 : Has Tryz.prog 25 := Ik Tryz.func25
def Bu (fRec_policy_Text : Tr37 → Option lb_) (p0 : List Tr37) : (List lb_ × Int) → Option ((List lb_ × Int) ⊕ (List lb_))
  | (x2,x3) => (if x3 < (p0.length : Int) then (ix p0 x3).bind fun x4 => (fRec_policy_Text (Tr37.of (x4.un.1,f34 x4.un.2.1,x4.un.2.2.1,x4.un.2.2.2.1,x4.un.2.2.2.2))).bind fun x5 => (if (decide (x4.un.1 = 3) || (decide (x4.un.1 = 4) || decide (x4.un.1 = 5))) = true then (Dg ([40] : lb_) x5).bind fun x7 => (Dg x7 ([41] : lb_)).bind fun x8 => some x8 else some x5).bind fun x6 => (Dg x2 ([x6] : List lb_)).bind fun x9 => some (.inl (x9,Aq (x3 + 1))) else some (.inr x2))
def BS (fRec_policy_Text : Tr37 → Option lb_) (p0 : List Tr37) : Option (List lb_) := (Af (Bu fRec_policy_Text p0) ([],0)).bind fun x1 => some x1
abbrev K57 (h25 : TT te.c (CB ZL []) → Option (TT te.c (He ZL i6 [] false))) : Cn_ := ⟨[(.b false,[.d true (.sl (.tr 1))])],[(.b false,[.o 9 .str])],[],false,fun x => BS h25 x,none⟩
theorem k57 (h25) (kh25 : KO (K25 h25) 25) : KO (K57 h25) 57 := E0 (ct := (.q (.q (.j (.st false ⟨[(3,false,[.o 9 .str])],[],[]⟩) (.q (.b (.l ⟨[(3,false,[.o 9 .str]),(9,false,AZ)],[],[]⟩ (.q (.q (.s (.b (.q (.q (.j (.st false ⟨[(6,false,N6)],[],[]⟩) (.j (.bl [27]) .d .d) .d)))) .d)))))) .d)))) En (AJ kh25 BN) Tryz.func57 (by kernel_rfl) fun x => by kernel_rfl
def C9 (fRec : Tr37 → Option lb_) (p0 : Tr37) : Option lb_ := (if p0.un.1 = 1 then (Db (f34 p0.un.2.1)).bind fun x1 => some x1 else (if p0.un.1 = 2 then (Dg (Cm p0.un.2.2.1) ([32,58,61,32] : lb_)).bind fun x2 => (Px p0.un.2.2.2.1).bind fun x3 => (Dg x2 x3).bind fun x4 => some x4 else (if p0.un.1 = 3 then ((BS fRec) p0.un.2.2.2.2).bind fun x5 => (I2 x5 ([59,32] : lb_)).bind fun x6 => some x6 else (if p0.un.1 = 4 then ((BS fRec) p0.un.2.2.2.2).bind fun x7 => (I2 x7 ([32,124,32] : lb_)).bind fun x8 => some x8 else (if p0.un.1 = 5 then (IB (f34 p0.un.2.1)).bind fun x9 => (Dg ([105,102,32] : lb_) x9).bind fun x10 => (Dg x10 ([32,116,104,101,110,32] : lb_)).bind fun x11 => ((BS fRec) p0.un.2.2.2.2).bind fun x12 => (I2 x12 ([32,101,108,115,101,32] : lb_)).bind fun x13 => (Dg x11 x13).bind fun x14 => some x14 else some ([63] : lb_))))))
def CP : Nat → Tr37 → Option lb_
  | 0 => fun _ => none
  | n + 1 => C9 (CP n)
def Fo (p0 : Tr37) : Option lb_ := E2 fun n => CP n p0
theorem zO : KO (K25 fun x => Fo x) 25 := Nq (E := te) (xs := ZL) (ys := i6) (bs := []) (io := false) (nn := fun n x => CP n x) (st := fun g x => C9 g x) Tryz.func25 rfl (by kernel_rfl) (fun _ => rfl) (fun _ => rfl) fun g hg => E0 (ct := .d) En (AJ hg (AJ k58 (AJ k53 (AJ k54 (AJ (k57 _ hg) (AJ bA (AJ fZ BN))))))) Tryz.func25 (by kernel_rfl) fun x => by kernel_rfl
theorem Tc (Y : Nat → Prop) (w0 : World) (v1 : Value) (v2 : Value) (p0 : Tr37) (r : lb_) (H : Fo p0 = some r) (h_v1 : Sl w0 (NX []) Kq v1 p0.un.2.1.un.2.2.2) (h_v2 : Sl w0 (NX []) Iv v2 p0.un.2.2.2.2) (hG : Gk [] w0) :
    ca_ 25 #[.agg #[Jint p0.un.1,Jint p0.un.2.1.un.1,Jint p0.un.2.1.un.2.1,Jint p0.un.2.1.un.2.2.1,v1,Jint p0.un.2.2.1,Jint p0.un.2.2.2.1,v2]] w0 fun e w' => e = .returned (.string (bs r)) ∧ Below w0.heap.size w0 w' := zO.outP (Y := Y) (x := p0) H rfl rfl rfl rfl rfl (v1,(v2,())) ⟨h_v1,⟨h_v2,trivial⟩⟩ rfl hG fun _ => rfl
def Ab (fRec_pred_Same : Tr34 → Tr34 → Option Bool) (p0 : List Tr34) (p1 : List Tr34) : Int → Option (Int ⊕ (Unit ⊕ Bool))
  | x1 => (if x1 < (p0.length : Int) then (ix p0 x1).bind fun x2 => (ix p1 x1).bind fun x3 => (fRec_pred_Same x2 x3).bind fun x4 => (if (!x4) = true then some (.inr (.inr false)) else some (.inl (Aq (x1 + 1)))) else some (.inr (.inl ())))
def Ae (fRec_pred_Same : Tr34 → Tr34 → Option Bool) (p0 : List Tr34) (p1 : List Tr34) : Option Bool := (if (p0.length : Int) ≠ (p1.length : Int) then some false else Hw (Af (Ab fRec_pred_Same p0 p1) 0) fun _ => some true)
def Bf (fRec_pred_Same : Tr34 → Tr34 → Option Bool) (p0 : List Tr34) (p1 : List Tr34) : Int → Option (Int ⊕ (Unit ⊕ Bool))
  | x1 => (if x1 < (p0.length : Int) then (ix p0 x1).bind fun x2 => (ix p1 x1).bind fun x3 => (fRec_pred_Same (f34 x2) (f34 x3)).bind fun x4 => (if (!x4) = true then some (.inr (.inr false)) else some (.inl (Aq (x1 + 1)))) else some (.inr (.inl ())))
theorem Df : @Bf = @Ab := by
 unfold Bf Ab
 simp only [Tr34.re_eq]
def B4 (fRec_pred_Same : Tr34 → Tr34 → Option Bool) (p0 : List Tr34) (p1 : List Tr34) : Option Bool := (if (p0.length : Int) ≠ (p1.length : Int) then some false else Hw (Af (Bf fRec_pred_Same p0 p1) 0) fun _ => some true)
theorem Dy : @B4 = @Ae := by
 unfold B4 Ae
 simp only [Df]
abbrev K67 (h36 : TT te.c (CB Zi []) → Option (TT te.c (He Zi iU [] false))) : Cn_ := ⟨[Xc,Xc,(.b false,[.d true (.fn 36)])],[Lf],[],false,fun x => Ae (fun yp0 yp1 => h36 (yp0,yp1)) x.1 x.2.1,none⟩
theorem k67 (h36) (kh36 : KO (K36 h36) 36) : KO (K67 h36) 67 := E0 (ct := (.q (.q (.j (.st true ⟨[],[],[]⟩) (.q (.b (.l ⟨[(17,false,AZ)],[],[]⟩ .d))) .d)))) En (AJ kh36 BN) Tryz.func67 (by kernel_rfl) fun x => by rw [← Dy]; kernel_rfl
def DT (fRec : Tr34 → Tr34 → Option Bool) (p0 : Tr34) (p1 : Tr34) : Option Bool := (if p0.un.1 = p1.un.1 then (if p0.un.2.1 = p1.un.2.1 then (if p0.un.2.2.1 = p1.un.2.2.1 then ((Ae fRec) p0.un.2.2.2 p1.un.2.2.2).bind fun x2 => some x2 else some false) else some false) else some false).bind fun x1 => some x1
def DF : Nat → Tr34 → Tr34 → Option Bool
  | 0 => fun _ _ => none
  | n + 1 => DT (DF n)
def Iy (p0 : Tr34) (p1 : Tr34) : Option Bool := E2 fun n => DF n p0 p1
theorem zV : KO (K36 fun x => Iy x.1 x.2) 36 := Nq (E := te) (xs := Zi) (ys := iU) (bs := []) (io := false) (nn := fun n x => DF n x.1 x.2) (st := fun g x => DT (fun yp0 yp1 => g (yp0,yp1)) x.1 x.2) Tryz.func36 rfl (by kernel_rfl) (fun _ => rfl) (fun _ => rfl) fun g hg => E0 (ct := (.q (.j (.st false ⟨[(4,false,FX)],[],[]⟩) .d .d))) En (AJ hg (AJ (k67 _ hg) BN)) Tryz.func36 (by kernel_rfl) fun x => by kernel_rfl
def D3 (p0 : Tr34) : Option Bool := (Iy p0 (Tr34.of (0,0,0,([] : List Tr34)))).bind fun x1 => some x1
def Lh (p0 : Tr34) : Option Bool := (Iy (f34 p0) (Tr34.of (0,0,0,([] : List Tr34)))).bind fun x1 => some x1
theorem PX : @Lh = @D3 := by
 unfold Lh D3
 simp only [Tr34.re_eq]
abbrev K88 : Cn_ := ⟨[X5],[Lf],[],false,fun x => D3 x,none⟩
theorem k88 : KO (K88) 88 := E0 (ct := .d) En (AJ zV BN) Tryz.func88 (by kernel_rfl) fun x => by rw [← PX]; kernel_rfl
def Jd (p0 : Int) : Option Int := (if (decide (p0 = 4) || decide (p0 = 5)) = true then some 7 else (Ga p0).bind fun x1 => some x1)
abbrev K89 : Cn_ := ⟨[EZ],[LA],[],false,fun x => Jd x,none⟩
theorem zM : KO (K89) 89 := E0 (ct := (.q (.s (.j (.bl [8]) .d .d) .d))) En (AJ uI BN) Tryz.func89 (by kernel_rfl) fun x => by kernel_rfl
def Hb (p0 : Tr37) : Option Bool := (if p0.un.1 = 2 then ((D3 (f34 p0.un.2.1)).bind fun x2 => (if x2 = true then (if (p0.un.2.2.2.2.length : Int) = 0 then (if 0 ≤ p0.un.2.2.1 then (if p0.un.2.2.1 ≤ 4 then (if 0 ≤ p0.un.2.2.2.1 then (Jd p0.un.2.2.1).bind fun x3 => some (decide (p0.un.2.2.2.1 ≤ x3)) else some false) else some false) else some false) else some false) else some false)).bind fun x1 => some x1 else (if (decide (p0.un.2.2.1 ≠ 0) || decide (p0.un.2.2.2.1 ≠ 0)) = true then some false else (if p0.un.1 = 1 then some (decide ((p0.un.2.2.2.2.length : Int) = 0)) else (if p0.un.1 = 3 then some true else some (decide (p0.un.1 = 4))).bind fun x4 => (if x4 = true then ((D3 (f34 p0.un.2.1)).bind fun x6 => (if x6 = true then (if 2 ≤ (p0.un.2.2.2.2.length : Int) then some (decide ((p0.un.2.2.2.2.length : Int) ≤ 8)) else some false) else some false)).bind fun x5 => some x5 else (if p0.un.1 = 5 then some (decide ((p0.un.2.2.2.2.length : Int) = 2)) else some false)))))
abbrev K65 : Cn_ := ⟨[PN],[Lf],[],false,fun x => Hb x,none⟩
theorem k65 : KO (K65) 65 := E0 (ct := (.q (.s (.q (.c (.j (.st false ⟨[(2,false,FX)],[],[]⟩) .d .d) .d)) (.s (.j (.bl [45]) .d .d) (.s (.q (.b (.q (.c .d (.j (.st false ⟨[(54,false,FX)],[],[]⟩) .d (.c (.j (.st false ⟨[(2,false,FX)],[],[]⟩) .d .d) .d)))))) .d))))) En (AJ k88 (AJ zM BN)) Tryz.func65 (by kernel_rfl) fun x => by kernel_rfl
def HP (p0 : Tr34) : Option Bool := (if p0.un.1 = 3 then (if (Dw p0.un.2.1) = true then (if 0 ≤ p0.un.2.2.1 then (Jd p0.un.2.1).bind fun x2 => (if p0.un.2.2.1 ≤ x2 then some (decide ((p0.un.2.2.2.length : Int) = 0)) else some false) else some false) else some false).bind fun x1 => some x1 else (if (decide (p0.un.2.1 ≠ 0) || decide (p0.un.2.2.1 ≠ 0)) = true then some false else (if p0.un.1 = 1 then some true else some (decide (p0.un.1 = 2))).bind fun x3 => (if x3 = true then some (decide ((p0.un.2.2.2.length : Int) = 0)) else (if p0.un.1 = 4 then some (decide ((p0.un.2.2.2.length : Int) = 1)) else (if p0.un.1 = 5 then some true else some (decide (p0.un.1 = 6))).bind fun x4 => (if x4 = true then some (decide (2 ≤ (p0.un.2.2.2.length : Int)) && decide ((p0.un.2.2.2.length : Int) ≤ 8)) else some false)))))
abbrev yA : Cn_ := ⟨[X5],[Lf],[],false,fun x => HP x,none⟩
theorem yJ : KO (yA) 118 := E0 (ct := (.q (.s (.q (.c (.j (.st false ⟨[(2,false,FX)],[],[]⟩) .d .d) .d)) (.s (.j (.bl [35]) .d .d) (.s (.q (.b (.j (.st false ⟨[(38,false,FX)],[],[]⟩) .d (.c .d (.q (.c .d (.j (.st false ⟨[(51,false,FX)],[],[]⟩) .d (.c (.j (.bl [2]) .d .d) .d)))))))) .d))))) En (AJ oH (AJ zM BN)) Tryz.func118 (by kernel_rfl) fun x => by kernel_rfl
def AH (fRec : Int → Tr34 → Int → Option (Bool × Int)) (p1 : Tr34) (p2 : Int) : (Int × Int) → Option ((Int × Int) ⊕ (Int ⊕ (Bool × Int)))
  | (x4,x5) => (if x4 < (p1.un.2.2.2.length : Int) then (ix p1.un.2.2.2 x4).bind fun x6 => (fRec x5 x6 (Aq (p2 - 1))).bind fun x7 => (if (!x7.1) = true then some (.inr (.inr (false,x7.2))) else some (.inl (Aq (x4 + 1),x7.2))) else some (.inr (.inl x5)))
def Bi (fRec : Int → Tr34 → Int → Option (Bool × Int)) (p0 : Int) (p1 : Tr34) (p2 : Int) : Option (Bool × Int) := (if (Aq (p0 - 1)) < 0 then some true else (if p2 < 1 then some true else (HP p1).bind fun x2 => some (!x2))).bind fun x1 => (if x1 = true then some (false,Aq (p0 - 1)) else Hw (Af (AH fRec p1 p2) (0,Aq (p0 - 1))) fun x3 => some (true,x3))
def AK : Nat → Int → Tr34 → Int → Option (Bool × Int)
  | 0 => fun _ _ _ => none
  | n + 1 => Bi (AK n)
def Dz (p0 : Int) (p1 : Tr34) (p2 : Int) : Option (Bool × Int) := E2 fun n => AK n p0 p1 p2
def FA (fRec : Int → Tr34 → Int → Option (Bool × Int)) (p1 : Tr34) (p2 : Int) : (Int × Int) → Option ((Int × Int) ⊕ (Int ⊕ (Bool × Int)))
  | (x4,x5) => (if x4 < (p1.un.2.2.2.length : Int) then (ix p1.un.2.2.2 x4).bind fun x6 => (fRec x5 (f34 x6) (Aq (p2 - 1))).bind fun x7 => (if (!x7.1) = true then some (.inr (.inr (false,x7.2))) else some (.inl (Aq (x4 + 1),x7.2))) else some (.inr (.inl x5)))
theorem J2 : @FA = @AH := by
 unfold FA AH
 simp only [Tr34.re_eq]
def Ht (fRec : Int → Tr34 → Int → Option (Bool × Int)) (p0 : Int) (p1 : Tr34) (p2 : Int) : Option (Bool × Int) := (if (Aq (p0 - 1)) < 0 then some true else (if p2 < 1 then some true else (HP (f34 p1)).bind fun x2 => some (!x2))).bind fun x1 => (if x1 = true then some (false,Aq (p0 - 1)) else Hw (Af (FA fRec p1 p2) (0,Aq (p0 - 1))) fun x3 => some (true,x3))
theorem Kr : @Ht = @Bi := by
 unfold Ht Bi
 simp only [J2,Tr34.re_eq]
theorem k90 : KO (K90 fun x => Dz x.2.2 x.1 x.2.1) 90 := Nq (E := te) (xs := kK) (ys := oM) (bs := [(true,AZ)]) (io := false) (nn := fun n x => AK n x.2.2 x.1 x.2.1) (st := fun g x => Bi (fun yp0 yp1 yp2 => g (yp1,yp2,yp0)) x.2.2 x.1 x.2.1) Tryz.func90 rfl (by kernel_rfl) (fun _ => rfl) (fun _ => rfl) fun g hg => E0 (ct := (.q (.q (.s (.j (.st false ⟨[(29,false,FX)],[],[]⟩) .d .d) (.j (.st true ⟨[],[(0,[some (.d false Nr)])],[]⟩) (.q (.b (.l ⟨[(33,false,AZ)],[(0,[some (.d false Nr)])],[]⟩ .d))) .d))))) En (AJ hg (AJ yJ BN)) Tryz.func90 (by kernel_rfl) fun x => by rw [← Kr]; kernel_rfl
def Fv (p0 : Tr34) : Option Bool := (Dz 64 p0 8).bind fun x1 => some x1.1
def Pq (p0 : Tr34) : Option Bool := (Dz 64 (f34 p0) 8).bind fun x1 => some x1.1
theorem Um : @Pq = @Fv := by
 unfold Pq Fv
 simp only [Tr34.re_eq]
abbrev K66 : Cn_ := ⟨[X5],[Lf],[],false,fun x => Fv x,none⟩
theorem k66 : KO (K66) 66 := E0 (ct := .d) En (AJ k90 BN) Tryz.func66 (by kernel_rfl) fun x => by rw [← Um]; kernel_rfl
def Cu (fRec : Tr34 → Option Int) (p0 : Tr34) : (Int × Int) → Option ((Int × Int) ⊕ Int)
  | (x2,x3) => (if x3 < (p0.un.2.2.2.length : Int) then (ix p0.un.2.2.2 x3).bind fun x4 => (fRec x4).bind fun x5 => some (.inl (Aq (x2 + x5),Aq (x3 + 1))) else some (.inr x2))
def C6 (fRec : Tr34 → Option Int) (p0 : Tr34) : Option Int := (Af (Cu fRec p0) (1,0)).bind fun x1 => some x1
def Dj : Nat → Tr34 → Option Int
  | 0 => fun _ => none
  | n + 1 => C6 (Dj n)
def HA (p0 : Tr34) : Option Int := E2 fun n => Dj n p0
def JH (fRec : Tr34 → Option Int) (p0 : Tr34) : (Int × Int) → Option ((Int × Int) ⊕ Int)
  | (x2,x3) => (if x3 < (p0.un.2.2.2.length : Int) then (ix p0.un.2.2.2 x3).bind fun x4 => (fRec (f34 x4)).bind fun x5 => some (.inl (Aq (x2 + x5),Aq (x3 + 1))) else some (.inr x2))
theorem QM : @JH = @Cu := by
 unfold JH Cu
 simp only [Tr34.re_eq]
def MQ (fRec : Tr34 → Option Int) (p0 : Tr34) : Option Int := (Af (JH fRec p0) (1,0)).bind fun x1 => some x1
theorem Rq : @MQ = @C6 := by
 unfold MQ C6
 simp only [QM]
theorem k34 : KO (K34 fun x => HA x) 34 := Nq (E := te) (xs := kU) (ys := nS) (bs := []) (io := false) (nn := fun n x => Dj n x) (st := fun g x => C6 g x) Tryz.func34 rfl (by kernel_rfl) (fun _ => rfl) (fun _ => rfl) fun g hg => E0 (ct := (.q (.q (.j (.st false ⟨[(3,false,AZ)],[],[]⟩) (.q (.b (.l ⟨[(3,false,AZ),(9,false,AZ)],[],[]⟩ .d))) .d)))) En (AJ hg BN) Tryz.func34 (by kernel_rfl) fun x => by rw [← Rq]; kernel_rfl
def AD (fRec : Int → Tr37 → Int → Option (Bool × Int)) (p1 : Tr37) (p2 : Int) : (Int × Int) → Option ((Int × Int) ⊕ (Int ⊕ (Bool × Int)))
  | (x7,x8) => (if x7 < (p1.un.2.2.2.2.length : Int) then (ix p1.un.2.2.2.2 x7).bind fun x9 => (fRec x8 (Tr37.of (x9.un.1,f34 x9.un.2.1,x9.un.2.2.1,x9.un.2.2.2.1,x9.un.2.2.2.2)) (Aq (p2 - 1))).bind fun x10 => (if (!x10.1) = true then some (.inr (.inr (false,x10.2))) else some (.inl (Aq (x7 + 1),x10.2))) else some (.inr (.inl x8)))
def Bx (fRec : Int → Tr37 → Int → Option (Bool × Int)) (p0 : Int) (p1 : Tr37) (p2 : Int) : Option (Bool × Int) := (if p0 < 1 then some true else (if p2 < 1 then some true else (Hb (Tr37.of (p1.un.1,f34 p1.un.2.1,p1.un.2.2.1,p1.un.2.2.2.1,p1.un.2.2.2.2))).bind fun x2 => some (!x2))).bind fun x1 => (if x1 = true then some (false,p0) else Hw (if (decide (p1.un.1 = 1) || decide (p1.un.1 = 5)) = true then (Fv (f34 p1.un.2.1)).bind fun x4 => (if (!x4) = true then some (.inr (false,Aq (p0 - 1))) else (HA (f34 p1.un.2.1)).bind fun x5 => some (.inl (Aq ((Aq (p0 - 1)) - x5)))) else some (.inl (Aq (p0 - 1)))) fun x3 => Hw (Af (AD fRec p1 p2) (0,x3)) fun x6 => some (decide (0 ≤ x6),x6))
def Ax : Nat → Int → Tr37 → Int → Option (Bool × Int)
  | 0 => fun _ _ _ => none
  | n + 1 => Bx (Ax n)
def DH (p0 : Int) (p1 : Tr37) (p2 : Int) : Option (Bool × Int) := E2 fun n => Ax n p0 p1 p2
theorem k31 : KO (K31 fun x => DH x.2.2 x.1 x.2.1) 31 := Nq (E := te) (xs := iM) (ys := qF) (bs := [(true,AZ)]) (io := false) (nn := fun n x => Ax n x.2.2 x.1 x.2.1) (st := fun g x => Bx (fun yp0 yp1 yp2 => g (yp1,yp2,yp0)) x.2.2 x.1 x.2.1) Tryz.func31 rfl (by kernel_rfl) (fun _ => rfl) (fun _ => rfl) fun g hg => E0 (ct := (.q (.s (.j (.st false ⟨[(22,false,FX)],[],[]⟩) .d .d) (.q (.j (.st true ⟨[],[(0,[some (.d false Nr)])],[]⟩) (.j (.bl [37]) .d .d) (.j (.st true ⟨[],[(0,[some (.d false Nr)])],[]⟩) (.q (.b (.l ⟨[(55,false,AZ)],[(0,[some (.d false Nr)])],[]⟩ .d))) .d)))))) En (AJ hg (AJ k65 (AJ k66 (AJ k34 BN)))) Tryz.func31 (by kernel_rfl) fun x => by kernel_rfl
theorem H15 : Has Tryz.prog 15 := Ik Tryz.func15
def Ci (fRec : Tr37 → Option Int) (p0 : Tr37) : (Int × Int) → Option ((Int × Int) ⊕ Int)
  | (x2,x3) => (if x3 < (p0.un.2.2.2.2.length : Int) then (ix p0.un.2.2.2.2 x3).bind fun x4 => (fRec (Tr37.of (x4.un.1,f34 x4.un.2.1,x4.un.2.2.1,x4.un.2.2.2.1,x4.un.2.2.2.2))).bind fun x5 => some (.inl (min (Aq (x2 * x5)) 1000,Aq (x3 + 1))) else some (.inr x2))
def Cg (fRec : Tr37 → Option Int) (p0 : Tr37) : (Int × Int) → Option ((Int × Int) ⊕ Int)
  | (x6,x7) => (if x7 < (p0.un.2.2.2.2.length : Int) then (ix p0.un.2.2.2.2 x7).bind fun x8 => (fRec (Tr37.of (x8.un.1,f34 x8.un.2.1,x8.un.2.2.1,x8.un.2.2.2.1,x8.un.2.2.2.2))).bind fun x9 => some (.inl (min (Aq (x6 + x9)) 1000,Aq (x7 + 1))) else some (.inr x6))
def Cj (fRec : Tr37 → Option Int) (p0 : Tr37) : (Int × Int) → Option ((Int × Int) ⊕ Int)
  | (x10,x11) => (if x11 < (p0.un.2.2.2.2.length : Int) then (ix p0.un.2.2.2.2 x11).bind fun x12 => (fRec (Tr37.of (x12.un.1,f34 x12.un.2.1,x12.un.2.2.1,x12.un.2.2.2.1,x12.un.2.2.2.2))).bind fun x13 => some (.inl (max x10 x13,Aq (x11 + 1))) else some (.inr x10))
def Dc (fRec : Tr37 → Option Int) (p0 : Tr37) : Option Int := (if p0.un.1 = 3 then Af (Ci fRec p0) (1,0) else (if p0.un.1 = 4 then Af (Cg fRec p0) (0,0) else (if p0.un.1 = 5 then Af (Cj fRec p0) (0,0) else some 1))).bind fun x1 => some x1
def BD : Nat → Tr37 → Option Int
  | 0 => fun _ => none
  | n + 1 => Dc (BD n)
def EA (p0 : Tr37) : Option Int := E2 fun n => BD n p0
theorem yB : KO (K15 fun x => EA x) 15 := Nq (E := te) (xs := kB) (ys := pB) (bs := []) (io := false) (nn := fun n x => BD n x) (st := fun g x => Dc g x) Tryz.func15 rfl (by kernel_rfl) (fun _ => rfl) (fun _ => rfl) fun g hg => E0 (ct := (.q (.q (.j (.st false ⟨[(3,false,AZ)],[],[]⟩) (.q (.b (.q (.c (.q (.q (.b (.l ⟨[(3,false,AZ),(17,false,AZ)],[],[]⟩ .d)))) (.q (.c (.q (.b (.l ⟨[(3,false,AZ),(32,false,AZ)],[],[]⟩ .d))) (.q (.c (.q (.b (.l ⟨[(3,false,AZ),(47,false,AZ)],[],[]⟩ .d))) .d)))))))) .d)))) En (AJ hg BN) Tryz.func15 (by kernel_rfl) fun x => by kernel_rfl
theorem SZ (Y : Nat → Prop) (w0 : World) (v1 : Value) (v2 : Value) (p0 : Tr37) (r : Int) (H : EA p0 = some r) (h_v1 : Sl w0 (NX []) Kq v1 p0.un.2.1.un.2.2.2) (h_v2 : Sl w0 (NX []) Iv v2 p0.un.2.2.2.2) (hG : Gk [] w0) :
    ca_ 15 #[.agg #[Jint p0.un.1,Jint p0.un.2.1.un.1,Jint p0.un.2.1.un.2.1,Jint p0.un.2.1.un.2.2.1,v1,Jint p0.un.2.2.1,Jint p0.un.2.2.2.1,v2]] w0 fun e w' => e = .returned (Jint r) ∧ Below w0.heap.size w0 w' := yB.outP (Y := Y) (x := p0) H rfl rfl rfl rfl rfl (v1,(v2,())) ⟨h_v1,⟨h_v2,trivial⟩⟩ rfl hG fun _ => rfl
def DE (p0 : Tr37) : Option Bool := ((DH 64 (Tr37.of (p0.un.1,f34 p0.un.2.1,p0.un.2.2.1,p0.un.2.2.2.1,p0.un.2.2.2.2)) 8).bind fun x3 => (if x3.1 = true then (EA (Tr37.of (p0.un.1,f34 p0.un.2.1,p0.un.2.2.1,p0.un.2.2.2.1,p0.un.2.2.2.2))).bind fun x4 => some (decide (x4 ≤ 64),x3.2) else some (false,x3.2))).bind fun (x1,x2) => some x1
abbrev K9 : Cn_ := ⟨[PN],[Lf],[],false,fun x => DE x,none⟩
theorem k9 : KO (K9) 9 := E0 (ct := (.q (.q (.j (.st false ⟨[(2,false,FX)],[(1,[some (.d false Nr)])],[]⟩) .d .d)))) En (AJ k31 (AJ yB BN)) Tryz.func9 (by kernel_rfl) fun x => by kernel_rfl
theorem Sc (Y : Nat → Prop) (w0 : World) (v1 : Value) (v2 : Value) (p0 : Tr37) (r : Bool) (H : DE p0 = some r) (h_v1 : Sl w0 (NX []) Kq v1 p0.un.2.1.un.2.2.2) (h_v2 : Sl w0 (NX []) Iv v2 p0.un.2.2.2.2) (hG : Gk [] w0) :
    ca_ 9 #[.agg #[Jint p0.un.1,Jint p0.un.2.1.un.1,Jint p0.un.2.1.un.2.1,Jint p0.un.2.1.un.2.2.1,v1,Jint p0.un.2.2.1,Jint p0.un.2.2.2.1,v2]] w0 fun e w' => e = .returned (.bool r) ∧ Below w0.heap.size w0 w' := k9.outP (Y := Y) (x := p0) H rfl rfl rfl rfl rfl (v1,(v2,())) ⟨h_v1,⟨h_v2,trivial⟩⟩ rfl hG fun _ => rfl
theorem H9 : Has Tryz.prog 9 := Ik Tryz.func9
abbrev QS (a0 : Nat) (a1 : Value) : List (Nat × List Value) := [(a0,[Jint 3,Jint 0,Jint 0,Jint 0,.slice none 0 0,Jint 0,Jint 0,a1])]
def G9  : Option Bool := (ER (Tr37.of (3,Tr34.of (0,0,0,([] : List Tr34)),0,0,([Tr37.of (2,Tr34.of (0,0,0,([] : List Tr34)),1,3,([] : List Tr37)),Tr37.of (2,Tr34.of (0,0,0,([] : List Tr34)),4,1,([] : List Tr37))] : List Tr37))) 0 5 (7,2,0,0)).bind fun x1 => (if (x1.length : Int) = 1 then (ix x1 0).bind fun x3 => (if x3.1 = 1 ∧ x3.2.1 = 7 ∧ x3.2.2.1 = 3 ∧ x3.2.2.2.1 = 0 ∧ x3.2.2.2.2 = 0 then (Fo (Tr37.of (3,Tr34.of (0,0,0,([] : List Tr34)),0,0,([Tr37.of (2,Tr34.of (0,0,0,([] : List Tr34)),1,3,([] : List Tr37)),Tr37.of (2,Tr34.of (0,0,0,([] : List Tr34)),4,1,([] : List Tr37))] : List Tr37)))).bind fun x4 => (if x4 = ([100,115,116,32,58,61,32,51,59,32,112,111,114,116,32,58,61,32,49] : lb_) then (DE (Tr37.of (3,Tr34.of (0,0,0,([] : List Tr34)),0,0,([Tr37.of (2,Tr34.of (0,0,0,([] : List Tr34)),1,3,([] : List Tr37)),Tr37.of (2,Tr34.of (0,0,0,([] : List Tr34)),4,1,([] : List Tr37))] : List Tr37)))).bind fun x5 => (if x5 = true then (EA (Tr37.of (3,Tr34.of (0,0,0,([] : List Tr34)),0,0,([Tr37.of (2,Tr34.of (0,0,0,([] : List Tr34)),1,3,([] : List Tr37)),Tr37.of (2,Tr34.of (0,0,0,([] : List Tr34)),4,1,([] : List Tr37))] : List Tr37)))).bind fun x6 => some (decide (x6 = 1)) else some false) else some false) else some false) else some false).bind fun x2 => some x2
theorem Ww (Y : Nat → Prop) (w0 : World)   (r : Bool) (H : G9  = some r) (hG : Gk [] w0) :
    ca_ 7 #[] w0 fun e w' => e = .returned (.bool r) ∧ Below w0.heap.size w0 w' := by
 refine enter Tryz.func7 Aa Tryz.ntmps7 Aa fun a W => ?_
 have F := Stw.start Y w0
 unfold G9 at H
 refine vc tk 7 W F fun a w W F => ?_
 refine ls W F Aa (Gh (v := Value.agg #[Jint 2,Jint 0,Jint 0,Jint 0,.slice none 0 0,Jint 1,Jint 3,.slice none 0 0]) uL W Aa Aa Aa).q fun a w W F => ?_
 refine ls W F Aa (Gh (v := Value.agg #[Jint 2,Jint 0,Jint 0,Jint 0,.slice none 0 0,Jint 4,Jint 1,.slice none 0 0]) uL W Aa Aa Aa).q fun a w W F => ?_
 refine Ps (z := Value.agg #[Jint 0,Jint 0,Jint 0,Jint 0,.slice none 0 0,Jint 0,Jint 0,.slice none 0 0]) (cs := [Jint 2,Jint 0,Jint 0,Jint 0,.slice none 0 0,Jint 1,Jint 3,.slice none 0 0,Jint 2,Jint 0,Jint 0,Jint 0,.slice none 0 0,Jint 4,Jint 1,.slice none 0 0]) Iv ([Tr37.of (2,Tr34.of (0,0,0,([] : List Tr34)),1,3,([] : List Tr37)),Tr37.of (2,Tr34.of (0,0,0,([] : List Tr34)),4,1,([] : List Tr37))] : List Tr37) W F Aa qZ lY Aa Aa Aa (D8 Aa Aa Aa (D8 Aa Aa Aa L7)) Aa Aa ⟨[Jint 2,Jint 0,Jint 0,Jint 0,Value.slice none 0 0,Jint 1,Jint 3,Value.slice none 0 0],_,Aa,(oD.2 ⟨[Jint 2],[Jint 0,Jint 0,Jint 0,Value.slice none 0 0,Jint 1,Jint 3,Value.slice none 0 0],Aa,Aa,⟨[Jint 0,Jint 0,Jint 0,Value.slice none 0 0],[Jint 1,Jint 3,Value.slice none 0 0],Aa,(pG.2 ⟨[Jint 0],[Jint 0,Jint 0,Value.slice none 0 0],Aa,Aa,⟨[Jint 0],[Jint 0,Value.slice none 0 0],Aa,Aa,⟨[Jint 0],[Value.slice none 0 0],Aa,Aa,⟨_,Aa,(Sl.nil (r := Kq))⟩⟩⟩⟩),⟨[Jint 1],[Jint 3,Value.slice none 0 0],Aa,Aa,⟨[Jint 3],[Value.slice none 0 0],Aa,Aa,⟨_,Aa,(Sl.nil (r := Iv))⟩⟩⟩⟩⟩),⟨[Jint 2,Jint 0,Jint 0,Jint 0,Value.slice none 0 0,Jint 4,Jint 1,Value.slice none 0 0],_,Aa,(oD.2 ⟨[Jint 2],[Jint 0,Jint 0,Jint 0,Value.slice none 0 0,Jint 4,Jint 1,Value.slice none 0 0],Aa,Aa,⟨[Jint 0,Jint 0,Jint 0,Value.slice none 0 0],[Jint 4,Jint 1,Value.slice none 0 0],Aa,(pG.2 ⟨[Jint 0],[Jint 0,Jint 0,Value.slice none 0 0],Aa,Aa,⟨[Jint 0],[Jint 0,Value.slice none 0 0],Aa,Aa,⟨[Jint 0],[Value.slice none 0 0],Aa,Aa,⟨_,Aa,(Sl.nil (r := Kq))⟩⟩⟩⟩),⟨[Jint 4],[Jint 1,Value.slice none 0 0],Aa,Aa,⟨[Jint 1],[Value.slice none 0 0],Aa,Aa,⟨_,Aa,(Sl.nil (r := Iv))⟩⟩⟩⟩⟩),Aa⟩⟩ fun v1 a w W F => ?_
 refine ls W F Aa (Gh (v := Value.agg #[Jint 3,Jint 0,Jint 0,Jint 0,.slice none 0 0,Jint 0,Jint 0,v1]) uL W Aa (D8 Aa Aa Aa (D8 Aa (Ph (F.one (k := 0) Aa)) Aa L7)) Aa).q fun a w W F => ?_
 refine GM (cs := (Tj)) W F Aa lY Aa fun b1 a w W F => ?_
 refine SN 0 W F Aa Aa Aa Z9 Aa Aa (AR Aa (AR Aa (AR Aa (AR Aa (AR Aa (AR Aa (AR Aa (AR (F.one (k := 0) Aa) Mt)))))))) fun w F => ?_
 refine Vx tk 5 [0] W F (ai fun a w W F => ?_)
 refine ls W F Aa (Wr (v := Value.agg #[Jint 7,Jint 2,Jint 0,Jint 0]) O1 tW W Aa Aa Aa).q fun a w W F => ?_
 obtain ⟨x1,h1,H⟩ := A1 H
 have F := F.freeze
 refine Gf (Ml := []) (Zl := []) (β := Value) (rv := fun x => x) (MM := fun x => []) (ZZ := fun x => [row x 63 Hn x1]) W F H20 Aa Aa (fun hL => NW _ w (Value.slice none 0 0) (v1) (Tr37.of (3,Tr34.of (0,0,0,([] : List Tr34)),0,0,([Tr37.of (2,Tr34.of (0,0,0,([] : List Tr34)),1,3,([] : List Tr37)),Tr37.of (2,Tr34.of (0,0,0,([] : List Tr34)),4,1,([] : List Tr37))] : List Tr37))) 0 5 (7,2,0,0) _ h1 Sl.nil (F.item (i := 0) Aa) (hG.go0 F)) fun x a w W F => ?_
 obtain ⟨v2,rfl⟩ : ∃ y,y = x := ⟨x,rfl⟩
 have F : sy Y w0 (QS b1 v1) [row v2 63 Hn x1,frz v1 Iv ([Tr37.of (2,Tr34.of (0,0,0,([] : List Tr34)),1,3,([] : List Tr37)),Tr37.of (2,Tr34.of (0,0,0,([] : List Tr34)),4,1,([] : List Tr37))] : List Tr37)] w := F
 refine vl tk 2 W F fun a w W F => ?_
 refine Al ?_
 obtain ⟨o1,G1,K1⟩ := A1 H
 refine Ek (fun a w => ∃ x2 : Bool,some (x2) = some o1 ∧ Fr 35 [] [(0,.bool x2)] a ∧ sy Y w0 (QS b1 v1) [frz v1 Iv ([Tr37.of (2,Tr34.of (0,0,0,([] : List Tr34)),1,3,([] : List Tr37)),Tr37.of (2,Tr34.of (0,0,0,([] : List Tr34)),4,1,([] : List Tr37))] : List Tr37)] w) ?_ ?_
 ·
  have H := G1
  clear G1 K1
  refine vc tk 2 W F fun a w W F => ?_
  refine ls W F Aa (Lw (r := Hn) (l := x1) ZF Aa W Aa (Ob 0 Aa)).q fun a w W F => ?_
  refine vl tk 2 W F fun a w W F => ?_
  rcases bxq (decide ((x1.length : Int) = 1)) with hb | hb
  ·
   have H := O2 (VA hb) H
   rw [hb] at W
   clear hb
   refine OS W F (AL W Aa Aa Aa Aa) Aa (CA Aa) (C1 W Aa).q fun a w W F => ?_
   obtain ⟨x3,h2,H⟩ := A1 H
   refine OS W F (AL W Aa Aa Aa Aa) Aa (CA Aa) (Hq (r := Hn) YM W Aa Aa (Ob 0 Aa) h2).q fun a w W F => ?_
   refine OS W F (AL W Aa Aa Aa Aa) Aa (CA Aa) (Er (y := Value.agg #[Jint x3.1,Jint x3.2.1,Jint x3.2.2.1,Jint x3.2.2.2.1,Jint x3.2.2.2.2]) (j := 0) (i := 0) W Aa Aa (Ob 0 Aa) h2 gK.to XH Aa).q fun a w W F => ?_
   refine OS W F (AL W Aa Aa Aa Aa) Aa (CA Aa) (Wr (v := Value.agg #[Jint 7,Jint 3,Jint 0,Jint 0]) O1 tW W Aa Aa Aa).q fun a w W F => ?_
   refine OS W F (AL W Aa Aa Aa Aa) Aa (CA Aa) (Gh (v := Value.agg #[Jint 1,Jint 7,Jint 3,Jint 0,Jint 0]) zW W Aa Aa Aa).q fun a w W F => ?_
   refine OS W F (AL W Aa Aa Aa Aa) Aa (CA Aa) (l5 (t := decide (x3.1 = 1 ∧ x3.2.1 = 7 ∧ x3.2.2.1 = 3 ∧ x3.2.2.2.1 = 0 ∧ x3.2.2.2.2 = 0)) vZ (uR _ _ _ _ _ _ _ _ _ _) W Aa Aa).q fun a w W F => ?_
   refine vl tk 2 W F fun a w W F => ?_
   rcases bxq (decide (x3.1 = 1 ∧ x3.2.1 = 7 ∧ x3.2.2.1 = 3 ∧ x3.2.2.2.1 = 0 ∧ x3.2.2.2.2 = 0)) with hb | hb
   ·
    have H := O2 (VA hb) H
    rw [hb] at W
    clear hb
    refine OS W F (AL W Aa Aa Aa Aa) Aa (CA Aa) (Eh (v := Value.agg #[Jint 3,Jint 0,Jint 0,Jint 0,.slice none 0 0,Jint 0,Jint 0,v1]) 0 W Aa Aa Z9 Aa).q fun a w W F => ?_
    refine W6 (AL W Aa Aa Aa Aa) ?_
    obtain ⟨x4,h3,H⟩ := A1 H
    refine ls W F Aa (EP (v := Value.string (bs x4)) W H25 Aa (fun w F => Tc any w (Value.slice none 0 0) (v1) (Tr37.of (3,Tr34.of (0,0,0,([] : List Tr34)),0,0,([Tr37.of (2,Tr34.of (0,0,0,([] : List Tr34)),1,3,([] : List Tr37)),Tr37.of (2,Tr34.of (0,0,0,([] : List Tr34)),4,1,([] : List Tr37))] : List Tr37))) _ h3 Sl.nil (bF (Qg 1 Aa) F) (hG.go0 F))) fun a w W F => ?_
    refine OS W F (AL W Aa Aa Aa Aa) Aa (CA Aa) (lT (l := x4) (m := ([100,115,116,32,58,61,32,51,59,32,112,111,114,116,32,58,61,32,49] : lb_)) W Aa Aa).q fun a w W F => ?_
    refine vl tk 2 W F fun a w W F => ?_
    rcases bxq (decide (x4 = ([100,115,116,32,58,61,32,51,59,32,112,111,114,116,32,58,61,32,49] : lb_))) with hb | hb
    ·
     have H := O2 (VA hb) H
     rw [hb] at W
     clear hb
     refine OS W F (AL W Aa Aa Aa Aa) Aa (CA Aa) (Eh (v := Value.agg #[Jint 3,Jint 0,Jint 0,Jint 0,.slice none 0 0,Jint 0,Jint 0,v1]) 0 W Aa Aa Z9 Aa).q fun a w W F => ?_
     refine W6 (AL W Aa Aa Aa Aa) ?_
     obtain ⟨x5,h4,H⟩ := A1 H
     refine ls W F Aa (EP (v := Value.bool x5) W H9 Aa (fun w F => Sc any w (Value.slice none 0 0) (v1) (Tr37.of (3,Tr34.of (0,0,0,([] : List Tr34)),0,0,([Tr37.of (2,Tr34.of (0,0,0,([] : List Tr34)),1,3,([] : List Tr37)),Tr37.of (2,Tr34.of (0,0,0,([] : List Tr34)),4,1,([] : List Tr37))] : List Tr37))) _ h4 Sl.nil (bF (Qg 1 Aa) F) (hG.go0 F))) fun a w W F => ?_
     refine vl tk 2 W F fun a w W F => ?_
     rcases bxq x5 with hb | hb
     ·
      have H := O2 hb H
      rw [hb] at W
      clear hb
      refine OS W F (AL W Aa Aa Aa Aa) Aa (CA Aa) (Eh (v := Value.agg #[Jint 3,Jint 0,Jint 0,Jint 0,.slice none 0 0,Jint 0,Jint 0,v1]) 0 W Aa Aa Z9 Aa).q fun a w W F => ?_
      refine W6 (AL W Aa Aa Aa Aa) ?_
      obtain ⟨x6,h5,H⟩ := A1 H
      refine ls W F Aa (EP (v := Jint x6) W H15 Aa (fun w F => SZ any w (Value.slice none 0 0) (v1) (Tr37.of (3,Tr34.of (0,0,0,([] : List Tr34)),0,0,([Tr37.of (2,Tr34.of (0,0,0,([] : List Tr34)),1,3,([] : List Tr37)),Tr37.of (2,Tr34.of (0,0,0,([] : List Tr34)),4,1,([] : List Tr37))] : List Tr37))) _ h5 Sl.nil (bF (Qg 1 Aa) F) (hG.go0 F))) fun a w W F => ?_
      refine vl tk 4 W F fun a w W F => ?_
      refine Al ?_
      have F := F.frontZ (i := 1) Aa Aa
      have F := F.sub (M' := (QS b1 v1)) (Z' := [frz v1 Iv ([Tr37.of (2,Tr34.of (0,0,0,([] : List Tr34)),1,3,([] : List Tr37)),Tr37.of (2,Tr34.of (0,0,0,([] : List Tr34)),4,1,([] : List Tr37))] : List Tr37)]) sr (sc nl)
      exact ⟨_,H,W.ra Aa,F⟩
     have H := Pa (by rw [hb]; decide) H
     rw [hb] at W
     clear hb
     refine vl tk 6 W F fun a w W F => ?_
     refine Al ?_
     have F := F.frontZ (i := 1) Aa Aa
     have F := F.sub (M' := (QS b1 v1)) (Z' := [frz v1 Iv ([Tr37.of (2,Tr34.of (0,0,0,([] : List Tr34)),1,3,([] : List Tr37)),Tr37.of (2,Tr34.of (0,0,0,([] : List Tr34)),4,1,([] : List Tr37))] : List Tr37)]) sr (sc nl)
     exact ⟨_,H,W.ra Aa,F⟩
    have H := Pa (Wu hb) H
    rw [hb] at W
    clear hb
    refine vl tk 10 W F fun a w W F => ?_
    refine Al ?_
    have F := F.frontZ (i := 1) Aa Aa
    have F := F.sub (M' := (QS b1 v1)) (Z' := [frz v1 Iv ([Tr37.of (2,Tr34.of (0,0,0,([] : List Tr34)),1,3,([] : List Tr37)),Tr37.of (2,Tr34.of (0,0,0,([] : List Tr34)),4,1,([] : List Tr37))] : List Tr37)]) sr (sc nl)
    exact ⟨_,H,W.ra Aa,F⟩
   have H := Pa (Wu hb) H
   rw [hb] at W
   clear hb
   refine vl tk 15 W F fun a w W F => ?_
   refine Al ?_
   have F := F.frontZ (i := 1) Aa Aa
   have F := F.sub (M' := (QS b1 v1)) (Z' := [frz v1 Iv ([Tr37.of (2,Tr34.of (0,0,0,([] : List Tr34)),1,3,([] : List Tr37)),Tr37.of (2,Tr34.of (0,0,0,([] : List Tr34)),4,1,([] : List Tr37))] : List Tr37)]) sr (sc nl)
   exact ⟨_,H,W.ra Aa,F⟩
  have H := Pa (Wu hb) H
  rw [hb] at W
  clear hb
  refine vl tk 23 W F fun a w W F => ?_
  refine Al ?_
  have F := F.frontZ (i := 1) Aa Aa
  have F := F.sub (M' := (QS b1 v1)) (Z' := [frz v1 Iv ([Tr37.of (2,Tr34.of (0,0,0,([] : List Tr34)),1,3,([] : List Tr37)),Tr37.of (2,Tr34.of (0,0,0,([] : List Tr34)),4,1,([] : List Tr37))] : List Tr37)]) sr (sc nl)
  exact ⟨_,H,W.ra Aa,F⟩
 rintro a w ⟨x2,hj,W,F⟩
 have hj := DR hj
 subst hj
 have H := K1
 clear G1 K1
 refine Cq ?_
 have H := DR H
 subst H
 refine Dr (.inl Aa) W F Aa (CH W Aa) ?_
 exact ⟨rfl,F.done⟩
abbrev K7 : Cn_ := ⟨xs7,ys7,[],false,fun x => G9 ,none⟩
theorem k7 : KO K7 7 := KO.of ⟨fun args w => AN Tryz.func7 rfl (by decide) args w⟩ rfl (fun _ => rfl) (fun _ => rfl) rfl (fun _ => rfl) (fun _ => rfl) (fun _ => rfl) (fun _ => rfl) fun Y w0 x r g H hg hk => (Ww Y w0   r H hk).mono fun e w' h => ⟨(),h.1,Stw.ofB h.2⟩
theorem H28 : Has Tryz.prog 28 := Ik Tryz.func28
def Dl (fRec : Tr24 → Option Tr34) (p0 : Tr24) : (Int × List Tr34) → Option ((Int × List Tr34) ⊕ (List Tr34))
  | (x2,x3) => (if x2 < (p0.un.2.2.2.length : Int) then (ix p0.un.2.2.2 x2).bind fun x4 => (fRec x4).bind fun x5 => (Dg x3 ([x5] : List Tr34)).bind fun x6 => some (.inl (Aq (x2 + 1),x6)) else some (.inr x3))
def EB (fRec : Tr24 → Option Tr34) (p0 : Tr24) : Option Tr34 := (Af (Dl fRec p0) (0,[])).bind fun x1 => some (Tr34.of (p0.un.1,p0.un.2.1,p0.un.2.2.1,x1))
def EX : Nat → Tr24 → Option Tr34
  | 0 => fun _ => none
  | n + 1 => EB (EX n)
def NR (p0 : Tr24) : Option Tr34 := E2 fun n => EX n p0
def KI (fRec : Tr24 → Option Tr34) (p0 : Tr24) : (Int × List Tr34) → Option ((Int × List Tr34) ⊕ (List Tr34))
  | (x2,x3) => (if x2 < (p0.un.2.2.2.length : Int) then (ix p0.un.2.2.2 x2).bind fun x4 => (fRec (f24 x4)).bind fun x5 => (Dg x3 ([f34 x5] : List Tr34)).bind fun x6 => some (.inl (Aq (x2 + 1),x6)) else some (.inr x3))
theorem Te : @KI = @Dl := by
 unfold KI Dl
 simp only [Tr34.re_eq,Tr24.re_eq]
def Ok (fRec : Tr24 → Option Tr34) (p0 : Tr24) : Option Tr34 := (Af (KI fRec p0) (0,[])).bind fun x1 => some (Tr34.of (p0.un.1,p0.un.2.1,p0.un.2.2.1,x1))
theorem Sv : @Ok = @EB := by
 unfold Ok EB
 simp only [Te,Tr34.re_eq]
theorem k28 : KO (K28 fun x => NR x) 28 := Nq (E := te) (xs := kN) (ys := oL) (bs := []) (io := false) (nn := fun n x => EX n x) (st := fun g x => EB g x) Tryz.func28 rfl (by kernel_rfl) (fun _ => rfl) (fun _ => rfl) fun g hg => E0 (ct := (.q (.q (.j (.st false ⟨[],[(2,[none,none,none,some (.o 34 (.tr 0))])],[]⟩) (.q (.b (.l ⟨[(4,false,AZ)],[(2,[none,none,none,some (.o 34 (.tr 0))])],[]⟩ .d))) .d)))) En (AJ hg BN) Tryz.func28 (by kernel_rfl) fun x => by rw [← Sv]; kernel_rfl
theorem R7 (Y : Nat → Prop) (w0 : World) (v1 : Value) (p0 : Tr24) (r : Tr34) (H : NR p0 = some r) (h_v1 : Sl w0 (NX []) Sn v1 p0.un.2.2.2) (hG : Gk [] w0) :
    ca_ 28 #[.agg #[Jint p0.un.1,Jint p0.un.2.1,Jint p0.un.2.2.1,v1]] w0 fun e w' => ∃ x : Value,e = .returned (.agg #[Jint r.un.1,Jint r.un.2.1,Jint r.un.2.2.1,x]) ∧ sy Y w0 [] [frz (x) Kq r.un.2.2.2] w' := by
 refine (k28.out (Y := Y) (X := []) (x := p0) (r := r) H Aa Aa Aa Aa Aa (v1,()) ⟨h_v1,trivial⟩ (Stw.start Y w0) hG).mono ?_
 rintro e w' ⟨⟨a0,u⟩,he,F,hi⟩
 exact ⟨a0,he,F⟩
theorem H8 : Has Tryz.prog 8 := Ik Tryz.func8
abbrev sK (a0 : Nat) (a1 : Tr27) (a2 : Tr34) (a3 : Value) (a4 : Nat) (a5 : Nat) (a6 : Value) (a7 : Value) : List (Nat × List Value) := [(a0,[Jint a1.un.1,Jint a2.un.1,Jint a2.un.2.1,Jint a2.un.2.2.1,a3,Jint a1.un.2.2.1,Jint a1.un.2.2.2.1,.slice none 0 0]),(a4,[Jint 0,Jint 0,Jint 0,Jint 0,.slice none 0 0,Jint 0,Jint 0,.slice none 0 0]),(a5,[Jint a1.un.1,Jint a1.un.2.1.un.1,Jint a1.un.2.1.un.2.1,Jint a1.un.2.1.un.2.2.1,a6,Jint a1.un.2.2.1,Jint a1.un.2.2.2.1,a7])]
abbrev t6 (a0 : Nat) (a1 : Nat) (a2 : Tr27) (a3 : Value) (a4 : Value) : List (Nat × List Value) := [(a0,[Jint 0,Jint 0,Jint 0,Jint 0,.slice none 0 0,Jint 0,Jint 0,.slice none 0 0]),(a1,[Jint a2.un.1,Jint a2.un.2.1.un.1,Jint a2.un.2.1.un.2.1,Jint a2.un.2.1.un.2.2.1,a3,Jint a2.un.2.2.1,Jint a2.un.2.2.2.1,a4])]
abbrev sA (a0 : Nat) (a1 : Nat) (a2 : Nat) (a3 : Tr27) (a4 : Value) (a5 : Value) : List (Nat × List Value) := [(a0,[Jint 0,Jint 0,Jint 0,Jint 0,.slice none 0 0,Jint 0,Jint 0,.slice none 0 0]),(a1,[Jint 0,Jint 0,Jint 0,Jint 0,.slice none 0 0,Jint 0,Jint 0,.slice none 0 0]),(a2,[Jint a3.un.1,Jint a3.un.2.1.un.1,Jint a3.un.2.1.un.2.1,Jint a3.un.2.1.un.2.2.1,a4,Jint a3.un.2.2.1,Jint a3.un.2.2.2.1,a5])]
abbrev RC (a0 : Nat) (a1 : Tr27) (a2 : Tr34) (a3 : Value) (a4 : Value) (a5 : Nat) (a6 : Nat) (a7 : Value) (a8 : Value) : List (Nat × List Value) := [(a0,[Jint a1.un.1,Jint a2.un.1,Jint a2.un.2.1,Jint a2.un.2.2.1,a3,Jint a1.un.2.2.1,Jint a1.un.2.2.2.1,a4]),(a5,[Jint 0,Jint 0,Jint 0,Jint 0,.slice none 0 0,Jint 0,Jint 0,.slice none 0 0]),(a6,[Jint a1.un.1,Jint a1.un.2.1.un.1,Jint a1.un.2.1.un.2.1,Jint a1.un.2.1.un.2.2.1,a7,Jint a1.un.2.2.1,Jint a1.un.2.2.2.1,a8])]
abbrev l6 (a0 : Tr27) (a1 : Tr34) (a2 : Value) (a3 : Value) : List Value := [Jint a0.un.1,Jint a1.un.1,Jint a1.un.2.1,Jint a1.un.2.2.1,a2,Jint a0.un.2.2.1,Jint a0.un.2.2.2.1,a3]
def D4 (fRec : Tr27 → Option Tr37) (p0 : Tr27) : (Int × List Tr37) → Option ((Int × List Tr37) ⊕ (List Tr37))
  | (x3,x4) => (if x3 < (p0.un.2.2.2.2.length : Int) then (ix p0.un.2.2.2.2 x3).bind fun x5 => (fRec (Tr27.of (x5.un.1,f24 x5.un.2.1,x5.un.2.2.1,x5.un.2.2.2.1,x5.un.2.2.2.2))).bind fun x6 => (Dg x4 ([Tr37.of (x6.un.1,f34 x6.un.2.1,x6.un.2.2.1,x6.un.2.2.2.1,x6.un.2.2.2.2)] : List Tr37)).bind fun x7 => some (.inl (Aq (x3 + 1),x7)) else some (.inr x4))
def Fm (fRec : Tr27 → Option Tr37) (p0 : Tr27) : Option Tr37 := (NR (f24 p0.un.2.1)).bind fun x1 => (Af (D4 fRec p0) (0,[])).bind fun x2 => some (Tr37.of (p0.un.1,x1,p0.un.2.2.1,p0.un.2.2.2.1,x2))
def EY : Nat → Tr27 → Option Tr37
  | 0 => fun _ => none
  | n + 1 => Fm (EY n)
def LM (p0 : Tr27) : Option Tr37 := E2 fun n => EY n p0
theorem UD (fRec : Tr27 → Option Tr37) (ih : ∀ (Y : Nat → Prop) (w0 : World) (v1 : Value) (v2 : Value) (p0 : Tr27) (r : Tr37) (H : fRec p0 = some r) (h_v1 : Sl w0 (NX []) Sn v1 p0.un.2.1.un.2.2.2) (h_v2 : Sl w0 (NX []) U6 v2 p0.un.2.2.2.2) (hG : Gk [] w0),ca_ 8 #[.agg #[Jint p0.un.1,Jint p0.un.2.1.un.1,Jint p0.un.2.1.un.2.1,Jint p0.un.2.1.un.2.2.1,v1,Jint p0.un.2.2.1,Jint p0.un.2.2.2.1,v2]] w0 fun e w' => ∃ x : Value × Value,e = .returned (.agg #[Jint r.un.1,Jint r.un.2.1.un.1,Jint r.un.2.1.un.2.1,Jint r.un.2.1.un.2.2.1,x.1,Jint r.un.2.2.1,Jint r.un.2.2.2.1,x.2]) ∧ sy Y w0 [] [frz (x.1) Kq r.un.2.1.un.2.2.2,frz (x.2) Iv r.un.2.2.2.2] w') (Y : Nat → Prop) (w0 : World) (v1 : Value) (v2 : Value) (p0 : Tr27) (r : Tr37) (H : Fm fRec p0 = some r) (h_v1 : Sl w0 (NX []) Sn v1 p0.un.2.1.un.2.2.2) (h_v2 : Sl w0 (NX []) U6 v2 p0.un.2.2.2.2) (hG : Gk [] w0) :
    ca_ 8 #[.agg #[Jint p0.un.1,Jint p0.un.2.1.un.1,Jint p0.un.2.1.un.2.1,Jint p0.un.2.1.un.2.2.1,v1,Jint p0.un.2.2.1,Jint p0.un.2.2.2.1,v2]] w0 fun e w' => ∃ x : Value × Value,e = .returned (.agg #[Jint r.un.1,Jint r.un.2.1.un.1,Jint r.un.2.1.un.2.1,Jint r.un.2.1.un.2.2.1,x.1,Jint r.un.2.2.1,Jint r.un.2.2.2.1,x.2]) ∧ sy Y w0 [] [frz (x.1) Kq r.un.2.1.un.2.2.2,frz (x.2) Iv r.un.2.2.2.2] w' := by
 refine enter Tryz.func8 Aa Tryz.ntmps8 Aa fun a W => ?_
 have F := Stw.start Y w0
 obtain ⟨v3,h1,h_v1⟩ := h_v1.ex Zc
 obtain ⟨v4,h2,h_v2⟩ := h_v2.ex j5
 unfold Fm at H
 refine vc tk 2 W F fun a w W F => ?_
 refine H7 (cs := (P4 p0 v1 v2)) W F Aa Aa Aa fun b1 a w W F => ?_
 refine GM (cs := (Tj)) W F Aa lY Aa fun b2 a w W F => ?_
 refine Lg tk 3 W F fun a w W F => ?_
 obtain ⟨x1,h3,H⟩ := A1 H
 refine gU (fun a w => ∃ b3 : Nat, ∃ v5 : Value,Fr 34 [] [(0,.agg #[Jint p0.un.1,Jint p0.un.2.1.un.1,Jint p0.un.2.1.un.2.1,Jint p0.un.2.1.un.2.2.1,v1,Jint p0.un.2.2.1,Jint p0.un.2.2.2.1,v2]),(1,pp b1),(2,pp b2),(3,pp b3),(5,pp b1),(6,Jint p0.un.1),(7,.pointer (some ⟨b1,1,none⟩)),(8,.agg #[Jint p0.un.2.1.un.1,Jint p0.un.2.1.un.2.1,Jint p0.un.2.1.un.2.2.1,v1]),(9,.agg #[Jint x1.un.1,Jint x1.un.2.1,Jint x1.un.2.2.1,v5]),(10,.pointer (some ⟨b1,5,none⟩)),(11,Jint p0.un.2.2.1),(12,.pointer (some ⟨b1,6,none⟩)),(13,Jint p0.un.2.2.2.1),(14,.agg #[Jint p0.un.1,Jint x1.un.1,Jint x1.un.2.1,Jint x1.un.2.2.1,v5,Jint p0.un.2.2.1,Jint p0.un.2.2.2.1,.slice none 0 0])] a ∧ sy Y w0 (sK b3 p0 x1 v5 b2 b1 v1 v2) [frz v5 Kq x1.un.2.2.2] w) ?_ ?_
 ·
  refine dO (PT.st 0 (PT.st 1 (PT.st 2 (PT.st 3 (PT.st 5 (PT.st 6 (PT.st 7 (PT.st 8 (PT.alt 4 (PT.st 9 (PT.alt 10 (PT.alt 11 PT.done PT.stop) PT.stop)) (PT.alt 10 (PT.alt 4 (PT.st 9 (PT.alt 11 PT.done PT.stop)) PT.stop) PT.stop)))))))))) (CN ⟨Y,[],w0⟩ [(some 11,b1,[Jint p0.un.1,Jint p0.un.2.1.un.1,Jint p0.un.2.1.un.2.1,Jint p0.un.2.1.un.2.2.1,v1,Jint p0.un.2.2.1,Jint p0.un.2.2.2.1,v2]),(some 4,b1,[Jint p0.un.1,Jint p0.un.2.1.un.1,Jint p0.un.2.1.un.2.1,Jint p0.un.2.1.un.2.2.1,v1,Jint p0.un.2.2.1,Jint p0.un.2.2.2.1,v2])] []) (fun ch a d v w h => by cases d <;> exact h) MO (by kernel_rfl) F (fun w F => ⟨_,_,F,(all_cons (fun _ => (.tail _ (.head _))) (all_cons (fun _ => (.tail _ (.head _))) B6)),B6⟩) fun w F => ?_
  refine SG (R := []) W Aa Aa (yC fun M Z hN hZ => Bm P3 Aa Aa Aa T3 W Aa 0 Aa) Aa Aa fun a W => ?_
  refine SG (R := [11]) W Aa Aa (yC fun M Z hN hZ => GA (cs := (P4 p0 v1 v2)) (v := Jint p0.un.1) W Aa (hN ((some 11),b1,(P4 p0 v1 v2)) (.head _) Aa) T3 Aa) (by kernel_rfl) Aa fun a W => ?_
  refine SG (R := []) W Aa Aa (yC fun M Z hN hZ => Bm P3 Aa Aa Aa zJ W Aa 1 Aa) Aa Aa fun a W => ?_
  refine SG (R := [4]) W Aa Aa (yC fun M Z hN hZ => GA (cs := (P4 p0 v1 v2)) (v := Value.agg #[Jint p0.un.2.1.un.1,Jint p0.un.2.1.un.2.1,Jint p0.un.2.1.un.2.2.1,v1]) W Aa (hN ((some 4),b1,(P4 p0 v1 v2)) (.tail _ (.head _)) Aa) zJ Aa) (by kernel_rfl) Aa fun a W => ?_
  refine SG (R := []) W Aa Aa (yC fun M Z hN hZ => Bm P3 Aa Aa Aa T3 W Aa 5 Aa) Aa Aa fun a W => ?_
  refine SG (R := [11]) W Aa Aa (yC fun M Z hN hZ => GA (cs := (P4 p0 v1 v2)) (v := Jint p0.un.2.2.1) W Aa (hN ((some 11),b1,(P4 p0 v1 v2)) (.head _) Aa) T3 Aa) (by kernel_rfl) Aa fun a W => ?_
  refine SG (R := []) W Aa Aa (yC fun M Z hN hZ => Bm P3 Aa Aa Aa T3 W Aa 6 Aa) Aa Aa fun a W => ?_
  refine SG (R := [11]) W Aa Aa (yC fun M Z hN hZ => GA (cs := (P4 p0 v1 v2)) (v := Jint p0.un.2.2.2.1) W Aa (hN ((some 11),b1,(P4 p0 v1 v2)) (.head _) Aa) T3 Aa) (by kernel_rfl) Aa fun a W => ?_
  refine pP Aa ?_ ?_
  ·
   refine Gf (Ml := []) (Zl := []) (β := Value) (rv := fun x => .agg #[Jint x1.un.1,Jint x1.un.2.1,Jint x1.un.2.2.1,x]) (MM := fun x => []) (ZZ := fun x => [frz x Kq x1.un.2.2.2]) W F H28 Aa Aa (fun hL => R7 _ w (v1) (f24 p0.un.2.1) _ h3 ((Hk Zc h1 (BZ h_v1)) w F).nx (hG.go0 F)) fun x a w W F => ?_
   obtain ⟨v5,rfl⟩ : ∃ y,y = x := ⟨x,rfl⟩
   have F : sy Y w0 (t6 b2 b1 p0 v1 v2) [frz v5 Kq x1.un.2.2.2] w := F
   refine Mh (N2 := []) (NZ2 := []) (N3 := [(some 11,b1,[Jint p0.un.1,Jint p0.un.2.1.un.1,Jint p0.un.2.1.un.2.1,Jint p0.un.2.1.un.2.2.1,v1,Jint p0.un.2.2.1,Jint p0.un.2.2.2.1,v2]),(some 4,b1,[Jint p0.un.1,Jint p0.un.2.1.un.1,Jint p0.un.2.1.un.2.1,Jint p0.un.2.1.un.2.2.1,v1,Jint p0.un.2.2.1,Jint p0.un.2.2.2.1,v2])]) (NZ3 := []) F Aa Aa (all_cons (fun _ => (.tail _ (.head _))) (all_cons (fun h => CT (by kernel_rfl) h) B6)) B6 ?_
   refine SG (R := []) W Aa Aa (yC fun M Z hN hZ => Gh (v := Value.agg #[Jint p0.un.1,Jint x1.un.1,Jint x1.un.2.1,Jint x1.un.2.2.1,v5,Jint p0.un.2.2.1,Jint p0.un.2.2.2.1,.slice none 0 0]) uL W Aa (D8 Aa Aa Aa (D8 Aa Aa Aa (D8 Aa Aa Aa (D8 Aa Aa Aa L7)))) Aa) Aa Aa fun a W => ?_
   refine Y7 Aa ?_
   refine GM (cs := (Tj)) W F Aa lY Aa fun b3 a w W F => ?_
   refine Mh (N2 := []) (NZ2 := []) (N3 := [(some 11,b1,[Jint p0.un.1,Jint p0.un.2.1.un.1,Jint p0.un.2.1.un.2.1,Jint p0.un.2.1.un.2.2.1,v1,Jint p0.un.2.2.1,Jint p0.un.2.2.2.1,v2]),(some 4,b1,[Jint p0.un.1,Jint p0.un.2.1.un.1,Jint p0.un.2.1.un.2.1,Jint p0.un.2.1.un.2.2.1,v1,Jint p0.un.2.2.1,Jint p0.un.2.2.2.1,v2])]) (NZ3 := []) F Aa Aa (all_cons (fun _ => (.tail _ (.tail _ (.head _)))) (all_cons (fun h => CT (by kernel_rfl) h) B6)) B6 ?_
   refine Y7 Aa ?_
   refine SN 0 W F Aa Aa Aa Z9 Aa Aa (AR Aa (AR Aa (AR Aa (AR Aa (AR (F.oneF (k := 0) Aa) (AR Aa (AR Aa (AR Aa Mt)))))))) fun w F => ?_
   refine Mh (N2 := []) (NZ2 := []) (N3 := [(some 11,b1,[Jint p0.un.1,Jint p0.un.2.1.un.1,Jint p0.un.2.1.un.2.1,Jint p0.un.2.1.un.2.2.1,v1,Jint p0.un.2.2.1,Jint p0.un.2.2.2.1,v2]),(some 4,b1,[Jint p0.un.1,Jint p0.un.2.1.un.1,Jint p0.un.2.1.un.2.1,Jint p0.un.2.1.un.2.2.1,v1,Jint p0.un.2.2.1,Jint p0.un.2.2.2.1,v2])]) (NZ3 := []) F Aa Aa (all_cons (fun h => CT (by kernel_rfl) h) (all_cons (fun h => CT (by kernel_rfl) h) B6)) B6 ?_
   have F := F.frontM (i := 2) Aa Aa
   have F := F.frontM (i := 2) Aa Aa
   have F := F.frontM (i := 2) Aa Aa
   refine dB ?_
   exact ⟨b3,v5,W.ra Aa,F⟩
  refine pP Aa ?_ ?_
  ·
   refine GM (cs := (Tj)) W F Aa lY Aa fun b3 a w W F => ?_
   refine Mh (N2 := []) (NZ2 := []) (N3 := [(some 11,b1,[Jint p0.un.1,Jint p0.un.2.1.un.1,Jint p0.un.2.1.un.2.1,Jint p0.un.2.1.un.2.2.1,v1,Jint p0.un.2.2.1,Jint p0.un.2.2.2.1,v2]),(some 4,b1,[Jint p0.un.1,Jint p0.un.2.1.un.1,Jint p0.un.2.1.un.2.1,Jint p0.un.2.1.un.2.2.1,v1,Jint p0.un.2.2.1,Jint p0.un.2.2.2.1,v2])]) (NZ3 := []) F Aa Aa (all_cons (fun _ => (.tail _ (.tail _ (.head _)))) (all_cons (fun _ => (.tail _ (.tail _ (.head _)))) B6)) B6 ?_
   refine Y7 Aa ?_
   refine Gf (Ml := []) (Zl := []) (β := Value) (rv := fun x => .agg #[Jint x1.un.1,Jint x1.un.2.1,Jint x1.un.2.2.1,x]) (MM := fun x => []) (ZZ := fun x => [frz x Kq x1.un.2.2.2]) W F H28 Aa Aa (fun hL => R7 _ w (v1) (f24 p0.un.2.1) _ h3 ((Hk Zc h1 (BZ h_v1)) w F).nx (hG.go0 F)) fun x a w W F => ?_
   obtain ⟨v5,rfl⟩ : ∃ y,y = x := ⟨x,rfl⟩
   have F : sy Y w0 (sA b3 b2 b1 p0 v1 v2) [frz v5 Kq x1.un.2.2.2] w := F
   refine Mh (N2 := []) (NZ2 := []) (N3 := [(some 11,b1,[Jint p0.un.1,Jint p0.un.2.1.un.1,Jint p0.un.2.1.un.2.1,Jint p0.un.2.1.un.2.2.1,v1,Jint p0.un.2.2.1,Jint p0.un.2.2.2.1,v2]),(some 4,b1,[Jint p0.un.1,Jint p0.un.2.1.un.1,Jint p0.un.2.1.un.2.1,Jint p0.un.2.1.un.2.2.1,v1,Jint p0.un.2.2.1,Jint p0.un.2.2.2.1,v2])]) (NZ3 := []) F Aa Aa (all_cons (fun _ => (.tail _ (.tail _ (.head _)))) (all_cons (fun h => CT (by kernel_rfl) h) B6)) B6 ?_
   refine SG (R := []) W Aa Aa (yC fun M Z hN hZ => Gh (v := Value.agg #[Jint p0.un.1,Jint x1.un.1,Jint x1.un.2.1,Jint x1.un.2.2.1,v5,Jint p0.un.2.2.1,Jint p0.un.2.2.2.1,.slice none 0 0]) uL W Aa (D8 Aa Aa Aa (D8 Aa Aa Aa (D8 Aa Aa Aa (D8 Aa Aa Aa L7)))) Aa) Aa Aa fun a W => ?_
   refine Y7 Aa ?_
   refine SN 0 W F Aa Aa Aa Z9 Aa Aa (AR Aa (AR Aa (AR Aa (AR Aa (AR (F.oneF (k := 0) Aa) (AR Aa (AR Aa (AR Aa Mt)))))))) fun w F => ?_
   refine Mh (N2 := []) (NZ2 := []) (N3 := [(some 11,b1,[Jint p0.un.1,Jint p0.un.2.1.un.1,Jint p0.un.2.1.un.2.1,Jint p0.un.2.1.un.2.2.1,v1,Jint p0.un.2.2.1,Jint p0.un.2.2.2.1,v2]),(some 4,b1,[Jint p0.un.1,Jint p0.un.2.1.un.1,Jint p0.un.2.1.un.2.1,Jint p0.un.2.1.un.2.2.1,v1,Jint p0.un.2.2.1,Jint p0.un.2.2.2.1,v2])]) (NZ3 := []) F Aa Aa (all_cons (fun h => CT (by kernel_rfl) h) (all_cons (fun h => CT (by kernel_rfl) h) B6)) B6 ?_
   have F := F.frontM (i := 2) Aa Aa
   have F := F.frontM (i := 2) Aa Aa
   have F := F.frontM (i := 2) Aa Aa
   refine dB ?_
   exact ⟨b3,v5,W.ra Aa,F⟩
  exact trivial
 rintro a w ⟨b3,v5,W,F⟩
 refine Al ?_
 obtain ⟨o1,G1,K1⟩ := A1 H
 refine Ek (fun a w => ∃ x2 : List Tr37, ∃ v6 : Value,some (x2) = some o1 ∧ Fr 34 [] [(2,pp b2),(3,pp b3)] a ∧ sy Y w0 (RC b3 p0 x1 v5 v6 b2 b1 v1 v2) [frz v5 Kq x1.un.2.2.2,row v6 37 Iv x2] w) ?_ ?_
 ·
  have H := G1
  clear G1 K1
  refine vc tk 6 W F fun a w W F => ?_
  have F := F.nilRow 37 Iv
  have F := F.frontZ (i := 1) Aa Aa
  have F := F.frontM (i := 2) Aa Aa
  have F := F.frontM (i := 2) Aa Aa
  have F := F.frontM (i := 2) Aa Aa
  refine Jq H (fun s a w => ∃ v7 : Value,Fr 34 [] [(1,pp b1),(2,pp b2),(3,pp b3),(4,Jint s.1)] a ∧ sy Y w0 (RC b3 p0 x1 v5 v7 b2 b1 v1 v2) [frz v5 Kq x1.un.2.2.2,row v7 37 Iv s.2] w) ⟨(Value.slice none 0 0),W.ra Aa,F⟩ fun s o a w H L2 hR => ?_
  obtain ⟨x3,x4⟩ := s
  obtain ⟨v7,W,F⟩ := hR
  have W : Fr 34 [] [(1,pp b1),(2,pp b2),(3,pp b3),(4,Jint x3)] a := W
  have F : sy Y w0 (RC b3 p0 x1 v5 v7 b2 b1 v1 v2) [frz v5 Kq x1.un.2.2.2,row v7 37 Iv x4] w := F
  rw [D4] at H
  refine U7 tk 6 [2] W F (ai fun a w W F => ?_)
  refine ls W F Aa (Lw (r := U6) (l := p0.un.2.2.2.2) n0 Aa W Aa (Hk j5 h2 (BZ h_v2))).q fun a w W F => ?_
  refine Lg tk 3 W F fun a w W F => ?_
  refine Ia W Aa H (fun W H => ?_) fun W H => ?_
  ·
   refine W1 tk 4 W F fun a w W F => ?_
   obtain ⟨v8,h4,F⟩ := F.exF Xi
   have F := F.frontZ (i := 1) Aa Aa
   obtain ⟨v9,h5,F⟩ := F.exR ST
   refine V7 [(true,0),(true,1),(true,2),(true,3),(true,4),(true,5),(true,6),(false,7),(false,8),(false,9),(true,10),(false,11)] (CN ⟨Y,[],w0⟩ [(some 9,b3,[Jint p0.un.1,Jint x1.un.1,Jint x1.un.2.1,Jint x1.un.2.2.1,v5,Jint p0.un.2.2.1,Jint p0.un.2.2.2.1,v7]),(some 7,b1,[Jint p0.un.1,Jint p0.un.2.1.un.1,Jint p0.un.2.1.un.2.1,Jint p0.un.2.1.un.2.2.1,v1,Jint p0.un.2.2.1,Jint p0.un.2.2.2.1,v2])] []) (fun ch a d v w h => by cases d <;> exact h) MO (by kernel_rfl) F (fun w F => ⟨_,_,F,(all_cons (fun _ => (.head _)) (all_cons (fun _ => (.tail _ (.tail _ (.head _)))) B6)),B6⟩) fun w F => ?_
   refine O4 (R := []) W Aa Aa (yC fun M Z hN hZ => Bm jW Aa Aa Aa uU W Aa 7 Aa) Aa Aa fun a W => ?_
   refine O4 (R := [9]) W Aa Aa (yC fun M Z hN hZ => GA (cs := (l6 p0 x1 v5 v7)) (v := v7) W Aa (hN ((some 9),b3,(l6 p0 x1 v5 v7)) (.head _) Aa) uU Aa) (by kernel_rfl) Aa fun a W => ?_
   refine O4 (R := []) W Aa Aa (yC fun M Z hN hZ => Bm P3 Aa Aa Aa T25 W Aa 7 Aa) Aa Aa fun a W => ?_
   refine O4 (R := [7,6,5]) W Aa Aa (yC fun M Z hN hZ => GA (cs := (P4 p0 v1 v2)) (v := v2) W Aa (hN ((some 7),b1,(P4 p0 v1 v2)) (.tail _ (.head _)) Aa) T25 Aa) (by kernel_rfl) Aa fun a W => ?_
   refine O4 (R := []) W Aa Aa (yC fun M Z hN hZ => C1 W Aa) Aa Aa fun a W => ?_
   obtain ⟨x5,h6,H⟩ := A1 H
   obtain ⟨v10,h7,h8⟩ := TY h2 h6
   have h9 : bC v10 = [Jint x5.un.1,Jint x5.un.2.1.un.1,Jint x5.un.2.1.un.2.1,Jint x5.un.2.1.un.2.2.1,(v10.2.1.2.2.2.1),Jint x5.un.2.2.1,Jint x5.un.2.2.2.1,(v10.2.2.2.2.1)] := congrArg (fun q : Tr27 => ([Jint q.un.1,Jint q.un.2.1.un.1,Jint q.un.2.1.un.2.1,Jint q.un.2.1.un.2.2.1,(v10.2.1.2.2.2.1),Jint q.un.2.2.1,Jint q.un.2.2.2.1,(v10.2.2.2.2.1)] : List Value)) h8
   refine O4 (R := []) W Aa Aa (yC fun M Z hN hZ => Hq (r := gT) zN W Aa Aa (BZ h_v2) h7) Aa Aa fun a W => ?_
   refine O4 (R := []) W Aa Aa (yC fun M Z hN hZ => Er (y := Value.agg #[Jint x5.un.1,Jint x5.un.2.1.un.1,Jint x5.un.2.1.un.2.1,Jint x5.un.2.1.un.2.2.1,(v10.2.1.2.2.2.1),Jint x5.un.2.2.1,Jint x5.un.2.2.2.1,(v10.2.2.2.2.1)]) (j := 0) (i := x3) (enc := bC) W Aa Aa (BZ h_v2) h7 sS T27 (by rw [h9]; rfl)) Aa Aa fun a W => ?_
   refine Xz Aa ?_
   obtain ⟨x6,h10,H⟩ := A1 H
   refine Gf (Ml := []) (Zl := []) (β := Value × Value) (rv := fun x => .agg #[Jint x6.un.1,Jint x6.un.2.1.un.1,Jint x6.un.2.1.un.2.1,Jint x6.un.2.1.un.2.2.1,x.1,Jint x6.un.2.2.1,Jint x6.un.2.2.2.1,x.2]) (MM := fun x => []) (ZZ := fun x => [frz x.1 Kq x6.un.2.1.un.2.2.2,frz x.2 Iv x6.un.2.2.2.2]) W F H8 Aa Aa (fun hL => ih _ w ((v10.2.1.2.2.2.1)) ((v10.2.2.2.2.1)) (Tr27.of (x5.un.1,f24 x5.un.2.1,x5.un.2.2.1,x5.un.2.2.2.1,x5.un.2.2.2.2)) _ h10 ((L4 (BZ h_v2) h7 (Ce.snd (Ce.fst (Ce.snd (Ce.snd (Ce.snd Ce.here))))) (congrArg (fun q : Tr27 => q.un.2.1.un.2.2.2) h8)) w F).nx ((L4 (BZ h_v2) h7 (Ce.snd (Ce.snd (Ce.snd (Ce.snd Ce.here)))) (congrArg (fun q : Tr27 => q.un.2.2.2.2) h8)) w F).nx (hG.go0 F)) fun x a w W F => ?_
   obtain ⟨v11,v12⟩ := x
   have F : sy Y w0 (RC b3 p0 x1 v5 v7 b2 b1 v1 v2) [frz v11 Kq x6.un.2.1.un.2.2.2,frz v12 Iv x6.un.2.2.2.2,row v7 37 bH v9,frz v5 iO v8] w := F
   refine KE (N2 := []) (NZ2 := []) (N3 := [(some 9,b3,[Jint p0.un.1,Jint x1.un.1,Jint x1.un.2.1,Jint x1.un.2.2.1,v5,Jint p0.un.2.2.1,Jint p0.un.2.2.2.1,v7]),(some 7,b1,[Jint p0.un.1,Jint p0.un.2.1.un.1,Jint p0.un.2.1.un.2.1,Jint p0.un.2.1.un.2.2.1,v1,Jint p0.un.2.2.1,Jint p0.un.2.2.2.1,v2])]) (NZ3 := []) F Aa Aa (all_cons (fun _ => (.head _)) (all_cons (fun h => CT (by kernel_rfl) h) B6)) B6 ?_
   refine Xz Aa ?_
   refine Ps (z := Value.agg #[Jint 0,Jint 0,Jint 0,Jint 0,.slice none 0 0,Jint 0,Jint 0,.slice none 0 0]) (cs := (QX x6 v11 v12)) Iv ([Tr37.of (x6.un.1,f34 x6.un.2.1,x6.un.2.2.1,x6.un.2.2.2.1,x6.un.2.2.2.2)] : List Tr37) W F Aa qZ lY Aa Aa Aa (D8 Aa Aa Aa L7) Aa Aa ⟨[Jint x6.un.1,Jint x6.un.2.1.un.1,Jint x6.un.2.1.un.2.1,Jint x6.un.2.1.un.2.2.1,v11,Jint x6.un.2.2.1,Jint x6.un.2.2.2.1,v12],_,Aa,(oD.2 ⟨[Jint x6.un.1],[Jint x6.un.2.1.un.1,Jint x6.un.2.1.un.2.1,Jint x6.un.2.1.un.2.2.1,v11,Jint x6.un.2.2.1,Jint x6.un.2.2.2.1,v12],Aa,Aa,⟨[Jint x6.un.2.1.un.1,Jint x6.un.2.1.un.2.1,Jint x6.un.2.1.un.2.2.1,v11],[Jint x6.un.2.2.1,Jint x6.un.2.2.2.1,v12],Aa,(pG.2 ⟨[Jint x6.un.2.1.un.1],[Jint x6.un.2.1.un.2.1,Jint x6.un.2.1.un.2.2.1,v11],Aa,Aa,⟨[Jint x6.un.2.1.un.2.1],[Jint x6.un.2.1.un.2.2.1,v11],Aa,Aa,⟨[Jint x6.un.2.1.un.2.2.1],[v11],Aa,Aa,⟨_,Aa,(F.item (i := 0) Aa)⟩⟩⟩⟩),⟨[Jint x6.un.2.2.1],[Jint x6.un.2.2.2.1,v12],Aa,Aa,⟨[Jint x6.un.2.2.2.1],[v12],Aa,Aa,⟨_,Aa,(F.item (i := 1) Aa)⟩⟩⟩⟩⟩),Aa⟩ fun v13 a w W F => ?_
   refine KE (N2 := []) (NZ2 := []) (N3 := [(some 9,b3,[Jint p0.un.1,Jint x1.un.1,Jint x1.un.2.1,Jint x1.un.2.2.1,v5,Jint p0.un.2.2.1,Jint p0.un.2.2.2.1,v7]),(some 7,b1,[Jint p0.un.1,Jint p0.un.2.1.un.1,Jint p0.un.2.1.un.2.1,Jint p0.un.2.1.un.2.2.1,v1,Jint p0.un.2.2.1,Jint p0.un.2.2.2.1,v2])]) (NZ3 := []) F Aa Aa (all_cons (fun _ => (.head _)) (all_cons (fun h => CT (by kernel_rfl) h) B6)) B6 ?_
   refine Xz Aa ?_
   have F := F.frontZ (i := 3) Aa Aa
   have F := F.hideR ST h5
   obtain ⟨x7,h11,H⟩ := A1 H
   refine IM (r := Iv) (i := 0) W F Aa qZ Aa Aa Aa Aa (NN F 1 Aa) h11 Aa fun v14 a w W F => ?_
   have F : sy Y w0 (RC b3 p0 x1 v5 v7 b2 b1 v1 v2) [row v14 37 Iv x7,row v13 37 Iv ([Tr37.of (x6.un.1,f34 x6.un.2.1,x6.un.2.2.1,x6.un.2.2.2.1,x6.un.2.2.2.2)] : List Tr37),frz v11 Kq x6.un.2.1.un.2.2.2,frz v12 Iv x6.un.2.2.2.2,frz v5 iO v8] w := F
   refine KE (N2 := []) (NZ2 := []) (N3 := [(some 9,b3,[Jint p0.un.1,Jint x1.un.1,Jint x1.un.2.1,Jint x1.un.2.2.1,v5,Jint p0.un.2.2.1,Jint p0.un.2.2.2.1,v7]),(some 7,b1,[Jint p0.un.1,Jint p0.un.2.1.un.1,Jint p0.un.2.1.un.2.1,Jint p0.un.2.1.un.2.2.1,v1,Jint p0.un.2.2.1,Jint p0.un.2.2.2.1,v2])]) (NZ3 := []) F Aa Aa (all_cons (fun h => CT (by kernel_rfl) h) (all_cons (fun h => CT (by kernel_rfl) h) B6)) B6 ?_
   refine O4 (R := []) W Aa Aa (yC fun M Z hN hZ => Bm jW Aa Aa Aa uU W Aa 7 Aa) Aa Aa fun a W => ?_
   refine Xz Aa ?_
   refine bO (M' := (RC b3 p0 x1 v5 v14 b2 b1 v1 v2)) 0 W F Aa Aa Aa uU (F.one (k := 0) Aa) Aa Aa fun w F => ?_
   refine KE (N2 := []) (NZ2 := []) (N3 := [(some 9,b3,[Jint p0.un.1,Jint x1.un.1,Jint x1.un.2.1,Jint x1.un.2.2.1,v5,Jint p0.un.2.2.1,Jint p0.un.2.2.2.1,v7]),(some 7,b1,[Jint p0.un.1,Jint p0.un.2.1.un.1,Jint p0.un.2.1.un.2.1,Jint p0.un.2.1.un.2.2.1,v1,Jint p0.un.2.2.1,Jint p0.un.2.2.2.1,v2])]) (NZ3 := []) F Aa Aa (all_cons (fun h => CT (by kernel_rfl) h) (all_cons (fun h => CT (by kernel_rfl) h) B6)) B6 ?_
   refine b9 (FK ?_)
   refine vn tk 5 W F fun a w W F => ?_
   refine Al ?_
   have F := F.frontZ (i := 4) Aa Aa
   have F := F.hideF Xi h4
   have F := F.frontZ (i := 1) Aa Aa
   have F := F.frontZ (i := 1) Aa Aa
   have F := F.frontM (i := 2) Aa Aa
   have F := F.frontM (i := 2) Aa Aa
   have F := F.frontM (i := 2) Aa Aa
   have F := F.sub (M' := (RC b3 p0 x1 v5 v14 b2 b1 v1 v2)) (Z' := [frz v5 Kq x1.un.2.2.2,row v14 37 Iv x7]) sr (sc (sc nl))
   exact ⟨_,H,(v14),W.ra Aa,F⟩
  refine Ho ?_
  iterate 2 refine KM ?_
  refine GO (Al ?_)
  have F := F.frontZ (i := 1) Aa Aa
  have F := F.frontZ (i := 1) Aa Aa
  have F := F.frontM (i := 2) Aa Aa
  have F := F.frontM (i := 2) Aa Aa
  have F := F.frontM (i := 2) Aa Aa
  have H := L2 _ H
  exact ⟨_,(v7),H,W.ra Aa,F⟩
 rintro a w ⟨x2,v6,hj,W,F⟩
 have hj := DR hj
 subst hj
 have H := K1
 clear G1 K1
 refine U7 tk 3 [0] W F (ai fun a w W F => ?_)
 refine SN 1 W F Aa Aa Aa Z9 Aa Aa (AR Aa (AR Aa (AR Aa (AR Aa (AR (F.oneF (k := 0) Aa) (AR Aa (AR Aa (AR (F.one (k := 1) Aa) Mt)))))))) fun w F => ?_
 refine Lg tk 2 W F fun a w W F => ?_
 refine Cq ?_
 have H := DR H
 subst H
 refine Dr (.inl Aa) W F Aa (P9 1 W Aa Aa Z9 Aa) ?_
 have F := F.frontZ (i := 1) Aa Aa
 have F := F.freeze
 have F := F.frontZ (i := 1) Aa Aa
 have F := F.sub (M' := []) (Z' := [frz v5 Kq x1.un.2.2.2,frz v6 Iv x2]) nl sr
 exact ⟨((v5),(v6)),Aa,F⟩
theorem Vi : ∀ (n : Nat) (Y : Nat → Prop) (w0 : World) (v1 : Value) (v2 : Value) (p0 : Tr27) (r : Tr37) (H : EY n p0 = some r) (h_v1 : Sl w0 (NX []) Sn v1 p0.un.2.1.un.2.2.2) (h_v2 : Sl w0 (NX []) U6 v2 p0.un.2.2.2.2) (hG : Gk [] w0),ca_ 8 #[.agg #[Jint p0.un.1,Jint p0.un.2.1.un.1,Jint p0.un.2.1.un.2.1,Jint p0.un.2.1.un.2.2.1,v1,Jint p0.un.2.2.1,Jint p0.un.2.2.2.1,v2]] w0 fun e w' => ∃ x : Value × Value,e = .returned (.agg #[Jint r.un.1,Jint r.un.2.1.un.1,Jint r.un.2.1.un.2.1,Jint r.un.2.1.un.2.2.1,x.1,Jint r.un.2.2.1,Jint r.un.2.2.2.1,x.2]) ∧ sy Y w0 [] [frz (x.1) Kq r.un.2.1.un.2.2.2,frz (x.2) Iv r.un.2.2.2.2] w' := by
  intro n
  induction n with
  | zero => intro Y w0 v1 v2 p0 r H; exact nomatch H
  | succ n ih => intro Y w0 v1 v2 p0 r H h_v1 h_v2 hG; exact UD (EY n) ih Y w0 v1 v2 p0 r H h_v1 h_v2 hG
theorem Xx (Y : Nat → Prop) (w0 : World) (v1 : Value) (v2 : Value) (p0 : Tr27) (r : Tr37) (H : LM p0 = some r) (h_v1 : Sl w0 (NX []) Sn v1 p0.un.2.1.un.2.2.2) (h_v2 : Sl w0 (NX []) U6 v2 p0.un.2.2.2.2) (hG : Gk [] w0) :
    ca_ 8 #[.agg #[Jint p0.un.1,Jint p0.un.2.1.un.1,Jint p0.un.2.1.un.2.1,Jint p0.un.2.1.un.2.2.1,v1,Jint p0.un.2.2.1,Jint p0.un.2.2.2.1,v2]] w0 fun e w' => ∃ x : Value × Value,e = .returned (.agg #[Jint r.un.1,Jint r.un.2.1.un.1,Jint r.un.2.1.un.2.1,Jint r.un.2.1.un.2.2.1,x.1,Jint r.un.2.2.1,Jint r.un.2.2.2.1,x.2]) ∧ sy Y w0 [] [frz (x.1) Kq r.un.2.1.un.2.2.2,frz (x.2) Iv r.un.2.2.2.2] w' := by
  obtain ⟨n,H⟩ := Ks H
  exact Vi n Y w0 v1 v2 p0 r H h_v1 h_v2 hG
theorem k8 : KO (K8 fun x => LM x) 8 := KO.of ⟨fun args w => AN Tryz.func8 rfl (by decide) args w⟩ rfl (fun _ => rfl) (fun _ => rfl) rfl (fun _ => rfl) (fun _ => rfl) (fun _ => rfl) (fun _ => rfl) fun Y w0 x r g H hg hk => (Xx Y w0 g.1 g.2.1 x r H hg.1 hg.2.1 hk).mono fun e w' ⟨x,he,F⟩ => ⟨(x.1,(x.2,())),he,F⟩
def E4 (p0 : Int) : Int := (if p0 = 2 then 15 else (if (decide (p0 = 0) || (decide (p0 = 1) || decide (p0 = 3))) = true then 255 else 0))
noncomputable def b77 : Code := (Tryz.f77.body).getD .skip
def vJ : Ct := (.q (.q (.s (.j (.bl [14]) .d .d) .d)))
abbrev z8 : Cn_ := ⟨r7,sF,[],false,fun x => some (E4 x),some ⟨fun x => E4 x,fun _ => rfl⟩⟩
theorem v77 (x : Int) : @Eq (Option Int) (dF te nK ([] : GC te Tryz.prog) 15 b77 vJ r7 sF [] false [.tmp 2] x).den (some (E4 x)) := by simp only [E4,apply_ite (some : Int → _)]; kernel_rfl
theorem k77 : KO (z8) 77 := dK En BN Tryz.func77 (by kernel_rfl) Tryz.ntmps77 rfl rfl rfl (by kernel_rfl) v77
theorem ZY (Y : Nat → Prop) (w0 : World)  (p0 : Int) (r : Int) (H : E4 p0 = r) (hG : Gk [] w0) :
    ca_ 77 #[Jint p0] w0 fun e w' => e = .returned (Jint r) ∧ Below w0.heap.size w0 w' := k77.outP (Y := Y) (x := p0) (congrArg some H) rfl rfl rfl rfl rfl () trivial rfl hG fun _ => rfl
end
end Go.Proofs.YtpckgggmgijiiaaGreatDoor
