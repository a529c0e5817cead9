/- The functions of layer 30, Og. Conditions: none. -/
import Derived.Test.YtgoifghhcekahaaGreatDooreA2
namespace Go.Proofs.YtgoifghhcekahaaGreatDoor
noncomputable section
open Go Go.RowKit
set_option linter.unusedVariables false
set_option linter.unusedSimpArgs false
set_option maxRecDepth 20000
set_option maxHeartbeats 1600000
def Bx (p2 : Int) (x2 : List Sq) : Int → Option (Int ⊕ Int)
  | x8 => (if x8 < p2 then (ix x2 x8).bind fun x10 => (ix x2 (Ae (x8 - 1))).bind fun x11 => (BD x10 x11).bind fun x12 => some (!(decide (x12 < 0))) else some false).bind fun x9 => (if x9 = true then some (.inl (Ae (x8 + 1))) else some (.inr x8))
def Aq  : ((List Sq) × Int) → Option (((List Sq) × Int) ⊕ (List Sq))
  | (x18,x19) => (if 1 ≤ x19 then (ix x18 x19).bind fun x20 => (ix x18 (Ae (x19 - 1))).bind fun x21 => (BD x20 x21).bind fun x22 => (if (!(decide (x22 < 0))) = true then some (.inr x18) else (ix x18 (Ae (x19 - 1))).bind fun x23 => (ix x18 x19).bind fun x24 => (ix x18 x19).bind fun x25 => (ix (Ak x18 x19 x23) (Ae (x19 - 1))).bind fun x26 => some (.inl ((Ak (Ak x18 x19 x23) (Ae (x19 - 1)) x24),Ae (x19 - 1)))) else some (.inr x18))
def AB (p2 : Int) (x7 : Int) : ((List Sq) × Int) → Option (((List Sq) × Int) ⊕ (((List Sq) × Int) ⊕ (((List Sq) × Int × Int) ⊕ ((List Sq) ⊕ (Bool × (List Sq))))))
  | (x27,x28) => (if x28 < p2 then (ix x27 x28).bind fun x29 => (ix x27 (Ae (x28 - 1))).bind fun x30 => (BD x29 x30).bind fun x31 => (if (!(decide (x31 < 0))) = true then some (.inr (.inl (x27,x7))) else (ix x27 (Ae (x28 - 1))).bind fun x32 => (ix x27 x28).bind fun x33 => (ix x27 x28).bind fun x34 => (ix (Ak x27 x28 x32) (Ae (x28 - 1))).bind fun x35 => some (.inl ((Ak (Ak x27 x28 x32) (Ae (x28 - 1)) x33),Ae (x28 + 1)))) else some (.inr (.inl (x27,x7))))
def AC (p1 : Int) (p2 : Int) : ((List Sq) × Int × Int) → Option (((List Sq) × Int × Int) ⊕ ((List Sq) ⊕ (Bool × (List Sq))))
  | (x2,x3,x4) => (if x4 < 5 then Hc ((Ac (Bx p2 x2) x3).bind fun x7 => (if x7 = p2 then some (.inr (.inr (.inr (true,x2)))) else (if (Ae (p2 - p1)) < 50 then some (.inr (.inr (.inr (false,x2)))) else (ix x2 (Ae (x7 - 1))).bind fun x13 => (ix x2 x7).bind fun x14 => (ix x2 x7).bind fun x15 => (ix (Ak x2 x7 x13) (Ae (x7 - 1))).bind fun x16 => (if 2 ≤ (Ae (x7 - p1)) then Ac (Aq) ((Ak (Ak x2 x7 x13) (Ae (x7 - 1)) x14),Ae (x7 - 1)) else some (Ak (Ak x2 x7 x13) (Ae (x7 - 1)) x14)).bind fun x17 => (if 2 ≤ (Ae (p2 - x7)) then Ac (AB p2 x7) (x17,Ae (x7 + 1)) else some (.inl (x17,x7)))))) fun (x5,x6) => some (.inl (x5,x6,Ae (x4 + 1))) else some (.inr (.inl x2)))
def A0 (p0 : List Sq) (p1 : Int) (p2 : Int) : Option (Bool × (List Sq)) := Hc (Ac (AC p1 p2) (p0,Ae (p1 + 1),0)) fun x1 => some (false,x1)
abbrev uL : Cn_ := ⟨[PY,D6,D6,Xv],[ID],[],true,fun x => A0 x.1 x.2.1 x.2.2.1,none⟩
theorem vU : KO (uL) 130 := DY (ct := (.q (.q (.j (.st true ⟨[(0,false,IU)],[],[0]⟩) (.q (.b (.l ⟨[(0,false,IU),(9,false,AG),(10,false,AG)],[],[0]⟩ (.q (.j (.st true ⟨[(0,false,IU),(9,false,AG)],[],[0]⟩) (.b (.j (.st false ⟨[(9,false,AG)],[],[]⟩) (.b (.l ⟨[(9,false,AG)],[],[]⟩ (.s (.j (.st false ⟨[(36,false,EK)],[],[]⟩) .d .d) .d))) (.q (.q (.q (.j (.st false ⟨[(0,false,IU)],[],[0]⟩) (.q (.c (.q (.b (.l ⟨[(0,false,IU),(11,false,AG)],[],[0]⟩ .d))) .d)) (.q (.c (.q (.b (.l ⟨[(0,false,IU),(12,false,AG)],[],[0]⟩ .d))) .d)))))))) .d))))) .d)))) Dz (Az jT Bc) Tryz.func130 (by kernel_rfl) fun x => by kernel_rfl
def BU (p1 : Int) (x7 : List Sq) (x9 : Int) : Int → Option (Int ⊕ Int)
  | x11 => (if x11 ≤ x9 then (ix x7 p1).bind fun x13 => (ix x7 x11).bind fun x14 => (BD x13 x14).bind fun x15 => some (!(decide (x15 < 0))) else some false).bind fun x12 => (if x12 = true then some (.inl (Ae (x11 + 1))) else some (.inr x11))
def BW (p1 : Int) (x7 : List Sq) (x10 : Int) : Int → Option (Int ⊕ Int)
  | x17 => (if x10 ≤ x17 then (ix x7 p1).bind fun x19 => (ix x7 x17).bind fun x20 => (BD x19 x20).bind fun x21 => some (decide (x21 < 0)) else some false).bind fun x18 => (if x18 = true then some (.inl (Ae (x17 - 1))) else some (.inr x17))
def Bo (p1 : Int) : ((List Sq) × Int × Int) → Option (((List Sq) × Int × Int) ⊕ (Int × (List Sq)))
  | (x7,x8,x9) => (Ac (BU p1 x7 x9) x8).bind fun x10 => (Ac (BW p1 x7 x10) x9).bind fun x16 => (if x16 < x10 then some (.inr (x10,x7)) else (ix x7 x16).bind fun x22 => (ix x7 x10).bind fun x23 => (ix x7 x10).bind fun x24 => (ix (Ak x7 x10 x22) x16).bind fun x25 => some (.inl ((Ak (Ak x7 x10 x22) x16 x23),Ae (x10 + 1),Ae (x16 - 1))))
def BC (p0 : List Sq) (p1 : Int) (p2 : Int) (p3 : Int) : Option (Int × (List Sq)) := (ix p0 p3).bind fun x1 => (ix p0 p1).bind fun x2 => (ix p0 p1).bind fun x3 => (ix (Ak p0 p1 x1) p3).bind fun x4 => (Ac (Bo p1) ((Ak (Ak p0 p1 x1) p3 x2),Ae (p1 + 1),Ae (p2 - 1))).bind fun (x5,x6) => some (x5,x6)
abbrev w6 : Cn_ := ⟨[PY,D6,D6,D6,Xv],[IP],[],true,fun x => BC x.1 x.2.1 x.2.2.1 x.2.2.2.1,none⟩
theorem vJ : KO (w6) 131 := DY (ct := (.q (.q (.q (.j (.st false ⟨[(11,false,AG),(0,false,IU)],[],[0]⟩) (.b (.l ⟨[(0,false,IU),(11,false,AG),(12,false,AG)],[],[0]⟩ (.b (.j (.st false ⟨[(11,false,AG)],[],[]⟩) (.b (.l ⟨[(11,false,AG)],[],[]⟩ (.s (.j (.st false ⟨[(47,false,EK)],[],[]⟩) .d .d) .d))) (.j (.st false ⟨[(12,false,AG)],[],[]⟩) (.b (.l ⟨[(12,false,AG)],[],[]⟩ (.s (.j (.st false ⟨[(65,false,EK)],[],[]⟩) .d .d) .d))) .d))))) .d))))) Dz (Az jT Bc) Tryz.func131 (by kernel_rfl) fun x => by kernel_rfl
def BI (p0 : List Sq) (p1 : Int) (p2 : Int) (p3 : Int) (x1 : Sq) (x2 : Sq) : Int → Option (Int ⊕ Int)
  | x6 => (if x6 ≤ (Ae (p2 - 1)) then (ix (Ak (Ak p0 p1 x1) p3 x2) x6).bind fun x8 => (ix (Ak (Ak p0 p1 x1) p3 x2) p1).bind fun x9 => (BD x8 x9).bind fun x10 => some (decide (x10 < 0)) else some false).bind fun x7 => (if x7 = true then some (.inl (Ae (x6 + 1))) else some (.inr x6))
def Co (p0 : List Sq) (p1 : Int) (p3 : Int) (x1 : Sq) (x2 : Sq) (x5 : Int) : Int → Option (Int ⊕ Int)
  | x12 => (if x5 ≤ x12 then (ix (Ak (Ak p0 p1 x1) p3 x2) x12).bind fun x14 => (ix (Ak (Ak p0 p1 x1) p3 x2) p1).bind fun x15 => (BD x14 x15).bind fun x16 => some (!(decide (x16 < 0))) else some false).bind fun x13 => (if x13 = true then some (.inl (Ae (x12 - 1))) else some (.inr x12))
def Cw (p1 : Int) (x27 : List Sq) (x29 : Int) : Int → Option (Int ⊕ Int)
  | x31 => (if x31 ≤ x29 then (ix x27 x31).bind fun x33 => (ix x27 p1).bind fun x34 => (BD x33 x34).bind fun x35 => some (decide (x35 < 0)) else some false).bind fun x32 => (if x32 = true then some (.inl (Ae (x31 + 1))) else some (.inr x31))
def Cv (p1 : Int) (x27 : List Sq) (x30 : Int) : Int → Option (Int ⊕ Int)
  | x37 => (if x30 ≤ x37 then (ix x27 x37).bind fun x39 => (ix x27 p1).bind fun x40 => (BD x39 x40).bind fun x41 => some (!(decide (x41 < 0))) else some false).bind fun x38 => (if x38 = true then some (.inl (Ae (x37 - 1))) else some (.inr x37))
def Bm (p1 : Int) : ((List Sq) × Int × Int) → Option (((List Sq) × Int × Int) ⊕ ((List Sq) × Int))
  | (x27,x28,x29) => (Ac (Cw p1 x27 x29) x28).bind fun x30 => (Ac (Cv p1 x27 x30) x29).bind fun x36 => (if x36 < x30 then some (.inr (x27,x36)) else (ix x27 x36).bind fun x42 => (ix x27 x30).bind fun x43 => (ix x27 x30).bind fun x44 => (ix (Ak x27 x30 x42) x36).bind fun x45 => some (.inl ((Ak (Ak x27 x30 x42) x36 x43),Ae (x30 + 1),Ae (x36 - 1))))
def Cb (p0 : List Sq) (p1 : Int) (p2 : Int) (p3 : Int) : Option (Int × Bool × (List Sq)) := (ix p0 p3).bind fun x1 => (ix p0 p1).bind fun x2 => (ix p0 p1).bind fun x3 => (ix (Ak p0 p1 x1) p3).bind fun x4 => (Ac (BI p0 p1 p2 p3 x1 x2) (Ae (p1 + 1))).bind fun x5 => (Ac (Co p0 p1 p3 x1 x2 x5) (Ae (p2 - 1))).bind fun x11 => (if x11 < x5 then (ix (Ak (Ak p0 p1 x1) p3 x2) p1).bind fun x17 => (ix (Ak (Ak p0 p1 x1) p3 x2) x11).bind fun x18 => (ix (Ak (Ak p0 p1 x1) p3 x2) x11).bind fun x19 => (ix (Ak (Ak (Ak p0 p1 x1) p3 x2) x11 x17) p1).bind fun x20 => some (x11,true,(Ak (Ak (Ak (Ak p0 p1 x1) p3 x2) x11 x17) p1 x18)) else (ix (Ak (Ak p0 p1 x1) p3 x2) x11).bind fun x21 => (ix (Ak (Ak p0 p1 x1) p3 x2) x5).bind fun x22 => (ix (Ak (Ak p0 p1 x1) p3 x2) x5).bind fun x23 => (ix (Ak (Ak (Ak p0 p1 x1) p3 x2) x5 x21) x11).bind fun x24 => (Ac (Bm p1) ((Ak (Ak (Ak (Ak p0 p1 x1) p3 x2) x5 x21) x11 x22),Ae (x5 + 1),Ae (x11 - 1))).bind fun (x25,x26) => (ix x25 p1).bind fun x46 => (ix x25 x26).bind fun x47 => (ix x25 x26).bind fun x48 => (ix (Ak x25 x26 x46) p1).bind fun x49 => some (x26,false,(Ak (Ak x25 x26 x46) p1 x47)))
abbrev yV : Cn_ := ⟨[PY,D6,D6,D6,Xv],[IP,ID],[],true,fun x => Cb x.1 x.2.1 x.2.2.1 x.2.2.2.1,none⟩
theorem tN : KO (yV) 132 := DY (ct := (.q (.q (.q (.j (.st false ⟨[(12,false,AG)],[],[]⟩) (.b (.l ⟨[(12,false,AG)],[],[]⟩ (.s (.j (.st false ⟨[(47,false,EK)],[],[]⟩) .d .d) .d))) (.j (.st false ⟨[(13,false,AG)],[],[]⟩) (.b (.l ⟨[(13,false,AG)],[],[]⟩ (.s (.j (.st false ⟨[(66,false,EK)],[],[]⟩) .d .d) .d))) (.q (.q (.q (.q (.j (.st false ⟨[(0,false,IU),(13,false,AG)],[],[0]⟩) (.b (.l ⟨[(0,false,IU),(12,false,AG),(13,false,AG)],[],[0]⟩ (.b (.j (.st false ⟨[(12,false,AG)],[],[]⟩) (.b (.l ⟨[(12,false,AG)],[],[]⟩ (.s (.j (.st false ⟨[(120,false,EK)],[],[]⟩) .d .d) .d))) (.j (.st false ⟨[(13,false,AG)],[],[]⟩) (.b (.l ⟨[(13,false,AG)],[],[]⟩ (.s (.j (.st false ⟨[(139,false,EK)],[],[]⟩) .d .d) .d))) .d))))) .d))))))))))) Dz (Az jT Bc) Tryz.func132 (by kernel_rfl) fun x => by kernel_rfl
def Bu (p1 : Int) (p2 : Int) (x1 : Int) : ((List Sq) × Int × Int) → Option (((List Sq) × Int × Int) ⊕ (List Sq))
  | (x2,x3,x4) => (if x3 ≤ (Ae ((Ae (p1 + (Ae ((Ae (Int.tdiv (Ae (p2 - p1)) 4)) * 2)))) + 1)) then (if (Ae (p2 - p1)) ≤ (Ae (OR .u64 ((A4 x4).1) (IntKind.u64.wrap (x1 - 1)))) then some (Ae ((Ae (OR .u64 ((A4 x4).1) (IntKind.u64.wrap (x1 - 1)))) - (Ae (p2 - p1)))) else some (Ae (OR .u64 ((A4 x4).1) (IntKind.u64.wrap (x1 - 1))))).bind fun x5 => (ix x2 (Ae (p1 + x5))).bind fun x6 => (ix x2 x3).bind fun x7 => (ix x2 x3).bind fun x8 => (ix (Ak x2 x3 x6) (Ae (p1 + x5))).bind fun x9 => some (.inl ((Ak (Ak x2 x3 x6) (Ae (p1 + x5)) x7),Ae (x3 + 1),(A4 x4).2)) else some (.inr x2))
def Bg (p0 : List Sq) (p1 : Int) (p2 : Int) : Option (List Sq) := (if 8 ≤ (Ae (p2 - p1)) then (CQ (Ae (p2 - p1))).bind fun x1 => Ac (Bu p1 p2 x1) (p0,Ae ((Ae (p1 + (Ae ((Ae (Int.tdiv (Ae (p2 - p1)) 4)) * 2)))) - 1),IntKind.u64.wrap (Ae (p2 - p1))) else some p0)
abbrev vN : Cn_ := ⟨[PY,D6,D6,Xv],[],[],true,fun x => Bg x.1 x.2.1 x.2.2.1,none⟩
theorem y7 : KO (vN) 127 := DY (ct := (.q (.q (.c (.q (.q (.q (.b (.l ⟨[(0,false,IU),(11,false,AG)],[(0,[some (.d false (.int .u64))])],[0]⟩ (.q (.s (.b (.q (.j (.st false ⟨[(12,false,AG)],[],[]⟩) .d .d))) .d))))))) .d)))) Dz (Az nX (Az oI Bc)) Tryz.func127 (by kernel_rfl) fun x => by kernel_rfl
def Aj (fRec : (List Sq) → Int → Int → Int → Option (List Sq)) : ((List Sq) × Int × Int × Int × Bool × Bool) → Option (((List Sq) × Int × Int × Int × Bool × Bool) ⊕ (List Sq))
  | (x1,x2,x3,x4,x5,x6) => (if (Ae (x3 - x2)) ≤ 12 then (BG x1 x2 x3).bind fun x7 => some (.inr x7) else (if x4 = 0 then (Ci x1 x2 x3).bind fun x8 => some (.inr x8) else (if (!x5) = true then (Bg x1 x2 x3).bind fun x11 => some (x11,Ae (x4 - 1)) else some (x1,x4)).bind fun (x9,x10) => (BR x9 x2 x3).bind fun x12 => (if x12.2 = 2 then (Bl x9 x2 x3).bind fun x16 => some (x16,Ae ((Ae (x3 - 1)) - (Ae (x12.1 - x2))),1) else some (x9,x12.1,x12.2)).bind fun (x13,x14,x15) => Hc (if (x5 && (x6 && decide (x15 = 1))) = true then (A0 x13 x2 x3).bind fun x18 => (if x18.1 = true then some (.inr (.inr x18.2)) else some (.inl x18.2)) else some (.inl x13)) fun x17 => (if 0 < x2 then (ix x17 (Ae (x2 - 1))).bind fun x20 => (ix x17 x14).bind fun x21 => (BD x20 x21).bind fun x22 => some (!(decide (x22 < 0))) else some false).bind fun x19 => (if x19 = true then (BC x17 x2 x3 x14).bind fun x23 => some (.inl (x23.2,x23.1,x3,x10,(x5 && (x6 || true)),(bif x5 then x6 else x6))) else (Cb x17 x2 x3 x14).bind fun x24 => (if (Ae (x24.1 - x2)) < (Ae (x3 - x24.1)) then (fRec x24.2.2 x2 x24.1 x10).bind fun x25 => some (.inl (x25,Ae (x24.1 + 1),x3,x10,decide ((Ae (Int.tdiv (Ae (x3 - x2)) 8)) ≤ (Ae (x24.1 - x2))),x24.2.1)) else (fRec x24.2.2 (Ae (x24.1 + 1)) x3 x10).bind fun x26 => some (.inl (x26,x2,x24.1,x10,decide ((Ae (Int.tdiv (Ae (x3 - x2)) 8)) ≤ (Ae (x3 - x24.1))),x24.2.1))))))
def CJ (fRec : (List Sq) → Int → Int → Int → Option (List Sq)) (p0 : List Sq) (p1 : Int) (p2 : Int) (p3 : Int) : Option (List Sq) := Ac (Aj fRec) (p0,p1,p2,p3,true,true)
def AA : Nat → (List Sq) → Int → Int → Int → Option (List Sq)
  | 0 => fun _ _ _ _ => none
  | n + 1 => CJ (AA n)
def C8 (p0 : List Sq) (p1 : Int) (p2 : Int) (p3 : Int) : Option (List Sq) := GY fun n => AA n p0 p1 p2 p3
def Dp (fRec : (List Sq) → Int → Int → Int → Option (List Sq)) : ((List Sq) × Int × Int × Int × Bool × Bool) → Option (((List Sq) × Int × Int × Int × Bool × Bool) ⊕ (List Sq))
  | (x1,x2,x3,x4,x5,x6) => (if (Ae (x3 - x2)) ≤ 12 then (BG x1 x2 x3).bind fun x7 => some (.inr x7) else (if x4 = 0 then (Ci x1 x2 x3).bind fun x8 => some (.inr x8) else (if (!x5) = true then (Bg x1 x2 x3).bind fun x11 => some (x11,Ae (x4 - 1)) else some (x1,x4)).bind fun (x9,x10) => (BR x9 x2 x3).bind fun x12 => (if x12.2 = 2 then (Bl x9 x2 x3).bind fun x16 => some (x16,Ae ((Ae (x3 - 1)) - (Ae (x12.1 - x2))),1) else some (x9,x12.1,x12.2)).bind fun (x13,x14,x15) => Hc (if (x5 && (x6 && decide (x15 = 1))) = true then (A0 x13 x2 x3).bind fun x18 => (if x18.1 = true then some (.inr (.inr x18.2)) else some (.inl x18.2)) else some (.inl x13)) fun x17 => (if 0 < x2 then (ix x17 (Ae (x2 - 1))).bind fun x20 => (ix x17 x14).bind fun x21 => (BD x20 x21).bind fun x22 => some (!(decide (x22 < 0))) else some false).bind fun x19 => (if x19 = true then (BC x17 x2 x3 x14).bind fun x23 => some (.inl (x23.2,x23.1,x3,x10,x5,x6)) else (Cb x17 x2 x3 x14).bind fun x24 => (if (Ae (x24.1 - x2)) < (Ae (x3 - x24.1)) then (fRec x24.2.2 x2 x24.1 x10).bind fun x25 => some (.inl (x25,Ae (x24.1 + 1),x3,x10,decide ((Ae (Int.tdiv (Ae (x3 - x2)) 8)) ≤ (Ae (x24.1 - x2))),x24.2.1)) else (fRec x24.2.2 (Ae (x24.1 + 1)) x3 x10).bind fun x26 => some (.inl (x26,x2,x24.1,x10,decide ((Ae (Int.tdiv (Ae (x3 - x2)) 8)) ≤ (Ae (x3 - x24.1))),x24.2.1))))))
theorem GX : @Dp = @Aj := by
 unfold Dp Aj
 simp only [Bool.or_true,Bool.and_true,Bool.cond_self]
def EI (fRec : (List Sq) → Int → Int → Int → Option (List Sq)) (p0 : List Sq) (p1 : Int) (p2 : Int) (p3 : Int) : Option (List Sq) := Ac (Dp fRec) (p0,p1,p2,p3,true,true)
theorem GR : @EI = @CJ := by
 unfold EI CJ
 simp only [GX]
theorem k98 : KO (K98 fun x => C8 x.1 x.2.1 x.2.2.1 x.2.2.2.1) 98 := Q7 (E := te) (xs := gS) (ys := lI) (bs := []) (io := true) (nn := fun n x => AA n x.1 x.2.1 x.2.2.1 x.2.2.2.1) (st := fun g x => CJ (fun yp0 yp1 yp2 yp3 => g (yp0,yp1,yp2,yp3,())) x.1 x.2.1 x.2.2.1 x.2.2.2.1) Tryz.func98 rfl (by kernel_rfl) (fun _ => rfl) (fun _ => rfl) fun g hg => DY (ct := (.q (.q (.b (.l ⟨[(0,false,IU),(1,false,AG),(2,false,AG),(3,false,AG),(10,false,EK),(11,false,EK)],[],[0]⟩ (.b (.q (.q (.q (.j (.st false ⟨[(0,false,IU),(3,false,AG)],[],[0]⟩) .d (.q (.j (.st false ⟨[(0,false,IU),(13,false,AG),(14,false,AG)],[],[0]⟩) .d (.j (.st true ⟨[(0,false,IU)],[],[0]⟩) (.j (.bl [75]) .d .d) (.s (.j (.st false ⟨[(97,false,EK)],[],[]⟩) .d .d) .d)))))))))))))) Dz (Az hg (Az jT (Az w8 (Az yS (Az wE (Az xT (Az vU (Az vJ (Az tN (Az y7 Bc)))))))))) Tryz.func98 (by kernel_rfl) fun x => by rw [← GR]; kernel_rfl
def B5 (p0 : List Sq) : Option (List Sq) := (FZ (IntKind.u64.wrap (p0.length : Int))).bind fun x1 => (C8 p0 0 (p0.length : Int) x1).bind fun x2 => some x2
abbrev K59 : Cn_ := ⟨[PY,Xv],[],[],true,fun x => B5 x.1,none⟩
theorem k59 : KO (K59) 59 := DY (ct := .d) Dz (Az uT (Az k98 Bc)) Tryz.func59 (by kernel_rfl) fun x => by kernel_rfl
theorem GU (Y : Nat → Prop) (X : List Nat) (w0 : World) (v1 : Value) (p0 : List Sq) (r : (List Sq)) (H : B5 p0 = some r) (hG : Gk X w0) (hL : Stw ⟨Y,X,w0⟩ [] [row v1 97 OE p0] w0) :
    ca_ 59 #[v1,.func (.func 60) #[] #[]] w0 fun e w' => ∃ x : Unit,e = .returned (.tuple #[]) ∧ Stw ⟨Y,X,w0⟩ [] [row v1 97 OE r] w' := by
 refine (k59.out (Y := Y) (X := X) (x := (p0,())) (r := r) H Aa Aa Aa Aa Aa (v1,()) trivial hL hG).mono ?_
 rintro e w' ⟨⟨b0,u⟩,he,F,hi⟩
 obtain rfl := (List.cons.inj (hi rfl)).1
 exact ⟨(),he,F⟩
theorem H59 : Has Tryz.prog 59 := JR Tryz.func59
abbrev P4 (a0 : Nat) (a1 : Int × Int × Int × Int) (a2 : Nat) (a3 : Tr39) (a4 : Value) (a5 : Value) : List (Nat × List Value) := [(a0,[Jint a1.1,Jint a1.2.1,Jint a1.2.2.1,Jint a1.2.2.2]),(a2,[Jint a3.un.1,Jint a3.un.2.1.un.1,Jint a3.un.2.1.un.2.1,Jint a3.un.2.1.un.2.2.1,a4,Jint a3.un.2.2.1,Jint a3.un.2.2.2.1,a5])]
abbrev lE (a0 : Nat) (a1 : Sq) (a2 : Nat) (a3 : Int × Int × Int × Int) (a4 : Nat) (a5 : Tr39) (a6 : Value) (a7 : Value) : List (Nat × List Value) := [(a0,[Jint a1.1,Jint a1.2.1,Jint a1.2.2.1,Jint a1.2.2.2.1,Jint a1.2.2.2.2]),(a2,[Jint a3.1,Jint a3.2.1,Jint a3.2.2.1,Jint a3.2.2.2]),(a4,[Jint a5.un.1,Jint a5.un.2.1.un.1,Jint a5.un.2.1.un.2.1,Jint a5.un.2.1.un.2.2.1,a6,Jint a5.un.2.2.1,Jint a5.un.2.2.2.1,a7])]
def Hb (p0 : Tr39) (p1 : Int) (p2 : Int) (p3 : Int × Int × Int × Int) : Option (List Sq) := (Gw (Tr39.of (p0.un.1,f36 p0.un.2.1,p0.un.2.2.1,p0.un.2.2.2.1,p0.un.2.2.2.2)) p1 (p2,p3)).bind fun x1 => (Fy ([] : List Sq) x1).bind fun _ => (Ux (fun lg8943 => B5 lg8943) x1).bind fun x3 => some x3
theorem SM (Y : Nat → Prop) (w0 : World) (v1 : Value) (v2 : Value) (p0 : Tr39) (p1 : Int) (p2 : Int) (p3 : Int × Int × Int × Int) (r : (List Sq)) (H : Hb p0 p1 p2 p3 = some r) (s_v1 : Sl w0 Y KE v1 p0.un.2.1.un.2.2.2) (s_v2 : Sl w0 Y KG v2 p0.un.2.2.2.2) (hG : Gk [] w0) :
    ca_ 30 #[.agg #[Jint p0.un.1,Jint p0.un.2.1.un.1,Jint p0.un.2.1.un.2.1,Jint p0.un.2.1.un.2.2.1,v1,Jint p0.un.2.2.1,Jint p0.un.2.2.2.1,v2],Jint p1,Jint p2,.agg #[Jint p3.1,Jint p3.2.1,Jint p3.2.2.1,Jint p3.2.2.2]] w0 fun e w' => ∃ x : Value,e = .returned (x) ∧ sy Y w0 [] [row (x) 97 OE r] w' := by
 refine enter Tryz.func30 Aa Tryz.ntmps30 Aa fun a W => ?_
 have F := Stw.start Y w0
 obtain ⟨v3,h1,s_v1⟩ := s_v1.ex V0
 obtain ⟨v4,h2,s_v2⟩ := s_v2.ex Ry
 have h_v1 := F.nx s_v1
 have h_v2 := F.nx s_v2
 unfold Hb at H
 refine vc tk 2 W F fun a w W F => ?_
 refine JK (cs := (Pz p0 v1 v2)) W F Aa Aa Aa fun b1 a w W F => ?_
 refine JK (cs := (WV p3)) W F Aa Aa Aa fun b2 a w W F => ?_
 refine XG tk 15 [1,0] W F (ai (ai fun a w W F => ?_))
 refine ls W F Aa (H3 (v := Value.agg #[Jint p2,Jint p3.1,Jint p3.2.1,Jint p3.2.2.1,Jint p3.2.2.2]) B97 W Aa Aa Aa).q fun a w W F => ?_
 obtain ⟨x1,h3,H⟩ := Cc H
 refine GA (Ml := []) (Zl := []) (β := Value) (rv := fun x => x) (MM := fun x => []) (ZZ := fun x => [Cj x CR A7 x1]) W F sQ Aa Aa (fun hL => Of _ w (v1) (v2) (Tr39.of (p0.un.1,f36 p0.un.2.1,p0.un.2.2.1,p0.un.2.2.2.1,p0.un.2.2.2.2)) p1 (p2,p3) _ h3 (Sl.hide V0 h1 (F.old s_v1)) (Sl.hide Ry h2 (F.old s_v2)) (hG.go0 F)) fun x a w W F => ?_
 obtain ⟨v5,rfl⟩ : ∃ y,y = x := ⟨x,rfl⟩
 have F : sy Y w0 (P4 b2 p3 b1 p0 v1 v2) [Cj v5 CR A7 x1] w := F
 refine MR (q := 0) W F Aa Aa Aa Aa We fun i8943 m8943 e8943 c8943 l8943 a w hv8943 hE8943 W F => ?_
 have F : sy Y w0 (P4 b2 p3 b1 p0 v1 v2) [Hg i8943 m8943 c8943 #[] c8943,GI m8943 e8943 c8943] w := F
 refine KC tk 3 W F fun a w W F => ?_
 have F := F.nilRow 97 OE
 have F := F.frontZ (i := 2) Aa Aa
 have F := F.frontZ (i := 2) Aa Aa
 have F : sy Y w0 (P4 b2 p3 b1 p0 v1 v2) [Hg i8943 m8943 c8943 #[] c8943,GI m8943 e8943 c8943,row (Value.slice none 0 0) 97 OE ([] : List Sq)] w := F
 obtain ⟨x2,h4,H⟩ := Cc H
 refine X0 (sl := 9) (v0 := (Value.slice none 0 0)) (Ff := [(0,.agg #[Jint p0.un.1,Jint p0.un.2.1.un.1,Jint p0.un.2.1.un.2.1,Jint p0.un.2.1.un.2.2.1,v1,Jint p0.un.2.2.1,Jint p0.un.2.2.2.1,v2]),(1,Jint p1),(2,Jint p2),(3,.agg #[Jint p3.1,Jint p3.2.1,Jint p3.2.2.1,Jint p3.2.2.2]),(4,pp b1),(7,pp b2),(8,.slice none 0 0),(11,.agg #[Jint p0.un.1,Jint p0.un.2.1.un.1,Jint p0.un.2.1.un.2.1,Jint p0.un.2.1.un.2.2.1,v1,Jint p0.un.2.2.1,Jint p0.un.2.2.2.1,v2]),(12,Jint p1),(13,Jint p2),(14,.agg #[Jint p3.1,Jint p3.2.1,Jint p3.2.2.1,Jint p3.2.2.2]),(15,.agg #[Jint p2,Jint p3.1,Jint p3.2.1,Jint p3.2.2.1,Jint p3.2.2.2]),(16,v5)]) (Zr := []) (re := 97) (r := OE) h4 (W.ra Aa) F hv8943 hE8943 Aa Aa (fun kx8943 v8943_ s8943 sn8943 a w ha8943 hc8943 W F => ?_) fun v8943_ lg8943 a w hp8943 W F => ?_
 ·
  have W : Fr 29 [] [(0,.agg #[Jint p0.un.1,Jint p0.un.2.1.un.1,Jint p0.un.2.1.un.2.1,Jint p0.un.2.1.un.2.2.1,v1,Jint p0.un.2.2.1,Jint p0.un.2.2.2.1,v2]),(1,Jint p1),(2,Jint p2),(3,.agg #[Jint p3.1,Jint p3.2.1,Jint p3.2.2.1,Jint p3.2.2.2]),(4,pp b1),(7,pp b2),(8,.slice none 0 0),(9,v8943_),(11,.agg #[Jint p0.un.1,Jint p0.un.2.1.un.1,Jint p0.un.2.1.un.2.1,Jint p0.un.2.1.un.2.2.1,v1,Jint p0.un.2.2.1,Jint p0.un.2.2.2.1,v2]),(12,Jint p1),(13,Jint p2),(14,.agg #[Jint p3.1,Jint p3.2.1,Jint p3.2.2.1,Jint p3.2.2.2]),(15,.agg #[Jint p2,Jint p3.1,Jint p3.2.1,Jint p3.2.2.1,Jint p3.2.2.2]),(16,v5),(17,pp i8943),(18,.tuple #[.bool true,.agg #[Jint kx8943.1,Jint kx8943.2.1,Jint kx8943.2.2.1,Jint kx8943.2.2.2.1,Jint kx8943.2.2.2.2],.agg #[]]),(19,.bool true)] a := W.ra Aa
  have F : sy Y w0 (P4 b2 p3 b1 p0 v1 v2) [Hg i8943 m8943 c8943 sn8943 c8943,GI m8943 e8943 c8943,row v8943_ 97 OE s8943] w := F
  refine vc tk 3 W F fun a w W F => ?_
  refine ls W F Aa (MH (q := 0) (q' := 1) W Aa Aa Aa hc8943).q fun a w W F => ?_
  refine ls W F Aa (F3 (v := Value.agg #[Jint kx8943.1,Jint kx8943.2.1,Jint kx8943.2.2.1,Jint kx8943.2.2.2.1,Jint kx8943.2.2.2.2]) W Aa Aa).q fun a w W F => ?_
  refine Ha (cs := (jB)) W F Aa sG Aa fun b3 a w W F => ?_
  refine Q9 0 W F Aa Aa Aa gH Aa Aa Aa fun w F => ?_
  refine XG tk 5 [0] W F (ai fun a w W F => ?_)
  refine Ww (z := Value.agg #[Jint 0,Jint 0,Jint 0,Jint 0,Jint 0]) (cs := (Hr kx8943)) OE ([kx8943] : List Sq) W F Aa sP sG Aa Aa Aa Aa Aa Aa (u0.repL _ _ ([kx8943] : List Sq)) fun v6 a w W F => ?_
  refine NO (r := OE) (i := 3) W F Aa sP Aa Aa Aa Aa (Wx F 0 Aa) ha8943 Aa fun v7 a w W F => ?_
  have F : sy Y w0 (lE b3 kx8943 b2 p3 b1 p0 v1 v2) [row v7 97 OE (s8943 ++ [kx8943]),row v6 97 OE ([kx8943] : List Sq),Hg i8943 m8943 c8943 sn8943 c8943,GI m8943 e8943 c8943] w := F
  refine vl tk 2 W F fun a w W F => ?_
  refine EY (Ax ?_)
  have F := F.frontZ (i := 3) Aa Aa
  have F := F.frontZ (i := 3) Aa Aa
  have F := F.frontM (i := 2) Aa Aa
  have F := F.frontM (i := 2) Aa Aa
  have F := F.sub (M' := (P4 b2 p3 b1 p0 v1 v2)) (Z' := [Hg i8943 m8943 c8943 sn8943 c8943,GI m8943 e8943 c8943,row v7 97 OE (s8943 ++ [kx8943])]) (sc (sc nl)) (sc (sc (sc nl)))
  exact ⟨v7,W.ra Aa,F⟩
 have W : Fr 29 [] [(0,.agg #[Jint p0.un.1,Jint p0.un.2.1.un.1,Jint p0.un.2.1.un.2.1,Jint p0.un.2.1.un.2.2.1,v1,Jint p0.un.2.2.1,Jint p0.un.2.2.2.1,v2]),(1,Jint p1),(2,Jint p2),(3,.agg #[Jint p3.1,Jint p3.2.1,Jint p3.2.2.1,Jint p3.2.2.2]),(4,pp b1),(7,pp b2),(8,.slice none 0 0),(9,v8943_),(11,.agg #[Jint p0.un.1,Jint p0.un.2.1.un.1,Jint p0.un.2.1.un.2.1,Jint p0.un.2.1.un.2.2.1,v1,Jint p0.un.2.2.1,Jint p0.un.2.2.2.1,v2]),(12,Jint p1),(13,Jint p2),(14,.agg #[Jint p3.1,Jint p3.2.1,Jint p3.2.2.1,Jint p3.2.2.2]),(15,.agg #[Jint p2,Jint p3.1,Jint p3.2.1,Jint p3.2.2.1,Jint p3.2.2.2]),(16,v5)] a := W.ra Aa
 have F : sy Y w0 (P4 b2 p3 b1 p0 v1 v2) [Cj v5 CR A7 x1,row v8943_ 97 OE lg8943] w := F
 refine GH ?_
 refine vn tk 3 W F fun a w W F => ?_
 obtain ⟨x3,h5,H⟩ := Cc H
 have h6 := VM h5 _ hp8943
 have F := F.frontZ (i := 1) Aa Aa
 refine GA (Ml := []) (Zl := [row v8943_ 97 OE lg8943]) (β := Unit) (rv := fun x => .tuple #[]) (MM := fun x => []) (ZZ := fun x => [row v8943_ 97 OE x3]) W F H59 Aa Aa (fun hL => GU _ _ w (v8943_) lg8943 _ h6 (hG.go F) hL) fun x a w W F => ?_
 have F : sy Y w0 (P4 b2 p3 b1 p0 v1 v2) [row v8943_ 97 OE x3,Cj v5 CR A7 x1] w := F
 refine KC tk 8 W F fun a w W F => ?_
 refine Dx ?_
 have H := FU H
 subst H
 refine EL (.inl Aa) W F Aa (DR W Aa) ?_
 have F := F.sub (M' := []) (Z' := [row v8943_ 97 OE x3]) nl (sc nl)
 exact ⟨(v8943_),Aa,F⟩
abbrev K30 : Cn_ := ⟨wW,vI,[],false,fun x => Hb x.1 x.2.1 x.2.2.1 x.2.2.2,none⟩
theorem k30 : KO K30 30 := KO.of ⟨fun args w => Br Tryz.func30 rfl (by decide) args w⟩ rfl (fun _ => rfl) (fun _ => rfl) rfl (fun _ => rfl) (fun _ => rfl) (fun _ => rfl) (fun _ => rfl) fun Y w0 x r g H hg hk => (SM Y w0 g.1 g.2.1 x.1 x.2.1 x.2.2.1 x.2.2.2 r H hg.1 hg.2.1 hk).mono fun e w' ⟨x,he,F⟩ => ⟨(x,()),he,F⟩
def Gi (p0 : List Sq) (p1 : List Sq) : Int → Option (Int ⊕ (Unit ⊕ Bool))
  | x1 => (if x1 < (p0.length : Int) then (ix p0 x1).bind fun x2 => (ix p1 x1).bind fun x3 => (if (!(decide (x2.1 = x3.1 ∧ x2.2.1 = x3.2.1 ∧ x2.2.2.1 = x3.2.2.1 ∧ x2.2.2.2.1 = x3.2.2.2.1 ∧ x2.2.2.2.2 = x3.2.2.2.2))) = true then some (.inr (.inr false)) else some (.inl (Ae (x1 + 1)))) else some (.inr (.inl ())))
def JP (p0 : List Sq) (p1 : List Sq) : Option Bool := (if (p0.length : Int) ≠ (p1.length : Int) then some false else Hc (Ac (Gi p0 p1) 0) fun _ => some true)
theorem VR (Y : Nat → Prop) (w0 : World) (v1 : Value) (v2 : Value) (p0 : List Sq) (p1 : List Sq) (r : Bool) (H : JP p0 p1 = some r) (h_v1 : Sl w0 (NX []) OE v1 p0) (h_v2 : Sl w0 (NX []) OE v2 p1) (hG : Gk [] w0) :
    ca_ 29 #[v1,v2] w0 fun e w' => e = .returned (.bool r) ∧ Below w0.heap.size w0 w' := by
 refine enter Tryz.func29 Aa Tryz.ntmps29 Aa fun a W => ?_
 have F := Stw.start Y w0
 unfold JP at H
 refine vc tk 9 W F fun a w W F => ?_
 refine ls W F Aa (IW (r := OE) (l := p0) gD Aa W Aa (Cx h_v1)).q fun a w W F => ?_
 refine ls W F Aa (EN W Aa).q fun a w W F => ?_
 refine ls W F Aa (IW (r := OE) (l := p1) gD Aa W Aa (Cx h_v2)).q fun a w W F => ?_
 refine KC tk 3 W F fun a w W F => ?_
 refine J2 W Aa H (fun W H => ?_) fun W H => ?_
 ·
  refine vc tk 5 W F fun a w W F => ?_
  refine Dx (Ej ?_)
  have H := FU H
  subst H
  refine EL (.inl Aa) W F Aa (DR W Aa) ?_
  exact ⟨rfl,F.done⟩
 refine FP (Ax ?_)
 obtain ⟨o1,G1,K1,L1⟩ := nM H
 refine Fw (fun a w => some (Sum.inl ()) = some o1 ∧ Fr 26 [] [(4,.bool false)] a ∧ sy Y w0 [] [] w) ?_ ?_
 ·
  have H := G1
  clear G1 K1
  refine vc tk 6 W F fun a w W F => ?_
  refine Ip H (fun s a w => Fr 26 [] [(0,v1),(1,v2),(4,.bool false),(5,Jint s)] a ∧ sy Y w0 [] [] w) ⟨W.ra Aa,F⟩ fun s o a w H L2 hR => ?_
  obtain ⟨x1,rfl⟩ : ∃ x,x = s := ⟨s,rfl⟩
  obtain ⟨W,F⟩ := hR
  have W : Fr 26 [] [(0,v1),(1,v2),(4,.bool false),(5,Jint x1)] a := W
  have F : sy Y w0 [] [] w := F
  rw [Gi] at H
  refine vc tk 5 W F fun a w W F => ?_
  refine ls W F Aa (IW (r := OE) (l := p0) gD Aa W Aa (Cx h_v1)).q fun a w W F => ?_
  refine KC tk 3 W F fun a w W F => ?_
  refine J2 W Aa H (fun W H => ?_) fun W H => ?_
  ·
   refine cQ tk 5 W F fun a w W F => ?_
   refine LJ F MO (by kernel_rfl) ?_
   iterate 2 refine qs W Aa (EN W Aa).q fun a W => ?_
   obtain ⟨x2,h1,H⟩ := Cc H
   refine qs W Aa (F9 (r := OE) sP W Aa Aa (Cx h_v1) h1).q fun a W => ?_
   refine qs W Aa (Eg (y := Value.agg #[Jint x2.1,Jint x2.2.1,Jint x2.2.2.1,Jint x2.2.2.2.1,Jint x2.2.2.2.2]) (j := 0) (i := x1) W Aa Aa (Cx h_v1) h1 u0.to gH Aa).q fun a W => ?_
   iterate 2 refine qs W Aa (EN W Aa).q fun a W => ?_
   obtain ⟨x3,h2,H⟩ := Cc H
   refine qs W Aa (F9 (r := OE) sP W Aa Aa (Cx h_v2) h2).q fun a W => ?_
   refine qs W Aa (Eg (y := Value.agg #[Jint x3.1,Jint x3.2.1,Jint x3.2.2.1,Jint x3.2.2.2.1,Jint x3.2.2.2.2]) (j := 0) (i := x1) W Aa Aa (Cx h_v2) h2 u0.to gH Aa).q fun a W => ?_
   refine qs W Aa (qF (t := decide (x2.1 = x3.1 ∧ x2.2.1 = x3.2.1 ∧ x2.2.2.1 = x3.2.2.1 ∧ x2.2.2.2.1 = x3.2.2.2.1 ∧ x2.2.2.2.2 = x3.2.2.2.2)) G97 (zR _ _ _ _ _ _ _ _ _ _) W Aa Aa).q fun a W => ?_
   refine GB fun w F => ?_
   refine Ax ?_
   refine Ld W Aa H (fun W H => ?_) fun W H => ?_
   ·
    refine vc tk 5 W F fun a w W F => ?_
    refine Dx (FR ?_)
    iterate 2 refine Ej ?_
    refine FR (Ej ?_)
    have H := L2 _ H
    have H := L1 _ H
    have H := FU H
    subst H
    refine EL (.inl Aa) W F Aa (DR W Aa) ?_
    exact ⟨rfl,F.done⟩
   refine FP (EY ?_)
   refine vn tk 5 W F fun a w W F => ?_
   refine Ax ?_
   exact ⟨_,H,W.ra Aa,F⟩
  refine G9 ?_
  iterate 2 refine Jp ?_
  refine GH (Ax ?_)
  have H := L2 _ H
  exact ⟨H,W.ra Aa,F⟩
 rintro a w ⟨hj,W,F⟩
 have H := K1 _ hj
 clear hj G1 K1 L1
 refine vc tk 5 W F fun a w W F => ?_
 refine Dx ?_
 have H := FU H
 subst H
 refine EL (.inl Aa) W F Aa (DR W Aa) ?_
 exact ⟨rfl,F.done⟩
abbrev K29 : Cn_ := ⟨vO,wT,[],false,fun x => JP x.1 x.2,none⟩
theorem k29 : KO K29 29 := KO.of ⟨fun args w => Br Tryz.func29 rfl (by decide) args w⟩ rfl (fun _ => rfl) (fun _ => rfl) rfl (fun _ => rfl) (fun _ => rfl) (fun _ => rfl) (fun _ => rfl) fun Y w0 x r g H hg hk => (VR Y w0 g.1 g.2.1 x.1 x.2 r H hg.1 hg.2.1 hk).mono fun e w' h => ⟨(),h.1,Stw.ofB h.2⟩
def Je (p0 : Tr31) (p1 : Int) (p2 : Int) (p3 : Int) (p4 : Int × Int × Int × Int) : Option Bool := (LK (Tr31.of (p0.un.1,f28 p0.un.2.1,p0.un.2.2.1,p0.un.2.2.2.1,p0.un.2.2.2.2))).bind fun x1 => (if (!x1) = true then (JY).bind fun x2 => some x2 else (Nt (Tr31.of (p0.un.1,f28 p0.un.2.1,p0.un.2.2.1,p0.un.2.2.2.1,p0.un.2.2.2.2))).bind fun x3 => (GZ (Tr39.of (x3.un.1,f36 x3.un.2.1,x3.un.2.2.1,x3.un.2.2.2.1,x3.un.2.2.2.2)) p1).bind fun x4 => ((Hb (Tr39.of (x4.un.1,f36 x4.un.2.1,x4.un.2.2.1,x4.un.2.2.2.1,x4.un.2.2.2.2)) p2 p3 p4).bind fun x6 => (Hb (Tr39.of (x3.un.1,f36 x3.un.2.1,x3.un.2.2.1,x3.un.2.2.2.1,x3.un.2.2.2.2)) p1 p3 p4).bind fun x7 => (JP x6 x7).bind fun x8 => (if x8 = true then (HF (Tr39.of (x4.un.1,f36 x4.un.2.1,x4.un.2.2.1,x4.un.2.2.2.1,x4.un.2.2.2.2))).bind fun x9 => (if x9 = true then (Fg (Tr39.of (x4.un.1,f36 x4.un.2.1,x4.un.2.2.1,x4.un.2.2.2.1,x4.un.2.2.2.2)) 5).bind fun x10 => (if (x10.length : Int) = 0 then (EU (Tr39.of (x4.un.1,f36 x4.un.2.1,x4.un.2.2.1,x4.un.2.2.2.1,x4.un.2.2.2.2))).bind fun x11 => (EU (Tr39.of (x3.un.1,f36 x3.un.2.1,x3.un.2.2.1,x3.un.2.2.2.1,x3.un.2.2.2.2))).bind fun x12 => (if x11 ≤ x12 then (JY).bind fun x13 => some x13 else some false) else some false) else some false) else some false)).bind fun x5 => some x5)
abbrev K5 : Cn_ := ⟨[VO,D6,D6,D6,(.b true,[.d true lL])],[ID],[],false,fun x => Je x.1 x.2.1 x.2.2.1 x.2.2.2.1 x.2.2.2.2,none⟩
theorem k5 : KO (K5) 5 := DY (ct := (.q (.q (.q (.q (.j (.st false ⟨[(10,false,EK)],[],[]⟩) .d .d)))))) Dz (Az k13 (Az zN (Az wL (Az yX (Az z6 (Az k7 (Az k8 (Az k30 (Az k29 Bc))))))))) Tryz.func5 (by kernel_rfl) fun x => by kernel_rfl
theorem RD (Y : Nat → Prop) (w0 : World) (v1 : Value) (v2 : Value) (p0 : Tr31) (p1 : Int) (p2 : Int) (p3 : Int) (p4 : Int × Int × Int × Int) (r : Bool) (H : Je p0 p1 p2 p3 p4 = some r) (h_v1 : Sl w0 (NX []) Sf v1 p0.un.2.1.un.2.2.2) (h_v2 : Sl w0 (NX []) TU v2 p0.un.2.2.2.2) (hG : Gk [] w0) :
    ca_ 5 #[.agg #[Jint p0.un.1,Jint p0.un.2.1.un.1,Jint p0.un.2.1.un.2.1,Jint p0.un.2.1.un.2.2.1,v1,Jint p0.un.2.2.1,Jint p0.un.2.2.2.1,v2],Jint p1,Jint p2,Jint p3,.agg #[Jint p4.1,Jint p4.2.1,Jint p4.2.2.1,Jint p4.2.2.2]] w0 fun e w' => e = .returned (.bool r) ∧ Below w0.heap.size w0 w' := k5.outP (Y := Y) (x := (p0,p1,p2,p3,p4)) H rfl rfl rfl rfl rfl (v1,(v2,())) ⟨h_v1,⟨h_v2,trivial⟩⟩ rfl hG fun _ => rfl
end
end Go.Proofs.YtgoifghhcekahaaGreatDoor
