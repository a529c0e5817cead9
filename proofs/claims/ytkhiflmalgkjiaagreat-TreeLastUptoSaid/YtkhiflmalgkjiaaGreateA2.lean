/- The functions of layer 31, Qd. Conditions: none. -/
import Derived.Test.YtkhiflmalgkjiaaGreateA1
set_option linter.unusedVariables false
set_option linter.unusedSimpArgs false
open Go Go.RowKit
namespace Go.Proofs.YtkhiflmalgkjiaaGreat
noncomputable section
set_option maxRecDepth 20000
set_option maxHeartbeats 1600000
def AS (p0 : List Sq) (p1 : Int) (p2 : Int) : Option (Int × Int) := (BM p0 (w64 (p1 - 1)) p1 (w64 (p1 + 1)) p2).bind fun x1 => some (x1.1,x1.2)
abbrev zN : Cn_ := ⟨[P7,DT,(.p,[]),OE],[JR],[(true,AG)],false,fun x => AS x.1 x.2.1 x.2.2.2,none⟩
theorem Aaa : KO (zN) 129 := Eb (ct := .d) D6 (AH wP BG) Tryz.func129 (by kernel_rfl) fun x => by kernel_rfl
def BC (p0 : List Sq) (p1 : Int) (p2 : Int) : Option (Int × Int) := (if 8 ≤ (w64 (p2 - p1)) then (if 50 ≤ (w64 (p2 - p1)) then (AS p0 (w64 (p1 + (w64 ((w64 (Int.tdiv (w64 (p2 - p1)) 4)) * 1)))) 0).bind fun x7 => (AS p0 (w64 (p1 + (w64 ((w64 (Int.tdiv (w64 (p2 - p1)) 4)) * 2)))) x7.2).bind fun x8 => (AS p0 (w64 (p1 + (w64 ((w64 (Int.tdiv (w64 (p2 - p1)) 4)) * 3)))) x8.2).bind fun x9 => some (x7.1,x8.1,x9.1,x9.2) else some (w64 (p1 + (w64 ((w64 (Int.tdiv (w64 (p2 - p1)) 4)) * 1))),w64 (p1 + (w64 ((w64 (Int.tdiv (w64 (p2 - p1)) 4)) * 2))),w64 (p1 + (w64 ((w64 (Int.tdiv (w64 (p2 - p1)) 4)) * 3))),0)).bind fun (x3,x4,x5,x6) => (BM p0 x3 x4 x5 x6).bind fun x10 => some (x10.1,x10.2) else some (w64 (p1 + (w64 ((w64 (Int.tdiv (w64 (p2 - p1)) 4)) * 2))),0)).bind fun (x1,x2) => (if x2 = 0 then some (x1,1) else (if x2 = 12 then some (x1,2) else some (x1,0)))
abbrev K97 : Cn_ := ⟨[P7,DT,DT,OE],[JR,JR],[],false,fun x => BC x.1 x.2.1 x.2.2.1,none⟩
theorem k97 : KO (K97) 97 := Eb (ct := (.q (.q (.q (.q (.q (.q (.j (.st false ⟨[(13,false,AG)],[(0,[some (.d false I3)])],[]⟩) (.q (.c (.j (.st false ⟨[(12,false,AG),(13,false,AG),(14,false,AG)],[(0,[some (.d false I3)])],[]⟩) .d .d) .d)) .d)))))))) D6 (AH wP (AH Aaa BG)) Tryz.func97 (by kernel_rfl) fun x => by kernel_rfl
def Bg  : ((List Sq) × Int × Int) → Option (((List Sq) × Int × Int) ⊕ (List Sq))
  | (x1,x2,x3) => (if x2 < x3 then (ix x1 x3).bind fun x4 => (ix x1 x2).bind fun x5 => (ix x1 x2).bind fun x6 => (ix (AP x1 x2 x4) x3).bind fun x7 => some (.inl ((AP (AP x1 x2 x4) x3 x5),w64 (x2 + 1),w64 (x3 - 1))) else some (.inr x1))
def Bb (p0 : List Sq) (p1 : Int) (p2 : Int) : Option (List Sq) := Ah (Bg) (p0,p1,w64 (p2 - 1))
abbrev K98 : Cn_ := ⟨[QC,DT,DT,OE],[],[],true,fun x => Bb x.1 x.2.1 x.2.2.1,none⟩
theorem k98 : KO (K98) 98 := Eb (ct := (.q (.q (.b (.l ⟨[(0,false,Dy),(8,false,AG),(9,false,AG)],[],[0]⟩ .d))))) D6 BG Tryz.func98 (by kernel_rfl) fun x => by kernel_rfl
def BJ (p2 : Int) (x2 : List Sq) : Int → Option (Int ⊕ Int)
  | x8 => (if x8 < p2 then (ix x2 x8).bind fun x10 => (ix x2 (w64 (x8 - 1))).bind fun x11 => (Bm x10 x11).bind fun x12 => some (!(decide (x12 < 0))) else some false).bind fun x9 => (if x9 = true then some (.inl (w64 (x8 + 1))) else some (.inr x8))
def As  : ((List Sq) × Int) → Option (((List Sq) × Int) ⊕ (List Sq))
  | (x18,x19) => (if 1 ≤ x19 then (ix x18 x19).bind fun x20 => (ix x18 (w64 (x19 - 1))).bind fun x21 => (Bm x20 x21).bind fun x22 => (if (!(decide (x22 < 0))) = true then some (.inr x18) else (ix x18 (w64 (x19 - 1))).bind fun x23 => (ix x18 x19).bind fun x24 => (ix x18 x19).bind fun x25 => (ix (AP x18 x19 x23) (w64 (x19 - 1))).bind fun x26 => some (.inl ((AP (AP x18 x19 x23) (w64 (x19 - 1)) x24),w64 (x19 - 1)))) else some (.inr x18))
def AF (p2 : Int) (x7 : Int) : ((List Sq) × Int) → Option (((List Sq) × Int) ⊕ (((List Sq) × Int) ⊕ (((List Sq) × Int × Int) ⊕ ((List Sq) ⊕ (Bool × (List Sq))))))
  | (x27,x28) => (if x28 < p2 then (ix x27 x28).bind fun x29 => (ix x27 (w64 (x28 - 1))).bind fun x30 => (Bm x29 x30).bind fun x31 => (if (!(decide (x31 < 0))) = true then some (.inr (.inl (x27,x7))) else (ix x27 (w64 (x28 - 1))).bind fun x32 => (ix x27 x28).bind fun x33 => (ix x27 x28).bind fun x34 => (ix (AP x27 x28 x32) (w64 (x28 - 1))).bind fun x35 => some (.inl ((AP (AP x27 x28 x32) (w64 (x28 - 1)) x33),w64 (x28 + 1)))) else some (.inr (.inl (x27,x7))))
def AD (p1 : Int) (p2 : Int) : ((List Sq) × Int × Int) → Option (((List Sq) × Int × Int) ⊕ ((List Sq) ⊕ (Bool × (List Sq))))
  | (x2,x3,x4) => (if x4 < 5 then GO ((Ah (BJ p2 x2) x3).bind fun x7 => (if x7 = p2 then some (.inr (.inr (.inr (true,x2)))) else (if (w64 (p2 - p1)) < 50 then some (.inr (.inr (.inr (false,x2)))) else (ix x2 (w64 (x7 - 1))).bind fun x13 => (ix x2 x7).bind fun x14 => (ix x2 x7).bind fun x15 => (ix (AP x2 x7 x13) (w64 (x7 - 1))).bind fun x16 => (if 2 ≤ (w64 (x7 - p1)) then Ah (As) ((AP (AP x2 x7 x13) (w64 (x7 - 1)) x14),w64 (x7 - 1)) else some (AP (AP x2 x7 x13) (w64 (x7 - 1)) x14)).bind fun x17 => (if 2 ≤ (w64 (p2 - x7)) then Ah (AF p2 x7) (x17,w64 (x7 + 1)) else some (.inl (x17,x7)))))) fun (x5,x6) => some (.inl (x5,x6,w64 (x4 + 1))) else some (.inr (.inl x2)))
def AO (p0 : List Sq) (p1 : Int) (p2 : Int) : Option (Bool × (List Sq)) := GO (Ah (AD p1 p2) (p0,w64 (p1 + 1),0)) fun x1 => some (false,x1)
abbrev K99 : Cn_ := ⟨[QC,DT,DT,OE],[KS],[],true,fun x => AO x.1 x.2.1 x.2.2.1,none⟩
theorem k99 : KO (K99) 99 := Eb (ct := (.q (.q (.j (.st true ⟨[(0,false,Dy)],[],[0]⟩) (.q (.b (.l ⟨[(0,false,Dy),(9,false,AG),(10,false,AG)],[],[0]⟩ (.q (.j (.st true ⟨[(0,false,Dy),(9,false,AG)],[],[0]⟩) (.b (.j (.st false ⟨[(9,false,AG)],[],[]⟩) (.b (.l ⟨[(9,false,AG)],[],[]⟩ (.s (.j (.st false ⟨[(36,false,Ea)],[],[]⟩) .d .d) .d))) (.q (.q (.q (.j (.st false ⟨[(0,false,Dy)],[],[0]⟩) (.q (.c (.q (.b (.l ⟨[(0,false,Dy),(11,false,AG)],[],[0]⟩ .d))) .d)) (.q (.c (.q (.b (.l ⟨[(0,false,Dy),(12,false,AG)],[],[0]⟩ .d))) .d)))))))) .d))))) .d)))) D6 (AH rB BG) Tryz.func99 (by kernel_rfl) fun x => by kernel_rfl
def B9 (p1 : Int) (x7 : List Sq) (x9 : Int) : Int → Option (Int ⊕ Int)
  | x11 => (if x11 ≤ x9 then (ix x7 p1).bind fun x13 => (ix x7 x11).bind fun x14 => (Bm x13 x14).bind fun x15 => some (!(decide (x15 < 0))) else some false).bind fun x12 => (if x12 = true then some (.inl (w64 (x11 + 1))) else some (.inr x11))
def Cb (p1 : Int) (x7 : List Sq) (x10 : Int) : Int → Option (Int ⊕ Int)
  | x17 => (if x10 ≤ x17 then (ix x7 p1).bind fun x19 => (ix x7 x17).bind fun x20 => (Bm x19 x20).bind fun x21 => some (decide (x21 < 0)) else some false).bind fun x18 => (if x18 = true then some (.inl (w64 (x17 - 1))) else some (.inr x17))
def BB (p1 : Int) : ((List Sq) × Int × Int) → Option (((List Sq) × Int × Int) ⊕ (Int × (List Sq)))
  | (x7,x8,x9) => (Ah (B9 p1 x7 x9) x8).bind fun x10 => (Ah (Cb p1 x7 x10) x9).bind fun x16 => (if x16 < x10 then some (.inr (x10,x7)) else (ix x7 x16).bind fun x22 => (ix x7 x10).bind fun x23 => (ix x7 x10).bind fun x24 => (ix (AP x7 x10 x22) x16).bind fun x25 => some (.inl ((AP (AP x7 x10 x22) x16 x23),w64 (x10 + 1),w64 (x16 - 1))))
def Bj (p0 : List Sq) (p1 : Int) (p2 : Int) (p3 : Int) : Option (Int × (List Sq)) := (ix p0 p3).bind fun x1 => (ix p0 p1).bind fun x2 => (ix p0 p1).bind fun x3 => (ix (AP p0 p1 x1) p3).bind fun x4 => (Ah (BB p1) ((AP (AP p0 p1 x1) p3 x2),w64 (p1 + 1),w64 (p2 - 1))).bind fun (x5,x6) => some (x5,x6)
abbrev AaV : Cn_ := ⟨[QC,DT,DT,DT,OE],[JR],[],true,fun x => Bj x.1 x.2.1 x.2.2.1 x.2.2.2.1,none⟩
theorem yI : KO (AaV) 100 := Eb (ct := (.q (.q (.q (.j (.st false ⟨[(11,false,AG),(0,false,Dy)],[],[0]⟩) (.b (.l ⟨[(0,false,Dy),(11,false,AG),(12,false,AG)],[],[0]⟩ (.b (.j (.st false ⟨[(11,false,AG)],[],[]⟩) (.b (.l ⟨[(11,false,AG)],[],[]⟩ (.s (.j (.st false ⟨[(47,false,Ea)],[],[]⟩) .d .d) .d))) (.j (.st false ⟨[(12,false,AG)],[],[]⟩) (.b (.l ⟨[(12,false,AG)],[],[]⟩ (.s (.j (.st false ⟨[(65,false,Ea)],[],[]⟩) .d .d) .d))) .d))))) .d))))) D6 (AH rB BG) Tryz.func100 (by kernel_rfl) fun x => by kernel_rfl
def BZ (p0 : List Sq) (p1 : Int) (p2 : Int) (p3 : Int) (x1 : Sq) (x2 : Sq) : Int → Option (Int ⊕ Int)
  | x6 => (if x6 ≤ (w64 (p2 - 1)) then (ix (AP (AP p0 p1 x1) p3 x2) x6).bind fun x8 => (ix (AP (AP p0 p1 x1) p3 x2) p1).bind fun x9 => (Bm x8 x9).bind fun x10 => some (decide (x10 < 0)) else some false).bind fun x7 => (if x7 = true then some (.inl (w64 (x6 + 1))) else some (.inr x6))
def Cw (p0 : List Sq) (p1 : Int) (p3 : Int) (x1 : Sq) (x2 : Sq) (x5 : Int) : Int → Option (Int ⊕ Int)
  | x12 => (if x5 ≤ x12 then (ix (AP (AP p0 p1 x1) p3 x2) x12).bind fun x14 => (ix (AP (AP p0 p1 x1) p3 x2) p1).bind fun x15 => (Bm x14 x15).bind fun x16 => some (!(decide (x16 < 0))) else some false).bind fun x13 => (if x13 = true then some (.inl (w64 (x12 - 1))) else some (.inr x12))
def Cs (p1 : Int) (x27 : List Sq) (x29 : Int) : Int → Option (Int ⊕ Int)
  | x31 => (if x31 ≤ x29 then (ix x27 x31).bind fun x33 => (ix x27 p1).bind fun x34 => (Bm x33 x34).bind fun x35 => some (decide (x35 < 0)) else some false).bind fun x32 => (if x32 = true then some (.inl (w64 (x31 + 1))) else some (.inr x31))
def Cu (p1 : Int) (x27 : List Sq) (x30 : Int) : Int → Option (Int ⊕ Int)
  | x37 => (if x30 ≤ x37 then (ix x27 x37).bind fun x39 => (ix x27 p1).bind fun x40 => (Bm x39 x40).bind fun x41 => some (!(decide (x41 < 0))) else some false).bind fun x38 => (if x38 = true then some (.inl (w64 (x37 - 1))) else some (.inr x37))
def Bx (p1 : Int) : ((List Sq) × Int × Int) → Option (((List Sq) × Int × Int) ⊕ ((List Sq) × Int))
  | (x27,x28,x29) => (Ah (Cs p1 x27 x29) x28).bind fun x30 => (Ah (Cu p1 x27 x30) x29).bind fun x36 => (if x36 < x30 then some (.inr (x27,x36)) else (ix x27 x36).bind fun x42 => (ix x27 x30).bind fun x43 => (ix x27 x30).bind fun x44 => (ix (AP x27 x30 x42) x36).bind fun x45 => some (.inl ((AP (AP x27 x30 x42) x36 x43),w64 (x30 + 1),w64 (x36 - 1))))
def BO (p0 : List Sq) (p1 : Int) (p2 : Int) (p3 : Int) : Option (Int × Bool × (List Sq)) := (ix p0 p3).bind fun x1 => (ix p0 p1).bind fun x2 => (ix p0 p1).bind fun x3 => (ix (AP p0 p1 x1) p3).bind fun x4 => (Ah (BZ p0 p1 p2 p3 x1 x2) (w64 (p1 + 1))).bind fun x5 => (Ah (Cw p0 p1 p3 x1 x2 x5) (w64 (p2 - 1))).bind fun x11 => (if x11 < x5 then (ix (AP (AP p0 p1 x1) p3 x2) p1).bind fun x17 => (ix (AP (AP p0 p1 x1) p3 x2) x11).bind fun x18 => (ix (AP (AP p0 p1 x1) p3 x2) x11).bind fun x19 => (ix (AP (AP (AP p0 p1 x1) p3 x2) x11 x17) p1).bind fun x20 => some (x11,true,(AP (AP (AP (AP p0 p1 x1) p3 x2) x11 x17) p1 x18)) else (ix (AP (AP p0 p1 x1) p3 x2) x11).bind fun x21 => (ix (AP (AP p0 p1 x1) p3 x2) x5).bind fun x22 => (ix (AP (AP p0 p1 x1) p3 x2) x5).bind fun x23 => (ix (AP (AP (AP p0 p1 x1) p3 x2) x5 x21) x11).bind fun x24 => (Ah (Bx p1) ((AP (AP (AP (AP p0 p1 x1) p3 x2) x5 x21) x11 x22),w64 (x5 + 1),w64 (x11 - 1))).bind fun (x25,x26) => (ix x25 p1).bind fun x46 => (ix x25 x26).bind fun x47 => (ix x25 x26).bind fun x48 => (ix (AP x25 x26 x46) p1).bind fun x49 => some (x26,false,(AP (AP x25 x26 x46) p1 x47)))
abbrev yV : Cn_ := ⟨[QC,DT,DT,DT,OE],[JR,KS],[],true,fun x => BO x.1 x.2.1 x.2.2.1 x.2.2.2.1,none⟩
theorem zS : KO (yV) 101 := Eb (ct := (.q (.q (.q (.j (.st false ⟨[(12,false,AG)],[],[]⟩) (.b (.l ⟨[(12,false,AG)],[],[]⟩ (.s (.j (.st false ⟨[(47,false,Ea)],[],[]⟩) .d .d) .d))) (.j (.st false ⟨[(13,false,AG)],[],[]⟩) (.b (.l ⟨[(13,false,AG)],[],[]⟩ (.s (.j (.st false ⟨[(66,false,Ea)],[],[]⟩) .d .d) .d))) (.q (.q (.q (.q (.j (.st false ⟨[(0,false,Dy),(13,false,AG)],[],[0]⟩) (.b (.l ⟨[(0,false,Dy),(12,false,AG),(13,false,AG)],[],[0]⟩ (.b (.j (.st false ⟨[(12,false,AG)],[],[]⟩) (.b (.l ⟨[(12,false,AG)],[],[]⟩ (.s (.j (.st false ⟨[(120,false,Ea)],[],[]⟩) .d .d) .d))) (.j (.st false ⟨[(13,false,AG)],[],[]⟩) (.b (.l ⟨[(13,false,AG)],[],[]⟩ (.s (.j (.st false ⟨[(139,false,Ea)],[],[]⟩) .d .d) .d))) .d))))) .d))))))))))) D6 (AH rB BG) Tryz.func101 (by kernel_rfl) fun x => by kernel_rfl
def BH (p1 : Int) (p2 : Int) (x1 : Int) : ((List Sq) × Int × Int) → Option (((List Sq) × Int × Int) ⊕ (List Sq))
  | (x2,x3,x4) => (if x3 ≤ (w64 ((w64 (p1 + (w64 ((w64 (Int.tdiv (w64 (p2 - p1)) 4)) * 2)))) + 1)) then (if (w64 (p2 - p1)) ≤ (w64 (Vb .u64 ((CB x4).1) (IntKind.u64.wrap (x1 - 1)))) then some (w64 ((w64 (Vb .u64 ((CB x4).1) (IntKind.u64.wrap (x1 - 1)))) - (w64 (p2 - p1)))) else some (w64 (Vb .u64 ((CB x4).1) (IntKind.u64.wrap (x1 - 1))))).bind fun x5 => (ix x2 (w64 (p1 + x5))).bind fun x6 => (ix x2 x3).bind fun x7 => (ix x2 x3).bind fun x8 => (ix (AP x2 x3 x6) (w64 (p1 + x5))).bind fun x9 => some (.inl ((AP (AP x2 x3 x6) (w64 (p1 + x5)) x7),w64 (x3 + 1),(CB x4).2)) else some (.inr x2))
def A6 (p0 : List Sq) (p1 : Int) (p2 : Int) : Option (List Sq) := (if 8 ≤ (w64 (p2 - p1)) then (DV (w64 (p2 - p1))).bind fun x1 => Ah (BH p1 p2 x1) (p0,w64 ((w64 (p1 + (w64 ((w64 (Int.tdiv (w64 (p2 - p1)) 4)) * 2)))) - 1),IntKind.u64.wrap (w64 (p2 - p1))) else some p0)
abbrev K96 : Cn_ := ⟨[QC,DT,DT,OE],[],[],true,fun x => A6 x.1 x.2.1 x.2.2.1,none⟩
theorem k96 : KO (K96) 96 := Eb (ct := (.q (.q (.c (.q (.q (.q (.b (.l ⟨[(0,false,Dy),(11,false,AG)],[(0,[some (.d false (.int .u64))])],[0]⟩ (.q (.s (.b (.q (.j (.st false ⟨[(12,false,AG)],[],[]⟩) .d .d))) .d))))))) .d)))) D6 (AH vO (AH vE BG)) Tryz.func96 (by kernel_rfl) fun x => by kernel_rfl
def Ae (fRec : (List Sq) → Int → Int → Int → Option (List Sq)) : ((List Sq) × Int × Int × Int × Bool × Bool) → Option (((List Sq) × Int × Int × Int × Bool × Bool) ⊕ (List Sq))
  | (x1,x2,x3,x4,x5,x6) => (if (w64 (x3 - x2)) ≤ 12 then (Bo x1 x2 x3).bind fun x7 => some (.inr x7) else (if x4 = 0 then (BU x1 x2 x3).bind fun x8 => some (.inr x8) else (if (!x5) = true then (A6 x1 x2 x3).bind fun x11 => some (x11,w64 (x4 - 1)) else some (x1,x4)).bind fun (x9,x10) => (BC x9 x2 x3).bind fun x12 => (if x12.2 = 2 then (Bb x9 x2 x3).bind fun x16 => some (x16,w64 ((w64 (x3 - 1)) - (w64 (x12.1 - x2))),1) else some (x9,x12.1,x12.2)).bind fun (x13,x14,x15) => GO (if (x5 && (x6 && decide (x15 = 1))) = true then (AO x13 x2 x3).bind fun x18 => (if x18.1 = true then some (.inr (.inr x18.2)) else some (.inl x18.2)) else some (.inl x13)) fun x17 => (if 0 < x2 then (ix x17 (w64 (x2 - 1))).bind fun x20 => (ix x17 x14).bind fun x21 => (Bm x20 x21).bind fun x22 => some (!(decide (x22 < 0))) else some false).bind fun x19 => (if x19 = true then (Bj x17 x2 x3 x14).bind fun x23 => some (.inl (x23.2,x23.1,x3,x10,(x5 && (x6 || true)),(bif x5 then x6 else x6))) else (BO x17 x2 x3 x14).bind fun x24 => (if (w64 (x24.1 - x2)) < (w64 (x3 - x24.1)) then (fRec x24.2.2 x2 x24.1 x10).bind fun x25 => some (.inl (x25,w64 (x24.1 + 1),x3,x10,decide ((w64 (Int.tdiv (w64 (x3 - x2)) 8)) ≤ (w64 (x24.1 - x2))),x24.2.1)) else (fRec x24.2.2 (w64 (x24.1 + 1)) x3 x10).bind fun x26 => some (.inl (x26,x2,x24.1,x10,decide ((w64 (Int.tdiv (w64 (x3 - x2)) 8)) ≤ (w64 (x3 - x24.1))),x24.2.1))))))
def Bh (fRec : (List Sq) → Int → Int → Int → Option (List Sq)) (p0 : List Sq) (p1 : Int) (p2 : Int) (p3 : Int) : Option (List Sq) := Ah (Ae fRec) (p0,p1,p2,p3,true,true)
def Ay : Nat → (List Sq) → Int → Int → Int → Option (List Sq)
  | 0 => fun _ _ _ _ => none
  | n + 1 => Bh (Ay n)
def Cq (p0 : List Sq) (p1 : Int) (p2 : Int) (p3 : Int) : Option (List Sq) := Hc fun n => Ay n p0 p1 p2 p3
def B7 (fRec : (List Sq) → Int → Int → Int → Option (List Sq)) : ((List Sq) × Int × Int × Int × Bool × Bool) → Option (((List Sq) × Int × Int × Int × Bool × Bool) ⊕ (List Sq))
  | (x1,x2,x3,x4,x5,x6) => (if (w64 (x3 - x2)) ≤ 12 then (Bo x1 x2 x3).bind fun x7 => some (.inr x7) else (if x4 = 0 then (BU x1 x2 x3).bind fun x8 => some (.inr x8) else (if (!x5) = true then (A6 x1 x2 x3).bind fun x11 => some (x11,w64 (x4 - 1)) else some (x1,x4)).bind fun (x9,x10) => (BC x9 x2 x3).bind fun x12 => (if x12.2 = 2 then (Bb x9 x2 x3).bind fun x16 => some (x16,w64 ((w64 (x3 - 1)) - (w64 (x12.1 - x2))),1) else some (x9,x12.1,x12.2)).bind fun (x13,x14,x15) => GO (if (x5 && (x6 && decide (x15 = 1))) = true then (AO x13 x2 x3).bind fun x18 => (if x18.1 = true then some (.inr (.inr x18.2)) else some (.inl x18.2)) else some (.inl x13)) fun x17 => (if 0 < x2 then (ix x17 (w64 (x2 - 1))).bind fun x20 => (ix x17 x14).bind fun x21 => (Bm x20 x21).bind fun x22 => some (!(decide (x22 < 0))) else some false).bind fun x19 => (if x19 = true then (Bj x17 x2 x3 x14).bind fun x23 => some (.inl (x23.2,x23.1,x3,x10,x5,x6)) else (BO x17 x2 x3 x14).bind fun x24 => (if (w64 (x24.1 - x2)) < (w64 (x3 - x24.1)) then (fRec x24.2.2 x2 x24.1 x10).bind fun x25 => some (.inl (x25,w64 (x24.1 + 1),x3,x10,decide ((w64 (Int.tdiv (w64 (x3 - x2)) 8)) ≤ (w64 (x24.1 - x2))),x24.2.1)) else (fRec x24.2.2 (w64 (x24.1 + 1)) x3 x10).bind fun x26 => some (.inl (x26,x2,x24.1,x10,decide ((w64 (Int.tdiv (w64 (x3 - x2)) 8)) ≤ (w64 (x3 - x24.1))),x24.2.1))))))
theorem Hb : @B7 = @Ae := by
 unfold B7 Ae
 simp only [Bool.or_true,Bool.and_true,Bool.cond_self]
def CC (fRec : (List Sq) → Int → Int → Int → Option (List Sq)) (p0 : List Sq) (p1 : Int) (p2 : Int) (p3 : Int) : Option (List Sq) := Ah (B7 fRec) (p0,p1,p2,p3,true,true)
theorem Ha : @CC = @Bh := by
 unfold CC Bh
 simp only [Hb]
theorem k70 : KO (K70 fun x => Cq x.1 x.2.1 x.2.2.1 x.2.2.2.1) 70 := Tp (E := te) (xs := lT) (ys := oF) (bs := []) (io := true) (nn := fun n x => Ay n x.1 x.2.1 x.2.2.1 x.2.2.2.1) (st := fun g x => Bh (fun yp0 yp1 yp2 yp3 => g (yp0,yp1,yp2,yp3,())) x.1 x.2.1 x.2.2.1 x.2.2.2.1) Tryz.func70 rfl (by kernel_rfl) (fun _ => rfl) (fun _ => rfl) fun g hg => Eb (ct := (.q (.q (.b (.l ⟨[(0,false,Dy),(1,false,AG),(2,false,AG),(3,false,AG),(10,false,Ea),(11,false,Ea)],[],[0]⟩ (.b (.q (.q (.q (.j (.st false ⟨[(0,false,Dy),(3,false,AG)],[],[0]⟩) .d (.q (.j (.st false ⟨[(0,false,Dy),(13,false,AG),(14,false,AG)],[],[0]⟩) .d (.j (.st true ⟨[(0,false,Dy)],[],[0]⟩) (.j (.bl [75]) .d .d) (.s (.j (.st false ⟨[(97,false,Ea)],[],[]⟩) .d .d) .d)))))))))))))) D6 (AH hg (AH rB (AH k94 (AH k95 (AH k97 (AH k98 (AH k99 (AH yI (AH zS (AH k96 BG)))))))))) Tryz.func70 (by kernel_rfl) fun x => by rw [← Ha]; kernel_rfl
def AK (p0 : List Sq) : Option (List Sq) := (Hg (IntKind.u64.wrap (p0.length : Int))).bind fun x1 => (Cq p0 0 (p0.length : Int) x1).bind fun x2 => some x2
abbrev K42 : Cn_ := ⟨[QC,OE],[],[],true,fun x => AK x.1,none⟩
theorem k42 : KO (K42) 42 := Eb (ct := .d) D6 (AH yZ (AH k70 BG)) Tryz.func42 (by kernel_rfl) fun x => by kernel_rfl
theorem G7 (Y : Nat → Prop) (X : List Nat) (w0 : World) (v1 : Value) (p0 : List Sq) (r : (List Sq)) (H : AK p0 = some r) (hL : Stw ⟨Y,X,w0⟩ [] [row v1 60 JQ p0] w0) :
    ca_ 42 #[v1,.func (.func 45) #[] #[]] w0 fun e w' => ∃ x : Unit,e = .returned (.tuple #[]) ∧ Stw ⟨Y,X,w0⟩ [] [row v1 60 JQ r] w' := by
 refine (k42.out (Y := Y) (X := X) (x := (p0,())) (r := r) H Aa Aa Aa Aa Aa (v1,()) trivial hL trivial).mono ?_
 rintro e w' ⟨⟨b0,u⟩,he,F,hi⟩
 obtain rfl := (List.cons.inj (hi rfl)).1
 exact ⟨(),he,F⟩
theorem H42 : Has Tryz.prog 42 := Js Tryz.func42
abbrev R8 (a0 : Nat) (a1 : Int × Int × Int × Int) (a2 : Nat) (a3 : Tr41) (a4 : Value) (a5 : Value) : List (Nat × List Value) := [(a0,[Jint a1.1,Jint a1.2.1,Jint a1.2.2.1,Jint a1.2.2.2]),(a2,[Jint a3.un.1,Jint a3.un.2.1.un.1,Jint a3.un.2.1.un.2.1,Jint a3.un.2.1.un.2.2.1,a4,Jint a3.un.2.2.1,Jint a3.un.2.2.2.1,a5])]
abbrev wR (a0 : Nat) (a1 : Sq) (a2 : Nat) (a3 : Int × Int × Int × Int) (a4 : Nat) (a5 : Tr41) (a6 : Value) (a7 : Value) : List (Nat × List Value) := [(a0,[Jint a1.1,Jint a1.2.1,Jint a1.2.2.1,Jint a1.2.2.2.1,Jint a1.2.2.2.2]),(a2,[Jint a3.1,Jint a3.2.1,Jint a3.2.2.1,Jint a3.2.2.2]),(a4,[Jint a5.un.1,Jint a5.un.2.1.un.1,Jint a5.un.2.1.un.2.1,Jint a5.un.2.1.un.2.2.1,a6,Jint a5.un.2.2.1,Jint a5.un.2.2.2.1,a7])]
def Hn (p0 : Tr41) (p1 : Int) (p2 : Int) (p3 : Int × Int × Int × Int) : Option (List Sq) := (Fo (Tr41.of (p0.un.1,f38 p0.un.2.1,p0.un.2.2.1,p0.un.2.2.2.1,p0.un.2.2.2.2)) p1 (p2,p3)).bind fun x1 => (HT ([] : List Sq) x1).bind fun _ => (We (fun lg8418 => AK lg8418) x1).bind fun x3 => some x3
theorem Vs (Y : Nat → Prop) (w0 : World) (v1 : Value) (v2 : Value) (p0 : Tr41) (p1 : Int) (p2 : Int) (p3 : Int × Int × Int × Int) (r : (List Sq)) (H : Hn p0 p1 p2 p3 = some r) (s_v1 : Sl w0 Y Lv v1 p0.un.2.1.un.2.2.2) (s_v2 : Sl w0 Y LD v2 p0.un.2.2.2.2) :
    ca_ 19 #[.agg #[Jint p0.un.1,Jint p0.un.2.1.un.1,Jint p0.un.2.1.un.2.1,Jint p0.un.2.1.un.2.2.1,v1,Jint p0.un.2.2.1,Jint p0.un.2.2.2.1,v2],Jint p1,Jint p2,.agg #[Jint p3.1,Jint p3.2.1,Jint p3.2.2.1,Jint p3.2.2.2]] w0 fun e w' => ∃ x : Value,e = .returned (x) ∧ sy Y w0 [] [row (x) 60 JQ r] w' := by
 refine enter Tryz.func19 Aa Tryz.ntmps19 Aa fun a W => ?_
 have F := Stw.start Y w0
 obtain ⟨v3,h1,s_v1⟩ := s_v1.ex RI
 obtain ⟨v4,h2,s_v2⟩ := s_v2.ex O0
 have h_v1 := F.nx s_v1
 have h_v2 := F.nx s_v2
 unfold Hn at H
 refine vc tk 2 W F fun a w W F => ?_
 refine Ig (cs := (X8 p0 v1 v2)) W F Aa Aa Aa fun b1 a w W F => ?_
 refine Ig (cs := (Zg p3)) W F Aa Aa Aa fun b2 a w W F => ?_
 refine WT tk 15 [1,0] W F (ai (ai fun a w W F => ?_))
 refine ls W F Aa (H8 (v := Value.agg #[Jint p2,Jint p3.1,Jint p3.2.1,Jint p3.2.2.1,Jint p3.2.2.2]) B60 W Aa Aa Aa).q fun a w W F => ?_
 obtain ⟨x1,h3,H⟩ := Bz H
 refine FM (Ml := []) (Zl := []) (β := Value) (rv := fun x => x) (MM := fun x => []) (ZZ := fun x => [Ch x CW AL x1]) W F xQ Aa Aa (fun hL => P9 _ w (v1) (v2) (Tr41.of (p0.un.1,f38 p0.un.2.1,p0.un.2.2.1,p0.un.2.2.2.1,p0.un.2.2.2.2)) p1 (p2,p3) _ h3 (Sl.hide RI h1 (F.old s_v1)) (Sl.hide O0 h2 (F.old s_v2))) fun x a w W F => ?_
 obtain ⟨v5,rfl⟩ : ∃ y,y = x := ⟨x,rfl⟩
 have F : sy Y w0 (R8 b2 p3 b1 p0 v1 v2) [Ch v5 CW AL x1] w := F
 refine Ok (q := 0) W F Aa Aa Aa Aa XP fun i8418 m8418 e8418 c8418 l8418 a w hv8418 hE8418 W F => ?_
 have F : sy Y w0 (R8 b2 p3 b1 p0 v1 v2) [Hr i8418 m8418 c8418 #[] c8418,GU m8418 e8418 c8418] w := F
 refine KR tk 3 W F fun a w W F => ?_
 have F := F.nilRow 60 JQ
 have F := F.frontZ (i := 2) Aa Aa
 have F := F.frontZ (i := 2) Aa Aa
 have F : sy Y w0 (R8 b2 p3 b1 p0 v1 v2) [Hr i8418 m8418 c8418 #[] c8418,GU m8418 e8418 c8418,row (Value.slice none 0 0) 60 JQ ([] : List Sq)] w := F
 obtain ⟨x2,h4,H⟩ := Bz H
 refine aE (sl := 9) (v0 := (Value.slice none 0 0)) (Ff := [(0,.agg #[Jint p0.un.1,Jint p0.un.2.1.un.1,Jint p0.un.2.1.un.2.1,Jint p0.un.2.1.un.2.2.1,v1,Jint p0.un.2.2.1,Jint p0.un.2.2.2.1,v2]),(1,Jint p1),(2,Jint p2),(3,.agg #[Jint p3.1,Jint p3.2.1,Jint p3.2.2.1,Jint p3.2.2.2]),(4,pp b1),(7,pp b2),(8,.slice none 0 0),(11,.agg #[Jint p0.un.1,Jint p0.un.2.1.un.1,Jint p0.un.2.1.un.2.1,Jint p0.un.2.1.un.2.2.1,v1,Jint p0.un.2.2.1,Jint p0.un.2.2.2.1,v2]),(12,Jint p1),(13,Jint p2),(14,.agg #[Jint p3.1,Jint p3.2.1,Jint p3.2.2.1,Jint p3.2.2.2]),(15,.agg #[Jint p2,Jint p3.1,Jint p3.2.1,Jint p3.2.2.1,Jint p3.2.2.2]),(16,v5)]) (Zr := []) (re := 60) (r := JQ) h4 (W.ra Aa) F hv8418 hE8418 Aa Aa (fun kx8418 v8418_ s8418 sn8418 a w ha8418 hc8418 W F => ?_) fun v8418_ lg8418 a w hp8418 W F => ?_
 ·
  have W : Fr 29 [] [(0,.agg #[Jint p0.un.1,Jint p0.un.2.1.un.1,Jint p0.un.2.1.un.2.1,Jint p0.un.2.1.un.2.2.1,v1,Jint p0.un.2.2.1,Jint p0.un.2.2.2.1,v2]),(1,Jint p1),(2,Jint p2),(3,.agg #[Jint p3.1,Jint p3.2.1,Jint p3.2.2.1,Jint p3.2.2.2]),(4,pp b1),(7,pp b2),(8,.slice none 0 0),(9,v8418_),(11,.agg #[Jint p0.un.1,Jint p0.un.2.1.un.1,Jint p0.un.2.1.un.2.1,Jint p0.un.2.1.un.2.2.1,v1,Jint p0.un.2.2.1,Jint p0.un.2.2.2.1,v2]),(12,Jint p1),(13,Jint p2),(14,.agg #[Jint p3.1,Jint p3.2.1,Jint p3.2.2.1,Jint p3.2.2.2]),(15,.agg #[Jint p2,Jint p3.1,Jint p3.2.1,Jint p3.2.2.1,Jint p3.2.2.2]),(16,v5),(17,pp i8418),(18,.tuple #[.bool true,.agg #[Jint kx8418.1,Jint kx8418.2.1,Jint kx8418.2.2.1,Jint kx8418.2.2.2.1,Jint kx8418.2.2.2.2],.agg #[]]),(19,.bool true)] a := W.ra Aa
  have F : sy Y w0 (R8 b2 p3 b1 p0 v1 v2) [Hr i8418 m8418 c8418 sn8418 c8418,GU m8418 e8418 c8418,row v8418_ 60 JQ s8418] w := F
  refine vc tk 3 W F fun a w W F => ?_
  refine ls W F Aa (Ou (q := 0) (q' := 1) W Aa Aa Aa hc8418).q fun a w W F => ?_
  refine ls W F Aa (HN (v := Value.agg #[Jint kx8418.1,Jint kx8418.2.1,Jint kx8418.2.2.1,Jint kx8418.2.2.2.1,Jint kx8418.2.2.2.2]) W Aa Aa).q fun a w W F => ?_
  refine Hm (cs := (W8)) W F Aa sJ Aa fun b3 a w W F => ?_
  refine SK 0 W F Aa Aa Aa W9 Aa Aa Aa fun w F => ?_
  refine WT tk 5 [0] W F (ai fun a w W F => ?_)
  refine Ub (z := Value.agg #[Jint 0,Jint 0,Jint 0,Jint 0,Jint 0]) (cs := (C7 kx8418)) JQ ([kx8418] : List Sq) W F Aa bN sJ Aa Aa Aa Aa Aa Aa (l8.repL _ _ ([kx8418] : List Sq)) fun v6 a w W F => ?_
  refine Ls (r := JQ) (i := 3) W F Aa bN Aa Aa Aa Aa (Rh F 0 Aa) ha8418 Aa fun v7 a w W F => ?_
  have F : sy Y w0 (wR b3 kx8418 b2 p3 b1 p0 v1 v2) [row v7 60 JQ (s8418 ++ [kx8418]),row v6 60 JQ ([kx8418] : List Sq),Hr i8418 m8418 c8418 sn8418 c8418,GU m8418 e8418 c8418] w := F
  refine vl tk 2 W F fun a w W F => ?_
  refine EF (Az ?_)
  have F := F.frontZ (i := 3) Aa Aa
  have F := F.frontZ (i := 3) Aa Aa
  have F := F.frontM (i := 2) Aa Aa
  have F := F.frontM (i := 2) Aa Aa
  have F := F.sub (M' := (R8 b2 p3 b1 p0 v1 v2)) (Z' := [Hr i8418 m8418 c8418 sn8418 c8418,GU m8418 e8418 c8418,row v7 60 JQ (s8418 ++ [kx8418])]) (sc (sc nl)) (sc (sc (sc nl)))
  exact ⟨v7,W.ra Aa,F⟩
 have W : Fr 29 [] [(0,.agg #[Jint p0.un.1,Jint p0.un.2.1.un.1,Jint p0.un.2.1.un.2.1,Jint p0.un.2.1.un.2.2.1,v1,Jint p0.un.2.2.1,Jint p0.un.2.2.2.1,v2]),(1,Jint p1),(2,Jint p2),(3,.agg #[Jint p3.1,Jint p3.2.1,Jint p3.2.2.1,Jint p3.2.2.2]),(4,pp b1),(7,pp b2),(8,.slice none 0 0),(9,v8418_),(11,.agg #[Jint p0.un.1,Jint p0.un.2.1.un.1,Jint p0.un.2.1.un.2.1,Jint p0.un.2.1.un.2.2.1,v1,Jint p0.un.2.2.1,Jint p0.un.2.2.2.1,v2]),(12,Jint p1),(13,Jint p2),(14,.agg #[Jint p3.1,Jint p3.2.1,Jint p3.2.2.1,Jint p3.2.2.2]),(15,.agg #[Jint p2,Jint p3.1,Jint p3.2.1,Jint p3.2.2.1,Jint p3.2.2.2]),(16,v5)] a := W.ra Aa
 have F : sy Y w0 (R8 b2 p3 b1 p0 v1 v2) [Ch v5 CW AL x1,row v8418_ 60 JQ lg8418] w := F
 refine GF ?_
 refine vn tk 3 W F fun a w W F => ?_
 obtain ⟨x3,h5,H⟩ := Bz H
 have h6 := X5 h5 _ hp8418
 have F := F.frontZ (i := 1) Aa Aa
 refine FM (Ml := []) (Zl := [row v8418_ 60 JQ lg8418]) (β := Unit) (rv := fun x => .tuple #[]) (MM := fun x => []) (ZZ := fun x => [row v8418_ 60 JQ x3]) W F H42 Aa Aa (fun hL => G7 _ _ w (v8418_) lg8418 _ h6 hL) fun x a w W F => ?_
 have F : sy Y w0 (R8 b2 p3 b1 p0 v1 v2) [row v8418_ 60 JQ x3,Ch v5 CW AL x1] w := F
 refine KR tk 8 W F fun a w W F => ?_
 refine De ?_
 have H := Fj H
 subst H
 refine EE (.inl Aa) W F Aa (DJ W Aa) ?_
 have F := F.sub (M' := []) (Z' := [row v8418_ 60 JQ x3]) nl (sc nl)
 exact ⟨(v8418_),Aa,F⟩
abbrev K19 : Cn_ := ⟨zV,yQ,[],false,fun x => Hn x.1 x.2.1 x.2.2.1 x.2.2.2,none⟩
theorem k19 : KO K19 19 := KO.of ⟨fun args w => A9 Tryz.func19 rfl (by decide) args w⟩ rfl (fun _ => rfl) (fun _ => rfl) rfl (fun _ => rfl) (fun _ => rfl) (fun _ => rfl) (fun _ => rfl) fun Y w0 x r g H hg hk => (Vs Y w0 g.1 g.2.1 x.1 x.2.1 x.2.2.1 x.2.2.2 r H hg.1 hg.2.1).mono fun e w' ⟨x,he,F⟩ => ⟨(x,()),he,F⟩
theorem RD (Y : Nat → Prop) (w0 : World)  (p0 : Sq) (p1 : Sq) (r : Int) (H : Bm p0 p1 = some r)  :
    ca_ 43 #[.agg #[Jint p0.1,Jint p0.2.1,Jint p0.2.2.1,Jint p0.2.2.2.1,Jint p0.2.2.2.2],.agg #[Jint p1.1,Jint p1.2.1,Jint p1.2.2.1,Jint p1.2.2.2.1,Jint p1.2.2.2.2]] w0 fun e w' => e = .returned (Jint r) ∧ Below w0.heap.size w0 w' := by
 refine enter Tryz.func43 Aa Tryz.ntmps43 Aa fun a W => ?_
 have F := Stw.start Y w0
 unfold Bm at H
 refine vc tk 2 W F fun a w W F => ?_
 refine Ig (cs := (C7 p0)) W F Aa Aa Aa fun b1 a w W F => ?_
 refine Ig (cs := (C7 p1)) W F Aa Aa Aa fun b2 a w W F => ?_
 refine KR tk 4 W F fun a w W F => ?_
 refine Sx 10 F MO (by kernel_rfl) ?_
 refine qs W Aa (A2 Mu Aa Aa Aa T3 W Aa 0 Aa).q fun a W => ?_
 refine qs W Aa (ED (v := Jint p0.1) 1 W Aa Aa T3 Aa).q fun a W => ?_
 refine qs W Aa (A2 Mu Aa Aa Aa T3 W Aa 0 Aa).q fun a W => ?_
 refine qs W Aa (ED (v := Jint p1.1) 0 W Aa Aa T3 Aa).q fun a W => ?_
 refine qs W Aa (Gj (v := Jint (Al p0.1 p1.1)) W H47 Aa (fun w F => Kn any w p0.1 p1.1 _ Aa)) fun a W => ?_
 refine qs W Aa (A2 Mu Aa Aa Aa ZR W Aa 1 Aa).q fun a W => ?_
 refine qs W Aa (O9 QX W Aa).q fun a W => ?_
 refine qs W Aa (A2 Mu Aa Aa Aa ZR W Aa 1 Aa).q fun a W => ?_
 refine qs W Aa (O9 QX W Aa).q fun a W => ?_
 obtain ⟨x1,h1,H⟩ := Bz H
 refine qs W Aa (Gj (v := Jint x1) W H48 Aa (fun w F => He any w ((Value.slice (some ⟨b1,1,none⟩) 4 4)) ((Value.slice (some ⟨b2,1,none⟩) 4 4)) ([p0.2.1,p0.2.2.1,p0.2.2.2.1,p0.2.2.2.2]) ([p1.2.1,p1.2.2.1,p1.2.2.2.1,p1.2.2.2.2]) _ h1 (aT (Y3 1 Fl.int Aa Aa Aa) F) (aT (Y3 0 Fl.int Aa Aa Aa) F))) fun a W => ?_
 refine EO fun w F => ?_
 refine Ub (z := Jint 0) (cs := [Jint (Al p0.1 p1.1),Jint x1]) ri ([(Al p0.1 p1.1),x1] : List Int) W F Aa L62 Z3 Aa Aa Aa Aa Aa Aa (Fl.int.repL _ _ ([(Al p0.1 p1.1),x1] : List Int)) fun v1 a w W F => ?_
 obtain ⟨x2,h2,H⟩ := Bz H
 refine ls W F Aa (Gj (v := Jint x2) W H46 Aa (fun w F => Pd any w (v1) ([(Al p0.1 p1.1),x1] : List Int) _ h2 (aT (DQ 0 Aa) F))) fun a w W F => ?_
 refine KR tk 3 W F fun a w W F => ?_
 refine De ?_
 have H := Fj H
 subst H
 refine EE (.inl Aa) W F Aa (DJ W Aa) ?_
 exact ⟨rfl,F.done⟩
abbrev K43 : Cn_ := ⟨Aax,Aa0,[],false,fun x => Bm x.1 x.2,none⟩
theorem oK : KO K43 43 := KO.of ⟨fun args w => A9 Tryz.func43 rfl (by decide) args w⟩ rfl (fun _ => rfl) (fun _ => rfl) rfl (fun _ => rfl) (fun _ => rfl) (fun _ => rfl) (fun _ => rfl) fun Y w0 x r g H hg hk => (RD Y w0  x.1 x.2 r H ).mono fun e w' h => ⟨(),h.1,Stw.ofB h.2⟩
abbrev wJ : Cn_ := ⟨[QC,DT,DT,PE],[],[],true,fun x => Bo x.1 x.2.1 x.2.2.1,none⟩
theorem vR : KO (wJ) 94 := Eb (ct := (.q (.b (.l ⟨[(0,false,Dy),(8,false,AG)],[],[0]⟩ (.q (.j (.st false ⟨[(0,false,Dy)],[],[0]⟩) (.b (.q (.b (.l ⟨[(0,false,Dy),(9,false,AG)],[],[0]⟩ (.s (.j (.st false ⟨[(34,false,Ea)],[],[]⟩) .d .d) .d))))) .d)))))) D6 (AH oK BG) Tryz.func94 (by kernel_rfl) fun x => by kernel_rfl
abbrev nU : Cn_ := ⟨[QC,DT,DT,DT,PE],[],[],true,fun x => BT x.1 x.2.1 x.2.2.1 x.2.2.2.1,none⟩
theorem n9 : KO (nU) 126 := Eb (ct := (.q (.b (.l ⟨[(0,false,Dy),(10,false,AG)],[],[0]⟩ (.b (.q (.q (.j (.st false ⟨[(11,false,AG)],[],[]⟩) (.j (.st false ⟨[(40,false,Ea)],[],[]⟩) .d .d) .d)))))))) D6 (AH oK BG) Tryz.func126 (by kernel_rfl) fun x => by kernel_rfl
abbrev t7 : Cn_ := ⟨[QC,DT,DT,PE],[],[],true,fun x => BU x.1 x.2.1 x.2.2.1,none⟩
theorem w9 : KO (t7) 95 := Eb (ct := (.q (.q (.q (.j (.st false ⟨[(0,false,Dy)],[],[0]⟩) (.q (.b (.l ⟨[(0,false,Dy),(11,false,AG)],[],[0]⟩ .d))) (.q (.b (.l ⟨[(0,false,Dy),(12,false,AG)],[],[0]⟩ .d)))))))) D6 (AH n9 BG) Tryz.func95 (by kernel_rfl) fun x => by kernel_rfl
abbrev n7 : Cn_ := ⟨[P7,DT,DT,(.p,[]),PE],[JR,JR],[(true,AG)],false,fun x => BL x.1 x.2.1 x.2.2.1 x.2.2.2.2,none⟩
theorem qY : KO (n7) 144 := Eb (ct := .d) D6 (AH oK BG) Tryz.func144 (by kernel_rfl) fun x => by kernel_rfl
abbrev nV : Cn_ := ⟨[P7,DT,DT,DT,(.p,[]),PE],[JR],[(true,AG)],false,fun x => BM x.1 x.2.1 x.2.2.1 x.2.2.2.1 x.2.2.2.2.2,none⟩
theorem gX : KO (nV) 130 := Eb (ct := .d) D6 (AH qY BG) Tryz.func130 (by kernel_rfl) fun x => by kernel_rfl
abbrev pG : Cn_ := ⟨[P7,DT,(.p,[]),PE],[JR],[(true,AG)],false,fun x => AS x.1 x.2.1 x.2.2.2,none⟩
theorem o0 : KO (pG) 129 := Eb (ct := .d) D6 (AH gX BG) Tryz.func129 (by kernel_rfl) fun x => by kernel_rfl
abbrev tT : Cn_ := ⟨[P7,DT,DT,PE],[JR,JR],[],false,fun x => BC x.1 x.2.1 x.2.2.1,none⟩
theorem wT : KO (tT) 97 := Eb (ct := (.q (.q (.q (.q (.q (.q (.j (.st false ⟨[(13,false,AG)],[(0,[some (.d false I3)])],[]⟩) (.q (.c (.j (.st false ⟨[(12,false,AG),(13,false,AG),(14,false,AG)],[(0,[some (.d false I3)])],[]⟩) .d .d) .d)) .d)))))))) D6 (AH gX (AH o0 BG)) Tryz.func97 (by kernel_rfl) fun x => by kernel_rfl
abbrev uQ : Cn_ := ⟨[QC,DT,DT,PE],[],[],true,fun x => Bb x.1 x.2.1 x.2.2.1,none⟩
theorem uL : KO (uQ) 98 := Eb (ct := (.q (.q (.b (.l ⟨[(0,false,Dy),(8,false,AG),(9,false,AG)],[],[0]⟩ .d))))) D6 BG Tryz.func98 (by kernel_rfl) fun x => by kernel_rfl
abbrev tD : Cn_ := ⟨[QC,DT,DT,PE],[KS],[],true,fun x => AO x.1 x.2.1 x.2.2.1,none⟩
theorem tX : KO (tD) 99 := Eb (ct := (.q (.q (.j (.st true ⟨[(0,false,Dy)],[],[0]⟩) (.q (.b (.l ⟨[(0,false,Dy),(9,false,AG),(10,false,AG)],[],[0]⟩ (.q (.j (.st true ⟨[(0,false,Dy),(9,false,AG)],[],[0]⟩) (.b (.j (.st false ⟨[(9,false,AG)],[],[]⟩) (.b (.l ⟨[(9,false,AG)],[],[]⟩ (.s (.j (.st false ⟨[(36,false,Ea)],[],[]⟩) .d .d) .d))) (.q (.q (.q (.j (.st false ⟨[(0,false,Dy)],[],[0]⟩) (.q (.c (.q (.b (.l ⟨[(0,false,Dy),(11,false,AG)],[],[0]⟩ .d))) .d)) (.q (.c (.q (.b (.l ⟨[(0,false,Dy),(12,false,AG)],[],[0]⟩ .d))) .d)))))))) .d))))) .d)))) D6 (AH oK BG) Tryz.func99 (by kernel_rfl) fun x => by kernel_rfl
abbrev oT : Cn_ := ⟨[QC,DT,DT,DT,PE],[JR],[],true,fun x => Bj x.1 x.2.1 x.2.2.1 x.2.2.2.1,none⟩
theorem rH : KO (oT) 100 := Eb (ct := (.q (.q (.q (.j (.st false ⟨[(11,false,AG),(0,false,Dy)],[],[0]⟩) (.b (.l ⟨[(0,false,Dy),(11,false,AG),(12,false,AG)],[],[0]⟩ (.b (.j (.st false ⟨[(11,false,AG)],[],[]⟩) (.b (.l ⟨[(11,false,AG)],[],[]⟩ (.s (.j (.st false ⟨[(47,false,Ea)],[],[]⟩) .d .d) .d))) (.j (.st false ⟨[(12,false,AG)],[],[]⟩) (.b (.l ⟨[(12,false,AG)],[],[]⟩ (.s (.j (.st false ⟨[(65,false,Ea)],[],[]⟩) .d .d) .d))) .d))))) .d))))) D6 (AH oK BG) Tryz.func100 (by kernel_rfl) fun x => by kernel_rfl
abbrev rE : Cn_ := ⟨[QC,DT,DT,DT,PE],[JR,KS],[],true,fun x => BO x.1 x.2.1 x.2.2.1 x.2.2.2.1,none⟩
theorem n6 : KO (rE) 101 := Eb (ct := (.q (.q (.q (.j (.st false ⟨[(12,false,AG)],[],[]⟩) (.b (.l ⟨[(12,false,AG)],[],[]⟩ (.s (.j (.st false ⟨[(47,false,Ea)],[],[]⟩) .d .d) .d))) (.j (.st false ⟨[(13,false,AG)],[],[]⟩) (.b (.l ⟨[(13,false,AG)],[],[]⟩ (.s (.j (.st false ⟨[(66,false,Ea)],[],[]⟩) .d .d) .d))) (.q (.q (.q (.q (.j (.st false ⟨[(0,false,Dy),(13,false,AG)],[],[0]⟩) (.b (.l ⟨[(0,false,Dy),(12,false,AG),(13,false,AG)],[],[0]⟩ (.b (.j (.st false ⟨[(12,false,AG)],[],[]⟩) (.b (.l ⟨[(12,false,AG)],[],[]⟩ (.s (.j (.st false ⟨[(120,false,Ea)],[],[]⟩) .d .d) .d))) (.j (.st false ⟨[(13,false,AG)],[],[]⟩) (.b (.l ⟨[(13,false,AG)],[],[]⟩ (.s (.j (.st false ⟨[(139,false,Ea)],[],[]⟩) .d .d) .d))) .d))))) .d))))))))))) D6 (AH oK BG) Tryz.func101 (by kernel_rfl) fun x => by kernel_rfl
abbrev vI : Cn_ := ⟨[QC,DT,DT,PE],[],[],true,fun x => A6 x.1 x.2.1 x.2.2.1,none⟩
theorem tB : KO (vI) 96 := Eb (ct := (.q (.q (.c (.q (.q (.q (.b (.l ⟨[(0,false,Dy),(11,false,AG)],[(0,[some (.d false (.int .u64))])],[0]⟩ (.q (.s (.b (.q (.j (.st false ⟨[(12,false,AG)],[],[]⟩) .d .d))) .d))))))) .d)))) D6 (AH vO (AH vE BG)) Tryz.func96 (by kernel_rfl) fun x => by kernel_rfl
theorem GC : @B7 = @Ae := by
 unfold B7 Ae
 simp only [Bool.or_true,Bool.and_true,Bool.cond_self]
theorem GH : @CC = @Bh := by
 unfold CC Bh
 simp only [GC]
theorem vX : KO (vQ fun x => Cq x.1 x.2.1 x.2.2.1 x.2.2.2.1) 70 := Tp (E := te) (xs := UN) (ys := XH) (bs := []) (io := true) (nn := fun n x => Ay n x.1 x.2.1 x.2.2.1 x.2.2.2.1) (st := fun g x => Bh (fun yp0 yp1 yp2 yp3 => g (yp0,yp1,yp2,yp3,())) x.1 x.2.1 x.2.2.1 x.2.2.2.1) Tryz.func70 rfl (by kernel_rfl) (fun _ => rfl) (fun _ => rfl) fun g hg => Eb (ct := (.q (.q (.b (.l ⟨[(0,false,Dy),(1,false,AG),(2,false,AG),(3,false,AG),(10,false,Ea),(11,false,Ea)],[],[0]⟩ (.b (.q (.q (.q (.j (.st false ⟨[(0,false,Dy),(3,false,AG)],[],[0]⟩) .d (.q (.j (.st false ⟨[(0,false,Dy),(13,false,AG),(14,false,AG)],[],[0]⟩) .d (.j (.st true ⟨[(0,false,Dy)],[],[0]⟩) (.j (.bl [75]) .d .d) (.s (.j (.st false ⟨[(97,false,Ea)],[],[]⟩) .d .d) .d)))))))))))))) D6 (AH hg (AH oK (AH vR (AH w9 (AH wT (AH uL (AH tX (AH rH (AH n6 (AH tB BG)))))))))) Tryz.func70 (by kernel_rfl) fun x => by rw [← GH]; kernel_rfl
abbrev vH : Cn_ := ⟨[QC,PE],[],[],true,fun x => AK x.1,none⟩
theorem xH : KO (vH) 42 := Eb (ct := .d) D6 (AH yZ (AH vX BG)) Tryz.func42 (by kernel_rfl) fun x => by kernel_rfl
def Bc (p0 : List Sq) (x1 : Int) : ((List Sq) × Int × Int) → Option (((List Sq) × Int × Int) ⊕ ((List Sq) × Int))
  | (x7,x8,x9) => (JY x7 x1 (p0.length : Int)).bind fun x10 => (if x9 < (x10.length : Int) then ((ix x10 x9).bind fun x13 => (ix x10 (w64 (x9 - 1))).bind fun x14 => (if (!(decide (x13.1 = x14.1 ∧ x13.2.1 = x14.2.1 ∧ x13.2.2.1 = x14.2.2.1 ∧ x13.2.2.2.1 = x14.2.2.2.1 ∧ x13.2.2.2.2 = x14.2.2.2.2))) = true then (ix x10 x9).bind fun x15 => (ix x7 x8).bind fun x16 => some ((AP x7 x8 x15),w64 (x8 + 1)) else some (x7,x8))).bind fun (x11,x12) => some (.inl (x11,x12,w64 (x9 + 1))) else some (.inr (x7,x8)))
def AY (p0 : List Sq) : Int → Option (Int ⊕ (Unit ⊕ (List Sq)))
  | x1 => (if x1 < (p0.length : Int) then GO ((ix p0 x1).bind fun x2 => (ix p0 (w64 (x1 - 1))).bind fun x3 => (if x2.1 = x3.1 ∧ x2.2.1 = x3.2.1 ∧ x2.2.2.1 = x3.2.2.1 ∧ x2.2.2.2.1 = x3.2.2.2.1 ∧ x2.2.2.2.2 = x3.2.2.2.2 then (JY p0 x1 (p0.length : Int)).bind fun x4 => (Ah (Bc p0 x1) (p0,x1,1)).bind fun (x5,x6) => (JY x5 x6 (x5.length : Int)).bind fun x17 => (sI x5 x6 (List.replicate (x17.length) ((0,(0,0,0,0)) : Sq))).bind fun x18 => (JY x18 0 x6).bind fun x19 => some (.inr (.inr (.inr x19))) else some (.inl ()))) fun _ => some (.inl (w64 (x1 + 1))) else some (.inr (.inl ())))
def A8 (p0 : List Sq) : Option (List Sq) := (if (p0.length : Int) < 2 then some p0 else GO (Ah (AY p0) 1) fun _ => some p0)
theorem HF (Y : Nat → Prop) (X : List Nat) (w0 : World) (v1 : Value) (p0 : List Sq) (r : (List Sq)) (H : A8 p0 = some r) (hL : Stw ⟨Y,X,w0⟩ [] [row v1 60 JQ p0] w0) :
    ca_ 87 #[v1] w0 fun e w' => ∃ x : Value,e = .returned (x) ∧ Stw ⟨Y,X,w0⟩ [] [row (x) 60 JQ r] w' := by
 refine enter Tryz.func87 Aa Tryz.ntmps87 Aa fun a W => ?_
 have F := hL
 unfold A8 at H
 refine vc tk 9 W F fun a w W F => ?_
 refine ls W F Aa (NJ (r := JQ) (l := p0) jJ Aa W Aa (DQ 0 Aa)).q fun a w W F => ?_
 refine KR tk 3 W F fun a w W F => ?_
 refine JP W Aa H (fun W H => ?_) fun W H => ?_
 ·
  refine vc tk 6 W F fun a w W F => ?_
  refine De (FW ?_)
  have H := Fj H
  subst H
  refine EE (.inl Aa) W F Aa (DJ W Aa) ?_
  exact ⟨(v1),Aa,F⟩
 refine E0 (Az ?_)
 obtain ⟨o1,G1,K1,L1⟩ := wB H
 refine Fx (fun a w => some (Sum.inl ()) = some o1 ∧ Fr 61 [] [(0,v1),(2,.slice none 0 0)] a ∧ Stw ⟨Y,X,w0⟩ [] [row v1 60 JQ p0] w) ?_ ?_
 ·
  have H := G1
  clear G1 K1
  refine vc tk 6 W F fun a w W F => ?_
  refine Jf H (fun s a w => Fr 61 [] [(0,v1),(2,.slice none 0 0),(3,Jint s)] a ∧ Stw ⟨Y,X,w0⟩ [] [row v1 60 JQ p0] w) ⟨W.ra Aa,F⟩ fun s o a w H L2 hR => ?_
  obtain ⟨x1,rfl⟩ : ∃ x,x = s := ⟨s,rfl⟩
  obtain ⟨W,F⟩ := hR
  have W : Fr 61 [] [(0,v1),(2,.slice none 0 0),(3,Jint x1)] a := W
  have F : Stw ⟨Y,X,w0⟩ [] [row v1 60 JQ p0] w := F
  rw [AY] at H
  refine vc tk 5 W F fun a w W F => ?_
  refine ls W F Aa (NJ (r := JQ) (l := p0) jJ Aa W Aa (DQ 0 Aa)).q fun a w W F => ?_
  refine KR tk 3 W F fun a w W F => ?_
  refine JP W Aa H (fun W H => ?_) fun W H => ?_
  ·
   refine E0 (Az ?_)
   obtain ⟨o3,G3,K3,L3⟩ := wB H
   refine Fx (fun a w => some (Sum.inl ()) = some o3 ∧ Fr 61 [] [(0,v1),(2,.slice none 0 0),(3,Jint x1)] a ∧ Stw ⟨Y,X,w0⟩ [] [row v1 60 JQ p0] w) ?_ ?_
   ·
    have H := G3
    clear G3 K3
    refine vc tk 2 W F fun a w W F => ?_
    refine Li F MO (by kernel_rfl) ?_
    iterate 2 refine qs W Aa (En W Aa).q fun a W => ?_
    obtain ⟨x2,h1,H⟩ := Bz H
    refine qs W Aa (Hj (r := JQ) bN W Aa Aa (DQ 0 Aa) h1).q fun a W => ?_
    refine qs W Aa (EM (y := Value.agg #[Jint x2.1,Jint x2.2.1,Jint x2.2.2.1,Jint x2.2.2.2.1,Jint x2.2.2.2.2]) (j := 0) (i := x1) W Aa Aa (DQ 0 Aa) h1 l8.to W9 Aa).q fun a W => ?_
    iterate 2 refine qs W Aa (En W Aa).q fun a W => ?_
    refine qs W Aa (ZO W Aa Aa Aa).q fun a W => ?_
    obtain ⟨x3,h2,H⟩ := Bz H
    refine qs W Aa (Hj (r := JQ) bN W Aa Aa (DQ 0 Aa) h2).q fun a W => ?_
    refine qs W Aa (EM (y := Value.agg #[Jint x3.1,Jint x3.2.1,Jint x3.2.2.1,Jint x3.2.2.2.1,Jint x3.2.2.2.2]) (j := 0) (i := w64 (x1 - 1)) W Aa Aa (DQ 0 Aa) h2 l8.to W9 Aa).q fun a W => ?_
    refine qs W Aa (nH (t := decide (x2.1 = x3.1 ∧ x2.2.1 = x3.2.1 ∧ x2.2.2.1 = x3.2.2.1 ∧ x2.2.2.2.1 = x3.2.2.2.1 ∧ x2.2.2.2.2 = x3.2.2.2.2)) y8 (xR _ _ _ _ _ _ _ _ _ _) W Aa Aa).q fun a W => ?_
    refine EO fun w F => ?_
    refine Az ?_
    refine JP W Aa H (fun W H => ?_) fun W H => ?_
    ·
     refine vc tk 4 W F fun a w W F => ?_
     obtain ⟨x4,h3,H⟩ := Bz H
     refine ls W F Aa (Ri (r := JQ) bN W Aa Aa Aa (DQ 0 Aa) h3).q fun a w W F => ?_
     refine vl tk 2 W F fun a w W F => ?_
     refine Az ?_
     obtain ⟨o4,G4,K4⟩ := Bz H
     refine Fx (fun a w => ∃ x5 : List Sq, ∃ x6 : Int,some ((x5,x6)) = some o4 ∧ Fr 61 [] [(0,v1),(2,.slice none 0 0),(3,Jint x6)] a ∧ Stw ⟨Y,X,w0⟩ [] [row v1 60 JQ x5] w) ?_ ?_
     ·
      have H := G4
      clear G4 K4
      refine vc tk 6 W F fun a w W F => ?_
      refine Jf H (fun s a w => Fr 61 [] [(0,v1),(2,.slice none 0 0),(3,Jint s.2.1),(4,(Eo v1 x1 (p0.length : Int) 5)),(5,Jint s.2.2)] a ∧ Stw ⟨Y,X,w0⟩ [] [row v1 60 JQ s.1] w) ⟨W.ra Aa,F⟩ fun s o a w H L5 hR => ?_
      obtain ⟨x7,x8,x9⟩ := s
      obtain ⟨W,F⟩ := hR
      have W : Fr 61 [] [(0,v1),(2,.slice none 0 0),(3,Jint x8),(4,(Eo v1 x1 (p0.length : Int) 5)),(5,Jint x9)] a := W
      have F : Stw ⟨Y,X,w0⟩ [] [row v1 60 JQ x7] w := F
      rw [Bc] at H
      refine vc tk 5 W F fun a w W F => ?_
      obtain ⟨x10,h4,H⟩ := Bz H
      refine ls W F Aa (NJ (r := JQ) (l := x10) jJ Aa W Aa (LM (DQ 0 Aa) h4)).q fun a w W F => ?_
      refine KR tk 3 W F fun a w W F => ?_
      refine JP W Aa H (fun W H => ?_) fun W H => ?_
      ·
       refine E0 (Az ?_)
       obtain ⟨o6,G6,K6⟩ := Bz H
       refine Fx (fun a w => ∃ x11 : List Sq, ∃ x12 : Int,some ((x11,x12)) = some o6 ∧ Fr 61 [] [(0,v1),(2,.slice none 0 0),(3,Jint x12),(4,(Eo v1 x1 (p0.length : Int) 5)),(5,Jint x9)] a ∧ Stw ⟨Y,X,w0⟩ [] [row v1 60 JQ x11] w) ?_ ?_
       ·
        have H := G6
        clear G6 K6
        refine vc tk 2 W F fun a w W F => ?_
        refine Li F MO (by kernel_rfl) ?_
        iterate 2 refine qs W Aa (En W Aa).q fun a W => ?_
        obtain ⟨x13,h5,H⟩ := Bz H
        refine qs W Aa (Hj (r := JQ) bN W Aa Aa (LM (DQ 0 Aa) h4) h5).q fun a W => ?_
        refine qs W Aa (EM (y := Value.agg #[Jint x13.1,Jint x13.2.1,Jint x13.2.2.1,Jint x13.2.2.2.1,Jint x13.2.2.2.2]) (j := 0) (i := x9) W Aa Aa (LM (DQ 0 Aa) h4) h5 l8.to W9 Aa).q fun a W => ?_
        iterate 2 refine qs W Aa (En W Aa).q fun a W => ?_
        refine qs W Aa (ZO W Aa Aa Aa).q fun a W => ?_
        obtain ⟨x14,h6,H⟩ := Bz H
        refine qs W Aa (Hj (r := JQ) bN W Aa Aa (LM (DQ 0 Aa) h4) h6).q fun a W => ?_
        refine qs W Aa (EM (y := Value.agg #[Jint x14.1,Jint x14.2.1,Jint x14.2.2.1,Jint x14.2.2.2.1,Jint x14.2.2.2.2]) (j := 0) (i := w64 (x9 - 1)) W Aa Aa (LM (DQ 0 Aa) h4) h6 l8.to W9 Aa).q fun a W => ?_
        refine qs W Aa (mY (t := decide (x13.1 = x14.1 ∧ x13.2.1 = x14.2.1 ∧ x13.2.2.1 = x14.2.2.1 ∧ x13.2.2.2.1 = x14.2.2.2.1 ∧ x13.2.2.2.2 = x14.2.2.2.2)) y8 (xR _ _ _ _ _ _ _ _ _ _) W Aa Aa).q fun a W => ?_
        refine EO fun w F => ?_
        refine Az ?_
        refine NG W Aa H (fun W H => ?_) fun W H => ?_
        ·
         refine vc tk 6 W F fun a w W F => ?_
         obtain ⟨x15,h7,H⟩ := Bz H
         refine ls W F Aa (Hj (r := JQ) bN W Aa Aa (LM (DQ 0 Aa) h4) h7).q fun a w W F => ?_
         refine ls W F Aa (EM (y := Value.agg #[Jint x15.1,Jint x15.2.1,Jint x15.2.2.1,Jint x15.2.2.2.1,Jint x15.2.2.2.2]) (j := 0) (i := x9) W Aa Aa (LM (DQ 0 Aa) h4) h7 l8.to W9 Aa).q fun a w W F => ?_
         obtain ⟨x16,h8,H⟩ := Bz H
         refine ls W F Aa (Hj (r := JQ) bN W Aa Aa (DQ 0 Aa) h8).q fun a w W F => ?_
         refine R5 (i := x8) (j := 0) (vs := (C7 x15)) (x' := x15) W F Aa Aa Aa (k := 0) Aa Aa h8 W9 Aa Aa Aa Aa (fun A cs _ => l8.sto (by rfl) _ _ _) fun w F => ?_
         refine KR tk 7 W F fun a w W F => ?_
         refine EF (Az ?_)
         exact ⟨_,_,H,W.ra Aa,F⟩
        refine E0 (EF (Az ?_))
        exact ⟨_,_,H,W.ra Aa,F⟩
       rintro a w ⟨x11,x12,hj,W,F⟩
       have hj := Fj hj
       subst hj
       have H := K6
       clear G6 K6
       refine vc tk 5 W F fun a w W F => ?_
       refine Az ?_
       exact ⟨_,H,W.ra Aa,F⟩
      refine Hl ?_
      iterate 2 refine KC ?_
      refine GF (Az ?_)
      have H := L5 _ H
      exact ⟨_,_,H,W.ra Aa,F⟩
     rintro a w ⟨x5,x6,hj,W,F⟩
     have hj := Fj hj
     subst hj
     have H := K4
     clear G4 K4
     refine vc tk 4 W F fun a w W F => ?_
     obtain ⟨x17,h9,H⟩ := Bz H
     refine ls W F Aa (Ri (r := JQ) bN W Aa Aa Aa (DQ 0 Aa) h9).q fun a w W F => ?_
     obtain ⟨x18,h10,H⟩ := Bz H
     refine kG (r := JQ) (v := v1) (k := 0) ((0,(0,0,0,0)) : Sq) W F bN sJ Aa Aa Aa h9 (fun w A => l8.mk' w A ((0,(0,0,0,0)) : Sq)) h10 fun w F => ?_
     have F : Stw ⟨Y,X,w0⟩ [] [row v1 60 JQ x18] w := F
     refine KR tk 6 W F fun a w W F => ?_
     obtain ⟨x19,h11,H⟩ := Bz H
     refine ls W F Aa (Ri (r := JQ) bN W Aa Aa Aa (DQ 0 Aa) h11).q fun a w W F => ?_
     refine KR tk 3 W F fun a w W F => ?_
     refine De (Ic ?_)
     iterate 2 refine FW ?_
     refine Ic (FW ?_)
     have H := L3 _ H
     have H := L2 _ H
     have H := L1 _ H
     have H := Fj H
     subst H
     refine EE (.inl Aa) W F Aa (DJ W Aa) ?_
     have F := F.subRow (k := 0) Aa Aa h11
     exact ⟨((Eo v1 (0 : Int) x6 5)),Aa,F⟩
    refine E0 (EF (Az ?_))
    exact ⟨H,W.ra Aa,F⟩
   rintro a w ⟨hj,W,F⟩
   have H := K3 _ hj
   clear hj G3 K3 L3
   refine vc tk 5 W F fun a w W F => ?_
   refine Az ?_
   exact ⟨_,H,W.ra Aa,F⟩
  refine Hl ?_
  iterate 2 refine KC ?_
  refine GF (Az ?_)
  have H := L2 _ H
  exact ⟨H,W.ra Aa,F⟩
 rintro a w ⟨hj,W,F⟩
 have H := K1 _ hj
 clear hj G1 K1 L1
 refine vc tk 6 W F fun a w W F => ?_
 refine De ?_
 have H := Fj H
 subst H
 refine EE (.inl Aa) W F Aa (DJ W Aa) ?_
 exact ⟨(v1),Aa,F⟩
abbrev K87 : Cn_ := ⟨z7,zX,[],false,fun x => A8 x,none⟩
theorem k87 : KO K87 87 := KO.ofL ⟨fun args w => A9 Tryz.func87 rfl (by decide) args w⟩ rfl (fun _ => rfl) (fun _ => rfl) (fun _ => rfl) (fun _ => rfl) (fun _ => rfl) fun Y X w0 x r g H hg F hk => (HF Y X w0 g.1 x r H F).mono fun e w' ⟨x,he,F⟩ => ⟨(x,()),he,F,fun h => nomatch h⟩
abbrev J4 (a0 : Tr41 × Int × (List Int × List Int × List Int × List Int × List Int)) (a1 : Value) (a2 : Value) (a3 : Value) (a4 : Value) (a5 : Value) (a6 : Value) (a7 : Value) : List Value := [Jint a0.1.un.1,Jint a0.1.un.2.1.un.1,Jint a0.1.un.2.1.un.2.1,Jint a0.1.un.2.1.un.2.2.1,a1,Jint a0.1.un.2.2.1,Jint a0.1.un.2.2.2.1,a2,Jint a0.2.1,a3,a4,a5,a6,a7]
def Cc (p1 : Sq) (x1 : (List Sq)) : ((List Sq) × Int) → Option (((List Sq) × Int) ⊕ (List Sq))
  | (x3,x4) => (if x4 < (x1.length : Int) then ((ix x3 x4).bind fun x6 => (if x6.2.1 = p1.2.1 then (ix x3 x4).bind fun x7 => some (AP x3 x4 (x7.1,((-1),x7.2.2.1,x7.2.2.2.1,x7.2.2.2.2))) else some x3)).bind fun x5 => ((ix x5 x4).bind fun x9 => (if x9.2.2.1 = p1.2.2.1 then (ix x5 x4).bind fun x10 => some (AP x5 x4 (x10.1,(x10.2.1,(-1),x10.2.2.2.1,x10.2.2.2.2))) else some x5)).bind fun x8 => ((ix x8 x4).bind fun x12 => (if x12.2.2.2.1 = p1.2.2.2.1 then (ix x8 x4).bind fun x13 => some (AP x8 x4 (x13.1,(x13.2.1,x13.2.2.1,(-1),x13.2.2.2.2))) else some x8)).bind fun x11 => ((ix x11 x4).bind fun x15 => (if x15.2.2.2.2 = p1.2.2.2.2 then (ix x11 x4).bind fun x16 => some (AP x11 x4 (x16.1,(x16.2.1,x16.2.2.1,x16.2.2.2.1,(-1)))) else some x11)).bind fun x14 => some (.inl (x14,w64 (x4 + 1))) else some (.inr x3))
def BK (p0 : Tr41 × Int × (List Int × List Int × List Int × List Int × List Int)) (p1 : Sq) : Option (List Sq) := (Hn (Tr41.of (p0.1.un.1,f38 p0.1.un.2.1,p0.1.un.2.2.1,p0.1.un.2.2.2.1,p0.1.un.2.2.2.2)) p0.2.1 p1.1 p1.2).bind fun x1 => (Ah (Cc p1 x1) (x1,0)).bind fun x2 => (AK x2).bind fun x17 => (A8 x17).bind fun x18 => some x18
abbrev K59 : Cn_ := ⟨[(.b true,[.d false ux5]),P3],[QC],[],false,fun x => BK x.1 x.2,none⟩
theorem k59 : KO (K59) 59 := Eb (ct := (.q (.q (.j (.st false ⟨[(5,false,Dy)],[],[5]⟩) (.q (.b (.l ⟨[(5,false,Dy),(20,false,AG)],[],[5]⟩ (.q (.q (.s (.b (.q (.q (.b (.un (.q (.q (.j (.st false ⟨[(5,false,Dy)],[],[5]⟩) .d .d))) (.un (.q (.q (.j (.st false ⟨[(5,false,Dy)],[],[5]⟩) .d .d))) (.un (.q (.q (.j (.st false ⟨[(5,false,Dy)],[],[5]⟩) .d .d))) (.un (.q (.q (.j (.st false ⟨[(5,false,Dy)],[],[5]⟩) .d .d))) (.un .d .d))))))))) .d)))))) .d)))) D6 (AH k19 (AH xH (AH k87 BG))) Tryz.func59 (by kernel_rfl) fun x => by kernel_rfl
theorem Kp (Y : Nat → Prop) (w0 : World) (v1 : Value) (v2 : Value) (v3 : Value) (v4 : Value) (v5 : Value) (v6 : Value) (v7 : Value) (p0 : Tr41 × Int × (List Int × List Int × List Int × List Int × List Int)) (p1 : Sq) (r : (List Sq)) (H : BK p0 p1 = some r) (s_v1 : Sl w0 Y Lv v1 p0.1.un.2.1.un.2.2.2) (s_v2 : Sl w0 Y LD v2 p0.1.un.2.2.2.2) (s_v3 : Sl w0 Y ri v3 p0.2.2.1) (s_v4 : Sl w0 Y ri v4 p0.2.2.2.1) (s_v5 : Sl w0 Y ri v5 p0.2.2.2.2.1) (s_v6 : Sl w0 Y ri v6 p0.2.2.2.2.2.1) (s_v7 : Sl w0 Y ri v7 p0.2.2.2.2.2.2) :
    ca_ 59 #[.agg #[Jint p0.1.un.1,Jint p0.1.un.2.1.un.1,Jint p0.1.un.2.1.un.2.1,Jint p0.1.un.2.1.un.2.2.1,v1,Jint p0.1.un.2.2.1,Jint p0.1.un.2.2.2.1,v2,Jint p0.2.1,v3,v4,v5,v6,v7],.agg #[Jint p1.1,Jint p1.2.1,Jint p1.2.2.1,Jint p1.2.2.2.1,Jint p1.2.2.2.2]] w0 fun e w' => ∃ x : Value,e = .returned (x) ∧ sy Y w0 [] [row (x) 60 JQ r] w' := by
 refine (k59.out (Y := Y) (X := []) (x := (p0,p1)) (r := r) H Aa Aa Aa Aa Aa (v1,(v2,(v3,(v4,(v5,(v6,(v7,()))))))) ⟨s_v1,⟨s_v2,⟨s_v3,⟨s_v4,⟨s_v5,⟨s_v6,⟨s_v7,trivial⟩⟩⟩⟩⟩⟩⟩ (Stw.start Y w0) trivial).mono ?_
 rintro e w' ⟨⟨a0,u⟩,he,F,hi⟩
 exact ⟨a0,he,F⟩
theorem zP : type_of% Tryz.underlying32 := Tryz.underlying32
theorem H59 : Has Tryz.prog 59 := Js Tryz.func59
theorem B56 : Bt Tryz.prog 56 [Jint 0,Jint 0,Jint 0,Jint 0,Jint 0,.slice none 0 0] [(0,1),(1,4),(5,1)] := ⟨⟨.agg #[Jint 0,Jint 0,Jint 0,Jint 0,Jint 0,.slice none 0 0],by kernel_rfl,rfl⟩,⟨_,sS,fun w => by kernel_rfl⟩⟩
theorem Z56 : (Tryz.prog.info? 56).bind (·.zero) = some (.agg #[Jint 0,Jint 0,Jint 0,Jint 0,Jint 0,.slice none 0 0]) := by kernel_rfl
theorem zA : Et Tryz.prog 32 56 6 64 := Et.of zP (by kernel_rfl) (by kernel_rfl) (by kernel_rfl) (by decide)
theorem H29 : Has Tryz.prog 29 := Js Tryz.func29
def AN (p0 : Int × (Int × Int × Int × Int) × (List Sq)) : Sq := (p0.1,p0.2.1)
abbrev K37 : Cn_ := ⟨[(.b true,[.d true rQ])],[(.b true,[.d false X4])],[],false,fun x => some (AN x),some ⟨fun x => AN x,fun _ => rfl⟩⟩
theorem k37 : KO (K37) 37 := Eb (ct := .d) D6 BG Tryz.func37 (by kernel_rfl) fun x => by kernel_rfl
def AB (p0 : List Sq) (p1 : List Sq) : Int → Option (Int ⊕ (Unit ⊕ Bool))
  | x1 => (if x1 < (p0.length : Int) then (ix p0 x1).bind fun x2 => (ix p1 x1).bind fun x3 => (if (!(decide (x2.1 = x3.1 ∧ x2.2.1 = x3.2.1 ∧ x2.2.2.1 = x3.2.2.1 ∧ x2.2.2.2.1 = x3.2.2.2.1 ∧ x2.2.2.2.2 = x3.2.2.2.2))) = true then some (.inr (.inr false)) else some (.inl (w64 (x1 + 1)))) else some (.inr (.inl ())))
def AU (p0 : List Sq) (p1 : List Sq) : Option Bool := (if (p0.length : Int) ≠ (p1.length : Int) then some false else GO (Ah (AB p0 p1) 0) fun _ => some true)
abbrev K90 : Cn_ := ⟨[P7,P7],[KS],[],false,fun x => AU x.1 x.2,none⟩
theorem k90 : KO (K90) 90 := Eb (ct := (.q (.q (.j (.st true ⟨[],[],[]⟩) (.q (.b (.l ⟨[(13,false,AG)],[],[]⟩ .d))) .d)))) D6 BG Tryz.func90 (by kernel_rfl) fun x => by kernel_rfl
def Ef (p0 : Int × (Int × Int × Int × Int) × (List Sq)) (p1 : Int × (Int × Int × Int × Int) × (List Sq)) (p2 : Int) : Option Bool := ((C0 ((AN p0).1,((AN p0).2.1,(AN p0).2.2.1,(AN p0).2.2.2.1,(AN p0).2.2.2.2)) p2 (-1)).bind fun x2 => (C0 ((AN p1).1,((AN p1).2.1,(AN p1).2.2.1,(AN p1).2.2.2.1,(AN p1).2.2.2.2)) p2 (-1)).bind fun x3 => (if x2.1 = x3.1 ∧ x2.2.1 = x3.2.1 ∧ x2.2.2.1 = x3.2.2.1 ∧ x2.2.2.2.1 = x3.2.2.2.1 ∧ x2.2.2.2.2 = x3.2.2.2.2 then (AU p0.2.2 p1.2.2).bind fun x4 => some x4 else some false)).bind fun x1 => some x1
abbrev K89 : Cn_ := ⟨[(.b true,[.d true rQ]),(.b true,[.d true rQ]),(.p,[])],[KS],[(false,[.d true I3])],false,fun x => Ef x.1 x.2.1 x.2.2,none⟩
theorem k89 : KO (K89) 89 := Eb (ct := (.q (.j (.st false ⟨[(5,false,Ea)],[],[]⟩) .d .d))) D6 (AH k28 (AH k37 (AH k90 BG))) Tryz.func89 (by kernel_rfl) fun x => by kernel_rfl
def Ap (p0 : List (Int × (Int × Int × Int × Int) × (List Sq))) (p1 : List (Int × (Int × Int × Int × Int) × (List Sq))) (p2c0 : Int) : Int → Option (Int ⊕ (Unit ⊕ Bool))
  | x1 => (if x1 < (p0.length : Int) then (ix p0 x1).bind fun x2 => (ix p1 x1).bind fun x3 => (Ef x2 x3 p2c0).bind fun x4 => (if (!x4) = true then some (.inr (.inr false)) else some (.inl (w64 (x1 + 1)))) else some (.inr (.inl ())))
def AQ (p0 : List (Int × (Int × Int × Int × Int) × (List Sq))) (p1 : List (Int × (Int × Int × Int × Int) × (List Sq))) (p2c0 : Int) : Option Bool := (if (p0.length : Int) ≠ (p1.length : Int) then some false else GO (Ah (Ap p0 p1 p2c0) 0) fun _ => some true)
abbrev K88 : Cn_ := ⟨[aA,aA,(.fn 89 [] 1,[])],[KS],[(false,[.d true I3])],false,fun x => AQ x.1 x.2.1 x.2.2,none⟩
theorem k88 : KO (K88) 88 := Eb (ct := (.q (.q (.j (.st true ⟨[],[],[]⟩) (.q (.b (.l ⟨[(17,false,AG)],[],[]⟩ .d))) .d)))) D6 (AH k89 BG) Tryz.func88 (by kernel_rfl) fun x => by kernel_rfl
def Db (p0 : List (Int × (Int × Int × Int × Int) × (List Sq))) (p1 : List (Int × (Int × Int × Int × Int) × (List Sq))) (p2 : Int) : Option Bool := (AQ p0 p1 p2).bind fun x1 => some x1
abbrev K60 : Cn_ := ⟨[aA,aA,DT],[KS],[],false,fun x => Db x.1 x.2.1 x.2.2,none⟩
theorem k60 : KO (K60) 60 := Eb (ct := .d) D6 (AH k88 BG) Tryz.func60 (by kernel_rfl) fun x => by kernel_rfl
theorem PQ (Y : Nat → Prop) (w0 : World) (v1 : Value) (v2 : Value) (p0 : List (Int × (Int × Int × Int × Int) × (List Sq))) (p1 : List (Int × (Int × Int × Int × Int) × (List Sq))) (p2 : Int) (r : Bool) (H : Db p0 p1 p2 = some r) (h_v1 : Sl w0 (NX []) MH v1 p0) (h_v2 : Sl w0 (NX []) MH v2 p1) :
    ca_ 60 #[v1,v2,Jint p2] w0 fun e w' => e = .returned (.bool r) ∧ Below w0.heap.size w0 w' := k60.outP (Y := Y) (x := (p0,p1,p2)) H rfl rfl rfl rfl rfl (v1,(v2,())) ⟨h_v1,⟨h_v2,trivial⟩⟩ rfl trivial fun _ => rfl
theorem H60 : Has Tryz.prog 60 := Js Tryz.func60
def A1 (fRec : (Tr41 × Int × (List Int × List Int × List Int × List Int × List Int)) → Int → Sq → Option (List (Int × (Int × Int × Int × Int) × (List Sq)))) (p0 : Tr41 × Int × (List Int × List Int × List Int × List Int × List Int)) (p1 : Int) (p2 : Sq) (x2 : Int) (x3 : (List (Int × (Int × Int × Int × Int) × (List Sq)))) (x5 : List Int) : ((List (Int × (Int × Int × Int × Int) × (List Sq))) × Int) → Option (((List (Int × (Int × Int × Int × Int) × (List Sq))) × Int) ⊕ (List (Int × (Int × Int × Int × Int) × (List Sq))))
  | (x6,x7) => (if x7 < (x5.length : Int) then ((ix x5 x7).bind fun x9 => (C0 p2 x2 x9).bind fun x10 => (fRec (Tr41.of (p0.1.un.1,f38 p0.1.un.2.1,p0.1.un.2.2.1,p0.1.un.2.2.2.1,p0.1.un.2.2.2.2),p0.2.1,p0.2.2) (w64 (p1 + 1)) x10).bind fun x11 => (Db x11 x3 x2).bind fun x12 => (if (!x12) = true then (HT x6 x11).bind fun x13 => some x13 else some x6)).bind fun x8 => some (.inl (x8,w64 (x7 + 1))) else some (.inr x6))
def Be (fRec : (Tr41 × Int × (List Int × List Int × List Int × List Int × List Int)) → Int → Sq → Option (List (Int × (Int × Int × Int × Int) × (List Sq)))) (p0 : Tr41 × Int × (List Int × List Int × List Int × List Int × List Int)) (p1 : Int) (p2 : Sq) : Option (List (Int × (Int × Int × Int × Int) × (List Sq))) := (if p1 = 5 then (BK (Tr41.of (p0.1.un.1,f38 p0.1.un.2.1,p0.1.un.2.2.1,p0.1.un.2.2.2.1,p0.1.un.2.2.2.2),p0.2.1,p0.2.2) p2).bind fun x1 => some ([(p2.1,p2.2,x1)] : List (Int × (Int × Int × Int × Int) × (List Sq))) else (Bl p1).bind fun x2 => (fRec (Tr41.of (p0.1.un.1,f38 p0.1.un.2.1,p0.1.un.2.2.1,p0.1.un.2.2.2.1,p0.1.un.2.2.2.2),p0.2.1,p0.2.2) (w64 (p1 + 1)) p2).bind fun x3 => ((ix ([p0.2.2.1,p0.2.2.2.1,p0.2.2.2.2.1,p0.2.2.2.2.2.1,p0.2.2.2.2.2.2] : List (List Int)) p1).bind fun x5 => Ah (A1 fRec p0 p1 p2 x2 x3 x5) ([],0)).bind fun x4 => (HT x4 x3).bind fun x14 => some x14)
def A0 : Nat → (Tr41 × Int × (List Int × List Int × List Int × List Int × List Int)) → Int → Sq → Option (List (Int × (Int × Int × Int × Int) × (List Sq)))
  | 0 => fun _ _ _ => none
  | n + 1 => Be (A0 n)
def Dx (p0 : Tr41 × Int × (List Int × List Int × List Int × List Int × List Int)) (p1 : Int) (p2 : Sq) : Option (List (Int × (Int × Int × Int × Int) × (List Sq))) := Hc fun n => A0 n p0 p1 p2
theorem LB (fRec : (Tr41 × Int × (List Int × List Int × List Int × List Int × List Int)) → Int → Sq → Option (List (Int × (Int × Int × Int × Int) × (List Sq)))) (ih : ∀ (Y : Nat → Prop) (w0 : World) (v1 : Value) (v2 : Value) (v3 : Value) (v4 : Value) (v5 : Value) (v6 : Value) (v7 : Value) (p0 : Tr41 × Int × (List Int × List Int × List Int × List Int × List Int)) (p1 : Int) (p2 : Sq) (r : (List (Int × (Int × Int × Int × Int) × (List Sq)))) (H : fRec p0 p1 p2 = some r) (s_v1 : Sl w0 Y Lv v1 p0.1.un.2.1.un.2.2.2) (s_v2 : Sl w0 Y LD v2 p0.1.un.2.2.2.2) (s_v3 : Sl w0 Y ri v3 p0.2.2.1) (s_v4 : Sl w0 Y ri v4 p0.2.2.2.1) (s_v5 : Sl w0 Y ri v5 p0.2.2.2.2.1) (s_v6 : Sl w0 Y ri v6 p0.2.2.2.2.2.1) (s_v7 : Sl w0 Y ri v7 p0.2.2.2.2.2.2),ca_ 29 #[.agg #[Jint p0.1.un.1,Jint p0.1.un.2.1.un.1,Jint p0.1.un.2.1.un.2.1,Jint p0.1.un.2.1.un.2.2.1,v1,Jint p0.1.un.2.2.1,Jint p0.1.un.2.2.2.1,v2,Jint p0.2.1,v3,v4,v5,v6,v7],Jint p1,.agg #[Jint p2.1,Jint p2.2.1,Jint p2.2.2.1,Jint p2.2.2.2.1,Jint p2.2.2.2.2]] w0 fun e w' => ∃ x : Value,e = .returned (x) ∧ sy Y w0 [] [row (x) 56 MH r] w') (Y : Nat → Prop) (w0 : World) (v1 : Value) (v2 : Value) (v3 : Value) (v4 : Value) (v5 : Value) (v6 : Value) (v7 : Value) (p0 : Tr41 × Int × (List Int × List Int × List Int × List Int × List Int)) (p1 : Int) (p2 : Sq) (r : (List (Int × (Int × Int × Int × Int) × (List Sq)))) (H : Be fRec p0 p1 p2 = some r) (s_v1 : Sl w0 Y Lv v1 p0.1.un.2.1.un.2.2.2) (s_v2 : Sl w0 Y LD v2 p0.1.un.2.2.2.2) (s_v3 : Sl w0 Y ri v3 p0.2.2.1) (s_v4 : Sl w0 Y ri v4 p0.2.2.2.1) (s_v5 : Sl w0 Y ri v5 p0.2.2.2.2.1) (s_v6 : Sl w0 Y ri v6 p0.2.2.2.2.2.1) (s_v7 : Sl w0 Y ri v7 p0.2.2.2.2.2.2) :
    ca_ 29 #[.agg #[Jint p0.1.un.1,Jint p0.1.un.2.1.un.1,Jint p0.1.un.2.1.un.2.1,Jint p0.1.un.2.1.un.2.2.1,v1,Jint p0.1.un.2.2.1,Jint p0.1.un.2.2.2.1,v2,Jint p0.2.1,v3,v4,v5,v6,v7],Jint p1,.agg #[Jint p2.1,Jint p2.2.1,Jint p2.2.2.1,Jint p2.2.2.2.1,Jint p2.2.2.2.2]] w0 fun e w' => ∃ x : Value,e = .returned (x) ∧ sy Y w0 [] [row (x) 56 MH r] w' := by
 refine enter Tryz.func29 Aa Tryz.ntmps29 Aa fun a W => ?_
 have F := Stw.start Y w0
 obtain ⟨v8,h1,s_v1⟩ := s_v1.ex RI
 obtain ⟨v9,h2,s_v2⟩ := s_v2.ex O0
 have h_v1 := F.nx s_v1
 have h_v2 := F.nx s_v2
 have h_v3 := F.nx s_v3
 have h_v4 := F.nx s_v4
 have h_v5 := F.nx s_v5
 have h_v6 := F.nx s_v6
 have h_v7 := F.nx s_v7
 unfold Be at H
 refine vc tk 2 W F fun a w W F => ?_
 refine Ig (cs := (J4 p0 v1 v2 v3 v4 v5 v6 v7)) W F Aa Aa Aa fun b1 a w W F => ?_
 refine Ig (cs := (C7 p2)) W F Aa Aa Aa fun b2 a w W F => ?_
 refine KR tk 10 W F fun a w W F => ?_
 refine JP W Aa H (fun W H => ?_) fun W H => ?_
 ·
  refine N8 ?_
  refine S5 [(true,0),(true,1),(true,2),(true,3),(true,4),(true,5),(false,6),(true,7),(false,8),(false,9)] (CN ⟨Y,[],w0⟩ [(some 8,b2,[Jint p2.1,Jint p2.2.1,Jint p2.2.2.1,Jint p2.2.2.2.1,Jint p2.2.2.2.2]),(some 6,b1,[Jint p0.1.un.1,Jint p0.1.un.2.1.un.1,Jint p0.1.un.2.1.un.2.1,Jint p0.1.un.2.1.un.2.2.1,v1,Jint p0.1.un.2.2.1,Jint p0.1.un.2.2.2.1,v2,Jint p0.2.1,v3,v4,v5,v6,v7]),(some 6,b2,[Jint p2.1,Jint p2.2.1,Jint p2.2.2.1,Jint p2.2.2.2.1,Jint p2.2.2.2.2])] []) (fun ch a d v w h => by cases d <;> exact h) MO (by kernel_rfl) F (fun w F => ⟨_,_,F,(all_cons (fun _ => (.head _)) (all_cons (fun _ => (.tail _ (.head _))) (all_cons (fun _ => (.head _)) BS))),BS⟩) fun w F => ?_
  refine Lj (R := []) W Aa Aa (yC fun M Z hN hZ => A2 Mu Aa Aa Aa T3 W Aa 0 Aa) Aa Aa fun a W => ?_
  refine Lj (R := [8,7]) W Aa Aa (yC fun M Z hN hZ => EQ (cs := (C7 p2)) (v := Jint p2.1) W Aa (hN ((some 8),b2,(C7 p2)) (.head _) Aa) T3 Aa) (by kernel_rfl) Aa fun a W => ?_
  refine Lj (R := []) W Aa Aa (yC fun M Z hN hZ => A2 Mu Aa Aa Aa ZR W Aa 1 Aa) Aa Aa fun a W => ?_
  refine Lj (R := [8,7]) W Aa Aa (yC fun M Z hN hZ => EQ (cs := (C7 p2)) (v := Value.agg #[Jint p2.2.1,Jint p2.2.2.1,Jint p2.2.2.2.1,Jint p2.2.2.2.2]) W Aa (hN ((some 8),b2,(C7 p2)) (.head _) Aa) ZR Aa) (by kernel_rfl) Aa fun a W => ?_
  refine Lj (R := [6]) W Aa Aa (yC fun M Z hN hZ => EQ (cs := (J4 p0 v1 v2 v3 v4 v5 v6 v7)) (v := Value.agg #[Jint p0.1.un.1,Jint p0.1.un.2.1.un.1,Jint p0.1.un.2.1.un.2.1,Jint p0.1.un.2.1.un.2.2.1,v1,Jint p0.1.un.2.2.1,Jint p0.1.un.2.2.2.1,v2,Jint p0.2.1,v3,v4,v5,v6,v7]) W Aa (hN ((some 6),b1,(J4 p0 v1 v2 v3 v4 v5 v6 v7)) (.tail _ (.head _)) Aa) T69 Aa) (by kernel_rfl) Aa fun a W => ?_
  refine Lj (R := [6]) W Aa Aa (yC fun M Z hN hZ => EQ (cs := (C7 p2)) (v := Value.agg #[Jint p2.1,Jint p2.2.1,Jint p2.2.2.1,Jint p2.2.2.2.1,Jint p2.2.2.2.2]) W Aa (hN ((some 6),b2,(C7 p2)) (.tail _ (.tail _ (.head _))) Aa) W9 Aa) (by kernel_rfl) Aa fun a W => ?_
  refine TP Aa ?_
  obtain ⟨x1,h3,H⟩ := Bz H
  refine FM (Ml := []) (Zl := []) (β := Value) (rv := fun x => x) (MM := fun x => []) (ZZ := fun x => [row x 60 JQ x1]) W F H59 Aa Aa (fun hL => Kp _ w (v1) (v2) (v3) (v4) (v5) (v6) (v7) (Tr41.of (p0.1.un.1,f38 p0.1.un.2.1,p0.1.un.2.2.1,p0.1.un.2.2.2.1,p0.1.un.2.2.2.2),p0.2.1,p0.2.2) p2 _ h3 (Sl.hide RI h1 (F.old s_v1)) (Sl.hide O0 h2 (F.old s_v2)) (F.old s_v3) (F.old s_v4) (F.old s_v5) (F.old s_v6) (F.old s_v7)) fun x a w W F => ?_
  obtain ⟨v10,rfl⟩ : ∃ y,y = x := ⟨x,rfl⟩
  have F : sy Y w0 [(b2,(C7 p2)),(b1,(J4 p0 v1 v2 v3 v4 v5 v6 v7))] [row v10 60 JQ x1] w := F
  refine IL (N2 := []) (NZ2 := []) (N3 := [(some 8,b2,[Jint p2.1,Jint p2.2.1,Jint p2.2.2.1,Jint p2.2.2.2.1,Jint p2.2.2.2.2]),(some 6,b1,[Jint p0.1.un.1,Jint p0.1.un.2.1.un.1,Jint p0.1.un.2.1.un.2.1,Jint p0.1.un.2.1.un.2.2.1,v1,Jint p0.1.un.2.2.1,Jint p0.1.un.2.2.2.1,v2,Jint p0.2.1,v3,v4,v5,v6,v7]),(some 6,b2,[Jint p2.1,Jint p2.2.1,Jint p2.2.2.1,Jint p2.2.2.2.1,Jint p2.2.2.2.2])]) (NZ3 := []) F Aa Aa (all_cons (fun _ => (.head _)) (all_cons (fun h => Ce (by kernel_rfl) h) (all_cons (fun h => Ce (by kernel_rfl) h) BS))) BS ?_
  refine Lj (R := []) W Aa Aa (yC fun M Z hN hZ => H8 (v := Value.agg #[Jint p2.1,Jint p2.2.1,Jint p2.2.2.1,Jint p2.2.2.2.1,Jint p2.2.2.2.2,v10]) B56 W Aa (Ey Aa Aa Aa (Ey Aa Aa Aa (Ey Aa (Nt (F.one (k := 0) Aa)) Aa MY))) Aa) Aa Aa fun a W => ?_
  refine TP Aa ?_
  have F := F.freeze
  refine Ub (z := Value.agg #[Jint 0,Jint 0,Jint 0,Jint 0,Jint 0,.slice none 0 0]) (cs := [Jint p2.1,Jint p2.2.1,Jint p2.2.2.1,Jint p2.2.2.2.1,Jint p2.2.2.2.2,v10]) MH ([(p2.1,p2.2,x1)] : List (Int × (Int × Int × Int × Int) × (List Sq))) W F Aa zA Z56 Aa Aa Aa (Ey Aa Aa Aa MY) Aa Aa ⟨[Jint p2.1,Jint p2.2.1,Jint p2.2.2.1,Jint p2.2.2.2.1,Jint p2.2.2.2.2,v10],_,Aa,⟨[Jint p2.1],[Jint p2.2.1,Jint p2.2.2.1,Jint p2.2.2.2.1,Jint p2.2.2.2.2,v10],Aa,Aa,⟨[Jint p2.2.1,Jint p2.2.2.1,Jint p2.2.2.2.1,Jint p2.2.2.2.2],[v10],Aa,⟨[Jint p2.2.1],[Jint p2.2.2.1,Jint p2.2.2.2.1,Jint p2.2.2.2.2],Aa,Aa,⟨[Jint p2.2.2.1],[Jint p2.2.2.2.1,Jint p2.2.2.2.2],Aa,Aa,⟨[Jint p2.2.2.2.1],[Jint p2.2.2.2.2],Aa,Aa,Aa⟩⟩⟩,⟨_,Aa,(F.item (i := 0) Aa)⟩⟩⟩,Aa⟩ fun v11 a w W F => ?_
  refine IL (N2 := []) (NZ2 := []) (N3 := [(some 8,b2,[Jint p2.1,Jint p2.2.1,Jint p2.2.2.1,Jint p2.2.2.2.1,Jint p2.2.2.2.2]),(some 6,b1,[Jint p0.1.un.1,Jint p0.1.un.2.1.un.1,Jint p0.1.un.2.1.un.2.1,Jint p0.1.un.2.1.un.2.2.1,v1,Jint p0.1.un.2.2.1,Jint p0.1.un.2.2.2.1,v2,Jint p0.2.1,v3,v4,v5,v6,v7]),(some 6,b2,[Jint p2.1,Jint p2.2.1,Jint p2.2.2.1,Jint p2.2.2.2.1,Jint p2.2.2.2.2])]) (NZ3 := []) F Aa Aa (all_cons (fun h => Ce (by kernel_rfl) h) (all_cons (fun h => Ce (by kernel_rfl) h) (all_cons (fun h => Ce (by kernel_rfl) h) BS))) BS ?_
  refine TP Aa ?_
  refine ls W F Aa (MG W Aa).q fun a w W F => ?_
  refine IL (N2 := []) (NZ2 := []) (N3 := [(some 8,b2,[Jint p2.1,Jint p2.2.1,Jint p2.2.2.1,Jint p2.2.2.2.1,Jint p2.2.2.2.2]),(some 6,b1,[Jint p0.1.un.1,Jint p0.1.un.2.1.un.1,Jint p0.1.un.2.1.un.2.1,Jint p0.1.un.2.1.un.2.2.1,v1,Jint p0.1.un.2.2.1,Jint p0.1.un.2.2.2.1,v2,Jint p0.2.1,v3,v4,v5,v6,v7]),(some 6,b2,[Jint p2.1,Jint p2.2.1,Jint p2.2.2.1,Jint p2.2.2.2.1,Jint p2.2.2.2.2])]) (NZ3 := []) F Aa Aa (all_cons (fun h => Ce (by kernel_rfl) h) (all_cons (fun h => Ce (by kernel_rfl) h) (all_cons (fun h => Ce (by kernel_rfl) h) BS))) BS ?_
  refine Yc (Az (De (FW ?_)))
  have H := Fj H
  subst H
  refine EE (.inl Aa) W F Aa (DJ W Aa) ?_
  have F := F.sub (M' := []) (Z' := [row v11 56 MH ([(p2.1,p2.2,x1)] : List (Int × (Int × Int × Int × Int) × (List Sq)))]) nl (sc nl)
  exact ⟨(v11),Aa,F⟩
 refine jH tk 5 W F fun a w W F => ?_
 obtain ⟨x2,h4,H⟩ := Bz H
 refine ls W F Aa (Gj (v := Jint x2) W H27 Aa (fun w F => Nd any w p1 _ h4)) fun a w W F => ?_
 refine WT tk 9 [1,0] W F (ai (ai fun a w W F => ?_))
 obtain ⟨x3,h5,H⟩ := Bz H
 refine FM (Ml := []) (Zl := []) (β := Value) (rv := fun x => x) (MM := fun x => []) (ZZ := fun x => [row x 56 MH x3]) W F H29 Aa Aa (fun hL => ih _ w (v1) (v2) (v3) (v4) (v5) (v6) (v7) (Tr41.of (p0.1.un.1,f38 p0.1.un.2.1,p0.1.un.2.2.1,p0.1.un.2.2.2.1,p0.1.un.2.2.2.2),p0.2.1,p0.2.2) (w64 (p1 + 1)) p2 _ h5 (Sl.hide RI h1 (F.old s_v1)) (Sl.hide O0 h2 (F.old s_v2)) (F.old s_v3) (F.old s_v4) (F.old s_v5) (F.old s_v6) (F.old s_v7)) fun x a w W F => ?_
 obtain ⟨v12,rfl⟩ : ∃ y,y = x := ⟨x,rfl⟩
 have F : sy Y w0 [(b2,(C7 p2)),(b1,(J4 p0 v1 v2 v3 v4 v5 v6 v7))] [row v12 56 MH x3] w := F
 refine KR tk 8 W F fun a w W F => ?_
 obtain ⟨o1,G1,K1⟩ := Bz H
 refine Fx (fun a w => ∃ x4 : List (Int × (Int × Int × Int × Int) × (List Sq)), ∃ v13 : Value,some (x4) = some o1 ∧ Fr 60 [] [(6,.slice none 0 0),(8,v12),(9,v13)] a ∧ sy Y w0 [(b2,(C7 p2)),(b1,(J4 p0 v1 v2 v3 v4 v5 v6 v7))] [row v12 56 MH x3,row v13 56 MH x4] w) ?_ ?_
 ·
  have H := G1
  clear G1 K1
  refine vc tk 4 W F fun a w W F => ?_
  obtain ⟨x5,h6,H⟩ := Bz H
  refine ls W F Aa (Gz (9 + (p1).toNat * 1) zB W Aa Aa Aa h6 Aa).q fun a w W F => ?_
  refine ls W F Aa (ED (v := (Xv [v3,v4,v5,v6,v7] p1)) 1 W Aa Aa T62 (LN (base := 9) (m := 5) (l := [v3,v4,v5,v6,v7]) (enc := fun v => v) Aa (pJ h6 Aa))).q fun a w W F => ?_
  refine ls W F Aa (NJ (r := ri) (l := x5) s8 Aa W Aa (Dg (XW (vs := [v3,v4,v5,v6,v7]) (ls := [p0.2.2.1,p0.2.2.2.1,p0.2.2.2.2.1,p0.2.2.2.2.2.1,p0.2.2.2.2.2.2]) ⟨h_v3,⟨h_v4,⟨h_v5,⟨h_v6,⟨h_v7,trivial⟩⟩⟩⟩⟩ Aa h6))).q fun a w W F => ?_
  refine KR tk 4 W F fun a w W F => ?_
  have F := F.nilRow 56 MH
  have F := F.frontZ (i := 1) Aa Aa
  have F := F.frontM (i := 1) Aa Aa
  have F := F.frontM (i := 1) Aa Aa
  refine Jf H (fun s a w => ∃ v14 : Value,Fr 60 [] [(1,Jint p1),(3,pp b1),(5,pp b2),(6,.slice none 0 0),(7,Jint x2),(8,v12),(9,v14),(34,(Xv [v3,v4,v5,v6,v7] p1)),(35,Jint (x5.length : Int)),(36,Jint s.2)] a ∧ sy Y w0 [(b2,(C7 p2)),(b1,(J4 p0 v1 v2 v3 v4 v5 v6 v7))] [row v12 56 MH x3,row v14 56 MH s.1] w) ⟨(Value.slice none 0 0),W.ra Aa,F⟩ fun s o a w H L2 hR => ?_
  obtain ⟨x6,x7⟩ := s
  obtain ⟨v14,W,F⟩ := hR
  have W : Fr 60 [] [(1,Jint p1),(3,pp b1),(5,pp b2),(6,.slice none 0 0),(7,Jint x2),(8,v12),(9,v14),(34,(Xv [v3,v4,v5,v6,v7] p1)),(35,Jint (x5.length : Int)),(36,Jint x7)] a := W
  have F : sy Y w0 [(b2,(C7 p2)),(b1,(J4 p0 v1 v2 v3 v4 v5 v6 v7))] [row v12 56 MH x3,row v14 56 MH x6] w := F
  rw [A1] at H
  refine vc tk 6 W F fun a w W F => ?_
  refine JP W Aa H (fun W H => ?_) fun W H => ?_
  ·
   refine E0 (Az ?_)
   obtain ⟨o3,G3,K3⟩ := Bz H
   refine Fx (fun a w => ∃ x8 : List (Int × (Int × Int × Int × Int) × (List Sq)), ∃ v15 : Value,some (x8) = some o3 ∧ Fr 60 [] [(1,Jint p1),(3,pp b1),(5,pp b2),(6,.slice none 0 0),(7,Jint x2),(8,v12),(9,v15),(34,(Xv [v3,v4,v5,v6,v7] p1)),(35,Jint (x5.length : Int)),(36,Jint x7)] a ∧ sy Y w0 [(b2,(C7 p2)),(b1,(J4 p0 v1 v2 v3 v4 v5 v6 v7))] [row v12 56 MH x3,row v15 56 MH x8] w) ?_ ?_
   ·
    have H := G3
    clear G3 K3
    refine vc tk 3 W F fun a w W F => ?_
    obtain ⟨x9,h7,H⟩ := Bz H
    refine ls W F Aa (Hj (r := ri) L62 W Aa Aa (Dg (XW (vs := [v3,v4,v5,v6,v7]) (ls := [p0.2.2.1,p0.2.2.2.1,p0.2.2.2.2.1,p0.2.2.2.2.2.1,p0.2.2.2.2.2.2]) ⟨h_v3,⟨h_v4,⟨h_v5,⟨h_v6,⟨h_v7,trivial⟩⟩⟩⟩⟩ Aa h6)) h7).q fun a w W F => ?_
    refine ls W F Aa (EM (y := Jint x9) (j := 0) (i := x7) W Aa Aa (Dg (XW (vs := [v3,v4,v5,v6,v7]) (ls := [p0.2.2.1,p0.2.2.2.1,p0.2.2.2.2.1,p0.2.2.2.2.2.1,p0.2.2.2.2.2.2]) ⟨h_v3,⟨h_v4,⟨h_v5,⟨h_v6,⟨h_v7,trivial⟩⟩⟩⟩⟩ Aa h6)) h7 Fl.int.to T3 Aa).q fun a w W F => ?_
    refine KR tk 4 W F fun a w W F => ?_
    refine Sx 7 F MO (by kernel_rfl) ?_
    refine qs W Aa (ED (v := Value.agg #[Jint p0.1.un.1,Jint p0.1.un.2.1.un.1,Jint p0.1.un.2.1.un.2.1,Jint p0.1.un.2.1.un.2.2.1,v1,Jint p0.1.un.2.2.1,Jint p0.1.un.2.2.2.1,v2,Jint p0.2.1,v3,v4,v5,v6,v7]) 1 W Aa Aa T69 Aa).q fun a W => ?_
    refine qs W Aa (En W Aa).q fun a W => ?_
    refine qs W Aa (eF W Aa Aa Aa).q fun a W => ?_
    refine qs W Aa (ED (v := Value.agg #[Jint p2.1,Jint p2.2.1,Jint p2.2.2.1,Jint p2.2.2.2.1,Jint p2.2.2.2.2]) 0 W Aa Aa W9 Aa).q fun a W => ?_
    iterate 2 refine qs W Aa (En W Aa).q fun a W => ?_
    obtain ⟨x10,h8,H⟩ := Bz H
    refine qs W Aa (Gj (v := Value.agg #[Jint x10.1,Jint x10.2.1,Jint x10.2.2.1,Jint x10.2.2.2.1,Jint x10.2.2.2.2]) W H28 Aa (fun w F => Qh any w p2 x2 x9 _ h8)) fun a W => ?_
    refine EO fun w F => ?_
    obtain ⟨x11,h9,H⟩ := Bz H
    refine FM (Ml := []) (Zl := []) (β := Value) (rv := fun x => x) (MM := fun x => []) (ZZ := fun x => [row x 56 MH x11]) W F H29 Aa Aa (fun hL => ih _ w (v1) (v2) (v3) (v4) (v5) (v6) (v7) (Tr41.of (p0.1.un.1,f38 p0.1.un.2.1,p0.1.un.2.2.1,p0.1.un.2.2.2.1,p0.1.un.2.2.2.2),p0.2.1,p0.2.2) (w64 (p1 + 1)) x10 _ h9 (Sl.hide RI h1 (F.old s_v1)) (Sl.hide O0 h2 (F.old s_v2)) (F.old s_v3) (F.old s_v4) (F.old s_v5) (F.old s_v6) (F.old s_v7)) fun x a w W F => ?_
    obtain ⟨v16,rfl⟩ : ∃ y,y = x := ⟨x,rfl⟩
    have F : sy Y w0 [(b2,(C7 p2)),(b1,(J4 p0 v1 v2 v3 v4 v5 v6 v7))] [row v16 56 MH x11,row v12 56 MH x3,row v14 56 MH x6] w := F
    refine KR tk 8 W F fun a w W F => ?_
    obtain ⟨x12,h10,H⟩ := Bz H
    refine ls W F Aa (Gj (v := Value.bool x12) W H60 Aa (fun w F => PQ any w (v16) (v12) x11 x3 x2 _ h10 (aT (DQ 0 Aa) F) (aT (DQ 1 Aa) F))) fun a w W F => ?_
    refine KR tk 3 W F fun a w W F => ?_
    refine NG W Aa H (fun W H => ?_) fun W H => ?_
    ·
     refine vc tk 3 W F fun a w W F => ?_
     obtain ⟨x13,h11,H⟩ := Bz H
     refine Ls (r := MH) (i := 2) W F Aa zA Aa Aa Aa Aa (Rh F 0 Aa) h11 Aa fun v17 a w W F => ?_
     have F : sy Y w0 [(b2,(C7 p2)),(b1,(J4 p0 v1 v2 v3 v4 v5 v6 v7))] [row v17 56 MH x13,row v16 56 MH x11,row v12 56 MH x3] w := F
     refine vl tk 2 W F fun a w W F => ?_
     refine EF (Az ?_)
     have F := F.frontZ (i := 2) Aa Aa
     have F := F.frontM (i := 1) Aa Aa
     have F := F.frontM (i := 1) Aa Aa
     have F := F.sub (M' := [(b2,(C7 p2)),(b1,(J4 p0 v1 v2 v3 v4 v5 v6 v7))]) (Z' := [row v12 56 MH x3,row v17 56 MH x13]) sr (sc (sc nl))
     exact ⟨_,(v17),H,W.ra Aa,F⟩
    refine E0 (EF (Az ?_))
    have F := F.frontZ (i := 2) Aa Aa
    have F := F.frontZ (i := 2) Aa Aa
    have F := F.frontM (i := 1) Aa Aa
    have F := F.frontM (i := 1) Aa Aa
    have F := F.sub (M' := [(b2,(C7 p2)),(b1,(J4 p0 v1 v2 v3 v4 v5 v6 v7))]) (Z' := [row v12 56 MH x3,row v14 56 MH x6]) sr (sc (sc nl))
    exact ⟨_,(v14),H,W.ra Aa,F⟩
   rintro a w ⟨x8,v15,hj,W,F⟩
   have hj := Fj hj
   subst hj
   have H := K3
   clear G3 K3
   refine vc tk 4 W F fun a w W F => ?_
   refine Az ?_
   have F := F.frontZ (i := 1) Aa Aa
   have F := F.frontZ (i := 1) Aa Aa
   have F := F.frontM (i := 1) Aa Aa
   have F := F.frontM (i := 1) Aa Aa
   exact ⟨_,H,(v15),W.ra Aa,F⟩
  refine Hl ?_
  iterate 2 refine KC ?_
  refine GF (Az ?_)
  have F := F.frontZ (i := 1) Aa Aa
  have F := F.frontZ (i := 1) Aa Aa
  have F := F.frontM (i := 1) Aa Aa
  have F := F.frontM (i := 1) Aa Aa
  have H := L2 _ H
  exact ⟨_,(v14),H,W.ra Aa,F⟩
 rintro a w ⟨x4,v13,hj,W,F⟩
 have hj := Fj hj
 subst hj
 have H := K1
 clear G1 K1
 refine vc tk 4 W F fun a w W F => ?_
 obtain ⟨x14,h12,H⟩ := Bz H
 refine Ls (r := MH) (i := 1) W F Aa zA Aa Aa Aa Aa (Rh F 0 Aa) h12 Aa fun v18 a w W F => ?_
 have F : sy Y w0 [(b2,(C7 p2)),(b1,(J4 p0 v1 v2 v3 v4 v5 v6 v7))] [row v18 56 MH x14,row v12 56 MH x3] w := F
 refine KR tk 3 W F fun a w W F => ?_
 refine De ?_
 have H := Fj H
 subst H
 refine EE (.inl Aa) W F Aa (DJ W Aa) ?_
 have F := F.sub (M' := []) (Z' := [row v18 56 MH x14]) nl (sc nl)
 exact ⟨(v18),Aa,F⟩
theorem L8 : ∀ (n : Nat) (Y : Nat → Prop) (w0 : World) (v1 : Value) (v2 : Value) (v3 : Value) (v4 : Value) (v5 : Value) (v6 : Value) (v7 : Value) (p0 : Tr41 × Int × (List Int × List Int × List Int × List Int × List Int)) (p1 : Int) (p2 : Sq) (r : (List (Int × (Int × Int × Int × Int) × (List Sq)))) (H : A0 n p0 p1 p2 = some r) (s_v1 : Sl w0 Y Lv v1 p0.1.un.2.1.un.2.2.2) (s_v2 : Sl w0 Y LD v2 p0.1.un.2.2.2.2) (s_v3 : Sl w0 Y ri v3 p0.2.2.1) (s_v4 : Sl w0 Y ri v4 p0.2.2.2.1) (s_v5 : Sl w0 Y ri v5 p0.2.2.2.2.1) (s_v6 : Sl w0 Y ri v6 p0.2.2.2.2.2.1) (s_v7 : Sl w0 Y ri v7 p0.2.2.2.2.2.2),ca_ 29 #[.agg #[Jint p0.1.un.1,Jint p0.1.un.2.1.un.1,Jint p0.1.un.2.1.un.2.1,Jint p0.1.un.2.1.un.2.2.1,v1,Jint p0.1.un.2.2.1,Jint p0.1.un.2.2.2.1,v2,Jint p0.2.1,v3,v4,v5,v6,v7],Jint p1,.agg #[Jint p2.1,Jint p2.2.1,Jint p2.2.2.1,Jint p2.2.2.2.1,Jint p2.2.2.2.2]] w0 fun e w' => ∃ x : Value,e = .returned (x) ∧ sy Y w0 [] [row (x) 56 MH r] w' := by
  intro n
  induction n with
  | zero => intro Y w0 v1 v2 v3 v4 v5 v6 v7 p0 p1 p2 r H; exact nomatch H
  | succ n ih => intro Y w0 v1 v2 v3 v4 v5 v6 v7 p0 p1 p2 r H s_v1 s_v2 s_v3 s_v4 s_v5 s_v6 s_v7; exact LB (A0 n) ih Y w0 v1 v2 v3 v4 v5 v6 v7 p0 p1 p2 r H s_v1 s_v2 s_v3 s_v4 s_v5 s_v6 s_v7
theorem Mt (Y : Nat → Prop) (w0 : World) (v1 : Value) (v2 : Value) (v3 : Value) (v4 : Value) (v5 : Value) (v6 : Value) (v7 : Value) (p0 : Tr41 × Int × (List Int × List Int × List Int × List Int × List Int)) (p1 : Int) (p2 : Sq) (r : (List (Int × (Int × Int × Int × Int) × (List Sq)))) (H : Dx p0 p1 p2 = some r) (s_v1 : Sl w0 Y Lv v1 p0.1.un.2.1.un.2.2.2) (s_v2 : Sl w0 Y LD v2 p0.1.un.2.2.2.2) (s_v3 : Sl w0 Y ri v3 p0.2.2.1) (s_v4 : Sl w0 Y ri v4 p0.2.2.2.1) (s_v5 : Sl w0 Y ri v5 p0.2.2.2.2.1) (s_v6 : Sl w0 Y ri v6 p0.2.2.2.2.2.1) (s_v7 : Sl w0 Y ri v7 p0.2.2.2.2.2.2) :
    ca_ 29 #[.agg #[Jint p0.1.un.1,Jint p0.1.un.2.1.un.1,Jint p0.1.un.2.1.un.2.1,Jint p0.1.un.2.1.un.2.2.1,v1,Jint p0.1.un.2.2.1,Jint p0.1.un.2.2.2.1,v2,Jint p0.2.1,v3,v4,v5,v6,v7],Jint p1,.agg #[Jint p2.1,Jint p2.2.1,Jint p2.2.2.1,Jint p2.2.2.2.1,Jint p2.2.2.2.2]] w0 fun e w' => ∃ x : Value,e = .returned (x) ∧ sy Y w0 [] [row (x) 56 MH r] w' := by
  obtain ⟨n,H⟩ := Lc H
  exact L8 n Y w0 v1 v2 v3 v4 v5 v6 v7 p0 p1 p2 r H s_v1 s_v2 s_v3 s_v4 s_v5 s_v6 s_v7
theorem k29 : KO (K29 fun x => Dx x.1 x.2.1 x.2.2) 29 := KO.of ⟨fun args w => A9 Tryz.func29 rfl (by decide) args w⟩ rfl (fun _ => rfl) (fun _ => rfl) rfl (fun _ => rfl) (fun _ => rfl) (fun _ => rfl) (fun _ => rfl) fun Y w0 x r g H hg hk => (Mt Y w0 g.1 g.2.1 g.2.2.1 g.2.2.2.1 g.2.2.2.2.1 g.2.2.2.2.2.1 g.2.2.2.2.2.2.1 x.1 x.2.1 x.2.2 r H hg.1 hg.2.1 hg.2.2.1 hg.2.2.2.1 hg.2.2.2.2.1 hg.2.2.2.2.2.1 hg.2.2.2.2.2.2.1).mono fun e w' ⟨x,he,F⟩ => ⟨(x,()),he,F⟩
def Ht (p0 : Tr41) (p1 : Int) : Option ((List (Int × (Int × Int × Int × Int) × (List Sq))) × Int) := (GJ (Tr41.of (p0.un.1,f38 p0.un.2.1,p0.un.2.2.1,p0.un.2.2.2.1,p0.un.2.2.2.2))).bind fun x1 => (if (!x1) = true then some (([] : List (Int × (Int × Int × Int × Int) × (List Sq))),17) else (OQ (Tr41.of (p0.un.1,f38 p0.un.2.1,p0.un.2.2.1,p0.un.2.2.2.1,p0.un.2.2.2.2)) p1).bind fun x2 => (HR (Tr41.of (x2.un.1,f38 x2.un.2.1,x2.un.2.2.1,x2.un.2.2.2.1,x2.un.2.2.2.2))).bind fun x3 => (if 4096 < x3 then some (([] : List (Int × (Int × Int × Int × Int) × (List Sq))),6) else (Bl 0).bind fun x4 => (C9 (Tr41.of (x2.un.1,f38 x2.un.2.1,x2.un.2.2.1,x2.un.2.2.2.1,x2.un.2.2.2.2)) x4).bind fun x5 => (Bl 0).bind fun x6 => (C0 ((-1),(0,0,0,0)) x6 (-1)).bind fun x7 => (Bl 1).bind fun x8 => (C9 (Tr41.of (x2.un.1,f38 x2.un.2.1,x2.un.2.2.1,x2.un.2.2.2.1,x2.un.2.2.2.2)) x8).bind fun x9 => (Bl 1).bind fun x10 => (C0 x7 x10 (-1)).bind fun x11 => (Bl 2).bind fun x12 => (C9 (Tr41.of (x2.un.1,f38 x2.un.2.1,x2.un.2.2.1,x2.un.2.2.2.1,x2.un.2.2.2.2)) x12).bind fun x13 => (Bl 2).bind fun x14 => (C0 x11 x14 (-1)).bind fun x15 => (Bl 3).bind fun x16 => (C9 (Tr41.of (x2.un.1,f38 x2.un.2.1,x2.un.2.2.1,x2.un.2.2.2.1,x2.un.2.2.2.2)) x16).bind fun x17 => (Bl 3).bind fun x18 => (C0 x15 x18 (-1)).bind fun x19 => (Bl 4).bind fun x20 => (C9 (Tr41.of (x2.un.1,f38 x2.un.2.1,x2.un.2.2.1,x2.un.2.2.2.1,x2.un.2.2.2.2)) x20).bind fun x21 => (Bl 4).bind fun x22 => (C0 x19 x22 (-1)).bind fun x23 => (Dx (Tr41.of (x2.un.1,f38 x2.un.2.1,x2.un.2.2.1,x2.un.2.2.2.1,x2.un.2.2.2.2),p1,(x5,x9,x13,x17,x21)) 0 x23).bind fun x24 => some (x24,0)))
abbrev K8 : Cn_ := ⟨[Yb,DT],[(.b false,[.o 56 rQ]),JR],[],false,fun x => Ht x.1 x.2,none⟩
theorem k8 : KO (K8) 8 := Eb (ct := (.q (.q (.q (.q (.q (.s (.q (.b (.un .d (.un .d (.un .d (.un .d (.un .d (.un .d .d)))))))) .d))))))) D6 (AH k23 (AH k24 (AH k26 (AH k25 (AH k27 (AH k28 (AH k29 BG))))))) Tryz.func8 (by kernel_rfl) fun x => by kernel_rfl
def H3 (p0 : Sq) (p1 : Int) (p2 : Int × Int × Int × Int) : Option Sq := (if p0.1 = (-1) then some p1 else some p0.1).bind fun x1 => (if p0.2.1 = (-1) then some p2.1 else some p0.2.1).bind fun x2 => (if p0.2.2.1 = (-1) then some p2.2.1 else some p0.2.2.1).bind fun x3 => (if p0.2.2.2.1 = (-1) then some p2.2.2.1 else some p0.2.2.2.1).bind fun x4 => (if p0.2.2.2.2 = (-1) then some p2.2.2.2 else some p0.2.2.2.2).bind fun x5 => some (x1,(x2,x3,x4,x5))
abbrev K36 : Cn_ := ⟨[P3,DT,Ya],[(.b true,[.d false X4])],[],false,fun x => H3 x.1 x.2.1 x.2.2,none⟩
theorem k36 : KO (K36) 36 := Eb (ct := (.q (.j (.st false ⟨[],[(0,[some (.d false I3),none,none,none,none])],[]⟩) .d (.s (.q (.b (.un (.q (.q (.j (.st false ⟨[],[(0,[none,some (.d false I3),none,none,none])],[]⟩) .d .d))) (.un (.q (.q (.j (.st false ⟨[],[(0,[none,none,some (.d false I3),none,none])],[]⟩) .d .d))) (.un (.q (.q (.j (.st false ⟨[],[(0,[none,none,none,some (.d false I3),none])],[]⟩) .d .d))) (.un (.q (.q (.j (.st false ⟨[],[(0,[none,none,none,none,some (.d false I3)])],[]⟩) .d .d))) (.un .d .d))))))) .d)))) D6 BG Tryz.func36 (by kernel_rfl) fun x => by kernel_rfl
def J7 (p0 : Int × (Int × Int × Int × Int) × (List Sq)) (p1 : Int) (p2 : Int × Int × Int × Int) : Option Bool := (H3 ((AN p0).1,((AN p0).2.1,(AN p0).2.2.1,(AN p0).2.2.2.1,(AN p0).2.2.2.2)) p1 p2).bind fun x1 => some (decide (x1.1 = p1 ∧ x1.2.1 = p2.1 ∧ x1.2.2.1 = p2.2.1 ∧ x1.2.2.2.1 = p2.2.2.1 ∧ x1.2.2.2.2 = p2.2.2.2))
abbrev K35 : Cn_ := ⟨[(.b true,[.d true rQ]),(.p,[]),(.p,[])],[KS],[(false,[.d true I3]),(false,[.d true vD])],false,fun x => J7 x.1 x.2.1 x.2.2,none⟩
theorem k35 : KO (K35) 35 := Eb (ct := .d) D6 (AH k37 (AH k36 BG)) Tryz.func35 (by kernel_rfl) fun x => by kernel_rfl
def CZ (p0 : List (Int × (Int × Int × Int × Int) × (List Sq))) (p1c0 : Int) (p1c1 : Int × Int × Int × Int) : Int → Option (Int ⊕ (Unit ⊕ Int))
  | x1 => (if x1 < (p0.length : Int) then (ix p0 x1).bind fun x2 => (J7 x2 p1c0 p1c1).bind fun x3 => (if x3 = true then some (.inr (.inr x1)) else some (.inl (w64 (x1 + 1)))) else some (.inr (.inl ())))
def Cj (p0 : List (Int × (Int × Int × Int × Int) × (List Sq))) (p1c0 : Int) (p1c1 : Int × Int × Int × Int) : Option Int := GO (Ah (CZ p0 p1c0 p1c1) 0) fun _ => some (-1)
abbrev K34 : Cn_ := ⟨[aA,(.fn 35 [] 2,[])],[JR],[(false,[.d true I3]),(false,[.d true vD])],false,fun x => Cj x.1 x.2.1 x.2.2,none⟩
theorem k34 : KO (K34) 34 := Eb (ct := (.q (.j (.st true ⟨[],[],[]⟩) (.q (.b (.l ⟨[(8,false,AG)],[],[]⟩ .d))) .d))) D6 (AH k35 BG) Tryz.func34 (by kernel_rfl) fun x => by kernel_rfl
def Nk (p0 : List (Int × (Int × Int × Int × Int) × (List Sq))) (p1 : Int) (p2 : Int × Int × Int × Int) : Option Int := (Cj p0 p1 p2).bind fun x1 => some x1
abbrev K13 : Cn_ := ⟨[aA,DT,Ya],[JR],[],false,fun x => Nk x.1 x.2.1 x.2.2,none⟩
theorem k13 : KO (K13) 13 := Eb (ct := .d) D6 (AH k34 BG) Tryz.func13 (by kernel_rfl) fun x => by kernel_rfl
def Jl  : Option Bool := (Ht (Tr41.of (5,Tr38.of (3,1,1,([] : List Tr38)),0,0,([Tr41.of (2,Tr38.of (0,0,0,([] : List Tr38)),4,2,([] : List Tr41)),Tr41.of (1,Tr38.of (2,0,0,([] : List Tr38)),0,0,([] : List Tr41))] : List Tr41))) 0).bind fun x1 => (if x1.2 = 0 then (if (x1.1.length : Int) = 2 then (ix x1.1 0).bind fun x3 => (if x3.2.1.1 = (-1) ∧ x3.2.1.2.1 = 1 ∧ x3.2.1.2.2.1 = (-1) ∧ x3.2.1.2.2.2 = (-1) then (ix x1.1 0).bind fun x4 => (if (x4.2.2.length : Int) = 1 then (ix x1.1 0).bind fun x5 => (ix x5.2.2 0).bind fun x6 => (if x6.1 = 2 then (ix x1.1 1).bind fun x7 => (if (x7.2.2.length : Int) = 0 then (Nk x1.1 0 (0,0,0,0)).bind fun x8 => some (decide (x8 = 1)) else some false) else some false) else some false) else some false) else some false) else some false).bind fun x2 => some x2
abbrev K7 : Cn_ := ⟨[],[KS],[],false,fun x => Jl ,none⟩
theorem k7 : KO (K7) 7 := Eb (ct := (.q (.q (.q (.q (.j (.st false ⟨[(0,false,Ea)],[],[]⟩) .d .d)))))) D6 (AH k8 (AH k13 BG)) Tryz.func7 (by kernel_rfl) fun x => by kernel_rfl
theorem H30 : Has Tryz.prog 30 := Js Tryz.func30
def DA (fRec : Tr24 → Option Tr38) (p0 : Tr24) : (Int × List Tr38) → Option ((Int × List Tr38) ⊕ (List Tr38))
  | (x2,x3) => (if x2 < (p0.un.2.2.2.length : Int) then (ix p0.un.2.2.2 x2).bind fun x4 => (fRec x4).bind fun x5 => (HT x3 ([x5] : List Tr38)).bind fun x6 => some (.inl (w64 (x2 + 1),x6)) else some (.inr x3))
def EZ (fRec : Tr24 → Option Tr38) (p0 : Tr24) : Option Tr38 := (Ah (DA fRec p0) (0,[])).bind fun x1 => some (Tr38.of (p0.un.1,p0.un.2.1,p0.un.2.2.1,x1))
def Fc : Nat → Tr24 → Option Tr38
  | 0 => fun _ => none
  | n + 1 => EZ (Fc n)
def PA (p0 : Tr24) : Option Tr38 := Hc fun n => Fc n p0
def L4 (fRec : Tr24 → Option Tr38) (p0 : Tr24) : (Int × List Tr38) → Option ((Int × List Tr38) ⊕ (List Tr38))
  | (x2,x3) => (if x2 < (p0.un.2.2.2.length : Int) then (ix p0.un.2.2.2 x2).bind fun x4 => (fRec (f24 x4)).bind fun x5 => (HT x3 ([f38 x5] : List Tr38)).bind fun x6 => some (.inl (w64 (x2 + 1),x6)) else some (.inr x3))
theorem T7 : @L4 = @DA := by
 unfold L4 DA
 simp only [Tr38.re_eq,Tr24.re_eq]
def ON (fRec : Tr24 → Option Tr38) (p0 : Tr24) : Option Tr38 := (Ah (L4 fRec p0) (0,[])).bind fun x1 => some (Tr38.of (p0.un.1,p0.un.2.1,p0.un.2.2.1,x1))
theorem T9 : @ON = @EZ := by
 unfold ON EZ
 simp only [T7,Tr38.re_eq]
theorem k30 : KO (K30 fun x => PA x) 30 := Tp (E := te) (xs := kE) (ys := pH) (bs := []) (io := false) (nn := fun n x => Fc n x) (st := fun g x => EZ g x) Tryz.func30 rfl (by kernel_rfl) (fun _ => rfl) (fun _ => rfl) fun g hg => Eb (ct := (.q (.q (.j (.st false ⟨[],[(2,[none,none,none,some (.o 38 VQ)])],[]⟩) (.q (.b (.l ⟨[(4,false,AG)],[(2,[none,none,none,some (.o 38 VQ)])],[]⟩ .d))) .d)))) D6 (AH hg BG) Tryz.func30 (by kernel_rfl) fun x => by rw [← T9]; kernel_rfl
theorem Ti (Y : Nat → Prop) (w0 : World) (v1 : Value) (p0 : Tr24) (r : Tr38) (H : PA p0 = some r) (h_v1 : Sl w0 (NX []) Ud v1 p0.un.2.2.2) :
    ca_ 30 #[.agg #[Jint p0.un.1,Jint p0.un.2.1,Jint p0.un.2.2.1,v1]] w0 fun e w' => ∃ x : Value,e = .returned (.agg #[Jint r.un.1,Jint r.un.2.1,Jint r.un.2.2.1,x]) ∧ sy Y w0 [] [frz (x) Lv r.un.2.2.2] w' := by
 refine (k30.out (Y := Y) (X := []) (x := p0) (r := r) H Aa Aa Aa Aa Aa (v1,()) ⟨h_v1,trivial⟩ (Stw.start Y w0) trivial).mono ?_
 rintro e w' ⟨⟨a0,u⟩,he,F,hi⟩
 exact ⟨a0,he,F⟩
end
end Go.Proofs.YtkhiflmalgkjiaaGreat
