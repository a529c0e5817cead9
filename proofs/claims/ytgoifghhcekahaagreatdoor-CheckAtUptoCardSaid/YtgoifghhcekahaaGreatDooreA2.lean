/- The functions of layer 30, Og. Conditions: none. -/
import Derived.Test.YtgoifghhcekahaaGreatDooreA1
namespace Go.Proofs.YtgoifghhcekahaaGreatDoor
noncomputable section
open Go Go.RowKit
set_option linter.unusedVariables false
set_option linter.unusedSimpArgs false
set_option maxRecDepth 20000
set_option maxHeartbeats 1600000
theorem H8 : Has Tryz.prog 8 := JR Tryz.func8
abbrev r5 (a0 : Nat) (a1 : Tr31) (a2 : Tr36) (a3 : Value) (a4 : Nat) (a5 : Nat) (a6 : Value) (a7 : Value) : List (Nat × List Value) := [(a0,[Jint a1.un.1,Jint a2.un.1,Jint a2.un.2.1,Jint a2.un.2.2.1,a3,Jint a1.un.2.2.1,Jint a1.un.2.2.2.1,.slice none 0 0]),(a4,[Jint 0,Jint 0,Jint 0,Jint 0,.slice none 0 0,Jint 0,Jint 0,.slice none 0 0]),(a5,[Jint a1.un.1,Jint a1.un.2.1.un.1,Jint a1.un.2.1.un.2.1,Jint a1.un.2.1.un.2.2.1,a6,Jint a1.un.2.2.1,Jint a1.un.2.2.2.1,a7])]
abbrev rH (a0 : Nat) (a1 : Nat) (a2 : Tr31) (a3 : Value) (a4 : Value) : List (Nat × List Value) := [(a0,[Jint 0,Jint 0,Jint 0,Jint 0,.slice none 0 0,Jint 0,Jint 0,.slice none 0 0]),(a1,[Jint a2.un.1,Jint a2.un.2.1.un.1,Jint a2.un.2.1.un.2.1,Jint a2.un.2.1.un.2.2.1,a3,Jint a2.un.2.2.1,Jint a2.un.2.2.2.1,a4])]
abbrev pY (a0 : Nat) (a1 : Nat) (a2 : Nat) (a3 : Tr31) (a4 : Value) (a5 : Value) : List (Nat × List Value) := [(a0,[Jint 0,Jint 0,Jint 0,Jint 0,.slice none 0 0,Jint 0,Jint 0,.slice none 0 0]),(a1,[Jint 0,Jint 0,Jint 0,Jint 0,.slice none 0 0,Jint 0,Jint 0,.slice none 0 0]),(a2,[Jint a3.un.1,Jint a3.un.2.1.un.1,Jint a3.un.2.1.un.2.1,Jint a3.un.2.1.un.2.2.1,a4,Jint a3.un.2.2.1,Jint a3.un.2.2.2.1,a5])]
abbrev Py (a0 : Nat) (a1 : Tr31) (a2 : Tr36) (a3 : Value) (a4 : Value) (a5 : Nat) (a6 : Nat) (a7 : Value) (a8 : Value) : List (Nat × List Value) := [(a0,[Jint a1.un.1,Jint a2.un.1,Jint a2.un.2.1,Jint a2.un.2.2.1,a3,Jint a1.un.2.2.1,Jint a1.un.2.2.2.1,a4]),(a5,[Jint 0,Jint 0,Jint 0,Jint 0,.slice none 0 0,Jint 0,Jint 0,.slice none 0 0]),(a6,[Jint a1.un.1,Jint a1.un.2.1.un.1,Jint a1.un.2.1.un.2.1,Jint a1.un.2.1.un.2.2.1,a7,Jint a1.un.2.2.1,Jint a1.un.2.2.2.1,a8])]
abbrev iC (a0 : Tr31) (a1 : Tr36) (a2 : Value) (a3 : Value) : List Value := [Jint a0.un.1,Jint a1.un.1,Jint a1.un.2.1,Jint a1.un.2.2.1,a2,Jint a0.un.2.2.1,Jint a0.un.2.2.2.1,a3]
def Ev (fRec : Tr31 → Option Tr39) (p0 : Tr31) : (Int × List Tr39) → Option ((Int × List Tr39) ⊕ (List Tr39))
  | (x3,x4) => (if x3 < (p0.un.2.2.2.2.length : Int) then (ix p0.un.2.2.2.2 x3).bind fun x5 => (fRec (Tr31.of (x5.un.1,f28 x5.un.2.1,x5.un.2.2.1,x5.un.2.2.2.1,x5.un.2.2.2.2))).bind fun x6 => (Fy x4 ([Tr39.of (x6.un.1,f36 x6.un.2.1,x6.un.2.2.1,x6.un.2.2.2.1,x6.un.2.2.2.2)] : List Tr39)).bind fun x7 => some (.inl (Ae (x3 + 1),x7)) else some (.inr x4))
def FH (fRec : Tr31 → Option Tr39) (p0 : Tr31) : Option Tr39 := (NH (f28 p0.un.2.1)).bind fun x1 => (Ac (Ev fRec p0) (0,[])).bind fun x2 => some (Tr39.of (p0.un.1,x1,p0.un.2.2.1,p0.un.2.2.2.1,x2))
def Fd : Nat → Tr31 → Option Tr39
  | 0 => fun _ => none
  | n + 1 => FH (Fd n)
def Nt (p0 : Tr31) : Option Tr39 := GY fun n => Fd n p0
theorem Tx (fRec : Tr31 → Option Tr39) (ih : ∀ (Y : Nat → Prop) (w0 : World) (v1 : Value) (v2 : Value) (p0 : Tr31) (r : Tr39) (H : fRec p0 = some r) (h_v1 : Sl w0 (NX []) Sf v1 p0.un.2.1.un.2.2.2) (h_v2 : Sl w0 (NX []) TU v2 p0.un.2.2.2.2) (hG : Gk [] w0),ca_ 8 #[.agg #[Jint p0.un.1,Jint p0.un.2.1.un.1,Jint p0.un.2.1.un.2.1,Jint p0.un.2.1.un.2.2.1,v1,Jint p0.un.2.2.1,Jint p0.un.2.2.2.1,v2]] w0 fun e w' => ∃ x : Value × Value,e = .returned (.agg #[Jint r.un.1,Jint r.un.2.1.un.1,Jint r.un.2.1.un.2.1,Jint r.un.2.1.un.2.2.1,x.1,Jint r.un.2.2.1,Jint r.un.2.2.2.1,x.2]) ∧ sy Y w0 [] [frz (x.1) KE r.un.2.1.un.2.2.2,frz (x.2) KG r.un.2.2.2.2] w') (Y : Nat → Prop) (w0 : World) (v1 : Value) (v2 : Value) (p0 : Tr31) (r : Tr39) (H : FH fRec p0 = some r) (h_v1 : Sl w0 (NX []) Sf v1 p0.un.2.1.un.2.2.2) (h_v2 : Sl w0 (NX []) TU v2 p0.un.2.2.2.2) (hG : Gk [] w0) :
    ca_ 8 #[.agg #[Jint p0.un.1,Jint p0.un.2.1.un.1,Jint p0.un.2.1.un.2.1,Jint p0.un.2.1.un.2.2.1,v1,Jint p0.un.2.2.1,Jint p0.un.2.2.2.1,v2]] w0 fun e w' => ∃ x : Value × Value,e = .returned (.agg #[Jint r.un.1,Jint r.un.2.1.un.1,Jint r.un.2.1.un.2.1,Jint r.un.2.1.un.2.2.1,x.1,Jint r.un.2.2.1,Jint r.un.2.2.2.1,x.2]) ∧ sy Y w0 [] [frz (x.1) KE r.un.2.1.un.2.2.2,frz (x.2) KG r.un.2.2.2.2] w' := by
 refine enter Tryz.func8 Aa Tryz.ntmps8 Aa fun a W => ?_
 have F := Stw.start Y w0
 obtain ⟨v3,h1,h_v1⟩ := h_v1.ex XQ
 obtain ⟨v4,h2,h_v2⟩ := h_v2.ex c8
 unfold FH at H
 refine vc tk 2 W F fun a w W F => ?_
 refine JK (cs := (O7 p0 v1 v2)) W F Aa Aa Aa fun b1 a w W F => ?_
 refine Ha (cs := (UI)) W F Aa nJ Aa fun b2 a w W F => ?_
 refine KC tk 3 W F fun a w W F => ?_
 obtain ⟨x1,h3,H⟩ := Cc H
 refine dO (fun a w => ∃ b3 : Nat, ∃ v5 : Value,Fr 34 [] [(0,.agg #[Jint p0.un.1,Jint p0.un.2.1.un.1,Jint p0.un.2.1.un.2.1,Jint p0.un.2.1.un.2.2.1,v1,Jint p0.un.2.2.1,Jint p0.un.2.2.2.1,v2]),(1,pp b1),(2,pp b2),(3,pp b3),(5,pp b1),(6,Jint p0.un.1),(7,.pointer (some ⟨b1,1,none⟩)),(8,.agg #[Jint p0.un.2.1.un.1,Jint p0.un.2.1.un.2.1,Jint p0.un.2.1.un.2.2.1,v1]),(9,.agg #[Jint x1.un.1,Jint x1.un.2.1,Jint x1.un.2.2.1,v5]),(10,.pointer (some ⟨b1,5,none⟩)),(11,Jint p0.un.2.2.1),(12,.pointer (some ⟨b1,6,none⟩)),(13,Jint p0.un.2.2.2.1),(14,.agg #[Jint p0.un.1,Jint x1.un.1,Jint x1.un.2.1,Jint x1.un.2.2.1,v5,Jint p0.un.2.2.1,Jint p0.un.2.2.2.1,.slice none 0 0])] a ∧ sy Y w0 (r5 b3 p0 x1 v5 b2 b1 v1 v2) [frz v5 KE x1.un.2.2.2] w) ?_ ?_
 ·
  refine ZW (PT.st 0 (PT.st 1 (PT.st 2 (PT.st 3 (PT.st 5 (PT.st 6 (PT.st 7 (PT.st 8 (PT.alt 4 (PT.st 9 (PT.alt 10 (PT.alt 11 PT.done PT.stop) PT.stop)) (PT.alt 10 (PT.alt 4 (PT.st 9 (PT.alt 11 PT.done PT.stop)) PT.stop) PT.stop)))))))))) (CN ⟨Y,[],w0⟩ [(some 11,b1,[Jint p0.un.1,Jint p0.un.2.1.un.1,Jint p0.un.2.1.un.2.1,Jint p0.un.2.1.un.2.2.1,v1,Jint p0.un.2.2.1,Jint p0.un.2.2.2.1,v2]),(some 4,b1,[Jint p0.un.1,Jint p0.un.2.1.un.1,Jint p0.un.2.1.un.2.1,Jint p0.un.2.1.un.2.2.1,v1,Jint p0.un.2.2.1,Jint p0.un.2.2.2.1,v2])] []) (fun ch a d v w h => by cases d <;> exact h) MO (by kernel_rfl) F (fun w F => ⟨_,_,F,(all_cons (fun _ => (.tail _ (.head _))) (all_cons (fun _ => (.tail _ (.head _))) Cp)),Cp⟩) fun w F => ?_
  refine RA (R := []) W Aa Aa (yC fun M Z hN hZ => B1 OK Aa Aa Aa T3 W Aa 0 Aa) Aa Aa fun a W => ?_
  refine RA (R := [11]) W Aa Aa (yC fun M Z hN hZ => G0 (cs := (O7 p0 v1 v2)) (v := Jint p0.un.1) W Aa (hN ((some 11),b1,(O7 p0 v1 v2)) (.head _) Aa) T3 Aa) (by kernel_rfl) Aa fun a W => ?_
  refine RA (R := []) W Aa Aa (yC fun M Z hN hZ => B1 OK Aa Aa Aa zG W Aa 1 Aa) Aa Aa fun a W => ?_
  refine RA (R := [4]) W Aa Aa (yC fun M Z hN hZ => G0 (cs := (O7 p0 v1 v2)) (v := Value.agg #[Jint p0.un.2.1.un.1,Jint p0.un.2.1.un.2.1,Jint p0.un.2.1.un.2.2.1,v1]) W Aa (hN ((some 4),b1,(O7 p0 v1 v2)) (.tail _ (.head _)) Aa) zG Aa) (by kernel_rfl) Aa fun a W => ?_
  refine RA (R := []) W Aa Aa (yC fun M Z hN hZ => B1 OK Aa Aa Aa T3 W Aa 5 Aa) Aa Aa fun a W => ?_
  refine RA (R := [11]) W Aa Aa (yC fun M Z hN hZ => G0 (cs := (O7 p0 v1 v2)) (v := Jint p0.un.2.2.1) W Aa (hN ((some 11),b1,(O7 p0 v1 v2)) (.head _) Aa) T3 Aa) (by kernel_rfl) Aa fun a W => ?_
  refine RA (R := []) W Aa Aa (yC fun M Z hN hZ => B1 OK Aa Aa Aa T3 W Aa 6 Aa) Aa Aa fun a W => ?_
  refine RA (R := [11]) W Aa Aa (yC fun M Z hN hZ => G0 (cs := (O7 p0 v1 v2)) (v := Jint p0.un.2.2.2.1) W Aa (hN ((some 11),b1,(O7 p0 v1 v2)) (.head _) Aa) T3 Aa) (by kernel_rfl) Aa fun a W => ?_
  refine mV Aa ?_ ?_
  ·
   refine GA (Ml := []) (Zl := []) (β := Value) (rv := fun x => .agg #[Jint x1.un.1,Jint x1.un.2.1,Jint x1.un.2.2.1,x]) (MM := fun x => []) (ZZ := fun x => [frz x KE x1.un.2.2.2]) W F zJ Aa Aa (fun hL => PG _ w (v1) (f28 p0.un.2.1) _ h3 ((HD XQ h1 (Cx h_v1)) w F).nx (hG.go0 F)) fun x a w W F => ?_
   obtain ⟨v5,rfl⟩ : ∃ y,y = x := ⟨x,rfl⟩
   have F : sy Y w0 (rH b2 b1 p0 v1 v2) [frz v5 KE x1.un.2.2.2] w := F
   refine LM (N2 := []) (NZ2 := []) (N3 := [(some 11,b1,[Jint p0.un.1,Jint p0.un.2.1.un.1,Jint p0.un.2.1.un.2.1,Jint p0.un.2.1.un.2.2.1,v1,Jint p0.un.2.2.1,Jint p0.un.2.2.2.1,v2]),(some 4,b1,[Jint p0.un.1,Jint p0.un.2.1.un.1,Jint p0.un.2.1.un.2.1,Jint p0.un.2.1.un.2.2.1,v1,Jint p0.un.2.2.1,Jint p0.un.2.2.2.1,v2])]) (NZ3 := []) F Aa Aa (all_cons (fun _ => (.tail _ (.head _))) (all_cons (fun h => Dl (by kernel_rfl) h) Cp)) Cp ?_
   refine RA (R := []) W Aa Aa (yC fun M Z hN hZ => H3 (v := Value.agg #[Jint p0.un.1,Jint x1.un.1,Jint x1.un.2.1,Jint x1.un.2.2.1,v5,Jint p0.un.2.2.1,Jint p0.un.2.2.2.1,.slice none 0 0]) zU W Aa (GE Aa Aa Aa (GE Aa Aa Aa (GE Aa Aa Aa (GE Aa Aa Aa PQ)))) Aa) Aa Aa fun a W => ?_
   refine WR Aa ?_
   refine Ha (cs := (UI)) W F Aa nJ Aa fun b3 a w W F => ?_
   refine LM (N2 := []) (NZ2 := []) (N3 := [(some 11,b1,[Jint p0.un.1,Jint p0.un.2.1.un.1,Jint p0.un.2.1.un.2.1,Jint p0.un.2.1.un.2.2.1,v1,Jint p0.un.2.2.1,Jint p0.un.2.2.2.1,v2]),(some 4,b1,[Jint p0.un.1,Jint p0.un.2.1.un.1,Jint p0.un.2.1.un.2.1,Jint p0.un.2.1.un.2.2.1,v1,Jint p0.un.2.2.1,Jint p0.un.2.2.2.1,v2])]) (NZ3 := []) F Aa Aa (all_cons (fun _ => (.tail _ (.tail _ (.head _)))) (all_cons (fun h => Dl (by kernel_rfl) h) Cp)) Cp ?_
   refine WR Aa ?_
   refine Q9 0 W F Aa Aa Aa fU Aa Aa (Bb Aa (Bb Aa (Bb Aa (Bb Aa (Bb (F.oneF (k := 0) Aa) (Bb Aa (Bb Aa (Bb Aa NJ)))))))) fun w F => ?_
   refine LM (N2 := []) (NZ2 := []) (N3 := [(some 11,b1,[Jint p0.un.1,Jint p0.un.2.1.un.1,Jint p0.un.2.1.un.2.1,Jint p0.un.2.1.un.2.2.1,v1,Jint p0.un.2.2.1,Jint p0.un.2.2.2.1,v2]),(some 4,b1,[Jint p0.un.1,Jint p0.un.2.1.un.1,Jint p0.un.2.1.un.2.1,Jint p0.un.2.1.un.2.2.1,v1,Jint p0.un.2.2.1,Jint p0.un.2.2.2.1,v2])]) (NZ3 := []) F Aa Aa (all_cons (fun h => Dl (by kernel_rfl) h) (all_cons (fun h => Dl (by kernel_rfl) h) Cp)) Cp ?_
   have F := F.frontM (i := 2) Aa Aa
   have F := F.frontM (i := 2) Aa Aa
   have F := F.frontM (i := 2) Aa Aa
   refine cB ?_
   exact ⟨b3,v5,W.ra Aa,F⟩
  refine mV Aa ?_ ?_
  ·
   refine Ha (cs := (UI)) W F Aa nJ Aa fun b3 a w W F => ?_
   refine LM (N2 := []) (NZ2 := []) (N3 := [(some 11,b1,[Jint p0.un.1,Jint p0.un.2.1.un.1,Jint p0.un.2.1.un.2.1,Jint p0.un.2.1.un.2.2.1,v1,Jint p0.un.2.2.1,Jint p0.un.2.2.2.1,v2]),(some 4,b1,[Jint p0.un.1,Jint p0.un.2.1.un.1,Jint p0.un.2.1.un.2.1,Jint p0.un.2.1.un.2.2.1,v1,Jint p0.un.2.2.1,Jint p0.un.2.2.2.1,v2])]) (NZ3 := []) F Aa Aa (all_cons (fun _ => (.tail _ (.tail _ (.head _)))) (all_cons (fun _ => (.tail _ (.tail _ (.head _)))) Cp)) Cp ?_
   refine WR Aa ?_
   refine GA (Ml := []) (Zl := []) (β := Value) (rv := fun x => .agg #[Jint x1.un.1,Jint x1.un.2.1,Jint x1.un.2.2.1,x]) (MM := fun x => []) (ZZ := fun x => [frz x KE x1.un.2.2.2]) W F zJ Aa Aa (fun hL => PG _ w (v1) (f28 p0.un.2.1) _ h3 ((HD XQ h1 (Cx h_v1)) w F).nx (hG.go0 F)) fun x a w W F => ?_
   obtain ⟨v5,rfl⟩ : ∃ y,y = x := ⟨x,rfl⟩
   have F : sy Y w0 (pY b3 b2 b1 p0 v1 v2) [frz v5 KE x1.un.2.2.2] w := F
   refine LM (N2 := []) (NZ2 := []) (N3 := [(some 11,b1,[Jint p0.un.1,Jint p0.un.2.1.un.1,Jint p0.un.2.1.un.2.1,Jint p0.un.2.1.un.2.2.1,v1,Jint p0.un.2.2.1,Jint p0.un.2.2.2.1,v2]),(some 4,b1,[Jint p0.un.1,Jint p0.un.2.1.un.1,Jint p0.un.2.1.un.2.1,Jint p0.un.2.1.un.2.2.1,v1,Jint p0.un.2.2.1,Jint p0.un.2.2.2.1,v2])]) (NZ3 := []) F Aa Aa (all_cons (fun _ => (.tail _ (.tail _ (.head _)))) (all_cons (fun h => Dl (by kernel_rfl) h) Cp)) Cp ?_
   refine RA (R := []) W Aa Aa (yC fun M Z hN hZ => H3 (v := Value.agg #[Jint p0.un.1,Jint x1.un.1,Jint x1.un.2.1,Jint x1.un.2.2.1,v5,Jint p0.un.2.2.1,Jint p0.un.2.2.2.1,.slice none 0 0]) zU W Aa (GE Aa Aa Aa (GE Aa Aa Aa (GE Aa Aa Aa (GE Aa Aa Aa PQ)))) Aa) Aa Aa fun a W => ?_
   refine WR Aa ?_
   refine Q9 0 W F Aa Aa Aa fU Aa Aa (Bb Aa (Bb Aa (Bb Aa (Bb Aa (Bb (F.oneF (k := 0) Aa) (Bb Aa (Bb Aa (Bb Aa NJ)))))))) fun w F => ?_
   refine LM (N2 := []) (NZ2 := []) (N3 := [(some 11,b1,[Jint p0.un.1,Jint p0.un.2.1.un.1,Jint p0.un.2.1.un.2.1,Jint p0.un.2.1.un.2.2.1,v1,Jint p0.un.2.2.1,Jint p0.un.2.2.2.1,v2]),(some 4,b1,[Jint p0.un.1,Jint p0.un.2.1.un.1,Jint p0.un.2.1.un.2.1,Jint p0.un.2.1.un.2.2.1,v1,Jint p0.un.2.2.1,Jint p0.un.2.2.2.1,v2])]) (NZ3 := []) F Aa Aa (all_cons (fun h => Dl (by kernel_rfl) h) (all_cons (fun h => Dl (by kernel_rfl) h) Cp)) Cp ?_
   have F := F.frontM (i := 2) Aa Aa
   have F := F.frontM (i := 2) Aa Aa
   have F := F.frontM (i := 2) Aa Aa
   refine cB ?_
   exact ⟨b3,v5,W.ra Aa,F⟩
  exact trivial
 rintro a w ⟨b3,v5,W,F⟩
 refine Ax ?_
 obtain ⟨o1,G1,K1⟩ := Cc H
 refine Fw (fun a w => ∃ x2 : List Tr39, ∃ v6 : Value,some (x2) = some o1 ∧ Fr 34 [] [(2,pp b2),(3,pp b3)] a ∧ sy Y w0 (Py b3 p0 x1 v5 v6 b2 b1 v1 v2) [frz v5 KE x1.un.2.2.2,row v6 39 KG x2] w) ?_ ?_
 ·
  have H := G1
  clear G1 K1
  refine vc tk 6 W F fun a w W F => ?_
  have F := F.nilRow 39 KG
  have F := F.frontZ (i := 1) Aa Aa
  have F := F.frontM (i := 2) Aa Aa
  have F := F.frontM (i := 2) Aa Aa
  have F := F.frontM (i := 2) Aa Aa
  refine Ip H (fun s a w => ∃ v7 : Value,Fr 34 [] [(1,pp b1),(2,pp b2),(3,pp b3),(4,Jint s.1)] a ∧ sy Y w0 (Py b3 p0 x1 v5 v7 b2 b1 v1 v2) [frz v5 KE x1.un.2.2.2,row v7 39 KG s.2] w) ⟨(Value.slice none 0 0),W.ra Aa,F⟩ fun s o a w H L2 hR => ?_
  obtain ⟨x3,x4⟩ := s
  obtain ⟨v7,W,F⟩ := hR
  have W : Fr 34 [] [(1,pp b1),(2,pp b2),(3,pp b3),(4,Jint x3)] a := W
  have F : sy Y w0 (Py b3 p0 x1 v5 v7 b2 b1 v1 v2) [frz v5 KE x1.un.2.2.2,row v7 39 KG x4] w := F
  rw [Ev] at H
  refine TR tk 6 [2] W F (ai fun a w W F => ?_)
  refine ls W F Aa (IW (r := TU) (l := p0.un.2.2.2.2) jX Aa W Aa (HD c8 h2 (Cx h_v2))).q fun a w W F => ?_
  refine KC tk 3 W F fun a w W F => ?_
  refine J2 W Aa H (fun W H => ?_) fun W H => ?_
  ·
   refine cQ tk 4 W F fun a w W F => ?_
   obtain ⟨v8,h4,F⟩ := F.exF V0
   have F := F.frontZ (i := 1) Aa Aa
   obtain ⟨v9,h5,F⟩ := F.exR Ry
   refine Vh [(true,0),(true,1),(true,2),(true,3),(true,4),(true,5),(true,6),(false,7),(false,8),(false,9),(true,10),(false,11)] (CN ⟨Y,[],w0⟩ [(some 9,b3,[Jint p0.un.1,Jint x1.un.1,Jint x1.un.2.1,Jint x1.un.2.2.1,v5,Jint p0.un.2.2.1,Jint p0.un.2.2.2.1,v7]),(some 7,b1,[Jint p0.un.1,Jint p0.un.2.1.un.1,Jint p0.un.2.1.un.2.1,Jint p0.un.2.1.un.2.2.1,v1,Jint p0.un.2.2.1,Jint p0.un.2.2.2.1,v2])] []) (fun ch a d v w h => by cases d <;> exact h) MO (by kernel_rfl) F (fun w F => ⟨_,_,F,(all_cons (fun _ => (.head _)) (all_cons (fun _ => (.tail _ (.tail _ (.head _)))) Cp)),Cp⟩) fun w F => ?_
   refine NY (R := []) W Aa Aa (yC fun M Z hN hZ => B1 fJ Aa Aa Aa sI W Aa 7 Aa) Aa Aa fun a W => ?_
   refine NY (R := [9]) W Aa Aa (yC fun M Z hN hZ => G0 (cs := (iC p0 x1 v5 v7)) (v := v7) W Aa (hN ((some 9),b3,(iC p0 x1 v5 v7)) (.head _) Aa) sI Aa) (by kernel_rfl) Aa fun a W => ?_
   refine NY (R := []) W Aa Aa (yC fun M Z hN hZ => B1 OK Aa Aa Aa T29 W Aa 7 Aa) Aa Aa fun a W => ?_
   refine NY (R := [7,6,5]) W Aa Aa (yC fun M Z hN hZ => G0 (cs := (O7 p0 v1 v2)) (v := v2) W Aa (hN ((some 7),b1,(O7 p0 v1 v2)) (.tail _ (.head _)) Aa) T29 Aa) (by kernel_rfl) Aa fun a W => ?_
   refine NY (R := []) W Aa Aa (yC fun M Z hN hZ => EN W Aa) Aa Aa fun a W => ?_
   obtain ⟨x5,h6,H⟩ := Cc H
   obtain ⟨v10,h7,h8⟩ := Sj h2 h6
   have h9 : YF v10 = [Jint x5.un.1,Jint x5.un.2.1.un.1,Jint x5.un.2.1.un.2.1,Jint x5.un.2.1.un.2.2.1,(v10.2.1.2.2.2.1),Jint x5.un.2.2.1,Jint x5.un.2.2.2.1,(v10.2.2.2.2.1)] := congrArg (fun q : Tr31 => ([Jint q.un.1,Jint q.un.2.1.un.1,Jint q.un.2.1.un.2.1,Jint q.un.2.1.un.2.2.1,(v10.2.1.2.2.2.1),Jint q.un.2.2.1,Jint q.un.2.2.2.1,(v10.2.2.2.2.1)] : List Value)) h8
   refine NY (R := []) W Aa Aa (yC fun M Z hN hZ => F9 (r := dZ) L29 W Aa Aa (Cx h_v2) h7) Aa Aa fun a W => ?_
   refine NY (R := []) W Aa Aa (yC fun M Z hN hZ => Eg (y := Value.agg #[Jint x5.un.1,Jint x5.un.2.1.un.1,Jint x5.un.2.1.un.2.1,Jint x5.un.2.1.un.2.2.1,(v10.2.1.2.2.2.1),Jint x5.un.2.2.1,Jint x5.un.2.2.2.1,(v10.2.2.2.2.1)]) (j := 0) (i := x3) (enc := YF) W Aa Aa (Cx h_v2) h7 rX zZ (by rw [h9]; rfl)) Aa Aa fun a W => ?_
   refine V3 Aa ?_
   obtain ⟨x6,h10,H⟩ := Cc H
   refine GA (Ml := []) (Zl := []) (β := Value × Value) (rv := fun x => .agg #[Jint x6.un.1,Jint x6.un.2.1.un.1,Jint x6.un.2.1.un.2.1,Jint x6.un.2.1.un.2.2.1,x.1,Jint x6.un.2.2.1,Jint x6.un.2.2.2.1,x.2]) (MM := fun x => []) (ZZ := fun x => [frz x.1 KE x6.un.2.1.un.2.2.2,frz x.2 KG x6.un.2.2.2.2]) W F H8 Aa Aa (fun hL => ih _ w ((v10.2.1.2.2.2.1)) ((v10.2.2.2.2.1)) (Tr31.of (x5.un.1,f28 x5.un.2.1,x5.un.2.2.1,x5.un.2.2.2.1,x5.un.2.2.2.2)) _ h10 ((KP (Cx h_v2) h7 (CG.snd (CG.fst (CG.snd (CG.snd (CG.snd CG.here))))) (congrArg (fun q : Tr31 => q.un.2.1.un.2.2.2) h8)) w F).nx ((KP (Cx h_v2) h7 (CG.snd (CG.snd (CG.snd (CG.snd CG.here)))) (congrArg (fun q : Tr31 => q.un.2.2.2.2) h8)) w F).nx (hG.go0 F)) fun x a w W F => ?_
   obtain ⟨v11,v12⟩ := x
   have F : sy Y w0 (Py b3 p0 x1 v5 v7 b2 b1 v1 v2) [frz v11 KE x6.un.2.1.un.2.2.2,frz v12 KG x6.un.2.2.2.2,row v7 39 aE v9,frz v5 fB v8] w := F
   refine J8 (N2 := []) (NZ2 := []) (N3 := [(some 9,b3,[Jint p0.un.1,Jint x1.un.1,Jint x1.un.2.1,Jint x1.un.2.2.1,v5,Jint p0.un.2.2.1,Jint p0.un.2.2.2.1,v7]),(some 7,b1,[Jint p0.un.1,Jint p0.un.2.1.un.1,Jint p0.un.2.1.un.2.1,Jint p0.un.2.1.un.2.2.1,v1,Jint p0.un.2.2.1,Jint p0.un.2.2.2.1,v2])]) (NZ3 := []) F Aa Aa (all_cons (fun _ => (.head _)) (all_cons (fun h => Dl (by kernel_rfl) h) Cp)) Cp ?_
   refine V3 Aa ?_
   refine Ww (z := Value.agg #[Jint 0,Jint 0,Jint 0,Jint 0,.slice none 0 0,Jint 0,Jint 0,.slice none 0 0]) (cs := (Pz x6 v11 v12)) KG ([Tr39.of (x6.un.1,f36 x6.un.2.1,x6.un.2.2.1,x6.un.2.2.2.1,x6.un.2.2.2.2)] : List Tr39) W F Aa sN nJ Aa Aa Aa (GE Aa Aa Aa PQ) Aa Aa ⟨[Jint x6.un.1,Jint x6.un.2.1.un.1,Jint x6.un.2.1.un.2.1,Jint x6.un.2.1.un.2.2.1,v11,Jint x6.un.2.2.1,Jint x6.un.2.2.2.1,v12],_,Aa,(yP.2 ⟨[Jint x6.un.1],[Jint x6.un.2.1.un.1,Jint x6.un.2.1.un.2.1,Jint x6.un.2.1.un.2.2.1,v11,Jint x6.un.2.2.1,Jint x6.un.2.2.2.1,v12],Aa,Aa,⟨[Jint x6.un.2.1.un.1,Jint x6.un.2.1.un.2.1,Jint x6.un.2.1.un.2.2.1,v11],[Jint x6.un.2.2.1,Jint x6.un.2.2.2.1,v12],Aa,(vB.2 ⟨[Jint x6.un.2.1.un.1],[Jint x6.un.2.1.un.2.1,Jint x6.un.2.1.un.2.2.1,v11],Aa,Aa,⟨[Jint x6.un.2.1.un.2.1],[Jint x6.un.2.1.un.2.2.1,v11],Aa,Aa,⟨[Jint x6.un.2.1.un.2.2.1],[v11],Aa,Aa,⟨_,Aa,(F.item (i := 0) Aa)⟩⟩⟩⟩),⟨[Jint x6.un.2.2.1],[Jint x6.un.2.2.2.1,v12],Aa,Aa,⟨[Jint x6.un.2.2.2.1],[v12],Aa,Aa,⟨_,Aa,(F.item (i := 1) Aa)⟩⟩⟩⟩⟩),Aa⟩ fun v13 a w W F => ?_
   refine J8 (N2 := []) (NZ2 := []) (N3 := [(some 9,b3,[Jint p0.un.1,Jint x1.un.1,Jint x1.un.2.1,Jint x1.un.2.2.1,v5,Jint p0.un.2.2.1,Jint p0.un.2.2.2.1,v7]),(some 7,b1,[Jint p0.un.1,Jint p0.un.2.1.un.1,Jint p0.un.2.1.un.2.1,Jint p0.un.2.1.un.2.2.1,v1,Jint p0.un.2.2.1,Jint p0.un.2.2.2.1,v2])]) (NZ3 := []) F Aa Aa (all_cons (fun _ => (.head _)) (all_cons (fun h => Dl (by kernel_rfl) h) Cp)) Cp ?_
   refine V3 Aa ?_
   have F := F.frontZ (i := 3) Aa Aa
   have F := F.hideR Ry h5
   obtain ⟨x7,h11,H⟩ := Cc H
   refine NO (r := KG) (i := 0) W F Aa sN Aa Aa Aa Aa (Wx F 1 Aa) h11 Aa fun v14 a w W F => ?_
   have F : sy Y w0 (Py b3 p0 x1 v5 v7 b2 b1 v1 v2) [row v14 39 KG x7,row v13 39 KG ([Tr39.of (x6.un.1,f36 x6.un.2.1,x6.un.2.2.1,x6.un.2.2.2.1,x6.un.2.2.2.2)] : List Tr39),frz v11 KE x6.un.2.1.un.2.2.2,frz v12 KG x6.un.2.2.2.2,frz v5 fB v8] w := F
   refine J8 (N2 := []) (NZ2 := []) (N3 := [(some 9,b3,[Jint p0.un.1,Jint x1.un.1,Jint x1.un.2.1,Jint x1.un.2.2.1,v5,Jint p0.un.2.2.1,Jint p0.un.2.2.2.1,v7]),(some 7,b1,[Jint p0.un.1,Jint p0.un.2.1.un.1,Jint p0.un.2.1.un.2.1,Jint p0.un.2.1.un.2.2.1,v1,Jint p0.un.2.2.1,Jint p0.un.2.2.2.1,v2])]) (NZ3 := []) F Aa Aa (all_cons (fun h => Dl (by kernel_rfl) h) (all_cons (fun h => Dl (by kernel_rfl) h) Cp)) Cp ?_
   refine NY (R := []) W Aa Aa (yC fun M Z hN hZ => B1 fJ Aa Aa Aa sI W Aa 7 Aa) Aa Aa fun a W => ?_
   refine V3 Aa ?_
   refine cK (M' := (Py b3 p0 x1 v5 v14 b2 b1 v1 v2)) 0 W F Aa Aa Aa sI (F.one (k := 0) Aa) Aa Aa fun w F => ?_
   refine J8 (N2 := []) (NZ2 := []) (N3 := [(some 9,b3,[Jint p0.un.1,Jint x1.un.1,Jint x1.un.2.1,Jint x1.un.2.2.1,v5,Jint p0.un.2.2.1,Jint p0.un.2.2.2.1,v7]),(some 7,b1,[Jint p0.un.1,Jint p0.un.2.1.un.1,Jint p0.un.2.1.un.2.1,Jint p0.un.2.1.un.2.2.1,v1,Jint p0.un.2.2.1,Jint p0.un.2.2.2.1,v2])]) (NZ3 := []) F Aa Aa (all_cons (fun h => Dl (by kernel_rfl) h) (all_cons (fun h => Dl (by kernel_rfl) h) Cp)) Cp ?_
   refine cN (EY ?_)
   refine vn tk 5 W F fun a w W F => ?_
   refine Ax ?_
   have F := F.frontZ (i := 4) Aa Aa
   have F := F.hideF V0 h4
   have F := F.frontZ (i := 1) Aa Aa
   have F := F.frontZ (i := 1) Aa Aa
   have F := F.frontM (i := 2) Aa Aa
   have F := F.frontM (i := 2) Aa Aa
   have F := F.frontM (i := 2) Aa Aa
   have F := F.sub (M' := (Py b3 p0 x1 v5 v14 b2 b1 v1 v2)) (Z' := [frz v5 KE x1.un.2.2.2,row v14 39 KG x7]) sr (sc (sc nl))
   exact ⟨_,H,(v14),W.ra Aa,F⟩
  refine G9 ?_
  iterate 2 refine Jp ?_
  refine GH (Ax ?_)
  have F := F.frontZ (i := 1) Aa Aa
  have F := F.frontZ (i := 1) Aa Aa
  have F := F.frontM (i := 2) Aa Aa
  have F := F.frontM (i := 2) Aa Aa
  have F := F.frontM (i := 2) Aa Aa
  have H := L2 _ H
  exact ⟨_,(v7),H,W.ra Aa,F⟩
 rintro a w ⟨x2,v6,hj,W,F⟩
 have hj := FU hj
 subst hj
 have H := K1
 clear G1 K1
 refine TR tk 3 [0] W F (ai fun a w W F => ?_)
 refine Q9 1 W F Aa Aa Aa fU Aa Aa (Bb Aa (Bb Aa (Bb Aa (Bb Aa (Bb (F.oneF (k := 0) Aa) (Bb Aa (Bb Aa (Bb (F.one (k := 1) Aa) NJ)))))))) fun w F => ?_
 refine KC tk 2 W F fun a w W F => ?_
 refine Dx ?_
 have H := FU H
 subst H
 refine EL (.inl Aa) W F Aa (SI 1 W Aa Aa fU Aa) ?_
 have F := F.frontZ (i := 1) Aa Aa
 have F := F.freeze
 have F := F.frontZ (i := 1) Aa Aa
 have F := F.sub (M' := []) (Z' := [frz v5 KE x1.un.2.2.2,frz v6 KG x2]) nl sr
 exact ⟨((v5),(v6)),Aa,F⟩
theorem Vm : ∀ (n : Nat) (Y : Nat → Prop) (w0 : World) (v1 : Value) (v2 : Value) (p0 : Tr31) (r : Tr39) (H : Fd n p0 = some r) (h_v1 : Sl w0 (NX []) Sf v1 p0.un.2.1.un.2.2.2) (h_v2 : Sl w0 (NX []) TU v2 p0.un.2.2.2.2) (hG : Gk [] w0),ca_ 8 #[.agg #[Jint p0.un.1,Jint p0.un.2.1.un.1,Jint p0.un.2.1.un.2.1,Jint p0.un.2.1.un.2.2.1,v1,Jint p0.un.2.2.1,Jint p0.un.2.2.2.1,v2]] w0 fun e w' => ∃ x : Value × Value,e = .returned (.agg #[Jint r.un.1,Jint r.un.2.1.un.1,Jint r.un.2.1.un.2.1,Jint r.un.2.1.un.2.2.1,x.1,Jint r.un.2.2.1,Jint r.un.2.2.2.1,x.2]) ∧ sy Y w0 [] [frz (x.1) KE r.un.2.1.un.2.2.2,frz (x.2) KG r.un.2.2.2.2] w' := by
  intro n
  induction n with
  | zero => intro Y w0 v1 v2 p0 r H; exact nomatch H
  | succ n ih => intro Y w0 v1 v2 p0 r H h_v1 h_v2 hG; exact Tx (Fd n) ih Y w0 v1 v2 p0 r H h_v1 h_v2 hG
theorem VA (Y : Nat → Prop) (w0 : World) (v1 : Value) (v2 : Value) (p0 : Tr31) (r : Tr39) (H : Nt p0 = some r) (h_v1 : Sl w0 (NX []) Sf v1 p0.un.2.1.un.2.2.2) (h_v2 : Sl w0 (NX []) TU v2 p0.un.2.2.2.2) (hG : Gk [] w0) :
    ca_ 8 #[.agg #[Jint p0.un.1,Jint p0.un.2.1.un.1,Jint p0.un.2.1.un.2.1,Jint p0.un.2.1.un.2.2.1,v1,Jint p0.un.2.2.1,Jint p0.un.2.2.2.1,v2]] w0 fun e w' => ∃ x : Value × Value,e = .returned (.agg #[Jint r.un.1,Jint r.un.2.1.un.1,Jint r.un.2.1.un.2.1,Jint r.un.2.1.un.2.2.1,x.1,Jint r.un.2.2.1,Jint r.un.2.2.2.1,x.2]) ∧ sy Y w0 [] [frz (x.1) KE r.un.2.1.un.2.2.2,frz (x.2) KG r.un.2.2.2.2] w' := by
  obtain ⟨n,H⟩ := LS H
  exact Vm n Y w0 v1 v2 p0 r H h_v1 h_v2 hG
theorem k8 : KO (K8 fun x => Nt x) 8 := KO.of ⟨fun args w => Br Tryz.func8 rfl (by decide) args w⟩ rfl (fun _ => rfl) (fun _ => rfl) rfl (fun _ => rfl) (fun _ => rfl) (fun _ => rfl) (fun _ => rfl) fun Y w0 x r g H hg hk => (VA Y w0 g.1 g.2.1 x r H hg.1 hg.2.1 hk).mono fun e w' ⟨x,he,F⟩ => ⟨(x.1,(x.2,())),he,F⟩
theorem oK : Ty Tryz.prog 54 true 4 := ⟨by kernel_rfl,by kernel_rfl⟩
theorem B97 : Bt Tryz.prog 97 [Jint 0,Jint 0,Jint 0,Jint 0,Jint 0] [(0,1),(1,4)] := ⟨⟨.agg #[Jint 0,Jint 0,Jint 0,Jint 0,Jint 0],by kernel_rfl,rfl⟩,⟨_,Uu,fun w => by kernel_rfl⟩⟩
def DD (p0 : Int) : Bool := (decide (0 ≤ p0) && decide (p0 < 4))
abbrev tL : Cn_ := ⟨[D6],[ID],[],false,fun x => some (DD x),some ⟨fun x => DD x,fun _ => rfl⟩⟩
theorem yJ : KO (tL) 137 := DY (ct := (.q (.j (.bl [2]) .d .d))) Dz Bc Tryz.func137 (by kernel_rfl) fun x => by kernel_rfl
theorem KN (Y : Nat → Prop) (w0 : World)  (p0 : Int) (r : Bool) (H : DD p0 = r) (hG : Gk [] w0) :
    ca_ 137 #[Jint p0] w0 fun e w' => e = .returned (.bool r) ∧ Below w0.heap.size w0 w' := yJ.outP (Y := Y) (x := p0) (congrArg some H) rfl rfl rfl rfl rfl () trivial rfl hG fun _ => rfl
theorem xQ : type_of% Tryz.underlying54 := Tryz.underlying54
theorem sB : Has Tryz.prog 137 := JR Tryz.func137
theorem YB : Ar Tryz.prog 54 4 3 1 := ⟨xQ,by kernel_rfl⟩
abbrev WV (a0 : Int × Int × Int × Int) : List Value := [Jint a0.1,Jint a0.2.1,Jint a0.2.2.1,Jint a0.2.2.2]
def IZ (p0 : Int × Int × Int × Int) (p1 : Int) : Option Int := (if (!(DD p1)) = true then some 0 else (ix ([p0.1,p0.2.1,p0.2.2.1,p0.2.2.2] : List Int) p1).bind fun x1 => some x1)
theorem Ta (Y : Nat → Prop) (w0 : World)  (p0 : Int × Int × Int × Int) (p1 : Int) (r : Int) (H : IZ p0 p1 = some r) (hG : Gk [] w0) :
    ca_ 111 #[.agg #[Jint p0.1,Jint p0.2.1,Jint p0.2.2.1,Jint p0.2.2.2],Jint p1] w0 fun e w' => e = .returned (Jint r) ∧ Below w0.heap.size w0 w' := by
 refine enter Tryz.func111 Aa Tryz.ntmps111 Aa fun a W => ?_
 have F := Stw.start Y w0
 unfold IZ at H
 refine vc tk 2 W F fun a w W F => ?_
 refine JK (cs := (WV p0)) W F Aa Aa Aa fun b1 a w W F => ?_
 refine KC tk 7 W F fun a w W F => ?_
 refine ls W F Aa (HS (v := Value.bool (DD p1)) W sB Aa (fun w F => KN any w p1 _ Aa (hG.go0 F))) fun a w W F => ?_
 refine KC tk 3 W F fun a w W F => ?_
 refine Ld W Aa H (fun W H => ?_) fun W H => ?_
 ·
  refine vc tk 5 W F fun a w W F => ?_
  refine Dx (Ej ?_)
  have H := FU H
  subst H
  refine EL (.inl Aa) W F Aa (DR W Aa) ?_
  exact ⟨rfl,F.done⟩
 refine cQ tk 5 W F fun a w W F => ?_
 obtain ⟨x1,h1,H⟩ := Cc H
 refine ls W F Aa (UL (0 + (p1).toNat * 1) YB W Aa Aa Aa h1 Aa).q fun a w W F => ?_
 refine ls W F Aa (HQ (v := Jint x1) 0 W Aa Aa T3 (eY (base := 0) (m := 4) (l := [p0.1,p0.2.1,p0.2.2.1,p0.2.2.2]) (enc := Value.int .i64) Aa h1)).q fun a w W F => ?_
 refine KC tk 3 W F fun a w W F => ?_
 refine Dx ?_
 have H := FU H
 subst H
 refine EL (.inl Aa) W F Aa (DR W Aa) ?_
 exact ⟨rfl,F.done⟩
abbrev yF : Cn_ := ⟨p8,qH,[],false,fun x => IZ x.1 x.2,none⟩
theorem xD : KO yF 111 := KO.of ⟨fun args w => Br Tryz.func111 rfl (by decide) args w⟩ rfl (fun _ => rfl) (fun _ => rfl) rfl (fun _ => rfl) (fun _ => rfl) (fun _ => rfl) (fun _ => rfl) fun Y w0 x r g H hg hk => (Ta Y w0  x.1 x.2 r H hk).mono fun e w' h => ⟨(),h.1,Stw.ofB h.2⟩
def KT (p0 : Int) (p1 : Int) (p2 : Int) (p3 : Int × Int × Int × Int) : Option Int := (if p0 = 4 then some p2 else (if p0 = 5 then some p1 else (if (Fh p0) = true then (IZ p3 p0).bind fun x1 => some x1 else some (-1))))
abbrev K89 : Cn_ := ⟨[D6,D6,D6,(.b true,[.d true lL])],[IP],[],false,fun x => KT x.1 x.2.1 x.2.2.1 x.2.2.2,none⟩
theorem k89 : KO (K89) 89 := DY (ct := .d) Dz (Az t8 (Az xD Bc)) Tryz.func89 (by kernel_rfl) fun x => by kernel_rfl
def BE (fRec_pred_arrival_satisfies : (Int × Sq) → Tr36 → Option Bool) (p0 : Int × Sq) (p1 : Tr36) : Option Bool := (fRec_pred_arrival_satisfies p0 p1).bind fun x1 => some (!x1)
def Im (fRec_pred_arrival_satisfies : (Int × Sq) → Tr36 → Option Bool) (p0 : Int × Sq) (p1 : Tr36) : Option Bool := (fRec_pred_arrival_satisfies p0 (f36 p1)).bind fun x1 => some (!x1)
theorem KH : @Im = @BE := by
 unfold Im BE
 simp only [Tr36.re_eq]
abbrev K90 (h53 : TT te.c (Dy Ns []) → Option (TT te.c (H4 Ns UN [] false))) : Cn_ := ⟨[(.b true,[.d true Yw]),Ll],[ID],[],false,fun x => BE (fun yp0 yp1 => h53 (yp0,yp1)) x.1 x.2,none⟩
theorem k90 (h53) (kh53 : KO (nQ h53) 53) : KO (K90 h53) 90 := DY (ct := .d) Dz (Az kh53 Bc) Tryz.func90 (by kernel_rfl) fun x => by rw [← KH]; kernel_rfl
def Av (fRec_pred_arrival_satisfies : (Int × Sq) → Tr36 → Option Bool) (p0 : List Tr36) (p1f0 : Int × Sq) : Int → Option (Int ⊕ (Unit ⊕ Int))
  | x1 => (if x1 < (p0.length : Int) then (ix p0 x1).bind fun x2 => ((BE fRec_pred_arrival_satisfies) p1f0 x2).bind fun x3 => (if x3 = true then some (.inr (.inr x1)) else some (.inl (Ae (x1 + 1)))) else some (.inr (.inl ())))
def AK (fRec_pred_arrival_satisfies : (Int × Sq) → Tr36 → Option Bool) (p0 : List Tr36) (p1f0 : Int × Sq) : Option Int := Hc (Ac (Av fRec_pred_arrival_satisfies p0 p1f0) 0) fun _ => some (-1)
def CC (fRec_pred_arrival_satisfies : (Int × Sq) → Tr36 → Option Bool) (p0 : List Tr36) (p1f0 : Int × Sq) : Int → Option (Int ⊕ (Unit ⊕ Int))
  | x1 => (if x1 < (p0.length : Int) then (ix p0 x1).bind fun x2 => ((BE fRec_pred_arrival_satisfies) p1f0 (f36 x2)).bind fun x3 => (if x3 = true then some (.inr (.inr x1)) else some (.inl (Ae (x1 + 1)))) else some (.inr (.inl ())))
theorem FA : @CC = @Av := by
 unfold CC Av
 simp only [Tr36.re_eq]
def D5 (fRec_pred_arrival_satisfies : (Int × Sq) → Tr36 → Option Bool) (p0 : List Tr36) (p1f0 : Int × Sq) : Option Int := Hc (Ac (CC fRec_pred_arrival_satisfies p0 p1f0) 0) fun _ => some (-1)
theorem F5 : @D5 = @AK := by
 unfold D5 AK
 simp only [FA]
abbrev mC (h53 : TT te.c (Dy Ns []) → Option (TT te.c (H4 Ns UN [] false))) : Cn_ := ⟨[Ra,(.fn 90 [(true,6)] 0,[.d true Yw])],[IP],[],false,fun x => AK (fun yp0 yp1 => h53 (yp0,yp1)) x.1 x.2,none⟩
theorem mX (h53) (kh53 : KO (nQ h53) 53) : KO (mC h53) 110 := DY (ct := (.q (.j (.st true ⟨[],[],[]⟩) (.q (.b (.l ⟨[(8,false,AG)],[],[]⟩ .d))) .d))) Dz (Az kh53 (Az (k90 _ kh53) Bc)) Tryz.func110 (by kernel_rfl) fun x => by rw [← F5]; kernel_rfl
def AO (fRec_pred_arrival_satisfies : (Int × Sq) → Tr36 → Option Bool) (p0 : List Tr36) (p1f0 : Int × Sq) : Option Bool := ((AK fRec_pred_arrival_satisfies) p0 p1f0).bind fun x1 => some (decide (0 ≤ x1))
abbrev qK (h53 : TT te.c (Dy Ns []) → Option (TT te.c (H4 Ns UN [] false))) : Cn_ := ⟨[Ra,(.fn 90 [(true,6)] 0,[.d true Yw])],[ID],[],false,fun x => AO (fun yp0 yp1 => h53 (yp0,yp1)) x.1 x.2,none⟩
theorem pQ (h53) (kh53 : KO (nQ h53) 53) : KO (qK h53) 84 := DY (ct := .d) Dz (Az kh53 (Az (mX _ kh53) Bc)) Tryz.func84 (by kernel_rfl) fun x => by kernel_rfl
def Aw (fRec_pred_arrival_satisfies : (Int × Sq) → Tr36 → Option Bool) (p0 : List Tr36) (p1f0 : Int × Sq) : Int → Option (Int ⊕ (Unit ⊕ Int))
  | x1 => (if x1 < (p0.length : Int) then (ix p0 x1).bind fun x2 => (fRec_pred_arrival_satisfies p1f0 x2).bind fun x3 => (if x3 = true then some (.inr (.inr x1)) else some (.inl (Ae (x1 + 1)))) else some (.inr (.inl ())))
def AL (fRec_pred_arrival_satisfies : (Int × Sq) → Tr36 → Option Bool) (p0 : List Tr36) (p1f0 : Int × Sq) : Option Int := Hc (Ac (Aw fRec_pred_arrival_satisfies p0 p1f0) 0) fun _ => some (-1)
def CD (fRec_pred_arrival_satisfies : (Int × Sq) → Tr36 → Option Bool) (p0 : List Tr36) (p1f0 : Int × Sq) : Int → Option (Int ⊕ (Unit ⊕ Int))
  | x1 => (if x1 < (p0.length : Int) then (ix p0 x1).bind fun x2 => (fRec_pred_arrival_satisfies p1f0 (f36 x2)).bind fun x3 => (if x3 = true then some (.inr (.inr x1)) else some (.inl (Ae (x1 + 1)))) else some (.inr (.inl ())))
theorem FB : @CD = @Aw := by
 unfold CD Aw
 simp only [Tr36.re_eq]
def D7 (fRec_pred_arrival_satisfies : (Int × Sq) → Tr36 → Option Bool) (p0 : List Tr36) (p1f0 : Int × Sq) : Option Int := Hc (Ac (CD fRec_pred_arrival_satisfies p0 p1f0) 0) fun _ => some (-1)
theorem F7 : @D7 = @AL := by
 unfold D7 AL
 simp only [FB]
abbrev kJ (h53 : TT te.c (Dy Ns []) → Option (TT te.c (H4 Ns UN [] false))) : Cn_ := ⟨[Ra,(.fn 53 [(true,6)] 0,[.d true Yw])],[IP],[],false,fun x => AL (fun yp0 yp1 => h53 (yp0,yp1)) x.1 x.2,none⟩
theorem kT (h53) (kh53 : KO (nQ h53) 53) : KO (kJ h53) 110 := DY (ct := (.q (.j (.st true ⟨[],[],[]⟩) (.q (.b (.l ⟨[(8,false,AG)],[],[]⟩ .d))) .d))) Dz (Az kh53 Bc) Tryz.func110 (by kernel_rfl) fun x => by rw [← F7]; kernel_rfl
def AQ (fRec_pred_arrival_satisfies : (Int × Sq) → Tr36 → Option Bool) (p0 : List Tr36) (p1f0 : Int × Sq) : Option Bool := ((AL fRec_pred_arrival_satisfies) p0 p1f0).bind fun x1 => some (decide (0 ≤ x1))
abbrev oA (h53 : TT te.c (Dy Ns []) → Option (TT te.c (H4 Ns UN [] false))) : Cn_ := ⟨[Ra,(.fn 53 [(true,6)] 0,[.d true Yw])],[ID],[],false,fun x => AQ (fun yp0 yp1 => h53 (yp0,yp1)) x.1 x.2,none⟩
theorem oQ (h53) (kh53 : KO (nQ h53) 53) : KO (oA h53) 84 := DY (ct := .d) Dz (Az kh53 (Az (kT _ kh53) Bc)) Tryz.func84 (by kernel_rfl) fun x => by kernel_rfl
def Bn (fRec : (Int × Sq) → Tr36 → Option Bool) (p0 : Int × Sq) (p1 : Tr36) : Option Bool := (if p1.un.1 = 1 then some true else (if p1.un.1 = 3 then (if (Fh p1.un.2.1) = true then (KT p1.un.2.1 p0.1 p0.2.1 p0.2.2).bind fun x2 => some (decide (x2 = p1.un.2.2.1)) else some false).bind fun x1 => some x1 else (if p1.un.1 = 4 then (if 0 < (p1.un.2.2.2.length : Int) then (ix p1.un.2.2.2 0).bind fun x4 => ((BE fRec) p0 x4).bind fun x5 => some x5 else some false).bind fun x3 => some x3 else (if p1.un.1 = 5 then ((AO fRec) p1.un.2.2.2 p0).bind fun x6 => some (!x6) else (if p1.un.1 = 6 then ((AQ fRec) p1.un.2.2.2 p0).bind fun x7 => some x7 else some false)))))
def A5 : Nat → (Int × Sq) → Tr36 → Option Bool
  | 0 => fun _ _ => none
  | n + 1 => Bn (A5 n)
def Ep (p0 : Int × Sq) (p1 : Tr36) : Option Bool := GY fun n => A5 n p0 p1
def Gp (fRec : (Int × Sq) → Tr36 → Option Bool) (p0 : Int × Sq) (p1 : Tr36) : Option Bool := (if p1.un.1 = 1 then some true else (if p1.un.1 = 3 then (if (Fh p1.un.2.1) = true then (KT p1.un.2.1 p0.1 p0.2.1 p0.2.2).bind fun x2 => some (decide (x2 = p1.un.2.2.1)) else some false).bind fun x1 => some x1 else (if p1.un.1 = 4 then (if 0 < (p1.un.2.2.2.length : Int) then (ix p1.un.2.2.2 0).bind fun x4 => ((BE fRec) p0 (f36 x4)).bind fun x5 => some x5 else some false).bind fun x3 => some x3 else (if p1.un.1 = 5 then ((AO fRec) p1.un.2.2.2 p0).bind fun x6 => some (!x6) else (if p1.un.1 = 6 then ((AQ fRec) p1.un.2.2.2 p0).bind fun x7 => some x7 else some false)))))
theorem Io : @Gp = @Bn := by
 unfold Gp Bn
 simp only [Tr36.re_eq]
theorem k53 : KO (nQ fun x => Ep x.1 x.2) 53 := Q7 (E := te) (xs := Ns) (ys := UN) (bs := []) (io := false) (nn := fun n x => A5 n x.1 x.2) (st := fun g x => Bn (fun yp0 yp1 => g (yp0,yp1)) x.1 x.2) Tryz.func53 rfl (by kernel_rfl) (fun _ => rfl) (fun _ => rfl) fun g hg => DY (ct := (.q (.s (.q (.b (.q (.c .d (.q (.c (.j (.st false ⟨[(4,false,EK)],[],[]⟩) .d .d) (.q (.c (.j (.st false ⟨[(4,false,EK)],[],[]⟩) .d .d) .d)))))))) .d))) Dz (Az hg (Az t8 (Az k89 (Az (k90 _ hg) (Az (pQ _ hg) (Az (oQ _ hg) Bc)))))) Tryz.func53 (by kernel_rfl) fun x => by rw [← Io]; kernel_rfl
def GG (p0 : Tr36) (p1 : Int) (p2 : Int) (p3 : Int × Int × Int × Int) : Option Bool := (Ep (p1,p2,p3) p0).bind fun x1 => some x1
def P1 (p0 : Tr36) (p1 : Int) (p2 : Int) (p3 : Int × Int × Int × Int) : Option Bool := (Ep (p1,p2,p3) (f36 p0)).bind fun x1 => some x1
theorem TV : @P1 = @GG := by
 unfold P1 GG
 simp only [Tr36.re_eq]
abbrev K26 : Cn_ := ⟨[Ll,D6,D6,(.b true,[.d true lL])],[ID],[],false,fun x => GG x.1 x.2.1 x.2.2.1 x.2.2.2,none⟩
theorem zC : KO (K26) 26 := DY (ct := .d) Dz (Az k53 Bc) Tryz.func26 (by kernel_rfl) fun x => by rw [← TV]; kernel_rfl
theorem Uv (Y : Nat → Prop) (w0 : World) (v1 : Value) (p0 : Tr36) (p1 : Int) (p2 : Int) (p3 : Int × Int × Int × Int) (r : Bool) (H : GG p0 p1 p2 p3 = some r) (h_v1 : Sl w0 (NX []) KE v1 p0.un.2.2.2) (hG : Gk [] w0) :
    ca_ 26 #[.agg #[Jint p0.un.1,Jint p0.un.2.1,Jint p0.un.2.2.1,v1],Jint p1,Jint p2,.agg #[Jint p3.1,Jint p3.2.1,Jint p3.2.2.1,Jint p3.2.2.2]] w0 fun e w' => e = .returned (.bool r) ∧ Below w0.heap.size w0 w' := zC.outP (Y := Y) (x := (p0,p1,p2,p3)) H rfl rfl rfl rfl rfl (v1,()) ⟨h_v1,trivial⟩ rfl hG fun _ => rfl
theorem H26 : Has Tryz.prog 26 := JR Tryz.func26
abbrev CR (x : Sq) : Value := .agg #[Jint x.1,Jint x.2.1,Jint x.2.2.1,Jint x.2.2.2.1,Jint x.2.2.2.2]
abbrev Yg (x : Sq) : List Int := [x.1,x.2.1,x.2.2.1,x.2.2.2.1,x.2.2.2.2]
abbrev A7 (x y : Sq) : Bool := IE (Yg x) (Yg y)
theorem LW : Lo A7 := kV Yg 5 (fun _ => rfl) fun x y h => by simp only [Yg,List.cons.injEq] at h; simp only [Prod.ext_iff,h,and_self]
theorem gH : Ty Tryz.prog 97 true 5 := ⟨by kernel_rfl,by kernel_rfl⟩
theorem tY (d : Nat) (x0 x1 x2 x3 y0 y1 y2 y3 : Int) (w : World) : (Op.equalIn (d + 2) 54 (.agg #[Jint x0,Jint x1,Jint x2,Jint x3]) (.agg #[Jint y0,Jint y1,Jint y2,Jint y3])).run Tryz.prog w = .ok (decide (x0 = y0 ∧ x1 = y1 ∧ x2 = y2 ∧ x3 = y3)) w :=
  (jU (d := d) (k := .i64) YB nK T3 [x0,x1,x2,x3] [y0,y1,y2,y3] rfl rfl w).trans (by congr 1; exact decide_eq_decide.2 (by simp))
theorem tH (dd : Nat) (x0 : Int) (x1 : Int) (x2 : Int) (x3 : Int) (x4 : Int) (y0 : Int) (y1 : Int) (y2 : Int) (y3 : Int) (y4 : Int) (w : World) : (Op.equalIn (dd + 3) 97 (.agg #[Jint x0,Jint x1,Jint x2,Jint x3,Jint x4]) (.agg #[Jint y0,Jint y1,Jint y2,Jint y3,Jint y4])).run Tryz.prog w = .ok (decide (x0 = y0 ∧ x1 = y1 ∧ x2 = y2 ∧ x3 = y3 ∧ x4 = y4)) w :=
  Sx (d := dd + 2) (rs := [decide (x0 = y0),decide (x1 = y1 ∧ x2 = y2 ∧ x3 = y3 ∧ x4 = y4)]) Uu (by kernel_rfl) ⟨rfl,TC (d := dd + 1) rfl rfl nK T3 rfl rfl,rfl,fO (d := dd + 2) (sz := 4) (xs' := [Jint x1,Jint x2,Jint x3,Jint x4]) (ys' := [Jint y1,Jint y2,Jint y3,Jint y4]) rfl rfl oK rfl rfl (fun w => tY (dd + 0) x1 x2 x3 x4 y1 y2 y3 y4 w),trivial⟩ (by rw [Bool.eq_iff_iff]; simp [and_assoc]) w
theorem G97 : Tryz.prog.eqGuardType Tryz.prog.depth 97 = false := by kernel_rfl
theorem zR (x0 : Int) (x1 : Int) (x2 : Int) (x3 : Int) (x4 : Int) (y0 : Int) (y1 : Int) (y2 : Int) (y3 : Int) (y4 : Int) (w : World) : (Op.equalIn 10000 97 (.agg #[Jint x0,Jint x1,Jint x2,Jint x3,Jint x4]) (.agg #[Jint y0,Jint y1,Jint y2,Jint y3,Jint y4])).run Tryz.prog w = .ok (decide (x0 = y0 ∧ x1 = y1 ∧ x2 = y2 ∧ x3 = y3 ∧ x4 = y4)) w := tH 9997 x0 x1 x2 x3 x4 y0 y1 y2 y3 y4 w
instance : DecidableEq (Int × Int) := inferInstance
instance : DecidableEq (Int × Int × Int) := inferInstance
instance : DecidableEq (Int × Int × Int × Int) := inferInstance
instance : DecidableEq Sq := inferInstance
theorem f9 : KeyEnc Tryz.prog 97 CR := ⟨⟨_,Uu,.inl fun _ _ => rfl⟩,fun x y w => (zR x.1 x.2.1 x.2.2.1 x.2.2.2.1 x.2.2.2.2 y.1 y.2.1 y.2.2.1 y.2.2.2.1 y.2.2.2.2 w).trans (by congr 1; exact decide_eq_decide.2 (by simp only [Prod.ext_iff,and_assoc])),fun b x w => by kernel_rfl,fun x => by simp [Instr.sameBits]⟩
theorem sG : (Tryz.prog.info? 97).bind (·.zero) = some (.agg #[Jint 0,Jint 0,Jint 0,Jint 0,Jint 0]) := by kernel_rfl
theorem Z54 : (Tryz.prog.info? 54).bind (·.zero) = some (.agg #[Jint 0,Jint 0,Jint 0,Jint 0]) := by kernel_rfl
def H7 (p0 : Int) (p1 : Int) : Option Bool := (if 0 ≤ p1 then (IR p0).bind fun x2 => some (decide (p1 ≤ x2)) else some false).bind fun x1 => some x1
abbrev uH : Cn_ := ⟨[D6,D6],[ID],[],false,fun x => H7 x.1 x.2,none⟩
theorem vH : KO (uH) 144 := DY (ct := (.q (.j (.st false ⟨[(4,false,EK)],[],[]⟩) .d .d))) Dz (Az qT Bc) Tryz.func144 (by kernel_rfl) fun x => by kernel_rfl
theorem RB (Y : Nat → Prop) (w0 : World)  (p0 : Int) (p1 : Int) (r : Bool) (H : H7 p0 p1 = some r) (hG : Gk [] w0) :
    ca_ 144 #[Jint p0,Jint p1] w0 fun e w' => e = .returned (.bool r) ∧ Below w0.heap.size w0 w' := vH.outP (Y := Y) (x := (p0,p1)) H rfl rfl rfl rfl rfl () trivial rfl hG fun _ => rfl
theorem uO : Has Tryz.prog 144 := JR Tryz.func144
abbrev iP  : List Value := [Jint 0,Jint 0,Jint 0,Jint 0]
def Hq (p0 : Int × Int × Int × Int) (p1 : Int) (p2 : Int) : Option (Int × Int × Int × Int) := ((if (DD p1) = true then (H7 p1 p2).bind fun x6 => some x6 else some false).bind fun x5 => (if x5 = true then (ix ([p0.1,p0.2.1,p0.2.2.1,p0.2.2.2] : List Int) p1).bind fun x7 => some ((if p1 = 0 then p2 else p0.1),(if p1 = 1 then p2 else p0.2.1),(if p1 = 2 then p2 else p0.2.2.1),(if p1 = 3 then p2 else p0.2.2.2)) else some (p0.1,p0.2.1,p0.2.2.1,p0.2.2.2))).bind fun (x1,x2,x3,x4) => some (x1,x2,x3,x4)
theorem Rm (Y : Nat → Prop) (w0 : World)  (p0 : Int × Int × Int × Int) (p1 : Int) (p2 : Int) (r : (Int × Int × Int × Int)) (H : Hq p0 p1 p2 = some r) (hG : Gk [] w0) :
    ca_ 124 #[.agg #[Jint p0.1,Jint p0.2.1,Jint p0.2.2.1,Jint p0.2.2.2],Jint p1,Jint p2] w0 fun e w' => e = .returned (.agg #[Jint r.1,Jint r.2.1,Jint r.2.2.1,Jint r.2.2.2]) ∧ Below w0.heap.size w0 w' := by
 refine enter Tryz.func124 Aa Tryz.ntmps124 Aa fun a W => ?_
 have F := Stw.start Y w0
 unfold Hq at H
 refine vc tk 2 W F fun a w W F => ?_
 refine JK (cs := (WV p0)) W F Aa Aa Aa fun b1 a w W F => ?_
 refine Ha (cs := (iP)) W F Aa Z54 Aa fun b2 a w W F => ?_
 refine IF (Ax ?_)
 obtain ⟨o1,G1,K1⟩ := Cc H
 refine Fw (fun a w => ∃ x1 : Int, ∃ x2 : Int, ∃ x3 : Int, ∃ x4 : Int,some ((x1,x2,x3,x4)) = some o1 ∧ Fr 18 [] [(3,pp b1),(6,pp b2)] a ∧ sy Y w0 [(b2,[Jint 0,Jint 0,Jint 0,Jint 0]),(b1,[Jint x1,Jint x2,Jint x3,Jint x4])] [] w) ?_ ?_
 ·
  have H := G1
  clear G1 K1
  obtain ⟨o2,G2,K2⟩ := Cc H
  refine Fw (fun a w => ∃ x5 : Bool,some (x5) = some o2 ∧ Fr 18 [] [(1,Jint p1),(2,Jint p2),(3,pp b1),(6,pp b2),(13,.bool x5)] a ∧ sy Y w0 [(b2,[Jint 0,Jint 0,Jint 0,Jint 0]),(b1,[Jint p0.1,Jint p0.2.1,Jint p0.2.2.1,Jint p0.2.2.2])] [] w) ?_ ?_
  ·
   have H := G2
   clear G2 K2
   refine vc tk 2 W F fun a w W F => ?_
   refine ls W F Aa (HS (v := Value.bool (DD p1)) W sB Aa (fun w F => KN any w p1 _ Aa (hG.go0 F))) fun a w W F => ?_
   refine ls W F Aa (EN W Aa).q fun a w W F => ?_
   rcases bxq (DD p1) with hb | hb
   ·
    have H := Tq hb H
    rw [hb] at W
    clear hb
    refine vl tk 2 W F fun a w W F => ?_
    refine mB (Bw W Aa Aa Aa Aa) ?_
    obtain ⟨x6,h1,H⟩ := Cc H
    refine ls W F Aa (HS (v := Value.bool x6) W uO Aa (fun w F => RB any w p1 p2 _ h1 (hG.go0 F))) fun a w W F => ?_
    refine vl tk 2 W F fun a w W F => ?_
    refine Ax ?_
    have F := F.frontM (i := 1) Aa Aa
    have F := F.frontM (i := 1) Aa Aa
    exact ⟨_,H,W.ra Aa,F⟩
   have H := TD (by rw [hb]; decide) H
   rw [hb] at W
   clear hb
   refine vl tk 5 W F fun a w W F => ?_
   refine Ax ?_
   have F := F.frontM (i := 1) Aa Aa
   have F := F.frontM (i := 1) Aa Aa
   exact ⟨_,H,W.ra Aa,F⟩
  rintro a w ⟨x5,hj,W,F⟩
  have hj := FU hj
  subst hj
  have H := K2
  clear G2 K2
  refine Ld W Aa H (fun W H => ?_) fun W H => ?_
  ·
   refine vc tk 3 W F fun a w W F => ?_
   obtain ⟨x7,h2,H⟩ := Cc H
   refine ls W F Aa (UL (0 + (p1).toNat * 1) YB W Aa Aa Aa h2 Aa).q fun a w W F => ?_
   refine UP (o := 0) (m := 4) (i := p1) (l := ([p0.1,p0.2.1,p0.2.2.1,p0.2.2.2] : List Int)) (x := x7) (cs := (WV p0)) (cs' := [Jint (if p1 = 0 then p2 else p0.1),Jint (if p1 = 1 then p2 else p0.2.1),Jint (if p1 = 2 then p2 else p0.2.2.1),Jint (if p1 = 3 then p2 else p0.2.2.2)]) 1 W F Aa Aa Aa T3 Aa Aa Aa Aa h2 (by intro k hk hn; rw [hk]; match k,hn with | 0,_ => rfl | 1,_ => rfl | 2,_ => rfl | 3,_ => rfl | (z + 4),h => exact absurd h (by omega)) fun w F => ?_
   have F : sy Y w0 [(b2,(iP)),(b1,[Jint (if p1 = 0 then p2 else p0.1),Jint (if p1 = 1 then p2 else p0.2.1),Jint (if p1 = 2 then p2 else p0.2.2.1),Jint (if p1 = 3 then p2 else p0.2.2.2)])] [] w := F
   refine IF (Ax ?_)
   have F := F.frontM (i := 1) Aa Aa
   have F := F.frontM (i := 1) Aa Aa
   exact ⟨_,_,_,_,H,W.ra Aa,F⟩
  refine FP (Ax ?_)
  have F := F.frontM (i := 1) Aa Aa
  have F := F.frontM (i := 1) Aa Aa
  exact ⟨_,_,_,_,H,W.ra Aa,F⟩
 rintro a w ⟨x1,x2,x3,x4,hj,W,F⟩
 have hj := FU hj
 subst hj
 have H := K1
 clear G1 K1
 refine TR tk 3 [1] W F (ai fun a w W F => ?_)
 refine Q9 0 W F Aa Aa Aa oK Aa Aa Aa fun w F => ?_
 refine KC tk 2 W F fun a w W F => ?_
 refine Dx ?_
 have H := FU H
 subst H
 refine EL (.inl Aa) W F Aa (SI 0 W Aa Aa oK Aa) ?_
 exact ⟨rfl,F.done⟩
abbrev yR : Cn_ := ⟨pH,rS,[],false,fun x => Hq x.1 x.2.1 x.2.2,none⟩
theorem y8 : KO yR 124 := KO.of ⟨fun args w => Br Tryz.func124 rfl (by decide) args w⟩ rfl (fun _ => rfl) (fun _ => rfl) rfl (fun _ => rfl) (fun _ => rfl) (fun _ => rfl) (fun _ => rfl) fun Y w0 x r g H hg hk => (Rm Y w0  x.1 x.2.1 x.2.2 r H hk).mono fun e w' h => ⟨(),h.1,Stw.ofB h.2⟩
abbrev Hr (a0 : Sq) : List Value := [Jint a0.1,Jint a0.2.1,Jint a0.2.2.1,Jint a0.2.2.2.1,Jint a0.2.2.2.2]
abbrev jB  : List Value := [Jint 0,Jint 0,Jint 0,Jint 0,Jint 0]
def EO (p0 : Sq) (p1 : Int) (p2 : Int) : Option Sq := (if p1 = 4 then some p2 else some p0.1).bind fun x1 => (Hq p0.2 p1 p2).bind fun x2 => some (x1,x2)
abbrev K94 : Cn_ := ⟨[(.b true,[.d true cS]),D6,D6],[(.b true,[.d false cS])],[],false,fun x => EO x.1 x.2.1 x.2.2,none⟩
theorem k94 : KO (K94) 94 := DY (ct := (.q (.j (.st false ⟨[],[(0,[some (.d false Ht),none,none,none,none])],[]⟩) .d .d))) Dz (Az y8 Bc) Tryz.func94 (by kernel_rfl) fun x => by kernel_rfl
theorem Na (Y : Nat → Prop) (w0 : World)  (p0 : Sq) (p1 : Int) (p2 : Int) (r : Sq) (H : EO p0 p1 p2 = some r) (hG : Gk [] w0) :
    ca_ 94 #[.agg #[Jint p0.1,Jint p0.2.1,Jint p0.2.2.1,Jint p0.2.2.2.1,Jint p0.2.2.2.2],Jint p1,Jint p2] w0 fun e w' => e = .returned (.agg #[Jint r.1,Jint r.2.1,Jint r.2.2.1,Jint r.2.2.2.1,Jint r.2.2.2.2]) ∧ Below w0.heap.size w0 w' := k94.outP (Y := Y) (x := (p0,p1,p2)) H rfl rfl rfl rfl rfl () trivial rfl hG fun _ => rfl
theorem We : type_of% Tryz.underlying99 := Tryz.underlying99
theorem H94 : Has Tryz.prog 94 := JR Tryz.func94
theorem sQ : Has Tryz.prog 58 := JR Tryz.func58
theorem YG (Y : Nat → Prop) (X : List Nat) (w0 : World) (v0 v1 : Value) (s0 s1 : List Sq) (hL : Stw ⟨Y,X,w0⟩ [] [Cj v0 CR A7 s0,Cj v1 CR A7 s1] w0) :
    ca_ 96 #[v0,v1] w0 fun e w' => ∃ x : Unit,e = .returned (.tuple #[]) ∧ Stw ⟨Y,X,w0⟩ [] [Cj v1 CR A7 s1,Cj v0 CR A7 (MS A7 s0 s1)] w' := by
  refine enter Tryz.func96 Aa Tryz.ntmps96 Aa fun a W => ?_
  have hA : KF A7 s0 := hL.asc (i := 0) Aa
  refine OA (J5 (l := [_,_]) ?_)
  refine ls W hL Aa (EN W Aa).q fun a w W F => ?_
  refine MR (q := 1) W F Aa Aa Aa Aa We fun i b es clock l a w hv hE W F => ?_
  refine IF (Ax (NF ?_))
  refine Sk (fun done s => s = MS A7 s0 done) (fun _ => [(0,v0)]) (fun s => [Cj v0 CR A7 s]) (W.ra Aa) F hE Aa Aa Aa (fun done kx s seen a w hk hc hR W F => ?_) fun done s seen a w hp hR W F => ?_
  · refine NF (OA (J5 (l := [_,_,_,_]) ?_))
    refine ls W F Aa (MH (q := 0) (q' := 1) W Aa Aa Aa hc).q fun a w W F => ?_
    refine ls W F Aa (F3 (vs := [CR kx,.agg #[]]) W Aa Aa).q fun a w W F => ?_
    refine Ha W F Aa sG Aa fun b2 a w W F => ?_
    refine M5 0 W F Aa Aa Aa gH Aa Aa Aa Aa Aa fun w F => ?_
    refine IF (Ax (J5 (l := [_,_,_,_]) ?_))
    refine Oj tk 2 [0] W F (ai fun a w W F => ?_)
    refine ls W F Aa (H3 (zs := []) (cs := []) (parts := []) (vp := []) (v := .agg #[]) aT W Aa Aa Aa).q fun a w W F => ?_
    refine b8 (q := 2) kx W F Aa Aa Aa Aa Aa f9 LW We fun w F => ?_
    refine IF (EY (Ax ⟨_, ?_,W.ra Aa,(F.frontZ (i := 2) Aa Aa |>.frontZ (i := 2) Aa Aa |>.sub nl sr)⟩))
    rw [hR]; simp only [MS,List.foldl_append,List.foldl_cons,List.foldl_nil]
  · have F := F.unfix hE
    rw [← hv] at F
    rw [hR,Zb LW hA hp] at F
    refine GH (iD (.inr Aa) W Aa ?_)
    exact ⟨(),Aa,F⟩
theorem zQ : Has Tryz.prog 96 := JR Tryz.func96
abbrev RR (a0 : Nat) (a1 : Sq) : List (Nat × List Value) := [(a0,[Jint a1.1,Jint a1.2.1,Jint a1.2.2.1,Jint a1.2.2.2.1,Jint a1.2.2.2.2])]
def C2 (fRec_policy_results : Tr39 → Int → Sq → Option (List Sq)) (p1 : Int) (x4 : Tr39) (kx5681 : Sq) : Option (List Sq) := (fRec_policy_results (Tr39.of (x4.un.1,f36 x4.un.2.1,x4.un.2.2.1,x4.un.2.2.2.1,x4.un.2.2.2.2)) p1 kx5681).bind fun x6 => some x6
def BK (fRec_policy_results : Tr39 → Int → Sq → Option (List Sq)) (p0 : List Tr39) (p1 : Int) : ((List Sq) × Int) → Option (((List Sq) × Int) ⊕ (List Sq))
  | (x2,x3) => (if x3 < (p0.length : Int) then (ix p0 x3).bind fun x4 => (Jj A7 (C2 fRec_policy_results p1 x4) x2 ([] : List Sq)).bind fun x5 => some (.inl (x5,Ae (x3 + 1))) else some (.inr x2))
def De (fRec_policy_results : Tr39 → Int → Sq → Option (List Sq)) (p0 : List Tr39) (p1 : Int) (p2 : Sq) : Option (List Sq) := (Ac (BK fRec_policy_results p0 p1) ((He A7 ([] : List Sq) p2),0)).bind fun x1 => some x1
theorem Mb (fRec_policy_results : Tr39 → Int → Sq → Option (List Sq)) (ih_policy_results : ∀ (Y : Nat → Prop) (w0 : World) (v1 : Value) (v2 : Value) (p0 : Tr39) (p1 : Int) (p2 : Sq) (r : (List Sq)) (H : fRec_policy_results p0 p1 p2 = some r) (s_v1 : Sl w0 Y KE v1 p0.un.2.1.un.2.2.2) (s_v2 : Sl w0 Y KG v2 p0.un.2.2.2.2) (hG : Gk [] w0),ca_ 58 #[.agg #[Jint p0.un.1,Jint p0.un.2.1.un.1,Jint p0.un.2.1.un.2.1,Jint p0.un.2.1.un.2.2.1,v1,Jint p0.un.2.2.1,Jint p0.un.2.2.2.1,v2],Jint p1,.agg #[Jint p2.1,Jint p2.2.1,Jint p2.2.2.1,Jint p2.2.2.2.1,Jint p2.2.2.2.2]] w0 fun e w' => ∃ x : Value,e = .returned (x) ∧ sy Y w0 [] [Cj (x) CR A7 r] w') (Y : Nat → Prop) (w0 : World) (v1 : Value) (p0 : List Tr39) (p1 : Int) (p2 : Sq) (r : (List Sq)) (H : De fRec_policy_results p0 p1 p2 = some r) (s_v1 : Sl w0 Y KG v1 p0) (hG : Gk [] w0) :
    ca_ 95 #[v1,Jint p1,.agg #[Jint p2.1,Jint p2.2.1,Jint p2.2.2.1,Jint p2.2.2.2.1,Jint p2.2.2.2.2]] w0 fun e w' => ∃ x : Value,e = .returned (x) ∧ sy Y w0 [] [Cj (x) CR A7 r] w' := by
 refine enter Tryz.func95 Aa Tryz.ntmps95 Aa fun a W => ?_
 have F := Stw.start Y w0
 obtain ⟨v2,h1,s_v1⟩ := s_v1.ex Ry
 have h_v1 := F.nx s_v1
 unfold De at H
 refine vc tk 2 W F fun a w W F => ?_
 refine JK (cs := (Hr p2)) W F Aa Aa Aa fun b1 a w W F => ?_
 refine KC tk 5 W F fun a w W F => ?_
 refine Iv CR A7 W F Aa fun v3 a w W F => ?_
 have F : sy Y w0 (RR b1 p2) [Cj v3 CR A7 ([] : List Sq)] w := F
 refine ls W F Aa (HQ (v := Value.agg #[Jint p2.1,Jint p2.2.1,Jint p2.2.2.1,Jint p2.2.2.2.1,Jint p2.2.2.2.2]) 0 W Aa Aa gH Aa).q fun a w W F => ?_
 refine ls W F Aa (H3 (v := Value.agg #[]) aT W Aa Aa Aa).q fun a w W F => ?_
 refine l_setput' (q := 0) (p2 : Sq) W F Aa Aa Aa Aa Aa f9 LW We fun w F => ?_
 have F : sy Y w0 (RR b1 p2) [Cj v3 CR A7 (He A7 ([] : List Sq) p2)] w := F
 refine vl tk 3 W F fun a w W F => ?_
 refine Ax ?_
 obtain ⟨o1,G1,K1⟩ := Cc H
 refine Fw (fun a w => ∃ x1 : List Sq, ∃ v4 : Value,some (x1) = some o1 ∧ Fr 38 [] [(6,.map none),(7,v4)] a ∧ sy Y w0 (RR b1 p2) [Cj v4 CR A7 x1] w) ?_ ?_
 ·
  have H := G1
  clear G1 K1
  refine vc tk 3 W F fun a w W F => ?_
  refine ls W F Aa (IW (r := KG) (l := p0) lB Aa W Aa (HD Ry h1 (Cx h_v1))).q fun a w W F => ?_
  refine KC tk 4 W F fun a w W F => ?_
  refine Ip H (fun s a w => ∃ v5 : Value,Fr 38 [] [(1,Jint p1),(6,.map none),(7,v5),(16,v1),(17,Jint (p0.length : Int)),(18,Jint s.2)] a ∧ sy Y w0 (RR b1 p2) [Cj v5 CR A7 s.1] w) ⟨(v3),W.ra Aa,F⟩ fun s o a w H L2 hR => ?_
  obtain ⟨x2,x3⟩ := s
  obtain ⟨v5,W,F⟩ := hR
  have W : Fr 38 [] [(1,Jint p1),(6,.map none),(7,v5),(16,v1),(17,Jint (p0.length : Int)),(18,Jint x3)] a := W
  have F : sy Y w0 (RR b1 p2) [Cj v5 CR A7 x2] w := F
  rw [BK] at H
  refine vc tk 6 W F fun a w W F => ?_
  refine J2 W Aa H (fun W H => ?_) fun W H => ?_
  ·
   refine cQ tk 6 W F fun a w W F => ?_
   obtain ⟨x4,h2,H⟩ := Cc H
   obtain ⟨v6,h3,h4⟩ := Sj h1 h2
   have h5 : ZE v6 = [Jint x4.un.1,Jint x4.un.2.1.un.1,Jint x4.un.2.1.un.2.1,Jint x4.un.2.1.un.2.2.1,(v6.2.1.2.2.2.1),Jint x4.un.2.2.1,Jint x4.un.2.2.2.1,(v6.2.2.2.2.1)] := congrArg (fun q : Tr39 => ([Jint q.un.1,Jint q.un.2.1.un.1,Jint q.un.2.1.un.2.1,Jint q.un.2.1.un.2.2.1,(v6.2.1.2.2.2.1),Jint q.un.2.2.1,Jint q.un.2.2.2.1,(v6.2.2.2.2.1)] : List Value)) h4
   refine ls W F Aa (F9 (r := aE) sN W Aa Aa (Cx h_v1) h3).q fun a w W F => ?_
   refine ls W F Aa (Eg (y := Value.agg #[Jint x4.un.1,Jint x4.un.2.1.un.1,Jint x4.un.2.1.un.2.1,Jint x4.un.2.1.un.2.2.1,(v6.2.1.2.2.2.1),Jint x4.un.2.2.1,Jint x4.un.2.2.2.1,(v6.2.2.2.2.1)]) (j := 0) (i := x3) (enc := ZE) W Aa Aa (Cx h_v1) h3 pS fU (by rw [h5]; rfl)).q fun a w W F => ?_
   refine Ha (cs := (UI)) W F Aa nJ Aa fun b2 a w W F => ?_
   refine Q9 0 W F Aa Aa Aa fU Aa Aa (Bb Aa (Bb Aa (Bb Aa (Bb Aa (Bb ((KP (Cx h_v1) h3 (CG.snd (CG.fst (CG.snd (CG.snd (CG.snd CG.here))))) (congrArg (fun q : Tr39 => q.un.2.1.un.2.2.2) h4)) _ F).one (Bb Aa (Bb Aa (Bb ((KP (Cx h_v1) h3 (CG.snd (CG.snd (CG.snd (CG.snd CG.here)))) (congrArg (fun q : Tr39 => q.un.2.2.2.2) h4)) _ F).one NJ)))))))) fun w F => ?_
   refine KC tk 4 W F fun a w W F => ?_
   refine Iv CR A7 W F Aa fun v7 a w W F => ?_
   have F : sy Y w0 [(b2,[Jint x4.un.1,Jint x4.un.2.1.un.1,Jint x4.un.2.1.un.2.1,Jint x4.un.2.1.un.2.2.1,(v6.2.1.2.2.2.1),Jint x4.un.2.2.1,Jint x4.un.2.2.2.1,(v6.2.2.2.2.1)]),(b1,(Hr p2))] [Cj v7 CR A7 ([] : List Sq),Cj v5 CR A7 x2] w := F
   refine KC tk 7 W F fun a w W F => ?_
   refine MR (q := 1) W F Aa Aa Aa Aa We fun i5681 m5681 e5681 c5681 l5681 a w hv5681 hE5681 W F => ?_
   have F : sy Y w0 [(b2,[Jint x4.un.1,Jint x4.un.2.1.un.1,Jint x4.un.2.1.un.2.1,Jint x4.un.2.1.un.2.2.1,(v6.2.1.2.2.2.1),Jint x4.un.2.2.1,Jint x4.un.2.2.2.1,(v6.2.2.2.2.1)]),(b1,(Hr p2))] [Hg i5681 m5681 c5681 #[] c5681,GI m5681 e5681 c5681,Cj v7 CR A7 ([] : List Sq)] w := F
   refine KC tk 3 W F fun a w W F => ?_
   obtain ⟨x5,h6,H⟩ := Cc H
   refine ZB (Ff := [(1,Jint p1),(6,.map none),(7,v5),(9,pp b2),(10,v7),(16,v1),(17,Jint (p0.length : Int)),(18,Jint x3),(19,.bool true),(21,.agg #[Jint x4.un.1,Jint x4.un.2.1.un.1,Jint x4.un.2.1.un.2.1,Jint x4.un.2.1.un.2.2.1,(v6.2.1.2.2.2.1),Jint x4.un.2.2.1,Jint x4.un.2.2.2.1,(v6.2.2.2.2.1)]),(22,v7),(23,v5)]) (Zr := []) (va := v7) LW h6 (W.ra Aa) F hv5681 hE5681 Aa Aa (fun kx5681 r5681 s5681 sn5681 a w G5681_ hc5681 W F => ?_) fun a w W F => ?_
   ·
    have W : Fr 38 [] [(1,Jint p1),(6,.map none),(7,v5),(9,pp b2),(10,v7),(16,v1),(17,Jint (p0.length : Int)),(18,Jint x3),(19,.bool true),(21,.agg #[Jint x4.un.1,Jint x4.un.2.1.un.1,Jint x4.un.2.1.un.2.1,Jint x4.un.2.1.un.2.2.1,(v6.2.1.2.2.2.1),Jint x4.un.2.2.1,Jint x4.un.2.2.2.1,(v6.2.2.2.2.1)]),(22,v7),(23,v5),(24,pp i5681),(25,.tuple #[.bool true,.agg #[Jint kx5681.1,Jint kx5681.2.1,Jint kx5681.2.2.1,Jint kx5681.2.2.2.1,Jint kx5681.2.2.2.2],.agg #[]]),(26,.bool true)] a := W.ra Aa
    have F : sy Y w0 [(b2,[Jint x4.un.1,Jint x4.un.2.1.un.1,Jint x4.un.2.1.un.2.1,Jint x4.un.2.1.un.2.2.1,(v6.2.1.2.2.2.1),Jint x4.un.2.2.1,Jint x4.un.2.2.2.1,(v6.2.2.2.2.1)]),(b1,(Hr p2))] [Hg i5681 m5681 c5681 sn5681 c5681,GI m5681 e5681 c5681,Cj v7 CR A7 s5681] w := F
    have H := G5681_
    rw [C2] at H
    refine vc tk 3 W F fun a w W F => ?_
    refine ls W F Aa (MH (q := 0) (q' := 1) W Aa Aa Aa hc5681).q fun a w W F => ?_
    refine ls W F Aa (F3 (v := Value.agg #[Jint kx5681.1,Jint kx5681.2.1,Jint kx5681.2.2.1,Jint kx5681.2.2.2.1,Jint kx5681.2.2.2.2]) W Aa Aa).q fun a w W F => ?_
    refine Ha (cs := (jB)) W F Aa sG Aa fun b3 a w W F => ?_
    refine Q9 0 W F Aa Aa Aa gH Aa Aa Aa fun w F => ?_
    refine XG tk 7 [1,0] W F (ai (ai fun a w W F => ?_))
    obtain ⟨x6,h7,H⟩ := Cc H
    refine GA (Ml := []) (Zl := []) (β := Value) (rv := fun x => x) (MM := fun x => []) (ZZ := fun x => [Cj x CR A7 x6]) W F sQ Aa Aa (fun hL => ih_policy_results _ w ((v6.2.1.2.2.2.1)) ((v6.2.2.2.2.1)) (Tr39.of (x4.un.1,f36 x4.un.2.1,x4.un.2.2.1,x4.un.2.2.2.1,x4.un.2.2.2.2)) p1 kx5681 _ h7 (Sl.at_ (F.old s_v1) h3 (CG.snd (CG.fst (CG.snd (CG.snd (CG.snd CG.here))))) (congrArg (fun q : Tr39 => q.un.2.1.un.2.2.2) h4)) (Sl.at_ (F.old s_v1) h3 (CG.snd (CG.snd (CG.snd (CG.snd CG.here)))) (congrArg (fun q : Tr39 => q.un.2.2.2.2) h4)) (hG.go0 F)) fun x a w W F => ?_
    obtain ⟨v8,rfl⟩ : ∃ y,y = x := ⟨x,rfl⟩
    have F : sy Y w0 [(b3,(Hr kx5681)),(b2,[Jint x4.un.1,Jint x4.un.2.1.un.1,Jint x4.un.2.1.un.2.1,Jint x4.un.2.1.un.2.2.1,(v6.2.1.2.2.2.1),Jint x4.un.2.2.1,Jint x4.un.2.2.2.1,(v6.2.2.2.2.1)]),(b1,(Hr p2))] [Cj v8 CR A7 x6,Hg i5681 m5681 c5681 sn5681 c5681,GI m5681 e5681 c5681,Cj v7 CR A7 s5681] w := F
    have F := F.frontZ (i := 3) Aa Aa
    refine GA (Ml := []) (Zl := [Cj v7 CR A7 s5681,Cj v8 CR A7 x6]) (β := Unit) (rv := fun _ => .tuple #[]) (MM := fun _ => []) (ZZ := fun _ => [Cj v8 CR A7 x6,Cj v7 CR A7 (MS A7 s5681 x6)]) W F zQ Aa Aa (fun hL => YG _ _ w _ _ _ _ hL) fun _ a w W F => ?_
    have F : sy Y w0 [(b3,(Hr kx5681)),(b2,[Jint x4.un.1,Jint x4.un.2.1.un.1,Jint x4.un.2.1.un.2.1,Jint x4.un.2.1.un.2.2.1,(v6.2.1.2.2.2.1),Jint x4.un.2.2.1,Jint x4.un.2.2.2.1,(v6.2.2.2.2.1)]),(b1,(Hr p2))] [Cj v8 CR A7 x6,Cj v7 CR A7 (MS A7 s5681 x6),Hg i5681 m5681 c5681 sn5681 c5681,GI m5681 e5681 c5681] w := F
    refine IF (EY (Ax ?_))
    have H := FU H
    subst H
    have F := F.frontZ (i := 1) Aa Aa
    have F := F.frontZ (i := 3) Aa Aa
    have F := F.frontZ (i := 3) Aa Aa
    have F := F.frontM (i := 2) Aa Aa
    have F := F.frontM (i := 2) Aa Aa
    have F := F.sub (M' := [(b2,[Jint x4.un.1,Jint x4.un.2.1.un.1,Jint x4.un.2.1.un.2.1,Jint x4.un.2.1.un.2.2.1,(v6.2.1.2.2.2.1),Jint x4.un.2.2.1,Jint x4.un.2.2.2.1,(v6.2.2.2.2.1)]),(b1,(Hr p2))]) (Z' := [Hg i5681 m5681 c5681 sn5681 c5681,GI m5681 e5681 c5681,Cj v7 CR A7 (MS A7 s5681 x6)]) (sc (sc nl)) (sc (sc (sc nl)))
    exact ⟨W.ra Aa,F⟩
   have W : Fr 38 [] [(1,Jint p1),(6,.map none),(7,v5),(9,pp b2),(10,v7),(16,v1),(17,Jint (p0.length : Int)),(18,Jint x3),(19,.bool true),(21,.agg #[Jint x4.un.1,Jint x4.un.2.1.un.1,Jint x4.un.2.1.un.2.1,Jint x4.un.2.1.un.2.2.1,(v6.2.1.2.2.2.1),Jint x4.un.2.2.1,Jint x4.un.2.2.2.1,(v6.2.2.2.2.1)]),(22,v7),(23,v5)] a := W.ra Aa
   have F : sy Y w0 [(b2,[Jint x4.un.1,Jint x4.un.2.1.un.1,Jint x4.un.2.1.un.2.1,Jint x4.un.2.1.un.2.2.1,(v6.2.1.2.2.2.1),Jint x4.un.2.2.1,Jint x4.un.2.2.2.1,(v6.2.2.2.2.1)]),(b1,(Hr p2))] [Cj v5 CR A7 x2,Cj v7 CR A7 x5] w := F
   refine GH ?_
   refine vn tk 4 W F fun a w W F => ?_
   refine EY ?_
   refine vn tk 4 W F fun a w W F => ?_
   refine Ax ?_
   have F := F.frontZ (i := 1) Aa Aa
   have F := F.frontM (i := 1) Aa Aa
   have F := F.sub (M' := (RR b1 p2)) (Z' := [Cj v7 CR A7 x5]) (sc nl) (sc nl)
   exact ⟨_,H,(v7),W.ra Aa,F⟩
  refine G9 ?_
  iterate 2 refine Jp ?_
  refine GH (Ax ?_)
  have H := L2 _ H
  exact ⟨_,(v5),H,W.ra Aa,F⟩
 rintro a w ⟨x1,v4,hj,W,F⟩
 have hj := FU hj
 subst hj
 have H := K1
 clear G1 K1
 refine vc tk 6 W F fun a w W F => ?_
 refine Dx ?_
 have H := FU H
 subst H
 refine EL (.inl Aa) W F Aa (DR W Aa) ?_
 have F := F.sub (M' := []) (Z' := [Cj v4 CR A7 x1]) nl sr
 exact ⟨(v4),Aa,F⟩
theorem H95 : Has Tryz.prog 95 := JR Tryz.func95
def G7 (p0 : Tr39) (p1 : Int) (p2 : Sq) : Option Tr39 := ((GG (f36 p0.un.2.1) p1 p2.1 p2.2).bind fun x2 => (if x2 = true then some 0 else some 1)).bind fun x1 => (if (p0.un.2.2.2.2.length : Int) ≤ x1 then some (Tr39.of (0,Tr36.of (0,0,0,([] : List Tr36)),0,0,([] : List Tr39))) else (ix p0.un.2.2.2.2 x1).bind fun x3 => some (Tr39.of (x3.un.1,f36 x3.un.2.1,x3.un.2.2.1,x3.un.2.2.2.1,x3.un.2.2.2.2)))
abbrev K97 : Cn_ := ⟨[Yf,D6,(.b true,[.d true cS])],[Yf],[],false,fun x => G7 x.1 x.2.1 x.2.2,none⟩
theorem k97 : KO (K97) 97 := DY (ct := (.q (.q (.j (.st false ⟨[(7,false,AG)],[],[]⟩) .d .d)))) Dz (Az zC Bc) Tryz.func97 (by kernel_rfl) fun x => by kernel_rfl
theorem OV (Y : Nat → Prop) (w0 : World) (v1 : Value) (v2 : Value) (p0 : Tr39) (p1 : Int) (p2 : Sq) (r : Tr39) (H : G7 p0 p1 p2 = some r) (s_v1 : Sl w0 Y KE v1 p0.un.2.1.un.2.2.2) (s_v2 : Sl w0 Y KG v2 p0.un.2.2.2.2) (hG : Gk [] w0) :
    ca_ 97 #[.agg #[Jint p0.un.1,Jint p0.un.2.1.un.1,Jint p0.un.2.1.un.2.1,Jint p0.un.2.1.un.2.2.1,v1,Jint p0.un.2.2.1,Jint p0.un.2.2.2.1,v2],Jint p1,.agg #[Jint p2.1,Jint p2.2.1,Jint p2.2.2.1,Jint p2.2.2.2.1,Jint p2.2.2.2.2]] w0 fun e w' => ∃ x : Value × Value,e = .returned (.agg #[Jint r.un.1,Jint r.un.2.1.un.1,Jint r.un.2.1.un.2.1,Jint r.un.2.1.un.2.2.1,x.1,Jint r.un.2.2.1,Jint r.un.2.2.2.1,x.2]) ∧ sy Y w0 [] [frz (x.1) KE r.un.2.1.un.2.2.2,frz (x.2) KG r.un.2.2.2.2] w' := by
 refine (k97.out (Y := Y) (X := []) (x := (p0,p1,p2)) (r := r) H Aa Aa Aa Aa Aa (v1,(v2,())) ⟨s_v1,⟨s_v2,trivial⟩⟩ (Stw.start Y w0) hG).mono ?_
 rintro e w' ⟨⟨a0,a1,u⟩,he,F,hi⟩
 exact ⟨(a0,a1),he,F⟩
theorem H97 : Has Tryz.prog 97 := JR Tryz.func97
abbrev I6 (a0 : Nat) (a1 : Sq) (a2 : Nat) (a3 : Tr39) (a4 : Value) (a5 : Value) : List (Nat × List Value) := [(a0,[Jint a1.1,Jint a1.2.1,Jint a1.2.2.1,Jint a1.2.2.2.1,Jint a1.2.2.2.2]),(a2,[Jint a3.un.1,Jint a3.un.2.1.un.1,Jint a3.un.2.1.un.2.1,Jint a3.un.2.1.un.2.2.1,a4,Jint a3.un.2.2.1,Jint a3.un.2.2.2.1,a5])]
def Cr (fRec : Tr39 → Int → Sq → Option (List Sq)) (p0 : Tr39) (p1 : Int) (p2 : Sq) : ((List Sq) × Int) → Option (((List Sq) × Int) ⊕ (List Sq))
  | (x5,x6) => (if x6 < (p0.un.2.2.2.2.length : Int) then (ix p0.un.2.2.2.2 x6).bind fun x7 => (fRec (Tr39.of (x7.un.1,f36 x7.un.2.1,x7.un.2.2.1,x7.un.2.2.2.1,x7.un.2.2.2.2)) p1 p2).bind fun x8 => some (.inl ((MS A7 x5 x8),Ae (x6 + 1))) else some (.inr x5))
def AU (fRec : Tr39 → Int → Sq → Option (List Sq)) (p0 : Tr39) (p1 : Int) (p2 : Sq) : Option (List Sq) := Hc (if p0.un.1 = 1 then (GG (f36 p0.un.2.1) p1 p2.1 p2.2).bind fun x1 => (if x1 = true then some (.inr (He A7 ([] : List Sq) p2)) else some (.inl ())) else (if p0.un.1 = 2 then (EO p2 p0.un.2.2.1 p0.un.2.2.2.1).bind fun x2 => some (.inr (He A7 ([] : List Sq) x2)) else (if p0.un.1 = 3 then ((De fRec) p0.un.2.2.2.2 p1 p2).bind fun x3 => some (.inr x3) else (if p0.un.1 = 4 then (Ac (Cr fRec p0 p1 p2) (([] : List Sq),0)).bind fun x4 => some (.inr x4) else (if p0.un.1 = 5 then (G7 (Tr39.of (p0.un.1,f36 p0.un.2.1,p0.un.2.2.1,p0.un.2.2.2.1,p0.un.2.2.2.2)) p1 p2).bind fun x9 => (fRec (Tr39.of (x9.un.1,f36 x9.un.2.1,x9.un.2.2.1,x9.un.2.2.2.1,x9.un.2.2.2.2)) p1 p2).bind fun x10 => some (.inr x10) else some (.inl ())))))) fun _ => some ([] : List Sq)
def Ai : Nat → Tr39 → Int → Sq → Option (List Sq)
  | 0 => fun _ _ _ => none
  | n + 1 => AU (Ai n)
def Gw (p0 : Tr39) (p1 : Int) (p2 : Sq) : Option (List Sq) := GY fun n => Ai n p0 p1 p2
theorem MG (fRec : Tr39 → Int → Sq → Option (List Sq)) (ih : ∀ (Y : Nat → Prop) (w0 : World) (v1 : Value) (v2 : Value) (p0 : Tr39) (p1 : Int) (p2 : Sq) (r : (List Sq)) (H : fRec p0 p1 p2 = some r) (s_v1 : Sl w0 Y KE v1 p0.un.2.1.un.2.2.2) (s_v2 : Sl w0 Y KG v2 p0.un.2.2.2.2) (hG : Gk [] w0),ca_ 58 #[.agg #[Jint p0.un.1,Jint p0.un.2.1.un.1,Jint p0.un.2.1.un.2.1,Jint p0.un.2.1.un.2.2.1,v1,Jint p0.un.2.2.1,Jint p0.un.2.2.2.1,v2],Jint p1,.agg #[Jint p2.1,Jint p2.2.1,Jint p2.2.2.1,Jint p2.2.2.2.1,Jint p2.2.2.2.2]] w0 fun e w' => ∃ x : Value,e = .returned (x) ∧ sy Y w0 [] [Cj (x) CR A7 r] w') (Y : Nat → Prop) (w0 : World) (v1 : Value) (v2 : Value) (p0 : Tr39) (p1 : Int) (p2 : Sq) (r : (List Sq)) (H : AU fRec p0 p1 p2 = some r) (s_v1 : Sl w0 Y KE v1 p0.un.2.1.un.2.2.2) (s_v2 : Sl w0 Y KG v2 p0.un.2.2.2.2) (hG : Gk [] w0) :
    ca_ 58 #[.agg #[Jint p0.un.1,Jint p0.un.2.1.un.1,Jint p0.un.2.1.un.2.1,Jint p0.un.2.1.un.2.2.1,v1,Jint p0.un.2.2.1,Jint p0.un.2.2.2.1,v2],Jint p1,.agg #[Jint p2.1,Jint p2.2.1,Jint p2.2.2.1,Jint p2.2.2.2.1,Jint p2.2.2.2.2]] w0 fun e w' => ∃ x : Value,e = .returned (x) ∧ sy Y w0 [] [Cj (x) CR A7 r] w' := by
 refine enter Tryz.func58 Aa Tryz.ntmps58 Aa fun a W => ?_
 have F := Stw.start Y w0
 obtain ⟨v3,h1,s_v1⟩ := s_v1.ex V0
 obtain ⟨v4,h2,s_v2⟩ := s_v2.ex Ry
 have h_v1 := F.nx s_v1
 have h_v2 := F.nx s_v2
 unfold AU at H
 refine vc tk 2 W F fun a w W F => ?_
 refine JK (cs := (Pz p0 v1 v2)) W F Aa Aa Aa fun b1 a w W F => ?_
 refine JK (cs := (Hr p2)) W F Aa Aa Aa fun b2 a w W F => ?_
 refine vl tk 2 W F fun a w W F => ?_
 refine Ax ?_
 obtain ⟨o1,G1,K1,L1⟩ := nM H
 refine Fw (fun a w => some (Sum.inl ()) = some o1 ∧ Fr 72 [] [(6,.map none)] a ∧ sy Y w0 (I6 b2 p2 b1 p0 v1 v2) [] w) ?_ ?_
 ·
  have H := G1
  clear G1 K1
  refine TR tk 13 [1] W F (ai fun a w W F => ?_)
  refine N0 W Aa (fun hb => ?_) fun hb => ?_
  ·
   have H := Tq (ZU hb) H
   rw [hb] at W
   clear hb
   refine TR tk 9 [1,0,0] W F (ai (ai (ai fun a w W F => ?_)))
   obtain ⟨x1,h3,H⟩ := Cc H
   refine ls W F Aa (HS (v := Value.bool x1) W H26 Aa (fun w F => Uv any w (v1) (f36 p0.un.2.1) p1 p2.1 p2.2 _ h3 (d7 (HD V0 h1 (Cx h_v1)) F) (hG.go0 F))) fun a w W F => ?_
   refine KC tk 2 W F fun a w W F => ?_
   refine Ld W Aa H (fun W H => ?_) fun W H => ?_
   ·
    refine vc tk 2 W F fun a w W F => ?_
    refine Iv CR A7 W F Aa fun v5 a w W F => ?_
    have F : sy Y w0 (I6 b2 p2 b1 p0 v1 v2) [Cj v5 CR A7 ([] : List Sq)] w := F
    refine ls W F Aa (HQ (v := Value.agg #[Jint p2.1,Jint p2.2.1,Jint p2.2.2.1,Jint p2.2.2.2.1,Jint p2.2.2.2.2]) 0 W Aa Aa gH Aa).q fun a w W F => ?_
    refine ls W F Aa (H3 (v := Value.agg #[]) aT W Aa Aa Aa).q fun a w W F => ?_
    refine l_setput' (q := 0) (p2 : Sq) W F Aa Aa Aa Aa Aa f9 LW We fun w F => ?_
    have F : sy Y w0 (I6 b2 p2 b1 p0 v1 v2) [Cj v5 CR A7 (He A7 ([] : List Sq) p2)] w := F
    refine KC tk 4 W F fun a w W F => ?_
    refine Dx (FR (Ej ?_))
    have H := L1 _ H
    have H := FU H
    subst H
    refine EL (.inl Aa) W F Aa (DR W Aa) ?_
    have F := F.sub (M' := []) (Z' := [Cj v5 CR A7 (He A7 ([] : List Sq) p2)]) nl sr
    exact ⟨(v5),Aa,F⟩
   refine FP (EY (Ax ?_))
   have F := F.frontM (i := 1) Aa Aa
   have F := F.frontM (i := 1) Aa Aa
   exact ⟨H,W.ra Aa,F⟩
  have H := TD (ZX hb) H
  rw [hb] at W
  clear hb
  refine vc tk 6 W F fun a w W F => ?_
  refine N0 W Aa (fun hb => ?_) fun hb => ?_
  ·
   have H := Tq (ZU hb) H
   rw [hb] at W
   clear hb
   refine vc tk 2 W F fun a w W F => ?_
   refine Iv CR A7 W F Aa fun v6 a w W F => ?_
   have F : sy Y w0 (I6 b2 p2 b1 p0 v1 v2) [Cj v6 CR A7 ([] : List Sq)] w := F
   refine Oj tk 5 [0,1,1] W F (ai (ai (ai fun a w W F => ?_)))
   obtain ⟨x2,h4,H⟩ := Cc H
   refine ls W F Aa (HS (v := Value.agg #[Jint x2.1,Jint x2.2.1,Jint x2.2.2.1,Jint x2.2.2.2.1,Jint x2.2.2.2.2]) W H94 Aa (fun w F => Na any w p2 p0.un.2.2.1 p0.un.2.2.2.1 _ h4 (hG.go0 F))) fun a w W F => ?_
   refine ls W F Aa (H3 (v := Value.agg #[]) aT W Aa Aa Aa).q fun a w W F => ?_
   refine l_setput' (q := 0) (x2 : Sq) W F Aa Aa Aa Aa Aa f9 LW We fun w F => ?_
   have F : sy Y w0 (I6 b2 p2 b1 p0 v1 v2) [Cj v6 CR A7 (He A7 ([] : List Sq) x2)] w := F
   refine KC tk 4 W F fun a w W F => ?_
   refine Dx (FR (Ej ?_))
   have H := L1 _ H
   have H := FU H
   subst H
   refine EL (.inl Aa) W F Aa (DR W Aa) ?_
   have F := F.sub (M' := []) (Z' := [Cj v6 CR A7 (He A7 ([] : List Sq) x2)]) nl sr
   exact ⟨(v6),Aa,F⟩
  have H := TD (ZX hb) H
  rw [hb] at W
  clear hb
  refine vc tk 6 W F fun a w W F => ?_
  refine N0 W Aa (fun hb => ?_) fun hb => ?_
  ·
   have H := Tq (ZU hb) H
   rw [hb] at W
   clear hb
   refine TR tk 6 [1,0] W F (ai (ai fun a w W F => ?_))
   obtain ⟨x3,h5,H⟩ := Cc H
   refine GA (Ml := []) (Zl := []) (β := Value) (rv := fun x => x) (MM := fun x => []) (ZZ := fun x => [Cj x CR A7 x3]) W F H95 Aa Aa (fun hL => (Mb fRec ih) _ w (v2) p0.un.2.2.2.2 p1 p2 _ h5 (Sl.hide Ry h2 (F.old s_v2)) (hG.go0 F)) fun x a w W F => ?_
   obtain ⟨v7,rfl⟩ : ∃ y,y = x := ⟨x,rfl⟩
   have F : sy Y w0 (I6 b2 p2 b1 p0 v1 v2) [Cj v7 CR A7 x3] w := F
   refine KC tk 3 W F fun a w W F => ?_
   refine Dx (FR (Ej ?_))
   have H := L1 _ H
   have H := FU H
   subst H
   refine EL (.inl Aa) W F Aa (DR W Aa) ?_
   have F := F.sub (M' := []) (Z' := [Cj v7 CR A7 x3]) nl sr
   exact ⟨(v7),Aa,F⟩
  have H := TD (ZX hb) H
  rw [hb] at W
  clear hb
  refine vc tk 6 W F fun a w W F => ?_
  refine N0 W Aa (fun hb => ?_) fun hb => ?_
  ·
   have H := Tq (ZU hb) H
   rw [hb] at W
   clear hb
   refine vc tk 2 W F fun a w W F => ?_
   refine Iv CR A7 W F Aa fun v8 a w W F => ?_
   have F : sy Y w0 (I6 b2 p2 b1 p0 v1 v2) [Cj v8 CR A7 ([] : List Sq)] w := F
   refine vl tk 2 W F fun a w W F => ?_
   refine Ax ?_
   obtain ⟨o2,G2,K2⟩ := Cc H
   refine Fw (fun a w => ∃ x4 : List Sq,some (x4) = some o2 ∧ Fr 72 [] [(6,.map none),(7,v8)] a ∧ sy Y w0 (I6 b2 p2 b1 p0 v1 v2) [Cj v8 CR A7 x4] w) ?_ ?_
   ·
    have H := G2
    clear G2 K2
    refine TR tk 4 [1] W F (ai fun a w W F => ?_)
    refine ls W F Aa (IW (r := KG) (l := p0.un.2.2.2.2) lB Aa W Aa (HD Ry h2 (Cx h_v2))).q fun a w W F => ?_
    refine KC tk 4 W F fun a w W F => ?_
    have F := F.frontM (i := 1) Aa Aa
    have F := F.frontM (i := 1) Aa Aa
    refine Ip H (fun s a w => Fr 72 [] [(1,Jint p1),(5,pp b2),(6,.map none),(7,v8),(48,v2),(49,Jint (p0.un.2.2.2.2.length : Int)),(50,Jint s.2)] a ∧ sy Y w0 (I6 b2 p2 b1 p0 v1 v2) [Cj v8 CR A7 s.1] w) ⟨W.ra Aa,F⟩ fun s o a w H L3 hR => ?_
    obtain ⟨x5,x6⟩ := s
    obtain ⟨W,F⟩ := hR
    have W : Fr 72 [] [(1,Jint p1),(5,pp b2),(6,.map none),(7,v8),(48,v2),(49,Jint (p0.un.2.2.2.2.length : Int)),(50,Jint x6)] a := W
    have F : sy Y w0 (I6 b2 p2 b1 p0 v1 v2) [Cj v8 CR A7 x5] w := F
    rw [Cr] at H
    refine vc tk 6 W F fun a w W F => ?_
    refine J2 W Aa H (fun W H => ?_) fun W H => ?_
    ·
     refine cQ tk 6 W F fun a w W F => ?_
     obtain ⟨x7,h6,H⟩ := Cc H
     obtain ⟨v9,h7,h8⟩ := Sj h2 h6
     have h9 : ZE v9 = [Jint x7.un.1,Jint x7.un.2.1.un.1,Jint x7.un.2.1.un.2.1,Jint x7.un.2.1.un.2.2.1,(v9.2.1.2.2.2.1),Jint x7.un.2.2.1,Jint x7.un.2.2.2.1,(v9.2.2.2.2.1)] := congrArg (fun q : Tr39 => ([Jint q.un.1,Jint q.un.2.1.un.1,Jint q.un.2.1.un.2.1,Jint q.un.2.1.un.2.2.1,(v9.2.1.2.2.2.1),Jint q.un.2.2.1,Jint q.un.2.2.2.1,(v9.2.2.2.2.1)] : List Value)) h8
     refine ls W F Aa (F9 (r := aE) sN W Aa Aa (Cx h_v2) h7).q fun a w W F => ?_
     refine ls W F Aa (Eg (y := Value.agg #[Jint x7.un.1,Jint x7.un.2.1.un.1,Jint x7.un.2.1.un.2.1,Jint x7.un.2.1.un.2.2.1,(v9.2.1.2.2.2.1),Jint x7.un.2.2.1,Jint x7.un.2.2.2.1,(v9.2.2.2.2.1)]) (j := 0) (i := x6) (enc := ZE) W Aa Aa (Cx h_v2) h7 pS fU (by rw [h9]; rfl)).q fun a w W F => ?_
     refine Ha (cs := (UI)) W F Aa nJ Aa fun b3 a w W F => ?_
     refine Q9 0 W F Aa Aa Aa fU Aa Aa (Bb Aa (Bb Aa (Bb Aa (Bb Aa (Bb ((KP (Cx h_v2) h7 (CG.snd (CG.fst (CG.snd (CG.snd (CG.snd CG.here))))) (congrArg (fun q : Tr39 => q.un.2.1.un.2.2.2) h8)) _ F).one (Bb Aa (Bb Aa (Bb ((KP (Cx h_v2) h7 (CG.snd (CG.snd (CG.snd (CG.snd CG.here)))) (congrArg (fun q : Tr39 => q.un.2.2.2.2) h8)) _ F).one NJ)))))))) fun w F => ?_
     refine XG tk 7 [0,1] W F (ai (ai fun a w W F => ?_))
     obtain ⟨x8,h10,H⟩ := Cc H
     refine GA (Ml := []) (Zl := []) (β := Value) (rv := fun x => x) (MM := fun x => []) (ZZ := fun x => [Cj x CR A7 x8]) W F sQ Aa Aa (fun hL => ih _ w ((v9.2.1.2.2.2.1)) ((v9.2.2.2.2.1)) (Tr39.of (x7.un.1,f36 x7.un.2.1,x7.un.2.2.1,x7.un.2.2.2.1,x7.un.2.2.2.2)) p1 p2 _ h10 (Sl.at_ (F.old s_v2) h7 (CG.snd (CG.fst (CG.snd (CG.snd (CG.snd CG.here))))) (congrArg (fun q : Tr39 => q.un.2.1.un.2.2.2) h8)) (Sl.at_ (F.old s_v2) h7 (CG.snd (CG.snd (CG.snd (CG.snd CG.here)))) (congrArg (fun q : Tr39 => q.un.2.2.2.2) h8)) (hG.go0 F)) fun x a w W F => ?_
     obtain ⟨v10,rfl⟩ : ∃ y,y = x := ⟨x,rfl⟩
     have F : sy Y w0 [(b3,[Jint x7.un.1,Jint x7.un.2.1.un.1,Jint x7.un.2.1.un.2.1,Jint x7.un.2.1.un.2.2.1,(v9.2.1.2.2.2.1),Jint x7.un.2.2.1,Jint x7.un.2.2.2.1,(v9.2.2.2.2.1)]),(b2,(Hr p2)),(b1,(Pz p0 v1 v2))] [Cj v10 CR A7 x8,Cj v8 CR A7 x5] w := F
     have F := F.frontZ (i := 1) Aa Aa
     refine GA (Ml := []) (Zl := [Cj v8 CR A7 x5,Cj v10 CR A7 x8]) (β := Unit) (rv := fun _ => .tuple #[]) (MM := fun _ => []) (ZZ := fun _ => [Cj v10 CR A7 x8,Cj v8 CR A7 (MS A7 x5 x8)]) W F zQ Aa Aa (fun hL => YG _ _ w _ _ _ _ hL) fun _ a w W F => ?_
     have F : sy Y w0 [(b3,[Jint x7.un.1,Jint x7.un.2.1.un.1,Jint x7.un.2.1.un.2.1,Jint x7.un.2.1.un.2.2.1,(v9.2.1.2.2.2.1),Jint x7.un.2.2.1,Jint x7.un.2.2.2.1,(v9.2.2.2.2.1)]),(b2,(Hr p2)),(b1,(Pz p0 v1 v2))] [Cj v10 CR A7 x8,Cj v8 CR A7 (MS A7 x5 x8)] w := F
     refine IF (EY ?_)
     refine vn tk 4 W F fun a w W F => ?_
     refine Ax ?_
     have F := F.frontZ (i := 1) Aa Aa
     have F := F.frontM (i := 2) Aa Aa
     have F := F.frontM (i := 2) Aa Aa
     have F := F.sub (M' := (I6 b2 p2 b1 p0 v1 v2)) (Z' := [Cj v8 CR A7 (MS A7 x5 x8)]) (sc (sc nl)) (sc nl)
     exact ⟨_,H,W.ra Aa,F⟩
    refine G9 ?_
    iterate 2 refine Jp ?_
    refine GH (Ax ?_)
    have F := F.frontM (i := 1) Aa Aa
    have F := F.frontM (i := 1) Aa Aa
    have H := L3 _ H
    exact ⟨_,H,W.ra Aa,F⟩
   rintro a w ⟨x4,hj,W,F⟩
   have hj := FU hj
   subst hj
   have H := K2
   clear G2 K2
   refine vc tk 6 W F fun a w W F => ?_
   refine Dx (FR (Ej ?_))
   have H := L1 _ H
   have H := FU H
   subst H
   refine EL (.inl Aa) W F Aa (DR W Aa) ?_
   have F := F.sub (M' := []) (Z' := [Cj v8 CR A7 x4]) nl sr
   exact ⟨(v8),Aa,F⟩
  have H := TD (ZX hb) H
  rw [hb] at W
  clear hb
  refine vc tk 6 W F fun a w W F => ?_
  refine N0 W Aa (fun hb => ?_) fun hb => ?_
  ·
   have H := Tq (ZU hb) H
   rw [hb] at W
   clear hb
   refine OA ?_
   refine Vh [(true,0),(true,1),(true,2),(true,4),(true,5),(false,3),(false,6),(false,7)] (CN ⟨Y,[],w0⟩ [(some 3,b1,[Jint p0.un.1,Jint p0.un.2.1.un.1,Jint p0.un.2.1.un.2.1,Jint p0.un.2.1.un.2.2.1,v1,Jint p0.un.2.2.1,Jint p0.un.2.2.2.1,v2]),(some 3,b2,[Jint p2.1,Jint p2.2.1,Jint p2.2.2.1,Jint p2.2.2.2.1,Jint p2.2.2.2.2]),(some 6,b2,[Jint p2.1,Jint p2.2.1,Jint p2.2.2.1,Jint p2.2.2.2.1,Jint p2.2.2.2.2])] []) (fun ch a d v w h => by cases d <;> exact h) MO (by kernel_rfl) F (fun w F => ⟨_,_,F,(all_cons (fun _ => (.tail _ (.head _))) (all_cons (fun _ => (.head _)) (all_cons (fun _ => (.head _)) Cp))),Cp⟩) fun w F => ?_
   refine NY (R := [3]) W Aa Aa (yC fun M Z hN hZ => G0 (cs := (Pz p0 v1 v2)) (v := Value.agg #[Jint p0.un.1,Jint p0.un.2.1.un.1,Jint p0.un.2.1.un.2.1,Jint p0.un.2.1.un.2.2.1,v1,Jint p0.un.2.2.1,Jint p0.un.2.2.2.1,v2]) W Aa (hN ((some 3),b1,(Pz p0 v1 v2)) (.head _) Aa) fU Aa) (by kernel_rfl) Aa fun a W => ?_
   refine NY (R := []) W Aa Aa (yC fun M Z hN hZ => EN W Aa) Aa Aa fun a W => ?_
   refine NY (R := [3]) W Aa Aa (yC fun M Z hN hZ => G0 (cs := (Hr p2)) (v := Value.agg #[Jint p2.1,Jint p2.2.1,Jint p2.2.2.1,Jint p2.2.2.2.1,Jint p2.2.2.2.2]) W Aa (hN ((some 3),b2,(Hr p2)) (.tail _ (.head _)) Aa) gH Aa) (by kernel_rfl) Aa fun a W => ?_
   refine NY (R := []) W Aa Aa (yC fun M Z hN hZ => EN W Aa) Aa Aa fun a W => ?_
   refine NY (R := [6]) W Aa Aa (yC fun M Z hN hZ => G0 (cs := (Hr p2)) (v := Value.agg #[Jint p2.1,Jint p2.2.1,Jint p2.2.2.1,Jint p2.2.2.2.1,Jint p2.2.2.2.2]) W Aa (hN ((some 6),b2,(Hr p2)) (.tail _ (.tail _ (.head _))) Aa) gH Aa) (by kernel_rfl) Aa fun a W => ?_
   refine V3 Aa ?_
   obtain ⟨x9,h11,H⟩ := Cc H
   refine GA (Ml := []) (Zl := []) (β := Value × Value) (rv := fun x => .agg #[Jint x9.un.1,Jint x9.un.2.1.un.1,Jint x9.un.2.1.un.2.1,Jint x9.un.2.1.un.2.2.1,x.1,Jint x9.un.2.2.1,Jint x9.un.2.2.2.1,x.2]) (MM := fun x => []) (ZZ := fun x => [frz x.1 KE x9.un.2.1.un.2.2.2,frz x.2 KG x9.un.2.2.2.2]) W F H97 Aa Aa (fun hL => OV _ w (v1) (v2) (Tr39.of (p0.un.1,f36 p0.un.2.1,p0.un.2.2.1,p0.un.2.2.2.1,p0.un.2.2.2.2)) p1 p2 _ h11 (Sl.hide V0 h1 (F.old s_v1)) (Sl.hide Ry h2 (F.old s_v2)) (hG.go0 F)) fun x a w W F => ?_
   obtain ⟨v11,v12⟩ := x
   have F : sy Y w0 (I6 b2 p2 b1 p0 v1 v2) [frz v11 KE x9.un.2.1.un.2.2.2,frz v12 KG x9.un.2.2.2.2] w := F
   refine J8 (N2 := []) (NZ2 := []) (N3 := [(some 3,b1,[Jint p0.un.1,Jint p0.un.2.1.un.1,Jint p0.un.2.1.un.2.1,Jint p0.un.2.1.un.2.2.1,v1,Jint p0.un.2.2.1,Jint p0.un.2.2.2.1,v2]),(some 3,b2,[Jint p2.1,Jint p2.2.1,Jint p2.2.2.1,Jint p2.2.2.2.1,Jint p2.2.2.2.2]),(some 6,b2,[Jint p2.1,Jint p2.2.1,Jint p2.2.2.1,Jint p2.2.2.2.1,Jint p2.2.2.2.2])]) (NZ3 := []) F Aa Aa (all_cons (fun h => Dl (by kernel_rfl) h) (all_cons (fun h => Dl (by kernel_rfl) h) (all_cons (fun _ => (.head _)) Cp))) Cp ?_
   refine V3 Aa ?_
   obtain ⟨x10,h12,H⟩ := Cc H
   refine GA (Ml := []) (Zl := []) (β := Value) (rv := fun x => x) (MM := fun x => []) (ZZ := fun x => [Cj x CR A7 x10]) W F sQ Aa Aa (fun hL => ih _ w (v11) (v12) (Tr39.of (x9.un.1,f36 x9.un.2.1,x9.un.2.2.1,x9.un.2.2.2.1,x9.un.2.2.2.2)) p1 p2 _ h12 (F.item (i := 0) Aa) (F.item (i := 1) Aa) (hG.go0 F)) fun x a w W F => ?_
   obtain ⟨v13,rfl⟩ : ∃ y,y = x := ⟨x,rfl⟩
   have F : sy Y w0 (I6 b2 p2 b1 p0 v1 v2) [Cj v13 CR A7 x10,frz v11 KE x9.un.2.1.un.2.2.2,frz v12 KG x9.un.2.2.2.2] w := F
   refine J8 (N2 := []) (NZ2 := []) (N3 := [(some 3,b1,[Jint p0.un.1,Jint p0.un.2.1.un.1,Jint p0.un.2.1.un.2.1,Jint p0.un.2.1.un.2.2.1,v1,Jint p0.un.2.2.1,Jint p0.un.2.2.2.1,v2]),(some 3,b2,[Jint p2.1,Jint p2.2.1,Jint p2.2.2.1,Jint p2.2.2.2.1,Jint p2.2.2.2.2]),(some 6,b2,[Jint p2.1,Jint p2.2.1,Jint p2.2.2.1,Jint p2.2.2.2.1,Jint p2.2.2.2.2])]) (NZ3 := []) F Aa Aa (all_cons (fun h => Dl (by kernel_rfl) h) (all_cons (fun h => Dl (by kernel_rfl) h) (all_cons (fun h => Dl (by kernel_rfl) h) Cp))) Cp ?_
   refine V3 Aa ?_
   refine ls W F Aa (P3 W Aa).q fun a w W F => ?_
   refine J8 (N2 := []) (NZ2 := []) (N3 := [(some 3,b1,[Jint p0.un.1,Jint p0.un.2.1.un.1,Jint p0.un.2.1.un.2.1,Jint p0.un.2.1.un.2.2.1,v1,Jint p0.un.2.2.1,Jint p0.un.2.2.2.1,v2]),(some 3,b2,[Jint p2.1,Jint p2.2.1,Jint p2.2.2.1,Jint p2.2.2.2.1,Jint p2.2.2.2.2]),(some 6,b2,[Jint p2.1,Jint p2.2.1,Jint p2.2.2.1,Jint p2.2.2.2.1,Jint p2.2.2.2.2])]) (NZ3 := []) F Aa Aa (all_cons (fun h => Dl (by kernel_rfl) h) (all_cons (fun h => Dl (by kernel_rfl) h) (all_cons (fun h => Dl (by kernel_rfl) h) Cp))) Cp ?_
   refine cN (Ax (Dx (FR (Ej ?_))))
   have H := L1 _ H
   have H := FU H
   subst H
   refine EL (.inl Aa) W F Aa (DR W Aa) ?_
   have F := F.sub (M' := []) (Z' := [Cj v13 CR A7 x10]) nl (sc nl)
   exact ⟨(v13),Aa,F⟩
  have H := TD (ZX hb) H
  rw [hb] at W
  clear hb
  refine FP (EY (Ax ?_))
  have F := F.frontM (i := 1) Aa Aa
  have F := F.frontM (i := 1) Aa Aa
  exact ⟨H,W.ra Aa,F⟩
 rintro a w ⟨hj,W,F⟩
 have H := K1 _ hj
 clear hj G1 K1 L1
 refine vc tk 2 W F fun a w W F => ?_
 refine Iv CR A7 W F Aa fun v14 a w W F => ?_
 have F : sy Y w0 (I6 b2 p2 b1 p0 v1 v2) [Cj v14 CR A7 ([] : List Sq)] w := F
 refine KC tk 3 W F fun a w W F => ?_
 refine Dx ?_
 have H := FU H
 subst H
 refine EL (.inl Aa) W F Aa (DR W Aa) ?_
 have F := F.sub (M' := []) (Z' := [Cj v14 CR A7 ([] : List Sq)]) nl sr
 exact ⟨(v14),Aa,F⟩
theorem NR : ∀ (n : Nat) (Y : Nat → Prop) (w0 : World) (v1 : Value) (v2 : Value) (p0 : Tr39) (p1 : Int) (p2 : Sq) (r : (List Sq)) (H : Ai n p0 p1 p2 = some r) (s_v1 : Sl w0 Y KE v1 p0.un.2.1.un.2.2.2) (s_v2 : Sl w0 Y KG v2 p0.un.2.2.2.2) (hG : Gk [] w0),ca_ 58 #[.agg #[Jint p0.un.1,Jint p0.un.2.1.un.1,Jint p0.un.2.1.un.2.1,Jint p0.un.2.1.un.2.2.1,v1,Jint p0.un.2.2.1,Jint p0.un.2.2.2.1,v2],Jint p1,.agg #[Jint p2.1,Jint p2.2.1,Jint p2.2.2.1,Jint p2.2.2.2.1,Jint p2.2.2.2.2]] w0 fun e w' => ∃ x : Value,e = .returned (x) ∧ sy Y w0 [] [Cj (x) CR A7 r] w' := by
  intro n
  induction n with
  | zero => intro Y w0 v1 v2 p0 p1 p2 r H; exact nomatch H
  | succ n ih => intro Y w0 v1 v2 p0 p1 p2 r H s_v1 s_v2 hG; exact MG (Ai n) ih Y w0 v1 v2 p0 p1 p2 r H s_v1 s_v2 hG
theorem Of (Y : Nat → Prop) (w0 : World) (v1 : Value) (v2 : Value) (p0 : Tr39) (p1 : Int) (p2 : Sq) (r : (List Sq)) (H : Gw p0 p1 p2 = some r) (s_v1 : Sl w0 Y KE v1 p0.un.2.1.un.2.2.2) (s_v2 : Sl w0 Y KG v2 p0.un.2.2.2.2) (hG : Gk [] w0) :
    ca_ 58 #[.agg #[Jint p0.un.1,Jint p0.un.2.1.un.1,Jint p0.un.2.1.un.2.1,Jint p0.un.2.1.un.2.2.1,v1,Jint p0.un.2.2.1,Jint p0.un.2.2.2.1,v2],Jint p1,.agg #[Jint p2.1,Jint p2.2.1,Jint p2.2.2.1,Jint p2.2.2.2.1,Jint p2.2.2.2.2]] w0 fun e w' => ∃ x : Value,e = .returned (x) ∧ sy Y w0 [] [Cj (x) CR A7 r] w' := by
  obtain ⟨n,H⟩ := LS H
  exact NR n Y w0 v1 v2 p0 p1 p2 r H s_v1 s_v2 hG
theorem gD : type_of% Tryz.underlying67 := Tryz.underlying67
def E54 (a : Int × Int × Int × Int) : List Value := [Jint a.1,Jint a.2.1,Jint a.2.2.1,Jint a.2.2.2]
theorem zL : Fl tB E54 := (Fl.pair Fl.int (Fl.pair Fl.int (Fl.pair Fl.int Fl.int)))
def E97 (a : Sq) : List Value := [Jint a.1,Jint a.2.1,Jint a.2.2.1,Jint a.2.2.2.1,Jint a.2.2.2.2]
theorem u0 : Fl OE E97 := (Fl.pair Fl.int zL)
theorem sP : Et Tryz.prog 67 97 5 40 := Et.of gD (by kernel_rfl) (by kernel_rfl) (by kernel_rfl) (by decide)
def Ay (p0 : Int) (p1 : Int) : Int := (if (Ea p0) = true then (if (Ea p1) = true then 0 else (-1)) else (if (Ea p1) = true then 1 else (if p0 < p1 then (-1) else (if p1 < p0 then 1 else 0))))
noncomputable def b62 : Code := (Tryz.f62.body).getD .skip
def t7 : Ct := .d
abbrev K62 : Cn_ := ⟨pJ,r7,[],false,fun x => some (Ay x.1 x.2),some ⟨fun x => Ay x.1 x.2,fun _ => rfl⟩⟩
theorem v62 (x : Int × Int) : @Eq (Option Int) (dF te fN ([(99,sU)] : Gy te Tryz.prog) 20 b62 t7 pJ r7 [] false [.tmp 4] x).den (some (Ay x.1 x.2)) := by simp only [Ay,apply_ite (some : Int → _)]; kernel_rfl
theorem zS : KO (K62) 62 := dK Dz (Az zM Bc) Tryz.func62 (by kernel_rfl) Tryz.ntmps62 rfl rfl rfl (by kernel_rfl) v62
theorem Ni (Y : Nat → Prop) (w0 : World)  (p0 : Int) (p1 : Int) (r : Int) (H : Ay p0 p1 = r) (hG : Gk [] w0) :
    ca_ 62 #[Jint p0,Jint p1] w0 fun e w' => e = .returned (Jint r) ∧ Below w0.heap.size w0 w' := zS.outP (Y := Y) (x := (p0,p1)) (congrArg some H) rfl rfl rfl rfl rfl () trivial rfl hG fun _ => rfl
theorem H62 : Has Tryz.prog 62 := JR Tryz.func62
def DV (p0 : List Int) (p1 : List Int) : Int → Option (Int ⊕ (Unit ⊕ Int))
  | x1 => (if x1 < (p0.length : Int) then (ix p0 x1).bind fun x2 => (if (p1.length : Int) ≤ x1 then some (.inr (.inr 1)) else (ix p1 x1).bind fun x3 => (if (Ay x2 x3) ≠ 0 then some (.inr (.inr (Ay x2 x3))) else some (.inl (Ae (x1 + 1))))) else some (.inr (.inl ())))
def DC (p0 : List Int) (p1 : List Int) : Option Int := Hc (Ac (DV p0 p1) 0) fun _ => (if (p0.length : Int) < (p1.length : Int) then some (-1) else some 0)
abbrev K63 : Cn_ := ⟨[QI,QI],[IP],[],false,fun x => DC x.1 x.2,none⟩
theorem k63 : KO (K63) 63 := DY (ct := (.q (.j (.st true ⟨[],[],[]⟩) (.q (.b (.l ⟨[(11,false,AG)],[],[]⟩ .d))) .d))) Dz (Az zS Bc) Tryz.func63 (by kernel_rfl) fun x => by kernel_rfl
theorem Jx (Y : Nat → Prop) (w0 : World) (v1 : Value) (v2 : Value) (p0 : List Int) (p1 : List Int) (r : Int) (H : DC p0 p1 = some r) (h_v1 : Sl w0 (NX []) ri v1 p0) (h_v2 : Sl w0 (NX []) ri v2 p1) (hG : Gk [] w0) :
    ca_ 63 #[v1,v2] w0 fun e w' => e = .returned (Jint r) ∧ Below w0.heap.size w0 w' := k63.outP (Y := Y) (x := (p0,p1)) H rfl rfl rfl rfl rfl (v1,(v2,())) ⟨h_v1,⟨h_v2,trivial⟩⟩ rfl hG fun _ => rfl
theorem H63 : Has Tryz.prog 63 := JR Tryz.func63
def F4 (p0 : List Int) : Int → Option (Int ⊕ (Unit ⊕ Int))
  | x1 => (if x1 < (p0.length : Int) then (ix p0 x1).bind fun x2 => (if x2 ≠ 0 then some (.inr (.inr x2)) else some (.inl (Ae (x1 + 1)))) else some (.inr (.inl ())))
def IY (p0 : List Int) : Option Int := Hc (Ac (F4 p0) 0) fun _ => some 0
abbrev K61 : Cn_ := ⟨[QI],[IP],[],false,fun x => IY x,none⟩
theorem k61 : KO (K61) 61 := DY (ct := (.q (.q (.j (.st true ⟨[],[],[]⟩) (.q (.b (.l ⟨[(8,false,AG)],[],[]⟩ .d))) .d)))) Dz Bc Tryz.func61 (by kernel_rfl) fun x => by kernel_rfl
theorem S6 (Y : Nat → Prop) (w0 : World) (v1 : Value) (p0 : List Int) (r : Int) (H : IY p0 = some r) (h_v1 : Sl w0 (NX []) ri v1 p0) (hG : Gk [] w0) :
    ca_ 61 #[v1] w0 fun e w' => e = .returned (Jint r) ∧ Below w0.heap.size w0 w' := k61.outP (Y := Y) (x := p0) H rfl rfl rfl rfl rfl (v1,()) ⟨h_v1,trivial⟩ rfl hG fun _ => rfl
theorem H61 : Has Tryz.prog 61 := JR Tryz.func61
def BD (p0 : Sq) (p1 : Sq) : Option Int := (DC ([p0.2.1,p0.2.2.1,p0.2.2.2.1,p0.2.2.2.2]) ([p1.2.1,p1.2.2.1,p1.2.2.2.1,p1.2.2.2.2])).bind fun x1 => (IY ([(Ay p0.1 p1.1),x1] : List Int)).bind fun x2 => some x2
theorem PW (Y : Nat → Prop) (w0 : World)  (p0 : Sq) (p1 : Sq) (r : Int) (H : BD p0 p1 = some r) (hG : Gk [] w0) :
    ca_ 60 #[.agg #[Jint p0.1,Jint p0.2.1,Jint p0.2.2.1,Jint p0.2.2.2.1,Jint p0.2.2.2.2],.agg #[Jint p1.1,Jint p1.2.1,Jint p1.2.2.1,Jint p1.2.2.2.1,Jint p1.2.2.2.2]] w0 fun e w' => e = .returned (Jint r) ∧ Below w0.heap.size w0 w' := by
 refine enter Tryz.func60 Aa Tryz.ntmps60 Aa fun a W => ?_
 have F := Stw.start Y w0
 unfold BD at H
 refine vc tk 2 W F fun a w W F => ?_
 refine JK (cs := (Hr p0)) W F Aa Aa Aa fun b1 a w W F => ?_
 refine JK (cs := (Hr p1)) W F Aa Aa Aa fun b2 a w W F => ?_
 refine KC tk 4 W F fun a w W F => ?_
 refine aB 10 F MO (by kernel_rfl) ?_
 refine qs W Aa (B1 Uu Aa Aa Aa T3 W Aa 0 Aa).q fun a W => ?_
 refine qs W Aa (HQ (v := Jint p0.1) 1 W Aa Aa T3 Aa).q fun a W => ?_
 refine qs W Aa (B1 Uu Aa Aa Aa T3 W Aa 0 Aa).q fun a W => ?_
 refine qs W Aa (HQ (v := Jint p1.1) 0 W Aa Aa T3 Aa).q fun a W => ?_
 refine qs W Aa (HS (v := Jint (Ay p0.1 p1.1)) W H62 Aa (fun w F => Ni any w p0.1 p1.1 _ Aa (hG.go0 F))) fun a W => ?_
 refine qs W Aa (B1 Uu Aa Aa Aa oK W Aa 1 Aa).q fun a W => ?_
 refine qs W Aa (Uf YB W Aa).q fun a W => ?_
 refine qs W Aa (B1 Uu Aa Aa Aa oK W Aa 1 Aa).q fun a W => ?_
 refine qs W Aa (Uf YB W Aa).q fun a W => ?_
 obtain ⟨x1,h1,H⟩ := Cc H
 refine qs W Aa (HS (v := Jint x1) W H63 Aa (fun w F => Jx any w ((Value.slice (some ⟨b1,1,none⟩) 4 4)) ((Value.slice (some ⟨b2,1,none⟩) 4 4)) ([p0.2.1,p0.2.2.1,p0.2.2.2.1,p0.2.2.2.2]) ([p1.2.1,p1.2.2.1,p1.2.2.2.1,p1.2.2.2.2]) _ h1 (d7 (jJ 1 Fl.int Aa Aa Aa) F) (d7 (jJ 0 Fl.int Aa Aa Aa) F) (hG.go0 F))) fun a W => ?_
 refine GB fun w F => ?_
 refine Ww (z := Jint 0) (cs := [Jint (Ay p0.1 p1.1),Jint x1]) ri ([(Ay p0.1 p1.1),x1] : List Int) W F Aa ZG Z3 Aa Aa Aa Aa Aa Aa (Fl.int.repL _ _ ([(Ay p0.1 p1.1),x1] : List Int)) fun v1 a w W F => ?_
 obtain ⟨x2,h2,H⟩ := Cc H
 refine ls W F Aa (HS (v := Jint x2) W H61 Aa (fun w F => S6 any w (v1) ([(Ay p0.1 p1.1),x1] : List Int) _ h2 (d7 (DT 0 Aa) F) (hG.go0 F))) fun a w W F => ?_
 refine KC tk 3 W F fun a w W F => ?_
 refine Dx ?_
 have H := FU H
 subst H
 refine EL (.inl Aa) W F Aa (DR W Aa) ?_
 exact ⟨rfl,F.done⟩
abbrev K60 : Cn_ := ⟨tV,xK,[],false,fun x => BD x.1 x.2,none⟩
theorem jT : KO K60 60 := KO.of ⟨fun args w => Br Tryz.func60 rfl (by decide) args w⟩ rfl (fun _ => rfl) (fun _ => rfl) rfl (fun _ => rfl) (fun _ => rfl) (fun _ => rfl) (fun _ => rfl) fun Y w0 x r g H hg hk => (PW Y w0  x.1 x.2 r H hk).mono fun e w' h => ⟨(),h.1,Stw.ofB h.2⟩
def AY (p1 : Int) : ((List Sq) × Int) → Option (((List Sq) × Int) ⊕ (List Sq))
  | (x4,x5) => (if p1 < x5 then (ix x4 x5).bind fun x7 => (ix x4 (Ae (x5 - 1))).bind fun x8 => (BD x7 x8).bind fun x9 => some (decide (x9 < 0)) else some false).bind fun x6 => (if x6 = true then (ix x4 (Ae (x5 - 1))).bind fun x10 => (ix x4 x5).bind fun x11 => (ix x4 x5).bind fun x12 => (ix (Ak x4 x5 x10) (Ae (x5 - 1))).bind fun x13 => some (.inl ((Ak (Ak x4 x5 x10) (Ae (x5 - 1)) x11),Ae (x5 - 1))) else some (.inr x4))
def Bv (p1 : Int) (p2 : Int) : ((List Sq) × Int) → Option (((List Sq) × Int) ⊕ (List Sq))
  | (x1,x2) => (if x2 < p2 then (Ac (AY p1) (x1,x2)).bind fun x3 => some (.inl (x3,Ae (x2 + 1))) else some (.inr x1))
def BG (p0 : List Sq) (p1 : Int) (p2 : Int) : Option (List Sq) := Ac (Bv p1 p2) (p0,Ae (p1 + 1))
abbrev vY : Cn_ := ⟨[PY,D6,D6,Xv],[],[],true,fun x => BG x.1 x.2.1 x.2.2.1,none⟩
theorem w8 : KO (vY) 125 := DY (ct := (.q (.b (.l ⟨[(0,false,IU),(8,false,AG)],[],[0]⟩ (.q (.j (.st false ⟨[(0,false,IU)],[],[0]⟩) (.b (.q (.b (.l ⟨[(0,false,IU),(9,false,AG)],[],[0]⟩ (.s (.j (.st false ⟨[(34,false,EK)],[],[]⟩) .d .d) .d))))) .d)))))) Dz (Az jT Bc) Tryz.func125 (by kernel_rfl) fun x => by kernel_rfl
def AD (p2 : Int) (p3 : Int) : ((List Sq) × Int) → Option (((List Sq) × Int) ⊕ (List Sq))
  | (x1,x2) => (if p2 ≤ (Ae ((Ae (2 * x2)) + 1)) then some (.inr x1) else ((if (Ae ((Ae ((Ae (2 * x2)) + 1)) + 1)) < p2 then (ix x1 (Ae (p3 + (Ae ((Ae (2 * x2)) + 1))))).bind fun x5 => (ix x1 (Ae ((Ae (p3 + (Ae ((Ae (2 * x2)) + 1)))) + 1))).bind fun x6 => (BD x5 x6).bind fun x7 => some (decide (x7 < 0)) else some false).bind fun x4 => (if x4 = true then some (Ae ((Ae ((Ae (2 * x2)) + 1)) + 1)) else some (Ae ((Ae (2 * x2)) + 1)))).bind fun x3 => (ix x1 (Ae (p3 + x2))).bind fun x8 => (ix x1 (Ae (p3 + x3))).bind fun x9 => (BD x8 x9).bind fun x10 => (if (!(decide (x10 < 0))) = true then some (.inr x1) else (ix x1 (Ae (p3 + x3))).bind fun x11 => (ix x1 (Ae (p3 + x2))).bind fun x12 => (ix x1 (Ae (p3 + x2))).bind fun x13 => (ix (Ak x1 (Ae (p3 + x2)) x11) (Ae (p3 + x3))).bind fun x14 => some (.inl ((Ak (Ak x1 (Ae (p3 + x2)) x11) (Ae (p3 + x3)) x12),x3))))
def Cg (p0 : List Sq) (p1 : Int) (p2 : Int) (p3 : Int) : Option (List Sq) := Ac (AD p2 p3) (p0,p1)
abbrev yL : Cn_ := ⟨[PY,D6,D6,D6,Xv],[],[],true,fun x => Cg x.1 x.2.1 x.2.2.1 x.2.2.2.1,none⟩
theorem yB : KO (yL) 145 := DY (ct := (.q (.b (.l ⟨[(0,false,IU),(10,false,AG)],[],[0]⟩ (.b (.q (.q (.j (.st false ⟨[(11,false,AG)],[],[]⟩) (.j (.st false ⟨[(40,false,EK)],[],[]⟩) .d .d) .d)))))))) Dz (Az jT Bc) Tryz.func145 (by kernel_rfl) fun x => by kernel_rfl
def BQ (p1 : Int) (p2 : Int) : ((List Sq) × Int) → Option (((List Sq) × Int) ⊕ (List Sq))
  | (x2,x3) => (if 0 ≤ x3 then (Cg x2 x3 (Ae (p2 - p1)) p1).bind fun x4 => some (.inl (x4,Ae (x3 - 1))) else some (.inr x2))
def BT (p1 : Int) : ((List Sq) × Int) → Option (((List Sq) × Int) ⊕ (List Sq))
  | (x5,x6) => (if 0 ≤ x6 then (ix x5 (Ae (p1 + x6))).bind fun x7 => (ix x5 p1).bind fun x8 => (ix x5 p1).bind fun x9 => (ix (Ak x5 p1 x7) (Ae (p1 + x6))).bind fun x10 => (Cg (Ak (Ak x5 p1 x7) (Ae (p1 + x6)) x8) 0 x6 p1).bind fun x11 => some (.inl (x11,Ae (x6 - 1))) else some (.inr x5))
def Ci (p0 : List Sq) (p1 : Int) (p2 : Int) : Option (List Sq) := (Ac (BQ p1 p2) (p0,Ae (Int.tdiv (Ae ((Ae (p2 - p1)) - 1)) 2))).bind fun x1 => Ac (BT p1) (x1,Ae ((Ae (p2 - p1)) - 1))
abbrev uQ : Cn_ := ⟨[PY,D6,D6,Xv],[],[],true,fun x => Ci x.1 x.2.1 x.2.2.1,none⟩
theorem yS : KO (uQ) 126 := DY (ct := (.q (.q (.q (.j (.st false ⟨[(0,false,IU)],[],[0]⟩) (.q (.b (.l ⟨[(0,false,IU),(11,false,AG)],[],[0]⟩ .d))) (.q (.b (.l ⟨[(0,false,IU),(12,false,AG)],[],[0]⟩ .d)))))))) Dz (Az yB Bc) Tryz.func126 (by kernel_rfl) fun x => by kernel_rfl
def B0 (p0 : List Sq) (p1 : Int) (p2 : Int) (p3 : Int) : Option (Int × Int × Int) := (ix p0 p2).bind fun x1 => (ix p0 p1).bind fun x2 => (BD x1 x2).bind fun x3 => (if x3 < 0 then some (p2,p1,Ae (p3 + 1)) else some (p1,p2,p3))
abbrev uU : Cn_ := ⟨[X2,D6,D6,(.p,[]),Xv],[IP,IP],[(true,AG)],false,fun x => B0 x.1 x.2.1 x.2.2.1 x.2.2.2.2,none⟩
theorem wA : KO (uU) 157 := DY (ct := .d) Dz (Az jT Bc) Tryz.func157 (by kernel_rfl) fun x => by kernel_rfl
def B4 (p0 : List Sq) (p1 : Int) (p2 : Int) (p3 : Int) (p4 : Int) : Option (Int × Int) := (B0 p0 p1 p2 p4).bind fun x1 => (B0 p0 x1.2.1 p3 x1.2.2).bind fun x2 => (B0 p0 x1.1 x2.1 x2.2.2).bind fun x3 => some (x3.2.1,x3.2.2)
abbrev vX : Cn_ := ⟨[X2,D6,D6,D6,(.p,[]),Xv],[IP],[(true,AG)],false,fun x => B4 x.1 x.2.1 x.2.2.1 x.2.2.2.1 x.2.2.2.2.2,none⟩
theorem qX : KO (vX) 147 := DY (ct := .d) Dz (Az wA Bc) Tryz.func147 (by kernel_rfl) fun x => by kernel_rfl
def A2 (p0 : List Sq) (p1 : Int) (p2 : Int) : Option (Int × Int) := (B4 p0 (Ae (p1 - 1)) p1 (Ae (p1 + 1)) p2).bind fun x1 => some (x1.1,x1.2)
abbrev uJ : Cn_ := ⟨[X2,D6,(.p,[]),Xv],[IP],[(true,AG)],false,fun x => A2 x.1 x.2.1 x.2.2.2,none⟩
theorem xW : KO (uJ) 146 := DY (ct := .d) Dz (Az qX Bc) Tryz.func146 (by kernel_rfl) fun x => by kernel_rfl
def BR (p0 : List Sq) (p1 : Int) (p2 : Int) : Option (Int × Int) := (if 8 ≤ (Ae (p2 - p1)) then (if 50 ≤ (Ae (p2 - p1)) then (A2 p0 (Ae (p1 + (Ae ((Ae (Int.tdiv (Ae (p2 - p1)) 4)) * 1)))) 0).bind fun x7 => (A2 p0 (Ae (p1 + (Ae ((Ae (Int.tdiv (Ae (p2 - p1)) 4)) * 2)))) x7.2).bind fun x8 => (A2 p0 (Ae (p1 + (Ae ((Ae (Int.tdiv (Ae (p2 - p1)) 4)) * 3)))) x8.2).bind fun x9 => some (x7.1,x8.1,x9.1,x9.2) else some (Ae (p1 + (Ae ((Ae (Int.tdiv (Ae (p2 - p1)) 4)) * 1))),Ae (p1 + (Ae ((Ae (Int.tdiv (Ae (p2 - p1)) 4)) * 2))),Ae (p1 + (Ae ((Ae (Int.tdiv (Ae (p2 - p1)) 4)) * 3))),0)).bind fun (x3,x4,x5,x6) => (B4 p0 x3 x4 x5 x6).bind fun x10 => some (x10.1,x10.2) else some (Ae (p1 + (Ae ((Ae (Int.tdiv (Ae (p2 - p1)) 4)) * 2))),0)).bind fun (x1,x2) => (if x2 = 0 then some (x1,1) else (if x2 = 12 then some (x1,2) else some (x1,0)))
abbrev uG : Cn_ := ⟨[X2,D6,D6,Xv],[IP,IP],[],false,fun x => BR x.1 x.2.1 x.2.2.1,none⟩
theorem wE : KO (uG) 128 := DY (ct := (.q (.q (.q (.q (.q (.q (.j (.st false ⟨[(13,false,AG)],[(0,[some (.d false Ht)])],[]⟩) (.q (.c (.j (.st false ⟨[(12,false,AG),(13,false,AG),(14,false,AG)],[(0,[some (.d false Ht)])],[]⟩) .d .d) .d)) .d)))))))) Dz (Az qX (Az xW Bc)) Tryz.func128 (by kernel_rfl) fun x => by kernel_rfl
def Ba  : ((List Sq) × Int × Int) → Option (((List Sq) × Int × Int) ⊕ (List Sq))
  | (x1,x2,x3) => (if x2 < x3 then (ix x1 x3).bind fun x4 => (ix x1 x2).bind fun x5 => (ix x1 x2).bind fun x6 => (ix (Ak x1 x2 x4) x3).bind fun x7 => some (.inl ((Ak (Ak x1 x2 x4) x3 x5),Ae (x2 + 1),Ae (x3 - 1))) else some (.inr x1))
def Bl (p0 : List Sq) (p1 : Int) (p2 : Int) : Option (List Sq) := Ac (Ba) (p0,p1,Ae (p2 - 1))
abbrev yW : Cn_ := ⟨[PY,D6,D6,Xv],[],[],true,fun x => Bl x.1 x.2.1 x.2.2.1,none⟩
theorem xT : KO (yW) 129 := DY (ct := (.q (.q (.b (.l ⟨[(0,false,IU),(8,false,AG),(9,false,AG)],[],[0]⟩ .d))))) Dz Bc Tryz.func129 (by kernel_rfl) fun x => by kernel_rfl
end
end Go.Proofs.YtgoifghhcekahaaGreatDoor
