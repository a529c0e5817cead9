/- The functions of layer 25, JA. Conditions: none. -/
import Derived.Test.YthhoflfhegfmcaaGreatcA4
namespace Go.Proofs.YthhoflfhegfmcaaGreat
noncomputable section
open Go Go.RowKit
set_option linter.unusedVariables false
set_option linter.unusedSimpArgs false
set_option maxRecDepth 20000
set_option maxHeartbeats 1600000
theorem bL : Has Tryz.prog 66 := Cv Tryz.func66
def BE (p0 : List (Int × Int × Int × Int)) (p1 : Int) (p2 : Int) (p3 : Int) (x1 : Int × Int × Int × Int) (x2 : Int × Int × Int × Int) : Int → Option (Int ⊕ Int)
  | x6 => (if x6 ≤ (An (p2 - 1)) then (ix (Ah (Ah p0 p1 x1) p3 x2) x6).bind fun x8 => (ix (Ah (Ah p0 p1 x1) p3 x2) p1).bind fun x9 => (Cc x8 x9).bind fun x10 => some (decide (x10 < 0)) else some false).bind fun x7 => (if x7 = true then some (.inl (An (x6 + 1))) else some (.inr x6))
def B8 (p0 : List (Int × Int × Int × Int)) (p1 : Int) (p3 : Int) (x1 : Int × Int × Int × Int) (x2 : Int × Int × Int × Int) (x5 : Int) : Int → Option (Int ⊕ Int)
  | x12 => (if x5 ≤ x12 then (ix (Ah (Ah p0 p1 x1) p3 x2) x12).bind fun x14 => (ix (Ah (Ah p0 p1 x1) p3 x2) p1).bind fun x15 => (Cc x14 x15).bind fun x16 => some (!(decide (x16 < 0))) else some false).bind fun x13 => (if x13 = true then some (.inl (An (x12 - 1))) else some (.inr x12))
def B7 (p1 : Int) (x27 : List (Int × Int × Int × Int)) (x29 : Int) : Int → Option (Int ⊕ Int)
  | x31 => (if x31 ≤ x29 then (ix x27 x31).bind fun x33 => (ix x27 p1).bind fun x34 => (Cc x33 x34).bind fun x35 => some (decide (x35 < 0)) else some false).bind fun x32 => (if x32 = true then some (.inl (An (x31 + 1))) else some (.inr x31))
def Cb (p1 : Int) (x27 : List (Int × Int × Int × Int)) (x30 : Int) : Int → Option (Int ⊕ Int)
  | x37 => (if x30 ≤ x37 then (ix x27 x37).bind fun x39 => (ix x27 p1).bind fun x40 => (Cc x39 x40).bind fun x41 => some (!(decide (x41 < 0))) else some false).bind fun x38 => (if x38 = true then some (.inl (An (x37 - 1))) else some (.inr x37))
def Bk (p1 : Int) : ((List (Int × Int × Int × Int)) × Int × Int) → Option (((List (Int × Int × Int × Int)) × Int × Int) ⊕ ((List (Int × Int × Int × Int)) × Int))
  | (x27, x28, x29) => (Aq (B7 p1 x27 x29) x28).bind fun x30 => (Aq (Cb p1 x27 x30) x29).bind fun x36 => (if x36 < x30 then some (.inr (x27, x36)) else (ix x27 x36).bind fun x42 => (ix x27 x30).bind fun x43 => (ix x27 x30).bind fun x44 => (ix (Ah x27 x30 x42) x36).bind fun x45 => some (.inl ((Ah (Ah x27 x30 x42) x36 x43), An (x30 + 1), An (x36 - 1))))
def Co (p0 : List (Int × Int × Int × Int)) (p1 : Int) (p2 : Int) (p3 : Int) : Option (Int × Bool × (List (Int × Int × Int × Int))) := (ix p0 p3).bind fun x1 => (ix p0 p1).bind fun x2 => (ix p0 p1).bind fun x3 => (ix (Ah p0 p1 x1) p3).bind fun x4 => (Aq (BE p0 p1 p2 p3 x1 x2) (An (p1 + 1))).bind fun x5 => (Aq (B8 p0 p1 p3 x1 x2 x5) (An (p2 - 1))).bind fun x11 => (if x11 < x5 then (ix (Ah (Ah p0 p1 x1) p3 x2) p1).bind fun x17 => (ix (Ah (Ah p0 p1 x1) p3 x2) x11).bind fun x18 => (ix (Ah (Ah p0 p1 x1) p3 x2) x11).bind fun x19 => (ix (Ah (Ah (Ah p0 p1 x1) p3 x2) x11 x17) p1).bind fun x20 => some (x11, true, (Ah (Ah (Ah (Ah p0 p1 x1) p3 x2) x11 x17) p1 x18)) else (ix (Ah (Ah p0 p1 x1) p3 x2) x11).bind fun x21 => (ix (Ah (Ah p0 p1 x1) p3 x2) x5).bind fun x22 => (ix (Ah (Ah p0 p1 x1) p3 x2) x5).bind fun x23 => (ix (Ah (Ah (Ah p0 p1 x1) p3 x2) x5 x21) x11).bind fun x24 => (Aq (Bk p1) ((Ah (Ah (Ah (Ah p0 p1 x1) p3 x2) x5 x21) x11 x22), An (x5 + 1), An (x11 - 1))).bind fun (x25, x26) => (ix x25 p1).bind fun x46 => (ix x25 x26).bind fun x47 => (ix x25 x26).bind fun x48 => (ix (Ah x25 x26 x46) p1).bind fun x49 => some (x26, false, (Ah (Ah x25 x26 x46) p1 x47)))
theorem GK (Y : Nat → Prop) (X : List Nat) (w0 : World) (v1 : Value) (p0 : List (Int × Int × Int × Int)) (p1 : Int) (p2 : Int) (p3 : Int) (r : Int × Bool × (List (Int × Int × Int × Int))) (H : Co p0 p1 p2 p3 = some r) (hL : Stw ⟨Y, X, w0⟩ [] [row v1 43 AY p0] w0) :
    ca_ 67 #[v1, Jint p1, Jint p2, Jint p3, .func (.func 22) #[] #[]] w0 fun e w' => ∃ x : Unit, e = .returned (.tuple #[Jint r.1, .bool r.2.1]) ∧ Stw ⟨Y, X, w0⟩ [] [row v1 43 AY r.2.2] w' := by
 refine enter Tryz.func67 Aa Tryz.ntmps67 Aa fun a F => ?_
 have W := hL
 unfold Co at H
 refine vc tk 7 F W fun a w F W => ?_
 refine Ju 13 [2, 3] [0, 1, 4, 5, 6, 7, 8, 9, 10, 11, 12] (fun ch a d v w h => by cases d <;> exact h) W MO (by kernel_rfl) ?_
 iterate 2 refine hm F Aa Aa Aa fun a F => ?_
 refine KV ?_
 iterate 4 refine hs F Aa Aa Aa (Ai F Aa).q fun a F => ?_
 obtain ⟨x1, h1, H⟩ := Ac H
 refine hs F Aa Aa Aa (Al (r := AY) Eu F Aa Aa (Af 0 Aa) h1).q fun a F => ?_
 refine hs F Aa Aa Aa (Ag (y := Value.agg #[Jint x1.1, Jint x1.2.1, Jint x1.2.2.1, Jint x1.2.2.2]) (j := 0) (i := p3) F Aa Aa (Af 0 Aa) h1 EK.to Ey Aa).q fun a F => ?_
 iterate 2 refine hs F Aa Aa Aa (Ai F Aa).q fun a F => ?_
 obtain ⟨x2, h2, H⟩ := Ac H
 refine hs F Aa Aa Aa (Al (r := AY) Eu F Aa Aa (Af 0 Aa) h2).q fun a F => ?_
 refine hs F Aa Aa Aa (Ag (y := Value.agg #[Jint x2.1, Jint x2.2.1, Jint x2.2.2.1, Jint x2.2.2.2]) (j := 0) (i := p1) F Aa Aa (Af 0 Aa) h2 EK.to Ey Aa).q fun a F => ?_
 obtain ⟨x3, h3, H⟩ := Ac H
 refine hs F Aa Aa Aa (Al (r := AY) Eu F Aa Aa (Af 0 Aa) h3).q fun a F => ?_
 refine M7 fun w W => ?_
 have W : Stw ⟨Y, X, w0⟩ [] [row v1 43 AY p0] w := W
 refine A0 (i := p1) (j := 0) (vs := (Cj x1)) (x' := x1) F W Aa Aa Aa (k := 0) Aa Aa h3 Ey Aa Aa Aa Aa (fun A cs _ => EK.sto (by rfl) _ _ _) fun w W => ?_
 obtain ⟨x4, h4, H⟩ := Ac H
 refine ls F W Aa (Al (r := AY) Eu F Aa Aa (Af 0 Aa) h4).q fun a w F W => ?_
 refine A0 (i := p3) (j := 0) (vs := (Cj x2)) (x' := x2) F W Aa Aa Aa (k := 0) Aa Aa h4 Ey Aa Aa Aa Aa (fun A cs _ => EK.sto (by rfl) _ _ _) fun w W => ?_
 refine BQ tk 12 F W fun a w F W => ?_
 obtain ⟨o1, G1, K1⟩ := Ac H
 refine As (fun a w => ∃ x5 : Int, some (x5) = some o1 ∧ Fr 178 [] [(0, v1), (1, Jint p1), (4, .func (.func 22) #[] #[]), (10, Jint 0), (11, .bool false), (12, Jint x5), (13, Jint (An (p2 - 1)))] a ∧ Stw ⟨Y, X, w0⟩ [] [row v1 43 AY (Ah (Ah p0 p1 x1) p3 x2)] w) ?_ ?_
 ·
  have H := G1
  refine Ew ?_
  refine AN H (fun s a w => Fr 178 [] [(0, v1), (1, Jint p1), (4, .func (.func 22) #[] #[]), (10, Jint 0), (11, .bool false), (12, Jint s), (13, Jint (An (p2 - 1)))] a ∧ Stw ⟨Y, X, w0⟩ [] [row v1 43 AY (Ah (Ah p0 p1 x1) p3 x2)] w) ⟨F.ra Aa, W⟩ fun s o a w H L2 hR => ?_
  obtain ⟨x6, rfl⟩ : ∃ x, x = s := ⟨s, rfl⟩
  obtain ⟨F, W⟩ := hR
  have F : Fr 178 [] [(0, v1), (1, Jint p1), (4, .func (.func 22) #[] #[]), (10, Jint 0), (11, .bool false), (12, Jint x6), (13, Jint (An (p2 - 1)))] a := F
  have W : Stw ⟨Y, X, w0⟩ [] [row v1 43 AY (Ah (Ah p0 p1 x1) p3 x2)] w := W
  rw [BE] at H
  refine HH ?_
  obtain ⟨o3, G3, K3⟩ := Ac H
  refine As (fun a w => ∃ x7 : Bool, some (x7) = some o3 ∧ Fr 178 [] [(0, v1), (1, Jint p1), (4, .func (.func 22) #[] #[]), (10, Jint 0), (11, .bool false), (12, Jint x6), (13, Jint (An (p2 - 1))), (47, .bool x7)] a ∧ Stw ⟨Y, X, w0⟩ [] [row v1 43 AY (Ah (Ah p0 p1 x1) p3 x2)] w) ?_ ?_
  ·
   have H := G3
   refine Bz W MO (by kernel_rfl) ?_
   iterate 2 refine qs F Aa (Ai F Aa).q fun a F => ?_
   refine qs F Aa (NW F Aa Aa).q fun a F => ?_
   refine qs F Aa (Ai F Aa).q fun a F => ?_
   rcases bxq (decide (x6 ≤ (An (p2 - 1)))) with hb | hb
   ·
    have H := DU (Fa hb) H
    rw [hb] at F
    iterate 3 refine AZ F (Ad F Aa Aa Aa Aa) Aa (Ao Aa) (Ai F Aa).q fun a F => ?_
    obtain ⟨x8, h5, H⟩ := Ac H
    refine AZ F (Ad F Aa Aa Aa Aa) Aa (Ao Aa) (Al (r := AY) Eu F Aa Aa (Af 0 Aa) h5).q fun a F => ?_
    refine AZ F (Ad F Aa Aa Aa Aa) Aa (Ao Aa) (Ag (y := Value.agg #[Jint x8.1, Jint x8.2.1, Jint x8.2.2.1, Jint x8.2.2.2]) (j := 0) (i := x6) F Aa Aa (Af 0 Aa) h5 EK.to Ey Aa).q fun a F => ?_
    iterate 2 refine AZ F (Ad F Aa Aa Aa Aa) Aa (Ao Aa) (Ai F Aa).q fun a F => ?_
    obtain ⟨x9, h6, H⟩ := Ac H
    refine AZ F (Ad F Aa Aa Aa Aa) Aa (Ao Aa) (Al (r := AY) Eu F Aa Aa (Af 0 Aa) h6).q fun a F => ?_
    refine AZ F (Ad F Aa Aa Aa Aa) Aa (Ao Aa) (Ag (y := Value.agg #[Jint x9.1, Jint x9.2.1, Jint x9.2.2.1, Jint x9.2.2.2]) (j := 0) (i := p1) F Aa Aa (Af 0 Aa) h6 EK.to Ey Aa).q fun a F => ?_
    obtain ⟨x10, h7, H⟩ := Ac H
    refine AZ F (Ad F Aa Aa Aa Aa) Aa (Ao Aa) (E5 (ws := (Jv x8 x9)) (v := Jint x10) F RZ Aa (fun w W => Cm any w x8 x9 _ h7)) fun a F => ?_
    refine AZ F (Ad F Aa Aa Aa Aa) Aa (Ao Aa) (GV F Aa Aa).q fun a F => ?_
    refine qs F Aa (C4 F Aa Aa Aa).q fun a F => ?_
    refine AA fun w W => ?_
    refine Ab ?_
    exact ⟨_, H, F.ra Aa, W⟩
   have H := DS (E4 hb) H
   rw [hb] at F
   iterate 11 refine Dn F (CX F Aa Aa Aa Aa Aa) Aa Aa fun a F => ?_
   refine qs F Aa (Dw F Aa Aa Aa).q fun a F => ?_
   refine AA fun w W => ?_
   refine Ab ?_
   exact ⟨_, H, F.ra Aa, W⟩
  rintro a w ⟨x7, hj, F, W⟩
  have hj := Ay hj
  subst hj
  have H := K3
  refine CS F Aa H (fun F H => ?_) fun F H => ?_
  ·
   refine FL tk 8 F W fun a w F W => ?_
   refine Ab ?_
   exact ⟨_, H, F.ra Aa, W⟩
  refine AC ?_
  iterate 2 refine AR ?_
  refine AD (Ab ?_)
  have H := L2 _ H
  exact ⟨_, H, F.ra Aa, W⟩
 rintro a w ⟨x5, hj, F, W⟩
 have hj := Ay hj
 subst hj
 have H := K1
 obtain ⟨o4, G4, K4⟩ := Ac H
 refine As (fun a w => ∃ x11 : Int, some (x11) = some o4 ∧ Fr 178 [] [(0, v1), (1, Jint p1), (4, .func (.func 22) #[] #[]), (10, Jint 0), (11, .bool false), (12, Jint x5), (13, Jint x11)] a ∧ Stw ⟨Y, X, w0⟩ [] [row v1 43 AY (Ah (Ah p0 p1 x1) p3 x2)] w) ?_ ?_
 ·
  have H := G4
  refine Ew ?_
  refine AN H (fun s a w => Fr 178 [] [(0, v1), (1, Jint p1), (4, .func (.func 22) #[] #[]), (10, Jint 0), (11, .bool false), (12, Jint x5), (13, Jint s)] a ∧ Stw ⟨Y, X, w0⟩ [] [row v1 43 AY (Ah (Ah p0 p1 x1) p3 x2)] w) ⟨F.ra Aa, W⟩ fun s o a w H L5 hR => ?_
  obtain ⟨x12, rfl⟩ : ∃ x, x = s := ⟨s, rfl⟩
  obtain ⟨F, W⟩ := hR
  have F : Fr 178 [] [(0, v1), (1, Jint p1), (4, .func (.func 22) #[] #[]), (10, Jint 0), (11, .bool false), (12, Jint x5), (13, Jint x12)] a := F
  have W : Stw ⟨Y, X, w0⟩ [] [row v1 43 AY (Ah (Ah p0 p1 x1) p3 x2)] w := W
  rw [B8] at H
  refine HH ?_
  obtain ⟨o6, G6, K6⟩ := Ac H
  refine As (fun a w => ∃ x13 : Bool, some (x13) = some o6 ∧ Fr 178 [] [(0, v1), (1, Jint p1), (4, .func (.func 22) #[] #[]), (10, Jint 0), (11, .bool false), (12, Jint x5), (13, Jint x12), (66, .bool x13)] a ∧ Stw ⟨Y, X, w0⟩ [] [row v1 43 AY (Ah (Ah p0 p1 x1) p3 x2)] w) ?_ ?_
  ·
   have H := G6
   refine Bz W MO (by kernel_rfl) ?_
   iterate 2 refine qs F Aa (Ai F Aa).q fun a F => ?_
   refine qs F Aa (NW F Aa Aa).q fun a F => ?_
   refine qs F Aa (Ai F Aa).q fun a F => ?_
   rcases bxq (decide (x5 ≤ x12)) with hb | hb
   ·
    have H := DU (Fa hb) H
    rw [hb] at F
    iterate 3 refine AZ F (Ad F Aa Aa Aa Aa) Aa (Ao Aa) (Ai F Aa).q fun a F => ?_
    obtain ⟨x14, h8, H⟩ := Ac H
    refine AZ F (Ad F Aa Aa Aa Aa) Aa (Ao Aa) (Al (r := AY) Eu F Aa Aa (Af 0 Aa) h8).q fun a F => ?_
    refine AZ F (Ad F Aa Aa Aa Aa) Aa (Ao Aa) (Ag (y := Value.agg #[Jint x14.1, Jint x14.2.1, Jint x14.2.2.1, Jint x14.2.2.2]) (j := 0) (i := x12) F Aa Aa (Af 0 Aa) h8 EK.to Ey Aa).q fun a F => ?_
    iterate 2 refine AZ F (Ad F Aa Aa Aa Aa) Aa (Ao Aa) (Ai F Aa).q fun a F => ?_
    obtain ⟨x15, h9, H⟩ := Ac H
    refine AZ F (Ad F Aa Aa Aa Aa) Aa (Ao Aa) (Al (r := AY) Eu F Aa Aa (Af 0 Aa) h9).q fun a F => ?_
    refine AZ F (Ad F Aa Aa Aa Aa) Aa (Ao Aa) (Ag (y := Value.agg #[Jint x15.1, Jint x15.2.1, Jint x15.2.2.1, Jint x15.2.2.2]) (j := 0) (i := p1) F Aa Aa (Af 0 Aa) h9 EK.to Ey Aa).q fun a F => ?_
    obtain ⟨x16, h10, H⟩ := Ac H
    refine AZ F (Ad F Aa Aa Aa Aa) Aa (Ao Aa) (E5 (ws := (Jv x14 x15)) (v := Jint x16) F RZ Aa (fun w W => Cm any w x14 x15 _ h10)) fun a F => ?_
    refine AZ F (Ad F Aa Aa Aa Aa) Aa (Ao Aa) (GV F Aa Aa).q fun a F => ?_
    refine AZ F (Ad F Aa Aa Aa Aa) Aa (Ao Aa) (I5 F Aa).q fun a F => ?_
    refine qs F Aa (C4 F Aa Aa Aa).q fun a F => ?_
    refine AA fun w W => ?_
    refine Ab ?_
    exact ⟨_, H, F.ra Aa, W⟩
   have H := DS (E4 hb) H
   rw [hb] at F
   iterate 12 refine Dn F (CX F Aa Aa Aa Aa Aa) Aa Aa fun a F => ?_
   refine qs F Aa (Dw F Aa Aa Aa).q fun a F => ?_
   refine AA fun w W => ?_
   refine Ab ?_
   exact ⟨_, H, F.ra Aa, W⟩
  rintro a w ⟨x13, hj, F, W⟩
  have hj := Ay hj
  subst hj
  have H := K6
  refine CS F Aa H (fun F H => ?_) fun F H => ?_
  ·
   refine FL tk 8 F W fun a w F W => ?_
   refine Ab ?_
   exact ⟨_, H, F.ra Aa, W⟩
  refine AC ?_
  iterate 2 refine AR ?_
  refine AD (Ab ?_)
  have H := L5 _ H
  exact ⟨_, H, F.ra Aa, W⟩
 rintro a w ⟨x11, hj, F, W⟩
 have hj := Ay hj
 subst hj
 have H := K4
 refine vc tk 8 F W fun a w F W => ?_
 refine AW F Aa H (fun F H => ?_) fun F H => ?_
 ·
  refine HH ?_
  refine Ju 13 [2, 3] [0, 1, 4, 5, 6, 7, 8, 9, 10, 11, 12] (fun ch a d v w h => by cases d <;> exact h) W MO (by kernel_rfl) ?_
  iterate 2 refine hm F Aa Aa Aa fun a F => ?_
  refine KV ?_
  iterate 4 refine hs F Aa Aa Aa (Ai F Aa).q fun a F => ?_
  obtain ⟨x17, h11, H⟩ := Ac H
  refine hs F Aa Aa Aa (Al (r := AY) Eu F Aa Aa (Af 0 Aa) h11).q fun a F => ?_
  refine hs F Aa Aa Aa (Ag (y := Value.agg #[Jint x17.1, Jint x17.2.1, Jint x17.2.2.1, Jint x17.2.2.2]) (j := 0) (i := p1) F Aa Aa (Af 0 Aa) h11 EK.to Ey Aa).q fun a F => ?_
  iterate 2 refine hs F Aa Aa Aa (Ai F Aa).q fun a F => ?_
  obtain ⟨x18, h12, H⟩ := Ac H
  refine hs F Aa Aa Aa (Al (r := AY) Eu F Aa Aa (Af 0 Aa) h12).q fun a F => ?_
  refine hs F Aa Aa Aa (Ag (y := Value.agg #[Jint x18.1, Jint x18.2.1, Jint x18.2.2.1, Jint x18.2.2.2]) (j := 0) (i := x11) F Aa Aa (Af 0 Aa) h12 EK.to Ey Aa).q fun a F => ?_
  obtain ⟨x19, h13, H⟩ := Ac H
  refine hs F Aa Aa Aa (Al (r := AY) Eu F Aa Aa (Af 0 Aa) h13).q fun a F => ?_
  refine M7 fun w W => ?_
  have W : Stw ⟨Y, X, w0⟩ [] [row v1 43 AY (Ah (Ah p0 p1 x1) p3 x2)] w := W
  refine A0 (i := x11) (j := 0) (vs := (Cj x17)) (x' := x17) F W Aa Aa Aa (k := 0) Aa Aa h13 Ey Aa Aa Aa Aa (fun A cs _ => EK.sto (by rfl) _ _ _) fun w W => ?_
  obtain ⟨x20, h14, H⟩ := Ac H
  refine ls F W Aa (Al (r := AY) Eu F Aa Aa (Af 0 Aa) h14).q fun a w F W => ?_
  refine A0 (i := p1) (j := 0) (vs := (Cj x18)) (x' := x18) F W Aa Aa Aa (k := 0) Aa Aa h14 Ey Aa Aa Aa Aa (fun A cs _ => EK.sto (by rfl) _ _ _) fun w W => ?_
  refine BQ tk 9 F W fun a w F W => ?_
  refine Ap (AF ?_)
  have H := Ay H
  subst H
  refine FD (.inl Aa) F W Aa (Am F Aa) (Am F Aa) ?_
  exact ⟨(), Aa, W⟩
 refine FL tk 3 F W fun a w F W => ?_
 refine Ju 13 [2, 3] [0, 1, 4, 5, 6, 7, 8, 9, 10, 11, 12] (fun ch a d v w h => by cases d <;> exact h) W MO (by kernel_rfl) ?_
 iterate 2 refine hm F Aa Aa Aa fun a F => ?_
 refine KV ?_
 iterate 4 refine hs F Aa Aa Aa (Ai F Aa).q fun a F => ?_
 obtain ⟨x21, h15, H⟩ := Ac H
 refine hs F Aa Aa Aa (Al (r := AY) Eu F Aa Aa (Af 0 Aa) h15).q fun a F => ?_
 refine hs F Aa Aa Aa (Ag (y := Value.agg #[Jint x21.1, Jint x21.2.1, Jint x21.2.2.1, Jint x21.2.2.2]) (j := 0) (i := x11) F Aa Aa (Af 0 Aa) h15 EK.to Ey Aa).q fun a F => ?_
 iterate 2 refine hs F Aa Aa Aa (Ai F Aa).q fun a F => ?_
 obtain ⟨x22, h16, H⟩ := Ac H
 refine hs F Aa Aa Aa (Al (r := AY) Eu F Aa Aa (Af 0 Aa) h16).q fun a F => ?_
 refine hs F Aa Aa Aa (Ag (y := Value.agg #[Jint x22.1, Jint x22.2.1, Jint x22.2.2.1, Jint x22.2.2.2]) (j := 0) (i := x5) F Aa Aa (Af 0 Aa) h16 EK.to Ey Aa).q fun a F => ?_
 obtain ⟨x23, h17, H⟩ := Ac H
 refine hs F Aa Aa Aa (Al (r := AY) Eu F Aa Aa (Af 0 Aa) h17).q fun a F => ?_
 refine M7 fun w W => ?_
 have W : Stw ⟨Y, X, w0⟩ [] [row v1 43 AY (Ah (Ah p0 p1 x1) p3 x2)] w := W
 refine A0 (i := x5) (j := 0) (vs := (Cj x21)) (x' := x21) F W Aa Aa Aa (k := 0) Aa Aa h17 Ey Aa Aa Aa Aa (fun A cs _ => EK.sto (by rfl) _ _ _) fun w W => ?_
 obtain ⟨x24, h18, H⟩ := Ac H
 refine ls F W Aa (Al (r := AY) Eu F Aa Aa (Af 0 Aa) h18).q fun a w F W => ?_
 refine A0 (i := x11) (j := 0) (vs := (Cj x22)) (x' := x22) F W Aa Aa Aa (k := 0) Aa Aa h18 Ey Aa Aa Aa Aa (fun A cs _ => EK.sto (by rfl) _ _ _) fun w W => ?_
 refine BQ tk 16 F W fun a w F W => ?_
 obtain ⟨o7, G7, K7⟩ := Ac H
 refine As (fun a w => ∃ x25 : List (Int × Int × Int × Int), ∃ x26 : Int, some ((x25, x26)) = some o7 ∧ Fr 178 [] [(0, v1), (1, Jint p1), (10, Jint 0), (11, .bool false), (13, Jint x26)] a ∧ Stw ⟨Y, X, w0⟩ [] [row v1 43 AY x25] w) ?_ ?_
 ·
  have H := G7
  refine Ew ?_
  refine AN H (fun s a w => Fr 178 [] [(0, v1), (1, Jint p1), (4, .func (.func 22) #[] #[]), (10, Jint 0), (11, .bool false), (12, Jint s.2.1), (13, Jint s.2.2)] a ∧ Stw ⟨Y, X, w0⟩ [] [row v1 43 AY s.1] w) ⟨F.ra Aa, W⟩ fun s o a w H L8 hR => ?_
  obtain ⟨x27, x28, x29⟩ := s
  obtain ⟨F, W⟩ := hR
  have F : Fr 178 [] [(0, v1), (1, Jint p1), (4, .func (.func 22) #[] #[]), (10, Jint 0), (11, .bool false), (12, Jint x28), (13, Jint x29)] a := F
  have W : Stw ⟨Y, X, w0⟩ [] [row v1 43 AY x27] w := W
  rw [Bk] at H
  refine Ew ?_
  obtain ⟨o9, G9, K9⟩ := Ac H
  refine As (fun a w => ∃ x30 : Int, some (x30) = some o9 ∧ Fr 178 [] [(0, v1), (1, Jint p1), (4, .func (.func 22) #[] #[]), (10, Jint 0), (11, .bool false), (12, Jint x30), (13, Jint x29)] a ∧ Stw ⟨Y, X, w0⟩ [] [row v1 43 AY x27] w) ?_ ?_
  ·
   have H := G9
   refine Ew ?_
   refine AN H (fun s a w => Fr 178 [] [(0, v1), (1, Jint p1), (4, .func (.func 22) #[] #[]), (10, Jint 0), (11, .bool false), (12, Jint s), (13, Jint x29)] a ∧ Stw ⟨Y, X, w0⟩ [] [row v1 43 AY x27] w) ⟨F.ra Aa, W⟩ fun s o a w H L10 hR => ?_
   obtain ⟨x31, rfl⟩ : ∃ x, x = s := ⟨s, rfl⟩
   obtain ⟨F, W⟩ := hR
   have F : Fr 178 [] [(0, v1), (1, Jint p1), (4, .func (.func 22) #[] #[]), (10, Jint 0), (11, .bool false), (12, Jint x31), (13, Jint x29)] a := F
   have W : Stw ⟨Y, X, w0⟩ [] [row v1 43 AY x27] w := W
   rw [B7] at H
   refine HH ?_
   obtain ⟨o11, G11, K11⟩ := Ac H
   refine As (fun a w => ∃ x32 : Bool, some (x32) = some o11 ∧ Fr 178 [] [(0, v1), (1, Jint p1), (4, .func (.func 22) #[] #[]), (10, Jint 0), (11, .bool false), (12, Jint x31), (13, Jint x29), (120, .bool x32)] a ∧ Stw ⟨Y, X, w0⟩ [] [row v1 43 AY x27] w) ?_ ?_
   ·
    have H := G11
    refine Bz W MO (by kernel_rfl) ?_
    iterate 2 refine qs F Aa (Ai F Aa).q fun a F => ?_
    refine qs F Aa (NW F Aa Aa).q fun a F => ?_
    refine qs F Aa (Ai F Aa).q fun a F => ?_
    rcases bxq (decide (x31 ≤ x29)) with hb | hb
    ·
     have H := DU (Fa hb) H
     rw [hb] at F
     iterate 3 refine AZ F (Ad F Aa Aa Aa Aa) Aa (Ao Aa) (Ai F Aa).q fun a F => ?_
     obtain ⟨x33, h19, H⟩ := Ac H
     refine AZ F (Ad F Aa Aa Aa Aa) Aa (Ao Aa) (Al (r := AY) Eu F Aa Aa (Af 0 Aa) h19).q fun a F => ?_
     refine AZ F (Ad F Aa Aa Aa Aa) Aa (Ao Aa) (Ag (y := Value.agg #[Jint x33.1, Jint x33.2.1, Jint x33.2.2.1, Jint x33.2.2.2]) (j := 0) (i := x31) F Aa Aa (Af 0 Aa) h19 EK.to Ey Aa).q fun a F => ?_
     iterate 2 refine AZ F (Ad F Aa Aa Aa Aa) Aa (Ao Aa) (Ai F Aa).q fun a F => ?_
     obtain ⟨x34, h20, H⟩ := Ac H
     refine AZ F (Ad F Aa Aa Aa Aa) Aa (Ao Aa) (Al (r := AY) Eu F Aa Aa (Af 0 Aa) h20).q fun a F => ?_
     refine AZ F (Ad F Aa Aa Aa Aa) Aa (Ao Aa) (Ag (y := Value.agg #[Jint x34.1, Jint x34.2.1, Jint x34.2.2.1, Jint x34.2.2.2]) (j := 0) (i := p1) F Aa Aa (Af 0 Aa) h20 EK.to Ey Aa).q fun a F => ?_
     obtain ⟨x35, h21, H⟩ := Ac H
     refine AZ F (Ad F Aa Aa Aa Aa) Aa (Ao Aa) (E5 (ws := (Jv x33 x34)) (v := Jint x35) F RZ Aa (fun w W => Cm any w x33 x34 _ h21)) fun a F => ?_
     refine AZ F (Ad F Aa Aa Aa Aa) Aa (Ao Aa) (GV F Aa Aa).q fun a F => ?_
     refine qs F Aa (C4 F Aa Aa Aa).q fun a F => ?_
     refine AA fun w W => ?_
     refine Ab ?_
     exact ⟨_, H, F.ra Aa, W⟩
    have H := DS (E4 hb) H
    rw [hb] at F
    iterate 11 refine Dn F (CX F Aa Aa Aa Aa Aa) Aa Aa fun a F => ?_
    refine qs F Aa (Dw F Aa Aa Aa).q fun a F => ?_
    refine AA fun w W => ?_
    refine Ab ?_
    exact ⟨_, H, F.ra Aa, W⟩
   rintro a w ⟨x32, hj, F, W⟩
   have hj := Ay hj
   subst hj
   have H := K11
   refine CS F Aa H (fun F H => ?_) fun F H => ?_
   ·
    refine FL tk 8 F W fun a w F W => ?_
    refine Ab ?_
    exact ⟨_, H, F.ra Aa, W⟩
   refine AC ?_
   iterate 2 refine AR ?_
   refine AD (Ab ?_)
   have H := L10 _ H
   exact ⟨_, H, F.ra Aa, W⟩
  rintro a w ⟨x30, hj, F, W⟩
  have hj := Ay hj
  subst hj
  have H := K9
  obtain ⟨o12, G12, K12⟩ := Ac H
  refine As (fun a w => ∃ x36 : Int, some (x36) = some o12 ∧ Fr 178 [] [(0, v1), (1, Jint p1), (4, .func (.func 22) #[] #[]), (10, Jint 0), (11, .bool false), (12, Jint x30), (13, Jint x36)] a ∧ Stw ⟨Y, X, w0⟩ [] [row v1 43 AY x27] w) ?_ ?_
  ·
   have H := G12
   refine Ew ?_
   refine AN H (fun s a w => Fr 178 [] [(0, v1), (1, Jint p1), (4, .func (.func 22) #[] #[]), (10, Jint 0), (11, .bool false), (12, Jint x30), (13, Jint s)] a ∧ Stw ⟨Y, X, w0⟩ [] [row v1 43 AY x27] w) ⟨F.ra Aa, W⟩ fun s o a w H L13 hR => ?_
   obtain ⟨x37, rfl⟩ : ∃ x, x = s := ⟨s, rfl⟩
   obtain ⟨F, W⟩ := hR
   have F : Fr 178 [] [(0, v1), (1, Jint p1), (4, .func (.func 22) #[] #[]), (10, Jint 0), (11, .bool false), (12, Jint x30), (13, Jint x37)] a := F
   have W : Stw ⟨Y, X, w0⟩ [] [row v1 43 AY x27] w := W
   rw [Cb] at H
   refine HH ?_
   obtain ⟨o14, G14, K14⟩ := Ac H
   refine As (fun a w => ∃ x38 : Bool, some (x38) = some o14 ∧ Fr 178 [] [(0, v1), (1, Jint p1), (4, .func (.func 22) #[] #[]), (10, Jint 0), (11, .bool false), (12, Jint x30), (13, Jint x37), (139, .bool x38)] a ∧ Stw ⟨Y, X, w0⟩ [] [row v1 43 AY x27] w) ?_ ?_
   ·
    have H := G14
    refine Bz W MO (by kernel_rfl) ?_
    iterate 2 refine qs F Aa (Ai F Aa).q fun a F => ?_
    refine qs F Aa (NW F Aa Aa).q fun a F => ?_
    refine qs F Aa (Ai F Aa).q fun a F => ?_
    rcases bxq (decide (x30 ≤ x37)) with hb | hb
    ·
     have H := DU (Fa hb) H
     rw [hb] at F
     iterate 3 refine AZ F (Ad F Aa Aa Aa Aa) Aa (Ao Aa) (Ai F Aa).q fun a F => ?_
     obtain ⟨x39, h22, H⟩ := Ac H
     refine AZ F (Ad F Aa Aa Aa Aa) Aa (Ao Aa) (Al (r := AY) Eu F Aa Aa (Af 0 Aa) h22).q fun a F => ?_
     refine AZ F (Ad F Aa Aa Aa Aa) Aa (Ao Aa) (Ag (y := Value.agg #[Jint x39.1, Jint x39.2.1, Jint x39.2.2.1, Jint x39.2.2.2]) (j := 0) (i := x37) F Aa Aa (Af 0 Aa) h22 EK.to Ey Aa).q fun a F => ?_
     iterate 2 refine AZ F (Ad F Aa Aa Aa Aa) Aa (Ao Aa) (Ai F Aa).q fun a F => ?_
     obtain ⟨x40, h23, H⟩ := Ac H
     refine AZ F (Ad F Aa Aa Aa Aa) Aa (Ao Aa) (Al (r := AY) Eu F Aa Aa (Af 0 Aa) h23).q fun a F => ?_
     refine AZ F (Ad F Aa Aa Aa Aa) Aa (Ao Aa) (Ag (y := Value.agg #[Jint x40.1, Jint x40.2.1, Jint x40.2.2.1, Jint x40.2.2.2]) (j := 0) (i := p1) F Aa Aa (Af 0 Aa) h23 EK.to Ey Aa).q fun a F => ?_
     obtain ⟨x41, h24, H⟩ := Ac H
     refine AZ F (Ad F Aa Aa Aa Aa) Aa (Ao Aa) (E5 (ws := (Jv x39 x40)) (v := Jint x41) F RZ Aa (fun w W => Cm any w x39 x40 _ h24)) fun a F => ?_
     refine AZ F (Ad F Aa Aa Aa Aa) Aa (Ao Aa) (GV F Aa Aa).q fun a F => ?_
     refine AZ F (Ad F Aa Aa Aa Aa) Aa (Ao Aa) (I5 F Aa).q fun a F => ?_
     refine qs F Aa (C4 F Aa Aa Aa).q fun a F => ?_
     refine AA fun w W => ?_
     refine Ab ?_
     exact ⟨_, H, F.ra Aa, W⟩
    have H := DS (E4 hb) H
    rw [hb] at F
    iterate 12 refine Dn F (CX F Aa Aa Aa Aa Aa) Aa Aa fun a F => ?_
    refine qs F Aa (Dw F Aa Aa Aa).q fun a F => ?_
    refine AA fun w W => ?_
    refine Ab ?_
    exact ⟨_, H, F.ra Aa, W⟩
   rintro a w ⟨x38, hj, F, W⟩
   have hj := Ay hj
   subst hj
   have H := K14
   refine CS F Aa H (fun F H => ?_) fun F H => ?_
   ·
    refine FL tk 8 F W fun a w F W => ?_
    refine Ab ?_
    exact ⟨_, H, F.ra Aa, W⟩
   refine AC ?_
   iterate 2 refine AR ?_
   refine AD (Ab ?_)
   have H := L13 _ H
   exact ⟨_, H, F.ra Aa, W⟩
  rintro a w ⟨x36, hj, F, W⟩
  have hj := Ay hj
  subst hj
  have H := K12
  refine vc tk 8 F W fun a w F W => ?_
  refine AW F Aa H (fun F H => ?_) fun F H => ?_
  ·
   refine AC (AR ?_)
   refine Im Aa ?_
   refine AR (AD (Ab ?_))
   have H := L8 _ H
   exact ⟨_, _, H, F.ra Aa, W⟩
  refine FL tk 3 F W fun a w F W => ?_
  refine Ju 13 [2, 3] [0, 1, 4, 5, 6, 7, 8, 9, 10, 11, 12] (fun ch a d v w h => by cases d <;> exact h) W MO (by kernel_rfl) ?_
  iterate 2 refine hm F Aa Aa Aa fun a F => ?_
  refine KV ?_
  iterate 4 refine hs F Aa Aa Aa (Ai F Aa).q fun a F => ?_
  obtain ⟨x42, h25, H⟩ := Ac H
  refine hs F Aa Aa Aa (Al (r := AY) Eu F Aa Aa (Af 0 Aa) h25).q fun a F => ?_
  refine hs F Aa Aa Aa (Ag (y := Value.agg #[Jint x42.1, Jint x42.2.1, Jint x42.2.2.1, Jint x42.2.2.2]) (j := 0) (i := x36) F Aa Aa (Af 0 Aa) h25 EK.to Ey Aa).q fun a F => ?_
  iterate 2 refine hs F Aa Aa Aa (Ai F Aa).q fun a F => ?_
  obtain ⟨x43, h26, H⟩ := Ac H
  refine hs F Aa Aa Aa (Al (r := AY) Eu F Aa Aa (Af 0 Aa) h26).q fun a F => ?_
  refine hs F Aa Aa Aa (Ag (y := Value.agg #[Jint x43.1, Jint x43.2.1, Jint x43.2.2.1, Jint x43.2.2.2]) (j := 0) (i := x30) F Aa Aa (Af 0 Aa) h26 EK.to Ey Aa).q fun a F => ?_
  obtain ⟨x44, h27, H⟩ := Ac H
  refine hs F Aa Aa Aa (Al (r := AY) Eu F Aa Aa (Af 0 Aa) h27).q fun a F => ?_
  refine M7 fun w W => ?_
  have W : Stw ⟨Y, X, w0⟩ [] [row v1 43 AY x27] w := W
  refine A0 (i := x30) (j := 0) (vs := (Cj x42)) (x' := x42) F W Aa Aa Aa (k := 0) Aa Aa h27 Ey Aa Aa Aa Aa (fun A cs _ => EK.sto (by rfl) _ _ _) fun w W => ?_
  obtain ⟨x45, h28, H⟩ := Ac H
  refine ls F W Aa (Al (r := AY) Eu F Aa Aa (Af 0 Aa) h28).q fun a w F W => ?_
  refine A0 (i := x36) (j := 0) (vs := (Cj x43)) (x' := x43) F W Aa Aa Aa (k := 0) Aa Aa h28 Ey Aa Aa Aa Aa (fun A cs _ => EK.sto (by rfl) _ _ _) fun w W => ?_
  refine BQ tk 14 F W fun a w F W => ?_
  refine Aw (Ab ?_)
  exact ⟨_, H, F.ra Aa, W⟩
 rintro a w ⟨x25, x26, hj, F, W⟩
 have hj := Ay hj
 subst hj
 have H := K7
 refine HH ?_
 refine Ju 13 [2, 3] [0, 1, 4, 5, 6, 7, 8, 9, 10, 11, 12] (fun ch a d v w h => by cases d <;> exact h) W MO (by kernel_rfl) ?_
 iterate 2 refine hm F Aa Aa Aa fun a F => ?_
 refine KV ?_
 iterate 4 refine hs F Aa Aa Aa (Ai F Aa).q fun a F => ?_
 obtain ⟨x46, h29, H⟩ := Ac H
 refine hs F Aa Aa Aa (Al (r := AY) Eu F Aa Aa (Af 0 Aa) h29).q fun a F => ?_
 refine hs F Aa Aa Aa (Ag (y := Value.agg #[Jint x46.1, Jint x46.2.1, Jint x46.2.2.1, Jint x46.2.2.2]) (j := 0) (i := p1) F Aa Aa (Af 0 Aa) h29 EK.to Ey Aa).q fun a F => ?_
 iterate 2 refine hs F Aa Aa Aa (Ai F Aa).q fun a F => ?_
 obtain ⟨x47, h30, H⟩ := Ac H
 refine hs F Aa Aa Aa (Al (r := AY) Eu F Aa Aa (Af 0 Aa) h30).q fun a F => ?_
 refine hs F Aa Aa Aa (Ag (y := Value.agg #[Jint x47.1, Jint x47.2.1, Jint x47.2.2.1, Jint x47.2.2.2]) (j := 0) (i := x26) F Aa Aa (Af 0 Aa) h30 EK.to Ey Aa).q fun a F => ?_
 obtain ⟨x48, h31, H⟩ := Ac H
 refine hs F Aa Aa Aa (Al (r := AY) Eu F Aa Aa (Af 0 Aa) h31).q fun a F => ?_
 refine M7 fun w W => ?_
 have W : Stw ⟨Y, X, w0⟩ [] [row v1 43 AY x25] w := W
 refine A0 (i := x26) (j := 0) (vs := (Cj x46)) (x' := x46) F W Aa Aa Aa (k := 0) Aa Aa h31 Ey Aa Aa Aa Aa (fun A cs _ => EK.sto (by rfl) _ _ _) fun w W => ?_
 obtain ⟨x49, h32, H⟩ := Ac H
 refine ls F W Aa (Al (r := AY) Eu F Aa Aa (Af 0 Aa) h32).q fun a w F W => ?_
 refine A0 (i := p1) (j := 0) (vs := (Cj x47)) (x' := x47) F W Aa Aa Aa (k := 0) Aa Aa h32 Ey Aa Aa Aa Aa (fun A cs _ => EK.sto (by rfl) _ _ _) fun w W => ?_
 refine BQ tk 9 F W fun a w F W => ?_
 refine Ap ?_
 have H := Ay H
 subst H
 refine FD (.inl Aa) F W Aa (Am F Aa) (Am F Aa) ?_
 exact ⟨(), Aa, W⟩
theorem Vn : type_of% Tryz.underlying88 := Tryz.underlying88
theorem aN : Has Tryz.prog 67 := Cv Tryz.func67
theorem Za : Has Tryz.prog 40 := Cv Tryz.func40
theorem Yz : (Tryz.prog.info? 142).bind (·.zero) = some (.int .u64 0) := by kernel_rfl
theorem OJ : Ty Tryz.prog 142 false 1 := ⟨by kernel_rfl, by kernel_rfl⟩
def DB (p0 : Int) : Option Int := (Fe (IntKind.u64.wrap p0)).bind fun x1 => (Vh (HL .u64 1 x1) x1).bind fun x2 => some x2
theorem JU (Y : Nat → Prop) (w0 : World)  (p0 : Int) (r : Int) (H : DB p0 = some r)  :
    ca_ 84 #[Jint p0] w0 fun e w' => e = .returned (.int .u64 r) ∧ Below w0.heap.size w0 w' := by
 refine enter Tryz.func84 Aa Tryz.ntmps84 Aa fun a F => ?_
 have W := Stw.start Y w0
 unfold DB at H
 refine vc tk 8 F W fun a w F W => ?_
 refine ls F W Aa (Kj Q3 Vn F Aa).q fun a w F W => ?_
 obtain ⟨x1, h1, H⟩ := Ac H
 refine ls F W Aa (Bc (v := Jint x1) F Zh Aa (fun w W => Iw any w (IntKind.u64.wrap p0) _ h1)) fun a w F W => ?_
 obtain ⟨x2, h2, H⟩ := Ac H
 refine ls F W Aa (T5 (JT h2).2 (Sb F Aa Aa (JT h2).1)).q fun a w F W => ?_
 refine BQ tk 3 F W fun a w F W => ?_
 refine Ap ?_
 have H := Ay H
 subst H
 refine A1 (.inl Aa) F W Aa (Am F Aa) ?_
 exact ⟨rfl, W.done⟩
theorem aH : Has Tryz.prog 84 := Cv Tryz.func84
def BN (p0 : Int) : Int × Int := (HX .u64 (HX .u64 (HX .u64 p0 (HL .u64 p0 13)) (Jq .u64 (HX .u64 p0 (HL .u64 p0 13)) 7)) (HL .u64 (HX .u64 (HX .u64 p0 (HL .u64 p0 13)) (Jq .u64 (HX .u64 p0 (HL .u64 p0 13)) 7)) 17), HX .u64 (HX .u64 (HX .u64 p0 (HL .u64 p0 13)) (Jq .u64 (HX .u64 p0 (HL .u64 p0 13)) 7)) (HL .u64 (HX .u64 (HX .u64 p0 (HL .u64 p0 13)) (Jq .u64 (HX .u64 p0 (HL .u64 p0 13)) 7)) 17))
theorem J7 (Y : Nat → Prop) (X : List Nat) (w0 : World) (q_p0 : Nat) (p0 : Int) (r : Int × Int) (H : BN p0 = r) (hL : Stw ⟨Y, X, w0⟩ [(q_p0, [.int .u64 p0])] [] w0) :
    ca_ 85 #[pp q_p0] w0 fun e w' => ∃ x : Unit, e = .returned (.int .u64 r.1) ∧ Stw ⟨Y, X, w0⟩ [(q_p0, [.int .u64 r.2])] [] w' := by
 refine enter Tryz.func85 Aa Tryz.ntmps85 Aa fun a F => ?_
 have W := hL
 unfold BN at H
 refine vc tk 6 F W fun a w F W => ?_
 refine Ik 9 W MO (by kernel_rfl) ?_
 refine qs F Aa (Ai F Aa).q fun a F => ?_
 refine qs F Aa (DQ F Aa).q fun a F => ?_
 refine qs F Aa (Bx (v := Value.int .u64 p0) 0 F Aa Aa OJ Aa).q fun a F => ?_
 refine qs F Aa (Ai F Aa).q fun a F => ?_
 refine qs F Aa (DQ F Aa).q fun a F => ?_
 refine qs F Aa (Bx (v := Value.int .u64 p0) 0 F Aa Aa OJ Aa).q fun a F => ?_
 refine qs F Aa (Sb F Aa Aa (by decide)).q fun a F => ?_
 refine qs F Aa (R3 F Aa Aa).q fun a F => ?_
 refine qs F Aa (DQ F Aa).q fun a F => ?_
 refine AA fun w W => ?_
 refine Ej 0 F W Aa Aa Aa OJ Aa Aa Aa fun w W => ?_
 refine BQ tk 3 F W fun a w F W => ?_
 refine Ik 9 W MO (by kernel_rfl) ?_
 refine qs F Aa (Ai F Aa).q fun a F => ?_
 refine qs F Aa (DQ F Aa).q fun a F => ?_
 refine qs F Aa (Bx (v := Value.int .u64 (HX .u64 p0 (HL .u64 p0 13))) 0 F Aa Aa OJ Aa).q fun a F => ?_
 refine qs F Aa (Ai F Aa).q fun a F => ?_
 refine qs F Aa (DQ F Aa).q fun a F => ?_
 refine qs F Aa (Bx (v := Value.int .u64 (HX .u64 p0 (HL .u64 p0 13))) 0 F Aa Aa OJ Aa).q fun a F => ?_
 refine qs F Aa (QQ F Aa Aa (by decide)).q fun a F => ?_
 refine qs F Aa (R3 F Aa Aa).q fun a F => ?_
 refine qs F Aa (DQ F Aa).q fun a F => ?_
 refine AA fun w W => ?_
 refine Ej 0 F W Aa Aa Aa OJ Aa Aa Aa fun w W => ?_
 refine BQ tk 3 F W fun a w F W => ?_
 refine Ik 9 W MO (by kernel_rfl) ?_
 refine qs F Aa (Ai F Aa).q fun a F => ?_
 refine qs F Aa (DQ F Aa).q fun a F => ?_
 refine qs F Aa (Bx (v := Value.int .u64 (HX .u64 (HX .u64 p0 (HL .u64 p0 13)) (Jq .u64 (HX .u64 p0 (HL .u64 p0 13)) 7))) 0 F Aa Aa OJ Aa).q fun a F => ?_
 refine qs F Aa (Ai F Aa).q fun a F => ?_
 refine qs F Aa (DQ F Aa).q fun a F => ?_
 refine qs F Aa (Bx (v := Value.int .u64 (HX .u64 (HX .u64 p0 (HL .u64 p0 13)) (Jq .u64 (HX .u64 p0 (HL .u64 p0 13)) 7))) 0 F Aa Aa OJ Aa).q fun a F => ?_
 refine qs F Aa (Sb F Aa Aa (by decide)).q fun a F => ?_
 refine qs F Aa (R3 F Aa Aa).q fun a F => ?_
 refine qs F Aa (DQ F Aa).q fun a F => ?_
 refine AA fun w W => ?_
 refine Ej 0 F W Aa Aa Aa OJ Aa Aa Aa fun w W => ?_
 refine BQ tk 5 F W fun a w F W => ?_
 refine ls F W Aa (DQ F Aa).q fun a w F W => ?_
 refine Ii tk 4 [0] F W (ai fun a w F W => ?_)
 refine Ap ?_
 subst H
 refine A1 (.inl Aa) F W Aa (Am F Aa) ?_
 exact ⟨(), Aa, W⟩
theorem Xm : type_of% Tryz.underlying142 := Tryz.underlying142
theorem aS : Has Tryz.prog 85 := Cv Tryz.func85
def Bv (p1 : Int) (p2 : Int) (x1 : Int) : ((List (Int × Int × Int × Int)) × Int × Int) → Option (((List (Int × Int × Int × Int)) × Int × Int) ⊕ (List (Int × Int × Int × Int)))
  | (x2, x3, x4) => (if x3 ≤ (An ((An (p1 + (An ((An (Int.tdiv (An (p2 - p1)) 4)) * 2)))) + 1)) then (if (An (p2 - p1)) ≤ (An (Oa .u64 ((BN x4).1) (IntKind.u64.wrap (x1 - 1)))) then some (An ((An (Oa .u64 ((BN x4).1) (IntKind.u64.wrap (x1 - 1)))) - (An (p2 - p1)))) else some (An (Oa .u64 ((BN x4).1) (IntKind.u64.wrap (x1 - 1))))).bind fun x5 => (ix x2 (An (p1 + x5))).bind fun x6 => (ix x2 x3).bind fun x7 => (ix x2 x3).bind fun x8 => (ix (Ah x2 x3 x6) (An (p1 + x5))).bind fun x9 => some (.inl ((Ah (Ah x2 x3 x6) (An (p1 + x5)) x7), An (x3 + 1), (BN x4).2)) else some (.inr x2))
def BB (p0 : List (Int × Int × Int × Int)) (p1 : Int) (p2 : Int) : Option (List (Int × Int × Int × Int)) := (if 8 ≤ (An (p2 - p1)) then (DB (An (p2 - p1))).bind fun x1 => Aq (Bv p1 p2 x1) (p0, An ((An (p1 + (An ((An (Int.tdiv (An (p2 - p1)) 4)) * 2)))) - 1), IntKind.u64.wrap (An (p2 - p1))) else some p0)
theorem F8 (Y : Nat → Prop) (X : List Nat) (w0 : World) (v1 : Value) (p0 : List (Int × Int × Int × Int)) (p1 : Int) (p2 : Int) (r : (List (Int × Int × Int × Int))) (H : BB p0 p1 p2 = some r) (hL : Stw ⟨Y, X, w0⟩ [] [row v1 43 AY p0] w0) :
    ca_ 62 #[v1, Jint p1, Jint p2, .func (.func 22) #[] #[]] w0 fun e w' => ∃ x : Unit, e = .returned (.tuple #[]) ∧ Stw ⟨Y, X, w0⟩ [] [row v1 43 AY r] w' := by
 refine enter Tryz.func62 Aa Tryz.ntmps62 Aa fun a F => ?_
 have W := hL
 unfold BB at H
 refine vc tk 14 F W fun a w F W => ?_
 refine AW F Aa H (fun F H => ?_) fun F H => ?_
 ·
  refine vc tk 3 F W fun a w F W => ?_
  refine ls F W Aa (Kj Q3 Xm F Aa).q fun a w F W => ?_
  refine B6 (cs := [.int .u64 0]) F W Aa Yz Aa fun b1 a w F W => ?_
  refine Ej 0 F W Aa Aa Aa OJ Aa Aa Aa fun w W => ?_
  refine BQ tk 5 F W fun a w F W => ?_
  obtain ⟨x1, h1, H⟩ := Ac H
  refine ls F W Aa (Bc (v := Value.int .u64 x1) F aH Aa (fun w W => JU any w (An (p2 - p1)) _ h1)) fun a w F W => ?_
  refine BQ tk 7 F W fun a w F W => ?_
  refine ls F W Aa (Lo F Aa Aa (by decide) Aa).q fun a w F W => ?_
  refine BQ tk 7 F W fun a w F W => ?_
  refine AN H (fun s a w => Fr 67 [] [(0, v1), (1, Jint p1), (8, Jint (An (p2 - p1))), (9, pp b1), (10, .int .u64 x1), (11, Jint s.2.1)] a ∧ Stw ⟨Y, X, w0⟩ [(b1, [.int .u64 s.2.2])] [row v1 43 AY s.1] w) ⟨F.ra Aa, W⟩ fun s o a w H L1 hR => ?_
  obtain ⟨x2, x3, x4⟩ := s
  obtain ⟨F, W⟩ := hR
  have F : Fr 67 [] [(0, v1), (1, Jint p1), (8, Jint (An (p2 - p1))), (9, pp b1), (10, .int .u64 x1), (11, Jint x3)] a := F
  have W : Stw ⟨Y, X, w0⟩ [(b1, [.int .u64 x4])] [row v1 43 AY x2] w := W
  rw [Bv] at H
  refine vc tk 6 F W fun a w F W => ?_
  refine ls F W Aa (Lo F Aa Aa (by decide) Aa).q fun a w F W => ?_
  refine BQ tk 6 F W fun a w F W => ?_
  refine AW F Aa H (fun F H => ?_) fun F H => ?_
  ·
   refine FL tk 6 F W fun a w F W => ?_
   refine A9 (Ml := [(b1, [.int .u64 x4])]) (Zl := []) (β := Unit) (rv := fun x => .int .u64 ((BN x4).1)) (MM := fun x => [(b1, [.int .u64 ((BN x4).2)])]) (ZZ := fun x => []) F W aS Aa Aa (fun hL => J7 _ _ w b1 x4 _ Aa hL) fun x a w F W => ?_
   have W : Stw ⟨Y, X, w0⟩ [(b1, [.int .u64 ((BN x4).2)])] [row v1 43 AY x2] w := W
   refine vl tk 3 F W fun a w F W => ?_
   refine ls F W Aa (Kj Vn Q3 F Aa).q fun a w F W => ?_
   refine vl tk 2 F W fun a w F W => ?_
   refine Ab ?_
   obtain ⟨o2, G2, K2⟩ := Ac H
   refine As (fun a w => ∃ x5 : Int, some (x5) = some o2 ∧ Fr 67 [] [(0, v1), (1, Jint p1), (8, Jint (An (p2 - p1))), (9, pp b1), (10, .int .u64 x1), (11, Jint x3), (12, Jint x5)] a ∧ Stw ⟨Y, X, w0⟩ [(b1, [.int .u64 ((BN x4).2)])] [row v1 43 AY x2] w) ?_ ?_
   ·
    have H := G2
    refine vc tk 7 F W fun a w F W => ?_
    refine AW F Aa H (fun F H => ?_) fun F H => ?_
    ·
     refine vc tk 6 F W fun a w F W => ?_
     refine Ab ?_
     exact ⟨_, H, F.ra Aa, W⟩
    refine AE (Ab ?_)
    exact ⟨_, H, F.ra Aa, W⟩
   rintro a w ⟨x5, hj, F, W⟩
   have hj := Ay hj
   subst hj
   have H := K2
   refine ER [(true, 0), (true, 1), (true, 2), (true, 3), (true, 4), (true, 5), (true, 6), (true, 7), (true, 8), (true, 9), (true, 10), (true, 11), (true, 12), (true, 13), (true, 14), (true, 15), (true, 16), (false, 17), (true, 18), (false, 19)] (CN ⟨Y, X, w0⟩ [] [(some 17, row v1 43 AY x2)]) (fun ch a d v w h => by cases d <;> exact h) MO (by kernel_rfl) W (fun w W => ⟨_, _, W, Ak, (all_cons (fun _ => (.head _)) Ak)⟩) fun w W => ?_
   iterate 5 refine A6 (R := []) F Aa Aa (yC fun M Z hN hZ => Ai F Aa) Aa Aa fun a F => ?_
   refine A6 (R := []) F Aa Aa (yC fun M Z hN hZ => Iy F Aa Aa Aa) Aa Aa fun a F => ?_
   iterate 3 refine A6 (R := []) F Aa Aa (yC fun M Z hN hZ => Ai F Aa) Aa Aa fun a F => ?_
   refine A6 (R := []) F Aa Aa (yC fun M Z hN hZ => Iy F Aa Aa Aa) Aa Aa fun a F => ?_
   obtain ⟨x6, h2, H⟩ := Ac H
   refine A6 (R := []) F Aa Aa (yC fun M Z hN hZ => Ba (r := AY) Eu F Aa Aa (C2 W (Af 0 Aa)) h2) Aa Aa fun a F => ?_
   refine A6 (R := [17]) F Aa Aa (yC fun M Z hN hZ => Ag (y := Value.agg #[Jint x6.1, Jint x6.2.1, Jint x6.2.2.1, Jint x6.2.2.2]) (j := 0) (i := An (p1 + x5)) F Aa Aa (Dh (hZ ((some 17), row v1 43 AY x2) (.head _) Aa)) h2 EK.to Ey Aa) (by kernel_rfl) Aa fun a F => ?_
   iterate 2 refine A6 (R := []) F Aa Aa (yC fun M Z hN hZ => Ai F Aa) Aa Aa fun a F => ?_
   obtain ⟨x7, h3, H⟩ := Ac H
   refine A6 (R := []) F Aa Aa (yC fun M Z hN hZ => Ba (r := AY) Eu F Aa Aa (C2 W (Af 0 Aa)) h3) Aa Aa fun a F => ?_
   refine A6 (R := [17]) F Aa Aa (yC fun M Z hN hZ => Ag (y := Value.agg #[Jint x7.1, Jint x7.2.1, Jint x7.2.2.1, Jint x7.2.2.2]) (j := 0) (i := x3) F Aa Aa (Dh (hZ ((some 17), row v1 43 AY x2) (.head _) Aa)) h3 EK.to Ey Aa) (by kernel_rfl) Aa fun a F => ?_
   obtain ⟨x8, h4, H⟩ := Ac H
   refine A6 (R := []) F Aa Aa (yC fun M Z hN hZ => Ba (r := AY) Eu F Aa Aa (C2 W (Af 0 Aa)) h4) Aa Aa fun a F => ?_
   refine F1 Aa ?_
   refine A0 (i := x3) (j := 0) (vs := (Cj x6)) (x' := x6) F W Aa Aa Aa (k := 0) Aa Aa h4 Ey Aa Aa Aa Aa (fun A cs _ => EK.sto (by rfl) _ _ _) fun w W => ?_
   refine Cn (N2 := []) (NZ2 := []) (N3 := []) (NZ3 := [(some 17, row v1 43 AY x2)]) W Aa Aa Ak (all_cons (fun h => AH (by kernel_rfl) h) Ak) ?_
   obtain ⟨x9, h5, H⟩ := Ac H
   refine A6 (R := []) F Aa Aa (yC fun M Z hN hZ => Ba (r := AY) Eu F Aa Aa (C2 W (Af 0 Aa)) h5) Aa Aa fun a F => ?_
   refine F1 Aa ?_
   refine A0 (i := An (p1 + x5)) (j := 0) (vs := (Cj x7)) (x' := x7) F W Aa Aa Aa (k := 0) Aa Aa h5 Ey Aa Aa Aa Aa (fun A cs _ => EK.sto (by rfl) _ _ _) fun w W => ?_
   refine Cn (N2 := []) (NZ2 := []) (N3 := []) (NZ3 := [(some 17, row v1 43 AY x2)]) W Aa Aa Ak (all_cons (fun h => AH (by kernel_rfl) h) Ak) ?_
   refine Hd (Aw ?_)
   refine vn tk 5 F W fun a w F W => ?_
   refine Ab ?_
   exact ⟨_, H, F.ra Aa, W⟩
  refine AC ?_
  iterate 2 refine AR ?_
  refine AD ?_
  have H := L1 _ H
  have H := Ay H
  subst H
  refine Jh (.inr Aa) F Aa ?_
  have W := W.sub (M' := []) (Z' := [row v1 43 AY x2]) nl sr
  exact ⟨(), Aa, W⟩
 refine AE ?_
 have H := Ay H
 subst H
 refine Jh (.inr Aa) F Aa ?_
 exact ⟨(), Aa, W⟩
theorem b6 : Has Tryz.prog 62 := Cv Tryz.func62
def Au (fRec : (List (Int × Int × Int × Int)) → Int → Int → Int → Option (List (Int × Int × Int × Int))) : ((List (Int × Int × Int × Int)) × Int × Int × Int × Bool × Bool) → Option (((List (Int × Int × Int × Int)) × Int × Int × Int × Bool × Bool) ⊕ (List (Int × Int × Int × Int)))
  | (x1, x2, x3, x4, x5, x6) => (if (An (x3 - x2)) ≤ 12 then (B4 x1 x2 x3).bind fun x7 => some (.inr x7) else (if x4 = 0 then (Cw x1 x2 x3).bind fun x8 => some (.inr x8) else (if (!x5) = true then (BB x1 x2 x3).bind fun x11 => some (x11, An (x4 - 1)) else some (x1, x4)).bind fun (x9, x10) => (Ce x9 x2 x3).bind fun x12 => (if x12.2 = 2 then (BF x9 x2 x3).bind fun x16 => some (x16, An ((An (x3 - 1)) - (An (x12.1 - x2))), 1) else some (x9, x12.1, x12.2)).bind fun (x13, x14, x15) => GT (if (x5 && (x6 && decide (x15 = 1))) = true then (Bg x13 x2 x3).bind fun x18 => (if x18.1 = true then some (.inr (.inr x18.2)) else some (.inl x18.2)) else some (.inl x13)) fun x17 => (if 0 < x2 then (ix x17 (An (x2 - 1))).bind fun x20 => (ix x17 x14).bind fun x21 => (Cc x20 x21).bind fun x22 => some (!(decide (x22 < 0))) else some false).bind fun x19 => (if x19 = true then (BW x17 x2 x3 x14).bind fun x23 => some (.inl (x23.2, x23.1, x3, x10, (x5 && (x6 || true)), (bif x5 then x6 else x6))) else (Co x17 x2 x3 x14).bind fun x24 => (if (An (x24.1 - x2)) < (An (x3 - x24.1)) then (fRec x24.2.2 x2 x24.1 x10).bind fun x25 => some (.inl (x25, An (x24.1 + 1), x3, x10, decide ((An (Int.tdiv (An (x3 - x2)) 8)) ≤ (An (x24.1 - x2))), x24.2.1)) else (fRec x24.2.2 (An (x24.1 + 1)) x3 x10).bind fun x26 => some (.inl (x26, x2, x24.1, x10, decide ((An (Int.tdiv (An (x3 - x2)) 8)) ≤ (An (x3 - x24.1))), x24.2.1))))))
def DC (fRec : (List (Int × Int × Int × Int)) → Int → Int → Int → Option (List (Int × Int × Int × Int))) (p0 : List (Int × Int × Int × Int)) (p1 : Int) (p2 : Int) (p3 : Int) : Option (List (Int × Int × Int × Int)) := Aq (Au fRec) (p0, p1, p2, p3, true, true)
def AG : Nat → (List (Int × Int × Int × Int)) → Int → Int → Int → Option (List (Int × Int × Int × Int))
  | 0 => fun _ _ _ _ => none
  | n + 1 => DC (AG n)
def Dj (p0 : List (Int × Int × Int × Int)) (p1 : Int) (p2 : Int) (p3 : Int) : Option (List (Int × Int × Int × Int)) := Sy fun n => AG n p0 p1 p2 p3
theorem GM (fRec : (List (Int × Int × Int × Int)) → Int → Int → Int → Option (List (Int × Int × Int × Int))) (ih : ∀ (Y : Nat → Prop) (X : List Nat) (w0 : World) (v1 : Value) (p0 : List (Int × Int × Int × Int)) (p1 : Int) (p2 : Int) (p3 : Int) (r : (List (Int × Int × Int × Int))) (H : fRec p0 p1 p2 p3 = some r) (hL : Stw ⟨Y, X, w0⟩ [] [row v1 43 AY p0] w0), ca_ 40 #[v1, Jint p1, Jint p2, Jint p3, .func (.func 22) #[] #[]] w0 fun e w' => ∃ x : Unit, e = .returned (.tuple #[]) ∧ Stw ⟨Y, X, w0⟩ [] [row v1 43 AY r] w') (Y : Nat → Prop) (X : List Nat) (w0 : World) (v1 : Value) (p0 : List (Int × Int × Int × Int)) (p1 : Int) (p2 : Int) (p3 : Int) (r : (List (Int × Int × Int × Int))) (H : DC fRec p0 p1 p2 p3 = some r) (hL : Stw ⟨Y, X, w0⟩ [] [row v1 43 AY p0] w0) :
    ca_ 40 #[v1, Jint p1, Jint p2, Jint p3, .func (.func 22) #[] #[]] w0 fun e w' => ∃ x : Unit, e = .returned (.tuple #[]) ∧ Stw ⟨Y, X, w0⟩ [] [row v1 43 AY r] w' := by
 refine enter Tryz.func40 Aa Tryz.ntmps40 Aa fun a F => ?_
 have W := hL
 unfold DC at H
 refine vc tk 11 F W fun a w F W => ?_
 refine AN H (fun s a w => Fr 148 [] [(0, v1), (1, Jint s.2.1), (2, Jint s.2.2.1), (3, Jint s.2.2.2.1), (4, .func (.func 22) #[] #[]), (10, .bool s.2.2.2.2.1), (11, .bool s.2.2.2.2.2)] a ∧ Stw ⟨Y, X, w0⟩ [] [row v1 43 AY s.1] w) ⟨F.ra Aa, W⟩ fun s o a w H L1 hR => ?_
 obtain ⟨x1, x2, x3, x4, x5, x6⟩ := s
 obtain ⟨F, W⟩ := hR
 have F : Fr 148 [] [(0, v1), (1, Jint x2), (2, Jint x3), (3, Jint x4), (4, .func (.func 22) #[] #[]), (10, .bool x5), (11, .bool x6)] a := F
 have W : Stw ⟨Y, X, w0⟩ [] [row v1 43 AY x1] w := W
 rw [Au] at H
 refine vc tk 16 F W fun a w F W => ?_
 refine AW F Aa H (fun F H => ?_) fun F H => ?_
 ·
  refine vc tk 6 F W fun a w F W => ?_
  obtain ⟨x7, h1, H⟩ := Ac H
  refine A9 (Ml := []) (Zl := [row v1 43 AY x1]) (β := Unit) (rv := fun x => .tuple #[]) (MM := fun x => []) (ZZ := fun x => [row v1 43 AY x7]) F W bT Aa Aa (fun hL => F9 _ _ w (v1) x1 x2 x3 _ h1 hL) fun x a w F W => ?_
  have W : Stw ⟨Y, X, w0⟩ [] [row v1 43 AY x7] w := W
  refine BQ tk 2 F W fun a w F W => ?_
  refine Ap (AF (AV (AF (AV ?_))))
  have H := L1 _ H
  have H := Ay H
  subst H
  refine Jh (.inl Aa) F Aa ?_
  exact ⟨(), Aa, W⟩
 refine FL tk 9 F W fun a w F W => ?_
 refine AW F Aa H (fun F H => ?_) fun F H => ?_
 ·
  refine vc tk 6 F W fun a w F W => ?_
  obtain ⟨x8, h2, H⟩ := Ac H
  refine A9 (Ml := []) (Zl := [row v1 43 AY x1]) (β := Unit) (rv := fun x => .tuple #[]) (MM := fun x => []) (ZZ := fun x => [row v1 43 AY x8]) F W ZL Aa Aa (fun hL => GS _ _ w (v1) x1 x2 x3 _ h2 hL) fun x a w F W => ?_
  have W : Stw ⟨Y, X, w0⟩ [] [row v1 43 AY x8] w := W
  refine BQ tk 2 F W fun a w F W => ?_
  refine Ap (AF (AV (AF (AV ?_))))
  have H := L1 _ H
  have H := Ay H
  subst H
  refine Jh (.inl Aa) F Aa ?_
  exact ⟨(), Aa, W⟩
 refine AE (Ab ?_)
 obtain ⟨o2, G2, K2⟩ := Ac H
 refine As (fun a w => ∃ x9 : List (Int × Int × Int × Int), ∃ x10 : Int, some ((x9, x10)) = some o2 ∧ Fr 148 [] [(0, v1), (1, Jint x2), (2, Jint x3), (3, Jint x10), (4, .func (.func 22) #[] #[]), (10, .bool x5), (11, .bool x6), (12, Jint (An (x3 - x2)))] a ∧ Stw ⟨Y, X, w0⟩ [] [row v1 43 AY x9] w) ?_ ?_
 ·
  have H := G2
  refine vc tk 6 F W fun a w F W => ?_
  refine CS F Aa H (fun F H => ?_) fun F H => ?_
  ·
   refine vc tk 6 F W fun a w F W => ?_
   obtain ⟨x11, h3, H⟩ := Ac H
   refine A9 (Ml := []) (Zl := [row v1 43 AY x1]) (β := Unit) (rv := fun x => .tuple #[]) (MM := fun x => []) (ZZ := fun x => [row v1 43 AY x11]) F W b6 Aa Aa (fun hL => F8 _ _ w (v1) x1 x2 x3 _ h3 hL) fun x a w F W => ?_
   have W : Stw ⟨Y, X, w0⟩ [] [row v1 43 AY x11] w := W
   refine BQ tk 7 F W fun a w F W => ?_
   refine Ab ?_
   exact ⟨_, _, H, F.ra Aa, W⟩
  refine AE (Ab ?_)
  exact ⟨_, _, H, F.ra Aa, W⟩
 rintro a w ⟨x9, x10, hj, F, W⟩
 have hj := Ay hj
 subst hj
 have H := K2
 refine vc tk 6 F W fun a w F W => ?_
 obtain ⟨x12, h4, H⟩ := Ac H
 refine ls F W Aa (Bc (v := Value.tuple #[Jint x12.1, Jint x12.2]) F aE Aa (fun w W => GD any w (v1) x9 x2 x3 _ h4 (EJ (Af 0 Aa) W))) fun a w F W => ?_
 refine ls F W Aa (Ai F Aa).q fun a w F W => ?_
 refine ls F W Aa (Bi (v := Jint x12.1) F Aa Aa).q fun a w F W => ?_
 refine ls F W Aa (Bi (v := Jint x12.2) F Aa Aa).q fun a w F W => ?_
 refine vl tk 3 F W fun a w F W => ?_
 refine Ab ?_
 obtain ⟨o3, G3, K3⟩ := Ac H
 refine As (fun a w => ∃ x13 : List (Int × Int × Int × Int), ∃ x14 : Int, ∃ x15 : Int, some ((x13, x14, x15)) = some o3 ∧ Fr 148 [] [(0, v1), (1, Jint x2), (2, Jint x3), (3, Jint x10), (4, .func (.func 22) #[] #[]), (10, .bool x5), (11, .bool x6), (12, Jint (An (x3 - x2))), (13, Jint x14), (14, Jint x15)] a ∧ Stw ⟨Y, X, w0⟩ [] [row v1 43 AY x13] w) ?_ ?_
 ·
  have H := G3
  refine vc tk 6 F W fun a w F W => ?_
  refine AW F Aa H (fun F H => ?_) fun F H => ?_
  ·
   refine vc tk 6 F W fun a w F W => ?_
   obtain ⟨x16, h5, H⟩ := Ac H
   refine A9 (Ml := []) (Zl := [row v1 43 AY x9]) (β := Unit) (rv := fun x => .tuple #[]) (MM := fun x => []) (ZZ := fun x => [row v1 43 AY x16]) F W bD Aa Aa (fun hL => Gi _ _ w (v1) x9 x2 x3 _ h5 hL) fun x a w F W => ?_
   have W : Stw ⟨Y, X, w0⟩ [] [row v1 43 AY x16] w := W
   refine BQ tk 16 F W fun a w F W => ?_
   refine Ab ?_
   exact ⟨_, _, _, H, F.ra Aa, W⟩
  refine AE (Ab ?_)
  exact ⟨_, _, _, H, F.ra Aa, W⟩
 rintro a w ⟨x13, x14, x15, hj, F, W⟩
 have hj := Ay hj
 subst hj
 have H := K3
 obtain ⟨o4, G4, K4, L4⟩ := Md H
 refine As (fun a w => ∃ x17 : List (Int × Int × Int × Int), some (Sum.inl x17) = some o4 ∧ Fr 148 [] [(0, v1), (1, Jint x2), (2, Jint x3), (3, Jint x10), (4, .func (.func 22) #[] #[]), (10, .bool (x5 && (x6 || true))), (11, .bool (bif x5 then x6 else x6)), (12, Jint (An (x3 - x2))), (13, Jint x14)] a ∧ Stw ⟨Y, X, w0⟩ [] [row v1 43 AY x17] w) ?_ ?_
 ·
  have H := G4
  refine As (fun a w => Fr 148 [] [(0, v1), (1, Jint x2), (2, Jint x3), (3, Jint x10), (4, .func (.func 22) #[] #[]), (10, .bool (x5 && (x6 || true))), (11, .bool (bif x5 then x6 else x6)), (12, Jint (An (x3 - x2))), (13, Jint x14), (75, .bool (x5 && (x6 && decide (x15 = 1))))] a ∧ Stw ⟨Y, X, w0⟩ [] [row v1 43 AY x13] w) ?_ ?_
  ·
   refine vc tk 3 F W fun a w F W => ?_
   rcases bxq x5 with hb0 | hb0
   ·
    rw [hb0] at F
    refine vl tk 3 F W fun a w F W => ?_
    rcases bxq x6 with hb1 | hb1
    ·
     rw [hb1] at F
     refine vl tk 4 F W fun a w F W => ?_
     refine Ab ?_
     exact ⟨F.re ⟨rfl, Aa, Aa, Aa, Aa, (HA (by try rw [hb0]; try rw [hb1]; all_goals simp only [Hw])), (HA (by try rw [hb0]; try rw [hb1]; all_goals simp only [Hw])), Aa, Aa, (HA (by try rw [hb0]; try rw [hb1]; all_goals simp only [Hw])), trivial⟩, W⟩
    rw [hb1] at F
    refine vl tk 4 F W fun a w F W => ?_
    refine Ab ?_
    exact ⟨F.re ⟨rfl, Aa, Aa, Aa, Aa, (HA (by try rw [hb0]; try rw [hb1]; all_goals simp only [Hw])), (HA (by try rw [hb0]; try rw [hb1]; all_goals simp only [Hw])), Aa, Aa, (HA (by try rw [hb0]; try rw [hb1]; all_goals simp only [Hw])), trivial⟩, W⟩
   rw [hb0] at F
   refine vl tk 7 F W fun a w F W => ?_
   refine Ab ?_
   exact ⟨F.re ⟨rfl, Aa, Aa, Aa, Aa, (HA (by try rw [hb0]; all_goals simp only [Hw])), (HA (by try rw [hb0]; all_goals simp only [Hw])), Aa, Aa, (HA (by try rw [hb0]; all_goals simp only [Hw])), trivial⟩, W⟩
  rintro a w ⟨F, W⟩
  refine CS F Aa H (fun F H => ?_) fun F H => ?_
  ·
   refine vc tk 6 F W fun a w F W => ?_
   obtain ⟨x18, h6, H⟩ := Ac H
   refine A9 (Ml := []) (Zl := [row v1 43 AY x13]) (β := Unit) (rv := fun x => .bool x18.1) (MM := fun x => []) (ZZ := fun x => [row v1 43 AY x18.2]) F W aL Aa Aa (fun hL => E3 _ _ w (v1) x13 x2 x3 _ h6 hL) fun x a w F W => ?_
   have W : Stw ⟨Y, X, w0⟩ [] [row v1 43 AY x18.2] w := W
   refine BQ tk 2 F W fun a w F W => ?_
   refine CS F Aa H (fun F H => ?_) fun F H => ?_
   ·
    refine Ap (AF (AV (AF (AV ?_))))
    have H := L4 _ H
    have H := L1 _ H
    have H := Ay H
    subst H
    refine Jh (.inl Aa) F Aa ?_
    exact ⟨(), Aa, W⟩
   refine AE (Ab ?_)
   exact ⟨_, H, F.ra Aa, W⟩
  refine AE (Ab ?_)
  exact ⟨_, H, F.ra Aa, W⟩
 rintro a w ⟨x17, hj, F, W⟩
 have H := K4 _ hj
 refine HH ?_
 obtain ⟨o5, G5, K5⟩ := Ac H
 refine As (fun a w => ∃ x19 : Bool, some (x19) = some o5 ∧ Fr 148 [] [(0, v1), (1, Jint x2), (2, Jint x3), (3, Jint x10), (4, .func (.func 22) #[] #[]), (10, .bool (x5 && (x6 || true))), (11, .bool (bif x5 then x6 else x6)), (12, Jint (An (x3 - x2))), (13, Jint x14), (97, .bool x19)] a ∧ Stw ⟨Y, X, w0⟩ [] [row v1 43 AY x17] w) ?_ ?_
 ·
  have H := G5
  refine Bz W MO (by kernel_rfl) ?_
  refine qs F Aa (Ai F Aa).q fun a F => ?_
  refine qs F Aa (QJ F Aa Aa).q fun a F => ?_
  refine qs F Aa (Ai F Aa).q fun a F => ?_
  rcases bxq (decide (0 < x2)) with hb | hb
  ·
   have H := DU (Fa hb) H
   rw [hb] at F
   iterate 3 refine AZ F (Ad F Aa Aa Aa Aa) Aa (Ao Aa) (Ai F Aa).q fun a F => ?_
   refine AZ F (Ad F Aa Aa Aa Aa) Aa (Ao Aa) (Ek F Aa Aa Aa).q fun a F => ?_
   obtain ⟨x20, h7, H⟩ := Ac H
   refine AZ F (Ad F Aa Aa Aa Aa) Aa (Ao Aa) (Al (r := AY) Eu F Aa Aa (Af 0 Aa) h7).q fun a F => ?_
   refine AZ F (Ad F Aa Aa Aa Aa) Aa (Ao Aa) (Ag (y := Value.agg #[Jint x20.1, Jint x20.2.1, Jint x20.2.2.1, Jint x20.2.2.2]) (j := 0) (i := An (x2 - 1)) F Aa Aa (Af 0 Aa) h7 EK.to Ey Aa).q fun a F => ?_
   iterate 2 refine AZ F (Ad F Aa Aa Aa Aa) Aa (Ao Aa) (Ai F Aa).q fun a F => ?_
   obtain ⟨x21, h8, H⟩ := Ac H
   refine AZ F (Ad F Aa Aa Aa Aa) Aa (Ao Aa) (Al (r := AY) Eu F Aa Aa (Af 0 Aa) h8).q fun a F => ?_
   refine AZ F (Ad F Aa Aa Aa Aa) Aa (Ao Aa) (Ag (y := Value.agg #[Jint x21.1, Jint x21.2.1, Jint x21.2.2.1, Jint x21.2.2.2]) (j := 0) (i := x14) F Aa Aa (Af 0 Aa) h8 EK.to Ey Aa).q fun a F => ?_
   obtain ⟨x22, h9, H⟩ := Ac H
   refine AZ F (Ad F Aa Aa Aa Aa) Aa (Ao Aa) (E5 (ws := (Jv x20 x21)) (v := Jint x22) F RZ Aa (fun w W => Cm any w x20 x21 _ h9)) fun a F => ?_
   refine AZ F (Ad F Aa Aa Aa Aa) Aa (Ao Aa) (GV F Aa Aa).q fun a F => ?_
   refine AZ F (Ad F Aa Aa Aa Aa) Aa (Ao Aa) (I5 F Aa).q fun a F => ?_
   refine qs F Aa (C4 F Aa Aa Aa).q fun a F => ?_
   refine AA fun w W => ?_
   refine Ab ?_
   exact ⟨_, H, F.ra Aa, W⟩
  have H := DS (E4 hb) H
  rw [hb] at F
  iterate 13 refine Dn F (CX F Aa Aa Aa Aa Aa) Aa Aa fun a F => ?_
  refine qs F Aa (Dw F Aa Aa Aa).q fun a F => ?_
  refine AA fun w W => ?_
  refine Ab ?_
  exact ⟨_, H, F.ra Aa, W⟩
 rintro a w ⟨x19, hj, F, W⟩
 have hj := Ay hj
 subst hj
 have H := K5
 refine CS F Aa H (fun F H => ?_) fun F H => ?_
 ·
  refine vc tk 7 F W fun a w F W => ?_
  obtain ⟨x23, h10, H⟩ := Ac H
  refine A9 (Ml := []) (Zl := [row v1 43 AY x17]) (β := Unit) (rv := fun x => Jint x23.1) (MM := fun x => []) (ZZ := fun x => [row v1 43 AY x23.2]) F W bL Aa Aa (fun hL => F0 _ _ w (v1) x17 x2 x3 x14 _ h10 hL) fun x a w F W => ?_
  have W : Stw ⟨Y, X, w0⟩ [] [row v1 43 AY x23.2] w := W
  refine BQ tk 9 F W fun a w F W => ?_
  refine AC (AR (AD (Ab ?_)))
  exact ⟨_, H, F.ra Aa, W⟩
 refine FL tk 9 F W fun a w F W => ?_
 obtain ⟨x24, h11, H⟩ := Ac H
 refine A9 (Ml := []) (Zl := [row v1 43 AY x17]) (β := Unit) (rv := fun x => .tuple #[Jint x24.1, .bool x24.2.1]) (MM := fun x => []) (ZZ := fun x => [row v1 43 AY x24.2.2]) F W aN Aa Aa (fun hL => GK _ _ w (v1) x17 x2 x3 x14 _ h11 hL) fun x a w F W => ?_
 have W : Stw ⟨Y, X, w0⟩ [] [row v1 43 AY x24.2.2] w := W
 refine ls F W Aa (Ai F Aa).q fun a w F W => ?_
 refine ls F W Aa (Bi (v := Jint x24.1) F Aa Aa).q fun a w F W => ?_
 refine ls F W Aa (Bi (v := Value.bool x24.2.1) F Aa Aa).q fun a w F W => ?_
 refine BQ tk 25 F W fun a w F W => ?_
 refine ls F W Aa (Lo F Aa Aa (by decide) Aa).q fun a w F W => ?_
 refine BQ tk 10 F W fun a w F W => ?_
 refine AW F Aa H (fun F H => ?_) fun F H => ?_
 ·
  refine vc tk 15 F W fun a w F W => ?_
  obtain ⟨x25, h12, H⟩ := Ac H
  refine A9 (Ml := []) (Zl := [row v1 43 AY x24.2.2]) (β := Unit) (rv := fun x => .tuple #[]) (MM := fun x => []) (ZZ := fun x => [row v1 43 AY x25]) F W Za Aa Aa (fun hL => ih _ _ w (v1) x24.2.2 x2 x24.1 x10 _ h12 hL) fun x a w F W => ?_
  have W : Stw ⟨Y, X, w0⟩ [] [row v1 43 AY x25] w := W
  refine BQ tk 7 F W fun a w F W => ?_
  refine Aw (Ab ?_)
  exact ⟨_, H, F.ra Aa, W⟩
 refine vc tk 16 F W fun a w F W => ?_
 obtain ⟨x26, h13, H⟩ := Ac H
 refine A9 (Ml := []) (Zl := [row v1 43 AY x24.2.2]) (β := Unit) (rv := fun x => .tuple #[]) (MM := fun x => []) (ZZ := fun x => [row v1 43 AY x26]) F W Za Aa Aa (fun hL => ih _ _ w (v1) x24.2.2 (An (x24.1 + 1)) x3 x10 _ h13 hL) fun x a w F W => ?_
 have W : Stw ⟨Y, X, w0⟩ [] [row v1 43 AY x26] w := W
 refine BQ tk 6 F W fun a w F W => ?_
 refine Aw (Ab ?_)
 exact ⟨_, H, F.ra Aa, W⟩
theorem GP : ∀ (n : Nat) (Y : Nat → Prop) (X : List Nat) (w0 : World) (v1 : Value) (p0 : List (Int × Int × Int × Int)) (p1 : Int) (p2 : Int) (p3 : Int) (r : (List (Int × Int × Int × Int))) (H : AG n p0 p1 p2 p3 = some r) (hL : Stw ⟨Y, X, w0⟩ [] [row v1 43 AY p0] w0), ca_ 40 #[v1, Jint p1, Jint p2, Jint p3, .func (.func 22) #[] #[]] w0 fun e w' => ∃ x : Unit, e = .returned (.tuple #[]) ∧ Stw ⟨Y, X, w0⟩ [] [row v1 43 AY r] w' := by
  intro n
  induction n with
  | zero => intro Y X w0 v1 p0 p1 p2 p3 r H; exact nomatch H
  | succ n ih => intro Y X w0 v1 p0 p1 p2 p3 r H hL; exact GM (AG n) ih Y X w0 v1 p0 p1 p2 p3 r H hL
theorem Hi (Y : Nat → Prop) (X : List Nat) (w0 : World) (v1 : Value) (p0 : List (Int × Int × Int × Int)) (p1 : Int) (p2 : Int) (p3 : Int) (r : (List (Int × Int × Int × Int))) (H : Dj p0 p1 p2 p3 = some r) (hL : Stw ⟨Y, X, w0⟩ [] [row v1 43 AY p0] w0) :
    ca_ 40 #[v1, Jint p1, Jint p2, Jint p3, .func (.func 22) #[] #[]] w0 fun e w' => ∃ x : Unit, e = .returned (.tuple #[]) ∧ Stw ⟨Y, X, w0⟩ [] [row v1 43 AY r] w' := by
  obtain ⟨n, H⟩ := Sz H
  exact GP n Y X w0 v1 p0 p1 p2 p3 r H hL
def Ca (p0 : List (Int × Int × Int × Int)) : Option (List (Int × Int × Int × Int)) := (Fe (IntKind.u64.wrap (p0.length : Int))).bind fun x1 => (Dj p0 0 (p0.length : Int) x1).bind fun x2 => some x2
theorem Gk (Y : Nat → Prop) (X : List Nat) (w0 : World) (v1 : Value) (p0 : List (Int × Int × Int × Int)) (r : (List (Int × Int × Int × Int))) (H : Ca p0 = some r) (hL : Stw ⟨Y, X, w0⟩ [] [row v1 43 AY p0] w0) :
    ca_ 21 #[v1, .func (.func 22) #[] #[]] w0 fun e w' => ∃ x : Unit, e = .returned (.tuple #[]) ∧ Stw ⟨Y, X, w0⟩ [] [row v1 43 AY r] w' := by
 refine enter Tryz.func21 Aa Tryz.ntmps21 Aa fun a F => ?_
 have W := hL
 unfold Ca at H
 refine vc tk 3 F W fun a w F W => ?_
 refine ls F W Aa (BP (r := AY) (l := p0) PR Aa F Aa (Af 0 Aa)).q fun a w F W => ?_
 refine BQ tk 7 F W fun a w F W => ?_
 refine ls F W Aa (Kj Q3 Vn F Aa).q fun a w F W => ?_
 obtain ⟨x1, h1, H⟩ := Ac H
 refine ls F W Aa (Bc (v := Jint x1) F Zh Aa (fun w W => Iw any w (IntKind.u64.wrap (p0.length : Int)) _ h1)) fun a w F W => ?_
 refine ls F W Aa (Ai F Aa).q fun a w F W => ?_
 obtain ⟨x2, h2, H⟩ := Ac H
 refine A9 (Ml := []) (Zl := [row v1 43 AY p0]) (β := Unit) (rv := fun x => .tuple #[]) (MM := fun x => []) (ZZ := fun x => [row v1 43 AY x2]) F W Za Aa Aa (fun hL => Hi _ _ w (v1) p0 0 (p0.length : Int) x1 _ h2 hL) fun x a w F W => ?_
 have W : Stw ⟨Y, X, w0⟩ [] [row v1 43 AY x2] w := W
 refine FC ?_
 have H := Ay H
 subst H
 refine Jh (.inr Aa) F Aa ?_
 exact ⟨(), Aa, W⟩
theorem Z6 : Has Tryz.prog 21 := Cv Tryz.func21
def DV (p1 : List (List Int)) (p2 : List (List Int)) (x6 : Int) (x8 : List Int) : ((List (Int × Int × Int × Int)) × Int) → Option (((List (Int × Int × Int × Int)) × Int) ⊕ (List (Int × Int × Int × Int)))
  | (x9, x10) => (if x10 < (x8.length : Int) then ((ix x8 x10).bind fun x12 => (ix p2 x10).bind fun x13 => (ix x13 x6).bind fun x14 => (ix p1 x10).bind fun x15 => (ix x15 x6).bind fun x16 => (if x14 ≠ x16 then (HN x9 ([(x10, x6, x14, x12)] : List (Int × Int × Int × Int))).bind fun x17 => some x17 else some x9)).bind fun x11 => some (.inl (x11, An (x10 + 1))) else some (.inr x9))
def EO (p0 : Int × (List (Int × Int × Int × Int × Int × Int)) × (List (Int × Int))) (p1 : List (List Int)) (p2 : List (List Int)) : ((List (Int × Int × Int × Int)) × Int) → Option (((List (Int × Int × Int × Int)) × Int) ⊕ (List (Int × Int × Int × Int)))
  | (x5, x6) => (if x6 < (p0.2.2.length : Int) then ((JS p0 p2 x6).bind fun x8 => Aq (DV p1 p2 x6 x8) (x5, 0)).bind fun x7 => some (.inl (x7, An (x6 + 1))) else some (.inr x5))
def FP (p0 : Int × (List (Int × Int × Int × Int × Int × Int)) × (List (Int × Int))) (p1 : List (List Int)) (p2 : List (List Int)) : Option ((List (Int × Int × Int × Int)) × Int) := ((Fi p0 p1).bind fun x2 => (if (!x2) = true then some true else (Fi p0 p2).bind fun x3 => some (!x3))).bind fun x1 => (if x1 = true then some (([] : List (Int × Int × Int × Int)), 2) else (Aq (EO p0 p1 p2) ([], 0)).bind fun x4 => (Ca x4).bind fun x18 => some (x18, 0))
theorem OY (Y : Nat → Prop) (w0 : World) (v1 : Value) (v2 : Value) (v3 : Value) (v4 : Value) (p0 : Int × (List (Int × Int × Int × Int × Int × Int)) × (List (Int × Int))) (p1 : List (List Int)) (p2 : List (List Int)) (r : (List (Int × Int × Int × Int)) × Int) (H : FP p0 p1 p2 = some r) (h_v1 : Sl w0 (NX []) IP v1 p0.2.1) (h_v2 : Sl w0 (NX []) IE v2 p0.2.2) (h_v3 : Sl w0 (NX []) (Rp.slice ri) v3 p1) (h_v4 : Sl w0 (NX []) (Rp.slice ri) v4 p2) :
    ca_ 10 #[.agg #[Jint p0.1, v1, v2], v3, v4] w0 fun e w' => ∃ x : Value, e = .returned (.tuple #[x, Jint r.2]) ∧ sy Y w0 [] [row (x) 43 AY r.1] w' := by
 refine enter Tryz.func10 Aa Tryz.ntmps10 Aa fun a F => ?_
 have W := Stw.start Y w0
 obtain ⟨v5, h1, h_v3⟩ := h_v3.ex CK
 obtain ⟨v6, h2, h_v4⟩ := h_v4.ex CK
 unfold FP at H
 refine vc tk 2 F W fun a w F W => ?_
 refine D3 (cs := [Jint p0.1, v1, v2]) F W Aa Aa Aa fun b1 a w F W => ?_
 refine BQ tk 5 F W fun a w F W => ?_
 obtain ⟨o1, G1, K1⟩ := Ac H
 refine As (fun a w => ∃ x1 : Bool, some (x1) = some o1 ∧ Fr 68 [] [(1, v3), (2, v4), (3, pp b1), (6, .slice none 0 0), (7, Jint 0), (22, .bool x1)] a ∧ sy Y w0 [(b1, [Jint p0.1, v1, v2])] [] w) ?_ ?_
 ·
  have H := G1
  refine Jk tk 3 [0] F W (ai fun a w F W => ?_)
  obtain ⟨x2, h3, H⟩ := Ac H
  refine ls F W Aa (Bc (v := Value.bool x2) F Yu Aa (fun w W => ID any w (v1) (v2) (v3) p0 p1 _ h3 (EJ (Ae h_v1) W) (EJ (Ae h_v2) W) (EJ (AL CK h1 (Ae h_v3)) W))) fun a w F W => ?_
  refine vl tk 2 F W fun a w F W => ?_
  rcases bxq (!x2) with hb | hb
  ·
   have H := DU hb H
   rw [hb] at F
   refine vl tk 6 F W fun a w F W => ?_
   refine Ab ?_
   exact ⟨_, H, F.ra Aa, W⟩
  have H := DS (by rw [hb]; decide) H
  rw [hb] at F
  refine Kp tk 2 [0] F W (ai fun a w F W => ?_)
  refine MI (Ad F Aa Aa Aa Aa) ?_
  obtain ⟨x3, h4, H⟩ := Ac H
  refine ls F W Aa (Bc (v := Value.bool x3) F Yu Aa (fun w W => ID any w (v1) (v2) (v4) p0 p2 _ h4 (EJ (Ae h_v1) W) (EJ (Ae h_v2) W) (EJ (AL CK h2 (Ae h_v4)) W))) fun a w F W => ?_
  refine vl tk 3 F W fun a w F W => ?_
  refine Ab ?_
  exact ⟨_, H, F.ra Aa, W⟩
 rintro a w ⟨x1, hj, F, W⟩
 have hj := Ay hj
 subst hj
 have H := K1
 refine CS F Aa H (fun F H => ?_) fun F H => ?_
 ·
  refine vc tk 6 F W fun a w F W => ?_
  refine Ap (AF ?_)
  have H := Ay H
  subst H
  refine FD (.inl Aa) F W Aa (Am F Aa) (Am F Aa) ?_
  have W := W.nilRow 43 AY
  have W := W.sub (M' := []) (Z' := [row (Value.slice none 0 0) 43 AY ([])]) nl sr
  exact ⟨(Value.slice none 0 0), Aa, W⟩
 refine FL tk 7 F W fun a w F W => ?_
 obtain ⟨o2, G2, K2⟩ := Ac H
 refine As (fun a w => ∃ x4 : List (Int × Int × Int × Int), ∃ v7 : Value, some (x4) = some o2 ∧ Fr 68 [] [(6, .slice none 0 0), (7, Jint 0), (8, v7)] a ∧ sy Y w0 [(b1, [Jint p0.1, v1, v2])] [row v7 43 AY x4] w) ?_ ?_
 ·
  have H := G2
  refine Jk tk 4 [0] F W (ai fun a w F W => ?_)
  refine ls F W Aa (BP (r := IE) (l := p0.2.2) OH Aa F Aa (Ae h_v2)).q fun a w F W => ?_
  refine BQ tk 4 F W fun a w F W => ?_
  have W := W.nilRow 43 AY
  refine AN H (fun s a w => ∃ v8 : Value, Fr 68 [] [(1, v3), (2, v4), (3, pp b1), (6, .slice none 0 0), (7, Jint 0), (8, v8), (25, Jint (p0.2.2.length : Int)), (26, Jint s.2)] a ∧ sy Y w0 [(b1, [Jint p0.1, v1, v2])] [row v8 43 AY s.1] w) ⟨(Value.slice none 0 0), F.ra Aa, W⟩ fun s o a w H L3 hR => ?_
  obtain ⟨x5, x6⟩ := s
  obtain ⟨v8, F, W⟩ := hR
  have F : Fr 68 [] [(1, v3), (2, v4), (3, pp b1), (6, .slice none 0 0), (7, Jint 0), (8, v8), (25, Jint (p0.2.2.length : Int)), (26, Jint x6)] a := F
  have W : sy Y w0 [(b1, [Jint p0.1, v1, v2])] [row v8 43 AY x5] w := W
  rw [EO] at H
  refine vc tk 6 F W fun a w F W => ?_
  refine AW F Aa H (fun F H => ?_) fun F H => ?_
  ·
   refine AE (Ab ?_)
   obtain ⟨o4, G4, K4⟩ := Ac H
   refine As (fun a w => ∃ x7 : List (Int × Int × Int × Int), ∃ v9 : Value, some (x7) = some o4 ∧ Fr 68 [] [(1, v3), (2, v4), (3, pp b1), (6, .slice none 0 0), (7, Jint 0), (8, v9), (25, Jint (p0.2.2.length : Int)), (26, Jint x6)] a ∧ sy Y w0 [(b1, [Jint p0.1, v1, v2])] [row v9 43 AY x7] w) ?_ ?_
   ·
    have H := G4
    refine Jk tk 12 [0] F W (ai fun a w F W => ?_)
    obtain ⟨x8, h5, H⟩ := Ac H
    refine A9 (Ml := []) (Zl := []) (β := Value) (rv := fun x => x) (MM := fun x => []) (ZZ := fun x => [row x 3 ri x8]) F W Z5 Aa Aa (fun hL => QC _ w (v1) (v2) (v4) p0 p2 x6 _ h5 ((Ae h_v1) w W).nx ((Ae h_v2) w W).nx ((AL CK h2 (Ae h_v4)) w W).nx) fun x a w F W => ?_
    obtain ⟨v10, rfl⟩ : ∃ y, y = x := ⟨x, rfl⟩
    have W : sy Y w0 [(b1, [Jint p0.1, v1, v2])] [row v10 3 ri x8, row v8 43 AY x5] w := W
    refine ls F W Aa (BP (r := ri) (l := x8) Jc Aa F Aa (Af 0 Aa)).q fun a w F W => ?_
    refine BQ tk 4 F W fun a w F W => ?_
    have W := W.frontZ (i := 1) Aa Aa
    refine AN H (fun s a w => ∃ v11 : Value, Fr 68 [] [(1, v3), (2, v4), (3, pp b1), (6, .slice none 0 0), (7, Jint 0), (8, v11), (9, Jint x6), (25, Jint (p0.2.2.length : Int)), (26, Jint x6), (32, v10), (33, Jint (x8.length : Int)), (34, Jint s.2)] a ∧ sy Y w0 [(b1, [Jint p0.1, v1, v2])] [row v11 43 AY s.1, row v10 3 ri x8] w) ⟨(v8), F.ra Aa, W⟩ fun s o a w H L5 hR => ?_
    obtain ⟨x9, x10⟩ := s
    obtain ⟨v11, F, W⟩ := hR
    have F : Fr 68 [] [(1, v3), (2, v4), (3, pp b1), (6, .slice none 0 0), (7, Jint 0), (8, v11), (9, Jint x6), (25, Jint (p0.2.2.length : Int)), (26, Jint x6), (32, v10), (33, Jint (x8.length : Int)), (34, Jint x10)] a := F
    have W : sy Y w0 [(b1, [Jint p0.1, v1, v2])] [row v11 43 AY x9, row v10 3 ri x8] w := W
    rw [DV] at H
    refine vc tk 6 F W fun a w F W => ?_
    refine AW F Aa H (fun F H => ?_) fun F H => ?_
    ·
     refine AE (Ab ?_)
     obtain ⟨o6, G6, K6⟩ := Ac H
     refine As (fun a w => ∃ x11 : List (Int × Int × Int × Int), ∃ v12 : Value, some (x11) = some o6 ∧ Fr 68 [] [(1, v3), (2, v4), (3, pp b1), (6, .slice none 0 0), (7, Jint 0), (8, v12), (9, Jint x6), (25, Jint (p0.2.2.length : Int)), (26, Jint x6), (32, v10), (33, Jint (x8.length : Int)), (34, Jint x10)] a ∧ sy Y w0 [(b1, [Jint p0.1, v1, v2])] [row v12 43 AY x11, row v10 3 ri x8] w) ?_ ?_
     ·
      have H := G6
      refine vc tk 4 F W fun a w F W => ?_
      obtain ⟨x12, h6, H⟩ := Ac H
      refine ls F W Aa (Al (r := ri) EM F Aa Aa (Af 1 Aa) h6).q fun a w F W => ?_
      refine ls F W Aa (Ag (y := Jint x12) (j := 0) (i := x10) F Aa Aa (Af 1 Aa) h6 Fl.int.to T3 Aa).q fun a w F W => ?_
      refine BQ tk 8 F W fun a w F W => ?_
      obtain ⟨x13, h7, H⟩ := Ac H
      obtain ⟨v13, h8, h9⟩ := EP h2 h7
      have h10 : Hh v13 = [(v13.1)] := congrArg (fun q : List Int => ([(v13.1)] : List Value)) h9
      refine ls F W Aa (Al (r := (Rp.vsl ri)) PV F Aa Aa (Ae h_v4) h8).q fun a w F W => ?_
      refine ls F W Aa (Ag (y := (v13.1)) (j := 0) (i := x10) (enc := Hh) F Aa Aa (Ae h_v4) h8 LC NJ (by rw [h10]; rfl)).q fun a w F W => ?_
      refine ls F W Aa (Ai F Aa).q fun a w F W => ?_
      obtain ⟨x14, h11, H⟩ := Ac H
      refine ls F W Aa (Al (r := ri) EM F Aa Aa (C9 (Ae h_v4) h8 DA.here (congrArg (fun q : List Int => q) h9)) h11).q fun a w F W => ?_
      refine ls F W Aa (Ag (y := Jint x14) (j := 0) (i := x6) F Aa Aa (C9 (Ae h_v4) h8 DA.here (congrArg (fun q : List Int => q) h9)) h11 Fl.int.to T3 Aa).q fun a w F W => ?_
      refine BQ tk 8 F W fun a w F W => ?_
      obtain ⟨x15, h12, H⟩ := Ac H
      obtain ⟨v14, h13, h14⟩ := EP h1 h12
      have h15 : Hh v14 = [(v14.1)] := congrArg (fun q : List Int => ([(v14.1)] : List Value)) h14
      refine ls F W Aa (Al (r := (Rp.vsl ri)) PV F Aa Aa (Ae h_v3) h13).q fun a w F W => ?_
      refine ls F W Aa (Ag (y := (v14.1)) (j := 0) (i := x10) (enc := Hh) F Aa Aa (Ae h_v3) h13 LC NJ (by rw [h15]; rfl)).q fun a w F W => ?_
      refine ls F W Aa (Ai F Aa).q fun a w F W => ?_
      obtain ⟨x16, h16, H⟩ := Ac H
      refine ls F W Aa (Al (r := ri) EM F Aa Aa (C9 (Ae h_v3) h13 DA.here (congrArg (fun q : List Int => q) h14)) h16).q fun a w F W => ?_
      refine ls F W Aa (Ag (y := Jint x16) (j := 0) (i := x6) F Aa Aa (C9 (Ae h_v3) h13 DA.here (congrArg (fun q : List Int => q) h14)) h16 Fl.int.to T3 Aa).q fun a w F W => ?_
      refine BQ tk 3 F W fun a w F W => ?_
      refine AW F Aa H (fun F H => ?_) fun F H => ?_
      ·
       refine vc tk 6 F W fun a w F W => ?_
       refine ls F W Aa (B9 (v := Value.agg #[Jint x10, Jint x6, Jint x14, Jint x12]) cH F Aa Aa Aa).q fun a w F W => ?_
       refine D7 (z := Value.agg #[Jint 0, Jint 0, Jint 0, Jint 0]) (cs := [Jint x10, Jint x6, Jint x14, Jint x12]) AY ([(x10, x6, x14, x12)] : List (Int × Int × Int × Int)) F W Aa Eu Xf Aa Aa Aa Aa Aa Aa (EK.repL _ _ ([(x10, x6, x14, x12)] : List (Int × Int × Int × Int))) fun v15 a w F W => ?_
       obtain ⟨x17, h17, H⟩ := Ac H
       refine Di (r := AY) (i := 1) F W Aa Eu Aa Aa Aa Aa (D1 W 0 Aa) h17 Aa fun v16 a w F W => ?_
       have W : sy Y w0 [(b1, [Jint p0.1, v1, v2])] [row v16 43 AY x17, row v15 43 AY ([(x10, x6, x14, x12)] : List (Int × Int × Int × Int)), row v10 3 ri x8] w := W
       refine vl tk 2 F W fun a w F W => ?_
       refine Aw (Ab ?_)
       have W := W.frontZ (i := 2) Aa Aa
       have W := W.frontZ (i := 1) Aa Aa
       have W := W.sub (M' := [(b1, [Jint p0.1, v1, v2])]) (Z' := [row v16 43 AY x17, row v10 3 ri x8]) sr (sc (sc nl))
       exact ⟨_, (v16), H, F.ra Aa, W⟩
      refine AE (Aw (Ab ?_))
      have W := W.frontZ (i := 1) Aa Aa
      have W := W.frontZ (i := 1) Aa Aa
      exact ⟨_, (v11), H, F.ra Aa, W⟩
     rintro a w ⟨x11, v12, hj, F, W⟩
     have hj := Ay hj
     subst hj
     have H := K6
     refine vc tk 4 F W fun a w F W => ?_
     refine Ab ?_
     have W := W.frontZ (i := 1) Aa Aa
     have W := W.frontZ (i := 1) Aa Aa
     exact ⟨_, H, (v12), F.ra Aa, W⟩
    refine AC ?_
    iterate 2 refine AR ?_
    refine AD (Aw (Ab ?_))
    have W := W.sub (M' := [(b1, [Jint p0.1, v1, v2])]) (Z' := [row v11 43 AY x9]) sr (sc nl)
    have H := L5 _ H
    exact ⟨_, (v11), H, F.ra Aa, W⟩
   rintro a w ⟨x7, v9, hj, F, W⟩
   have hj := Ay hj
   subst hj
   have H := K4
   refine vc tk 4 F W fun a w F W => ?_
   refine Ab ?_
   exact ⟨_, H, (v9), F.ra Aa, W⟩
  refine AC ?_
  iterate 2 refine AR ?_
  refine AD (Ab ?_)
  have H := L3 _ H
  exact ⟨_, (v8), H, F.ra Aa, W⟩
 rintro a w ⟨x4, v7, hj, F, W⟩
 have hj := Ay hj
 subst hj
 have H := K2
 refine vc tk 3 F W fun a w F W => ?_
 obtain ⟨x18, h18, H⟩ := Ac H
 refine A9 (Ml := []) (Zl := [row v7 43 AY x4]) (β := Unit) (rv := fun x => .tuple #[]) (MM := fun x => []) (ZZ := fun x => [row v7 43 AY x18]) F W Z6 Aa Aa (fun hL => Gk _ _ w (v7) x4 _ h18 hL) fun x a w F W => ?_
 have W : sy Y w0 [(b1, [Jint p0.1, v1, v2])] [row v7 43 AY x18] w := W
 refine BQ tk 9 F W fun a w F W => ?_
 refine Ap ?_
 have H := Ay H
 subst H
 refine FD (.inl Aa) F W Aa (Am F Aa) (Am F Aa) ?_
 have W := W.sub (M' := []) (Z' := [row v7 43 AY x18]) nl sr
 exact ⟨(v7), Aa, W⟩
theorem aI : Has Tryz.prog 10 := Cv Tryz.func10
def CM (p0 : Int) (p1 : Int) : Bool := (bif (Ck p0) then (!(Ck p1) || decide (p0 < p1)) else decide (p0 < p1))
theorem Ft (Y : Nat → Prop) (w0 : World)  (p0 : Int) (p1 : Int) (r : Bool) (H : CM p0 p1 = r)  :
    ca_ 94 #[Jint p0, Jint p1] w0 fun e w' => e = .returned (.bool r) ∧ Below w0.heap.size w0 w' := by
 refine enter Tryz.func94 Aa Tryz.ntmps94 Aa fun a F => ?_
 have W := Stw.start Y w0
 unfold CM at H
 refine vc tk 5 F W fun a w F W => ?_
 refine As (fun a w => Fr 17 [] [(4, .bool (bif (Ck p0) then (!(Ck p1) || decide (p0 < p1)) else decide (p0 < p1)))] a ∧ sy Y w0 [] [] w) ?_ ?_
 ·
  refine vc tk 2 F W fun a w F W => ?_
  refine ls F W Aa (Bc (v := Value.bool (Ck p0)) F Yn Aa (fun w W => Ha any w p0 _ Aa)) fun a w F W => ?_
  refine ls F W Aa (Ai F Aa).q fun a w F W => ?_
  rcases bxq (Ck p0) with hb0 | hb0
  ·
   rw [hb0] at F
   refine Gb F W (Ad F Aa Aa Aa Aa) Aa (Ao Aa) (Ai F Aa).q fun a w F W => ?_
   refine MI (Ad F Aa Aa Aa Aa) ?_
   refine ls F W Aa (Bc (v := Value.bool (Ck p1)) F Yn Aa (fun w W => Ha any w p1 _ Aa)) fun a w F W => ?_
   refine vl tk 3 F W fun a w F W => ?_
   rcases bxq (!(Ck p1)) with hb1 | hb1
   ·
    rw [hb1] at F
    refine vl tk 6 F W fun a w F W => ?_
    refine Ab ?_
    exact ⟨F.re ⟨(HA (by try rw [hb1]; try rw [hb0]; all_goals simp only [Hw])), trivial⟩, W⟩
   rw [hb1] at F
   refine vl tk 6 F W fun a w F W => ?_
   refine Ab ?_
   exact ⟨F.re ⟨(HA (by try rw [hb1]; try rw [hb0]; all_goals simp only [Hw])), trivial⟩, W⟩
  rw [hb0] at F
  refine vl tk 11 F W fun a w F W => ?_
  refine Ab ?_
  exact ⟨F.re ⟨(HA (by try rw [hb0]; all_goals simp only [Hw])), trivial⟩, W⟩
 rintro a w ⟨F, W⟩
 refine Ap ?_
 subst H
 refine A1 (.inl Aa) F W Aa (Am F Aa) ?_
 exact ⟨rfl, W.done⟩
theorem Xj : Has Tryz.prog 94 := Cv Tryz.func94
def Bj (p1 : Int) : (List Int × Int) → Option ((List Int × Int) ⊕ (List Int))
  | (x4, x5) => (if p1 < x5 then (ix x4 x5).bind fun x7 => (ix x4 (An (x5 - 1))).bind fun x8 => some (CM x7 x8) else some false).bind fun x6 => (if x6 = true then (ix x4 (An (x5 - 1))).bind fun x9 => (ix x4 x5).bind fun x10 => (ix x4 x5).bind fun x11 => (ix (Ah x4 x5 x9) (An (x5 - 1))).bind fun x12 => some (.inl ((Ah (Ah x4 x5 x9) (An (x5 - 1)) x10), An (x5 - 1))) else some (.inr x4))
def BV (p1 : Int) (p2 : Int) : (List Int × Int) → Option ((List Int × Int) ⊕ (List Int))
  | (x1, x2) => (if x2 < p2 then (Aq (Bj p1) (x1, x2)).bind fun x3 => some (.inl (x3, An (x2 + 1))) else some (.inr x1))
def Cf (p0 : List Int) (p1 : Int) (p2 : Int) : Option (List Int) := Aq (BV p1 p2) (p0, An (p1 + 1))
theorem Hp (Y : Nat → Prop) (X : List Nat) (w0 : World) (v1 : Value) (p0 : List Int) (p1 : Int) (p2 : Int) (r : List Int) (H : Cf p0 p1 p2 = some r) (hL : Stw ⟨Y, X, w0⟩ [] [row v1 3 ri p0] w0) :
    ca_ 88 #[v1, Jint p1, Jint p2] w0 fun e w' => ∃ x : Unit, e = .returned (.tuple #[]) ∧ Stw ⟨Y, X, w0⟩ [] [row v1 3 ri r] w' := by
 refine enter Tryz.func88 Aa Tryz.ntmps88 Aa fun a F => ?_
 have W := hL
 unfold Cf at H
 refine vc tk 8 F W fun a w F W => ?_
 refine AN H (fun s a w => Fr 49 [] [(0, v1), (1, Jint p1), (2, Jint p2), (6, Jint s.2)] a ∧ Stw ⟨Y, X, w0⟩ [] [row v1 3 ri s.1] w) ⟨F.ra Aa, W⟩ fun s o a w H L1 hR => ?_
 obtain ⟨x1, x2⟩ := s
 obtain ⟨F, W⟩ := hR
 have F : Fr 49 [] [(0, v1), (1, Jint p1), (2, Jint p2), (6, Jint x2)] a := F
 have W : Stw ⟨Y, X, w0⟩ [] [row v1 3 ri x1] w := W
 rw [BV] at H
 refine vc tk 8 F W fun a w F W => ?_
 refine AW F Aa H (fun F H => ?_) fun F H => ?_
 ·
  refine AE (Ab ?_)
  obtain ⟨o2, G2, K2⟩ := Ac H
  refine As (fun a w => ∃ x3 : List Int, some (x3) = some o2 ∧ Fr 49 [] [(0, v1), (1, Jint p1), (2, Jint p2), (6, Jint x2)] a ∧ Stw ⟨Y, X, w0⟩ [] [row v1 3 ri x3] w) ?_ ?_
  ·
   have H := G2
   refine vc tk 8 F W fun a w F W => ?_
   refine AN H (fun s a w => Fr 49 [] [(0, v1), (1, Jint p1), (2, Jint p2), (6, Jint x2), (7, Jint s.2)] a ∧ Stw ⟨Y, X, w0⟩ [] [row v1 3 ri s.1] w) ⟨F.ra Aa, W⟩ fun s o a w H L3 hR => ?_
   obtain ⟨x4, x5⟩ := s
   obtain ⟨F, W⟩ := hR
   have F : Fr 49 [] [(0, v1), (1, Jint p1), (2, Jint p2), (6, Jint x2), (7, Jint x5)] a := F
   have W : Stw ⟨Y, X, w0⟩ [] [row v1 3 ri x4] w := W
   rw [Bj] at H
   refine HH ?_
   obtain ⟨o4, G4, K4⟩ := Ac H
   refine As (fun a w => ∃ x6 : Bool, some (x6) = some o4 ∧ Fr 49 [] [(0, v1), (1, Jint p1), (2, Jint p2), (6, Jint x2), (7, Jint x5), (30, .bool x6)] a ∧ Stw ⟨Y, X, w0⟩ [] [row v1 3 ri x4] w) ?_ ?_
   ·
    have H := G4
    refine Bz W MO (by kernel_rfl) ?_
    iterate 2 refine qs F Aa (Ai F Aa).q fun a F => ?_
    refine qs F Aa (QJ F Aa Aa).q fun a F => ?_
    refine qs F Aa (Ai F Aa).q fun a F => ?_
    rcases bxq (decide (p1 < x5)) with hb | hb
    ·
     have H := DU (Fa hb) H
     rw [hb] at F
     iterate 2 refine AZ F (Ad F Aa Aa Aa Aa) Aa (Ao Aa) (Ai F Aa).q fun a F => ?_
     obtain ⟨x7, h1, H⟩ := Ac H
     refine AZ F (Ad F Aa Aa Aa Aa) Aa (Ao Aa) (Al (r := ri) EM F Aa Aa (Af 0 Aa) h1).q fun a F => ?_
     refine AZ F (Ad F Aa Aa Aa Aa) Aa (Ao Aa) (Ag (y := Jint x7) (j := 0) (i := x5) F Aa Aa (Af 0 Aa) h1 Fl.int.to T3 Aa).q fun a F => ?_
     iterate 2 refine AZ F (Ad F Aa Aa Aa Aa) Aa (Ao Aa) (Ai F Aa).q fun a F => ?_
     refine AZ F (Ad F Aa Aa Aa Aa) Aa (Ao Aa) (Ek F Aa Aa Aa).q fun a F => ?_
     obtain ⟨x8, h2, H⟩ := Ac H
     refine AZ F (Ad F Aa Aa Aa Aa) Aa (Ao Aa) (Al (r := ri) EM F Aa Aa (Af 0 Aa) h2).q fun a F => ?_
     refine AZ F (Ad F Aa Aa Aa Aa) Aa (Ao Aa) (Ag (y := Jint x8) (j := 0) (i := An (x5 - 1)) F Aa Aa (Af 0 Aa) h2 Fl.int.to T3 Aa).q fun a F => ?_
     refine AZ F (Ad F Aa Aa Aa Aa) Aa (Ao Aa) (Bc (v := Value.bool (CM x7 x8)) F Xj Aa (fun w W => Ft any w x7 x8 _ Aa)) fun a F => ?_
     refine qs F Aa (C4 F Aa Aa Aa).q fun a F => ?_
     refine AA fun w W => ?_
     refine Ab ?_
     exact ⟨_, H, F.ra Aa, W⟩
    have H := DS (E4 hb) H
    rw [hb] at F
    iterate 10 refine Dn F (CX F Aa Aa Aa Aa Aa) Aa Aa fun a F => ?_
    refine qs F Aa (Dw F Aa Aa Aa).q fun a F => ?_
    refine AA fun w W => ?_
    refine Ab ?_
    exact ⟨_, H, F.ra Aa, W⟩
   rintro a w ⟨x6, hj, F, W⟩
   have hj := Ay hj
   subst hj
   have H := K4
   refine CS F Aa H (fun F H => ?_) fun F H => ?_
   ·
    refine FL tk 4 F W fun a w F W => ?_
    refine ER [(true, 0), (true, 1), (true, 2), (true, 3), (true, 4), (true, 5), (true, 6), (true, 7), (true, 8), (true, 9), (true, 10), (true, 11), (true, 12), (true, 13), (true, 14), (false, 15), (true, 16), (false, 17)] (CN ⟨Y, X, w0⟩ [] [(some 15, row v1 3 ri x4)]) (fun ch a d v w h => by cases d <;> exact h) MO (by kernel_rfl) W (fun w W => ⟨_, _, W, Ak, (all_cons (fun _ => (.head _)) Ak)⟩) fun w W => ?_
    iterate 4 refine A6 (R := []) F Aa Aa (yC fun M Z hN hZ => Ai F Aa) Aa Aa fun a F => ?_
    refine A6 (R := []) F Aa Aa (yC fun M Z hN hZ => Ek F Aa Aa Aa) Aa Aa fun a F => ?_
    iterate 2 refine A6 (R := []) F Aa Aa (yC fun M Z hN hZ => Ai F Aa) Aa Aa fun a F => ?_
    refine A6 (R := []) F Aa Aa (yC fun M Z hN hZ => Ek F Aa Aa Aa) Aa Aa fun a F => ?_
    obtain ⟨x9, h3, H⟩ := Ac H
    refine A6 (R := []) F Aa Aa (yC fun M Z hN hZ => Ba (r := ri) EM F Aa Aa (C2 W (Af 0 Aa)) h3) Aa Aa fun a F => ?_
    refine A6 (R := [15]) F Aa Aa (yC fun M Z hN hZ => Ag (y := Jint x9) (j := 0) (i := An (x5 - 1)) F Aa Aa (Dh (hZ ((some 15), row v1 3 ri x4) (.head _) Aa)) h3 Fl.int.to T3 Aa) (by kernel_rfl) Aa fun a F => ?_
    iterate 2 refine A6 (R := []) F Aa Aa (yC fun M Z hN hZ => Ai F Aa) Aa Aa fun a F => ?_
    obtain ⟨x10, h4, H⟩ := Ac H
    refine A6 (R := []) F Aa Aa (yC fun M Z hN hZ => Ba (r := ri) EM F Aa Aa (C2 W (Af 0 Aa)) h4) Aa Aa fun a F => ?_
    refine A6 (R := [15]) F Aa Aa (yC fun M Z hN hZ => Ag (y := Jint x10) (j := 0) (i := x5) F Aa Aa (Dh (hZ ((some 15), row v1 3 ri x4) (.head _) Aa)) h4 Fl.int.to T3 Aa) (by kernel_rfl) Aa fun a F => ?_
    obtain ⟨x11, h5, H⟩ := Ac H
    refine A6 (R := []) F Aa Aa (yC fun M Z hN hZ => Ba (r := ri) EM F Aa Aa (C2 W (Af 0 Aa)) h5) Aa Aa fun a F => ?_
    refine F1 Aa ?_
    refine A0 (i := x5) (j := 0) (vs := [Jint x9]) (x' := x9) F W Aa Aa Aa (k := 0) Aa Aa h5 T3 Aa Aa Aa Aa (fun A cs _ => Fl.int.sto (by rfl) _ _ _) fun w W => ?_
    refine Cn (N2 := []) (NZ2 := []) (N3 := []) (NZ3 := [(some 15, row v1 3 ri x4)]) W Aa Aa Ak (all_cons (fun h => AH (by kernel_rfl) h) Ak) ?_
    obtain ⟨x12, h6, H⟩ := Ac H
    refine A6 (R := []) F Aa Aa (yC fun M Z hN hZ => Ba (r := ri) EM F Aa Aa (C2 W (Af 0 Aa)) h6) Aa Aa fun a F => ?_
    refine F1 Aa ?_
    refine A0 (i := An (x5 - 1)) (j := 0) (vs := [Jint x10]) (x' := x10) F W Aa Aa Aa (k := 0) Aa Aa h6 T3 Aa Aa Aa Aa (fun A cs _ => Fl.int.sto (by rfl) _ _ _) fun w W => ?_
    refine Cn (N2 := []) (NZ2 := []) (N3 := []) (NZ3 := [(some 15, row v1 3 ri x4)]) W Aa Aa Ak (all_cons (fun h => AH (by kernel_rfl) h) Ak) ?_
    refine Hd (Aw ?_)
    refine vn tk 5 F W fun a w F W => ?_
    refine Ab ?_
    exact ⟨_, H, F.ra Aa, W⟩
   refine AC ?_
   iterate 2 refine AR ?_
   refine AD (Aw (Ab ?_))
   have H := L3 _ H
   exact ⟨_, H, F.ra Aa, W⟩
  rintro a w ⟨x3, hj, F, W⟩
  have hj := Ay hj
  subst hj
  have H := K2
  refine vc tk 5 F W fun a w F W => ?_
  refine Ab ?_
  exact ⟨_, H, F.ra Aa, W⟩
 refine AC ?_
 iterate 2 refine AR ?_
 refine AD ?_
 have H := L1 _ H
 have H := Ay H
 subst H
 refine Jh (.inr Aa) F Aa ?_
 exact ⟨(), Aa, W⟩
theorem cC : Has Tryz.prog 88 := Cv Tryz.func88
def CE (p0 : List Int) (p1 : Int) (p2 : Int) (p3 : Int) : Option (Int × Int × Int) := (ix p0 p2).bind fun x1 => (ix p0 p1).bind fun x2 => (if (CM x1 x2) = true then some (p2, p1, An (p3 + 1)) else some (p1, p2, p3))
theorem ES (Y : Nat → Prop) (X : List Nat) (w0 : World) (v1 : Value) (q_p3 : Nat) (p0 : List Int) (p1 : Int) (p2 : Int) (p3 : Int) (r : Int × Int × Int) (H : CE p0 p1 p2 p3 = some r) (h_v1 : Sl w0 (NX X) ri v1 p0) (hL : Stw ⟨Y, X, w0⟩ [(q_p3, [Jint p3])] [] w0) :
    ca_ 104 #[v1, Jint p1, Jint p2, pp q_p3] w0 fun e w' => ∃ x : Unit, e = .returned (.tuple #[Jint r.1, Jint r.2.1]) ∧ Stw ⟨Y, X, w0⟩ [(q_p3, [Jint r.2.2])] [] w' := by
 refine enter Tryz.func104 Aa Tryz.ntmps104 Aa fun a F => ?_
 have W := hL
 unfold CE at H
 refine vc tk 8 F W fun a w F W => ?_
 refine Bz W MO (by kernel_rfl) ?_
 iterate 2 refine qs F Aa (Ai F Aa).q fun a F => ?_
 obtain ⟨x1, h1, H⟩ := Ac H
 refine qs F Aa (Al (r := ri) EM F Aa Aa (Ae h_v1) h1).q fun a F => ?_
 refine qs F Aa (Ag (y := Jint x1) (j := 0) (i := p2) F Aa Aa (Ae h_v1) h1 Fl.int.to T3 Aa).q fun a F => ?_
 iterate 2 refine qs F Aa (Ai F Aa).q fun a F => ?_
 obtain ⟨x2, h2, H⟩ := Ac H
 refine qs F Aa (Al (r := ri) EM F Aa Aa (Ae h_v1) h2).q fun a F => ?_
 refine qs F Aa (Ag (y := Jint x2) (j := 0) (i := p1) F Aa Aa (Ae h_v1) h2 Fl.int.to T3 Aa).q fun a F => ?_
 refine qs F Aa (Bc (v := Value.bool (CM x1 x2)) F Xj Aa (fun w W => Ft any w x1 x2 _ Aa)) fun a F => ?_
 refine AA fun w W => ?_
 refine Ab ?_
 refine CS F Aa H (fun F H => ?_) fun F H => ?_
 ·
  refine vc tk 3 F W fun a w F W => ?_
  refine ls F W Aa (DQ F Aa).q fun a w F W => ?_
  refine Kp tk 2 [0] F W (ai fun a w F W => ?_)
  refine ls F W Aa (DQ F Aa).q fun a w F W => ?_
  refine Ej 0 F W Aa Aa Aa T3 Aa Aa Aa fun w W => ?_
  refine BQ tk 10 F W fun a w F W => ?_
  refine Ap (AF ?_)
  have H := Ay H
  subst H
  refine FD (.inl Aa) F W Aa (Am F Aa) (Am F Aa) ?_
  exact ⟨(), Aa, W⟩
 refine FL tk 10 F W fun a w F W => ?_
 refine Ap ?_
 have H := Ay H
 subst H
 refine FD (.inl Aa) F W Aa (Am F Aa) (Am F Aa) ?_
 exact ⟨(), Aa, W⟩
theorem Ww : Has Tryz.prog 104 := Cv Tryz.func104
def CF (p0 : List Int) (p1 : Int) (p2 : Int) (p3 : Int) (p4 : Int) : Option (Int × Int) := (CE p0 p1 p2 p4).bind fun x1 => (CE p0 x1.2.1 p3 x1.2.2).bind fun x2 => (CE p0 x1.1 x2.1 x2.2.2).bind fun x3 => some (x3.2.1, x3.2.2)
theorem Gu (Y : Nat → Prop) (X : List Nat) (w0 : World) (v1 : Value) (q_p4 : Nat) (p0 : List Int) (p1 : Int) (p2 : Int) (p3 : Int) (p4 : Int) (r : Int × Int) (H : CF p0 p1 p2 p3 p4 = some r) (h_v1 : Sl w0 (NX X) ri v1 p0) (hL : Stw ⟨Y, X, w0⟩ [(q_p4, [Jint p4])] [] w0) :
    ca_ 103 #[v1, Jint p1, Jint p2, Jint p3, pp q_p4] w0 fun e w' => ∃ x : Unit, e = .returned (Jint r.1) ∧ Stw ⟨Y, X, w0⟩ [(q_p4, [Jint r.2])] [] w' := by
 refine enter Tryz.func103 Aa Tryz.ntmps103 Aa fun a F => ?_
 have W := hL
 unfold CF at H
 refine vc tk 11 F W fun a w F W => ?_
 obtain ⟨x1, h1, H⟩ := Ac H
 refine A9 (Ml := [(q_p4, [Jint p4])]) (Zl := []) (β := Unit) (rv := fun x => .tuple #[Jint x1.1, Jint x1.2.1]) (MM := fun x => [(q_p4, [Jint x1.2.2])]) (ZZ := fun x => []) F W Ww Aa Aa (fun hL => ES _ _ w (v1) q_p4 p0 p1 p2 p4 _ h1 (W.roX h_v1 (fun g hg => Fq hg)) hL) fun x a w F W => ?_
 have W : Stw ⟨Y, X, w0⟩ [(q_p4, [Jint x1.2.2])] [] w := W
 refine ls F W Aa (Ai F Aa).q fun a w F W => ?_
 refine ls F W Aa (Bi (v := Jint x1.1) F Aa Aa).q fun a w F W => ?_
 refine ls F W Aa (Bi (v := Jint x1.2.1) F Aa Aa).q fun a w F W => ?_
 refine BQ tk 10 F W fun a w F W => ?_
 obtain ⟨x2, h2, H⟩ := Ac H
 refine A9 (Ml := [(q_p4, [Jint x1.2.2])]) (Zl := []) (β := Unit) (rv := fun x => .tuple #[Jint x2.1, Jint x2.2.1]) (MM := fun x => [(q_p4, [Jint x2.2.2])]) (ZZ := fun x => []) F W Ww Aa Aa (fun hL => ES _ _ w (v1) q_p4 p0 x1.2.1 p3 x1.2.2 _ h2 (W.roX h_v1 (fun g hg => Fq hg)) hL) fun x a w F W => ?_
 have W : Stw ⟨Y, X, w0⟩ [(q_p4, [Jint x2.2.2])] [] w := W
 refine ls F W Aa (Ai F Aa).q fun a w F W => ?_
 refine ls F W Aa (Bi (v := Jint x2.1) F Aa Aa).q fun a w F W => ?_
 refine ls F W Aa (Bi (v := Jint x2.2.1) F Aa Aa).q fun a w F W => ?_
 refine BQ tk 10 F W fun a w F W => ?_
 obtain ⟨x3, h3, H⟩ := Ac H
 refine A9 (Ml := [(q_p4, [Jint x2.2.2])]) (Zl := []) (β := Unit) (rv := fun x => .tuple #[Jint x3.1, Jint x3.2.1]) (MM := fun x => [(q_p4, [Jint x3.2.2])]) (ZZ := fun x => []) F W Ww Aa Aa (fun hL => ES _ _ w (v1) q_p4 p0 x1.1 x2.1 x2.2.2 _ h3 (W.roX h_v1 (fun g hg => Fq hg)) hL) fun x a w F W => ?_
 have W : Stw ⟨Y, X, w0⟩ [(q_p4, [Jint x3.2.2])] [] w := W
 refine ls F W Aa (Ai F Aa).q fun a w F W => ?_
 refine ls F W Aa (Bi (v := Jint x3.1) F Aa Aa).q fun a w F W => ?_
 refine ls F W Aa (Bi (v := Jint x3.2.1) F Aa Aa).q fun a w F W => ?_
 refine BQ tk 10 F W fun a w F W => ?_
 refine Ap ?_
 have H := Ay H
 subst H
 refine A1 (.inl Aa) F W Aa (Am F Aa) ?_
 exact ⟨(), Aa, W⟩
theorem Xk : Has Tryz.prog 103 := Cv Tryz.func103
def Bw (p0 : List Int) (p1 : Int) (p2 : Int) : Option (Int × Int) := (CF p0 (An (p1 - 1)) p1 (An (p1 + 1)) p2).bind fun x1 => some (x1.1, x1.2)
theorem DJ (Y : Nat → Prop) (X : List Nat) (w0 : World) (v1 : Value) (q_p2 : Nat) (p0 : List Int) (p1 : Int) (p2 : Int) (r : Int × Int) (H : Bw p0 p1 p2 = some r) (h_v1 : Sl w0 (NX X) ri v1 p0) (hL : Stw ⟨Y, X, w0⟩ [(q_p2, [Jint p2])] [] w0) :
    ca_ 102 #[v1, Jint p1, pp q_p2] w0 fun e w' => ∃ x : Unit, e = .returned (Jint r.1) ∧ Stw ⟨Y, X, w0⟩ [(q_p2, [Jint r.2])] [] w' := by
 refine enter Tryz.func102 Aa Tryz.ntmps102 Aa fun a F => ?_
 have W := hL
 unfold Bw at H
 refine vc tk 14 F W fun a w F W => ?_
 obtain ⟨x1, h1, H⟩ := Ac H
 refine A9 (Ml := [(q_p2, [Jint p2])]) (Zl := []) (β := Unit) (rv := fun x => Jint x1.1) (MM := fun x => [(q_p2, [Jint x1.2])]) (ZZ := fun x => []) F W Xk Aa Aa (fun hL => Gu _ _ w (v1) q_p2 p0 (An (p1 - 1)) p1 (An (p1 + 1)) p2 _ h1 (W.roX h_v1 (fun g hg => Fq hg)) hL) fun x a w F W => ?_
 have W : Stw ⟨Y, X, w0⟩ [(q_p2, [Jint x1.2])] [] w := W
 refine BQ tk 3 F W fun a w F W => ?_
 refine Ap ?_
 have H := Ay H
 subst H
 refine A1 (.inl Aa) F W Aa (Am F Aa) ?_
 exact ⟨(), Aa, W⟩
theorem WU : Has Tryz.prog 102 := Cv Tryz.func102
def Cu (p0 : List Int) (p1 : Int) (p2 : Int) : Option (Int × Int) := (if 8 ≤ (An (p2 - p1)) then (if 50 ≤ (An (p2 - p1)) then (Bw p0 (An (p1 + (An ((An (Int.tdiv (An (p2 - p1)) 4)) * 1)))) 0).bind fun x7 => (Bw p0 (An (p1 + (An ((An (Int.tdiv (An (p2 - p1)) 4)) * 2)))) x7.2).bind fun x8 => (Bw p0 (An (p1 + (An ((An (Int.tdiv (An (p2 - p1)) 4)) * 3)))) x8.2).bind fun x9 => some (x7.1, x8.1, x9.1, x9.2) else some (An (p1 + (An ((An (Int.tdiv (An (p2 - p1)) 4)) * 1))), An (p1 + (An ((An (Int.tdiv (An (p2 - p1)) 4)) * 2))), An (p1 + (An ((An (Int.tdiv (An (p2 - p1)) 4)) * 3))), 0)).bind fun (x3, x4, x5, x6) => (CF p0 x3 x4 x5 x6).bind fun x10 => some (x10.1, x10.2) else some (An (p1 + (An ((An (Int.tdiv (An (p2 - p1)) 4)) * 2))), 0)).bind fun (x1, x2) => (if x2 = 0 then some (x1, 1) else (if x2 = 12 then some (x1, 2) else some (x1, 0)))
theorem HK (Y : Nat → Prop) (w0 : World) (v1 : Value) (p0 : List Int) (p1 : Int) (p2 : Int) (r : Int × Int) (H : Cu p0 p1 p2 = some r) (h_v1 : Sl w0 (NX []) ri v1 p0) :
    ca_ 91 #[v1, Jint p1, Jint p2] w0 fun e w' => e = .returned (.tuple #[Jint r.1, Jint r.2]) ∧ Below w0.heap.size w0 w' := by
 refine enter Tryz.func91 Aa Tryz.ntmps91 Aa fun a F => ?_
 have W := Stw.start Y w0
 unfold Cu at H
 refine vc tk 16 F W fun a w F W => ?_
 refine B6 (cs := [Jint 0]) F W Aa Z3 Aa fun b1 a w F W => ?_
 refine BQ tk 6 F W fun a w F W => ?_
 refine ls F W Aa (Lo F Aa Aa (by decide) Aa).q fun a w F W => ?_
 refine BQ tk 9 F W fun a w F W => ?_
 refine ls F W Aa (Lo F Aa Aa (by decide) Aa).q fun a w F W => ?_
 refine BQ tk 9 F W fun a w F W => ?_
 refine ls F W Aa (Lo F Aa Aa (by decide) Aa).q fun a w F W => ?_
 refine vl tk 4 F W fun a w F W => ?_
 refine Ab ?_
 obtain ⟨o1, G1, K1⟩ := Ac H
 refine As (fun a w => ∃ x1 : Int, ∃ x2 : Int, some ((x1, x2)) = some o1 ∧ Fr 57 [] [(6, Jint 0), (7, Jint 0), (9, pp b1), (11, Jint x1)] a ∧ sy Y w0 [(b1, [Jint x2])] [] w) ?_ ?_
 ·
  have H := G1
  refine vc tk 6 F W fun a w F W => ?_
  refine AW F Aa H (fun F H => ?_) fun F H => ?_
  ·
   obtain ⟨o2, G2, K2⟩ := Ac H
   refine As (fun a w => ∃ x3 : Int, ∃ x4 : Int, ∃ x5 : Int, ∃ x6 : Int, some ((x3, x4, x5, x6)) = some o2 ∧ Fr 57 [] [(0, v1), (6, Jint 0), (7, Jint 0), (9, pp b1), (10, Jint x3), (11, Jint x4), (12, Jint x5)] a ∧ sy Y w0 [(b1, [Jint x6])] [] w) ?_ ?_
   ·
    have H := G2
    refine vc tk 6 F W fun a w F W => ?_
    refine AW F Aa H (fun F H => ?_) fun F H => ?_
    ·
     refine vc tk 4 F W fun a w F W => ?_
     obtain ⟨x7, h1, H⟩ := Ac H
     refine A9 (Ml := [(b1, [Jint 0])]) (Zl := []) (β := Unit) (rv := fun x => Jint x7.1) (MM := fun x => [(b1, [Jint x7.2])]) (ZZ := fun x => []) F W WU Aa Aa (fun hL => DJ _ _ w (v1) b1 p0 (An (p1 + (An ((An (Int.tdiv (An (p2 - p1)) 4)) * 1)))) 0 _ h1 (W.roX h_v1 (fun g hg => Fq hg)) hL) fun x a w F W => ?_
     have W : sy Y w0 [(b1, [Jint x7.2])] [] w := W
     refine BQ tk 7 F W fun a w F W => ?_
     obtain ⟨x8, h2, H⟩ := Ac H
     refine A9 (Ml := [(b1, [Jint x7.2])]) (Zl := []) (β := Unit) (rv := fun x => Jint x8.1) (MM := fun x => [(b1, [Jint x8.2])]) (ZZ := fun x => []) F W WU Aa Aa (fun hL => DJ _ _ w (v1) b1 p0 (An (p1 + (An ((An (Int.tdiv (An (p2 - p1)) 4)) * 2)))) x7.2 _ h2 (W.roX h_v1 (fun g hg => Fq hg)) hL) fun x a w F W => ?_
     have W : sy Y w0 [(b1, [Jint x8.2])] [] w := W
     refine BQ tk 6 F W fun a w F W => ?_
     obtain ⟨x9, h3, H⟩ := Ac H
     refine A9 (Ml := [(b1, [Jint x8.2])]) (Zl := []) (β := Unit) (rv := fun x => Jint x9.1) (MM := fun x => [(b1, [Jint x9.2])]) (ZZ := fun x => []) F W WU Aa Aa (fun hL => DJ _ _ w (v1) b1 p0 (An (p1 + (An ((An (Int.tdiv (An (p2 - p1)) 4)) * 3)))) x8.2 _ h3 (W.roX h_v1 (fun g hg => Fq hg)) hL) fun x a w F W => ?_
     have W : sy Y w0 [(b1, [Jint x9.2])] [] w := W
     refine vl tk 2 F W fun a w F W => ?_
     refine Ab ?_
     exact ⟨_, _, _, _, H, F.ra Aa, W⟩
    refine AE (Ab ?_)
    exact ⟨_, _, _, _, H, F.ra Aa, W⟩
   rintro a w ⟨x3, x4, x5, x6, hj, F, W⟩
   have hj := Ay hj
   subst hj
   have H := K2
   refine vc tk 5 F W fun a w F W => ?_
   obtain ⟨x10, h4, H⟩ := Ac H
   refine A9 (Ml := [(b1, [Jint x6])]) (Zl := []) (β := Unit) (rv := fun x => Jint x10.1) (MM := fun x => [(b1, [Jint x10.2])]) (ZZ := fun x => []) F W Xk Aa Aa (fun hL => Gu _ _ w (v1) b1 p0 x3 x4 x5 x6 _ h4 (W.roX h_v1 (fun g hg => Fq hg)) hL) fun x a w F W => ?_
   have W : sy Y w0 [(b1, [Jint x10.2])] [] w := W
   refine vl tk 2 F W fun a w F W => ?_
   refine Ab ?_
   exact ⟨_, _, H, F.ra Aa, W⟩
  refine AE (Ab ?_)
  exact ⟨_, _, H, F.ra Aa, W⟩
 rintro a w ⟨x1, x2, hj, F, W⟩
 have hj := Ay hj
 subst hj
 have H := K1
 refine Jk tk 12 [0] F W (ai fun a w F W => ?_)
 refine Gv F Aa (fun hb => ?_) fun hb => ?_
 ·
  have H := DU (Fa hb) H
  rw [hb] at F
  refine vc tk 7 F W fun a w F W => ?_
  refine Ap (AV ?_)
  have H := Ay H
  subst H
  refine FD (.inl Aa) F W Aa (Am F Aa) (Am F Aa) ?_
  exact ⟨rfl, W.done⟩
 have H := DS (E4 hb) H
 rw [hb] at F
 refine vc tk 6 F W fun a w F W => ?_
 refine Gv F Aa (fun hb => ?_) fun hb => ?_
 ·
  have H := DU (Fa hb) H
  rw [hb] at F
  refine vc tk 7 F W fun a w F W => ?_
  refine Ap (AV ?_)
  have H := Ay H
  subst H
  refine FD (.inl Aa) F W Aa (Am F Aa) (Am F Aa) ?_
  exact ⟨rfl, W.done⟩
 have H := DS (E4 hb) H
 rw [hb] at F
 refine vc tk 7 F W fun a w F W => ?_
 refine Ap (AV ?_)
 have H := Ay H
 subst H
 refine FD (.inl Aa) F W Aa (Am F Aa) (Am F Aa) ?_
 exact ⟨rfl, W.done⟩
end
end Go.Proofs.YthhoflfhegfmcaaGreat
