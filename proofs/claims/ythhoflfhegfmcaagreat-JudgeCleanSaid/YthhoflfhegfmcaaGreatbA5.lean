/- The functions of layer 25, JD. Conditions: none. -/
import Derived.Test.YthhoflfhegfmcaaGreatbA4
namespace Go.Proofs.YthhoflfhegfmcaaGreat
open Go Go.RowKit
set_option linter.unusedVariables false
set_option linter.unusedSimpArgs false
set_option maxRecDepth 20000
set_option maxHeartbeats 1600000
theorem ZU : Has Tryz.prog 66 := Cu Tryz.func66
noncomputable def BD (p0 : List (Int × Int × Int × Int)) (p1 : Int) (p2 : Int) (p3 : Int) (x1 : Int × Int × Int × Int) (x2 : Int × Int × Int × Int) : Int → Option (Int ⊕ Int)
  | x6 => (if x6 ≤ (An (p2 - 1)) then (ix (Ah (Ah p0 p1 x1) p3 x2) x6).bind fun x8 => (ix (Ah (Ah p0 p1 x1) p3 x2) p1).bind fun x9 => (Cb x8 x9).bind fun x10 => some (decide (x10 < 0)) else some false).bind fun x7 => (if x7 = true then some (.inl (An (x6 + 1))) else some (.inr x6))
noncomputable def B6 (p0 : List (Int × Int × Int × Int)) (p1 : Int) (p3 : Int) (x1 : Int × Int × Int × Int) (x2 : Int × Int × Int × Int) (x5 : Int) : Int → Option (Int ⊕ Int)
  | x12 => (if x5 ≤ x12 then (ix (Ah (Ah p0 p1 x1) p3 x2) x12).bind fun x14 => (ix (Ah (Ah p0 p1 x1) p3 x2) p1).bind fun x15 => (Cb x14 x15).bind fun x16 => some (!(decide (x16 < 0))) else some false).bind fun x13 => (if x13 = true then some (.inl (An (x12 - 1))) else some (.inr x12))
noncomputable def Ca (p1 : Int) (x27 : List (Int × Int × Int × Int)) (x29 : Int) : Int → Option (Int ⊕ Int)
  | x31 => (if x31 ≤ x29 then (ix x27 x31).bind fun x33 => (ix x27 p1).bind fun x34 => (Cb x33 x34).bind fun x35 => some (decide (x35 < 0)) else some false).bind fun x32 => (if x32 = true then some (.inl (An (x31 + 1))) else some (.inr x31))
noncomputable def B9 (p1 : Int) (x27 : List (Int × Int × Int × Int)) (x30 : Int) : Int → Option (Int ⊕ Int)
  | x37 => (if x30 ≤ x37 then (ix x27 x37).bind fun x39 => (ix x27 p1).bind fun x40 => (Cb x39 x40).bind fun x41 => some (!(decide (x41 < 0))) else some false).bind fun x38 => (if x38 = true then some (.inl (An (x37 - 1))) else some (.inr x37))
noncomputable def Bk (p1 : Int) : ((List (Int × Int × Int × Int)) × Int × Int) → Option (((List (Int × Int × Int × Int)) × Int × Int) ⊕ ((List (Int × Int × Int × Int)) × Int))
  | (x27, x28, x29) => (Ap (Ca p1 x27 x29) x28).bind fun x30 => (Ap (B9 p1 x27 x30) x29).bind fun x36 => (if x36 < x30 then some (.inr (x27, x36)) else (ix x27 x36).bind fun x42 => (ix x27 x30).bind fun x43 => (ix x27 x30).bind fun x44 => (ix (Ah x27 x30 x42) x36).bind fun x45 => some (.inl ((Ah (Ah x27 x30 x42) x36 x43), An (x30 + 1), An (x36 - 1))))
noncomputable def Co (p0 : List (Int × Int × Int × Int)) (p1 : Int) (p2 : Int) (p3 : Int) : Option (Int × Bool × (List (Int × Int × Int × Int))) := (ix p0 p3).bind fun x1 => (ix p0 p1).bind fun x2 => (ix p0 p1).bind fun x3 => (ix (Ah p0 p1 x1) p3).bind fun x4 => (Ap (BD p0 p1 p2 p3 x1 x2) (An (p1 + 1))).bind fun x5 => (Ap (B6 p0 p1 p3 x1 x2 x5) (An (p2 - 1))).bind fun x11 => (if x11 < x5 then (ix (Ah (Ah p0 p1 x1) p3 x2) p1).bind fun x17 => (ix (Ah (Ah p0 p1 x1) p3 x2) x11).bind fun x18 => (ix (Ah (Ah p0 p1 x1) p3 x2) x11).bind fun x19 => (ix (Ah (Ah (Ah p0 p1 x1) p3 x2) x11 x17) p1).bind fun x20 => some (x11, true, (Ah (Ah (Ah (Ah p0 p1 x1) p3 x2) x11 x17) p1 x18)) else (ix (Ah (Ah p0 p1 x1) p3 x2) x11).bind fun x21 => (ix (Ah (Ah p0 p1 x1) p3 x2) x5).bind fun x22 => (ix (Ah (Ah p0 p1 x1) p3 x2) x5).bind fun x23 => (ix (Ah (Ah (Ah p0 p1 x1) p3 x2) x5 x21) x11).bind fun x24 => (Ap (Bk p1) ((Ah (Ah (Ah (Ah p0 p1 x1) p3 x2) x5 x21) x11 x22), An (x5 + 1), An (x11 - 1))).bind fun (x25, x26) => (ix x25 p1).bind fun x46 => (ix x25 x26).bind fun x47 => (ix x25 x26).bind fun x48 => (ix (Ah x25 x26 x46) p1).bind fun x49 => some (x26, false, (Ah (Ah x25 x26 x46) p1 x47)))
theorem GI (Y : Nat → Prop) (X : List Nat) (w0 : World) (v1 : Value) (p0 : List (Int × Int × Int × Int)) (p1 : Int) (p2 : Int) (p3 : Int) (r : Int × Bool × (List (Int × Int × Int × Int))) (H : Co p0 p1 p2 p3 = some r) (hL : Stw ⟨Y, X, w0⟩ [] [row v1 43 A5 p0] w0) :
    Calls Tryz.prog 67 #[v1, .int .i64 p1, .int .i64 p2, .int .i64 p3, .func (.func 22) #[] #[]] w0 fun e w' => ∃ x : Unit, e = .returned (.tuple #[.int .i64 r.1, .bool r.2.1]) ∧ Stw ⟨Y, X, w0⟩ [] [row v1 43 A5 r.2.2] w' := by
 refine enter Tryz.func67 Aa Tryz.ntmps67 Aa fun a F => ?_
 have W := hL
 unfold Co at H
 refine vc tk 7 F W fun a w F W => ?_
 refine Jm 13 [2, 3] [0, 1, 4, 5, 6, 7, 8, 9, 10, 11, 12] (fun ch a d v w h => by cases d <;> exact h) W MO (by kernel_rfl) ?_
 iterate 2 refine hm F Aa Aa Aa fun a F => ?_
 refine KM ?_
 iterate 4 refine hs F Aa Aa Aa (Ai F Aa).q fun a F => ?_
 obtain ⟨x1, h1, H⟩ := Ac H
 refine hs F Aa Aa Aa (Al (r := A5) EM F Aa Aa (Af 0 Aa) h1).q fun a F => ?_
 refine hs F Aa Aa Aa (Ag (y := Value.agg #[.int .i64 x1.1, .int .i64 x1.2.1, .int .i64 x1.2.2.1, .int .i64 x1.2.2.2]) (j := 0) (i := p3) F Aa Aa (Af 0 Aa) h1 ES.to Er Aa).q fun a F => ?_
 iterate 2 refine hs F Aa Aa Aa (Ai F Aa).q fun a F => ?_
 obtain ⟨x2, h2, H⟩ := Ac H
 refine hs F Aa Aa Aa (Al (r := A5) EM F Aa Aa (Af 0 Aa) h2).q fun a F => ?_
 refine hs F Aa Aa Aa (Ag (y := Value.agg #[.int .i64 x2.1, .int .i64 x2.2.1, .int .i64 x2.2.2.1, .int .i64 x2.2.2.2]) (j := 0) (i := p1) F Aa Aa (Af 0 Aa) h2 ES.to Er Aa).q fun a F => ?_
 obtain ⟨x3, h3, H⟩ := Ac H
 refine hs F Aa Aa Aa (Al (r := A5) EM F Aa Aa (Af 0 Aa) h3).q fun a F => ?_
 refine M0 fun w W => ?_
 have W : Stw ⟨Y, X, w0⟩ [] [row v1 43 A5 p0] w := W
 refine AY (i := p1) (j := 0) (vs := (Ck x1)) (x' := x1) F W Aa Aa Aa (k := 0) Aa Aa h3 Er Aa Aa Aa Aa (fun A cs _ => ES.sto (by rfl) _ _ _) fun w W => ?_
 obtain ⟨x4, h4, H⟩ := Ac H
 refine ls F W Aa (Al (r := A5) EM F Aa Aa (Af 0 Aa) h4).q fun a w F W => ?_
 refine AY (i := p3) (j := 0) (vs := (Ck x2)) (x' := x2) F W Aa Aa Aa (k := 0) Aa Aa h4 Er Aa Aa Aa Aa (fun A cs _ => ES.sto (by rfl) _ _ _) fun w W => ?_
 refine BR tk 12 F W fun a w F W => ?_
 obtain ⟨o1, G1, K1⟩ := Ac H
 refine Aq (fun a w => ∃ x5 : Int, some (x5) = some o1 ∧ Fr 178 [] [(0, v1), (1, .int .i64 p1), (4, .func (.func 22) #[] #[]), (10, .int .i64 0), (11, .bool false), (12, .int .i64 x5), (13, .int .i64 (An (p2 - 1)))] a ∧ Stw ⟨Y, X, w0⟩ [] [row v1 43 A5 (Ah (Ah p0 p1 x1) p3 x2)] w) ?_ ?_
 ·
  have H := G1
  clear G1 K1
  refine Ep ?_
  refine AL H (fun s a w => Fr 178 [] [(0, v1), (1, .int .i64 p1), (4, .func (.func 22) #[] #[]), (10, .int .i64 0), (11, .bool false), (12, .int .i64 s), (13, .int .i64 (An (p2 - 1)))] a ∧ Stw ⟨Y, X, w0⟩ [] [row v1 43 A5 (Ah (Ah p0 p1 x1) p3 x2)] w) ⟨F.ra Aa, W⟩ fun s o a w H L2 hR => ?_
  obtain ⟨x6, rfl⟩ : ∃ x, x = s := ⟨s, rfl⟩
  obtain ⟨F, W⟩ := hR
  have F : Fr 178 [] [(0, v1), (1, .int .i64 p1), (4, .func (.func 22) #[] #[]), (10, .int .i64 0), (11, .bool false), (12, .int .i64 x6), (13, .int .i64 (An (p2 - 1)))] a := F
  have W : Stw ⟨Y, X, w0⟩ [] [row v1 43 A5 (Ah (Ah p0 p1 x1) p3 x2)] w := W
  rw [BD] at H
  refine Hp ?_
  obtain ⟨o3, G3, K3⟩ := Ac H
  refine Aq (fun a w => ∃ x7 : Bool, some (x7) = some o3 ∧ Fr 178 [] [(0, v1), (1, .int .i64 p1), (4, .func (.func 22) #[] #[]), (10, .int .i64 0), (11, .bool false), (12, .int .i64 x6), (13, .int .i64 (An (p2 - 1))), (47, .bool x7)] a ∧ Stw ⟨Y, X, w0⟩ [] [row v1 43 A5 (Ah (Ah p0 p1 x1) p3 x2)] w) ?_ ?_
  ·
   have H := G3
   clear G3 K3
   refine BB W MO (by kernel_rfl) ?_
   iterate 2 refine qs F Aa (Ai F Aa).q fun a F => ?_
   refine qs F Aa (Ob F Aa Aa).q fun a F => ?_
   refine qs F Aa (Ai F Aa).q fun a F => ?_
   rcases Bool.eq_false_or_eq_true (decide (x6 ≤ (An (p2 - 1)))) with hb | hb
   ·
    have H := D0 (Fm hb) H
    rw [hb] at F
    clear hb
    iterate 3 refine A8 F (Ae F Aa Aa Aa Aa) Aa (As Aa) (Ai F Aa).q fun a F => ?_
    obtain ⟨x8, h5, H⟩ := Ac H
    refine A8 F (Ae F Aa Aa Aa Aa) Aa (As Aa) (Al (r := A5) EM F Aa Aa (Af 0 Aa) h5).q fun a F => ?_
    refine A8 F (Ae F Aa Aa Aa Aa) Aa (As Aa) (Ag (y := Value.agg #[.int .i64 x8.1, .int .i64 x8.2.1, .int .i64 x8.2.2.1, .int .i64 x8.2.2.2]) (j := 0) (i := x6) F Aa Aa (Af 0 Aa) h5 ES.to Er Aa).q fun a F => ?_
    iterate 2 refine A8 F (Ae F Aa Aa Aa Aa) Aa (As Aa) (Ai F Aa).q fun a F => ?_
    obtain ⟨x9, h6, H⟩ := Ac H
    refine A8 F (Ae F Aa Aa Aa Aa) Aa (As Aa) (Al (r := A5) EM F Aa Aa (Af 0 Aa) h6).q fun a F => ?_
    refine A8 F (Ae F Aa Aa Aa Aa) Aa (As Aa) (Ag (y := Value.agg #[.int .i64 x9.1, .int .i64 x9.2.1, .int .i64 x9.2.2.1, .int .i64 x9.2.2.2]) (j := 0) (i := p1) F Aa Aa (Af 0 Aa) h6 ES.to Er Aa).q fun a F => ?_
    obtain ⟨x10, h7, H⟩ := Ac H
    refine A8 F (Ae F Aa Aa Aa Aa) Aa (As Aa) (E1 (ws := (Jr x8 x9)) (v := Value.int .i64 x10) F RO Aa (fun w W => Cn any w x8 x9 _ h7)) fun a F => ?_
    refine A8 F (Ae F Aa Aa Aa Aa) Aa (As Aa) (GM F Aa Aa).q fun a F => ?_
    refine qs F Aa (Dh F Aa Aa Aa).q fun a F => ?_
    refine AD fun w W => ?_
    refine Ab ?_
    exact ⟨_, H, F.ra Aa, W⟩
   have H := DZ (Fo hb) H
   rw [hb] at F
   clear hb
   iterate 11 refine Ds F (C3 F Aa Aa Aa Aa Aa) Aa Aa fun a F => ?_
   refine qs F Aa (DC F Aa Aa Aa).q fun a F => ?_
   refine AD fun w W => ?_
   refine Ab ?_
   exact ⟨_, H, F.ra Aa, W⟩
  rintro a w ⟨x7, hj, F, W⟩
  have hj := Ax hj
  subst hj
  have H := K3
  clear G3 K3
  refine C2 F Aa H (fun F H => ?_) fun F H => ?_
  ·
   refine FP tk 8 F W fun a w F W => ?_
   refine Ab ?_
   exact ⟨_, H, F.ra Aa, W⟩
  refine AA ?_
  iterate 2 refine AQ ?_
  refine AC (Ab ?_)
  have H := L2 _ H
  exact ⟨_, H, F.ra Aa, W⟩
 rintro a w ⟨x5, hj, F, W⟩
 have hj := Ax hj
 subst hj
 have H := K1
 clear G1 K1
 obtain ⟨o4, G4, K4⟩ := Ac H
 refine Aq (fun a w => ∃ x11 : Int, some (x11) = some o4 ∧ Fr 178 [] [(0, v1), (1, .int .i64 p1), (4, .func (.func 22) #[] #[]), (10, .int .i64 0), (11, .bool false), (12, .int .i64 x5), (13, .int .i64 x11)] a ∧ Stw ⟨Y, X, w0⟩ [] [row v1 43 A5 (Ah (Ah p0 p1 x1) p3 x2)] w) ?_ ?_
 ·
  have H := G4
  clear G4 K4
  refine Ep ?_
  refine AL H (fun s a w => Fr 178 [] [(0, v1), (1, .int .i64 p1), (4, .func (.func 22) #[] #[]), (10, .int .i64 0), (11, .bool false), (12, .int .i64 x5), (13, .int .i64 s)] a ∧ Stw ⟨Y, X, w0⟩ [] [row v1 43 A5 (Ah (Ah p0 p1 x1) p3 x2)] w) ⟨F.ra Aa, W⟩ fun s o a w H L5 hR => ?_
  obtain ⟨x12, rfl⟩ : ∃ x, x = s := ⟨s, rfl⟩
  obtain ⟨F, W⟩ := hR
  have F : Fr 178 [] [(0, v1), (1, .int .i64 p1), (4, .func (.func 22) #[] #[]), (10, .int .i64 0), (11, .bool false), (12, .int .i64 x5), (13, .int .i64 x12)] a := F
  have W : Stw ⟨Y, X, w0⟩ [] [row v1 43 A5 (Ah (Ah p0 p1 x1) p3 x2)] w := W
  rw [B6] at H
  refine Hp ?_
  obtain ⟨o6, G6, K6⟩ := Ac H
  refine Aq (fun a w => ∃ x13 : Bool, some (x13) = some o6 ∧ Fr 178 [] [(0, v1), (1, .int .i64 p1), (4, .func (.func 22) #[] #[]), (10, .int .i64 0), (11, .bool false), (12, .int .i64 x5), (13, .int .i64 x12), (66, .bool x13)] a ∧ Stw ⟨Y, X, w0⟩ [] [row v1 43 A5 (Ah (Ah p0 p1 x1) p3 x2)] w) ?_ ?_
  ·
   have H := G6
   clear G6 K6
   refine BB W MO (by kernel_rfl) ?_
   iterate 2 refine qs F Aa (Ai F Aa).q fun a F => ?_
   refine qs F Aa (Ob F Aa Aa).q fun a F => ?_
   refine qs F Aa (Ai F Aa).q fun a F => ?_
   rcases Bool.eq_false_or_eq_true (decide (x5 ≤ x12)) with hb | hb
   ·
    have H := D0 (Fm hb) H
    rw [hb] at F
    clear hb
    iterate 3 refine A8 F (Ae F Aa Aa Aa Aa) Aa (As Aa) (Ai F Aa).q fun a F => ?_
    obtain ⟨x14, h8, H⟩ := Ac H
    refine A8 F (Ae F Aa Aa Aa Aa) Aa (As Aa) (Al (r := A5) EM F Aa Aa (Af 0 Aa) h8).q fun a F => ?_
    refine A8 F (Ae F Aa Aa Aa Aa) Aa (As Aa) (Ag (y := Value.agg #[.int .i64 x14.1, .int .i64 x14.2.1, .int .i64 x14.2.2.1, .int .i64 x14.2.2.2]) (j := 0) (i := x12) F Aa Aa (Af 0 Aa) h8 ES.to Er Aa).q fun a F => ?_
    iterate 2 refine A8 F (Ae F Aa Aa Aa Aa) Aa (As Aa) (Ai F Aa).q fun a F => ?_
    obtain ⟨x15, h9, H⟩ := Ac H
    refine A8 F (Ae F Aa Aa Aa Aa) Aa (As Aa) (Al (r := A5) EM F Aa Aa (Af 0 Aa) h9).q fun a F => ?_
    refine A8 F (Ae F Aa Aa Aa Aa) Aa (As Aa) (Ag (y := Value.agg #[.int .i64 x15.1, .int .i64 x15.2.1, .int .i64 x15.2.2.1, .int .i64 x15.2.2.2]) (j := 0) (i := p1) F Aa Aa (Af 0 Aa) h9 ES.to Er Aa).q fun a F => ?_
    obtain ⟨x16, h10, H⟩ := Ac H
    refine A8 F (Ae F Aa Aa Aa Aa) Aa (As Aa) (E1 (ws := (Jr x14 x15)) (v := Value.int .i64 x16) F RO Aa (fun w W => Cn any w x14 x15 _ h10)) fun a F => ?_
    refine A8 F (Ae F Aa Aa Aa Aa) Aa (As Aa) (GM F Aa Aa).q fun a F => ?_
    refine A8 F (Ae F Aa Aa Aa Aa) Aa (As Aa) (IY F Aa).q fun a F => ?_
    refine qs F Aa (Dh F Aa Aa Aa).q fun a F => ?_
    refine AD fun w W => ?_
    refine Ab ?_
    exact ⟨_, H, F.ra Aa, W⟩
   have H := DZ (Fo hb) H
   rw [hb] at F
   clear hb
   iterate 12 refine Ds F (C3 F Aa Aa Aa Aa Aa) Aa Aa fun a F => ?_
   refine qs F Aa (DC F Aa Aa Aa).q fun a F => ?_
   refine AD fun w W => ?_
   refine Ab ?_
   exact ⟨_, H, F.ra Aa, W⟩
  rintro a w ⟨x13, hj, F, W⟩
  have hj := Ax hj
  subst hj
  have H := K6
  clear G6 K6
  refine C2 F Aa H (fun F H => ?_) fun F H => ?_
  ·
   refine FP tk 8 F W fun a w F W => ?_
   refine Ab ?_
   exact ⟨_, H, F.ra Aa, W⟩
  refine AA ?_
  iterate 2 refine AQ ?_
  refine AC (Ab ?_)
  have H := L5 _ H
  exact ⟨_, H, F.ra Aa, W⟩
 rintro a w ⟨x11, hj, F, W⟩
 have hj := Ax hj
 subst hj
 have H := K4
 clear G4 K4
 refine vc tk 8 F W fun a w F W => ?_
 refine AU F Aa H (fun F H => ?_) fun F H => ?_
 ·
  refine Hp ?_
  refine Jm 13 [2, 3] [0, 1, 4, 5, 6, 7, 8, 9, 10, 11, 12] (fun ch a d v w h => by cases d <;> exact h) W MO (by kernel_rfl) ?_
  iterate 2 refine hm F Aa Aa Aa fun a F => ?_
  refine KM ?_
  iterate 4 refine hs F Aa Aa Aa (Ai F Aa).q fun a F => ?_
  obtain ⟨x17, h11, H⟩ := Ac H
  refine hs F Aa Aa Aa (Al (r := A5) EM F Aa Aa (Af 0 Aa) h11).q fun a F => ?_
  refine hs F Aa Aa Aa (Ag (y := Value.agg #[.int .i64 x17.1, .int .i64 x17.2.1, .int .i64 x17.2.2.1, .int .i64 x17.2.2.2]) (j := 0) (i := p1) F Aa Aa (Af 0 Aa) h11 ES.to Er Aa).q fun a F => ?_
  iterate 2 refine hs F Aa Aa Aa (Ai F Aa).q fun a F => ?_
  obtain ⟨x18, h12, H⟩ := Ac H
  refine hs F Aa Aa Aa (Al (r := A5) EM F Aa Aa (Af 0 Aa) h12).q fun a F => ?_
  refine hs F Aa Aa Aa (Ag (y := Value.agg #[.int .i64 x18.1, .int .i64 x18.2.1, .int .i64 x18.2.2.1, .int .i64 x18.2.2.2]) (j := 0) (i := x11) F Aa Aa (Af 0 Aa) h12 ES.to Er Aa).q fun a F => ?_
  obtain ⟨x19, h13, H⟩ := Ac H
  refine hs F Aa Aa Aa (Al (r := A5) EM F Aa Aa (Af 0 Aa) h13).q fun a F => ?_
  refine M0 fun w W => ?_
  have W : Stw ⟨Y, X, w0⟩ [] [row v1 43 A5 (Ah (Ah p0 p1 x1) p3 x2)] w := W
  refine AY (i := x11) (j := 0) (vs := (Ck x17)) (x' := x17) F W Aa Aa Aa (k := 0) Aa Aa h13 Er Aa Aa Aa Aa (fun A cs _ => ES.sto (by rfl) _ _ _) fun w W => ?_
  obtain ⟨x20, h14, H⟩ := Ac H
  refine ls F W Aa (Al (r := A5) EM F Aa Aa (Af 0 Aa) h14).q fun a w F W => ?_
  refine AY (i := p1) (j := 0) (vs := (Ck x18)) (x' := x18) F W Aa Aa Aa (k := 0) Aa Aa h14 Er Aa Aa Aa Aa (fun A cs _ => ES.sto (by rfl) _ _ _) fun w W => ?_
  refine BR tk 9 F W fun a w F W => ?_
  refine Ao (AE ?_)
  have H := Ax H
  subst H
  refine FF (.inl Aa) F W Aa (Am F Aa) (Am F Aa) ?_
  exact ⟨(), Aa, W⟩
 refine FP tk 3 F W fun a w F W => ?_
 refine Jm 13 [2, 3] [0, 1, 4, 5, 6, 7, 8, 9, 10, 11, 12] (fun ch a d v w h => by cases d <;> exact h) W MO (by kernel_rfl) ?_
 iterate 2 refine hm F Aa Aa Aa fun a F => ?_
 refine KM ?_
 iterate 4 refine hs F Aa Aa Aa (Ai F Aa).q fun a F => ?_
 obtain ⟨x21, h15, H⟩ := Ac H
 refine hs F Aa Aa Aa (Al (r := A5) EM F Aa Aa (Af 0 Aa) h15).q fun a F => ?_
 refine hs F Aa Aa Aa (Ag (y := Value.agg #[.int .i64 x21.1, .int .i64 x21.2.1, .int .i64 x21.2.2.1, .int .i64 x21.2.2.2]) (j := 0) (i := x11) F Aa Aa (Af 0 Aa) h15 ES.to Er Aa).q fun a F => ?_
 iterate 2 refine hs F Aa Aa Aa (Ai F Aa).q fun a F => ?_
 obtain ⟨x22, h16, H⟩ := Ac H
 refine hs F Aa Aa Aa (Al (r := A5) EM F Aa Aa (Af 0 Aa) h16).q fun a F => ?_
 refine hs F Aa Aa Aa (Ag (y := Value.agg #[.int .i64 x22.1, .int .i64 x22.2.1, .int .i64 x22.2.2.1, .int .i64 x22.2.2.2]) (j := 0) (i := x5) F Aa Aa (Af 0 Aa) h16 ES.to Er Aa).q fun a F => ?_
 obtain ⟨x23, h17, H⟩ := Ac H
 refine hs F Aa Aa Aa (Al (r := A5) EM F Aa Aa (Af 0 Aa) h17).q fun a F => ?_
 refine M0 fun w W => ?_
 have W : Stw ⟨Y, X, w0⟩ [] [row v1 43 A5 (Ah (Ah p0 p1 x1) p3 x2)] w := W
 refine AY (i := x5) (j := 0) (vs := (Ck x21)) (x' := x21) F W Aa Aa Aa (k := 0) Aa Aa h17 Er Aa Aa Aa Aa (fun A cs _ => ES.sto (by rfl) _ _ _) fun w W => ?_
 obtain ⟨x24, h18, H⟩ := Ac H
 refine ls F W Aa (Al (r := A5) EM F Aa Aa (Af 0 Aa) h18).q fun a w F W => ?_
 refine AY (i := x11) (j := 0) (vs := (Ck x22)) (x' := x22) F W Aa Aa Aa (k := 0) Aa Aa h18 Er Aa Aa Aa Aa (fun A cs _ => ES.sto (by rfl) _ _ _) fun w W => ?_
 refine BR tk 16 F W fun a w F W => ?_
 obtain ⟨o7, G7, K7⟩ := Ac H
 refine Aq (fun a w => ∃ x25 : List (Int × Int × Int × Int), ∃ x26 : Int, some ((x25, x26)) = some o7 ∧ Fr 178 [] [(0, v1), (1, .int .i64 p1), (10, .int .i64 0), (11, .bool false), (13, .int .i64 x26)] a ∧ Stw ⟨Y, X, w0⟩ [] [row v1 43 A5 x25] w) ?_ ?_
 ·
  have H := G7
  clear G7 K7
  refine Ep ?_
  refine AL H (fun s a w => Fr 178 [] [(0, v1), (1, .int .i64 p1), (4, .func (.func 22) #[] #[]), (10, .int .i64 0), (11, .bool false), (12, .int .i64 s.2.1), (13, .int .i64 s.2.2)] a ∧ Stw ⟨Y, X, w0⟩ [] [row v1 43 A5 s.1] w) ⟨F.ra Aa, W⟩ fun s o a w H L8 hR => ?_
  obtain ⟨x27, x28, x29⟩ := s
  obtain ⟨F, W⟩ := hR
  have F : Fr 178 [] [(0, v1), (1, .int .i64 p1), (4, .func (.func 22) #[] #[]), (10, .int .i64 0), (11, .bool false), (12, .int .i64 x28), (13, .int .i64 x29)] a := F
  have W : Stw ⟨Y, X, w0⟩ [] [row v1 43 A5 x27] w := W
  rw [Bk] at H
  refine Ep ?_
  obtain ⟨o9, G9, K9⟩ := Ac H
  refine Aq (fun a w => ∃ x30 : Int, some (x30) = some o9 ∧ Fr 178 [] [(0, v1), (1, .int .i64 p1), (4, .func (.func 22) #[] #[]), (10, .int .i64 0), (11, .bool false), (12, .int .i64 x30), (13, .int .i64 x29)] a ∧ Stw ⟨Y, X, w0⟩ [] [row v1 43 A5 x27] w) ?_ ?_
  ·
   have H := G9
   clear G9 K9
   refine Ep ?_
   refine AL H (fun s a w => Fr 178 [] [(0, v1), (1, .int .i64 p1), (4, .func (.func 22) #[] #[]), (10, .int .i64 0), (11, .bool false), (12, .int .i64 s), (13, .int .i64 x29)] a ∧ Stw ⟨Y, X, w0⟩ [] [row v1 43 A5 x27] w) ⟨F.ra Aa, W⟩ fun s o a w H L10 hR => ?_
   obtain ⟨x31, rfl⟩ : ∃ x, x = s := ⟨s, rfl⟩
   obtain ⟨F, W⟩ := hR
   have F : Fr 178 [] [(0, v1), (1, .int .i64 p1), (4, .func (.func 22) #[] #[]), (10, .int .i64 0), (11, .bool false), (12, .int .i64 x31), (13, .int .i64 x29)] a := F
   have W : Stw ⟨Y, X, w0⟩ [] [row v1 43 A5 x27] w := W
   rw [Ca] at H
   refine Hp ?_
   obtain ⟨o11, G11, K11⟩ := Ac H
   refine Aq (fun a w => ∃ x32 : Bool, some (x32) = some o11 ∧ Fr 178 [] [(0, v1), (1, .int .i64 p1), (4, .func (.func 22) #[] #[]), (10, .int .i64 0), (11, .bool false), (12, .int .i64 x31), (13, .int .i64 x29), (120, .bool x32)] a ∧ Stw ⟨Y, X, w0⟩ [] [row v1 43 A5 x27] w) ?_ ?_
   ·
    have H := G11
    clear G11 K11
    refine BB W MO (by kernel_rfl) ?_
    iterate 2 refine qs F Aa (Ai F Aa).q fun a F => ?_
    refine qs F Aa (Ob F Aa Aa).q fun a F => ?_
    refine qs F Aa (Ai F Aa).q fun a F => ?_
    rcases Bool.eq_false_or_eq_true (decide (x31 ≤ x29)) with hb | hb
    ·
     have H := D0 (Fm hb) H
     rw [hb] at F
     clear hb
     iterate 3 refine A8 F (Ae F Aa Aa Aa Aa) Aa (As Aa) (Ai F Aa).q fun a F => ?_
     obtain ⟨x33, h19, H⟩ := Ac H
     refine A8 F (Ae F Aa Aa Aa Aa) Aa (As Aa) (Al (r := A5) EM F Aa Aa (Af 0 Aa) h19).q fun a F => ?_
     refine A8 F (Ae F Aa Aa Aa Aa) Aa (As Aa) (Ag (y := Value.agg #[.int .i64 x33.1, .int .i64 x33.2.1, .int .i64 x33.2.2.1, .int .i64 x33.2.2.2]) (j := 0) (i := x31) F Aa Aa (Af 0 Aa) h19 ES.to Er Aa).q fun a F => ?_
     iterate 2 refine A8 F (Ae F Aa Aa Aa Aa) Aa (As Aa) (Ai F Aa).q fun a F => ?_
     obtain ⟨x34, h20, H⟩ := Ac H
     refine A8 F (Ae F Aa Aa Aa Aa) Aa (As Aa) (Al (r := A5) EM F Aa Aa (Af 0 Aa) h20).q fun a F => ?_
     refine A8 F (Ae F Aa Aa Aa Aa) Aa (As Aa) (Ag (y := Value.agg #[.int .i64 x34.1, .int .i64 x34.2.1, .int .i64 x34.2.2.1, .int .i64 x34.2.2.2]) (j := 0) (i := p1) F Aa Aa (Af 0 Aa) h20 ES.to Er Aa).q fun a F => ?_
     obtain ⟨x35, h21, H⟩ := Ac H
     refine A8 F (Ae F Aa Aa Aa Aa) Aa (As Aa) (E1 (ws := (Jr x33 x34)) (v := Value.int .i64 x35) F RO Aa (fun w W => Cn any w x33 x34 _ h21)) fun a F => ?_
     refine A8 F (Ae F Aa Aa Aa Aa) Aa (As Aa) (GM F Aa Aa).q fun a F => ?_
     refine qs F Aa (Dh F Aa Aa Aa).q fun a F => ?_
     refine AD fun w W => ?_
     refine Ab ?_
     exact ⟨_, H, F.ra Aa, W⟩
    have H := DZ (Fo hb) H
    rw [hb] at F
    clear hb
    iterate 11 refine Ds F (C3 F Aa Aa Aa Aa Aa) Aa Aa fun a F => ?_
    refine qs F Aa (DC F Aa Aa Aa).q fun a F => ?_
    refine AD fun w W => ?_
    refine Ab ?_
    exact ⟨_, H, F.ra Aa, W⟩
   rintro a w ⟨x32, hj, F, W⟩
   have hj := Ax hj
   subst hj
   have H := K11
   clear G11 K11
   refine C2 F Aa H (fun F H => ?_) fun F H => ?_
   ·
    refine FP tk 8 F W fun a w F W => ?_
    refine Ab ?_
    exact ⟨_, H, F.ra Aa, W⟩
   refine AA ?_
   iterate 2 refine AQ ?_
   refine AC (Ab ?_)
   have H := L10 _ H
   exact ⟨_, H, F.ra Aa, W⟩
  rintro a w ⟨x30, hj, F, W⟩
  have hj := Ax hj
  subst hj
  have H := K9
  clear G9 K9
  obtain ⟨o12, G12, K12⟩ := Ac H
  refine Aq (fun a w => ∃ x36 : Int, some (x36) = some o12 ∧ Fr 178 [] [(0, v1), (1, .int .i64 p1), (4, .func (.func 22) #[] #[]), (10, .int .i64 0), (11, .bool false), (12, .int .i64 x30), (13, .int .i64 x36)] a ∧ Stw ⟨Y, X, w0⟩ [] [row v1 43 A5 x27] w) ?_ ?_
  ·
   have H := G12
   clear G12 K12
   refine Ep ?_
   refine AL H (fun s a w => Fr 178 [] [(0, v1), (1, .int .i64 p1), (4, .func (.func 22) #[] #[]), (10, .int .i64 0), (11, .bool false), (12, .int .i64 x30), (13, .int .i64 s)] a ∧ Stw ⟨Y, X, w0⟩ [] [row v1 43 A5 x27] w) ⟨F.ra Aa, W⟩ fun s o a w H L13 hR => ?_
   obtain ⟨x37, rfl⟩ : ∃ x, x = s := ⟨s, rfl⟩
   obtain ⟨F, W⟩ := hR
   have F : Fr 178 [] [(0, v1), (1, .int .i64 p1), (4, .func (.func 22) #[] #[]), (10, .int .i64 0), (11, .bool false), (12, .int .i64 x30), (13, .int .i64 x37)] a := F
   have W : Stw ⟨Y, X, w0⟩ [] [row v1 43 A5 x27] w := W
   rw [B9] at H
   refine Hp ?_
   obtain ⟨o14, G14, K14⟩ := Ac H
   refine Aq (fun a w => ∃ x38 : Bool, some (x38) = some o14 ∧ Fr 178 [] [(0, v1), (1, .int .i64 p1), (4, .func (.func 22) #[] #[]), (10, .int .i64 0), (11, .bool false), (12, .int .i64 x30), (13, .int .i64 x37), (139, .bool x38)] a ∧ Stw ⟨Y, X, w0⟩ [] [row v1 43 A5 x27] w) ?_ ?_
   ·
    have H := G14
    clear G14 K14
    refine BB W MO (by kernel_rfl) ?_
    iterate 2 refine qs F Aa (Ai F Aa).q fun a F => ?_
    refine qs F Aa (Ob F Aa Aa).q fun a F => ?_
    refine qs F Aa (Ai F Aa).q fun a F => ?_
    rcases Bool.eq_false_or_eq_true (decide (x30 ≤ x37)) with hb | hb
    ·
     have H := D0 (Fm hb) H
     rw [hb] at F
     clear hb
     iterate 3 refine A8 F (Ae F Aa Aa Aa Aa) Aa (As Aa) (Ai F Aa).q fun a F => ?_
     obtain ⟨x39, h22, H⟩ := Ac H
     refine A8 F (Ae F Aa Aa Aa Aa) Aa (As Aa) (Al (r := A5) EM F Aa Aa (Af 0 Aa) h22).q fun a F => ?_
     refine A8 F (Ae F Aa Aa Aa Aa) Aa (As Aa) (Ag (y := Value.agg #[.int .i64 x39.1, .int .i64 x39.2.1, .int .i64 x39.2.2.1, .int .i64 x39.2.2.2]) (j := 0) (i := x37) F Aa Aa (Af 0 Aa) h22 ES.to Er Aa).q fun a F => ?_
     iterate 2 refine A8 F (Ae F Aa Aa Aa Aa) Aa (As Aa) (Ai F Aa).q fun a F => ?_
     obtain ⟨x40, h23, H⟩ := Ac H
     refine A8 F (Ae F Aa Aa Aa Aa) Aa (As Aa) (Al (r := A5) EM F Aa Aa (Af 0 Aa) h23).q fun a F => ?_
     refine A8 F (Ae F Aa Aa Aa Aa) Aa (As Aa) (Ag (y := Value.agg #[.int .i64 x40.1, .int .i64 x40.2.1, .int .i64 x40.2.2.1, .int .i64 x40.2.2.2]) (j := 0) (i := p1) F Aa Aa (Af 0 Aa) h23 ES.to Er Aa).q fun a F => ?_
     obtain ⟨x41, h24, H⟩ := Ac H
     refine A8 F (Ae F Aa Aa Aa Aa) Aa (As Aa) (E1 (ws := (Jr x39 x40)) (v := Value.int .i64 x41) F RO Aa (fun w W => Cn any w x39 x40 _ h24)) fun a F => ?_
     refine A8 F (Ae F Aa Aa Aa Aa) Aa (As Aa) (GM F Aa Aa).q fun a F => ?_
     refine A8 F (Ae F Aa Aa Aa Aa) Aa (As Aa) (IY F Aa).q fun a F => ?_
     refine qs F Aa (Dh F Aa Aa Aa).q fun a F => ?_
     refine AD fun w W => ?_
     refine Ab ?_
     exact ⟨_, H, F.ra Aa, W⟩
    have H := DZ (Fo hb) H
    rw [hb] at F
    clear hb
    iterate 12 refine Ds F (C3 F Aa Aa Aa Aa Aa) Aa Aa fun a F => ?_
    refine qs F Aa (DC F Aa Aa Aa).q fun a F => ?_
    refine AD fun w W => ?_
    refine Ab ?_
    exact ⟨_, H, F.ra Aa, W⟩
   rintro a w ⟨x38, hj, F, W⟩
   have hj := Ax hj
   subst hj
   have H := K14
   clear G14 K14
   refine C2 F Aa H (fun F H => ?_) fun F H => ?_
   ·
    refine FP tk 8 F W fun a w F W => ?_
    refine Ab ?_
    exact ⟨_, H, F.ra Aa, W⟩
   refine AA ?_
   iterate 2 refine AQ ?_
   refine AC (Ab ?_)
   have H := L13 _ H
   exact ⟨_, H, F.ra Aa, W⟩
  rintro a w ⟨x36, hj, F, W⟩
  have hj := Ax hj
  subst hj
  have H := K12
  clear G12 K12
  refine vc tk 8 F W fun a w F W => ?_
  refine AU F Aa H (fun F H => ?_) fun F H => ?_
  ·
   refine AA (AQ ?_)
   refine Il Aa ?_
   refine AQ (AC (Ab ?_))
   have H := L8 _ H
   exact ⟨_, _, H, F.ra Aa, W⟩
  refine FP tk 3 F W fun a w F W => ?_
  refine Jm 13 [2, 3] [0, 1, 4, 5, 6, 7, 8, 9, 10, 11, 12] (fun ch a d v w h => by cases d <;> exact h) W MO (by kernel_rfl) ?_
  iterate 2 refine hm F Aa Aa Aa fun a F => ?_
  refine KM ?_
  iterate 4 refine hs F Aa Aa Aa (Ai F Aa).q fun a F => ?_
  obtain ⟨x42, h25, H⟩ := Ac H
  refine hs F Aa Aa Aa (Al (r := A5) EM F Aa Aa (Af 0 Aa) h25).q fun a F => ?_
  refine hs F Aa Aa Aa (Ag (y := Value.agg #[.int .i64 x42.1, .int .i64 x42.2.1, .int .i64 x42.2.2.1, .int .i64 x42.2.2.2]) (j := 0) (i := x36) F Aa Aa (Af 0 Aa) h25 ES.to Er Aa).q fun a F => ?_
  iterate 2 refine hs F Aa Aa Aa (Ai F Aa).q fun a F => ?_
  obtain ⟨x43, h26, H⟩ := Ac H
  refine hs F Aa Aa Aa (Al (r := A5) EM F Aa Aa (Af 0 Aa) h26).q fun a F => ?_
  refine hs F Aa Aa Aa (Ag (y := Value.agg #[.int .i64 x43.1, .int .i64 x43.2.1, .int .i64 x43.2.2.1, .int .i64 x43.2.2.2]) (j := 0) (i := x30) F Aa Aa (Af 0 Aa) h26 ES.to Er Aa).q fun a F => ?_
  obtain ⟨x44, h27, H⟩ := Ac H
  refine hs F Aa Aa Aa (Al (r := A5) EM F Aa Aa (Af 0 Aa) h27).q fun a F => ?_
  refine M0 fun w W => ?_
  have W : Stw ⟨Y, X, w0⟩ [] [row v1 43 A5 x27] w := W
  refine AY (i := x30) (j := 0) (vs := (Ck x42)) (x' := x42) F W Aa Aa Aa (k := 0) Aa Aa h27 Er Aa Aa Aa Aa (fun A cs _ => ES.sto (by rfl) _ _ _) fun w W => ?_
  obtain ⟨x45, h28, H⟩ := Ac H
  refine ls F W Aa (Al (r := A5) EM F Aa Aa (Af 0 Aa) h28).q fun a w F W => ?_
  refine AY (i := x36) (j := 0) (vs := (Ck x43)) (x' := x43) F W Aa Aa Aa (k := 0) Aa Aa h28 Er Aa Aa Aa Aa (fun A cs _ => ES.sto (by rfl) _ _ _) fun w W => ?_
  refine BR tk 14 F W fun a w F W => ?_
  refine Aw (Ab ?_)
  exact ⟨_, H, F.ra Aa, W⟩
 rintro a w ⟨x25, x26, hj, F, W⟩
 have hj := Ax hj
 subst hj
 have H := K7
 clear G7 K7
 refine Hp ?_
 refine Jm 13 [2, 3] [0, 1, 4, 5, 6, 7, 8, 9, 10, 11, 12] (fun ch a d v w h => by cases d <;> exact h) W MO (by kernel_rfl) ?_
 iterate 2 refine hm F Aa Aa Aa fun a F => ?_
 refine KM ?_
 iterate 4 refine hs F Aa Aa Aa (Ai F Aa).q fun a F => ?_
 obtain ⟨x46, h29, H⟩ := Ac H
 refine hs F Aa Aa Aa (Al (r := A5) EM F Aa Aa (Af 0 Aa) h29).q fun a F => ?_
 refine hs F Aa Aa Aa (Ag (y := Value.agg #[.int .i64 x46.1, .int .i64 x46.2.1, .int .i64 x46.2.2.1, .int .i64 x46.2.2.2]) (j := 0) (i := p1) F Aa Aa (Af 0 Aa) h29 ES.to Er Aa).q fun a F => ?_
 iterate 2 refine hs F Aa Aa Aa (Ai F Aa).q fun a F => ?_
 obtain ⟨x47, h30, H⟩ := Ac H
 refine hs F Aa Aa Aa (Al (r := A5) EM F Aa Aa (Af 0 Aa) h30).q fun a F => ?_
 refine hs F Aa Aa Aa (Ag (y := Value.agg #[.int .i64 x47.1, .int .i64 x47.2.1, .int .i64 x47.2.2.1, .int .i64 x47.2.2.2]) (j := 0) (i := x26) F Aa Aa (Af 0 Aa) h30 ES.to Er Aa).q fun a F => ?_
 obtain ⟨x48, h31, H⟩ := Ac H
 refine hs F Aa Aa Aa (Al (r := A5) EM F Aa Aa (Af 0 Aa) h31).q fun a F => ?_
 refine M0 fun w W => ?_
 have W : Stw ⟨Y, X, w0⟩ [] [row v1 43 A5 x25] w := W
 refine AY (i := x26) (j := 0) (vs := (Ck x46)) (x' := x46) F W Aa Aa Aa (k := 0) Aa Aa h31 Er Aa Aa Aa Aa (fun A cs _ => ES.sto (by rfl) _ _ _) fun w W => ?_
 obtain ⟨x49, h32, H⟩ := Ac H
 refine ls F W Aa (Al (r := A5) EM F Aa Aa (Af 0 Aa) h32).q fun a w F W => ?_
 refine AY (i := p1) (j := 0) (vs := (Ck x47)) (x' := x47) F W Aa Aa Aa (k := 0) Aa Aa h32 Er Aa Aa Aa Aa (fun A cs _ => ES.sto (by rfl) _ _ _) fun w W => ?_
 refine BR tk 9 F W fun a w F W => ?_
 refine Ao ?_
 have H := Ax H
 subst H
 refine FF (.inl Aa) F W Aa (Am F Aa) (Am F Aa) ?_
 exact ⟨(), Aa, W⟩
theorem Vg : type_of% Tryz.underlying88 := Tryz.underlying88
theorem bZ : Has Tryz.prog 67 := Cu Tryz.func67
theorem Y1 : Has Tryz.prog 40 := Cu Tryz.func40
theorem YC : (Tryz.prog.info? 142).bind (·.zero) = some (.int .u64 0) := by kernel_rfl
theorem OG : Ty Tryz.prog 142 false 1 := ⟨by kernel_rfl, by kernel_rfl⟩
noncomputable def Dy (p0 : Int) : Option Int := (Ff (IntKind.u64.wrap p0)).bind fun x1 => (Uv (HG .u64 1 x1) x1).bind fun x2 => some x2
theorem JI (Y : Nat → Prop) (w0 : World)  (p0 : Int) (r : Int) (H : Dy p0 = some r)  :
    Calls Tryz.prog 84 #[.int .i64 p0] w0 fun e w' => e = .returned (.int .u64 r) ∧ Below w0.heap.size w0 w' := by
 refine enter Tryz.func84 Aa Tryz.ntmps84 Aa fun a F => ?_
 have W := Stw.start Y w0
 unfold Dy at H
 refine vc tk 8 F W fun a w F W => ?_
 refine ls F W Aa (J8 QW Vg F Aa).q fun a w F W => ?_
 obtain ⟨x1, h1, H⟩ := Ac H
 refine ls F W Aa (Be (v := Value.int .i64 x1) F YM Aa (fun w W => Iq any w (IntKind.u64.wrap p0) _ h1)) fun a w F W => ?_
 obtain ⟨x2, h2, H⟩ := Ac H
 refine ls F W Aa (S0 (JS h2).2 (R7 F Aa Aa (JS h2).1)).q fun a w F W => ?_
 refine BR tk 3 F W fun a w F W => ?_
 refine Ao ?_
 have H := Ax H
 subst H
 refine A1 (.inl Aa) F W Aa (Am F Aa) ?_
 exact ⟨rfl, W.done⟩
theorem bV : Has Tryz.prog 84 := Cu Tryz.func84
def BO (p0 : Int) : Int × Int := (HX .u64 (HX .u64 (HX .u64 p0 (HG .u64 p0 13)) (Jk .u64 (HX .u64 p0 (HG .u64 p0 13)) 7)) (HG .u64 (HX .u64 (HX .u64 p0 (HG .u64 p0 13)) (Jk .u64 (HX .u64 p0 (HG .u64 p0 13)) 7)) 17), HX .u64 (HX .u64 (HX .u64 p0 (HG .u64 p0 13)) (Jk .u64 (HX .u64 p0 (HG .u64 p0 13)) 7)) (HG .u64 (HX .u64 (HX .u64 p0 (HG .u64 p0 13)) (Jk .u64 (HX .u64 p0 (HG .u64 p0 13)) 7)) 17))
theorem Kc (Y : Nat → Prop) (X : List Nat) (w0 : World) (q_p0 : Nat) (p0 : Int) (r : Int × Int) (H : BO p0 = r) (hL : Stw ⟨Y, X, w0⟩ [(q_p0, [.int .u64 p0])] [] w0) :
    Calls Tryz.prog 85 #[.pointer (some ⟨q_p0, 0, none⟩)] w0 fun e w' => ∃ x : Unit, e = .returned (.int .u64 r.1) ∧ Stw ⟨Y, X, w0⟩ [(q_p0, [.int .u64 r.2])] [] w' := by
 refine enter Tryz.func85 Aa Tryz.ntmps85 Aa fun a F => ?_
 have W := hL
 unfold BO at H
 refine vc tk 6 F W fun a w F W => ?_
 refine Jd 9 W MO (by kernel_rfl) ?_
 refine qs F Aa (Ai F Aa).q fun a F => ?_
 refine qs F Aa (DS F Aa).q fun a F => ?_
 refine qs F Aa (BE (v := Value.int .u64 p0) 0 F Aa Aa OG Aa).q fun a F => ?_
 refine qs F Aa (Ai F Aa).q fun a F => ?_
 refine qs F Aa (DS F Aa).q fun a F => ?_
 refine qs F Aa (BE (v := Value.int .u64 p0) 0 F Aa Aa OG Aa).q fun a F => ?_
 refine qs F Aa (R7 F Aa Aa (by decide)).q fun a F => ?_
 refine qs F Aa (R0 F Aa Aa).q fun a F => ?_
 refine qs F Aa (DS F Aa).q fun a F => ?_
 refine AD fun w W => ?_
 refine Ey 0 F W Aa Aa Aa OG Aa Aa Aa fun w W => ?_
 refine BR tk 3 F W fun a w F W => ?_
 refine Jd 9 W MO (by kernel_rfl) ?_
 refine qs F Aa (Ai F Aa).q fun a F => ?_
 refine qs F Aa (DS F Aa).q fun a F => ?_
 refine qs F Aa (BE (v := Value.int .u64 (HX .u64 p0 (HG .u64 p0 13))) 0 F Aa Aa OG Aa).q fun a F => ?_
 refine qs F Aa (Ai F Aa).q fun a F => ?_
 refine qs F Aa (DS F Aa).q fun a F => ?_
 refine qs F Aa (BE (v := Value.int .u64 (HX .u64 p0 (HG .u64 p0 13))) 0 F Aa Aa OG Aa).q fun a F => ?_
 refine qs F Aa (QE F Aa Aa (by decide)).q fun a F => ?_
 refine qs F Aa (R0 F Aa Aa).q fun a F => ?_
 refine qs F Aa (DS F Aa).q fun a F => ?_
 refine AD fun w W => ?_
 refine Ey 0 F W Aa Aa Aa OG Aa Aa Aa fun w W => ?_
 refine BR tk 3 F W fun a w F W => ?_
 refine Jd 9 W MO (by kernel_rfl) ?_
 refine qs F Aa (Ai F Aa).q fun a F => ?_
 refine qs F Aa (DS F Aa).q fun a F => ?_
 refine qs F Aa (BE (v := Value.int .u64 (HX .u64 (HX .u64 p0 (HG .u64 p0 13)) (Jk .u64 (HX .u64 p0 (HG .u64 p0 13)) 7))) 0 F Aa Aa OG Aa).q fun a F => ?_
 refine qs F Aa (Ai F Aa).q fun a F => ?_
 refine qs F Aa (DS F Aa).q fun a F => ?_
 refine qs F Aa (BE (v := Value.int .u64 (HX .u64 (HX .u64 p0 (HG .u64 p0 13)) (Jk .u64 (HX .u64 p0 (HG .u64 p0 13)) 7))) 0 F Aa Aa OG Aa).q fun a F => ?_
 refine qs F Aa (R7 F Aa Aa (by decide)).q fun a F => ?_
 refine qs F Aa (R0 F Aa Aa).q fun a F => ?_
 refine qs F Aa (DS F Aa).q fun a F => ?_
 refine AD fun w W => ?_
 refine Ey 0 F W Aa Aa Aa OG Aa Aa Aa fun w W => ?_
 refine BR tk 5 F W fun a w F W => ?_
 refine ls F W Aa (DS F Aa).q fun a w F W => ?_
 refine JG tk 4 [0] F W (ai fun a w F W => ?_)
 refine Ao ?_
 subst H
 refine A1 (.inl Aa) F W Aa (Am F Aa) ?_
 exact ⟨(), Aa, W⟩
theorem Xy : type_of% Tryz.underlying142 := Tryz.underlying142
theorem ZY : Has Tryz.prog 85 := Cu Tryz.func85
noncomputable def Bv (p1 : Int) (p2 : Int) (x1 : Int) : ((List (Int × Int × Int × Int)) × Int × Int) → Option (((List (Int × Int × Int × Int)) × Int × Int) ⊕ (List (Int × Int × Int × Int)))
  | (x2, x3, x4) => (if x3 ≤ (An ((An (p1 + (An ((An (Int.tdiv (An (p2 - p1)) 4)) * 2)))) + 1)) then (if (An (p2 - p1)) ≤ (An (N6 .u64 ((BO x4).1) (IntKind.u64.wrap (x1 - 1)))) then some (An ((An (N6 .u64 ((BO x4).1) (IntKind.u64.wrap (x1 - 1)))) - (An (p2 - p1)))) else some (An (N6 .u64 ((BO x4).1) (IntKind.u64.wrap (x1 - 1))))).bind fun x5 => (ix x2 (An (p1 + x5))).bind fun x6 => (ix x2 x3).bind fun x7 => (ix x2 x3).bind fun x8 => (ix (Ah x2 x3 x6) (An (p1 + x5))).bind fun x9 => some (.inl ((Ah (Ah x2 x3 x6) (An (p1 + x5)) x7), An (x3 + 1), (BO x4).2)) else some (.inr x2))
noncomputable def BA (p0 : List (Int × Int × Int × Int)) (p1 : Int) (p2 : Int) : Option (List (Int × Int × Int × Int)) := (if 8 ≤ (An (p2 - p1)) then (Dy (An (p2 - p1))).bind fun x1 => Ap (Bv p1 p2 x1) (p0, An ((An (p1 + (An ((An (Int.tdiv (An (p2 - p1)) 4)) * 2)))) - 1), IntKind.u64.wrap (An (p2 - p1))) else some p0)
theorem F6 (Y : Nat → Prop) (X : List Nat) (w0 : World) (v1 : Value) (p0 : List (Int × Int × Int × Int)) (p1 : Int) (p2 : Int) (r : (List (Int × Int × Int × Int))) (H : BA p0 p1 p2 = some r) (hL : Stw ⟨Y, X, w0⟩ [] [row v1 43 A5 p0] w0) :
    Calls Tryz.prog 62 #[v1, .int .i64 p1, .int .i64 p2, .func (.func 22) #[] #[]] w0 fun e w' => ∃ x : Unit, e = .returned (.tuple #[]) ∧ Stw ⟨Y, X, w0⟩ [] [row v1 43 A5 r] w' := by
 refine enter Tryz.func62 Aa Tryz.ntmps62 Aa fun a F => ?_
 have W := hL
 unfold BA at H
 refine vc tk 14 F W fun a w F W => ?_
 refine AU F Aa H (fun F H => ?_) fun F H => ?_
 ·
  refine vc tk 3 F W fun a w F W => ?_
  refine ls F W Aa (J8 QW Xy F Aa).q fun a w F W => ?_
  refine B8 (cs := [.int .u64 0]) F W Aa YC Aa fun b1 a w F W => ?_
  refine Ey 0 F W Aa Aa Aa OG Aa Aa Aa fun w W => ?_
  refine BR tk 5 F W fun a w F W => ?_
  obtain ⟨x1, h1, H⟩ := Ac H
  refine ls F W Aa (Be (v := Value.int .u64 x1) F bV Aa (fun w W => JI any w (An (p2 - p1)) _ h1)) fun a w F W => ?_
  refine BR tk 7 F W fun a w F W => ?_
  refine ls F W Aa (Lm F Aa Aa (by decide) Aa).q fun a w F W => ?_
  refine BR tk 7 F W fun a w F W => ?_
  refine AL H (fun s a w => Fr 67 [] [(0, v1), (1, .int .i64 p1), (8, .int .i64 (An (p2 - p1))), (9, .pointer (some ⟨b1, 0, none⟩)), (10, .int .u64 x1), (11, .int .i64 s.2.1)] a ∧ Stw ⟨Y, X, w0⟩ [(b1, [.int .u64 s.2.2])] [row v1 43 A5 s.1] w) ⟨F.ra Aa, W⟩ fun s o a w H L1 hR => ?_
  obtain ⟨x2, x3, x4⟩ := s
  obtain ⟨F, W⟩ := hR
  have F : Fr 67 [] [(0, v1), (1, .int .i64 p1), (8, .int .i64 (An (p2 - p1))), (9, .pointer (some ⟨b1, 0, none⟩)), (10, .int .u64 x1), (11, .int .i64 x3)] a := F
  have W : Stw ⟨Y, X, w0⟩ [(b1, [.int .u64 x4])] [row v1 43 A5 x2] w := W
  rw [Bv] at H
  refine vc tk 6 F W fun a w F W => ?_
  refine ls F W Aa (Lm F Aa Aa (by decide) Aa).q fun a w F W => ?_
  refine BR tk 6 F W fun a w F W => ?_
  refine AU F Aa H (fun F H => ?_) fun F H => ?_
  ·
   refine FP tk 6 F W fun a w F W => ?_
   refine A9 (Ml := [(b1, [.int .u64 x4])]) (Zl := []) (β := Unit) (rv := fun x => .int .u64 ((BO x4).1)) (MM := fun x => [(b1, [.int .u64 ((BO x4).2)])]) (ZZ := fun x => []) F W ZY Aa Aa (fun hL => Kc _ _ w b1 x4 _ Aa hL) fun x a w F W => ?_
   have W : Stw ⟨Y, X, w0⟩ [(b1, [.int .u64 ((BO x4).2)])] [row v1 43 A5 x2] w := W
   refine vl tk 3 F W fun a w F W => ?_
   refine ls F W Aa (J8 Vg QW F Aa).q fun a w F W => ?_
   refine vl tk 2 F W fun a w F W => ?_
   refine Ab ?_
   obtain ⟨o2, G2, K2⟩ := Ac H
   refine Aq (fun a w => ∃ x5 : Int, some (x5) = some o2 ∧ Fr 67 [] [(0, v1), (1, .int .i64 p1), (8, .int .i64 (An (p2 - p1))), (9, .pointer (some ⟨b1, 0, none⟩)), (10, .int .u64 x1), (11, .int .i64 x3), (12, .int .i64 x5)] a ∧ Stw ⟨Y, X, w0⟩ [(b1, [.int .u64 ((BO x4).2)])] [row v1 43 A5 x2] w) ?_ ?_
   ·
    have H := G2
    clear G2 K2
    refine vc tk 7 F W fun a w F W => ?_
    refine AU F Aa H (fun F H => ?_) fun F H => ?_
    ·
     refine vc tk 6 F W fun a w F W => ?_
     refine Ab ?_
     exact ⟨_, H, F.ra Aa, W⟩
    refine AB (Ab ?_)
    exact ⟨_, H, F.ra Aa, W⟩
   rintro a w ⟨x5, hj, F, W⟩
   have hj := Ax hj
   subst hj
   have H := K2
   clear G2 K2
   refine ER [(true, 0), (true, 1), (true, 2), (true, 3), (true, 4), (true, 5), (true, 6), (true, 7), (true, 8), (true, 9), (true, 10), (true, 11), (true, 12), (true, 13), (true, 14), (true, 15), (true, 16), (false, 17), (true, 18), (false, 19)] (CN ⟨Y, X, w0⟩ [] [(some 17, row v1 43 A5 x2)]) (fun ch a d v w h => by cases d <;> exact h) MO (by kernel_rfl) W (fun w W => ⟨_, _, W, Ak, (all_cons (fun _ => (.head _)) Ak)⟩) fun w W => ?_
   iterate 5 refine A6 (R := []) F Aa Aa (yC fun M Z hN hZ => Ai F Aa) Aa Aa fun a F => ?_
   refine A6 (R := []) F Aa Aa (yC fun M Z hN hZ => Is F Aa Aa Aa) Aa Aa fun a F => ?_
   iterate 3 refine A6 (R := []) F Aa Aa (yC fun M Z hN hZ => Ai F Aa) Aa Aa fun a F => ?_
   refine A6 (R := []) F Aa Aa (yC fun M Z hN hZ => Is F Aa Aa Aa) Aa Aa fun a F => ?_
   obtain ⟨x6, h2, H⟩ := Ac H
   refine A6 (R := []) F Aa Aa (yC fun M Z hN hZ => Ba (r := A5) EM F Aa Aa (C1 W (Af 0 Aa)) h2) Aa Aa fun a F => ?_
   refine A6 (R := [17]) F Aa Aa (yC fun M Z hN hZ => Ag (y := Value.agg #[.int .i64 x6.1, .int .i64 x6.2.1, .int .i64 x6.2.2.1, .int .i64 x6.2.2.2]) (j := 0) (i := An (p1 + x5)) F Aa Aa (Di (hZ ((some 17), row v1 43 A5 x2) (.head _) Aa)) h2 ES.to Er Aa) (by kernel_rfl) Aa fun a F => ?_
   iterate 2 refine A6 (R := []) F Aa Aa (yC fun M Z hN hZ => Ai F Aa) Aa Aa fun a F => ?_
   obtain ⟨x7, h3, H⟩ := Ac H
   refine A6 (R := []) F Aa Aa (yC fun M Z hN hZ => Ba (r := A5) EM F Aa Aa (C1 W (Af 0 Aa)) h3) Aa Aa fun a F => ?_
   refine A6 (R := [17]) F Aa Aa (yC fun M Z hN hZ => Ag (y := Value.agg #[.int .i64 x7.1, .int .i64 x7.2.1, .int .i64 x7.2.2.1, .int .i64 x7.2.2.2]) (j := 0) (i := x3) F Aa Aa (Di (hZ ((some 17), row v1 43 A5 x2) (.head _) Aa)) h3 ES.to Er Aa) (by kernel_rfl) Aa fun a F => ?_
   obtain ⟨x8, h4, H⟩ := Ac H
   refine A6 (R := []) F Aa Aa (yC fun M Z hN hZ => Ba (r := A5) EM F Aa Aa (C1 W (Af 0 Aa)) h4) Aa Aa fun a F => ?_
   refine F2 Aa ?_
   refine AY (i := x3) (j := 0) (vs := (Ck x6)) (x' := x6) F W Aa Aa Aa (k := 0) Aa Aa h4 Er Aa Aa Aa Aa (fun A cs _ => ES.sto (by rfl) _ _ _) fun w W => ?_
   refine Cm (N2 := []) (NZ2 := []) (N3 := []) (NZ3 := [(some 17, row v1 43 A5 x2)]) W Aa Aa Ak (all_cons (fun h => AJ (by kernel_rfl) h) Ak) ?_
   obtain ⟨x9, h5, H⟩ := Ac H
   refine A6 (R := []) F Aa Aa (yC fun M Z hN hZ => Ba (r := A5) EM F Aa Aa (C1 W (Af 0 Aa)) h5) Aa Aa fun a F => ?_
   refine F2 Aa ?_
   refine AY (i := An (p1 + x5)) (j := 0) (vs := (Ck x7)) (x' := x7) F W Aa Aa Aa (k := 0) Aa Aa h5 Er Aa Aa Aa Aa (fun A cs _ => ES.sto (by rfl) _ _ _) fun w W => ?_
   refine Cm (N2 := []) (NZ2 := []) (N3 := []) (NZ3 := [(some 17, row v1 43 A5 x2)]) W Aa Aa Ak (all_cons (fun h => AJ (by kernel_rfl) h) Ak) ?_
   refine Hg (Aw ?_)
   refine vn tk 5 F W fun a w F W => ?_
   refine Ab ?_
   exact ⟨_, H, F.ra Aa, W⟩
  refine AA ?_
  iterate 2 refine AQ ?_
  refine AC ?_
  have H := L1 _ H
  have H := Ax H
  subst H
  refine Jf (.inr Aa) F Aa ?_
  have W := W.sub (M' := []) (Z' := [row v1 43 A5 x2]) (List.nil_sublist _) (List.Sublist.refl _)
  exact ⟨(), Aa, W⟩
 refine AB ?_
 have H := Ax H
 subst H
 refine Jf (.inr Aa) F Aa ?_
 exact ⟨(), Aa, W⟩
theorem bL : Has Tryz.prog 62 := Cu Tryz.func62
noncomputable def Au (fRec : (List (Int × Int × Int × Int)) → Int → Int → Int → Option (List (Int × Int × Int × Int))) : ((List (Int × Int × Int × Int)) × Int × Int × Int × Bool × Bool) → Option (((List (Int × Int × Int × Int)) × Int × Int × Int × Bool × Bool) ⊕ (List (Int × Int × Int × Int)))
  | (x1, x2, x3, x4, x5, x6) => (if (An (x3 - x2)) ≤ 12 then (B4 x1 x2 x3).bind fun x7 => some (.inr x7) else (if x4 = 0 then (Cv x1 x2 x3).bind fun x8 => some (.inr x8) else (if (!x5) = true then (BA x1 x2 x3).bind fun x11 => some (x11, An (x4 - 1)) else some (x1, x4)).bind fun (x9, x10) => (Cd x9 x2 x3).bind fun x12 => (if x12.2 = 2 then (BC x9 x2 x3).bind fun x16 => some (x16, An ((An (x3 - 1)) - (An (x12.1 - x2))), 1) else some (x9, x12.1, x12.2)).bind fun (x13, x14, x15) => GN (if (x5 && (x6 && decide (x15 = 1))) = true then (Bg x13 x2 x3).bind fun x18 => (if x18.1 = true then some (.inr (.inr x18.2)) else some (.inl x18.2)) else some (.inl x13)) fun x17 => (if 0 < x2 then (ix x17 (An (x2 - 1))).bind fun x20 => (ix x17 x14).bind fun x21 => (Cb x20 x21).bind fun x22 => some (!(decide (x22 < 0))) else some false).bind fun x19 => (if x19 = true then (BW x17 x2 x3 x14).bind fun x23 => some (.inl (x23.2, x23.1, x3, x10, (x5 && (x6 || true)), (bif x5 then x6 else x6))) else (Co x17 x2 x3 x14).bind fun x24 => (if (An (x24.1 - x2)) < (An (x3 - x24.1)) then (fRec x24.2.2 x2 x24.1 x10).bind fun x25 => some (.inl (x25, An (x24.1 + 1), x3, x10, decide ((An (Int.tdiv (An (x3 - x2)) 8)) ≤ (An (x24.1 - x2))), x24.2.1)) else (fRec x24.2.2 (An (x24.1 + 1)) x3 x10).bind fun x26 => some (.inl (x26, x2, x24.1, x10, decide ((An (Int.tdiv (An (x3 - x2)) 8)) ≤ (An (x3 - x24.1))), x24.2.1))))))
noncomputable def DD (fRec : (List (Int × Int × Int × Int)) → Int → Int → Int → Option (List (Int × Int × Int × Int))) (p0 : List (Int × Int × Int × Int)) (p1 : Int) (p2 : Int) (p3 : Int) : Option (List (Int × Int × Int × Int)) := Ap (Au fRec) (p0, p1, p2, p3, true, true)
noncomputable def AF : Nat → (List (Int × Int × Int × Int)) → Int → Int → Int → Option (List (Int × Int × Int × Int))
  | 0 => fun _ _ _ _ => none
  | n + 1 => DD (AF n)
noncomputable def Dg (p0 : List (Int × Int × Int × Int)) (p1 : Int) (p2 : Int) (p3 : Int) : Option (List (Int × Int × Int × Int)) := SI fun n => AF n p0 p1 p2 p3
theorem GK (fRec : (List (Int × Int × Int × Int)) → Int → Int → Int → Option (List (Int × Int × Int × Int))) (ih : ∀ (Y : Nat → Prop) (X : List Nat) (w0 : World) (v1 : Value) (p0 : List (Int × Int × Int × Int)) (p1 : Int) (p2 : Int) (p3 : Int) (r : (List (Int × Int × Int × Int))) (H : fRec p0 p1 p2 p3 = some r) (hL : Stw ⟨Y, X, w0⟩ [] [row v1 43 A5 p0] w0), Calls Tryz.prog 40 #[v1, .int .i64 p1, .int .i64 p2, .int .i64 p3, .func (.func 22) #[] #[]] w0 fun e w' => ∃ x : Unit, e = .returned (.tuple #[]) ∧ Stw ⟨Y, X, w0⟩ [] [row v1 43 A5 r] w') (Y : Nat → Prop) (X : List Nat) (w0 : World) (v1 : Value) (p0 : List (Int × Int × Int × Int)) (p1 : Int) (p2 : Int) (p3 : Int) (r : (List (Int × Int × Int × Int))) (H : DD fRec p0 p1 p2 p3 = some r) (hL : Stw ⟨Y, X, w0⟩ [] [row v1 43 A5 p0] w0) :
    Calls Tryz.prog 40 #[v1, .int .i64 p1, .int .i64 p2, .int .i64 p3, .func (.func 22) #[] #[]] w0 fun e w' => ∃ x : Unit, e = .returned (.tuple #[]) ∧ Stw ⟨Y, X, w0⟩ [] [row v1 43 A5 r] w' := by
 refine enter Tryz.func40 Aa Tryz.ntmps40 Aa fun a F => ?_
 have W := hL
 unfold DD at H
 refine vc tk 11 F W fun a w F W => ?_
 refine AL H (fun s a w => Fr 148 [] [(0, v1), (1, .int .i64 s.2.1), (2, .int .i64 s.2.2.1), (3, .int .i64 s.2.2.2.1), (4, .func (.func 22) #[] #[]), (10, .bool s.2.2.2.2.1), (11, .bool s.2.2.2.2.2)] a ∧ Stw ⟨Y, X, w0⟩ [] [row v1 43 A5 s.1] w) ⟨F.ra Aa, W⟩ fun s o a w H L1 hR => ?_
 obtain ⟨x1, x2, x3, x4, x5, x6⟩ := s
 obtain ⟨F, W⟩ := hR
 have F : Fr 148 [] [(0, v1), (1, .int .i64 x2), (2, .int .i64 x3), (3, .int .i64 x4), (4, .func (.func 22) #[] #[]), (10, .bool x5), (11, .bool x6)] a := F
 have W : Stw ⟨Y, X, w0⟩ [] [row v1 43 A5 x1] w := W
 rw [Au] at H
 refine vc tk 16 F W fun a w F W => ?_
 refine AU F Aa H (fun F H => ?_) fun F H => ?_
 ·
  refine vc tk 6 F W fun a w F W => ?_
  obtain ⟨x7, h1, H⟩ := Ac H
  refine A9 (Ml := []) (Zl := [row v1 43 A5 x1]) (β := Unit) (rv := fun x => .tuple #[]) (MM := fun x => []) (ZZ := fun x => [row v1 43 A5 x7]) F W bX Aa Aa (fun hL => F9 _ _ w (v1) x1 x2 x3 _ h1 hL) fun x a w F W => ?_
  have W : Stw ⟨Y, X, w0⟩ [] [row v1 43 A5 x7] w := W
  refine BR tk 2 F W fun a w F W => ?_
  refine Ao (AE (AW (AE (AW ?_))))
  have H := L1 _ H
  have H := Ax H
  subst H
  refine Jf (.inl Aa) F Aa ?_
  exact ⟨(), Aa, W⟩
 refine FP tk 9 F W fun a w F W => ?_
 refine AU F Aa H (fun F H => ?_) fun F H => ?_
 ·
  refine vc tk 6 F W fun a w F W => ?_
  obtain ⟨x8, h2, H⟩ := Ac H
  refine A9 (Ml := []) (Zl := [row v1 43 A5 x1]) (β := Unit) (rv := fun x => .tuple #[]) (MM := fun x => []) (ZZ := fun x => [row v1 43 A5 x8]) F W aV Aa Aa (fun hL => GU _ _ w (v1) x1 x2 x3 _ h2 hL) fun x a w F W => ?_
  have W : Stw ⟨Y, X, w0⟩ [] [row v1 43 A5 x8] w := W
  refine BR tk 2 F W fun a w F W => ?_
  refine Ao (AE (AW (AE (AW ?_))))
  have H := L1 _ H
  have H := Ax H
  subst H
  refine Jf (.inl Aa) F Aa ?_
  exact ⟨(), Aa, W⟩
 refine AB (Ab ?_)
 obtain ⟨o2, G2, K2⟩ := Ac H
 refine Aq (fun a w => ∃ x9 : List (Int × Int × Int × Int), ∃ x10 : Int, some ((x9, x10)) = some o2 ∧ Fr 148 [] [(0, v1), (1, .int .i64 x2), (2, .int .i64 x3), (3, .int .i64 x10), (4, .func (.func 22) #[] #[]), (10, .bool x5), (11, .bool x6), (12, .int .i64 (An (x3 - x2)))] a ∧ Stw ⟨Y, X, w0⟩ [] [row v1 43 A5 x9] w) ?_ ?_
 ·
  have H := G2
  clear G2 K2
  refine vc tk 6 F W fun a w F W => ?_
  refine C2 F Aa H (fun F H => ?_) fun F H => ?_
  ·
   refine vc tk 6 F W fun a w F W => ?_
   obtain ⟨x11, h3, H⟩ := Ac H
   refine A9 (Ml := []) (Zl := [row v1 43 A5 x1]) (β := Unit) (rv := fun x => .tuple #[]) (MM := fun x => []) (ZZ := fun x => [row v1 43 A5 x11]) F W bL Aa Aa (fun hL => F6 _ _ w (v1) x1 x2 x3 _ h3 hL) fun x a w F W => ?_
   have W : Stw ⟨Y, X, w0⟩ [] [row v1 43 A5 x11] w := W
   refine BR tk 7 F W fun a w F W => ?_
   refine Ab ?_
   exact ⟨_, _, H, F.ra Aa, W⟩
  refine AB (Ab ?_)
  exact ⟨_, _, H, F.ra Aa, W⟩
 rintro a w ⟨x9, x10, hj, F, W⟩
 have hj := Ax hj
 subst hj
 have H := K2
 clear G2 K2
 refine vc tk 6 F W fun a w F W => ?_
 obtain ⟨x12, h4, H⟩ := Ac H
 refine ls F W Aa (Be (v := Value.tuple #[.int .i64 x12.1, .int .i64 x12.2]) F ZL Aa (fun w W => Gj any w (v1) x9 x2 x3 _ h4 (EG (Af 0 Aa) W))) fun a w F W => ?_
 refine ls F W Aa (Ai F Aa).q fun a w F W => ?_
 refine ls F W Aa (Bi (v := Value.int .i64 x12.1) F Aa Aa).q fun a w F W => ?_
 refine ls F W Aa (Bi (v := Value.int .i64 x12.2) F Aa Aa).q fun a w F W => ?_
 refine vl tk 3 F W fun a w F W => ?_
 refine Ab ?_
 obtain ⟨o3, G3, K3⟩ := Ac H
 refine Aq (fun a w => ∃ x13 : List (Int × Int × Int × Int), ∃ x14 : Int, ∃ x15 : Int, some ((x13, x14, x15)) = some o3 ∧ Fr 148 [] [(0, v1), (1, .int .i64 x2), (2, .int .i64 x3), (3, .int .i64 x10), (4, .func (.func 22) #[] #[]), (10, .bool x5), (11, .bool x6), (12, .int .i64 (An (x3 - x2))), (13, .int .i64 x14), (14, .int .i64 x15)] a ∧ Stw ⟨Y, X, w0⟩ [] [row v1 43 A5 x13] w) ?_ ?_
 ·
  have H := G3
  clear G3 K3
  refine vc tk 6 F W fun a w F W => ?_
  refine AU F Aa H (fun F H => ?_) fun F H => ?_
  ·
   refine vc tk 6 F W fun a w F W => ?_
   obtain ⟨x16, h5, H⟩ := Ac H
   refine A9 (Ml := []) (Zl := [row v1 43 A5 x9]) (β := Unit) (rv := fun x => .tuple #[]) (MM := fun x => []) (ZZ := fun x => [row v1 43 A5 x16]) F W ZI Aa Aa (fun hL => Gi _ _ w (v1) x9 x2 x3 _ h5 hL) fun x a w F W => ?_
   have W : Stw ⟨Y, X, w0⟩ [] [row v1 43 A5 x16] w := W
   refine BR tk 16 F W fun a w F W => ?_
   refine Ab ?_
   exact ⟨_, _, _, H, F.ra Aa, W⟩
  refine AB (Ab ?_)
  exact ⟨_, _, _, H, F.ra Aa, W⟩
 rintro a w ⟨x13, x14, x15, hj, F, W⟩
 have hj := Ax hj
 subst hj
 have H := K3
 clear G3 K3
 obtain ⟨o4, G4, K4, L4⟩ := Mg H
 refine Aq (fun a w => ∃ x17 : List (Int × Int × Int × Int), some (Sum.inl x17) = some o4 ∧ Fr 148 [] [(0, v1), (1, .int .i64 x2), (2, .int .i64 x3), (3, .int .i64 x10), (4, .func (.func 22) #[] #[]), (10, .bool (x5 && (x6 || true))), (11, .bool (bif x5 then x6 else x6)), (12, .int .i64 (An (x3 - x2))), (13, .int .i64 x14)] a ∧ Stw ⟨Y, X, w0⟩ [] [row v1 43 A5 x17] w) ?_ ?_
 ·
  have H := G4
  clear G4 K4
  refine Aq (fun a w => Fr 148 [] [(0, v1), (1, .int .i64 x2), (2, .int .i64 x3), (3, .int .i64 x10), (4, .func (.func 22) #[] #[]), (10, .bool (x5 && (x6 || true))), (11, .bool (bif x5 then x6 else x6)), (12, .int .i64 (An (x3 - x2))), (13, .int .i64 x14), (75, .bool (x5 && (x6 && decide (x15 = 1))))] a ∧ Stw ⟨Y, X, w0⟩ [] [row v1 43 A5 x13] w) ?_ ?_
  ·
   refine vc tk 3 F W fun a w F W => ?_
   rcases Bool.eq_false_or_eq_true x5 with hb0 | hb0
   ·
    rw [hb0] at F
    refine vl tk 3 F W fun a w F W => ?_
    rcases Bool.eq_false_or_eq_true x6 with hb1 | hb1
    ·
     rw [hb1] at F
     refine vl tk 4 F W fun a w F W => ?_
     refine Ab ?_
     exact ⟨F.re ⟨rfl, Aa, Aa, Aa, Aa, (H0 (by try rw [hb0]; try rw [hb1]; all_goals simp only [H2])), (H0 (by try rw [hb0]; try rw [hb1]; all_goals simp only [H2])), Aa, Aa, (H0 (by try rw [hb0]; try rw [hb1]; all_goals simp only [H2])), trivial⟩, W⟩
    rw [hb1] at F
    refine vl tk 4 F W fun a w F W => ?_
    refine Ab ?_
    exact ⟨F.re ⟨rfl, Aa, Aa, Aa, Aa, (H0 (by try rw [hb0]; try rw [hb1]; all_goals simp only [H2])), (H0 (by try rw [hb0]; try rw [hb1]; all_goals simp only [H2])), Aa, Aa, (H0 (by try rw [hb0]; try rw [hb1]; all_goals simp only [H2])), trivial⟩, W⟩
   rw [hb0] at F
   refine vl tk 7 F W fun a w F W => ?_
   refine Ab ?_
   exact ⟨F.re ⟨rfl, Aa, Aa, Aa, Aa, (H0 (by try rw [hb0]; all_goals simp only [H2])), (H0 (by try rw [hb0]; all_goals simp only [H2])), Aa, Aa, (H0 (by try rw [hb0]; all_goals simp only [H2])), trivial⟩, W⟩
  rintro a w ⟨F, W⟩
  refine C2 F Aa H (fun F H => ?_) fun F H => ?_
  ·
   refine vc tk 6 F W fun a w F W => ?_
   obtain ⟨x18, h6, H⟩ := Ac H
   refine A9 (Ml := []) (Zl := [row v1 43 A5 x13]) (β := Unit) (rv := fun x => .bool x18.1) (MM := fun x => []) (ZZ := fun x => [row v1 43 A5 x18.2]) F W ZV Aa Aa (fun hL => E2 _ _ w (v1) x13 x2 x3 _ h6 hL) fun x a w F W => ?_
   have W : Stw ⟨Y, X, w0⟩ [] [row v1 43 A5 x18.2] w := W
   refine BR tk 2 F W fun a w F W => ?_
   refine C2 F Aa H (fun F H => ?_) fun F H => ?_
   ·
    refine Ao (AE (AW (AE (AW ?_))))
    have H := L4 _ H
    have H := L1 _ H
    have H := Ax H
    subst H
    refine Jf (.inl Aa) F Aa ?_
    exact ⟨(), Aa, W⟩
   refine AB (Ab ?_)
   exact ⟨_, H, F.ra Aa, W⟩
  refine AB (Ab ?_)
  exact ⟨_, H, F.ra Aa, W⟩
 rintro a w ⟨x17, hj, F, W⟩
 have H := K4 _ hj
 clear hj G4 K4 L4
 refine Hp ?_
 obtain ⟨o5, G5, K5⟩ := Ac H
 refine Aq (fun a w => ∃ x19 : Bool, some (x19) = some o5 ∧ Fr 148 [] [(0, v1), (1, .int .i64 x2), (2, .int .i64 x3), (3, .int .i64 x10), (4, .func (.func 22) #[] #[]), (10, .bool (x5 && (x6 || true))), (11, .bool (bif x5 then x6 else x6)), (12, .int .i64 (An (x3 - x2))), (13, .int .i64 x14), (97, .bool x19)] a ∧ Stw ⟨Y, X, w0⟩ [] [row v1 43 A5 x17] w) ?_ ?_
 ·
  have H := G5
  clear G5 K5
  refine BB W MO (by kernel_rfl) ?_
  refine qs F Aa (Ai F Aa).q fun a F => ?_
  refine qs F Aa (Qb F Aa Aa).q fun a F => ?_
  refine qs F Aa (Ai F Aa).q fun a F => ?_
  rcases Bool.eq_false_or_eq_true (decide (0 < x2)) with hb | hb
  ·
   have H := D0 (Fm hb) H
   rw [hb] at F
   clear hb
   iterate 3 refine A8 F (Ae F Aa Aa Aa Aa) Aa (As Aa) (Ai F Aa).q fun a F => ?_
   refine A8 F (Ae F Aa Aa Aa Aa) Aa (As Aa) (Eu F Aa Aa Aa).q fun a F => ?_
   obtain ⟨x20, h7, H⟩ := Ac H
   refine A8 F (Ae F Aa Aa Aa Aa) Aa (As Aa) (Al (r := A5) EM F Aa Aa (Af 0 Aa) h7).q fun a F => ?_
   refine A8 F (Ae F Aa Aa Aa Aa) Aa (As Aa) (Ag (y := Value.agg #[.int .i64 x20.1, .int .i64 x20.2.1, .int .i64 x20.2.2.1, .int .i64 x20.2.2.2]) (j := 0) (i := An (x2 - 1)) F Aa Aa (Af 0 Aa) h7 ES.to Er Aa).q fun a F => ?_
   iterate 2 refine A8 F (Ae F Aa Aa Aa Aa) Aa (As Aa) (Ai F Aa).q fun a F => ?_
   obtain ⟨x21, h8, H⟩ := Ac H
   refine A8 F (Ae F Aa Aa Aa Aa) Aa (As Aa) (Al (r := A5) EM F Aa Aa (Af 0 Aa) h8).q fun a F => ?_
   refine A8 F (Ae F Aa Aa Aa Aa) Aa (As Aa) (Ag (y := Value.agg #[.int .i64 x21.1, .int .i64 x21.2.1, .int .i64 x21.2.2.1, .int .i64 x21.2.2.2]) (j := 0) (i := x14) F Aa Aa (Af 0 Aa) h8 ES.to Er Aa).q fun a F => ?_
   obtain ⟨x22, h9, H⟩ := Ac H
   refine A8 F (Ae F Aa Aa Aa Aa) Aa (As Aa) (E1 (ws := (Jr x20 x21)) (v := Value.int .i64 x22) F RO Aa (fun w W => Cn any w x20 x21 _ h9)) fun a F => ?_
   refine A8 F (Ae F Aa Aa Aa Aa) Aa (As Aa) (GM F Aa Aa).q fun a F => ?_
   refine A8 F (Ae F Aa Aa Aa Aa) Aa (As Aa) (IY F Aa).q fun a F => ?_
   refine qs F Aa (Dh F Aa Aa Aa).q fun a F => ?_
   refine AD fun w W => ?_
   refine Ab ?_
   exact ⟨_, H, F.ra Aa, W⟩
  have H := DZ (Fo hb) H
  rw [hb] at F
  clear hb
  iterate 13 refine Ds F (C3 F Aa Aa Aa Aa Aa) Aa Aa fun a F => ?_
  refine qs F Aa (DC F Aa Aa Aa).q fun a F => ?_
  refine AD fun w W => ?_
  refine Ab ?_
  exact ⟨_, H, F.ra Aa, W⟩
 rintro a w ⟨x19, hj, F, W⟩
 have hj := Ax hj
 subst hj
 have H := K5
 clear G5 K5
 refine C2 F Aa H (fun F H => ?_) fun F H => ?_
 ·
  refine vc tk 7 F W fun a w F W => ?_
  obtain ⟨x23, h10, H⟩ := Ac H
  refine A9 (Ml := []) (Zl := [row v1 43 A5 x17]) (β := Unit) (rv := fun x => .int .i64 x23.1) (MM := fun x => []) (ZZ := fun x => [row v1 43 A5 x23.2]) F W ZU Aa Aa (fun hL => F0 _ _ w (v1) x17 x2 x3 x14 _ h10 hL) fun x a w F W => ?_
  have W : Stw ⟨Y, X, w0⟩ [] [row v1 43 A5 x23.2] w := W
  refine BR tk 9 F W fun a w F W => ?_
  refine AA (AQ (AC (Ab ?_)))
  exact ⟨_, H, F.ra Aa, W⟩
 refine FP tk 9 F W fun a w F W => ?_
 obtain ⟨x24, h11, H⟩ := Ac H
 refine A9 (Ml := []) (Zl := [row v1 43 A5 x17]) (β := Unit) (rv := fun x => .tuple #[.int .i64 x24.1, .bool x24.2.1]) (MM := fun x => []) (ZZ := fun x => [row v1 43 A5 x24.2.2]) F W bZ Aa Aa (fun hL => GI _ _ w (v1) x17 x2 x3 x14 _ h11 hL) fun x a w F W => ?_
 have W : Stw ⟨Y, X, w0⟩ [] [row v1 43 A5 x24.2.2] w := W
 refine ls F W Aa (Ai F Aa).q fun a w F W => ?_
 refine ls F W Aa (Bi (v := Value.int .i64 x24.1) F Aa Aa).q fun a w F W => ?_
 refine ls F W Aa (Bi (v := Value.bool x24.2.1) F Aa Aa).q fun a w F W => ?_
 refine BR tk 25 F W fun a w F W => ?_
 refine ls F W Aa (Lm F Aa Aa (by decide) Aa).q fun a w F W => ?_
 refine BR tk 10 F W fun a w F W => ?_
 refine AU F Aa H (fun F H => ?_) fun F H => ?_
 ·
  refine vc tk 15 F W fun a w F W => ?_
  obtain ⟨x25, h12, H⟩ := Ac H
  refine A9 (Ml := []) (Zl := [row v1 43 A5 x24.2.2]) (β := Unit) (rv := fun x => .tuple #[]) (MM := fun x => []) (ZZ := fun x => [row v1 43 A5 x25]) F W Y1 Aa Aa (fun hL => ih _ _ w (v1) x24.2.2 x2 x24.1 x10 _ h12 hL) fun x a w F W => ?_
  have W : Stw ⟨Y, X, w0⟩ [] [row v1 43 A5 x25] w := W
  refine BR tk 7 F W fun a w F W => ?_
  refine Aw (Ab ?_)
  exact ⟨_, H, F.ra Aa, W⟩
 refine vc tk 16 F W fun a w F W => ?_
 obtain ⟨x26, h13, H⟩ := Ac H
 refine A9 (Ml := []) (Zl := [row v1 43 A5 x24.2.2]) (β := Unit) (rv := fun x => .tuple #[]) (MM := fun x => []) (ZZ := fun x => [row v1 43 A5 x26]) F W Y1 Aa Aa (fun hL => ih _ _ w (v1) x24.2.2 (An (x24.1 + 1)) x3 x10 _ h13 hL) fun x a w F W => ?_
 have W : Stw ⟨Y, X, w0⟩ [] [row v1 43 A5 x26] w := W
 refine BR tk 6 F W fun a w F W => ?_
 refine Aw (Ab ?_)
 exact ⟨_, H, F.ra Aa, W⟩
theorem GL : ∀ (n : Nat) (Y : Nat → Prop) (X : List Nat) (w0 : World) (v1 : Value) (p0 : List (Int × Int × Int × Int)) (p1 : Int) (p2 : Int) (p3 : Int) (r : (List (Int × Int × Int × Int))) (H : AF n p0 p1 p2 p3 = some r) (hL : Stw ⟨Y, X, w0⟩ [] [row v1 43 A5 p0] w0), Calls Tryz.prog 40 #[v1, .int .i64 p1, .int .i64 p2, .int .i64 p3, .func (.func 22) #[] #[]] w0 fun e w' => ∃ x : Unit, e = .returned (.tuple #[]) ∧ Stw ⟨Y, X, w0⟩ [] [row v1 43 A5 r] w' := by
  intro n
  induction n with
  | zero => intro Y X w0 v1 p0 p1 p2 p3 r H; exact nomatch H
  | succ n ih => intro Y X w0 v1 p0 p1 p2 p3 r H hL; exact GK (AF n) ih Y X w0 v1 p0 p1 p2 p3 r H hL
theorem GY (Y : Nat → Prop) (X : List Nat) (w0 : World) (v1 : Value) (p0 : List (Int × Int × Int × Int)) (p1 : Int) (p2 : Int) (p3 : Int) (r : (List (Int × Int × Int × Int))) (H : Dg p0 p1 p2 p3 = some r) (hL : Stw ⟨Y, X, w0⟩ [] [row v1 43 A5 p0] w0) :
    Calls Tryz.prog 40 #[v1, .int .i64 p1, .int .i64 p2, .int .i64 p3, .func (.func 22) #[] #[]] w0 fun e w' => ∃ x : Unit, e = .returned (.tuple #[]) ∧ Stw ⟨Y, X, w0⟩ [] [row v1 43 A5 r] w' := by
  obtain ⟨n, H⟩ := SU H
  exact GL n Y X w0 v1 p0 p1 p2 p3 r H hL
noncomputable def B7 (p0 : List (Int × Int × Int × Int)) : Option (List (Int × Int × Int × Int)) := (Ff (IntKind.u64.wrap (p0.length : Int))).bind fun x1 => (Dg p0 0 (p0.length : Int) x1).bind fun x2 => some x2
theorem Gh (Y : Nat → Prop) (X : List Nat) (w0 : World) (v1 : Value) (p0 : List (Int × Int × Int × Int)) (r : (List (Int × Int × Int × Int))) (H : B7 p0 = some r) (hL : Stw ⟨Y, X, w0⟩ [] [row v1 43 A5 p0] w0) :
    Calls Tryz.prog 21 #[v1, .func (.func 22) #[] #[]] w0 fun e w' => ∃ x : Unit, e = .returned (.tuple #[]) ∧ Stw ⟨Y, X, w0⟩ [] [row v1 43 A5 r] w' := by
 refine enter Tryz.func21 Aa Tryz.ntmps21 Aa fun a F => ?_
 have W := hL
 unfold B7 at H
 refine vc tk 3 F W fun a w F W => ?_
 refine ls F W Aa (BS (r := A5) (l := p0) Qz Aa F Aa (Af 0 Aa)).q fun a w F W => ?_
 refine BR tk 7 F W fun a w F W => ?_
 refine ls F W Aa (J8 QW Vg F Aa).q fun a w F W => ?_
 obtain ⟨x1, h1, H⟩ := Ac H
 refine ls F W Aa (Be (v := Value.int .i64 x1) F YM Aa (fun w W => Iq any w (IntKind.u64.wrap (p0.length : Int)) _ h1)) fun a w F W => ?_
 refine ls F W Aa (Ai F Aa).q fun a w F W => ?_
 obtain ⟨x2, h2, H⟩ := Ac H
 refine A9 (Ml := []) (Zl := [row v1 43 A5 p0]) (β := Unit) (rv := fun x => .tuple #[]) (MM := fun x => []) (ZZ := fun x => [row v1 43 A5 x2]) F W Y1 Aa Aa (fun hL => GY _ _ w (v1) p0 0 (p0.length : Int) x1 _ h2 hL) fun x a w F W => ?_
 have W : Stw ⟨Y, X, w0⟩ [] [row v1 43 A5 x2] w := W
 refine FG ?_
 have H := Ax H
 subst H
 refine Jf (.inr Aa) F Aa ?_
 exact ⟨(), Aa, W⟩
theorem bM : Has Tryz.prog 21 := Cu Tryz.func21
noncomputable def DT (p1 : List (List Int)) (p2 : List (List Int)) (x6 : Int) (x8 : List Int) : ((List (Int × Int × Int × Int)) × Int) → Option (((List (Int × Int × Int × Int)) × Int) ⊕ (List (Int × Int × Int × Int)))
  | (x9, x10) => (if x10 < (x8.length : Int) then ((ix x8 x10).bind fun x12 => (ix p2 x10).bind fun x13 => (ix x13 x6).bind fun x14 => (ix p1 x10).bind fun x15 => (ix x15 x6).bind fun x16 => (if x14 ≠ x16 then (H4 x9 ([(x10, x6, x14, x12)] : List (Int × Int × Int × Int))).bind fun x17 => some x17 else some x9)).bind fun x11 => some (.inl (x11, An (x10 + 1))) else some (.inr x9))
noncomputable def EK (p0 : Int × (List (Int × Int × Int × Int × Int × Int)) × (List (Int × Int))) (p1 : List (List Int)) (p2 : List (List Int)) : ((List (Int × Int × Int × Int)) × Int) → Option (((List (Int × Int × Int × Int)) × Int) ⊕ (List (Int × Int × Int × Int)))
  | (x5, x6) => (if x6 < (p0.2.2.length : Int) then ((JK p0 p2 x6).bind fun x8 => Ap (DT p1 p2 x6 x8) (x5, 0)).bind fun x7 => some (.inl (x7, An (x6 + 1))) else some (.inr x5))
noncomputable def FO (p0 : Int × (List (Int × Int × Int × Int × Int × Int)) × (List (Int × Int))) (p1 : List (List Int)) (p2 : List (List Int)) : Option ((List (Int × Int × Int × Int)) × Int) := ((Fh p0 p1).bind fun x2 => (if (!x2) = true then some true else (Fh p0 p2).bind fun x3 => some (!x3))).bind fun x1 => (if x1 = true then some (([] : List (Int × Int × Int × Int)), 2) else (Ap (EK p0 p1 p2) ([], 0)).bind fun x4 => (B7 x4).bind fun x18 => some (x18, 0))
theorem OP (Y : Nat → Prop) (w0 : World) (v1 : Value) (v2 : Value) (v3 : Value) (v4 : Value) (p0 : Int × (List (Int × Int × Int × Int × Int × Int)) × (List (Int × Int))) (p1 : List (List Int)) (p2 : List (List Int)) (r : (List (Int × Int × Int × Int)) × Int) (H : FO p0 p1 p2 = some r) (h_v1 : Sl w0 (NX []) IG v1 p0.2.1) (h_v2 : Sl w0 (NX []) IB v2 p0.2.2) (h_v3 : Sl w0 (NX []) (Rp.slice (Rp.int .i64)) v3 p1) (h_v4 : Sl w0 (NX []) (Rp.slice (Rp.int .i64)) v4 p2) :
    Calls Tryz.prog 10 #[.agg #[.int .i64 p0.1, v1, v2], v3, v4] w0 fun e w' => ∃ x : Value, e = .returned (.tuple #[x, .int .i64 r.2]) ∧ Stw ⟨Y, [], w0⟩ [] [row (x) 43 A5 r.1] w' := by
 refine enter Tryz.func10 Aa Tryz.ntmps10 Aa fun a F => ?_
 have W := Stw.start Y w0
 obtain ⟨v5, h1, h_v3⟩ := h_v3.ex CM
 obtain ⟨v6, h2, h_v4⟩ := h_v4.ex CM
 unfold FO at H
 refine vc tk 2 F W fun a w F W => ?_
 refine D2 (cs := [.int .i64 p0.1, v1, v2]) F W Aa Aa Aa fun b1 a w F W => ?_
 refine BR tk 5 F W fun a w F W => ?_
 obtain ⟨o1, G1, K1⟩ := Ac H
 refine Aq (fun a w => ∃ x1 : Bool, some (x1) = some o1 ∧ Fr 68 [] [(1, v3), (2, v4), (3, .pointer (some ⟨b1, 0, none⟩)), (6, .slice none 0 0), (7, .int .i64 0), (22, .bool x1)] a ∧ Stw ⟨Y, [], w0⟩ [(b1, [.int .i64 p0.1, v1, v2])] [] w) ?_ ?_
 ·
  have H := G1
  clear G1 K1
  refine IL tk 3 [0] F W (ai fun a w F W => ?_)
  obtain ⟨x2, h3, H⟩ := Ac H
  refine ls F W Aa (Be (v := Value.bool x2) F X8 Aa (fun w W => IF any w (v1) (v2) (v3) p0 p1 _ h3 (EG (Ad h_v1) W) (EG (Ad h_v2) W) (EG (AN CM h1 (Ad h_v3)) W))) fun a w F W => ?_
  refine vl tk 2 F W fun a w F W => ?_
  rcases Bool.eq_false_or_eq_true (!x2) with hb | hb
  ·
   have H := D0 hb H
   rw [hb] at F
   clear hb
   refine vl tk 6 F W fun a w F W => ?_
   refine Ab ?_
   exact ⟨_, H, F.ra Aa, W⟩
  have H := DZ (by rw [hb]; decide) H
  rw [hb] at F
  clear hb
  refine Ky tk 2 [0] F W (ai fun a w F W => ?_)
  refine MB (Ae F Aa Aa Aa Aa) ?_
  obtain ⟨x3, h4, H⟩ := Ac H
  refine ls F W Aa (Be (v := Value.bool x3) F X8 Aa (fun w W => IF any w (v1) (v2) (v4) p0 p2 _ h4 (EG (Ad h_v1) W) (EG (Ad h_v2) W) (EG (AN CM h2 (Ad h_v4)) W))) fun a w F W => ?_
  refine vl tk 3 F W fun a w F W => ?_
  refine Ab ?_
  exact ⟨_, H, F.ra Aa, W⟩
 rintro a w ⟨x1, hj, F, W⟩
 have hj := Ax hj
 subst hj
 have H := K1
 clear G1 K1
 refine C2 F Aa H (fun F H => ?_) fun F H => ?_
 ·
  refine vc tk 6 F W fun a w F W => ?_
  refine Ao (AE ?_)
  have H := Ax H
  subst H
  refine FF (.inl Aa) F W Aa (Am F Aa) (Am F Aa) ?_
  have W := W.nilRow 43 A5
  have W := W.sub (M' := []) (Z' := [row (Value.slice none 0 0) 43 A5 ([])]) (List.nil_sublist _) (List.Sublist.refl _)
  exact ⟨(Value.slice none 0 0), Aa, W⟩
 refine FP tk 7 F W fun a w F W => ?_
 obtain ⟨o2, G2, K2⟩ := Ac H
 refine Aq (fun a w => ∃ x4 : List (Int × Int × Int × Int), ∃ v7 : Value, some (x4) = some o2 ∧ Fr 68 [] [(6, .slice none 0 0), (7, .int .i64 0), (8, v7)] a ∧ Stw ⟨Y, [], w0⟩ [(b1, [.int .i64 p0.1, v1, v2])] [row v7 43 A5 x4] w) ?_ ?_
 ·
  have H := G2
  clear G2 K2
  refine IL tk 4 [0] F W (ai fun a w F W => ?_)
  refine ls F W Aa (BS (r := IB) (l := p0.2.2) OE Aa F Aa (Ad h_v2)).q fun a w F W => ?_
  refine BR tk 4 F W fun a w F W => ?_
  have W := W.nilRow 43 A5
  refine AL H (fun s a w => ∃ v8 : Value, Fr 68 [] [(1, v3), (2, v4), (3, .pointer (some ⟨b1, 0, none⟩)), (6, .slice none 0 0), (7, .int .i64 0), (8, v8), (25, .int .i64 (p0.2.2.length : Int)), (26, .int .i64 s.2)] a ∧ Stw ⟨Y, [], w0⟩ [(b1, [.int .i64 p0.1, v1, v2])] [row v8 43 A5 s.1] w) ⟨(Value.slice none 0 0), F.ra Aa, W⟩ fun s o a w H L3 hR => ?_
  obtain ⟨x5, x6⟩ := s
  obtain ⟨v8, F, W⟩ := hR
  have F : Fr 68 [] [(1, v3), (2, v4), (3, .pointer (some ⟨b1, 0, none⟩)), (6, .slice none 0 0), (7, .int .i64 0), (8, v8), (25, .int .i64 (p0.2.2.length : Int)), (26, .int .i64 x6)] a := F
  have W : Stw ⟨Y, [], w0⟩ [(b1, [.int .i64 p0.1, v1, v2])] [row v8 43 A5 x5] w := W
  rw [EK] at H
  refine vc tk 6 F W fun a w F W => ?_
  refine AU F Aa H (fun F H => ?_) fun F H => ?_
  ·
   refine AB (Ab ?_)
   obtain ⟨o4, G4, K4⟩ := Ac H
   refine Aq (fun a w => ∃ x7 : List (Int × Int × Int × Int), ∃ v9 : Value, some (x7) = some o4 ∧ Fr 68 [] [(1, v3), (2, v4), (3, .pointer (some ⟨b1, 0, none⟩)), (6, .slice none 0 0), (7, .int .i64 0), (8, v9), (25, .int .i64 (p0.2.2.length : Int)), (26, .int .i64 x6)] a ∧ Stw ⟨Y, [], w0⟩ [(b1, [.int .i64 p0.1, v1, v2])] [row v9 43 A5 x7] w) ?_ ?_
   ·
    have H := G4
    clear G4 K4
    refine IL tk 12 [0] F W (ai fun a w F W => ?_)
    obtain ⟨x8, h5, H⟩ := Ac H
    refine A9 (Ml := []) (Zl := []) (β := Value) (rv := fun x => x) (MM := fun x => []) (ZZ := fun x => [row x 3 (Rp.int .i64) x8]) F W bU Aa Aa (fun hL => Qn _ w (v1) (v2) (v4) p0 p2 x6 _ h5 ((Ad h_v1) w W).nx ((Ad h_v2) w W).nx ((AN CM h2 (Ad h_v4)) w W).nx) fun x a w F W => ?_
    obtain ⟨v10, rfl⟩ : ∃ y, y = x := ⟨x, rfl⟩
    have W : Stw ⟨Y, [], w0⟩ [(b1, [.int .i64 p0.1, v1, v2])] [row v10 3 (Rp.int .i64) x8, row v8 43 A5 x5] w := W
    refine ls F W Aa (BS (r := (Rp.int .i64)) (l := x8) IV Aa F Aa (Af 0 Aa)).q fun a w F W => ?_
    refine BR tk 4 F W fun a w F W => ?_
    have W := W.frontZ (i := 1) Aa Aa
    refine AL H (fun s a w => ∃ v11 : Value, Fr 68 [] [(1, v3), (2, v4), (3, .pointer (some ⟨b1, 0, none⟩)), (6, .slice none 0 0), (7, .int .i64 0), (8, v11), (9, .int .i64 x6), (25, .int .i64 (p0.2.2.length : Int)), (26, .int .i64 x6), (32, v10), (33, .int .i64 (x8.length : Int)), (34, .int .i64 s.2)] a ∧ Stw ⟨Y, [], w0⟩ [(b1, [.int .i64 p0.1, v1, v2])] [row v11 43 A5 s.1, row v10 3 (Rp.int .i64) x8] w) ⟨(v8), F.ra Aa, W⟩ fun s o a w H L5 hR => ?_
    obtain ⟨x9, x10⟩ := s
    obtain ⟨v11, F, W⟩ := hR
    have F : Fr 68 [] [(1, v3), (2, v4), (3, .pointer (some ⟨b1, 0, none⟩)), (6, .slice none 0 0), (7, .int .i64 0), (8, v11), (9, .int .i64 x6), (25, .int .i64 (p0.2.2.length : Int)), (26, .int .i64 x6), (32, v10), (33, .int .i64 (x8.length : Int)), (34, .int .i64 x10)] a := F
    have W : Stw ⟨Y, [], w0⟩ [(b1, [.int .i64 p0.1, v1, v2])] [row v11 43 A5 x9, row v10 3 (Rp.int .i64) x8] w := W
    rw [DT] at H
    refine vc tk 6 F W fun a w F W => ?_
    refine AU F Aa H (fun F H => ?_) fun F H => ?_
    ·
     refine AB (Ab ?_)
     obtain ⟨o6, G6, K6⟩ := Ac H
     refine Aq (fun a w => ∃ x11 : List (Int × Int × Int × Int), ∃ v12 : Value, some (x11) = some o6 ∧ Fr 68 [] [(1, v3), (2, v4), (3, .pointer (some ⟨b1, 0, none⟩)), (6, .slice none 0 0), (7, .int .i64 0), (8, v12), (9, .int .i64 x6), (25, .int .i64 (p0.2.2.length : Int)), (26, .int .i64 x6), (32, v10), (33, .int .i64 (x8.length : Int)), (34, .int .i64 x10)] a ∧ Stw ⟨Y, [], w0⟩ [(b1, [.int .i64 p0.1, v1, v2])] [row v12 43 A5 x11, row v10 3 (Rp.int .i64) x8] w) ?_ ?_
     ·
      have H := G6
      clear G6 K6
      refine vc tk 4 F W fun a w F W => ?_
      obtain ⟨x12, h6, H⟩ := Ac H
      refine ls F W Aa (Al (r := (Rp.int .i64)) EJ F Aa Aa (Af 1 Aa) h6).q fun a w F W => ?_
      refine ls F W Aa (Ag (y := Value.int .i64 x12) (j := 0) (i := x10) F Aa Aa (Af 1 Aa) h6 Fl.int.to T3 Aa).q fun a w F W => ?_
      refine BR tk 8 F W fun a w F W => ?_
      obtain ⟨x13, h7, H⟩ := Ac H
      obtain ⟨v13, h8, h9⟩ := E5 h2 h7
      have h10 : Hd v13 = [(v13.1)] := congrArg (fun q : List Int => ([(v13.1)] : List Value)) h9
      refine ls F W Aa (Al (r := (Rp.vsl (Rp.int .i64))) Ps F Aa Aa (Ad h_v4) h8).q fun a w F W => ?_
      refine ls F W Aa (Ag (y := (v13.1)) (j := 0) (i := x10) (enc := Hd) F Aa Aa (Ad h_v4) h8 LI NA (by rw [h10]; rfl)).q fun a w F W => ?_
      refine ls F W Aa (Ai F Aa).q fun a w F W => ?_
      obtain ⟨x14, h11, H⟩ := Ac H
      refine ls F W Aa (Al (r := (Rp.int .i64)) EJ F Aa Aa (Dc (Ad h_v4) h8 DP.here (congrArg (fun q : List Int => q) h9)) h11).q fun a w F W => ?_
      refine ls F W Aa (Ag (y := Value.int .i64 x14) (j := 0) (i := x6) F Aa Aa (Dc (Ad h_v4) h8 DP.here (congrArg (fun q : List Int => q) h9)) h11 Fl.int.to T3 Aa).q fun a w F W => ?_
      refine BR tk 8 F W fun a w F W => ?_
      obtain ⟨x15, h12, H⟩ := Ac H
      obtain ⟨v14, h13, h14⟩ := E5 h1 h12
      have h15 : Hd v14 = [(v14.1)] := congrArg (fun q : List Int => ([(v14.1)] : List Value)) h14
      refine ls F W Aa (Al (r := (Rp.vsl (Rp.int .i64))) Ps F Aa Aa (Ad h_v3) h13).q fun a w F W => ?_
      refine ls F W Aa (Ag (y := (v14.1)) (j := 0) (i := x10) (enc := Hd) F Aa Aa (Ad h_v3) h13 LI NA (by rw [h15]; rfl)).q fun a w F W => ?_
      refine ls F W Aa (Ai F Aa).q fun a w F W => ?_
      obtain ⟨x16, h16, H⟩ := Ac H
      refine ls F W Aa (Al (r := (Rp.int .i64)) EJ F Aa Aa (Dc (Ad h_v3) h13 DP.here (congrArg (fun q : List Int => q) h14)) h16).q fun a w F W => ?_
      refine ls F W Aa (Ag (y := Value.int .i64 x16) (j := 0) (i := x6) F Aa Aa (Dc (Ad h_v3) h13 DP.here (congrArg (fun q : List Int => q) h14)) h16 Fl.int.to T3 Aa).q fun a w F W => ?_
      refine BR tk 3 F W fun a w F W => ?_
      refine AU F Aa H (fun F H => ?_) fun F H => ?_
      ·
       refine vc tk 6 F W fun a w F W => ?_
       refine ls F W Aa (Cg (v := Value.agg #[.int .i64 x10, .int .i64 x6, .int .i64 x14, .int .i64 x12]) Z5 F Aa Aa Aa).q fun a w F W => ?_
       refine D6 (z := Value.agg #[.int .i64 0, .int .i64 0, .int .i64 0, .int .i64 0]) (cs := [.int .i64 x10, .int .i64 x6, .int .i64 x14, .int .i64 x12]) A5 ([(x10, x6, x14, x12)] : List (Int × Int × Int × Int)) F W Aa EM W3 Aa Aa Aa Aa Aa Aa (ES.repL _ _ ([(x10, x6, x14, x12)] : List (Int × Int × Int × Int))) fun v15 a w F W => ?_
       obtain ⟨x17, h17, H⟩ := Ac H
       refine DB (r := A5) (i := 1) F W Aa EM Aa Aa Aa Aa (Ez W 0 Aa) h17 Aa fun v16 a w F W => ?_
       have W : Stw ⟨Y, [], w0⟩ [(b1, [.int .i64 p0.1, v1, v2])] [row v16 43 A5 x17, row v15 43 A5 ([(x10, x6, x14, x12)] : List (Int × Int × Int × Int)), row v10 3 (Rp.int .i64) x8] w := W
       refine vl tk 2 F W fun a w F W => ?_
       refine Aw (Ab ?_)
       have W := W.frontZ (i := 2) Aa Aa
       have W := W.frontZ (i := 1) Aa Aa
       have W := W.sub (M' := [(b1, [.int .i64 p0.1, v1, v2])]) (Z' := [row v16 43 A5 x17, row v10 3 (Rp.int .i64) x8]) (List.Sublist.refl _) (List.Sublist.cons_cons _ (List.Sublist.cons_cons _ (List.nil_sublist _)))
       exact ⟨_, (v16), H, F.ra Aa, W⟩
      refine AB (Aw (Ab ?_))
      have W := W.frontZ (i := 1) Aa Aa
      have W := W.frontZ (i := 1) Aa Aa
      exact ⟨_, (v11), H, F.ra Aa, W⟩
     rintro a w ⟨x11, v12, hj, F, W⟩
     have hj := Ax hj
     subst hj
     have H := K6
     clear G6 K6
     refine vc tk 4 F W fun a w F W => ?_
     refine Ab ?_
     have W := W.frontZ (i := 1) Aa Aa
     have W := W.frontZ (i := 1) Aa Aa
     exact ⟨_, H, (v12), F.ra Aa, W⟩
    refine AA ?_
    iterate 2 refine AQ ?_
    refine AC (Aw (Ab ?_))
    have W := W.sub (M' := [(b1, [.int .i64 p0.1, v1, v2])]) (Z' := [row v11 43 A5 x9]) (List.Sublist.refl _) (List.Sublist.cons_cons _ (List.nil_sublist _))
    have H := L5 _ H
    exact ⟨_, (v11), H, F.ra Aa, W⟩
   rintro a w ⟨x7, v9, hj, F, W⟩
   have hj := Ax hj
   subst hj
   have H := K4
   clear G4 K4
   refine vc tk 4 F W fun a w F W => ?_
   refine Ab ?_
   exact ⟨_, H, (v9), F.ra Aa, W⟩
  refine AA ?_
  iterate 2 refine AQ ?_
  refine AC (Ab ?_)
  have H := L3 _ H
  exact ⟨_, (v8), H, F.ra Aa, W⟩
 rintro a w ⟨x4, v7, hj, F, W⟩
 have hj := Ax hj
 subst hj
 have H := K2
 clear G2 K2
 refine vc tk 3 F W fun a w F W => ?_
 obtain ⟨x18, h18, H⟩ := Ac H
 refine A9 (Ml := []) (Zl := [row v7 43 A5 x4]) (β := Unit) (rv := fun x => .tuple #[]) (MM := fun x => []) (ZZ := fun x => [row v7 43 A5 x18]) F W bM Aa Aa (fun hL => Gh _ _ w (v7) x4 _ h18 hL) fun x a w F W => ?_
 have W : Stw ⟨Y, [], w0⟩ [(b1, [.int .i64 p0.1, v1, v2])] [row v7 43 A5 x18] w := W
 refine BR tk 9 F W fun a w F W => ?_
 refine Ao ?_
 have H := Ax H
 subst H
 refine FF (.inl Aa) F W Aa (Am F Aa) (Am F Aa) ?_
 have W := W.sub (M' := []) (Z' := [row v7 43 A5 x18]) (List.nil_sublist _) (List.Sublist.refl _)
 exact ⟨(v7), Aa, W⟩
theorem bO : Has Tryz.prog 10 := Cu Tryz.func10
def CI (p0 : Int) (p1 : Int) : Bool := (bif (Cj p0) then (!(Cj p1) || decide (p0 < p1)) else decide (p0 < p1))
theorem FC (Y : Nat → Prop) (w0 : World)  (p0 : Int) (p1 : Int) (r : Bool) (H : CI p0 p1 = r)  :
    Calls Tryz.prog 94 #[.int .i64 p0, .int .i64 p1] w0 fun e w' => e = .returned (.bool r) ∧ Below w0.heap.size w0 w' := by
 refine enter Tryz.func94 Aa Tryz.ntmps94 Aa fun a F => ?_
 have W := Stw.start Y w0
 unfold CI at H
 refine vc tk 5 F W fun a w F W => ?_
 refine Aq (fun a w => Fr 17 [] [(4, .bool (bif (Cj p0) then (!(Cj p1) || decide (p0 < p1)) else decide (p0 < p1)))] a ∧ Stw ⟨Y, [], w0⟩ [] [] w) ?_ ?_
 ·
  refine vc tk 2 F W fun a w F W => ?_
  refine ls F W Aa (Be (v := Value.bool (Cj p0)) F Yh Aa (fun w W => GV any w p0 _ Aa)) fun a w F W => ?_
  refine ls F W Aa (Ai F Aa).q fun a w F W => ?_
  rcases Bool.eq_false_or_eq_true (Cj p0) with hb0 | hb0
  ·
   rw [hb0] at F
   refine Hs F W (Ae F Aa Aa Aa Aa) Aa (As Aa) (Ai F Aa).q fun a w F W => ?_
   refine MB (Ae F Aa Aa Aa Aa) ?_
   refine ls F W Aa (Be (v := Value.bool (Cj p1)) F Yh Aa (fun w W => GV any w p1 _ Aa)) fun a w F W => ?_
   refine vl tk 3 F W fun a w F W => ?_
   rcases Bool.eq_false_or_eq_true (!(Cj p1)) with hb1 | hb1
   ·
    rw [hb1] at F
    refine vl tk 6 F W fun a w F W => ?_
    refine Ab ?_
    exact ⟨F.re ⟨(H0 (by try rw [hb1]; try rw [hb0]; all_goals simp only [H2])), trivial⟩, W⟩
   rw [hb1] at F
   refine vl tk 6 F W fun a w F W => ?_
   refine Ab ?_
   exact ⟨F.re ⟨(H0 (by try rw [hb1]; try rw [hb0]; all_goals simp only [H2])), trivial⟩, W⟩
  rw [hb0] at F
  refine vl tk 11 F W fun a w F W => ?_
  refine Ab ?_
  exact ⟨F.re ⟨(H0 (by try rw [hb0]; all_goals simp only [H2])), trivial⟩, W⟩
 rintro a w ⟨F, W⟩
 refine Ao ?_
 subst H
 refine A1 (.inl Aa) F W Aa (Am F Aa) ?_
 exact ⟨rfl, W.done⟩
theorem Xa : Has Tryz.prog 94 := Cu Tryz.func94
noncomputable def Bj (p1 : Int) : (List Int × Int) → Option ((List Int × Int) ⊕ (List Int))
  | (x4, x5) => (if p1 < x5 then (ix x4 x5).bind fun x7 => (ix x4 (An (x5 - 1))).bind fun x8 => some (CI x7 x8) else some false).bind fun x6 => (if x6 = true then (ix x4 (An (x5 - 1))).bind fun x9 => (ix x4 x5).bind fun x10 => (ix x4 x5).bind fun x11 => (ix (Ah x4 x5 x9) (An (x5 - 1))).bind fun x12 => some (.inl ((Ah (Ah x4 x5 x9) (An (x5 - 1)) x10), An (x5 - 1))) else some (.inr x4))
noncomputable def BU (p1 : Int) (p2 : Int) : (List Int × Int) → Option ((List Int × Int) ⊕ (List Int))
  | (x1, x2) => (if x2 < p2 then (Ap (Bj p1) (x1, x2)).bind fun x3 => some (.inl (x3, An (x2 + 1))) else some (.inr x1))
noncomputable def Ce (p0 : List Int) (p1 : Int) (p2 : Int) : Option (List Int) := Ap (BU p1 p2) (p0, An (p1 + 1))
theorem Hn (Y : Nat → Prop) (X : List Nat) (w0 : World) (v1 : Value) (p0 : List Int) (p1 : Int) (p2 : Int) (r : List Int) (H : Ce p0 p1 p2 = some r) (hL : Stw ⟨Y, X, w0⟩ [] [row v1 3 (Rp.int .i64) p0] w0) :
    Calls Tryz.prog 88 #[v1, .int .i64 p1, .int .i64 p2] w0 fun e w' => ∃ x : Unit, e = .returned (.tuple #[]) ∧ Stw ⟨Y, X, w0⟩ [] [row v1 3 (Rp.int .i64) r] w' := by
 refine enter Tryz.func88 Aa Tryz.ntmps88 Aa fun a F => ?_
 have W := hL
 unfold Ce at H
 refine vc tk 8 F W fun a w F W => ?_
 refine AL H (fun s a w => Fr 49 [] [(0, v1), (1, .int .i64 p1), (2, .int .i64 p2), (6, .int .i64 s.2)] a ∧ Stw ⟨Y, X, w0⟩ [] [row v1 3 (Rp.int .i64) s.1] w) ⟨F.ra Aa, W⟩ fun s o a w H L1 hR => ?_
 obtain ⟨x1, x2⟩ := s
 obtain ⟨F, W⟩ := hR
 have F : Fr 49 [] [(0, v1), (1, .int .i64 p1), (2, .int .i64 p2), (6, .int .i64 x2)] a := F
 have W : Stw ⟨Y, X, w0⟩ [] [row v1 3 (Rp.int .i64) x1] w := W
 rw [BU] at H
 refine vc tk 8 F W fun a w F W => ?_
 refine AU F Aa H (fun F H => ?_) fun F H => ?_
 ·
  refine AB (Ab ?_)
  obtain ⟨o2, G2, K2⟩ := Ac H
  refine Aq (fun a w => ∃ x3 : List Int, some (x3) = some o2 ∧ Fr 49 [] [(0, v1), (1, .int .i64 p1), (2, .int .i64 p2), (6, .int .i64 x2)] a ∧ Stw ⟨Y, X, w0⟩ [] [row v1 3 (Rp.int .i64) x3] w) ?_ ?_
  ·
   have H := G2
   clear G2 K2
   refine vc tk 8 F W fun a w F W => ?_
   refine AL H (fun s a w => Fr 49 [] [(0, v1), (1, .int .i64 p1), (2, .int .i64 p2), (6, .int .i64 x2), (7, .int .i64 s.2)] a ∧ Stw ⟨Y, X, w0⟩ [] [row v1 3 (Rp.int .i64) s.1] w) ⟨F.ra Aa, W⟩ fun s o a w H L3 hR => ?_
   obtain ⟨x4, x5⟩ := s
   obtain ⟨F, W⟩ := hR
   have F : Fr 49 [] [(0, v1), (1, .int .i64 p1), (2, .int .i64 p2), (6, .int .i64 x2), (7, .int .i64 x5)] a := F
   have W : Stw ⟨Y, X, w0⟩ [] [row v1 3 (Rp.int .i64) x4] w := W
   rw [Bj] at H
   refine Hp ?_
   obtain ⟨o4, G4, K4⟩ := Ac H
   refine Aq (fun a w => ∃ x6 : Bool, some (x6) = some o4 ∧ Fr 49 [] [(0, v1), (1, .int .i64 p1), (2, .int .i64 p2), (6, .int .i64 x2), (7, .int .i64 x5), (30, .bool x6)] a ∧ Stw ⟨Y, X, w0⟩ [] [row v1 3 (Rp.int .i64) x4] w) ?_ ?_
   ·
    have H := G4
    clear G4 K4
    refine BB W MO (by kernel_rfl) ?_
    iterate 2 refine qs F Aa (Ai F Aa).q fun a F => ?_
    refine qs F Aa (Qb F Aa Aa).q fun a F => ?_
    refine qs F Aa (Ai F Aa).q fun a F => ?_
    rcases Bool.eq_false_or_eq_true (decide (p1 < x5)) with hb | hb
    ·
     have H := D0 (Fm hb) H
     rw [hb] at F
     clear hb
     iterate 2 refine A8 F (Ae F Aa Aa Aa Aa) Aa (As Aa) (Ai F Aa).q fun a F => ?_
     obtain ⟨x7, h1, H⟩ := Ac H
     refine A8 F (Ae F Aa Aa Aa Aa) Aa (As Aa) (Al (r := (Rp.int .i64)) EJ F Aa Aa (Af 0 Aa) h1).q fun a F => ?_
     refine A8 F (Ae F Aa Aa Aa Aa) Aa (As Aa) (Ag (y := Value.int .i64 x7) (j := 0) (i := x5) F Aa Aa (Af 0 Aa) h1 Fl.int.to T3 Aa).q fun a F => ?_
     iterate 2 refine A8 F (Ae F Aa Aa Aa Aa) Aa (As Aa) (Ai F Aa).q fun a F => ?_
     refine A8 F (Ae F Aa Aa Aa Aa) Aa (As Aa) (Eu F Aa Aa Aa).q fun a F => ?_
     obtain ⟨x8, h2, H⟩ := Ac H
     refine A8 F (Ae F Aa Aa Aa Aa) Aa (As Aa) (Al (r := (Rp.int .i64)) EJ F Aa Aa (Af 0 Aa) h2).q fun a F => ?_
     refine A8 F (Ae F Aa Aa Aa Aa) Aa (As Aa) (Ag (y := Value.int .i64 x8) (j := 0) (i := An (x5 - 1)) F Aa Aa (Af 0 Aa) h2 Fl.int.to T3 Aa).q fun a F => ?_
     refine A8 F (Ae F Aa Aa Aa Aa) Aa (As Aa) (Be (v := Value.bool (CI x7 x8)) F Xa Aa (fun w W => FC any w x7 x8 _ Aa)) fun a F => ?_
     refine qs F Aa (Dh F Aa Aa Aa).q fun a F => ?_
     refine AD fun w W => ?_
     refine Ab ?_
     exact ⟨_, H, F.ra Aa, W⟩
    have H := DZ (Fo hb) H
    rw [hb] at F
    clear hb
    iterate 10 refine Ds F (C3 F Aa Aa Aa Aa Aa) Aa Aa fun a F => ?_
    refine qs F Aa (DC F Aa Aa Aa).q fun a F => ?_
    refine AD fun w W => ?_
    refine Ab ?_
    exact ⟨_, H, F.ra Aa, W⟩
   rintro a w ⟨x6, hj, F, W⟩
   have hj := Ax hj
   subst hj
   have H := K4
   clear G4 K4
   refine C2 F Aa H (fun F H => ?_) fun F H => ?_
   ·
    refine FP tk 4 F W fun a w F W => ?_
    refine ER [(true, 0), (true, 1), (true, 2), (true, 3), (true, 4), (true, 5), (true, 6), (true, 7), (true, 8), (true, 9), (true, 10), (true, 11), (true, 12), (true, 13), (true, 14), (false, 15), (true, 16), (false, 17)] (CN ⟨Y, X, w0⟩ [] [(some 15, row v1 3 (Rp.int .i64) x4)]) (fun ch a d v w h => by cases d <;> exact h) MO (by kernel_rfl) W (fun w W => ⟨_, _, W, Ak, (all_cons (fun _ => (.head _)) Ak)⟩) fun w W => ?_
    iterate 4 refine A6 (R := []) F Aa Aa (yC fun M Z hN hZ => Ai F Aa) Aa Aa fun a F => ?_
    refine A6 (R := []) F Aa Aa (yC fun M Z hN hZ => Eu F Aa Aa Aa) Aa Aa fun a F => ?_
    iterate 2 refine A6 (R := []) F Aa Aa (yC fun M Z hN hZ => Ai F Aa) Aa Aa fun a F => ?_
    refine A6 (R := []) F Aa Aa (yC fun M Z hN hZ => Eu F Aa Aa Aa) Aa Aa fun a F => ?_
    obtain ⟨x9, h3, H⟩ := Ac H
    refine A6 (R := []) F Aa Aa (yC fun M Z hN hZ => Ba (r := (Rp.int .i64)) EJ F Aa Aa (C1 W (Af 0 Aa)) h3) Aa Aa fun a F => ?_
    refine A6 (R := [15]) F Aa Aa (yC fun M Z hN hZ => Ag (y := Value.int .i64 x9) (j := 0) (i := An (x5 - 1)) F Aa Aa (Di (hZ ((some 15), row v1 3 (Rp.int .i64) x4) (.head _) Aa)) h3 Fl.int.to T3 Aa) (by kernel_rfl) Aa fun a F => ?_
    iterate 2 refine A6 (R := []) F Aa Aa (yC fun M Z hN hZ => Ai F Aa) Aa Aa fun a F => ?_
    obtain ⟨x10, h4, H⟩ := Ac H
    refine A6 (R := []) F Aa Aa (yC fun M Z hN hZ => Ba (r := (Rp.int .i64)) EJ F Aa Aa (C1 W (Af 0 Aa)) h4) Aa Aa fun a F => ?_
    refine A6 (R := [15]) F Aa Aa (yC fun M Z hN hZ => Ag (y := Value.int .i64 x10) (j := 0) (i := x5) F Aa Aa (Di (hZ ((some 15), row v1 3 (Rp.int .i64) x4) (.head _) Aa)) h4 Fl.int.to T3 Aa) (by kernel_rfl) Aa fun a F => ?_
    obtain ⟨x11, h5, H⟩ := Ac H
    refine A6 (R := []) F Aa Aa (yC fun M Z hN hZ => Ba (r := (Rp.int .i64)) EJ F Aa Aa (C1 W (Af 0 Aa)) h5) Aa Aa fun a F => ?_
    refine F2 Aa ?_
    refine AY (i := x5) (j := 0) (vs := [.int .i64 x9]) (x' := x9) F W Aa Aa Aa (k := 0) Aa Aa h5 T3 Aa Aa Aa Aa (fun A cs _ => Fl.int.sto (by rfl) _ _ _) fun w W => ?_
    refine Cm (N2 := []) (NZ2 := []) (N3 := []) (NZ3 := [(some 15, row v1 3 (Rp.int .i64) x4)]) W Aa Aa Ak (all_cons (fun h => AJ (by kernel_rfl) h) Ak) ?_
    obtain ⟨x12, h6, H⟩ := Ac H
    refine A6 (R := []) F Aa Aa (yC fun M Z hN hZ => Ba (r := (Rp.int .i64)) EJ F Aa Aa (C1 W (Af 0 Aa)) h6) Aa Aa fun a F => ?_
    refine F2 Aa ?_
    refine AY (i := An (x5 - 1)) (j := 0) (vs := [.int .i64 x10]) (x' := x10) F W Aa Aa Aa (k := 0) Aa Aa h6 T3 Aa Aa Aa Aa (fun A cs _ => Fl.int.sto (by rfl) _ _ _) fun w W => ?_
    refine Cm (N2 := []) (NZ2 := []) (N3 := []) (NZ3 := [(some 15, row v1 3 (Rp.int .i64) x4)]) W Aa Aa Ak (all_cons (fun h => AJ (by kernel_rfl) h) Ak) ?_
    refine Hg (Aw ?_)
    refine vn tk 5 F W fun a w F W => ?_
    refine Ab ?_
    exact ⟨_, H, F.ra Aa, W⟩
   refine AA ?_
   iterate 2 refine AQ ?_
   refine AC (Aw (Ab ?_))
   have H := L3 _ H
   exact ⟨_, H, F.ra Aa, W⟩
  rintro a w ⟨x3, hj, F, W⟩
  have hj := Ax hj
  subst hj
  have H := K2
  clear G2 K2
  refine vc tk 5 F W fun a w F W => ?_
  refine Ab ?_
  exact ⟨_, H, F.ra Aa, W⟩
 refine AA ?_
 iterate 2 refine AQ ?_
 refine AC ?_
 have H := L1 _ H
 have H := Ax H
 subst H
 refine Jf (.inr Aa) F Aa ?_
 exact ⟨(), Aa, W⟩
theorem Z0 : Has Tryz.prog 88 := Cu Tryz.func88
noncomputable def CB (p0 : List Int) (p1 : Int) (p2 : Int) (p3 : Int) : Option (Int × Int × Int) := (ix p0 p2).bind fun x1 => (ix p0 p1).bind fun x2 => (if (CI x1 x2) = true then some (p2, p1, An (p3 + 1)) else some (p1, p2, p3))
theorem EQ (Y : Nat → Prop) (X : List Nat) (w0 : World) (v1 : Value) (q_p3 : Nat) (p0 : List Int) (p1 : Int) (p2 : Int) (p3 : Int) (r : Int × Int × Int) (H : CB p0 p1 p2 p3 = some r) (h_v1 : Sl w0 (NX X) (Rp.int .i64) v1 p0) (hL : Stw ⟨Y, X, w0⟩ [(q_p3, [.int .i64 p3])] [] w0) :
    Calls Tryz.prog 104 #[v1, .int .i64 p1, .int .i64 p2, .pointer (some ⟨q_p3, 0, none⟩)] w0 fun e w' => ∃ x : Unit, e = .returned (.tuple #[.int .i64 r.1, .int .i64 r.2.1]) ∧ Stw ⟨Y, X, w0⟩ [(q_p3, [.int .i64 r.2.2])] [] w' := by
 refine enter Tryz.func104 Aa Tryz.ntmps104 Aa fun a F => ?_
 have W := hL
 unfold CB at H
 refine vc tk 8 F W fun a w F W => ?_
 refine BB W MO (by kernel_rfl) ?_
 iterate 2 refine qs F Aa (Ai F Aa).q fun a F => ?_
 obtain ⟨x1, h1, H⟩ := Ac H
 refine qs F Aa (Al (r := (Rp.int .i64)) EJ F Aa Aa (Ad h_v1) h1).q fun a F => ?_
 refine qs F Aa (Ag (y := Value.int .i64 x1) (j := 0) (i := p2) F Aa Aa (Ad h_v1) h1 Fl.int.to T3 Aa).q fun a F => ?_
 iterate 2 refine qs F Aa (Ai F Aa).q fun a F => ?_
 obtain ⟨x2, h2, H⟩ := Ac H
 refine qs F Aa (Al (r := (Rp.int .i64)) EJ F Aa Aa (Ad h_v1) h2).q fun a F => ?_
 refine qs F Aa (Ag (y := Value.int .i64 x2) (j := 0) (i := p1) F Aa Aa (Ad h_v1) h2 Fl.int.to T3 Aa).q fun a F => ?_
 refine qs F Aa (Be (v := Value.bool (CI x1 x2)) F Xa Aa (fun w W => FC any w x1 x2 _ Aa)) fun a F => ?_
 refine AD fun w W => ?_
 refine Ab ?_
 refine C2 F Aa H (fun F H => ?_) fun F H => ?_
 ·
  refine vc tk 3 F W fun a w F W => ?_
  refine ls F W Aa (DS F Aa).q fun a w F W => ?_
  refine Ky tk 2 [0] F W (ai fun a w F W => ?_)
  refine ls F W Aa (DS F Aa).q fun a w F W => ?_
  refine Ey 0 F W Aa Aa Aa T3 Aa Aa Aa fun w W => ?_
  refine BR tk 10 F W fun a w F W => ?_
  refine Ao (AE ?_)
  have H := Ax H
  subst H
  refine FF (.inl Aa) F W Aa (Am F Aa) (Am F Aa) ?_
  exact ⟨(), Aa, W⟩
 refine FP tk 10 F W fun a w F W => ?_
 refine Ao ?_
 have H := Ax H
 subst H
 refine FF (.inl Aa) F W Aa (Am F Aa) (Am F Aa) ?_
 exact ⟨(), Aa, W⟩
theorem Wn : Has Tryz.prog 104 := Cu Tryz.func104
noncomputable def CF (p0 : List Int) (p1 : Int) (p2 : Int) (p3 : Int) (p4 : Int) : Option (Int × Int) := (CB p0 p1 p2 p4).bind fun x1 => (CB p0 x1.2.1 p3 x1.2.2).bind fun x2 => (CB p0 x1.1 x2.1 x2.2.2).bind fun x3 => some (x3.2.1, x3.2.2)
theorem Gm (Y : Nat → Prop) (X : List Nat) (w0 : World) (v1 : Value) (q_p4 : Nat) (p0 : List Int) (p1 : Int) (p2 : Int) (p3 : Int) (p4 : Int) (r : Int × Int) (H : CF p0 p1 p2 p3 p4 = some r) (h_v1 : Sl w0 (NX X) (Rp.int .i64) v1 p0) (hL : Stw ⟨Y, X, w0⟩ [(q_p4, [.int .i64 p4])] [] w0) :
    Calls Tryz.prog 103 #[v1, .int .i64 p1, .int .i64 p2, .int .i64 p3, .pointer (some ⟨q_p4, 0, none⟩)] w0 fun e w' => ∃ x : Unit, e = .returned (.int .i64 r.1) ∧ Stw ⟨Y, X, w0⟩ [(q_p4, [.int .i64 r.2])] [] w' := by
 refine enter Tryz.func103 Aa Tryz.ntmps103 Aa fun a F => ?_
 have W := hL
 unfold CF at H
 refine vc tk 11 F W fun a w F W => ?_
 obtain ⟨x1, h1, H⟩ := Ac H
 refine A9 (Ml := [(q_p4, [.int .i64 p4])]) (Zl := []) (β := Unit) (rv := fun x => .tuple #[.int .i64 x1.1, .int .i64 x1.2.1]) (MM := fun x => [(q_p4, [.int .i64 x1.2.2])]) (ZZ := fun x => []) F W Wn Aa Aa (fun hL => EQ _ _ w (v1) q_p4 p0 p1 p2 p4 _ h1 (W.roX h_v1 (fun g hg => Fq hg)) hL) fun x a w F W => ?_
 have W : Stw ⟨Y, X, w0⟩ [(q_p4, [.int .i64 x1.2.2])] [] w := W
 refine ls F W Aa (Ai F Aa).q fun a w F W => ?_
 refine ls F W Aa (Bi (v := Value.int .i64 x1.1) F Aa Aa).q fun a w F W => ?_
 refine ls F W Aa (Bi (v := Value.int .i64 x1.2.1) F Aa Aa).q fun a w F W => ?_
 refine BR tk 10 F W fun a w F W => ?_
 obtain ⟨x2, h2, H⟩ := Ac H
 refine A9 (Ml := [(q_p4, [.int .i64 x1.2.2])]) (Zl := []) (β := Unit) (rv := fun x => .tuple #[.int .i64 x2.1, .int .i64 x2.2.1]) (MM := fun x => [(q_p4, [.int .i64 x2.2.2])]) (ZZ := fun x => []) F W Wn Aa Aa (fun hL => EQ _ _ w (v1) q_p4 p0 x1.2.1 p3 x1.2.2 _ h2 (W.roX h_v1 (fun g hg => Fq hg)) hL) fun x a w F W => ?_
 have W : Stw ⟨Y, X, w0⟩ [(q_p4, [.int .i64 x2.2.2])] [] w := W
 refine ls F W Aa (Ai F Aa).q fun a w F W => ?_
 refine ls F W Aa (Bi (v := Value.int .i64 x2.1) F Aa Aa).q fun a w F W => ?_
 refine ls F W Aa (Bi (v := Value.int .i64 x2.2.1) F Aa Aa).q fun a w F W => ?_
 refine BR tk 10 F W fun a w F W => ?_
 obtain ⟨x3, h3, H⟩ := Ac H
 refine A9 (Ml := [(q_p4, [.int .i64 x2.2.2])]) (Zl := []) (β := Unit) (rv := fun x => .tuple #[.int .i64 x3.1, .int .i64 x3.2.1]) (MM := fun x => [(q_p4, [.int .i64 x3.2.2])]) (ZZ := fun x => []) F W Wn Aa Aa (fun hL => EQ _ _ w (v1) q_p4 p0 x1.1 x2.1 x2.2.2 _ h3 (W.roX h_v1 (fun g hg => Fq hg)) hL) fun x a w F W => ?_
 have W : Stw ⟨Y, X, w0⟩ [(q_p4, [.int .i64 x3.2.2])] [] w := W
 refine ls F W Aa (Ai F Aa).q fun a w F W => ?_
 refine ls F W Aa (Bi (v := Value.int .i64 x3.1) F Aa Aa).q fun a w F W => ?_
 refine ls F W Aa (Bi (v := Value.int .i64 x3.2.1) F Aa Aa).q fun a w F W => ?_
 refine BR tk 10 F W fun a w F W => ?_
 refine Ao ?_
 have H := Ax H
 subst H
 refine A1 (.inl Aa) F W Aa (Am F Aa) ?_
 exact ⟨(), Aa, W⟩
theorem Xf : Has Tryz.prog 103 := Cu Tryz.func103
noncomputable def Bw (p0 : List Int) (p1 : Int) (p2 : Int) : Option (Int × Int) := (CF p0 (An (p1 - 1)) p1 (An (p1 + 1)) p2).bind fun x1 => some (x1.1, x1.2)
theorem DJ (Y : Nat → Prop) (X : List Nat) (w0 : World) (v1 : Value) (q_p2 : Nat) (p0 : List Int) (p1 : Int) (p2 : Int) (r : Int × Int) (H : Bw p0 p1 p2 = some r) (h_v1 : Sl w0 (NX X) (Rp.int .i64) v1 p0) (hL : Stw ⟨Y, X, w0⟩ [(q_p2, [.int .i64 p2])] [] w0) :
    Calls Tryz.prog 102 #[v1, .int .i64 p1, .pointer (some ⟨q_p2, 0, none⟩)] w0 fun e w' => ∃ x : Unit, e = .returned (.int .i64 r.1) ∧ Stw ⟨Y, X, w0⟩ [(q_p2, [.int .i64 r.2])] [] w' := by
 refine enter Tryz.func102 Aa Tryz.ntmps102 Aa fun a F => ?_
 have W := hL
 unfold Bw at H
 refine vc tk 14 F W fun a w F W => ?_
 obtain ⟨x1, h1, H⟩ := Ac H
 refine A9 (Ml := [(q_p2, [.int .i64 p2])]) (Zl := []) (β := Unit) (rv := fun x => .int .i64 x1.1) (MM := fun x => [(q_p2, [.int .i64 x1.2])]) (ZZ := fun x => []) F W Xf Aa Aa (fun hL => Gm _ _ w (v1) q_p2 p0 (An (p1 - 1)) p1 (An (p1 + 1)) p2 _ h1 (W.roX h_v1 (fun g hg => Fq hg)) hL) fun x a w F W => ?_
 have W : Stw ⟨Y, X, w0⟩ [(q_p2, [.int .i64 x1.2])] [] w := W
 refine BR tk 3 F W fun a w F W => ?_
 refine Ao ?_
 have H := Ax H
 subst H
 refine A1 (.inl Aa) F W Aa (Am F Aa) ?_
 exact ⟨(), Aa, W⟩
theorem WP : Has Tryz.prog 102 := Cu Tryz.func102
noncomputable def Cs (p0 : List Int) (p1 : Int) (p2 : Int) : Option (Int × Int) := (if 8 ≤ (An (p2 - p1)) then (if 50 ≤ (An (p2 - p1)) then (Bw p0 (An (p1 + (An ((An (Int.tdiv (An (p2 - p1)) 4)) * 1)))) 0).bind fun x7 => (Bw p0 (An (p1 + (An ((An (Int.tdiv (An (p2 - p1)) 4)) * 2)))) x7.2).bind fun x8 => (Bw p0 (An (p1 + (An ((An (Int.tdiv (An (p2 - p1)) 4)) * 3)))) x8.2).bind fun x9 => some (x7.1, x8.1, x9.1, x9.2) else some (An (p1 + (An ((An (Int.tdiv (An (p2 - p1)) 4)) * 1))), An (p1 + (An ((An (Int.tdiv (An (p2 - p1)) 4)) * 2))), An (p1 + (An ((An (Int.tdiv (An (p2 - p1)) 4)) * 3))), 0)).bind fun (x3, x4, x5, x6) => (CF p0 x3 x4 x5 x6).bind fun x10 => some (x10.1, x10.2) else some (An (p1 + (An ((An (Int.tdiv (An (p2 - p1)) 4)) * 2))), 0)).bind fun (x1, x2) => (if x2 = 0 then some (x1, 1) else (if x2 = 12 then some (x1, 2) else some (x1, 0)))
theorem HH (Y : Nat → Prop) (w0 : World) (v1 : Value) (p0 : List Int) (p1 : Int) (p2 : Int) (r : Int × Int) (H : Cs p0 p1 p2 = some r) (h_v1 : Sl w0 (NX []) (Rp.int .i64) v1 p0) :
    Calls Tryz.prog 91 #[v1, .int .i64 p1, .int .i64 p2] w0 fun e w' => e = .returned (.tuple #[.int .i64 r.1, .int .i64 r.2]) ∧ Below w0.heap.size w0 w' := by
 refine enter Tryz.func91 Aa Tryz.ntmps91 Aa fun a F => ?_
 have W := Stw.start Y w0
 unfold Cs at H
 refine vc tk 16 F W fun a w F W => ?_
 refine B8 (cs := [.int .i64 0]) F W Aa Z3 Aa fun b1 a w F W => ?_
 refine BR tk 6 F W fun a w F W => ?_
 refine ls F W Aa (Lm F Aa Aa (by decide) Aa).q fun a w F W => ?_
 refine BR tk 9 F W fun a w F W => ?_
 refine ls F W Aa (Lm F Aa Aa (by decide) Aa).q fun a w F W => ?_
 refine BR tk 9 F W fun a w F W => ?_
 refine ls F W Aa (Lm F Aa Aa (by decide) Aa).q fun a w F W => ?_
 refine vl tk 4 F W fun a w F W => ?_
 refine Ab ?_
 obtain ⟨o1, G1, K1⟩ := Ac H
 refine Aq (fun a w => ∃ x1 : Int, ∃ x2 : Int, some ((x1, x2)) = some o1 ∧ Fr 57 [] [(6, .int .i64 0), (7, .int .i64 0), (9, .pointer (some ⟨b1, 0, none⟩)), (11, .int .i64 x1)] a ∧ Stw ⟨Y, [], w0⟩ [(b1, [.int .i64 x2])] [] w) ?_ ?_
 ·
  have H := G1
  clear G1 K1
  refine vc tk 6 F W fun a w F W => ?_
  refine AU F Aa H (fun F H => ?_) fun F H => ?_
  ·
   obtain ⟨o2, G2, K2⟩ := Ac H
   refine Aq (fun a w => ∃ x3 : Int, ∃ x4 : Int, ∃ x5 : Int, ∃ x6 : Int, some ((x3, x4, x5, x6)) = some o2 ∧ Fr 57 [] [(0, v1), (6, .int .i64 0), (7, .int .i64 0), (9, .pointer (some ⟨b1, 0, none⟩)), (10, .int .i64 x3), (11, .int .i64 x4), (12, .int .i64 x5)] a ∧ Stw ⟨Y, [], w0⟩ [(b1, [.int .i64 x6])] [] w) ?_ ?_
   ·
    have H := G2
    clear G2 K2
    refine vc tk 6 F W fun a w F W => ?_
    refine AU F Aa H (fun F H => ?_) fun F H => ?_
    ·
     refine vc tk 4 F W fun a w F W => ?_
     obtain ⟨x7, h1, H⟩ := Ac H
     refine A9 (Ml := [(b1, [.int .i64 0])]) (Zl := []) (β := Unit) (rv := fun x => .int .i64 x7.1) (MM := fun x => [(b1, [.int .i64 x7.2])]) (ZZ := fun x => []) F W WP Aa Aa (fun hL => DJ _ _ w (v1) b1 p0 (An (p1 + (An ((An (Int.tdiv (An (p2 - p1)) 4)) * 1)))) 0 _ h1 (W.roX h_v1 (fun g hg => Fq hg)) hL) fun x a w F W => ?_
     have W : Stw ⟨Y, [], w0⟩ [(b1, [.int .i64 x7.2])] [] w := W
     refine BR tk 7 F W fun a w F W => ?_
     obtain ⟨x8, h2, H⟩ := Ac H
     refine A9 (Ml := [(b1, [.int .i64 x7.2])]) (Zl := []) (β := Unit) (rv := fun x => .int .i64 x8.1) (MM := fun x => [(b1, [.int .i64 x8.2])]) (ZZ := fun x => []) F W WP Aa Aa (fun hL => DJ _ _ w (v1) b1 p0 (An (p1 + (An ((An (Int.tdiv (An (p2 - p1)) 4)) * 2)))) x7.2 _ h2 (W.roX h_v1 (fun g hg => Fq hg)) hL) fun x a w F W => ?_
     have W : Stw ⟨Y, [], w0⟩ [(b1, [.int .i64 x8.2])] [] w := W
     refine BR tk 6 F W fun a w F W => ?_
     obtain ⟨x9, h3, H⟩ := Ac H
     refine A9 (Ml := [(b1, [.int .i64 x8.2])]) (Zl := []) (β := Unit) (rv := fun x => .int .i64 x9.1) (MM := fun x => [(b1, [.int .i64 x9.2])]) (ZZ := fun x => []) F W WP Aa Aa (fun hL => DJ _ _ w (v1) b1 p0 (An (p1 + (An ((An (Int.tdiv (An (p2 - p1)) 4)) * 3)))) x8.2 _ h3 (W.roX h_v1 (fun g hg => Fq hg)) hL) fun x a w F W => ?_
     have W : Stw ⟨Y, [], w0⟩ [(b1, [.int .i64 x9.2])] [] w := W
     refine vl tk 2 F W fun a w F W => ?_
     refine Ab ?_
     exact ⟨_, _, _, _, H, F.ra Aa, W⟩
    refine AB (Ab ?_)
    exact ⟨_, _, _, _, H, F.ra Aa, W⟩
   rintro a w ⟨x3, x4, x5, x6, hj, F, W⟩
   have hj := Ax hj
   subst hj
   have H := K2
   clear G2 K2
   refine vc tk 5 F W fun a w F W => ?_
   obtain ⟨x10, h4, H⟩ := Ac H
   refine A9 (Ml := [(b1, [.int .i64 x6])]) (Zl := []) (β := Unit) (rv := fun x => .int .i64 x10.1) (MM := fun x => [(b1, [.int .i64 x10.2])]) (ZZ := fun x => []) F W Xf Aa Aa (fun hL => Gm _ _ w (v1) b1 p0 x3 x4 x5 x6 _ h4 (W.roX h_v1 (fun g hg => Fq hg)) hL) fun x a w F W => ?_
   have W : Stw ⟨Y, [], w0⟩ [(b1, [.int .i64 x10.2])] [] w := W
   refine vl tk 2 F W fun a w F W => ?_
   refine Ab ?_
   exact ⟨_, _, H, F.ra Aa, W⟩
  refine AB (Ab ?_)
  exact ⟨_, _, H, F.ra Aa, W⟩
 rintro a w ⟨x1, x2, hj, F, W⟩
 have hj := Ax hj
 subst hj
 have H := K1
 clear G1 K1
 refine IL tk 12 [0] F W (ai fun a w F W => ?_)
 refine Gu F Aa (fun hb => ?_) fun hb => ?_
 ·
  have H := D0 (Fm hb) H
  rw [hb] at F
  clear hb
  refine vc tk 7 F W fun a w F W => ?_
  refine Ao (AW ?_)
  have H := Ax H
  subst H
  refine FF (.inl Aa) F W Aa (Am F Aa) (Am F Aa) ?_
  exact ⟨rfl, W.done⟩
 have H := DZ (Fo hb) H
 rw [hb] at F
 clear hb
 refine vc tk 6 F W fun a w F W => ?_
 refine Gu F Aa (fun hb => ?_) fun hb => ?_
 ·
  have H := D0 (Fm hb) H
  rw [hb] at F
  clear hb
  refine vc tk 7 F W fun a w F W => ?_
  refine Ao (AW ?_)
  have H := Ax H
  subst H
  refine FF (.inl Aa) F W Aa (Am F Aa) (Am F Aa) ?_
  exact ⟨rfl, W.done⟩
 have H := DZ (Fo hb) H
 rw [hb] at F
 clear hb
 refine vc tk 7 F W fun a w F W => ?_
 refine Ao (AW ?_)
 have H := Ax H
 subst H
 refine FF (.inl Aa) F W Aa (Am F Aa) (Am F Aa) ?_
 exact ⟨rfl, W.done⟩
end Go.Proofs.YthhoflfhegfmcaaGreat
