/- The functions of layer 23, HM. Conditions: none. -/
import Derived.Test.YthiejmoddfenlaagC2
namespace Go.Proofs.Ythiejmoddfenlaa
open Go Go.RowKit
set_option linter.unusedVariables false
set_option linter.unusedSimpArgs false
set_option maxRecDepth 20000
theorem Sy : Has Try.prog 17 := ⟨fun args w => Am Try.func17 rfl (by decide) args w⟩
abbrev RF : Rp (Int × (Int × (Int × Int × Int × Int) × (Int × Int × Int × Int)) × (Value × List (Int × Int × Int))) := (Rp.pair (Rp.int .i64) (Rp.pair Rw (Rp.vsl OU)))
abbrev OY : Rp (Int × (Int × (Int × (Int × Int × Int × Int) × (Int × Int × Int × Int)) × (Value × List (Int × Int × Int))) × Bool) := (Rp.pair (Rp.int .i64) (Rp.pair RF Rp.bool))
abbrev Ru (p : Int × (Int × (Int × (Int × Int × Int × Int) × (Int × Int × Int × Int)) × (Value × List (Int × Int × Int))) × Bool) : Int × (Int × (Int × (Int × Int × Int × Int) × (Int × Int × Int × Int)) × (List (Int × Int × Int))) × Bool := (p.1, (p.2.1.1, p.2.1.2.1, p.2.1.2.2.2), p.2.2)
theorem Nx : Ex Ji OY Ru := (Ex.pair Ex.rfl' (Ex.pair (Ex.pair Ex.rfl' (Ex.pair Ex.rfl' Ex.sliceF)) Ex.rfl'))
def Td (a : Int × Int × Int × Int) : List Value := [.int .i64 a.1, .int .i64 a.2.1, .int .i64 a.2.2.1, .int .i64 a.2.2.2]
theorem R9 : Fl Rz Td := (Fl.pair Fl.int (Fl.pair Fl.int (Fl.pair Fl.int Fl.int)))
def SY (a : Int × (Int × Int × Int × Int) × (Int × Int × Int × Int)) : List Value := [.int .i64 a.1, .int .i64 a.2.1.1, .int .i64 a.2.1.2.1, .int .i64 a.2.1.2.2.1, .int .i64 a.2.1.2.2.2, .int .i64 a.2.2.1, .int .i64 a.2.2.2.1, .int .i64 a.2.2.2.2.1, .int .i64 a.2.2.2.2.2]
theorem St : Fl Rw SY := (Fl.pair Fl.int (Fl.pair R9 R9))
abbrev Nv (a : Int × (Int × (Int × (Int × Int × Int × Int) × (Int × Int × Int × Int)) × (Value × List (Int × Int × Int))) × Bool) : List Value := [.int .i64 a.1, .int .i64 a.2.1.1, .int .i64 a.2.1.2.1.1, .int .i64 a.2.1.2.1.2.1.1, .int .i64 a.2.1.2.1.2.1.2.1, .int .i64 a.2.1.2.1.2.1.2.2.1, .int .i64 a.2.1.2.1.2.1.2.2.2, .int .i64 a.2.1.2.1.2.2.1, .int .i64 a.2.1.2.1.2.2.2.1, .int .i64 a.2.1.2.1.2.2.2.2.1, .int .i64 a.2.1.2.1.2.2.2.2.2, a.2.1.2.2.1, .bool a.2.2]
theorem Qk : I6 OY Nv := (I6.pair Fl.int.to (I6.pair (I6.pair Fl.int.to (I6.pair St.to I6.vsl)) Fl.bool.to))
theorem Rk : Ty Try.prog 54 false 1 := ⟨by kernel_rfl, by kernel_rfl⟩
noncomputable def C1 (p0 : Int × (List (Int × Int × Int × Int × Int × Int)) × (List (Int × Int))) (p4 : Int) (x8 : List (List Int)) (x9 : List (List Int)) (x13 : (List (Int × (Int × (Int × (Int × Int × Int × Int) × (Int × Int × Int × Int)) × (List (Int × Int × Int))) × Bool))) : (Int × Int) → Option ((Int × Int) ⊕ (Int ⊕ Bool))
  | (x15, x16) => (if x16 < (p0.2.2.length : Int) then FN ((ix x8 p4).bind fun x18 => (ix x18 x16).bind fun x19 => (ix x9 p4).bind fun x20 => (ix x20 x16).bind fun x21 => (if x19 ≠ x21 then (if (x13.length : Int) ≤ x15 then some true else (ix x13 x15).bind fun x23 => (if (x23.2.1.2.2.length : Int) ≠ 1 then some true else (ix x13 x15).bind fun x24 => (if x24.2.1.2.1.2.1.2.1 ≠ x16 then some true else (ix x13 x15).bind fun x25 => (ix x25.2.1.2.2 0).bind fun x26 => (ix x9 p4).bind fun x27 => (ix x27 x16).bind fun x28 => some (decide (x26.2.2 ≠ x28))))).bind fun x22 => (if x22 = true then some (.inr (.inr (.inr false))) else some (.inl (AC (x15 + 1)))) else some (.inl x15))) fun x17 => some (.inl (x17, AC (x16 + 1))) else some (.inr (.inl x15)))
noncomputable def GZ (p0 : Int × (List (Int × Int × Int × Int × Int × Int)) × (List (Int × Int))) (p1 : List (List Int)) (p2 : List (List Int)) (p3 : Int) (p4 : Int) : Option Bool := ((HD p0 p1).bind fun x2 => (if (!x2) = true then some true else (HD p0 p2).bind fun x3 => (if (!x3) = true then some true else (Io p0 p1).bind fun x4 => (if (!x4) = true then some true else (Io p0 p2).bind fun x5 => (if (!x5) = true then some true else (if p4 < 0 then some true else (if p0.1 ≤ p4 then some true else (if p3 < (-100) then some true else some (decide (100 < p3)))))))))).bind fun x1 => (if x1 = true then (GQ).bind fun x6 => some x6 else (ET p0 p1 p2).bind fun x7 => (Eh p1 x7.1 p3 ([] : List Int)).bind fun x8 => (Eh p1 x7.1 p3 ([0, 1, 2, 3, 4, 5, 6, 7] : List Int)).bind fun x9 => ((Eh p1 x7.1 (AC (p3 + 1)) ([] : List Int)).bind fun x11 => (IU x9 x11).bind fun x12 => (if (!x12) = true then some true else (if (x8.length : Int) ≠ p0.1 then some true else some (decide ((x9.length : Int) ≠ p0.1))))).bind fun x10 => (if x10 = true then some false else (GU x7.1 p3 p4).bind fun x13 => FN (AO (C1 p0 p4 x8 x9 x13) (0, 0)) fun x14 => (if x14 = (x13.length : Int) then (GQ).bind fun x30 => some x30 else some false).bind fun x29 => some x29))
theorem KE (Y : Nat → Prop) (w0 : World) (v1 : Value) (v2 : Value) (v3 : Value) (v4 : Value) (p0 : Int × (List (Int × Int × Int × Int × Int × Int)) × (List (Int × Int))) (p1 : List (List Int)) (p2 : List (List Int)) (p3 : Int) (p4 : Int) (r : Bool) (H : GZ p0 p1 p2 p3 p4 = some r) (h_v1 : Sl w0 (NX []) Hu v1 p0.2.1) (h_v2 : Sl w0 (NX []) GH v2 p0.2.2) (s_v3 : Sl w0 Y (Rp.slice (Rp.int .i64)) v3 p1) (h_v4 : Sl w0 (NX []) (Rp.slice (Rp.int .i64)) v4 p2) :
    Calls Try.prog 5 #[.agg #[.int .i64 p0.1, v1, v2], v3, v4, .int .i64 p3, .int .i64 p4] w0 fun e w' => e = .returned (.bool r) ∧ Below w0.heap.size w0 w' := by
 refine enter Try.func5 Aa Try.ntmps5 Aa fun a F => ?_
 have W := Stw.start Y w0
 obtain ⟨v5, h1, s_v3⟩ := s_v3.ex CR
 obtain ⟨v6, h2, h_v4⟩ := h_v4.ex CR
 have h_v3 := W.nx s_v3
 unfold GZ at H
 refine Ah (Ac ?_)
 refine E0 (cs := [.int .i64 p0.1, v1, v2]) F W Aa Aa Aa fun b1 a w F W => ?_
 refine ls F W Aa (Ag F Aa).q fun a w F W => ?_
 refine Ae (Ab (Ah ?_))
 obtain ⟨o1, G1, K1⟩ := Al H
 refine AM (fun a w => ∃ x1 : Bool, some (x1) = some o1 ∧ Fr 177 [] [(1, v3), (2, v4), (3, .int .i64 p3), (4, .int .i64 p4), (5, .pointer (some ⟨b1, 0, none⟩)), (10, .bool false), (57, .bool x1)] a ∧ Stw ⟨Y, [], w0⟩ [(b1, [.int .i64 p0.1, v1, v2])] [] w) ?_ ?_
 ·
  have H := G1
  clear G1 K1
  refine Ac ?_
  refine ls F W Aa (Az (v := Value.agg #[.int .i64 p0.1, v1, v2]) 0 F Aa Aa JB Aa).q fun a w F W => ?_
  refine ls F W Aa (Ad F Aa).q fun a w F W => ?_
  obtain ⟨x2, h3, H⟩ := Al H
  refine ls F W Aa (BV (v := Value.bool x2) F H7 Aa (fun w W => Ku any w (v1) (v2) (v3) p0 p1 _ h3 (((Ao h_v1) : Ec _ _ _ _ _ _) w W).nx (((Ao h_v2) : Ec _ _ _ _ _ _) w W).nx (((BU CR h1 (Ao h_v3)) : Ec _ _ _ _ _ _) w W).nx)) fun a w F W => ?_
  refine ls F W Aa (En F Aa).q fun a w F W => ?_
  refine ls F W Aa (Ad F Aa).q fun a w F W => ?_
  rcases Bool.eq_false_or_eq_true (!x2) with hb | hb
  ·
   have H := AR hb H
   rw [hb] at F
   clear hb
   iterate 4 refine CX F Aa Aa Aa Aa Aa Aa Aa fun a F => ?_
   refine ls F W Aa (Aq F Aa Aa Aa).q fun a w F W => ?_
   refine ls F W Aa (Ad F Aa).q fun a w F W => ?_
   iterate 4 refine CX F Aa Aa Aa Aa Aa Aa Aa fun a F => ?_
   refine ls F W Aa (Aq F Aa Aa Aa).q fun a w F W => ?_
   refine ls F W Aa (Ad F Aa).q fun a w F W => ?_
   iterate 4 refine CX F Aa Aa Aa Aa Aa Aa Aa fun a F => ?_
   refine ls F W Aa (Aq F Aa Aa Aa).q fun a w F W => ?_
   refine ls F W Aa (Ad F Aa).q fun a w F W => ?_
   iterate 2 refine CX F Aa Aa Aa Aa Aa Aa Aa fun a F => ?_
   refine ls F W Aa (Aq F Aa Aa Aa).q fun a w F W => ?_
   refine ls F W Aa (Ad F Aa).q fun a w F W => ?_
   iterate 4 refine CX F Aa Aa Aa Aa Aa Aa Aa fun a F => ?_
   refine ls F W Aa (Aq F Aa Aa Aa).q fun a w F W => ?_
   refine ls F W Aa (Ad F Aa).q fun a w F W => ?_
   iterate 2 refine CX F Aa Aa Aa Aa Aa Aa Aa fun a F => ?_
   refine ls F W Aa (Aq F Aa Aa Aa).q fun a w F W => ?_
   refine ls F W Aa (Ad F Aa).q fun a w F W => ?_
   iterate 2 refine CX F Aa Aa Aa Aa Aa Aa Aa fun a F => ?_
   refine ls F W Aa (Aq F Aa Aa Aa).q fun a w F W => ?_
   refine Ae (Ab ?_)
   exact ⟨_, H, F.re ⟨rfl, Aa, Aa, Aa, Aa, Aa, Aa, trivial⟩, W⟩
  have H := AS (by rw [hb]; decide) H
  rw [hb] at F
  clear hb
  refine AL F W (Af F Aa Aa Aa Aa) Aa (Aj Aa) (Az (v := Value.agg #[.int .i64 p0.1, v1, v2]) 0 F Aa Aa JB Aa).q fun a w F W => ?_
  refine AL F W (Af F Aa Aa Aa Aa) Aa (Aj Aa) (Ad F Aa).q fun a w F W => ?_
  refine JM (Af F Aa Aa Aa Aa) ?_
  obtain ⟨x3, h4, H⟩ := Al H
  refine ls F W Aa (BV (v := Value.bool x3) F H7 Aa (fun w W => Ku any w (v1) (v2) (v4) p0 p2 _ h4 (((Ao h_v1) : Ec _ _ _ _ _ _) w W).nx (((Ao h_v2) : Ec _ _ _ _ _ _) w W).nx (((BU CR h2 (Ao h_v4)) : Ec _ _ _ _ _ _) w W).nx)) fun a w F W => ?_
  refine AL F W (Af F Aa Aa Aa Aa) Aa (Aj Aa) (En F Aa).q fun a w F W => ?_
  refine ls F W Aa (AA F Aa Aa Aa).q fun a w F W => ?_
  refine ls F W Aa (Ad F Aa).q fun a w F W => ?_
  rcases Bool.eq_false_or_eq_true (!x3) with hb | hb
  ·
   have H := AR hb H
   rw [hb] at F
   clear hb
   iterate 4 refine CX F Aa Aa Aa Aa Aa Aa Aa fun a F => ?_
   refine ls F W Aa (Aq F Aa Aa Aa).q fun a w F W => ?_
   refine ls F W Aa (Ad F Aa).q fun a w F W => ?_
   iterate 4 refine CX F Aa Aa Aa Aa Aa Aa Aa fun a F => ?_
   refine ls F W Aa (Aq F Aa Aa Aa).q fun a w F W => ?_
   refine ls F W Aa (Ad F Aa).q fun a w F W => ?_
   iterate 2 refine CX F Aa Aa Aa Aa Aa Aa Aa fun a F => ?_
   refine ls F W Aa (Aq F Aa Aa Aa).q fun a w F W => ?_
   refine ls F W Aa (Ad F Aa).q fun a w F W => ?_
   iterate 4 refine CX F Aa Aa Aa Aa Aa Aa Aa fun a F => ?_
   refine ls F W Aa (Aq F Aa Aa Aa).q fun a w F W => ?_
   refine ls F W Aa (Ad F Aa).q fun a w F W => ?_
   iterate 2 refine CX F Aa Aa Aa Aa Aa Aa Aa fun a F => ?_
   refine ls F W Aa (Aq F Aa Aa Aa).q fun a w F W => ?_
   refine ls F W Aa (Ad F Aa).q fun a w F W => ?_
   iterate 2 refine CX F Aa Aa Aa Aa Aa Aa Aa fun a F => ?_
   refine ls F W Aa (Aq F Aa Aa Aa).q fun a w F W => ?_
   refine Ae (Ab ?_)
   exact ⟨_, H, F.re ⟨rfl, Aa, Aa, Aa, Aa, Aa, Aa, trivial⟩, W⟩
  have H := AS (by rw [hb]; decide) H
  rw [hb] at F
  clear hb
  refine AL F W (Af F Aa Aa Aa Aa) Aa (Aj Aa) (Az (v := Value.agg #[.int .i64 p0.1, v1, v2]) 0 F Aa Aa JB Aa).q fun a w F W => ?_
  refine AL F W (Af F Aa Aa Aa Aa) Aa (Aj Aa) (Ad F Aa).q fun a w F W => ?_
  refine JM (Af F Aa Aa Aa Aa) ?_
  obtain ⟨x4, h5, H⟩ := Al H
  refine ls F W Aa (BV (v := Value.bool x4) F H8 Aa (fun w W => Lg any w (v1) (v2) (v3) p0 p1 _ h5 (((Ao h_v1) : Ec _ _ _ _ _ _) w W).nx (((Ao h_v2) : Ec _ _ _ _ _ _) w W).nx (((BU CR h1 (Ao h_v3)) : Ec _ _ _ _ _ _) w W).nx)) fun a w F W => ?_
  refine AL F W (Af F Aa Aa Aa Aa) Aa (Aj Aa) (En F Aa).q fun a w F W => ?_
  refine ls F W Aa (AA F Aa Aa Aa).q fun a w F W => ?_
  refine ls F W Aa (Ad F Aa).q fun a w F W => ?_
  rcases Bool.eq_false_or_eq_true (!x4) with hb | hb
  ·
   have H := AR hb H
   rw [hb] at F
   clear hb
   iterate 4 refine CX F Aa Aa Aa Aa Aa Aa Aa fun a F => ?_
   refine ls F W Aa (Aq F Aa Aa Aa).q fun a w F W => ?_
   refine ls F W Aa (Ad F Aa).q fun a w F W => ?_
   iterate 2 refine CX F Aa Aa Aa Aa Aa Aa Aa fun a F => ?_
   refine ls F W Aa (Aq F Aa Aa Aa).q fun a w F W => ?_
   refine ls F W Aa (Ad F Aa).q fun a w F W => ?_
   iterate 4 refine CX F Aa Aa Aa Aa Aa Aa Aa fun a F => ?_
   refine ls F W Aa (Aq F Aa Aa Aa).q fun a w F W => ?_
   refine ls F W Aa (Ad F Aa).q fun a w F W => ?_
   iterate 2 refine CX F Aa Aa Aa Aa Aa Aa Aa fun a F => ?_
   refine ls F W Aa (Aq F Aa Aa Aa).q fun a w F W => ?_
   refine ls F W Aa (Ad F Aa).q fun a w F W => ?_
   iterate 2 refine CX F Aa Aa Aa Aa Aa Aa Aa fun a F => ?_
   refine ls F W Aa (Aq F Aa Aa Aa).q fun a w F W => ?_
   refine Ae (Ab ?_)
   exact ⟨_, H, F.re ⟨rfl, Aa, Aa, Aa, Aa, Aa, Aa, trivial⟩, W⟩
  have H := AS (by rw [hb]; decide) H
  rw [hb] at F
  clear hb
  refine AL F W (Af F Aa Aa Aa Aa) Aa (Aj Aa) (Az (v := Value.agg #[.int .i64 p0.1, v1, v2]) 0 F Aa Aa JB Aa).q fun a w F W => ?_
  refine AL F W (Af F Aa Aa Aa Aa) Aa (Aj Aa) (Ad F Aa).q fun a w F W => ?_
  refine JM (Af F Aa Aa Aa Aa) ?_
  obtain ⟨x5, h6, H⟩ := Al H
  refine ls F W Aa (BV (v := Value.bool x5) F H8 Aa (fun w W => Lg any w (v1) (v2) (v4) p0 p2 _ h6 (((Ao h_v1) : Ec _ _ _ _ _ _) w W).nx (((Ao h_v2) : Ec _ _ _ _ _ _) w W).nx (((BU CR h2 (Ao h_v4)) : Ec _ _ _ _ _ _) w W).nx)) fun a w F W => ?_
  refine AL F W (Af F Aa Aa Aa Aa) Aa (Aj Aa) (En F Aa).q fun a w F W => ?_
  refine ls F W Aa (AA F Aa Aa Aa).q fun a w F W => ?_
  refine ls F W Aa (Ad F Aa).q fun a w F W => ?_
  rcases Bool.eq_false_or_eq_true (!x5) with hb | hb
  ·
   have H := AR hb H
   rw [hb] at F
   clear hb
   iterate 2 refine CX F Aa Aa Aa Aa Aa Aa Aa fun a F => ?_
   refine ls F W Aa (Aq F Aa Aa Aa).q fun a w F W => ?_
   refine ls F W Aa (Ad F Aa).q fun a w F W => ?_
   iterate 4 refine CX F Aa Aa Aa Aa Aa Aa Aa fun a F => ?_
   refine ls F W Aa (Aq F Aa Aa Aa).q fun a w F W => ?_
   refine ls F W Aa (Ad F Aa).q fun a w F W => ?_
   iterate 2 refine CX F Aa Aa Aa Aa Aa Aa Aa fun a F => ?_
   refine ls F W Aa (Aq F Aa Aa Aa).q fun a w F W => ?_
   refine ls F W Aa (Ad F Aa).q fun a w F W => ?_
   iterate 2 refine CX F Aa Aa Aa Aa Aa Aa Aa fun a F => ?_
   refine ls F W Aa (Aq F Aa Aa Aa).q fun a w F W => ?_
   refine Ae (Ab ?_)
   exact ⟨_, H, F.re ⟨rfl, Aa, Aa, Aa, Aa, Aa, Aa, trivial⟩, W⟩
  have H := AS (by rw [hb]; decide) H
  rw [hb] at F
  clear hb
  refine AL F W (Af F Aa Aa Aa Aa) Aa (Aj Aa) (Ad F Aa).q fun a w F W => ?_
  refine AL F W (Af F Aa Aa Aa Aa) Aa (Aj Aa) (BM F Aa Aa).q fun a w F W => ?_
  refine ls F W Aa (AA F Aa Aa Aa).q fun a w F W => ?_
  refine ls F W Aa (Ad F Aa).q fun a w F W => ?_
  rcases Bool.eq_false_or_eq_true (decide (p4 < 0)) with hb | hb
  ·
   have H := AR (Br hb) H
   rw [hb] at F
   clear hb
   iterate 4 refine CX F Aa Aa Aa Aa Aa Aa Aa fun a F => ?_
   refine ls F W Aa (Aq F Aa Aa Aa).q fun a w F W => ?_
   refine ls F W Aa (Ad F Aa).q fun a w F W => ?_
   iterate 2 refine CX F Aa Aa Aa Aa Aa Aa Aa fun a F => ?_
   refine ls F W Aa (Aq F Aa Aa Aa).q fun a w F W => ?_
   refine ls F W Aa (Ad F Aa).q fun a w F W => ?_
   iterate 2 refine CX F Aa Aa Aa Aa Aa Aa Aa fun a F => ?_
   refine ls F W Aa (Aq F Aa Aa Aa).q fun a w F W => ?_
   refine Ae (Ab ?_)
   exact ⟨_, H, F.re ⟨rfl, Aa, Aa, Aa, Aa, Aa, Aa, trivial⟩, W⟩
  have H := AS (Bq hb) H
  rw [hb] at F
  clear hb
  refine AL F W (Af F Aa Aa Aa Aa) Aa (Aj Aa) (Ad F Aa).q fun a w F W => ?_
  refine AL F W (Af F Aa Aa Aa Aa) Aa (Aj Aa) (Ak Ek Aa Aa Aa T3 F Aa 0 Aa).q fun a w F W => ?_
  refine AL F W (Af F Aa Aa Aa Aa) Aa (Aj Aa) (Az (v := Value.int .i64 p0.1) 0 F Aa Aa T3 Aa).q fun a w F W => ?_
  refine AL F W (Af F Aa Aa Aa Aa) Aa (Aj Aa) (DL F Aa Aa).q fun a w F W => ?_
  refine ls F W Aa (AA F Aa Aa Aa).q fun a w F W => ?_
  refine ls F W Aa (Ad F Aa).q fun a w F W => ?_
  rcases Bool.eq_false_or_eq_true (decide (p0.1 ≤ p4)) with hb | hb
  ·
   have H := AR (Br hb) H
   rw [hb] at F
   clear hb
   iterate 2 refine CX F Aa Aa Aa Aa Aa Aa Aa fun a F => ?_
   refine ls F W Aa (Aq F Aa Aa Aa).q fun a w F W => ?_
   refine ls F W Aa (Ad F Aa).q fun a w F W => ?_
   iterate 2 refine CX F Aa Aa Aa Aa Aa Aa Aa fun a F => ?_
   refine ls F W Aa (Aq F Aa Aa Aa).q fun a w F W => ?_
   refine Ae (Ab ?_)
   exact ⟨_, H, F.re ⟨rfl, Aa, Aa, Aa, Aa, Aa, Aa, trivial⟩, W⟩
  have H := AS (Bq hb) H
  rw [hb] at F
  clear hb
  refine AL F W (Af F Aa Aa Aa Aa) Aa (Aj Aa) (Ad F Aa).q fun a w F W => ?_
  refine AL F W (Af F Aa Aa Aa Aa) Aa (Aj Aa) (BM F Aa Aa).q fun a w F W => ?_
  refine ls F W Aa (AA F Aa Aa Aa).q fun a w F W => ?_
  refine ls F W Aa (Ad F Aa).q fun a w F W => ?_
  rcases Bool.eq_false_or_eq_true (decide (p3 < (-100))) with hb | hb
  ·
   have H := AR (Br hb) H
   rw [hb] at F
   clear hb
   iterate 2 refine CX F Aa Aa Aa Aa Aa Aa Aa fun a F => ?_
   refine ls F W Aa (Aq F Aa Aa Aa).q fun a w F W => ?_
   refine Ae (Ab ?_)
   exact ⟨_, H, F.re ⟨rfl, Aa, Aa, Aa, Aa, Aa, Aa, trivial⟩, W⟩
  have H := AS (Bq hb) H
  rw [hb] at F
  clear hb
  refine AL F W (Af F Aa Aa Aa Aa) Aa (Aj Aa) (Ad F Aa).q fun a w F W => ?_
  refine AL F W (Af F Aa Aa Aa Aa) Aa (Aj Aa) (Gf F Aa Aa).q fun a w F W => ?_
  refine ls F W Aa (AA F Aa Aa Aa).q fun a w F W => ?_
  refine Ae (Ab ?_)
  exact ⟨_, H, F.re ⟨rfl, Aa, Aa, Aa, Aa, Aa, Aa, trivial⟩, W⟩
 rintro a w ⟨x1, hj, F, W⟩
 have hj := AX hj
 subst hj
 have H := K1
 clear G1 K1
 refine AB F Aa (fun hb => ?_) fun hb => ?_
 ·
  have H := AR hb H
  rw [hb] at F
  clear hb
  refine Ah (Ac ?_)
  obtain ⟨x6, h7, H⟩ := Al H
  refine ls F W Aa (BV (v := Value.bool x6) F H9 Aa (fun w W => Kh any w _ h7)) fun a w F W => ?_
  refine ls F W Aa (Ag F Aa).q fun a w F W => ?_
  refine Ae (Ab (AF (AK ?_)))
  have H := AX H
  subst H
  refine BA (.inl Aa) F W Aa (Ay F Aa) ?_
  exact ⟨rfl, W.done⟩
 have H := AS (by rw [hb]; decide) H
 rw [hb] at F
 clear hb
 refine Au (Ab (Ah (Ac ?_)))
 refine ls F W Aa (Az (v := Value.agg #[.int .i64 p0.1, v1, v2]) 0 F Aa Aa JB Aa).q fun a w F W => ?_
 iterate 2 refine ls F W Aa (Ad F Aa).q fun a w F W => ?_
 obtain ⟨x7, h8, H⟩ := Al H
 refine BZ (Ml := []) (Zl := []) (M := [(b1, [.int .i64 p0.1, v1, v2])]) (Z := []) (β := Value) (rv := fun x => .tuple #[x, .int .i64 x7.2]) (MM := fun x => []) (ZZ := fun x => [row x 62 Ba x7.1]) F W RW Aa Aa (fun hL => Jj _ w (v1) (v2) (v3) (v4) p0 p1 p2 _ h8 ((Ao h_v1) w W).nx ((Ao h_v2) w W).nx ((BU CR h1 (Ao h_v3)) w W).nx ((BU CR h2 (Ao h_v4)) w W).nx) fun x a w F W => ?_
 obtain ⟨v7, rfl⟩ : ∃ y, y = x := ⟨x, rfl⟩
 have W : Stw ⟨Y, [], w0⟩ [(b1, [.int .i64 p0.1, v1, v2])] [row v7 62 Ba x7.1] w := W
 refine ls F W Aa (Ad F Aa).q fun a w F W => ?_
 refine ls F W Aa (BI (v := v7) F Aa Aa).q fun a w F W => ?_
 refine ls F W Aa (BI (v := Value.int .i64 x7.2) F Aa Aa).q fun a w F W => ?_
 iterate 2 refine ls F W Aa (Ag F Aa).q fun a w F W => ?_
 refine Ae (Ab (Ah (Ac ?_)))
 iterate 3 refine ls F W Aa (Ad F Aa).q fun a w F W => ?_
 obtain ⟨x8, h9, H⟩ := Al H
 refine BZ (Ml := []) (Zl := []) (M := [(b1, [.int .i64 p0.1, v1, v2])]) (Z := [row v7 62 Ba x7.1]) (β := Value) (rv := fun x => x) (MM := fun x => []) (ZZ := fun x => [row x 28 (Rp.slice (Rp.int .i64)) x8]) F W RE Aa Aa (fun hL => Iy _ w (v3) (v7) (Value.slice none 0 0) p1 x7.1 p3 ([] : List Int) _ h9 (Sl.hide CR h1 (W.old s_v3)) ((An 0 Aa) w W).nx Sl.nil) fun x a w F W => ?_
 obtain ⟨v8, rfl⟩ : ∃ y, y = x := ⟨x, rfl⟩
 have W : Stw ⟨Y, [], w0⟩ [(b1, [.int .i64 p0.1, v1, v2])] [row v8 28 (Rp.slice (Rp.int .i64)) x8, row v7 62 Ba x7.1] w := W
 iterate 3 refine ls F W Aa (Ad F Aa).q fun a w F W => ?_
 refine Fo (z := Value.int .i64 0) (cs := [.int .i64 0, .int .i64 1, .int .i64 2, .int .i64 3, .int .i64 4, .int .i64 5, .int .i64 6, .int .i64 7]) (Rp.int .i64) ([0, 1, 2, 3, 4, 5, 6, 7] : List Int) F W Aa GP Z3 Aa Aa Aa Aa Aa Aa (Fl.int.repL _ _ ([0, 1, 2, 3, 4, 5, 6, 7] : List Int)) fun v9 a w F W => ?_
 obtain ⟨x9, h10, H⟩ := Al H
 refine BZ (Ml := []) (Zl := []) (M := [(b1, [.int .i64 p0.1, v1, v2])]) (Z := [row v9 3 (Rp.int .i64) ([0, 1, 2, 3, 4, 5, 6, 7] : List Int), row v8 28 (Rp.slice (Rp.int .i64)) x8, row v7 62 Ba x7.1]) (β := Value) (rv := fun x => x) (MM := fun x => []) (ZZ := fun x => [row x 28 (Rp.slice (Rp.int .i64)) x9]) F W RE Aa Aa (fun hL => Iy _ w (v3) (v7) (v9) p1 x7.1 p3 ([0, 1, 2, 3, 4, 5, 6, 7] : List Int) _ h10 (Sl.hide CR h1 (W.old s_v3)) ((An 2 Aa) w W).nx ((An 0 Aa) w W).nx) fun x a w F W => ?_
 obtain ⟨v10, rfl⟩ : ∃ y, y = x := ⟨x, rfl⟩
 have W : Stw ⟨Y, [], w0⟩ [(b1, [.int .i64 p0.1, v1, v2])] [row v10 28 (Rp.slice (Rp.int .i64)) x9, row v9 3 (Rp.int .i64) ([0, 1, 2, 3, 4, 5, 6, 7] : List Int), row v8 28 (Rp.slice (Rp.int .i64)) x8, row v7 62 Ba x7.1] w := W
 iterate 2 refine ls F W Aa (Ag F Aa).q fun a w F W => ?_
 refine Ae (Ab (Ah ?_))
 obtain ⟨o2, G2, K2⟩ := Al H
 refine AM (fun a w => ∃ x10 : Bool, some (x10) = some o2 ∧ Fr 177 [] [(3, .int .i64 p3), (4, .int .i64 p4), (5, .pointer (some ⟨b1, 0, none⟩)), (10, .bool false), (11, v7), (13, v8), (14, v10), (96, .bool x10)] a ∧ Stw ⟨Y, [], w0⟩ [(b1, [.int .i64 p0.1, v1, v2])] [row v7 62 Ba x7.1, row v8 28 (Rp.slice (Rp.int .i64)) x8, row v10 28 (Rp.slice (Rp.int .i64)) x9] w) ?_ ?_
 ·
  have H := G2
  clear G2 K2
  refine Ac ?_
  iterate 4 refine ls F W Aa (Ad F Aa).q fun a w F W => ?_
  refine ls F W Aa (BL F Aa Aa Aa).q fun a w F W => ?_
  obtain ⟨x11, h11, H⟩ := Al H
  refine BZ (Ml := []) (Zl := []) (M := [(b1, [.int .i64 p0.1, v1, v2])]) (Z := [row v10 28 (Rp.slice (Rp.int .i64)) x9, row v9 3 (Rp.int .i64) ([0, 1, 2, 3, 4, 5, 6, 7] : List Int), row v8 28 (Rp.slice (Rp.int .i64)) x8, row v7 62 Ba x7.1]) (β := Value) (rv := fun x => x) (MM := fun x => []) (ZZ := fun x => [row x 28 (Rp.slice (Rp.int .i64)) x11]) F W RE Aa Aa (fun hL => Iy _ w (v3) (v7) (Value.slice none 0 0) p1 x7.1 (AC (p3 + 1)) ([] : List Int) _ h11 (Sl.hide CR h1 (W.old s_v3)) ((An 3 Aa) w W).nx Sl.nil) fun x a w F W => ?_
  obtain ⟨v11, rfl⟩ : ∃ y, y = x := ⟨x, rfl⟩
  have W : Stw ⟨Y, [], w0⟩ [(b1, [.int .i64 p0.1, v1, v2])] [row v11 28 (Rp.slice (Rp.int .i64)) x11, row v10 28 (Rp.slice (Rp.int .i64)) x9, row v9 3 (Rp.int .i64) ([0, 1, 2, 3, 4, 5, 6, 7] : List Int), row v8 28 (Rp.slice (Rp.int .i64)) x8, row v7 62 Ba x7.1] w := W
  obtain ⟨x12, h12, H⟩ := Al H
  refine ls F W Aa (BV (v := Value.bool x12) F S1 Aa (fun w W => NG any w (v10) (v11) x9 x11 _ h12 (((An 1 Aa) : Ec _ _ _ _ _ _) w W).nx (((An 0 Aa) : Ec _ _ _ _ _ _) w W).nx)) fun a w F W => ?_
  refine ls F W Aa (En F Aa).q fun a w F W => ?_
  refine ls F W Aa (Ad F Aa).q fun a w F W => ?_
  rcases Bool.eq_false_or_eq_true (!x12) with hb | hb
  ·
   have H := AR hb H
   rw [hb] at F
   clear hb
   iterate 5 refine CX F Aa Aa Aa Aa Aa Aa Aa fun a F => ?_
   refine ls F W Aa (Aq F Aa Aa Aa).q fun a w F W => ?_
   refine ls F W Aa (Ad F Aa).q fun a w F W => ?_
   iterate 5 refine CX F Aa Aa Aa Aa Aa Aa Aa fun a F => ?_
   refine ls F W Aa (Aq F Aa Aa Aa).q fun a w F W => ?_
   refine Ae (Ab ?_)
   have W := W.frontZ (i := 1) Aa Aa
   have W := W.frontZ (i := 3) Aa Aa
   have W := W.frontZ (i := 4) Aa Aa
   have W := W.sub (M' := [(b1, [.int .i64 p0.1, v1, v2])]) (Z' := [row v7 62 Ba x7.1, row v8 28 (Rp.slice (Rp.int .i64)) x8, row v10 28 (Rp.slice (Rp.int .i64)) x9]) (List.Sublist.refl _) (List.Sublist.cons_cons _ (List.Sublist.cons_cons _ (List.Sublist.cons_cons _ (List.nil_sublist _))))
   exact ⟨_, H, F.re ⟨rfl, Aa, Aa, Aa, Aa, Aa, Aa, Aa, trivial⟩, W⟩
  have H := AS (by rw [hb]; decide) H
  rw [hb] at F
  clear hb
  refine AL F W (Af F Aa Aa Aa Aa) Aa (Aj Aa) (Ad F Aa).q fun a w F W => ?_
  refine AL F W (Af F Aa Aa Aa Aa) Aa (Aj Aa) (B0 (r := (Rp.slice (Rp.int .i64))) (l := x8) H2 Aa F Aa (An 3 Aa)).q fun a w F W => ?_
  refine AL F W (Af F Aa Aa Aa Aa) Aa (Aj Aa) (Ak Ek Aa Aa Aa T3 F Aa 0 Aa).q fun a w F W => ?_
  refine AL F W (Af F Aa Aa Aa Aa) Aa (Aj Aa) (Az (v := Value.int .i64 p0.1) 0 F Aa Aa T3 Aa).q fun a w F W => ?_
  refine AL F W (Af F Aa Aa Aa Aa) Aa (Aj Aa) (Gj F Aa Aa).q fun a w F W => ?_
  refine ls F W Aa (AA F Aa Aa Aa).q fun a w F W => ?_
  refine ls F W Aa (Ad F Aa).q fun a w F W => ?_
  rcases Bool.eq_false_or_eq_true (decide ((x8.length : Int) ≠ p0.1)) with hb | hb
  ·
   have H := AR (Br hb) H
   rw [hb] at F
   clear hb
   iterate 5 refine CX F Aa Aa Aa Aa Aa Aa Aa fun a F => ?_
   refine ls F W Aa (Aq F Aa Aa Aa).q fun a w F W => ?_
   refine Ae (Ab ?_)
   have W := W.frontZ (i := 1) Aa Aa
   have W := W.frontZ (i := 3) Aa Aa
   have W := W.frontZ (i := 4) Aa Aa
   have W := W.sub (M' := [(b1, [.int .i64 p0.1, v1, v2])]) (Z' := [row v7 62 Ba x7.1, row v8 28 (Rp.slice (Rp.int .i64)) x8, row v10 28 (Rp.slice (Rp.int .i64)) x9]) (List.Sublist.refl _) (List.Sublist.cons_cons _ (List.Sublist.cons_cons _ (List.Sublist.cons_cons _ (List.nil_sublist _))))
   exact ⟨_, H, F.re ⟨rfl, Aa, Aa, Aa, Aa, Aa, Aa, Aa, trivial⟩, W⟩
  have H := AS (Bq hb) H
  rw [hb] at F
  clear hb
  refine AL F W (Af F Aa Aa Aa Aa) Aa (Aj Aa) (Ad F Aa).q fun a w F W => ?_
  refine AL F W (Af F Aa Aa Aa Aa) Aa (Aj Aa) (B0 (r := (Rp.slice (Rp.int .i64))) (l := x9) H2 Aa F Aa (An 1 Aa)).q fun a w F W => ?_
  refine AL F W (Af F Aa Aa Aa Aa) Aa (Aj Aa) (Ak Ek Aa Aa Aa T3 F Aa 0 Aa).q fun a w F W => ?_
  refine AL F W (Af F Aa Aa Aa Aa) Aa (Aj Aa) (Az (v := Value.int .i64 p0.1) 0 F Aa Aa T3 Aa).q fun a w F W => ?_
  refine AL F W (Af F Aa Aa Aa Aa) Aa (Aj Aa) (Gj F Aa Aa).q fun a w F W => ?_
  refine ls F W Aa (AA F Aa Aa Aa).q fun a w F W => ?_
  refine Ae (Ab ?_)
  have W := W.frontZ (i := 1) Aa Aa
  have W := W.frontZ (i := 3) Aa Aa
  have W := W.frontZ (i := 4) Aa Aa
  have W := W.sub (M' := [(b1, [.int .i64 p0.1, v1, v2])]) (Z' := [row v7 62 Ba x7.1, row v8 28 (Rp.slice (Rp.int .i64)) x8, row v10 28 (Rp.slice (Rp.int .i64)) x9]) (List.Sublist.refl _) (List.Sublist.cons_cons _ (List.Sublist.cons_cons _ (List.Sublist.cons_cons _ (List.nil_sublist _))))
  exact ⟨_, H, F.re ⟨rfl, Aa, Aa, Aa, Aa, Aa, Aa, Aa, trivial⟩, W⟩
 rintro a w ⟨x10, hj, F, W⟩
 have hj := AX hj
 subst hj
 have H := K2
 clear G2 K2
 refine AB F Aa (fun hb => ?_) fun hb => ?_
 ·
  have H := AR hb H
  rw [hb] at F
  clear hb
  refine Ah (Ac ?_)
  refine ls F W Aa (Ag F Aa).q fun a w F W => ?_
  refine Ae (Ab (AF (AK ?_)))
  have H := AX H
  subst H
  refine BA (.inl Aa) F W Aa (Ay F Aa) ?_
  exact ⟨rfl, W.done⟩
 have H := AS (by rw [hb]; decide) H
 rw [hb] at F
 clear hb
 refine Au (Ab (Ah (Ac ?_)))
 iterate 3 refine ls F W Aa (Ad F Aa).q fun a w F W => ?_
 obtain ⟨x13, h13, H⟩ := Al H
 refine BZ (Ml := []) (Zl := []) (M := [(b1, [.int .i64 p0.1, v1, v2])]) (Z := [row v7 62 Ba x7.1, row v8 28 (Rp.slice (Rp.int .i64)) x8, row v10 28 (Rp.slice (Rp.int .i64)) x9]) (β := Value) (rv := fun x => x) (MM := fun x => []) (ZZ := fun x => [row x 58 Ji x13]) F W Sy Aa Aa (fun hL => Mg _ w (v7) x7.1 p3 p4 _ h13 ((An 0 Aa) w W).nx) fun x a w F W => ?_
 obtain ⟨v12, rfl⟩ : ∃ y, y = x := ⟨x, rfl⟩
 have W : Stw ⟨Y, [], w0⟩ [(b1, [.int .i64 p0.1, v1, v2])] [row v12 58 Ji x13, row v7 62 Ba x7.1, row v8 28 (Rp.slice (Rp.int .i64)) x8, row v10 28 (Rp.slice (Rp.int .i64)) x9] w := W
 refine ls F W Aa (Ag F Aa).q fun a w F W => ?_
 refine Ae (Ab (Ah (Ac ?_)))
 refine ls F W Aa (Ag F Aa).q fun a w F W => ?_
 refine Ae (Ab ?_)
 obtain ⟨o3, G3, K3, L3⟩ := Jq H
 refine AM (fun a w => ∃ x14 : Int, some (Sum.inl x14) = some o3 ∧ Fr 177 [] [(10, .bool false), (15, v12), (16, .int .i64 x14)] a ∧ Stw ⟨Y, [], w0⟩ [(b1, [.int .i64 p0.1, v1, v2])] [row v12 58 Ji x13] w) ?_ ?_
 ·
  have H := G3
  clear G3 K3
  refine Ah (Ac ?_)
  refine ls F W Aa (Ag F Aa).q fun a w F W => ?_
  refine Ae (Ab (Av ?_))
  have W := W.frontZ (i := 3) Aa Aa
  have W := W.frontZ (i := 3) Aa Aa
  have W := W.sub (M' := [(b1, [.int .i64 p0.1, v1, v2])]) (Z' := [row v8 28 (Rp.slice (Rp.int .i64)) x8, row v10 28 (Rp.slice (Rp.int .i64)) x9, row v12 58 Ji x13]) (List.Sublist.refl _) (List.Sublist.cons_cons _ (List.Sublist.cons_cons _ (List.Sublist.cons_cons _ (List.nil_sublist _))))
  refine Bk H (fun s a w => Fr 177 [] [(4, .int .i64 p4), (5, .pointer (some ⟨b1, 0, none⟩)), (10, .bool false), (13, v8), (14, v10), (15, v12), (16, .int .i64 s.1), (17, .int .i64 s.2)] a ∧ Stw ⟨Y, [], w0⟩ [(b1, [.int .i64 p0.1, v1, v2])] [row v8 28 (Rp.slice (Rp.int .i64)) x8, row v10 28 (Rp.slice (Rp.int .i64)) x9, row v12 58 Ji x13] w) ⟨F.re ⟨rfl, Aa, Aa, Aa, Aa, Aa, Aa, Aa, trivial⟩, W⟩ fun s o a w H L4 hR => ?_
  obtain ⟨x15, x16⟩ := s
  obtain ⟨F, W⟩ := hR
  have F : Fr 177 [] [(4, .int .i64 p4), (5, .pointer (some ⟨b1, 0, none⟩)), (10, .bool false), (13, v8), (14, v10), (15, v12), (16, .int .i64 x15), (17, .int .i64 x16)] a := F
  have W : Stw ⟨Y, [], w0⟩ [(b1, [.int .i64 p0.1, v1, v2])] [row v8 28 (Rp.slice (Rp.int .i64)) x8, row v10 28 (Rp.slice (Rp.int .i64)) x9, row v12 58 Ji x13] w := W
  rw [C1] at H
  refine Ah (Ah (Ac ?_))
  refine ls F W Aa (Ad F Aa).q fun a w F W => ?_
  refine ls F W Aa (Ak Ek Aa Aa Aa Iv F Aa 2 Aa).q fun a w F W => ?_
  refine ls F W Aa (Az (v := v2) 0 F Aa Aa Iv Aa).q fun a w F W => ?_
  refine ls F W Aa (B0 (r := GH) (l := p0.2.2) Jy Aa F Aa (Ao h_v2)).q fun a w F W => ?_
  refine ls F W Aa (BM F Aa Aa).q fun a w F W => ?_
  refine Ae (Ab ?_)
  refine AB F Aa (fun hb => ?_) fun hb => ?_
  ·
   have H := AR (Br hb) H
   rw [hb] at F
   clear hb
   refine Au (Ab ?_)
   obtain ⟨o5, G5, K5, L5⟩ := Jq H
   refine AM (fun a w => ∃ x17 : Int, some (Sum.inl x17) = some o5 ∧ Fr 177 [] [(4, .int .i64 p4), (5, .pointer (some ⟨b1, 0, none⟩)), (10, .bool false), (13, v8), (14, v10), (15, v12), (16, .int .i64 x17), (17, .int .i64 x16)] a ∧ Stw ⟨Y, [], w0⟩ [(b1, [.int .i64 p0.1, v1, v2])] [row v8 28 (Rp.slice (Rp.int .i64)) x8, row v10 28 (Rp.slice (Rp.int .i64)) x9, row v12 58 Ji x13] w) ?_ ?_
   ·
    have H := G5
    clear G5 K5
    refine Av (Ah ?_)
    obtain ⟨v13, h14, W⟩ := W.exR CR
    have W := W.frontZ (i := 1) Aa Aa
    obtain ⟨v14, h15, W⟩ := W.exR CR
    have W := W.frontZ (i := 2) Aa Aa
    obtain ⟨v15, h16, W⟩ := W.exR Nx
    refine BQ W MO (by kernel_rfl) ?_
    iterate 2 refine qs F Aa (Ad F Aa).q fun a F => ?_
    obtain ⟨x18, h17, H⟩ := Al H
    obtain ⟨v16, h18, h19⟩ := EC h14 h17
    have h20 : EJ v16 = [(v16.1)] := congrArg (fun q : List Int => ([(v16.1)] : List Value)) h19
    refine qs F Aa (Ax (r := (Rp.vsl (Rp.int .i64))) J0 F Aa Aa (An 2 Aa) h18).q fun a F => ?_
    refine qs F Aa (Ap (y := (v16.1)) (j := 0) (i := p4) (enc := EJ) F Aa Aa (An 2 Aa) h18 Ij KG (by rw [h20]; rfl)).q fun a F => ?_
    refine qs F Aa (Ad F Aa).q fun a F => ?_
    obtain ⟨x19, h21, H⟩ := Al H
    refine qs F Aa (Ax (r := (Rp.int .i64)) GP F Aa Aa (CV (An 2 Aa) h18 Cg.here (congrArg (fun q : List Int => q) h19)) h21).q fun a F => ?_
    refine qs F Aa (Ap (y := Value.int .i64 x19) (j := 0) (i := x16) F Aa Aa (CV (An 2 Aa) h18 Cg.here (congrArg (fun q : List Int => q) h19)) h21 Fl.int.to T3 Aa).q fun a F => ?_
    iterate 2 refine qs F Aa (Ad F Aa).q fun a F => ?_
    obtain ⟨x20, h22, H⟩ := Al H
    obtain ⟨v17, h23, h24⟩ := EC h15 h22
    have h25 : EJ v17 = [(v17.1)] := congrArg (fun q : List Int => ([(v17.1)] : List Value)) h24
    refine qs F Aa (Ax (r := (Rp.vsl (Rp.int .i64))) J0 F Aa Aa (An 1 Aa) h23).q fun a F => ?_
    refine qs F Aa (Ap (y := (v17.1)) (j := 0) (i := p4) (enc := EJ) F Aa Aa (An 1 Aa) h23 Ij KG (by rw [h25]; rfl)).q fun a F => ?_
    refine qs F Aa (Ad F Aa).q fun a F => ?_
    obtain ⟨x21, h26, H⟩ := Al H
    refine qs F Aa (Ax (r := (Rp.int .i64)) GP F Aa Aa (CV (An 1 Aa) h23 Cg.here (congrArg (fun q : List Int => q) h24)) h26).q fun a F => ?_
    refine qs F Aa (Ap (y := Value.int .i64 x21) (j := 0) (i := x16) F Aa Aa (CV (An 1 Aa) h23 Cg.here (congrArg (fun q : List Int => q) h24)) h26 Fl.int.to T3 Aa).q fun a F => ?_
    refine qs F Aa (Gj F Aa Aa).q fun a F => ?_
    refine AZ fun w W => ?_
    have W := W.note (W.rowAt (k := 2) Aa h18 Cg.here (congrArg (fun q : List Int => q) h19))
    have W := W.note (W.rowAt (k := 2) Aa h23 Cg.here (congrArg (fun q : List Int => q) h24))
    refine Ab ?_
    refine AB F Aa (fun hb => ?_) fun hb => ?_
    ·
     have H := AR (Br hb) H
     rw [hb] at F
     clear hb
     refine Ah ?_
     obtain ⟨o6, G6, K6⟩ := Al H
     refine AM (fun a w => ∃ x22 : Bool, some (x22) = some o6 ∧ Fr 177 [] [(4, .int .i64 p4), (5, .pointer (some ⟨b1, 0, none⟩)), (10, .bool false), (13, v8), (14, v10), (15, v12), (16, .int .i64 x15), (17, .int .i64 x16), (167, .bool x22)] a ∧ Stw ⟨Y, [], w0⟩ [(b1, [.int .i64 p0.1, v1, v2])] [row v8 28 (Rp.slice (Rp.int .i64)) x8, row v10 28 (Rp.slice (Rp.int .i64)) x9, row v12 58 Ji x13] w) ?_ ?_
     ·
      have H := G6
      clear G6 K6
      refine BQ W MO (by kernel_rfl) ?_
      iterate 2 refine qs F Aa (Ad F Aa).q fun a F => ?_
      refine qs F Aa (B0 (r := Ji) (l := x13) QE Aa F Aa (BU Nx h16 (An 2 Aa))).q fun a F => ?_
      refine qs F Aa (DL F Aa Aa).q fun a F => ?_
      refine qs F Aa (Ad F Aa).q fun a F => ?_
      rcases Bool.eq_false_or_eq_true (decide ((x13.length : Int) ≤ x15)) with hb | hb
      ·
       have H := AR (Br hb) H
       rw [hb] at F
       clear hb
       iterate 8 refine Dl F (Cy F Aa Aa Aa Aa Aa) Aa Aa fun a F => ?_
       refine qs F Aa (Aq F Aa Aa Aa).q fun a F => ?_
       refine qs F Aa (Ad F Aa).q fun a F => ?_
       iterate 10 refine Dl F (Cy F Aa Aa Aa Aa Aa) Aa Aa fun a F => ?_
       refine qs F Aa (Aq F Aa Aa Aa).q fun a F => ?_
       refine qs F Aa (Ad F Aa).q fun a F => ?_
       iterate 17 refine Dl F (Cy F Aa Aa Aa Aa Aa) Aa Aa fun a F => ?_
       refine qs F Aa (Aq F Aa Aa Aa).q fun a F => ?_
       refine AZ fun w W => ?_
       refine Ab ?_
       have W := W.frontZ (i := 4) Aa Aa
       have W := W.hideR CR h14
       have W := W.frontZ (i := 4) Aa Aa
       have W := W.hideR CR h15
       have W := W.frontZ (i := 4) Aa Aa
       have W := W.hideR Nx h16
       have W := W.frontZ (i := 1) Aa Aa
       have W := W.frontZ (i := 2) Aa Aa
       have W := W.sub (M' := [(b1, [.int .i64 p0.1, v1, v2])]) (Z' := [row v8 28 (Rp.slice (Rp.int .i64)) x8, row v10 28 (Rp.slice (Rp.int .i64)) x9, row v12 58 Ji x13]) (List.Sublist.refl _) (List.Sublist.cons_cons _ (List.Sublist.cons_cons _ (List.Sublist.cons_cons _ (List.nil_sublist _))))
       exact ⟨_, H, F.re ⟨rfl, Aa, Aa, Aa, Aa, Aa, Aa, Aa, Aa, trivial⟩, W⟩
      have H := AS (Bq hb) H
      rw [hb] at F
      clear hb
      iterate 2 refine Bc F (Af F Aa Aa Aa Aa) Aa (Aj Aa) (Ad F Aa).q fun a F => ?_
      obtain ⟨x23, h27, H⟩ := Al H
      obtain ⟨v18, h28, h29⟩ := EC h16 h27
      have h30 : Nv v18 = [.int .i64 x23.1, .int .i64 x23.2.1.1, .int .i64 x23.2.1.2.1.1, .int .i64 x23.2.1.2.1.2.1.1, .int .i64 x23.2.1.2.1.2.1.2.1, .int .i64 x23.2.1.2.1.2.1.2.2.1, .int .i64 x23.2.1.2.1.2.1.2.2.2, .int .i64 x23.2.1.2.1.2.2.1, .int .i64 x23.2.1.2.1.2.2.2.1, .int .i64 x23.2.1.2.1.2.2.2.2.1, .int .i64 x23.2.1.2.1.2.2.2.2.2, (v18.2.1.2.2.1), .bool x23.2.2] := congrArg (fun q : Int × (Int × (Int × (Int × Int × Int × Int) × (Int × Int × Int × Int)) × (List (Int × Int × Int))) × Bool => ([.int .i64 q.1, .int .i64 q.2.1.1, .int .i64 q.2.1.2.1.1, .int .i64 q.2.1.2.1.2.1.1, .int .i64 q.2.1.2.1.2.1.2.1, .int .i64 q.2.1.2.1.2.1.2.2.1, .int .i64 q.2.1.2.1.2.1.2.2.2, .int .i64 q.2.1.2.1.2.2.1, .int .i64 q.2.1.2.1.2.2.2.1, .int .i64 q.2.1.2.1.2.2.2.2.1, .int .i64 q.2.1.2.1.2.2.2.2.2, (v18.2.1.2.2.1), .bool q.2.2] : List Value)) h29
      refine Bc F (Af F Aa Aa Aa Aa) Aa (Aj Aa) (Ax (r := OY) Q5 F Aa Aa (An 2 Aa) h28).q fun a F => ?_
      refine Bc F (Af F Aa Aa Aa Aa) Aa (Aj Aa) (Ak P5 Aa Aa Aa Q4 F Aa (FT v12 + (x15).toNat * 13 + 1) Aa).q fun a F => ?_
      refine Bc F (Af F Aa Aa Aa Aa) Aa (Aj Aa) (Ak PV Aa Aa Aa Rk F Aa (FT v12 + (x15).toNat * 13 + 1 + 10) Aa).q fun a F => ?_
      refine Bc F (Af F Aa Aa Aa Aa) Aa (Aj Aa) (Ap (y := (v18.2.1.2.2.1)) (j := 11) (i := x15) (enc := Nv) F Aa Aa (An 2 Aa) h28 Qk Rk (by rw [h30]; rfl)).q fun a F => ?_
      refine Bc F (Af F Aa Aa Aa Aa) Aa (Aj Aa) (B0 (r := OU) (l := x23.2.1.2.2) QW Aa F Aa (CV (An 2 Aa) h28 (Cg.snd (Cg.fst (Cg.snd (Cg.snd Cg.here)))) (congrArg (fun q : Int × (Int × (Int × (Int × Int × Int × Int) × (Int × Int × Int × Int)) × (List (Int × Int × Int))) × Bool => q.2.1.2.2) h29))).q fun a F => ?_
      refine Bc F (Af F Aa Aa Aa Aa) Aa (Aj Aa) (Gj F Aa Aa).q fun a F => ?_
      refine qs F Aa (AA F Aa Aa Aa).q fun a F => ?_
      refine qs F Aa (Ad F Aa).q fun a F => ?_
      rcases Bool.eq_false_or_eq_true (decide ((x23.2.1.2.2.length : Int) ≠ 1)) with hb | hb
      ·
       have H := AR (Br hb) H
       rw [hb] at F
       clear hb
       iterate 10 refine Dl F (Cy F Aa Aa Aa Aa Aa) Aa Aa fun a F => ?_
       refine qs F Aa (Aq F Aa Aa Aa).q fun a F => ?_
       refine qs F Aa (Ad F Aa).q fun a F => ?_
       iterate 17 refine Dl F (Cy F Aa Aa Aa Aa Aa) Aa Aa fun a F => ?_
       refine qs F Aa (Aq F Aa Aa Aa).q fun a F => ?_
       refine AZ fun w W => ?_
       have W := W.note (W.rowAt (k := 2) Aa h28 (Cg.snd (Cg.fst (Cg.snd (Cg.snd Cg.here)))) (congrArg (fun q : Int × (Int × (Int × (Int × Int × Int × Int) × (Int × Int × Int × Int)) × (List (Int × Int × Int))) × Bool => q.2.1.2.2) h29))
       refine Ab ?_
       have W := W.frontZ (i := 5) Aa Aa
       have W := W.hideR CR h14
       have W := W.frontZ (i := 5) Aa Aa
       have W := W.hideR CR h15
       have W := W.frontZ (i := 5) Aa Aa
       have W := W.hideR Nx h16
       have W := W.frontZ (i := 1) Aa Aa
       have W := W.frontZ (i := 2) Aa Aa
       have W := W.sub (M' := [(b1, [.int .i64 p0.1, v1, v2])]) (Z' := [row v8 28 (Rp.slice (Rp.int .i64)) x8, row v10 28 (Rp.slice (Rp.int .i64)) x9, row v12 58 Ji x13]) (List.Sublist.refl _) (List.Sublist.cons_cons _ (List.Sublist.cons_cons _ (List.Sublist.cons_cons _ (List.nil_sublist _))))
       exact ⟨_, H, F.re ⟨rfl, Aa, Aa, Aa, Aa, Aa, Aa, Aa, Aa, trivial⟩, W⟩
      have H := AS (Bq hb) H
      rw [hb] at F
      clear hb
      iterate 2 refine Bc F (Af F Aa Aa Aa Aa) Aa (Aj Aa) (Ad F Aa).q fun a F => ?_
      obtain ⟨x24, h31, H⟩ := Al H
      obtain ⟨v19, h32, h33⟩ := EC h16 h31
      have h34 : Nv v19 = [.int .i64 x24.1, .int .i64 x24.2.1.1, .int .i64 x24.2.1.2.1.1, .int .i64 x24.2.1.2.1.2.1.1, .int .i64 x24.2.1.2.1.2.1.2.1, .int .i64 x24.2.1.2.1.2.1.2.2.1, .int .i64 x24.2.1.2.1.2.1.2.2.2, .int .i64 x24.2.1.2.1.2.2.1, .int .i64 x24.2.1.2.1.2.2.2.1, .int .i64 x24.2.1.2.1.2.2.2.2.1, .int .i64 x24.2.1.2.1.2.2.2.2.2, (v19.2.1.2.2.1), .bool x24.2.2] := congrArg (fun q : Int × (Int × (Int × (Int × Int × Int × Int) × (Int × Int × Int × Int)) × (List (Int × Int × Int))) × Bool => ([.int .i64 q.1, .int .i64 q.2.1.1, .int .i64 q.2.1.2.1.1, .int .i64 q.2.1.2.1.2.1.1, .int .i64 q.2.1.2.1.2.1.2.1, .int .i64 q.2.1.2.1.2.1.2.2.1, .int .i64 q.2.1.2.1.2.1.2.2.2, .int .i64 q.2.1.2.1.2.2.1, .int .i64 q.2.1.2.1.2.2.2.1, .int .i64 q.2.1.2.1.2.2.2.2.1, .int .i64 q.2.1.2.1.2.2.2.2.2, (v19.2.1.2.2.1), .bool q.2.2] : List Value)) h33
      refine Bc F (Af F Aa Aa Aa Aa) Aa (Aj Aa) (Ax (r := OY) Q5 F Aa Aa (An 2 Aa) h32).q fun a F => ?_
      refine Bc F (Af F Aa Aa Aa Aa) Aa (Aj Aa) (Ak P5 Aa Aa Aa Q4 F Aa (FT v12 + (x15).toNat * 13 + 1) Aa).q fun a F => ?_
      refine Bc F (Af F Aa Aa Aa Aa) Aa (Aj Aa) (Ak PV Aa Aa Aa Pt F Aa (FT v12 + (x15).toNat * 13 + 1 + 1) Aa).q fun a F => ?_
      refine Bc F (Af F Aa Aa Aa Aa) Aa (Aj Aa) (Ak PX Aa Aa Aa Rq F Aa (FT v12 + (x15).toNat * 13 + 1 + 1 + 1) Aa).q fun a F => ?_
      refine Bc F (Af F Aa Aa Aa Aa) Aa (Aj Aa) (La (l := [(), (), (), ()]) (i := 1) (FT v12 + (x15).toNat * 13 + 1 + 1 + 1 + 1) QL F Aa Aa Aa Aa Aa).q fun a F => ?_
      refine Bc F (Af F Aa Aa Aa Aa) Aa (Aj Aa) (Ap (y := Value.int .i64 x24.2.1.2.1.2.1.2.1) (j := 4) (i := x15) (enc := Nv) F Aa Aa (An 2 Aa) h32 Qk T3 (by rw [h34]; rfl)).q fun a F => ?_
      refine Bc F (Af F Aa Aa Aa Aa) Aa (Aj Aa) (Ad F Aa).q fun a F => ?_
      refine Bc F (Af F Aa Aa Aa Aa) Aa (Aj Aa) (Gj F Aa Aa).q fun a F => ?_
      refine qs F Aa (AA F Aa Aa Aa).q fun a F => ?_
      refine qs F Aa (Ad F Aa).q fun a F => ?_
      rcases Bool.eq_false_or_eq_true (decide (x24.2.1.2.1.2.1.2.1 ≠ x16)) with hb | hb
      ·
       have H := AR (Br hb) H
       rw [hb] at F
       clear hb
       iterate 17 refine Dl F (Cy F Aa Aa Aa Aa Aa) Aa Aa fun a F => ?_
       refine qs F Aa (Aq F Aa Aa Aa).q fun a F => ?_
       refine AZ fun w W => ?_
       have W := W.note (W.rowAt (k := 2) Aa h28 (Cg.snd (Cg.fst (Cg.snd (Cg.snd Cg.here)))) (congrArg (fun q : Int × (Int × (Int × (Int × Int × Int × Int) × (Int × Int × Int × Int)) × (List (Int × Int × Int))) × Bool => q.2.1.2.2) h29))
       have W := W.note (W.rowAt (k := 3) Aa h32 (Cg.snd (Cg.fst (Cg.snd (Cg.snd Cg.here)))) (congrArg (fun q : Int × (Int × (Int × (Int × Int × Int × Int) × (Int × Int × Int × Int)) × (List (Int × Int × Int))) × Bool => q.2.1.2.2) h33))
       refine Ab ?_
       have W := W.frontZ (i := 6) Aa Aa
       have W := W.hideR CR h14
       have W := W.frontZ (i := 6) Aa Aa
       have W := W.hideR CR h15
       have W := W.frontZ (i := 6) Aa Aa
       have W := W.hideR Nx h16
       have W := W.frontZ (i := 1) Aa Aa
       have W := W.frontZ (i := 2) Aa Aa
       have W := W.sub (M' := [(b1, [.int .i64 p0.1, v1, v2])]) (Z' := [row v8 28 (Rp.slice (Rp.int .i64)) x8, row v10 28 (Rp.slice (Rp.int .i64)) x9, row v12 58 Ji x13]) (List.Sublist.refl _) (List.Sublist.cons_cons _ (List.Sublist.cons_cons _ (List.Sublist.cons_cons _ (List.nil_sublist _))))
       exact ⟨_, H, F.re ⟨rfl, Aa, Aa, Aa, Aa, Aa, Aa, Aa, Aa, trivial⟩, W⟩
      have H := AS (Bq hb) H
      rw [hb] at F
      clear hb
      iterate 2 refine Bc F (Af F Aa Aa Aa Aa) Aa (Aj Aa) (Ad F Aa).q fun a F => ?_
      obtain ⟨x25, h35, H⟩ := Al H
      obtain ⟨v20, h36, h37⟩ := EC h16 h35
      have h38 : Nv v20 = [.int .i64 x25.1, .int .i64 x25.2.1.1, .int .i64 x25.2.1.2.1.1, .int .i64 x25.2.1.2.1.2.1.1, .int .i64 x25.2.1.2.1.2.1.2.1, .int .i64 x25.2.1.2.1.2.1.2.2.1, .int .i64 x25.2.1.2.1.2.1.2.2.2, .int .i64 x25.2.1.2.1.2.2.1, .int .i64 x25.2.1.2.1.2.2.2.1, .int .i64 x25.2.1.2.1.2.2.2.2.1, .int .i64 x25.2.1.2.1.2.2.2.2.2, (v20.2.1.2.2.1), .bool x25.2.2] := congrArg (fun q : Int × (Int × (Int × (Int × Int × Int × Int) × (Int × Int × Int × Int)) × (List (Int × Int × Int))) × Bool => ([.int .i64 q.1, .int .i64 q.2.1.1, .int .i64 q.2.1.2.1.1, .int .i64 q.2.1.2.1.2.1.1, .int .i64 q.2.1.2.1.2.1.2.1, .int .i64 q.2.1.2.1.2.1.2.2.1, .int .i64 q.2.1.2.1.2.1.2.2.2, .int .i64 q.2.1.2.1.2.2.1, .int .i64 q.2.1.2.1.2.2.2.1, .int .i64 q.2.1.2.1.2.2.2.2.1, .int .i64 q.2.1.2.1.2.2.2.2.2, (v20.2.1.2.2.1), .bool q.2.2] : List Value)) h37
      refine Bc F (Af F Aa Aa Aa Aa) Aa (Aj Aa) (Ax (r := OY) Q5 F Aa Aa (An 2 Aa) h36).q fun a F => ?_
      refine Bc F (Af F Aa Aa Aa Aa) Aa (Aj Aa) (Ak P5 Aa Aa Aa Q4 F Aa (FT v12 + (x15).toNat * 13 + 1) Aa).q fun a F => ?_
      refine Bc F (Af F Aa Aa Aa Aa) Aa (Aj Aa) (Ak PV Aa Aa Aa Rk F Aa (FT v12 + (x15).toNat * 13 + 1 + 10) Aa).q fun a F => ?_
      refine Bc F (Af F Aa Aa Aa Aa) Aa (Aj Aa) (Ap (y := (v20.2.1.2.2.1)) (j := 11) (i := x15) (enc := Nv) F Aa Aa (An 2 Aa) h36 Qk Rk (by rw [h38]; rfl)).q fun a F => ?_
      obtain ⟨x26, h39, H⟩ := Al H
      refine Bc F (Af F Aa Aa Aa Aa) Aa (Aj Aa) (Ax (r := OU) Sd F Aa Aa (CV (An 2 Aa) h36 (Cg.snd (Cg.fst (Cg.snd (Cg.snd Cg.here)))) (congrArg (fun q : Int × (Int × (Int × (Int × Int × Int × Int) × (Int × Int × Int × Int)) × (List (Int × Int × Int))) × Bool => q.2.1.2.2) h37)) h39).q fun a F => ?_
      refine Bc F (Af F Aa Aa Aa Aa) Aa (Aj Aa) (Ak Q0 Aa Aa Aa T3 F Aa (FT (v20.2.1.2.2.1) + (0 : Int).toNat * 3 + 2) Aa).q fun a F => ?_
      refine Bc F (Af F Aa Aa Aa Aa) Aa (Aj Aa) (Ap (y := Value.int .i64 x26.2.2) (j := 2) (i := 0) F Aa Aa (CV (An 2 Aa) h36 (Cg.snd (Cg.fst (Cg.snd (Cg.snd Cg.here)))) (congrArg (fun q : Int × (Int × (Int × (Int × Int × Int × Int) × (Int × Int × Int × Int)) × (List (Int × Int × Int))) × Bool => q.2.1.2.2) h37)) h39 RV.to T3 Aa).q fun a F => ?_
      iterate 2 refine Bc F (Af F Aa Aa Aa Aa) Aa (Aj Aa) (Ad F Aa).q fun a F => ?_
      obtain ⟨x27, h40, H⟩ := Al H
      obtain ⟨v21, h41, h42⟩ := EC h15 h40
      have h43 : EJ v21 = [(v21.1)] := congrArg (fun q : List Int => ([(v21.1)] : List Value)) h42
      refine Bc F (Af F Aa Aa Aa Aa) Aa (Aj Aa) (Ax (r := (Rp.vsl (Rp.int .i64))) J0 F Aa Aa (An 3 Aa) h41).q fun a F => ?_
      refine Bc F (Af F Aa Aa Aa Aa) Aa (Aj Aa) (Ap (y := (v21.1)) (j := 0) (i := p4) (enc := EJ) F Aa Aa (An 3 Aa) h41 Ij KG (by rw [h43]; rfl)).q fun a F => ?_
      refine Bc F (Af F Aa Aa Aa Aa) Aa (Aj Aa) (Ad F Aa).q fun a F => ?_
      obtain ⟨x28, h44, H⟩ := Al H
      refine Bc F (Af F Aa Aa Aa Aa) Aa (Aj Aa) (Ax (r := (Rp.int .i64)) GP F Aa Aa (CV (An 3 Aa) h41 Cg.here (congrArg (fun q : List Int => q) h42)) h44).q fun a F => ?_
      refine Bc F (Af F Aa Aa Aa Aa) Aa (Aj Aa) (Ap (y := Value.int .i64 x28) (j := 0) (i := x16) F Aa Aa (CV (An 3 Aa) h41 Cg.here (congrArg (fun q : List Int => q) h42)) h44 Fl.int.to T3 Aa).q fun a F => ?_
      refine Bc F (Af F Aa Aa Aa Aa) Aa (Aj Aa) (Gj F Aa Aa).q fun a F => ?_
      refine qs F Aa (AA F Aa Aa Aa).q fun a F => ?_
      refine AZ fun w W => ?_
      have W := W.note (W.rowAt (k := 2) Aa h28 (Cg.snd (Cg.fst (Cg.snd (Cg.snd Cg.here)))) (congrArg (fun q : Int × (Int × (Int × (Int × Int × Int × Int) × (Int × Int × Int × Int)) × (List (Int × Int × Int))) × Bool => q.2.1.2.2) h29))
      have W := W.note (W.rowAt (k := 3) Aa h32 (Cg.snd (Cg.fst (Cg.snd (Cg.snd Cg.here)))) (congrArg (fun q : Int × (Int × (Int × (Int × Int × Int × Int) × (Int × Int × Int × Int)) × (List (Int × Int × Int))) × Bool => q.2.1.2.2) h33))
      have W := W.note (W.rowAt (k := 4) Aa h36 (Cg.snd (Cg.fst (Cg.snd (Cg.snd Cg.here)))) (congrArg (fun q : Int × (Int × (Int × (Int × Int × Int × Int) × (Int × Int × Int × Int)) × (List (Int × Int × Int))) × Bool => q.2.1.2.2) h37))
      have W := W.note (W.rowAt (k := 6) Aa h41 Cg.here (congrArg (fun q : List Int => q) h42))
      refine Ab ?_
      have W := W.frontZ (i := 8) Aa Aa
      have W := W.hideR CR h14
      have W := W.frontZ (i := 8) Aa Aa
      have W := W.hideR CR h15
      have W := W.frontZ (i := 8) Aa Aa
      have W := W.hideR Nx h16
      have W := W.frontZ (i := 1) Aa Aa
      have W := W.frontZ (i := 2) Aa Aa
      have W := W.sub (M' := [(b1, [.int .i64 p0.1, v1, v2])]) (Z' := [row v8 28 (Rp.slice (Rp.int .i64)) x8, row v10 28 (Rp.slice (Rp.int .i64)) x9, row v12 58 Ji x13]) (List.Sublist.refl _) (List.Sublist.cons_cons _ (List.Sublist.cons_cons _ (List.Sublist.cons_cons _ (List.nil_sublist _))))
      exact ⟨_, H, F.re ⟨rfl, Aa, Aa, Aa, Aa, Aa, Aa, Aa, Aa, trivial⟩, W⟩
     rintro a w ⟨x22, hj, F, W⟩
     have hj := AX hj
     subst hj
     have H := K6
     clear G6 K6
     refine AB F Aa (fun hb => ?_) fun hb => ?_
     ·
      have H := AR hb H
      rw [hb] at F
      clear hb
      refine Ah (Ac ?_)
      refine ls F W Aa (Ag F Aa).q fun a w F W => ?_
      refine Ae (Ab (AF (AK (AU ?_))))
      iterate 2 refine AK ?_
      refine AU (AK ?_)
      have H := L5 _ H
      have H := L4 _ H
      have H := L3 _ H
      have H := AX H
      subst H
      refine BA (.inl Aa) F W Aa (Ay F Aa) ?_
      exact ⟨rfl, W.done⟩
     have H := AS (by rw [hb]; decide) H
     rw [hb] at F
     clear hb
     refine Au (Ab (Ac ?_))
     refine ls F W Aa (Ad F Aa).q fun a w F W => ?_
     refine ls F W Aa (BL F Aa Aa Aa).q fun a w F W => ?_
     refine ls F W Aa (Ag F Aa).q fun a w F W => ?_
     refine Ae (AP (Ab ?_))
     have W := W.frontZ (i := 2) Aa Aa
     have W := W.frontZ (i := 2) Aa Aa
     have W := W.frontZ (i := 2) Aa Aa
     exact ⟨_, H, F.re ⟨rfl, Aa, Aa, Aa, Aa, Aa, Aa, Aa, trivial⟩, W⟩
    have H := AS (Bq hb) H
    rw [hb] at F
    clear hb
    refine Au (AP (Ab ?_))
    have W := W.frontZ (i := 4) Aa Aa
    have W := W.hideR CR h14
    have W := W.frontZ (i := 4) Aa Aa
    have W := W.hideR CR h15
    have W := W.frontZ (i := 4) Aa Aa
    have W := W.hideR Nx h16
    have W := W.frontZ (i := 1) Aa Aa
    have W := W.frontZ (i := 2) Aa Aa
    have W := W.sub (M' := [(b1, [.int .i64 p0.1, v1, v2])]) (Z' := [row v8 28 (Rp.slice (Rp.int .i64)) x8, row v10 28 (Rp.slice (Rp.int .i64)) x9, row v12 58 Ji x13]) (List.Sublist.refl _) (List.Sublist.cons_cons _ (List.Sublist.cons_cons _ (List.Sublist.cons_cons _ (List.nil_sublist _))))
    exact ⟨_, H, F.re ⟨rfl, Aa, Aa, Aa, Aa, Aa, Aa, Aa, trivial⟩, W⟩
   rintro a w ⟨x17, hj, F, W⟩
   have H := K5 _ hj
   clear hj G5 K5 L5
   refine Ac ?_
   refine ls F W Aa (Ad F Aa).q fun a w F W => ?_
   refine ls F W Aa (BL F Aa Aa Aa).q fun a w F W => ?_
   refine ls F W Aa (Ag F Aa).q fun a w F W => ?_
   refine Ae (Ab ?_)
   have W := W.frontZ (i := 2) Aa Aa
   have W := W.frontZ (i := 2) Aa Aa
   have W := W.frontZ (i := 2) Aa Aa
   exact ⟨_, H, F.re ⟨rfl, Aa, Aa, Aa, Aa, Aa, Aa, Aa, trivial⟩, W⟩
  have H := AS (Bq hb) H
  rw [hb] at F
  clear hb
  refine Bh ?_
  iterate 2 refine BK ?_
  refine Bj (Ab ?_)
  have W := W.frontZ (i := 2) Aa Aa
  have W := W.sub (M' := [(b1, [.int .i64 p0.1, v1, v2])]) (Z' := [row v12 58 Ji x13]) (List.Sublist.refl _) (List.Sublist.cons_cons _ (List.nil_sublist _))
  have H := L4 _ H
  exact ⟨_, H, F.re ⟨rfl, Aa, Aa, trivial⟩, W⟩
 rintro a w ⟨x14, hj, F, W⟩
 have H := K3 _ hj
 clear hj G3 K3 L3
 obtain ⟨o7, G7, K7⟩ := Al H
 refine AM (fun a w => ∃ x29 : Bool, some (x29) = some o7 ∧ Fr 177 [] [(10, .bool x29)] a ∧ Stw ⟨Y, [], w0⟩ [(b1, [.int .i64 p0.1, v1, v2])] [] w) ?_ ?_
 ·
  have H := G7
  clear G7 K7
  refine Ac ?_
  iterate 2 refine ls F W Aa (Ad F Aa).q fun a w F W => ?_
  refine ls F W Aa (B0 (r := Ji) (l := x13) QE Aa F Aa (An 0 Aa)).q fun a w F W => ?_
  refine ls F W Aa (Dx F Aa Aa).q fun a w F W => ?_
  refine ls F W Aa (Ad F Aa).q fun a w F W => ?_
  rcases Bool.eq_false_or_eq_true (decide (x14 = (x13.length : Int))) with hb | hb
  ·
   have H := AR (Br hb) H
   rw [hb] at F
   clear hb
   refine JM (Af F Aa Aa Aa Aa) ?_
   obtain ⟨x30, h45, H⟩ := Al H
   refine ls F W Aa (BV (v := Value.bool x30) F H9 Aa (fun w W => Kh any w _ h45)) fun a w F W => ?_
   refine ls F W Aa (Aq F Aa Aa Aa).q fun a w F W => ?_
   refine ls F W Aa (Ag F Aa).q fun a w F W => ?_
   refine Ae (Ab ?_)
   have W := W.sub (M' := [(b1, [.int .i64 p0.1, v1, v2])]) (Z' := []) (List.Sublist.refl _) (List.nil_sublist _)
   exact ⟨_, H, F.re ⟨rfl, trivial⟩, W⟩
  have H := AS (Bq hb) H
  rw [hb] at F
  clear hb
  refine CX F Aa Aa Aa Aa Aa Aa Aa fun a F => ?_
  refine ls F W Aa (AA F Aa Aa Aa).q fun a w F W => ?_
  refine ls F W Aa (Ag F Aa).q fun a w F W => ?_
  refine Ae (Ab ?_)
  have W := W.sub (M' := [(b1, [.int .i64 p0.1, v1, v2])]) (Z' := []) (List.Sublist.refl _) (List.nil_sublist _)
  exact ⟨_, H, F.re ⟨rfl, trivial⟩, W⟩
 rintro a w ⟨x29, hj, F, W⟩
 have hj := AX hj
 subst hj
 have H := K7
 clear G7 K7
 refine AF ?_
 have H := AX H
 subst H
 refine BA (.inl Aa) F W Aa (Ay F Aa) ?_
 exact ⟨rfl, W.done⟩
end Go.Proofs.Ythiejmoddfenlaa
