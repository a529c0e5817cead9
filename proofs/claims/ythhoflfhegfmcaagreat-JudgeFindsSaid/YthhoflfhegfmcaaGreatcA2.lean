/- The functions of layer 25, JA. Conditions: none. -/
import Derived.Test.YthhoflfhegfmcaaGreatcA1
namespace Go.Proofs.YthhoflfhegfmcaaGreat
noncomputable section
open Go Go.RowKit
set_option linter.unusedVariables false
set_option linter.unusedSimpArgs false
set_option maxRecDepth 20000
set_option maxHeartbeats 1600000
theorem aD : Has Tryz.prog 79 := Cv Tryz.func79
def Cr (p0 : List (Int × Int)) : (Int × Int × Int × Int × Int × Int × Int × Int × Int × Int × Int × Int × Int × Int × Int × Int × Int) → Option ((Int × Int × Int × Int × Int × Int × Int × Int × Int × Int × Int × Int × Int × Int × Int × Int × Int) ⊕ (Int × Int × Int × Int × Int × Int × Int × Int × Int × Int × Int × Int × Int × Int × Int × Int))
  | (x17, x18, x19, x20, x21, x22, x23, x24, x25, x26, x27, x28, x29, x30, x31, x32, x33) => (if x17 < (p0.length : Int) then (ix p0 x17).bind fun x34 => (ix ([x18, x19, x20, x21, x22, x23, x24, x25, x26, x27, x28, x29, x30, x31, x32, x33] : List Int) x34.2).bind fun x35 => (C7 x35 x34.1).bind fun x36 => (ix ([x18, x19, x20, x21, x22, x23, x24, x25, x26, x27, x28, x29, x30, x31, x32, x33] : List Int) x34.2).bind fun x37 => some (.inl (An (x17 + 1), (if x34.2 = 0 then x36 else x18), (if x34.2 = 1 then x36 else x19), (if x34.2 = 2 then x36 else x20), (if x34.2 = 3 then x36 else x21), (if x34.2 = 4 then x36 else x22), (if x34.2 = 5 then x36 else x23), (if x34.2 = 6 then x36 else x24), (if x34.2 = 7 then x36 else x25), (if x34.2 = 8 then x36 else x26), (if x34.2 = 9 then x36 else x27), (if x34.2 = 10 then x36 else x28), (if x34.2 = 11 then x36 else x29), (if x34.2 = 12 then x36 else x30), (if x34.2 = 13 then x36 else x31), (if x34.2 = 14 then x36 else x32), (if x34.2 = 15 then x36 else x33))) else some (.inr (x18, x19, x20, x21, x22, x23, x24, x25, x26, x27, x28, x29, x30, x31, x32, x33)))
def DH (p0 : List (Int × Int)) : Option (Int × Int × Int × Int × Int × Int × Int × Int × Int × Int × Int × Int × Int × Int × Int × Int) := (Aq (Cr p0) (0, 0, 0, 0, 0, 0, 0, 0, 0, 0, 0, 0, 0, 0, 0, 0, 0)).bind fun (x1, x2, x3, x4, x5, x6, x7, x8, x9, x10, x11, x12, x13, x14, x15, x16) => some (x1, x2, x3, x4, x5, x6, x7, x8, x9, x10, x11, x12, x13, x14, x15, x16)
theorem KX (Y : Nat → Prop) (w0 : World) (v1 : Value) (p0 : List (Int × Int)) (r : (Int × Int × Int × Int × Int × Int × Int × Int × Int × Int × Int × Int × Int × Int × Int × Int)) (H : DH p0 = some r) (h_v1 : Sl w0 (NX []) HF v1 p0) :
    ca_ 81 #[v1] w0 fun e w' => e = .returned (.agg #[.int .u32 r.1, .int .u32 r.2.1, .int .u32 r.2.2.1, .int .u32 r.2.2.2.1, .int .u32 r.2.2.2.2.1, .int .u32 r.2.2.2.2.2.1, .int .u32 r.2.2.2.2.2.2.1, .int .u32 r.2.2.2.2.2.2.2.1, .int .u32 r.2.2.2.2.2.2.2.2.1, .int .u32 r.2.2.2.2.2.2.2.2.2.1, .int .u32 r.2.2.2.2.2.2.2.2.2.2.1, .int .u32 r.2.2.2.2.2.2.2.2.2.2.2.1, .int .u32 r.2.2.2.2.2.2.2.2.2.2.2.2.1, .int .u32 r.2.2.2.2.2.2.2.2.2.2.2.2.2.1, .int .u32 r.2.2.2.2.2.2.2.2.2.2.2.2.2.2.1, .int .u32 r.2.2.2.2.2.2.2.2.2.2.2.2.2.2.2]) ∧ Below w0.heap.size w0 w' := by
 refine enter Tryz.func81 Aa Tryz.ntmps81 Aa fun a F => ?_
 have W := Stw.start Y w0
 unfold DH at H
 refine vc tk 2 F W fun a w F W => ?_
 refine B6 (cs := (I0)) F W Aa T2 Aa fun b1 a w F W => ?_
 refine BQ tk 4 F W fun a w F W => ?_
 refine B6 (cs := (I0)) F W Aa T2 Aa fun b2 a w F W => ?_
 refine FC (Ab ?_)
 obtain ⟨o1, G1, K1⟩ := Ac H
 refine As (fun a w => ∃ x1 : Int, ∃ x2 : Int, ∃ x3 : Int, ∃ x4 : Int, ∃ x5 : Int, ∃ x6 : Int, ∃ x7 : Int, ∃ x8 : Int, ∃ x9 : Int, ∃ x10 : Int, ∃ x11 : Int, ∃ x12 : Int, ∃ x13 : Int, ∃ x14 : Int, ∃ x15 : Int, ∃ x16 : Int, some ((x1, x2, x3, x4, x5, x6, x7, x8, x9, x10, x11, x12, x13, x14, x15, x16)) = some o1 ∧ Fr 24 [] [(2, pp b1), (3, pp b2)] a ∧ sy Y w0 [(b2, [.int .u32 x1, .int .u32 x2, .int .u32 x3, .int .u32 x4, .int .u32 x5, .int .u32 x6, .int .u32 x7, .int .u32 x8, .int .u32 x9, .int .u32 x10, .int .u32 x11, .int .u32 x12, .int .u32 x13, .int .u32 x14, .int .u32 x15, .int .u32 x16]), (b1, (I0))] [] w) ?_ ?_
 ·
  have H := G1
  refine vc tk 3 F W fun a w F W => ?_
  refine ls F W Aa (BP (r := HF) (l := p0) R5 Aa F Aa (Ae h_v1)).q fun a w F W => ?_
  refine BQ tk 4 F W fun a w F W => ?_
  have W := W.frontM (i := 1) Aa Aa
  have W := W.frontM (i := 1) Aa Aa
  refine AN H (fun s a w => Fr 24 [] [(2, pp b1), (3, pp b2), (6, v1), (7, Jint (p0.length : Int)), (8, Jint s.1)] a ∧ sy Y w0 [(b2, [.int .u32 s.2.1, .int .u32 s.2.2.1, .int .u32 s.2.2.2.1, .int .u32 s.2.2.2.2.1, .int .u32 s.2.2.2.2.2.1, .int .u32 s.2.2.2.2.2.2.1, .int .u32 s.2.2.2.2.2.2.2.1, .int .u32 s.2.2.2.2.2.2.2.2.1, .int .u32 s.2.2.2.2.2.2.2.2.2.1, .int .u32 s.2.2.2.2.2.2.2.2.2.2.1, .int .u32 s.2.2.2.2.2.2.2.2.2.2.2.1, .int .u32 s.2.2.2.2.2.2.2.2.2.2.2.2.1, .int .u32 s.2.2.2.2.2.2.2.2.2.2.2.2.2.1, .int .u32 s.2.2.2.2.2.2.2.2.2.2.2.2.2.2.1, .int .u32 s.2.2.2.2.2.2.2.2.2.2.2.2.2.2.2.1, .int .u32 s.2.2.2.2.2.2.2.2.2.2.2.2.2.2.2.2]), (b1, (I0))] [] w) ⟨F.ra Aa, W⟩ fun s o a w H L2 hR => ?_
  obtain ⟨x17, x18, x19, x20, x21, x22, x23, x24, x25, x26, x27, x28, x29, x30, x31, x32, x33⟩ := s
  obtain ⟨F, W⟩ := hR
  have F : Fr 24 [] [(2, pp b1), (3, pp b2), (6, v1), (7, Jint (p0.length : Int)), (8, Jint x17)] a := F
  have W : sy Y w0 [(b2, [.int .u32 x18, .int .u32 x19, .int .u32 x20, .int .u32 x21, .int .u32 x22, .int .u32 x23, .int .u32 x24, .int .u32 x25, .int .u32 x26, .int .u32 x27, .int .u32 x28, .int .u32 x29, .int .u32 x30, .int .u32 x31, .int .u32 x32, .int .u32 x33]), (b1, (I0))] [] w := W
  rw [Cr] at H
  refine vc tk 6 F W fun a w F W => ?_
  refine AW F Aa H (fun F H => ?_) fun F H => ?_
  ·
   refine FL tk 6 F W fun a w F W => ?_
   obtain ⟨x34, h1, H⟩ := Ac H
   refine ls F W Aa (Al (r := HF) TS F Aa Aa (Ae h_v1) h1).q fun a w F W => ?_
   refine ls F W Aa (Ag (y := Value.agg #[Jint x34.1, Jint x34.2]) (j := 0) (i := x17) F Aa Aa (Ae h_v1) h1 UX.to S3 Aa).q fun a w F W => ?_
   refine B6 (cs := [Jint 0, Jint 0]) F W Aa UN Aa fun b3 a w F W => ?_
   refine Ej 0 F W Aa Aa Aa S3 Aa Aa Aa fun w W => ?_
   refine BQ tk 2 F W fun a w F W => ?_
   refine Ik 10 W MO (by kernel_rfl) ?_
   refine qs F Aa (Ax N5 Aa Aa Aa T3 F Aa 1 Aa).q fun a F => ?_
   refine qs F Aa (Bx (v := Jint x34.2) 0 F Aa Aa T3 Aa).q fun a F => ?_
   refine qs F Aa (Ax N5 Aa Aa Aa T3 F Aa 1 Aa).q fun a F => ?_
   refine qs F Aa (Bx (v := Jint x34.2) 0 F Aa Aa T3 Aa).q fun a F => ?_
   obtain ⟨x35, h2, H⟩ := Ac H
   refine qs F Aa (E9 (0 + (x34.2).toNat * 1) Na F Aa Aa Aa h2 Aa).q fun a F => ?_
   refine qs F Aa (Bx (v := Value.int .u32 x35) 1 F Aa Aa Qc (IK (base := 0) (m := 16) (l := [x18, x19, x20, x21, x22, x23, x24, x25, x26, x27, x28, x29, x30, x31, x32, x33]) (enc := Value.int .u32) Aa h2)).q fun a F => ?_
   refine qs F Aa (Ax N5 Aa Aa Aa T3 F Aa 0 Aa).q fun a F => ?_
   refine qs F Aa (Bx (v := Jint x34.1) 0 F Aa Aa T3 Aa).q fun a F => ?_
   obtain ⟨x36, h3, H⟩ := Ac H
   refine qs F Aa (Bc (v := Value.int .u32 x36) F YA Aa (fun w W => HV any w x35 x34.1 _ h3)) fun a F => ?_
   obtain ⟨x37, h4, H⟩ := Ac H
   refine qs F Aa (E9 (0 + (x34.2).toNat * 1) Na F Aa Aa Aa h4 Aa).q fun a F => ?_
   refine AA fun w W => ?_
   refine Ib (o := 0) (m := 16) (i := x34.2) (l := ([x18, x19, x20, x21, x22, x23, x24, x25, x26, x27, x28, x29, x30, x31, x32, x33] : List Int)) (x := x37) (cs := [.int .u32 x18, .int .u32 x19, .int .u32 x20, .int .u32 x21, .int .u32 x22, .int .u32 x23, .int .u32 x24, .int .u32 x25, .int .u32 x26, .int .u32 x27, .int .u32 x28, .int .u32 x29, .int .u32 x30, .int .u32 x31, .int .u32 x32, .int .u32 x33]) (cs' := [.int .u32 (if x34.2 = 0 then x36 else x18), .int .u32 (if x34.2 = 1 then x36 else x19), .int .u32 (if x34.2 = 2 then x36 else x20), .int .u32 (if x34.2 = 3 then x36 else x21), .int .u32 (if x34.2 = 4 then x36 else x22), .int .u32 (if x34.2 = 5 then x36 else x23), .int .u32 (if x34.2 = 6 then x36 else x24), .int .u32 (if x34.2 = 7 then x36 else x25), .int .u32 (if x34.2 = 8 then x36 else x26), .int .u32 (if x34.2 = 9 then x36 else x27), .int .u32 (if x34.2 = 10 then x36 else x28), .int .u32 (if x34.2 = 11 then x36 else x29), .int .u32 (if x34.2 = 12 then x36 else x30), .int .u32 (if x34.2 = 13 then x36 else x31), .int .u32 (if x34.2 = 14 then x36 else x32), .int .u32 (if x34.2 = 15 then x36 else x33)]) 1 F W Aa Aa Aa Qc Aa Aa Aa Aa h4 (by intro k hk hn; rw [hk]; match k, hn with | 0, _ => rfl | 1, _ => rfl | 2, _ => rfl | 3, _ => rfl | 4, _ => rfl | 5, _ => rfl | 6, _ => rfl | 7, _ => rfl | 8, _ => rfl | 9, _ => rfl | 10, _ => rfl | 11, _ => rfl | 12, _ => rfl | 13, _ => rfl | 14, _ => rfl | 15, _ => rfl | (z + 16), h => exact absurd h (by omega)) fun w W => ?_
   have W : sy Y w0 [(b3, (VV x34)), (b2, [.int .u32 (if x34.2 = 0 then x36 else x18), .int .u32 (if x34.2 = 1 then x36 else x19), .int .u32 (if x34.2 = 2 then x36 else x20), .int .u32 (if x34.2 = 3 then x36 else x21), .int .u32 (if x34.2 = 4 then x36 else x22), .int .u32 (if x34.2 = 5 then x36 else x23), .int .u32 (if x34.2 = 6 then x36 else x24), .int .u32 (if x34.2 = 7 then x36 else x25), .int .u32 (if x34.2 = 8 then x36 else x26), .int .u32 (if x34.2 = 9 then x36 else x27), .int .u32 (if x34.2 = 10 then x36 else x28), .int .u32 (if x34.2 = 11 then x36 else x29), .int .u32 (if x34.2 = 12 then x36 else x30), .int .u32 (if x34.2 = 13 then x36 else x31), .int .u32 (if x34.2 = 14 then x36 else x32), .int .u32 (if x34.2 = 15 then x36 else x33)]), (b1, (I0))] [] w := W
   refine FC (Aw ?_)
   refine vn tk 4 F W fun a w F W => ?_
   refine Ab ?_
   have W := W.frontM (i := 2) Aa Aa
   have W := W.frontM (i := 2) Aa Aa
   have W := W.sub (M' := [(b2, [.int .u32 (if x34.2 = 0 then x36 else x18), .int .u32 (if x34.2 = 1 then x36 else x19), .int .u32 (if x34.2 = 2 then x36 else x20), .int .u32 (if x34.2 = 3 then x36 else x21), .int .u32 (if x34.2 = 4 then x36 else x22), .int .u32 (if x34.2 = 5 then x36 else x23), .int .u32 (if x34.2 = 6 then x36 else x24), .int .u32 (if x34.2 = 7 then x36 else x25), .int .u32 (if x34.2 = 8 then x36 else x26), .int .u32 (if x34.2 = 9 then x36 else x27), .int .u32 (if x34.2 = 10 then x36 else x28), .int .u32 (if x34.2 = 11 then x36 else x29), .int .u32 (if x34.2 = 12 then x36 else x30), .int .u32 (if x34.2 = 13 then x36 else x31), .int .u32 (if x34.2 = 14 then x36 else x32), .int .u32 (if x34.2 = 15 then x36 else x33)]), (b1, (I0))]) (Z' := []) (sc (sc nl)) sr
   exact ⟨_, H, F.ra Aa, W⟩
  refine AC ?_
  iterate 2 refine AR ?_
  refine AD (Ab ?_)
  have W := W.frontM (i := 1) Aa Aa
  have W := W.frontM (i := 1) Aa Aa
  have H := L2 _ H
  exact ⟨_, _, _, _, _, _, _, _, _, _, _, _, _, _, _, _, H, F.ra Aa, W⟩
 rintro a w ⟨x1, x2, x3, x4, x5, x6, x7, x8, x9, x10, x11, x12, x13, x14, x15, x16, hj, F, W⟩
 have hj := Ay hj
 subst hj
 have H := K1
 refine Jk tk 3 [0] F W (ai fun a w F W => ?_)
 refine Ej 1 F W Aa Aa Aa Ti Aa Aa Aa fun w W => ?_
 refine BQ tk 2 F W fun a w F W => ?_
 refine Ap ?_
 have H := Ay H
 subst H
 refine A1 (.inl Aa) F W Aa (IC 1 F Aa Aa Ti Aa) ?_
 exact ⟨rfl, W.done⟩
theorem Xz : type_of% Tryz.underlying139 := Tryz.underlying139
theorem ZW : Has Tryz.prog 81 := Cv Tryz.func81
theorem WE : (Tryz.prog.info? 139).bind (·.zero) = some (.agg #[Jint 0, Jint 0, Jint 0, Jint 0, Jint 0, Jint 0, Jint 0, Jint 0, Jint 0, Jint 0, Jint 0, Jint 0, Jint 0, Jint 0, Jint 0, Jint 0]) := by kernel_rfl
theorem O6 : Ar Tryz.prog 139 16 3 1 := ⟨Xz, by kernel_rfl⟩
def Ea (p0 : Int) (p1 : Int) : Option Bool := (Vh (Jq .u32 p0 p1) p1).bind fun x1 => some (decide ((Oa .u32 x1 1) = 1))
theorem Is (Y : Nat → Prop) (w0 : World)  (p0 : Int) (p1 : Int) (r : Bool) (H : Ea p0 p1 = some r)  :
    ca_ 99 #[.int .u32 p0, Jint p1] w0 fun e w' => e = .returned (.bool r) ∧ Below w0.heap.size w0 w' := by
 refine enter Tryz.func99 Aa Tryz.ntmps99 Aa fun a F => ?_
 have W := Stw.start Y w0
 unfold Ea at H
 refine vc tk 9 F W fun a w F W => ?_
 obtain ⟨x1, h1, H⟩ := Ac H
 refine ls F W Aa (T5 (JT h1).2 (QQ F Aa Aa (JT h1).1)).q fun a w F W => ?_
 refine BQ tk 5 F W fun a w F W => ?_
 refine Ap ?_
 have H := Ay H
 subst H
 refine A1 (.inl Aa) F W Aa (Am F Aa) ?_
 exact ⟨rfl, W.done⟩
theorem YH : Has Tryz.prog 99 := Cv Tryz.func99
theorem Uk : Ty Tryz.prog 139 true 16 := ⟨by kernel_rfl, by kernel_rfl⟩
abbrev IA (a0 : Int × Int × Int × Int × Int × Int × Int × Int × Int × Int × Int × Int × Int × Int × Int × Int) : List Value := [.int .u32 a0.1, .int .u32 a0.2.1, .int .u32 a0.2.2.1, .int .u32 a0.2.2.2.1, .int .u32 a0.2.2.2.2.1, .int .u32 a0.2.2.2.2.2.1, .int .u32 a0.2.2.2.2.2.2.1, .int .u32 a0.2.2.2.2.2.2.2.1, .int .u32 a0.2.2.2.2.2.2.2.2.1, .int .u32 a0.2.2.2.2.2.2.2.2.2.1, .int .u32 a0.2.2.2.2.2.2.2.2.2.2.1, .int .u32 a0.2.2.2.2.2.2.2.2.2.2.2.1, .int .u32 a0.2.2.2.2.2.2.2.2.2.2.2.2.1, .int .u32 a0.2.2.2.2.2.2.2.2.2.2.2.2.2.1, .int .u32 a0.2.2.2.2.2.2.2.2.2.2.2.2.2.2.1, .int .u32 a0.2.2.2.2.2.2.2.2.2.2.2.2.2.2.2]
abbrev HM  : List Value := [Jint 0, Jint 0, Jint 0, Jint 0, Jint 0, Jint 0, Jint 0, Jint 0, Jint 0, Jint 0, Jint 0, Jint 0, Jint 0, Jint 0, Jint 0, Jint 0]
def CB  : (Int × Int × Int × Int × Int × Int × Int × Int × Int × Int × Int × Int × Int × Int × Int × Int × Int) → Option ((Int × Int × Int × Int × Int × Int × Int × Int × Int × Int × Int × Int × Int × Int × Int × Int × Int) ⊕ (Int × Int × Int × Int × Int × Int × Int × Int × Int × Int × Int × Int × Int × Int × Int × Int))
  | (x17, x18, x19, x20, x21, x22, x23, x24, x25, x26, x27, x28, x29, x30, x31, x32, x33) => (if x17 < 16 then (ix ([x18, x19, x20, x21, x22, x23, x24, x25, x26, x27, x28, x29, x30, x31, x32, x33] : List Int) x17).bind fun x34 => some (.inl (An (x17 + 1), (if x17 = 0 then (-1) else x18), (if x17 = 1 then (-1) else x19), (if x17 = 2 then (-1) else x20), (if x17 = 3 then (-1) else x21), (if x17 = 4 then (-1) else x22), (if x17 = 5 then (-1) else x23), (if x17 = 6 then (-1) else x24), (if x17 = 7 then (-1) else x25), (if x17 = 8 then (-1) else x26), (if x17 = 9 then (-1) else x27), (if x17 = 10 then (-1) else x28), (if x17 = 11 then (-1) else x29), (if x17 = 12 then (-1) else x30), (if x17 = 13 then (-1) else x31), (if x17 = 14 then (-1) else x32), (if x17 = 15 then (-1) else x33))) else some (.inr (x18, x19, x20, x21, x22, x23, x24, x25, x26, x27, x28, x29, x30, x31, x32, x33)))
def BT (p0 : Int) (p1 : Int × Int × Int × Int × Int × Int × Int × Int × Int × Int × Int × Int × Int × Int × Int × Int) (x54 : Int) (x55 : Int) (x56 : Int) : (Int × Int × Int × Int × Int × Int × Int × Int × Int × Int × Int × Int × Int × Int × Int × Int × Int × Int) → Option ((Int × Int × Int × Int × Int × Int × Int × Int × Int × Int × Int × Int × Int × Int × Int × Int × Int × Int) ⊕ (Int × Int × Int × Int × Int × Int × Int × Int × Int × Int × Int × Int × Int × Int × Int × Int × Int))
  | (x107, x108, x109, x110, x111, x112, x113, x114, x115, x116, x117, x118, x119, x120, x121, x122, x123, x124) => (if x108 < p0 then (((Ea x54 x108).bind fun x143 => (if x143 = true then (Ea x55 x108).bind fun x144 => some (!x144) else some false)).bind fun x142 => (if x142 = true then (ix ([x109, x110, x111, x112, x113, x114, x115, x116, x117, x118, x119, x120, x121, x122, x123, x124] : List Int) x108).bind fun x145 => (ix ([p1.1, p1.2.1, p1.2.2.1, p1.2.2.2.1, p1.2.2.2.2.1, p1.2.2.2.2.2.1, p1.2.2.2.2.2.2.1, p1.2.2.2.2.2.2.2.1, p1.2.2.2.2.2.2.2.2.1, p1.2.2.2.2.2.2.2.2.2.1, p1.2.2.2.2.2.2.2.2.2.2.1, p1.2.2.2.2.2.2.2.2.2.2.2.1, p1.2.2.2.2.2.2.2.2.2.2.2.2.1, p1.2.2.2.2.2.2.2.2.2.2.2.2.2.1, p1.2.2.2.2.2.2.2.2.2.2.2.2.2.2.1, p1.2.2.2.2.2.2.2.2.2.2.2.2.2.2.2] : List Int) x108).bind fun x146 => some (Ta .u32 x107 x146, (if x108 = 0 then An (x56 + 1) else x109), (if x108 = 1 then An (x56 + 1) else x110), (if x108 = 2 then An (x56 + 1) else x111), (if x108 = 3 then An (x56 + 1) else x112), (if x108 = 4 then An (x56 + 1) else x113), (if x108 = 5 then An (x56 + 1) else x114), (if x108 = 6 then An (x56 + 1) else x115), (if x108 = 7 then An (x56 + 1) else x116), (if x108 = 8 then An (x56 + 1) else x117), (if x108 = 9 then An (x56 + 1) else x118), (if x108 = 10 then An (x56 + 1) else x119), (if x108 = 11 then An (x56 + 1) else x120), (if x108 = 12 then An (x56 + 1) else x121), (if x108 = 13 then An (x56 + 1) else x122), (if x108 = 14 then An (x56 + 1) else x123), (if x108 = 15 then An (x56 + 1) else x124)) else some (x107, x109, x110, x111, x112, x113, x114, x115, x116, x117, x118, x119, x120, x121, x122, x123, x124))).bind fun (x125, x126, x127, x128, x129, x130, x131, x132, x133, x134, x135, x136, x137, x138, x139, x140, x141) => some (.inl (x125, An (x108 + 1), x126, x127, x128, x129, x130, x131, x132, x133, x134, x135, x136, x137, x138, x139, x140, x141)) else some (.inr (x107, x109, x110, x111, x112, x113, x114, x115, x116, x117, x118, x119, x120, x121, x122, x123, x124)))
def Cq (p0 : Int) (p1 : Int × Int × Int × Int × Int × Int × Int × Int × Int × Int × Int × Int × Int × Int × Int × Int) : (Int × Int × Int × Int × Int × Int × Int × Int × Int × Int × Int × Int × Int × Int × Int × Int × Int × Int × Int) → Option ((Int × Int × Int × Int × Int × Int × Int × Int × Int × Int × Int × Int × Int × Int × Int × Int × Int × Int × Int) ⊕ (Int × Int × Int × Int × Int × Int × Int × Int × Int × Int × Int × Int × Int × Int × Int × Int))
  | (x54, x55, x56, x57, x58, x59, x60, x61, x62, x63, x64, x65, x66, x67, x68, x69, x70, x71, x72) => (if x56 < p0 then ((Aq (BT p0 p1 x54 x55 x56) (0, 0, x57, x58, x59, x60, x61, x62, x63, x64, x65, x66, x67, x68, x69, x70, x71, x72)).bind fun (x90, x91, x92, x93, x94, x95, x96, x97, x98, x99, x100, x101, x102, x103, x104, x105, x106) => some (x90, x91, x92, x93, x94, x95, x96, x97, x98, x99, x100, x101, x102, x103, x104, x105, x106)).bind fun (x73, x74, x75, x76, x77, x78, x79, x80, x81, x82, x83, x84, x85, x86, x87, x88, x89) => some (.inl (x73, Ta .u32 x55 x54, An (x56 + 1), x74, x75, x76, x77, x78, x79, x80, x81, x82, x83, x84, x85, x86, x87, x88, x89)) else some (.inr (x57, x58, x59, x60, x61, x62, x63, x64, x65, x66, x67, x68, x69, x70, x71, x72)))
def Em (p0 : Int) (p1 : Int × Int × Int × Int × Int × Int × Int × Int × Int × Int × Int × Int × Int × Int × Int × Int) (p2 : Int) : Option (Int × Int × Int × Int × Int × Int × Int × Int × Int × Int × Int × Int × Int × Int × Int × Int) := (Aq (CB) (0, 0, 0, 0, 0, 0, 0, 0, 0, 0, 0, 0, 0, 0, 0, 0, 0)).bind fun (x1, x2, x3, x4, x5, x6, x7, x8, x9, x10, x11, x12, x13, x14, x15, x16) => (ix ([x1, x2, x3, x4, x5, x6, x7, x8, x9, x10, x11, x12, x13, x14, x15, x16] : List Int) p2).bind fun x35 => (ix ([p1.1, p1.2.1, p1.2.2.1, p1.2.2.2.1, p1.2.2.2.2.1, p1.2.2.2.2.2.1, p1.2.2.2.2.2.2.1, p1.2.2.2.2.2.2.2.1, p1.2.2.2.2.2.2.2.2.1, p1.2.2.2.2.2.2.2.2.2.1, p1.2.2.2.2.2.2.2.2.2.2.1, p1.2.2.2.2.2.2.2.2.2.2.2.1, p1.2.2.2.2.2.2.2.2.2.2.2.2.1, p1.2.2.2.2.2.2.2.2.2.2.2.2.2.1, p1.2.2.2.2.2.2.2.2.2.2.2.2.2.2.1, p1.2.2.2.2.2.2.2.2.2.2.2.2.2.2.2] : List Int) p2).bind fun x36 => (C7 0 p2).bind fun x37 => (Aq (Cq p0 p1) (x36, x37, 0, (if p2 = 0 then 0 else x1), (if p2 = 1 then 0 else x2), (if p2 = 2 then 0 else x3), (if p2 = 3 then 0 else x4), (if p2 = 4 then 0 else x5), (if p2 = 5 then 0 else x6), (if p2 = 6 then 0 else x7), (if p2 = 7 then 0 else x8), (if p2 = 8 then 0 else x9), (if p2 = 9 then 0 else x10), (if p2 = 10 then 0 else x11), (if p2 = 11 then 0 else x12), (if p2 = 12 then 0 else x13), (if p2 = 13 then 0 else x14), (if p2 = 14 then 0 else x15), (if p2 = 15 then 0 else x16))).bind fun (x38, x39, x40, x41, x42, x43, x44, x45, x46, x47, x48, x49, x50, x51, x52, x53) => some (x38, x39, x40, x41, x42, x43, x44, x45, x46, x47, x48, x49, x50, x51, x52, x53)
theorem Mr (Y : Nat → Prop) (w0 : World)  (p0 : Int) (p1 : Int × Int × Int × Int × Int × Int × Int × Int × Int × Int × Int × Int × Int × Int × Int × Int) (p2 : Int) (r : (Int × Int × Int × Int × Int × Int × Int × Int × Int × Int × Int × Int × Int × Int × Int × Int)) (H : Em p0 p1 p2 = some r)  :
    ca_ 80 #[Jint p0, .agg #[.int .u32 p1.1, .int .u32 p1.2.1, .int .u32 p1.2.2.1, .int .u32 p1.2.2.2.1, .int .u32 p1.2.2.2.2.1, .int .u32 p1.2.2.2.2.2.1, .int .u32 p1.2.2.2.2.2.2.1, .int .u32 p1.2.2.2.2.2.2.2.1, .int .u32 p1.2.2.2.2.2.2.2.2.1, .int .u32 p1.2.2.2.2.2.2.2.2.2.1, .int .u32 p1.2.2.2.2.2.2.2.2.2.2.1, .int .u32 p1.2.2.2.2.2.2.2.2.2.2.2.1, .int .u32 p1.2.2.2.2.2.2.2.2.2.2.2.2.1, .int .u32 p1.2.2.2.2.2.2.2.2.2.2.2.2.2.1, .int .u32 p1.2.2.2.2.2.2.2.2.2.2.2.2.2.2.1, .int .u32 p1.2.2.2.2.2.2.2.2.2.2.2.2.2.2.2], Jint p2] w0 fun e w' => e = .returned (.agg #[Jint r.1, Jint r.2.1, Jint r.2.2.1, Jint r.2.2.2.1, Jint r.2.2.2.2.1, Jint r.2.2.2.2.2.1, Jint r.2.2.2.2.2.2.1, Jint r.2.2.2.2.2.2.2.1, Jint r.2.2.2.2.2.2.2.2.1, Jint r.2.2.2.2.2.2.2.2.2.1, Jint r.2.2.2.2.2.2.2.2.2.2.1, Jint r.2.2.2.2.2.2.2.2.2.2.2.1, Jint r.2.2.2.2.2.2.2.2.2.2.2.2.1, Jint r.2.2.2.2.2.2.2.2.2.2.2.2.2.1, Jint r.2.2.2.2.2.2.2.2.2.2.2.2.2.2.1, Jint r.2.2.2.2.2.2.2.2.2.2.2.2.2.2.2]) ∧ Below w0.heap.size w0 w' := by
 refine enter Tryz.func80 Aa Tryz.ntmps80 Aa fun a F => ?_
 have W := Stw.start Y w0
 unfold Em at H
 refine vc tk 2 F W fun a w F W => ?_
 refine D3 (cs := (IA p1)) F W Aa Aa Aa fun b1 a w F W => ?_
 refine B6 (cs := (HM)) F W Aa WE Aa fun b2 a w F W => ?_
 refine BQ tk 4 F W fun a w F W => ?_
 refine B6 (cs := (HM)) F W Aa WE Aa fun b3 a w F W => ?_
 refine FC (Ab ?_)
 obtain ⟨o1, G1, K1⟩ := Ac H
 refine As (fun a w => ∃ x1 : Int, ∃ x2 : Int, ∃ x3 : Int, ∃ x4 : Int, ∃ x5 : Int, ∃ x6 : Int, ∃ x7 : Int, ∃ x8 : Int, ∃ x9 : Int, ∃ x10 : Int, ∃ x11 : Int, ∃ x12 : Int, ∃ x13 : Int, ∃ x14 : Int, ∃ x15 : Int, ∃ x16 : Int, some ((x1, x2, x3, x4, x5, x6, x7, x8, x9, x10, x11, x12, x13, x14, x15, x16)) = some o1 ∧ Fr 60 [] [(0, Jint p0), (2, Jint p2), (4, pp b1), (6, pp b2), (7, pp b3)] a ∧ sy Y w0 [(b3, [Jint x1, Jint x2, Jint x3, Jint x4, Jint x5, Jint x6, Jint x7, Jint x8, Jint x9, Jint x10, Jint x11, Jint x12, Jint x13, Jint x14, Jint x15, Jint x16]), (b2, (HM)), (b1, (IA p1))] [] w) ?_ ?_
 ·
  have H := G1
  refine vc tk 6 F W fun a w F W => ?_
  have W := W.frontM (i := 2) Aa Aa
  have W := W.frontM (i := 2) Aa Aa
  have W := W.frontM (i := 2) Aa Aa
  refine AN H (fun s a w => Fr 60 [] [(0, Jint p0), (2, Jint p2), (4, pp b1), (6, pp b2), (7, pp b3), (14, Jint s.1)] a ∧ sy Y w0 [(b3, [Jint s.2.1, Jint s.2.2.1, Jint s.2.2.2.1, Jint s.2.2.2.2.1, Jint s.2.2.2.2.2.1, Jint s.2.2.2.2.2.2.1, Jint s.2.2.2.2.2.2.2.1, Jint s.2.2.2.2.2.2.2.2.1, Jint s.2.2.2.2.2.2.2.2.2.1, Jint s.2.2.2.2.2.2.2.2.2.2.1, Jint s.2.2.2.2.2.2.2.2.2.2.2.1, Jint s.2.2.2.2.2.2.2.2.2.2.2.2.1, Jint s.2.2.2.2.2.2.2.2.2.2.2.2.2.1, Jint s.2.2.2.2.2.2.2.2.2.2.2.2.2.2.1, Jint s.2.2.2.2.2.2.2.2.2.2.2.2.2.2.2.1, Jint s.2.2.2.2.2.2.2.2.2.2.2.2.2.2.2.2]), (b2, (HM)), (b1, (IA p1))] [] w) ⟨F.ra Aa, W⟩ fun s o a w H L2 hR => ?_
  obtain ⟨x17, x18, x19, x20, x21, x22, x23, x24, x25, x26, x27, x28, x29, x30, x31, x32, x33⟩ := s
  obtain ⟨F, W⟩ := hR
  have F : Fr 60 [] [(0, Jint p0), (2, Jint p2), (4, pp b1), (6, pp b2), (7, pp b3), (14, Jint x17)] a := F
  have W : sy Y w0 [(b3, [Jint x18, Jint x19, Jint x20, Jint x21, Jint x22, Jint x23, Jint x24, Jint x25, Jint x26, Jint x27, Jint x28, Jint x29, Jint x30, Jint x31, Jint x32, Jint x33]), (b2, (HM)), (b1, (IA p1))] [] w := W
  rw [CB] at H
  refine vc tk 6 F W fun a w F W => ?_
  refine AW F Aa H (fun F H => ?_) fun F H => ?_
  ·
   refine FL tk 12 F W fun a w F W => ?_
   obtain ⟨x34, h1, H⟩ := Ac H
   refine ls F W Aa (E9 (0 + (x17).toNat * 1) O6 F Aa Aa Aa h1 Aa).q fun a w F W => ?_
   refine Ib (o := 0) (m := 16) (i := x17) (l := ([x18, x19, x20, x21, x22, x23, x24, x25, x26, x27, x28, x29, x30, x31, x32, x33] : List Int)) (x := x34) (cs := [Jint x18, Jint x19, Jint x20, Jint x21, Jint x22, Jint x23, Jint x24, Jint x25, Jint x26, Jint x27, Jint x28, Jint x29, Jint x30, Jint x31, Jint x32, Jint x33]) (cs' := [Jint (if x17 = 0 then (-1) else x18), Jint (if x17 = 1 then (-1) else x19), Jint (if x17 = 2 then (-1) else x20), Jint (if x17 = 3 then (-1) else x21), Jint (if x17 = 4 then (-1) else x22), Jint (if x17 = 5 then (-1) else x23), Jint (if x17 = 6 then (-1) else x24), Jint (if x17 = 7 then (-1) else x25), Jint (if x17 = 8 then (-1) else x26), Jint (if x17 = 9 then (-1) else x27), Jint (if x17 = 10 then (-1) else x28), Jint (if x17 = 11 then (-1) else x29), Jint (if x17 = 12 then (-1) else x30), Jint (if x17 = 13 then (-1) else x31), Jint (if x17 = 14 then (-1) else x32), Jint (if x17 = 15 then (-1) else x33)]) 0 F W Aa Aa Aa T3 Aa Aa Aa Aa h1 (by intro k hk hn; rw [hk]; match k, hn with | 0, _ => rfl | 1, _ => rfl | 2, _ => rfl | 3, _ => rfl | 4, _ => rfl | 5, _ => rfl | 6, _ => rfl | 7, _ => rfl | 8, _ => rfl | 9, _ => rfl | 10, _ => rfl | 11, _ => rfl | 12, _ => rfl | 13, _ => rfl | 14, _ => rfl | 15, _ => rfl | (z + 16), h => exact absurd h (by omega)) fun w W => ?_
   have W : sy Y w0 [(b3, [Jint (if x17 = 0 then (-1) else x18), Jint (if x17 = 1 then (-1) else x19), Jint (if x17 = 2 then (-1) else x20), Jint (if x17 = 3 then (-1) else x21), Jint (if x17 = 4 then (-1) else x22), Jint (if x17 = 5 then (-1) else x23), Jint (if x17 = 6 then (-1) else x24), Jint (if x17 = 7 then (-1) else x25), Jint (if x17 = 8 then (-1) else x26), Jint (if x17 = 9 then (-1) else x27), Jint (if x17 = 10 then (-1) else x28), Jint (if x17 = 11 then (-1) else x29), Jint (if x17 = 12 then (-1) else x30), Jint (if x17 = 13 then (-1) else x31), Jint (if x17 = 14 then (-1) else x32), Jint (if x17 = 15 then (-1) else x33)]), (b2, (HM)), (b1, (IA p1))] [] w := W
   refine FC (Aw ?_)
   refine vn tk 4 F W fun a w F W => ?_
   refine Ab ?_
   have W := W.frontM (i := 2) Aa Aa
   have W := W.frontM (i := 2) Aa Aa
   have W := W.frontM (i := 2) Aa Aa
   exact ⟨_, H, F.ra Aa, W⟩
  refine AC ?_
  iterate 2 refine AR ?_
  refine AD (Ab ?_)
  have W := W.frontM (i := 2) Aa Aa
  have W := W.frontM (i := 2) Aa Aa
  have W := W.frontM (i := 2) Aa Aa
  have H := L2 _ H
  exact ⟨_, _, _, _, _, _, _, _, _, _, _, _, _, _, _, _, H, F.ra Aa, W⟩
 rintro a w ⟨x1, x2, x3, x4, x5, x6, x7, x8, x9, x10, x11, x12, x13, x14, x15, x16, hj, F, W⟩
 have hj := Ay hj
 subst hj
 have H := K1
 refine vc tk 3 F W fun a w F W => ?_
 obtain ⟨x35, h2, H⟩ := Ac H
 refine ls F W Aa (E9 (0 + (p2).toNat * 1) O6 F Aa Aa Aa h2 Aa).q fun a w F W => ?_
 refine Ib (o := 0) (m := 16) (i := p2) (l := ([x1, x2, x3, x4, x5, x6, x7, x8, x9, x10, x11, x12, x13, x14, x15, x16] : List Int)) (x := x35) (cs := [Jint x1, Jint x2, Jint x3, Jint x4, Jint x5, Jint x6, Jint x7, Jint x8, Jint x9, Jint x10, Jint x11, Jint x12, Jint x13, Jint x14, Jint x15, Jint x16]) (cs' := [Jint (if p2 = 0 then 0 else x1), Jint (if p2 = 1 then 0 else x2), Jint (if p2 = 2 then 0 else x3), Jint (if p2 = 3 then 0 else x4), Jint (if p2 = 4 then 0 else x5), Jint (if p2 = 5 then 0 else x6), Jint (if p2 = 6 then 0 else x7), Jint (if p2 = 7 then 0 else x8), Jint (if p2 = 8 then 0 else x9), Jint (if p2 = 9 then 0 else x10), Jint (if p2 = 10 then 0 else x11), Jint (if p2 = 11 then 0 else x12), Jint (if p2 = 12 then 0 else x13), Jint (if p2 = 13 then 0 else x14), Jint (if p2 = 14 then 0 else x15), Jint (if p2 = 15 then 0 else x16)]) 0 F W Aa Aa Aa T3 Aa Aa Aa Aa h2 (by intro k hk hn; rw [hk]; match k, hn with | 0, _ => rfl | 1, _ => rfl | 2, _ => rfl | 3, _ => rfl | 4, _ => rfl | 5, _ => rfl | 6, _ => rfl | 7, _ => rfl | 8, _ => rfl | 9, _ => rfl | 10, _ => rfl | 11, _ => rfl | 12, _ => rfl | 13, _ => rfl | 14, _ => rfl | 15, _ => rfl | (z + 16), h => exact absurd h (by omega)) fun w W => ?_
 have W : sy Y w0 [(b3, [Jint (if p2 = 0 then 0 else x1), Jint (if p2 = 1 then 0 else x2), Jint (if p2 = 2 then 0 else x3), Jint (if p2 = 3 then 0 else x4), Jint (if p2 = 4 then 0 else x5), Jint (if p2 = 5 then 0 else x6), Jint (if p2 = 6 then 0 else x7), Jint (if p2 = 7 then 0 else x8), Jint (if p2 = 8 then 0 else x9), Jint (if p2 = 9 then 0 else x10), Jint (if p2 = 10 then 0 else x11), Jint (if p2 = 11 then 0 else x12), Jint (if p2 = 12 then 0 else x13), Jint (if p2 = 13 then 0 else x14), Jint (if p2 = 14 then 0 else x15), Jint (if p2 = 15 then 0 else x16)]), (b2, (HM)), (b1, (IA p1))] [] w := W
 refine BQ tk 3 F W fun a w F W => ?_
 refine Bz W MO (by kernel_rfl) ?_
 refine qs F Aa (Ai F Aa).q fun a F => ?_
 obtain ⟨x36, h3, H⟩ := Ac H
 refine qs F Aa (E9 (0 + (p2).toNat * 1) Na F Aa Aa Aa h3 Aa).q fun a F => ?_
 refine qs F Aa (Bx (v := Value.int .u32 x36) 2 F Aa Aa Qc (IK (base := 0) (m := 16) (l := [p1.1, p1.2.1, p1.2.2.1, p1.2.2.2.1, p1.2.2.2.2.1, p1.2.2.2.2.2.1, p1.2.2.2.2.2.2.1, p1.2.2.2.2.2.2.2.1, p1.2.2.2.2.2.2.2.2.1, p1.2.2.2.2.2.2.2.2.2.1, p1.2.2.2.2.2.2.2.2.2.2.1, p1.2.2.2.2.2.2.2.2.2.2.2.1, p1.2.2.2.2.2.2.2.2.2.2.2.2.1, p1.2.2.2.2.2.2.2.2.2.2.2.2.2.1, p1.2.2.2.2.2.2.2.2.2.2.2.2.2.2.1, p1.2.2.2.2.2.2.2.2.2.2.2.2.2.2.2]) (enc := Value.int .u32) Aa h3)).q fun a F => ?_
 refine qs F Aa (Ai F Aa).q fun a F => ?_
 obtain ⟨x37, h4, H⟩ := Ac H
 refine qs F Aa (Bc (v := Value.int .u32 x37) F YA Aa (fun w W => HV any w 0 p2 _ h4)) fun a F => ?_
 iterate 2 refine qs F Aa (Dr F Aa).q fun a F => ?_
 refine AA fun w W => ?_
 refine Ab ?_
 obtain ⟨o3, G3, K3⟩ := Ac H
 refine As (fun a w => ∃ x38 : Int, ∃ x39 : Int, ∃ x40 : Int, ∃ x41 : Int, ∃ x42 : Int, ∃ x43 : Int, ∃ x44 : Int, ∃ x45 : Int, ∃ x46 : Int, ∃ x47 : Int, ∃ x48 : Int, ∃ x49 : Int, ∃ x50 : Int, ∃ x51 : Int, ∃ x52 : Int, ∃ x53 : Int, some ((x38, x39, x40, x41, x42, x43, x44, x45, x46, x47, x48, x49, x50, x51, x52, x53)) = some o3 ∧ Fr 60 [] [(6, pp b2), (7, pp b3)] a ∧ sy Y w0 [(b3, [Jint x38, Jint x39, Jint x40, Jint x41, Jint x42, Jint x43, Jint x44, Jint x45, Jint x46, Jint x47, Jint x48, Jint x49, Jint x50, Jint x51, Jint x52, Jint x53]), (b2, (HM)), (b1, (IA p1))] [] w) ?_ ?_
 ·
  have H := G3
  refine vc tk 7 F W fun a w F W => ?_
  have W := W.frontM (i := 2) Aa Aa
  have W := W.frontM (i := 2) Aa Aa
  have W := W.frontM (i := 2) Aa Aa
  refine AN H (fun s a w => Fr 60 [] [(0, Jint p0), (4, pp b1), (6, pp b2), (7, pp b3), (9, .int .u32 s.1), (10, .int .u32 s.2.1), (27, Jint p0), (28, Jint s.2.2.1)] a ∧ sy Y w0 [(b3, [Jint s.2.2.2.1, Jint s.2.2.2.2.1, Jint s.2.2.2.2.2.1, Jint s.2.2.2.2.2.2.1, Jint s.2.2.2.2.2.2.2.1, Jint s.2.2.2.2.2.2.2.2.1, Jint s.2.2.2.2.2.2.2.2.2.1, Jint s.2.2.2.2.2.2.2.2.2.2.1, Jint s.2.2.2.2.2.2.2.2.2.2.2.1, Jint s.2.2.2.2.2.2.2.2.2.2.2.2.1, Jint s.2.2.2.2.2.2.2.2.2.2.2.2.2.1, Jint s.2.2.2.2.2.2.2.2.2.2.2.2.2.2.1, Jint s.2.2.2.2.2.2.2.2.2.2.2.2.2.2.2.1, Jint s.2.2.2.2.2.2.2.2.2.2.2.2.2.2.2.2.1, Jint s.2.2.2.2.2.2.2.2.2.2.2.2.2.2.2.2.2.1, Jint s.2.2.2.2.2.2.2.2.2.2.2.2.2.2.2.2.2.2]), (b2, (HM)), (b1, (IA p1))] [] w) ⟨F.ra Aa, W⟩ fun s o a w H L4 hR => ?_
  obtain ⟨x54, x55, x56, x57, x58, x59, x60, x61, x62, x63, x64, x65, x66, x67, x68, x69, x70, x71, x72⟩ := s
  obtain ⟨F, W⟩ := hR
  have F : Fr 60 [] [(0, Jint p0), (4, pp b1), (6, pp b2), (7, pp b3), (9, .int .u32 x54), (10, .int .u32 x55), (27, Jint p0), (28, Jint x56)] a := F
  have W : sy Y w0 [(b3, [Jint x57, Jint x58, Jint x59, Jint x60, Jint x61, Jint x62, Jint x63, Jint x64, Jint x65, Jint x66, Jint x67, Jint x68, Jint x69, Jint x70, Jint x71, Jint x72]), (b2, (HM)), (b1, (IA p1))] [] w := W
  rw [Cq] at H
  refine vc tk 6 F W fun a w F W => ?_
  refine AW F Aa H (fun F H => ?_) fun F H => ?_
  ·
   refine AE (Ab ?_)
   obtain ⟨o5, G5, K5⟩ := Ac H
   refine As (fun a w => ∃ x73 : Int, ∃ x74 : Int, ∃ x75 : Int, ∃ x76 : Int, ∃ x77 : Int, ∃ x78 : Int, ∃ x79 : Int, ∃ x80 : Int, ∃ x81 : Int, ∃ x82 : Int, ∃ x83 : Int, ∃ x84 : Int, ∃ x85 : Int, ∃ x86 : Int, ∃ x87 : Int, ∃ x88 : Int, ∃ x89 : Int, some ((x73, x74, x75, x76, x77, x78, x79, x80, x81, x82, x83, x84, x85, x86, x87, x88, x89)) = some o5 ∧ Fr 60 [] [(0, Jint p0), (4, pp b1), (6, pp b2), (7, pp b3), (9, .int .u32 x73), (10, .int .u32 (Ta .u32 x55 x54)), (27, Jint p0), (28, Jint x56)] a ∧ sy Y w0 [(b3, [Jint x74, Jint x75, Jint x76, Jint x77, Jint x78, Jint x79, Jint x80, Jint x81, Jint x82, Jint x83, Jint x84, Jint x85, Jint x86, Jint x87, Jint x88, Jint x89]), (b2, (HM)), (b1, (IA p1))] [] w) ?_ ?_
   ·
    have H := G5
    refine vc tk 12 F W fun a w F W => ?_
    obtain ⟨o6, G6, K6⟩ := Ac H
    refine As (fun a w => ∃ x90 : Int, ∃ x91 : Int, ∃ x92 : Int, ∃ x93 : Int, ∃ x94 : Int, ∃ x95 : Int, ∃ x96 : Int, ∃ x97 : Int, ∃ x98 : Int, ∃ x99 : Int, ∃ x100 : Int, ∃ x101 : Int, ∃ x102 : Int, ∃ x103 : Int, ∃ x104 : Int, ∃ x105 : Int, ∃ x106 : Int, some ((x90, x91, x92, x93, x94, x95, x96, x97, x98, x99, x100, x101, x102, x103, x104, x105, x106)) = some o6 ∧ Fr 60 [] [(0, Jint p0), (4, pp b1), (6, pp b2), (7, pp b3), (9, .int .u32 x54), (10, .int .u32 x55), (12, .int .u32 x90), (27, Jint p0), (28, Jint x56)] a ∧ sy Y w0 [(b3, [Jint x91, Jint x92, Jint x93, Jint x94, Jint x95, Jint x96, Jint x97, Jint x98, Jint x99, Jint x100, Jint x101, Jint x102, Jint x103, Jint x104, Jint x105, Jint x106]), (b2, (HM)), (b1, (IA p1))] [] w) ?_ ?_
    ·
     have H := G6
     refine vc tk 7 F W fun a w F W => ?_
     have W := W.frontM (i := 2) Aa Aa
     have W := W.frontM (i := 2) Aa Aa
     have W := W.frontM (i := 2) Aa Aa
     refine AN H (fun s a w => Fr 60 [] [(0, Jint p0), (4, pp b1), (6, pp b2), (7, pp b3), (9, .int .u32 x54), (10, .int .u32 x55), (11, Jint x56), (12, .int .u32 s.1), (27, Jint p0), (28, Jint x56), (31, Jint p0), (32, Jint s.2.1)] a ∧ sy Y w0 [(b3, [Jint s.2.2.1, Jint s.2.2.2.1, Jint s.2.2.2.2.1, Jint s.2.2.2.2.2.1, Jint s.2.2.2.2.2.2.1, Jint s.2.2.2.2.2.2.2.1, Jint s.2.2.2.2.2.2.2.2.1, Jint s.2.2.2.2.2.2.2.2.2.1, Jint s.2.2.2.2.2.2.2.2.2.2.1, Jint s.2.2.2.2.2.2.2.2.2.2.2.1, Jint s.2.2.2.2.2.2.2.2.2.2.2.2.1, Jint s.2.2.2.2.2.2.2.2.2.2.2.2.2.1, Jint s.2.2.2.2.2.2.2.2.2.2.2.2.2.2.1, Jint s.2.2.2.2.2.2.2.2.2.2.2.2.2.2.2.1, Jint s.2.2.2.2.2.2.2.2.2.2.2.2.2.2.2.2.1, Jint s.2.2.2.2.2.2.2.2.2.2.2.2.2.2.2.2.2]), (b2, (HM)), (b1, (IA p1))] [] w) ⟨F.ra Aa, W⟩ fun s o a w H L7 hR => ?_
     obtain ⟨x107, x108, x109, x110, x111, x112, x113, x114, x115, x116, x117, x118, x119, x120, x121, x122, x123, x124⟩ := s
     obtain ⟨F, W⟩ := hR
     have F : Fr 60 [] [(0, Jint p0), (4, pp b1), (6, pp b2), (7, pp b3), (9, .int .u32 x54), (10, .int .u32 x55), (11, Jint x56), (12, .int .u32 x107), (27, Jint p0), (28, Jint x56), (31, Jint p0), (32, Jint x108)] a := F
     have W : sy Y w0 [(b3, [Jint x109, Jint x110, Jint x111, Jint x112, Jint x113, Jint x114, Jint x115, Jint x116, Jint x117, Jint x118, Jint x119, Jint x120, Jint x121, Jint x122, Jint x123, Jint x124]), (b2, (HM)), (b1, (IA p1))] [] w := W
     rw [BT] at H
     refine vc tk 6 F W fun a w F W => ?_
     refine AW F Aa H (fun F H => ?_) fun F H => ?_
     ·
      refine AE (Ab ?_)
      obtain ⟨o8, G8, K8⟩ := Ac H
      refine As (fun a w => ∃ x125 : Int, ∃ x126 : Int, ∃ x127 : Int, ∃ x128 : Int, ∃ x129 : Int, ∃ x130 : Int, ∃ x131 : Int, ∃ x132 : Int, ∃ x133 : Int, ∃ x134 : Int, ∃ x135 : Int, ∃ x136 : Int, ∃ x137 : Int, ∃ x138 : Int, ∃ x139 : Int, ∃ x140 : Int, ∃ x141 : Int, some ((x125, x126, x127, x128, x129, x130, x131, x132, x133, x134, x135, x136, x137, x138, x139, x140, x141)) = some o8 ∧ Fr 60 [] [(0, Jint p0), (4, pp b1), (6, pp b2), (7, pp b3), (9, .int .u32 x54), (10, .int .u32 x55), (11, Jint x56), (12, .int .u32 x125), (27, Jint p0), (28, Jint x56), (31, Jint p0), (32, Jint x108)] a ∧ sy Y w0 [(b3, [Jint x126, Jint x127, Jint x128, Jint x129, Jint x130, Jint x131, Jint x132, Jint x133, Jint x134, Jint x135, Jint x136, Jint x137, Jint x138, Jint x139, Jint x140, Jint x141]), (b2, (HM)), (b1, (IA p1))] [] w) ?_ ?_
      ·
       have H := G8
       refine vc tk 7 F W fun a w F W => ?_
       obtain ⟨o9, G9, K9⟩ := Ac H
       refine As (fun a w => ∃ x142 : Bool, some (x142) = some o9 ∧ Fr 60 [] [(0, Jint p0), (4, pp b1), (6, pp b2), (7, pp b3), (9, .int .u32 x54), (10, .int .u32 x55), (11, Jint x56), (12, .int .u32 x107), (13, Jint x108), (27, Jint p0), (28, Jint x56), (31, Jint p0), (32, Jint x108), (43, .bool x142)] a ∧ sy Y w0 [(b3, [Jint x109, Jint x110, Jint x111, Jint x112, Jint x113, Jint x114, Jint x115, Jint x116, Jint x117, Jint x118, Jint x119, Jint x120, Jint x121, Jint x122, Jint x123, Jint x124]), (b2, (HM)), (b1, (IA p1))] [] w) ?_ ?_
       ·
        have H := G9
        refine vc tk 3 F W fun a w F W => ?_
        obtain ⟨x143, h5, H⟩ := Ac H
        refine ls F W Aa (Bc (v := Value.bool x143) F YH Aa (fun w W => Is any w x54 x108 _ h5)) fun a w F W => ?_
        refine ls F W Aa (Ai F Aa).q fun a w F W => ?_
        rcases bxq x143 with hb | hb
        ·
         have H := DU hb H
         rw [hb] at F
         refine vl tk 2 F W fun a w F W => ?_
         refine MI (Ad F Aa Aa Aa Aa) ?_
         obtain ⟨x144, h6, H⟩ := Ac H
         refine ls F W Aa (Bc (v := Value.bool x144) F YH Aa (fun w W => Is any w x55 x108 _ h6)) fun a w F W => ?_
         refine vl tk 3 F W fun a w F W => ?_
         refine Ab ?_
         have W := W.frontM (i := 2) Aa Aa
         have W := W.frontM (i := 2) Aa Aa
         have W := W.frontM (i := 2) Aa Aa
         exact ⟨_, H, F.ra Aa, W⟩
        have H := DS (by rw [hb]; decide) H
        rw [hb] at F
        refine vl tk 6 F W fun a w F W => ?_
        refine Ab ?_
        have W := W.frontM (i := 2) Aa Aa
        have W := W.frontM (i := 2) Aa Aa
        have W := W.frontM (i := 2) Aa Aa
        exact ⟨_, H, F.ra Aa, W⟩
       rintro a w ⟨x142, hj, F, W⟩
       have hj := Ay hj
       subst hj
       have H := K9
       refine CS F Aa H (fun F H => ?_) fun F H => ?_
       ·
        refine vc tk 5 F W fun a w F W => ?_
        obtain ⟨x145, h7, H⟩ := Ac H
        refine ls F W Aa (E9 (0 + (x108).toNat * 1) O6 F Aa Aa Aa h7 Aa).q fun a w F W => ?_
        refine Ib (o := 0) (m := 16) (i := x108) (l := ([x109, x110, x111, x112, x113, x114, x115, x116, x117, x118, x119, x120, x121, x122, x123, x124] : List Int)) (x := x145) (cs := [Jint x109, Jint x110, Jint x111, Jint x112, Jint x113, Jint x114, Jint x115, Jint x116, Jint x117, Jint x118, Jint x119, Jint x120, Jint x121, Jint x122, Jint x123, Jint x124]) (cs' := [Jint (if x108 = 0 then An (x56 + 1) else x109), Jint (if x108 = 1 then An (x56 + 1) else x110), Jint (if x108 = 2 then An (x56 + 1) else x111), Jint (if x108 = 3 then An (x56 + 1) else x112), Jint (if x108 = 4 then An (x56 + 1) else x113), Jint (if x108 = 5 then An (x56 + 1) else x114), Jint (if x108 = 6 then An (x56 + 1) else x115), Jint (if x108 = 7 then An (x56 + 1) else x116), Jint (if x108 = 8 then An (x56 + 1) else x117), Jint (if x108 = 9 then An (x56 + 1) else x118), Jint (if x108 = 10 then An (x56 + 1) else x119), Jint (if x108 = 11 then An (x56 + 1) else x120), Jint (if x108 = 12 then An (x56 + 1) else x121), Jint (if x108 = 13 then An (x56 + 1) else x122), Jint (if x108 = 14 then An (x56 + 1) else x123), Jint (if x108 = 15 then An (x56 + 1) else x124)]) 0 F W Aa Aa Aa T3 Aa Aa Aa Aa h7 (by intro k hk hn; rw [hk]; match k, hn with | 0, _ => rfl | 1, _ => rfl | 2, _ => rfl | 3, _ => rfl | 4, _ => rfl | 5, _ => rfl | 6, _ => rfl | 7, _ => rfl | 8, _ => rfl | 9, _ => rfl | 10, _ => rfl | 11, _ => rfl | 12, _ => rfl | 13, _ => rfl | 14, _ => rfl | 15, _ => rfl | (z + 16), h => exact absurd h (by omega)) fun w W => ?_
        have W : sy Y w0 [(b3, [Jint (if x108 = 0 then An (x56 + 1) else x109), Jint (if x108 = 1 then An (x56 + 1) else x110), Jint (if x108 = 2 then An (x56 + 1) else x111), Jint (if x108 = 3 then An (x56 + 1) else x112), Jint (if x108 = 4 then An (x56 + 1) else x113), Jint (if x108 = 5 then An (x56 + 1) else x114), Jint (if x108 = 6 then An (x56 + 1) else x115), Jint (if x108 = 7 then An (x56 + 1) else x116), Jint (if x108 = 8 then An (x56 + 1) else x117), Jint (if x108 = 9 then An (x56 + 1) else x118), Jint (if x108 = 10 then An (x56 + 1) else x119), Jint (if x108 = 11 then An (x56 + 1) else x120), Jint (if x108 = 12 then An (x56 + 1) else x121), Jint (if x108 = 13 then An (x56 + 1) else x122), Jint (if x108 = 14 then An (x56 + 1) else x123), Jint (if x108 = 15 then An (x56 + 1) else x124)]), (b2, (HM)), (b1, (IA p1))] [] w := W
        refine BQ tk 5 F W fun a w F W => ?_
        obtain ⟨x146, h8, H⟩ := Ac H
        refine ls F W Aa (E9 (0 + (x108).toNat * 1) Na F Aa Aa Aa h8 Aa).q fun a w F W => ?_
        refine ls F W Aa (Bx (v := Value.int .u32 x146) 2 F Aa Aa Qc (IK (base := 0) (m := 16) (l := [p1.1, p1.2.1, p1.2.2.1, p1.2.2.2.1, p1.2.2.2.2.1, p1.2.2.2.2.2.1, p1.2.2.2.2.2.2.1, p1.2.2.2.2.2.2.2.1, p1.2.2.2.2.2.2.2.2.1, p1.2.2.2.2.2.2.2.2.2.1, p1.2.2.2.2.2.2.2.2.2.2.1, p1.2.2.2.2.2.2.2.2.2.2.2.1, p1.2.2.2.2.2.2.2.2.2.2.2.2.1, p1.2.2.2.2.2.2.2.2.2.2.2.2.2.1, p1.2.2.2.2.2.2.2.2.2.2.2.2.2.2.1, p1.2.2.2.2.2.2.2.2.2.2.2.2.2.2.2]) (enc := Value.int .u32) Aa h8)).q fun a w F W => ?_
        refine vl tk 3 F W fun a w F W => ?_
        refine Aw (Ab ?_)
        have W := W.frontM (i := 2) Aa Aa
        have W := W.frontM (i := 2) Aa Aa
        have W := W.frontM (i := 2) Aa Aa
        exact ⟨_, _, _, _, _, _, _, _, _, _, _, _, _, _, _, _, _, H, F.ra Aa, W⟩
       refine AE (Aw (Ab ?_))
       have W := W.frontM (i := 2) Aa Aa
       have W := W.frontM (i := 2) Aa Aa
       have W := W.frontM (i := 2) Aa Aa
       exact ⟨_, _, _, _, _, _, _, _, _, _, _, _, _, _, _, _, _, H, F.ra Aa, W⟩
      rintro a w ⟨x125, x126, x127, x128, x129, x130, x131, x132, x133, x134, x135, x136, x137, x138, x139, x140, x141, hj, F, W⟩
      have hj := Ay hj
      subst hj
      have H := K8
      refine vc tk 4 F W fun a w F W => ?_
      refine Ab ?_
      have W := W.frontM (i := 2) Aa Aa
      have W := W.frontM (i := 2) Aa Aa
      have W := W.frontM (i := 2) Aa Aa
      exact ⟨_, H, F.ra Aa, W⟩
     refine AC ?_
     iterate 2 refine AR ?_
     refine AD (Ab ?_)
     have W := W.frontM (i := 2) Aa Aa
     have W := W.frontM (i := 2) Aa Aa
     have W := W.frontM (i := 2) Aa Aa
     have H := L7 _ H
     exact ⟨_, _, _, _, _, _, _, _, _, _, _, _, _, _, _, _, _, H, F.ra Aa, W⟩
    rintro a w ⟨x90, x91, x92, x93, x94, x95, x96, x97, x98, x99, x100, x101, x102, x103, x104, x105, x106, hj, F, W⟩
    have hj := Ay hj
    subst hj
    have H := K6
    refine vc tk 12 F W fun a w F W => ?_
    refine Aw (Ab ?_)
    have W := W.frontM (i := 2) Aa Aa
    have W := W.frontM (i := 2) Aa Aa
    have W := W.frontM (i := 2) Aa Aa
    exact ⟨_, _, _, _, _, _, _, _, _, _, _, _, _, _, _, _, _, H, F.ra Aa, W⟩
   rintro a w ⟨x73, x74, x75, x76, x77, x78, x79, x80, x81, x82, x83, x84, x85, x86, x87, x88, x89, hj, F, W⟩
   have hj := Ay hj
   subst hj
   have H := K5
   refine vc tk 4 F W fun a w F W => ?_
   refine Ab ?_
   have W := W.frontM (i := 2) Aa Aa
   have W := W.frontM (i := 2) Aa Aa
   have W := W.frontM (i := 2) Aa Aa
   exact ⟨_, H, F.ra Aa, W⟩
  refine AC ?_
  iterate 2 refine AR ?_
  refine AD (Ab ?_)
  have W := W.frontM (i := 2) Aa Aa
  have W := W.frontM (i := 2) Aa Aa
  have W := W.frontM (i := 2) Aa Aa
  have H := L4 _ H
  exact ⟨_, _, _, _, _, _, _, _, _, _, _, _, _, _, _, _, H, F.ra Aa, W⟩
 rintro a w ⟨x38, x39, x40, x41, x42, x43, x44, x45, x46, x47, x48, x49, x50, x51, x52, x53, hj, F, W⟩
 have hj := Ay hj
 subst hj
 have H := K3
 refine Jk tk 3 [0] F W (ai fun a w F W => ?_)
 refine Ej 1 F W Aa Aa Aa Uk Aa Aa Aa fun w W => ?_
 refine BQ tk 2 F W fun a w F W => ?_
 refine Ap ?_
 have H := Ay H
 subst H
 refine A1 (.inl Aa) F W Aa (IC 1 F Aa Aa Uk Aa) ?_
 exact ⟨rfl, W.done⟩
theorem cD : Has Tryz.prog 80 := Cv Tryz.func80
abbrev Qo (a0 : Nat) (a1 : Int × Int × Int × Int × Int × Int × Int × Int × Int × Int × Int × Int × Int × Int × Int × Int) : List (Nat × List Value) := [(a0, [Jint a1.1, Jint a1.2.1, Jint a1.2.2.1, Jint a1.2.2.2.1, Jint a1.2.2.2.2.1, Jint a1.2.2.2.2.2.1, Jint a1.2.2.2.2.2.2.1, Jint a1.2.2.2.2.2.2.2.1, Jint a1.2.2.2.2.2.2.2.2.1, Jint a1.2.2.2.2.2.2.2.2.2.1, Jint a1.2.2.2.2.2.2.2.2.2.2.1, Jint a1.2.2.2.2.2.2.2.2.2.2.2.1, Jint a1.2.2.2.2.2.2.2.2.2.2.2.2.1, Jint a1.2.2.2.2.2.2.2.2.2.2.2.2.2.1, Jint a1.2.2.2.2.2.2.2.2.2.2.2.2.2.2.1, Jint a1.2.2.2.2.2.2.2.2.2.2.2.2.2.2.2])]
def Cy (p0 : Int) (p1 : Int) (p2 : Int × Int × Int × Int × Int × Int × Int × Int × Int × Int × Int × Int × Int × Int × Int × Int) : (Int × Int) → Option ((Int × Int) ⊕ Int)
  | (x2, x3) => (if x3 < p0 then (((Ea p1 x3).bind fun x6 => (if x6 = true then (ix ([p2.1, p2.2.1, p2.2.2.1, p2.2.2.2.1, p2.2.2.2.2.1, p2.2.2.2.2.2.1, p2.2.2.2.2.2.2.1, p2.2.2.2.2.2.2.2.1, p2.2.2.2.2.2.2.2.2.1, p2.2.2.2.2.2.2.2.2.2.1, p2.2.2.2.2.2.2.2.2.2.2.1, p2.2.2.2.2.2.2.2.2.2.2.2.1, p2.2.2.2.2.2.2.2.2.2.2.2.2.1, p2.2.2.2.2.2.2.2.2.2.2.2.2.2.1, p2.2.2.2.2.2.2.2.2.2.2.2.2.2.2.1, p2.2.2.2.2.2.2.2.2.2.2.2.2.2.2.2] : List Int) x3).bind fun x7 => (if 0 ≤ x7 then (if x2 < 0 then some true else (ix ([p2.1, p2.2.1, p2.2.2.1, p2.2.2.2.1, p2.2.2.2.2.1, p2.2.2.2.2.2.1, p2.2.2.2.2.2.2.1, p2.2.2.2.2.2.2.2.1, p2.2.2.2.2.2.2.2.2.1, p2.2.2.2.2.2.2.2.2.2.1, p2.2.2.2.2.2.2.2.2.2.2.1, p2.2.2.2.2.2.2.2.2.2.2.2.1, p2.2.2.2.2.2.2.2.2.2.2.2.2.1, p2.2.2.2.2.2.2.2.2.2.2.2.2.2.1, p2.2.2.2.2.2.2.2.2.2.2.2.2.2.2.1, p2.2.2.2.2.2.2.2.2.2.2.2.2.2.2.2] : List Int) x3).bind fun x8 => (ix ([p2.1, p2.2.1, p2.2.2.1, p2.2.2.2.1, p2.2.2.2.2.1, p2.2.2.2.2.2.1, p2.2.2.2.2.2.2.1, p2.2.2.2.2.2.2.2.1, p2.2.2.2.2.2.2.2.2.1, p2.2.2.2.2.2.2.2.2.2.1, p2.2.2.2.2.2.2.2.2.2.2.1, p2.2.2.2.2.2.2.2.2.2.2.2.1, p2.2.2.2.2.2.2.2.2.2.2.2.2.1, p2.2.2.2.2.2.2.2.2.2.2.2.2.2.1, p2.2.2.2.2.2.2.2.2.2.2.2.2.2.2.1, p2.2.2.2.2.2.2.2.2.2.2.2.2.2.2.2] : List Int) x2).bind fun x9 => some (decide (x8 < x9))) else some false) else some false)).bind fun x5 => (if x5 = true then some x3 else some x2)).bind fun x4 => some (.inl (x4, An (x3 + 1))) else some (.inr x2))
def D8 (p0 : Int) (p1 : Int) (p2 : Int × Int × Int × Int × Int × Int × Int × Int × Int × Int × Int × Int × Int × Int × Int × Int) : Option Int := (Aq (Cy p0 p1 p2) ((-1), 0)).bind fun x1 => some x1
theorem Kt (Y : Nat → Prop) (w0 : World)  (p0 : Int) (p1 : Int) (p2 : Int × Int × Int × Int × Int × Int × Int × Int × Int × Int × Int × Int × Int × Int × Int × Int) (r : Int) (H : D8 p0 p1 p2 = some r)  :
    ca_ 82 #[Jint p0, .int .u32 p1, .agg #[Jint p2.1, Jint p2.2.1, Jint p2.2.2.1, Jint p2.2.2.2.1, Jint p2.2.2.2.2.1, Jint p2.2.2.2.2.2.1, Jint p2.2.2.2.2.2.2.1, Jint p2.2.2.2.2.2.2.2.1, Jint p2.2.2.2.2.2.2.2.2.1, Jint p2.2.2.2.2.2.2.2.2.2.1, Jint p2.2.2.2.2.2.2.2.2.2.2.1, Jint p2.2.2.2.2.2.2.2.2.2.2.2.1, Jint p2.2.2.2.2.2.2.2.2.2.2.2.2.1, Jint p2.2.2.2.2.2.2.2.2.2.2.2.2.2.1, Jint p2.2.2.2.2.2.2.2.2.2.2.2.2.2.2.1, Jint p2.2.2.2.2.2.2.2.2.2.2.2.2.2.2.2]] w0 fun e w' => e = .returned (Jint r) ∧ Below w0.heap.size w0 w' := by
 refine enter Tryz.func82 Aa Tryz.ntmps82 Aa fun a F => ?_
 have W := Stw.start Y w0
 unfold D8 at H
 refine vc tk 2 F W fun a w F W => ?_
 refine D3 (cs := [Jint p2.1, Jint p2.2.1, Jint p2.2.2.1, Jint p2.2.2.2.1, Jint p2.2.2.2.2.1, Jint p2.2.2.2.2.2.1, Jint p2.2.2.2.2.2.2.1, Jint p2.2.2.2.2.2.2.2.1, Jint p2.2.2.2.2.2.2.2.2.1, Jint p2.2.2.2.2.2.2.2.2.2.1, Jint p2.2.2.2.2.2.2.2.2.2.2.1, Jint p2.2.2.2.2.2.2.2.2.2.2.2.1, Jint p2.2.2.2.2.2.2.2.2.2.2.2.2.1, Jint p2.2.2.2.2.2.2.2.2.2.2.2.2.2.1, Jint p2.2.2.2.2.2.2.2.2.2.2.2.2.2.2.1, Jint p2.2.2.2.2.2.2.2.2.2.2.2.2.2.2.2]) F W Aa Aa Aa fun b1 a w F W => ?_
 refine BQ tk 8 F W fun a w F W => ?_
 obtain ⟨o1, G1, K1⟩ := Ac H
 refine As (fun a w => ∃ x1 : Int, some (x1) = some o1 ∧ Fr 38 [] [(6, Jint 0), (7, Jint x1)] a ∧ sy Y w0 (Qo b1 p2) [] w) ?_ ?_
 ·
  have H := G1
  refine vc tk 7 F W fun a w F W => ?_
  refine AN H (fun s a w => Fr 38 [] [(1, .int .u32 p1), (5, pp b1), (6, Jint 0), (7, Jint s.1), (9, Jint p0), (10, Jint s.2)] a ∧ sy Y w0 (Qo b1 p2) [] w) ⟨F.ra Aa, W⟩ fun s o a w H L2 hR => ?_
  obtain ⟨x2, x3⟩ := s
  obtain ⟨F, W⟩ := hR
  have F : Fr 38 [] [(1, .int .u32 p1), (5, pp b1), (6, Jint 0), (7, Jint x2), (9, Jint p0), (10, Jint x3)] a := F
  have W : sy Y w0 (Qo b1 p2) [] w := W
  rw [Cy] at H
  refine vc tk 6 F W fun a w F W => ?_
  refine AW F Aa H (fun F H => ?_) fun F H => ?_
  ·
   refine AE (Ab ?_)
   obtain ⟨o3, G3, K3⟩ := Ac H
   refine As (fun a w => ∃ x4 : Int, some (x4) = some o3 ∧ Fr 38 [] [(1, .int .u32 p1), (5, pp b1), (6, Jint 0), (7, Jint x4), (9, Jint p0), (10, Jint x3)] a ∧ sy Y w0 (Qo b1 p2) [] w) ?_ ?_
   ·
    have H := G3
    refine vc tk 7 F W fun a w F W => ?_
    obtain ⟨o4, G4, K4⟩ := Ac H
    refine As (fun a w => ∃ x5 : Bool, some (x5) = some o4 ∧ Fr 38 [] [(1, .int .u32 p1), (5, pp b1), (6, Jint 0), (7, Jint x2), (8, Jint x3), (9, Jint p0), (10, Jint x3), (34, .bool x5)] a ∧ sy Y w0 (Qo b1 p2) [] w) ?_ ?_
    ·
     have H := G4
     refine Bz W MO (by kernel_rfl) ?_
     iterate 2 refine qs F Aa (Ai F Aa).q fun a F => ?_
     obtain ⟨x6, h1, H⟩ := Ac H
     refine qs F Aa (Bc (v := Value.bool x6) F YH Aa (fun w W => Is any w p1 x3 _ h1)) fun a F => ?_
     refine qs F Aa (Ai F Aa).q fun a F => ?_
     rcases bxq x6 with hb | hb
     ·
      have H := DU hb H
      rw [hb] at F
      refine AZ F (Ad F Aa Aa Aa Aa) Aa (Ao Aa) (Ai F Aa).q fun a F => ?_
      obtain ⟨x7, h2, H⟩ := Ac H
      refine AZ F (Ad F Aa Aa Aa Aa) Aa (Ao Aa) (E9 (0 + (x3).toNat * 1) O6 F Aa Aa Aa h2 Aa).q fun a F => ?_
      refine AZ F (Ad F Aa Aa Aa Aa) Aa (Ao Aa) (Bx (v := Jint x7) 0 F Aa Aa T3 (IK (base := 0) (m := 16) (l := [p2.1, p2.2.1, p2.2.2.1, p2.2.2.2.1, p2.2.2.2.2.1, p2.2.2.2.2.2.1, p2.2.2.2.2.2.2.1, p2.2.2.2.2.2.2.2.1, p2.2.2.2.2.2.2.2.2.1, p2.2.2.2.2.2.2.2.2.2.1, p2.2.2.2.2.2.2.2.2.2.2.1, p2.2.2.2.2.2.2.2.2.2.2.2.1, p2.2.2.2.2.2.2.2.2.2.2.2.2.1, p2.2.2.2.2.2.2.2.2.2.2.2.2.2.1, p2.2.2.2.2.2.2.2.2.2.2.2.2.2.2.1, p2.2.2.2.2.2.2.2.2.2.2.2.2.2.2.2]) (enc := Value.int .i64) Aa h2)).q fun a F => ?_
      refine AZ F (Ad F Aa Aa Aa Aa) Aa (Ao Aa) (V3 F Aa Aa).q fun a F => ?_
      refine qs F Aa (C4 F Aa Aa Aa).q fun a F => ?_
      refine qs F Aa (Ai F Aa).q fun a F => ?_
      rcases bxq (decide (0 ≤ x7)) with hb | hb
      ·
       have H := DU (Fa hb) H
       rw [hb] at F
       refine AZ F (Ad F Aa Aa Aa Aa) Aa (Ao Aa) (Ai F Aa).q fun a F => ?_
       refine AZ F (Ad F Aa Aa Aa Aa) Aa (Ao Aa) (GV F Aa Aa).q fun a F => ?_
       refine AZ F (Ad F Aa Aa Aa Aa) Aa (Ao Aa) (Ai F Aa).q fun a F => ?_
       rcases bxq (decide (x2 < 0)) with hb | hb
       ·
        have H := DU (Fa hb) H
        rw [hb] at F
        iterate 7 refine Dn F (CX F Aa Aa Aa Aa Aa) Aa Aa fun a F => ?_
        refine AZ F (Ad F Aa Aa Aa Aa) Aa (Ao Aa) (C4 F Aa Aa Aa).q fun a F => ?_
        refine qs F Aa (C4 F Aa Aa Aa).q fun a F => ?_
        refine AA fun w W => ?_
        refine Ab ?_
        exact ⟨_, H, F.ra Aa, W⟩
       have H := DS (E4 hb) H
       rw [hb] at F
       refine AZ F (Ad F Aa Aa Aa Aa) Aa (Ao Aa) (Ai F Aa).q fun a F => ?_
       obtain ⟨x8, h3, H⟩ := Ac H
       refine AZ F (Ad F Aa Aa Aa Aa) Aa (Ao Aa) (E9 (0 + (x3).toNat * 1) O6 F Aa Aa Aa h3 Aa).q fun a F => ?_
       refine AZ F (Ad F Aa Aa Aa Aa) Aa (Ao Aa) (Bx (v := Jint x8) 0 F Aa Aa T3 (IK (base := 0) (m := 16) (l := [p2.1, p2.2.1, p2.2.2.1, p2.2.2.2.1, p2.2.2.2.2.1, p2.2.2.2.2.2.1, p2.2.2.2.2.2.2.1, p2.2.2.2.2.2.2.2.1, p2.2.2.2.2.2.2.2.2.1, p2.2.2.2.2.2.2.2.2.2.1, p2.2.2.2.2.2.2.2.2.2.2.1, p2.2.2.2.2.2.2.2.2.2.2.2.1, p2.2.2.2.2.2.2.2.2.2.2.2.2.1, p2.2.2.2.2.2.2.2.2.2.2.2.2.2.1, p2.2.2.2.2.2.2.2.2.2.2.2.2.2.2.1, p2.2.2.2.2.2.2.2.2.2.2.2.2.2.2.2]) (enc := Value.int .i64) Aa h3)).q fun a F => ?_
       refine AZ F (Ad F Aa Aa Aa Aa) Aa (Ao Aa) (Ai F Aa).q fun a F => ?_
       obtain ⟨x9, h4, H⟩ := Ac H
       refine AZ F (Ad F Aa Aa Aa Aa) Aa (Ao Aa) (E9 (0 + (x2).toNat * 1) O6 F Aa Aa Aa h4 Aa).q fun a F => ?_
       refine AZ F (Ad F Aa Aa Aa Aa) Aa (Ao Aa) (Bx (v := Jint x9) 0 F Aa Aa T3 (IK (base := 0) (m := 16) (l := [p2.1, p2.2.1, p2.2.2.1, p2.2.2.2.1, p2.2.2.2.2.1, p2.2.2.2.2.2.1, p2.2.2.2.2.2.2.1, p2.2.2.2.2.2.2.2.1, p2.2.2.2.2.2.2.2.2.1, p2.2.2.2.2.2.2.2.2.2.1, p2.2.2.2.2.2.2.2.2.2.2.1, p2.2.2.2.2.2.2.2.2.2.2.2.1, p2.2.2.2.2.2.2.2.2.2.2.2.2.1, p2.2.2.2.2.2.2.2.2.2.2.2.2.2.1, p2.2.2.2.2.2.2.2.2.2.2.2.2.2.2.1, p2.2.2.2.2.2.2.2.2.2.2.2.2.2.2.2]) (enc := Value.int .i64) Aa h4)).q fun a F => ?_
       refine AZ F (Ad F Aa Aa Aa Aa) Aa (Ao Aa) (GV F Aa Aa).q fun a F => ?_
       refine AZ F (Ad F Aa Aa Aa Aa) Aa (Ao Aa) (Dw F Aa Aa Aa).q fun a F => ?_
       refine qs F Aa (C4 F Aa Aa Aa).q fun a F => ?_
       refine AA fun w W => ?_
       refine Ab ?_
       exact ⟨_, H, F.ra Aa, W⟩
      have H := DS (E4 hb) H
      rw [hb] at F
      iterate 3 refine Dn F (CX F Aa Aa Aa Aa Aa) Aa Aa fun a F => ?_
      iterate 7 refine Dn F (Ko F Aa Aa Aa Aa) Aa Aa fun a F => ?_
      refine Dn F (CX F Aa Aa Aa Aa Aa) Aa Aa fun a F => ?_
      refine qs F Aa (Dw F Aa Aa Aa).q fun a F => ?_
      refine AA fun w W => ?_
      refine Ab ?_
      exact ⟨_, H, F.ra Aa, W⟩
     have H := DS (by rw [hb]; decide) H
     rw [hb] at F
     iterate 4 refine Dn F (CX F Aa Aa Aa Aa Aa) Aa Aa fun a F => ?_
     refine qs F Aa (Dw F Aa Aa Aa).q fun a F => ?_
     refine qs F Aa (Ai F Aa).q fun a F => ?_
     iterate 3 refine Dn F (CX F Aa Aa Aa Aa Aa) Aa Aa fun a F => ?_
     iterate 7 refine Dn F (Ko F Aa Aa Aa Aa) Aa Aa fun a F => ?_
     refine Dn F (CX F Aa Aa Aa Aa Aa) Aa Aa fun a F => ?_
     refine qs F Aa (Dw F Aa Aa Aa).q fun a F => ?_
     refine AA fun w W => ?_
     refine Ab ?_
     exact ⟨_, H, F.ra Aa, W⟩
    rintro a w ⟨x5, hj, F, W⟩
    have hj := Ay hj
    subst hj
    have H := K4
    refine CS F Aa H (fun F H => ?_) fun F H => ?_
    ·
     refine vc tk 4 F W fun a w F W => ?_
     refine Aw (Ab ?_)
     exact ⟨_, H, F.ra Aa, W⟩
    refine AE (Aw (Ab ?_))
    exact ⟨_, H, F.ra Aa, W⟩
   rintro a w ⟨x4, hj, F, W⟩
   have hj := Ay hj
   subst hj
   have H := K3
   refine vc tk 4 F W fun a w F W => ?_
   refine Ab ?_
   exact ⟨_, H, F.ra Aa, W⟩
  refine AC ?_
  iterate 2 refine AR ?_
  refine AD (Ab ?_)
  have H := L2 _ H
  exact ⟨_, H, F.ra Aa, W⟩
 rintro a w ⟨x1, hj, F, W⟩
 have hj := Ay hj
 subst hj
 have H := K1
 refine vc tk 6 F W fun a w F W => ?_
 refine Ap ?_
 have H := Ay H
 subst H
 refine A1 (.inl Aa) F W Aa (Am F Aa) ?_
 exact ⟨rfl, W.done⟩
theorem Zm : Has Tryz.prog 82 := Cv Tryz.func82
abbrev QT (a0 : Nat) (a1 : (Int × Int × Int × Int × Int × Int × Int × Int × Int × Int × Int × Int × Int × Int × Int × Int)) : List (Nat × List Value) := [(a0, [.int .u32 a1.1, .int .u32 a1.2.1, .int .u32 a1.2.2.1, .int .u32 a1.2.2.2.1, .int .u32 a1.2.2.2.2.1, .int .u32 a1.2.2.2.2.2.1, .int .u32 a1.2.2.2.2.2.2.1, .int .u32 a1.2.2.2.2.2.2.2.1, .int .u32 a1.2.2.2.2.2.2.2.2.1, .int .u32 a1.2.2.2.2.2.2.2.2.2.1, .int .u32 a1.2.2.2.2.2.2.2.2.2.2.1, .int .u32 a1.2.2.2.2.2.2.2.2.2.2.2.1, .int .u32 a1.2.2.2.2.2.2.2.2.2.2.2.2.1, .int .u32 a1.2.2.2.2.2.2.2.2.2.2.2.2.2.1, .int .u32 a1.2.2.2.2.2.2.2.2.2.2.2.2.2.2.1, .int .u32 a1.2.2.2.2.2.2.2.2.2.2.2.2.2.2.2])]
abbrev Qu (a0 : Nat) (a1 : (Int × Int × Int × Int × Int × Int × Int × Int × Int × Int × Int × Int × Int × Int × Int × Int)) (a2 : Nat) (a3 : (Int × Int × Int × Int × Int × Int × Int × Int × Int × Int × Int × Int × Int × Int × Int × Int)) : List (Nat × List Value) := [(a0, [Jint a1.1, Jint a1.2.1, Jint a1.2.2.1, Jint a1.2.2.2.1, Jint a1.2.2.2.2.1, Jint a1.2.2.2.2.2.1, Jint a1.2.2.2.2.2.2.1, Jint a1.2.2.2.2.2.2.2.1, Jint a1.2.2.2.2.2.2.2.2.1, Jint a1.2.2.2.2.2.2.2.2.2.1, Jint a1.2.2.2.2.2.2.2.2.2.2.1, Jint a1.2.2.2.2.2.2.2.2.2.2.2.1, Jint a1.2.2.2.2.2.2.2.2.2.2.2.2.1, Jint a1.2.2.2.2.2.2.2.2.2.2.2.2.2.1, Jint a1.2.2.2.2.2.2.2.2.2.2.2.2.2.2.1, Jint a1.2.2.2.2.2.2.2.2.2.2.2.2.2.2.2]), (a2, [.int .u32 a3.1, .int .u32 a3.2.1, .int .u32 a3.2.2.1, .int .u32 a3.2.2.2.1, .int .u32 a3.2.2.2.2.1, .int .u32 a3.2.2.2.2.2.1, .int .u32 a3.2.2.2.2.2.2.1, .int .u32 a3.2.2.2.2.2.2.2.1, .int .u32 a3.2.2.2.2.2.2.2.2.1, .int .u32 a3.2.2.2.2.2.2.2.2.2.1, .int .u32 a3.2.2.2.2.2.2.2.2.2.2.1, .int .u32 a3.2.2.2.2.2.2.2.2.2.2.2.1, .int .u32 a3.2.2.2.2.2.2.2.2.2.2.2.2.1, .int .u32 a3.2.2.2.2.2.2.2.2.2.2.2.2.2.1, .int .u32 a3.2.2.2.2.2.2.2.2.2.2.2.2.2.2.1, .int .u32 a3.2.2.2.2.2.2.2.2.2.2.2.2.2.2.2])]
def Ff (p0 : Int) (x2 : (Int × Int × Int × Int × Int × Int × Int × Int × Int × Int × Int × Int × Int × Int × Int × Int)) (x3 : Int) (x5 : (Int × Int × Int × Int × Int × Int × Int × Int × Int × Int × Int × Int × Int × Int × Int × Int)) : (List Int × Int) → Option ((List Int × Int) ⊕ (List Int))
  | (x9, x10) => (if x10 ≠ x3 then (HN x9 ([x10] : List Int)).bind fun x11 => (ix ([x2.1, x2.2.1, x2.2.2.1, x2.2.2.2.1, x2.2.2.2.2.1, x2.2.2.2.2.2.1, x2.2.2.2.2.2.2.1, x2.2.2.2.2.2.2.2.1, x2.2.2.2.2.2.2.2.2.1, x2.2.2.2.2.2.2.2.2.2.1, x2.2.2.2.2.2.2.2.2.2.2.1, x2.2.2.2.2.2.2.2.2.2.2.2.1, x2.2.2.2.2.2.2.2.2.2.2.2.2.1, x2.2.2.2.2.2.2.2.2.2.2.2.2.2.1, x2.2.2.2.2.2.2.2.2.2.2.2.2.2.2.1, x2.2.2.2.2.2.2.2.2.2.2.2.2.2.2.2] : List Int) x10).bind fun x12 => (D8 p0 x12 x5).bind fun x13 => some (.inl (x11, x13)) else some (.inr x9))
def F4 (p0 : Int) (p1 : List (Int × Int)) (x2 : (Int × Int × Int × Int × Int × Int × Int × Int × Int × Int × Int × Int × Int × Int × Int × Int)) : Int → Option (Int ⊕ (Unit ⊕ (List Int)))
  | x3 => (if x3 < p0 then GT ((DH p1).bind fun x4 => (Em p0 x4 x3).bind fun x5 => (ix ([x2.1, x2.2.1, x2.2.2.1, x2.2.2.2.1, x2.2.2.2.2.1, x2.2.2.2.2.2.1, x2.2.2.2.2.2.2.1, x2.2.2.2.2.2.2.2.1, x2.2.2.2.2.2.2.2.2.1, x2.2.2.2.2.2.2.2.2.2.1, x2.2.2.2.2.2.2.2.2.2.2.1, x2.2.2.2.2.2.2.2.2.2.2.2.1, x2.2.2.2.2.2.2.2.2.2.2.2.2.1, x2.2.2.2.2.2.2.2.2.2.2.2.2.2.1, x2.2.2.2.2.2.2.2.2.2.2.2.2.2.2.1, x2.2.2.2.2.2.2.2.2.2.2.2.2.2.2.2] : List Int) x3).bind fun x6 => (D8 p0 x6 x5).bind fun x7 => (if x7 < 0 then some (.inl ()) else (Aq (Ff p0 x2 x3 x5) (([x3] : List Int), x7)).bind fun x8 => some (.inr (.inr (.inr x8))))) fun _ => some (.inl (An (x3 + 1))) else some (.inr (.inl ())))
def Er (p0 : Int) (p1 : List (Int × Int)) : Option (List Int) := (Gr p0 p1).bind fun x1 => (if (!x1) = true then some ([] : List Int) else (D5 p1).bind fun x2 => GT (Aq (F4 p0 p1 x2) 0) fun _ => some ([] : List Int))
theorem Pl (Y : Nat → Prop) (w0 : World) (v1 : Value) (p0 : Int) (p1 : List (Int × Int)) (r : List Int) (H : Er p0 p1 = some r) (h_v1 : Sl w0 (NX []) HF v1 p1) :
    ca_ 59 #[Jint p0, v1] w0 fun e w' => ∃ x : Value, e = .returned (x) ∧ sy Y w0 [] [row (x) 3 ri r] w' := by
 refine enter Tryz.func59 Aa Tryz.ntmps59 Aa fun a F => ?_
 have W := Stw.start Y w0
 unfold Er at H
 refine vc tk 10 F W fun a w F W => ?_
 obtain ⟨x1, h1, H⟩ := Ac H
 refine ls F W Aa (Bc (v := Value.bool x1) F Z0 Aa (fun w W => OR any w (v1) p0 p1 _ h1 (EJ (Ae h_v1) W))) fun a w F W => ?_
 refine BQ tk 3 F W fun a w F W => ?_
 refine CS F Aa H (fun F H => ?_) fun F H => ?_
 ·
  refine vc tk 5 F W fun a w F W => ?_
  refine Ap (AF ?_)
  have H := Ay H
  subst H
  refine A1 (.inl Aa) F W Aa (Am F Aa) ?_
  have W := W.nilRow 3 ri
  exact ⟨(Value.slice none 0 0), Aa, W⟩
 refine FL tk 5 F W fun a w F W => ?_
 obtain ⟨x2, h2, H⟩ := Ac H
 refine ls F W Aa (Bc (v := Value.agg #[.int .u32 x2.1, .int .u32 x2.2.1, .int .u32 x2.2.2.1, .int .u32 x2.2.2.2.1, .int .u32 x2.2.2.2.2.1, .int .u32 x2.2.2.2.2.2.1, .int .u32 x2.2.2.2.2.2.2.1, .int .u32 x2.2.2.2.2.2.2.2.1, .int .u32 x2.2.2.2.2.2.2.2.2.1, .int .u32 x2.2.2.2.2.2.2.2.2.2.1, .int .u32 x2.2.2.2.2.2.2.2.2.2.2.1, .int .u32 x2.2.2.2.2.2.2.2.2.2.2.2.1, .int .u32 x2.2.2.2.2.2.2.2.2.2.2.2.2.1, .int .u32 x2.2.2.2.2.2.2.2.2.2.2.2.2.2.1, .int .u32 x2.2.2.2.2.2.2.2.2.2.2.2.2.2.2.1, .int .u32 x2.2.2.2.2.2.2.2.2.2.2.2.2.2.2.2]) F aD Aa (fun w W => LL any w (v1) p1 _ h2 (EJ (Ae h_v1) W))) fun a w F W => ?_
 refine B6 (cs := (I0)) F W Aa T2 Aa fun b1 a w F W => ?_
 refine Ej 0 F W Aa Aa Aa Ti Aa Aa Aa fun w W => ?_
 refine FC (Ab ?_)
 obtain ⟨o1, G1, K1, L1⟩ := Md H
 refine As (fun a w => some (Sum.inl ()) = some o1 ∧ Fr 52 [] [(4, .slice none 0 0)] a ∧ sy Y w0 (QT b1 x2) [] w) ?_ ?_
 ·
  have H := G1
  refine vc tk 7 F W fun a w F W => ?_
  refine AN H (fun s a w => Fr 52 [] [(0, Jint p0), (1, v1), (4, .slice none 0 0), (5, pp b1), (17, Jint p0), (18, Jint s)] a ∧ sy Y w0 (QT b1 x2) [] w) ⟨F.ra Aa, W⟩ fun s o a w H L2 hR => ?_
  obtain ⟨x3, rfl⟩ : ∃ x, x = s := ⟨s, rfl⟩
  obtain ⟨F, W⟩ := hR
  have F : Fr 52 [] [(0, Jint p0), (1, v1), (4, .slice none 0 0), (5, pp b1), (17, Jint p0), (18, Jint x3)] a := F
  have W : sy Y w0 (QT b1 x2) [] w := W
  rw [F4] at H
  refine vc tk 6 F W fun a w F W => ?_
  refine AW F Aa H (fun F H => ?_) fun F H => ?_
  ·
   refine AE (Ab ?_)
   obtain ⟨o3, G3, K3, L3⟩ := Md H
   refine As (fun a w => some (Sum.inl ()) = some o3 ∧ Fr 52 [] [(0, Jint p0), (1, v1), (4, .slice none 0 0), (5, pp b1), (17, Jint p0), (18, Jint x3)] a ∧ sy Y w0 (QT b1 x2) [] w) ?_ ?_
   ·
    have H := G3
    refine vc tk 11 F W fun a w F W => ?_
    obtain ⟨x4, h3, H⟩ := Ac H
    refine ls F W Aa (Bc (v := Value.agg #[.int .u32 x4.1, .int .u32 x4.2.1, .int .u32 x4.2.2.1, .int .u32 x4.2.2.2.1, .int .u32 x4.2.2.2.2.1, .int .u32 x4.2.2.2.2.2.1, .int .u32 x4.2.2.2.2.2.2.1, .int .u32 x4.2.2.2.2.2.2.2.1, .int .u32 x4.2.2.2.2.2.2.2.2.1, .int .u32 x4.2.2.2.2.2.2.2.2.2.1, .int .u32 x4.2.2.2.2.2.2.2.2.2.2.1, .int .u32 x4.2.2.2.2.2.2.2.2.2.2.2.1, .int .u32 x4.2.2.2.2.2.2.2.2.2.2.2.2.1, .int .u32 x4.2.2.2.2.2.2.2.2.2.2.2.2.2.1, .int .u32 x4.2.2.2.2.2.2.2.2.2.2.2.2.2.2.1, .int .u32 x4.2.2.2.2.2.2.2.2.2.2.2.2.2.2.2]) F ZW Aa (fun w W => KX any w (v1) p1 _ h3 (EJ (Ae h_v1) W))) fun a w F W => ?_
    refine ls F W Aa (Ai F Aa).q fun a w F W => ?_
    obtain ⟨x5, h4, H⟩ := Ac H
    refine ls F W Aa (Bc (v := Value.agg #[Jint x5.1, Jint x5.2.1, Jint x5.2.2.1, Jint x5.2.2.2.1, Jint x5.2.2.2.2.1, Jint x5.2.2.2.2.2.1, Jint x5.2.2.2.2.2.2.1, Jint x5.2.2.2.2.2.2.2.1, Jint x5.2.2.2.2.2.2.2.2.1, Jint x5.2.2.2.2.2.2.2.2.2.1, Jint x5.2.2.2.2.2.2.2.2.2.2.1, Jint x5.2.2.2.2.2.2.2.2.2.2.2.1, Jint x5.2.2.2.2.2.2.2.2.2.2.2.2.1, Jint x5.2.2.2.2.2.2.2.2.2.2.2.2.2.1, Jint x5.2.2.2.2.2.2.2.2.2.2.2.2.2.2.1, Jint x5.2.2.2.2.2.2.2.2.2.2.2.2.2.2.2]) F cD Aa (fun w W => Mr any w p0 x4 x3 _ h4)) fun a w F W => ?_
    refine B6 (cs := (HM)) F W Aa WE Aa fun b2 a w F W => ?_
    refine Ej 0 F W Aa Aa Aa Uk Aa Aa Aa fun w W => ?_
    refine BQ tk 3 F W fun a w F W => ?_
    refine Bz W MO (by kernel_rfl) ?_
    iterate 2 refine qs F Aa (Ai F Aa).q fun a F => ?_
    obtain ⟨x6, h5, H⟩ := Ac H
    refine qs F Aa (E9 (0 + (x3).toNat * 1) Na F Aa Aa Aa h5 Aa).q fun a F => ?_
    refine qs F Aa (Bx (v := Value.int .u32 x6) 1 F Aa Aa Qc (IK (base := 0) (m := 16) (l := [x2.1, x2.2.1, x2.2.2.1, x2.2.2.2.1, x2.2.2.2.2.1, x2.2.2.2.2.2.1, x2.2.2.2.2.2.2.1, x2.2.2.2.2.2.2.2.1, x2.2.2.2.2.2.2.2.2.1, x2.2.2.2.2.2.2.2.2.2.1, x2.2.2.2.2.2.2.2.2.2.2.1, x2.2.2.2.2.2.2.2.2.2.2.2.1, x2.2.2.2.2.2.2.2.2.2.2.2.2.1, x2.2.2.2.2.2.2.2.2.2.2.2.2.2.1, x2.2.2.2.2.2.2.2.2.2.2.2.2.2.2.1, x2.2.2.2.2.2.2.2.2.2.2.2.2.2.2.2]) (enc := Value.int .u32) Aa h5)).q fun a F => ?_
    refine qs F Aa (Bx (v := Value.agg #[Jint x5.1, Jint x5.2.1, Jint x5.2.2.1, Jint x5.2.2.2.1, Jint x5.2.2.2.2.1, Jint x5.2.2.2.2.2.1, Jint x5.2.2.2.2.2.2.1, Jint x5.2.2.2.2.2.2.2.1, Jint x5.2.2.2.2.2.2.2.2.1, Jint x5.2.2.2.2.2.2.2.2.2.1, Jint x5.2.2.2.2.2.2.2.2.2.2.1, Jint x5.2.2.2.2.2.2.2.2.2.2.2.1, Jint x5.2.2.2.2.2.2.2.2.2.2.2.2.1, Jint x5.2.2.2.2.2.2.2.2.2.2.2.2.2.1, Jint x5.2.2.2.2.2.2.2.2.2.2.2.2.2.2.1, Jint x5.2.2.2.2.2.2.2.2.2.2.2.2.2.2.2]) 0 F Aa Aa Uk Aa).q fun a F => ?_
    obtain ⟨x7, h6, H⟩ := Ac H
    refine qs F Aa (Bc (v := Jint x7) F Zm Aa (fun w W => Kt any w p0 x6 x5 _ h6)) fun a F => ?_
    refine qs F Aa (Dr F Aa).q fun a F => ?_
    refine AA fun w W => ?_
    refine vn tk 7 F W fun a w F W => ?_
    refine AW F Aa H (fun F H => ?_) fun F H => ?_
    ·
     refine AC (AR (AD (Ab ?_)))
     have W := W.frontM (i := 1) Aa Aa
     have W := W.sub (M' := (QT b1 x2)) (Z' := []) (sc nl) sr
     exact ⟨H, F.ra Aa, W⟩
    refine FL tk 5 F W fun a w F W => ?_
    refine D7 (z := Jint 0) (cs := [Jint x3]) ri ([x3] : List Int) F W Aa EM Z3 Aa Aa Aa Aa Aa Aa (Fl.int.repL _ _ ([x3] : List Int)) fun v2 a w F W => ?_
    refine vl tk 2 F W fun a w F W => ?_
    refine Ab ?_
    obtain ⟨o4, G4, K4⟩ := Ac H
    refine As (fun a w => ∃ x8 : List Int, ∃ v3 : Value, some (x8) = some o4 ∧ Fr 52 [] [(0, Jint p0), (1, v1), (4, .slice none 0 0), (5, pp b1), (9, v3), (17, Jint p0), (18, Jint x3)] a ∧ sy Y w0 (Qu b2 x5 b1 x2) [row v3 3 ri x8] w) ?_ ?_
    ·
     have H := G4
     refine vc tk 7 F W fun a w F W => ?_
     have W := W.frontM (i := 1) Aa Aa
     have W := W.frontM (i := 1) Aa Aa
     refine AN H (fun s a w => ∃ v4 : Value, Fr 52 [] [(0, Jint p0), (1, v1), (4, .slice none 0 0), (5, pp b1), (6, Jint x3), (7, pp b2), (9, v4), (10, Jint s.2), (17, Jint p0), (18, Jint x3)] a ∧ sy Y w0 (Qu b2 x5 b1 x2) [row v4 3 ri s.1] w) ⟨(v2), F.ra Aa, W⟩ fun s o a w H L5 hR => ?_
     obtain ⟨x9, x10⟩ := s
     obtain ⟨v4, F, W⟩ := hR
     have F : Fr 52 [] [(0, Jint p0), (1, v1), (4, .slice none 0 0), (5, pp b1), (6, Jint x3), (7, pp b2), (9, v4), (10, Jint x10), (17, Jint p0), (18, Jint x3)] a := F
     have W : sy Y w0 (Qu b2 x5 b1 x2) [row v4 3 ri x9] w := W
     rw [Ff] at H
     refine vc tk 8 F W fun a w F W => ?_
     refine AW F Aa H (fun F H => ?_) fun F H => ?_
     ·
      refine FL tk 7 F W fun a w F W => ?_
      refine D7 (z := Jint 0) (cs := [Jint x10]) ri ([x10] : List Int) F W Aa EM Z3 Aa Aa Aa Aa Aa Aa (Fl.int.repL _ _ ([x10] : List Int)) fun v5 a w F W => ?_
      obtain ⟨x11, h7, H⟩ := Ac H
      refine Di (r := ri) (i := 1) F W Aa EM Aa Aa Aa Aa (D1 W 0 Aa) h7 Aa fun v6 a w F W => ?_
      have W : sy Y w0 (Qu b2 x5 b1 x2) [row v6 3 ri x11, row v5 3 ri ([x10] : List Int)] w := W
      refine vl tk 2 F W fun a w F W => ?_
      refine Aw (Ab ?_)
      refine Bz W MO (by kernel_rfl) ?_
      iterate 2 refine qs F Aa (Ai F Aa).q fun a F => ?_
      obtain ⟨x12, h8, H⟩ := Ac H
      refine qs F Aa (E9 (0 + (x10).toNat * 1) Na F Aa Aa Aa h8 Aa).q fun a F => ?_
      refine qs F Aa (Bx (v := Value.int .u32 x12) 1 F Aa Aa Qc (IK (base := 0) (m := 16) (l := [x2.1, x2.2.1, x2.2.2.1, x2.2.2.2.1, x2.2.2.2.2.1, x2.2.2.2.2.2.1, x2.2.2.2.2.2.2.1, x2.2.2.2.2.2.2.2.1, x2.2.2.2.2.2.2.2.2.1, x2.2.2.2.2.2.2.2.2.2.1, x2.2.2.2.2.2.2.2.2.2.2.1, x2.2.2.2.2.2.2.2.2.2.2.2.1, x2.2.2.2.2.2.2.2.2.2.2.2.2.1, x2.2.2.2.2.2.2.2.2.2.2.2.2.2.1, x2.2.2.2.2.2.2.2.2.2.2.2.2.2.2.1, x2.2.2.2.2.2.2.2.2.2.2.2.2.2.2.2]) (enc := Value.int .u32) Aa h8)).q fun a F => ?_
      refine qs F Aa (Bx (v := Value.agg #[Jint x5.1, Jint x5.2.1, Jint x5.2.2.1, Jint x5.2.2.2.1, Jint x5.2.2.2.2.1, Jint x5.2.2.2.2.2.1, Jint x5.2.2.2.2.2.2.1, Jint x5.2.2.2.2.2.2.2.1, Jint x5.2.2.2.2.2.2.2.2.1, Jint x5.2.2.2.2.2.2.2.2.2.1, Jint x5.2.2.2.2.2.2.2.2.2.2.1, Jint x5.2.2.2.2.2.2.2.2.2.2.2.1, Jint x5.2.2.2.2.2.2.2.2.2.2.2.2.1, Jint x5.2.2.2.2.2.2.2.2.2.2.2.2.2.1, Jint x5.2.2.2.2.2.2.2.2.2.2.2.2.2.2.1, Jint x5.2.2.2.2.2.2.2.2.2.2.2.2.2.2.2]) 0 F Aa Aa Uk Aa).q fun a F => ?_
      obtain ⟨x13, h9, H⟩ := Ac H
      refine qs F Aa (Bc (v := Jint x13) F Zm Aa (fun w W => Kt any w p0 x12 x5 _ h9)) fun a F => ?_
      refine qs F Aa (Dr F Aa).q fun a F => ?_
      refine AA fun w W => ?_
      refine Ab ?_
      have W := W.frontM (i := 1) Aa Aa
      have W := W.frontM (i := 1) Aa Aa
      have W := W.sub (M' := (Qu b2 x5 b1 x2)) (Z' := [row v6 3 ri x11]) sr (sc nl)
      exact ⟨_, H, (v6), F.ra Aa, W⟩
     refine AC ?_
     iterate 2 refine AR ?_
     refine AD (Ab ?_)
     have W := W.frontM (i := 1) Aa Aa
     have W := W.frontM (i := 1) Aa Aa
     have H := L5 _ H
     exact ⟨_, (v4), H, F.ra Aa, W⟩
    rintro a w ⟨x8, v3, hj, F, W⟩
    have hj := Ay hj
    subst hj
    have H := K4
    refine vc tk 6 F W fun a w F W => ?_
    refine Ap (AV ?_)
    iterate 2 refine AF ?_
    refine AV (AF ?_)
    have H := L3 _ H
    have H := L2 _ H
    have H := L1 _ H
    have H := Ay H
    subst H
    refine A1 (.inl Aa) F W Aa (Am F Aa) ?_
    have W := W.sub (M' := []) (Z' := [row v3 3 ri x8]) nl sr
    exact ⟨(v3), Aa, W⟩
   rintro a w ⟨hj, F, W⟩
   have H := K3 _ hj
   refine vc tk 4 F W fun a w F W => ?_
   refine Ab ?_
   exact ⟨_, H, F.ra Aa, W⟩
  refine AC ?_
  iterate 2 refine AR ?_
  refine AD (Ab ?_)
  have H := L2 _ H
  exact ⟨H, F.ra Aa, W⟩
 rintro a w ⟨hj, F, W⟩
 have H := K1 _ hj
 refine vc tk 5 F W fun a w F W => ?_
 refine Ap ?_
 have H := Ay H
 subst H
 refine A1 (.inl Aa) F W Aa (Am F Aa) ?_
 have W := W.nilRow 3 ri
 have W := W.sub (M' := []) (Z' := [row (Value.slice none 0 0) 3 ri ([])]) nl sr
 exact ⟨(Value.slice none 0 0), Aa, W⟩
theorem bQ : Has Tryz.prog 59 := Cv Tryz.func59
def CA (p0 : (Int × (List (Int × Int × Int × Int × Int × Int)) × (List (Int × Int))) × List (List Int) × List (List Int) × ((List (Int × Int × Int × Int)) × (List (Int × Int × List Int)) × Int × Int × Int × Int)) (p3 : Int) (x5 : Int) (x9 : List Int) : ((List (Int × Int)) × Bool × Int) → Option (((List (Int × Int)) × Bool × Int) ⊕ ((List (Int × Int)) × Bool))
  | (x10, x11, x12) => (if x12 < (x9.length : Int) then ((ix x9 x12).bind fun x15 => (F5 p0.1 x5 x15).bind fun x16 => (if x16.2.2.2 = true then (HN x10 ([(x5, x16.1)] : List (Int × Int))).bind fun x17 => some (x17, x11) else (EE p0.1 x5 x15).bind fun x18 => (if x18 ≠ p3 then some (x10, true) else some (x10, x11)))).bind fun (x13, x14) => some (.inl (x13, x14, An (x12 + 1))) else some (.inr (x10, x11)))
def C0 (p0 : (Int × (List (Int × Int × Int × Int × Int × Int)) × (List (Int × Int))) × List (List Int) × List (List Int) × ((List (Int × Int × Int × Int)) × (List (Int × Int × List Int)) × Int × Int × Int × Int)) (p1 : List (List (List Int))) (p3 : Int) : ((List (Int × Int)) × Bool × Int) → Option (((List (Int × Int)) × Bool × Int) ⊕ ((List (Int × Int)) × Bool))
  | (x3, x4, x5) => (if x5 < (p1.length : Int) then ((ix p1 x5).bind fun x8 => (ix x8 p3).bind fun x9 => Aq (CA p0 p3 x5 x9) (x3, x4, 0)).bind fun (x6, x7) => some (.inl (x6, x7, An (x5 + 1))) else some (.inr (x3, x4)))
def Dx (p0 : (Int × (List (Int × Int × Int × Int × Int × Int)) × (List (Int × Int))) × List (List Int) × List (List Int) × ((List (Int × Int × Int × Int)) × (List (Int × Int × List Int)) × Int × Int × Int × Int)) (p1 : List (List (List Int))) (p2 : Int) (p3 : Int) : Option (List (Int × Int × Int)) := (Aq (C0 p0 p1 p3) ([], false, 0)).bind fun (x1, x2) => (if x2 = true then (HN ([] : List (Int × Int × Int)) ([(5, p2, p3)] : List (Int × Int × Int))).bind fun x20 => some x20 else some ([])).bind fun x19 => ((Er p0.1.1 x1).bind fun x22 => (if 0 < (x22.length : Int) then (HN x19 ([(6, p2, p3)] : List (Int × Int × Int))).bind fun x23 => some x23 else some x19)).bind fun x21 => some x21
theorem Kz (Y : Nat → Prop) (w0 : World) (v1 : Value) (v2 : Value) (v3 : Value) (v4 : Value) (v5 : Value) (v6 : Value) (v7 : Value) (p0 : (Int × (List (Int × Int × Int × Int × Int × Int)) × (List (Int × Int))) × List (List Int) × List (List Int) × ((List (Int × Int × Int × Int)) × (List (Int × Int × List Int)) × Int × Int × Int × Int)) (p1 : List (List (List Int))) (p2 : Int) (p3 : Int) (r : (List (Int × Int × Int))) (H : Dx p0 p1 p2 p3 = some r) (h_v1 : Sl w0 (NX []) IP v1 p0.1.2.1) (h_v2 : Sl w0 (NX []) IE v2 p0.1.2.2) (h_v3 : Sl w0 (NX []) (Rp.slice ri) v3 p0.2.1) (h_v4 : Sl w0 (NX []) (Rp.slice ri) v4 p0.2.2.1) (h_v5 : Sl w0 (NX []) AY v5 p0.2.2.2.1) (h_v6 : Sl w0 (NX []) GO v6 p0.2.2.2.2.1) (h_v7 : Sl w0 (NX []) (Rp.slice (Rp.slice ri)) v7 p1) :
    ca_ 39 #[.agg #[Jint p0.1.1, v1, v2, v3, v4, v5, v6, Jint p0.2.2.2.2.2.1, Jint p0.2.2.2.2.2.2.1, Jint p0.2.2.2.2.2.2.2.1, Jint p0.2.2.2.2.2.2.2.2], v7, Jint p2, Jint p3] w0 fun e w' => ∃ x : Value, e = .returned (x) ∧ sy Y w0 [] [row (x) 41 CI r] w' := by
 refine enter Tryz.func39 Aa Tryz.ntmps39 Aa fun a F => ?_
 have W := Stw.start Y w0
 obtain ⟨v8, h1, h_v3⟩ := h_v3.ex CK
 obtain ⟨v9, h2, h_v4⟩ := h_v4.ex CK
 obtain ⟨v10, h3, h_v6⟩ := h_v6.ex Gh
 obtain ⟨v11, h4, h_v7⟩ := h_v7.ex Xu
 unfold Dx at H
 refine vc tk 2 F W fun a w F W => ?_
 refine D3 (cs := (DP p0 v1 v2 v3 v4 v5 v6)) F W Aa Aa Aa fun b1 a w F W => ?_
 refine BQ tk 18 F W fun a w F W => ?_
 obtain ⟨o1, G1, K1⟩ := Ac H
 refine As (fun a w => ∃ x1 : List (Int × Int), ∃ x2 : Bool, ∃ v12 : Value, some ((x1, x2)) = some o1 ∧ Fr 83 [] [(2, Jint p2), (3, Jint p3), (4, pp b1), (8, .slice none 0 0), (9, .slice none 0 0), (10, v12), (11, .bool x2)] a ∧ sy Y w0 (C3 b1 p0 v1 v2 v3 v4 v5 v6) [row v12 108 HF x1] w) ?_ ?_
 ·
  have H := G1
  refine vc tk 3 F W fun a w F W => ?_
  refine ls F W Aa (BP (r := (Rp.slice (Rp.slice ri))) (l := p1) XJ Aa F Aa (AL Xu h4 (Ae h_v7))).q fun a w F W => ?_
  refine BQ tk 4 F W fun a w F W => ?_
  have W := W.nilRow 108 HF
  refine AN H (fun s a w => ∃ v13 : Value, Fr 83 [] [(2, Jint p2), (3, Jint p3), (4, pp b1), (8, .slice none 0 0), (9, .slice none 0 0), (10, v13), (11, .bool s.2.1), (20, v7), (21, Jint (p1.length : Int)), (22, Jint s.2.2)] a ∧ sy Y w0 (C3 b1 p0 v1 v2 v3 v4 v5 v6) [row v13 108 HF s.1] w) ⟨(Value.slice none 0 0), F.ra Aa, W⟩ fun s o a w H L2 hR => ?_
  obtain ⟨x3, x4, x5⟩ := s
  obtain ⟨v13, F, W⟩ := hR
  have F : Fr 83 [] [(2, Jint p2), (3, Jint p3), (4, pp b1), (8, .slice none 0 0), (9, .slice none 0 0), (10, v13), (11, .bool x4), (20, v7), (21, Jint (p1.length : Int)), (22, Jint x5)] a := F
  have W : sy Y w0 (C3 b1 p0 v1 v2 v3 v4 v5 v6) [row v13 108 HF x3] w := W
  rw [C0] at H
  refine vc tk 6 F W fun a w F W => ?_
  refine AW F Aa H (fun F H => ?_) fun F H => ?_
  ·
   refine AE (Ab ?_)
   obtain ⟨o3, G3, K3⟩ := Ac H
   refine As (fun a w => ∃ x6 : List (Int × Int), ∃ x7 : Bool, ∃ v14 : Value, some ((x6, x7)) = some o3 ∧ Fr 83 [] [(2, Jint p2), (3, Jint p3), (4, pp b1), (8, .slice none 0 0), (9, .slice none 0 0), (10, v14), (11, .bool x7), (20, v7), (21, Jint (p1.length : Int)), (22, Jint x5)] a ∧ sy Y w0 (C3 b1 p0 v1 v2 v3 v4 v5 v6) [row v14 108 HF x6] w) ?_ ?_
   ·
    have H := G3
    refine vc tk 4 F W fun a w F W => ?_
    obtain ⟨x8, h5, H⟩ := Ac H
    obtain ⟨v15, h6, h7⟩ := EP h4 h5
    have h8 : W3 v15 = [(v15.1)] := congrArg (fun q : List (List Int) => ([(v15.1)] : List Value)) h7
    refine ls F W Aa (Al (r := (Rp.vsl (Rp.vsl ri))) Xi F Aa Aa (Ae h_v7) h6).q fun a w F W => ?_
    refine ls F W Aa (Ag (y := (v15.1)) (j := 0) (i := x5) (enc := W3) F Aa Aa (Ae h_v7) h6 Y0 Xn (by rw [h8]; rfl)).q fun a w F W => ?_
    refine BQ tk 8 F W fun a w F W => ?_
    obtain ⟨x9, h9, H⟩ := Ac H
    obtain ⟨v16, h10, h11⟩ := EP (congrArg (fun q : List (List Int) => q) h7) h9
    have h12 : Hh v16 = [(v16.1)] := congrArg (fun q : List Int => ([(v16.1)] : List Value)) h11
    refine ls F W Aa (Al (r := (Rp.vsl ri)) XO F Aa Aa (C9 (Ae h_v7) h6 DA.here Aa) h10).q fun a w F W => ?_
    refine ls F W Aa (Ag (y := (v16.1)) (j := 0) (i := p3) (enc := Hh) F Aa Aa (C9 (Ae h_v7) h6 DA.here Aa) h10 LC NJ (by rw [h12]; rfl)).q fun a w F W => ?_
    refine ls F W Aa (BP (r := ri) (l := x9) Jc Aa F Aa (C9 (C9 (Ae h_v7) h6 DA.here Aa) h10 DA.here (congrArg (fun q : List Int => q) h11))).q fun a w F W => ?_
    refine BQ tk 4 F W fun a w F W => ?_
    refine AN H (fun s a w => ∃ v17 : Value, Fr 83 [] [(2, Jint p2), (3, Jint p3), (4, pp b1), (8, .slice none 0 0), (9, .slice none 0 0), (10, v17), (11, .bool s.2.1), (12, Jint x5), (20, v7), (21, Jint (p1.length : Int)), (22, Jint x5), (30, (v16.1)), (31, Jint (x9.length : Int)), (32, Jint s.2.2)] a ∧ sy Y w0 (C3 b1 p0 v1 v2 v3 v4 v5 v6) [row v17 108 HF s.1] w) ⟨(v13), F.ra Aa, W⟩ fun s o a w H L4 hR => ?_
    obtain ⟨x10, x11, x12⟩ := s
    obtain ⟨v17, F, W⟩ := hR
    have F : Fr 83 [] [(2, Jint p2), (3, Jint p3), (4, pp b1), (8, .slice none 0 0), (9, .slice none 0 0), (10, v17), (11, .bool x11), (12, Jint x5), (20, v7), (21, Jint (p1.length : Int)), (22, Jint x5), (30, (v16.1)), (31, Jint (x9.length : Int)), (32, Jint x12)] a := F
    have W : sy Y w0 (C3 b1 p0 v1 v2 v3 v4 v5 v6) [row v17 108 HF x10] w := W
    rw [CA] at H
    refine vc tk 6 F W fun a w F W => ?_
    refine AW F Aa H (fun F H => ?_) fun F H => ?_
    ·
     refine AE (Ab ?_)
     obtain ⟨o5, G5, K5⟩ := Ac H
     refine As (fun a w => ∃ x13 : List (Int × Int), ∃ x14 : Bool, ∃ v18 : Value, some ((x13, x14)) = some o5 ∧ Fr 83 [] [(2, Jint p2), (3, Jint p3), (4, pp b1), (8, .slice none 0 0), (9, .slice none 0 0), (10, v18), (11, .bool x14), (12, Jint x5), (20, v7), (21, Jint (p1.length : Int)), (22, Jint x5), (30, (v16.1)), (31, Jint (x9.length : Int)), (32, Jint x12)] a ∧ sy Y w0 (C3 b1 p0 v1 v2 v3 v4 v5 v6) [row v18 108 HF x13] w) ?_ ?_
     ·
      have H := G5
      refine vc tk 3 F W fun a w F W => ?_
      obtain ⟨x15, h13, H⟩ := Ac H
      refine ls F W Aa (Al (r := ri) EM F Aa Aa (C9 (C9 (Ae h_v7) h6 DA.here Aa) h10 DA.here (congrArg (fun q : List Int => q) h11)) h13).q fun a w F W => ?_
      refine ls F W Aa (Ag (y := Jint x15) (j := 0) (i := x12) F Aa Aa (C9 (C9 (Ae h_v7) h6 DA.here Aa) h10 DA.here (congrArg (fun q : List Int => q) h11)) h13 Fl.int.to T3 Aa).q fun a w F W => ?_
      refine Ii tk 9 [0] F W (ai fun a w F W => ?_)
      obtain ⟨x16, h14, H⟩ := Ac H
      refine ls F W Aa (Bc (v := Value.tuple #[Jint x16.1, Jint x16.2.1, Jint x16.2.2.1, .bool x16.2.2.2]) F ZJ Aa (fun w W => Nk any w (v1) (v2) p0.1 x5 x15 _ h14 (EJ (Ae h_v1) W) (EJ (Ae h_v2) W))) fun a w F W => ?_
      refine ls F W Aa (Ai F Aa).q fun a w F W => ?_
      refine ls F W Aa (Bi (v := Jint x16.1) F Aa Aa).q fun a w F W => ?_
      refine ls F W Aa (Bi (v := Jint x16.2.1) F Aa Aa).q fun a w F W => ?_
      refine ls F W Aa (Bi (v := Jint x16.2.2.1) F Aa Aa).q fun a w F W => ?_
      refine ls F W Aa (Bi (v := Value.bool x16.2.2.2) F Aa Aa).q fun a w F W => ?_
      refine BQ tk 11 F W fun a w F W => ?_
      refine Gv F Aa (fun hb => ?_) fun hb => ?_
      ·
       have H := DU hb H
       rw [hb] at F
       refine vc tk 4 F W fun a w F W => ?_
       refine ls F W Aa (B9 (v := Value.agg #[Jint x5, Jint x16.1]) YB F Aa Aa Aa).q fun a w F W => ?_
       refine D7 (z := Value.agg #[Jint 0, Jint 0]) (cs := [Jint x5, Jint x16.1]) HF ([(x5, x16.1)] : List (Int × Int)) F W Aa TS UN Aa Aa Aa Aa Aa Aa (UX.repL _ _ ([(x5, x16.1)] : List (Int × Int))) fun v19 a w F W => ?_
       obtain ⟨x17, h15, H⟩ := Ac H
       refine Di (r := HF) (i := 1) F W Aa TS Aa Aa Aa Aa (D1 W 0 Aa) h15 Aa fun v20 a w F W => ?_
       have W : sy Y w0 (C3 b1 p0 v1 v2 v3 v4 v5 v6) [row v20 108 HF x17, row v19 108 HF ([(x5, x16.1)] : List (Int × Int))] w := W
       refine vl tk 2 F W fun a w F W => ?_
       refine Aw (Ab ?_)
       have W := W.sub (M' := (C3 b1 p0 v1 v2 v3 v4 v5 v6)) (Z' := [row v20 108 HF x17]) sr (sc nl)
       exact ⟨_, _, (v20), H, F.ra Aa, W⟩
      have H := DS (by rw [hb]; decide) H
      rw [hb] at F
      refine Jk tk 6 [0] F W (ai fun a w F W => ?_)
      obtain ⟨x18, h16, H⟩ := Ac H
      refine ls F W Aa (Bc (v := Jint x18) F ZE Aa (fun w W => Lu any w (v1) (v2) p0.1 x5 x15 _ h16 (EJ (Ae h_v1) W) (EJ (Ae h_v2) W))) fun a w F W => ?_
      refine BQ tk 4 F W fun a w F W => ?_
      refine AW F Aa H (fun F H => ?_) fun F H => ?_
      ·
       refine vc tk 3 F W fun a w F W => ?_
       refine Aw (Ab ?_)
       exact ⟨_, _, (v17), H, F.ra Aa, W⟩
      refine AE (Aw (Ab ?_))
      exact ⟨_, _, (v17), H, F.ra Aa, W⟩
     rintro a w ⟨x13, x14, v18, hj, F, W⟩
     have hj := Ay hj
     subst hj
     have H := K5
     refine vc tk 4 F W fun a w F W => ?_
     refine Ab ?_
     exact ⟨_, H, (v18), F.ra Aa, W⟩
    refine AC ?_
    iterate 2 refine AR ?_
    refine AD (Aw (Ab ?_))
    have H := L4 _ H
    exact ⟨_, _, (v17), H, F.ra Aa, W⟩
   rintro a w ⟨x6, x7, v14, hj, F, W⟩
   have hj := Ay hj
   subst hj
   have H := K3
   refine vc tk 4 F W fun a w F W => ?_
   refine Ab ?_
   exact ⟨_, H, (v14), F.ra Aa, W⟩
  refine AC ?_
  iterate 2 refine AR ?_
  refine AD (Ab ?_)
  have H := L2 _ H
  exact ⟨_, _, (v13), H, F.ra Aa, W⟩
 rintro a w ⟨x1, x2, v12, hj, F, W⟩
 have hj := Ay hj
 subst hj
 have H := K1
 obtain ⟨o6, G6, K6⟩ := Ac H
 refine As (fun a w => ∃ x19 : List (Int × Int × Int), ∃ v21 : Value, some (x19) = some o6 ∧ Fr 83 [] [(2, Jint p2), (3, Jint p3), (4, pp b1), (8, .slice none 0 0), (9, v21), (10, v12)] a ∧ sy Y w0 (C3 b1 p0 v1 v2 v3 v4 v5 v6) [row v21 41 CI x19, row v12 108 HF x1] w) ?_ ?_
 ·
  have H := G6
  refine vc tk 5 F W fun a w F W => ?_
  refine Gv F Aa (fun hb => ?_) fun hb => ?_
  ·
   have H := DU hb H
   rw [hb] at F
   refine vc tk 4 F W fun a w F W => ?_
   refine ls F W Aa (B9 (v := Value.agg #[Jint 5, Jint p2, Jint p3]) Vt F Aa Aa Aa).q fun a w F W => ?_
   refine D7 (z := Value.agg #[Jint 0, Jint 0, Jint 0]) (cs := [Jint 5, Jint p2, Jint p3]) CI ([(5, p2, p3)] : List (Int × Int × Int)) F W Aa PW WY Aa Aa Aa Aa Aa Aa (UH.repL _ _ ([(5, p2, p3)] : List (Int × Int × Int))) fun v22 a w F W => ?_
   have W := W.nilRow 41 CI
   obtain ⟨x20, h17, H⟩ := Ac H
   refine Di (r := CI) (i := 0) F W Aa PW Aa Aa Aa Aa (D1 W 1 Aa) h17 Aa fun v23 a w F W => ?_
   have W : sy Y w0 (C3 b1 p0 v1 v2 v3 v4 v5 v6) [row v23 41 CI x20, row v22 41 CI ([(5, p2, p3)] : List (Int × Int × Int)), row v12 108 HF x1] w := W
   refine vl tk 2 F W fun a w F W => ?_
   refine Ab ?_
   have W := W.frontZ (i := 2) Aa Aa
   have W := W.frontZ (i := 1) Aa Aa
   have W := W.sub (M' := (C3 b1 p0 v1 v2 v3 v4 v5 v6)) (Z' := [row v23 41 CI x20, row v12 108 HF x1]) sr (sc (sc nl))
   exact ⟨_, (v23), H, F.ra Aa, W⟩
  have H := DS (by rw [hb]; decide) H
  rw [hb] at F
  refine AE (Ab ?_)
  have W := W.nilRow 41 CI
  have W := W.frontZ (i := 1) Aa Aa
  have W := W.frontZ (i := 1) Aa Aa
  exact ⟨_, (Value.slice none 0 0), H, F.ra Aa, W⟩
 rintro a w ⟨x19, v21, hj, F, W⟩
 have hj := Ay hj
 subst hj
 have H := K6
 obtain ⟨o7, G7, K7⟩ := Ac H
 refine As (fun a w => ∃ x21 : List (Int × Int × Int), ∃ v24 : Value, some (x21) = some o7 ∧ Fr 83 [] [(8, .slice none 0 0), (9, v24)] a ∧ sy Y w0 (C3 b1 p0 v1 v2 v3 v4 v5 v6) [row v24 41 CI x21] w) ?_ ?_
 ·
  have H := G7
  refine Jk tk 6 [0] F W (ai fun a w F W => ?_)
  obtain ⟨x22, h18, H⟩ := Ac H
  refine A9 (Ml := []) (Zl := []) (β := Value) (rv := fun x => x) (MM := fun x => []) (ZZ := fun x => [row x 3 ri x22]) F W bQ Aa Aa (fun hL => Pl _ w (v12) p0.1.1 x1 _ h18 ((Af 1 Aa) w W).nx) fun x a w F W => ?_
  obtain ⟨v25, rfl⟩ : ∃ y, y = x := ⟨x, rfl⟩
  have W : sy Y w0 (C3 b1 p0 v1 v2 v3 v4 v5 v6) [row v25 3 ri x22, row v21 41 CI x19, row v12 108 HF x1] w := W
  refine ls F W Aa (BP (r := ri) (l := x22) Jc Aa F Aa (Af 0 Aa)).q fun a w F W => ?_
  refine BQ tk 3 F W fun a w F W => ?_
  refine AW F Aa H (fun F H => ?_) fun F H => ?_
  ·
   refine vc tk 4 F W fun a w F W => ?_
   refine ls F W Aa (B9 (v := Value.agg #[Jint 6, Jint p2, Jint p3]) Vt F Aa Aa Aa).q fun a w F W => ?_
   refine D7 (z := Value.agg #[Jint 0, Jint 0, Jint 0]) (cs := [Jint 6, Jint p2, Jint p3]) CI ([(6, p2, p3)] : List (Int × Int × Int)) F W Aa PW WY Aa Aa Aa Aa Aa Aa (UH.repL _ _ ([(6, p2, p3)] : List (Int × Int × Int))) fun v26 a w F W => ?_
   obtain ⟨x23, h19, H⟩ := Ac H
   refine Di (r := CI) (i := 2) F W Aa PW Aa Aa Aa Aa (D1 W 0 Aa) h19 Aa fun v27 a w F W => ?_
   have W : sy Y w0 (C3 b1 p0 v1 v2 v3 v4 v5 v6) [row v27 41 CI x23, row v26 41 CI ([(6, p2, p3)] : List (Int × Int × Int)), row v25 3 ri x22, row v12 108 HF x1] w := W
   refine vl tk 2 F W fun a w F W => ?_
   refine Ab ?_
   have W := W.sub (M' := (C3 b1 p0 v1 v2 v3 v4 v5 v6)) (Z' := [row v27 41 CI x23]) sr (sc nl)
   exact ⟨_, (v27), H, F.ra Aa, W⟩
  refine AE (Ab ?_)
  have W := W.frontZ (i := 1) Aa Aa
  have W := W.sub (M' := (C3 b1 p0 v1 v2 v3 v4 v5 v6)) (Z' := [row v21 41 CI x19]) sr (sc nl)
  exact ⟨_, (v21), H, F.ra Aa, W⟩
 rintro a w ⟨x21, v24, hj, F, W⟩
 have hj := Ay hj
 subst hj
 have H := K7
 refine vc tk 6 F W fun a w F W => ?_
 refine Ap ?_
 have H := Ay H
 subst H
 refine A1 (.inl Aa) F W Aa (Am F Aa) ?_
 have W := W.sub (M' := []) (Z' := [row v24 41 CI x21]) nl sr
 exact ⟨(v24), Aa, W⟩
end
end Go.Proofs.YthhoflfhegfmcaaGreat
