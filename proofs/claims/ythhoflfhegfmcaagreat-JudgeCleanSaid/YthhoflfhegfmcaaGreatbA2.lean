/- The functions of layer 25, JD. Conditions: none. -/
import Derived.Test.YthhoflfhegfmcaaGreatbA1
namespace Go.Proofs.YthhoflfhegfmcaaGreat
open Go Go.RowKit
set_option linter.unusedVariables false
set_option linter.unusedSimpArgs false
set_option maxRecDepth 20000
set_option maxHeartbeats 1600000
theorem aQ : Has Tryz.prog 79 := Cu Tryz.func79
noncomputable def Cq (p0 : List (Int × Int)) : (Int × Int × Int × Int × Int × Int × Int × Int × Int × Int × Int × Int × Int × Int × Int × Int × Int) → Option ((Int × Int × Int × Int × Int × Int × Int × Int × Int × Int × Int × Int × Int × Int × Int × Int × Int) ⊕ (Int × Int × Int × Int × Int × Int × Int × Int × Int × Int × Int × Int × Int × Int × Int × Int))
  | (x17, x18, x19, x20, x21, x22, x23, x24, x25, x26, x27, x28, x29, x30, x31, x32, x33) => (if x17 < (p0.length : Int) then (ix p0 x17).bind fun x34 => (ix ([x18, x19, x20, x21, x22, x23, x24, x25, x26, x27, x28, x29, x30, x31, x32, x33] : List Int) x34.2).bind fun x35 => (C6 x35 x34.1).bind fun x36 => (ix ([x18, x19, x20, x21, x22, x23, x24, x25, x26, x27, x28, x29, x30, x31, x32, x33] : List Int) x34.2).bind fun x37 => some (.inl (An (x17 + 1), (if x34.2 = 0 then x36 else x18), (if x34.2 = 1 then x36 else x19), (if x34.2 = 2 then x36 else x20), (if x34.2 = 3 then x36 else x21), (if x34.2 = 4 then x36 else x22), (if x34.2 = 5 then x36 else x23), (if x34.2 = 6 then x36 else x24), (if x34.2 = 7 then x36 else x25), (if x34.2 = 8 then x36 else x26), (if x34.2 = 9 then x36 else x27), (if x34.2 = 10 then x36 else x28), (if x34.2 = 11 then x36 else x29), (if x34.2 = 12 then x36 else x30), (if x34.2 = 13 then x36 else x31), (if x34.2 = 14 then x36 else x32), (if x34.2 = 15 then x36 else x33))) else some (.inr (x18, x19, x20, x21, x22, x23, x24, x25, x26, x27, x28, x29, x30, x31, x32, x33)))
noncomputable def DH (p0 : List (Int × Int)) : Option (Int × Int × Int × Int × Int × Int × Int × Int × Int × Int × Int × Int × Int × Int × Int × Int) := (Ap (Cq p0) (0, 0, 0, 0, 0, 0, 0, 0, 0, 0, 0, 0, 0, 0, 0, 0, 0)).bind fun (x1, x2, x3, x4, x5, x6, x7, x8, x9, x10, x11, x12, x13, x14, x15, x16) => some (x1, x2, x3, x4, x5, x6, x7, x8, x9, x10, x11, x12, x13, x14, x15, x16)
theorem KY (Y : Nat → Prop) (w0 : World) (v1 : Value) (p0 : List (Int × Int)) (r : (Int × Int × Int × Int × Int × Int × Int × Int × Int × Int × Int × Int × Int × Int × Int × Int)) (H : DH p0 = some r) (h_v1 : Sl w0 (NX []) HA v1 p0) :
    Calls Tryz.prog 81 #[v1] w0 fun e w' => e = .returned (.agg #[.int .u32 r.1, .int .u32 r.2.1, .int .u32 r.2.2.1, .int .u32 r.2.2.2.1, .int .u32 r.2.2.2.2.1, .int .u32 r.2.2.2.2.2.1, .int .u32 r.2.2.2.2.2.2.1, .int .u32 r.2.2.2.2.2.2.2.1, .int .u32 r.2.2.2.2.2.2.2.2.1, .int .u32 r.2.2.2.2.2.2.2.2.2.1, .int .u32 r.2.2.2.2.2.2.2.2.2.2.1, .int .u32 r.2.2.2.2.2.2.2.2.2.2.2.1, .int .u32 r.2.2.2.2.2.2.2.2.2.2.2.2.1, .int .u32 r.2.2.2.2.2.2.2.2.2.2.2.2.2.1, .int .u32 r.2.2.2.2.2.2.2.2.2.2.2.2.2.2.1, .int .u32 r.2.2.2.2.2.2.2.2.2.2.2.2.2.2.2]) ∧ Below w0.heap.size w0 w' := by
 refine enter Tryz.func81 Aa Tryz.ntmps81 Aa fun a F => ?_
 have W := Stw.start Y w0
 unfold DH at H
 refine vc tk 2 F W fun a w F W => ?_
 refine B8 (cs := (IZ)) F W Aa TA Aa fun b1 a w F W => ?_
 refine BR tk 4 F W fun a w F W => ?_
 refine B8 (cs := (IZ)) F W Aa TA Aa fun b2 a w F W => ?_
 refine FG (Ab ?_)
 obtain ⟨o1, G1, K1⟩ := Ac H
 refine Aq (fun a w => ∃ x1 : Int, ∃ x2 : Int, ∃ x3 : Int, ∃ x4 : Int, ∃ x5 : Int, ∃ x6 : Int, ∃ x7 : Int, ∃ x8 : Int, ∃ x9 : Int, ∃ x10 : Int, ∃ x11 : Int, ∃ x12 : Int, ∃ x13 : Int, ∃ x14 : Int, ∃ x15 : Int, ∃ x16 : Int, some ((x1, x2, x3, x4, x5, x6, x7, x8, x9, x10, x11, x12, x13, x14, x15, x16)) = some o1 ∧ Fr 24 [] [(2, .pointer (some ⟨b1, 0, none⟩)), (3, .pointer (some ⟨b2, 0, none⟩))] a ∧ Stw ⟨Y, [], w0⟩ [(b2, [.int .u32 x1, .int .u32 x2, .int .u32 x3, .int .u32 x4, .int .u32 x5, .int .u32 x6, .int .u32 x7, .int .u32 x8, .int .u32 x9, .int .u32 x10, .int .u32 x11, .int .u32 x12, .int .u32 x13, .int .u32 x14, .int .u32 x15, .int .u32 x16]), (b1, (IZ))] [] w) ?_ ?_
 ·
  have H := G1
  clear G1 K1
  refine vc tk 3 F W fun a w F W => ?_
  refine ls F W Aa (BS (r := HA) (l := p0) R2 Aa F Aa (Ad h_v1)).q fun a w F W => ?_
  refine BR tk 4 F W fun a w F W => ?_
  have W := W.frontM (i := 1) Aa Aa
  have W := W.frontM (i := 1) Aa Aa
  refine AL H (fun s a w => Fr 24 [] [(2, .pointer (some ⟨b1, 0, none⟩)), (3, .pointer (some ⟨b2, 0, none⟩)), (6, v1), (7, .int .i64 (p0.length : Int)), (8, .int .i64 s.1)] a ∧ Stw ⟨Y, [], w0⟩ [(b2, [.int .u32 s.2.1, .int .u32 s.2.2.1, .int .u32 s.2.2.2.1, .int .u32 s.2.2.2.2.1, .int .u32 s.2.2.2.2.2.1, .int .u32 s.2.2.2.2.2.2.1, .int .u32 s.2.2.2.2.2.2.2.1, .int .u32 s.2.2.2.2.2.2.2.2.1, .int .u32 s.2.2.2.2.2.2.2.2.2.1, .int .u32 s.2.2.2.2.2.2.2.2.2.2.1, .int .u32 s.2.2.2.2.2.2.2.2.2.2.2.1, .int .u32 s.2.2.2.2.2.2.2.2.2.2.2.2.1, .int .u32 s.2.2.2.2.2.2.2.2.2.2.2.2.2.1, .int .u32 s.2.2.2.2.2.2.2.2.2.2.2.2.2.2.1, .int .u32 s.2.2.2.2.2.2.2.2.2.2.2.2.2.2.2.1, .int .u32 s.2.2.2.2.2.2.2.2.2.2.2.2.2.2.2.2]), (b1, (IZ))] [] w) ⟨F.ra Aa, W⟩ fun s o a w H L2 hR => ?_
  obtain ⟨x17, x18, x19, x20, x21, x22, x23, x24, x25, x26, x27, x28, x29, x30, x31, x32, x33⟩ := s
  obtain ⟨F, W⟩ := hR
  have F : Fr 24 [] [(2, .pointer (some ⟨b1, 0, none⟩)), (3, .pointer (some ⟨b2, 0, none⟩)), (6, v1), (7, .int .i64 (p0.length : Int)), (8, .int .i64 x17)] a := F
  have W : Stw ⟨Y, [], w0⟩ [(b2, [.int .u32 x18, .int .u32 x19, .int .u32 x20, .int .u32 x21, .int .u32 x22, .int .u32 x23, .int .u32 x24, .int .u32 x25, .int .u32 x26, .int .u32 x27, .int .u32 x28, .int .u32 x29, .int .u32 x30, .int .u32 x31, .int .u32 x32, .int .u32 x33]), (b1, (IZ))] [] w := W
  rw [Cq] at H
  refine vc tk 6 F W fun a w F W => ?_
  refine AU F Aa H (fun F H => ?_) fun F H => ?_
  ·
   refine FP tk 6 F W fun a w F W => ?_
   obtain ⟨x34, h1, H⟩ := Ac H
   refine ls F W Aa (Al (r := HA) TY F Aa Aa (Ad h_v1) h1).q fun a w F W => ?_
   refine ls F W Aa (Ag (y := Value.agg #[.int .i64 x34.1, .int .i64 x34.2]) (j := 0) (i := x17) F Aa Aa (Ad h_v1) h1 Ux.to ST Aa).q fun a w F W => ?_
   refine B8 (cs := [.int .i64 0, .int .i64 0]) F W Aa Vn Aa fun b3 a w F W => ?_
   refine Ey 0 F W Aa Aa Aa ST Aa Aa Aa fun w W => ?_
   refine BR tk 2 F W fun a w F W => ?_
   refine Jd 10 W MO (by kernel_rfl) ?_
   refine qs F Aa (Az NR Aa Aa Aa T3 F Aa 1 Aa).q fun a F => ?_
   refine qs F Aa (BE (v := Value.int .i64 x34.2) 0 F Aa Aa T3 Aa).q fun a F => ?_
   refine qs F Aa (Az NR Aa Aa Aa T3 F Aa 1 Aa).q fun a F => ?_
   refine qs F Aa (BE (v := Value.int .i64 x34.2) 0 F Aa Aa T3 Aa).q fun a F => ?_
   obtain ⟨x35, h2, H⟩ := Ac H
   refine qs F Aa (E3 (0 + (x34.2).toNat * 1) M7 F Aa Aa Aa h2 Aa).q fun a F => ?_
   refine qs F Aa (BE (v := Value.int .u32 x35) 1 F Aa Aa QO (IE (base := 0) (m := 16) (l := [x18, x19, x20, x21, x22, x23, x24, x25, x26, x27, x28, x29, x30, x31, x32, x33]) (enc := Value.int .u32) Aa h2)).q fun a F => ?_
   refine qs F Aa (Az NR Aa Aa Aa T3 F Aa 0 Aa).q fun a F => ?_
   refine qs F Aa (BE (v := Value.int .i64 x34.1) 0 F Aa Aa T3 Aa).q fun a F => ?_
   obtain ⟨x36, h3, H⟩ := Ac H
   refine qs F Aa (Be (v := Value.int .u32 x36) F Y4 Aa (fun w W => HP any w x35 x34.1 _ h3)) fun a F => ?_
   obtain ⟨x37, h4, H⟩ := Ac H
   refine qs F Aa (E3 (0 + (x34.2).toNat * 1) M7 F Aa Aa Aa h4 Aa).q fun a F => ?_
   refine AD fun w W => ?_
   refine H3 (o := 0) (m := 16) (i := x34.2) (l := ([x18, x19, x20, x21, x22, x23, x24, x25, x26, x27, x28, x29, x30, x31, x32, x33] : List Int)) (x := x37) (cs := [.int .u32 x18, .int .u32 x19, .int .u32 x20, .int .u32 x21, .int .u32 x22, .int .u32 x23, .int .u32 x24, .int .u32 x25, .int .u32 x26, .int .u32 x27, .int .u32 x28, .int .u32 x29, .int .u32 x30, .int .u32 x31, .int .u32 x32, .int .u32 x33]) (cs' := [.int .u32 (if x34.2 = 0 then x36 else x18), .int .u32 (if x34.2 = 1 then x36 else x19), .int .u32 (if x34.2 = 2 then x36 else x20), .int .u32 (if x34.2 = 3 then x36 else x21), .int .u32 (if x34.2 = 4 then x36 else x22), .int .u32 (if x34.2 = 5 then x36 else x23), .int .u32 (if x34.2 = 6 then x36 else x24), .int .u32 (if x34.2 = 7 then x36 else x25), .int .u32 (if x34.2 = 8 then x36 else x26), .int .u32 (if x34.2 = 9 then x36 else x27), .int .u32 (if x34.2 = 10 then x36 else x28), .int .u32 (if x34.2 = 11 then x36 else x29), .int .u32 (if x34.2 = 12 then x36 else x30), .int .u32 (if x34.2 = 13 then x36 else x31), .int .u32 (if x34.2 = 14 then x36 else x32), .int .u32 (if x34.2 = 15 then x36 else x33)]) 1 F W Aa Aa Aa QO Aa Aa Aa Aa h4 (by intro k hk hn; rw [hk]; match k, hn with | 0, _ => rfl | 1, _ => rfl | 2, _ => rfl | 3, _ => rfl | 4, _ => rfl | 5, _ => rfl | 6, _ => rfl | 7, _ => rfl | 8, _ => rfl | 9, _ => rfl | 10, _ => rfl | 11, _ => rfl | 12, _ => rfl | 13, _ => rfl | 14, _ => rfl | 15, _ => rfl | (z + 16), h => exact absurd h (by omega)) fun w W => ?_
   have W : Stw ⟨Y, [], w0⟩ [(b3, (VT x34)), (b2, [.int .u32 (if x34.2 = 0 then x36 else x18), .int .u32 (if x34.2 = 1 then x36 else x19), .int .u32 (if x34.2 = 2 then x36 else x20), .int .u32 (if x34.2 = 3 then x36 else x21), .int .u32 (if x34.2 = 4 then x36 else x22), .int .u32 (if x34.2 = 5 then x36 else x23), .int .u32 (if x34.2 = 6 then x36 else x24), .int .u32 (if x34.2 = 7 then x36 else x25), .int .u32 (if x34.2 = 8 then x36 else x26), .int .u32 (if x34.2 = 9 then x36 else x27), .int .u32 (if x34.2 = 10 then x36 else x28), .int .u32 (if x34.2 = 11 then x36 else x29), .int .u32 (if x34.2 = 12 then x36 else x30), .int .u32 (if x34.2 = 13 then x36 else x31), .int .u32 (if x34.2 = 14 then x36 else x32), .int .u32 (if x34.2 = 15 then x36 else x33)]), (b1, (IZ))] [] w := W
   refine FG (Aw ?_)
   refine vn tk 4 F W fun a w F W => ?_
   refine Ab ?_
   have W := W.frontM (i := 2) Aa Aa
   have W := W.frontM (i := 2) Aa Aa
   have W := W.sub (M' := [(b2, [.int .u32 (if x34.2 = 0 then x36 else x18), .int .u32 (if x34.2 = 1 then x36 else x19), .int .u32 (if x34.2 = 2 then x36 else x20), .int .u32 (if x34.2 = 3 then x36 else x21), .int .u32 (if x34.2 = 4 then x36 else x22), .int .u32 (if x34.2 = 5 then x36 else x23), .int .u32 (if x34.2 = 6 then x36 else x24), .int .u32 (if x34.2 = 7 then x36 else x25), .int .u32 (if x34.2 = 8 then x36 else x26), .int .u32 (if x34.2 = 9 then x36 else x27), .int .u32 (if x34.2 = 10 then x36 else x28), .int .u32 (if x34.2 = 11 then x36 else x29), .int .u32 (if x34.2 = 12 then x36 else x30), .int .u32 (if x34.2 = 13 then x36 else x31), .int .u32 (if x34.2 = 14 then x36 else x32), .int .u32 (if x34.2 = 15 then x36 else x33)]), (b1, (IZ))]) (Z' := []) (List.Sublist.cons_cons _ (List.Sublist.cons_cons _ (List.nil_sublist _))) (List.Sublist.refl _)
   exact ⟨_, H, F.ra Aa, W⟩
  refine AA ?_
  iterate 2 refine AQ ?_
  refine AC (Ab ?_)
  have W := W.frontM (i := 1) Aa Aa
  have W := W.frontM (i := 1) Aa Aa
  have H := L2 _ H
  exact ⟨_, _, _, _, _, _, _, _, _, _, _, _, _, _, _, _, H, F.ra Aa, W⟩
 rintro a w ⟨x1, x2, x3, x4, x5, x6, x7, x8, x9, x10, x11, x12, x13, x14, x15, x16, hj, F, W⟩
 have hj := Ax hj
 subst hj
 have H := K1
 clear G1 K1
 refine IL tk 3 [0] F W (ai fun a w F W => ?_)
 refine Ey 1 F W Aa Aa Aa TH Aa Aa Aa fun w W => ?_
 refine BR tk 2 F W fun a w F W => ?_
 refine Ao ?_
 have H := Ax H
 subst H
 refine A1 (.inl Aa) F W Aa (Iz 1 F Aa Aa TH Aa) ?_
 exact ⟨rfl, W.done⟩
theorem Xr : type_of% Tryz.underlying139 := Tryz.underlying139
theorem aC : Has Tryz.prog 81 := Cu Tryz.func81
theorem V9 : (Tryz.prog.info? 139).bind (·.zero) = some (.agg #[.int .i64 0, .int .i64 0, .int .i64 0, .int .i64 0, .int .i64 0, .int .i64 0, .int .i64 0, .int .i64 0, .int .i64 0, .int .i64 0, .int .i64 0, .int .i64 0, .int .i64 0, .int .i64 0, .int .i64 0, .int .i64 0]) := by kernel_rfl
theorem Pd : Ar Tryz.prog 139 16 3 1 := ⟨Xr, by kernel_rfl⟩
noncomputable def Eb (p0 : Int) (p1 : Int) : Option Bool := (Uv (Jk .u32 p0 p1) p1).bind fun x1 => some (decide ((N6 .u32 x1 1) = 1))
theorem Im (Y : Nat → Prop) (w0 : World)  (p0 : Int) (p1 : Int) (r : Bool) (H : Eb p0 p1 = some r)  :
    Calls Tryz.prog 99 #[.int .u32 p0, .int .i64 p1] w0 fun e w' => e = .returned (.bool r) ∧ Below w0.heap.size w0 w' := by
 refine enter Tryz.func99 Aa Tryz.ntmps99 Aa fun a F => ?_
 have W := Stw.start Y w0
 unfold Eb at H
 refine vc tk 9 F W fun a w F W => ?_
 obtain ⟨x1, h1, H⟩ := Ac H
 refine ls F W Aa (S0 (JS h1).2 (QE F Aa Aa (JS h1).1)).q fun a w F W => ?_
 refine BR tk 5 F W fun a w F W => ?_
 refine Ao ?_
 have H := Ax H
 subst H
 refine A1 (.inl Aa) F W Aa (Am F Aa) ?_
 exact ⟨rfl, W.done⟩
theorem Y2 : Has Tryz.prog 99 := Cu Tryz.func99
theorem Tm : Ty Tryz.prog 139 true 16 := ⟨by kernel_rfl, by kernel_rfl⟩
abbrev Iw (a0 : Int × Int × Int × Int × Int × Int × Int × Int × Int × Int × Int × Int × Int × Int × Int × Int) : List Value := [.int .u32 a0.1, .int .u32 a0.2.1, .int .u32 a0.2.2.1, .int .u32 a0.2.2.2.1, .int .u32 a0.2.2.2.2.1, .int .u32 a0.2.2.2.2.2.1, .int .u32 a0.2.2.2.2.2.2.1, .int .u32 a0.2.2.2.2.2.2.2.1, .int .u32 a0.2.2.2.2.2.2.2.2.1, .int .u32 a0.2.2.2.2.2.2.2.2.2.1, .int .u32 a0.2.2.2.2.2.2.2.2.2.2.1, .int .u32 a0.2.2.2.2.2.2.2.2.2.2.2.1, .int .u32 a0.2.2.2.2.2.2.2.2.2.2.2.2.1, .int .u32 a0.2.2.2.2.2.2.2.2.2.2.2.2.2.1, .int .u32 a0.2.2.2.2.2.2.2.2.2.2.2.2.2.2.1, .int .u32 a0.2.2.2.2.2.2.2.2.2.2.2.2.2.2.2]
abbrev HI  : List Value := [.int .i64 0, .int .i64 0, .int .i64 0, .int .i64 0, .int .i64 0, .int .i64 0, .int .i64 0, .int .i64 0, .int .i64 0, .int .i64 0, .int .i64 0, .int .i64 0, .int .i64 0, .int .i64 0, .int .i64 0, .int .i64 0]
noncomputable def CD  : (Int × Int × Int × Int × Int × Int × Int × Int × Int × Int × Int × Int × Int × Int × Int × Int × Int) → Option ((Int × Int × Int × Int × Int × Int × Int × Int × Int × Int × Int × Int × Int × Int × Int × Int × Int) ⊕ (Int × Int × Int × Int × Int × Int × Int × Int × Int × Int × Int × Int × Int × Int × Int × Int))
  | (x17, x18, x19, x20, x21, x22, x23, x24, x25, x26, x27, x28, x29, x30, x31, x32, x33) => (if x17 < 16 then (ix ([x18, x19, x20, x21, x22, x23, x24, x25, x26, x27, x28, x29, x30, x31, x32, x33] : List Int) x17).bind fun x34 => some (.inl (An (x17 + 1), (if x17 = 0 then (-1) else x18), (if x17 = 1 then (-1) else x19), (if x17 = 2 then (-1) else x20), (if x17 = 3 then (-1) else x21), (if x17 = 4 then (-1) else x22), (if x17 = 5 then (-1) else x23), (if x17 = 6 then (-1) else x24), (if x17 = 7 then (-1) else x25), (if x17 = 8 then (-1) else x26), (if x17 = 9 then (-1) else x27), (if x17 = 10 then (-1) else x28), (if x17 = 11 then (-1) else x29), (if x17 = 12 then (-1) else x30), (if x17 = 13 then (-1) else x31), (if x17 = 14 then (-1) else x32), (if x17 = 15 then (-1) else x33))) else some (.inr (x18, x19, x20, x21, x22, x23, x24, x25, x26, x27, x28, x29, x30, x31, x32, x33)))
noncomputable def BV (p0 : Int) (p1 : Int × Int × Int × Int × Int × Int × Int × Int × Int × Int × Int × Int × Int × Int × Int × Int) (x54 : Int) (x55 : Int) (x56 : Int) : (Int × Int × Int × Int × Int × Int × Int × Int × Int × Int × Int × Int × Int × Int × Int × Int × Int × Int) → Option ((Int × Int × Int × Int × Int × Int × Int × Int × Int × Int × Int × Int × Int × Int × Int × Int × Int × Int) ⊕ (Int × Int × Int × Int × Int × Int × Int × Int × Int × Int × Int × Int × Int × Int × Int × Int × Int))
  | (x107, x108, x109, x110, x111, x112, x113, x114, x115, x116, x117, x118, x119, x120, x121, x122, x123, x124) => (if x108 < p0 then (((Eb x54 x108).bind fun x143 => (if x143 = true then (Eb x55 x108).bind fun x144 => some (!x144) else some false)).bind fun x142 => (if x142 = true then (ix ([x109, x110, x111, x112, x113, x114, x115, x116, x117, x118, x119, x120, x121, x122, x123, x124] : List Int) x108).bind fun x145 => (ix ([p1.1, p1.2.1, p1.2.2.1, p1.2.2.2.1, p1.2.2.2.2.1, p1.2.2.2.2.2.1, p1.2.2.2.2.2.2.1, p1.2.2.2.2.2.2.2.1, p1.2.2.2.2.2.2.2.2.1, p1.2.2.2.2.2.2.2.2.2.1, p1.2.2.2.2.2.2.2.2.2.2.1, p1.2.2.2.2.2.2.2.2.2.2.2.1, p1.2.2.2.2.2.2.2.2.2.2.2.2.1, p1.2.2.2.2.2.2.2.2.2.2.2.2.2.1, p1.2.2.2.2.2.2.2.2.2.2.2.2.2.2.1, p1.2.2.2.2.2.2.2.2.2.2.2.2.2.2.2] : List Int) x108).bind fun x146 => some (SY .u32 x107 x146, (if x108 = 0 then An (x56 + 1) else x109), (if x108 = 1 then An (x56 + 1) else x110), (if x108 = 2 then An (x56 + 1) else x111), (if x108 = 3 then An (x56 + 1) else x112), (if x108 = 4 then An (x56 + 1) else x113), (if x108 = 5 then An (x56 + 1) else x114), (if x108 = 6 then An (x56 + 1) else x115), (if x108 = 7 then An (x56 + 1) else x116), (if x108 = 8 then An (x56 + 1) else x117), (if x108 = 9 then An (x56 + 1) else x118), (if x108 = 10 then An (x56 + 1) else x119), (if x108 = 11 then An (x56 + 1) else x120), (if x108 = 12 then An (x56 + 1) else x121), (if x108 = 13 then An (x56 + 1) else x122), (if x108 = 14 then An (x56 + 1) else x123), (if x108 = 15 then An (x56 + 1) else x124)) else some (x107, x109, x110, x111, x112, x113, x114, x115, x116, x117, x118, x119, x120, x121, x122, x123, x124))).bind fun (x125, x126, x127, x128, x129, x130, x131, x132, x133, x134, x135, x136, x137, x138, x139, x140, x141) => some (.inl (x125, An (x108 + 1), x126, x127, x128, x129, x130, x131, x132, x133, x134, x135, x136, x137, x138, x139, x140, x141)) else some (.inr (x107, x109, x110, x111, x112, x113, x114, x115, x116, x117, x118, x119, x120, x121, x122, x123, x124)))
noncomputable def Cp (p0 : Int) (p1 : Int × Int × Int × Int × Int × Int × Int × Int × Int × Int × Int × Int × Int × Int × Int × Int) : (Int × Int × Int × Int × Int × Int × Int × Int × Int × Int × Int × Int × Int × Int × Int × Int × Int × Int × Int) → Option ((Int × Int × Int × Int × Int × Int × Int × Int × Int × Int × Int × Int × Int × Int × Int × Int × Int × Int × Int) ⊕ (Int × Int × Int × Int × Int × Int × Int × Int × Int × Int × Int × Int × Int × Int × Int × Int))
  | (x54, x55, x56, x57, x58, x59, x60, x61, x62, x63, x64, x65, x66, x67, x68, x69, x70, x71, x72) => (if x56 < p0 then ((Ap (BV p0 p1 x54 x55 x56) (0, 0, x57, x58, x59, x60, x61, x62, x63, x64, x65, x66, x67, x68, x69, x70, x71, x72)).bind fun (x90, x91, x92, x93, x94, x95, x96, x97, x98, x99, x100, x101, x102, x103, x104, x105, x106) => some (x90, x91, x92, x93, x94, x95, x96, x97, x98, x99, x100, x101, x102, x103, x104, x105, x106)).bind fun (x73, x74, x75, x76, x77, x78, x79, x80, x81, x82, x83, x84, x85, x86, x87, x88, x89) => some (.inl (x73, SY .u32 x55 x54, An (x56 + 1), x74, x75, x76, x77, x78, x79, x80, x81, x82, x83, x84, x85, x86, x87, x88, x89)) else some (.inr (x57, x58, x59, x60, x61, x62, x63, x64, x65, x66, x67, x68, x69, x70, x71, x72)))
noncomputable def En (p0 : Int) (p1 : Int × Int × Int × Int × Int × Int × Int × Int × Int × Int × Int × Int × Int × Int × Int × Int) (p2 : Int) : Option (Int × Int × Int × Int × Int × Int × Int × Int × Int × Int × Int × Int × Int × Int × Int × Int) := (Ap (CD) (0, 0, 0, 0, 0, 0, 0, 0, 0, 0, 0, 0, 0, 0, 0, 0, 0)).bind fun (x1, x2, x3, x4, x5, x6, x7, x8, x9, x10, x11, x12, x13, x14, x15, x16) => (ix ([x1, x2, x3, x4, x5, x6, x7, x8, x9, x10, x11, x12, x13, x14, x15, x16] : List Int) p2).bind fun x35 => (ix ([p1.1, p1.2.1, p1.2.2.1, p1.2.2.2.1, p1.2.2.2.2.1, p1.2.2.2.2.2.1, p1.2.2.2.2.2.2.1, p1.2.2.2.2.2.2.2.1, p1.2.2.2.2.2.2.2.2.1, p1.2.2.2.2.2.2.2.2.2.1, p1.2.2.2.2.2.2.2.2.2.2.1, p1.2.2.2.2.2.2.2.2.2.2.2.1, p1.2.2.2.2.2.2.2.2.2.2.2.2.1, p1.2.2.2.2.2.2.2.2.2.2.2.2.2.1, p1.2.2.2.2.2.2.2.2.2.2.2.2.2.2.1, p1.2.2.2.2.2.2.2.2.2.2.2.2.2.2.2] : List Int) p2).bind fun x36 => (C6 0 p2).bind fun x37 => (Ap (Cp p0 p1) (x36, x37, 0, (if p2 = 0 then 0 else x1), (if p2 = 1 then 0 else x2), (if p2 = 2 then 0 else x3), (if p2 = 3 then 0 else x4), (if p2 = 4 then 0 else x5), (if p2 = 5 then 0 else x6), (if p2 = 6 then 0 else x7), (if p2 = 7 then 0 else x8), (if p2 = 8 then 0 else x9), (if p2 = 9 then 0 else x10), (if p2 = 10 then 0 else x11), (if p2 = 11 then 0 else x12), (if p2 = 12 then 0 else x13), (if p2 = 13 then 0 else x14), (if p2 = 14 then 0 else x15), (if p2 = 15 then 0 else x16))).bind fun (x38, x39, x40, x41, x42, x43, x44, x45, x46, x47, x48, x49, x50, x51, x52, x53) => some (x38, x39, x40, x41, x42, x43, x44, x45, x46, x47, x48, x49, x50, x51, x52, x53)
theorem LQ (Y : Nat → Prop) (w0 : World)  (p0 : Int) (p1 : Int × Int × Int × Int × Int × Int × Int × Int × Int × Int × Int × Int × Int × Int × Int × Int) (p2 : Int) (r : (Int × Int × Int × Int × Int × Int × Int × Int × Int × Int × Int × Int × Int × Int × Int × Int)) (H : En p0 p1 p2 = some r)  :
    Calls Tryz.prog 80 #[.int .i64 p0, .agg #[.int .u32 p1.1, .int .u32 p1.2.1, .int .u32 p1.2.2.1, .int .u32 p1.2.2.2.1, .int .u32 p1.2.2.2.2.1, .int .u32 p1.2.2.2.2.2.1, .int .u32 p1.2.2.2.2.2.2.1, .int .u32 p1.2.2.2.2.2.2.2.1, .int .u32 p1.2.2.2.2.2.2.2.2.1, .int .u32 p1.2.2.2.2.2.2.2.2.2.1, .int .u32 p1.2.2.2.2.2.2.2.2.2.2.1, .int .u32 p1.2.2.2.2.2.2.2.2.2.2.2.1, .int .u32 p1.2.2.2.2.2.2.2.2.2.2.2.2.1, .int .u32 p1.2.2.2.2.2.2.2.2.2.2.2.2.2.1, .int .u32 p1.2.2.2.2.2.2.2.2.2.2.2.2.2.2.1, .int .u32 p1.2.2.2.2.2.2.2.2.2.2.2.2.2.2.2], .int .i64 p2] w0 fun e w' => e = .returned (.agg #[.int .i64 r.1, .int .i64 r.2.1, .int .i64 r.2.2.1, .int .i64 r.2.2.2.1, .int .i64 r.2.2.2.2.1, .int .i64 r.2.2.2.2.2.1, .int .i64 r.2.2.2.2.2.2.1, .int .i64 r.2.2.2.2.2.2.2.1, .int .i64 r.2.2.2.2.2.2.2.2.1, .int .i64 r.2.2.2.2.2.2.2.2.2.1, .int .i64 r.2.2.2.2.2.2.2.2.2.2.1, .int .i64 r.2.2.2.2.2.2.2.2.2.2.2.1, .int .i64 r.2.2.2.2.2.2.2.2.2.2.2.2.1, .int .i64 r.2.2.2.2.2.2.2.2.2.2.2.2.2.1, .int .i64 r.2.2.2.2.2.2.2.2.2.2.2.2.2.2.1, .int .i64 r.2.2.2.2.2.2.2.2.2.2.2.2.2.2.2]) ∧ Below w0.heap.size w0 w' := by
 refine enter Tryz.func80 Aa Tryz.ntmps80 Aa fun a F => ?_
 have W := Stw.start Y w0
 unfold En at H
 refine vc tk 2 F W fun a w F W => ?_
 refine D2 (cs := (Iw p1)) F W Aa Aa Aa fun b1 a w F W => ?_
 refine B8 (cs := (HI)) F W Aa V9 Aa fun b2 a w F W => ?_
 refine BR tk 4 F W fun a w F W => ?_
 refine B8 (cs := (HI)) F W Aa V9 Aa fun b3 a w F W => ?_
 refine FG (Ab ?_)
 obtain ⟨o1, G1, K1⟩ := Ac H
 refine Aq (fun a w => ∃ x1 : Int, ∃ x2 : Int, ∃ x3 : Int, ∃ x4 : Int, ∃ x5 : Int, ∃ x6 : Int, ∃ x7 : Int, ∃ x8 : Int, ∃ x9 : Int, ∃ x10 : Int, ∃ x11 : Int, ∃ x12 : Int, ∃ x13 : Int, ∃ x14 : Int, ∃ x15 : Int, ∃ x16 : Int, some ((x1, x2, x3, x4, x5, x6, x7, x8, x9, x10, x11, x12, x13, x14, x15, x16)) = some o1 ∧ Fr 60 [] [(0, .int .i64 p0), (2, .int .i64 p2), (4, .pointer (some ⟨b1, 0, none⟩)), (6, .pointer (some ⟨b2, 0, none⟩)), (7, .pointer (some ⟨b3, 0, none⟩))] a ∧ Stw ⟨Y, [], w0⟩ [(b3, [.int .i64 x1, .int .i64 x2, .int .i64 x3, .int .i64 x4, .int .i64 x5, .int .i64 x6, .int .i64 x7, .int .i64 x8, .int .i64 x9, .int .i64 x10, .int .i64 x11, .int .i64 x12, .int .i64 x13, .int .i64 x14, .int .i64 x15, .int .i64 x16]), (b2, (HI)), (b1, (Iw p1))] [] w) ?_ ?_
 ·
  have H := G1
  clear G1 K1
  refine vc tk 6 F W fun a w F W => ?_
  have W := W.frontM (i := 2) Aa Aa
  have W := W.frontM (i := 2) Aa Aa
  have W := W.frontM (i := 2) Aa Aa
  refine AL H (fun s a w => Fr 60 [] [(0, .int .i64 p0), (2, .int .i64 p2), (4, .pointer (some ⟨b1, 0, none⟩)), (6, .pointer (some ⟨b2, 0, none⟩)), (7, .pointer (some ⟨b3, 0, none⟩)), (14, .int .i64 s.1)] a ∧ Stw ⟨Y, [], w0⟩ [(b3, [.int .i64 s.2.1, .int .i64 s.2.2.1, .int .i64 s.2.2.2.1, .int .i64 s.2.2.2.2.1, .int .i64 s.2.2.2.2.2.1, .int .i64 s.2.2.2.2.2.2.1, .int .i64 s.2.2.2.2.2.2.2.1, .int .i64 s.2.2.2.2.2.2.2.2.1, .int .i64 s.2.2.2.2.2.2.2.2.2.1, .int .i64 s.2.2.2.2.2.2.2.2.2.2.1, .int .i64 s.2.2.2.2.2.2.2.2.2.2.2.1, .int .i64 s.2.2.2.2.2.2.2.2.2.2.2.2.1, .int .i64 s.2.2.2.2.2.2.2.2.2.2.2.2.2.1, .int .i64 s.2.2.2.2.2.2.2.2.2.2.2.2.2.2.1, .int .i64 s.2.2.2.2.2.2.2.2.2.2.2.2.2.2.2.1, .int .i64 s.2.2.2.2.2.2.2.2.2.2.2.2.2.2.2.2]), (b2, (HI)), (b1, (Iw p1))] [] w) ⟨F.ra Aa, W⟩ fun s o a w H L2 hR => ?_
  obtain ⟨x17, x18, x19, x20, x21, x22, x23, x24, x25, x26, x27, x28, x29, x30, x31, x32, x33⟩ := s
  obtain ⟨F, W⟩ := hR
  have F : Fr 60 [] [(0, .int .i64 p0), (2, .int .i64 p2), (4, .pointer (some ⟨b1, 0, none⟩)), (6, .pointer (some ⟨b2, 0, none⟩)), (7, .pointer (some ⟨b3, 0, none⟩)), (14, .int .i64 x17)] a := F
  have W : Stw ⟨Y, [], w0⟩ [(b3, [.int .i64 x18, .int .i64 x19, .int .i64 x20, .int .i64 x21, .int .i64 x22, .int .i64 x23, .int .i64 x24, .int .i64 x25, .int .i64 x26, .int .i64 x27, .int .i64 x28, .int .i64 x29, .int .i64 x30, .int .i64 x31, .int .i64 x32, .int .i64 x33]), (b2, (HI)), (b1, (Iw p1))] [] w := W
  rw [CD] at H
  refine vc tk 6 F W fun a w F W => ?_
  refine AU F Aa H (fun F H => ?_) fun F H => ?_
  ·
   refine FP tk 12 F W fun a w F W => ?_
   obtain ⟨x34, h1, H⟩ := Ac H
   refine ls F W Aa (E3 (0 + (x17).toNat * 1) Pd F Aa Aa Aa h1 Aa).q fun a w F W => ?_
   refine H3 (o := 0) (m := 16) (i := x17) (l := ([x18, x19, x20, x21, x22, x23, x24, x25, x26, x27, x28, x29, x30, x31, x32, x33] : List Int)) (x := x34) (cs := [.int .i64 x18, .int .i64 x19, .int .i64 x20, .int .i64 x21, .int .i64 x22, .int .i64 x23, .int .i64 x24, .int .i64 x25, .int .i64 x26, .int .i64 x27, .int .i64 x28, .int .i64 x29, .int .i64 x30, .int .i64 x31, .int .i64 x32, .int .i64 x33]) (cs' := [.int .i64 (if x17 = 0 then (-1) else x18), .int .i64 (if x17 = 1 then (-1) else x19), .int .i64 (if x17 = 2 then (-1) else x20), .int .i64 (if x17 = 3 then (-1) else x21), .int .i64 (if x17 = 4 then (-1) else x22), .int .i64 (if x17 = 5 then (-1) else x23), .int .i64 (if x17 = 6 then (-1) else x24), .int .i64 (if x17 = 7 then (-1) else x25), .int .i64 (if x17 = 8 then (-1) else x26), .int .i64 (if x17 = 9 then (-1) else x27), .int .i64 (if x17 = 10 then (-1) else x28), .int .i64 (if x17 = 11 then (-1) else x29), .int .i64 (if x17 = 12 then (-1) else x30), .int .i64 (if x17 = 13 then (-1) else x31), .int .i64 (if x17 = 14 then (-1) else x32), .int .i64 (if x17 = 15 then (-1) else x33)]) 0 F W Aa Aa Aa T3 Aa Aa Aa Aa h1 (by intro k hk hn; rw [hk]; match k, hn with | 0, _ => rfl | 1, _ => rfl | 2, _ => rfl | 3, _ => rfl | 4, _ => rfl | 5, _ => rfl | 6, _ => rfl | 7, _ => rfl | 8, _ => rfl | 9, _ => rfl | 10, _ => rfl | 11, _ => rfl | 12, _ => rfl | 13, _ => rfl | 14, _ => rfl | 15, _ => rfl | (z + 16), h => exact absurd h (by omega)) fun w W => ?_
   have W : Stw ⟨Y, [], w0⟩ [(b3, [.int .i64 (if x17 = 0 then (-1) else x18), .int .i64 (if x17 = 1 then (-1) else x19), .int .i64 (if x17 = 2 then (-1) else x20), .int .i64 (if x17 = 3 then (-1) else x21), .int .i64 (if x17 = 4 then (-1) else x22), .int .i64 (if x17 = 5 then (-1) else x23), .int .i64 (if x17 = 6 then (-1) else x24), .int .i64 (if x17 = 7 then (-1) else x25), .int .i64 (if x17 = 8 then (-1) else x26), .int .i64 (if x17 = 9 then (-1) else x27), .int .i64 (if x17 = 10 then (-1) else x28), .int .i64 (if x17 = 11 then (-1) else x29), .int .i64 (if x17 = 12 then (-1) else x30), .int .i64 (if x17 = 13 then (-1) else x31), .int .i64 (if x17 = 14 then (-1) else x32), .int .i64 (if x17 = 15 then (-1) else x33)]), (b2, (HI)), (b1, (Iw p1))] [] w := W
   refine FG (Aw ?_)
   refine vn tk 4 F W fun a w F W => ?_
   refine Ab ?_
   have W := W.frontM (i := 2) Aa Aa
   have W := W.frontM (i := 2) Aa Aa
   have W := W.frontM (i := 2) Aa Aa
   exact ⟨_, H, F.ra Aa, W⟩
  refine AA ?_
  iterate 2 refine AQ ?_
  refine AC (Ab ?_)
  have W := W.frontM (i := 2) Aa Aa
  have W := W.frontM (i := 2) Aa Aa
  have W := W.frontM (i := 2) Aa Aa
  have H := L2 _ H
  exact ⟨_, _, _, _, _, _, _, _, _, _, _, _, _, _, _, _, H, F.ra Aa, W⟩
 rintro a w ⟨x1, x2, x3, x4, x5, x6, x7, x8, x9, x10, x11, x12, x13, x14, x15, x16, hj, F, W⟩
 have hj := Ax hj
 subst hj
 have H := K1
 clear G1 K1
 refine vc tk 3 F W fun a w F W => ?_
 obtain ⟨x35, h2, H⟩ := Ac H
 refine ls F W Aa (E3 (0 + (p2).toNat * 1) Pd F Aa Aa Aa h2 Aa).q fun a w F W => ?_
 refine H3 (o := 0) (m := 16) (i := p2) (l := ([x1, x2, x3, x4, x5, x6, x7, x8, x9, x10, x11, x12, x13, x14, x15, x16] : List Int)) (x := x35) (cs := [.int .i64 x1, .int .i64 x2, .int .i64 x3, .int .i64 x4, .int .i64 x5, .int .i64 x6, .int .i64 x7, .int .i64 x8, .int .i64 x9, .int .i64 x10, .int .i64 x11, .int .i64 x12, .int .i64 x13, .int .i64 x14, .int .i64 x15, .int .i64 x16]) (cs' := [.int .i64 (if p2 = 0 then 0 else x1), .int .i64 (if p2 = 1 then 0 else x2), .int .i64 (if p2 = 2 then 0 else x3), .int .i64 (if p2 = 3 then 0 else x4), .int .i64 (if p2 = 4 then 0 else x5), .int .i64 (if p2 = 5 then 0 else x6), .int .i64 (if p2 = 6 then 0 else x7), .int .i64 (if p2 = 7 then 0 else x8), .int .i64 (if p2 = 8 then 0 else x9), .int .i64 (if p2 = 9 then 0 else x10), .int .i64 (if p2 = 10 then 0 else x11), .int .i64 (if p2 = 11 then 0 else x12), .int .i64 (if p2 = 12 then 0 else x13), .int .i64 (if p2 = 13 then 0 else x14), .int .i64 (if p2 = 14 then 0 else x15), .int .i64 (if p2 = 15 then 0 else x16)]) 0 F W Aa Aa Aa T3 Aa Aa Aa Aa h2 (by intro k hk hn; rw [hk]; match k, hn with | 0, _ => rfl | 1, _ => rfl | 2, _ => rfl | 3, _ => rfl | 4, _ => rfl | 5, _ => rfl | 6, _ => rfl | 7, _ => rfl | 8, _ => rfl | 9, _ => rfl | 10, _ => rfl | 11, _ => rfl | 12, _ => rfl | 13, _ => rfl | 14, _ => rfl | 15, _ => rfl | (z + 16), h => exact absurd h (by omega)) fun w W => ?_
 have W : Stw ⟨Y, [], w0⟩ [(b3, [.int .i64 (if p2 = 0 then 0 else x1), .int .i64 (if p2 = 1 then 0 else x2), .int .i64 (if p2 = 2 then 0 else x3), .int .i64 (if p2 = 3 then 0 else x4), .int .i64 (if p2 = 4 then 0 else x5), .int .i64 (if p2 = 5 then 0 else x6), .int .i64 (if p2 = 6 then 0 else x7), .int .i64 (if p2 = 7 then 0 else x8), .int .i64 (if p2 = 8 then 0 else x9), .int .i64 (if p2 = 9 then 0 else x10), .int .i64 (if p2 = 10 then 0 else x11), .int .i64 (if p2 = 11 then 0 else x12), .int .i64 (if p2 = 12 then 0 else x13), .int .i64 (if p2 = 13 then 0 else x14), .int .i64 (if p2 = 14 then 0 else x15), .int .i64 (if p2 = 15 then 0 else x16)]), (b2, (HI)), (b1, (Iw p1))] [] w := W
 refine BR tk 3 F W fun a w F W => ?_
 refine BB W MO (by kernel_rfl) ?_
 refine qs F Aa (Ai F Aa).q fun a F => ?_
 obtain ⟨x36, h3, H⟩ := Ac H
 refine qs F Aa (E3 (0 + (p2).toNat * 1) M7 F Aa Aa Aa h3 Aa).q fun a F => ?_
 refine qs F Aa (BE (v := Value.int .u32 x36) 2 F Aa Aa QO (IE (base := 0) (m := 16) (l := [p1.1, p1.2.1, p1.2.2.1, p1.2.2.2.1, p1.2.2.2.2.1, p1.2.2.2.2.2.1, p1.2.2.2.2.2.2.1, p1.2.2.2.2.2.2.2.1, p1.2.2.2.2.2.2.2.2.1, p1.2.2.2.2.2.2.2.2.2.1, p1.2.2.2.2.2.2.2.2.2.2.1, p1.2.2.2.2.2.2.2.2.2.2.2.1, p1.2.2.2.2.2.2.2.2.2.2.2.2.1, p1.2.2.2.2.2.2.2.2.2.2.2.2.2.1, p1.2.2.2.2.2.2.2.2.2.2.2.2.2.2.1, p1.2.2.2.2.2.2.2.2.2.2.2.2.2.2.2]) (enc := Value.int .u32) Aa h3)).q fun a F => ?_
 refine qs F Aa (Ai F Aa).q fun a F => ?_
 obtain ⟨x37, h4, H⟩ := Ac H
 refine qs F Aa (Be (v := Value.int .u32 x37) F Y4 Aa (fun w W => HP any w 0 p2 _ h4)) fun a F => ?_
 iterate 2 refine qs F Aa (Dn F Aa).q fun a F => ?_
 refine AD fun w W => ?_
 refine Ab ?_
 obtain ⟨o3, G3, K3⟩ := Ac H
 refine Aq (fun a w => ∃ x38 : Int, ∃ x39 : Int, ∃ x40 : Int, ∃ x41 : Int, ∃ x42 : Int, ∃ x43 : Int, ∃ x44 : Int, ∃ x45 : Int, ∃ x46 : Int, ∃ x47 : Int, ∃ x48 : Int, ∃ x49 : Int, ∃ x50 : Int, ∃ x51 : Int, ∃ x52 : Int, ∃ x53 : Int, some ((x38, x39, x40, x41, x42, x43, x44, x45, x46, x47, x48, x49, x50, x51, x52, x53)) = some o3 ∧ Fr 60 [] [(6, .pointer (some ⟨b2, 0, none⟩)), (7, .pointer (some ⟨b3, 0, none⟩))] a ∧ Stw ⟨Y, [], w0⟩ [(b3, [.int .i64 x38, .int .i64 x39, .int .i64 x40, .int .i64 x41, .int .i64 x42, .int .i64 x43, .int .i64 x44, .int .i64 x45, .int .i64 x46, .int .i64 x47, .int .i64 x48, .int .i64 x49, .int .i64 x50, .int .i64 x51, .int .i64 x52, .int .i64 x53]), (b2, (HI)), (b1, (Iw p1))] [] w) ?_ ?_
 ·
  have H := G3
  clear G3 K3
  refine vc tk 7 F W fun a w F W => ?_
  have W := W.frontM (i := 2) Aa Aa
  have W := W.frontM (i := 2) Aa Aa
  have W := W.frontM (i := 2) Aa Aa
  refine AL H (fun s a w => Fr 60 [] [(0, .int .i64 p0), (4, .pointer (some ⟨b1, 0, none⟩)), (6, .pointer (some ⟨b2, 0, none⟩)), (7, .pointer (some ⟨b3, 0, none⟩)), (9, .int .u32 s.1), (10, .int .u32 s.2.1), (27, .int .i64 p0), (28, .int .i64 s.2.2.1)] a ∧ Stw ⟨Y, [], w0⟩ [(b3, [.int .i64 s.2.2.2.1, .int .i64 s.2.2.2.2.1, .int .i64 s.2.2.2.2.2.1, .int .i64 s.2.2.2.2.2.2.1, .int .i64 s.2.2.2.2.2.2.2.1, .int .i64 s.2.2.2.2.2.2.2.2.1, .int .i64 s.2.2.2.2.2.2.2.2.2.1, .int .i64 s.2.2.2.2.2.2.2.2.2.2.1, .int .i64 s.2.2.2.2.2.2.2.2.2.2.2.1, .int .i64 s.2.2.2.2.2.2.2.2.2.2.2.2.1, .int .i64 s.2.2.2.2.2.2.2.2.2.2.2.2.2.1, .int .i64 s.2.2.2.2.2.2.2.2.2.2.2.2.2.2.1, .int .i64 s.2.2.2.2.2.2.2.2.2.2.2.2.2.2.2.1, .int .i64 s.2.2.2.2.2.2.2.2.2.2.2.2.2.2.2.2.1, .int .i64 s.2.2.2.2.2.2.2.2.2.2.2.2.2.2.2.2.2.1, .int .i64 s.2.2.2.2.2.2.2.2.2.2.2.2.2.2.2.2.2.2]), (b2, (HI)), (b1, (Iw p1))] [] w) ⟨F.ra Aa, W⟩ fun s o a w H L4 hR => ?_
  obtain ⟨x54, x55, x56, x57, x58, x59, x60, x61, x62, x63, x64, x65, x66, x67, x68, x69, x70, x71, x72⟩ := s
  obtain ⟨F, W⟩ := hR
  have F : Fr 60 [] [(0, .int .i64 p0), (4, .pointer (some ⟨b1, 0, none⟩)), (6, .pointer (some ⟨b2, 0, none⟩)), (7, .pointer (some ⟨b3, 0, none⟩)), (9, .int .u32 x54), (10, .int .u32 x55), (27, .int .i64 p0), (28, .int .i64 x56)] a := F
  have W : Stw ⟨Y, [], w0⟩ [(b3, [.int .i64 x57, .int .i64 x58, .int .i64 x59, .int .i64 x60, .int .i64 x61, .int .i64 x62, .int .i64 x63, .int .i64 x64, .int .i64 x65, .int .i64 x66, .int .i64 x67, .int .i64 x68, .int .i64 x69, .int .i64 x70, .int .i64 x71, .int .i64 x72]), (b2, (HI)), (b1, (Iw p1))] [] w := W
  rw [Cp] at H
  refine vc tk 6 F W fun a w F W => ?_
  refine AU F Aa H (fun F H => ?_) fun F H => ?_
  ·
   refine AB (Ab ?_)
   obtain ⟨o5, G5, K5⟩ := Ac H
   refine Aq (fun a w => ∃ x73 : Int, ∃ x74 : Int, ∃ x75 : Int, ∃ x76 : Int, ∃ x77 : Int, ∃ x78 : Int, ∃ x79 : Int, ∃ x80 : Int, ∃ x81 : Int, ∃ x82 : Int, ∃ x83 : Int, ∃ x84 : Int, ∃ x85 : Int, ∃ x86 : Int, ∃ x87 : Int, ∃ x88 : Int, ∃ x89 : Int, some ((x73, x74, x75, x76, x77, x78, x79, x80, x81, x82, x83, x84, x85, x86, x87, x88, x89)) = some o5 ∧ Fr 60 [] [(0, .int .i64 p0), (4, .pointer (some ⟨b1, 0, none⟩)), (6, .pointer (some ⟨b2, 0, none⟩)), (7, .pointer (some ⟨b3, 0, none⟩)), (9, .int .u32 x73), (10, .int .u32 (SY .u32 x55 x54)), (27, .int .i64 p0), (28, .int .i64 x56)] a ∧ Stw ⟨Y, [], w0⟩ [(b3, [.int .i64 x74, .int .i64 x75, .int .i64 x76, .int .i64 x77, .int .i64 x78, .int .i64 x79, .int .i64 x80, .int .i64 x81, .int .i64 x82, .int .i64 x83, .int .i64 x84, .int .i64 x85, .int .i64 x86, .int .i64 x87, .int .i64 x88, .int .i64 x89]), (b2, (HI)), (b1, (Iw p1))] [] w) ?_ ?_
   ·
    have H := G5
    clear G5 K5
    refine vc tk 12 F W fun a w F W => ?_
    obtain ⟨o6, G6, K6⟩ := Ac H
    refine Aq (fun a w => ∃ x90 : Int, ∃ x91 : Int, ∃ x92 : Int, ∃ x93 : Int, ∃ x94 : Int, ∃ x95 : Int, ∃ x96 : Int, ∃ x97 : Int, ∃ x98 : Int, ∃ x99 : Int, ∃ x100 : Int, ∃ x101 : Int, ∃ x102 : Int, ∃ x103 : Int, ∃ x104 : Int, ∃ x105 : Int, ∃ x106 : Int, some ((x90, x91, x92, x93, x94, x95, x96, x97, x98, x99, x100, x101, x102, x103, x104, x105, x106)) = some o6 ∧ Fr 60 [] [(0, .int .i64 p0), (4, .pointer (some ⟨b1, 0, none⟩)), (6, .pointer (some ⟨b2, 0, none⟩)), (7, .pointer (some ⟨b3, 0, none⟩)), (9, .int .u32 x54), (10, .int .u32 x55), (12, .int .u32 x90), (27, .int .i64 p0), (28, .int .i64 x56)] a ∧ Stw ⟨Y, [], w0⟩ [(b3, [.int .i64 x91, .int .i64 x92, .int .i64 x93, .int .i64 x94, .int .i64 x95, .int .i64 x96, .int .i64 x97, .int .i64 x98, .int .i64 x99, .int .i64 x100, .int .i64 x101, .int .i64 x102, .int .i64 x103, .int .i64 x104, .int .i64 x105, .int .i64 x106]), (b2, (HI)), (b1, (Iw p1))] [] w) ?_ ?_
    ·
     have H := G6
     clear G6 K6
     refine vc tk 7 F W fun a w F W => ?_
     have W := W.frontM (i := 2) Aa Aa
     have W := W.frontM (i := 2) Aa Aa
     have W := W.frontM (i := 2) Aa Aa
     refine AL H (fun s a w => Fr 60 [] [(0, .int .i64 p0), (4, .pointer (some ⟨b1, 0, none⟩)), (6, .pointer (some ⟨b2, 0, none⟩)), (7, .pointer (some ⟨b3, 0, none⟩)), (9, .int .u32 x54), (10, .int .u32 x55), (11, .int .i64 x56), (12, .int .u32 s.1), (27, .int .i64 p0), (28, .int .i64 x56), (31, .int .i64 p0), (32, .int .i64 s.2.1)] a ∧ Stw ⟨Y, [], w0⟩ [(b3, [.int .i64 s.2.2.1, .int .i64 s.2.2.2.1, .int .i64 s.2.2.2.2.1, .int .i64 s.2.2.2.2.2.1, .int .i64 s.2.2.2.2.2.2.1, .int .i64 s.2.2.2.2.2.2.2.1, .int .i64 s.2.2.2.2.2.2.2.2.1, .int .i64 s.2.2.2.2.2.2.2.2.2.1, .int .i64 s.2.2.2.2.2.2.2.2.2.2.1, .int .i64 s.2.2.2.2.2.2.2.2.2.2.2.1, .int .i64 s.2.2.2.2.2.2.2.2.2.2.2.2.1, .int .i64 s.2.2.2.2.2.2.2.2.2.2.2.2.2.1, .int .i64 s.2.2.2.2.2.2.2.2.2.2.2.2.2.2.1, .int .i64 s.2.2.2.2.2.2.2.2.2.2.2.2.2.2.2.1, .int .i64 s.2.2.2.2.2.2.2.2.2.2.2.2.2.2.2.2.1, .int .i64 s.2.2.2.2.2.2.2.2.2.2.2.2.2.2.2.2.2]), (b2, (HI)), (b1, (Iw p1))] [] w) ⟨F.ra Aa, W⟩ fun s o a w H L7 hR => ?_
     obtain ⟨x107, x108, x109, x110, x111, x112, x113, x114, x115, x116, x117, x118, x119, x120, x121, x122, x123, x124⟩ := s
     obtain ⟨F, W⟩ := hR
     have F : Fr 60 [] [(0, .int .i64 p0), (4, .pointer (some ⟨b1, 0, none⟩)), (6, .pointer (some ⟨b2, 0, none⟩)), (7, .pointer (some ⟨b3, 0, none⟩)), (9, .int .u32 x54), (10, .int .u32 x55), (11, .int .i64 x56), (12, .int .u32 x107), (27, .int .i64 p0), (28, .int .i64 x56), (31, .int .i64 p0), (32, .int .i64 x108)] a := F
     have W : Stw ⟨Y, [], w0⟩ [(b3, [.int .i64 x109, .int .i64 x110, .int .i64 x111, .int .i64 x112, .int .i64 x113, .int .i64 x114, .int .i64 x115, .int .i64 x116, .int .i64 x117, .int .i64 x118, .int .i64 x119, .int .i64 x120, .int .i64 x121, .int .i64 x122, .int .i64 x123, .int .i64 x124]), (b2, (HI)), (b1, (Iw p1))] [] w := W
     rw [BV] at H
     refine vc tk 6 F W fun a w F W => ?_
     refine AU F Aa H (fun F H => ?_) fun F H => ?_
     ·
      refine AB (Ab ?_)
      obtain ⟨o8, G8, K8⟩ := Ac H
      refine Aq (fun a w => ∃ x125 : Int, ∃ x126 : Int, ∃ x127 : Int, ∃ x128 : Int, ∃ x129 : Int, ∃ x130 : Int, ∃ x131 : Int, ∃ x132 : Int, ∃ x133 : Int, ∃ x134 : Int, ∃ x135 : Int, ∃ x136 : Int, ∃ x137 : Int, ∃ x138 : Int, ∃ x139 : Int, ∃ x140 : Int, ∃ x141 : Int, some ((x125, x126, x127, x128, x129, x130, x131, x132, x133, x134, x135, x136, x137, x138, x139, x140, x141)) = some o8 ∧ Fr 60 [] [(0, .int .i64 p0), (4, .pointer (some ⟨b1, 0, none⟩)), (6, .pointer (some ⟨b2, 0, none⟩)), (7, .pointer (some ⟨b3, 0, none⟩)), (9, .int .u32 x54), (10, .int .u32 x55), (11, .int .i64 x56), (12, .int .u32 x125), (27, .int .i64 p0), (28, .int .i64 x56), (31, .int .i64 p0), (32, .int .i64 x108)] a ∧ Stw ⟨Y, [], w0⟩ [(b3, [.int .i64 x126, .int .i64 x127, .int .i64 x128, .int .i64 x129, .int .i64 x130, .int .i64 x131, .int .i64 x132, .int .i64 x133, .int .i64 x134, .int .i64 x135, .int .i64 x136, .int .i64 x137, .int .i64 x138, .int .i64 x139, .int .i64 x140, .int .i64 x141]), (b2, (HI)), (b1, (Iw p1))] [] w) ?_ ?_
      ·
       have H := G8
       clear G8 K8
       refine vc tk 7 F W fun a w F W => ?_
       obtain ⟨o9, G9, K9⟩ := Ac H
       refine Aq (fun a w => ∃ x142 : Bool, some (x142) = some o9 ∧ Fr 60 [] [(0, .int .i64 p0), (4, .pointer (some ⟨b1, 0, none⟩)), (6, .pointer (some ⟨b2, 0, none⟩)), (7, .pointer (some ⟨b3, 0, none⟩)), (9, .int .u32 x54), (10, .int .u32 x55), (11, .int .i64 x56), (12, .int .u32 x107), (13, .int .i64 x108), (27, .int .i64 p0), (28, .int .i64 x56), (31, .int .i64 p0), (32, .int .i64 x108), (43, .bool x142)] a ∧ Stw ⟨Y, [], w0⟩ [(b3, [.int .i64 x109, .int .i64 x110, .int .i64 x111, .int .i64 x112, .int .i64 x113, .int .i64 x114, .int .i64 x115, .int .i64 x116, .int .i64 x117, .int .i64 x118, .int .i64 x119, .int .i64 x120, .int .i64 x121, .int .i64 x122, .int .i64 x123, .int .i64 x124]), (b2, (HI)), (b1, (Iw p1))] [] w) ?_ ?_
       ·
        have H := G9
        clear G9 K9
        refine vc tk 3 F W fun a w F W => ?_
        obtain ⟨x143, h5, H⟩ := Ac H
        refine ls F W Aa (Be (v := Value.bool x143) F Y2 Aa (fun w W => Im any w x54 x108 _ h5)) fun a w F W => ?_
        refine ls F W Aa (Ai F Aa).q fun a w F W => ?_
        rcases Bool.eq_false_or_eq_true x143 with hb | hb
        ·
         have H := D0 hb H
         rw [hb] at F
         clear hb
         refine vl tk 2 F W fun a w F W => ?_
         refine MB (Ae F Aa Aa Aa Aa) ?_
         obtain ⟨x144, h6, H⟩ := Ac H
         refine ls F W Aa (Be (v := Value.bool x144) F Y2 Aa (fun w W => Im any w x55 x108 _ h6)) fun a w F W => ?_
         refine vl tk 3 F W fun a w F W => ?_
         refine Ab ?_
         have W := W.frontM (i := 2) Aa Aa
         have W := W.frontM (i := 2) Aa Aa
         have W := W.frontM (i := 2) Aa Aa
         exact ⟨_, H, F.ra Aa, W⟩
        have H := DZ (by rw [hb]; decide) H
        rw [hb] at F
        clear hb
        refine vl tk 6 F W fun a w F W => ?_
        refine Ab ?_
        have W := W.frontM (i := 2) Aa Aa
        have W := W.frontM (i := 2) Aa Aa
        have W := W.frontM (i := 2) Aa Aa
        exact ⟨_, H, F.ra Aa, W⟩
       rintro a w ⟨x142, hj, F, W⟩
       have hj := Ax hj
       subst hj
       have H := K9
       clear G9 K9
       refine C2 F Aa H (fun F H => ?_) fun F H => ?_
       ·
        refine vc tk 5 F W fun a w F W => ?_
        obtain ⟨x145, h7, H⟩ := Ac H
        refine ls F W Aa (E3 (0 + (x108).toNat * 1) Pd F Aa Aa Aa h7 Aa).q fun a w F W => ?_
        refine H3 (o := 0) (m := 16) (i := x108) (l := ([x109, x110, x111, x112, x113, x114, x115, x116, x117, x118, x119, x120, x121, x122, x123, x124] : List Int)) (x := x145) (cs := [.int .i64 x109, .int .i64 x110, .int .i64 x111, .int .i64 x112, .int .i64 x113, .int .i64 x114, .int .i64 x115, .int .i64 x116, .int .i64 x117, .int .i64 x118, .int .i64 x119, .int .i64 x120, .int .i64 x121, .int .i64 x122, .int .i64 x123, .int .i64 x124]) (cs' := [.int .i64 (if x108 = 0 then An (x56 + 1) else x109), .int .i64 (if x108 = 1 then An (x56 + 1) else x110), .int .i64 (if x108 = 2 then An (x56 + 1) else x111), .int .i64 (if x108 = 3 then An (x56 + 1) else x112), .int .i64 (if x108 = 4 then An (x56 + 1) else x113), .int .i64 (if x108 = 5 then An (x56 + 1) else x114), .int .i64 (if x108 = 6 then An (x56 + 1) else x115), .int .i64 (if x108 = 7 then An (x56 + 1) else x116), .int .i64 (if x108 = 8 then An (x56 + 1) else x117), .int .i64 (if x108 = 9 then An (x56 + 1) else x118), .int .i64 (if x108 = 10 then An (x56 + 1) else x119), .int .i64 (if x108 = 11 then An (x56 + 1) else x120), .int .i64 (if x108 = 12 then An (x56 + 1) else x121), .int .i64 (if x108 = 13 then An (x56 + 1) else x122), .int .i64 (if x108 = 14 then An (x56 + 1) else x123), .int .i64 (if x108 = 15 then An (x56 + 1) else x124)]) 0 F W Aa Aa Aa T3 Aa Aa Aa Aa h7 (by intro k hk hn; rw [hk]; match k, hn with | 0, _ => rfl | 1, _ => rfl | 2, _ => rfl | 3, _ => rfl | 4, _ => rfl | 5, _ => rfl | 6, _ => rfl | 7, _ => rfl | 8, _ => rfl | 9, _ => rfl | 10, _ => rfl | 11, _ => rfl | 12, _ => rfl | 13, _ => rfl | 14, _ => rfl | 15, _ => rfl | (z + 16), h => exact absurd h (by omega)) fun w W => ?_
        have W : Stw ⟨Y, [], w0⟩ [(b3, [.int .i64 (if x108 = 0 then An (x56 + 1) else x109), .int .i64 (if x108 = 1 then An (x56 + 1) else x110), .int .i64 (if x108 = 2 then An (x56 + 1) else x111), .int .i64 (if x108 = 3 then An (x56 + 1) else x112), .int .i64 (if x108 = 4 then An (x56 + 1) else x113), .int .i64 (if x108 = 5 then An (x56 + 1) else x114), .int .i64 (if x108 = 6 then An (x56 + 1) else x115), .int .i64 (if x108 = 7 then An (x56 + 1) else x116), .int .i64 (if x108 = 8 then An (x56 + 1) else x117), .int .i64 (if x108 = 9 then An (x56 + 1) else x118), .int .i64 (if x108 = 10 then An (x56 + 1) else x119), .int .i64 (if x108 = 11 then An (x56 + 1) else x120), .int .i64 (if x108 = 12 then An (x56 + 1) else x121), .int .i64 (if x108 = 13 then An (x56 + 1) else x122), .int .i64 (if x108 = 14 then An (x56 + 1) else x123), .int .i64 (if x108 = 15 then An (x56 + 1) else x124)]), (b2, (HI)), (b1, (Iw p1))] [] w := W
        refine BR tk 5 F W fun a w F W => ?_
        obtain ⟨x146, h8, H⟩ := Ac H
        refine ls F W Aa (E3 (0 + (x108).toNat * 1) M7 F Aa Aa Aa h8 Aa).q fun a w F W => ?_
        refine ls F W Aa (BE (v := Value.int .u32 x146) 2 F Aa Aa QO (IE (base := 0) (m := 16) (l := [p1.1, p1.2.1, p1.2.2.1, p1.2.2.2.1, p1.2.2.2.2.1, p1.2.2.2.2.2.1, p1.2.2.2.2.2.2.1, p1.2.2.2.2.2.2.2.1, p1.2.2.2.2.2.2.2.2.1, p1.2.2.2.2.2.2.2.2.2.1, p1.2.2.2.2.2.2.2.2.2.2.1, p1.2.2.2.2.2.2.2.2.2.2.2.1, p1.2.2.2.2.2.2.2.2.2.2.2.2.1, p1.2.2.2.2.2.2.2.2.2.2.2.2.2.1, p1.2.2.2.2.2.2.2.2.2.2.2.2.2.2.1, p1.2.2.2.2.2.2.2.2.2.2.2.2.2.2.2]) (enc := Value.int .u32) Aa h8)).q fun a w F W => ?_
        refine vl tk 3 F W fun a w F W => ?_
        refine Aw (Ab ?_)
        have W := W.frontM (i := 2) Aa Aa
        have W := W.frontM (i := 2) Aa Aa
        have W := W.frontM (i := 2) Aa Aa
        exact ⟨_, _, _, _, _, _, _, _, _, _, _, _, _, _, _, _, _, H, F.ra Aa, W⟩
       refine AB (Aw (Ab ?_))
       have W := W.frontM (i := 2) Aa Aa
       have W := W.frontM (i := 2) Aa Aa
       have W := W.frontM (i := 2) Aa Aa
       exact ⟨_, _, _, _, _, _, _, _, _, _, _, _, _, _, _, _, _, H, F.ra Aa, W⟩
      rintro a w ⟨x125, x126, x127, x128, x129, x130, x131, x132, x133, x134, x135, x136, x137, x138, x139, x140, x141, hj, F, W⟩
      have hj := Ax hj
      subst hj
      have H := K8
      clear G8 K8
      refine vc tk 4 F W fun a w F W => ?_
      refine Ab ?_
      have W := W.frontM (i := 2) Aa Aa
      have W := W.frontM (i := 2) Aa Aa
      have W := W.frontM (i := 2) Aa Aa
      exact ⟨_, H, F.ra Aa, W⟩
     refine AA ?_
     iterate 2 refine AQ ?_
     refine AC (Ab ?_)
     have W := W.frontM (i := 2) Aa Aa
     have W := W.frontM (i := 2) Aa Aa
     have W := W.frontM (i := 2) Aa Aa
     have H := L7 _ H
     exact ⟨_, _, _, _, _, _, _, _, _, _, _, _, _, _, _, _, _, H, F.ra Aa, W⟩
    rintro a w ⟨x90, x91, x92, x93, x94, x95, x96, x97, x98, x99, x100, x101, x102, x103, x104, x105, x106, hj, F, W⟩
    have hj := Ax hj
    subst hj
    have H := K6
    clear G6 K6
    refine vc tk 12 F W fun a w F W => ?_
    refine Aw (Ab ?_)
    have W := W.frontM (i := 2) Aa Aa
    have W := W.frontM (i := 2) Aa Aa
    have W := W.frontM (i := 2) Aa Aa
    exact ⟨_, _, _, _, _, _, _, _, _, _, _, _, _, _, _, _, _, H, F.ra Aa, W⟩
   rintro a w ⟨x73, x74, x75, x76, x77, x78, x79, x80, x81, x82, x83, x84, x85, x86, x87, x88, x89, hj, F, W⟩
   have hj := Ax hj
   subst hj
   have H := K5
   clear G5 K5
   refine vc tk 4 F W fun a w F W => ?_
   refine Ab ?_
   have W := W.frontM (i := 2) Aa Aa
   have W := W.frontM (i := 2) Aa Aa
   have W := W.frontM (i := 2) Aa Aa
   exact ⟨_, H, F.ra Aa, W⟩
  refine AA ?_
  iterate 2 refine AQ ?_
  refine AC (Ab ?_)
  have W := W.frontM (i := 2) Aa Aa
  have W := W.frontM (i := 2) Aa Aa
  have W := W.frontM (i := 2) Aa Aa
  have H := L4 _ H
  exact ⟨_, _, _, _, _, _, _, _, _, _, _, _, _, _, _, _, H, F.ra Aa, W⟩
 rintro a w ⟨x38, x39, x40, x41, x42, x43, x44, x45, x46, x47, x48, x49, x50, x51, x52, x53, hj, F, W⟩
 have hj := Ax hj
 subst hj
 have H := K3
 clear G3 K3
 refine IL tk 3 [0] F W (ai fun a w F W => ?_)
 refine Ey 1 F W Aa Aa Aa Tm Aa Aa Aa fun w W => ?_
 refine BR tk 2 F W fun a w F W => ?_
 refine Ao ?_
 have H := Ax H
 subst H
 refine A1 (.inl Aa) F W Aa (Iz 1 F Aa Aa Tm Aa) ?_
 exact ⟨rfl, W.done⟩
theorem aU : Has Tryz.prog 80 := Cu Tryz.func80
abbrev QL (a0 : Nat) (a1 : Int × Int × Int × Int × Int × Int × Int × Int × Int × Int × Int × Int × Int × Int × Int × Int) : List (Nat × List Value) := [(a0, [.int .i64 a1.1, .int .i64 a1.2.1, .int .i64 a1.2.2.1, .int .i64 a1.2.2.2.1, .int .i64 a1.2.2.2.2.1, .int .i64 a1.2.2.2.2.2.1, .int .i64 a1.2.2.2.2.2.2.1, .int .i64 a1.2.2.2.2.2.2.2.1, .int .i64 a1.2.2.2.2.2.2.2.2.1, .int .i64 a1.2.2.2.2.2.2.2.2.2.1, .int .i64 a1.2.2.2.2.2.2.2.2.2.2.1, .int .i64 a1.2.2.2.2.2.2.2.2.2.2.2.1, .int .i64 a1.2.2.2.2.2.2.2.2.2.2.2.2.1, .int .i64 a1.2.2.2.2.2.2.2.2.2.2.2.2.2.1, .int .i64 a1.2.2.2.2.2.2.2.2.2.2.2.2.2.2.1, .int .i64 a1.2.2.2.2.2.2.2.2.2.2.2.2.2.2.2])]
noncomputable def Cx (p0 : Int) (p1 : Int) (p2 : Int × Int × Int × Int × Int × Int × Int × Int × Int × Int × Int × Int × Int × Int × Int × Int) : (Int × Int) → Option ((Int × Int) ⊕ Int)
  | (x2, x3) => (if x3 < p0 then (((Eb p1 x3).bind fun x6 => (if x6 = true then (ix ([p2.1, p2.2.1, p2.2.2.1, p2.2.2.2.1, p2.2.2.2.2.1, p2.2.2.2.2.2.1, p2.2.2.2.2.2.2.1, p2.2.2.2.2.2.2.2.1, p2.2.2.2.2.2.2.2.2.1, p2.2.2.2.2.2.2.2.2.2.1, p2.2.2.2.2.2.2.2.2.2.2.1, p2.2.2.2.2.2.2.2.2.2.2.2.1, p2.2.2.2.2.2.2.2.2.2.2.2.2.1, p2.2.2.2.2.2.2.2.2.2.2.2.2.2.1, p2.2.2.2.2.2.2.2.2.2.2.2.2.2.2.1, p2.2.2.2.2.2.2.2.2.2.2.2.2.2.2.2] : List Int) x3).bind fun x7 => (if 0 ≤ x7 then (if x2 < 0 then some true else (ix ([p2.1, p2.2.1, p2.2.2.1, p2.2.2.2.1, p2.2.2.2.2.1, p2.2.2.2.2.2.1, p2.2.2.2.2.2.2.1, p2.2.2.2.2.2.2.2.1, p2.2.2.2.2.2.2.2.2.1, p2.2.2.2.2.2.2.2.2.2.1, p2.2.2.2.2.2.2.2.2.2.2.1, p2.2.2.2.2.2.2.2.2.2.2.2.1, p2.2.2.2.2.2.2.2.2.2.2.2.2.1, p2.2.2.2.2.2.2.2.2.2.2.2.2.2.1, p2.2.2.2.2.2.2.2.2.2.2.2.2.2.2.1, p2.2.2.2.2.2.2.2.2.2.2.2.2.2.2.2] : List Int) x3).bind fun x8 => (ix ([p2.1, p2.2.1, p2.2.2.1, p2.2.2.2.1, p2.2.2.2.2.1, p2.2.2.2.2.2.1, p2.2.2.2.2.2.2.1, p2.2.2.2.2.2.2.2.1, p2.2.2.2.2.2.2.2.2.1, p2.2.2.2.2.2.2.2.2.2.1, p2.2.2.2.2.2.2.2.2.2.2.1, p2.2.2.2.2.2.2.2.2.2.2.2.1, p2.2.2.2.2.2.2.2.2.2.2.2.2.1, p2.2.2.2.2.2.2.2.2.2.2.2.2.2.1, p2.2.2.2.2.2.2.2.2.2.2.2.2.2.2.1, p2.2.2.2.2.2.2.2.2.2.2.2.2.2.2.2] : List Int) x2).bind fun x9 => some (decide (x8 < x9))) else some false) else some false)).bind fun x5 => (if x5 = true then some x3 else some x2)).bind fun x4 => some (.inl (x4, An (x3 + 1))) else some (.inr x2))
noncomputable def D7 (p0 : Int) (p1 : Int) (p2 : Int × Int × Int × Int × Int × Int × Int × Int × Int × Int × Int × Int × Int × Int × Int × Int) : Option Int := (Ap (Cx p0 p1 p2) ((-1), 0)).bind fun x1 => some x1
theorem Ko (Y : Nat → Prop) (w0 : World)  (p0 : Int) (p1 : Int) (p2 : Int × Int × Int × Int × Int × Int × Int × Int × Int × Int × Int × Int × Int × Int × Int × Int) (r : Int) (H : D7 p0 p1 p2 = some r)  :
    Calls Tryz.prog 82 #[.int .i64 p0, .int .u32 p1, .agg #[.int .i64 p2.1, .int .i64 p2.2.1, .int .i64 p2.2.2.1, .int .i64 p2.2.2.2.1, .int .i64 p2.2.2.2.2.1, .int .i64 p2.2.2.2.2.2.1, .int .i64 p2.2.2.2.2.2.2.1, .int .i64 p2.2.2.2.2.2.2.2.1, .int .i64 p2.2.2.2.2.2.2.2.2.1, .int .i64 p2.2.2.2.2.2.2.2.2.2.1, .int .i64 p2.2.2.2.2.2.2.2.2.2.2.1, .int .i64 p2.2.2.2.2.2.2.2.2.2.2.2.1, .int .i64 p2.2.2.2.2.2.2.2.2.2.2.2.2.1, .int .i64 p2.2.2.2.2.2.2.2.2.2.2.2.2.2.1, .int .i64 p2.2.2.2.2.2.2.2.2.2.2.2.2.2.2.1, .int .i64 p2.2.2.2.2.2.2.2.2.2.2.2.2.2.2.2]] w0 fun e w' => e = .returned (.int .i64 r) ∧ Below w0.heap.size w0 w' := by
 refine enter Tryz.func82 Aa Tryz.ntmps82 Aa fun a F => ?_
 have W := Stw.start Y w0
 unfold D7 at H
 refine vc tk 2 F W fun a w F W => ?_
 refine D2 (cs := [.int .i64 p2.1, .int .i64 p2.2.1, .int .i64 p2.2.2.1, .int .i64 p2.2.2.2.1, .int .i64 p2.2.2.2.2.1, .int .i64 p2.2.2.2.2.2.1, .int .i64 p2.2.2.2.2.2.2.1, .int .i64 p2.2.2.2.2.2.2.2.1, .int .i64 p2.2.2.2.2.2.2.2.2.1, .int .i64 p2.2.2.2.2.2.2.2.2.2.1, .int .i64 p2.2.2.2.2.2.2.2.2.2.2.1, .int .i64 p2.2.2.2.2.2.2.2.2.2.2.2.1, .int .i64 p2.2.2.2.2.2.2.2.2.2.2.2.2.1, .int .i64 p2.2.2.2.2.2.2.2.2.2.2.2.2.2.1, .int .i64 p2.2.2.2.2.2.2.2.2.2.2.2.2.2.2.1, .int .i64 p2.2.2.2.2.2.2.2.2.2.2.2.2.2.2.2]) F W Aa Aa Aa fun b1 a w F W => ?_
 refine BR tk 8 F W fun a w F W => ?_
 obtain ⟨o1, G1, K1⟩ := Ac H
 refine Aq (fun a w => ∃ x1 : Int, some (x1) = some o1 ∧ Fr 38 [] [(6, .int .i64 0), (7, .int .i64 x1)] a ∧ Stw ⟨Y, [], w0⟩ (QL b1 p2) [] w) ?_ ?_
 ·
  have H := G1
  clear G1 K1
  refine vc tk 7 F W fun a w F W => ?_
  refine AL H (fun s a w => Fr 38 [] [(1, .int .u32 p1), (5, .pointer (some ⟨b1, 0, none⟩)), (6, .int .i64 0), (7, .int .i64 s.1), (9, .int .i64 p0), (10, .int .i64 s.2)] a ∧ Stw ⟨Y, [], w0⟩ (QL b1 p2) [] w) ⟨F.ra Aa, W⟩ fun s o a w H L2 hR => ?_
  obtain ⟨x2, x3⟩ := s
  obtain ⟨F, W⟩ := hR
  have F : Fr 38 [] [(1, .int .u32 p1), (5, .pointer (some ⟨b1, 0, none⟩)), (6, .int .i64 0), (7, .int .i64 x2), (9, .int .i64 p0), (10, .int .i64 x3)] a := F
  have W : Stw ⟨Y, [], w0⟩ (QL b1 p2) [] w := W
  rw [Cx] at H
  refine vc tk 6 F W fun a w F W => ?_
  refine AU F Aa H (fun F H => ?_) fun F H => ?_
  ·
   refine AB (Ab ?_)
   obtain ⟨o3, G3, K3⟩ := Ac H
   refine Aq (fun a w => ∃ x4 : Int, some (x4) = some o3 ∧ Fr 38 [] [(1, .int .u32 p1), (5, .pointer (some ⟨b1, 0, none⟩)), (6, .int .i64 0), (7, .int .i64 x4), (9, .int .i64 p0), (10, .int .i64 x3)] a ∧ Stw ⟨Y, [], w0⟩ (QL b1 p2) [] w) ?_ ?_
   ·
    have H := G3
    clear G3 K3
    refine vc tk 7 F W fun a w F W => ?_
    obtain ⟨o4, G4, K4⟩ := Ac H
    refine Aq (fun a w => ∃ x5 : Bool, some (x5) = some o4 ∧ Fr 38 [] [(1, .int .u32 p1), (5, .pointer (some ⟨b1, 0, none⟩)), (6, .int .i64 0), (7, .int .i64 x2), (8, .int .i64 x3), (9, .int .i64 p0), (10, .int .i64 x3), (34, .bool x5)] a ∧ Stw ⟨Y, [], w0⟩ (QL b1 p2) [] w) ?_ ?_
    ·
     have H := G4
     clear G4 K4
     refine BB W MO (by kernel_rfl) ?_
     iterate 2 refine qs F Aa (Ai F Aa).q fun a F => ?_
     obtain ⟨x6, h1, H⟩ := Ac H
     refine qs F Aa (Be (v := Value.bool x6) F Y2 Aa (fun w W => Im any w p1 x3 _ h1)) fun a F => ?_
     refine qs F Aa (Ai F Aa).q fun a F => ?_
     rcases Bool.eq_false_or_eq_true x6 with hb | hb
     ·
      have H := D0 hb H
      rw [hb] at F
      clear hb
      refine A8 F (Ae F Aa Aa Aa Aa) Aa (As Aa) (Ai F Aa).q fun a F => ?_
      obtain ⟨x7, h2, H⟩ := Ac H
      refine A8 F (Ae F Aa Aa Aa Aa) Aa (As Aa) (E3 (0 + (x3).toNat * 1) Pd F Aa Aa Aa h2 Aa).q fun a F => ?_
      refine A8 F (Ae F Aa Aa Aa Aa) Aa (As Aa) (BE (v := Value.int .i64 x7) 0 F Aa Aa T3 (IE (base := 0) (m := 16) (l := [p2.1, p2.2.1, p2.2.2.1, p2.2.2.2.1, p2.2.2.2.2.1, p2.2.2.2.2.2.1, p2.2.2.2.2.2.2.1, p2.2.2.2.2.2.2.2.1, p2.2.2.2.2.2.2.2.2.1, p2.2.2.2.2.2.2.2.2.2.1, p2.2.2.2.2.2.2.2.2.2.2.1, p2.2.2.2.2.2.2.2.2.2.2.2.1, p2.2.2.2.2.2.2.2.2.2.2.2.2.1, p2.2.2.2.2.2.2.2.2.2.2.2.2.2.1, p2.2.2.2.2.2.2.2.2.2.2.2.2.2.2.1, p2.2.2.2.2.2.2.2.2.2.2.2.2.2.2.2]) (enc := Value.int .i64) Aa h2)).q fun a F => ?_
      refine A8 F (Ae F Aa Aa Aa Aa) Aa (As Aa) (VU F Aa Aa).q fun a F => ?_
      refine qs F Aa (Dh F Aa Aa Aa).q fun a F => ?_
      refine qs F Aa (Ai F Aa).q fun a F => ?_
      rcases Bool.eq_false_or_eq_true (decide (0 ≤ x7)) with hb | hb
      ·
       have H := D0 (Fm hb) H
       rw [hb] at F
       clear hb
       refine A8 F (Ae F Aa Aa Aa Aa) Aa (As Aa) (Ai F Aa).q fun a F => ?_
       refine A8 F (Ae F Aa Aa Aa Aa) Aa (As Aa) (GM F Aa Aa).q fun a F => ?_
       refine A8 F (Ae F Aa Aa Aa Aa) Aa (As Aa) (Ai F Aa).q fun a F => ?_
       rcases Bool.eq_false_or_eq_true (decide (x2 < 0)) with hb | hb
       ·
        have H := D0 (Fm hb) H
        rw [hb] at F
        clear hb
        iterate 7 refine Ds F (C3 F Aa Aa Aa Aa Aa) Aa Aa fun a F => ?_
        refine A8 F (Ae F Aa Aa Aa Aa) Aa (As Aa) (Dh F Aa Aa Aa).q fun a F => ?_
        refine qs F Aa (Dh F Aa Aa Aa).q fun a F => ?_
        refine AD fun w W => ?_
        refine Ab ?_
        exact ⟨_, H, F.ra Aa, W⟩
       have H := DZ (Fo hb) H
       rw [hb] at F
       clear hb
       refine A8 F (Ae F Aa Aa Aa Aa) Aa (As Aa) (Ai F Aa).q fun a F => ?_
       obtain ⟨x8, h3, H⟩ := Ac H
       refine A8 F (Ae F Aa Aa Aa Aa) Aa (As Aa) (E3 (0 + (x3).toNat * 1) Pd F Aa Aa Aa h3 Aa).q fun a F => ?_
       refine A8 F (Ae F Aa Aa Aa Aa) Aa (As Aa) (BE (v := Value.int .i64 x8) 0 F Aa Aa T3 (IE (base := 0) (m := 16) (l := [p2.1, p2.2.1, p2.2.2.1, p2.2.2.2.1, p2.2.2.2.2.1, p2.2.2.2.2.2.1, p2.2.2.2.2.2.2.1, p2.2.2.2.2.2.2.2.1, p2.2.2.2.2.2.2.2.2.1, p2.2.2.2.2.2.2.2.2.2.1, p2.2.2.2.2.2.2.2.2.2.2.1, p2.2.2.2.2.2.2.2.2.2.2.2.1, p2.2.2.2.2.2.2.2.2.2.2.2.2.1, p2.2.2.2.2.2.2.2.2.2.2.2.2.2.1, p2.2.2.2.2.2.2.2.2.2.2.2.2.2.2.1, p2.2.2.2.2.2.2.2.2.2.2.2.2.2.2.2]) (enc := Value.int .i64) Aa h3)).q fun a F => ?_
       refine A8 F (Ae F Aa Aa Aa Aa) Aa (As Aa) (Ai F Aa).q fun a F => ?_
       obtain ⟨x9, h4, H⟩ := Ac H
       refine A8 F (Ae F Aa Aa Aa Aa) Aa (As Aa) (E3 (0 + (x2).toNat * 1) Pd F Aa Aa Aa h4 Aa).q fun a F => ?_
       refine A8 F (Ae F Aa Aa Aa Aa) Aa (As Aa) (BE (v := Value.int .i64 x9) 0 F Aa Aa T3 (IE (base := 0) (m := 16) (l := [p2.1, p2.2.1, p2.2.2.1, p2.2.2.2.1, p2.2.2.2.2.1, p2.2.2.2.2.2.1, p2.2.2.2.2.2.2.1, p2.2.2.2.2.2.2.2.1, p2.2.2.2.2.2.2.2.2.1, p2.2.2.2.2.2.2.2.2.2.1, p2.2.2.2.2.2.2.2.2.2.2.1, p2.2.2.2.2.2.2.2.2.2.2.2.1, p2.2.2.2.2.2.2.2.2.2.2.2.2.1, p2.2.2.2.2.2.2.2.2.2.2.2.2.2.1, p2.2.2.2.2.2.2.2.2.2.2.2.2.2.2.1, p2.2.2.2.2.2.2.2.2.2.2.2.2.2.2.2]) (enc := Value.int .i64) Aa h4)).q fun a F => ?_
       refine A8 F (Ae F Aa Aa Aa Aa) Aa (As Aa) (GM F Aa Aa).q fun a F => ?_
       refine A8 F (Ae F Aa Aa Aa Aa) Aa (As Aa) (DC F Aa Aa Aa).q fun a F => ?_
       refine qs F Aa (Dh F Aa Aa Aa).q fun a F => ?_
       refine AD fun w W => ?_
       refine Ab ?_
       exact ⟨_, H, F.ra Aa, W⟩
      have H := DZ (Fo hb) H
      rw [hb] at F
      clear hb
      iterate 3 refine Ds F (C3 F Aa Aa Aa Aa Aa) Aa Aa fun a F => ?_
      iterate 7 refine Ds F (J4 F Aa Aa Aa Aa) Aa Aa fun a F => ?_
      refine Ds F (C3 F Aa Aa Aa Aa Aa) Aa Aa fun a F => ?_
      refine qs F Aa (DC F Aa Aa Aa).q fun a F => ?_
      refine AD fun w W => ?_
      refine Ab ?_
      exact ⟨_, H, F.ra Aa, W⟩
     have H := DZ (by rw [hb]; decide) H
     rw [hb] at F
     clear hb
     iterate 4 refine Ds F (C3 F Aa Aa Aa Aa Aa) Aa Aa fun a F => ?_
     refine qs F Aa (DC F Aa Aa Aa).q fun a F => ?_
     refine qs F Aa (Ai F Aa).q fun a F => ?_
     iterate 3 refine Ds F (C3 F Aa Aa Aa Aa Aa) Aa Aa fun a F => ?_
     iterate 7 refine Ds F (J4 F Aa Aa Aa Aa) Aa Aa fun a F => ?_
     refine Ds F (C3 F Aa Aa Aa Aa Aa) Aa Aa fun a F => ?_
     refine qs F Aa (DC F Aa Aa Aa).q fun a F => ?_
     refine AD fun w W => ?_
     refine Ab ?_
     exact ⟨_, H, F.ra Aa, W⟩
    rintro a w ⟨x5, hj, F, W⟩
    have hj := Ax hj
    subst hj
    have H := K4
    clear G4 K4
    refine C2 F Aa H (fun F H => ?_) fun F H => ?_
    ·
     refine vc tk 4 F W fun a w F W => ?_
     refine Aw (Ab ?_)
     exact ⟨_, H, F.ra Aa, W⟩
    refine AB (Aw (Ab ?_))
    exact ⟨_, H, F.ra Aa, W⟩
   rintro a w ⟨x4, hj, F, W⟩
   have hj := Ax hj
   subst hj
   have H := K3
   clear G3 K3
   refine vc tk 4 F W fun a w F W => ?_
   refine Ab ?_
   exact ⟨_, H, F.ra Aa, W⟩
  refine AA ?_
  iterate 2 refine AQ ?_
  refine AC (Ab ?_)
  have H := L2 _ H
  exact ⟨_, H, F.ra Aa, W⟩
 rintro a w ⟨x1, hj, F, W⟩
 have hj := Ax hj
 subst hj
 have H := K1
 clear G1 K1
 refine vc tk 6 F W fun a w F W => ?_
 refine Ao ?_
 have H := Ax H
 subst H
 refine A1 (.inl Aa) F W Aa (Am F Aa) ?_
 exact ⟨rfl, W.done⟩
theorem Zm : Has Tryz.prog 82 := Cu Tryz.func82
abbrev P5 (a0 : Nat) (a1 : (Int × Int × Int × Int × Int × Int × Int × Int × Int × Int × Int × Int × Int × Int × Int × Int)) : List (Nat × List Value) := [(a0, [.int .u32 a1.1, .int .u32 a1.2.1, .int .u32 a1.2.2.1, .int .u32 a1.2.2.2.1, .int .u32 a1.2.2.2.2.1, .int .u32 a1.2.2.2.2.2.1, .int .u32 a1.2.2.2.2.2.2.1, .int .u32 a1.2.2.2.2.2.2.2.1, .int .u32 a1.2.2.2.2.2.2.2.2.1, .int .u32 a1.2.2.2.2.2.2.2.2.2.1, .int .u32 a1.2.2.2.2.2.2.2.2.2.2.1, .int .u32 a1.2.2.2.2.2.2.2.2.2.2.2.1, .int .u32 a1.2.2.2.2.2.2.2.2.2.2.2.2.1, .int .u32 a1.2.2.2.2.2.2.2.2.2.2.2.2.2.1, .int .u32 a1.2.2.2.2.2.2.2.2.2.2.2.2.2.2.1, .int .u32 a1.2.2.2.2.2.2.2.2.2.2.2.2.2.2.2])]
abbrev Qy (a0 : Nat) (a1 : (Int × Int × Int × Int × Int × Int × Int × Int × Int × Int × Int × Int × Int × Int × Int × Int)) (a2 : Nat) (a3 : (Int × Int × Int × Int × Int × Int × Int × Int × Int × Int × Int × Int × Int × Int × Int × Int)) : List (Nat × List Value) := [(a0, [.int .i64 a1.1, .int .i64 a1.2.1, .int .i64 a1.2.2.1, .int .i64 a1.2.2.2.1, .int .i64 a1.2.2.2.2.1, .int .i64 a1.2.2.2.2.2.1, .int .i64 a1.2.2.2.2.2.2.1, .int .i64 a1.2.2.2.2.2.2.2.1, .int .i64 a1.2.2.2.2.2.2.2.2.1, .int .i64 a1.2.2.2.2.2.2.2.2.2.1, .int .i64 a1.2.2.2.2.2.2.2.2.2.2.1, .int .i64 a1.2.2.2.2.2.2.2.2.2.2.2.1, .int .i64 a1.2.2.2.2.2.2.2.2.2.2.2.2.1, .int .i64 a1.2.2.2.2.2.2.2.2.2.2.2.2.2.1, .int .i64 a1.2.2.2.2.2.2.2.2.2.2.2.2.2.2.1, .int .i64 a1.2.2.2.2.2.2.2.2.2.2.2.2.2.2.2]), (a2, [.int .u32 a3.1, .int .u32 a3.2.1, .int .u32 a3.2.2.1, .int .u32 a3.2.2.2.1, .int .u32 a3.2.2.2.2.1, .int .u32 a3.2.2.2.2.2.1, .int .u32 a3.2.2.2.2.2.2.1, .int .u32 a3.2.2.2.2.2.2.2.1, .int .u32 a3.2.2.2.2.2.2.2.2.1, .int .u32 a3.2.2.2.2.2.2.2.2.2.1, .int .u32 a3.2.2.2.2.2.2.2.2.2.2.1, .int .u32 a3.2.2.2.2.2.2.2.2.2.2.2.1, .int .u32 a3.2.2.2.2.2.2.2.2.2.2.2.2.1, .int .u32 a3.2.2.2.2.2.2.2.2.2.2.2.2.2.1, .int .u32 a3.2.2.2.2.2.2.2.2.2.2.2.2.2.2.1, .int .u32 a3.2.2.2.2.2.2.2.2.2.2.2.2.2.2.2])]
noncomputable def Fa (p0 : Int) (x2 : (Int × Int × Int × Int × Int × Int × Int × Int × Int × Int × Int × Int × Int × Int × Int × Int)) (x3 : Int) (x5 : (Int × Int × Int × Int × Int × Int × Int × Int × Int × Int × Int × Int × Int × Int × Int × Int)) : (List Int × Int) → Option ((List Int × Int) ⊕ (List Int))
  | (x9, x10) => (if x10 ≠ x3 then (H4 x9 ([x10] : List Int)).bind fun x11 => (ix ([x2.1, x2.2.1, x2.2.2.1, x2.2.2.2.1, x2.2.2.2.2.1, x2.2.2.2.2.2.1, x2.2.2.2.2.2.2.1, x2.2.2.2.2.2.2.2.1, x2.2.2.2.2.2.2.2.2.1, x2.2.2.2.2.2.2.2.2.2.1, x2.2.2.2.2.2.2.2.2.2.2.1, x2.2.2.2.2.2.2.2.2.2.2.2.1, x2.2.2.2.2.2.2.2.2.2.2.2.2.1, x2.2.2.2.2.2.2.2.2.2.2.2.2.2.1, x2.2.2.2.2.2.2.2.2.2.2.2.2.2.2.1, x2.2.2.2.2.2.2.2.2.2.2.2.2.2.2.2] : List Int) x10).bind fun x12 => (D7 p0 x12 x5).bind fun x13 => some (.inl (x11, x13)) else some (.inr x9))
noncomputable def F4 (p0 : Int) (p1 : List (Int × Int)) (x2 : (Int × Int × Int × Int × Int × Int × Int × Int × Int × Int × Int × Int × Int × Int × Int × Int)) : Int → Option (Int ⊕ (Unit ⊕ (List Int)))
  | x3 => (if x3 < p0 then GN ((DH p1).bind fun x4 => (En p0 x4 x3).bind fun x5 => (ix ([x2.1, x2.2.1, x2.2.2.1, x2.2.2.2.1, x2.2.2.2.2.1, x2.2.2.2.2.2.1, x2.2.2.2.2.2.2.1, x2.2.2.2.2.2.2.2.1, x2.2.2.2.2.2.2.2.2.1, x2.2.2.2.2.2.2.2.2.2.1, x2.2.2.2.2.2.2.2.2.2.2.1, x2.2.2.2.2.2.2.2.2.2.2.2.1, x2.2.2.2.2.2.2.2.2.2.2.2.2.1, x2.2.2.2.2.2.2.2.2.2.2.2.2.2.1, x2.2.2.2.2.2.2.2.2.2.2.2.2.2.2.1, x2.2.2.2.2.2.2.2.2.2.2.2.2.2.2.2] : List Int) x3).bind fun x6 => (D7 p0 x6 x5).bind fun x7 => (if x7 < 0 then some (.inl ()) else (Ap (Fa p0 x2 x3 x5) (([x3] : List Int), x7)).bind fun x8 => some (.inr (.inr (.inr x8))))) fun _ => some (.inl (An (x3 + 1))) else some (.inr (.inl ())))
noncomputable def Em (p0 : Int) (p1 : List (Int × Int)) : Option (List Int) := (GA p0 p1).bind fun x1 => (if (!x1) = true then some ([] : List Int) else (D4 p1).bind fun x2 => GN (Ap (F4 p0 p1 x2) 0) fun _ => some ([] : List Int))
theorem PH (Y : Nat → Prop) (w0 : World) (v1 : Value) (p0 : Int) (p1 : List (Int × Int)) (r : List Int) (H : Em p0 p1 = some r) (h_v1 : Sl w0 (NX []) HA v1 p1) :
    Calls Tryz.prog 59 #[.int .i64 p0, v1] w0 fun e w' => ∃ x : Value, e = .returned (x) ∧ Stw ⟨Y, [], w0⟩ [] [row (x) 3 (Rp.int .i64) r] w' := by
 refine enter Tryz.func59 Aa Tryz.ntmps59 Aa fun a F => ?_
 have W := Stw.start Y w0
 unfold Em at H
 refine vc tk 10 F W fun a w F W => ?_
 obtain ⟨x1, h1, H⟩ := Ac H
 refine ls F W Aa (Be (v := Value.bool x1) F bQ Aa (fun w W => OK any w (v1) p0 p1 _ h1 (EG (Ad h_v1) W))) fun a w F W => ?_
 refine BR tk 3 F W fun a w F W => ?_
 refine C2 F Aa H (fun F H => ?_) fun F H => ?_
 ·
  refine vc tk 5 F W fun a w F W => ?_
  refine Ao (AE ?_)
  have H := Ax H
  subst H
  refine A1 (.inl Aa) F W Aa (Am F Aa) ?_
  have W := W.nilRow 3 (Rp.int .i64)
  exact ⟨(Value.slice none 0 0), Aa, W⟩
 refine FP tk 5 F W fun a w F W => ?_
 obtain ⟨x2, h2, H⟩ := Ac H
 refine ls F W Aa (Be (v := Value.agg #[.int .u32 x2.1, .int .u32 x2.2.1, .int .u32 x2.2.2.1, .int .u32 x2.2.2.2.1, .int .u32 x2.2.2.2.2.1, .int .u32 x2.2.2.2.2.2.1, .int .u32 x2.2.2.2.2.2.2.1, .int .u32 x2.2.2.2.2.2.2.2.1, .int .u32 x2.2.2.2.2.2.2.2.2.1, .int .u32 x2.2.2.2.2.2.2.2.2.2.1, .int .u32 x2.2.2.2.2.2.2.2.2.2.2.1, .int .u32 x2.2.2.2.2.2.2.2.2.2.2.2.1, .int .u32 x2.2.2.2.2.2.2.2.2.2.2.2.2.1, .int .u32 x2.2.2.2.2.2.2.2.2.2.2.2.2.2.1, .int .u32 x2.2.2.2.2.2.2.2.2.2.2.2.2.2.2.1, .int .u32 x2.2.2.2.2.2.2.2.2.2.2.2.2.2.2.2]) F aQ Aa (fun w W => LK any w (v1) p1 _ h2 (EG (Ad h_v1) W))) fun a w F W => ?_
 refine B8 (cs := (IZ)) F W Aa TA Aa fun b1 a w F W => ?_
 refine Ey 0 F W Aa Aa Aa TH Aa Aa Aa fun w W => ?_
 refine FG (Ab ?_)
 obtain ⟨o1, G1, K1, L1⟩ := Mg H
 refine Aq (fun a w => some (Sum.inl ()) = some o1 ∧ Fr 52 [] [(4, .slice none 0 0)] a ∧ Stw ⟨Y, [], w0⟩ (P5 b1 x2) [] w) ?_ ?_
 ·
  have H := G1
  clear G1 K1
  refine vc tk 7 F W fun a w F W => ?_
  refine AL H (fun s a w => Fr 52 [] [(0, .int .i64 p0), (1, v1), (4, .slice none 0 0), (5, .pointer (some ⟨b1, 0, none⟩)), (17, .int .i64 p0), (18, .int .i64 s)] a ∧ Stw ⟨Y, [], w0⟩ (P5 b1 x2) [] w) ⟨F.ra Aa, W⟩ fun s o a w H L2 hR => ?_
  obtain ⟨x3, rfl⟩ : ∃ x, x = s := ⟨s, rfl⟩
  obtain ⟨F, W⟩ := hR
  have F : Fr 52 [] [(0, .int .i64 p0), (1, v1), (4, .slice none 0 0), (5, .pointer (some ⟨b1, 0, none⟩)), (17, .int .i64 p0), (18, .int .i64 x3)] a := F
  have W : Stw ⟨Y, [], w0⟩ (P5 b1 x2) [] w := W
  rw [F4] at H
  refine vc tk 6 F W fun a w F W => ?_
  refine AU F Aa H (fun F H => ?_) fun F H => ?_
  ·
   refine AB (Ab ?_)
   obtain ⟨o3, G3, K3, L3⟩ := Mg H
   refine Aq (fun a w => some (Sum.inl ()) = some o3 ∧ Fr 52 [] [(0, .int .i64 p0), (1, v1), (4, .slice none 0 0), (5, .pointer (some ⟨b1, 0, none⟩)), (17, .int .i64 p0), (18, .int .i64 x3)] a ∧ Stw ⟨Y, [], w0⟩ (P5 b1 x2) [] w) ?_ ?_
   ·
    have H := G3
    clear G3 K3
    refine vc tk 11 F W fun a w F W => ?_
    obtain ⟨x4, h3, H⟩ := Ac H
    refine ls F W Aa (Be (v := Value.agg #[.int .u32 x4.1, .int .u32 x4.2.1, .int .u32 x4.2.2.1, .int .u32 x4.2.2.2.1, .int .u32 x4.2.2.2.2.1, .int .u32 x4.2.2.2.2.2.1, .int .u32 x4.2.2.2.2.2.2.1, .int .u32 x4.2.2.2.2.2.2.2.1, .int .u32 x4.2.2.2.2.2.2.2.2.1, .int .u32 x4.2.2.2.2.2.2.2.2.2.1, .int .u32 x4.2.2.2.2.2.2.2.2.2.2.1, .int .u32 x4.2.2.2.2.2.2.2.2.2.2.2.1, .int .u32 x4.2.2.2.2.2.2.2.2.2.2.2.2.1, .int .u32 x4.2.2.2.2.2.2.2.2.2.2.2.2.2.1, .int .u32 x4.2.2.2.2.2.2.2.2.2.2.2.2.2.2.1, .int .u32 x4.2.2.2.2.2.2.2.2.2.2.2.2.2.2.2]) F aC Aa (fun w W => KY any w (v1) p1 _ h3 (EG (Ad h_v1) W))) fun a w F W => ?_
    refine ls F W Aa (Ai F Aa).q fun a w F W => ?_
    obtain ⟨x5, h4, H⟩ := Ac H
    refine ls F W Aa (Be (v := Value.agg #[.int .i64 x5.1, .int .i64 x5.2.1, .int .i64 x5.2.2.1, .int .i64 x5.2.2.2.1, .int .i64 x5.2.2.2.2.1, .int .i64 x5.2.2.2.2.2.1, .int .i64 x5.2.2.2.2.2.2.1, .int .i64 x5.2.2.2.2.2.2.2.1, .int .i64 x5.2.2.2.2.2.2.2.2.1, .int .i64 x5.2.2.2.2.2.2.2.2.2.1, .int .i64 x5.2.2.2.2.2.2.2.2.2.2.1, .int .i64 x5.2.2.2.2.2.2.2.2.2.2.2.1, .int .i64 x5.2.2.2.2.2.2.2.2.2.2.2.2.1, .int .i64 x5.2.2.2.2.2.2.2.2.2.2.2.2.2.1, .int .i64 x5.2.2.2.2.2.2.2.2.2.2.2.2.2.2.1, .int .i64 x5.2.2.2.2.2.2.2.2.2.2.2.2.2.2.2]) F aU Aa (fun w W => LQ any w p0 x4 x3 _ h4)) fun a w F W => ?_
    refine B8 (cs := (HI)) F W Aa V9 Aa fun b2 a w F W => ?_
    refine Ey 0 F W Aa Aa Aa Tm Aa Aa Aa fun w W => ?_
    refine BR tk 3 F W fun a w F W => ?_
    refine BB W MO (by kernel_rfl) ?_
    iterate 2 refine qs F Aa (Ai F Aa).q fun a F => ?_
    obtain ⟨x6, h5, H⟩ := Ac H
    refine qs F Aa (E3 (0 + (x3).toNat * 1) M7 F Aa Aa Aa h5 Aa).q fun a F => ?_
    refine qs F Aa (BE (v := Value.int .u32 x6) 1 F Aa Aa QO (IE (base := 0) (m := 16) (l := [x2.1, x2.2.1, x2.2.2.1, x2.2.2.2.1, x2.2.2.2.2.1, x2.2.2.2.2.2.1, x2.2.2.2.2.2.2.1, x2.2.2.2.2.2.2.2.1, x2.2.2.2.2.2.2.2.2.1, x2.2.2.2.2.2.2.2.2.2.1, x2.2.2.2.2.2.2.2.2.2.2.1, x2.2.2.2.2.2.2.2.2.2.2.2.1, x2.2.2.2.2.2.2.2.2.2.2.2.2.1, x2.2.2.2.2.2.2.2.2.2.2.2.2.2.1, x2.2.2.2.2.2.2.2.2.2.2.2.2.2.2.1, x2.2.2.2.2.2.2.2.2.2.2.2.2.2.2.2]) (enc := Value.int .u32) Aa h5)).q fun a F => ?_
    refine qs F Aa (BE (v := Value.agg #[.int .i64 x5.1, .int .i64 x5.2.1, .int .i64 x5.2.2.1, .int .i64 x5.2.2.2.1, .int .i64 x5.2.2.2.2.1, .int .i64 x5.2.2.2.2.2.1, .int .i64 x5.2.2.2.2.2.2.1, .int .i64 x5.2.2.2.2.2.2.2.1, .int .i64 x5.2.2.2.2.2.2.2.2.1, .int .i64 x5.2.2.2.2.2.2.2.2.2.1, .int .i64 x5.2.2.2.2.2.2.2.2.2.2.1, .int .i64 x5.2.2.2.2.2.2.2.2.2.2.2.1, .int .i64 x5.2.2.2.2.2.2.2.2.2.2.2.2.1, .int .i64 x5.2.2.2.2.2.2.2.2.2.2.2.2.2.1, .int .i64 x5.2.2.2.2.2.2.2.2.2.2.2.2.2.2.1, .int .i64 x5.2.2.2.2.2.2.2.2.2.2.2.2.2.2.2]) 0 F Aa Aa Tm Aa).q fun a F => ?_
    obtain ⟨x7, h6, H⟩ := Ac H
    refine qs F Aa (Be (v := Value.int .i64 x7) F Zm Aa (fun w W => Ko any w p0 x6 x5 _ h6)) fun a F => ?_
    refine qs F Aa (Dn F Aa).q fun a F => ?_
    refine AD fun w W => ?_
    refine vn tk 7 F W fun a w F W => ?_
    refine AU F Aa H (fun F H => ?_) fun F H => ?_
    ·
     refine AA (AQ (AC (Ab ?_)))
     have W := W.frontM (i := 1) Aa Aa
     have W := W.sub (M' := (P5 b1 x2)) (Z' := []) (List.Sublist.cons_cons _ (List.nil_sublist _)) (List.Sublist.refl _)
     exact ⟨H, F.ra Aa, W⟩
    refine FP tk 5 F W fun a w F W => ?_
    refine D6 (z := Value.int .i64 0) (cs := [.int .i64 x3]) (Rp.int .i64) ([x3] : List Int) F W Aa EJ Z3 Aa Aa Aa Aa Aa Aa (Fl.int.repL _ _ ([x3] : List Int)) fun v2 a w F W => ?_
    refine vl tk 2 F W fun a w F W => ?_
    refine Ab ?_
    obtain ⟨o4, G4, K4⟩ := Ac H
    refine Aq (fun a w => ∃ x8 : List Int, ∃ v3 : Value, some (x8) = some o4 ∧ Fr 52 [] [(0, .int .i64 p0), (1, v1), (4, .slice none 0 0), (5, .pointer (some ⟨b1, 0, none⟩)), (9, v3), (17, .int .i64 p0), (18, .int .i64 x3)] a ∧ Stw ⟨Y, [], w0⟩ (Qy b2 x5 b1 x2) [row v3 3 (Rp.int .i64) x8] w) ?_ ?_
    ·
     have H := G4
     clear G4 K4
     refine vc tk 7 F W fun a w F W => ?_
     have W := W.frontM (i := 1) Aa Aa
     have W := W.frontM (i := 1) Aa Aa
     refine AL H (fun s a w => ∃ v4 : Value, Fr 52 [] [(0, .int .i64 p0), (1, v1), (4, .slice none 0 0), (5, .pointer (some ⟨b1, 0, none⟩)), (6, .int .i64 x3), (7, .pointer (some ⟨b2, 0, none⟩)), (9, v4), (10, .int .i64 s.2), (17, .int .i64 p0), (18, .int .i64 x3)] a ∧ Stw ⟨Y, [], w0⟩ (Qy b2 x5 b1 x2) [row v4 3 (Rp.int .i64) s.1] w) ⟨(v2), F.ra Aa, W⟩ fun s o a w H L5 hR => ?_
     obtain ⟨x9, x10⟩ := s
     obtain ⟨v4, F, W⟩ := hR
     have F : Fr 52 [] [(0, .int .i64 p0), (1, v1), (4, .slice none 0 0), (5, .pointer (some ⟨b1, 0, none⟩)), (6, .int .i64 x3), (7, .pointer (some ⟨b2, 0, none⟩)), (9, v4), (10, .int .i64 x10), (17, .int .i64 p0), (18, .int .i64 x3)] a := F
     have W : Stw ⟨Y, [], w0⟩ (Qy b2 x5 b1 x2) [row v4 3 (Rp.int .i64) x9] w := W
     rw [Fa] at H
     refine vc tk 8 F W fun a w F W => ?_
     refine AU F Aa H (fun F H => ?_) fun F H => ?_
     ·
      refine FP tk 7 F W fun a w F W => ?_
      refine D6 (z := Value.int .i64 0) (cs := [.int .i64 x10]) (Rp.int .i64) ([x10] : List Int) F W Aa EJ Z3 Aa Aa Aa Aa Aa Aa (Fl.int.repL _ _ ([x10] : List Int)) fun v5 a w F W => ?_
      obtain ⟨x11, h7, H⟩ := Ac H
      refine DB (r := (Rp.int .i64)) (i := 1) F W Aa EJ Aa Aa Aa Aa (Ez W 0 Aa) h7 Aa fun v6 a w F W => ?_
      have W : Stw ⟨Y, [], w0⟩ (Qy b2 x5 b1 x2) [row v6 3 (Rp.int .i64) x11, row v5 3 (Rp.int .i64) ([x10] : List Int)] w := W
      refine vl tk 2 F W fun a w F W => ?_
      refine Aw (Ab ?_)
      refine BB W MO (by kernel_rfl) ?_
      iterate 2 refine qs F Aa (Ai F Aa).q fun a F => ?_
      obtain ⟨x12, h8, H⟩ := Ac H
      refine qs F Aa (E3 (0 + (x10).toNat * 1) M7 F Aa Aa Aa h8 Aa).q fun a F => ?_
      refine qs F Aa (BE (v := Value.int .u32 x12) 1 F Aa Aa QO (IE (base := 0) (m := 16) (l := [x2.1, x2.2.1, x2.2.2.1, x2.2.2.2.1, x2.2.2.2.2.1, x2.2.2.2.2.2.1, x2.2.2.2.2.2.2.1, x2.2.2.2.2.2.2.2.1, x2.2.2.2.2.2.2.2.2.1, x2.2.2.2.2.2.2.2.2.2.1, x2.2.2.2.2.2.2.2.2.2.2.1, x2.2.2.2.2.2.2.2.2.2.2.2.1, x2.2.2.2.2.2.2.2.2.2.2.2.2.1, x2.2.2.2.2.2.2.2.2.2.2.2.2.2.1, x2.2.2.2.2.2.2.2.2.2.2.2.2.2.2.1, x2.2.2.2.2.2.2.2.2.2.2.2.2.2.2.2]) (enc := Value.int .u32) Aa h8)).q fun a F => ?_
      refine qs F Aa (BE (v := Value.agg #[.int .i64 x5.1, .int .i64 x5.2.1, .int .i64 x5.2.2.1, .int .i64 x5.2.2.2.1, .int .i64 x5.2.2.2.2.1, .int .i64 x5.2.2.2.2.2.1, .int .i64 x5.2.2.2.2.2.2.1, .int .i64 x5.2.2.2.2.2.2.2.1, .int .i64 x5.2.2.2.2.2.2.2.2.1, .int .i64 x5.2.2.2.2.2.2.2.2.2.1, .int .i64 x5.2.2.2.2.2.2.2.2.2.2.1, .int .i64 x5.2.2.2.2.2.2.2.2.2.2.2.1, .int .i64 x5.2.2.2.2.2.2.2.2.2.2.2.2.1, .int .i64 x5.2.2.2.2.2.2.2.2.2.2.2.2.2.1, .int .i64 x5.2.2.2.2.2.2.2.2.2.2.2.2.2.2.1, .int .i64 x5.2.2.2.2.2.2.2.2.2.2.2.2.2.2.2]) 0 F Aa Aa Tm Aa).q fun a F => ?_
      obtain ⟨x13, h9, H⟩ := Ac H
      refine qs F Aa (Be (v := Value.int .i64 x13) F Zm Aa (fun w W => Ko any w p0 x12 x5 _ h9)) fun a F => ?_
      refine qs F Aa (Dn F Aa).q fun a F => ?_
      refine AD fun w W => ?_
      refine Ab ?_
      have W := W.frontM (i := 1) Aa Aa
      have W := W.frontM (i := 1) Aa Aa
      have W := W.sub (M' := (Qy b2 x5 b1 x2)) (Z' := [row v6 3 (Rp.int .i64) x11]) (List.Sublist.refl _) (List.Sublist.cons_cons _ (List.nil_sublist _))
      exact ⟨_, H, (v6), F.ra Aa, W⟩
     refine AA ?_
     iterate 2 refine AQ ?_
     refine AC (Ab ?_)
     have W := W.frontM (i := 1) Aa Aa
     have W := W.frontM (i := 1) Aa Aa
     have H := L5 _ H
     exact ⟨_, (v4), H, F.ra Aa, W⟩
    rintro a w ⟨x8, v3, hj, F, W⟩
    have hj := Ax hj
    subst hj
    have H := K4
    clear G4 K4
    refine vc tk 6 F W fun a w F W => ?_
    refine Ao (AW ?_)
    iterate 2 refine AE ?_
    refine AW (AE ?_)
    have H := L3 _ H
    have H := L2 _ H
    have H := L1 _ H
    have H := Ax H
    subst H
    refine A1 (.inl Aa) F W Aa (Am F Aa) ?_
    have W := W.sub (M' := []) (Z' := [row v3 3 (Rp.int .i64) x8]) (List.nil_sublist _) (List.Sublist.refl _)
    exact ⟨(v3), Aa, W⟩
   rintro a w ⟨hj, F, W⟩
   have H := K3 _ hj
   clear hj G3 K3 L3
   refine vc tk 4 F W fun a w F W => ?_
   refine Ab ?_
   exact ⟨_, H, F.ra Aa, W⟩
  refine AA ?_
  iterate 2 refine AQ ?_
  refine AC (Ab ?_)
  have H := L2 _ H
  exact ⟨H, F.ra Aa, W⟩
 rintro a w ⟨hj, F, W⟩
 have H := K1 _ hj
 clear hj G1 K1 L1
 refine vc tk 5 F W fun a w F W => ?_
 refine Ao ?_
 have H := Ax H
 subst H
 refine A1 (.inl Aa) F W Aa (Am F Aa) ?_
 have W := W.nilRow 3 (Rp.int .i64)
 have W := W.sub (M' := []) (Z' := [row (Value.slice none 0 0) 3 (Rp.int .i64) ([])]) (List.nil_sublist _) (List.Sublist.refl _)
 exact ⟨(Value.slice none 0 0), Aa, W⟩
theorem Z4 : Has Tryz.prog 59 := Cu Tryz.func59
noncomputable def CA (p0 : (Int × (List (Int × Int × Int × Int × Int × Int)) × (List (Int × Int))) × List (List Int) × List (List Int) × ((List (Int × Int × Int × Int)) × (List (Int × Int × List Int)) × Int × Int × Int × Int)) (p3 : Int) (x5 : Int) (x9 : List Int) : ((List (Int × Int)) × Bool × Int) → Option (((List (Int × Int)) × Bool × Int) ⊕ ((List (Int × Int)) × Bool))
  | (x10, x11, x12) => (if x12 < (x9.length : Int) then ((ix x9 x12).bind fun x15 => (F5 p0.1 x5 x15).bind fun x16 => (if x16.2.2.2 = true then (H4 x10 ([(x5, x16.1)] : List (Int × Int))).bind fun x17 => some (x17, x11) else (EF p0.1 x5 x15).bind fun x18 => (if x18 ≠ p3 then some (x10, true) else some (x10, x11)))).bind fun (x13, x14) => some (.inl (x13, x14, An (x12 + 1))) else some (.inr (x10, x11)))
noncomputable def CY (p0 : (Int × (List (Int × Int × Int × Int × Int × Int)) × (List (Int × Int))) × List (List Int) × List (List Int) × ((List (Int × Int × Int × Int)) × (List (Int × Int × List Int)) × Int × Int × Int × Int)) (p1 : List (List (List Int))) (p3 : Int) : ((List (Int × Int)) × Bool × Int) → Option (((List (Int × Int)) × Bool × Int) ⊕ ((List (Int × Int)) × Bool))
  | (x3, x4, x5) => (if x5 < (p1.length : Int) then ((ix p1 x5).bind fun x8 => (ix x8 p3).bind fun x9 => Ap (CA p0 p3 x5 x9) (x3, x4, 0)).bind fun (x6, x7) => some (.inl (x6, x7, An (x5 + 1))) else some (.inr (x3, x4)))
noncomputable def Dv (p0 : (Int × (List (Int × Int × Int × Int × Int × Int)) × (List (Int × Int))) × List (List Int) × List (List Int) × ((List (Int × Int × Int × Int)) × (List (Int × Int × List Int)) × Int × Int × Int × Int)) (p1 : List (List (List Int))) (p2 : Int) (p3 : Int) : Option (List (Int × Int × Int)) := (Ap (CY p0 p1 p3) ([], false, 0)).bind fun (x1, x2) => (if x2 = true then (H4 ([] : List (Int × Int × Int)) ([(5, p2, p3)] : List (Int × Int × Int))).bind fun x20 => some x20 else some ([])).bind fun x19 => ((Em p0.1.1 x1).bind fun x22 => (if 0 < (x22.length : Int) then (H4 x19 ([(6, p2, p3)] : List (Int × Int × Int))).bind fun x23 => some x23 else some x19)).bind fun x21 => some x21
theorem Kp (Y : Nat → Prop) (w0 : World) (v1 : Value) (v2 : Value) (v3 : Value) (v4 : Value) (v5 : Value) (v6 : Value) (v7 : Value) (p0 : (Int × (List (Int × Int × Int × Int × Int × Int)) × (List (Int × Int))) × List (List Int) × List (List Int) × ((List (Int × Int × Int × Int)) × (List (Int × Int × List Int)) × Int × Int × Int × Int)) (p1 : List (List (List Int))) (p2 : Int) (p3 : Int) (r : (List (Int × Int × Int))) (H : Dv p0 p1 p2 p3 = some r) (h_v1 : Sl w0 (NX []) IG v1 p0.1.2.1) (h_v2 : Sl w0 (NX []) IB v2 p0.1.2.2) (h_v3 : Sl w0 (NX []) (Rp.slice (Rp.int .i64)) v3 p0.2.1) (h_v4 : Sl w0 (NX []) (Rp.slice (Rp.int .i64)) v4 p0.2.2.1) (h_v5 : Sl w0 (NX []) A5 v5 p0.2.2.2.1) (h_v6 : Sl w0 (NX []) Jg v6 p0.2.2.2.2.1) (h_v7 : Sl w0 (NX []) (Rp.slice (Rp.slice (Rp.int .i64))) v7 p1) :
    Calls Tryz.prog 39 #[.agg #[.int .i64 p0.1.1, v1, v2, v3, v4, v5, v6, .int .i64 p0.2.2.2.2.2.1, .int .i64 p0.2.2.2.2.2.2.1, .int .i64 p0.2.2.2.2.2.2.2.1, .int .i64 p0.2.2.2.2.2.2.2.2], v7, .int .i64 p2, .int .i64 p3] w0 fun e w' => ∃ x : Value, e = .returned (x) ∧ Stw ⟨Y, [], w0⟩ [] [row (x) 41 CJ r] w' := by
 refine enter Tryz.func39 Aa Tryz.ntmps39 Aa fun a F => ?_
 have W := Stw.start Y w0
 obtain ⟨v8, h1, h_v3⟩ := h_v3.ex CM
 obtain ⟨v9, h2, h_v4⟩ := h_v4.ex CM
 obtain ⟨v10, h3, h_v6⟩ := h_v6.ex HF
 obtain ⟨v11, h4, h_v7⟩ := h_v7.ex XE
 unfold Dv at H
 refine vc tk 2 F W fun a w F W => ?_
 refine D2 (cs := (DN p0 v1 v2 v3 v4 v5 v6)) F W Aa Aa Aa fun b1 a w F W => ?_
 refine BR tk 18 F W fun a w F W => ?_
 obtain ⟨o1, G1, K1⟩ := Ac H
 refine Aq (fun a w => ∃ x1 : List (Int × Int), ∃ x2 : Bool, ∃ v12 : Value, some ((x1, x2)) = some o1 ∧ Fr 83 [] [(2, .int .i64 p2), (3, .int .i64 p3), (4, .pointer (some ⟨b1, 0, none⟩)), (8, .slice none 0 0), (9, .slice none 0 0), (10, v12), (11, .bool x2)] a ∧ Stw ⟨Y, [], w0⟩ (C0 b1 p0 v1 v2 v3 v4 v5 v6) [row v12 108 HA x1] w) ?_ ?_
 ·
  have H := G1
  clear G1 K1
  refine vc tk 3 F W fun a w F W => ?_
  refine ls F W Aa (BS (r := (Rp.slice (Rp.slice (Rp.int .i64)))) (l := p1) Xk Aa F Aa (AN XE h4 (Ad h_v7))).q fun a w F W => ?_
  refine BR tk 4 F W fun a w F W => ?_
  have W := W.nilRow 108 HA
  refine AL H (fun s a w => ∃ v13 : Value, Fr 83 [] [(2, .int .i64 p2), (3, .int .i64 p3), (4, .pointer (some ⟨b1, 0, none⟩)), (8, .slice none 0 0), (9, .slice none 0 0), (10, v13), (11, .bool s.2.1), (20, v7), (21, .int .i64 (p1.length : Int)), (22, .int .i64 s.2.2)] a ∧ Stw ⟨Y, [], w0⟩ (C0 b1 p0 v1 v2 v3 v4 v5 v6) [row v13 108 HA s.1] w) ⟨(Value.slice none 0 0), F.ra Aa, W⟩ fun s o a w H L2 hR => ?_
  obtain ⟨x3, x4, x5⟩ := s
  obtain ⟨v13, F, W⟩ := hR
  have F : Fr 83 [] [(2, .int .i64 p2), (3, .int .i64 p3), (4, .pointer (some ⟨b1, 0, none⟩)), (8, .slice none 0 0), (9, .slice none 0 0), (10, v13), (11, .bool x4), (20, v7), (21, .int .i64 (p1.length : Int)), (22, .int .i64 x5)] a := F
  have W : Stw ⟨Y, [], w0⟩ (C0 b1 p0 v1 v2 v3 v4 v5 v6) [row v13 108 HA x3] w := W
  rw [CY] at H
  refine vc tk 6 F W fun a w F W => ?_
  refine AU F Aa H (fun F H => ?_) fun F H => ?_
  ·
   refine AB (Ab ?_)
   obtain ⟨o3, G3, K3⟩ := Ac H
   refine Aq (fun a w => ∃ x6 : List (Int × Int), ∃ x7 : Bool, ∃ v14 : Value, some ((x6, x7)) = some o3 ∧ Fr 83 [] [(2, .int .i64 p2), (3, .int .i64 p3), (4, .pointer (some ⟨b1, 0, none⟩)), (8, .slice none 0 0), (9, .slice none 0 0), (10, v14), (11, .bool x7), (20, v7), (21, .int .i64 (p1.length : Int)), (22, .int .i64 x5)] a ∧ Stw ⟨Y, [], w0⟩ (C0 b1 p0 v1 v2 v3 v4 v5 v6) [row v14 108 HA x6] w) ?_ ?_
   ·
    have H := G3
    clear G3 K3
    refine vc tk 4 F W fun a w F W => ?_
    obtain ⟨x8, h5, H⟩ := Ac H
    obtain ⟨v15, h6, h7⟩ := E5 h4 h5
    have h8 : Wk v15 = [(v15.1)] := congrArg (fun q : List (List Int) => ([(v15.1)] : List Value)) h7
    refine ls F W Aa (Al (r := (Rp.vsl (Rp.vsl (Rp.int .i64)))) W9 F Aa Aa (Ad h_v7) h6).q fun a w F W => ?_
    refine ls F W Aa (Ag (y := (v15.1)) (j := 0) (i := x5) (enc := Wk) F Aa Aa (Ad h_v7) h6 YE Xe (by rw [h8]; rfl)).q fun a w F W => ?_
    refine BR tk 8 F W fun a w F W => ?_
    obtain ⟨x9, h9, H⟩ := Ac H
    obtain ⟨v16, h10, h11⟩ := E5 (congrArg (fun q : List (List Int) => q) h7) h9
    have h12 : Hd v16 = [(v16.1)] := congrArg (fun q : List Int => ([(v16.1)] : List Value)) h11
    refine ls F W Aa (Al (r := (Rp.vsl (Rp.int .i64))) Xz F Aa Aa (Dc (Ad h_v7) h6 DP.here Aa) h10).q fun a w F W => ?_
    refine ls F W Aa (Ag (y := (v16.1)) (j := 0) (i := p3) (enc := Hd) F Aa Aa (Dc (Ad h_v7) h6 DP.here Aa) h10 LI NA (by rw [h12]; rfl)).q fun a w F W => ?_
    refine ls F W Aa (BS (r := (Rp.int .i64)) (l := x9) IV Aa F Aa (Dc (Dc (Ad h_v7) h6 DP.here Aa) h10 DP.here (congrArg (fun q : List Int => q) h11))).q fun a w F W => ?_
    refine BR tk 4 F W fun a w F W => ?_
    refine AL H (fun s a w => ∃ v17 : Value, Fr 83 [] [(2, .int .i64 p2), (3, .int .i64 p3), (4, .pointer (some ⟨b1, 0, none⟩)), (8, .slice none 0 0), (9, .slice none 0 0), (10, v17), (11, .bool s.2.1), (12, .int .i64 x5), (20, v7), (21, .int .i64 (p1.length : Int)), (22, .int .i64 x5), (30, (v16.1)), (31, .int .i64 (x9.length : Int)), (32, .int .i64 s.2.2)] a ∧ Stw ⟨Y, [], w0⟩ (C0 b1 p0 v1 v2 v3 v4 v5 v6) [row v17 108 HA s.1] w) ⟨(v13), F.ra Aa, W⟩ fun s o a w H L4 hR => ?_
    obtain ⟨x10, x11, x12⟩ := s
    obtain ⟨v17, F, W⟩ := hR
    have F : Fr 83 [] [(2, .int .i64 p2), (3, .int .i64 p3), (4, .pointer (some ⟨b1, 0, none⟩)), (8, .slice none 0 0), (9, .slice none 0 0), (10, v17), (11, .bool x11), (12, .int .i64 x5), (20, v7), (21, .int .i64 (p1.length : Int)), (22, .int .i64 x5), (30, (v16.1)), (31, .int .i64 (x9.length : Int)), (32, .int .i64 x12)] a := F
    have W : Stw ⟨Y, [], w0⟩ (C0 b1 p0 v1 v2 v3 v4 v5 v6) [row v17 108 HA x10] w := W
    rw [CA] at H
    refine vc tk 6 F W fun a w F W => ?_
    refine AU F Aa H (fun F H => ?_) fun F H => ?_
    ·
     refine AB (Ab ?_)
     obtain ⟨o5, G5, K5⟩ := Ac H
     refine Aq (fun a w => ∃ x13 : List (Int × Int), ∃ x14 : Bool, ∃ v18 : Value, some ((x13, x14)) = some o5 ∧ Fr 83 [] [(2, .int .i64 p2), (3, .int .i64 p3), (4, .pointer (some ⟨b1, 0, none⟩)), (8, .slice none 0 0), (9, .slice none 0 0), (10, v18), (11, .bool x14), (12, .int .i64 x5), (20, v7), (21, .int .i64 (p1.length : Int)), (22, .int .i64 x5), (30, (v16.1)), (31, .int .i64 (x9.length : Int)), (32, .int .i64 x12)] a ∧ Stw ⟨Y, [], w0⟩ (C0 b1 p0 v1 v2 v3 v4 v5 v6) [row v18 108 HA x13] w) ?_ ?_
     ·
      have H := G5
      clear G5 K5
      refine vc tk 3 F W fun a w F W => ?_
      obtain ⟨x15, h13, H⟩ := Ac H
      refine ls F W Aa (Al (r := (Rp.int .i64)) EJ F Aa Aa (Dc (Dc (Ad h_v7) h6 DP.here Aa) h10 DP.here (congrArg (fun q : List Int => q) h11)) h13).q fun a w F W => ?_
      refine ls F W Aa (Ag (y := Value.int .i64 x15) (j := 0) (i := x12) F Aa Aa (Dc (Dc (Ad h_v7) h6 DP.here Aa) h10 DP.here (congrArg (fun q : List Int => q) h11)) h13 Fl.int.to T3 Aa).q fun a w F W => ?_
      refine JG tk 9 [0] F W (ai fun a w F W => ?_)
      obtain ⟨x16, h14, H⟩ := Ac H
      refine ls F W Aa (Be (v := Value.tuple #[.int .i64 x16.1, .int .i64 x16.2.1, .int .i64 x16.2.2.1, .bool x16.2.2.2]) F Zb Aa (fun w W => M9 any w (v1) (v2) p0.1 x5 x15 _ h14 (EG (Ad h_v1) W) (EG (Ad h_v2) W))) fun a w F W => ?_
      refine ls F W Aa (Ai F Aa).q fun a w F W => ?_
      refine ls F W Aa (Bi (v := Value.int .i64 x16.1) F Aa Aa).q fun a w F W => ?_
      refine ls F W Aa (Bi (v := Value.int .i64 x16.2.1) F Aa Aa).q fun a w F W => ?_
      refine ls F W Aa (Bi (v := Value.int .i64 x16.2.2.1) F Aa Aa).q fun a w F W => ?_
      refine ls F W Aa (Bi (v := Value.bool x16.2.2.2) F Aa Aa).q fun a w F W => ?_
      refine BR tk 11 F W fun a w F W => ?_
      refine Gu F Aa (fun hb => ?_) fun hb => ?_
      ·
       have H := D0 hb H
       rw [hb] at F
       clear hb
       refine vc tk 4 F W fun a w F W => ?_
       refine ls F W Aa (Cg (v := Value.agg #[.int .i64 x5, .int .i64 x16.1]) Y8 F Aa Aa Aa).q fun a w F W => ?_
       refine D6 (z := Value.agg #[.int .i64 0, .int .i64 0]) (cs := [.int .i64 x5, .int .i64 x16.1]) HA ([(x5, x16.1)] : List (Int × Int)) F W Aa TY Vn Aa Aa Aa Aa Aa Aa (Ux.repL _ _ ([(x5, x16.1)] : List (Int × Int))) fun v19 a w F W => ?_
       obtain ⟨x17, h15, H⟩ := Ac H
       refine DB (r := HA) (i := 1) F W Aa TY Aa Aa Aa Aa (Ez W 0 Aa) h15 Aa fun v20 a w F W => ?_
       have W : Stw ⟨Y, [], w0⟩ (C0 b1 p0 v1 v2 v3 v4 v5 v6) [row v20 108 HA x17, row v19 108 HA ([(x5, x16.1)] : List (Int × Int))] w := W
       refine vl tk 2 F W fun a w F W => ?_
       refine Aw (Ab ?_)
       have W := W.sub (M' := (C0 b1 p0 v1 v2 v3 v4 v5 v6)) (Z' := [row v20 108 HA x17]) (List.Sublist.refl _) (List.Sublist.cons_cons _ (List.nil_sublist _))
       exact ⟨_, _, (v20), H, F.ra Aa, W⟩
      have H := DZ (by rw [hb]; decide) H
      rw [hb] at F
      clear hb
      refine IL tk 6 [0] F W (ai fun a w F W => ?_)
      obtain ⟨x18, h16, H⟩ := Ac H
      refine ls F W Aa (Be (v := Value.int .i64 x18) F Zs Aa (fun w W => Ll any w (v1) (v2) p0.1 x5 x15 _ h16 (EG (Ad h_v1) W) (EG (Ad h_v2) W))) fun a w F W => ?_
      refine BR tk 4 F W fun a w F W => ?_
      refine AU F Aa H (fun F H => ?_) fun F H => ?_
      ·
       refine vc tk 3 F W fun a w F W => ?_
       refine Aw (Ab ?_)
       exact ⟨_, _, (v17), H, F.ra Aa, W⟩
      refine AB (Aw (Ab ?_))
      exact ⟨_, _, (v17), H, F.ra Aa, W⟩
     rintro a w ⟨x13, x14, v18, hj, F, W⟩
     have hj := Ax hj
     subst hj
     have H := K5
     clear G5 K5
     refine vc tk 4 F W fun a w F W => ?_
     refine Ab ?_
     exact ⟨_, H, (v18), F.ra Aa, W⟩
    refine AA ?_
    iterate 2 refine AQ ?_
    refine AC (Aw (Ab ?_))
    have H := L4 _ H
    exact ⟨_, _, (v17), H, F.ra Aa, W⟩
   rintro a w ⟨x6, x7, v14, hj, F, W⟩
   have hj := Ax hj
   subst hj
   have H := K3
   clear G3 K3
   refine vc tk 4 F W fun a w F W => ?_
   refine Ab ?_
   exact ⟨_, H, (v14), F.ra Aa, W⟩
  refine AA ?_
  iterate 2 refine AQ ?_
  refine AC (Ab ?_)
  have H := L2 _ H
  exact ⟨_, _, (v13), H, F.ra Aa, W⟩
 rintro a w ⟨x1, x2, v12, hj, F, W⟩
 have hj := Ax hj
 subst hj
 have H := K1
 clear G1 K1
 obtain ⟨o6, G6, K6⟩ := Ac H
 refine Aq (fun a w => ∃ x19 : List (Int × Int × Int), ∃ v21 : Value, some (x19) = some o6 ∧ Fr 83 [] [(2, .int .i64 p2), (3, .int .i64 p3), (4, .pointer (some ⟨b1, 0, none⟩)), (8, .slice none 0 0), (9, v21), (10, v12)] a ∧ Stw ⟨Y, [], w0⟩ (C0 b1 p0 v1 v2 v3 v4 v5 v6) [row v21 41 CJ x19, row v12 108 HA x1] w) ?_ ?_
 ·
  have H := G6
  clear G6 K6
  refine vc tk 5 F W fun a w F W => ?_
  refine Gu F Aa (fun hb => ?_) fun hb => ?_
  ·
   have H := D0 hb H
   rw [hb] at F
   clear hb
   refine vc tk 4 F W fun a w F W => ?_
   refine ls F W Aa (Cg (v := Value.agg #[.int .i64 5, .int .i64 p2, .int .i64 p3]) WH F Aa Aa Aa).q fun a w F W => ?_
   refine D6 (z := Value.agg #[.int .i64 0, .int .i64 0, .int .i64 0]) (cs := [.int .i64 5, .int .i64 p2, .int .i64 p3]) CJ ([(5, p2, p3)] : List (Int × Int × Int)) F W Aa Qf WO Aa Aa Aa Aa Aa Aa (VJ.repL _ _ ([(5, p2, p3)] : List (Int × Int × Int))) fun v22 a w F W => ?_
   have W := W.nilRow 41 CJ
   obtain ⟨x20, h17, H⟩ := Ac H
   refine DB (r := CJ) (i := 0) F W Aa Qf Aa Aa Aa Aa (Ez W 1 Aa) h17 Aa fun v23 a w F W => ?_
   have W : Stw ⟨Y, [], w0⟩ (C0 b1 p0 v1 v2 v3 v4 v5 v6) [row v23 41 CJ x20, row v22 41 CJ ([(5, p2, p3)] : List (Int × Int × Int)), row v12 108 HA x1] w := W
   refine vl tk 2 F W fun a w F W => ?_
   refine Ab ?_
   have W := W.frontZ (i := 2) Aa Aa
   have W := W.frontZ (i := 1) Aa Aa
   have W := W.sub (M' := (C0 b1 p0 v1 v2 v3 v4 v5 v6)) (Z' := [row v23 41 CJ x20, row v12 108 HA x1]) (List.Sublist.refl _) (List.Sublist.cons_cons _ (List.Sublist.cons_cons _ (List.nil_sublist _)))
   exact ⟨_, (v23), H, F.ra Aa, W⟩
  have H := DZ (by rw [hb]; decide) H
  rw [hb] at F
  clear hb
  refine AB (Ab ?_)
  have W := W.nilRow 41 CJ
  have W := W.frontZ (i := 1) Aa Aa
  have W := W.frontZ (i := 1) Aa Aa
  exact ⟨_, (Value.slice none 0 0), H, F.ra Aa, W⟩
 rintro a w ⟨x19, v21, hj, F, W⟩
 have hj := Ax hj
 subst hj
 have H := K6
 clear G6 K6
 obtain ⟨o7, G7, K7⟩ := Ac H
 refine Aq (fun a w => ∃ x21 : List (Int × Int × Int), ∃ v24 : Value, some (x21) = some o7 ∧ Fr 83 [] [(8, .slice none 0 0), (9, v24)] a ∧ Stw ⟨Y, [], w0⟩ (C0 b1 p0 v1 v2 v3 v4 v5 v6) [row v24 41 CJ x21] w) ?_ ?_
 ·
  have H := G7
  clear G7 K7
  refine IL tk 6 [0] F W (ai fun a w F W => ?_)
  obtain ⟨x22, h18, H⟩ := Ac H
  refine A9 (Ml := []) (Zl := []) (β := Value) (rv := fun x => x) (MM := fun x => []) (ZZ := fun x => [row x 3 (Rp.int .i64) x22]) F W Z4 Aa Aa (fun hL => PH _ w (v12) p0.1.1 x1 _ h18 ((Af 1 Aa) w W).nx) fun x a w F W => ?_
  obtain ⟨v25, rfl⟩ : ∃ y, y = x := ⟨x, rfl⟩
  have W : Stw ⟨Y, [], w0⟩ (C0 b1 p0 v1 v2 v3 v4 v5 v6) [row v25 3 (Rp.int .i64) x22, row v21 41 CJ x19, row v12 108 HA x1] w := W
  refine ls F W Aa (BS (r := (Rp.int .i64)) (l := x22) IV Aa F Aa (Af 0 Aa)).q fun a w F W => ?_
  refine BR tk 3 F W fun a w F W => ?_
  refine AU F Aa H (fun F H => ?_) fun F H => ?_
  ·
   refine vc tk 4 F W fun a w F W => ?_
   refine ls F W Aa (Cg (v := Value.agg #[.int .i64 6, .int .i64 p2, .int .i64 p3]) WH F Aa Aa Aa).q fun a w F W => ?_
   refine D6 (z := Value.agg #[.int .i64 0, .int .i64 0, .int .i64 0]) (cs := [.int .i64 6, .int .i64 p2, .int .i64 p3]) CJ ([(6, p2, p3)] : List (Int × Int × Int)) F W Aa Qf WO Aa Aa Aa Aa Aa Aa (VJ.repL _ _ ([(6, p2, p3)] : List (Int × Int × Int))) fun v26 a w F W => ?_
   obtain ⟨x23, h19, H⟩ := Ac H
   refine DB (r := CJ) (i := 2) F W Aa Qf Aa Aa Aa Aa (Ez W 0 Aa) h19 Aa fun v27 a w F W => ?_
   have W : Stw ⟨Y, [], w0⟩ (C0 b1 p0 v1 v2 v3 v4 v5 v6) [row v27 41 CJ x23, row v26 41 CJ ([(6, p2, p3)] : List (Int × Int × Int)), row v25 3 (Rp.int .i64) x22, row v12 108 HA x1] w := W
   refine vl tk 2 F W fun a w F W => ?_
   refine Ab ?_
   have W := W.sub (M' := (C0 b1 p0 v1 v2 v3 v4 v5 v6)) (Z' := [row v27 41 CJ x23]) (List.Sublist.refl _) (List.Sublist.cons_cons _ (List.nil_sublist _))
   exact ⟨_, (v27), H, F.ra Aa, W⟩
  refine AB (Ab ?_)
  have W := W.frontZ (i := 1) Aa Aa
  have W := W.sub (M' := (C0 b1 p0 v1 v2 v3 v4 v5 v6)) (Z' := [row v21 41 CJ x19]) (List.Sublist.refl _) (List.Sublist.cons_cons _ (List.nil_sublist _))
  exact ⟨_, (v21), H, F.ra Aa, W⟩
 rintro a w ⟨x21, v24, hj, F, W⟩
 have hj := Ax hj
 subst hj
 have H := K7
 clear G7 K7
 refine vc tk 6 F W fun a w F W => ?_
 refine Ao ?_
 have H := Ax H
 subst H
 refine A1 (.inl Aa) F W Aa (Am F Aa) ?_
 have W := W.sub (M' := []) (Z' := [row v24 41 CJ x21]) (List.nil_sublist _) (List.Sublist.refl _)
 exact ⟨(v24), Aa, W⟩
end Go.Proofs.YthhoflfhegfmcaaGreat
