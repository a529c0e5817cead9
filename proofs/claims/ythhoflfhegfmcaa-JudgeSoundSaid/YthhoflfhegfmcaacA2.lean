/- The functions of layer 25, GX. Conditions: none. -/
import Derived.Test.YthhoflfhegfmcaacA1
namespace Go.Proofs.Ythhoflfhegfmcaa
open Go Go.RowKit
set_option linter.unusedVariables false
set_option linter.unusedSimpArgs false
set_option maxRecDepth 20000
set_option maxHeartbeats 1600000
theorem WK : Has Try.prog 80 := Ct Try.func80
noncomputable def Bf (p0 : List (Int × Int)) : (Int × Int × Int × Int × Int × Int × Int × Int × Int × Int × Int × Int × Int × Int × Int × Int × Int) → Option ((Int × Int × Int × Int × Int × Int × Int × Int × Int × Int × Int × Int × Int × Int × Int × Int × Int) ⊕ (Int × Int × Int × Int × Int × Int × Int × Int × Int × Int × Int × Int × Int × Int × Int × Int))
  | (x17, x18, x19, x20, x21, x22, x23, x24, x25, x26, x27, x28, x29, x30, x31, x32, x33) => (if x17 < (p0.length : Int) then (ix p0 x17).bind fun x34 => (ix ([x18, x19, x20, x21, x22, x23, x24, x25, x26, x27, x28, x29, x30, x31, x32, x33] : List Int) x34.2).bind fun x35 => (BQ x35 x34.1).bind fun x36 => (ix ([x18, x19, x20, x21, x22, x23, x24, x25, x26, x27, x28, x29, x30, x31, x32, x33] : List Int) x34.2).bind fun x37 => some (.inl (A7 (x17 + 1), (if x34.2 = 0 then x36 else x18), (if x34.2 = 1 then x36 else x19), (if x34.2 = 2 then x36 else x20), (if x34.2 = 3 then x36 else x21), (if x34.2 = 4 then x36 else x22), (if x34.2 = 5 then x36 else x23), (if x34.2 = 6 then x36 else x24), (if x34.2 = 7 then x36 else x25), (if x34.2 = 8 then x36 else x26), (if x34.2 = 9 then x36 else x27), (if x34.2 = 10 then x36 else x28), (if x34.2 = 11 then x36 else x29), (if x34.2 = 12 then x36 else x30), (if x34.2 = 13 then x36 else x31), (if x34.2 = 14 then x36 else x32), (if x34.2 = 15 then x36 else x33))) else some (.inr (x18, x19, x20, x21, x22, x23, x24, x25, x26, x27, x28, x29, x30, x31, x32, x33)))
noncomputable def Ci (p0 : List (Int × Int)) : Option (Int × Int × Int × Int × Int × Int × Int × Int × Int × Int × Int × Int × Int × Int × Int × Int) := (An (Bf p0) (0, 0, 0, 0, 0, 0, 0, 0, 0, 0, 0, 0, 0, 0, 0, 0, 0)).bind fun (x1, x2, x3, x4, x5, x6, x7, x8, x9, x10, x11, x12, x13, x14, x15, x16) => some (x1, x2, x3, x4, x5, x6, x7, x8, x9, x10, x11, x12, x13, x14, x15, x16)
theorem Ii (Y : Nat → Prop) (w0 : World) (v1 : Value) (p0 : List (Int × Int)) (r : (Int × Int × Int × Int × Int × Int × Int × Int × Int × Int × Int × Int × Int × Int × Int × Int)) (H : Ci p0 = some r) (h_v1 : Sl w0 (NX []) Fa v1 p0) :
    Calls Try.prog 82 #[v1] w0 fun e w' => e = .returned (.agg #[.int .u32 r.1, .int .u32 r.2.1, .int .u32 r.2.2.1, .int .u32 r.2.2.2.1, .int .u32 r.2.2.2.2.1, .int .u32 r.2.2.2.2.2.1, .int .u32 r.2.2.2.2.2.2.1, .int .u32 r.2.2.2.2.2.2.2.1, .int .u32 r.2.2.2.2.2.2.2.2.1, .int .u32 r.2.2.2.2.2.2.2.2.2.1, .int .u32 r.2.2.2.2.2.2.2.2.2.2.1, .int .u32 r.2.2.2.2.2.2.2.2.2.2.2.1, .int .u32 r.2.2.2.2.2.2.2.2.2.2.2.2.1, .int .u32 r.2.2.2.2.2.2.2.2.2.2.2.2.2.1, .int .u32 r.2.2.2.2.2.2.2.2.2.2.2.2.2.2.1, .int .u32 r.2.2.2.2.2.2.2.2.2.2.2.2.2.2.2]) ∧ Below w0.heap.size w0 w' := by
 refine enter Try.func82 Aa Try.ntmps82 Aa fun a F => ?_
 have W := Stw.start Y w0
 unfold Ci at H
 refine vc tk 2 F W fun a w F W => ?_
 refine B9 (cs := (Gu)) F W Aa QY Aa fun b1 a w F W => ?_
 refine Cc tk 4 F W fun a w F W => ?_
 refine B9 (cs := (Gu)) F W Aa QY Aa fun b2 a w F W => ?_
 refine EF (Ac ?_)
 obtain ⟨o1, G1, K1⟩ := Ad H
 refine Av (fun a w => ∃ x1 : Int, ∃ x2 : Int, ∃ x3 : Int, ∃ x4 : Int, ∃ x5 : Int, ∃ x6 : Int, ∃ x7 : Int, ∃ x8 : Int, ∃ x9 : Int, ∃ x10 : Int, ∃ x11 : Int, ∃ x12 : Int, ∃ x13 : Int, ∃ x14 : Int, ∃ x15 : Int, ∃ x16 : Int, some ((x1, x2, x3, x4, x5, x6, x7, x8, x9, x10, x11, x12, x13, x14, x15, x16)) = some o1 ∧ Fr 24 [] [(2, .pointer (some ⟨b1, 0, none⟩)), (3, .pointer (some ⟨b2, 0, none⟩))] a ∧ Stw ⟨Y, [], w0⟩ [(b2, [.int .u32 x1, .int .u32 x2, .int .u32 x3, .int .u32 x4, .int .u32 x5, .int .u32 x6, .int .u32 x7, .int .u32 x8, .int .u32 x9, .int .u32 x10, .int .u32 x11, .int .u32 x12, .int .u32 x13, .int .u32 x14, .int .u32 x15, .int .u32 x16]), (b1, (Gu))] [] w) ?_ ?_
 ·
  have H := G1
  clear G1 K1
  refine vc tk 3 F W fun a w F W => ?_
  refine ls F W Aa (A0 (r := Fa) (l := p0) OI Aa F Aa (Ab h_v1)).q fun a w F W => ?_
  refine Cc tk 4 F W fun a w F W => ?_
  have W := W.frontM (i := 1) Aa Aa
  have W := W.frontM (i := 1) Aa Aa
  refine AP H (fun s a w => Fr 24 [] [(2, .pointer (some ⟨b1, 0, none⟩)), (3, .pointer (some ⟨b2, 0, none⟩)), (6, v1), (7, .int .i64 (p0.length : Int)), (8, .int .i64 s.1)] a ∧ Stw ⟨Y, [], w0⟩ [(b2, [.int .u32 s.2.1, .int .u32 s.2.2.1, .int .u32 s.2.2.2.1, .int .u32 s.2.2.2.2.1, .int .u32 s.2.2.2.2.2.1, .int .u32 s.2.2.2.2.2.2.1, .int .u32 s.2.2.2.2.2.2.2.1, .int .u32 s.2.2.2.2.2.2.2.2.1, .int .u32 s.2.2.2.2.2.2.2.2.2.1, .int .u32 s.2.2.2.2.2.2.2.2.2.2.1, .int .u32 s.2.2.2.2.2.2.2.2.2.2.2.1, .int .u32 s.2.2.2.2.2.2.2.2.2.2.2.2.1, .int .u32 s.2.2.2.2.2.2.2.2.2.2.2.2.2.1, .int .u32 s.2.2.2.2.2.2.2.2.2.2.2.2.2.2.1, .int .u32 s.2.2.2.2.2.2.2.2.2.2.2.2.2.2.2.1, .int .u32 s.2.2.2.2.2.2.2.2.2.2.2.2.2.2.2.2]), (b1, (Gu))] [] w) ⟨F.ra Aa, W⟩ fun s o a w H L2 hR => ?_
  obtain ⟨x17, x18, x19, x20, x21, x22, x23, x24, x25, x26, x27, x28, x29, x30, x31, x32, x33⟩ := s
  obtain ⟨F, W⟩ := hR
  have F : Fr 24 [] [(2, .pointer (some ⟨b1, 0, none⟩)), (3, .pointer (some ⟨b2, 0, none⟩)), (6, v1), (7, .int .i64 (p0.length : Int)), (8, .int .i64 x17)] a := F
  have W : Stw ⟨Y, [], w0⟩ [(b2, [.int .u32 x18, .int .u32 x19, .int .u32 x20, .int .u32 x21, .int .u32 x22, .int .u32 x23, .int .u32 x24, .int .u32 x25, .int .u32 x26, .int .u32 x27, .int .u32 x28, .int .u32 x29, .int .u32 x30, .int .u32 x31, .int .u32 x32, .int .u32 x33]), (b1, (Gu))] [] w := W
  rw [Bf] at H
  refine vc tk 6 F W fun a w F W => ?_
  refine A3 F Aa H (fun F H => ?_) fun F H => ?_
  ·
   refine Ie tk 6 F W fun a w F W => ?_
   obtain ⟨x34, h1, H⟩ := Ad H
   refine ls F W Aa (Aw (r := Fa) Q9 F Aa Aa (Ab h_v1) h1).q fun a w F W => ?_
   refine ls F W Aa (Ai (y := Value.agg #[.int .i64 x34.1, .int .i64 x34.2]) (j := 0) (i := x17) F Aa Aa (Ab h_v1) h1 RK.to PJ Aa).q fun a w F W => ?_
   refine B9 (cs := [.int .i64 0, .int .i64 0]) F W Aa Rn Aa fun b3 a w F W => ?_
   refine F6 0 F W Aa Aa Aa PJ Aa Aa Aa fun w W => ?_
   refine Cc tk 2 F W fun a w F W => ?_
   refine LB 10 W MO (by kernel_rfl) ?_
   refine qs F Aa (Ah Lf Aa Aa Aa T3 F Aa 1 Aa).q fun a F => ?_
   refine qs F Aa (A4 (v := Value.int .i64 x34.2) 0 F Aa Aa T3 Aa).q fun a F => ?_
   refine qs F Aa (Ah Lf Aa Aa Aa T3 F Aa 1 Aa).q fun a F => ?_
   refine qs F Aa (A4 (v := Value.int .i64 x34.2) 0 F Aa Aa T3 Aa).q fun a F => ?_
   obtain ⟨x35, h2, H⟩ := Ad H
   refine qs F Aa (Dr (0 + (x34.2).toNat * 1) Kn F Aa Aa Aa h2 Aa).q fun a F => ?_
   refine qs F Aa (A4 (v := Value.int .u32 x35) 1 F Aa Aa NC (F9 (base := 0) (m := 16) (l := [x18, x19, x20, x21, x22, x23, x24, x25, x26, x27, x28, x29, x30, x31, x32, x33]) (enc := Value.int .u32) Aa h2)).q fun a F => ?_
   refine qs F Aa (Ah Lf Aa Aa Aa T3 F Aa 0 Aa).q fun a F => ?_
   refine qs F Aa (A4 (v := Value.int .i64 x34.1) 0 F Aa Aa T3 Aa).q fun a F => ?_
   obtain ⟨x36, h3, H⟩ := Ad H
   refine qs F Aa (AW (v := Value.int .u32 x36) F UQ Aa (fun w W => Fy any w x35 x34.1 _ h3)) fun a F => ?_
   obtain ⟨x37, h4, H⟩ := Ad H
   refine qs F Aa (Dr (0 + (x34.2).toNat * 1) Kn F Aa Aa Aa h4 Aa).q fun a F => ?_
   refine A9 fun w W => ?_
   refine FO (o := 0) (m := 16) (i := x34.2) (l := ([x18, x19, x20, x21, x22, x23, x24, x25, x26, x27, x28, x29, x30, x31, x32, x33] : List Int)) (x := x37) (cs := [.int .u32 x18, .int .u32 x19, .int .u32 x20, .int .u32 x21, .int .u32 x22, .int .u32 x23, .int .u32 x24, .int .u32 x25, .int .u32 x26, .int .u32 x27, .int .u32 x28, .int .u32 x29, .int .u32 x30, .int .u32 x31, .int .u32 x32, .int .u32 x33]) (cs' := [.int .u32 (if x34.2 = 0 then x36 else x18), .int .u32 (if x34.2 = 1 then x36 else x19), .int .u32 (if x34.2 = 2 then x36 else x20), .int .u32 (if x34.2 = 3 then x36 else x21), .int .u32 (if x34.2 = 4 then x36 else x22), .int .u32 (if x34.2 = 5 then x36 else x23), .int .u32 (if x34.2 = 6 then x36 else x24), .int .u32 (if x34.2 = 7 then x36 else x25), .int .u32 (if x34.2 = 8 then x36 else x26), .int .u32 (if x34.2 = 9 then x36 else x27), .int .u32 (if x34.2 = 10 then x36 else x28), .int .u32 (if x34.2 = 11 then x36 else x29), .int .u32 (if x34.2 = 12 then x36 else x30), .int .u32 (if x34.2 = 13 then x36 else x31), .int .u32 (if x34.2 = 14 then x36 else x32), .int .u32 (if x34.2 = 15 then x36 else x33)]) 1 F W Aa Aa Aa NC Aa Aa Aa Aa h4 (by intro k hk hn; rw [hk]; match k, hn with | 0, _ => rfl | 1, _ => rfl | 2, _ => rfl | 3, _ => rfl | 4, _ => rfl | 5, _ => rfl | 6, _ => rfl | 7, _ => rfl | 8, _ => rfl | 9, _ => rfl | 10, _ => rfl | 11, _ => rfl | 12, _ => rfl | 13, _ => rfl | 14, _ => rfl | 15, _ => rfl | (z + 16), h => exact absurd h (by omega)) fun w W => ?_
   have W : Stw ⟨Y, [], w0⟩ [(b3, (Ss x34)), (b2, [.int .u32 (if x34.2 = 0 then x36 else x18), .int .u32 (if x34.2 = 1 then x36 else x19), .int .u32 (if x34.2 = 2 then x36 else x20), .int .u32 (if x34.2 = 3 then x36 else x21), .int .u32 (if x34.2 = 4 then x36 else x22), .int .u32 (if x34.2 = 5 then x36 else x23), .int .u32 (if x34.2 = 6 then x36 else x24), .int .u32 (if x34.2 = 7 then x36 else x25), .int .u32 (if x34.2 = 8 then x36 else x26), .int .u32 (if x34.2 = 9 then x36 else x27), .int .u32 (if x34.2 = 10 then x36 else x28), .int .u32 (if x34.2 = 11 then x36 else x29), .int .u32 (if x34.2 = 12 then x36 else x30), .int .u32 (if x34.2 = 13 then x36 else x31), .int .u32 (if x34.2 = 14 then x36 else x32), .int .u32 (if x34.2 = 15 then x36 else x33)]), (b1, (Gu))] [] w := W
   refine EF (Aq ?_)
   refine vn tk 4 F W fun a w F W => ?_
   refine Ac ?_
   have W := W.frontM (i := 2) Aa Aa
   have W := W.frontM (i := 2) Aa Aa
   have W := W.sub (M' := [(b2, [.int .u32 (if x34.2 = 0 then x36 else x18), .int .u32 (if x34.2 = 1 then x36 else x19), .int .u32 (if x34.2 = 2 then x36 else x20), .int .u32 (if x34.2 = 3 then x36 else x21), .int .u32 (if x34.2 = 4 then x36 else x22), .int .u32 (if x34.2 = 5 then x36 else x23), .int .u32 (if x34.2 = 6 then x36 else x24), .int .u32 (if x34.2 = 7 then x36 else x25), .int .u32 (if x34.2 = 8 then x36 else x26), .int .u32 (if x34.2 = 9 then x36 else x27), .int .u32 (if x34.2 = 10 then x36 else x28), .int .u32 (if x34.2 = 11 then x36 else x29), .int .u32 (if x34.2 = 12 then x36 else x30), .int .u32 (if x34.2 = 13 then x36 else x31), .int .u32 (if x34.2 = 14 then x36 else x32), .int .u32 (if x34.2 = 15 then x36 else x33)]), (b1, (Gu))]) (Z' := []) (List.Sublist.cons_cons _ (List.Sublist.cons_cons _ (List.nil_sublist _))) (List.Sublist.refl _)
   exact ⟨_, H, F.ra Aa, W⟩
  refine AJ ?_
  iterate 2 refine A6 ?_
  refine AM (Ac ?_)
  have W := W.frontM (i := 1) Aa Aa
  have W := W.frontM (i := 1) Aa Aa
  have H := L2 _ H
  exact ⟨_, _, _, _, _, _, _, _, _, _, _, _, _, _, _, _, H, F.ra Aa, W⟩
 rintro a w ⟨x1, x2, x3, x4, x5, x6, x7, x8, x9, x10, x11, x12, x13, x14, x15, x16, hj, F, W⟩
 have hj := AA hj
 subst hj
 have H := K1
 clear G1 K1
 refine Ha tk 3 [0] F W (ai fun a w F W => ?_)
 refine F6 1 F W Aa Aa Aa Re Aa Aa Aa fun w W => ?_
 refine Cc tk 2 F W fun a w F W => ?_
 refine Ao ?_
 have H := AA H
 subst H
 refine AG (.inl Aa) F W Aa (KR 1 F Aa Aa Re Aa) ?_
 exact ⟨rfl, W.done⟩
theorem Ud : type_of% Try.underlying136 := Try.underlying136
theorem Wf : Has Try.prog 82 := Ct Try.func82
theorem SS : (Try.prog.info? 136).bind (·.zero) = some (.agg #[.int .i64 0, .int .i64 0, .int .i64 0, .int .i64 0, .int .i64 0, .int .i64 0, .int .i64 0, .int .i64 0, .int .i64 0, .int .i64 0, .int .i64 0, .int .i64 0, .int .i64 0, .int .i64 0, .int .i64 0, .int .i64 0]) := by kernel_rfl
theorem Ma : Ar Try.prog 136 16 3 1 := ⟨Ud, by kernel_rfl⟩
noncomputable def CH (p0 : Int) (p1 : Int) : Option Bool := (SD (Pz .u32 p0 p1) p1).bind fun x1 => some (decide ((PD .u32 x1 1) = 1))
theorem FU (Y : Nat → Prop) (w0 : World)  (p0 : Int) (p1 : Int) (r : Bool) (H : CH p0 p1 = some r)  :
    Calls Try.prog 89 #[.int .u32 p0, .int .i64 p1] w0 fun e w' => e = .returned (.bool r) ∧ Below w0.heap.size w0 w' := by
 refine enter Try.func89 Aa Try.ntmps89 Aa fun a F => ?_
 have W := Stw.start Y w0
 unfold CH at H
 refine vc tk 9 F W fun a w F W => ?_
 obtain ⟨x1, h1, H⟩ := Ad H
 refine ls F W Aa (Sn (JE h1).2 (TQ F Aa Aa (JE h1).1)).q fun a w F W => ?_
 refine Cc tk 5 F W fun a w F W => ?_
 refine Ao ?_
 have H := AA H
 subst H
 refine AG (.inl Aa) F W Aa (Al F Aa) ?_
 exact ⟨rfl, W.done⟩
theorem U5 : Has Try.prog 89 := Ct Try.func89
theorem Qm : Ty Try.prog 136 true 16 := ⟨by kernel_rfl, by kernel_rfl⟩
abbrev F1 (a0 : Int × Int × Int × Int × Int × Int × Int × Int × Int × Int × Int × Int × Int × Int × Int × Int) : List Value := [.int .u32 a0.1, .int .u32 a0.2.1, .int .u32 a0.2.2.1, .int .u32 a0.2.2.2.1, .int .u32 a0.2.2.2.2.1, .int .u32 a0.2.2.2.2.2.1, .int .u32 a0.2.2.2.2.2.2.1, .int .u32 a0.2.2.2.2.2.2.2.1, .int .u32 a0.2.2.2.2.2.2.2.2.1, .int .u32 a0.2.2.2.2.2.2.2.2.2.1, .int .u32 a0.2.2.2.2.2.2.2.2.2.2.1, .int .u32 a0.2.2.2.2.2.2.2.2.2.2.2.1, .int .u32 a0.2.2.2.2.2.2.2.2.2.2.2.2.1, .int .u32 a0.2.2.2.2.2.2.2.2.2.2.2.2.2.1, .int .u32 a0.2.2.2.2.2.2.2.2.2.2.2.2.2.2.1, .int .u32 a0.2.2.2.2.2.2.2.2.2.2.2.2.2.2.2]
abbrev Fp  : List Value := [.int .i64 0, .int .i64 0, .int .i64 0, .int .i64 0, .int .i64 0, .int .i64 0, .int .i64 0, .int .i64 0, .int .i64 0, .int .i64 0, .int .i64 0, .int .i64 0, .int .i64 0, .int .i64 0, .int .i64 0, .int .i64 0]
noncomputable def Bu  : (Int × Int × Int × Int × Int × Int × Int × Int × Int × Int × Int × Int × Int × Int × Int × Int × Int) → Option ((Int × Int × Int × Int × Int × Int × Int × Int × Int × Int × Int × Int × Int × Int × Int × Int × Int) ⊕ (Int × Int × Int × Int × Int × Int × Int × Int × Int × Int × Int × Int × Int × Int × Int × Int))
  | (x17, x18, x19, x20, x21, x22, x23, x24, x25, x26, x27, x28, x29, x30, x31, x32, x33) => (if x17 < 16 then (ix ([x18, x19, x20, x21, x22, x23, x24, x25, x26, x27, x28, x29, x30, x31, x32, x33] : List Int) x17).bind fun x34 => some (.inl (A7 (x17 + 1), (if x17 = 0 then (-1) else x18), (if x17 = 1 then (-1) else x19), (if x17 = 2 then (-1) else x20), (if x17 = 3 then (-1) else x21), (if x17 = 4 then (-1) else x22), (if x17 = 5 then (-1) else x23), (if x17 = 6 then (-1) else x24), (if x17 = 7 then (-1) else x25), (if x17 = 8 then (-1) else x26), (if x17 = 9 then (-1) else x27), (if x17 = 10 then (-1) else x28), (if x17 = 11 then (-1) else x29), (if x17 = 12 then (-1) else x30), (if x17 = 13 then (-1) else x31), (if x17 = 14 then (-1) else x32), (if x17 = 15 then (-1) else x33))) else some (.inr (x18, x19, x20, x21, x22, x23, x24, x25, x26, x27, x28, x29, x30, x31, x32, x33)))
noncomputable def AZ (p0 : Int) (p1 : Int × Int × Int × Int × Int × Int × Int × Int × Int × Int × Int × Int × Int × Int × Int × Int) (x54 : Int) (x55 : Int) (x56 : Int) : (Int × Int × Int × Int × Int × Int × Int × Int × Int × Int × Int × Int × Int × Int × Int × Int × Int × Int) → Option ((Int × Int × Int × Int × Int × Int × Int × Int × Int × Int × Int × Int × Int × Int × Int × Int × Int × Int) ⊕ (Int × Int × Int × Int × Int × Int × Int × Int × Int × Int × Int × Int × Int × Int × Int × Int × Int))
  | (x107, x108, x109, x110, x111, x112, x113, x114, x115, x116, x117, x118, x119, x120, x121, x122, x123, x124) => (if x108 < p0 then (((CH x54 x108).bind fun x143 => (if x143 = true then (CH x55 x108).bind fun x144 => some (!x144) else some false)).bind fun x142 => (if x142 = true then (ix ([x109, x110, x111, x112, x113, x114, x115, x116, x117, x118, x119, x120, x121, x122, x123, x124] : List Int) x108).bind fun x145 => (ix ([p1.1, p1.2.1, p1.2.2.1, p1.2.2.2.1, p1.2.2.2.2.1, p1.2.2.2.2.2.1, p1.2.2.2.2.2.2.1, p1.2.2.2.2.2.2.2.1, p1.2.2.2.2.2.2.2.2.1, p1.2.2.2.2.2.2.2.2.2.1, p1.2.2.2.2.2.2.2.2.2.2.1, p1.2.2.2.2.2.2.2.2.2.2.2.1, p1.2.2.2.2.2.2.2.2.2.2.2.2.1, p1.2.2.2.2.2.2.2.2.2.2.2.2.2.1, p1.2.2.2.2.2.2.2.2.2.2.2.2.2.2.1, p1.2.2.2.2.2.2.2.2.2.2.2.2.2.2.2] : List Int) x108).bind fun x146 => some (PV .u32 x107 x146, (if x108 = 0 then A7 (x56 + 1) else x109), (if x108 = 1 then A7 (x56 + 1) else x110), (if x108 = 2 then A7 (x56 + 1) else x111), (if x108 = 3 then A7 (x56 + 1) else x112), (if x108 = 4 then A7 (x56 + 1) else x113), (if x108 = 5 then A7 (x56 + 1) else x114), (if x108 = 6 then A7 (x56 + 1) else x115), (if x108 = 7 then A7 (x56 + 1) else x116), (if x108 = 8 then A7 (x56 + 1) else x117), (if x108 = 9 then A7 (x56 + 1) else x118), (if x108 = 10 then A7 (x56 + 1) else x119), (if x108 = 11 then A7 (x56 + 1) else x120), (if x108 = 12 then A7 (x56 + 1) else x121), (if x108 = 13 then A7 (x56 + 1) else x122), (if x108 = 14 then A7 (x56 + 1) else x123), (if x108 = 15 then A7 (x56 + 1) else x124)) else some (x107, x109, x110, x111, x112, x113, x114, x115, x116, x117, x118, x119, x120, x121, x122, x123, x124))).bind fun (x125, x126, x127, x128, x129, x130, x131, x132, x133, x134, x135, x136, x137, x138, x139, x140, x141) => some (.inl (x125, A7 (x108 + 1), x126, x127, x128, x129, x130, x131, x132, x133, x134, x135, x136, x137, x138, x139, x140, x141)) else some (.inr (x107, x109, x110, x111, x112, x113, x114, x115, x116, x117, x118, x119, x120, x121, x122, x123, x124)))
noncomputable def Be (p0 : Int) (p1 : Int × Int × Int × Int × Int × Int × Int × Int × Int × Int × Int × Int × Int × Int × Int × Int) : (Int × Int × Int × Int × Int × Int × Int × Int × Int × Int × Int × Int × Int × Int × Int × Int × Int × Int × Int) → Option ((Int × Int × Int × Int × Int × Int × Int × Int × Int × Int × Int × Int × Int × Int × Int × Int × Int × Int × Int) ⊕ (Int × Int × Int × Int × Int × Int × Int × Int × Int × Int × Int × Int × Int × Int × Int × Int))
  | (x54, x55, x56, x57, x58, x59, x60, x61, x62, x63, x64, x65, x66, x67, x68, x69, x70, x71, x72) => (if x56 < p0 then ((An (AZ p0 p1 x54 x55 x56) (0, 0, x57, x58, x59, x60, x61, x62, x63, x64, x65, x66, x67, x68, x69, x70, x71, x72)).bind fun (x90, x91, x92, x93, x94, x95, x96, x97, x98, x99, x100, x101, x102, x103, x104, x105, x106) => some (x90, x91, x92, x93, x94, x95, x96, x97, x98, x99, x100, x101, x102, x103, x104, x105, x106)).bind fun (x73, x74, x75, x76, x77, x78, x79, x80, x81, x82, x83, x84, x85, x86, x87, x88, x89) => some (.inl (x73, PV .u32 x55 x54, A7 (x56 + 1), x74, x75, x76, x77, x78, x79, x80, x81, x82, x83, x84, x85, x86, x87, x88, x89)) else some (.inr (x57, x58, x59, x60, x61, x62, x63, x64, x65, x66, x67, x68, x69, x70, x71, x72)))
noncomputable def CU (p0 : Int) (p1 : Int × Int × Int × Int × Int × Int × Int × Int × Int × Int × Int × Int × Int × Int × Int × Int) (p2 : Int) : Option (Int × Int × Int × Int × Int × Int × Int × Int × Int × Int × Int × Int × Int × Int × Int × Int) := (An (Bu) (0, 0, 0, 0, 0, 0, 0, 0, 0, 0, 0, 0, 0, 0, 0, 0, 0)).bind fun (x1, x2, x3, x4, x5, x6, x7, x8, x9, x10, x11, x12, x13, x14, x15, x16) => (ix ([x1, x2, x3, x4, x5, x6, x7, x8, x9, x10, x11, x12, x13, x14, x15, x16] : List Int) p2).bind fun x35 => (ix ([p1.1, p1.2.1, p1.2.2.1, p1.2.2.2.1, p1.2.2.2.2.1, p1.2.2.2.2.2.1, p1.2.2.2.2.2.2.1, p1.2.2.2.2.2.2.2.1, p1.2.2.2.2.2.2.2.2.1, p1.2.2.2.2.2.2.2.2.2.1, p1.2.2.2.2.2.2.2.2.2.2.1, p1.2.2.2.2.2.2.2.2.2.2.2.1, p1.2.2.2.2.2.2.2.2.2.2.2.2.1, p1.2.2.2.2.2.2.2.2.2.2.2.2.2.1, p1.2.2.2.2.2.2.2.2.2.2.2.2.2.2.1, p1.2.2.2.2.2.2.2.2.2.2.2.2.2.2.2] : List Int) p2).bind fun x36 => (BQ 0 p2).bind fun x37 => (An (Be p0 p1) (x36, x37, 0, (if p2 = 0 then 0 else x1), (if p2 = 1 then 0 else x2), (if p2 = 2 then 0 else x3), (if p2 = 3 then 0 else x4), (if p2 = 4 then 0 else x5), (if p2 = 5 then 0 else x6), (if p2 = 6 then 0 else x7), (if p2 = 7 then 0 else x8), (if p2 = 8 then 0 else x9), (if p2 = 9 then 0 else x10), (if p2 = 10 then 0 else x11), (if p2 = 11 then 0 else x12), (if p2 = 12 then 0 else x13), (if p2 = 13 then 0 else x14), (if p2 = 14 then 0 else x15), (if p2 = 15 then 0 else x16))).bind fun (x38, x39, x40, x41, x42, x43, x44, x45, x46, x47, x48, x49, x50, x51, x52, x53) => some (x38, x39, x40, x41, x42, x43, x44, x45, x46, x47, x48, x49, x50, x51, x52, x53)
theorem Js (Y : Nat → Prop) (w0 : World)  (p0 : Int) (p1 : Int × Int × Int × Int × Int × Int × Int × Int × Int × Int × Int × Int × Int × Int × Int × Int) (p2 : Int) (r : (Int × Int × Int × Int × Int × Int × Int × Int × Int × Int × Int × Int × Int × Int × Int × Int)) (H : CU p0 p1 p2 = some r)  :
    Calls Try.prog 81 #[.int .i64 p0, .agg #[.int .u32 p1.1, .int .u32 p1.2.1, .int .u32 p1.2.2.1, .int .u32 p1.2.2.2.1, .int .u32 p1.2.2.2.2.1, .int .u32 p1.2.2.2.2.2.1, .int .u32 p1.2.2.2.2.2.2.1, .int .u32 p1.2.2.2.2.2.2.2.1, .int .u32 p1.2.2.2.2.2.2.2.2.1, .int .u32 p1.2.2.2.2.2.2.2.2.2.1, .int .u32 p1.2.2.2.2.2.2.2.2.2.2.1, .int .u32 p1.2.2.2.2.2.2.2.2.2.2.2.1, .int .u32 p1.2.2.2.2.2.2.2.2.2.2.2.2.1, .int .u32 p1.2.2.2.2.2.2.2.2.2.2.2.2.2.1, .int .u32 p1.2.2.2.2.2.2.2.2.2.2.2.2.2.2.1, .int .u32 p1.2.2.2.2.2.2.2.2.2.2.2.2.2.2.2], .int .i64 p2] w0 fun e w' => e = .returned (.agg #[.int .i64 r.1, .int .i64 r.2.1, .int .i64 r.2.2.1, .int .i64 r.2.2.2.1, .int .i64 r.2.2.2.2.1, .int .i64 r.2.2.2.2.2.1, .int .i64 r.2.2.2.2.2.2.1, .int .i64 r.2.2.2.2.2.2.2.1, .int .i64 r.2.2.2.2.2.2.2.2.1, .int .i64 r.2.2.2.2.2.2.2.2.2.1, .int .i64 r.2.2.2.2.2.2.2.2.2.2.1, .int .i64 r.2.2.2.2.2.2.2.2.2.2.2.1, .int .i64 r.2.2.2.2.2.2.2.2.2.2.2.2.1, .int .i64 r.2.2.2.2.2.2.2.2.2.2.2.2.2.1, .int .i64 r.2.2.2.2.2.2.2.2.2.2.2.2.2.2.1, .int .i64 r.2.2.2.2.2.2.2.2.2.2.2.2.2.2.2]) ∧ Below w0.heap.size w0 w' := by
 refine enter Try.func81 Aa Try.ntmps81 Aa fun a F => ?_
 have W := Stw.start Y w0
 unfold CU at H
 refine vc tk 2 F W fun a w F W => ?_
 refine Cq (cs := (F1 p1)) F W Aa Aa Aa fun b1 a w F W => ?_
 refine B9 (cs := (Fp)) F W Aa SS Aa fun b2 a w F W => ?_
 refine Cc tk 4 F W fun a w F W => ?_
 refine B9 (cs := (Fp)) F W Aa SS Aa fun b3 a w F W => ?_
 refine EF (Ac ?_)
 obtain ⟨o1, G1, K1⟩ := Ad H
 refine Av (fun a w => ∃ x1 : Int, ∃ x2 : Int, ∃ x3 : Int, ∃ x4 : Int, ∃ x5 : Int, ∃ x6 : Int, ∃ x7 : Int, ∃ x8 : Int, ∃ x9 : Int, ∃ x10 : Int, ∃ x11 : Int, ∃ x12 : Int, ∃ x13 : Int, ∃ x14 : Int, ∃ x15 : Int, ∃ x16 : Int, some ((x1, x2, x3, x4, x5, x6, x7, x8, x9, x10, x11, x12, x13, x14, x15, x16)) = some o1 ∧ Fr 60 [] [(0, .int .i64 p0), (2, .int .i64 p2), (4, .pointer (some ⟨b1, 0, none⟩)), (6, .pointer (some ⟨b2, 0, none⟩)), (7, .pointer (some ⟨b3, 0, none⟩))] a ∧ Stw ⟨Y, [], w0⟩ [(b3, [.int .i64 x1, .int .i64 x2, .int .i64 x3, .int .i64 x4, .int .i64 x5, .int .i64 x6, .int .i64 x7, .int .i64 x8, .int .i64 x9, .int .i64 x10, .int .i64 x11, .int .i64 x12, .int .i64 x13, .int .i64 x14, .int .i64 x15, .int .i64 x16]), (b2, (Fp)), (b1, (F1 p1))] [] w) ?_ ?_
 ·
  have H := G1
  clear G1 K1
  refine vc tk 6 F W fun a w F W => ?_
  have W := W.frontM (i := 2) Aa Aa
  have W := W.frontM (i := 2) Aa Aa
  have W := W.frontM (i := 2) Aa Aa
  refine AP H (fun s a w => Fr 60 [] [(0, .int .i64 p0), (2, .int .i64 p2), (4, .pointer (some ⟨b1, 0, none⟩)), (6, .pointer (some ⟨b2, 0, none⟩)), (7, .pointer (some ⟨b3, 0, none⟩)), (14, .int .i64 s.1)] a ∧ Stw ⟨Y, [], w0⟩ [(b3, [.int .i64 s.2.1, .int .i64 s.2.2.1, .int .i64 s.2.2.2.1, .int .i64 s.2.2.2.2.1, .int .i64 s.2.2.2.2.2.1, .int .i64 s.2.2.2.2.2.2.1, .int .i64 s.2.2.2.2.2.2.2.1, .int .i64 s.2.2.2.2.2.2.2.2.1, .int .i64 s.2.2.2.2.2.2.2.2.2.1, .int .i64 s.2.2.2.2.2.2.2.2.2.2.1, .int .i64 s.2.2.2.2.2.2.2.2.2.2.2.1, .int .i64 s.2.2.2.2.2.2.2.2.2.2.2.2.1, .int .i64 s.2.2.2.2.2.2.2.2.2.2.2.2.2.1, .int .i64 s.2.2.2.2.2.2.2.2.2.2.2.2.2.2.1, .int .i64 s.2.2.2.2.2.2.2.2.2.2.2.2.2.2.2.1, .int .i64 s.2.2.2.2.2.2.2.2.2.2.2.2.2.2.2.2]), (b2, (Fp)), (b1, (F1 p1))] [] w) ⟨F.ra Aa, W⟩ fun s o a w H L2 hR => ?_
  obtain ⟨x17, x18, x19, x20, x21, x22, x23, x24, x25, x26, x27, x28, x29, x30, x31, x32, x33⟩ := s
  obtain ⟨F, W⟩ := hR
  have F : Fr 60 [] [(0, .int .i64 p0), (2, .int .i64 p2), (4, .pointer (some ⟨b1, 0, none⟩)), (6, .pointer (some ⟨b2, 0, none⟩)), (7, .pointer (some ⟨b3, 0, none⟩)), (14, .int .i64 x17)] a := F
  have W : Stw ⟨Y, [], w0⟩ [(b3, [.int .i64 x18, .int .i64 x19, .int .i64 x20, .int .i64 x21, .int .i64 x22, .int .i64 x23, .int .i64 x24, .int .i64 x25, .int .i64 x26, .int .i64 x27, .int .i64 x28, .int .i64 x29, .int .i64 x30, .int .i64 x31, .int .i64 x32, .int .i64 x33]), (b2, (Fp)), (b1, (F1 p1))] [] w := W
  rw [Bu] at H
  refine vc tk 6 F W fun a w F W => ?_
  refine A3 F Aa H (fun F H => ?_) fun F H => ?_
  ·
   refine Ie tk 12 F W fun a w F W => ?_
   obtain ⟨x34, h1, H⟩ := Ad H
   refine ls F W Aa (Dr (0 + (x17).toNat * 1) Ma F Aa Aa Aa h1 Aa).q fun a w F W => ?_
   refine FO (o := 0) (m := 16) (i := x17) (l := ([x18, x19, x20, x21, x22, x23, x24, x25, x26, x27, x28, x29, x30, x31, x32, x33] : List Int)) (x := x34) (cs := [.int .i64 x18, .int .i64 x19, .int .i64 x20, .int .i64 x21, .int .i64 x22, .int .i64 x23, .int .i64 x24, .int .i64 x25, .int .i64 x26, .int .i64 x27, .int .i64 x28, .int .i64 x29, .int .i64 x30, .int .i64 x31, .int .i64 x32, .int .i64 x33]) (cs' := [.int .i64 (if x17 = 0 then (-1) else x18), .int .i64 (if x17 = 1 then (-1) else x19), .int .i64 (if x17 = 2 then (-1) else x20), .int .i64 (if x17 = 3 then (-1) else x21), .int .i64 (if x17 = 4 then (-1) else x22), .int .i64 (if x17 = 5 then (-1) else x23), .int .i64 (if x17 = 6 then (-1) else x24), .int .i64 (if x17 = 7 then (-1) else x25), .int .i64 (if x17 = 8 then (-1) else x26), .int .i64 (if x17 = 9 then (-1) else x27), .int .i64 (if x17 = 10 then (-1) else x28), .int .i64 (if x17 = 11 then (-1) else x29), .int .i64 (if x17 = 12 then (-1) else x30), .int .i64 (if x17 = 13 then (-1) else x31), .int .i64 (if x17 = 14 then (-1) else x32), .int .i64 (if x17 = 15 then (-1) else x33)]) 0 F W Aa Aa Aa T3 Aa Aa Aa Aa h1 (by intro k hk hn; rw [hk]; match k, hn with | 0, _ => rfl | 1, _ => rfl | 2, _ => rfl | 3, _ => rfl | 4, _ => rfl | 5, _ => rfl | 6, _ => rfl | 7, _ => rfl | 8, _ => rfl | 9, _ => rfl | 10, _ => rfl | 11, _ => rfl | 12, _ => rfl | 13, _ => rfl | 14, _ => rfl | 15, _ => rfl | (z + 16), h => exact absurd h (by omega)) fun w W => ?_
   have W : Stw ⟨Y, [], w0⟩ [(b3, [.int .i64 (if x17 = 0 then (-1) else x18), .int .i64 (if x17 = 1 then (-1) else x19), .int .i64 (if x17 = 2 then (-1) else x20), .int .i64 (if x17 = 3 then (-1) else x21), .int .i64 (if x17 = 4 then (-1) else x22), .int .i64 (if x17 = 5 then (-1) else x23), .int .i64 (if x17 = 6 then (-1) else x24), .int .i64 (if x17 = 7 then (-1) else x25), .int .i64 (if x17 = 8 then (-1) else x26), .int .i64 (if x17 = 9 then (-1) else x27), .int .i64 (if x17 = 10 then (-1) else x28), .int .i64 (if x17 = 11 then (-1) else x29), .int .i64 (if x17 = 12 then (-1) else x30), .int .i64 (if x17 = 13 then (-1) else x31), .int .i64 (if x17 = 14 then (-1) else x32), .int .i64 (if x17 = 15 then (-1) else x33)]), (b2, (Fp)), (b1, (F1 p1))] [] w := W
   refine EF (Aq ?_)
   refine vn tk 4 F W fun a w F W => ?_
   refine Ac ?_
   have W := W.frontM (i := 2) Aa Aa
   have W := W.frontM (i := 2) Aa Aa
   have W := W.frontM (i := 2) Aa Aa
   exact ⟨_, H, F.ra Aa, W⟩
  refine AJ ?_
  iterate 2 refine A6 ?_
  refine AM (Ac ?_)
  have W := W.frontM (i := 2) Aa Aa
  have W := W.frontM (i := 2) Aa Aa
  have W := W.frontM (i := 2) Aa Aa
  have H := L2 _ H
  exact ⟨_, _, _, _, _, _, _, _, _, _, _, _, _, _, _, _, H, F.ra Aa, W⟩
 rintro a w ⟨x1, x2, x3, x4, x5, x6, x7, x8, x9, x10, x11, x12, x13, x14, x15, x16, hj, F, W⟩
 have hj := AA hj
 subst hj
 have H := K1
 clear G1 K1
 refine vc tk 3 F W fun a w F W => ?_
 obtain ⟨x35, h2, H⟩ := Ad H
 refine ls F W Aa (Dr (0 + (p2).toNat * 1) Ma F Aa Aa Aa h2 Aa).q fun a w F W => ?_
 refine FO (o := 0) (m := 16) (i := p2) (l := ([x1, x2, x3, x4, x5, x6, x7, x8, x9, x10, x11, x12, x13, x14, x15, x16] : List Int)) (x := x35) (cs := [.int .i64 x1, .int .i64 x2, .int .i64 x3, .int .i64 x4, .int .i64 x5, .int .i64 x6, .int .i64 x7, .int .i64 x8, .int .i64 x9, .int .i64 x10, .int .i64 x11, .int .i64 x12, .int .i64 x13, .int .i64 x14, .int .i64 x15, .int .i64 x16]) (cs' := [.int .i64 (if p2 = 0 then 0 else x1), .int .i64 (if p2 = 1 then 0 else x2), .int .i64 (if p2 = 2 then 0 else x3), .int .i64 (if p2 = 3 then 0 else x4), .int .i64 (if p2 = 4 then 0 else x5), .int .i64 (if p2 = 5 then 0 else x6), .int .i64 (if p2 = 6 then 0 else x7), .int .i64 (if p2 = 7 then 0 else x8), .int .i64 (if p2 = 8 then 0 else x9), .int .i64 (if p2 = 9 then 0 else x10), .int .i64 (if p2 = 10 then 0 else x11), .int .i64 (if p2 = 11 then 0 else x12), .int .i64 (if p2 = 12 then 0 else x13), .int .i64 (if p2 = 13 then 0 else x14), .int .i64 (if p2 = 14 then 0 else x15), .int .i64 (if p2 = 15 then 0 else x16)]) 0 F W Aa Aa Aa T3 Aa Aa Aa Aa h2 (by intro k hk hn; rw [hk]; match k, hn with | 0, _ => rfl | 1, _ => rfl | 2, _ => rfl | 3, _ => rfl | 4, _ => rfl | 5, _ => rfl | 6, _ => rfl | 7, _ => rfl | 8, _ => rfl | 9, _ => rfl | 10, _ => rfl | 11, _ => rfl | 12, _ => rfl | 13, _ => rfl | 14, _ => rfl | 15, _ => rfl | (z + 16), h => exact absurd h (by omega)) fun w W => ?_
 have W : Stw ⟨Y, [], w0⟩ [(b3, [.int .i64 (if p2 = 0 then 0 else x1), .int .i64 (if p2 = 1 then 0 else x2), .int .i64 (if p2 = 2 then 0 else x3), .int .i64 (if p2 = 3 then 0 else x4), .int .i64 (if p2 = 4 then 0 else x5), .int .i64 (if p2 = 5 then 0 else x6), .int .i64 (if p2 = 6 then 0 else x7), .int .i64 (if p2 = 7 then 0 else x8), .int .i64 (if p2 = 8 then 0 else x9), .int .i64 (if p2 = 9 then 0 else x10), .int .i64 (if p2 = 10 then 0 else x11), .int .i64 (if p2 = 11 then 0 else x12), .int .i64 (if p2 = 12 then 0 else x13), .int .i64 (if p2 = 13 then 0 else x14), .int .i64 (if p2 = 14 then 0 else x15), .int .i64 (if p2 = 15 then 0 else x16)]), (b2, (Fp)), (b1, (F1 p1))] [] w := W
 refine Cc tk 3 F W fun a w F W => ?_
 refine Cx W MO (by kernel_rfl) ?_
 refine qs F Aa (Am F Aa).q fun a F => ?_
 obtain ⟨x36, h3, H⟩ := Ad H
 refine qs F Aa (Dr (0 + (p2).toNat * 1) Kn F Aa Aa Aa h3 Aa).q fun a F => ?_
 refine qs F Aa (A4 (v := Value.int .u32 x36) 2 F Aa Aa NC (F9 (base := 0) (m := 16) (l := [p1.1, p1.2.1, p1.2.2.1, p1.2.2.2.1, p1.2.2.2.2.1, p1.2.2.2.2.2.1, p1.2.2.2.2.2.2.1, p1.2.2.2.2.2.2.2.1, p1.2.2.2.2.2.2.2.2.1, p1.2.2.2.2.2.2.2.2.2.1, p1.2.2.2.2.2.2.2.2.2.2.1, p1.2.2.2.2.2.2.2.2.2.2.2.1, p1.2.2.2.2.2.2.2.2.2.2.2.2.1, p1.2.2.2.2.2.2.2.2.2.2.2.2.2.1, p1.2.2.2.2.2.2.2.2.2.2.2.2.2.2.1, p1.2.2.2.2.2.2.2.2.2.2.2.2.2.2.2]) (enc := Value.int .u32) Aa h3)).q fun a F => ?_
 refine qs F Aa (Am F Aa).q fun a F => ?_
 obtain ⟨x37, h4, H⟩ := Ad H
 refine qs F Aa (AW (v := Value.int .u32 x37) F UQ Aa (fun w W => Fy any w 0 p2 _ h4)) fun a F => ?_
 iterate 2 refine qs F Aa (BR F Aa).q fun a F => ?_
 refine A9 fun w W => ?_
 refine Ac ?_
 obtain ⟨o3, G3, K3⟩ := Ad H
 refine Av (fun a w => ∃ x38 : Int, ∃ x39 : Int, ∃ x40 : Int, ∃ x41 : Int, ∃ x42 : Int, ∃ x43 : Int, ∃ x44 : Int, ∃ x45 : Int, ∃ x46 : Int, ∃ x47 : Int, ∃ x48 : Int, ∃ x49 : Int, ∃ x50 : Int, ∃ x51 : Int, ∃ x52 : Int, ∃ x53 : Int, some ((x38, x39, x40, x41, x42, x43, x44, x45, x46, x47, x48, x49, x50, x51, x52, x53)) = some o3 ∧ Fr 60 [] [(6, .pointer (some ⟨b2, 0, none⟩)), (7, .pointer (some ⟨b3, 0, none⟩))] a ∧ Stw ⟨Y, [], w0⟩ [(b3, [.int .i64 x38, .int .i64 x39, .int .i64 x40, .int .i64 x41, .int .i64 x42, .int .i64 x43, .int .i64 x44, .int .i64 x45, .int .i64 x46, .int .i64 x47, .int .i64 x48, .int .i64 x49, .int .i64 x50, .int .i64 x51, .int .i64 x52, .int .i64 x53]), (b2, (Fp)), (b1, (F1 p1))] [] w) ?_ ?_
 ·
  have H := G3
  clear G3 K3
  refine vc tk 7 F W fun a w F W => ?_
  have W := W.frontM (i := 2) Aa Aa
  have W := W.frontM (i := 2) Aa Aa
  have W := W.frontM (i := 2) Aa Aa
  refine AP H (fun s a w => Fr 60 [] [(0, .int .i64 p0), (4, .pointer (some ⟨b1, 0, none⟩)), (6, .pointer (some ⟨b2, 0, none⟩)), (7, .pointer (some ⟨b3, 0, none⟩)), (9, .int .u32 s.1), (10, .int .u32 s.2.1), (27, .int .i64 p0), (28, .int .i64 s.2.2.1)] a ∧ Stw ⟨Y, [], w0⟩ [(b3, [.int .i64 s.2.2.2.1, .int .i64 s.2.2.2.2.1, .int .i64 s.2.2.2.2.2.1, .int .i64 s.2.2.2.2.2.2.1, .int .i64 s.2.2.2.2.2.2.2.1, .int .i64 s.2.2.2.2.2.2.2.2.1, .int .i64 s.2.2.2.2.2.2.2.2.2.1, .int .i64 s.2.2.2.2.2.2.2.2.2.2.1, .int .i64 s.2.2.2.2.2.2.2.2.2.2.2.1, .int .i64 s.2.2.2.2.2.2.2.2.2.2.2.2.1, .int .i64 s.2.2.2.2.2.2.2.2.2.2.2.2.2.1, .int .i64 s.2.2.2.2.2.2.2.2.2.2.2.2.2.2.1, .int .i64 s.2.2.2.2.2.2.2.2.2.2.2.2.2.2.2.1, .int .i64 s.2.2.2.2.2.2.2.2.2.2.2.2.2.2.2.2.1, .int .i64 s.2.2.2.2.2.2.2.2.2.2.2.2.2.2.2.2.2.1, .int .i64 s.2.2.2.2.2.2.2.2.2.2.2.2.2.2.2.2.2.2]), (b2, (Fp)), (b1, (F1 p1))] [] w) ⟨F.ra Aa, W⟩ fun s o a w H L4 hR => ?_
  obtain ⟨x54, x55, x56, x57, x58, x59, x60, x61, x62, x63, x64, x65, x66, x67, x68, x69, x70, x71, x72⟩ := s
  obtain ⟨F, W⟩ := hR
  have F : Fr 60 [] [(0, .int .i64 p0), (4, .pointer (some ⟨b1, 0, none⟩)), (6, .pointer (some ⟨b2, 0, none⟩)), (7, .pointer (some ⟨b3, 0, none⟩)), (9, .int .u32 x54), (10, .int .u32 x55), (27, .int .i64 p0), (28, .int .i64 x56)] a := F
  have W : Stw ⟨Y, [], w0⟩ [(b3, [.int .i64 x57, .int .i64 x58, .int .i64 x59, .int .i64 x60, .int .i64 x61, .int .i64 x62, .int .i64 x63, .int .i64 x64, .int .i64 x65, .int .i64 x66, .int .i64 x67, .int .i64 x68, .int .i64 x69, .int .i64 x70, .int .i64 x71, .int .i64 x72]), (b2, (Fp)), (b1, (F1 p1))] [] w := W
  rw [Be] at H
  refine vc tk 6 F W fun a w F W => ?_
  refine A3 F Aa H (fun F H => ?_) fun F H => ?_
  ·
   refine AD (Ac ?_)
   obtain ⟨o5, G5, K5⟩ := Ad H
   refine Av (fun a w => ∃ x73 : Int, ∃ x74 : Int, ∃ x75 : Int, ∃ x76 : Int, ∃ x77 : Int, ∃ x78 : Int, ∃ x79 : Int, ∃ x80 : Int, ∃ x81 : Int, ∃ x82 : Int, ∃ x83 : Int, ∃ x84 : Int, ∃ x85 : Int, ∃ x86 : Int, ∃ x87 : Int, ∃ x88 : Int, ∃ x89 : Int, some ((x73, x74, x75, x76, x77, x78, x79, x80, x81, x82, x83, x84, x85, x86, x87, x88, x89)) = some o5 ∧ Fr 60 [] [(0, .int .i64 p0), (4, .pointer (some ⟨b1, 0, none⟩)), (6, .pointer (some ⟨b2, 0, none⟩)), (7, .pointer (some ⟨b3, 0, none⟩)), (9, .int .u32 x73), (10, .int .u32 (PV .u32 x55 x54)), (27, .int .i64 p0), (28, .int .i64 x56)] a ∧ Stw ⟨Y, [], w0⟩ [(b3, [.int .i64 x74, .int .i64 x75, .int .i64 x76, .int .i64 x77, .int .i64 x78, .int .i64 x79, .int .i64 x80, .int .i64 x81, .int .i64 x82, .int .i64 x83, .int .i64 x84, .int .i64 x85, .int .i64 x86, .int .i64 x87, .int .i64 x88, .int .i64 x89]), (b2, (Fp)), (b1, (F1 p1))] [] w) ?_ ?_
   ·
    have H := G5
    clear G5 K5
    refine vc tk 12 F W fun a w F W => ?_
    obtain ⟨o6, G6, K6⟩ := Ad H
    refine Av (fun a w => ∃ x90 : Int, ∃ x91 : Int, ∃ x92 : Int, ∃ x93 : Int, ∃ x94 : Int, ∃ x95 : Int, ∃ x96 : Int, ∃ x97 : Int, ∃ x98 : Int, ∃ x99 : Int, ∃ x100 : Int, ∃ x101 : Int, ∃ x102 : Int, ∃ x103 : Int, ∃ x104 : Int, ∃ x105 : Int, ∃ x106 : Int, some ((x90, x91, x92, x93, x94, x95, x96, x97, x98, x99, x100, x101, x102, x103, x104, x105, x106)) = some o6 ∧ Fr 60 [] [(0, .int .i64 p0), (4, .pointer (some ⟨b1, 0, none⟩)), (6, .pointer (some ⟨b2, 0, none⟩)), (7, .pointer (some ⟨b3, 0, none⟩)), (9, .int .u32 x54), (10, .int .u32 x55), (12, .int .u32 x90), (27, .int .i64 p0), (28, .int .i64 x56)] a ∧ Stw ⟨Y, [], w0⟩ [(b3, [.int .i64 x91, .int .i64 x92, .int .i64 x93, .int .i64 x94, .int .i64 x95, .int .i64 x96, .int .i64 x97, .int .i64 x98, .int .i64 x99, .int .i64 x100, .int .i64 x101, .int .i64 x102, .int .i64 x103, .int .i64 x104, .int .i64 x105, .int .i64 x106]), (b2, (Fp)), (b1, (F1 p1))] [] w) ?_ ?_
    ·
     have H := G6
     clear G6 K6
     refine vc tk 7 F W fun a w F W => ?_
     have W := W.frontM (i := 2) Aa Aa
     have W := W.frontM (i := 2) Aa Aa
     have W := W.frontM (i := 2) Aa Aa
     refine AP H (fun s a w => Fr 60 [] [(0, .int .i64 p0), (4, .pointer (some ⟨b1, 0, none⟩)), (6, .pointer (some ⟨b2, 0, none⟩)), (7, .pointer (some ⟨b3, 0, none⟩)), (9, .int .u32 x54), (10, .int .u32 x55), (11, .int .i64 x56), (12, .int .u32 s.1), (27, .int .i64 p0), (28, .int .i64 x56), (31, .int .i64 p0), (32, .int .i64 s.2.1)] a ∧ Stw ⟨Y, [], w0⟩ [(b3, [.int .i64 s.2.2.1, .int .i64 s.2.2.2.1, .int .i64 s.2.2.2.2.1, .int .i64 s.2.2.2.2.2.1, .int .i64 s.2.2.2.2.2.2.1, .int .i64 s.2.2.2.2.2.2.2.1, .int .i64 s.2.2.2.2.2.2.2.2.1, .int .i64 s.2.2.2.2.2.2.2.2.2.1, .int .i64 s.2.2.2.2.2.2.2.2.2.2.1, .int .i64 s.2.2.2.2.2.2.2.2.2.2.2.1, .int .i64 s.2.2.2.2.2.2.2.2.2.2.2.2.1, .int .i64 s.2.2.2.2.2.2.2.2.2.2.2.2.2.1, .int .i64 s.2.2.2.2.2.2.2.2.2.2.2.2.2.2.1, .int .i64 s.2.2.2.2.2.2.2.2.2.2.2.2.2.2.2.1, .int .i64 s.2.2.2.2.2.2.2.2.2.2.2.2.2.2.2.2.1, .int .i64 s.2.2.2.2.2.2.2.2.2.2.2.2.2.2.2.2.2]), (b2, (Fp)), (b1, (F1 p1))] [] w) ⟨F.ra Aa, W⟩ fun s o a w H L7 hR => ?_
     obtain ⟨x107, x108, x109, x110, x111, x112, x113, x114, x115, x116, x117, x118, x119, x120, x121, x122, x123, x124⟩ := s
     obtain ⟨F, W⟩ := hR
     have F : Fr 60 [] [(0, .int .i64 p0), (4, .pointer (some ⟨b1, 0, none⟩)), (6, .pointer (some ⟨b2, 0, none⟩)), (7, .pointer (some ⟨b3, 0, none⟩)), (9, .int .u32 x54), (10, .int .u32 x55), (11, .int .i64 x56), (12, .int .u32 x107), (27, .int .i64 p0), (28, .int .i64 x56), (31, .int .i64 p0), (32, .int .i64 x108)] a := F
     have W : Stw ⟨Y, [], w0⟩ [(b3, [.int .i64 x109, .int .i64 x110, .int .i64 x111, .int .i64 x112, .int .i64 x113, .int .i64 x114, .int .i64 x115, .int .i64 x116, .int .i64 x117, .int .i64 x118, .int .i64 x119, .int .i64 x120, .int .i64 x121, .int .i64 x122, .int .i64 x123, .int .i64 x124]), (b2, (Fp)), (b1, (F1 p1))] [] w := W
     rw [AZ] at H
     refine vc tk 6 F W fun a w F W => ?_
     refine A3 F Aa H (fun F H => ?_) fun F H => ?_
     ·
      refine AD (Ac ?_)
      obtain ⟨o8, G8, K8⟩ := Ad H
      refine Av (fun a w => ∃ x125 : Int, ∃ x126 : Int, ∃ x127 : Int, ∃ x128 : Int, ∃ x129 : Int, ∃ x130 : Int, ∃ x131 : Int, ∃ x132 : Int, ∃ x133 : Int, ∃ x134 : Int, ∃ x135 : Int, ∃ x136 : Int, ∃ x137 : Int, ∃ x138 : Int, ∃ x139 : Int, ∃ x140 : Int, ∃ x141 : Int, some ((x125, x126, x127, x128, x129, x130, x131, x132, x133, x134, x135, x136, x137, x138, x139, x140, x141)) = some o8 ∧ Fr 60 [] [(0, .int .i64 p0), (4, .pointer (some ⟨b1, 0, none⟩)), (6, .pointer (some ⟨b2, 0, none⟩)), (7, .pointer (some ⟨b3, 0, none⟩)), (9, .int .u32 x54), (10, .int .u32 x55), (11, .int .i64 x56), (12, .int .u32 x125), (27, .int .i64 p0), (28, .int .i64 x56), (31, .int .i64 p0), (32, .int .i64 x108)] a ∧ Stw ⟨Y, [], w0⟩ [(b3, [.int .i64 x126, .int .i64 x127, .int .i64 x128, .int .i64 x129, .int .i64 x130, .int .i64 x131, .int .i64 x132, .int .i64 x133, .int .i64 x134, .int .i64 x135, .int .i64 x136, .int .i64 x137, .int .i64 x138, .int .i64 x139, .int .i64 x140, .int .i64 x141]), (b2, (Fp)), (b1, (F1 p1))] [] w) ?_ ?_
      ·
       have H := G8
       clear G8 K8
       refine vc tk 7 F W fun a w F W => ?_
       obtain ⟨o9, G9, K9⟩ := Ad H
       refine Av (fun a w => ∃ x142 : Bool, some (x142) = some o9 ∧ Fr 60 [] [(0, .int .i64 p0), (4, .pointer (some ⟨b1, 0, none⟩)), (6, .pointer (some ⟨b2, 0, none⟩)), (7, .pointer (some ⟨b3, 0, none⟩)), (9, .int .u32 x54), (10, .int .u32 x55), (11, .int .i64 x56), (12, .int .u32 x107), (13, .int .i64 x108), (27, .int .i64 p0), (28, .int .i64 x56), (31, .int .i64 p0), (32, .int .i64 x108), (43, .bool x142)] a ∧ Stw ⟨Y, [], w0⟩ [(b3, [.int .i64 x109, .int .i64 x110, .int .i64 x111, .int .i64 x112, .int .i64 x113, .int .i64 x114, .int .i64 x115, .int .i64 x116, .int .i64 x117, .int .i64 x118, .int .i64 x119, .int .i64 x120, .int .i64 x121, .int .i64 x122, .int .i64 x123, .int .i64 x124]), (b2, (Fp)), (b1, (F1 p1))] [] w) ?_ ?_
       ·
        have H := G9
        clear G9 K9
        refine vc tk 3 F W fun a w F W => ?_
        obtain ⟨x143, h5, H⟩ := Ad H
        refine ls F W Aa (AW (v := Value.bool x143) F U5 Aa (fun w W => FU any w x54 x108 _ h5)) fun a w F W => ?_
        refine ls F W Aa (Am F Aa).q fun a w F W => ?_
        rcases Bool.eq_false_or_eq_true x143 with hb | hb
        ·
         have H := Di hb H
         rw [hb] at F
         clear hb
         refine vl tk 2 F W fun a w F W => ?_
         refine Jg (Ae F Aa Aa Aa Aa) ?_
         obtain ⟨x144, h6, H⟩ := Ad H
         refine ls F W Aa (AW (v := Value.bool x144) F U5 Aa (fun w W => FU any w x55 x108 _ h6)) fun a w F W => ?_
         refine vl tk 3 F W fun a w F W => ?_
         refine Ac ?_
         have W := W.frontM (i := 2) Aa Aa
         have W := W.frontM (i := 2) Aa Aa
         have W := W.frontM (i := 2) Aa Aa
         exact ⟨_, H, F.ra Aa, W⟩
        have H := Dg (by rw [hb]; decide) H
        rw [hb] at F
        clear hb
        refine vl tk 6 F W fun a w F W => ?_
        refine Ac ?_
        have W := W.frontM (i := 2) Aa Aa
        have W := W.frontM (i := 2) Aa Aa
        have W := W.frontM (i := 2) Aa Aa
        exact ⟨_, H, F.ra Aa, W⟩
       rintro a w ⟨x142, hj, F, W⟩
       have hj := AA hj
       subst hj
       have H := K9
       clear G9 K9
       refine D8 F Aa H (fun F H => ?_) fun F H => ?_
       ·
        refine vc tk 5 F W fun a w F W => ?_
        obtain ⟨x145, h7, H⟩ := Ad H
        refine ls F W Aa (Dr (0 + (x108).toNat * 1) Ma F Aa Aa Aa h7 Aa).q fun a w F W => ?_
        refine FO (o := 0) (m := 16) (i := x108) (l := ([x109, x110, x111, x112, x113, x114, x115, x116, x117, x118, x119, x120, x121, x122, x123, x124] : List Int)) (x := x145) (cs := [.int .i64 x109, .int .i64 x110, .int .i64 x111, .int .i64 x112, .int .i64 x113, .int .i64 x114, .int .i64 x115, .int .i64 x116, .int .i64 x117, .int .i64 x118, .int .i64 x119, .int .i64 x120, .int .i64 x121, .int .i64 x122, .int .i64 x123, .int .i64 x124]) (cs' := [.int .i64 (if x108 = 0 then A7 (x56 + 1) else x109), .int .i64 (if x108 = 1 then A7 (x56 + 1) else x110), .int .i64 (if x108 = 2 then A7 (x56 + 1) else x111), .int .i64 (if x108 = 3 then A7 (x56 + 1) else x112), .int .i64 (if x108 = 4 then A7 (x56 + 1) else x113), .int .i64 (if x108 = 5 then A7 (x56 + 1) else x114), .int .i64 (if x108 = 6 then A7 (x56 + 1) else x115), .int .i64 (if x108 = 7 then A7 (x56 + 1) else x116), .int .i64 (if x108 = 8 then A7 (x56 + 1) else x117), .int .i64 (if x108 = 9 then A7 (x56 + 1) else x118), .int .i64 (if x108 = 10 then A7 (x56 + 1) else x119), .int .i64 (if x108 = 11 then A7 (x56 + 1) else x120), .int .i64 (if x108 = 12 then A7 (x56 + 1) else x121), .int .i64 (if x108 = 13 then A7 (x56 + 1) else x122), .int .i64 (if x108 = 14 then A7 (x56 + 1) else x123), .int .i64 (if x108 = 15 then A7 (x56 + 1) else x124)]) 0 F W Aa Aa Aa T3 Aa Aa Aa Aa h7 (by intro k hk hn; rw [hk]; match k, hn with | 0, _ => rfl | 1, _ => rfl | 2, _ => rfl | 3, _ => rfl | 4, _ => rfl | 5, _ => rfl | 6, _ => rfl | 7, _ => rfl | 8, _ => rfl | 9, _ => rfl | 10, _ => rfl | 11, _ => rfl | 12, _ => rfl | 13, _ => rfl | 14, _ => rfl | 15, _ => rfl | (z + 16), h => exact absurd h (by omega)) fun w W => ?_
        have W : Stw ⟨Y, [], w0⟩ [(b3, [.int .i64 (if x108 = 0 then A7 (x56 + 1) else x109), .int .i64 (if x108 = 1 then A7 (x56 + 1) else x110), .int .i64 (if x108 = 2 then A7 (x56 + 1) else x111), .int .i64 (if x108 = 3 then A7 (x56 + 1) else x112), .int .i64 (if x108 = 4 then A7 (x56 + 1) else x113), .int .i64 (if x108 = 5 then A7 (x56 + 1) else x114), .int .i64 (if x108 = 6 then A7 (x56 + 1) else x115), .int .i64 (if x108 = 7 then A7 (x56 + 1) else x116), .int .i64 (if x108 = 8 then A7 (x56 + 1) else x117), .int .i64 (if x108 = 9 then A7 (x56 + 1) else x118), .int .i64 (if x108 = 10 then A7 (x56 + 1) else x119), .int .i64 (if x108 = 11 then A7 (x56 + 1) else x120), .int .i64 (if x108 = 12 then A7 (x56 + 1) else x121), .int .i64 (if x108 = 13 then A7 (x56 + 1) else x122), .int .i64 (if x108 = 14 then A7 (x56 + 1) else x123), .int .i64 (if x108 = 15 then A7 (x56 + 1) else x124)]), (b2, (Fp)), (b1, (F1 p1))] [] w := W
        refine Cc tk 5 F W fun a w F W => ?_
        obtain ⟨x146, h8, H⟩ := Ad H
        refine ls F W Aa (Dr (0 + (x108).toNat * 1) Kn F Aa Aa Aa h8 Aa).q fun a w F W => ?_
        refine ls F W Aa (A4 (v := Value.int .u32 x146) 2 F Aa Aa NC (F9 (base := 0) (m := 16) (l := [p1.1, p1.2.1, p1.2.2.1, p1.2.2.2.1, p1.2.2.2.2.1, p1.2.2.2.2.2.1, p1.2.2.2.2.2.2.1, p1.2.2.2.2.2.2.2.1, p1.2.2.2.2.2.2.2.2.1, p1.2.2.2.2.2.2.2.2.2.1, p1.2.2.2.2.2.2.2.2.2.2.1, p1.2.2.2.2.2.2.2.2.2.2.2.1, p1.2.2.2.2.2.2.2.2.2.2.2.2.1, p1.2.2.2.2.2.2.2.2.2.2.2.2.2.1, p1.2.2.2.2.2.2.2.2.2.2.2.2.2.2.1, p1.2.2.2.2.2.2.2.2.2.2.2.2.2.2.2]) (enc := Value.int .u32) Aa h8)).q fun a w F W => ?_
        refine vl tk 3 F W fun a w F W => ?_
        refine Aq (Ac ?_)
        have W := W.frontM (i := 2) Aa Aa
        have W := W.frontM (i := 2) Aa Aa
        have W := W.frontM (i := 2) Aa Aa
        exact ⟨_, _, _, _, _, _, _, _, _, _, _, _, _, _, _, _, _, H, F.ra Aa, W⟩
       refine AD (Aq (Ac ?_))
       have W := W.frontM (i := 2) Aa Aa
       have W := W.frontM (i := 2) Aa Aa
       have W := W.frontM (i := 2) Aa Aa
       exact ⟨_, _, _, _, _, _, _, _, _, _, _, _, _, _, _, _, _, H, F.ra Aa, W⟩
      rintro a w ⟨x125, x126, x127, x128, x129, x130, x131, x132, x133, x134, x135, x136, x137, x138, x139, x140, x141, hj, F, W⟩
      have hj := AA hj
      subst hj
      have H := K8
      clear G8 K8
      refine vc tk 4 F W fun a w F W => ?_
      refine Ac ?_
      have W := W.frontM (i := 2) Aa Aa
      have W := W.frontM (i := 2) Aa Aa
      have W := W.frontM (i := 2) Aa Aa
      exact ⟨_, H, F.ra Aa, W⟩
     refine AJ ?_
     iterate 2 refine A6 ?_
     refine AM (Ac ?_)
     have W := W.frontM (i := 2) Aa Aa
     have W := W.frontM (i := 2) Aa Aa
     have W := W.frontM (i := 2) Aa Aa
     have H := L7 _ H
     exact ⟨_, _, _, _, _, _, _, _, _, _, _, _, _, _, _, _, _, H, F.ra Aa, W⟩
    rintro a w ⟨x90, x91, x92, x93, x94, x95, x96, x97, x98, x99, x100, x101, x102, x103, x104, x105, x106, hj, F, W⟩
    have hj := AA hj
    subst hj
    have H := K6
    clear G6 K6
    refine vc tk 12 F W fun a w F W => ?_
    refine Aq (Ac ?_)
    have W := W.frontM (i := 2) Aa Aa
    have W := W.frontM (i := 2) Aa Aa
    have W := W.frontM (i := 2) Aa Aa
    exact ⟨_, _, _, _, _, _, _, _, _, _, _, _, _, _, _, _, _, H, F.ra Aa, W⟩
   rintro a w ⟨x73, x74, x75, x76, x77, x78, x79, x80, x81, x82, x83, x84, x85, x86, x87, x88, x89, hj, F, W⟩
   have hj := AA hj
   subst hj
   have H := K5
   clear G5 K5
   refine vc tk 4 F W fun a w F W => ?_
   refine Ac ?_
   have W := W.frontM (i := 2) Aa Aa
   have W := W.frontM (i := 2) Aa Aa
   have W := W.frontM (i := 2) Aa Aa
   exact ⟨_, H, F.ra Aa, W⟩
  refine AJ ?_
  iterate 2 refine A6 ?_
  refine AM (Ac ?_)
  have W := W.frontM (i := 2) Aa Aa
  have W := W.frontM (i := 2) Aa Aa
  have W := W.frontM (i := 2) Aa Aa
  have H := L4 _ H
  exact ⟨_, _, _, _, _, _, _, _, _, _, _, _, _, _, _, _, H, F.ra Aa, W⟩
 rintro a w ⟨x38, x39, x40, x41, x42, x43, x44, x45, x46, x47, x48, x49, x50, x51, x52, x53, hj, F, W⟩
 have hj := AA hj
 subst hj
 have H := K3
 clear G3 K3
 refine Ha tk 3 [0] F W (ai fun a w F W => ?_)
 refine F6 1 F W Aa Aa Aa Qm Aa Aa Aa fun w W => ?_
 refine Cc tk 2 F W fun a w F W => ?_
 refine Ao ?_
 have H := AA H
 subst H
 refine AG (.inl Aa) F W Aa (KR 1 F Aa Aa Qm Aa) ?_
 exact ⟨rfl, W.done⟩
theorem WO : Has Try.prog 81 := Ct Try.func81
abbrev NG (a0 : Nat) (a1 : Int × Int × Int × Int × Int × Int × Int × Int × Int × Int × Int × Int × Int × Int × Int × Int) : List (Nat × List Value) := [(a0, [.int .i64 a1.1, .int .i64 a1.2.1, .int .i64 a1.2.2.1, .int .i64 a1.2.2.2.1, .int .i64 a1.2.2.2.2.1, .int .i64 a1.2.2.2.2.2.1, .int .i64 a1.2.2.2.2.2.2.1, .int .i64 a1.2.2.2.2.2.2.2.1, .int .i64 a1.2.2.2.2.2.2.2.2.1, .int .i64 a1.2.2.2.2.2.2.2.2.2.1, .int .i64 a1.2.2.2.2.2.2.2.2.2.2.1, .int .i64 a1.2.2.2.2.2.2.2.2.2.2.2.1, .int .i64 a1.2.2.2.2.2.2.2.2.2.2.2.2.1, .int .i64 a1.2.2.2.2.2.2.2.2.2.2.2.2.2.1, .int .i64 a1.2.2.2.2.2.2.2.2.2.2.2.2.2.2.1, .int .i64 a1.2.2.2.2.2.2.2.2.2.2.2.2.2.2.2])]
noncomputable def Bl (p0 : Int) (p1 : Int) (p2 : Int × Int × Int × Int × Int × Int × Int × Int × Int × Int × Int × Int × Int × Int × Int × Int) : (Int × Int) → Option ((Int × Int) ⊕ Int)
  | (x2, x3) => (if x3 < p0 then (((CH p1 x3).bind fun x6 => (if x6 = true then (ix ([p2.1, p2.2.1, p2.2.2.1, p2.2.2.2.1, p2.2.2.2.2.1, p2.2.2.2.2.2.1, p2.2.2.2.2.2.2.1, p2.2.2.2.2.2.2.2.1, p2.2.2.2.2.2.2.2.2.1, p2.2.2.2.2.2.2.2.2.2.1, p2.2.2.2.2.2.2.2.2.2.2.1, p2.2.2.2.2.2.2.2.2.2.2.2.1, p2.2.2.2.2.2.2.2.2.2.2.2.2.1, p2.2.2.2.2.2.2.2.2.2.2.2.2.2.1, p2.2.2.2.2.2.2.2.2.2.2.2.2.2.2.1, p2.2.2.2.2.2.2.2.2.2.2.2.2.2.2.2] : List Int) x3).bind fun x7 => (if 0 ≤ x7 then (if x2 < 0 then some true else (ix ([p2.1, p2.2.1, p2.2.2.1, p2.2.2.2.1, p2.2.2.2.2.1, p2.2.2.2.2.2.1, p2.2.2.2.2.2.2.1, p2.2.2.2.2.2.2.2.1, p2.2.2.2.2.2.2.2.2.1, p2.2.2.2.2.2.2.2.2.2.1, p2.2.2.2.2.2.2.2.2.2.2.1, p2.2.2.2.2.2.2.2.2.2.2.2.1, p2.2.2.2.2.2.2.2.2.2.2.2.2.1, p2.2.2.2.2.2.2.2.2.2.2.2.2.2.1, p2.2.2.2.2.2.2.2.2.2.2.2.2.2.2.1, p2.2.2.2.2.2.2.2.2.2.2.2.2.2.2.2] : List Int) x3).bind fun x8 => (ix ([p2.1, p2.2.1, p2.2.2.1, p2.2.2.2.1, p2.2.2.2.2.1, p2.2.2.2.2.2.1, p2.2.2.2.2.2.2.1, p2.2.2.2.2.2.2.2.1, p2.2.2.2.2.2.2.2.2.1, p2.2.2.2.2.2.2.2.2.2.1, p2.2.2.2.2.2.2.2.2.2.2.1, p2.2.2.2.2.2.2.2.2.2.2.2.1, p2.2.2.2.2.2.2.2.2.2.2.2.2.1, p2.2.2.2.2.2.2.2.2.2.2.2.2.2.1, p2.2.2.2.2.2.2.2.2.2.2.2.2.2.2.1, p2.2.2.2.2.2.2.2.2.2.2.2.2.2.2.2] : List Int) x2).bind fun x9 => some (decide (x8 < x9))) else some false) else some false)).bind fun x5 => (if x5 = true then some x3 else some x2)).bind fun x4 => some (.inl (x4, A7 (x3 + 1))) else some (.inr x2))
noncomputable def CF (p0 : Int) (p1 : Int) (p2 : Int × Int × Int × Int × Int × Int × Int × Int × Int × Int × Int × Int × Int × Int × Int × Int) : Option Int := (An (Bl p0 p1 p2) ((-1), 0)).bind fun x1 => some x1
theorem HW (Y : Nat → Prop) (w0 : World)  (p0 : Int) (p1 : Int) (p2 : Int × Int × Int × Int × Int × Int × Int × Int × Int × Int × Int × Int × Int × Int × Int × Int) (r : Int) (H : CF p0 p1 p2 = some r)  :
    Calls Try.prog 83 #[.int .i64 p0, .int .u32 p1, .agg #[.int .i64 p2.1, .int .i64 p2.2.1, .int .i64 p2.2.2.1, .int .i64 p2.2.2.2.1, .int .i64 p2.2.2.2.2.1, .int .i64 p2.2.2.2.2.2.1, .int .i64 p2.2.2.2.2.2.2.1, .int .i64 p2.2.2.2.2.2.2.2.1, .int .i64 p2.2.2.2.2.2.2.2.2.1, .int .i64 p2.2.2.2.2.2.2.2.2.2.1, .int .i64 p2.2.2.2.2.2.2.2.2.2.2.1, .int .i64 p2.2.2.2.2.2.2.2.2.2.2.2.1, .int .i64 p2.2.2.2.2.2.2.2.2.2.2.2.2.1, .int .i64 p2.2.2.2.2.2.2.2.2.2.2.2.2.2.1, .int .i64 p2.2.2.2.2.2.2.2.2.2.2.2.2.2.2.1, .int .i64 p2.2.2.2.2.2.2.2.2.2.2.2.2.2.2.2]] w0 fun e w' => e = .returned (.int .i64 r) ∧ Below w0.heap.size w0 w' := by
 refine enter Try.func83 Aa Try.ntmps83 Aa fun a F => ?_
 have W := Stw.start Y w0
 unfold CF at H
 refine vc tk 2 F W fun a w F W => ?_
 refine Cq (cs := [.int .i64 p2.1, .int .i64 p2.2.1, .int .i64 p2.2.2.1, .int .i64 p2.2.2.2.1, .int .i64 p2.2.2.2.2.1, .int .i64 p2.2.2.2.2.2.1, .int .i64 p2.2.2.2.2.2.2.1, .int .i64 p2.2.2.2.2.2.2.2.1, .int .i64 p2.2.2.2.2.2.2.2.2.1, .int .i64 p2.2.2.2.2.2.2.2.2.2.1, .int .i64 p2.2.2.2.2.2.2.2.2.2.2.1, .int .i64 p2.2.2.2.2.2.2.2.2.2.2.2.1, .int .i64 p2.2.2.2.2.2.2.2.2.2.2.2.2.1, .int .i64 p2.2.2.2.2.2.2.2.2.2.2.2.2.2.1, .int .i64 p2.2.2.2.2.2.2.2.2.2.2.2.2.2.2.1, .int .i64 p2.2.2.2.2.2.2.2.2.2.2.2.2.2.2.2]) F W Aa Aa Aa fun b1 a w F W => ?_
 refine Cc tk 8 F W fun a w F W => ?_
 obtain ⟨o1, G1, K1⟩ := Ad H
 refine Av (fun a w => ∃ x1 : Int, some (x1) = some o1 ∧ Fr 38 [] [(6, .int .i64 0), (7, .int .i64 x1)] a ∧ Stw ⟨Y, [], w0⟩ (NG b1 p2) [] w) ?_ ?_
 ·
  have H := G1
  clear G1 K1
  refine vc tk 7 F W fun a w F W => ?_
  refine AP H (fun s a w => Fr 38 [] [(1, .int .u32 p1), (5, .pointer (some ⟨b1, 0, none⟩)), (6, .int .i64 0), (7, .int .i64 s.1), (9, .int .i64 p0), (10, .int .i64 s.2)] a ∧ Stw ⟨Y, [], w0⟩ (NG b1 p2) [] w) ⟨F.ra Aa, W⟩ fun s o a w H L2 hR => ?_
  obtain ⟨x2, x3⟩ := s
  obtain ⟨F, W⟩ := hR
  have F : Fr 38 [] [(1, .int .u32 p1), (5, .pointer (some ⟨b1, 0, none⟩)), (6, .int .i64 0), (7, .int .i64 x2), (9, .int .i64 p0), (10, .int .i64 x3)] a := F
  have W : Stw ⟨Y, [], w0⟩ (NG b1 p2) [] w := W
  rw [Bl] at H
  refine vc tk 6 F W fun a w F W => ?_
  refine A3 F Aa H (fun F H => ?_) fun F H => ?_
  ·
   refine AD (Ac ?_)
   obtain ⟨o3, G3, K3⟩ := Ad H
   refine Av (fun a w => ∃ x4 : Int, some (x4) = some o3 ∧ Fr 38 [] [(1, .int .u32 p1), (5, .pointer (some ⟨b1, 0, none⟩)), (6, .int .i64 0), (7, .int .i64 x4), (9, .int .i64 p0), (10, .int .i64 x3)] a ∧ Stw ⟨Y, [], w0⟩ (NG b1 p2) [] w) ?_ ?_
   ·
    have H := G3
    clear G3 K3
    refine vc tk 7 F W fun a w F W => ?_
    obtain ⟨o4, G4, K4⟩ := Ad H
    refine Av (fun a w => ∃ x5 : Bool, some (x5) = some o4 ∧ Fr 38 [] [(1, .int .u32 p1), (5, .pointer (some ⟨b1, 0, none⟩)), (6, .int .i64 0), (7, .int .i64 x2), (8, .int .i64 x3), (9, .int .i64 p0), (10, .int .i64 x3), (34, .bool x5)] a ∧ Stw ⟨Y, [], w0⟩ (NG b1 p2) [] w) ?_ ?_
    ·
     have H := G4
     clear G4 K4
     refine Cx W MO (by kernel_rfl) ?_
     iterate 2 refine qs F Aa (Am F Aa).q fun a F => ?_
     obtain ⟨x6, h1, H⟩ := Ad H
     refine qs F Aa (AW (v := Value.bool x6) F U5 Aa (fun w W => FU any w p1 x3 _ h1)) fun a F => ?_
     refine qs F Aa (Am F Aa).q fun a F => ?_
     rcases Bool.eq_false_or_eq_true x6 with hb | hb
     ·
      have H := Di hb H
      rw [hb] at F
      clear hb
      refine B5 F (Ae F Aa Aa Aa Aa) Aa (AC Aa) (Am F Aa).q fun a F => ?_
      obtain ⟨x7, h2, H⟩ := Ad H
      refine B5 F (Ae F Aa Aa Aa Aa) Aa (AC Aa) (Dr (0 + (x3).toNat * 1) Ma F Aa Aa Aa h2 Aa).q fun a F => ?_
      refine B5 F (Ae F Aa Aa Aa Aa) Aa (AC Aa) (A4 (v := Value.int .i64 x7) 0 F Aa Aa T3 (F9 (base := 0) (m := 16) (l := [p2.1, p2.2.1, p2.2.2.1, p2.2.2.2.1, p2.2.2.2.2.1, p2.2.2.2.2.2.1, p2.2.2.2.2.2.2.1, p2.2.2.2.2.2.2.2.1, p2.2.2.2.2.2.2.2.2.1, p2.2.2.2.2.2.2.2.2.2.1, p2.2.2.2.2.2.2.2.2.2.2.1, p2.2.2.2.2.2.2.2.2.2.2.2.1, p2.2.2.2.2.2.2.2.2.2.2.2.2.1, p2.2.2.2.2.2.2.2.2.2.2.2.2.2.1, p2.2.2.2.2.2.2.2.2.2.2.2.2.2.2.1, p2.2.2.2.2.2.2.2.2.2.2.2.2.2.2.2]) (enc := Value.int .i64) Aa h2)).q fun a F => ?_
      refine B5 F (Ae F Aa Aa Aa Aa) Aa (AC Aa) (P3 F Aa Aa).q fun a F => ?_
      refine qs F Aa (BM F Aa Aa Aa).q fun a F => ?_
      refine qs F Aa (Am F Aa).q fun a F => ?_
      rcases Bool.eq_false_or_eq_true (decide (0 ≤ x7)) with hb | hb
      ·
       have H := Di (E6 hb) H
       rw [hb] at F
       clear hb
       refine B5 F (Ae F Aa Aa Aa Aa) Aa (AC Aa) (Am F Aa).q fun a F => ?_
       refine B5 F (Ae F Aa Aa Aa Aa) Aa (AC Aa) (Nz F Aa Aa).q fun a F => ?_
       refine B5 F (Ae F Aa Aa Aa Aa) Aa (AC Aa) (Am F Aa).q fun a F => ?_
       rcases Bool.eq_false_or_eq_true (decide (x2 < 0)) with hb | hb
       ·
        have H := Di (E6 hb) H
        rw [hb] at F
        clear hb
        iterate 7 refine Dc F (Bb F Aa Aa Aa Aa Aa) Aa Aa fun a F => ?_
        refine B5 F (Ae F Aa Aa Aa Aa) Aa (AC Aa) (BM F Aa Aa Aa).q fun a F => ?_
        refine qs F Aa (BM F Aa Aa Aa).q fun a F => ?_
        refine A9 fun w W => ?_
        refine Ac ?_
        exact ⟨_, H, F.ra Aa, W⟩
       have H := Dg (Fh hb) H
       rw [hb] at F
       clear hb
       refine B5 F (Ae F Aa Aa Aa Aa) Aa (AC Aa) (Am F Aa).q fun a F => ?_
       obtain ⟨x8, h3, H⟩ := Ad H
       refine B5 F (Ae F Aa Aa Aa Aa) Aa (AC Aa) (Dr (0 + (x3).toNat * 1) Ma F Aa Aa Aa h3 Aa).q fun a F => ?_
       refine B5 F (Ae F Aa Aa Aa Aa) Aa (AC Aa) (A4 (v := Value.int .i64 x8) 0 F Aa Aa T3 (F9 (base := 0) (m := 16) (l := [p2.1, p2.2.1, p2.2.2.1, p2.2.2.2.1, p2.2.2.2.2.1, p2.2.2.2.2.2.1, p2.2.2.2.2.2.2.1, p2.2.2.2.2.2.2.2.1, p2.2.2.2.2.2.2.2.2.1, p2.2.2.2.2.2.2.2.2.2.1, p2.2.2.2.2.2.2.2.2.2.2.1, p2.2.2.2.2.2.2.2.2.2.2.2.1, p2.2.2.2.2.2.2.2.2.2.2.2.2.1, p2.2.2.2.2.2.2.2.2.2.2.2.2.2.1, p2.2.2.2.2.2.2.2.2.2.2.2.2.2.2.1, p2.2.2.2.2.2.2.2.2.2.2.2.2.2.2.2]) (enc := Value.int .i64) Aa h3)).q fun a F => ?_
       refine B5 F (Ae F Aa Aa Aa Aa) Aa (AC Aa) (Am F Aa).q fun a F => ?_
       obtain ⟨x9, h4, H⟩ := Ad H
       refine B5 F (Ae F Aa Aa Aa Aa) Aa (AC Aa) (Dr (0 + (x2).toNat * 1) Ma F Aa Aa Aa h4 Aa).q fun a F => ?_
       refine B5 F (Ae F Aa Aa Aa Aa) Aa (AC Aa) (A4 (v := Value.int .i64 x9) 0 F Aa Aa T3 (F9 (base := 0) (m := 16) (l := [p2.1, p2.2.1, p2.2.2.1, p2.2.2.2.1, p2.2.2.2.2.1, p2.2.2.2.2.2.1, p2.2.2.2.2.2.2.1, p2.2.2.2.2.2.2.2.1, p2.2.2.2.2.2.2.2.2.1, p2.2.2.2.2.2.2.2.2.2.1, p2.2.2.2.2.2.2.2.2.2.2.1, p2.2.2.2.2.2.2.2.2.2.2.2.1, p2.2.2.2.2.2.2.2.2.2.2.2.2.1, p2.2.2.2.2.2.2.2.2.2.2.2.2.2.1, p2.2.2.2.2.2.2.2.2.2.2.2.2.2.2.1, p2.2.2.2.2.2.2.2.2.2.2.2.2.2.2.2]) (enc := Value.int .i64) Aa h4)).q fun a F => ?_
       refine B5 F (Ae F Aa Aa Aa Aa) Aa (AC Aa) (Nz F Aa Aa).q fun a F => ?_
       refine B5 F (Ae F Aa Aa Aa Aa) Aa (AC Aa) (Cv F Aa Aa Aa).q fun a F => ?_
       refine qs F Aa (BM F Aa Aa Aa).q fun a F => ?_
       refine A9 fun w W => ?_
       refine Ac ?_
       exact ⟨_, H, F.ra Aa, W⟩
      have H := Dg (Fh hb) H
      rw [hb] at F
      clear hb
      iterate 3 refine Dc F (Bb F Aa Aa Aa Aa Aa) Aa Aa fun a F => ?_
      iterate 7 refine Dc F (HC F Aa Aa Aa Aa) Aa Aa fun a F => ?_
      refine Dc F (Bb F Aa Aa Aa Aa Aa) Aa Aa fun a F => ?_
      refine qs F Aa (Cv F Aa Aa Aa).q fun a F => ?_
      refine A9 fun w W => ?_
      refine Ac ?_
      exact ⟨_, H, F.ra Aa, W⟩
     have H := Dg (by rw [hb]; decide) H
     rw [hb] at F
     clear hb
     iterate 4 refine Dc F (Bb F Aa Aa Aa Aa Aa) Aa Aa fun a F => ?_
     refine qs F Aa (Cv F Aa Aa Aa).q fun a F => ?_
     refine qs F Aa (Am F Aa).q fun a F => ?_
     iterate 3 refine Dc F (Bb F Aa Aa Aa Aa Aa) Aa Aa fun a F => ?_
     iterate 7 refine Dc F (HC F Aa Aa Aa Aa) Aa Aa fun a F => ?_
     refine Dc F (Bb F Aa Aa Aa Aa Aa) Aa Aa fun a F => ?_
     refine qs F Aa (Cv F Aa Aa Aa).q fun a F => ?_
     refine A9 fun w W => ?_
     refine Ac ?_
     exact ⟨_, H, F.ra Aa, W⟩
    rintro a w ⟨x5, hj, F, W⟩
    have hj := AA hj
    subst hj
    have H := K4
    clear G4 K4
    refine D8 F Aa H (fun F H => ?_) fun F H => ?_
    ·
     refine vc tk 4 F W fun a w F W => ?_
     refine Aq (Ac ?_)
     exact ⟨_, H, F.ra Aa, W⟩
    refine AD (Aq (Ac ?_))
    exact ⟨_, H, F.ra Aa, W⟩
   rintro a w ⟨x4, hj, F, W⟩
   have hj := AA hj
   subst hj
   have H := K3
   clear G3 K3
   refine vc tk 4 F W fun a w F W => ?_
   refine Ac ?_
   exact ⟨_, H, F.ra Aa, W⟩
  refine AJ ?_
  iterate 2 refine A6 ?_
  refine AM (Ac ?_)
  have H := L2 _ H
  exact ⟨_, H, F.ra Aa, W⟩
 rintro a w ⟨x1, hj, F, W⟩
 have hj := AA hj
 subst hj
 have H := K1
 clear G1 K1
 refine vc tk 6 F W fun a w F W => ?_
 refine Ao ?_
 have H := AA H
 subst H
 refine AG (.inl Aa) F W Aa (Al F Aa) ?_
 exact ⟨rfl, W.done⟩
theorem Vw : Has Try.prog 83 := Ct Try.func83
abbrev Nr (a0 : Nat) (a1 : (Int × Int × Int × Int × Int × Int × Int × Int × Int × Int × Int × Int × Int × Int × Int × Int)) : List (Nat × List Value) := [(a0, [.int .u32 a1.1, .int .u32 a1.2.1, .int .u32 a1.2.2.1, .int .u32 a1.2.2.2.1, .int .u32 a1.2.2.2.2.1, .int .u32 a1.2.2.2.2.2.1, .int .u32 a1.2.2.2.2.2.2.1, .int .u32 a1.2.2.2.2.2.2.2.1, .int .u32 a1.2.2.2.2.2.2.2.2.1, .int .u32 a1.2.2.2.2.2.2.2.2.2.1, .int .u32 a1.2.2.2.2.2.2.2.2.2.2.1, .int .u32 a1.2.2.2.2.2.2.2.2.2.2.2.1, .int .u32 a1.2.2.2.2.2.2.2.2.2.2.2.2.1, .int .u32 a1.2.2.2.2.2.2.2.2.2.2.2.2.2.1, .int .u32 a1.2.2.2.2.2.2.2.2.2.2.2.2.2.2.1, .int .u32 a1.2.2.2.2.2.2.2.2.2.2.2.2.2.2.2])]
abbrev NT (a0 : Nat) (a1 : (Int × Int × Int × Int × Int × Int × Int × Int × Int × Int × Int × Int × Int × Int × Int × Int)) (a2 : Nat) (a3 : (Int × Int × Int × Int × Int × Int × Int × Int × Int × Int × Int × Int × Int × Int × Int × Int)) : List (Nat × List Value) := [(a0, [.int .i64 a1.1, .int .i64 a1.2.1, .int .i64 a1.2.2.1, .int .i64 a1.2.2.2.1, .int .i64 a1.2.2.2.2.1, .int .i64 a1.2.2.2.2.2.1, .int .i64 a1.2.2.2.2.2.2.1, .int .i64 a1.2.2.2.2.2.2.2.1, .int .i64 a1.2.2.2.2.2.2.2.2.1, .int .i64 a1.2.2.2.2.2.2.2.2.2.1, .int .i64 a1.2.2.2.2.2.2.2.2.2.2.1, .int .i64 a1.2.2.2.2.2.2.2.2.2.2.2.1, .int .i64 a1.2.2.2.2.2.2.2.2.2.2.2.2.1, .int .i64 a1.2.2.2.2.2.2.2.2.2.2.2.2.2.1, .int .i64 a1.2.2.2.2.2.2.2.2.2.2.2.2.2.2.1, .int .i64 a1.2.2.2.2.2.2.2.2.2.2.2.2.2.2.2]), (a2, [.int .u32 a3.1, .int .u32 a3.2.1, .int .u32 a3.2.2.1, .int .u32 a3.2.2.2.1, .int .u32 a3.2.2.2.2.1, .int .u32 a3.2.2.2.2.2.1, .int .u32 a3.2.2.2.2.2.2.1, .int .u32 a3.2.2.2.2.2.2.2.1, .int .u32 a3.2.2.2.2.2.2.2.2.1, .int .u32 a3.2.2.2.2.2.2.2.2.2.1, .int .u32 a3.2.2.2.2.2.2.2.2.2.2.1, .int .u32 a3.2.2.2.2.2.2.2.2.2.2.2.1, .int .u32 a3.2.2.2.2.2.2.2.2.2.2.2.2.1, .int .u32 a3.2.2.2.2.2.2.2.2.2.2.2.2.2.1, .int .u32 a3.2.2.2.2.2.2.2.2.2.2.2.2.2.2.1, .int .u32 a3.2.2.2.2.2.2.2.2.2.2.2.2.2.2.2])]
noncomputable def Dw (p0 : Int) (x2 : (Int × Int × Int × Int × Int × Int × Int × Int × Int × Int × Int × Int × Int × Int × Int × Int)) (x3 : Int) (x5 : (Int × Int × Int × Int × Int × Int × Int × Int × Int × Int × Int × Int × Int × Int × Int × Int)) : (List Int × Int) → Option ((List Int × Int) ⊕ (List Int))
  | (x9, x10) => (if x10 ≠ x3 then (FD x9 ([x10] : List Int)).bind fun x11 => (ix ([x2.1, x2.2.1, x2.2.2.1, x2.2.2.2.1, x2.2.2.2.2.1, x2.2.2.2.2.2.1, x2.2.2.2.2.2.2.1, x2.2.2.2.2.2.2.2.1, x2.2.2.2.2.2.2.2.2.1, x2.2.2.2.2.2.2.2.2.2.1, x2.2.2.2.2.2.2.2.2.2.2.1, x2.2.2.2.2.2.2.2.2.2.2.2.1, x2.2.2.2.2.2.2.2.2.2.2.2.2.1, x2.2.2.2.2.2.2.2.2.2.2.2.2.2.1, x2.2.2.2.2.2.2.2.2.2.2.2.2.2.2.1, x2.2.2.2.2.2.2.2.2.2.2.2.2.2.2.2] : List Int) x10).bind fun x12 => (CF p0 x12 x5).bind fun x13 => some (.inl (x11, x13)) else some (.inr x9))
noncomputable def D1 (p0 : Int) (p1 : List (Int × Int)) (x2 : (Int × Int × Int × Int × Int × Int × Int × Int × Int × Int × Int × Int × Int × Int × Int × Int)) : Int → Option (Int ⊕ (Unit ⊕ (List Int)))
  | x3 => (if x3 < p0 then EZ ((Ci p1).bind fun x4 => (CU p0 x4 x3).bind fun x5 => (ix ([x2.1, x2.2.1, x2.2.2.1, x2.2.2.2.1, x2.2.2.2.2.1, x2.2.2.2.2.2.1, x2.2.2.2.2.2.2.1, x2.2.2.2.2.2.2.2.1, x2.2.2.2.2.2.2.2.2.1, x2.2.2.2.2.2.2.2.2.2.1, x2.2.2.2.2.2.2.2.2.2.2.1, x2.2.2.2.2.2.2.2.2.2.2.2.1, x2.2.2.2.2.2.2.2.2.2.2.2.2.1, x2.2.2.2.2.2.2.2.2.2.2.2.2.2.1, x2.2.2.2.2.2.2.2.2.2.2.2.2.2.2.1, x2.2.2.2.2.2.2.2.2.2.2.2.2.2.2.2] : List Int) x3).bind fun x6 => (CF p0 x6 x5).bind fun x7 => (if x7 < 0 then some (.inl ()) else (An (Dw p0 x2 x3 x5) (([x3] : List Int), x7)).bind fun x8 => some (.inr (.inr (.inr x8))))) fun _ => some (.inl (A7 (x3 + 1))) else some (.inr (.inl ())))
noncomputable def Da (p0 : Int) (p1 : List (Int × Int)) : Option (List Int) := (En p0 p1).bind fun x1 => (if (!x1) = true then some ([] : List Int) else (CD p1).bind fun x2 => EZ (An (D1 p0 p1 x2) 0) fun _ => some ([] : List Int))
theorem MU (Y : Nat → Prop) (w0 : World) (v1 : Value) (p0 : Int) (p1 : List (Int × Int)) (r : List Int) (H : Da p0 p1 = some r) (h_v1 : Sl w0 (NX []) Fa v1 p1) :
    Calls Try.prog 63 #[.int .i64 p0, v1] w0 fun e w' => ∃ x : Value, e = .returned (x) ∧ Stw ⟨Y, [], w0⟩ [] [row (x) 3 (Rp.int .i64) r] w' := by
 refine enter Try.func63 Aa Try.ntmps63 Aa fun a F => ?_
 have W := Stw.start Y w0
 unfold Da at H
 refine vc tk 10 F W fun a w F W => ?_
 obtain ⟨x1, h1, H⟩ := Ad H
 refine ls F W Aa (AW (v := Value.bool x1) F VQ Aa (fun w W => LL any w (v1) p0 p1 _ h1 (CW (Ab h_v1) W))) fun a w F W => ?_
 refine Cc tk 3 F W fun a w F W => ?_
 refine D8 F Aa H (fun F H => ?_) fun F H => ?_
 ·
  refine vc tk 5 F W fun a w F W => ?_
  refine Ao (AN ?_)
  have H := AA H
  subst H
  refine AG (.inl Aa) F W Aa (Al F Aa) ?_
  have W := W.nilRow 3 (Rp.int .i64)
  exact ⟨(Value.slice none 0 0), Aa, W⟩
 refine Ie tk 5 F W fun a w F W => ?_
 obtain ⟨x2, h2, H⟩ := Ad H
 refine ls F W Aa (AW (v := Value.agg #[.int .u32 x2.1, .int .u32 x2.2.1, .int .u32 x2.2.2.1, .int .u32 x2.2.2.2.1, .int .u32 x2.2.2.2.2.1, .int .u32 x2.2.2.2.2.2.1, .int .u32 x2.2.2.2.2.2.2.1, .int .u32 x2.2.2.2.2.2.2.2.1, .int .u32 x2.2.2.2.2.2.2.2.2.1, .int .u32 x2.2.2.2.2.2.2.2.2.2.1, .int .u32 x2.2.2.2.2.2.2.2.2.2.2.1, .int .u32 x2.2.2.2.2.2.2.2.2.2.2.2.1, .int .u32 x2.2.2.2.2.2.2.2.2.2.2.2.2.1, .int .u32 x2.2.2.2.2.2.2.2.2.2.2.2.2.2.1, .int .u32 x2.2.2.2.2.2.2.2.2.2.2.2.2.2.2.1, .int .u32 x2.2.2.2.2.2.2.2.2.2.2.2.2.2.2.2]) F WK Aa (fun w W => I2 any w (v1) p1 _ h2 (CW (Ab h_v1) W))) fun a w F W => ?_
 refine B9 (cs := (Gu)) F W Aa QY Aa fun b1 a w F W => ?_
 refine F6 0 F W Aa Aa Aa Re Aa Aa Aa fun w W => ?_
 refine EF (Ac ?_)
 obtain ⟨o1, G1, K1, L1⟩ := L9 H
 refine Av (fun a w => some (Sum.inl ()) = some o1 ∧ Fr 52 [] [(4, .slice none 0 0)] a ∧ Stw ⟨Y, [], w0⟩ (Nr b1 x2) [] w) ?_ ?_
 ·
  have H := G1
  clear G1 K1
  refine vc tk 7 F W fun a w F W => ?_
  refine AP H (fun s a w => Fr 52 [] [(0, .int .i64 p0), (1, v1), (4, .slice none 0 0), (5, .pointer (some ⟨b1, 0, none⟩)), (17, .int .i64 p0), (18, .int .i64 s)] a ∧ Stw ⟨Y, [], w0⟩ (Nr b1 x2) [] w) ⟨F.ra Aa, W⟩ fun s o a w H L2 hR => ?_
  obtain ⟨x3, rfl⟩ : ∃ x, x = s := ⟨s, rfl⟩
  obtain ⟨F, W⟩ := hR
  have F : Fr 52 [] [(0, .int .i64 p0), (1, v1), (4, .slice none 0 0), (5, .pointer (some ⟨b1, 0, none⟩)), (17, .int .i64 p0), (18, .int .i64 x3)] a := F
  have W : Stw ⟨Y, [], w0⟩ (Nr b1 x2) [] w := W
  rw [D1] at H
  refine vc tk 6 F W fun a w F W => ?_
  refine A3 F Aa H (fun F H => ?_) fun F H => ?_
  ·
   refine AD (Ac ?_)
   obtain ⟨o3, G3, K3, L3⟩ := L9 H
   refine Av (fun a w => some (Sum.inl ()) = some o3 ∧ Fr 52 [] [(0, .int .i64 p0), (1, v1), (4, .slice none 0 0), (5, .pointer (some ⟨b1, 0, none⟩)), (17, .int .i64 p0), (18, .int .i64 x3)] a ∧ Stw ⟨Y, [], w0⟩ (Nr b1 x2) [] w) ?_ ?_
   ·
    have H := G3
    clear G3 K3
    refine vc tk 11 F W fun a w F W => ?_
    obtain ⟨x4, h3, H⟩ := Ad H
    refine ls F W Aa (AW (v := Value.agg #[.int .u32 x4.1, .int .u32 x4.2.1, .int .u32 x4.2.2.1, .int .u32 x4.2.2.2.1, .int .u32 x4.2.2.2.2.1, .int .u32 x4.2.2.2.2.2.1, .int .u32 x4.2.2.2.2.2.2.1, .int .u32 x4.2.2.2.2.2.2.2.1, .int .u32 x4.2.2.2.2.2.2.2.2.1, .int .u32 x4.2.2.2.2.2.2.2.2.2.1, .int .u32 x4.2.2.2.2.2.2.2.2.2.2.1, .int .u32 x4.2.2.2.2.2.2.2.2.2.2.2.1, .int .u32 x4.2.2.2.2.2.2.2.2.2.2.2.2.1, .int .u32 x4.2.2.2.2.2.2.2.2.2.2.2.2.2.1, .int .u32 x4.2.2.2.2.2.2.2.2.2.2.2.2.2.2.1, .int .u32 x4.2.2.2.2.2.2.2.2.2.2.2.2.2.2.2]) F Wf Aa (fun w W => Ii any w (v1) p1 _ h3 (CW (Ab h_v1) W))) fun a w F W => ?_
    refine ls F W Aa (Am F Aa).q fun a w F W => ?_
    obtain ⟨x5, h4, H⟩ := Ad H
    refine ls F W Aa (AW (v := Value.agg #[.int .i64 x5.1, .int .i64 x5.2.1, .int .i64 x5.2.2.1, .int .i64 x5.2.2.2.1, .int .i64 x5.2.2.2.2.1, .int .i64 x5.2.2.2.2.2.1, .int .i64 x5.2.2.2.2.2.2.1, .int .i64 x5.2.2.2.2.2.2.2.1, .int .i64 x5.2.2.2.2.2.2.2.2.1, .int .i64 x5.2.2.2.2.2.2.2.2.2.1, .int .i64 x5.2.2.2.2.2.2.2.2.2.2.1, .int .i64 x5.2.2.2.2.2.2.2.2.2.2.2.1, .int .i64 x5.2.2.2.2.2.2.2.2.2.2.2.2.1, .int .i64 x5.2.2.2.2.2.2.2.2.2.2.2.2.2.1, .int .i64 x5.2.2.2.2.2.2.2.2.2.2.2.2.2.2.1, .int .i64 x5.2.2.2.2.2.2.2.2.2.2.2.2.2.2.2]) F WO Aa (fun w W => Js any w p0 x4 x3 _ h4)) fun a w F W => ?_
    refine B9 (cs := (Fp)) F W Aa SS Aa fun b2 a w F W => ?_
    refine F6 0 F W Aa Aa Aa Qm Aa Aa Aa fun w W => ?_
    refine Cc tk 3 F W fun a w F W => ?_
    refine Cx W MO (by kernel_rfl) ?_
    iterate 2 refine qs F Aa (Am F Aa).q fun a F => ?_
    obtain ⟨x6, h5, H⟩ := Ad H
    refine qs F Aa (Dr (0 + (x3).toNat * 1) Kn F Aa Aa Aa h5 Aa).q fun a F => ?_
    refine qs F Aa (A4 (v := Value.int .u32 x6) 1 F Aa Aa NC (F9 (base := 0) (m := 16) (l := [x2.1, x2.2.1, x2.2.2.1, x2.2.2.2.1, x2.2.2.2.2.1, x2.2.2.2.2.2.1, x2.2.2.2.2.2.2.1, x2.2.2.2.2.2.2.2.1, x2.2.2.2.2.2.2.2.2.1, x2.2.2.2.2.2.2.2.2.2.1, x2.2.2.2.2.2.2.2.2.2.2.1, x2.2.2.2.2.2.2.2.2.2.2.2.1, x2.2.2.2.2.2.2.2.2.2.2.2.2.1, x2.2.2.2.2.2.2.2.2.2.2.2.2.2.1, x2.2.2.2.2.2.2.2.2.2.2.2.2.2.2.1, x2.2.2.2.2.2.2.2.2.2.2.2.2.2.2.2]) (enc := Value.int .u32) Aa h5)).q fun a F => ?_
    refine qs F Aa (A4 (v := Value.agg #[.int .i64 x5.1, .int .i64 x5.2.1, .int .i64 x5.2.2.1, .int .i64 x5.2.2.2.1, .int .i64 x5.2.2.2.2.1, .int .i64 x5.2.2.2.2.2.1, .int .i64 x5.2.2.2.2.2.2.1, .int .i64 x5.2.2.2.2.2.2.2.1, .int .i64 x5.2.2.2.2.2.2.2.2.1, .int .i64 x5.2.2.2.2.2.2.2.2.2.1, .int .i64 x5.2.2.2.2.2.2.2.2.2.2.1, .int .i64 x5.2.2.2.2.2.2.2.2.2.2.2.1, .int .i64 x5.2.2.2.2.2.2.2.2.2.2.2.2.1, .int .i64 x5.2.2.2.2.2.2.2.2.2.2.2.2.2.1, .int .i64 x5.2.2.2.2.2.2.2.2.2.2.2.2.2.2.1, .int .i64 x5.2.2.2.2.2.2.2.2.2.2.2.2.2.2.2]) 0 F Aa Aa Qm Aa).q fun a F => ?_
    obtain ⟨x7, h6, H⟩ := Ad H
    refine qs F Aa (AW (v := Value.int .i64 x7) F Vw Aa (fun w W => HW any w p0 x6 x5 _ h6)) fun a F => ?_
    refine qs F Aa (BR F Aa).q fun a F => ?_
    refine A9 fun w W => ?_
    refine vn tk 7 F W fun a w F W => ?_
    refine A3 F Aa H (fun F H => ?_) fun F H => ?_
    ·
     refine AJ (A6 (AM (Ac ?_)))
     have W := W.frontM (i := 1) Aa Aa
     have W := W.sub (M' := (Nr b1 x2)) (Z' := []) (List.Sublist.cons_cons _ (List.nil_sublist _)) (List.Sublist.refl _)
     exact ⟨H, F.ra Aa, W⟩
    refine Ie tk 5 F W fun a w F W => ?_
    refine CQ (z := Value.int .i64 0) (cs := [.int .i64 x3]) (Rp.int .i64) ([x3] : List Int) F W Aa HT Z3 Aa Aa Aa Aa Aa Aa (Fl.int.repL _ _ ([x3] : List Int)) fun v2 a w F W => ?_
    refine vl tk 2 F W fun a w F W => ?_
    refine Ac ?_
    obtain ⟨o4, G4, K4⟩ := Ad H
    refine Av (fun a w => ∃ x8 : List Int, ∃ v3 : Value, some (x8) = some o4 ∧ Fr 52 [] [(0, .int .i64 p0), (1, v1), (4, .slice none 0 0), (5, .pointer (some ⟨b1, 0, none⟩)), (9, v3), (17, .int .i64 p0), (18, .int .i64 x3)] a ∧ Stw ⟨Y, [], w0⟩ (NT b2 x5 b1 x2) [row v3 3 (Rp.int .i64) x8] w) ?_ ?_
    ·
     have H := G4
     clear G4 K4
     refine vc tk 7 F W fun a w F W => ?_
     have W := W.frontM (i := 1) Aa Aa
     have W := W.frontM (i := 1) Aa Aa
     refine AP H (fun s a w => ∃ v4 : Value, Fr 52 [] [(0, .int .i64 p0), (1, v1), (4, .slice none 0 0), (5, .pointer (some ⟨b1, 0, none⟩)), (6, .int .i64 x3), (7, .pointer (some ⟨b2, 0, none⟩)), (9, v4), (10, .int .i64 s.2), (17, .int .i64 p0), (18, .int .i64 x3)] a ∧ Stw ⟨Y, [], w0⟩ (NT b2 x5 b1 x2) [row v4 3 (Rp.int .i64) s.1] w) ⟨(v2), F.ra Aa, W⟩ fun s o a w H L5 hR => ?_
     obtain ⟨x9, x10⟩ := s
     obtain ⟨v4, F, W⟩ := hR
     have F : Fr 52 [] [(0, .int .i64 p0), (1, v1), (4, .slice none 0 0), (5, .pointer (some ⟨b1, 0, none⟩)), (6, .int .i64 x3), (7, .pointer (some ⟨b2, 0, none⟩)), (9, v4), (10, .int .i64 x10), (17, .int .i64 p0), (18, .int .i64 x3)] a := F
     have W : Stw ⟨Y, [], w0⟩ (NT b2 x5 b1 x2) [row v4 3 (Rp.int .i64) x9] w := W
     rw [Dw] at H
     refine vc tk 8 F W fun a w F W => ?_
     refine A3 F Aa H (fun F H => ?_) fun F H => ?_
     ·
      refine Ie tk 7 F W fun a w F W => ?_
      refine CQ (z := Value.int .i64 0) (cs := [.int .i64 x10]) (Rp.int .i64) ([x10] : List Int) F W Aa HT Z3 Aa Aa Aa Aa Aa Aa (Fl.int.repL _ _ ([x10] : List Int)) fun v5 a w F W => ?_
      obtain ⟨x11, h7, H⟩ := Ad H
      refine Cp (r := (Rp.int .i64)) (i := 1) F W Aa HT Aa Aa Aa Aa (Db W 0 Aa) h7 Aa fun v6 a w F W => ?_
      have W : Stw ⟨Y, [], w0⟩ (NT b2 x5 b1 x2) [row v6 3 (Rp.int .i64) x11, row v5 3 (Rp.int .i64) ([x10] : List Int)] w := W
      refine vl tk 2 F W fun a w F W => ?_
      refine Aq (Ac ?_)
      refine Cx W MO (by kernel_rfl) ?_
      iterate 2 refine qs F Aa (Am F Aa).q fun a F => ?_
      obtain ⟨x12, h8, H⟩ := Ad H
      refine qs F Aa (Dr (0 + (x10).toNat * 1) Kn F Aa Aa Aa h8 Aa).q fun a F => ?_
      refine qs F Aa (A4 (v := Value.int .u32 x12) 1 F Aa Aa NC (F9 (base := 0) (m := 16) (l := [x2.1, x2.2.1, x2.2.2.1, x2.2.2.2.1, x2.2.2.2.2.1, x2.2.2.2.2.2.1, x2.2.2.2.2.2.2.1, x2.2.2.2.2.2.2.2.1, x2.2.2.2.2.2.2.2.2.1, x2.2.2.2.2.2.2.2.2.2.1, x2.2.2.2.2.2.2.2.2.2.2.1, x2.2.2.2.2.2.2.2.2.2.2.2.1, x2.2.2.2.2.2.2.2.2.2.2.2.2.1, x2.2.2.2.2.2.2.2.2.2.2.2.2.2.1, x2.2.2.2.2.2.2.2.2.2.2.2.2.2.2.1, x2.2.2.2.2.2.2.2.2.2.2.2.2.2.2.2]) (enc := Value.int .u32) Aa h8)).q fun a F => ?_
      refine qs F Aa (A4 (v := Value.agg #[.int .i64 x5.1, .int .i64 x5.2.1, .int .i64 x5.2.2.1, .int .i64 x5.2.2.2.1, .int .i64 x5.2.2.2.2.1, .int .i64 x5.2.2.2.2.2.1, .int .i64 x5.2.2.2.2.2.2.1, .int .i64 x5.2.2.2.2.2.2.2.1, .int .i64 x5.2.2.2.2.2.2.2.2.1, .int .i64 x5.2.2.2.2.2.2.2.2.2.1, .int .i64 x5.2.2.2.2.2.2.2.2.2.2.1, .int .i64 x5.2.2.2.2.2.2.2.2.2.2.2.1, .int .i64 x5.2.2.2.2.2.2.2.2.2.2.2.2.1, .int .i64 x5.2.2.2.2.2.2.2.2.2.2.2.2.2.1, .int .i64 x5.2.2.2.2.2.2.2.2.2.2.2.2.2.2.1, .int .i64 x5.2.2.2.2.2.2.2.2.2.2.2.2.2.2.2]) 0 F Aa Aa Qm Aa).q fun a F => ?_
      obtain ⟨x13, h9, H⟩ := Ad H
      refine qs F Aa (AW (v := Value.int .i64 x13) F Vw Aa (fun w W => HW any w p0 x12 x5 _ h9)) fun a F => ?_
      refine qs F Aa (BR F Aa).q fun a F => ?_
      refine A9 fun w W => ?_
      refine Ac ?_
      have W := W.frontM (i := 1) Aa Aa
      have W := W.frontM (i := 1) Aa Aa
      have W := W.sub (M' := (NT b2 x5 b1 x2)) (Z' := [row v6 3 (Rp.int .i64) x11]) (List.Sublist.refl _) (List.Sublist.cons_cons _ (List.nil_sublist _))
      exact ⟨_, H, (v6), F.ra Aa, W⟩
     refine AJ ?_
     iterate 2 refine A6 ?_
     refine AM (Ac ?_)
     have W := W.frontM (i := 1) Aa Aa
     have W := W.frontM (i := 1) Aa Aa
     have H := L5 _ H
     exact ⟨_, (v4), H, F.ra Aa, W⟩
    rintro a w ⟨x8, v3, hj, F, W⟩
    have hj := AA hj
    subst hj
    have H := K4
    clear G4 K4
    refine vc tk 6 F W fun a w F W => ?_
    refine Ao (AR ?_)
    iterate 2 refine AN ?_
    refine AR (AN ?_)
    have H := L3 _ H
    have H := L2 _ H
    have H := L1 _ H
    have H := AA H
    subst H
    refine AG (.inl Aa) F W Aa (Al F Aa) ?_
    have W := W.sub (M' := []) (Z' := [row v3 3 (Rp.int .i64) x8]) (List.nil_sublist _) (List.Sublist.refl _)
    exact ⟨(v3), Aa, W⟩
   rintro a w ⟨hj, F, W⟩
   have H := K3 _ hj
   clear hj G3 K3 L3
   refine vc tk 4 F W fun a w F W => ?_
   refine Ac ?_
   exact ⟨_, H, F.ra Aa, W⟩
  refine AJ ?_
  iterate 2 refine A6 ?_
  refine AM (Ac ?_)
  have H := L2 _ H
  exact ⟨H, F.ra Aa, W⟩
 rintro a w ⟨hj, F, W⟩
 have H := K1 _ hj
 clear hj G1 K1 L1
 refine vc tk 5 F W fun a w F W => ?_
 refine Ao ?_
 have H := AA H
 subst H
 refine AG (.inl Aa) F W Aa (Al F Aa) ?_
 have W := W.nilRow 3 (Rp.int .i64)
 have W := W.sub (M' := []) (Z' := [row (Value.slice none 0 0) 3 (Rp.int .i64) ([])]) (List.nil_sublist _) (List.Sublist.refl _)
 exact ⟨(Value.slice none 0 0), Aa, W⟩
theorem Wn : Has Try.prog 63 := Ct Try.func63
noncomputable def Bo (p0 : (Int × (List (Int × Int × Int × Int × Int × Int)) × (List (Int × Int))) × List (List Int) × List (List Int) × ((List (Int × Int × Int × Int)) × (List (Int × Int × List Int)) × Int × Int × Int × Int)) (p3 : Int) (x5 : Int) (x9 : List Int) : ((List (Int × Int)) × Bool × Int) → Option (((List (Int × Int)) × Bool × Int) ⊕ ((List (Int × Int)) × Bool))
  | (x10, x11, x12) => (if x12 < (x9.length : Int) then ((ix x9 x12).bind fun x15 => (D2 p0.1 x5 x15).bind fun x16 => (if x16.2.2.2 = true then (FD x10 ([(x5, x16.1)] : List (Int × Int))).bind fun x17 => some (x17, x11) else (C2 p0.1 x5 x15).bind fun x18 => (if x18 ≠ p3 then some (x10, true) else some (x10, x11)))).bind fun (x13, x14) => some (.inl (x13, x14, A7 (x12 + 1))) else some (.inr (x10, x11)))
noncomputable def BO (p0 : (Int × (List (Int × Int × Int × Int × Int × Int)) × (List (Int × Int))) × List (List Int) × List (List Int) × ((List (Int × Int × Int × Int)) × (List (Int × Int × List Int)) × Int × Int × Int × Int)) (p1 : List (List (List Int))) (p3 : Int) : ((List (Int × Int)) × Bool × Int) → Option (((List (Int × Int)) × Bool × Int) ⊕ ((List (Int × Int)) × Bool))
  | (x3, x4, x5) => (if x5 < (p1.length : Int) then ((ix p1 x5).bind fun x8 => (ix x8 p3).bind fun x9 => An (Bo p0 p3 x5 x9) (x3, x4, 0)).bind fun (x6, x7) => some (.inl (x6, x7, A7 (x5 + 1))) else some (.inr (x3, x4)))
noncomputable def Cb (p0 : (Int × (List (Int × Int × Int × Int × Int × Int)) × (List (Int × Int))) × List (List Int) × List (List Int) × ((List (Int × Int × Int × Int)) × (List (Int × Int × List Int)) × Int × Int × Int × Int)) (p1 : List (List (List Int))) (p2 : Int) (p3 : Int) : Option (List (Int × Int × Int)) := (An (BO p0 p1 p3) ([], false, 0)).bind fun (x1, x2) => (if x2 = true then (FD ([] : List (Int × Int × Int)) ([(5, p2, p3)] : List (Int × Int × Int))).bind fun x20 => some x20 else some ([])).bind fun x19 => ((Da p0.1.1 x1).bind fun x22 => (if 0 < (x22.length : Int) then (FD x19 ([(6, p2, p3)] : List (Int × Int × Int))).bind fun x23 => some x23 else some x19)).bind fun x21 => some x21
theorem H7 (Y : Nat → Prop) (w0 : World) (v1 : Value) (v2 : Value) (v3 : Value) (v4 : Value) (v5 : Value) (v6 : Value) (v7 : Value) (p0 : (Int × (List (Int × Int × Int × Int × Int × Int)) × (List (Int × Int))) × List (List Int) × List (List Int) × ((List (Int × Int × Int × Int)) × (List (Int × Int × List Int)) × Int × Int × Int × Int)) (p1 : List (List (List Int))) (p2 : Int) (p3 : Int) (r : (List (Int × Int × Int))) (H : Cb p0 p1 p2 p3 = some r) (h_v1 : Sl w0 (NX []) Gn v1 p0.1.2.1) (h_v2 : Sl w0 (NX []) GE v2 p0.1.2.2) (h_v3 : Sl w0 (NX []) (Rp.slice (Rp.int .i64)) v3 p0.2.1) (h_v4 : Sl w0 (NX []) (Rp.slice (Rp.int .i64)) v4 p0.2.2.1) (h_v5 : Sl w0 (NX []) Hg v5 p0.2.2.2.1) (h_v6 : Sl w0 (NX []) Jw v6 p0.2.2.2.2.1) (h_v7 : Sl w0 (NX []) (Rp.slice (Rp.slice (Rp.int .i64))) v7 p1) :
    Calls Try.prog 40 #[.agg #[.int .i64 p0.1.1, v1, v2, v3, v4, v5, v6, .int .i64 p0.2.2.2.2.2.1, .int .i64 p0.2.2.2.2.2.2.1, .int .i64 p0.2.2.2.2.2.2.2.1, .int .i64 p0.2.2.2.2.2.2.2.2], v7, .int .i64 p2, .int .i64 p3] w0 fun e w' => ∃ x : Value, e = .returned (x) ∧ Stw ⟨Y, [], w0⟩ [] [row (x) 58 Bw r] w' := by
 refine enter Try.func40 Aa Try.ntmps40 Aa fun a F => ?_
 have W := Stw.start Y w0
 obtain ⟨v8, h1, h_v3⟩ := h_v3.ex Bn
 obtain ⟨v9, h2, h_v4⟩ := h_v4.ex Bn
 obtain ⟨v10, h3, h_v6⟩ := h_v6.ex Fj
 obtain ⟨v11, h4, h_v7⟩ := h_v7.ex T1
 unfold Cb at H
 refine vc tk 2 F W fun a w F W => ?_
 refine Cq (cs := (Cs p0 v1 v2 v3 v4 v5 v6)) F W Aa Aa Aa fun b1 a w F W => ?_
 refine Cc tk 18 F W fun a w F W => ?_
 obtain ⟨o1, G1, K1⟩ := Ad H
 refine Av (fun a w => ∃ x1 : List (Int × Int), ∃ x2 : Bool, ∃ v12 : Value, some ((x1, x2)) = some o1 ∧ Fr 83 [] [(2, .int .i64 p2), (3, .int .i64 p3), (4, .pointer (some ⟨b1, 0, none⟩)), (8, .slice none 0 0), (9, .slice none 0 0), (10, v12), (11, .bool x2)] a ∧ Stw ⟨Y, [], w0⟩ (BP b1 p0 v1 v2 v3 v4 v5 v6) [row v12 112 Fa x1] w) ?_ ?_
 ·
  have H := G1
  clear G1 K1
  refine vc tk 3 F W fun a w F W => ?_
  refine ls F W Aa (A0 (r := (Rp.slice (Rp.slice (Rp.int .i64)))) (l := p1) T8 Aa F Aa (Ak T1 h4 (Ab h_v7))).q fun a w F W => ?_
  refine Cc tk 4 F W fun a w F W => ?_
  have W := W.nilRow 112 Fa
  refine AP H (fun s a w => ∃ v13 : Value, Fr 83 [] [(2, .int .i64 p2), (3, .int .i64 p3), (4, .pointer (some ⟨b1, 0, none⟩)), (8, .slice none 0 0), (9, .slice none 0 0), (10, v13), (11, .bool s.2.1), (20, v7), (21, .int .i64 (p1.length : Int)), (22, .int .i64 s.2.2)] a ∧ Stw ⟨Y, [], w0⟩ (BP b1 p0 v1 v2 v3 v4 v5 v6) [row v13 112 Fa s.1] w) ⟨(Value.slice none 0 0), F.ra Aa, W⟩ fun s o a w H L2 hR => ?_
  obtain ⟨x3, x4, x5⟩ := s
  obtain ⟨v13, F, W⟩ := hR
  have F : Fr 83 [] [(2, .int .i64 p2), (3, .int .i64 p3), (4, .pointer (some ⟨b1, 0, none⟩)), (8, .slice none 0 0), (9, .slice none 0 0), (10, v13), (11, .bool x4), (20, v7), (21, .int .i64 (p1.length : Int)), (22, .int .i64 x5)] a := F
  have W : Stw ⟨Y, [], w0⟩ (BP b1 p0 v1 v2 v3 v4 v5 v6) [row v13 112 Fa x3] w := W
  rw [BO] at H
  refine vc tk 6 F W fun a w F W => ?_
  refine A3 F Aa H (fun F H => ?_) fun F H => ?_
  ·
   refine AD (Ac ?_)
   obtain ⟨o3, G3, K3⟩ := Ad H
   refine Av (fun a w => ∃ x6 : List (Int × Int), ∃ x7 : Bool, ∃ v14 : Value, some ((x6, x7)) = some o3 ∧ Fr 83 [] [(2, .int .i64 p2), (3, .int .i64 p3), (4, .pointer (some ⟨b1, 0, none⟩)), (8, .slice none 0 0), (9, .slice none 0 0), (10, v14), (11, .bool x7), (20, v7), (21, .int .i64 (p1.length : Int)), (22, .int .i64 x5)] a ∧ Stw ⟨Y, [], w0⟩ (BP b1 p0 v1 v2 v3 v4 v5 v6) [row v14 112 Fa x6] w) ?_ ?_
   ·
    have H := G3
    clear G3 K3
    refine vc tk 4 F W fun a w F W => ?_
    obtain ⟨x8, h5, H⟩ := Ad H
    obtain ⟨v15, h6, h7⟩ := CE h4 h5
    have h8 : SO v15 = [(v15.1)] := congrArg (fun q : List (List Int) => ([(v15.1)] : List Value)) h7
    refine ls F W Aa (Aw (r := (Rp.vsl (Rp.vsl (Rp.int .i64)))) TH F Aa Aa (Ab h_v7) h6).q fun a w F W => ?_
    refine ls F W Aa (Ai (y := (v15.1)) (j := 0) (i := x5) (enc := SO) F Aa Aa (Ab h_v7) h6 U0 Uj (by rw [h8]; rfl)).q fun a w F W => ?_
    refine Cc tk 8 F W fun a w F W => ?_
    obtain ⟨x9, h9, H⟩ := Ad H
    obtain ⟨v16, h10, h11⟩ := CE (congrArg (fun q : List (List Int) => q) h7) h9
    have h12 : Em v16 = [(v16.1)] := congrArg (fun q : List Int => ([(v16.1)] : List Value)) h11
    refine ls F W Aa (Aw (r := (Rp.vsl (Rp.int .i64))) T0 F Aa Aa (BE (Ab h_v7) h6 Cd.here Aa) h10).q fun a w F W => ?_
    refine ls F W Aa (Ai (y := (v16.1)) (j := 0) (i := p3) (enc := Em) F Aa Aa (BE (Ab h_v7) h6 Cd.here Aa) h10 Ik Kj (by rw [h12]; rfl)).q fun a w F W => ?_
    refine ls F W Aa (A0 (r := (Rp.int .i64)) (l := x9) GS Aa F Aa (BE (BE (Ab h_v7) h6 Cd.here Aa) h10 Cd.here (congrArg (fun q : List Int => q) h11))).q fun a w F W => ?_
    refine Cc tk 4 F W fun a w F W => ?_
    refine AP H (fun s a w => ∃ v17 : Value, Fr 83 [] [(2, .int .i64 p2), (3, .int .i64 p3), (4, .pointer (some ⟨b1, 0, none⟩)), (8, .slice none 0 0), (9, .slice none 0 0), (10, v17), (11, .bool s.2.1), (12, .int .i64 x5), (20, v7), (21, .int .i64 (p1.length : Int)), (22, .int .i64 x5), (30, (v16.1)), (31, .int .i64 (x9.length : Int)), (32, .int .i64 s.2.2)] a ∧ Stw ⟨Y, [], w0⟩ (BP b1 p0 v1 v2 v3 v4 v5 v6) [row v17 112 Fa s.1] w) ⟨(v13), F.ra Aa, W⟩ fun s o a w H L4 hR => ?_
    obtain ⟨x10, x11, x12⟩ := s
    obtain ⟨v17, F, W⟩ := hR
    have F : Fr 83 [] [(2, .int .i64 p2), (3, .int .i64 p3), (4, .pointer (some ⟨b1, 0, none⟩)), (8, .slice none 0 0), (9, .slice none 0 0), (10, v17), (11, .bool x11), (12, .int .i64 x5), (20, v7), (21, .int .i64 (p1.length : Int)), (22, .int .i64 x5), (30, (v16.1)), (31, .int .i64 (x9.length : Int)), (32, .int .i64 x12)] a := F
    have W : Stw ⟨Y, [], w0⟩ (BP b1 p0 v1 v2 v3 v4 v5 v6) [row v17 112 Fa x10] w := W
    rw [Bo] at H
    refine vc tk 6 F W fun a w F W => ?_
    refine A3 F Aa H (fun F H => ?_) fun F H => ?_
    ·
     refine AD (Ac ?_)
     obtain ⟨o5, G5, K5⟩ := Ad H
     refine Av (fun a w => ∃ x13 : List (Int × Int), ∃ x14 : Bool, ∃ v18 : Value, some ((x13, x14)) = some o5 ∧ Fr 83 [] [(2, .int .i64 p2), (3, .int .i64 p3), (4, .pointer (some ⟨b1, 0, none⟩)), (8, .slice none 0 0), (9, .slice none 0 0), (10, v18), (11, .bool x14), (12, .int .i64 x5), (20, v7), (21, .int .i64 (p1.length : Int)), (22, .int .i64 x5), (30, (v16.1)), (31, .int .i64 (x9.length : Int)), (32, .int .i64 x12)] a ∧ Stw ⟨Y, [], w0⟩ (BP b1 p0 v1 v2 v3 v4 v5 v6) [row v18 112 Fa x13] w) ?_ ?_
     ·
      have H := G5
      clear G5 K5
      refine vc tk 3 F W fun a w F W => ?_
      obtain ⟨x15, h13, H⟩ := Ad H
      refine ls F W Aa (Aw (r := (Rp.int .i64)) HT F Aa Aa (BE (BE (Ab h_v7) h6 Cd.here Aa) h10 Cd.here (congrArg (fun q : List Int => q) h11)) h13).q fun a w F W => ?_
      refine ls F W Aa (Ai (y := Value.int .i64 x15) (j := 0) (i := x12) F Aa Aa (BE (BE (Ab h_v7) h6 Cd.here Aa) h10 Cd.here (congrArg (fun q : List Int => q) h11)) h13 Fl.int.to T3 Aa).q fun a w F W => ?_
      refine JK tk 9 [0] F W (ai fun a w F W => ?_)
      obtain ⟨x16, h14, H⟩ := Ad H
      refine ls F W Aa (AW (v := Value.tuple #[.int .i64 x16.1, .int .i64 x16.2.1, .int .i64 x16.2.2.1, .bool x16.2.2.2]) F Vp Aa (fun w W => Kq any w (v1) (v2) p0.1 x5 x15 _ h14 (CW (Ab h_v1) W) (CW (Ab h_v2) W))) fun a w F W => ?_
      refine ls F W Aa (Am F Aa).q fun a w F W => ?_
      refine ls F W Aa (CC (v := Value.int .i64 x16.1) F Aa Aa).q fun a w F W => ?_
      refine ls F W Aa (CC (v := Value.int .i64 x16.2.1) F Aa Aa).q fun a w F W => ?_
      refine ls F W Aa (CC (v := Value.int .i64 x16.2.2.1) F Aa Aa).q fun a w F W => ?_
      refine ls F W Aa (CC (v := Value.bool x16.2.2.2) F Aa Aa).q fun a w F W => ?_
      refine Cc tk 11 F W fun a w F W => ?_
      refine GZ F Aa (fun hb => ?_) fun hb => ?_
      ·
       have H := Di hb H
       rw [hb] at F
       clear hb
       refine vc tk 4 F W fun a w F W => ?_
       refine ls F W Aa (B1 (v := Value.agg #[.int .i64 x5, .int .i64 x16.1]) US F Aa Aa Aa).q fun a w F W => ?_
       refine CQ (z := Value.agg #[.int .i64 0, .int .i64 0]) (cs := [.int .i64 x5, .int .i64 x16.1]) Fa ([(x5, x16.1)] : List (Int × Int)) F W Aa Q9 Rn Aa Aa Aa Aa Aa Aa (RK.repL _ _ ([(x5, x16.1)] : List (Int × Int))) fun v19 a w F W => ?_
       obtain ⟨x17, h15, H⟩ := Ad H
       refine Cp (r := Fa) (i := 1) F W Aa Q9 Aa Aa Aa Aa (Db W 0 Aa) h15 Aa fun v20 a w F W => ?_
       have W : Stw ⟨Y, [], w0⟩ (BP b1 p0 v1 v2 v3 v4 v5 v6) [row v20 112 Fa x17, row v19 112 Fa ([(x5, x16.1)] : List (Int × Int))] w := W
       refine vl tk 2 F W fun a w F W => ?_
       refine Aq (Ac ?_)
       have W := W.sub (M' := (BP b1 p0 v1 v2 v3 v4 v5 v6)) (Z' := [row v20 112 Fa x17]) (List.Sublist.refl _) (List.Sublist.cons_cons _ (List.nil_sublist _))
       exact ⟨_, _, (v20), H, F.ra Aa, W⟩
      have H := Dg (by rw [hb]; decide) H
      rw [hb] at F
      clear hb
      refine Ha tk 6 [0] F W (ai fun a w F W => ?_)
      obtain ⟨x18, h16, H⟩ := Ad H
      refine ls F W Aa (AW (v := Value.int .i64 x18) F Vs Aa (fun w W => IX any w (v1) (v2) p0.1 x5 x15 _ h16 (CW (Ab h_v1) W) (CW (Ab h_v2) W))) fun a w F W => ?_
      refine Cc tk 4 F W fun a w F W => ?_
      refine A3 F Aa H (fun F H => ?_) fun F H => ?_
      ·
       refine vc tk 3 F W fun a w F W => ?_
       refine Aq (Ac ?_)
       exact ⟨_, _, (v17), H, F.ra Aa, W⟩
      refine AD (Aq (Ac ?_))
      exact ⟨_, _, (v17), H, F.ra Aa, W⟩
     rintro a w ⟨x13, x14, v18, hj, F, W⟩
     have hj := AA hj
     subst hj
     have H := K5
     clear G5 K5
     refine vc tk 4 F W fun a w F W => ?_
     refine Ac ?_
     exact ⟨_, H, (v18), F.ra Aa, W⟩
    refine AJ ?_
    iterate 2 refine A6 ?_
    refine AM (Aq (Ac ?_))
    have H := L4 _ H
    exact ⟨_, _, (v17), H, F.ra Aa, W⟩
   rintro a w ⟨x6, x7, v14, hj, F, W⟩
   have hj := AA hj
   subst hj
   have H := K3
   clear G3 K3
   refine vc tk 4 F W fun a w F W => ?_
   refine Ac ?_
   exact ⟨_, H, (v14), F.ra Aa, W⟩
  refine AJ ?_
  iterate 2 refine A6 ?_
  refine AM (Ac ?_)
  have H := L2 _ H
  exact ⟨_, _, (v13), H, F.ra Aa, W⟩
 rintro a w ⟨x1, x2, v12, hj, F, W⟩
 have hj := AA hj
 subst hj
 have H := K1
 clear G1 K1
 obtain ⟨o6, G6, K6⟩ := Ad H
 refine Av (fun a w => ∃ x19 : List (Int × Int × Int), ∃ v21 : Value, some (x19) = some o6 ∧ Fr 83 [] [(2, .int .i64 p2), (3, .int .i64 p3), (4, .pointer (some ⟨b1, 0, none⟩)), (8, .slice none 0 0), (9, v21), (10, v12)] a ∧ Stw ⟨Y, [], w0⟩ (BP b1 p0 v1 v2 v3 v4 v5 v6) [row v21 58 Bw x19, row v12 112 Fa x1] w) ?_ ?_
 ·
  have H := G6
  clear G6 K6
  refine vc tk 5 F W fun a w F W => ?_
  refine GZ F Aa (fun hb => ?_) fun hb => ?_
  ·
   have H := Di hb H
   rw [hb] at F
   clear hb
   refine vc tk 4 F W fun a w F W => ?_
   refine ls F W Aa (B1 (v := Value.agg #[.int .i64 5, .int .i64 p2, .int .i64 p3]) Ts F Aa Aa Aa).q fun a w F W => ?_
   refine CQ (z := Value.agg #[.int .i64 0, .int .i64 0, .int .i64 0]) (cs := [.int .i64 5, .int .i64 p2, .int .i64 p3]) Bw ([(5, p2, p3)] : List (Int × Int × Int)) F W Aa Nm Tb Aa Aa Aa Aa Aa Aa (SA.repL _ _ ([(5, p2, p3)] : List (Int × Int × Int))) fun v22 a w F W => ?_
   have W := W.nilRow 58 Bw
   obtain ⟨x20, h17, H⟩ := Ad H
   refine Cp (r := Bw) (i := 0) F W Aa Nm Aa Aa Aa Aa (Db W 1 Aa) h17 Aa fun v23 a w F W => ?_
   have W : Stw ⟨Y, [], w0⟩ (BP b1 p0 v1 v2 v3 v4 v5 v6) [row v23 58 Bw x20, row v22 58 Bw ([(5, p2, p3)] : List (Int × Int × Int)), row v12 112 Fa x1] w := W
   refine vl tk 2 F W fun a w F W => ?_
   refine Ac ?_
   have W := W.frontZ (i := 2) Aa Aa
   have W := W.frontZ (i := 1) Aa Aa
   have W := W.sub (M' := (BP b1 p0 v1 v2 v3 v4 v5 v6)) (Z' := [row v23 58 Bw x20, row v12 112 Fa x1]) (List.Sublist.refl _) (List.Sublist.cons_cons _ (List.Sublist.cons_cons _ (List.nil_sublist _)))
   exact ⟨_, (v23), H, F.ra Aa, W⟩
  have H := Dg (by rw [hb]; decide) H
  rw [hb] at F
  clear hb
  refine AD (Ac ?_)
  have W := W.nilRow 58 Bw
  have W := W.frontZ (i := 1) Aa Aa
  have W := W.frontZ (i := 1) Aa Aa
  exact ⟨_, (Value.slice none 0 0), H, F.ra Aa, W⟩
 rintro a w ⟨x19, v21, hj, F, W⟩
 have hj := AA hj
 subst hj
 have H := K6
 clear G6 K6
 obtain ⟨o7, G7, K7⟩ := Ad H
 refine Av (fun a w => ∃ x21 : List (Int × Int × Int), ∃ v24 : Value, some (x21) = some o7 ∧ Fr 83 [] [(8, .slice none 0 0), (9, v24)] a ∧ Stw ⟨Y, [], w0⟩ (BP b1 p0 v1 v2 v3 v4 v5 v6) [row v24 58 Bw x21] w) ?_ ?_
 ·
  have H := G7
  clear G7 K7
  refine Ha tk 6 [0] F W (ai fun a w F W => ?_)
  obtain ⟨x22, h18, H⟩ := Ad H
  refine CJ (Ml := []) (Zl := []) (β := Value) (rv := fun x => x) (MM := fun x => []) (ZZ := fun x => [row x 3 (Rp.int .i64) x22]) F W Wn Aa Aa (fun hL => MU _ w (v12) p0.1.1 x1 _ h18 ((CY 1 Aa) w W).nx) fun x a w F W => ?_
  obtain ⟨v25, rfl⟩ : ∃ y, y = x := ⟨x, rfl⟩
  have W : Stw ⟨Y, [], w0⟩ (BP b1 p0 v1 v2 v3 v4 v5 v6) [row v25 3 (Rp.int .i64) x22, row v21 58 Bw x19, row v12 112 Fa x1] w := W
  refine ls F W Aa (A0 (r := (Rp.int .i64)) (l := x22) GS Aa F Aa (CY 0 Aa)).q fun a w F W => ?_
  refine Cc tk 3 F W fun a w F W => ?_
  refine A3 F Aa H (fun F H => ?_) fun F H => ?_
  ·
   refine vc tk 4 F W fun a w F W => ?_
   refine ls F W Aa (B1 (v := Value.agg #[.int .i64 6, .int .i64 p2, .int .i64 p3]) Ts F Aa Aa Aa).q fun a w F W => ?_
   refine CQ (z := Value.agg #[.int .i64 0, .int .i64 0, .int .i64 0]) (cs := [.int .i64 6, .int .i64 p2, .int .i64 p3]) Bw ([(6, p2, p3)] : List (Int × Int × Int)) F W Aa Nm Tb Aa Aa Aa Aa Aa Aa (SA.repL _ _ ([(6, p2, p3)] : List (Int × Int × Int))) fun v26 a w F W => ?_
   obtain ⟨x23, h19, H⟩ := Ad H
   refine Cp (r := Bw) (i := 2) F W Aa Nm Aa Aa Aa Aa (Db W 0 Aa) h19 Aa fun v27 a w F W => ?_
   have W : Stw ⟨Y, [], w0⟩ (BP b1 p0 v1 v2 v3 v4 v5 v6) [row v27 58 Bw x23, row v26 58 Bw ([(6, p2, p3)] : List (Int × Int × Int)), row v25 3 (Rp.int .i64) x22, row v12 112 Fa x1] w := W
   refine vl tk 2 F W fun a w F W => ?_
   refine Ac ?_
   have W := W.sub (M' := (BP b1 p0 v1 v2 v3 v4 v5 v6)) (Z' := [row v27 58 Bw x23]) (List.Sublist.refl _) (List.Sublist.cons_cons _ (List.nil_sublist _))
   exact ⟨_, (v27), H, F.ra Aa, W⟩
  refine AD (Ac ?_)
  have W := W.frontZ (i := 1) Aa Aa
  have W := W.sub (M' := (BP b1 p0 v1 v2 v3 v4 v5 v6)) (Z' := [row v21 58 Bw x19]) (List.Sublist.refl _) (List.Sublist.cons_cons _ (List.nil_sublist _))
  exact ⟨_, (v21), H, F.ra Aa, W⟩
 rintro a w ⟨x21, v24, hj, F, W⟩
 have hj := AA hj
 subst hj
 have H := K7
 clear G7 K7
 refine vc tk 6 F W fun a w F W => ?_
 refine Ao ?_
 have H := AA H
 subst H
 refine AG (.inl Aa) F W Aa (Al F Aa) ?_
 have W := W.sub (M' := []) (Z' := [row v24 58 Bw x21]) (List.nil_sublist _) (List.Sublist.refl _)
 exact ⟨(v24), Aa, W⟩
end Go.Proofs.Ythhoflfhegfmcaa
