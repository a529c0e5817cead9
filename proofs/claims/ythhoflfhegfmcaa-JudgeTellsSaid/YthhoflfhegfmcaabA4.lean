/- The functions of layer 25, HU. Conditions: none. -/
import Derived.Test.YthhoflfhegfmcaabA3
namespace Go.Proofs.Ythhoflfhegfmcaa
open Go Go.RowKit
set_option linter.unusedVariables false
set_option linter.unusedSimpArgs false
set_option maxRecDepth 20000
set_option maxHeartbeats 1600000
theorem W1 : Has Try.prog 22 := BS Try.func22
theorem Xz : Bt Try.prog 65 [.int .i64 0, .int .i64 0, .slice none 0 0] [(0, 1), (1, 1), (2, 1)] := ⟨⟨.agg #[.int .i64 0, .int .i64 0, .slice none 0 0], by kernel_rfl, rfl⟩, ⟨_, Uo, fun w => by kernel_rfl⟩⟩
abbrev Rw  : List Value := [.slice none 0 0, .slice none 0 0, .int .i64 0, .int .i64 0, .int .i64 0, .int .i64 0]
abbrev Vp (a0 : Nat) (a1 : Value) (a2 : (List (Int × Int × Int × Int)) × (List (Int × Int × List Int)) × Int × Int × Int × Int) (a3 : Nat) (a4 : Nat) (a5 : Value) (a6 : Value) : List (Nat × List Value) := [(a0, [a1, .slice none 0 0, .int .i64 a2.2.2.1, .int .i64 a2.2.2.2.1, .int .i64 a2.2.2.2.2.1, .int .i64 a2.2.2.2.2.2]), (a3, [.slice none 0 0, .slice none 0 0, .int .i64 0, .int .i64 0, .int .i64 0, .int .i64 0]), (a4, [a5, a6, .int .i64 a2.2.2.1, .int .i64 a2.2.2.2.1, .int .i64 a2.2.2.2.2.1, .int .i64 a2.2.2.2.2.2])]
abbrev U8 (a0 : Nat) (a1 : Nat) (a2 : Nat) (a3 : Value) (a4 : Value) (a5 : (List (Int × Int × Int × Int)) × (List (Int × Int × List Int)) × Int × Int × Int × Int) : List (Nat × List Value) := [(a0, [.slice none 0 0, .slice none 0 0, .int .i64 0, .int .i64 0, .int .i64 0, .int .i64 0]), (a1, [.slice none 0 0, .slice none 0 0, .int .i64 0, .int .i64 0, .int .i64 0, .int .i64 0]), (a2, [a3, a4, .int .i64 a5.2.2.1, .int .i64 a5.2.2.2.1, .int .i64 a5.2.2.2.2.1, .int .i64 a5.2.2.2.2.2])]
abbrev Ni (a0 : Nat) (a1 : Value) (a2 : Value) (a3 : (List (Int × Int × Int × Int)) × (List (Int × Int × List Int)) × Int × Int × Int × Int) (a4 : Nat) (a5 : Nat) (a6 : Value) (a7 : Value) : List (Nat × List Value) := [(a0, [a1, a2, .int .i64 a3.2.2.1, .int .i64 a3.2.2.2.1, .int .i64 a3.2.2.2.2.1, .int .i64 a3.2.2.2.2.2]), (a4, [.slice none 0 0, .slice none 0 0, .int .i64 0, .int .i64 0, .int .i64 0, .int .i64 0]), (a5, [a6, a7, .int .i64 a3.2.2.1, .int .i64 a3.2.2.2.1, .int .i64 a3.2.2.2.2.1, .int .i64 a3.2.2.2.2.2])]
noncomputable def Gj (p0 : (List (Int × Int × Int × Int)) × (List (Int × Int × List Int)) × Int × Int × Int × Int) : (Int × (List (Int × Int × List Int))) → Option ((Int × (List (Int × Int × List Int))) ⊕ (List (Int × Int × List Int)))
  | (x3, x4) => (if x3 < (p0.2.1.length : Int) then (ix p0.2.1 x3).bind fun x5 => (ix p0.2.1 x3).bind fun x6 => (ix p0.2.1 x3).bind fun x7 => (Fo x4 ([(x5.1, x6.2.1, x7.2.2)] : List (Int × Int × List Int))).bind fun x8 => some (.inl (A3 (x3 + 1), x8)) else some (.inr x4))
noncomputable def Jy (p0 : (List (Int × Int × Int × Int)) × (List (Int × Int × List Int)) × Int × Int × Int × Int) : Option ((List (Int × Int × Int × Int)) × (List (Int × Int × List Int)) × Int × Int × Int × Int) := (KE p0.1).bind fun x1 => (Au (Gj p0) (0, [])).bind fun x2 => some (x1, x2, p0.2.2.1, p0.2.2.2.1, p0.2.2.2.2.1, p0.2.2.2.2.2)
theorem Po (Y : Nat → Prop) (w0 : World) (v1 : Value) (v2 : Value) (p0 : (List (Int × Int × Int × Int)) × (List (Int × Int × List Int)) × Int × Int × Int × Int) (r : ((List (Int × Int × Int × Int)) × (List (Int × Int × List Int)) × Int × Int × Int × Int)) (H : Jy p0 = some r) (h_v1 : Sl w0 (NX []) I6 v1 p0.1) (s_v2 : Sl w0 Y MK v2 p0.2.1) :
    Calls Try.prog 9 #[.agg #[v1, v2, .int .i64 p0.2.2.1, .int .i64 p0.2.2.2.1, .int .i64 p0.2.2.2.2.1, .int .i64 p0.2.2.2.2.2]] w0 fun e w' => ∃ x : Value × Value, e = .returned (.agg #[x.1, x.2, .int .i64 r.2.2.1, .int .i64 r.2.2.2.1, .int .i64 r.2.2.2.2.1, .int .i64 r.2.2.2.2.2]) ∧ Stw ⟨Y, [], w0⟩ [] [row (x.1) 78 HV r.1, row (x.2) 65 Kf r.2.1] w' := by
 refine enter Try.func9 Aa Try.ntmps9 Aa fun a F => ?_
 have W := Stw.start Y w0
 obtain ⟨v3, h1, s_v2⟩ := s_v2.ex Fp
 have h_v2 := W.nx s_v2
 unfold Jy at H
 refine vc tk 2 F W fun a w F W => ?_
 refine Bq (cs := [v1, v2, .int .i64 p0.2.2.1, .int .i64 p0.2.2.2.1, .int .i64 p0.2.2.2.2.1, .int .i64 p0.2.2.2.2.2]) F W Aa Aa Aa fun b1 a w F W => ?_
 refine BU (cs := (Rw)) F W Aa Wq Aa fun b2 a w F W => ?_
 refine Bz tk 3 F W fun a w F W => ?_
 obtain ⟨x1, h2, H⟩ := Ae H
 refine TQ (fun a w => ∃ b3 : Nat, ∃ v4 : Value, Fr 49 [] [(0, .agg #[v1, v2, .int .i64 p0.2.2.1, .int .i64 p0.2.2.2.1, .int .i64 p0.2.2.2.2.1, .int .i64 p0.2.2.2.2.2]), (1, .pointer (some ⟨b1, 0, none⟩)), (2, .pointer (some ⟨b2, 0, none⟩)), (3, .pointer (some ⟨b3, 0, none⟩)), (5, .pointer (some ⟨b1, 0, none⟩)), (6, v1), (7, v4), (8, .pointer (some ⟨b1, 2, none⟩)), (9, .int .i64 p0.2.2.1), (10, .pointer (some ⟨b1, 3, none⟩)), (11, .int .i64 p0.2.2.2.1), (12, .pointer (some ⟨b1, 4, none⟩)), (13, .int .i64 p0.2.2.2.2.1), (14, .pointer (some ⟨b1, 5, none⟩)), (15, .int .i64 p0.2.2.2.2.2), (16, .agg #[v4, .slice none 0 0, .int .i64 p0.2.2.1, .int .i64 p0.2.2.2.1, .int .i64 p0.2.2.2.2.1, .int .i64 p0.2.2.2.2.2])] a ∧ Stw ⟨Y, [], w0⟩ (Vp b3 v4 p0 b2 b1 v1 v2) [row v4 78 HV x1] w) ?_ ?_
 ·
  refine Su (PT.st 0 (PT.st 1 (PT.st 3 (PT.st 4 (PT.st 5 (PT.st 6 (PT.st 7 (PT.st 8 (PT.st 9 (PT.st 10 (PT.alt 2 (PT.st 11 (PT.alt 12 (PT.alt 13 PT.done PT.stop) PT.stop)) (PT.alt 12 (PT.alt 2 (PT.st 11 (PT.alt 13 PT.done PT.stop)) PT.stop) PT.stop)))))))))))) (CN ⟨Y, [], w0⟩ [(some 2, b1, [v1, v2, .int .i64 p0.2.2.1, .int .i64 p0.2.2.2.1, .int .i64 p0.2.2.2.2.1, .int .i64 p0.2.2.2.2.2]), (some 13, b1, [v1, v2, .int .i64 p0.2.2.1, .int .i64 p0.2.2.2.1, .int .i64 p0.2.2.2.2.1, .int .i64 p0.2.2.2.2.2])] []) (fun ch a d v w h => by cases d <;> exact h) MO (by kernel_rfl) W (fun w W => ⟨_, _, W, (all_cons (fun _ => (.tail _ (.head _))) (all_cons (fun _ => (.tail _ (.head _))) AD)), AD⟩) fun w W => ?_
  refine LF (R := []) F Aa Aa (yC fun M Z hN hZ => Af IY Aa Aa Aa Qa F Aa 0 Aa) Aa Aa fun a F => ?_
  refine LF (R := [2]) F Aa Aa (yC fun M Z hN hZ => Cs (cs := [v1, v2, .int .i64 p0.2.2.1, .int .i64 p0.2.2.2.1, .int .i64 p0.2.2.2.2.1, .int .i64 p0.2.2.2.2.2]) (v := v1) F Aa (hN ((some 2), b1, [v1, v2, .int .i64 p0.2.2.1, .int .i64 p0.2.2.2.1, .int .i64 p0.2.2.2.2.1, .int .i64 p0.2.2.2.2.2]) (.head _) Aa) Qa Aa) (by kernel_rfl) Aa fun a F => ?_
  refine LF (R := []) F Aa Aa (yC fun M Z hN hZ => Af IY Aa Aa Aa T3 F Aa 2 Aa) Aa Aa fun a F => ?_
  refine LF (R := [13]) F Aa Aa (yC fun M Z hN hZ => Cs (cs := [v1, v2, .int .i64 p0.2.2.1, .int .i64 p0.2.2.2.1, .int .i64 p0.2.2.2.2.1, .int .i64 p0.2.2.2.2.2]) (v := Value.int .i64 p0.2.2.1) F Aa (hN ((some 13), b1, [v1, v2, .int .i64 p0.2.2.1, .int .i64 p0.2.2.2.1, .int .i64 p0.2.2.2.2.1, .int .i64 p0.2.2.2.2.2]) (.tail _ (.head _)) Aa) T3 Aa) (by kernel_rfl) Aa fun a F => ?_
  refine LF (R := []) F Aa Aa (yC fun M Z hN hZ => Af IY Aa Aa Aa T3 F Aa 3 Aa) Aa Aa fun a F => ?_
  refine LF (R := [13]) F Aa Aa (yC fun M Z hN hZ => Cs (cs := [v1, v2, .int .i64 p0.2.2.1, .int .i64 p0.2.2.2.1, .int .i64 p0.2.2.2.2.1, .int .i64 p0.2.2.2.2.2]) (v := Value.int .i64 p0.2.2.2.1) F Aa (hN ((some 13), b1, [v1, v2, .int .i64 p0.2.2.1, .int .i64 p0.2.2.2.1, .int .i64 p0.2.2.2.2.1, .int .i64 p0.2.2.2.2.2]) (.tail _ (.head _)) Aa) T3 Aa) (by kernel_rfl) Aa fun a F => ?_
  refine LF (R := []) F Aa Aa (yC fun M Z hN hZ => Af IY Aa Aa Aa T3 F Aa 4 Aa) Aa Aa fun a F => ?_
  refine LF (R := [13]) F Aa Aa (yC fun M Z hN hZ => Cs (cs := [v1, v2, .int .i64 p0.2.2.1, .int .i64 p0.2.2.2.1, .int .i64 p0.2.2.2.2.1, .int .i64 p0.2.2.2.2.2]) (v := Value.int .i64 p0.2.2.2.2.1) F Aa (hN ((some 13), b1, [v1, v2, .int .i64 p0.2.2.1, .int .i64 p0.2.2.2.1, .int .i64 p0.2.2.2.2.1, .int .i64 p0.2.2.2.2.2]) (.tail _ (.head _)) Aa) T3 Aa) (by kernel_rfl) Aa fun a F => ?_
  refine LF (R := []) F Aa Aa (yC fun M Z hN hZ => Af IY Aa Aa Aa T3 F Aa 5 Aa) Aa Aa fun a F => ?_
  refine LF (R := [13]) F Aa Aa (yC fun M Z hN hZ => Cs (cs := [v1, v2, .int .i64 p0.2.2.1, .int .i64 p0.2.2.2.1, .int .i64 p0.2.2.2.2.1, .int .i64 p0.2.2.2.2.2]) (v := Value.int .i64 p0.2.2.2.2.2) F Aa (hN ((some 13), b1, [v1, v2, .int .i64 p0.2.2.1, .int .i64 p0.2.2.2.1, .int .i64 p0.2.2.2.2.1, .int .i64 p0.2.2.2.2.2]) (.tail _ (.head _)) Aa) T3 Aa) (by kernel_rfl) Aa fun a F => ?_
  refine UJ Aa ?_ ?_
  ·
   refine Cv (Ml := []) (Zl := []) (β := Value) (rv := fun x => x) (MM := fun x => []) (ZZ := fun x => [row x 78 HV x1]) F W W1 Aa Aa (fun hL => Mq _ w (v1) p0.1 _ h2 ((Ab h_v1) w W).nx) fun x a w F W => ?_
   obtain ⟨v4, rfl⟩ : ∃ y, y = x := ⟨x, rfl⟩
   have W : Stw ⟨Y, [], w0⟩ [(b2, [.slice none 0 0, .slice none 0 0, .int .i64 0, .int .i64 0, .int .i64 0, .int .i64 0]), (b1, [v1, v2, .int .i64 p0.2.2.1, .int .i64 p0.2.2.2.1, .int .i64 p0.2.2.2.2.1, .int .i64 p0.2.2.2.2.2])] [row v4 78 HV x1] w := W
   refine JK (N2 := []) (NZ2 := []) (N3 := [(some 2, b1, [v1, v2, .int .i64 p0.2.2.1, .int .i64 p0.2.2.2.1, .int .i64 p0.2.2.2.2.1, .int .i64 p0.2.2.2.2.2]), (some 13, b1, [v1, v2, .int .i64 p0.2.2.1, .int .i64 p0.2.2.2.1, .int .i64 p0.2.2.2.2.1, .int .i64 p0.2.2.2.2.2])]) (NZ3 := []) W Aa Aa (all_cons (fun h => Ap (by kernel_rfl) h) (all_cons (fun _ => (.tail _ (.head _))) AD)) AD ?_
   refine LF (R := []) F Aa Aa (yC fun M Z hN hZ => Bx (v := Value.agg #[v4, .slice none 0 0, .int .i64 p0.2.2.1, .int .i64 p0.2.2.2.1, .int .i64 p0.2.2.2.2.1, .int .i64 p0.2.2.2.2.2]) VY F Aa (A5 Aa (B1 (W.one (k := 0) Aa)) Aa (A5 Aa Aa Aa (A5 Aa Aa Aa (A5 Aa Aa Aa (A5 Aa Aa Aa Ez))))) Aa) Aa Aa fun a F => ?_
   refine PZ Aa ?_
   refine BU (cs := (Rw)) F W Aa Wq Aa fun b3 a w F W => ?_
   refine JK (N2 := []) (NZ2 := []) (N3 := [(some 2, b1, [v1, v2, .int .i64 p0.2.2.1, .int .i64 p0.2.2.2.1, .int .i64 p0.2.2.2.2.1, .int .i64 p0.2.2.2.2.2]), (some 13, b1, [v1, v2, .int .i64 p0.2.2.1, .int .i64 p0.2.2.2.1, .int .i64 p0.2.2.2.2.1, .int .i64 p0.2.2.2.2.2])]) (NZ3 := []) W Aa Aa (all_cons (fun h => Ap (by kernel_rfl) h) (all_cons (fun _ => (.tail _ (.tail _ (.head _)))) AD)) AD ?_
   refine PZ Aa ?_
   refine Fv 0 F W Aa Aa Aa UV Aa Aa (A8 (W.one (k := 0) Aa) (A8 Aa (A8 Aa (A8 Aa (A8 Aa (A8 Aa HC)))))) fun w W => ?_
   refine JK (N2 := []) (NZ2 := []) (N3 := [(some 2, b1, [v1, v2, .int .i64 p0.2.2.1, .int .i64 p0.2.2.2.1, .int .i64 p0.2.2.2.2.1, .int .i64 p0.2.2.2.2.2]), (some 13, b1, [v1, v2, .int .i64 p0.2.2.1, .int .i64 p0.2.2.2.1, .int .i64 p0.2.2.2.2.1, .int .i64 p0.2.2.2.2.2])]) (NZ3 := []) W Aa Aa (all_cons (fun h => Ap (by kernel_rfl) h) (all_cons (fun h => Ap (by kernel_rfl) h) AD)) AD ?_
   have W := W.frontM (i := 2) Aa Aa
   have W := W.frontM (i := 2) Aa Aa
   have W := W.frontM (i := 2) Aa Aa
   refine RF ?_
   exact ⟨b3, v4, F.ra Aa, W⟩
  refine UJ Aa ?_ ?_
  ·
   refine BU (cs := (Rw)) F W Aa Wq Aa fun b3 a w F W => ?_
   refine JK (N2 := []) (NZ2 := []) (N3 := [(some 2, b1, [v1, v2, .int .i64 p0.2.2.1, .int .i64 p0.2.2.2.1, .int .i64 p0.2.2.2.2.1, .int .i64 p0.2.2.2.2.2]), (some 13, b1, [v1, v2, .int .i64 p0.2.2.1, .int .i64 p0.2.2.2.1, .int .i64 p0.2.2.2.2.1, .int .i64 p0.2.2.2.2.2])]) (NZ3 := []) W Aa Aa (all_cons (fun _ => (.tail _ (.tail _ (.head _)))) (all_cons (fun _ => (.tail _ (.tail _ (.head _)))) AD)) AD ?_
   refine PZ Aa ?_
   refine Cv (Ml := []) (Zl := []) (β := Value) (rv := fun x => x) (MM := fun x => []) (ZZ := fun x => [row x 78 HV x1]) F W W1 Aa Aa (fun hL => Mq _ w (v1) p0.1 _ h2 ((Ab h_v1) w W).nx) fun x a w F W => ?_
   obtain ⟨v4, rfl⟩ : ∃ y, y = x := ⟨x, rfl⟩
   have W : Stw ⟨Y, [], w0⟩ (U8 b3 b2 b1 v1 v2 p0) [row v4 78 HV x1] w := W
   refine JK (N2 := []) (NZ2 := []) (N3 := [(some 2, b1, [v1, v2, .int .i64 p0.2.2.1, .int .i64 p0.2.2.2.1, .int .i64 p0.2.2.2.2.1, .int .i64 p0.2.2.2.2.2]), (some 13, b1, [v1, v2, .int .i64 p0.2.2.1, .int .i64 p0.2.2.2.1, .int .i64 p0.2.2.2.2.1, .int .i64 p0.2.2.2.2.2])]) (NZ3 := []) W Aa Aa (all_cons (fun h => Ap (by kernel_rfl) h) (all_cons (fun _ => (.tail _ (.tail _ (.head _)))) AD)) AD ?_
   refine LF (R := []) F Aa Aa (yC fun M Z hN hZ => Bx (v := Value.agg #[v4, .slice none 0 0, .int .i64 p0.2.2.1, .int .i64 p0.2.2.2.1, .int .i64 p0.2.2.2.2.1, .int .i64 p0.2.2.2.2.2]) VY F Aa (A5 Aa (B1 (W.one (k := 0) Aa)) Aa (A5 Aa Aa Aa (A5 Aa Aa Aa (A5 Aa Aa Aa (A5 Aa Aa Aa Ez))))) Aa) Aa Aa fun a F => ?_
   refine PZ Aa ?_
   refine Fv 0 F W Aa Aa Aa UV Aa Aa (A8 (W.one (k := 0) Aa) (A8 Aa (A8 Aa (A8 Aa (A8 Aa (A8 Aa HC)))))) fun w W => ?_
   refine JK (N2 := []) (NZ2 := []) (N3 := [(some 2, b1, [v1, v2, .int .i64 p0.2.2.1, .int .i64 p0.2.2.2.1, .int .i64 p0.2.2.2.2.1, .int .i64 p0.2.2.2.2.2]), (some 13, b1, [v1, v2, .int .i64 p0.2.2.1, .int .i64 p0.2.2.2.1, .int .i64 p0.2.2.2.2.1, .int .i64 p0.2.2.2.2.2])]) (NZ3 := []) W Aa Aa (all_cons (fun h => Ap (by kernel_rfl) h) (all_cons (fun h => Ap (by kernel_rfl) h) AD)) AD ?_
   have W := W.frontM (i := 2) Aa Aa
   have W := W.frontM (i := 2) Aa Aa
   have W := W.frontM (i := 2) Aa Aa
   refine RF ?_
   exact ⟨b3, v4, F.ra Aa, W⟩
  exact trivial
 rintro a w ⟨b3, v4, F, W⟩
 refine Ac ?_
 obtain ⟨o1, G1, K1⟩ := Ae H
 refine Aj (fun a w => ∃ x2 : List (Int × Int × List Int), ∃ v5 : Value, some (x2) = some o1 ∧ Fr 49 [] [(2, .pointer (some ⟨b2, 0, none⟩)), (3, .pointer (some ⟨b3, 0, none⟩))] a ∧ Stw ⟨Y, [], w0⟩ (Ni b3 v4 v5 p0 b2 b1 v1 v2) [row v4 78 HV x1, row v5 65 Kf x2] w) ?_ ?_
 ·
  have H := G1
  clear G1 K1
  refine vc tk 6 F W fun a w F W => ?_
  have W := W.nilRow 65 Kf
  have W := W.frontZ (i := 1) Aa Aa
  have W := W.frontM (i := 2) Aa Aa
  have W := W.frontM (i := 2) Aa Aa
  have W := W.frontM (i := 2) Aa Aa
  refine AA H (fun s a w => ∃ v6 : Value, Fr 49 [] [(1, .pointer (some ⟨b1, 0, none⟩)), (2, .pointer (some ⟨b2, 0, none⟩)), (3, .pointer (some ⟨b3, 0, none⟩)), (4, .int .i64 s.1)] a ∧ Stw ⟨Y, [], w0⟩ (Ni b3 v4 v6 p0 b2 b1 v1 v2) [row v4 78 HV x1, row v6 65 Kf s.2] w) ⟨(Value.slice none 0 0), F.ra Aa, W⟩ fun s o a w H L2 hR => ?_
  obtain ⟨x3, x4⟩ := s
  obtain ⟨v6, F, W⟩ := hR
  have F : Fr 49 [] [(1, .pointer (some ⟨b1, 0, none⟩)), (2, .pointer (some ⟨b2, 0, none⟩)), (3, .pointer (some ⟨b3, 0, none⟩)), (4, .int .i64 x3)] a := F
  have W : Stw ⟨Y, [], w0⟩ (Ni b3 v4 v6 p0 b2 b1 v1 v2) [row v4 78 HV x1, row v6 65 Kf x4] w := W
  rw [Gj] at H
  refine D3 tk 6 [2] F W (ai fun a w F W => ?_)
  refine ls F W Aa (AR (r := MK) (l := p0.2.1) PB Aa F Aa (Aq Fp h1 (Ab h_v2))).q fun a w F W => ?_
  refine Bz tk 3 F W fun a w F W => ?_
  refine AN F Aa H (fun F H => ?_) fun F H => ?_
  ·
   refine Gm tk 4 F W fun a w F W => ?_
   have W := W.frontZ (i := 1) Aa Aa
   obtain ⟨v7, h3, W⟩ := W.exR FR
   refine Kv [(true, 0), (true, 1), (true, 2), (true, 3), (true, 4), (true, 5), (true, 6), (true, 7), (true, 8), (true, 9), (true, 10), (true, 11), (true, 12), (true, 13), (true, 14), (true, 15), (true, 16), (true, 17), (true, 18), (true, 19), (true, 20), (false, 21), (false, 22), (true, 23), (false, 24)] (CN ⟨Y, [], w0⟩ [(some 22, b3, [v4, v6, .int .i64 p0.2.2.1, .int .i64 p0.2.2.2.1, .int .i64 p0.2.2.2.2.1, .int .i64 p0.2.2.2.2.2]), (some 21, b1, [v1, v2, .int .i64 p0.2.2.1, .int .i64 p0.2.2.2.1, .int .i64 p0.2.2.2.2.1, .int .i64 p0.2.2.2.2.2])] []) (fun ch a d v w h => by cases d <;> exact h) MO (by kernel_rfl) W (fun w W => ⟨_, _, W, (all_cons (fun _ => (.head _)) (all_cons (fun _ => (.tail _ (.tail _ (.head _)))) AD)), AD⟩) fun w W => ?_
   refine CJ (R := []) F Aa Aa (yC fun M Z hN hZ => Af RO Aa Aa Aa T4 F Aa 1 Aa) Aa Aa fun a F => ?_
   refine CJ (R := [22]) F Aa Aa (yC fun M Z hN hZ => Cs (cs := [v4, v6, .int .i64 p0.2.2.1, .int .i64 p0.2.2.2.1, .int .i64 p0.2.2.2.2.1, .int .i64 p0.2.2.2.2.2]) (v := v6) F Aa (hN ((some 22), b3, [v4, v6, .int .i64 p0.2.2.1, .int .i64 p0.2.2.2.1, .int .i64 p0.2.2.2.2.1, .int .i64 p0.2.2.2.2.2]) (.head _) Aa) T4 Aa) (by kernel_rfl) Aa fun a F => ?_
   refine CJ (R := []) F Aa Aa (yC fun M Z hN hZ => Af IY Aa Aa Aa Qe F Aa 1 Aa) Aa Aa fun a F => ?_
   refine CJ (R := [21, 20, 7, 6, 5]) F Aa Aa (yC fun M Z hN hZ => Cs (cs := [v1, v2, .int .i64 p0.2.2.1, .int .i64 p0.2.2.2.1, .int .i64 p0.2.2.2.2.1, .int .i64 p0.2.2.2.2.2]) (v := v2) F Aa (hN ((some 21), b1, [v1, v2, .int .i64 p0.2.2.1, .int .i64 p0.2.2.2.1, .int .i64 p0.2.2.2.2.1, .int .i64 p0.2.2.2.2.2]) (.tail _ (.head _)) Aa) Qe Aa) (by kernel_rfl) Aa fun a F => ?_
   refine CJ (R := []) F Aa Aa (yC fun M Z hN hZ => Ak F Aa) Aa Aa fun a F => ?_
   obtain ⟨x5, h4, H⟩ := Ae H
   obtain ⟨v8, h5, h6⟩ := Co h1 h4
   have h7 : Jr v8 = [.int .i64 x5.1, .int .i64 x5.2.1, (v8.2.2.1)] := congrArg (fun q : Int × Int × List Int => ([.int .i64 q.1, .int .i64 q.2.1, (v8.2.2.1)] : List Value)) h6
   refine CJ (R := []) F Aa Aa (yC fun M Z hN hZ => Al (r := M0) T7 F Aa Aa (Ab h_v2) h5) Aa Aa fun a F => ?_
   refine CJ (R := []) F Aa Aa (yC fun M Z hN hZ => Af Pb Aa Aa Aa T3 F Aa (CS v2 + (x3).toNat * 3) Aa) Aa Aa fun a F => ?_
   refine CJ (R := []) F Aa Aa (yC fun M Z hN hZ => Ag (y := Value.int .i64 x5.1) (j := 0) (i := x3) (enc := Jr) F Aa Aa (Ab h_v2) h5 OO T3 (by rw [h7]; rfl)) Aa Aa fun a F => ?_
   refine CJ (R := []) F Aa Aa (yC fun M Z hN hZ => Af IY Aa Aa Aa Qe F Aa 1 Aa) Aa Aa fun a F => ?_
   refine CJ (R := [21, 20, 13, 12, 11]) F Aa Aa (yC fun M Z hN hZ => Cs (cs := [v1, v2, .int .i64 p0.2.2.1, .int .i64 p0.2.2.2.1, .int .i64 p0.2.2.2.2.1, .int .i64 p0.2.2.2.2.2]) (v := v2) F Aa (hN ((some 21), b1, [v1, v2, .int .i64 p0.2.2.1, .int .i64 p0.2.2.2.1, .int .i64 p0.2.2.2.2.1, .int .i64 p0.2.2.2.2.2]) (.tail _ (.head _)) Aa) Qe Aa) (by kernel_rfl) Aa fun a F => ?_
   refine CJ (R := []) F Aa Aa (yC fun M Z hN hZ => Ak F Aa) Aa Aa fun a F => ?_
   obtain ⟨x6, h8, H⟩ := Ae H
   obtain ⟨v9, h9, h10⟩ := Co h1 h8
   have h11 : Jr v9 = [.int .i64 x6.1, .int .i64 x6.2.1, (v9.2.2.1)] := congrArg (fun q : Int × Int × List Int => ([.int .i64 q.1, .int .i64 q.2.1, (v9.2.2.1)] : List Value)) h10
   refine CJ (R := []) F Aa Aa (yC fun M Z hN hZ => Al (r := M0) T7 F Aa Aa (Ab h_v2) h9) Aa Aa fun a F => ?_
   refine CJ (R := []) F Aa Aa (yC fun M Z hN hZ => Af Pb Aa Aa Aa T3 F Aa (CS v2 + (x3).toNat * 3 + 1) Aa) Aa Aa fun a F => ?_
   refine CJ (R := []) F Aa Aa (yC fun M Z hN hZ => Ag (y := Value.int .i64 x6.2.1) (j := 1) (i := x3) (enc := Jr) F Aa Aa (Ab h_v2) h9 OO T3 (by rw [h11]; rfl)) Aa Aa fun a F => ?_
   refine CJ (R := []) F Aa Aa (yC fun M Z hN hZ => Af IY Aa Aa Aa Qe F Aa 1 Aa) Aa Aa fun a F => ?_
   refine CJ (R := [21, 20, 19, 18, 17]) F Aa Aa (yC fun M Z hN hZ => Cs (cs := [v1, v2, .int .i64 p0.2.2.1, .int .i64 p0.2.2.2.1, .int .i64 p0.2.2.2.2.1, .int .i64 p0.2.2.2.2.2]) (v := v2) F Aa (hN ((some 21), b1, [v1, v2, .int .i64 p0.2.2.1, .int .i64 p0.2.2.2.1, .int .i64 p0.2.2.2.2.1, .int .i64 p0.2.2.2.2.2]) (.tail _ (.head _)) Aa) Qe Aa) (by kernel_rfl) Aa fun a F => ?_
   refine CJ (R := []) F Aa Aa (yC fun M Z hN hZ => Ak F Aa) Aa Aa fun a F => ?_
   obtain ⟨x7, h12, H⟩ := Ae H
   obtain ⟨v10, h13, h14⟩ := Co h1 h12
   have h15 : Jr v10 = [.int .i64 x7.1, .int .i64 x7.2.1, (v10.2.2.1)] := congrArg (fun q : Int × Int × List Int => ([.int .i64 q.1, .int .i64 q.2.1, (v10.2.2.1)] : List Value)) h14
   refine CJ (R := []) F Aa Aa (yC fun M Z hN hZ => Al (r := M0) T7 F Aa Aa (Ab h_v2) h13) Aa Aa fun a F => ?_
   refine CJ (R := []) F Aa Aa (yC fun M Z hN hZ => Af Pb Aa Aa Aa Jv F Aa (CS v2 + (x3).toNat * 3 + 2) Aa) Aa Aa fun a F => ?_
   refine CJ (R := []) F Aa Aa (yC fun M Z hN hZ => Ag (y := (v10.2.2.1)) (j := 2) (i := x3) (enc := Jr) F Aa Aa (Ab h_v2) h13 OO Jv (by rw [h15]; rfl)) Aa Aa fun a F => ?_
   refine CJ (R := []) F Aa Aa (yC fun M Z hN hZ => Bx (v := Value.agg #[.int .i64 x5.1, .int .i64 x6.2.1, (v10.2.2.1)]) Xz F Aa (A5 Aa Aa Aa (A5 Aa Aa Aa (A5 Aa (B1 ((A4 (Ab h_v2) h13 (BL.snd (BL.snd BL.here)) (congrArg (fun q : Int × Int × List Int => q.2.2) h14)) _ W).one) Aa Ez))) Aa) Aa Aa fun a F => ?_
   refine F4 Aa ?_
   refine Cp (z := Value.agg #[.int .i64 0, .int .i64 0, .slice none 0 0]) (cs := [.int .i64 x5.1, .int .i64 x6.2.1, (v10.2.2.1)]) Kf ([(x5.1, x6.2.1, x7.2.2)] : List (Int × Int × List Int)) F W Aa U0 WK Aa Aa Aa (A5 Aa Aa Aa Ez) Aa Aa ⟨[Value.int .i64 x5.1, Value.int .i64 x6.2.1, (v10.2.2.1)], _, Aa, ⟨[Value.int .i64 x5.1], [Value.int .i64 x6.2.1, (v10.2.2.1)], Aa, Aa, ⟨[Value.int .i64 x6.2.1], [(v10.2.2.1)], Aa, Aa, ⟨_, Aa, (Sl.at_ (W.old s_v2) h13 (BL.snd (BL.snd BL.here)) (congrArg (fun q : Int × Int × List Int => q.2.2) h14))⟩⟩⟩, Aa⟩ fun v11 a w F W => ?_
   refine Cq (N2 := []) (NZ2 := []) (N3 := [(some 22, b3, [v4, v6, .int .i64 p0.2.2.1, .int .i64 p0.2.2.2.1, .int .i64 p0.2.2.2.2.1, .int .i64 p0.2.2.2.2.2]), (some 21, b1, [v1, v2, .int .i64 p0.2.2.1, .int .i64 p0.2.2.2.1, .int .i64 p0.2.2.2.2.1, .int .i64 p0.2.2.2.2.2])]) (NZ3 := []) W Aa Aa (all_cons (fun _ => (.head _)) (all_cons (fun h => Ap (by kernel_rfl) h) AD)) AD ?_
   refine F4 Aa ?_
   have W := W.frontZ (i := 1) Aa Aa
   have W := W.hideR FR h3
   obtain ⟨x8, h16, H⟩ := Ae H
   refine BF (r := Kf) (i := 0) F W Aa U0 Aa Aa Aa Aa (Cr W 1 Aa) h16 Aa fun v12 a w F W => ?_
   have W : Stw ⟨Y, [], w0⟩ (Ni b3 v4 v6 p0 b2 b1 v1 v2) [row v12 65 Kf x8, row v11 65 Kf ([(x5.1, x6.2.1, x7.2.2)] : List (Int × Int × List Int)), row v4 78 HV x1] w := W
   refine Cq (N2 := []) (NZ2 := []) (N3 := [(some 22, b3, [v4, v6, .int .i64 p0.2.2.1, .int .i64 p0.2.2.2.1, .int .i64 p0.2.2.2.2.1, .int .i64 p0.2.2.2.2.2]), (some 21, b1, [v1, v2, .int .i64 p0.2.2.1, .int .i64 p0.2.2.2.1, .int .i64 p0.2.2.2.2.1, .int .i64 p0.2.2.2.2.2])]) (NZ3 := []) W Aa Aa (all_cons (fun h => Ap (by kernel_rfl) h) (all_cons (fun h => Ap (by kernel_rfl) h) AD)) AD ?_
   refine CJ (R := []) F Aa Aa (yC fun M Z hN hZ => Af RO Aa Aa Aa T4 F Aa 1 Aa) Aa Aa fun a F => ?_
   refine F4 Aa ?_
   refine Rz (M' := (Ni b3 v4 v12 p0 b2 b1 v1 v2)) 0 F W Aa Aa Aa T4 (W.one (k := 0) Aa) Aa Aa fun w W => ?_
   refine Cq (N2 := []) (NZ2 := []) (N3 := [(some 22, b3, [v4, v6, .int .i64 p0.2.2.1, .int .i64 p0.2.2.2.1, .int .i64 p0.2.2.2.2.1, .int .i64 p0.2.2.2.2.2]), (some 21, b1, [v1, v2, .int .i64 p0.2.2.1, .int .i64 p0.2.2.2.1, .int .i64 p0.2.2.2.2.1, .int .i64 p0.2.2.2.2.2])]) (NZ3 := []) W Aa Aa (all_cons (fun h => Ap (by kernel_rfl) h) (all_cons (fun h => Ap (by kernel_rfl) h) AD)) AD ?_
   refine KS (An ?_)
   refine vn tk 5 F W fun a w F W => ?_
   refine Ac ?_
   have W := W.frontZ (i := 2) Aa Aa
   have W := W.frontM (i := 2) Aa Aa
   have W := W.frontM (i := 2) Aa Aa
   have W := W.frontM (i := 2) Aa Aa
   have W := W.sub (M' := (Ni b3 v4 v12 p0 b2 b1 v1 v2)) (Z' := [row v4 78 HV x1, row v12 65 Kf x8]) (List.Sublist.refl _) (List.Sublist.cons_cons _ (List.Sublist.cons_cons _ (List.nil_sublist _)))
   exact ⟨_, H, (v12), F.ra Aa, W⟩
  refine Ay ?_
  iterate 2 refine AO ?_
  refine Az (Ac ?_)
  have W := W.frontZ (i := 1) Aa Aa
  have W := W.frontZ (i := 1) Aa Aa
  have W := W.frontM (i := 2) Aa Aa
  have W := W.frontM (i := 2) Aa Aa
  have W := W.frontM (i := 2) Aa Aa
  have H := L2 _ H
  exact ⟨_, (v6), H, F.ra Aa, W⟩
 rintro a w ⟨x2, v5, hj, F, W⟩
 have hj := Av hj
 subst hj
 have H := K1
 clear G1 K1
 refine D3 tk 3 [0] F W (ai fun a w F W => ?_)
 refine Fv 1 F W Aa Aa Aa UV Aa Aa (A8 (W.one (k := 0) Aa) (A8 (W.one (k := 1) Aa) (A8 Aa (A8 Aa (A8 Aa (A8 Aa HC)))))) fun w W => ?_
 refine Bz tk 2 F W fun a w F W => ?_
 refine Ao ?_
 have H := Av H
 subst H
 refine AE (.inl Aa) F W Aa (LP 1 F Aa Aa UV Aa) ?_
 have W := W.frontZ (i := 1) Aa Aa
 have W := W.frontZ (i := 1) Aa Aa
 have W := W.sub (M' := []) (Z' := [row v4 78 HV x1, row v5 65 Kf x2]) (List.nil_sublist _) (List.Sublist.refl _)
 exact ⟨((v4), (v5)), Aa, W⟩
theorem H9 : Has Try.prog 9 := BS Try.func9
noncomputable def Fi (p0 : Int × (List (Int × Int × Int × Int × Int × Int)) × (List (Int × Int))) (p1 : Int) (p2 : Int) : (Int × Int) → Option ((Int × Int) ⊕ Int)
  | (x2, x3) => (if x3 < (p0.2.1.length : Int) then ((ix p0.2.1 x3).bind fun x5 => (if (decide (x5.1 = p1) && decide (x5.2.1 = p2)) = true then some (A3 (x2 + 1)) else some x2).bind fun x6 => (if (decide (x5.2.2.1 = p1) && decide (x5.2.2.2.1 = p2)) = true then some (A3 (x6 + 1)) else some x6)).bind fun x4 => some (.inl (x4, A3 (x3 + 1))) else some (.inr x2))
noncomputable def Fh (p0 : Int × (List (Int × Int × Int × Int × Int × Int)) × (List (Int × Int))) (p1 : Int) (p2 : Int) : (Int × Int) → Option ((Int × Int) ⊕ Int)
  | (x8, x9) => (if x9 < (p0.2.2.length : Int) then (((ix p0.2.2 x9).bind fun x12 => (if x12.1 = p1 then (ix p0.2.2 x9).bind fun x13 => some (decide (x13.2 = p2)) else some false)).bind fun x11 => (if x11 = true then some (A3 (x8 + 1)) else some x8)).bind fun x10 => some (.inl (x10, A3 (x9 + 1))) else some (.inr x8))
noncomputable def Ht (p0 : Int × (List (Int × Int × Int × Int × Int × Int)) × (List (Int × Int))) (p1 : Int) (p2 : Int) : Option Bool := (Au (Fi p0 p1 p2) (0, 0)).bind fun x1 => (Au (Fh p0 p1 p2) (x1, 0)).bind fun x7 => some (decide (0 ≤ p1) && (decide (p1 < p0.1) && (decide (0 ≤ p2) && (decide (p2 ≤ 7) && decide (x7 = 1)))))
theorem JZ (Y : Nat → Prop) (w0 : World) (v1 : Value) (v2 : Value) (p0 : Int × (List (Int × Int × Int × Int × Int × Int)) × (List (Int × Int))) (p1 : Int) (p2 : Int) (r : Bool) (H : Ht p0 p1 p2 = some r) (h_v1 : Sl w0 (NX []) Er v1 p0.2.1) (h_v2 : Sl w0 (NX []) Ec v2 p0.2.2) :
    Calls Try.prog 84 #[.agg #[.int .i64 p0.1, v1, v2], .int .i64 p1, .int .i64 p2] w0 fun e w' => e = .returned (.bool r) ∧ Below w0.heap.size w0 w' := by
 refine enter Try.func84 Aa Try.ntmps84 Aa fun a F => ?_
 have W := Stw.start Y w0
 unfold Ht at H
 refine vc tk 2 F W fun a w F W => ?_
 refine Bq (cs := [.int .i64 p0.1, v1, v2]) F W Aa Aa Aa fun b1 a w F W => ?_
 refine Bz tk 8 F W fun a w F W => ?_
 obtain ⟨o1, G1, K1⟩ := Ae H
 refine Aj (fun a w => ∃ x1 : Int, some (x1) = some o1 ∧ Fr 94 [] [(1, .int .i64 p1), (2, .int .i64 p2), (3, .pointer (some ⟨b1, 0, none⟩)), (6, .bool false), (7, .int .i64 x1)] a ∧ Stw ⟨Y, [], w0⟩ [(b1, [.int .i64 p0.1, v1, v2])] [] w) ?_ ?_
 ·
  have H := G1
  clear G1 K1
  refine vc tk 6 F W fun a w F W => ?_
  refine AA H (fun s a w => Fr 94 [] [(1, .int .i64 p1), (2, .int .i64 p2), (3, .pointer (some ⟨b1, 0, none⟩)), (6, .bool false), (7, .int .i64 s.1), (8, .int .i64 s.2)] a ∧ Stw ⟨Y, [], w0⟩ [(b1, [.int .i64 p0.1, v1, v2])] [] w) ⟨F.ra Aa, W⟩ fun s o a w H L2 hR => ?_
  obtain ⟨x2, x3⟩ := s
  obtain ⟨F, W⟩ := hR
  have F : Fr 94 [] [(1, .int .i64 p1), (2, .int .i64 p2), (3, .pointer (some ⟨b1, 0, none⟩)), (6, .bool false), (7, .int .i64 x2), (8, .int .i64 x3)] a := F
  have W : Stw ⟨Y, [], w0⟩ [(b1, [.int .i64 p0.1, v1, v2])] [] w := W
  rw [Fi] at H
  refine D3 tk 6 [0] F W (ai fun a w F W => ?_)
  refine ls F W Aa (AR (r := Er) (l := p0.2.1) LE Aa F Aa (Ab h_v1)).q fun a w F W => ?_
  refine Bz tk 3 F W fun a w F W => ?_
  refine AN F Aa H (fun F H => ?_) fun F H => ?_
  ·
   refine As (Ac ?_)
   obtain ⟨o3, G3, K3⟩ := Ae H
   refine Aj (fun a w => ∃ x4 : Int, some (x4) = some o3 ∧ Fr 94 [] [(1, .int .i64 p1), (2, .int .i64 p2), (3, .pointer (some ⟨b1, 0, none⟩)), (6, .bool false), (7, .int .i64 x4), (8, .int .i64 x3)] a ∧ Stw ⟨Y, [], w0⟩ [(b1, [.int .i64 p0.1, v1, v2])] [] w) ?_ ?_
   ·
    have H := G3
    clear G3 K3
    refine D3 tk 6 [0] F W (ai fun a w F W => ?_)
    obtain ⟨x5, h1, H⟩ := Ae H
    refine ls F W Aa (Al (r := Er) SQ F Aa Aa (Ab h_v1) h1).q fun a w F W => ?_
    refine ls F W Aa (Ag (y := Value.agg #[.int .i64 x5.1, .int .i64 x5.2.1, .int .i64 x5.2.2.1, .int .i64 x5.2.2.2.1, .int .i64 x5.2.2.2.2.1, .int .i64 x5.2.2.2.2.2]) (j := 0) (i := x3) F Aa Aa (Ab h_v1) h1 SO.to QS Aa).q fun a w F W => ?_
    refine BU (cs := (QU)) F W Aa UI Aa fun b2 a w F W => ?_
    refine Fv 0 F W Aa Aa Aa QS Aa Aa Aa fun w W => ?_
    refine DP (Ac ?_)
    obtain ⟨o4, G4, K4⟩ := Ae H
    refine Aj (fun a w => ∃ x6 : Int, some (x6) = some o4 ∧ Fr 94 [] [(1, .int .i64 p1), (2, .int .i64 p2), (3, .pointer (some ⟨b1, 0, none⟩)), (6, .bool false), (7, .int .i64 x6), (8, .int .i64 x3), (9, .pointer (some ⟨b2, 0, none⟩))] a ∧ Stw ⟨Y, [], w0⟩ (PA b2 x5 b1 p0 v1 v2) [] w) ?_ ?_
    ·
     have H := G4
     clear G4 K4
     refine Aj (fun a w => Fr 94 [] [(1, .int .i64 p1), (2, .int .i64 p2), (3, .pointer (some ⟨b1, 0, none⟩)), (6, .bool false), (7, .int .i64 x2), (8, .int .i64 x3), (9, .pointer (some ⟨b2, 0, none⟩)), (32, .bool (decide (x5.1 = p1) && decide (x5.2.1 = p2)))] a ∧ Stw ⟨Y, [], w0⟩ (PA b2 x5 b1 p0 v1 v2) [] w) ?_ ?_
     ·
      refine D3 tk 6 [0] F W (ai fun a w F W => ?_)
      rcases Bool.eq_false_or_eq_true (decide (x5.1 = p1)) with hb0 | hb0
      ·
       rw [hb0] at F
       refine GL tk 6 [0] F W (ai fun a w F W => ?_)
       refine Ac ?_
       exact ⟨F.re ⟨rfl, Aa, Aa, Aa, Aa, Aa, Aa, (Gw (by try rw [hb0]; all_goals simp only [Gv])), trivial⟩, W⟩
      rw [hb0] at F
      refine vl tk 6 F W fun a w F W => ?_
      refine Ac ?_
      exact ⟨F.re ⟨rfl, Aa, Aa, Aa, Aa, Aa, Aa, (Gw (by try rw [hb0]; all_goals simp only [Gv])), trivial⟩, W⟩
     rintro a w ⟨F, W⟩
     refine B0 F Aa H (fun F H => ?_) fun F H => ?_
     ·
      refine vc tk 5 F W fun a w F W => ?_
      refine Ac ?_
      have W := W.frontM (i := 1) Aa Aa
      have W := W.frontM (i := 1) Aa Aa
      exact ⟨_, H, F.ra Aa, W⟩
     refine As (Ac ?_)
     have W := W.frontM (i := 1) Aa Aa
     have W := W.frontM (i := 1) Aa Aa
     exact ⟨_, H, F.ra Aa, W⟩
    rintro a w ⟨x6, hj, F, W⟩
    have hj := Av hj
    subst hj
    have H := K4
    clear G4 K4
    refine Aj (fun a w => Fr 94 [] [(1, .int .i64 p1), (2, .int .i64 p2), (3, .pointer (some ⟨b1, 0, none⟩)), (6, .bool false), (7, .int .i64 x6), (8, .int .i64 x3), (44, .bool (decide (x5.2.2.1 = p1) && decide (x5.2.2.2.1 = p2)))] a ∧ Stw ⟨Y, [], w0⟩ (PA b2 x5 b1 p0 v1 v2) [] w) ?_ ?_
    ·
     refine D3 tk 6 [0] F W (ai fun a w F W => ?_)
     rcases Bool.eq_false_or_eq_true (decide (x5.2.2.1 = p1)) with hb0 | hb0
     ·
      rw [hb0] at F
      refine GL tk 6 [0] F W (ai fun a w F W => ?_)
      refine Ac ?_
      exact ⟨F.re ⟨rfl, Aa, Aa, Aa, Aa, Aa, (Gw (by try rw [hb0]; all_goals simp only [Gv])), trivial⟩, W⟩
     rw [hb0] at F
     refine vl tk 6 F W fun a w F W => ?_
     refine Ac ?_
     exact ⟨F.re ⟨rfl, Aa, Aa, Aa, Aa, Aa, (Gw (by try rw [hb0]; all_goals simp only [Gv])), trivial⟩, W⟩
    rintro a w ⟨F, W⟩
    refine B0 F Aa H (fun F H => ?_) fun F H => ?_
    ·
     refine vc tk 5 F W fun a w F W => ?_
     refine An (Ac ?_)
     have W := W.frontM (i := 1) Aa Aa
     have W := W.sub (M' := [(b1, [.int .i64 p0.1, v1, v2])]) (Z' := []) (List.Sublist.cons_cons _ (List.nil_sublist _)) (List.Sublist.refl _)
     exact ⟨_, H, F.ra Aa, W⟩
    refine As (An (Ac ?_))
    have W := W.frontM (i := 1) Aa Aa
    have W := W.sub (M' := [(b1, [.int .i64 p0.1, v1, v2])]) (Z' := []) (List.Sublist.cons_cons _ (List.nil_sublist _)) (List.Sublist.refl _)
    exact ⟨_, H, F.ra Aa, W⟩
   rintro a w ⟨x4, hj, F, W⟩
   have hj := Av hj
   subst hj
   have H := K3
   clear G3 K3
   refine vc tk 5 F W fun a w F W => ?_
   refine Ac ?_
   exact ⟨_, H, F.ra Aa, W⟩
  refine Ay ?_
  iterate 2 refine AO ?_
  refine Az (Ac ?_)
  have H := L2 _ H
  exact ⟨_, H, F.ra Aa, W⟩
 rintro a w ⟨x1, hj, F, W⟩
 have hj := Av hj
 subst hj
 have H := K1
 clear G1 K1
 obtain ⟨o5, G5, K5⟩ := Ae H
 refine Aj (fun a w => ∃ x7 : Int, some (x7) = some o5 ∧ Fr 94 [] [(1, .int .i64 p1), (2, .int .i64 p2), (3, .pointer (some ⟨b1, 0, none⟩)), (6, .bool false), (7, .int .i64 x7)] a ∧ Stw ⟨Y, [], w0⟩ [(b1, [.int .i64 p0.1, v1, v2])] [] w) ?_ ?_
 ·
  have H := G5
  clear G5 K5
  refine vc tk 6 F W fun a w F W => ?_
  refine AA H (fun s a w => Fr 94 [] [(1, .int .i64 p1), (2, .int .i64 p2), (3, .pointer (some ⟨b1, 0, none⟩)), (6, .bool false), (7, .int .i64 s.1), (10, .int .i64 s.2)] a ∧ Stw ⟨Y, [], w0⟩ [(b1, [.int .i64 p0.1, v1, v2])] [] w) ⟨F.ra Aa, W⟩ fun s o a w H L6 hR => ?_
  obtain ⟨x8, x9⟩ := s
  obtain ⟨F, W⟩ := hR
  have F : Fr 94 [] [(1, .int .i64 p1), (2, .int .i64 p2), (3, .pointer (some ⟨b1, 0, none⟩)), (6, .bool false), (7, .int .i64 x8), (10, .int .i64 x9)] a := F
  have W : Stw ⟨Y, [], w0⟩ [(b1, [.int .i64 p0.1, v1, v2])] [] w := W
  rw [Fh] at H
  refine D3 tk 6 [0] F W (ai fun a w F W => ?_)
  refine ls F W Aa (AR (r := Ec) (l := p0.2.2) Jg Aa F Aa (Ab h_v2)).q fun a w F W => ?_
  refine Bz tk 3 F W fun a w F W => ?_
  refine AN F Aa H (fun F H => ?_) fun F H => ?_
  ·
   refine As (Ac ?_)
   obtain ⟨o7, G7, K7⟩ := Ae H
   refine Aj (fun a w => ∃ x10 : Int, some (x10) = some o7 ∧ Fr 94 [] [(1, .int .i64 p1), (2, .int .i64 p2), (3, .pointer (some ⟨b1, 0, none⟩)), (6, .bool false), (7, .int .i64 x10), (10, .int .i64 x9)] a ∧ Stw ⟨Y, [], w0⟩ [(b1, [.int .i64 p0.1, v1, v2])] [] w) ?_ ?_
   ·
    have H := G7
    clear G7 K7
    refine Gr ?_
    obtain ⟨o8, G8, K8⟩ := Ae H
    refine Aj (fun a w => ∃ x11 : Bool, some (x11) = some o8 ∧ Fr 94 [] [(1, .int .i64 p1), (2, .int .i64 p2), (3, .pointer (some ⟨b1, 0, none⟩)), (6, .bool false), (7, .int .i64 x8), (10, .int .i64 x9), (71, .bool x11)] a ∧ Stw ⟨Y, [], w0⟩ [(b1, [.int .i64 p0.1, v1, v2])] [] w) ?_ ?_
    ·
     have H := G8
     clear G8 K8
     refine D3 tk 4 [0] F W (ai fun a w F W => ?_)
     obtain ⟨x12, h2, H⟩ := Ae H
     refine ls F W Aa (Al (r := Ec) SF F Aa Aa (Ab h_v2) h2).q fun a w F W => ?_
     refine ls F W Aa (Af MQ Aa Aa Aa T3 F Aa (CS v2 + (x9).toNat * 2) Aa).q fun a w F W => ?_
     refine ls F W Aa (Ag (y := Value.int .i64 x12.1) (j := 0) (i := x9) F Aa Aa (Ab h_v2) h2 Sc.to T3 Aa).q fun a w F W => ?_
     refine vl tk 3 F W fun a w F W => ?_
     rcases Bool.eq_false_or_eq_true (decide (x12.1 = p1)) with hb | hb
     ·
      have H := B5 (CT hb) H
      rw [hb] at F
      clear hb
      refine GL tk 3 [0] F W (ai fun a w F W => ?_)
      obtain ⟨x13, h3, H⟩ := Ae H
      refine CO F W (Ad F Aa Aa Aa Aa) Aa (Ah Aa) (Al (r := Ec) SF F Aa Aa (Ab h_v2) h3).q fun a w F W => ?_
      refine CO F W (Ad F Aa Aa Aa Aa) Aa (Ah Aa) (Af MQ Aa Aa Aa T3 F Aa (CS v2 + (x9).toNat * 2 + 1) Aa).q fun a w F W => ?_
      refine CO F W (Ad F Aa Aa Aa Aa) Aa (Ah Aa) (Ag (y := Value.int .i64 x13.2) (j := 1) (i := x9) F Aa Aa (Ab h_v2) h3 Sc.to T3 Aa).q fun a w F W => ?_
      refine vl tk 4 F W fun a w F W => ?_
      refine Ac ?_
      exact ⟨_, H, F.ra Aa, W⟩
     have H := B6 (CV hb) H
     rw [hb] at F
     clear hb
     refine vl tk 10 F W fun a w F W => ?_
     refine Ac ?_
     exact ⟨_, H, F.ra Aa, W⟩
    rintro a w ⟨x11, hj, F, W⟩
    have hj := Av hj
    subst hj
    have H := K8
    clear G8 K8
    refine B0 F Aa H (fun F H => ?_) fun F H => ?_
    ·
     refine vc tk 5 F W fun a w F W => ?_
     refine An (Ac ?_)
     exact ⟨_, H, F.ra Aa, W⟩
    refine As (An (Ac ?_))
    exact ⟨_, H, F.ra Aa, W⟩
   rintro a w ⟨x10, hj, F, W⟩
   have hj := Av hj
   subst hj
   have H := K7
   clear G7 K7
   refine vc tk 5 F W fun a w F W => ?_
   refine Ac ?_
   exact ⟨_, H, F.ra Aa, W⟩
  refine Ay ?_
  iterate 2 refine AO ?_
  refine Az (Ac ?_)
  have H := L6 _ H
  exact ⟨_, H, F.ra Aa, W⟩
 rintro a w ⟨x7, hj, F, W⟩
 have hj := Av hj
 subst hj
 have H := K5
 clear G5 K5
 refine Aj (fun a w => Fr 94 [] [(6, .bool (decide (0 ≤ p1) && (decide (p1 < p0.1) && (decide (0 ≤ p2) && (decide (p2 ≤ 7) && decide (x7 = 1))))))] a ∧ Stw ⟨Y, [], w0⟩ [(b1, [.int .i64 p0.1, v1, v2])] [] w) ?_ ?_
 ·
  refine vc tk 4 F W fun a w F W => ?_
  rcases Bool.eq_false_or_eq_true (decide (0 ≤ p1)) with hb0 | hb0
  ·
   rw [hb0] at F
   refine GL tk 6 [0] F W (ai fun a w F W => ?_)
   rcases Bool.eq_false_or_eq_true (decide (p1 < p0.1)) with hb1 | hb1
   ·
    rw [hb1] at F
    refine vl tk 4 F W fun a w F W => ?_
    rcases Bool.eq_false_or_eq_true (decide (0 ≤ p2)) with hb2 | hb2
    ·
     rw [hb2] at F
     refine vl tk 4 F W fun a w F W => ?_
     rcases Bool.eq_false_or_eq_true (decide (p2 ≤ 7)) with hb3 | hb3
     ·
      rw [hb3] at F
      refine vl tk 5 F W fun a w F W => ?_
      refine Ac ?_
      exact ⟨F.re ⟨(Gw (by try rw [hb1]; try rw [hb0]; try rw [hb2]; try rw [hb3]; all_goals simp only [Gv])), trivial⟩, W⟩
     rw [hb3] at F
     refine vl tk 5 F W fun a w F W => ?_
     refine Ac ?_
     exact ⟨F.re ⟨(Gw (by try rw [hb1]; try rw [hb0]; try rw [hb2]; try rw [hb3]; all_goals simp only [Gv])), trivial⟩, W⟩
    rw [hb2] at F
    refine vl tk 9 F W fun a w F W => ?_
    refine Ac ?_
    exact ⟨F.re ⟨(Gw (by try rw [hb1]; try rw [hb0]; try rw [hb2]; all_goals simp only [Gv])), trivial⟩, W⟩
   rw [hb1] at F
   refine vl tk 13 F W fun a w F W => ?_
   refine Ac ?_
   exact ⟨F.re ⟨(Gw (by try rw [hb1]; try rw [hb0]; all_goals simp only [Gv])), trivial⟩, W⟩
  rw [hb0] at F
  refine vl tk 19 F W fun a w F W => ?_
  refine Ac ?_
  exact ⟨F.re ⟨(Gw (by try rw [hb0]; all_goals simp only [Gv])), trivial⟩, W⟩
 rintro a w ⟨F, W⟩
 refine Ao ?_
 have H := Av H
 subst H
 refine AE (.inl Aa) F W Aa (Ai F Aa) ?_
 exact ⟨rfl, W.done⟩
theorem Wv : Has Try.prog 84 := BS Try.func84
noncomputable def FN (p0 : Int × (List (Int × Int × Int × Int × Int × Int)) × (List (Int × Int))) : Int → Option (Int ⊕ (Unit ⊕ Bool))
  | x1 => (if x1 < (p0.2.1.length : Int) then (ix p0.2.1 x1).bind fun x2 => (if x2.1 = x2.2.2.1 then some true else (if x2.2.2.2.2.1 < 1 then some true else (if x2.2.2.2.2.2 < x2.2.2.2.2.1 then some true else (if 1000 < x2.2.2.2.2.2 then some true else (Ht p0 x2.1 x2.2.1).bind fun x4 => (if (!x4) = true then some true else (Ht p0 x2.2.2.1 x2.2.2.2.1).bind fun x5 => some (!x5)))))).bind fun x3 => (if x3 = true then some (.inr (.inr false)) else some (.inl (A3 (x1 + 1)))) else some (.inr (.inl ())))
noncomputable def FK (p0 : Int × (List (Int × Int × Int × Int × Int × Int)) × (List (Int × Int))) : Int → Option (Int ⊕ (Unit ⊕ Bool))
  | x6 => (if x6 < (p0.2.2.length : Int) then (ix p0.2.2 x6).bind fun x7 => (ix p0.2.2 x6).bind fun x8 => (Ht p0 x7.1 x8.2).bind fun x9 => (if (!x9) = true then some (.inr (.inr false)) else some (.inl (A3 (x6 + 1)))) else some (.inr (.inl ())))
noncomputable def Ih (p0 : Int × (List (Int × Int × Int × Int × Int × Int)) × (List (Int × Int))) : Option Bool := (if (decide (p0.1 < 1) || (decide (8 < p0.1) || (decide (24 < (p0.2.1.length : Int)) || decide (8 < (p0.2.2.length : Int))))) = true then some false else Ep (Au (FN p0) 0) fun _ => Ep (Au (FK p0) 0) fun _ => some true)
theorem OQ (Y : Nat → Prop) (w0 : World) (v1 : Value) (v2 : Value) (p0 : Int × (List (Int × Int × Int × Int × Int × Int)) × (List (Int × Int))) (r : Bool) (H : Ih p0 = some r) (h_v1 : Sl w0 (NX []) Er v1 p0.2.1) (h_v2 : Sl w0 (NX []) Ec v2 p0.2.2) :
    Calls Try.prog 64 #[.agg #[.int .i64 p0.1, v1, v2]] w0 fun e w' => e = .returned (.bool r) ∧ Below w0.heap.size w0 w' := by
 refine enter Try.func64 Aa Try.ntmps64 Aa fun a F => ?_
 have W := Stw.start Y w0
 unfold Ih at H
 refine vc tk 2 F W fun a w F W => ?_
 refine Bq (cs := [.int .i64 p0.1, v1, v2]) F W Aa Aa Aa fun b1 a w F W => ?_
 refine Bz tk 4 F W fun a w F W => ?_
 refine Aj (fun a w => Fr 100 [] [(1, .pointer (some ⟨b1, 0, none⟩)), (2, .bool false), (25, .bool (decide (p0.1 < 1) || (decide (8 < p0.1) || (decide (24 < (p0.2.1.length : Int)) || decide (8 < (p0.2.2.length : Int))))))] a ∧ Stw ⟨Y, [], w0⟩ [(b1, [.int .i64 p0.1, v1, v2])] [] w) ?_ ?_
 ·
  refine D3 tk 5 [0] F W (ai fun a w F W => ?_)
  rcases Bool.eq_false_or_eq_true (decide (p0.1 < 1)) with hb0 | hb0
  ·
   rw [hb0] at F
   refine vl tk 17 F W fun a w F W => ?_
   refine Ac ?_
   exact ⟨F.re ⟨rfl, Aa, (Gw (by try rw [hb0]; all_goals simp only [Gv])), trivial⟩, W⟩
  rw [hb0] at F
  refine GL tk 5 [0] F W (ai fun a w F W => ?_)
  rcases Bool.eq_false_or_eq_true (decide (8 < p0.1)) with hb1 | hb1
  ·
   rw [hb1] at F
   refine vl tk 12 F W fun a w F W => ?_
   refine Ac ?_
   exact ⟨F.re ⟨rfl, Aa, (Gw (by try rw [hb0]; try rw [hb1]; all_goals simp only [Gv])), trivial⟩, W⟩
  rw [hb1] at F
  refine GL tk 2 [0] F W (ai fun a w F W => ?_)
  refine CO F W (Ad F Aa Aa Aa Aa) Aa (Ah Aa) (AR (r := Er) (l := p0.2.1) LE Aa F Aa (Ab h_v1)).q fun a w F W => ?_
  refine vl tk 3 F W fun a w F W => ?_
  rcases Bool.eq_false_or_eq_true (decide (24 < (p0.2.1.length : Int))) with hb2 | hb2
  ·
   rw [hb2] at F
   refine vl tk 6 F W fun a w F W => ?_
   refine Ac ?_
   exact ⟨F.re ⟨rfl, Aa, (Gw (by try rw [hb2]; try rw [hb0]; try rw [hb1]; all_goals simp only [Gv])), trivial⟩, W⟩
  rw [hb2] at F
  refine GL tk 2 [0] F W (ai fun a w F W => ?_)
  refine CO F W (Ad F Aa Aa Aa Aa) Aa (Ah Aa) (AR (r := Ec) (l := p0.2.2) Jg Aa F Aa (Ab h_v2)).q fun a w F W => ?_
  refine vl tk 3 F W fun a w F W => ?_
  refine Ac ?_
  exact ⟨F.re ⟨rfl, Aa, (Gw (by try rw [hb2]; try rw [hb0]; try rw [hb1]; all_goals simp only [Gv])), trivial⟩, W⟩
 rintro a w ⟨F, W⟩
 refine B0 F Aa H (fun F H => ?_) fun F H => ?_
 ·
  refine vc tk 5 F W fun a w F W => ?_
  refine Ao (Aw ?_)
  have H := Av H
  subst H
  refine AE (.inl Aa) F W Aa (Ai F Aa) ?_
  exact ⟨rfl, W.done⟩
 refine As (Ac ?_)
 obtain ⟨o1, G1, K1, L1⟩ := I5 H
 refine Aj (fun a w => some (Sum.inl ()) = some o1 ∧ Fr 100 [] [(1, .pointer (some ⟨b1, 0, none⟩)), (2, .bool false)] a ∧ Stw ⟨Y, [], w0⟩ [(b1, [.int .i64 p0.1, v1, v2])] [] w) ?_ ?_
 ·
  have H := G1
  clear G1 K1
  refine vc tk 6 F W fun a w F W => ?_
  refine AA H (fun s a w => Fr 100 [] [(1, .pointer (some ⟨b1, 0, none⟩)), (2, .bool false), (3, .int .i64 s)] a ∧ Stw ⟨Y, [], w0⟩ [(b1, [.int .i64 p0.1, v1, v2])] [] w) ⟨F.ra Aa, W⟩ fun s o a w H L2 hR => ?_
  obtain ⟨x1, rfl⟩ : ∃ x, x = s := ⟨s, rfl⟩
  obtain ⟨F, W⟩ := hR
  have F : Fr 100 [] [(1, .pointer (some ⟨b1, 0, none⟩)), (2, .bool false), (3, .int .i64 x1)] a := F
  have W : Stw ⟨Y, [], w0⟩ [(b1, [.int .i64 p0.1, v1, v2])] [] w := W
  rw [FN] at H
  refine D3 tk 6 [0] F W (ai fun a w F W => ?_)
  refine ls F W Aa (AR (r := Er) (l := p0.2.1) LE Aa F Aa (Ab h_v1)).q fun a w F W => ?_
  refine Bz tk 3 F W fun a w F W => ?_
  refine AN F Aa H (fun F H => ?_) fun F H => ?_
  ·
   refine Jk tk 9 [0] F W (ai fun a w F W => ?_)
   obtain ⟨x2, h1, H⟩ := Ae H
   refine ls F W Aa (Al (r := Er) SQ F Aa Aa (Ab h_v1) h1).q fun a w F W => ?_
   refine ls F W Aa (Ag (y := Value.agg #[.int .i64 x2.1, .int .i64 x2.2.1, .int .i64 x2.2.2.1, .int .i64 x2.2.2.2.1, .int .i64 x2.2.2.2.2.1, .int .i64 x2.2.2.2.2.2]) (j := 0) (i := x1) F Aa Aa (Ab h_v1) h1 SO.to QS Aa).q fun a w F W => ?_
   refine BU (cs := (QU)) F W Aa UI Aa fun b2 a w F W => ?_
   refine Fv 0 F W Aa Aa Aa QS Aa Aa Aa fun w W => ?_
   refine DP (Ac ?_)
   obtain ⟨o3, G3, K3⟩ := Ae H
   refine Aj (fun a w => ∃ x3 : Bool, some (x3) = some o3 ∧ Fr 100 [] [(1, .pointer (some ⟨b1, 0, none⟩)), (2, .bool false), (3, .int .i64 x1), (77, .bool x3)] a ∧ Stw ⟨Y, [], w0⟩ (PA b2 x2 b1 p0 v1 v2) [] w) ?_ ?_
   ·
    have H := G3
    clear G3 K3
    refine D3 tk 7 [0, 0] F W (ai (ai fun a w F W => ?_))
    rcases Bool.eq_false_or_eq_true (decide (x2.1 = x2.2.2.1)) with hb | hb
    ·
     have H := B5 (CT hb) H
     rw [hb] at F
     clear hb
     refine vl tk 35 F W fun a w F W => ?_
     refine Ac ?_
     have W := W.frontM (i := 1) Aa Aa
     have W := W.frontM (i := 1) Aa Aa
     exact ⟨_, H, F.ra Aa, W⟩
    have H := B6 (CV hb) H
    rw [hb] at F
    clear hb
    refine GL tk 5 [0] F W (ai fun a w F W => ?_)
    rcases Bool.eq_false_or_eq_true (decide (x2.2.2.2.2.1 < 1)) with hb | hb
    ·
     have H := B5 (CT hb) H
     rw [hb] at F
     clear hb
     refine vl tk 30 F W fun a w F W => ?_
     refine Ac ?_
     have W := W.frontM (i := 1) Aa Aa
     have W := W.frontM (i := 1) Aa Aa
     exact ⟨_, H, F.ra Aa, W⟩
    have H := B6 (CV hb) H
    rw [hb] at F
    clear hb
    refine GL tk 7 [0, 0] F W (ai (ai fun a w F W => ?_))
    rcases Bool.eq_false_or_eq_true (decide (x2.2.2.2.2.2 < x2.2.2.2.2.1)) with hb | hb
    ·
     have H := B5 (CT hb) H
     rw [hb] at F
     clear hb
     refine vl tk 23 F W fun a w F W => ?_
     refine Ac ?_
     have W := W.frontM (i := 1) Aa Aa
     have W := W.frontM (i := 1) Aa Aa
     exact ⟨_, H, F.ra Aa, W⟩
    have H := B6 (CV hb) H
    rw [hb] at F
    clear hb
    refine GL tk 5 [0] F W (ai fun a w F W => ?_)
    rcases Bool.eq_false_or_eq_true (decide (1000 < x2.2.2.2.2.2)) with hb | hb
    ·
     have H := B5 (CT hb) H
     rw [hb] at F
     clear hb
     refine vl tk 18 F W fun a w F W => ?_
     refine Ac ?_
     have W := W.frontM (i := 1) Aa Aa
     have W := W.frontM (i := 1) Aa Aa
     exact ⟨_, H, F.ra Aa, W⟩
    have H := B6 (CV hb) H
    rw [hb] at F
    clear hb
    refine GL tk 5 [1, 0, 0] F W (ai (ai (ai fun a w F W => ?_)))
    refine I3 (Ad F Aa Aa Aa Aa) ?_
    obtain ⟨x4, h2, H⟩ := Ae H
    refine ls F W Aa (AL (v := Value.bool x4) F Wv Aa (fun w W => JZ any w (v1) (v2) p0 x2.1 x2.2.1 _ h2 (Ci (Ab h_v1) W) (Ci (Ab h_v2) W))) fun a w F W => ?_
    refine vl tk 3 F W fun a w F W => ?_
    rcases Bool.eq_false_or_eq_true (!x4) with hb | hb
    ·
     have H := B5 hb H
     rw [hb] at F
     clear hb
     refine vl tk 9 F W fun a w F W => ?_
     refine Ac ?_
     have W := W.frontM (i := 1) Aa Aa
     have W := W.frontM (i := 1) Aa Aa
     exact ⟨_, H, F.ra Aa, W⟩
    have H := B6 (by rw [hb]; decide) H
    rw [hb] at F
    clear hb
    refine GL tk 5 [1, 0, 0] F W (ai (ai (ai fun a w F W => ?_)))
    refine I3 (Ad F Aa Aa Aa Aa) ?_
    obtain ⟨x5, h3, H⟩ := Ae H
    refine ls F W Aa (AL (v := Value.bool x5) F Wv Aa (fun w W => JZ any w (v1) (v2) p0 x2.2.2.1 x2.2.2.2.1 _ h3 (Ci (Ab h_v1) W) (Ci (Ab h_v2) W))) fun a w F W => ?_
    refine vl tk 3 F W fun a w F W => ?_
    refine Ac ?_
    have W := W.frontM (i := 1) Aa Aa
    have W := W.frontM (i := 1) Aa Aa
    exact ⟨_, H, F.ra Aa, W⟩
   rintro a w ⟨x3, hj, F, W⟩
   have hj := Av hj
   subst hj
   have H := K3
   clear G3 K3
   refine B0 F Aa H (fun F H => ?_) fun F H => ?_
   ·
    refine vc tk 5 F W fun a w F W => ?_
    refine Ao (Ax ?_)
    iterate 2 refine Aw ?_
    refine Ax (Aw ?_)
    have H := L2 _ H
    have H := L1 _ H
    have H := Av H
    subst H
    refine AE (.inl Aa) F W Aa (Ai F Aa) ?_
    exact ⟨rfl, W.done⟩
   refine As (An ?_)
   refine vn tk 5 F W fun a w F W => ?_
   refine Ac ?_
   have W := W.frontM (i := 1) Aa Aa
   have W := W.sub (M' := [(b1, [.int .i64 p0.1, v1, v2])]) (Z' := []) (List.Sublist.cons_cons _ (List.nil_sublist _)) (List.Sublist.refl _)
   exact ⟨_, H, F.ra Aa, W⟩
  refine Ay ?_
  iterate 2 refine AO ?_
  refine Az (Ac ?_)
  have H := L2 _ H
  exact ⟨H, F.ra Aa, W⟩
 rintro a w ⟨hj, F, W⟩
 have H := K1 _ hj
 clear hj G1 K1 L1
 obtain ⟨o4, G4, K4, L4⟩ := I5 H
 refine Aj (fun a w => some (Sum.inl ()) = some o4 ∧ Fr 100 [] [(2, .bool false)] a ∧ Stw ⟨Y, [], w0⟩ [(b1, [.int .i64 p0.1, v1, v2])] [] w) ?_ ?_
 ·
  have H := G4
  clear G4 K4
  refine vc tk 6 F W fun a w F W => ?_
  refine AA H (fun s a w => Fr 100 [] [(1, .pointer (some ⟨b1, 0, none⟩)), (2, .bool false), (5, .int .i64 s)] a ∧ Stw ⟨Y, [], w0⟩ [(b1, [.int .i64 p0.1, v1, v2])] [] w) ⟨F.ra Aa, W⟩ fun s o a w H L5 hR => ?_
  obtain ⟨x6, rfl⟩ : ∃ x, x = s := ⟨s, rfl⟩
  obtain ⟨F, W⟩ := hR
  have F : Fr 100 [] [(1, .pointer (some ⟨b1, 0, none⟩)), (2, .bool false), (5, .int .i64 x6)] a := F
  have W : Stw ⟨Y, [], w0⟩ [(b1, [.int .i64 p0.1, v1, v2])] [] w := W
  rw [FK] at H
  refine D3 tk 6 [0] F W (ai fun a w F W => ?_)
  refine ls F W Aa (AR (r := Ec) (l := p0.2.2) Jg Aa F Aa (Ab h_v2)).q fun a w F W => ?_
  refine Bz tk 3 F W fun a w F W => ?_
  refine AN F Aa H (fun F H => ?_) fun F H => ?_
  ·
   refine Gm tk 5 F W fun a w F W => ?_
   refine Bi W MO (by kernel_rfl) ?_
   refine qs F Aa (AK (v := Value.agg #[.int .i64 p0.1, v1, v2]) 0 F Aa Aa R8 Aa).q fun a F => ?_
   refine qs F Aa (Af MR Aa Aa Aa P1 F Aa 2 Aa).q fun a F => ?_
   refine qs F Aa (AK (v := v2) 0 F Aa Aa P1 Aa).q fun a F => ?_
   refine qs F Aa (Ak F Aa).q fun a F => ?_
   obtain ⟨x7, h4, H⟩ := Ae H
   refine qs F Aa (Al (r := Ec) SF F Aa Aa (Ab h_v2) h4).q fun a F => ?_
   refine qs F Aa (Af MQ Aa Aa Aa T3 F Aa (CS v2 + (x6).toNat * 2) Aa).q fun a F => ?_
   refine qs F Aa (Ag (y := Value.int .i64 x7.1) (j := 0) (i := x6) F Aa Aa (Ab h_v2) h4 Sc.to T3 Aa).q fun a F => ?_
   refine qs F Aa (Af MR Aa Aa Aa P1 F Aa 2 Aa).q fun a F => ?_
   refine qs F Aa (AK (v := v2) 0 F Aa Aa P1 Aa).q fun a F => ?_
   refine qs F Aa (Ak F Aa).q fun a F => ?_
   obtain ⟨x8, h5, H⟩ := Ae H
   refine qs F Aa (Al (r := Ec) SF F Aa Aa (Ab h_v2) h5).q fun a F => ?_
   refine qs F Aa (Af MQ Aa Aa Aa T3 F Aa (CS v2 + (x6).toNat * 2 + 1) Aa).q fun a F => ?_
   refine qs F Aa (Ag (y := Value.int .i64 x8.2) (j := 1) (i := x6) F Aa Aa (Ab h_v2) h5 Sc.to T3 Aa).q fun a F => ?_
   obtain ⟨x9, h6, H⟩ := Ae H
   refine qs F Aa (AL (v := Value.bool x9) F Wv Aa (fun w W => JZ any w (v1) (v2) p0 x7.1 x8.2 _ h6 (Ci (Ab h_v1) W) (Ci (Ab h_v2) W))) fun a F => ?_
   refine qs F Aa (MF F Aa).q fun a F => ?_
   refine AB fun w W => ?_
   refine Ac ?_
   refine B0 F Aa H (fun F H => ?_) fun F H => ?_
   ·
    refine vc tk 5 F W fun a w F W => ?_
    refine Ao (Ax ?_)
    iterate 2 refine Aw ?_
    refine Ax (Aw ?_)
    have H := L5 _ H
    have H := L4 _ H
    have H := Av H
    subst H
    refine AE (.inl Aa) F W Aa (Ai F Aa) ?_
    exact ⟨rfl, W.done⟩
   refine As (An ?_)
   refine vn tk 5 F W fun a w F W => ?_
   refine Ac ?_
   exact ⟨_, H, F.ra Aa, W⟩
  refine Ay ?_
  iterate 2 refine AO ?_
  refine Az (Ac ?_)
  have H := L5 _ H
  exact ⟨H, F.ra Aa, W⟩
 rintro a w ⟨hj, F, W⟩
 have H := K4 _ hj
 clear hj G4 K4 L4
 refine vc tk 5 F W fun a w F W => ?_
 refine Ao ?_
 have H := Av H
 subst H
 refine AE (.inl Aa) F W Aa (Ai F Aa) ?_
 exact ⟨rfl, W.done⟩
theorem Xo : Has Try.prog 64 := BS Try.func64
noncomputable def DB (p1 : List (List Int)) (x3 : Int) : Int → Option (Int ⊕ (Unit ⊕ (Int ⊕ (Unit ⊕ Bool))))
  | x5 => (ix p1 x3).bind fun x6 => (if x5 < (x6.length : Int) then ((ix p1 x3).bind fun x8 => (ix x8 x5).bind fun x9 => (if x9 < 0 then some true else (ix p1 x3).bind fun x10 => (ix x10 x5).bind fun x11 => some (decide (7 < x11)))).bind fun x7 => (if x7 = true then some (.inr (.inr (.inr (.inr false)))) else some (.inl (A3 (x5 + 1)))) else some (.inr (.inl ())))
noncomputable def Fx (p0 : Int × (List (Int × Int × Int × Int × Int × Int)) × (List (Int × Int))) (p1 : List (List Int)) : Int → Option (Int ⊕ (Unit ⊕ Bool))
  | x3 => (if x3 < (p1.length : Int) then Ep ((ix p1 x3).bind fun x4 => (if (x4.length : Int) ≠ (p0.2.2.length : Int) then some (.inr (.inr (.inr false))) else Au (DB p1 x3) 0)) fun _ => some (.inl (A3 (x3 + 1))) else some (.inr (.inl ())))
noncomputable def GY (p0 : Int × (List (Int × Int × Int × Int × Int × Int)) × (List (Int × Int))) (p1 : List (List Int)) : Option Bool := ((Ih p0).bind fun x2 => (if (!x2) = true then some true else some (decide ((p1.length : Int) ≠ p0.1)))).bind fun x1 => (if x1 = true then some false else Ep (Au (Fx p0 p1) 0) fun _ => some true)
theorem Lm (Y : Nat → Prop) (w0 : World) (v1 : Value) (v2 : Value) (v3 : Value) (p0 : Int × (List (Int × Int × Int × Int × Int × Int)) × (List (Int × Int))) (p1 : List (List Int)) (r : Bool) (H : GY p0 p1 = some r) (h_v1 : Sl w0 (NX []) Er v1 p0.2.1) (h_v2 : Sl w0 (NX []) Ec v2 p0.2.2) (h_v3 : Sl w0 (NX []) (Rp.slice (Rp.int .i64)) v3 p1) :
    Calls Try.prog 41 #[.agg #[.int .i64 p0.1, v1, v2], v3] w0 fun e w' => e = .returned (.bool r) ∧ Below w0.heap.size w0 w' := by
 refine enter Try.func41 Aa Try.ntmps41 Aa fun a F => ?_
 have W := Stw.start Y w0
 obtain ⟨v4, h1, h_v3⟩ := h_v3.ex Bh
 unfold GY at H
 refine vc tk 2 F W fun a w F W => ?_
 refine Bq (cs := [.int .i64 p0.1, v1, v2]) F W Aa Aa Aa fun b1 a w F W => ?_
 refine Bz tk 4 F W fun a w F W => ?_
 obtain ⟨o1, G1, K1⟩ := Ae H
 refine Aj (fun a w => ∃ x1 : Bool, some (x1) = some o1 ∧ Fr 59 [] [(1, v3), (2, .pointer (some ⟨b1, 0, none⟩)), (4, .bool false), (16, .bool x1)] a ∧ Stw ⟨Y, [], w0⟩ [(b1, [.int .i64 p0.1, v1, v2])] [] w) ?_ ?_
 ·
  have H := G1
  clear G1 K1
  refine D3 tk 2 [0] F W (ai fun a w F W => ?_)
  obtain ⟨x2, h2, H⟩ := Ae H
  refine ls F W Aa (AL (v := Value.bool x2) F Xo Aa (fun w W => OQ any w (v1) (v2) p0 _ h2 (Ci (Ab h_v1) W) (Ci (Ab h_v2) W))) fun a w F W => ?_
  refine vl tk 2 F W fun a w F W => ?_
  rcases Bool.eq_false_or_eq_true (!x2) with hb | hb
  ·
   have H := B5 hb H
   rw [hb] at F
   clear hb
   refine vl tk 7 F W fun a w F W => ?_
   refine Ac ?_
   exact ⟨_, H, F.ra Aa, W⟩
  have H := B6 (by rw [hb]; decide) H
  rw [hb] at F
  clear hb
  refine CO F W (Ad F Aa Aa Aa Aa) Aa (Ah Aa) (Ak F Aa).q fun a w F W => ?_
  refine CO F W (Ad F Aa Aa Aa Aa) Aa (Ah Aa) (AR (r := (Rp.slice (Rp.int .i64))) (l := p1) JP Aa F Aa (Aq Bh h1 (Ab h_v3))).q fun a w F W => ?_
  refine GL tk 5 [0] F W (ai fun a w F W => ?_)
  refine Ac ?_
  exact ⟨_, H, F.ra Aa, W⟩
 rintro a w ⟨x1, hj, F, W⟩
 have hj := Av hj
 subst hj
 have H := K1
 clear G1 K1
 refine B0 F Aa H (fun F H => ?_) fun F H => ?_
 ·
  refine vc tk 5 F W fun a w F W => ?_
  refine Ao (Aw ?_)
  have H := Av H
  subst H
  refine AE (.inl Aa) F W Aa (Ai F Aa) ?_
  exact ⟨rfl, W.done⟩
 refine As (Ac ?_)
 obtain ⟨o2, G2, K2, L2⟩ := I5 H
 refine Aj (fun a w => some (Sum.inl ()) = some o2 ∧ Fr 59 [] [(4, .bool false)] a ∧ Stw ⟨Y, [], w0⟩ [(b1, [.int .i64 p0.1, v1, v2])] [] w) ?_ ?_
 ·
  have H := G2
  clear G2 K2
  refine vc tk 6 F W fun a w F W => ?_
  refine AA H (fun s a w => Fr 59 [] [(1, v3), (2, .pointer (some ⟨b1, 0, none⟩)), (4, .bool false), (5, .int .i64 s)] a ∧ Stw ⟨Y, [], w0⟩ [(b1, [.int .i64 p0.1, v1, v2])] [] w) ⟨F.ra Aa, W⟩ fun s o a w H L3 hR => ?_
  obtain ⟨x3, rfl⟩ : ∃ x, x = s := ⟨s, rfl⟩
  obtain ⟨F, W⟩ := hR
  have F : Fr 59 [] [(1, v3), (2, .pointer (some ⟨b1, 0, none⟩)), (4, .bool false), (5, .int .i64 x3)] a := F
  have W : Stw ⟨Y, [], w0⟩ [(b1, [.int .i64 p0.1, v1, v2])] [] w := W
  rw [Fx] at H
  refine vc tk 5 F W fun a w F W => ?_
  refine ls F W Aa (AR (r := (Rp.slice (Rp.int .i64))) (l := p1) JP Aa F Aa (Aq Bh h1 (Ab h_v3))).q fun a w F W => ?_
  refine Bz tk 3 F W fun a w F W => ?_
  refine AN F Aa H (fun F H => ?_) fun F H => ?_
  ·
   refine As (Ac ?_)
   obtain ⟨o4, G4, K4, L4⟩ := I5 H
   refine Aj (fun a w => some (Sum.inl ()) = some o4 ∧ Fr 59 [] [(1, v3), (2, .pointer (some ⟨b1, 0, none⟩)), (4, .bool false), (5, .int .i64 x3)] a ∧ Stw ⟨Y, [], w0⟩ [(b1, [.int .i64 p0.1, v1, v2])] [] w) ?_ ?_
   ·
    have H := G4
    clear G4 K4
    refine vc tk 3 F W fun a w F W => ?_
    refine Bi W MO (by kernel_rfl) ?_
    iterate 2 refine qs F Aa (Ak F Aa).q fun a F => ?_
    obtain ⟨x4, h3, H⟩ := Ae H
    obtain ⟨v5, h4, h5⟩ := Co h1 h3
    have h6 : C2 v5 = [(v5.1)] := congrArg (fun q : List Int => ([(v5.1)] : List Value)) h5
    refine qs F Aa (Al (r := (Rp.vsl (Rp.int .i64))) Ke F Aa Aa (Ab h_v3) h4).q fun a F => ?_
    refine qs F Aa (Ag (y := (v5.1)) (j := 0) (i := x3) (enc := C2) F Aa Aa (Ab h_v3) h4 Gd Jv (by rw [h6]; rfl)).q fun a F => ?_
    refine qs F Aa (AR (r := (Rp.int .i64)) (l := x4) Hl Aa F Aa (A4 (Ab h_v3) h4 BL.here (congrArg (fun q : List Int => q) h5))).q fun a F => ?_
    refine qs F Aa (Af MR Aa Aa Aa P1 F Aa 2 Aa).q fun a F => ?_
    refine qs F Aa (AK (v := v2) 0 F Aa Aa P1 Aa).q fun a F => ?_
    refine qs F Aa (AR (r := Ec) (l := p0.2.2) Jg Aa F Aa (Ab h_v2)).q fun a F => ?_
    refine qs F Aa (IU F Aa Aa).q fun a F => ?_
    refine AB fun w W => ?_
    refine Ac ?_
    refine AN F Aa H (fun F H => ?_) fun F H => ?_
    ·
     refine vc tk 5 F W fun a w F W => ?_
     refine Ao (Aw (Ax ?_))
     iterate 2 refine Aw ?_
     refine Ax (Aw ?_)
     have H := L4 _ H
     have H := L3 _ H
     have H := L2 _ H
     have H := Av H
     subst H
     refine AE (.inl Aa) F W Aa (Ai F Aa) ?_
     exact ⟨rfl, W.done⟩
    refine Gm tk 8 F W fun a w F W => ?_
    refine AA H (fun s a w => Fr 59 [] [(1, v3), (2, .pointer (some ⟨b1, 0, none⟩)), (4, .bool false), (5, .int .i64 x3), (6, .int .i64 s)] a ∧ Stw ⟨Y, [], w0⟩ [(b1, [.int .i64 p0.1, v1, v2])] [] w) ⟨F.ra Aa, W⟩ fun s o a w H L5 hR => ?_
    obtain ⟨x5, rfl⟩ : ∃ x, x = s := ⟨s, rfl⟩
    obtain ⟨F, W⟩ := hR
    have F : Fr 59 [] [(1, v3), (2, .pointer (some ⟨b1, 0, none⟩)), (4, .bool false), (5, .int .i64 x3), (6, .int .i64 x5)] a := F
    have W : Stw ⟨Y, [], w0⟩ [(b1, [.int .i64 p0.1, v1, v2])] [] w := W
    rw [DB] at H
    refine vc tk 6 F W fun a w F W => ?_
    obtain ⟨x6, h7, H⟩ := Ae H
    obtain ⟨v6, h8, h9⟩ := Co h1 h7
    have h10 : C2 v6 = [(v6.1)] := congrArg (fun q : List Int => ([(v6.1)] : List Value)) h9
    refine ls F W Aa (Al (r := (Rp.vsl (Rp.int .i64))) Ke F Aa Aa (Ab h_v3) h8).q fun a w F W => ?_
    refine ls F W Aa (Ag (y := (v6.1)) (j := 0) (i := x3) (enc := C2) F Aa Aa (Ab h_v3) h8 Gd Jv (by rw [h10]; rfl)).q fun a w F W => ?_
    refine ls F W Aa (AR (r := (Rp.int .i64)) (l := x6) Hl Aa F Aa (A4 (Ab h_v3) h8 BL.here (congrArg (fun q : List Int => q) h9))).q fun a w F W => ?_
    refine Bz tk 3 F W fun a w F W => ?_
    refine AN F Aa H (fun F H => ?_) fun F H => ?_
    ·
     refine Gm tk 4 F W fun a w F W => ?_
     obtain ⟨o6, G6, K6⟩ := Ae H
     refine Aj (fun a w => ∃ x7 : Bool, some (x7) = some o6 ∧ Fr 59 [] [(1, v3), (2, .pointer (some ⟨b1, 0, none⟩)), (4, .bool false), (5, .int .i64 x3), (6, .int .i64 x5), (58, .bool x7)] a ∧ Stw ⟨Y, [], w0⟩ [(b1, [.int .i64 p0.1, v1, v2])] [] w) ?_ ?_
     ·
      have H := G6
      clear G6 K6
      refine vc tk 3 F W fun a w F W => ?_
      obtain ⟨x8, h11, H⟩ := Ae H
      obtain ⟨v7, h12, h13⟩ := Co h1 h11
      have h14 : C2 v7 = [(v7.1)] := congrArg (fun q : List Int => ([(v7.1)] : List Value)) h13
      refine ls F W Aa (Al (r := (Rp.vsl (Rp.int .i64))) Ke F Aa Aa (Ab h_v3) h12).q fun a w F W => ?_
      refine ls F W Aa (Ag (y := (v7.1)) (j := 0) (i := x3) (enc := C2) F Aa Aa (Ab h_v3) h12 Gd Jv (by rw [h14]; rfl)).q fun a w F W => ?_
      refine ls F W Aa (Ak F Aa).q fun a w F W => ?_
      obtain ⟨x9, h15, H⟩ := Ae H
      refine ls F W Aa (Al (r := (Rp.int .i64)) FS F Aa Aa (A4 (Ab h_v3) h12 BL.here (congrArg (fun q : List Int => q) h13)) h15).q fun a w F W => ?_
      refine ls F W Aa (Ag (y := Value.int .i64 x9) (j := 0) (i := x5) F Aa Aa (A4 (Ab h_v3) h12 BL.here (congrArg (fun q : List Int => q) h13)) h15 Fl.int.to T3 Aa).q fun a w F W => ?_
      refine vl tk 2 F W fun a w F W => ?_
      rcases Bool.eq_false_or_eq_true (decide (x9 < 0)) with hb | hb
      ·
       have H := B5 (CT hb) H
       rw [hb] at F
       clear hb
       refine vl tk 10 F W fun a w F W => ?_
       refine Ac ?_
       exact ⟨_, H, F.ra Aa, W⟩
      have H := B6 (CV hb) H
      rw [hb] at F
      clear hb
      refine vl tk 2 F W fun a w F W => ?_
      obtain ⟨x10, h16, H⟩ := Ae H
      obtain ⟨v8, h17, h18⟩ := Co h1 h16
      have h19 : C2 v8 = [(v8.1)] := congrArg (fun q : List Int => ([(v8.1)] : List Value)) h18
      refine CO F W (Ad F Aa Aa Aa Aa) Aa (Ah Aa) (Al (r := (Rp.vsl (Rp.int .i64))) Ke F Aa Aa (Ab h_v3) h17).q fun a w F W => ?_
      refine CO F W (Ad F Aa Aa Aa Aa) Aa (Ah Aa) (Ag (y := (v8.1)) (j := 0) (i := x3) (enc := C2) F Aa Aa (Ab h_v3) h17 Gd Jv (by rw [h19]; rfl)).q fun a w F W => ?_
      refine CO F W (Ad F Aa Aa Aa Aa) Aa (Ah Aa) (Ak F Aa).q fun a w F W => ?_
      obtain ⟨x11, h20, H⟩ := Ae H
      refine CO F W (Ad F Aa Aa Aa Aa) Aa (Ah Aa) (Al (r := (Rp.int .i64)) FS F Aa Aa (A4 (Ab h_v3) h17 BL.here (congrArg (fun q : List Int => q) h18)) h20).q fun a w F W => ?_
      refine CO F W (Ad F Aa Aa Aa Aa) Aa (Ah Aa) (Ag (y := Value.int .i64 x11) (j := 0) (i := x5) F Aa Aa (A4 (Ab h_v3) h17 BL.here (congrArg (fun q : List Int => q) h18)) h20 Fl.int.to T3 Aa).q fun a w F W => ?_
      refine vl tk 3 F W fun a w F W => ?_
      refine Ac ?_
      exact ⟨_, H, F.ra Aa, W⟩
     rintro a w ⟨x7, hj, F, W⟩
     have hj := Av hj
     subst hj
     have H := K6
     clear G6 K6
     refine B0 F Aa H (fun F H => ?_) fun F H => ?_
     ·
      refine vc tk 5 F W fun a w F W => ?_
      refine Ao (Ax ?_)
      iterate 2 refine Aw ?_
      iterate 2 refine Ax ?_
      iterate 2 refine Aw ?_
      refine Ax (Aw ?_)
      have H := L5 _ H
      have H := L4 _ H
      have H := L3 _ H
      have H := L2 _ H
      have H := Av H
      subst H
      refine AE (.inl Aa) F W Aa (Ai F Aa) ?_
      exact ⟨rfl, W.done⟩
     refine As (An ?_)
     refine vn tk 5 F W fun a w F W => ?_
     refine Ac ?_
     exact ⟨_, H, F.ra Aa, W⟩
    refine Ay ?_
    iterate 2 refine AO ?_
    refine Az (An (Ac ?_))
    have H := L5 _ H
    exact ⟨H, F.ra Aa, W⟩
   rintro a w ⟨hj, F, W⟩
   have H := K4 _ hj
   clear hj G4 K4 L4
   refine vc tk 5 F W fun a w F W => ?_
   refine Ac ?_
   exact ⟨_, H, F.ra Aa, W⟩
  refine Ay ?_
  iterate 2 refine AO ?_
  refine Az (Ac ?_)
  have H := L3 _ H
  exact ⟨H, F.ra Aa, W⟩
 rintro a w ⟨hj, F, W⟩
 have H := K2 _ hj
 clear hj G2 K2 L2
 refine vc tk 5 F W fun a w F W => ?_
 refine Ao ?_
 have H := Av H
 subst H
 refine AE (.inl Aa) F W Aa (Ai F Aa) ?_
 exact ⟨rfl, W.done⟩
theorem WO : Has Try.prog 41 := BS Try.func41
noncomputable def HJ (p0 : Int × (List (Int × Int × Int × Int × Int × Int)) × (List (Int × Int))) (p1 : Int) (p2 : Int) : Int → Option (Int ⊕ (Unit ⊕ (Int × Int × Int × Bool)))
  | x1 => (if x1 < (p0.2.1.length : Int) then (ix p0.2.1 x1).bind fun x2 => (if (decide (x2.1 = p1) && decide (x2.2.1 = p2)) = true then some (.inr (.inr (x2.2.2.1, x2.2.2.2.1, x1, true))) else (if (decide (x2.2.2.1 = p1) && decide (x2.2.2.2.1 = p2)) = true then some (.inr (.inr (x2.1, x2.2.1, x1, true))) else some (.inl (A3 (x1 + 1))))) else some (.inr (.inl ())))
noncomputable def Hq (p0 : Int × (List (Int × Int × Int × Int × Int × Int)) × (List (Int × Int))) (p1 : Int) (p2 : Int) : Option (Int × Int × Int × Bool) := Ep (Au (HJ p0 p1 p2) 0) fun _ => some (0, 0, 0, false)
theorem Me (Y : Nat → Prop) (w0 : World) (v1 : Value) (v2 : Value) (p0 : Int × (List (Int × Int × Int × Int × Int × Int)) × (List (Int × Int))) (p1 : Int) (p2 : Int) (r : Int × Int × Int × Bool) (H : Hq p0 p1 p2 = some r) (h_v1 : Sl w0 (NX []) Er v1 p0.2.1) (h_v2 : Sl w0 (NX []) Ec v2 p0.2.2) :
    Calls Try.prog 48 #[.agg #[.int .i64 p0.1, v1, v2], .int .i64 p1, .int .i64 p2] w0 fun e w' => e = .returned (.tuple #[.int .i64 r.1, .int .i64 r.2.1, .int .i64 r.2.2.1, .bool r.2.2.2]) ∧ Below w0.heap.size w0 w' := by
 refine enter Try.func48 Aa Try.ntmps48 Aa fun a F => ?_
 have W := Stw.start Y w0
 unfold Hq at H
 refine vc tk 2 F W fun a w F W => ?_
 refine Bq (cs := [.int .i64 p0.1, v1, v2]) F W Aa Aa Aa fun b1 a w F W => ?_
 refine vl tk 5 F W fun a w F W => ?_
 refine Ac ?_
 obtain ⟨o1, G1, K1, L1⟩ := I5 H
 refine Aj (fun a w => some (Sum.inl ()) = some o1 ∧ Fr 54 [] [(6, .int .i64 0), (7, .int .i64 0), (8, .int .i64 0), (9, .bool false)] a ∧ Stw ⟨Y, [], w0⟩ [(b1, [.int .i64 p0.1, v1, v2])] [] w) ?_ ?_
 ·
  have H := G1
  clear G1 K1
  refine vc tk 6 F W fun a w F W => ?_
  refine AA H (fun s a w => Fr 54 [] [(1, .int .i64 p1), (2, .int .i64 p2), (3, .pointer (some ⟨b1, 0, none⟩)), (6, .int .i64 0), (7, .int .i64 0), (8, .int .i64 0), (9, .bool false), (10, .int .i64 s)] a ∧ Stw ⟨Y, [], w0⟩ [(b1, [.int .i64 p0.1, v1, v2])] [] w) ⟨F.ra Aa, W⟩ fun s o a w H L2 hR => ?_
  obtain ⟨x1, rfl⟩ : ∃ x, x = s := ⟨s, rfl⟩
  obtain ⟨F, W⟩ := hR
  have F : Fr 54 [] [(1, .int .i64 p1), (2, .int .i64 p2), (3, .pointer (some ⟨b1, 0, none⟩)), (6, .int .i64 0), (7, .int .i64 0), (8, .int .i64 0), (9, .bool false), (10, .int .i64 x1)] a := F
  have W : Stw ⟨Y, [], w0⟩ [(b1, [.int .i64 p0.1, v1, v2])] [] w := W
  rw [HJ] at H
  refine D3 tk 6 [0] F W (ai fun a w F W => ?_)
  refine ls F W Aa (AR (r := Er) (l := p0.2.1) LE Aa F Aa (Ab h_v1)).q fun a w F W => ?_
  refine Bz tk 3 F W fun a w F W => ?_
  refine AN F Aa H (fun F H => ?_) fun F H => ?_
  ·
   refine Jk tk 9 [0] F W (ai fun a w F W => ?_)
   obtain ⟨x2, h1, H⟩ := Ae H
   refine ls F W Aa (Al (r := Er) SQ F Aa Aa (Ab h_v1) h1).q fun a w F W => ?_
   refine ls F W Aa (Ag (y := Value.agg #[.int .i64 x2.1, .int .i64 x2.2.1, .int .i64 x2.2.2.1, .int .i64 x2.2.2.2.1, .int .i64 x2.2.2.2.2.1, .int .i64 x2.2.2.2.2.2]) (j := 0) (i := x1) F Aa Aa (Ab h_v1) h1 SO.to QS Aa).q fun a w F W => ?_
   refine BU (cs := (QU)) F W Aa UI Aa fun b2 a w F W => ?_
   refine Fv 0 F W Aa Aa Aa QS Aa Aa Aa fun w W => ?_
   refine Bz tk 3 F W fun a w F W => ?_
   refine Aj (fun a w => Fr 54 [] [(1, .int .i64 p1), (2, .int .i64 p2), (3, .pointer (some ⟨b1, 0, none⟩)), (6, .int .i64 0), (7, .int .i64 0), (8, .int .i64 0), (9, .bool false), (10, .int .i64 x1), (11, .pointer (some ⟨b2, 0, none⟩)), (33, .bool (decide (x2.1 = p1) && decide (x2.2.1 = p2)))] a ∧ Stw ⟨Y, [], w0⟩ (PA b2 x2 b1 p0 v1 v2) [] w) ?_ ?_
   ·
    refine D3 tk 6 [0] F W (ai fun a w F W => ?_)
    rcases Bool.eq_false_or_eq_true (decide (x2.1 = p1)) with hb0 | hb0
    ·
     rw [hb0] at F
     refine GL tk 6 [0] F W (ai fun a w F W => ?_)
     refine Ac ?_
     exact ⟨F.re ⟨rfl, Aa, Aa, Aa, Aa, Aa, Aa, Aa, Aa, (Gw (by try rw [hb0]; all_goals simp only [Gv])), trivial⟩, W⟩
    rw [hb0] at F
    refine vl tk 6 F W fun a w F W => ?_
    refine Ac ?_
    exact ⟨F.re ⟨rfl, Aa, Aa, Aa, Aa, Aa, Aa, Aa, Aa, (Gw (by try rw [hb0]; all_goals simp only [Gv])), trivial⟩, W⟩
   rintro a w ⟨F, W⟩
   refine B0 F Aa H (fun F H => ?_) fun F H => ?_
   ·
    refine Nq ?_
    refine Bi W MO (by kernel_rfl) ?_
    refine qs F Aa (Af MG Aa Aa Aa T3 F Aa 2 Aa).q fun a F => ?_
    refine qs F Aa (AK (v := Value.int .i64 x2.2.2.1) 0 F Aa Aa T3 Aa).q fun a F => ?_
    refine qs F Aa (Af MG Aa Aa Aa T3 F Aa 3 Aa).q fun a F => ?_
    refine qs F Aa (AK (v := Value.int .i64 x2.2.2.2.1) 0 F Aa Aa T3 Aa).q fun a F => ?_
    refine qs F Aa (Ak F Aa).q fun a F => ?_
    iterate 4 refine qs F Aa (Bl F Aa).q fun a F => ?_
    refine AB fun w W => ?_
    refine Ac (Ao (Aw (Ax ?_)))
    iterate 2 refine Aw ?_
    refine Ax (Aw ?_)
    have H := L2 _ H
    have H := L1 _ H
    have H := Av H
    subst H
    refine Na (.inl Aa) F W Aa (Ai F Aa) (Ai F Aa) (Ai F Aa) (Ai F Aa) ?_
    exact ⟨rfl, W.done⟩
   refine Gm tk 2 F W fun a w F W => ?_
   refine Aj (fun a w => Fr 54 [] [(1, .int .i64 p1), (2, .int .i64 p2), (3, .pointer (some ⟨b1, 0, none⟩)), (6, .int .i64 0), (7, .int .i64 0), (8, .int .i64 0), (9, .bool false), (10, .int .i64 x1), (11, .pointer (some ⟨b2, 0, none⟩)), (48, .bool (decide (x2.2.2.1 = p1) && decide (x2.2.2.2.1 = p2)))] a ∧ Stw ⟨Y, [], w0⟩ (PA b2 x2 b1 p0 v1 v2) [] w) ?_ ?_
   ·
    refine D3 tk 6 [0] F W (ai fun a w F W => ?_)
    rcases Bool.eq_false_or_eq_true (decide (x2.2.2.1 = p1)) with hb0 | hb0
    ·
     rw [hb0] at F
     refine GL tk 6 [0] F W (ai fun a w F W => ?_)
     refine Ac ?_
     exact ⟨F.re ⟨rfl, Aa, Aa, Aa, Aa, Aa, Aa, Aa, Aa, (Gw (by try rw [hb0]; all_goals simp only [Gv])), trivial⟩, W⟩
    rw [hb0] at F
    refine vl tk 6 F W fun a w F W => ?_
    refine Ac ?_
    exact ⟨F.re ⟨rfl, Aa, Aa, Aa, Aa, Aa, Aa, Aa, Aa, (Gw (by try rw [hb0]; all_goals simp only [Gv])), trivial⟩, W⟩
   rintro a w ⟨F, W⟩
   refine B0 F Aa H (fun F H => ?_) fun F H => ?_
   ·
    refine Nq ?_
    refine Bi W MO (by kernel_rfl) ?_
    refine qs F Aa (Af MG Aa Aa Aa T3 F Aa 0 Aa).q fun a F => ?_
    refine qs F Aa (AK (v := Value.int .i64 x2.1) 0 F Aa Aa T3 Aa).q fun a F => ?_
    refine qs F Aa (Af MG Aa Aa Aa T3 F Aa 1 Aa).q fun a F => ?_
    refine qs F Aa (AK (v := Value.int .i64 x2.2.1) 0 F Aa Aa T3 Aa).q fun a F => ?_
    refine qs F Aa (Ak F Aa).q fun a F => ?_
    iterate 4 refine qs F Aa (Bl F Aa).q fun a F => ?_
    refine AB fun w W => ?_
    refine Ac (Ao (Ax ?_))
    iterate 2 refine Aw ?_
    refine Ax (Aw ?_)
    have H := L2 _ H
    have H := L1 _ H
    have H := Av H
    subst H
    refine Na (.inl Aa) F W Aa (Ai F Aa) (Ai F Aa) (Ai F Aa) (Ai F Aa) ?_
    exact ⟨rfl, W.done⟩
   refine As (An ?_)
   refine vn tk 5 F W fun a w F W => ?_
   refine Ac ?_
   have W := W.frontM (i := 1) Aa Aa
   have W := W.sub (M' := [(b1, [.int .i64 p0.1, v1, v2])]) (Z' := []) (List.Sublist.cons_cons _ (List.nil_sublist _)) (List.Sublist.refl _)
   exact ⟨_, H, F.ra Aa, W⟩
  refine Ay ?_
  iterate 2 refine AO ?_
  refine Az (Ac ?_)
  have H := L2 _ H
  exact ⟨H, F.ra Aa, W⟩
 rintro a w ⟨hj, F, W⟩
 have H := K1 _ hj
 clear hj G1 K1 L1
 refine vc tk 8 F W fun a w F W => ?_
 refine Ao ?_
 have H := Av H
 subst H
 refine Na (.inl Aa) F W Aa (Ai F Aa) (Ai F Aa) (Ai F Aa) (Ai F Aa) ?_
 exact ⟨rfl, W.done⟩
theorem W0 : Has Try.prog 48 := BS Try.func48
noncomputable def JD (p0 : Int × (List (Int × Int × Int × Int × Int × Int)) × (List (Int × Int))) (p1 : List (List Int)) (p2 : Int) (p3 : Int) : Option (Int × Bool) := (if p2 < 0 then some true else (if (p1.length : Int) ≤ p2 then some true else (if p3 < 0 then some true else (ix p1 p2).bind fun x2 => some (decide ((x2.length : Int) ≤ p3))))).bind fun x1 => (if x1 = true then some (0, false) else (ix p1 p2).bind fun x3 => (ix x3 p3).bind fun x4 => (Hq p0 p2 x4).bind fun x5 => some (x5.1, x5.2.2.2))
theorem PJ (Y : Nat → Prop) (w0 : World) (v1 : Value) (v2 : Value) (v3 : Value) (p0 : Int × (List (Int × Int × Int × Int × Int × Int)) × (List (Int × Int))) (p1 : List (List Int)) (p2 : Int) (p3 : Int) (r : Int × Bool) (H : JD p0 p1 p2 p3 = some r) (h_v1 : Sl w0 (NX []) Er v1 p0.2.1) (h_v2 : Sl w0 (NX []) Ec v2 p0.2.2) (h_v3 : Sl w0 (NX []) (Rp.slice (Rp.int .i64)) v3 p1) :
    Calls Try.prog 85 #[.agg #[.int .i64 p0.1, v1, v2], v3, .int .i64 p2, .int .i64 p3] w0 fun e w' => e = .returned (.tuple #[.int .i64 r.1, .bool r.2]) ∧ Below w0.heap.size w0 w' := by
 refine enter Try.func85 Aa Try.ntmps85 Aa fun a F => ?_
 have W := Stw.start Y w0
 obtain ⟨v4, h1, h_v3⟩ := h_v3.ex Bh
 unfold JD at H
 refine vc tk 2 F W fun a w F W => ?_
 refine Bq (cs := [.int .i64 p0.1, v1, v2]) F W Aa Aa Aa fun b1 a w F W => ?_
 refine Bz tk 5 F W fun a w F W => ?_
 obtain ⟨o1, G1, K1⟩ := Ae H
 refine Aj (fun a w => ∃ x1 : Bool, some (x1) = some o1 ∧ Fr 52 [] [(1, v3), (2, .int .i64 p2), (3, .int .i64 p3), (4, .pointer (some ⟨b1, 0, none⟩)), (8, .int .i64 0), (9, .bool false), (34, .bool x1)] a ∧ Stw ⟨Y, [], w0⟩ [(b1, [.int .i64 p0.1, v1, v2])] [] w) ?_ ?_
 ·
  have H := G1
  clear G1 K1
  refine vc tk 4 F W fun a w F W => ?_
  rcases Bool.eq_false_or_eq_true (decide (p2 < 0)) with hb | hb
  ·
   have H := B5 (CT hb) H
   rw [hb] at F
   clear hb
   refine vl tk 19 F W fun a w F W => ?_
   refine Ac ?_
   exact ⟨_, H, F.ra Aa, W⟩
  have H := B6 (CV hb) H
  rw [hb] at F
  clear hb
  refine vl tk 2 F W fun a w F W => ?_
  refine CO F W (Ad F Aa Aa Aa Aa) Aa (Ah Aa) (AR (r := (Rp.slice (Rp.int .i64))) (l := p1) JP Aa F Aa (Aq Bh h1 (Ab h_v3))).q fun a w F W => ?_
  refine vl tk 3 F W fun a w F W => ?_
  rcases Bool.eq_false_or_eq_true (decide ((p1.length : Int) ≤ p2)) with hb | hb
  ·
   have H := B5 (CT hb) H
   rw [hb] at F
   clear hb
   refine vl tk 13 F W fun a w F W => ?_
   refine Ac ?_
   exact ⟨_, H, F.ra Aa, W⟩
  have H := B6 (CV hb) H
  rw [hb] at F
  clear hb
  refine vl tk 4 F W fun a w F W => ?_
  rcases Bool.eq_false_or_eq_true (decide (p3 < 0)) with hb | hb
  ·
   have H := B5 (CT hb) H
   rw [hb] at F
   clear hb
   refine vl tk 9 F W fun a w F W => ?_
   refine Ac ?_
   exact ⟨_, H, F.ra Aa, W⟩
  have H := B6 (CV hb) H
  rw [hb] at F
  clear hb
  refine vl tk 3 F W fun a w F W => ?_
  obtain ⟨x2, h2, H⟩ := Ae H
  obtain ⟨v5, h3, h4⟩ := Co h1 h2
  have h5 : C2 v5 = [(v5.1)] := congrArg (fun q : List Int => ([(v5.1)] : List Value)) h4
  refine CO F W (Ad F Aa Aa Aa Aa) Aa (Ah Aa) (Al (r := (Rp.vsl (Rp.int .i64))) Ke F Aa Aa (Ab h_v3) h3).q fun a w F W => ?_
  refine CO F W (Ad F Aa Aa Aa Aa) Aa (Ah Aa) (Ag (y := (v5.1)) (j := 0) (i := p2) (enc := C2) F Aa Aa (Ab h_v3) h3 Gd Jv (by rw [h5]; rfl)).q fun a w F W => ?_
  refine CO F W (Ad F Aa Aa Aa Aa) Aa (Ah Aa) (AR (r := (Rp.int .i64)) (l := x2) Hl Aa F Aa (A4 (Ab h_v3) h3 BL.here (congrArg (fun q : List Int => q) h4))).q fun a w F W => ?_
  refine vl tk 3 F W fun a w F W => ?_
  refine Ac ?_
  exact ⟨_, H, F.ra Aa, W⟩
 rintro a w ⟨x1, hj, F, W⟩
 have hj := Av hj
 subst hj
 have H := K1
 clear G1 K1
 refine B0 F Aa H (fun F H => ?_) fun F H => ?_
 ·
  refine vc tk 6 F W fun a w F W => ?_
  refine Ao (Aw ?_)
  have H := Av H
  subst H
  refine GI (.inl Aa) F W Aa (Ai F Aa) (Ai F Aa) ?_
  exact ⟨rfl, W.done⟩
 refine Gm tk 3 F W fun a w F W => ?_
 refine Bi W MO (by kernel_rfl) ?_
 refine qs F Aa (AK (v := Value.agg #[.int .i64 p0.1, v1, v2]) 0 F Aa Aa R8 Aa).q fun a F => ?_
 iterate 3 refine qs F Aa (Ak F Aa).q fun a F => ?_
 obtain ⟨x3, h6, H⟩ := Ae H
 obtain ⟨v6, h7, h8⟩ := Co h1 h6
 have h9 : C2 v6 = [(v6.1)] := congrArg (fun q : List Int => ([(v6.1)] : List Value)) h8
 refine qs F Aa (Al (r := (Rp.vsl (Rp.int .i64))) Ke F Aa Aa (Ab h_v3) h7).q fun a F => ?_
 refine qs F Aa (Ag (y := (v6.1)) (j := 0) (i := p2) (enc := C2) F Aa Aa (Ab h_v3) h7 Gd Jv (by rw [h9]; rfl)).q fun a F => ?_
 refine qs F Aa (Ak F Aa).q fun a F => ?_
 obtain ⟨x4, h10, H⟩ := Ae H
 refine qs F Aa (Al (r := (Rp.int .i64)) FS F Aa Aa (A4 (Ab h_v3) h7 BL.here (congrArg (fun q : List Int => q) h8)) h10).q fun a F => ?_
 refine qs F Aa (Ag (y := Value.int .i64 x4) (j := 0) (i := p3) F Aa Aa (A4 (Ab h_v3) h7 BL.here (congrArg (fun q : List Int => q) h8)) h10 Fl.int.to T3 Aa).q fun a F => ?_
 obtain ⟨x5, h11, H⟩ := Ae H
 refine qs F Aa (AL (v := Value.tuple #[.int .i64 x5.1, .int .i64 x5.2.1, .int .i64 x5.2.2.1, .bool x5.2.2.2]) F W0 Aa (fun w W => Me any w (v1) (v2) p0 p2 x4 _ h11 (Ci (Ab h_v1) W) (Ci (Ab h_v2) W))) fun a F => ?_
 refine qs F Aa (Ak F Aa).q fun a F => ?_
 refine qs F Aa (A9 (v := Value.int .i64 x5.1) F Aa Aa).q fun a F => ?_
 refine qs F Aa (A9 (v := Value.int .i64 x5.2.1) F Aa Aa).q fun a F => ?_
 refine qs F Aa (A9 (v := Value.int .i64 x5.2.2.1) F Aa Aa).q fun a F => ?_
 refine qs F Aa (A9 (v := Value.bool x5.2.2.2) F Aa Aa).q fun a F => ?_
 iterate 4 refine qs F Aa (Bl F Aa).q fun a F => ?_
 refine AB fun w W => ?_
 refine vn tk 8 F W fun a w F W => ?_
 refine Ao ?_
 have H := Av H
 subst H
 refine GI (.inl Aa) F W Aa (Ai F Aa) (Ai F Aa) ?_
 exact ⟨rfl, W.done⟩
theorem Xu : Has Try.prog 85 := BS Try.func85
noncomputable def D5 (p0 : Int × (List (Int × Int × Int × Int × Int × Int)) × (List (Int × Int))) (p1 : List (List Int)) (p3 : Int) (p4 : Int) : (Int × Int) → Option ((Int × Int) ⊕ (Int ⊕ (Int × Bool)))
  | (x2, x3) => (if x3 ≤ p4 then ((ix p0.2.2 p3).bind fun x5 => (if x5.1 = x2 then (ix p0.2.2 p3).bind fun x6 => (ix p1 x2).bind fun x7 => (ix x7 p3).bind fun x8 => some (decide (x6.2 = x8)) else some false)).bind fun x4 => (if x4 = true then some (.inr (.inr (x2, decide (x3 = p4)))) else (if x3 = p4 then some (.inr (.inr (x2, false))) else (JD p0 p1 x2 p3).bind fun x9 => (if (!x9.2) = true then some (.inr (.inr ((-1), false))) else some (.inl (x9.1, A3 (x3 + 1)))))) else some (.inr (.inl x2)))
noncomputable def EP (p0 : Int × (List (Int × Int × Int × Int × Int × Int)) × (List (Int × Int))) (p1 : List (List Int)) (p2 : Int) (p3 : Int) (p4 : Int) : Option (Int × Bool) := Ep (Au (D5 p0 p1 p3 p4) (p2, 0)) fun x1 => some (x1, false)
theorem Lj (Y : Nat → Prop) (w0 : World) (v1 : Value) (v2 : Value) (v3 : Value) (p0 : Int × (List (Int × Int × Int × Int × Int × Int)) × (List (Int × Int))) (p1 : List (List Int)) (p2 : Int) (p3 : Int) (p4 : Int) (r : Int × Bool) (H : EP p0 p1 p2 p3 p4 = some r) (h_v1 : Sl w0 (NX []) Er v1 p0.2.1) (h_v2 : Sl w0 (NX []) Ec v2 p0.2.2) (h_v3 : Sl w0 (NX []) (Rp.slice (Rp.int .i64)) v3 p1) :
    Calls Try.prog 65 #[.agg #[.int .i64 p0.1, v1, v2], v3, .int .i64 p2, .int .i64 p3, .int .i64 p4] w0 fun e w' => e = .returned (.tuple #[.int .i64 r.1, .bool r.2]) ∧ Below w0.heap.size w0 w' := by
 refine enter Try.func65 Aa Try.ntmps65 Aa fun a F => ?_
 have W := Stw.start Y w0
 obtain ⟨v4, h1, h_v3⟩ := h_v3.ex Bh
 unfold EP at H
 refine vc tk 2 F W fun a w F W => ?_
 refine Bq (cs := [.int .i64 p0.1, v1, v2]) F W Aa Aa Aa fun b1 a w F W => ?_
 refine Bz tk 10 F W fun a w F W => ?_
 obtain ⟨o1, G1, K1, L1⟩ := I5 H
 refine Aj (fun a w => ∃ x1 : Int, some (Sum.inl x1) = some o1 ∧ Fr 66 [] [(10, .int .i64 0), (11, .bool false), (12, .int .i64 x1)] a ∧ Stw ⟨Y, [], w0⟩ [(b1, [.int .i64 p0.1, v1, v2])] [] w) ?_ ?_
 ·
  have H := G1
  clear G1 K1
  refine vc tk 6 F W fun a w F W => ?_
  refine AA H (fun s a w => Fr 66 [] [(1, v3), (3, .int .i64 p3), (4, .int .i64 p4), (5, .pointer (some ⟨b1, 0, none⟩)), (10, .int .i64 0), (11, .bool false), (12, .int .i64 s.1), (13, .int .i64 s.2)] a ∧ Stw ⟨Y, [], w0⟩ [(b1, [.int .i64 p0.1, v1, v2])] [] w) ⟨F.ra Aa, W⟩ fun s o a w H L2 hR => ?_
  obtain ⟨x2, x3⟩ := s
  obtain ⟨F, W⟩ := hR
  have F : Fr 66 [] [(1, v3), (3, .int .i64 p3), (4, .int .i64 p4), (5, .pointer (some ⟨b1, 0, none⟩)), (10, .int .i64 0), (11, .bool false), (12, .int .i64 x2), (13, .int .i64 x3)] a := F
  have W : Stw ⟨Y, [], w0⟩ [(b1, [.int .i64 p0.1, v1, v2])] [] w := W
  rw [D5] at H
  refine vc tk 8 F W fun a w F W => ?_
  refine AN F Aa H (fun F H => ?_) fun F H => ?_
  ·
   refine Gm tk 5 F W fun a w F W => ?_
   obtain ⟨o3, G3, K3⟩ := Ae H
   refine Aj (fun a w => ∃ x4 : Bool, some (x4) = some o3 ∧ Fr 66 [] [(1, v3), (3, .int .i64 p3), (4, .int .i64 p4), (5, .pointer (some ⟨b1, 0, none⟩)), (10, .int .i64 0), (11, .bool false), (12, .int .i64 x2), (13, .int .i64 x3), (45, .bool x4)] a ∧ Stw ⟨Y, [], w0⟩ [(b1, [.int .i64 p0.1, v1, v2])] [] w) ?_ ?_
   ·
    have H := G3
    clear G3 K3
    refine Bi W MO (by kernel_rfl) ?_
    refine qs F Aa (Af MR Aa Aa Aa P1 F Aa 2 Aa).q fun a F => ?_
    refine qs F Aa (AK (v := v2) 0 F Aa Aa P1 Aa).q fun a F => ?_
    refine qs F Aa (Ak F Aa).q fun a F => ?_
    obtain ⟨x5, h2, H⟩ := Ae H
    refine qs F Aa (Al (r := Ec) SF F Aa Aa (Ab h_v2) h2).q fun a F => ?_
    refine qs F Aa (Af MQ Aa Aa Aa T3 F Aa (CS v2 + (p3).toNat * 2) Aa).q fun a F => ?_
    refine qs F Aa (Ag (y := Value.int .i64 x5.1) (j := 0) (i := p3) F Aa Aa (Ab h_v2) h2 Sc.to T3 Aa).q fun a F => ?_
    refine qs F Aa (Ak F Aa).q fun a F => ?_
    refine qs F Aa (Iq F Aa Aa).q fun a F => ?_
    refine qs F Aa (Ak F Aa).q fun a F => ?_
    rcases Bool.eq_false_or_eq_true (decide (x5.1 = x2)) with hb | hb
    ·
     have H := B5 (CT hb) H
     rw [hb] at F
     clear hb
     refine AH F (Ad F Aa Aa Aa Aa) Aa (Ah Aa) (Af MR Aa Aa Aa P1 F Aa 2 Aa).q fun a F => ?_
     refine AH F (Ad F Aa Aa Aa Aa) Aa (Ah Aa) (AK (v := v2) 0 F Aa Aa P1 Aa).q fun a F => ?_
     refine AH F (Ad F Aa Aa Aa Aa) Aa (Ah Aa) (Ak F Aa).q fun a F => ?_
     obtain ⟨x6, h3, H⟩ := Ae H
     refine AH F (Ad F Aa Aa Aa Aa) Aa (Ah Aa) (Al (r := Ec) SF F Aa Aa (Ab h_v2) h3).q fun a F => ?_
     refine AH F (Ad F Aa Aa Aa Aa) Aa (Ah Aa) (Af MQ Aa Aa Aa T3 F Aa (CS v2 + (p3).toNat * 2 + 1) Aa).q fun a F => ?_
     refine AH F (Ad F Aa Aa Aa Aa) Aa (Ah Aa) (Ag (y := Value.int .i64 x6.2) (j := 1) (i := p3) F Aa Aa (Ab h_v2) h3 Sc.to T3 Aa).q fun a F => ?_
     iterate 2 refine AH F (Ad F Aa Aa Aa Aa) Aa (Ah Aa) (Ak F Aa).q fun a F => ?_
     obtain ⟨x7, h4, H⟩ := Ae H
     obtain ⟨v5, h5, h6⟩ := Co h1 h4
     have h7 : C2 v5 = [(v5.1)] := congrArg (fun q : List Int => ([(v5.1)] : List Value)) h6
     refine AH F (Ad F Aa Aa Aa Aa) Aa (Ah Aa) (Al (r := (Rp.vsl (Rp.int .i64))) Ke F Aa Aa (Ab h_v3) h5).q fun a F => ?_
     refine AH F (Ad F Aa Aa Aa Aa) Aa (Ah Aa) (Ag (y := (v5.1)) (j := 0) (i := x2) (enc := C2) F Aa Aa (Ab h_v3) h5 Gd Jv (by rw [h7]; rfl)).q fun a F => ?_
     refine AH F (Ad F Aa Aa Aa Aa) Aa (Ah Aa) (Ak F Aa).q fun a F => ?_
     obtain ⟨x8, h8, H⟩ := Ae H
     refine AH F (Ad F Aa Aa Aa Aa) Aa (Ah Aa) (Al (r := (Rp.int .i64)) FS F Aa Aa (A4 (Ab h_v3) h5 BL.here (congrArg (fun q : List Int => q) h6)) h8).q fun a F => ?_
     refine AH F (Ad F Aa Aa Aa Aa) Aa (Ah Aa) (Ag (y := Value.int .i64 x8) (j := 0) (i := p3) F Aa Aa (A4 (Ab h_v3) h5 BL.here (congrArg (fun q : List Int => q) h6)) h8 Fl.int.to T3 Aa).q fun a F => ?_
     refine AH F (Ad F Aa Aa Aa Aa) Aa (Ah Aa) (Iq F Aa Aa).q fun a F => ?_
     refine qs F Aa (Be F Aa Aa Aa).q fun a F => ?_
     refine AB fun w W => ?_
     refine Ac ?_
     exact ⟨_, H, F.ra Aa, W⟩
    have H := B6 (CV hb) H
    rw [hb] at F
    clear hb
    iterate 14 refine Bg F (A1 F Aa Aa Aa Aa Aa) Aa Aa fun a F => ?_
    refine qs F Aa (Bk F Aa Aa Aa).q fun a F => ?_
    refine AB fun w W => ?_
    refine Ac ?_
    exact ⟨_, H, F.ra Aa, W⟩
   rintro a w ⟨x4, hj, F, W⟩
   have hj := Av hj
   subst hj
   have H := K3
   clear G3 K3
   refine B0 F Aa H (fun F H => ?_) fun F H => ?_
   ·
    refine vc tk 10 F W fun a w F W => ?_
    refine Ao (Aw (Ax ?_))
    iterate 2 refine Aw ?_
    refine Ax (Aw ?_)
    have H := L2 _ H
    have H := L1 _ H
    have H := Av H
    subst H
    refine GI (.inl Aa) F W Aa (Ai F Aa) (Ai F Aa) ?_
    exact ⟨rfl, W.done⟩
   refine Gm tk 10 F W fun a w F W => ?_
   refine AN F Aa H (fun F H => ?_) fun F H => ?_
   ·
    refine vc tk 7 F W fun a w F W => ?_
    refine Ao (Aw (Ax ?_))
    iterate 2 refine Aw ?_
    refine Ax (Aw ?_)
    have H := L2 _ H
    have H := L1 _ H
    have H := Av H
    subst H
    refine GI (.inl Aa) F W Aa (Ai F Aa) (Ai F Aa) ?_
    exact ⟨rfl, W.done⟩
   refine Jk tk 8 [0] F W (ai fun a w F W => ?_)
   obtain ⟨x9, h9, H⟩ := Ae H
   refine ls F W Aa (AL (v := Value.tuple #[.int .i64 x9.1, .bool x9.2]) F Xu Aa (fun w W => PJ any w (v1) (v2) (v3) p0 p1 x2 p3 _ h9 (Ci (Ab h_v1) W) (Ci (Ab h_v2) W) (Ci (Aq Bh h1 (Ab h_v3)) W))) fun a w F W => ?_
   refine ls F W Aa (Ak F Aa).q fun a w F W => ?_
   refine ls F W Aa (A9 (v := Value.int .i64 x9.1) F Aa Aa).q fun a w F W => ?_
   refine ls F W Aa (A9 (v := Value.bool x9.2) F Aa Aa).q fun a w F W => ?_
   refine Bz tk 11 F W fun a w F W => ?_
   refine B0 F Aa H (fun F H => ?_) fun F H => ?_
   ·
    refine vc tk 6 F W fun a w F W => ?_
    refine Ao (Aw (Ax ?_))
    iterate 2 refine Aw ?_
    refine Ax (Aw ?_)
    have H := L2 _ H
    have H := L1 _ H
    have H := Av H
    subst H
    refine GI (.inl Aa) F W Aa (Ai F Aa) (Ai F Aa) ?_
    exact ⟨rfl, W.done⟩
   refine Gm tk 6 F W fun a w F W => ?_
   refine An ?_
   refine vn tk 5 F W fun a w F W => ?_
   refine Ac ?_
   exact ⟨_, H, F.ra Aa, W⟩
  refine Ay ?_
  iterate 2 refine AO ?_
  refine Az (Ac ?_)
  have H := L2 _ H
  exact ⟨_, H, F.ra Aa, W⟩
 rintro a w ⟨x1, hj, F, W⟩
 have H := K1 _ hj
 clear hj G1 K1 L1
 refine vc tk 7 F W fun a w F W => ?_
 refine Ao ?_
 have H := Av H
 subst H
 refine GI (.inl Aa) F W Aa (Ai F Aa) (Ai F Aa) ?_
 exact ⟨rfl, W.done⟩
theorem WZ : Has Try.prog 65 := BS Try.func65
noncomputable def C1 (p0 : Int × (List (Int × Int × Int × Int × Int × Int)) × (List (Int × Int))) (p1 : List (List Int)) (p2 : Int) (p3 : Int) : (List Int × Int) → Option ((List Int × Int) ⊕ (Unit ⊕ (List Int × Int)))
  | (x3, x4) => (if x4 < p0.1 then (EP p0 p1 p2 p3 x4).bind fun x5 => (if x5.1 = (-1) then some (.inr (.inr (([] : List Int), 13))) else (Fo x3 ([x5.1] : List Int)).bind fun x6 => (if x5.2 = true then some (.inr (.inr (x6, 0))) else some (.inl (x6, A3 (x4 + 1))))) else some (.inr (.inl ())))
noncomputable def Ia (p0 : Int × (List (Int × Int × Int × Int × Int × Int)) × (List (Int × Int))) (p1 : List (List Int)) (p2 : Int) (p3 : Int) : Option (List Int × Int) := ((GY p0 p1).bind fun x2 => (if (!x2) = true then some true else (if p2 < 0 then some true else (if (p1.length : Int) ≤ p2 then some true else (if p3 < 0 then some true else some (decide ((p0.2.2.length : Int) ≤ p3))))))).bind fun x1 => (if x1 = true then some (([] : List Int), 2) else Ep (Au (C1 p0 p1 p2 p3) ([], 0)) fun _ => (EP p0 p1 p2 p3 p0.1).bind fun x7 => (if x7.1 = (-1) then some (([] : List Int), 13) else some (([] : List Int), 12)))
theorem PH (Y : Nat → Prop) (w0 : World) (v1 : Value) (v2 : Value) (v3 : Value) (p0 : Int × (List (Int × Int × Int × Int × Int × Int)) × (List (Int × Int))) (p1 : List (List Int)) (p2 : Int) (p3 : Int) (r : List Int × Int) (H : Ia p0 p1 p2 p3 = some r) (h_v1 : Sl w0 (NX []) Er v1 p0.2.1) (h_v2 : Sl w0 (NX []) Ec v2 p0.2.2) (h_v3 : Sl w0 (NX []) (Rp.slice (Rp.int .i64)) v3 p1) :
    Calls Try.prog 42 #[.agg #[.int .i64 p0.1, v1, v2], v3, .int .i64 p2, .int .i64 p3] w0 fun e w' => ∃ x : Value, e = .returned (.tuple #[x, .int .i64 r.2]) ∧ Stw ⟨Y, [], w0⟩ [] [row (x) 3 (Rp.int .i64) r.1] w' := by
 refine enter Try.func42 Aa Try.ntmps42 Aa fun a F => ?_
 have W := Stw.start Y w0
 obtain ⟨v4, h1, h_v3⟩ := h_v3.ex Bh
 unfold Ia at H
 refine vc tk 2 F W fun a w F W => ?_
 refine Bq (cs := [.int .i64 p0.1, v1, v2]) F W Aa Aa Aa fun b1 a w F W => ?_
 refine Bz tk 5 F W fun a w F W => ?_
 obtain ⟨o1, G1, K1⟩ := Ae H
 refine Aj (fun a w => ∃ x1 : Bool, some (x1) = some o1 ∧ Fr 76 [] [(1, v3), (2, .int .i64 p2), (3, .int .i64 p3), (4, .pointer (some ⟨b1, 0, none⟩)), (8, .slice none 0 0), (9, .int .i64 0), (40, .bool x1)] a ∧ Stw ⟨Y, [], w0⟩ [(b1, [.int .i64 p0.1, v1, v2])] [] w) ?_ ?_
 ·
  have H := G1
  clear G1 K1
  refine D3 tk 3 [0] F W (ai fun a w F W => ?_)
  obtain ⟨x2, h2, H⟩ := Ae H
  refine ls F W Aa (AL (v := Value.bool x2) F WO Aa (fun w W => Lm any w (v1) (v2) (v3) p0 p1 _ h2 (Ci (Ab h_v1) W) (Ci (Ab h_v2) W) (Ci (Aq Bh h1 (Ab h_v3)) W))) fun a w F W => ?_
  refine vl tk 2 F W fun a w F W => ?_
  rcases Bool.eq_false_or_eq_true (!x2) with hb | hb
  ·
   have H := B5 hb H
   rw [hb] at F
   clear hb
   refine vl tk 21 F W fun a w F W => ?_
   refine Ac ?_
   exact ⟨_, H, F.ra Aa, W⟩
  have H := B6 (by rw [hb]; decide) H
  rw [hb] at F
  clear hb
  refine vl tk 4 F W fun a w F W => ?_
  rcases Bool.eq_false_or_eq_true (decide (p2 < 0)) with hb | hb
  ·
   have H := B5 (CT hb) H
   rw [hb] at F
   clear hb
   refine vl tk 17 F W fun a w F W => ?_
   refine Ac ?_
   exact ⟨_, H, F.ra Aa, W⟩
  have H := B6 (CV hb) H
  rw [hb] at F
  clear hb
  refine vl tk 2 F W fun a w F W => ?_
  refine CO F W (Ad F Aa Aa Aa Aa) Aa (Ah Aa) (AR (r := (Rp.slice (Rp.int .i64))) (l := p1) JP Aa F Aa (Aq Bh h1 (Ab h_v3))).q fun a w F W => ?_
  refine vl tk 3 F W fun a w F W => ?_
  rcases Bool.eq_false_or_eq_true (decide ((p1.length : Int) ≤ p2)) with hb | hb
  ·
   have H := B5 (CT hb) H
   rw [hb] at F
   clear hb
   refine vl tk 11 F W fun a w F W => ?_
   refine Ac ?_
   exact ⟨_, H, F.ra Aa, W⟩
  have H := B6 (CV hb) H
  rw [hb] at F
  clear hb
  refine vl tk 4 F W fun a w F W => ?_
  rcases Bool.eq_false_or_eq_true (decide (p3 < 0)) with hb | hb
  ·
   have H := B5 (CT hb) H
   rw [hb] at F
   clear hb
   refine vl tk 7 F W fun a w F W => ?_
   refine Ac ?_
   exact ⟨_, H, F.ra Aa, W⟩
  have H := B6 (CV hb) H
  rw [hb] at F
  clear hb
  refine GL tk 3 [0] F W (ai fun a w F W => ?_)
  refine CO F W (Ad F Aa Aa Aa Aa) Aa (Ah Aa) (AR (r := Ec) (l := p0.2.2) Jg Aa F Aa (Ab h_v2)).q fun a w F W => ?_
  refine vl tk 3 F W fun a w F W => ?_
  refine Ac ?_
  exact ⟨_, H, F.ra Aa, W⟩
 rintro a w ⟨x1, hj, F, W⟩
 have hj := Av hj
 subst hj
 have H := K1
 clear G1 K1
 refine B0 F Aa H (fun F H => ?_) fun F H => ?_
 ·
  refine vc tk 6 F W fun a w F W => ?_
  refine Ao (Aw ?_)
  have H := Av H
  subst H
  refine GI (.inl Aa) F W Aa (Ai F Aa) (Ai F Aa) ?_
  have W := W.nilRow 3 (Rp.int .i64)
  have W := W.sub (M' := []) (Z' := [row (Value.slice none 0 0) 3 (Rp.int .i64) ([])]) (List.nil_sublist _) (List.Sublist.refl _)
  exact ⟨(Value.slice none 0 0), Aa, W⟩
 refine Gm tk 7 F W fun a w F W => ?_
 obtain ⟨o2, G2, K2, L2⟩ := I5 H
 refine Aj (fun a w => some (Sum.inl ()) = some o2 ∧ Fr 76 [] [(1, v3), (2, .int .i64 p2), (3, .int .i64 p3), (4, .pointer (some ⟨b1, 0, none⟩)), (8, .slice none 0 0), (9, .int .i64 0)] a ∧ Stw ⟨Y, [], w0⟩ [(b1, [.int .i64 p0.1, v1, v2])] [] w) ?_ ?_
 ·
  have H := G2
  clear G2 K2
  refine vc tk 6 F W fun a w F W => ?_
  have W := W.nilRow 3 (Rp.int .i64)
  refine AA H (fun s a w => ∃ v5 : Value, Fr 76 [] [(1, v3), (2, .int .i64 p2), (3, .int .i64 p3), (4, .pointer (some ⟨b1, 0, none⟩)), (8, .slice none 0 0), (9, .int .i64 0), (10, v5), (11, .int .i64 s.2)] a ∧ Stw ⟨Y, [], w0⟩ [(b1, [.int .i64 p0.1, v1, v2])] [row v5 3 (Rp.int .i64) s.1] w) ⟨(Value.slice none 0 0), F.ra Aa, W⟩ fun s o a w H L3 hR => ?_
  obtain ⟨x3, x4⟩ := s
  obtain ⟨v5, F, W⟩ := hR
  have F : Fr 76 [] [(1, v3), (2, .int .i64 p2), (3, .int .i64 p3), (4, .pointer (some ⟨b1, 0, none⟩)), (8, .slice none 0 0), (9, .int .i64 0), (10, v5), (11, .int .i64 x4)] a := F
  have W : Stw ⟨Y, [], w0⟩ [(b1, [.int .i64 p0.1, v1, v2])] [row v5 3 (Rp.int .i64) x3] w := W
  rw [C1] at H
  refine D3 tk 9 [0] F W (ai fun a w F W => ?_)
  refine AN F Aa H (fun F H => ?_) fun F H => ?_
  ·
   refine Jk tk 11 [0] F W (ai fun a w F W => ?_)
   obtain ⟨x5, h3, H⟩ := Ae H
   refine ls F W Aa (AL (v := Value.tuple #[.int .i64 x5.1, .bool x5.2]) F WZ Aa (fun w W => Lj any w (v1) (v2) (v3) p0 p1 p2 p3 x4 _ h3 (Ci (Ab h_v1) W) (Ci (Ab h_v2) W) (Ci (Aq Bh h1 (Ab h_v3)) W))) fun a w F W => ?_
   refine ls F W Aa (Ak F Aa).q fun a w F W => ?_
   refine ls F W Aa (A9 (v := Value.int .i64 x5.1) F Aa Aa).q fun a w F W => ?_
   refine ls F W Aa (A9 (v := Value.bool x5.2) F Aa Aa).q fun a w F W => ?_
   refine Bz tk 11 F W fun a w F W => ?_
   refine AN F Aa H (fun F H => ?_) fun F H => ?_
   ·
    refine vc tk 6 F W fun a w F W => ?_
    refine Ao (Aw (Ax ?_))
    iterate 2 refine Aw ?_
    refine Ax (Aw ?_)
    have H := L3 _ H
    have H := L2 _ H
    have H := Av H
    subst H
    refine GI (.inl Aa) F W Aa (Ai F Aa) (Ai F Aa) ?_
    have W := W.nilRow 3 (Rp.int .i64)
    have W := W.sub (M' := []) (Z' := [row (Value.slice none 0 0) 3 (Rp.int .i64) ([])]) (List.nil_sublist _) (List.Sublist.cons_cons _ (List.nil_sublist _))
    exact ⟨(Value.slice none 0 0), Aa, W⟩
   refine Gm tk 6 F W fun a w F W => ?_
   refine Cp (z := Value.int .i64 0) (cs := [.int .i64 x5.1]) (Rp.int .i64) ([x5.1] : List Int) F W Aa FS Z3 Aa Aa Aa Aa Aa Aa (Fl.int.repL _ _ ([x5.1] : List Int)) fun v6 a w F W => ?_
   obtain ⟨x6, h4, H⟩ := Ae H
   refine BF (r := (Rp.int .i64)) (i := 1) F W Aa FS Aa Aa Aa Aa (Cr W 0 Aa) h4 Aa fun v7 a w F W => ?_
   have W : Stw ⟨Y, [], w0⟩ [(b1, [.int .i64 p0.1, v1, v2])] [row v7 3 (Rp.int .i64) x6, row v6 3 (Rp.int .i64) ([x5.1] : List Int)] w := W
   refine Bz tk 8 F W fun a w F W => ?_
   refine GC F Aa (fun hb => ?_) fun hb => ?_
   ·
    have H := B5 hb H
    rw [hb] at F
    clear hb
    refine vc tk 7 F W fun a w F W => ?_
    refine Ao (Ax ?_)
    iterate 2 refine Aw ?_
    refine Ax (Aw ?_)
    have H := L3 _ H
    have H := L2 _ H
    have H := Av H
    subst H
    refine GI (.inl Aa) F W Aa (Ai F Aa) (Ai F Aa) ?_
    have W := W.sub (M' := []) (Z' := [row v7 3 (Rp.int .i64) x6]) (List.nil_sublist _) (List.Sublist.cons_cons _ (List.nil_sublist _))
    exact ⟨(v7), Aa, W⟩
   have H := B6 (by rw [hb]; decide) H
   rw [hb] at F
   clear hb
   refine As (An ?_)
   refine vn tk 5 F W fun a w F W => ?_
   refine Ac ?_
   have W := W.sub (M' := [(b1, [.int .i64 p0.1, v1, v2])]) (Z' := [row v7 3 (Rp.int .i64) x6]) (List.Sublist.refl _) (List.Sublist.cons_cons _ (List.nil_sublist _))
   exact ⟨_, H, (v7), F.ra Aa, W⟩
  refine Ay ?_
  iterate 2 refine AO ?_
  refine Az (Ac ?_)
  have W := W.sub (M' := [(b1, [.int .i64 p0.1, v1, v2])]) (Z' := []) (List.Sublist.refl _) (List.nil_sublist _)
  have H := L3 _ H
  exact ⟨H, F.ra Aa, W⟩
 rintro a w ⟨hj, F, W⟩
 have H := K2 _ hj
 clear hj G2 K2 L2
 refine D3 tk 8 [0, 0] F W (ai (ai fun a w F W => ?_))
 obtain ⟨x7, h5, H⟩ := Ae H
 refine ls F W Aa (AL (v := Value.tuple #[.int .i64 x7.1, .bool x7.2]) F WZ Aa (fun w W => Lj any w (v1) (v2) (v3) p0 p1 p2 p3 p0.1 _ h5 (Ci (Ab h_v1) W) (Ci (Ab h_v2) W) (Ci (Aq Bh h1 (Ab h_v3)) W))) fun a w F W => ?_
 refine ls F W Aa (Ak F Aa).q fun a w F W => ?_
 refine ls F W Aa (A9 (v := Value.int .i64 x7.1) F Aa Aa).q fun a w F W => ?_
 refine ls F W Aa (A9 (v := Value.bool x7.2) F Aa Aa).q fun a w F W => ?_
 refine Bz tk 11 F W fun a w F W => ?_
 refine AN F Aa H (fun F H => ?_) fun F H => ?_
 ·
  refine vc tk 6 F W fun a w F W => ?_
  refine Ao (Aw ?_)
  have H := Av H
  subst H
  refine GI (.inl Aa) F W Aa (Ai F Aa) (Ai F Aa) ?_
  have W := W.nilRow 3 (Rp.int .i64)
  have W := W.sub (M' := []) (Z' := [row (Value.slice none 0 0) 3 (Rp.int .i64) ([])]) (List.nil_sublist _) (List.Sublist.refl _)
  exact ⟨(Value.slice none 0 0), Aa, W⟩
 refine Gm tk 8 F W fun a w F W => ?_
 refine Ao ?_
 have H := Av H
 subst H
 refine GI (.inl Aa) F W Aa (Ai F Aa) (Ai F Aa) ?_
 have W := W.nilRow 3 (Rp.int .i64)
 have W := W.sub (M' := []) (Z' := [row (Value.slice none 0 0) 3 (Rp.int .i64) ([])]) (List.nil_sublist _) (List.Sublist.refl _)
 exact ⟨(Value.slice none 0 0), Aa, W⟩
theorem XW : Has Try.prog 42 := BS Try.func42
noncomputable def Fc (p0 : Int × (List (Int × Int × Int × Int × Int × Int)) × (List (Int × Int))) (p1 : List (List Int)) (x2 : Int) : Int → Option (Int ⊕ (Unit ⊕ (Int ⊕ (Unit ⊕ Bool))))
  | x3 => (if x3 < (p0.2.2.length : Int) then (Ia p0 p1 x2 x3).bind fun x4 => (if x4.2 ≠ 0 then some (.inr (.inr (.inr (.inr false)))) else some (.inl (A3 (x3 + 1)))) else some (.inr (.inl ())))
noncomputable def Gt (p0 : Int × (List (Int × Int × Int × Int × Int × Int)) × (List (Int × Int))) (p1 : List (List Int)) : Int → Option (Int ⊕ (Unit ⊕ Bool))
  | x2 => (if x2 < (p1.length : Int) then Ep (Au (Fc p0 p1 x2) 0) fun _ => some (.inl (A3 (x2 + 1))) else some (.inr (.inl ())))
noncomputable def Ij (p0 : Int × (List (Int × Int × Int × Int × Int × Int)) × (List (Int × Int))) (p1 : List (List Int)) : Option Bool := (GY p0 p1).bind fun x1 => (if (!x1) = true then some false else Ep (Au (Gt p0 p1) 0) fun _ => some true)
theorem LZ (Y : Nat → Prop) (w0 : World) (v1 : Value) (v2 : Value) (v3 : Value) (p0 : Int × (List (Int × Int × Int × Int × Int × Int)) × (List (Int × Int))) (p1 : List (List Int)) (r : Bool) (H : Ij p0 p1 = some r) (h_v1 : Sl w0 (NX []) Er v1 p0.2.1) (h_v2 : Sl w0 (NX []) Ec v2 p0.2.2) (h_v3 : Sl w0 (NX []) (Rp.slice (Rp.int .i64)) v3 p1) :
    Calls Try.prog 23 #[.agg #[.int .i64 p0.1, v1, v2], v3] w0 fun e w' => e = .returned (.bool r) ∧ Below w0.heap.size w0 w' := by
 refine enter Try.func23 Aa Try.ntmps23 Aa fun a F => ?_
 have W := Stw.start Y w0
 obtain ⟨v4, h1, h_v3⟩ := h_v3.ex Bh
 unfold Ij at H
 refine vc tk 2 F W fun a w F W => ?_
 refine Bq (cs := [.int .i64 p0.1, v1, v2]) F W Aa Aa Aa fun b1 a w F W => ?_
 refine IG tk 8 [0] F W (ai fun a w F W => ?_)
 obtain ⟨x1, h2, H⟩ := Ae H
 refine ls F W Aa (AL (v := Value.bool x1) F WO Aa (fun w W => Lm any w (v1) (v2) (v3) p0 p1 _ h2 (Ci (Ab h_v1) W) (Ci (Ab h_v2) W) (Ci (Aq Bh h1 (Ab h_v3)) W))) fun a w F W => ?_
 refine Bz tk 3 F W fun a w F W => ?_
 refine B0 F Aa H (fun F H => ?_) fun F H => ?_
 ·
  refine vc tk 5 F W fun a w F W => ?_
  refine Ao (Aw ?_)
  have H := Av H
  subst H
  refine AE (.inl Aa) F W Aa (Ai F Aa) ?_
  exact ⟨rfl, W.done⟩
 refine As (Ac ?_)
 obtain ⟨o1, G1, K1, L1⟩ := I5 H
 refine Aj (fun a w => some (Sum.inl ()) = some o1 ∧ Fr 36 [] [(4, .bool false)] a ∧ Stw ⟨Y, [], w0⟩ [(b1, [.int .i64 p0.1, v1, v2])] [] w) ?_ ?_
 ·
  have H := G1
  clear G1 K1
  refine vc tk 6 F W fun a w F W => ?_
  refine AA H (fun s a w => Fr 36 [] [(1, v3), (2, .pointer (some ⟨b1, 0, none⟩)), (4, .bool false), (5, .int .i64 s)] a ∧ Stw ⟨Y, [], w0⟩ [(b1, [.int .i64 p0.1, v1, v2])] [] w) ⟨F.ra Aa, W⟩ fun s o a w H L2 hR => ?_
  obtain ⟨x2, rfl⟩ : ∃ x, x = s := ⟨s, rfl⟩
  obtain ⟨F, W⟩ := hR
  have F : Fr 36 [] [(1, v3), (2, .pointer (some ⟨b1, 0, none⟩)), (4, .bool false), (5, .int .i64 x2)] a := F
  have W : Stw ⟨Y, [], w0⟩ [(b1, [.int .i64 p0.1, v1, v2])] [] w := W
  rw [Gt] at H
  refine vc tk 5 F W fun a w F W => ?_
  refine ls F W Aa (AR (r := (Rp.slice (Rp.int .i64))) (l := p1) JP Aa F Aa (Aq Bh h1 (Ab h_v3))).q fun a w F W => ?_
  refine Bz tk 3 F W fun a w F W => ?_
  refine AN F Aa H (fun F H => ?_) fun F H => ?_
  ·
   refine As (Ac ?_)
   obtain ⟨o3, G3, K3, L3⟩ := I5 H
   refine Aj (fun a w => some (Sum.inl ()) = some o3 ∧ Fr 36 [] [(1, v3), (2, .pointer (some ⟨b1, 0, none⟩)), (4, .bool false), (5, .int .i64 x2)] a ∧ Stw ⟨Y, [], w0⟩ [(b1, [.int .i64 p0.1, v1, v2])] [] w) ?_ ?_
   ·
    have H := G3
    clear G3 K3
    refine vc tk 7 F W fun a w F W => ?_
    refine AA H (fun s a w => Fr 36 [] [(1, v3), (2, .pointer (some ⟨b1, 0, none⟩)), (4, .bool false), (5, .int .i64 x2), (6, .int .i64 s)] a ∧ Stw ⟨Y, [], w0⟩ [(b1, [.int .i64 p0.1, v1, v2])] [] w) ⟨F.ra Aa, W⟩ fun s o a w H L4 hR => ?_
    obtain ⟨x3, rfl⟩ : ∃ x, x = s := ⟨s, rfl⟩
    obtain ⟨F, W⟩ := hR
    have F : Fr 36 [] [(1, v3), (2, .pointer (some ⟨b1, 0, none⟩)), (4, .bool false), (5, .int .i64 x2), (6, .int .i64 x3)] a := F
    have W : Stw ⟨Y, [], w0⟩ [(b1, [.int .i64 p0.1, v1, v2])] [] w := W
    rw [Fc] at H
    refine D3 tk 6 [0] F W (ai fun a w F W => ?_)
    refine ls F W Aa (AR (r := Ec) (l := p0.2.2) Jg Aa F Aa (Ab h_v2)).q fun a w F W => ?_
    refine Bz tk 3 F W fun a w F W => ?_
    refine AN F Aa H (fun F H => ?_) fun F H => ?_
    ·
     refine Jk tk 10 [0] F W (ai fun a w F W => ?_)
     obtain ⟨x4, h3, H⟩ := Ae H
     refine Cv (Ml := []) (Zl := []) (β := Value) (rv := fun x => .tuple #[x, .int .i64 x4.2]) (MM := fun x => []) (ZZ := fun x => [row x 3 (Rp.int .i64) x4.1]) F W XW Aa Aa (fun hL => PH _ w (v1) (v2) (v3) p0 p1 x2 x3 _ h3 ((Ab h_v1) w W).nx ((Ab h_v2) w W).nx ((Aq Bh h1 (Ab h_v3)) w W).nx) fun x a w F W => ?_
     obtain ⟨v5, rfl⟩ : ∃ y, y = x := ⟨x, rfl⟩
     have W : Stw ⟨Y, [], w0⟩ [(b1, [.int .i64 p0.1, v1, v2])] [row v5 3 (Rp.int .i64) x4.1] w := W
     refine ls F W Aa (Ak F Aa).q fun a w F W => ?_
     refine ls F W Aa (A9 (v := v5) F Aa Aa).q fun a w F W => ?_
     refine ls F W Aa (A9 (v := Value.int .i64 x4.2) F Aa Aa).q fun a w F W => ?_
     refine Bz tk 10 F W fun a w F W => ?_
     refine AN F Aa H (fun F H => ?_) fun F H => ?_
     ·
      refine vc tk 5 F W fun a w F W => ?_
      refine Ao (Ax ?_)
      iterate 2 refine Aw ?_
      iterate 2 refine Ax ?_
      iterate 2 refine Aw ?_
      refine Ax (Aw ?_)
      have H := L4 _ H
      have H := L3 _ H
      have H := L2 _ H
      have H := L1 _ H
      have H := Av H
      subst H
      refine AE (.inl Aa) F W Aa (Ai F Aa) ?_
      exact ⟨rfl, W.done⟩
     refine As (An ?_)
     refine vn tk 5 F W fun a w F W => ?_
     refine Ac ?_
     have W := W.sub (M' := [(b1, [.int .i64 p0.1, v1, v2])]) (Z' := []) (List.Sublist.refl _) (List.nil_sublist _)
     exact ⟨_, H, F.ra Aa, W⟩
    refine Ay ?_
    iterate 2 refine AO ?_
    refine Az (An (Ac ?_))
    have H := L4 _ H
    exact ⟨H, F.ra Aa, W⟩
   rintro a w ⟨hj, F, W⟩
   have H := K3 _ hj
   clear hj G3 K3 L3
   refine vc tk 5 F W fun a w F W => ?_
   refine Ac ?_
   exact ⟨_, H, F.ra Aa, W⟩
  refine Ay ?_
  iterate 2 refine AO ?_
  refine Az (Ac ?_)
  have H := L2 _ H
  exact ⟨H, F.ra Aa, W⟩
 rintro a w ⟨hj, F, W⟩
 have H := K1 _ hj
 clear hj G1 K1 L1
 refine vc tk 5 F W fun a w F W => ?_
 refine Ao ?_
 have H := Av H
 subst H
 refine AE (.inl Aa) F W Aa (Ai F Aa) ?_
 exact ⟨rfl, W.done⟩
theorem Vx : type_of% Try.underlying42 := Try.underlying42
theorem TB : type_of% Try.underlying59 := Try.underlying59
theorem W3 : Has Try.prog 23 := BS Try.func23
theorem UW : Bt Try.prog 59 [.int .i64 0, .int .i64 0, .int .i64 0] [(0, 1), (1, 1), (2, 1)] := ⟨⟨.agg #[.int .i64 0, .int .i64 0, .int .i64 0], by kernel_rfl, rfl⟩, ⟨_, TB, fun w => by kernel_rfl⟩⟩
theorem UZ : (Try.prog.info? 59).bind (·.zero) = some (.agg #[.int .i64 0, .int .i64 0, .int .i64 0]) := by kernel_rfl
abbrev Dk : Rp (Int × Int × Int) := (Rp.pair (Rp.int .i64) (Rp.pair (Rp.int .i64) (Rp.int .i64)))
def Ya (a : Int × Int × Int) : List Value := [.int .i64 a.1, .int .i64 a.2.1, .int .i64 a.2.2]
theorem Te : Fl Dk Ya := (Fl.pair Fl.int (Fl.pair Fl.int Fl.int))
theorem Pl : Et Try.prog 42 59 3 24 := Et.of Vx (by kernel_rfl) (by kernel_rfl) (by kernel_rfl) (by decide)
theorem TD : Ty Try.prog 87 true 4 := ⟨by kernel_rfl, by kernel_rfl⟩
theorem W8 : (Try.prog.info? 87).bind (·.zero) = some (.agg #[.int .i64 0, .int .i64 0, .int .i64 0, .int .i64 0]) := by kernel_rfl
noncomputable def Hr (p0 : List Int) (p1 : Int) : Int → Option (Int ⊕ (Unit ⊕ Bool))
  | x1 => (if x1 < (p0.length : Int) then (ix p0 x1).bind fun x2 => (if x2 = p1 then some (.inr (.inr true)) else some (.inl (A3 (x1 + 1)))) else some (.inr (.inl ())))
noncomputable def Kz (p0 : List Int) (p1 : Int) : Option Bool := Ep (Au (Hr p0 p1) 0) fun _ => some false
theorem Ra (Y : Nat → Prop) (w0 : World) (v1 : Value) (p0 : List Int) (p1 : Int) (r : Bool) (H : Kz p0 p1 = some r) (h_v1 : Sl w0 (NX []) (Rp.int .i64) v1 p0) :
    Calls Try.prog 75 #[v1, .int .i64 p1] w0 fun e w' => e = .returned (.bool r) ∧ Below w0.heap.size w0 w' := by
 refine enter Try.func75 Aa Try.ntmps75 Aa fun a F => ?_
 have W := Stw.start Y w0
 unfold Kz at H
 refine vc tk 5 F W fun a w F W => ?_
 obtain ⟨o1, G1, K1, L1⟩ := I5 H
 refine Aj (fun a w => some (Sum.inl ()) = some o1 ∧ Fr 18 [] [(4, .bool false)] a ∧ Stw ⟨Y, [], w0⟩ [] [] w) ?_ ?_
 ·
  have H := G1
  clear G1 K1
  refine vc tk 6 F W fun a w F W => ?_
  refine AA H (fun s a w => Fr 18 [] [(0, v1), (1, .int .i64 p1), (4, .bool false), (5, .int .i64 s)] a ∧ Stw ⟨Y, [], w0⟩ [] [] w) ⟨F.ra Aa, W⟩ fun s o a w H L2 hR => ?_
  obtain ⟨x1, rfl⟩ : ∃ x, x = s := ⟨s, rfl⟩
  obtain ⟨F, W⟩ := hR
  have F : Fr 18 [] [(0, v1), (1, .int .i64 p1), (4, .bool false), (5, .int .i64 x1)] a := F
  have W : Stw ⟨Y, [], w0⟩ [] [] w := W
  rw [Hr] at H
  refine vc tk 5 F W fun a w F W => ?_
  refine ls F W Aa (AR (r := (Rp.int .i64)) (l := p0) Hl Aa F Aa (Ab h_v1)).q fun a w F W => ?_
  refine Bz tk 3 F W fun a w F W => ?_
  refine AN F Aa H (fun F H => ?_) fun F H => ?_
  ·
   refine Gm tk 8 F W fun a w F W => ?_
   obtain ⟨x2, h1, H⟩ := Ae H
   refine ls F W Aa (Al (r := (Rp.int .i64)) FS F Aa Aa (Ab h_v1) h1).q fun a w F W => ?_
   refine ls F W Aa (Ag (y := Value.int .i64 x2) (j := 0) (i := x1) F Aa Aa (Ab h_v1) h1 Fl.int.to T3 Aa).q fun a w F W => ?_
   refine Bz tk 4 F W fun a w F W => ?_
   refine AN F Aa H (fun F H => ?_) fun F H => ?_
   ·
    refine vc tk 5 F W fun a w F W => ?_
    refine Ao (Ax ?_)
    iterate 2 refine Aw ?_
    refine Ax (Aw ?_)
    have H := L2 _ H
    have H := L1 _ H
    have H := Av H
    subst H
    refine AE (.inl Aa) F W Aa (Ai F Aa) ?_
    exact ⟨rfl, W.done⟩
   refine As (An ?_)
   refine vn tk 5 F W fun a w F W => ?_
   refine Ac ?_
   exact ⟨_, H, F.ra Aa, W⟩
  refine Ay ?_
  iterate 2 refine AO ?_
  refine Az (Ac ?_)
  have H := L2 _ H
  exact ⟨H, F.ra Aa, W⟩
 rintro a w ⟨hj, F, W⟩
 have H := K1 _ hj
 clear hj G1 K1 L1
 refine vc tk 5 F W fun a w F W => ?_
 refine Ao ?_
 have H := Av H
 subst H
 refine AE (.inl Aa) F W Aa (Ai F Aa) ?_
 exact ⟨rfl, W.done⟩
end Go.Proofs.Ythhoflfhegfmcaa
