/- The functions of layer 25, GX. Conditions: none. -/
import Derived.Test.YthhoflfhegfmcaacA3
namespace Go.Proofs.Ythhoflfhegfmcaa
open Go Go.RowKit
set_option linter.unusedVariables false
set_option linter.unusedSimpArgs false
set_option maxRecDepth 20000
set_option maxHeartbeats 1600000
theorem Vx : Has Try.prog 22 := Ct Try.func22
theorem WJ : Bt Try.prog 65 [.int .i64 0, .int .i64 0, .slice none 0 0] [(0, 1), (1, 1), (2, 1)] := ⟨⟨.agg #[.int .i64 0, .int .i64 0, .slice none 0 0], by kernel_rfl, rfl⟩, ⟨_, SP, fun w => by kernel_rfl⟩⟩
abbrev QB  : List Value := [.slice none 0 0, .slice none 0 0, .int .i64 0, .int .i64 0, .int .i64 0, .int .i64 0]
abbrev TT (a0 : Nat) (a1 : Value) (a2 : (List (Int × Int × Int × Int)) × (List (Int × Int × List Int)) × Int × Int × Int × Int) (a3 : Nat) (a4 : Nat) (a5 : Value) (a6 : Value) : List (Nat × List Value) := [(a0, [a1, .slice none 0 0, .int .i64 a2.2.2.1, .int .i64 a2.2.2.2.1, .int .i64 a2.2.2.2.2.1, .int .i64 a2.2.2.2.2.2]), (a3, [.slice none 0 0, .slice none 0 0, .int .i64 0, .int .i64 0, .int .i64 0, .int .i64 0]), (a4, [a5, a6, .int .i64 a2.2.2.1, .int .i64 a2.2.2.2.1, .int .i64 a2.2.2.2.2.1, .int .i64 a2.2.2.2.2.2])]
abbrev TX (a0 : Nat) (a1 : Nat) (a2 : Nat) (a3 : Value) (a4 : Value) (a5 : (List (Int × Int × Int × Int)) × (List (Int × Int × List Int)) × Int × Int × Int × Int) : List (Nat × List Value) := [(a0, [.slice none 0 0, .slice none 0 0, .int .i64 0, .int .i64 0, .int .i64 0, .int .i64 0]), (a1, [.slice none 0 0, .slice none 0 0, .int .i64 0, .int .i64 0, .int .i64 0, .int .i64 0]), (a2, [a3, a4, .int .i64 a5.2.2.1, .int .i64 a5.2.2.2.1, .int .i64 a5.2.2.2.2.1, .int .i64 a5.2.2.2.2.2])]
abbrev Mb (a0 : Nat) (a1 : Value) (a2 : Value) (a3 : (List (Int × Int × Int × Int)) × (List (Int × Int × List Int)) × Int × Int × Int × Int) (a4 : Nat) (a5 : Nat) (a6 : Value) (a7 : Value) : List (Nat × List Value) := [(a0, [a1, a2, .int .i64 a3.2.2.1, .int .i64 a3.2.2.2.1, .int .i64 a3.2.2.2.2.1, .int .i64 a3.2.2.2.2.2]), (a4, [.slice none 0 0, .slice none 0 0, .int .i64 0, .int .i64 0, .int .i64 0, .int .i64 0]), (a5, [a6, a7, .int .i64 a3.2.2.1, .int .i64 a3.2.2.2.1, .int .i64 a3.2.2.2.2.1, .int .i64 a3.2.2.2.2.2])]
noncomputable def FI (p0 : (List (Int × Int × Int × Int)) × (List (Int × Int × List Int)) × Int × Int × Int × Int) : (Int × (List (Int × Int × List Int))) → Option ((Int × (List (Int × Int × List Int))) ⊕ (List (Int × Int × List Int)))
  | (x3, x4) => (if x3 < (p0.2.1.length : Int) then (ix p0.2.1 x3).bind fun x5 => (ix p0.2.1 x3).bind fun x6 => (ix p0.2.1 x3).bind fun x7 => (FD x4 ([(x5.1, x6.2.1, x7.2.2)] : List (Int × Int × List Int))).bind fun x8 => some (.inl (A7 (x3 + 1), x8)) else some (.inr x4))
noncomputable def IE (p0 : (List (Int × Int × Int × Int)) × (List (Int × Int × List Int)) × Int × Int × Int × Int) : Option ((List (Int × Int × Int × Int)) × (List (Int × Int × List Int)) × Int × Int × Int × Int) := (JB p0.1).bind fun x1 => (An (FI p0) (0, [])).bind fun x2 => some (x1, x2, p0.2.2.1, p0.2.2.2.1, p0.2.2.2.2.1, p0.2.2.2.2.2)
theorem Ob (Y : Nat → Prop) (w0 : World) (v1 : Value) (v2 : Value) (p0 : (List (Int × Int × Int × Int)) × (List (Int × Int × List Int)) × Int × Int × Int × Int) (r : ((List (Int × Int × Int × Int)) × (List (Int × Int × List Int)) × Int × Int × Int × Int)) (H : IE p0 = some r) (h_v1 : Sl w0 (NX []) LI v1 p0.1) (s_v2 : Sl w0 Y Oh v2 p0.2.1) :
    Calls Try.prog 9 #[.agg #[v1, v2, .int .i64 p0.2.2.1, .int .i64 p0.2.2.2.1, .int .i64 p0.2.2.2.2.1, .int .i64 p0.2.2.2.2.2]] w0 fun e w' => ∃ x : Value × Value, e = .returned (.agg #[x.1, x.2, .int .i64 r.2.2.1, .int .i64 r.2.2.2.1, .int .i64 r.2.2.2.2.1, .int .i64 r.2.2.2.2.2]) ∧ Stw ⟨Y, [], w0⟩ [] [row (x.1) 78 Hg r.1, row (x.2) 65 Jw r.2.1] w' := by
 refine enter Try.func9 Aa Try.ntmps9 Aa fun a F => ?_
 have W := Stw.start Y w0
 obtain ⟨v3, h1, s_v2⟩ := s_v2.ex HY
 have h_v2 := W.nx s_v2
 unfold IE at H
 refine vc tk 2 F W fun a w F W => ?_
 refine Cq (cs := [v1, v2, .int .i64 p0.2.2.1, .int .i64 p0.2.2.2.1, .int .i64 p0.2.2.2.2.1, .int .i64 p0.2.2.2.2.2]) F W Aa Aa Aa fun b1 a w F W => ?_
 refine B9 (cs := (QB)) F W Aa Vb Aa fun b2 a w F W => ?_
 refine Cc tk 3 F W fun a w F W => ?_
 obtain ⟨x1, h2, H⟩ := Ad H
 refine RR (fun a w => ∃ b3 : Nat, ∃ v4 : Value, Fr 49 [] [(0, .agg #[v1, v2, .int .i64 p0.2.2.1, .int .i64 p0.2.2.2.1, .int .i64 p0.2.2.2.2.1, .int .i64 p0.2.2.2.2.2]), (1, .pointer (some ⟨b1, 0, none⟩)), (2, .pointer (some ⟨b2, 0, none⟩)), (3, .pointer (some ⟨b3, 0, none⟩)), (5, .pointer (some ⟨b1, 0, none⟩)), (6, v1), (7, v4), (8, .pointer (some ⟨b1, 2, none⟩)), (9, .int .i64 p0.2.2.1), (10, .pointer (some ⟨b1, 3, none⟩)), (11, .int .i64 p0.2.2.2.1), (12, .pointer (some ⟨b1, 4, none⟩)), (13, .int .i64 p0.2.2.2.2.1), (14, .pointer (some ⟨b1, 5, none⟩)), (15, .int .i64 p0.2.2.2.2.2), (16, .agg #[v4, .slice none 0 0, .int .i64 p0.2.2.1, .int .i64 p0.2.2.2.1, .int .i64 p0.2.2.2.2.1, .int .i64 p0.2.2.2.2.2])] a ∧ Stw ⟨Y, [], w0⟩ (TT b3 v4 p0 b2 b1 v1 v2) [row v4 78 Hg x1] w) ?_ ?_
 ·
  refine P7 (PT.st 0 (PT.st 1 (PT.st 3 (PT.st 4 (PT.st 5 (PT.st 6 (PT.st 7 (PT.st 8 (PT.st 9 (PT.st 10 (PT.alt 2 (PT.st 11 (PT.alt 12 (PT.alt 13 PT.done PT.stop) PT.stop)) (PT.alt 12 (PT.alt 2 (PT.st 11 (PT.alt 13 PT.done PT.stop)) PT.stop) PT.stop)))))))))))) (CN ⟨Y, [], w0⟩ [(some 2, b1, [v1, v2, .int .i64 p0.2.2.1, .int .i64 p0.2.2.2.1, .int .i64 p0.2.2.2.2.1, .int .i64 p0.2.2.2.2.2]), (some 13, b1, [v1, v2, .int .i64 p0.2.2.1, .int .i64 p0.2.2.2.1, .int .i64 p0.2.2.2.2.1, .int .i64 p0.2.2.2.2.2])] []) (fun ch a d v w h => by cases d <;> exact h) MO (by kernel_rfl) W (fun w W => ⟨_, _, W, (all_cons (fun _ => (.tail _ (.head _))) (all_cons (fun _ => (.tail _ (.head _))) Aj)), Aj⟩) fun w W => ?_
  refine KK (R := []) F Aa Aa (yC fun M Z hN hZ => Ah IZ Aa Aa Aa Sz F Aa 0 Aa) Aa Aa fun a F => ?_
  refine KK (R := [2]) F Aa Aa (yC fun M Z hN hZ => BF (cs := [v1, v2, .int .i64 p0.2.2.1, .int .i64 p0.2.2.2.1, .int .i64 p0.2.2.2.2.1, .int .i64 p0.2.2.2.2.2]) (v := v1) F Aa (hN ((some 2), b1, [v1, v2, .int .i64 p0.2.2.1, .int .i64 p0.2.2.2.1, .int .i64 p0.2.2.2.2.1, .int .i64 p0.2.2.2.2.2]) (.head _) Aa) Sz Aa) (by kernel_rfl) Aa fun a F => ?_
  refine KK (R := []) F Aa Aa (yC fun M Z hN hZ => Ah IZ Aa Aa Aa T3 F Aa 2 Aa) Aa Aa fun a F => ?_
  refine KK (R := [13]) F Aa Aa (yC fun M Z hN hZ => BF (cs := [v1, v2, .int .i64 p0.2.2.1, .int .i64 p0.2.2.2.1, .int .i64 p0.2.2.2.2.1, .int .i64 p0.2.2.2.2.2]) (v := Value.int .i64 p0.2.2.1) F Aa (hN ((some 13), b1, [v1, v2, .int .i64 p0.2.2.1, .int .i64 p0.2.2.2.1, .int .i64 p0.2.2.2.2.1, .int .i64 p0.2.2.2.2.2]) (.tail _ (.head _)) Aa) T3 Aa) (by kernel_rfl) Aa fun a F => ?_
  refine KK (R := []) F Aa Aa (yC fun M Z hN hZ => Ah IZ Aa Aa Aa T3 F Aa 3 Aa) Aa Aa fun a F => ?_
  refine KK (R := [13]) F Aa Aa (yC fun M Z hN hZ => BF (cs := [v1, v2, .int .i64 p0.2.2.1, .int .i64 p0.2.2.2.1, .int .i64 p0.2.2.2.2.1, .int .i64 p0.2.2.2.2.2]) (v := Value.int .i64 p0.2.2.2.1) F Aa (hN ((some 13), b1, [v1, v2, .int .i64 p0.2.2.1, .int .i64 p0.2.2.2.1, .int .i64 p0.2.2.2.2.1, .int .i64 p0.2.2.2.2.2]) (.tail _ (.head _)) Aa) T3 Aa) (by kernel_rfl) Aa fun a F => ?_
  refine KK (R := []) F Aa Aa (yC fun M Z hN hZ => Ah IZ Aa Aa Aa T3 F Aa 4 Aa) Aa Aa fun a F => ?_
  refine KK (R := [13]) F Aa Aa (yC fun M Z hN hZ => BF (cs := [v1, v2, .int .i64 p0.2.2.1, .int .i64 p0.2.2.2.1, .int .i64 p0.2.2.2.2.1, .int .i64 p0.2.2.2.2.2]) (v := Value.int .i64 p0.2.2.2.2.1) F Aa (hN ((some 13), b1, [v1, v2, .int .i64 p0.2.2.1, .int .i64 p0.2.2.2.1, .int .i64 p0.2.2.2.2.1, .int .i64 p0.2.2.2.2.2]) (.tail _ (.head _)) Aa) T3 Aa) (by kernel_rfl) Aa fun a F => ?_
  refine KK (R := []) F Aa Aa (yC fun M Z hN hZ => Ah IZ Aa Aa Aa T3 F Aa 5 Aa) Aa Aa fun a F => ?_
  refine KK (R := [13]) F Aa Aa (yC fun M Z hN hZ => BF (cs := [v1, v2, .int .i64 p0.2.2.1, .int .i64 p0.2.2.2.1, .int .i64 p0.2.2.2.2.1, .int .i64 p0.2.2.2.2.2]) (v := Value.int .i64 p0.2.2.2.2.2) F Aa (hN ((some 13), b1, [v1, v2, .int .i64 p0.2.2.1, .int .i64 p0.2.2.2.1, .int .i64 p0.2.2.2.2.1, .int .i64 p0.2.2.2.2.2]) (.tail _ (.head _)) Aa) T3 Aa) (by kernel_rfl) Aa fun a F => ?_
  refine SK Aa ?_ ?_
  ·
   refine CJ (Ml := []) (Zl := []) (β := Value) (rv := fun x => x) (MM := fun x => []) (ZZ := fun x => [row x 78 Hg x1]) F W Vx Aa Aa (fun hL => Li _ w (v1) p0.1 _ h2 ((Ab h_v1) w W).nx) fun x a w F W => ?_
   obtain ⟨v4, rfl⟩ : ∃ y, y = x := ⟨x, rfl⟩
   have W : Stw ⟨Y, [], w0⟩ [(b2, [.slice none 0 0, .slice none 0 0, .int .i64 0, .int .i64 0, .int .i64 0, .int .i64 0]), (b1, [v1, v2, .int .i64 p0.2.2.1, .int .i64 p0.2.2.2.1, .int .i64 p0.2.2.2.2.1, .int .i64 p0.2.2.2.2.2])] [row v4 78 Hg x1] w := W
   refine IJ (N2 := []) (NZ2 := []) (N3 := [(some 2, b1, [v1, v2, .int .i64 p0.2.2.1, .int .i64 p0.2.2.2.1, .int .i64 p0.2.2.2.2.1, .int .i64 p0.2.2.2.2.2]), (some 13, b1, [v1, v2, .int .i64 p0.2.2.1, .int .i64 p0.2.2.2.1, .int .i64 p0.2.2.2.2.1, .int .i64 p0.2.2.2.2.2])]) (NZ3 := []) W Aa Aa (all_cons (fun h => Af (by kernel_rfl) h) (all_cons (fun _ => (.tail _ (.head _))) Aj)) Aj ?_
   refine KK (R := []) F Aa Aa (yC fun M Z hN hZ => B1 (v := Value.agg #[v4, .slice none 0 0, .int .i64 p0.2.2.1, .int .i64 p0.2.2.2.1, .int .i64 p0.2.2.2.2.1, .int .i64 p0.2.2.2.2.2]) UJ F Aa (AS Aa (BD (W.one (k := 0) Aa)) Aa (AS Aa Aa Aa (AS Aa Aa Aa (AS Aa Aa Aa (AS Aa Aa Aa DW))))) Aa) Aa Aa fun a F => ?_
   refine O9 Aa ?_
   refine B9 (cs := (QB)) F W Aa Vb Aa fun b3 a w F W => ?_
   refine IJ (N2 := []) (NZ2 := []) (N3 := [(some 2, b1, [v1, v2, .int .i64 p0.2.2.1, .int .i64 p0.2.2.2.1, .int .i64 p0.2.2.2.2.1, .int .i64 p0.2.2.2.2.2]), (some 13, b1, [v1, v2, .int .i64 p0.2.2.1, .int .i64 p0.2.2.2.1, .int .i64 p0.2.2.2.2.1, .int .i64 p0.2.2.2.2.2])]) (NZ3 := []) W Aa Aa (all_cons (fun h => Af (by kernel_rfl) h) (all_cons (fun _ => (.tail _ (.tail _ (.head _)))) Aj)) Aj ?_
   refine O9 Aa ?_
   refine F6 0 F W Aa Aa Aa TF Aa Aa (AX (W.one (k := 0) Aa) (AX Aa (AX Aa (AX Aa (AX Aa (AX Aa GO)))))) fun w W => ?_
   refine IJ (N2 := []) (NZ2 := []) (N3 := [(some 2, b1, [v1, v2, .int .i64 p0.2.2.1, .int .i64 p0.2.2.2.1, .int .i64 p0.2.2.2.2.1, .int .i64 p0.2.2.2.2.2]), (some 13, b1, [v1, v2, .int .i64 p0.2.2.1, .int .i64 p0.2.2.2.1, .int .i64 p0.2.2.2.2.1, .int .i64 p0.2.2.2.2.2])]) (NZ3 := []) W Aa Aa (all_cons (fun h => Af (by kernel_rfl) h) (all_cons (fun h => Af (by kernel_rfl) h) Aj)) Aj ?_
   have W := W.frontM (i := 2) Aa Aa
   have W := W.frontM (i := 2) Aa Aa
   have W := W.frontM (i := 2) Aa Aa
   refine Qo ?_
   exact ⟨b3, v4, F.ra Aa, W⟩
  refine SK Aa ?_ ?_
  ·
   refine B9 (cs := (QB)) F W Aa Vb Aa fun b3 a w F W => ?_
   refine IJ (N2 := []) (NZ2 := []) (N3 := [(some 2, b1, [v1, v2, .int .i64 p0.2.2.1, .int .i64 p0.2.2.2.1, .int .i64 p0.2.2.2.2.1, .int .i64 p0.2.2.2.2.2]), (some 13, b1, [v1, v2, .int .i64 p0.2.2.1, .int .i64 p0.2.2.2.1, .int .i64 p0.2.2.2.2.1, .int .i64 p0.2.2.2.2.2])]) (NZ3 := []) W Aa Aa (all_cons (fun _ => (.tail _ (.tail _ (.head _)))) (all_cons (fun _ => (.tail _ (.tail _ (.head _)))) Aj)) Aj ?_
   refine O9 Aa ?_
   refine CJ (Ml := []) (Zl := []) (β := Value) (rv := fun x => x) (MM := fun x => []) (ZZ := fun x => [row x 78 Hg x1]) F W Vx Aa Aa (fun hL => Li _ w (v1) p0.1 _ h2 ((Ab h_v1) w W).nx) fun x a w F W => ?_
   obtain ⟨v4, rfl⟩ : ∃ y, y = x := ⟨x, rfl⟩
   have W : Stw ⟨Y, [], w0⟩ (TX b3 b2 b1 v1 v2 p0) [row v4 78 Hg x1] w := W
   refine IJ (N2 := []) (NZ2 := []) (N3 := [(some 2, b1, [v1, v2, .int .i64 p0.2.2.1, .int .i64 p0.2.2.2.1, .int .i64 p0.2.2.2.2.1, .int .i64 p0.2.2.2.2.2]), (some 13, b1, [v1, v2, .int .i64 p0.2.2.1, .int .i64 p0.2.2.2.1, .int .i64 p0.2.2.2.2.1, .int .i64 p0.2.2.2.2.2])]) (NZ3 := []) W Aa Aa (all_cons (fun h => Af (by kernel_rfl) h) (all_cons (fun _ => (.tail _ (.tail _ (.head _)))) Aj)) Aj ?_
   refine KK (R := []) F Aa Aa (yC fun M Z hN hZ => B1 (v := Value.agg #[v4, .slice none 0 0, .int .i64 p0.2.2.1, .int .i64 p0.2.2.2.1, .int .i64 p0.2.2.2.2.1, .int .i64 p0.2.2.2.2.2]) UJ F Aa (AS Aa (BD (W.one (k := 0) Aa)) Aa (AS Aa Aa Aa (AS Aa Aa Aa (AS Aa Aa Aa (AS Aa Aa Aa DW))))) Aa) Aa Aa fun a F => ?_
   refine O9 Aa ?_
   refine F6 0 F W Aa Aa Aa TF Aa Aa (AX (W.one (k := 0) Aa) (AX Aa (AX Aa (AX Aa (AX Aa (AX Aa GO)))))) fun w W => ?_
   refine IJ (N2 := []) (NZ2 := []) (N3 := [(some 2, b1, [v1, v2, .int .i64 p0.2.2.1, .int .i64 p0.2.2.2.1, .int .i64 p0.2.2.2.2.1, .int .i64 p0.2.2.2.2.2]), (some 13, b1, [v1, v2, .int .i64 p0.2.2.1, .int .i64 p0.2.2.2.1, .int .i64 p0.2.2.2.2.1, .int .i64 p0.2.2.2.2.2])]) (NZ3 := []) W Aa Aa (all_cons (fun h => Af (by kernel_rfl) h) (all_cons (fun h => Af (by kernel_rfl) h) Aj)) Aj ?_
   have W := W.frontM (i := 2) Aa Aa
   have W := W.frontM (i := 2) Aa Aa
   have W := W.frontM (i := 2) Aa Aa
   refine Qo ?_
   exact ⟨b3, v4, F.ra Aa, W⟩
  exact trivial
 rintro a w ⟨b3, v4, F, W⟩
 refine Ac ?_
 obtain ⟨o1, G1, K1⟩ := Ad H
 refine Av (fun a w => ∃ x2 : List (Int × Int × List Int), ∃ v5 : Value, some (x2) = some o1 ∧ Fr 49 [] [(2, .pointer (some ⟨b2, 0, none⟩)), (3, .pointer (some ⟨b3, 0, none⟩))] a ∧ Stw ⟨Y, [], w0⟩ (Mb b3 v4 v5 p0 b2 b1 v1 v2) [row v4 78 Hg x1, row v5 65 Jw x2] w) ?_ ?_
 ·
  have H := G1
  clear G1 K1
  refine vc tk 6 F W fun a w F W => ?_
  have W := W.nilRow 65 Jw
  have W := W.frontZ (i := 1) Aa Aa
  have W := W.frontM (i := 2) Aa Aa
  have W := W.frontM (i := 2) Aa Aa
  have W := W.frontM (i := 2) Aa Aa
  refine AP H (fun s a w => ∃ v6 : Value, Fr 49 [] [(1, .pointer (some ⟨b1, 0, none⟩)), (2, .pointer (some ⟨b2, 0, none⟩)), (3, .pointer (some ⟨b3, 0, none⟩)), (4, .int .i64 s.1)] a ∧ Stw ⟨Y, [], w0⟩ (Mb b3 v4 v6 p0 b2 b1 v1 v2) [row v4 78 Hg x1, row v6 65 Jw s.2] w) ⟨(Value.slice none 0 0), F.ra Aa, W⟩ fun s o a w H L2 hR => ?_
  obtain ⟨x3, x4⟩ := s
  obtain ⟨v6, F, W⟩ := hR
  have F : Fr 49 [] [(1, .pointer (some ⟨b1, 0, none⟩)), (2, .pointer (some ⟨b2, 0, none⟩)), (3, .pointer (some ⟨b3, 0, none⟩)), (4, .int .i64 x3)] a := F
  have W : Stw ⟨Y, [], w0⟩ (Mb b3 v4 v6 p0 b2 b1 v1 v2) [row v4 78 Hg x1, row v6 65 Jw x4] w := W
  rw [FI] at H
  refine Ha tk 6 [2] F W (ai fun a w F W => ?_)
  refine ls F W Aa (A0 (r := Oh) (l := p0.2.1) PA Aa F Aa (Ak HY h1 (Ab h_v2))).q fun a w F W => ?_
  refine Cc tk 3 F W fun a w F W => ?_
  refine A3 F Aa H (fun F H => ?_) fun F H => ?_
  ·
   refine Ie tk 4 F W fun a w F W => ?_
   have W := W.frontZ (i := 1) Aa Aa
   obtain ⟨v7, h3, W⟩ := W.exR Fj
   refine Is [(true, 0), (true, 1), (true, 2), (true, 3), (true, 4), (true, 5), (true, 6), (true, 7), (true, 8), (true, 9), (true, 10), (true, 11), (true, 12), (true, 13), (true, 14), (true, 15), (true, 16), (true, 17), (true, 18), (true, 19), (true, 20), (false, 21), (false, 22), (true, 23), (false, 24)] (CN ⟨Y, [], w0⟩ [(some 22, b3, [v4, v6, .int .i64 p0.2.2.1, .int .i64 p0.2.2.2.1, .int .i64 p0.2.2.2.2.1, .int .i64 p0.2.2.2.2.2]), (some 21, b1, [v1, v2, .int .i64 p0.2.2.1, .int .i64 p0.2.2.2.1, .int .i64 p0.2.2.2.2.1, .int .i64 p0.2.2.2.2.2])] []) (fun ch a d v w h => by cases d <;> exact h) MO (by kernel_rfl) W (fun w W => ⟨_, _, W, (all_cons (fun _ => (.head _)) (all_cons (fun _ => (.tail _ (.tail _ (.head _)))) Aj)), Aj⟩) fun w W => ?_
   refine Bx (R := []) F Aa Aa (yC fun M Z hN hZ => Ah Qn Aa Aa Aa Sp F Aa 1 Aa) Aa Aa fun a F => ?_
   refine Bx (R := [22]) F Aa Aa (yC fun M Z hN hZ => BF (cs := [v4, v6, .int .i64 p0.2.2.1, .int .i64 p0.2.2.2.1, .int .i64 p0.2.2.2.2.1, .int .i64 p0.2.2.2.2.2]) (v := v6) F Aa (hN ((some 22), b3, [v4, v6, .int .i64 p0.2.2.1, .int .i64 p0.2.2.2.1, .int .i64 p0.2.2.2.2.1, .int .i64 p0.2.2.2.2.2]) (.head _) Aa) Sp Aa) (by kernel_rfl) Aa fun a F => ?_
   refine Bx (R := []) F Aa Aa (yC fun M Z hN hZ => Ah IZ Aa Aa Aa OP F Aa 1 Aa) Aa Aa fun a F => ?_
   refine Bx (R := [21, 20, 7, 6, 5]) F Aa Aa (yC fun M Z hN hZ => BF (cs := [v1, v2, .int .i64 p0.2.2.1, .int .i64 p0.2.2.2.1, .int .i64 p0.2.2.2.2.1, .int .i64 p0.2.2.2.2.2]) (v := v2) F Aa (hN ((some 21), b1, [v1, v2, .int .i64 p0.2.2.1, .int .i64 p0.2.2.2.1, .int .i64 p0.2.2.2.2.1, .int .i64 p0.2.2.2.2.2]) (.tail _ (.head _)) Aa) OP Aa) (by kernel_rfl) Aa fun a F => ?_
   refine Bx (R := []) F Aa Aa (yC fun M Z hN hZ => Am F Aa) Aa Aa fun a F => ?_
   obtain ⟨x5, h4, H⟩ := Ad H
   obtain ⟨v8, h5, h6⟩ := CE h1 h4
   have h7 : JT v8 = [.int .i64 x5.1, .int .i64 x5.2.1, (v8.2.2.1)] := congrArg (fun q : Int × Int × List Int => ([.int .i64 q.1, .int .i64 q.2.1, (v8.2.2.1)] : List Value)) h6
   refine Bx (R := []) F Aa Aa (yC fun M Z hN hZ => Aw (r := Nh) TB F Aa Aa (Ab h_v2) h5) Aa Aa fun a F => ?_
   refine Bx (R := []) F Aa Aa (yC fun M Z hN hZ => Ah PF Aa Aa Aa T3 F Aa (Fi v2 + (x3).toNat * 3) Aa) Aa Aa fun a F => ?_
   refine Bx (R := []) F Aa Aa (yC fun M Z hN hZ => Ai (y := Value.int .i64 x5.1) (j := 0) (i := x3) (enc := JT) F Aa Aa (Ab h_v2) h5 PQ T3 (by rw [h7]; rfl)) Aa Aa fun a F => ?_
   refine Bx (R := []) F Aa Aa (yC fun M Z hN hZ => Ah IZ Aa Aa Aa OP F Aa 1 Aa) Aa Aa fun a F => ?_
   refine Bx (R := [21, 20, 13, 12, 11]) F Aa Aa (yC fun M Z hN hZ => BF (cs := [v1, v2, .int .i64 p0.2.2.1, .int .i64 p0.2.2.2.1, .int .i64 p0.2.2.2.2.1, .int .i64 p0.2.2.2.2.2]) (v := v2) F Aa (hN ((some 21), b1, [v1, v2, .int .i64 p0.2.2.1, .int .i64 p0.2.2.2.1, .int .i64 p0.2.2.2.2.1, .int .i64 p0.2.2.2.2.2]) (.tail _ (.head _)) Aa) OP Aa) (by kernel_rfl) Aa fun a F => ?_
   refine Bx (R := []) F Aa Aa (yC fun M Z hN hZ => Am F Aa) Aa Aa fun a F => ?_
   obtain ⟨x6, h8, H⟩ := Ad H
   obtain ⟨v9, h9, h10⟩ := CE h1 h8
   have h11 : JT v9 = [.int .i64 x6.1, .int .i64 x6.2.1, (v9.2.2.1)] := congrArg (fun q : Int × Int × List Int => ([.int .i64 q.1, .int .i64 q.2.1, (v9.2.2.1)] : List Value)) h10
   refine Bx (R := []) F Aa Aa (yC fun M Z hN hZ => Aw (r := Nh) TB F Aa Aa (Ab h_v2) h9) Aa Aa fun a F => ?_
   refine Bx (R := []) F Aa Aa (yC fun M Z hN hZ => Ah PF Aa Aa Aa T3 F Aa (Fi v2 + (x3).toNat * 3 + 1) Aa) Aa Aa fun a F => ?_
   refine Bx (R := []) F Aa Aa (yC fun M Z hN hZ => Ai (y := Value.int .i64 x6.2.1) (j := 1) (i := x3) (enc := JT) F Aa Aa (Ab h_v2) h9 PQ T3 (by rw [h11]; rfl)) Aa Aa fun a F => ?_
   refine Bx (R := []) F Aa Aa (yC fun M Z hN hZ => Ah IZ Aa Aa Aa OP F Aa 1 Aa) Aa Aa fun a F => ?_
   refine Bx (R := [21, 20, 19, 18, 17]) F Aa Aa (yC fun M Z hN hZ => BF (cs := [v1, v2, .int .i64 p0.2.2.1, .int .i64 p0.2.2.2.1, .int .i64 p0.2.2.2.2.1, .int .i64 p0.2.2.2.2.2]) (v := v2) F Aa (hN ((some 21), b1, [v1, v2, .int .i64 p0.2.2.1, .int .i64 p0.2.2.2.1, .int .i64 p0.2.2.2.2.1, .int .i64 p0.2.2.2.2.2]) (.tail _ (.head _)) Aa) OP Aa) (by kernel_rfl) Aa fun a F => ?_
   refine Bx (R := []) F Aa Aa (yC fun M Z hN hZ => Am F Aa) Aa Aa fun a F => ?_
   obtain ⟨x7, h12, H⟩ := Ad H
   obtain ⟨v10, h13, h14⟩ := CE h1 h12
   have h15 : JT v10 = [.int .i64 x7.1, .int .i64 x7.2.1, (v10.2.2.1)] := congrArg (fun q : Int × Int × List Int => ([.int .i64 q.1, .int .i64 q.2.1, (v10.2.2.1)] : List Value)) h14
   refine Bx (R := []) F Aa Aa (yC fun M Z hN hZ => Aw (r := Nh) TB F Aa Aa (Ab h_v2) h13) Aa Aa fun a F => ?_
   refine Bx (R := []) F Aa Aa (yC fun M Z hN hZ => Ah PF Aa Aa Aa Kj F Aa (Fi v2 + (x3).toNat * 3 + 2) Aa) Aa Aa fun a F => ?_
   refine Bx (R := []) F Aa Aa (yC fun M Z hN hZ => Ai (y := (v10.2.2.1)) (j := 2) (i := x3) (enc := JT) F Aa Aa (Ab h_v2) h13 PQ Kj (by rw [h15]; rfl)) Aa Aa fun a F => ?_
   refine Bx (R := []) F Aa Aa (yC fun M Z hN hZ => B1 (v := Value.agg #[.int .i64 x5.1, .int .i64 x6.2.1, (v10.2.2.1)]) WJ F Aa (AS Aa Aa Aa (AS Aa Aa Aa (AS Aa (BD ((BE (Ab h_v2) h13 (Cd.snd (Cd.snd Cd.here)) (congrArg (fun q : Int × Int × List Int => q.2.2) h14)) _ W).one) Aa DW))) Aa) Aa Aa fun a F => ?_
   refine Ea Aa ?_
   refine CQ (z := Value.agg #[.int .i64 0, .int .i64 0, .slice none 0 0]) (cs := [.int .i64 x5.1, .int .i64 x6.2.1, (v10.2.2.1)]) Jw ([(x5.1, x6.2.1, x7.2.2)] : List (Int × Int × List Int)) F W Aa TE Vu Aa Aa Aa (AS Aa Aa Aa DW) Aa Aa ⟨[Value.int .i64 x5.1, Value.int .i64 x6.2.1, (v10.2.2.1)], _, Aa, ⟨[Value.int .i64 x5.1], [Value.int .i64 x6.2.1, (v10.2.2.1)], Aa, Aa, ⟨[Value.int .i64 x6.2.1], [(v10.2.2.1)], Aa, Aa, ⟨_, Aa, (Sl.at_ (W.old s_v2) h13 (Cd.snd (Cd.snd Cd.here)) (congrArg (fun q : Int × Int × List Int => q.2.2) h14))⟩⟩⟩, Aa⟩ fun v11 a w F W => ?_
   refine Bj (N2 := []) (NZ2 := []) (N3 := [(some 22, b3, [v4, v6, .int .i64 p0.2.2.1, .int .i64 p0.2.2.2.1, .int .i64 p0.2.2.2.2.1, .int .i64 p0.2.2.2.2.2]), (some 21, b1, [v1, v2, .int .i64 p0.2.2.1, .int .i64 p0.2.2.2.1, .int .i64 p0.2.2.2.2.1, .int .i64 p0.2.2.2.2.2])]) (NZ3 := []) W Aa Aa (all_cons (fun _ => (.head _)) (all_cons (fun h => Af (by kernel_rfl) h) Aj)) Aj ?_
   refine Ea Aa ?_
   have W := W.frontZ (i := 1) Aa Aa
   have W := W.hideR Fj h3
   obtain ⟨x8, h16, H⟩ := Ad H
   refine Cp (r := Jw) (i := 0) F W Aa TE Aa Aa Aa Aa (Db W 1 Aa) h16 Aa fun v12 a w F W => ?_
   have W : Stw ⟨Y, [], w0⟩ (Mb b3 v4 v6 p0 b2 b1 v1 v2) [row v12 65 Jw x8, row v11 65 Jw ([(x5.1, x6.2.1, x7.2.2)] : List (Int × Int × List Int)), row v4 78 Hg x1] w := W
   refine Bj (N2 := []) (NZ2 := []) (N3 := [(some 22, b3, [v4, v6, .int .i64 p0.2.2.1, .int .i64 p0.2.2.2.1, .int .i64 p0.2.2.2.2.1, .int .i64 p0.2.2.2.2.2]), (some 21, b1, [v1, v2, .int .i64 p0.2.2.1, .int .i64 p0.2.2.2.1, .int .i64 p0.2.2.2.2.1, .int .i64 p0.2.2.2.2.2])]) (NZ3 := []) W Aa Aa (all_cons (fun h => Af (by kernel_rfl) h) (all_cons (fun h => Af (by kernel_rfl) h) Aj)) Aj ?_
   refine Bx (R := []) F Aa Aa (yC fun M Z hN hZ => Ah Qn Aa Aa Aa Sp F Aa 1 Aa) Aa Aa fun a F => ?_
   refine Ea Aa ?_
   refine Qd (M' := (Mb b3 v4 v12 p0 b2 b1 v1 v2)) 0 F W Aa Aa Aa Sp (W.one (k := 0) Aa) Aa Aa fun w W => ?_
   refine Bj (N2 := []) (NZ2 := []) (N3 := [(some 22, b3, [v4, v6, .int .i64 p0.2.2.1, .int .i64 p0.2.2.2.1, .int .i64 p0.2.2.2.2.1, .int .i64 p0.2.2.2.2.2]), (some 21, b1, [v1, v2, .int .i64 p0.2.2.1, .int .i64 p0.2.2.2.1, .int .i64 p0.2.2.2.2.1, .int .i64 p0.2.2.2.2.2])]) (NZ3 := []) W Aa Aa (all_cons (fun h => Af (by kernel_rfl) h) (all_cons (fun h => Af (by kernel_rfl) h) Aj)) Aj ?_
   refine Gz (Aq ?_)
   refine vn tk 5 F W fun a w F W => ?_
   refine Ac ?_
   have W := W.frontZ (i := 2) Aa Aa
   have W := W.frontM (i := 2) Aa Aa
   have W := W.frontM (i := 2) Aa Aa
   have W := W.frontM (i := 2) Aa Aa
   have W := W.sub (M' := (Mb b3 v4 v12 p0 b2 b1 v1 v2)) (Z' := [row v4 78 Hg x1, row v12 65 Jw x8]) (List.Sublist.refl _) (List.Sublist.cons_cons _ (List.Sublist.cons_cons _ (List.nil_sublist _)))
   exact ⟨_, H, (v12), F.ra Aa, W⟩
  refine AJ ?_
  iterate 2 refine A6 ?_
  refine AM (Ac ?_)
  have W := W.frontZ (i := 1) Aa Aa
  have W := W.frontZ (i := 1) Aa Aa
  have W := W.frontM (i := 2) Aa Aa
  have W := W.frontM (i := 2) Aa Aa
  have W := W.frontM (i := 2) Aa Aa
  have H := L2 _ H
  exact ⟨_, (v6), H, F.ra Aa, W⟩
 rintro a w ⟨x2, v5, hj, F, W⟩
 have hj := AA hj
 subst hj
 have H := K1
 clear G1 K1
 refine Ha tk 3 [0] F W (ai fun a w F W => ?_)
 refine F6 1 F W Aa Aa Aa TF Aa Aa (AX (W.one (k := 0) Aa) (AX (W.one (k := 1) Aa) (AX Aa (AX Aa (AX Aa (AX Aa GO)))))) fun w W => ?_
 refine Cc tk 2 F W fun a w F W => ?_
 refine Ao ?_
 have H := AA H
 subst H
 refine AG (.inl Aa) F W Aa (KR 1 F Aa Aa TF Aa) ?_
 have W := W.frontZ (i := 1) Aa Aa
 have W := W.frontZ (i := 1) Aa Aa
 have W := W.sub (M' := []) (Z' := [row v4 78 Hg x1, row v5 65 Jw x2]) (List.nil_sublist _) (List.Sublist.refl _)
 exact ⟨((v4), (v5)), Aa, W⟩
theorem H9 : Has Try.prog 9 := Ct Try.func9
theorem VL : Ty Try.prog 87 true 4 := ⟨by kernel_rfl, by kernel_rfl⟩
noncomputable def Gp (p0 : List Int) (p1 : Int) : Int → Option (Int ⊕ (Unit ⊕ Bool))
  | x1 => (if x1 < (p0.length : Int) then (ix p0 x1).bind fun x2 => (if x2 = p1 then some (.inr (.inr true)) else some (.inl (A7 (x1 + 1)))) else some (.inr (.inl ())))
noncomputable def JP (p0 : List Int) (p1 : Int) : Option Bool := EZ (An (Gp p0 p1) 0) fun _ => some false
theorem PR (Y : Nat → Prop) (w0 : World) (v1 : Value) (p0 : List Int) (p1 : Int) (r : Bool) (H : JP p0 p1 = some r) (h_v1 : Sl w0 (NX []) (Rp.int .i64) v1 p0) :
    Calls Try.prog 75 #[v1, .int .i64 p1] w0 fun e w' => e = .returned (.bool r) ∧ Below w0.heap.size w0 w' := by
 refine enter Try.func75 Aa Try.ntmps75 Aa fun a F => ?_
 have W := Stw.start Y w0
 unfold JP at H
 refine vc tk 5 F W fun a w F W => ?_
 obtain ⟨o1, G1, K1, L1⟩ := L9 H
 refine Av (fun a w => some (Sum.inl ()) = some o1 ∧ Fr 18 [] [(4, .bool false)] a ∧ Stw ⟨Y, [], w0⟩ [] [] w) ?_ ?_
 ·
  have H := G1
  clear G1 K1
  refine vc tk 6 F W fun a w F W => ?_
  refine AP H (fun s a w => Fr 18 [] [(0, v1), (1, .int .i64 p1), (4, .bool false), (5, .int .i64 s)] a ∧ Stw ⟨Y, [], w0⟩ [] [] w) ⟨F.ra Aa, W⟩ fun s o a w H L2 hR => ?_
  obtain ⟨x1, rfl⟩ : ∃ x, x = s := ⟨s, rfl⟩
  obtain ⟨F, W⟩ := hR
  have F : Fr 18 [] [(0, v1), (1, .int .i64 p1), (4, .bool false), (5, .int .i64 x1)] a := F
  have W : Stw ⟨Y, [], w0⟩ [] [] w := W
  rw [Gp] at H
  refine vc tk 5 F W fun a w F W => ?_
  refine ls F W Aa (A0 (r := (Rp.int .i64)) (l := p0) GS Aa F Aa (Ab h_v1)).q fun a w F W => ?_
  refine Cc tk 3 F W fun a w F W => ?_
  refine A3 F Aa H (fun F H => ?_) fun F H => ?_
  ·
   refine Ie tk 8 F W fun a w F W => ?_
   obtain ⟨x2, h1, H⟩ := Ad H
   refine ls F W Aa (Aw (r := (Rp.int .i64)) HT F Aa Aa (Ab h_v1) h1).q fun a w F W => ?_
   refine ls F W Aa (Ai (y := Value.int .i64 x2) (j := 0) (i := x1) F Aa Aa (Ab h_v1) h1 Fl.int.to T3 Aa).q fun a w F W => ?_
   refine Cc tk 4 F W fun a w F W => ?_
   refine A3 F Aa H (fun F H => ?_) fun F H => ?_
   ·
    refine vc tk 5 F W fun a w F W => ?_
    refine Ao (AR ?_)
    iterate 2 refine AN ?_
    refine AR (AN ?_)
    have H := L2 _ H
    have H := L1 _ H
    have H := AA H
    subst H
    refine AG (.inl Aa) F W Aa (Al F Aa) ?_
    exact ⟨rfl, W.done⟩
   refine AD (Aq ?_)
   refine vn tk 5 F W fun a w F W => ?_
   refine Ac ?_
   exact ⟨_, H, F.ra Aa, W⟩
  refine AJ ?_
  iterate 2 refine A6 ?_
  refine AM (Ac ?_)
  have H := L2 _ H
  exact ⟨H, F.ra Aa, W⟩
 rintro a w ⟨hj, F, W⟩
 have H := K1 _ hj
 clear hj G1 K1 L1
 refine vc tk 5 F W fun a w F W => ?_
 refine Ao ?_
 have H := AA H
 subst H
 refine AG (.inl Aa) F W Aa (Al F Aa) ?_
 exact ⟨rfl, W.done⟩
end Go.Proofs.Ythhoflfhegfmcaa
