/- The functions of layer 27, Ix. Conditions: none. -/
import Derived.Test.YtpckgggmgijiiaaGreatDoorbA3
namespace Go.Proofs.YtpckgggmgijiiaaGreatDoor
open Go Go.RowKit
set_option linter.unusedVariables false
set_option linter.unusedSimpArgs false
set_option maxRecDepth 20000
theorem Y7 : Has Tryz.prog 40 := CJ Tryz.func40
abbrev NJ (a0 : Nat) (a1 : Int × Int × Int × Int) (a2 : Nat) (a3 : Tr37) (a4 : Value) (a5 : Value) : List (Nat × List Value) := [(a0, [.int .i64 a1.1, .int .i64 a1.2.1, .int .i64 a1.2.2.1, .int .i64 a1.2.2.2]), (a2, [.int .i64 a3.un.1, .int .i64 a3.un.2.1.un.1, .int .i64 a3.un.2.1.un.2.1, .int .i64 a3.un.2.1.un.2.2.1, a4, .int .i64 a3.un.2.2.1, .int .i64 a3.un.2.2.2.1, a5])]
abbrev Wy (a0 : Nat) (a1 : Int × (Int × Int × Int × Int)) (a2 : Nat) (a3 : Int × Int × Int × Int) (a4 : Nat) (a5 : Tr37) (a6 : Value) (a7 : Value) : List (Nat × List Value) := [(a0, [.int .i64 a1.1, .int .i64 a1.2.1, .int .i64 a1.2.2.1, .int .i64 a1.2.2.2.1, .int .i64 a1.2.2.2.2]), (a2, [.int .i64 a3.1, .int .i64 a3.2.1, .int .i64 a3.2.2.1, .int .i64 a3.2.2.2]), (a4, [.int .i64 a5.un.1, .int .i64 a5.un.2.1.un.1, .int .i64 a5.un.2.1.un.2.1, .int .i64 a5.un.2.1.un.2.2.1, a6, .int .i64 a5.un.2.2.1, .int .i64 a5.un.2.2.2.1, a7])]
noncomputable def Ct (p0 : Tr37) (p1 : Int) (p2 : Int) (p3 : Int × Int × Int × Int) : Option (List (Int × (Int × Int × Int × Int))) := (Eb (Tr37.of (p0.un.1, Tr34.of (p0.un.2.1.un.1, p0.un.2.1.un.2.1, p0.un.2.1.un.2.2.1, p0.un.2.1.un.2.2.2), p0.un.2.2.1, p0.un.2.2.2.1, p0.un.2.2.2.2)) p1 (p2, p3)).bind fun x1 => (HG ([] : List (Int × (Int × Int × Int × Int))) x1).bind fun _ => (QZ (fun lg4034 => Cm lg4034) x1).bind fun x3 => some x3
theorem GH (Y : Nat → Prop) (w0 : World) (v1 : Value) (v2 : Value) (p0 : Tr37) (p1 : Int) (p2 : Int) (p3 : Int × Int × Int × Int) (r : (List (Int × (Int × Int × Int × Int)))) (H : Ct p0 p1 p2 p3 = some r) (h_v1 : Sl w0 (NX []) CC v1 p0.un.2.1.un.2.2.2) (s_v2 : Sl w0 Y De v2 p0.un.2.2.2.2) :
    Calls Tryz.prog 20 #[.agg #[.int .i64 p0.un.1, .int .i64 p0.un.2.1.un.1, .int .i64 p0.un.2.1.un.2.1, .int .i64 p0.un.2.1.un.2.2.1, v1, .int .i64 p0.un.2.2.1, .int .i64 p0.un.2.2.2.1, v2], .int .i64 p1, .int .i64 p2, .agg #[.int .i64 p3.1, .int .i64 p3.2.1, .int .i64 p3.2.2.1, .int .i64 p3.2.2.2]] w0 fun e w' => ∃ x : Value, e = .returned (x) ∧ Stw ⟨Y, [], w0⟩ [] [row (x) 63 Bg r] w' := by
 refine enter Tryz.func20 Aa Tryz.ntmps20 Aa fun a F => ?_
 have W := Stw.start Y w0
 obtain ⟨v3, h1, h_v1⟩ := h_v1.ex CG
 obtain ⟨v4, h2, s_v2⟩ := s_v2.ex EE
 have h_v2 := W.nx s_v2
 unfold Ct at H
 refine vc tk 2 F W fun a w F W => ?_
 refine CY (cs := (CX p0 v1 v2)) F W Aa Aa Aa fun b1 a w F W => ?_
 refine CY (cs := (F8 p3)) F W Aa Aa Aa fun b2 a w F W => ?_
 refine FC tk 15 [1, 0] F W (ai (ai fun a w F W => ?_))
 refine ls F W Aa (CB (v := Value.agg #[.int .i64 p2, .int .i64 p3.1, .int .i64 p3.2.1, .int .i64 p3.2.2.1, .int .i64 p3.2.2.2]) Yg F Aa Aa Aa).q fun a w F W => ?_
 obtain ⟨x1, h3, H⟩ := Ad H
 refine Bv (Ml := []) (Zl := []) (β := Value) (rv := fun x => x) (MM := fun x => []) (ZZ := fun x => [Cx x CZ Bi x1]) F W WR Aa Aa (fun hL => LZ _ w (v1) (v2) (Tr37.of (p0.un.1, Tr34.of (p0.un.2.1.un.1, p0.un.2.1.un.2.1, p0.un.2.1.un.2.2.1, p0.un.2.1.un.2.2.2), p0.un.2.2.1, p0.un.2.2.2.1, p0.un.2.2.2.2)) p1 (p2, p3) _ h3 ((Aq CG h1 (Af h_v1)) w W).nx (Sl.hide EE h2 (W.old s_v2))) fun x a w F W => ?_
 obtain ⟨v5, rfl⟩ : ∃ y, y = x := ⟨x, rfl⟩
 have W : Stw ⟨Y, [], w0⟩ (NJ b2 p3 b1 p0 v1 v2) [Cx v5 CZ Bi x1] w := W
 refine KR (q := 0) F W Aa Aa Aa Aa Rn fun i4034 m4034 e4034 c4034 l4034 a w hv4034 hE4034 F W => ?_
 have W : Stw ⟨Y, [], w0⟩ (NJ b2 p3 b1 p0 v1 v2) [Gi i4034 m4034 c4034 #[] c4034, F0 m4034 e4034 c4034] w := W
 refine Cl tk 3 F W fun a w F W => ?_
 have W := W.nilRow 63 Bg
 have W := W.frontZ (i := 2) Aa Aa
 have W := W.frontZ (i := 2) Aa Aa
 have W : Stw ⟨Y, [], w0⟩ (NJ b2 p3 b1 p0 v1 v2) [Gi i4034 m4034 c4034 #[] c4034, F0 m4034 e4034 c4034, row (Value.slice none 0 0) 63 Bg ([] : List (Int × (Int × Int × Int × Int)))] w := W
 obtain ⟨x2, h4, H⟩ := Ad H
 refine SO (sl := 9) (v0 := (Value.slice none 0 0)) (Ff := [(0, .agg #[.int .i64 p0.un.1, .int .i64 p0.un.2.1.un.1, .int .i64 p0.un.2.1.un.2.1, .int .i64 p0.un.2.1.un.2.2.1, v1, .int .i64 p0.un.2.2.1, .int .i64 p0.un.2.2.2.1, v2]), (1, .int .i64 p1), (2, .int .i64 p2), (3, .agg #[.int .i64 p3.1, .int .i64 p3.2.1, .int .i64 p3.2.2.1, .int .i64 p3.2.2.2]), (4, .pointer (some ⟨b1, 0, none⟩)), (7, .pointer (some ⟨b2, 0, none⟩)), (8, .slice none 0 0), (11, .agg #[.int .i64 p0.un.1, .int .i64 p0.un.2.1.un.1, .int .i64 p0.un.2.1.un.2.1, .int .i64 p0.un.2.1.un.2.2.1, v1, .int .i64 p0.un.2.2.1, .int .i64 p0.un.2.2.2.1, v2]), (12, .int .i64 p1), (13, .int .i64 p2), (14, .agg #[.int .i64 p3.1, .int .i64 p3.2.1, .int .i64 p3.2.2.1, .int .i64 p3.2.2.2]), (15, .agg #[.int .i64 p2, .int .i64 p3.1, .int .i64 p3.2.1, .int .i64 p3.2.2.1, .int .i64 p3.2.2.2]), (16, v5)]) (Zr := []) (re := 63) (r := Bg) h4 (F.ra Aa) W hv4034 hE4034 Aa Aa (fun kx4034 v4034_ s4034 sn4034 a w ha4034 hc4034 F W => ?_) fun v4034_ lg4034 a w hp4034 F W => ?_
 ·
  have F : Fr 29 [] [(0, .agg #[.int .i64 p0.un.1, .int .i64 p0.un.2.1.un.1, .int .i64 p0.un.2.1.un.2.1, .int .i64 p0.un.2.1.un.2.2.1, v1, .int .i64 p0.un.2.2.1, .int .i64 p0.un.2.2.2.1, v2]), (1, .int .i64 p1), (2, .int .i64 p2), (3, .agg #[.int .i64 p3.1, .int .i64 p3.2.1, .int .i64 p3.2.2.1, .int .i64 p3.2.2.2]), (4, .pointer (some ⟨b1, 0, none⟩)), (7, .pointer (some ⟨b2, 0, none⟩)), (8, .slice none 0 0), (9, v4034_), (11, .agg #[.int .i64 p0.un.1, .int .i64 p0.un.2.1.un.1, .int .i64 p0.un.2.1.un.2.1, .int .i64 p0.un.2.1.un.2.2.1, v1, .int .i64 p0.un.2.2.1, .int .i64 p0.un.2.2.2.1, v2]), (12, .int .i64 p1), (13, .int .i64 p2), (14, .agg #[.int .i64 p3.1, .int .i64 p3.2.1, .int .i64 p3.2.2.1, .int .i64 p3.2.2.2]), (15, .agg #[.int .i64 p2, .int .i64 p3.1, .int .i64 p3.2.1, .int .i64 p3.2.2.1, .int .i64 p3.2.2.2]), (16, v5), (17, .pointer (some ⟨i4034, 0, none⟩)), (18, .tuple #[.bool true, .agg #[.int .i64 kx4034.1, .int .i64 kx4034.2.1, .int .i64 kx4034.2.2.1, .int .i64 kx4034.2.2.2.1, .int .i64 kx4034.2.2.2.2], .agg #[]]), (19, .bool true)] a := F.ra Aa
  have W : Stw ⟨Y, [], w0⟩ (NJ b2 p3 b1 p0 v1 v2) [Gi i4034 m4034 c4034 sn4034 c4034, F0 m4034 e4034 c4034, row v4034_ 63 Bg s4034] w := W
  refine vc tk 3 F W fun a w F W => ?_
  refine ls F W Aa (K0 (q := 0) (q' := 1) F Aa Aa Aa hc4034).q fun a w F W => ?_
  refine ls F W Aa (Dp (v := Value.agg #[.int .i64 kx4034.1, .int .i64 kx4034.2.1, .int .i64 kx4034.2.2.1, .int .i64 kx4034.2.2.2.1, .int .i64 kx4034.2.2.2.2]) F Aa Aa).q fun a w F W => ?_
  refine B9 (cs := (TK)) F W Aa V7 Aa fun b3 a w F W => ?_
  refine Ed 0 F W Aa Aa Aa DP Aa Aa Aa fun w W => ?_
  refine FC tk 5 [0] F W (ai fun a w F W => ?_)
  refine Ht (z := Value.agg #[.int .i64 0, .int .i64 0, .int .i64 0, .int .i64 0, .int .i64 0]) (cs := (CT kx4034)) Bg ([kx4034] : List (Int × (Int × Int × Int × Int))) F W Aa Eg V7 Aa Aa Aa Aa Aa Aa (Ej.repL _ _ ([kx4034] : List (Int × (Int × Int × Int × Int)))) fun v6 a w F W => ?_
  refine HL (r := Bg) (i := 3) F W Aa Eg Aa Aa Aa Aa (Jj W 0 Aa) ha4034 Aa fun v7 a w F W => ?_
  have W : Stw ⟨Y, [], w0⟩ (Wy b3 kx4034 b2 p3 b1 p0 v1 v2) [row v7 63 Bg (s4034 ++ [kx4034]), row v6 63 Bg ([kx4034] : List (Int × (Int × Int × Int × Int))), Gi i4034 m4034 c4034 sn4034 c4034, F0 m4034 e4034 c4034] w := W
  refine vl tk 2 F W fun a w F W => ?_
  refine AG (Ac ?_)
  have W := W.frontZ (i := 3) Aa Aa
  have W := W.frontZ (i := 3) Aa Aa
  have W := W.frontM (i := 2) Aa Aa
  have W := W.frontM (i := 2) Aa Aa
  have W := W.sub (M' := (NJ b2 p3 b1 p0 v1 v2)) (Z' := [Gi i4034 m4034 c4034 sn4034 c4034, F0 m4034 e4034 c4034, row v7 63 Bg (s4034 ++ [kx4034])]) (List.Sublist.cons_cons _ (List.Sublist.cons_cons _ (List.nil_sublist _))) (List.Sublist.cons_cons _ (List.Sublist.cons_cons _ (List.Sublist.cons_cons _ (List.nil_sublist _))))
  exact ⟨v7, F.ra Aa, W⟩
 have F : Fr 29 [] [(0, .agg #[.int .i64 p0.un.1, .int .i64 p0.un.2.1.un.1, .int .i64 p0.un.2.1.un.2.1, .int .i64 p0.un.2.1.un.2.2.1, v1, .int .i64 p0.un.2.2.1, .int .i64 p0.un.2.2.2.1, v2]), (1, .int .i64 p1), (2, .int .i64 p2), (3, .agg #[.int .i64 p3.1, .int .i64 p3.2.1, .int .i64 p3.2.2.1, .int .i64 p3.2.2.2]), (4, .pointer (some ⟨b1, 0, none⟩)), (7, .pointer (some ⟨b2, 0, none⟩)), (8, .slice none 0 0), (9, v4034_), (11, .agg #[.int .i64 p0.un.1, .int .i64 p0.un.2.1.un.1, .int .i64 p0.un.2.1.un.2.1, .int .i64 p0.un.2.1.un.2.2.1, v1, .int .i64 p0.un.2.2.1, .int .i64 p0.un.2.2.2.1, v2]), (12, .int .i64 p1), (13, .int .i64 p2), (14, .agg #[.int .i64 p3.1, .int .i64 p3.2.1, .int .i64 p3.2.2.1, .int .i64 p3.2.2.2]), (15, .agg #[.int .i64 p2, .int .i64 p3.1, .int .i64 p3.2.1, .int .i64 p3.2.2.1, .int .i64 p3.2.2.2]), (16, v5)] a := F.ra Aa
 have W : Stw ⟨Y, [], w0⟩ (NJ b2 p3 b1 p0 v1 v2) [Cx v5 CZ Bi x1, row v4034_ 63 Bg lg4034] w := W
 refine Bp ?_
 refine vn tk 3 F W fun a w F W => ?_
 obtain ⟨x3, h5, H⟩ := Ad H
 have h6 := Rb h5 _ hp4034
 have W := W.frontZ (i := 1) Aa Aa
 refine Bv (Ml := []) (Zl := [row v4034_ 63 Bg lg4034]) (β := Unit) (rv := fun x => .tuple #[]) (MM := fun x => []) (ZZ := fun x => [row v4034_ 63 Bg x3]) F W Y7 Aa Aa (fun hL => F5 _ _ w (v4034_) lg4034 _ h6 hL) fun x a w F W => ?_
 have W : Stw ⟨Y, [], w0⟩ (NJ b2 p3 b1 p0 v1 v2) [row v4034_ 63 Bg x3, Cx v5 CZ Bi x1] w := W
 refine Cl tk 8 F W fun a w F W => ?_
 refine Ak ?_
 have H := AA H
 subst H
 refine Au (.inl Aa) F W Aa (Am F Aa) ?_
 have W := W.sub (M' := []) (Z' := [row v4034_ 63 Bg x3]) (List.nil_sublist _) (List.Sublist.cons_cons _ (List.nil_sublist _))
 exact ⟨(v4034_), Aa, W⟩
theorem Wk : Has Tryz.prog 20 := CJ Tryz.func20
def EK (p0 : Int) : List UInt8 := (if p0 = 0 then ([115, 114, 99] : List UInt8) else (if p0 = 1 then ([100, 115, 116] : List UInt8) else (if p0 = 2 then ([107, 105, 110, 100] : List UInt8) else (if p0 = 3 then ([116, 97, 103] : List UInt8) else (if p0 = 4 then ([112, 111, 114, 116] : List UInt8) else (if p0 = 5 then ([115, 119, 105, 116, 99, 104] : List UInt8) else ([63] : List UInt8)))))))
theorem LW (Y : Nat → Prop) (w0 : World)  (p0 : Int) (r : List UInt8) (H : EK p0 = r)  :
    Calls Tryz.prog 86 #[.int .i64 p0] w0 fun e w' => e = .returned (.string (bs r)) ∧ Below w0.heap.size w0 w' := by
 refine enter Tryz.func86 Aa Tryz.ntmps86 Aa fun a F => ?_
 have W := Stw.start Y w0
 unfold EK at H
 refine vc tk 2 F W fun a w F W => ?_
 refine ls F W Aa (Bk (v := Value.string (bs ([] : List UInt8))) F Aa).q fun a w F W => ?_
 refine Cl tk 15 F W fun a w F W => ?_
 refine BX F Aa (fun hb => ?_) fun hb => ?_
 ·
  have H := B8 (CI hb) H
  rw [hb] at F
  clear hb
  refine vc tk 2 F W fun a w F W => ?_
  refine ls F W Aa (Bk (v := Value.string (bs ([115, 114, 99] : List UInt8))) F Aa).q fun a w F W => ?_
  refine Cl tk 2 F W fun a w F W => ?_
  refine Ak (AD (Ay ?_))
  subst H
  refine Au (.inl Aa) F W Aa (Am F Aa) ?_
  exact ⟨rfl, W.done⟩
 have H := B7 (CH hb) H
 rw [hb] at F
 clear hb
 refine vc tk 6 F W fun a w F W => ?_
 refine BX F Aa (fun hb => ?_) fun hb => ?_
 ·
  have H := B8 (CI hb) H
  rw [hb] at F
  clear hb
  refine vc tk 2 F W fun a w F W => ?_
  refine ls F W Aa (Bk (v := Value.string (bs ([100, 115, 116] : List UInt8))) F Aa).q fun a w F W => ?_
  refine Cl tk 2 F W fun a w F W => ?_
  refine Ak (AD (Ay ?_))
  subst H
  refine Au (.inl Aa) F W Aa (Am F Aa) ?_
  exact ⟨rfl, W.done⟩
 have H := B7 (CH hb) H
 rw [hb] at F
 clear hb
 refine vc tk 6 F W fun a w F W => ?_
 refine BX F Aa (fun hb => ?_) fun hb => ?_
 ·
  have H := B8 (CI hb) H
  rw [hb] at F
  clear hb
  refine vc tk 2 F W fun a w F W => ?_
  refine ls F W Aa (Bk (v := Value.string (bs ([107, 105, 110, 100] : List UInt8))) F Aa).q fun a w F W => ?_
  refine Cl tk 2 F W fun a w F W => ?_
  refine Ak (AD (Ay ?_))
  subst H
  refine Au (.inl Aa) F W Aa (Am F Aa) ?_
  exact ⟨rfl, W.done⟩
 have H := B7 (CH hb) H
 rw [hb] at F
 clear hb
 refine vc tk 6 F W fun a w F W => ?_
 refine BX F Aa (fun hb => ?_) fun hb => ?_
 ·
  have H := B8 (CI hb) H
  rw [hb] at F
  clear hb
  refine vc tk 2 F W fun a w F W => ?_
  refine ls F W Aa (Bk (v := Value.string (bs ([116, 97, 103] : List UInt8))) F Aa).q fun a w F W => ?_
  refine Cl tk 2 F W fun a w F W => ?_
  refine Ak (AD (Ay ?_))
  subst H
  refine Au (.inl Aa) F W Aa (Am F Aa) ?_
  exact ⟨rfl, W.done⟩
 have H := B7 (CH hb) H
 rw [hb] at F
 clear hb
 refine vc tk 6 F W fun a w F W => ?_
 refine BX F Aa (fun hb => ?_) fun hb => ?_
 ·
  have H := B8 (CI hb) H
  rw [hb] at F
  clear hb
  refine vc tk 2 F W fun a w F W => ?_
  refine ls F W Aa (Bk (v := Value.string (bs ([112, 111, 114, 116] : List UInt8))) F Aa).q fun a w F W => ?_
  refine Cl tk 2 F W fun a w F W => ?_
  refine Ak (AD (Ay ?_))
  subst H
  refine Au (.inl Aa) F W Aa (Am F Aa) ?_
  exact ⟨rfl, W.done⟩
 have H := B7 (CH hb) H
 rw [hb] at F
 clear hb
 refine vc tk 6 F W fun a w F W => ?_
 refine BX F Aa (fun hb => ?_) fun hb => ?_
 ·
  have H := B8 (CI hb) H
  rw [hb] at F
  clear hb
  refine vc tk 2 F W fun a w F W => ?_
  refine ls F W Aa (Bk (v := Value.string (bs ([115, 119, 105, 116, 99, 104] : List UInt8))) F Aa).q fun a w F W => ?_
  refine Cl tk 2 F W fun a w F W => ?_
  refine Ak (AD (Ay ?_))
  subst H
  refine Au (.inl Aa) F W Aa (Am F Aa) ?_
  exact ⟨rfl, W.done⟩
 have H := B7 (CH hb) H
 rw [hb] at F
 clear hb
 refine AX (AG ?_)
 refine vn tk 2 F W fun a w F W => ?_
 refine ls F W Aa (Bk (v := Value.string (bs ([63] : List UInt8))) F Aa).q fun a w F W => ?_
 refine Cl tk 2 F W fun a w F W => ?_
 refine Ak ?_
 subst H
 refine Au (.inl Aa) F W Aa (Am F Aa) ?_
 exact ⟨rfl, W.done⟩
theorem Xt : type_of% Tryz.underlying89 := Tryz.underlying89
theorem YR : Has Tryz.prog 86 := CJ Tryz.func86
theorem X7 : Has Tryz.prog 55 := CJ Tryz.func55
theorem U5 : (Tryz.prog.info? 34).bind (·.zero) = some (.agg #[.int .i64 0, .int .i64 0, .int .i64 0, .slice none 0 0]) := by kernel_rfl
theorem XI : Has Tryz.prog 58 := CJ Tryz.func58
theorem Z9 : (Tryz.prog.info? 9).bind (·.zero) = some (.string (bs ([] : List UInt8))) := by kernel_rfl
theorem WZ : Et Tryz.prog 89 9 1 16 := Et.of Xt (by kernel_rfl) (by kernel_rfl) (by kernel_rfl) (by decide)
theorem WU : Has Tryz.prog 56 := CJ Tryz.func56
abbrev LM  : List Value := [.int .i64 0, .int .i64 0, .int .i64 0, .slice none 0 0]
noncomputable def DR (fRec_pred_Text : Tr34 → Option (List UInt8)) (p0 : List Tr34) : (List (List UInt8) × Int) → Option ((List (List UInt8) × Int) ⊕ (List (List UInt8)))
  | (x2, x3) => (if x3 < (p0.length : Int) then (ix p0 x3).bind fun x4 => (fRec_pred_Text x4).bind fun x5 => (if (decide (x4.un.1 = 5) || decide (x4.un.1 = 6)) = true then (HG ([40] : List UInt8) x5).bind fun x7 => (HG x7 ([41] : List UInt8)).bind fun x8 => some x8 else some x5).bind fun x6 => (HG x2 ([x6] : List (List UInt8))).bind fun x9 => some (.inl (x9, AO (x3 + 1))) else some (.inr x2))
noncomputable def Fs (fRec_pred_Text : Tr34 → Option (List UInt8)) (p0 : List Tr34) (p1 : List UInt8) : Option (List UInt8) := (AW (DR fRec_pred_Text p0) ([], 0)).bind fun x1 => (Ky x1 p1).bind fun x10 => some x10
theorem JC (fRec_pred_Text : Tr34 → Option (List UInt8)) (ih_pred_Text : ∀ (Y : Nat → Prop) (w0 : World) (v1 : Value) (p0 : Tr34) (r : List UInt8) (H : fRec_pred_Text p0 = some r) (h_v1 : Sl w0 (NX []) CC v1 p0.un.2.2.2) (hG : Gk [] w0), Calls Tryz.prog 58 #[.agg #[.int .i64 p0.un.1, .int .i64 p0.un.2.1, .int .i64 p0.un.2.2.1, v1]] w0 fun e w' => e = .returned (.string (bs r)) ∧ Below w0.heap.size w0 w') (Y : Nat → Prop) (w0 : World) (v1 : Value) (p0 : List Tr34) (p1 : List UInt8) (r : List UInt8) (H : Fs fRec_pred_Text p0 p1 = some r) (h_v1 : Sl w0 (NX []) CC v1 p0) (hG : Gk [] w0) :
    Calls Tryz.prog 87 #[v1, .string (bs p1)] w0 fun e w' => e = .returned (.string (bs r)) ∧ Below w0.heap.size w0 w' := by
 refine enter Tryz.func87 Aa Tryz.ntmps87 Aa fun a F => ?_
 have W := Stw.start Y w0
 obtain ⟨v2, h1, h_v1⟩ := h_v1.ex CG
 unfold Fs at H
 refine vc tk 2 F W fun a w F W => ?_
 refine ls F W Aa (Bk (v := Value.string (bs ([] : List UInt8))) F Aa).q fun a w F W => ?_
 refine Cl tk 7 F W fun a w F W => ?_
 obtain ⟨o1, G1, K1⟩ := Ad H
 refine Ax (fun a w => ∃ x1 : List (List UInt8), ∃ v3 : Value, some (x1) = some o1 ∧ Fr 36 [] [(1, .string (bs p1)), (4, .string (bs ([] : List UInt8))), (5, v3)] a ∧ Stw ⟨Y, [], w0⟩ [] [row v3 9 Rp.str x1] w) ?_ ?_
 ·
  have H := G1
  clear G1 K1
  refine vc tk 3 F W fun a w F W => ?_
  refine ls F W Aa (CS (r := CC) (l := p0) Kv Aa F Aa (Aq CG h1 (Af h_v1))).q fun a w F W => ?_
  refine Cl tk 4 F W fun a w F W => ?_
  have W := W.nilRow 9 Rp.str
  refine BF H (fun s a w => ∃ v4 : Value, Fr 36 [] [(1, .string (bs p1)), (4, .string (bs ([] : List UInt8))), (5, v4), (9, v1), (10, .int .i64 (p0.length : Int)), (11, .int .i64 s.2)] a ∧ Stw ⟨Y, [], w0⟩ [] [row v4 9 Rp.str s.1] w) ⟨(Value.slice none 0 0), F.ra Aa, W⟩ fun s o a w H L2 hR => ?_
  obtain ⟨x2, x3⟩ := s
  obtain ⟨v4, F, W⟩ := hR
  have F : Fr 36 [] [(1, .string (bs p1)), (4, .string (bs ([] : List UInt8))), (5, v4), (9, v1), (10, .int .i64 (p0.length : Int)), (11, .int .i64 x3)] a := F
  have W : Stw ⟨Y, [], w0⟩ [] [row v4 9 Rp.str x2] w := W
  rw [DR] at H
  refine vc tk 6 F W fun a w F W => ?_
  refine BJ F Aa H (fun F H => ?_) fun F H => ?_
  ·
   refine FL tk 6 F W fun a w F W => ?_
   obtain ⟨x4, h2, H⟩ := Ad H
   obtain ⟨v5, h3, h4⟩ := DM h1 h2
   have h5 : Jd v5 = [.int .i64 x4.un.1, .int .i64 x4.un.2.1, .int .i64 x4.un.2.2.1, (v5.2.2.2.1)] := congrArg (fun q : Tr34 => ([.int .i64 q.un.1, .int .i64 q.un.2.1, .int .i64 q.un.2.2.1, (v5.2.2.2.1)] : List Value)) h4
   refine ls F W Aa (Av (r := Kb) TL F Aa Aa (Af h_v1) h3).q fun a w F W => ?_
   refine ls F W Aa (Al (y := Value.agg #[.int .i64 x4.un.1, .int .i64 x4.un.2.1, .int .i64 x4.un.2.2.1, (v5.2.2.2.1)]) (j := 0) (i := x3) (enc := Jd) F Aa Aa (Af h_v1) h3 P5 L6 (by rw [h5]; rfl)).q fun a w F W => ?_
   refine B9 (cs := (LM)) F W Aa U5 Aa fun b1 a w F W => ?_
   refine Ed 0 F W Aa Aa Aa L6 Aa Aa (Ae Aa (Ae Aa (Ae Aa (Ae ((BE (Af h_v1) h3 (Ai.snd (Ai.snd (Ai.snd Ai.here))) (congrArg (fun q : Tr34 => q.un.2.2.2) h4)) _ W).one Df)))) fun w W => ?_
   refine FC tk 5 [0] F W (ai fun a w F W => ?_)
   obtain ⟨x5, h6, H⟩ := Ad H
   refine ls F W Aa (AK (v := Value.string (bs x5)) F XI Aa (fun w W => ih_pred_Text any w ((v5.2.2.2.1)) x4 _ h6 (Ek (BE (Af h_v1) h3 (Ai.snd (Ai.snd (Ai.snd Ai.here))) (congrArg (fun q : Tr34 => q.un.2.2.2) h4)) W) (hG.go0 W))) fun a w F W => ?_
   refine vl tk 2 F W fun a w F W => ?_
   refine Ac ?_
   obtain ⟨o3, G3, K3⟩ := Ad H
   refine Ax (fun a w => ∃ x6 : List UInt8, some (x6) = some o3 ∧ Fr 36 [] [(1, .string (bs p1)), (4, .string (bs ([] : List UInt8))), (5, v4), (8, .string (bs x6)), (9, v1), (10, .int .i64 (p0.length : Int)), (11, .int .i64 x3)] a ∧ Stw ⟨Y, [], w0⟩ [(b1, [.int .i64 x4.un.1, .int .i64 x4.un.2.1, .int .i64 x4.un.2.2.1, (v5.2.2.2.1)])] [row v4 9 Rp.str x2] w) ?_ ?_
   ·
    have H := G3
    clear G3 K3
    refine Ax (fun a w => Fr 36 [] [(1, .string (bs p1)), (4, .string (bs ([] : List UInt8))), (5, v4), (8, .string (bs x5)), (9, v1), (10, .int .i64 (p0.length : Int)), (11, .int .i64 x3), (24, .bool (decide (x4.un.1 = 5) || decide (x4.un.1 = 6)))] a ∧ Stw ⟨Y, [], w0⟩ [(b1, [.int .i64 x4.un.1, .int .i64 x4.un.2.1, .int .i64 x4.un.2.2.1, (v5.2.2.2.1)])] [row v4 9 Rp.str x2] w) ?_ ?_
    ·
     refine Fo tk 5 [0] F W (ai fun a w F W => ?_)
     rcases Bool.eq_false_or_eq_true (decide (x4.un.1 = 5)) with hb0 | hb0
     ·
      rw [hb0] at F
      refine vl tk 5 F W fun a w F W => ?_
      refine Ac ?_
      exact ⟨F.re ⟨rfl, Aa, Aa, Aa, Aa, Aa, Aa, (DH (by try rw [hb0]; all_goals simp only [DI])), trivial⟩, W⟩
     rw [hb0] at F
     refine GD tk 5 [0] F W (ai fun a w F W => ?_)
     refine Ac ?_
     exact ⟨F.re ⟨rfl, Aa, Aa, Aa, Aa, Aa, Aa, (DH (by try rw [hb0]; all_goals simp only [DI])), trivial⟩, W⟩
    rintro a w ⟨F, W⟩
    refine Cz F Aa H (fun F H => ?_) fun F H => ?_
    ·
     refine vc tk 2 F W fun a w F W => ?_
     obtain ⟨x7, h7, H⟩ := Ad H
     refine ls F W Aa (GX (l := ([40] : List UInt8)) (m := x5) F Aa Aa h7).q fun a w F W => ?_
     obtain ⟨x8, h8, H⟩ := Ad H
     refine ls F W Aa (GX (l := x7) (m := ([41] : List UInt8)) F Aa Aa h8).q fun a w F W => ?_
     refine vl tk 2 F W fun a w F W => ?_
     refine Ac ?_
     exact ⟨_, H, F.ra Aa, W⟩
    refine AX (Ac ?_)
    exact ⟨_, H, F.ra Aa, W⟩
   rintro a w ⟨x6, hj, F, W⟩
   have hj := AA hj
   subst hj
   have H := K3
   clear G3 K3
   refine vc tk 3 F W fun a w F W => ?_
   refine Ht (z := Value.string (bs ([] : List UInt8))) (cs := [.string (bs x6)]) Rp.str ([x6] : List (List UInt8)) F W Aa WZ Z9 Aa Aa Aa Aa Aa Aa (Fl.str.repL _ _ ([x6] : List (List UInt8))) fun v6 a w F W => ?_
   obtain ⟨x9, h9, H⟩ := Ad H
   refine HL (r := Rp.str) (i := 1) F W Aa WZ Aa Aa Aa Aa (Jj W 0 Aa) h9 Aa fun v7 a w F W => ?_
   have W : Stw ⟨Y, [], w0⟩ [(b1, [.int .i64 x4.un.1, .int .i64 x4.un.2.1, .int .i64 x4.un.2.2.1, (v5.2.2.2.1)])] [row v7 9 Rp.str x9, row v6 9 Rp.str ([x6] : List (List UInt8))] w := W
   refine vl tk 2 F W fun a w F W => ?_
   refine AG ?_
   refine vn tk 4 F W fun a w F W => ?_
   refine Ac ?_
   have W := W.sub (M' := []) (Z' := [row v7 9 Rp.str x9]) (List.nil_sublist _) (List.Sublist.cons_cons _ (List.nil_sublist _))
   exact ⟨_, H, (v7), F.ra Aa, W⟩
  refine Bu ?_
  iterate 2 refine BL ?_
  refine Bp (Ac ?_)
  have H := L2 _ H
  exact ⟨_, (v4), H, F.ra Aa, W⟩
 rintro a w ⟨x1, v3, hj, F, W⟩
 have hj := AA hj
 subst hj
 have H := K1
 clear G1 K1
 refine vc tk 4 F W fun a w F W => ?_
 obtain ⟨x10, h10, H⟩ := Ad H
 refine ls F W Aa (AK (v := Value.string (bs x10)) F WU Aa (fun w W => Pu any w (v3) x1 p1 _ h10 (Ek (Aj 0 Aa) W))) fun a w F W => ?_
 refine Cl tk 3 F W fun a w F W => ?_
 refine Ak ?_
 have H := AA H
 subst H
 refine Au (.inl Aa) F W Aa (Am F Aa) ?_
 exact ⟨rfl, W.done⟩
theorem Xi : Has Tryz.prog 87 := CJ Tryz.func87
noncomputable def Ep (fRec : Tr34 → Option (List UInt8)) (p0 : Tr34) : Option (List UInt8) := (if p0.un.1 = 1 then some ([116, 114, 117, 101] : List UInt8) else (if p0.un.1 = 2 then some ([102, 97, 108, 115, 101] : List UInt8) else (if p0.un.1 = 3 then (HG (EK p0.un.2.1) ([32, 61, 32] : List UInt8)).bind fun x1 => (Pb p0.un.2.2.1).bind fun x2 => (HG x1 x2).bind fun x3 => some x3 else (if p0.un.1 = 4 then ((Fs fRec) p0.un.2.2.2 ([] : List UInt8)).bind fun x4 => (HG ([110, 111, 116, 32] : List UInt8) x4).bind fun x5 => some x5 else (if p0.un.1 = 5 then ((Fs fRec) p0.un.2.2.2 ([32, 97, 110, 100, 32] : List UInt8)).bind fun x6 => some x6 else (if p0.un.1 = 6 then ((Fs fRec) p0.un.2.2.2 ([32, 111, 114, 32] : List UInt8)).bind fun x7 => some x7 else some ([63] : List UInt8)))))))
noncomputable def EZ : Nat → Tr34 → Option (List UInt8)
  | 0 => fun _ => none
  | n + 1 => Ep (EZ n)
noncomputable def Km (p0 : Tr34) : Option (List UInt8) := GL fun n => EZ n p0
theorem O2 (fRec : Tr34 → Option (List UInt8)) (ih : ∀ (Y : Nat → Prop) (w0 : World) (v1 : Value) (p0 : Tr34) (r : List UInt8) (H : fRec p0 = some r) (h_v1 : Sl w0 (NX []) CC v1 p0.un.2.2.2) (hG : Gk [] w0), Calls Tryz.prog 58 #[.agg #[.int .i64 p0.un.1, .int .i64 p0.un.2.1, .int .i64 p0.un.2.2.1, v1]] w0 fun e w' => e = .returned (.string (bs r)) ∧ Below w0.heap.size w0 w') (Y : Nat → Prop) (w0 : World) (v1 : Value) (p0 : Tr34) (r : List UInt8) (H : Ep fRec p0 = some r) (h_v1 : Sl w0 (NX []) CC v1 p0.un.2.2.2) (hG : Gk [] w0) :
    Calls Tryz.prog 58 #[.agg #[.int .i64 p0.un.1, .int .i64 p0.un.2.1, .int .i64 p0.un.2.2.1, v1]] w0 fun e w' => e = .returned (.string (bs r)) ∧ Below w0.heap.size w0 w' := by
 refine enter Tryz.func58 Aa Tryz.ntmps58 Aa fun a F => ?_
 have W := Stw.start Y w0
 obtain ⟨v2, h1, h_v1⟩ := h_v1.ex CG
 unfold Ep at H
 refine vc tk 2 F W fun a w F W => ?_
 refine CY (cs := (Im p0 v1)) F W Aa Aa Aa fun b1 a w F W => ?_
 refine ls F W Aa (Bk (v := Value.string (bs ([] : List UInt8))) F Aa).q fun a w F W => ?_
 refine FC tk 16 [0] F W (ai fun a w F W => ?_)
 refine BX F Aa (fun hb => ?_) fun hb => ?_
 ·
  have H := B8 (CI hb) H
  rw [hb] at F
  clear hb
  refine vc tk 2 F W fun a w F W => ?_
  refine ls F W Aa (Bk (v := Value.string (bs ([116, 114, 117, 101] : List UInt8))) F Aa).q fun a w F W => ?_
  refine Cl tk 2 F W fun a w F W => ?_
  refine Ak (AD (Ay ?_))
  have H := AA H
  subst H
  refine Au (.inl Aa) F W Aa (Am F Aa) ?_
  exact ⟨rfl, W.done⟩
 have H := B7 (CH hb) H
 rw [hb] at F
 clear hb
 refine vc tk 6 F W fun a w F W => ?_
 refine BX F Aa (fun hb => ?_) fun hb => ?_
 ·
  have H := B8 (CI hb) H
  rw [hb] at F
  clear hb
  refine vc tk 2 F W fun a w F W => ?_
  refine ls F W Aa (Bk (v := Value.string (bs ([102, 97, 108, 115, 101] : List UInt8))) F Aa).q fun a w F W => ?_
  refine Cl tk 2 F W fun a w F W => ?_
  refine Ak (AD (Ay ?_))
  have H := AA H
  subst H
  refine Au (.inl Aa) F W Aa (Am F Aa) ?_
  exact ⟨rfl, W.done⟩
 have H := B7 (CH hb) H
 rw [hb] at F
 clear hb
 refine vc tk 6 F W fun a w F W => ?_
 refine BX F Aa (fun hb => ?_) fun hb => ?_
 ·
  have H := B8 (CI hb) H
  rw [hb] at F
  clear hb
  refine FS ?_
  refine Cw W MO (by kernel_rfl) ?_
  refine qs F Aa (Ap Kw Aa Aa Aa T3 F Aa 1 Aa).q fun a F => ?_
  refine qs F Aa (Bw (v := Value.int .i64 p0.un.2.1) 0 F Aa Aa T3 Aa).q fun a F => ?_
  refine qs F Aa (AK (v := Value.string (bs (EK p0.un.2.1))) F YR Aa (fun w W => LW any w p0.un.2.1 _ Aa)) fun a F => ?_
  obtain ⟨x1, h2, H⟩ := Ad H
  refine qs F Aa (GX (l := (EK p0.un.2.1)) (m := ([32, 61, 32] : List UInt8)) F Aa Aa h2).q fun a F => ?_
  refine qs F Aa (Ap Kw Aa Aa Aa T3 F Aa 2 Aa).q fun a F => ?_
  refine qs F Aa (Bw (v := Value.int .i64 p0.un.2.2.1) 0 F Aa Aa T3 Aa).q fun a F => ?_
  obtain ⟨x2, h3, H⟩ := Ad H
  refine qs F Aa (AK (v := Value.string (bs x2)) F X7 Aa (fun w W => TZ any w p0.un.2.2.1 _ h3 (hG.go0 W))) fun a F => ?_
  obtain ⟨x3, h4, H⟩ := Ad H
  refine qs F Aa (GX (l := x1) (m := x2) F Aa Aa h4).q fun a F => ?_
  refine qs F Aa (Bk F Aa).q fun a F => ?_
  refine AJ fun w W => ?_
  refine Ac (Ak (AD (Ay ?_)))
  have H := AA H
  subst H
  refine Au (.inl Aa) F W Aa (Am F Aa) ?_
  exact ⟨rfl, W.done⟩
 have H := B7 (CH hb) H
 rw [hb] at F
 clear hb
 refine vc tk 6 F W fun a w F W => ?_
 refine BX F Aa (fun hb => ?_) fun hb => ?_
 ·
  have H := B8 (CI hb) H
  rw [hb] at F
  clear hb
  refine Fo tk 4 [0] F W (ai fun a w F W => ?_)
  obtain ⟨x4, h5, H⟩ := Ad H
  refine ls F W Aa (AK (v := Value.string (bs x4)) F Xi Aa (fun w W => (JC fRec ih) any w (v1) p0.un.2.2.2 ([] : List UInt8) _ h5 (Ek (Aq CG h1 (Af h_v1)) W) (hG.go0 W))) fun a w F W => ?_
  obtain ⟨x5, h6, H⟩ := Ad H
  refine ls F W Aa (GX (l := ([110, 111, 116, 32] : List UInt8)) (m := x4) F Aa Aa h6).q fun a w F W => ?_
  refine Cl tk 3 F W fun a w F W => ?_
  refine Ak (AD (Ay ?_))
  have H := AA H
  subst H
  refine Au (.inl Aa) F W Aa (Am F Aa) ?_
  exact ⟨rfl, W.done⟩
 have H := B7 (CH hb) H
 rw [hb] at F
 clear hb
 refine vc tk 6 F W fun a w F W => ?_
 refine BX F Aa (fun hb => ?_) fun hb => ?_
 ·
  have H := B8 (CI hb) H
  rw [hb] at F
  clear hb
  refine Fo tk 4 [0] F W (ai fun a w F W => ?_)
  obtain ⟨x6, h7, H⟩ := Ad H
  refine ls F W Aa (AK (v := Value.string (bs x6)) F Xi Aa (fun w W => (JC fRec ih) any w (v1) p0.un.2.2.2 ([32, 97, 110, 100, 32] : List UInt8) _ h7 (Ek (Aq CG h1 (Af h_v1)) W) (hG.go0 W))) fun a w F W => ?_
  refine Cl tk 3 F W fun a w F W => ?_
  refine Ak (AD (Ay ?_))
  have H := AA H
  subst H
  refine Au (.inl Aa) F W Aa (Am F Aa) ?_
  exact ⟨rfl, W.done⟩
 have H := B7 (CH hb) H
 rw [hb] at F
 clear hb
 refine vc tk 6 F W fun a w F W => ?_
 refine BX F Aa (fun hb => ?_) fun hb => ?_
 ·
  have H := B8 (CI hb) H
  rw [hb] at F
  clear hb
  refine Fo tk 4 [0] F W (ai fun a w F W => ?_)
  obtain ⟨x7, h8, H⟩ := Ad H
  refine ls F W Aa (AK (v := Value.string (bs x7)) F Xi Aa (fun w W => (JC fRec ih) any w (v1) p0.un.2.2.2 ([32, 111, 114, 32] : List UInt8) _ h8 (Ek (Aq CG h1 (Af h_v1)) W) (hG.go0 W))) fun a w F W => ?_
  refine Cl tk 3 F W fun a w F W => ?_
  refine Ak (AD (Ay ?_))
  have H := AA H
  subst H
  refine Au (.inl Aa) F W Aa (Am F Aa) ?_
  exact ⟨rfl, W.done⟩
 have H := B7 (CH hb) H
 rw [hb] at F
 clear hb
 refine AX (AG ?_)
 refine vn tk 2 F W fun a w F W => ?_
 refine ls F W Aa (Bk (v := Value.string (bs ([63] : List UInt8))) F Aa).q fun a w F W => ?_
 refine Cl tk 2 F W fun a w F W => ?_
 refine Ak ?_
 have H := AA H
 subst H
 refine Au (.inl Aa) F W Aa (Am F Aa) ?_
 exact ⟨rfl, W.done⟩
theorem PY : ∀ (n : Nat) (Y : Nat → Prop) (w0 : World) (v1 : Value) (p0 : Tr34) (r : List UInt8) (H : EZ n p0 = some r) (h_v1 : Sl w0 (NX []) CC v1 p0.un.2.2.2) (hG : Gk [] w0), Calls Tryz.prog 58 #[.agg #[.int .i64 p0.un.1, .int .i64 p0.un.2.1, .int .i64 p0.un.2.2.1, v1]] w0 fun e w' => e = .returned (.string (bs r)) ∧ Below w0.heap.size w0 w' := by
  intro n
  induction n with
  | zero => intro Y w0 v1 p0 r H; exact nomatch H
  | succ n ih => intro Y w0 v1 p0 r H h_v1 hG; exact O2 (EZ n) ih Y w0 v1 p0 r H h_v1 hG
theorem My (Y : Nat → Prop) (w0 : World) (v1 : Value) (p0 : Tr34) (r : List UInt8) (H : Km p0 = some r) (h_v1 : Sl w0 (NX []) CC v1 p0.un.2.2.2) (hG : Gk [] w0) :
    Calls Tryz.prog 58 #[.agg #[.int .i64 p0.un.1, .int .i64 p0.un.2.1, .int .i64 p0.un.2.2.1, v1]] w0 fun e w' => e = .returned (.string (bs r)) ∧ Below w0.heap.size w0 w' := by
  obtain ⟨n, H⟩ := CR H
  exact PY n Y w0 v1 p0 r H h_v1 hG
noncomputable def Ev (p0 : Tr34) : Option (List UInt8) := (if p0.un.1 = 1 then some ([105, 100] : List UInt8) else (if p0.un.1 = 2 then some ([100, 114, 111, 112] : List UInt8) else (Km p0).bind fun x1 => (HG ([119, 104, 101, 110, 32] : List UInt8) x1).bind fun x2 => some x2))
theorem Ks (Y : Nat → Prop) (w0 : World) (v1 : Value) (p0 : Tr34) (r : List UInt8) (H : Ev p0 = some r) (h_v1 : Sl w0 (NX []) CC v1 p0.un.2.2.2) (hG : Gk [] w0) :
    Calls Tryz.prog 53 #[.agg #[.int .i64 p0.un.1, .int .i64 p0.un.2.1, .int .i64 p0.un.2.2.1, v1]] w0 fun e w' => e = .returned (.string (bs r)) ∧ Below w0.heap.size w0 w' := by
 refine enter Tryz.func53 Aa Tryz.ntmps53 Aa fun a F => ?_
 have W := Stw.start Y w0
 obtain ⟨v2, h1, h_v1⟩ := h_v1.ex CG
 unfold Ev at H
 refine vc tk 2 F W fun a w F W => ?_
 refine CY (cs := (Im p0 v1)) F W Aa Aa Aa fun b1 a w F W => ?_
 refine ls F W Aa (Bk (v := Value.string (bs ([] : List UInt8))) F Aa).q fun a w F W => ?_
 refine FC tk 16 [0] F W (ai fun a w F W => ?_)
 refine BX F Aa (fun hb => ?_) fun hb => ?_
 ·
  have H := B8 (CI hb) H
  rw [hb] at F
  clear hb
  refine vc tk 2 F W fun a w F W => ?_
  refine ls F W Aa (Bk (v := Value.string (bs ([105, 100] : List UInt8))) F Aa).q fun a w F W => ?_
  refine Cl tk 2 F W fun a w F W => ?_
  refine Ak (AD (Ay ?_))
  have H := AA H
  subst H
  refine Au (.inl Aa) F W Aa (Am F Aa) ?_
  exact ⟨rfl, W.done⟩
 have H := B7 (CH hb) H
 rw [hb] at F
 clear hb
 refine vc tk 6 F W fun a w F W => ?_
 refine BX F Aa (fun hb => ?_) fun hb => ?_
 ·
  have H := B8 (CI hb) H
  rw [hb] at F
  clear hb
  refine vc tk 2 F W fun a w F W => ?_
  refine ls F W Aa (Bk (v := Value.string (bs ([100, 114, 111, 112] : List UInt8))) F Aa).q fun a w F W => ?_
  refine Cl tk 2 F W fun a w F W => ?_
  refine Ak (AD (Ay ?_))
  have H := AA H
  subst H
  refine Au (.inl Aa) F W Aa (Am F Aa) ?_
  exact ⟨rfl, W.done⟩
 have H := B7 (CH hb) H
 rw [hb] at F
 clear hb
 refine AX (AG ?_)
 refine Ym tk 3 [0] F W (ai fun a w F W => ?_)
 obtain ⟨x1, h2, H⟩ := Ad H
 refine ls F W Aa (AK (v := Value.string (bs x1)) F XI Aa (fun w W => My any w (v1) p0 _ h2 (Ek (Aq CG h1 (Af h_v1)) W) (hG.go0 W))) fun a w F W => ?_
 obtain ⟨x2, h3, H⟩ := Ad H
 refine ls F W Aa (GX (l := ([119, 104, 101, 110, 32] : List UInt8)) (m := x1) F Aa Aa h3).q fun a w F W => ?_
 refine Cl tk 3 F W fun a w F W => ?_
 refine Ak ?_
 have H := AA H
 subst H
 refine Au (.inl Aa) F W Aa (Am F Aa) ?_
 exact ⟨rfl, W.done⟩
theorem YQ : Has Tryz.prog 53 := CJ Tryz.func53
def D0 (p0 : Int) : List UInt8 := (if p0 = 0 then ([115, 114, 99] : List UInt8) else (if p0 = 1 then ([100, 115, 116] : List UInt8) else (if p0 = 2 then ([107, 105, 110, 100] : List UInt8) else (if p0 = 3 then ([116, 97, 103] : List UInt8) else (if p0 = 4 then ([112, 111, 114, 116] : List UInt8) else ([63] : List UInt8))))))
theorem KV (Y : Nat → Prop) (w0 : World)  (p0 : Int) (r : List UInt8) (H : D0 p0 = r)  :
    Calls Tryz.prog 54 #[.int .i64 p0] w0 fun e w' => e = .returned (.string (bs r)) ∧ Below w0.heap.size w0 w' := by
 refine enter Tryz.func54 Aa Tryz.ntmps54 Aa fun a F => ?_
 have W := Stw.start Y w0
 unfold D0 at H
 refine vc tk 2 F W fun a w F W => ?_
 refine ls F W Aa (Bk (v := Value.string (bs ([] : List UInt8))) F Aa).q fun a w F W => ?_
 refine Cl tk 15 F W fun a w F W => ?_
 refine BX F Aa (fun hb => ?_) fun hb => ?_
 ·
  have H := B8 (CI hb) H
  rw [hb] at F
  clear hb
  refine vc tk 2 F W fun a w F W => ?_
  refine ls F W Aa (Bk (v := Value.string (bs ([115, 114, 99] : List UInt8))) F Aa).q fun a w F W => ?_
  refine Cl tk 2 F W fun a w F W => ?_
  refine Ak (AD (Ay ?_))
  subst H
  refine Au (.inl Aa) F W Aa (Am F Aa) ?_
  exact ⟨rfl, W.done⟩
 have H := B7 (CH hb) H
 rw [hb] at F
 clear hb
 refine vc tk 6 F W fun a w F W => ?_
 refine BX F Aa (fun hb => ?_) fun hb => ?_
 ·
  have H := B8 (CI hb) H
  rw [hb] at F
  clear hb
  refine vc tk 2 F W fun a w F W => ?_
  refine ls F W Aa (Bk (v := Value.string (bs ([100, 115, 116] : List UInt8))) F Aa).q fun a w F W => ?_
  refine Cl tk 2 F W fun a w F W => ?_
  refine Ak (AD (Ay ?_))
  subst H
  refine Au (.inl Aa) F W Aa (Am F Aa) ?_
  exact ⟨rfl, W.done⟩
 have H := B7 (CH hb) H
 rw [hb] at F
 clear hb
 refine vc tk 6 F W fun a w F W => ?_
 refine BX F Aa (fun hb => ?_) fun hb => ?_
 ·
  have H := B8 (CI hb) H
  rw [hb] at F
  clear hb
  refine vc tk 2 F W fun a w F W => ?_
  refine ls F W Aa (Bk (v := Value.string (bs ([107, 105, 110, 100] : List UInt8))) F Aa).q fun a w F W => ?_
  refine Cl tk 2 F W fun a w F W => ?_
  refine Ak (AD (Ay ?_))
  subst H
  refine Au (.inl Aa) F W Aa (Am F Aa) ?_
  exact ⟨rfl, W.done⟩
 have H := B7 (CH hb) H
 rw [hb] at F
 clear hb
 refine vc tk 6 F W fun a w F W => ?_
 refine BX F Aa (fun hb => ?_) fun hb => ?_
 ·
  have H := B8 (CI hb) H
  rw [hb] at F
  clear hb
  refine vc tk 2 F W fun a w F W => ?_
  refine ls F W Aa (Bk (v := Value.string (bs ([116, 97, 103] : List UInt8))) F Aa).q fun a w F W => ?_
  refine Cl tk 2 F W fun a w F W => ?_
  refine Ak (AD (Ay ?_))
  subst H
  refine Au (.inl Aa) F W Aa (Am F Aa) ?_
  exact ⟨rfl, W.done⟩
 have H := B7 (CH hb) H
 rw [hb] at F
 clear hb
 refine vc tk 6 F W fun a w F W => ?_
 refine BX F Aa (fun hb => ?_) fun hb => ?_
 ·
  have H := B8 (CI hb) H
  rw [hb] at F
  clear hb
  refine vc tk 2 F W fun a w F W => ?_
  refine ls F W Aa (Bk (v := Value.string (bs ([112, 111, 114, 116] : List UInt8))) F Aa).q fun a w F W => ?_
  refine Cl tk 2 F W fun a w F W => ?_
  refine Ak (AD (Ay ?_))
  subst H
  refine Au (.inl Aa) F W Aa (Am F Aa) ?_
  exact ⟨rfl, W.done⟩
 have H := B7 (CH hb) H
 rw [hb] at F
 clear hb
 refine AX (AG ?_)
 refine vn tk 2 F W fun a w F W => ?_
 refine ls F W Aa (Bk (v := Value.string (bs ([63] : List UInt8))) F Aa).q fun a w F W => ?_
 refine Cl tk 2 F W fun a w F W => ?_
 refine Ak ?_
 subst H
 refine Au (.inl Aa) F W Aa (Am F Aa) ?_
 exact ⟨rfl, W.done⟩
theorem YF : Has Tryz.prog 54 := CJ Tryz.func54
theorem Yj : Has Tryz.prog 25 := CJ Tryz.func25
noncomputable def Cr (fRec_policy_Text : Tr37 → Option (List UInt8)) (p0 : List Tr37) : (List (List UInt8) × Int) → Option ((List (List UInt8) × Int) ⊕ (List (List UInt8)))
  | (x2, x3) => (if x3 < (p0.length : Int) then (ix p0 x3).bind fun x4 => (fRec_policy_Text (Tr37.of (x4.un.1, Tr34.of (x4.un.2.1.un.1, x4.un.2.1.un.2.1, x4.un.2.1.un.2.2.1, x4.un.2.1.un.2.2.2), x4.un.2.2.1, x4.un.2.2.2.1, x4.un.2.2.2.2))).bind fun x5 => (if (decide (x4.un.1 = 3) || (decide (x4.un.1 = 4) || decide (x4.un.1 = 5))) = true then (HG ([40] : List UInt8) x5).bind fun x7 => (HG x7 ([41] : List UInt8)).bind fun x8 => some x8 else some x5).bind fun x6 => (HG x2 ([x6] : List (List UInt8))).bind fun x9 => some (.inl (x9, AO (x3 + 1))) else some (.inr x2))
noncomputable def CL (fRec_policy_Text : Tr37 → Option (List UInt8)) (p0 : List Tr37) : Option (List (List UInt8)) := (AW (Cr fRec_policy_Text p0) ([], 0)).bind fun x1 => some x1
theorem FV (fRec_policy_Text : Tr37 → Option (List UInt8)) (ih_policy_Text : ∀ (Y : Nat → Prop) (w0 : World) (v1 : Value) (v2 : Value) (p0 : Tr37) (r : List UInt8) (H : fRec_policy_Text p0 = some r) (h_v1 : Sl w0 (NX []) CC v1 p0.un.2.1.un.2.2.2) (h_v2 : Sl w0 (NX []) De v2 p0.un.2.2.2.2) (hG : Gk [] w0), Calls Tryz.prog 25 #[.agg #[.int .i64 p0.un.1, .int .i64 p0.un.2.1.un.1, .int .i64 p0.un.2.1.un.2.1, .int .i64 p0.un.2.1.un.2.2.1, v1, .int .i64 p0.un.2.2.1, .int .i64 p0.un.2.2.2.1, v2]] w0 fun e w' => e = .returned (.string (bs r)) ∧ Below w0.heap.size w0 w') (Y : Nat → Prop) (w0 : World) (v1 : Value) (p0 : List Tr37) (r : List (List UInt8)) (H : CL fRec_policy_Text p0 = some r) (h_v1 : Sl w0 (NX []) De v1 p0) (hG : Gk [] w0) :
    Calls Tryz.prog 57 #[v1] w0 fun e w' => ∃ x : Value, e = .returned (x) ∧ Stw ⟨Y, [], w0⟩ [] [row (x) 9 Rp.str r] w' := by
 refine enter Tryz.func57 Aa Tryz.ntmps57 Aa fun a F => ?_
 have W := Stw.start Y w0
 obtain ⟨v2, h1, h_v1⟩ := h_v1.ex EE
 unfold CL at H
 refine vc tk 10 F W fun a w F W => ?_
 obtain ⟨o1, G1, K1⟩ := Ad H
 refine Ax (fun a w => ∃ x1 : List (List UInt8), ∃ v3 : Value, some (x1) = some o1 ∧ Fr 37 [] [(2, .slice none 0 0), (3, v3)] a ∧ Stw ⟨Y, [], w0⟩ [] [row v3 9 Rp.str x1] w) ?_ ?_
 ·
  have H := G1
  clear G1 K1
  refine vc tk 3 F W fun a w F W => ?_
  refine ls F W Aa (CS (r := De) (l := p0) Kq Aa F Aa (Aq EE h1 (Af h_v1))).q fun a w F W => ?_
  refine Cl tk 4 F W fun a w F W => ?_
  have W := W.nilRow 9 Rp.str
  refine BF H (fun s a w => ∃ v4 : Value, Fr 37 [] [(2, .slice none 0 0), (3, v4), (7, v1), (8, .int .i64 (p0.length : Int)), (9, .int .i64 s.2)] a ∧ Stw ⟨Y, [], w0⟩ [] [row v4 9 Rp.str s.1] w) ⟨(Value.slice none 0 0), F.ra Aa, W⟩ fun s o a w H L2 hR => ?_
  obtain ⟨x2, x3⟩ := s
  obtain ⟨v4, F, W⟩ := hR
  have F : Fr 37 [] [(2, .slice none 0 0), (3, v4), (7, v1), (8, .int .i64 (p0.length : Int)), (9, .int .i64 x3)] a := F
  have W : Stw ⟨Y, [], w0⟩ [] [row v4 9 Rp.str x2] w := W
  rw [Cr] at H
  refine vc tk 6 F W fun a w F W => ?_
  refine BJ F Aa H (fun F H => ?_) fun F H => ?_
  ·
   refine FL tk 6 F W fun a w F W => ?_
   obtain ⟨x4, h2, H⟩ := Ad H
   obtain ⟨v5, h3, h4⟩ := DM h1 h2
   have h5 : HK v5 = [.int .i64 x4.un.1, .int .i64 x4.un.2.1.un.1, .int .i64 x4.un.2.1.un.2.1, .int .i64 x4.un.2.1.un.2.2.1, (v5.2.1.2.2.2.1), .int .i64 x4.un.2.2.1, .int .i64 x4.un.2.2.2.1, (v5.2.2.2.2.1)] := congrArg (fun q : Tr37 => ([.int .i64 q.un.1, .int .i64 q.un.2.1.un.1, .int .i64 q.un.2.1.un.2.1, .int .i64 q.un.2.1.un.2.2.1, (v5.2.1.2.2.2.1), .int .i64 q.un.2.2.1, .int .i64 q.un.2.2.2.1, (v5.2.2.2.2.1)] : List Value)) h4
   refine ls F W Aa (Av (r := FW) O0 F Aa Aa (Af h_v1) h3).q fun a w F W => ?_
   refine ls F W Aa (Al (y := Value.agg #[.int .i64 x4.un.1, .int .i64 x4.un.2.1.un.1, .int .i64 x4.un.2.1.un.2.1, .int .i64 x4.un.2.1.un.2.2.1, (v5.2.1.2.2.2.1), .int .i64 x4.un.2.2.1, .int .i64 x4.un.2.2.2.1, (v5.2.2.2.2.1)]) (j := 0) (i := x3) (enc := HK) F Aa Aa (Af h_v1) h3 NN II (by rw [h5]; rfl)).q fun a w F W => ?_
   refine B9 (cs := (F6)) F W Aa Mc Aa fun b1 a w F W => ?_
   refine Ed 0 F W Aa Aa Aa II Aa Aa (Ae Aa (Ae Aa (Ae Aa (Ae Aa (Ae ((BE (Af h_v1) h3 (Ai.snd (Ai.fst (Ai.snd (Ai.snd (Ai.snd Ai.here))))) (congrArg (fun q : Tr37 => q.un.2.1.un.2.2.2) h4)) _ W).one (Ae Aa (Ae Aa (Ae ((BE (Af h_v1) h3 (Ai.snd (Ai.snd (Ai.snd (Ai.snd Ai.here)))) (congrArg (fun q : Tr37 => q.un.2.2.2.2) h4)) _ W).one Df)))))))) fun w W => ?_
   refine FC tk 5 [0] F W (ai fun a w F W => ?_)
   obtain ⟨x5, h6, H⟩ := Ad H
   refine ls F W Aa (AK (v := Value.string (bs x5)) F Yj Aa (fun w W => ih_policy_Text any w ((v5.2.1.2.2.2.1)) ((v5.2.2.2.2.1)) (Tr37.of (x4.un.1, Tr34.of (x4.un.2.1.un.1, x4.un.2.1.un.2.1, x4.un.2.1.un.2.2.1, x4.un.2.1.un.2.2.2), x4.un.2.2.1, x4.un.2.2.2.1, x4.un.2.2.2.2)) _ h6 (Ek (BE (Af h_v1) h3 (Ai.snd (Ai.fst (Ai.snd (Ai.snd (Ai.snd Ai.here))))) (congrArg (fun q : Tr37 => q.un.2.1.un.2.2.2) h4)) W) (Ek (BE (Af h_v1) h3 (Ai.snd (Ai.snd (Ai.snd (Ai.snd Ai.here)))) (congrArg (fun q : Tr37 => q.un.2.2.2.2) h4)) W) (hG.go0 W))) fun a w F W => ?_
   refine vl tk 2 F W fun a w F W => ?_
   refine Ac ?_
   obtain ⟨o3, G3, K3⟩ := Ad H
   refine Ax (fun a w => ∃ x6 : List UInt8, some (x6) = some o3 ∧ Fr 37 [] [(2, .slice none 0 0), (3, v4), (6, .string (bs x6)), (7, v1), (8, .int .i64 (p0.length : Int)), (9, .int .i64 x3)] a ∧ Stw ⟨Y, [], w0⟩ [(b1, [.int .i64 x4.un.1, .int .i64 x4.un.2.1.un.1, .int .i64 x4.un.2.1.un.2.1, .int .i64 x4.un.2.1.un.2.2.1, (v5.2.1.2.2.2.1), .int .i64 x4.un.2.2.1, .int .i64 x4.un.2.2.2.1, (v5.2.2.2.2.1)])] [row v4 9 Rp.str x2] w) ?_ ?_
   ·
    have H := G3
    clear G3 K3
    refine Ax (fun a w => Fr 37 [] [(2, .slice none 0 0), (3, v4), (6, .string (bs x5)), (7, v1), (8, .int .i64 (p0.length : Int)), (9, .int .i64 x3), (27, .bool (decide (x4.un.1 = 3) || (decide (x4.un.1 = 4) || decide (x4.un.1 = 5))))] a ∧ Stw ⟨Y, [], w0⟩ [(b1, [.int .i64 x4.un.1, .int .i64 x4.un.2.1.un.1, .int .i64 x4.un.2.1.un.2.1, .int .i64 x4.un.2.1.un.2.2.1, (v5.2.1.2.2.2.1), .int .i64 x4.un.2.2.1, .int .i64 x4.un.2.2.2.1, (v5.2.2.2.2.1)])] [row v4 9 Rp.str x2] w) ?_ ?_
    ·
     refine Fo tk 5 [0] F W (ai fun a w F W => ?_)
     rcases Bool.eq_false_or_eq_true (decide (x4.un.1 = 3)) with hb0 | hb0
     ·
      rw [hb0] at F
      refine vl tk 10 F W fun a w F W => ?_
      refine Ac ?_
      exact ⟨F.re ⟨rfl, Aa, Aa, Aa, Aa, Aa, (DH (by try rw [hb0]; all_goals simp only [DI])), trivial⟩, W⟩
     rw [hb0] at F
     refine GD tk 5 [0] F W (ai fun a w F W => ?_)
     rcases Bool.eq_false_or_eq_true (decide (x4.un.1 = 4)) with hb1 | hb1
     ·
      rw [hb1] at F
      refine vl tk 5 F W fun a w F W => ?_
      refine Ac ?_
      exact ⟨F.re ⟨rfl, Aa, Aa, Aa, Aa, Aa, (DH (by try rw [hb0]; try rw [hb1]; all_goals simp only [DI])), trivial⟩, W⟩
     rw [hb1] at F
     refine GD tk 5 [0] F W (ai fun a w F W => ?_)
     refine Ac ?_
     exact ⟨F.re ⟨rfl, Aa, Aa, Aa, Aa, Aa, (DH (by try rw [hb0]; try rw [hb1]; all_goals simp only [DI])), trivial⟩, W⟩
    rintro a w ⟨F, W⟩
    refine Cz F Aa H (fun F H => ?_) fun F H => ?_
    ·
     refine vc tk 2 F W fun a w F W => ?_
     obtain ⟨x7, h7, H⟩ := Ad H
     refine ls F W Aa (GX (l := ([40] : List UInt8)) (m := x5) F Aa Aa h7).q fun a w F W => ?_
     obtain ⟨x8, h8, H⟩ := Ad H
     refine ls F W Aa (GX (l := x7) (m := ([41] : List UInt8)) F Aa Aa h8).q fun a w F W => ?_
     refine vl tk 2 F W fun a w F W => ?_
     refine Ac ?_
     exact ⟨_, H, F.ra Aa, W⟩
    refine AX (Ac ?_)
    exact ⟨_, H, F.ra Aa, W⟩
   rintro a w ⟨x6, hj, F, W⟩
   have hj := AA hj
   subst hj
   have H := K3
   clear G3 K3
   refine vc tk 3 F W fun a w F W => ?_
   refine Ht (z := Value.string (bs ([] : List UInt8))) (cs := [.string (bs x6)]) Rp.str ([x6] : List (List UInt8)) F W Aa WZ Z9 Aa Aa Aa Aa Aa Aa (Fl.str.repL _ _ ([x6] : List (List UInt8))) fun v6 a w F W => ?_
   obtain ⟨x9, h9, H⟩ := Ad H
   refine HL (r := Rp.str) (i := 1) F W Aa WZ Aa Aa Aa Aa (Jj W 0 Aa) h9 Aa fun v7 a w F W => ?_
   have W : Stw ⟨Y, [], w0⟩ [(b1, [.int .i64 x4.un.1, .int .i64 x4.un.2.1.un.1, .int .i64 x4.un.2.1.un.2.1, .int .i64 x4.un.2.1.un.2.2.1, (v5.2.1.2.2.2.1), .int .i64 x4.un.2.2.1, .int .i64 x4.un.2.2.2.1, (v5.2.2.2.2.1)])] [row v7 9 Rp.str x9, row v6 9 Rp.str ([x6] : List (List UInt8))] w := W
   refine vl tk 2 F W fun a w F W => ?_
   refine AG ?_
   refine vn tk 4 F W fun a w F W => ?_
   refine Ac ?_
   have W := W.sub (M' := []) (Z' := [row v7 9 Rp.str x9]) (List.nil_sublist _) (List.Sublist.cons_cons _ (List.nil_sublist _))
   exact ⟨_, H, (v7), F.ra Aa, W⟩
  refine Bu ?_
  iterate 2 refine BL ?_
  refine Bp (Ac ?_)
  have H := L2 _ H
  exact ⟨_, (v4), H, F.ra Aa, W⟩
 rintro a w ⟨x1, v3, hj, F, W⟩
 have hj := AA hj
 subst hj
 have H := K1
 clear G1 K1
 refine vc tk 6 F W fun a w F W => ?_
 refine Ak ?_
 have H := AA H
 subst H
 refine Au (.inl Aa) F W Aa (Am F Aa) ?_
 exact ⟨(v3), Aa, W⟩
theorem XD : Has Tryz.prog 57 := CJ Tryz.func57
abbrev Hc (a0 : Nat) (a1 : Tr37) (a2 : Value) (a3 : Value) : List (Nat × List Value) := [(a0, [.int .i64 a1.un.1, .int .i64 a1.un.2.1.un.1, .int .i64 a1.un.2.1.un.2.1, .int .i64 a1.un.2.1.un.2.2.1, a2, .int .i64 a1.un.2.2.1, .int .i64 a1.un.2.2.2.1, a3])]
noncomputable def DC (fRec : Tr37 → Option (List UInt8)) (p0 : Tr37) : Option (List UInt8) := (if p0.un.1 = 1 then (Ev (Tr34.of (p0.un.2.1.un.1, p0.un.2.1.un.2.1, p0.un.2.1.un.2.2.1, p0.un.2.1.un.2.2.2))).bind fun x1 => some x1 else (if p0.un.1 = 2 then (HG (D0 p0.un.2.2.1) ([32, 58, 61, 32] : List UInt8)).bind fun x2 => (Pb p0.un.2.2.2.1).bind fun x3 => (HG x2 x3).bind fun x4 => some x4 else (if p0.un.1 = 3 then ((CL fRec) p0.un.2.2.2.2).bind fun x5 => (Ky x5 ([59, 32] : List UInt8)).bind fun x6 => some x6 else (if p0.un.1 = 4 then ((CL fRec) p0.un.2.2.2.2).bind fun x7 => (Ky x7 ([32, 124, 32] : List UInt8)).bind fun x8 => some x8 else (if p0.un.1 = 5 then (Km (Tr34.of (p0.un.2.1.un.1, p0.un.2.1.un.2.1, p0.un.2.1.un.2.2.1, p0.un.2.1.un.2.2.2))).bind fun x9 => (HG ([105, 102, 32] : List UInt8) x9).bind fun x10 => (HG x10 ([32, 116, 104, 101, 110, 32] : List UInt8)).bind fun x11 => ((CL fRec) p0.un.2.2.2.2).bind fun x12 => (Ky x12 ([32, 101, 108, 115, 101, 32] : List UInt8)).bind fun x13 => (HG x11 x13).bind fun x14 => some x14 else some ([63] : List UInt8))))))
noncomputable def DW : Nat → Tr37 → Option (List UInt8)
  | 0 => fun _ => none
  | n + 1 => DC (DW n)
noncomputable def Hd (p0 : Tr37) : Option (List UInt8) := GL fun n => DW n p0
theorem MT (fRec : Tr37 → Option (List UInt8)) (ih : ∀ (Y : Nat → Prop) (w0 : World) (v1 : Value) (v2 : Value) (p0 : Tr37) (r : List UInt8) (H : fRec p0 = some r) (h_v1 : Sl w0 (NX []) CC v1 p0.un.2.1.un.2.2.2) (h_v2 : Sl w0 (NX []) De v2 p0.un.2.2.2.2) (hG : Gk [] w0), Calls Tryz.prog 25 #[.agg #[.int .i64 p0.un.1, .int .i64 p0.un.2.1.un.1, .int .i64 p0.un.2.1.un.2.1, .int .i64 p0.un.2.1.un.2.2.1, v1, .int .i64 p0.un.2.2.1, .int .i64 p0.un.2.2.2.1, v2]] w0 fun e w' => e = .returned (.string (bs r)) ∧ Below w0.heap.size w0 w') (Y : Nat → Prop) (w0 : World) (v1 : Value) (v2 : Value) (p0 : Tr37) (r : List UInt8) (H : DC fRec p0 = some r) (h_v1 : Sl w0 (NX []) CC v1 p0.un.2.1.un.2.2.2) (h_v2 : Sl w0 (NX []) De v2 p0.un.2.2.2.2) (hG : Gk [] w0) :
    Calls Tryz.prog 25 #[.agg #[.int .i64 p0.un.1, .int .i64 p0.un.2.1.un.1, .int .i64 p0.un.2.1.un.2.1, .int .i64 p0.un.2.1.un.2.2.1, v1, .int .i64 p0.un.2.2.1, .int .i64 p0.un.2.2.2.1, v2]] w0 fun e w' => e = .returned (.string (bs r)) ∧ Below w0.heap.size w0 w' := by
 refine enter Tryz.func25 Aa Tryz.ntmps25 Aa fun a F => ?_
 have W := Stw.start Y w0
 obtain ⟨v3, h1, h_v1⟩ := h_v1.ex CG
 obtain ⟨v4, h2, h_v2⟩ := h_v2.ex EE
 unfold DC at H
 refine vc tk 2 F W fun a w F W => ?_
 refine CY (cs := (CX p0 v1 v2)) F W Aa Aa Aa fun b1 a w F W => ?_
 refine ls F W Aa (Bk (v := Value.string (bs ([] : List UInt8))) F Aa).q fun a w F W => ?_
 refine FC tk 16 [0] F W (ai fun a w F W => ?_)
 refine BX F Aa (fun hb => ?_) fun hb => ?_
 ·
  have H := B8 (CI hb) H
  rw [hb] at F
  clear hb
  refine Fo tk 4 [0] F W (ai fun a w F W => ?_)
  obtain ⟨x1, h3, H⟩ := Ad H
  refine ls F W Aa (AK (v := Value.string (bs x1)) F YQ Aa (fun w W => Ks any w (v1) (Tr34.of (p0.un.2.1.un.1, p0.un.2.1.un.2.1, p0.un.2.1.un.2.2.1, p0.un.2.1.un.2.2.2)) _ h3 (Ek (Aq CG h1 (Af h_v1)) W) (hG.go0 W))) fun a w F W => ?_
  refine Cl tk 3 F W fun a w F W => ?_
  refine Ak (AD (Ay ?_))
  have H := AA H
  subst H
  refine Au (.inl Aa) F W Aa (Am F Aa) ?_
  exact ⟨rfl, W.done⟩
 have H := B7 (CH hb) H
 rw [hb] at F
 clear hb
 refine vc tk 6 F W fun a w F W => ?_
 refine BX F Aa (fun hb => ?_) fun hb => ?_
 ·
  have H := B8 (CI hb) H
  rw [hb] at F
  clear hb
  refine FS ?_
  refine Cw W MO (by kernel_rfl) ?_
  refine qs F Aa (Ap I2 Aa Aa Aa T3 F Aa 5 Aa).q fun a F => ?_
  refine qs F Aa (Bw (v := Value.int .i64 p0.un.2.2.1) 0 F Aa Aa T3 Aa).q fun a F => ?_
  refine qs F Aa (AK (v := Value.string (bs (D0 p0.un.2.2.1))) F YF Aa (fun w W => KV any w p0.un.2.2.1 _ Aa)) fun a F => ?_
  obtain ⟨x2, h4, H⟩ := Ad H
  refine qs F Aa (GX (l := (D0 p0.un.2.2.1)) (m := ([32, 58, 61, 32] : List UInt8)) F Aa Aa h4).q fun a F => ?_
  refine qs F Aa (Ap I2 Aa Aa Aa T3 F Aa 6 Aa).q fun a F => ?_
  refine qs F Aa (Bw (v := Value.int .i64 p0.un.2.2.2.1) 0 F Aa Aa T3 Aa).q fun a F => ?_
  obtain ⟨x3, h5, H⟩ := Ad H
  refine qs F Aa (AK (v := Value.string (bs x3)) F X7 Aa (fun w W => TZ any w p0.un.2.2.2.1 _ h5 (hG.go0 W))) fun a F => ?_
  obtain ⟨x4, h6, H⟩ := Ad H
  refine qs F Aa (GX (l := x2) (m := x3) F Aa Aa h6).q fun a F => ?_
  refine qs F Aa (Bk F Aa).q fun a F => ?_
  refine AJ fun w W => ?_
  refine Ac (Ak (AD (Ay ?_)))
  have H := AA H
  subst H
  refine Au (.inl Aa) F W Aa (Am F Aa) ?_
  exact ⟨rfl, W.done⟩
 have H := B7 (CH hb) H
 rw [hb] at F
 clear hb
 refine vc tk 6 F W fun a w F W => ?_
 refine BX F Aa (fun hb => ?_) fun hb => ?_
 ·
  have H := B8 (CI hb) H
  rw [hb] at F
  clear hb
  refine Fo tk 4 [0] F W (ai fun a w F W => ?_)
  obtain ⟨x5, h7, H⟩ := Ad H
  refine Bv (Ml := []) (Zl := []) (β := Value) (rv := fun x => x) (MM := fun x => []) (ZZ := fun x => [row x 9 Rp.str x5]) F W XD Aa Aa (fun hL => (FV fRec ih) _ w (v2) p0.un.2.2.2.2 _ h7 ((Aq EE h2 (Af h_v2)) w W).nx (hG.go0 W)) fun x a w F W => ?_
  obtain ⟨v5, rfl⟩ : ∃ y, y = x := ⟨x, rfl⟩
  have W : Stw ⟨Y, [], w0⟩ (Hc b1 p0 v1 v2) [row v5 9 Rp.str x5] w := W
  obtain ⟨x6, h8, H⟩ := Ad H
  refine ls F W Aa (AK (v := Value.string (bs x6)) F WU Aa (fun w W => Pu any w (v5) x5 ([59, 32] : List UInt8) _ h8 (Ek (Aj 0 Aa) W))) fun a w F W => ?_
  refine Cl tk 3 F W fun a w F W => ?_
  refine Ak (AD (Ay ?_))
  have H := AA H
  subst H
  refine Au (.inl Aa) F W Aa (Am F Aa) ?_
  exact ⟨rfl, W.done⟩
 have H := B7 (CH hb) H
 rw [hb] at F
 clear hb
 refine vc tk 6 F W fun a w F W => ?_
 refine BX F Aa (fun hb => ?_) fun hb => ?_
 ·
  have H := B8 (CI hb) H
  rw [hb] at F
  clear hb
  refine Fo tk 4 [0] F W (ai fun a w F W => ?_)
  obtain ⟨x7, h9, H⟩ := Ad H
  refine Bv (Ml := []) (Zl := []) (β := Value) (rv := fun x => x) (MM := fun x => []) (ZZ := fun x => [row x 9 Rp.str x7]) F W XD Aa Aa (fun hL => (FV fRec ih) _ w (v2) p0.un.2.2.2.2 _ h9 ((Aq EE h2 (Af h_v2)) w W).nx (hG.go0 W)) fun x a w F W => ?_
  obtain ⟨v6, rfl⟩ : ∃ y, y = x := ⟨x, rfl⟩
  have W : Stw ⟨Y, [], w0⟩ (Hc b1 p0 v1 v2) [row v6 9 Rp.str x7] w := W
  obtain ⟨x8, h10, H⟩ := Ad H
  refine ls F W Aa (AK (v := Value.string (bs x8)) F WU Aa (fun w W => Pu any w (v6) x7 ([32, 124, 32] : List UInt8) _ h10 (Ek (Aj 0 Aa) W))) fun a w F W => ?_
  refine Cl tk 3 F W fun a w F W => ?_
  refine Ak (AD (Ay ?_))
  have H := AA H
  subst H
  refine Au (.inl Aa) F W Aa (Am F Aa) ?_
  exact ⟨rfl, W.done⟩
 have H := B7 (CH hb) H
 rw [hb] at F
 clear hb
 refine vc tk 6 F W fun a w F W => ?_
 refine BX F Aa (fun hb => ?_) fun hb => ?_
 ·
  have H := B8 (CI hb) H
  rw [hb] at F
  clear hb
  refine FS ?_
  refine D6 [(true, 0), (true, 1), (true, 5), (true, 6), (false, 2), (true, 3), (true, 4), (false, 7), (false, 8), (true, 9), (false, 10)] (CN ⟨Y, [], w0⟩ [(some 2, b1, [.int .i64 p0.un.1, .int .i64 p0.un.2.1.un.1, .int .i64 p0.un.2.1.un.2.1, .int .i64 p0.un.2.1.un.2.2.1, v1, .int .i64 p0.un.2.2.1, .int .i64 p0.un.2.2.2.1, v2]), (some 7, b1, [.int .i64 p0.un.1, .int .i64 p0.un.2.1.un.1, .int .i64 p0.un.2.1.un.2.1, .int .i64 p0.un.2.1.un.2.2.1, v1, .int .i64 p0.un.2.2.1, .int .i64 p0.un.2.2.2.1, v2])] []) (fun ch a d v w h => by cases d <;> exact h) MO (by kernel_rfl) W (fun w W => ⟨_, _, W, (all_cons (fun _ => (.head _)) (all_cons (fun _ => (.head _)) Ag)), Ag⟩) fun w W => ?_
  refine Bo (R := []) F Aa Aa (yC fun M Z hN hZ => Ap I2 Aa Aa Aa L6 F Aa 1 Aa) Aa Aa fun a F => ?_
  refine Bo (R := [2]) F Aa Aa (yC fun M Z hN hZ => CF (cs := (CX p0 v1 v2)) (v := Value.agg #[.int .i64 p0.un.2.1.un.1, .int .i64 p0.un.2.1.un.2.1, .int .i64 p0.un.2.1.un.2.2.1, v1]) F Aa (hN ((some 2), b1, (CX p0 v1 v2)) (.head _) Aa) L6 Aa) (by kernel_rfl) Aa fun a F => ?_
  refine Bo (R := []) F Aa Aa (yC fun M Z hN hZ => Ap I2 Aa Aa Aa T8 F Aa 7 Aa) Aa Aa fun a F => ?_
  refine Bo (R := [7]) F Aa Aa (yC fun M Z hN hZ => CF (cs := (CX p0 v1 v2)) (v := v2) F Aa (hN ((some 7), b1, (CX p0 v1 v2)) (.tail _ (.head _)) Aa) T8 Aa) (by kernel_rfl) Aa fun a F => ?_
  refine Dr Aa ?_
  obtain ⟨x9, h11, H⟩ := Ad H
  refine ls F W Aa (AK (v := Value.string (bs x9)) F XI Aa (fun w W => My any w (v1) (Tr34.of (p0.un.2.1.un.1, p0.un.2.1.un.2.1, p0.un.2.1.un.2.2.1, p0.un.2.1.un.2.2.2)) _ h11 (Ek (Aq CG h1 (Af h_v1)) W) (hG.go0 W))) fun a w F W => ?_
  refine Bl (N2 := []) (NZ2 := []) (N3 := [(some 2, b1, [.int .i64 p0.un.1, .int .i64 p0.un.2.1.un.1, .int .i64 p0.un.2.1.un.2.1, .int .i64 p0.un.2.1.un.2.2.1, v1, .int .i64 p0.un.2.2.1, .int .i64 p0.un.2.2.2.1, v2]), (some 7, b1, [.int .i64 p0.un.1, .int .i64 p0.un.2.1.un.1, .int .i64 p0.un.2.1.un.2.1, .int .i64 p0.un.2.1.un.2.2.1, v1, .int .i64 p0.un.2.2.1, .int .i64 p0.un.2.2.2.1, v2])]) (NZ3 := []) W Aa Aa (all_cons (fun h => Ah (by kernel_rfl) h) (all_cons (fun _ => (.head _)) Ag)) Ag ?_
  obtain ⟨x10, h12, H⟩ := Ad H
  refine Bo (R := []) F Aa Aa (yC fun M Z hN hZ => GX (l := ([105, 102, 32] : List UInt8)) (m := x9) F Aa Aa h12) Aa Aa fun a F => ?_
  obtain ⟨x11, h13, H⟩ := Ad H
  refine Bo (R := []) F Aa Aa (yC fun M Z hN hZ => GX (l := x10) (m := ([32, 116, 104, 101, 110, 32] : List UInt8)) F Aa Aa h13) Aa Aa fun a F => ?_
  refine Dr Aa ?_
  obtain ⟨x12, h14, H⟩ := Ad H
  refine Bv (Ml := []) (Zl := []) (β := Value) (rv := fun x => x) (MM := fun x => []) (ZZ := fun x => [row x 9 Rp.str x12]) F W XD Aa Aa (fun hL => (FV fRec ih) _ w (v2) p0.un.2.2.2.2 _ h14 ((Aq EE h2 (Af h_v2)) w W).nx (hG.go0 W)) fun x a w F W => ?_
  obtain ⟨v7, rfl⟩ : ∃ y, y = x := ⟨x, rfl⟩
  have W : Stw ⟨Y, [], w0⟩ (Hc b1 p0 v1 v2) [row v7 9 Rp.str x12] w := W
  refine Bl (N2 := []) (NZ2 := []) (N3 := [(some 2, b1, [.int .i64 p0.un.1, .int .i64 p0.un.2.1.un.1, .int .i64 p0.un.2.1.un.2.1, .int .i64 p0.un.2.1.un.2.2.1, v1, .int .i64 p0.un.2.2.1, .int .i64 p0.un.2.2.2.1, v2]), (some 7, b1, [.int .i64 p0.un.1, .int .i64 p0.un.2.1.un.1, .int .i64 p0.un.2.1.un.2.1, .int .i64 p0.un.2.1.un.2.2.1, v1, .int .i64 p0.un.2.2.1, .int .i64 p0.un.2.2.2.1, v2])]) (NZ3 := []) W Aa Aa (all_cons (fun h => Ah (by kernel_rfl) h) (all_cons (fun h => Ah (by kernel_rfl) h) Ag)) Ag ?_
  refine Dr Aa ?_
  obtain ⟨x13, h15, H⟩ := Ad H
  refine ls F W Aa (AK (v := Value.string (bs x13)) F WU Aa (fun w W => Pu any w (v7) x12 ([32, 101, 108, 115, 101, 32] : List UInt8) _ h15 (Ek (Aj 0 Aa) W))) fun a w F W => ?_
  refine Bl (N2 := []) (NZ2 := []) (N3 := [(some 2, b1, [.int .i64 p0.un.1, .int .i64 p0.un.2.1.un.1, .int .i64 p0.un.2.1.un.2.1, .int .i64 p0.un.2.1.un.2.2.1, v1, .int .i64 p0.un.2.2.1, .int .i64 p0.un.2.2.2.1, v2]), (some 7, b1, [.int .i64 p0.un.1, .int .i64 p0.un.2.1.un.1, .int .i64 p0.un.2.1.un.2.1, .int .i64 p0.un.2.1.un.2.2.1, v1, .int .i64 p0.un.2.2.1, .int .i64 p0.un.2.2.2.1, v2])]) (NZ3 := []) W Aa Aa (all_cons (fun h => Ah (by kernel_rfl) h) (all_cons (fun h => Ah (by kernel_rfl) h) Ag)) Ag ?_
  obtain ⟨x14, h16, H⟩ := Ad H
  refine Bo (R := []) F Aa Aa (yC fun M Z hN hZ => GX (l := x11) (m := x13) F Aa Aa h16) Aa Aa fun a F => ?_
  refine Dr Aa ?_
  refine ls F W Aa (Bk F Aa).q fun a w F W => ?_
  refine Bl (N2 := []) (NZ2 := []) (N3 := [(some 2, b1, [.int .i64 p0.un.1, .int .i64 p0.un.2.1.un.1, .int .i64 p0.un.2.1.un.2.1, .int .i64 p0.un.2.1.un.2.2.1, v1, .int .i64 p0.un.2.2.1, .int .i64 p0.un.2.2.2.1, v2]), (some 7, b1, [.int .i64 p0.un.1, .int .i64 p0.un.2.1.un.1, .int .i64 p0.un.2.1.un.2.1, .int .i64 p0.un.2.1.un.2.2.1, v1, .int .i64 p0.un.2.2.1, .int .i64 p0.un.2.2.2.1, v2])]) (NZ3 := []) W Aa Aa (all_cons (fun h => Ah (by kernel_rfl) h) (all_cons (fun h => Ah (by kernel_rfl) h) Ag)) Ag ?_
  refine Fw (Ac (Ak (AD (Ay ?_))))
  have H := AA H
  subst H
  refine Au (.inl Aa) F W Aa (Am F Aa) ?_
  exact ⟨rfl, W.done⟩
 have H := B7 (CH hb) H
 rw [hb] at F
 clear hb
 refine AX (AG ?_)
 refine vn tk 2 F W fun a w F W => ?_
 refine ls F W Aa (Bk (v := Value.string (bs ([63] : List UInt8))) F Aa).q fun a w F W => ?_
 refine Cl tk 2 F W fun a w F W => ?_
 refine Ak ?_
 have H := AA H
 subst H
 refine Au (.inl Aa) F W Aa (Am F Aa) ?_
 exact ⟨rfl, W.done⟩
theorem NK : ∀ (n : Nat) (Y : Nat → Prop) (w0 : World) (v1 : Value) (v2 : Value) (p0 : Tr37) (r : List UInt8) (H : DW n p0 = some r) (h_v1 : Sl w0 (NX []) CC v1 p0.un.2.1.un.2.2.2) (h_v2 : Sl w0 (NX []) De v2 p0.un.2.2.2.2) (hG : Gk [] w0), Calls Tryz.prog 25 #[.agg #[.int .i64 p0.un.1, .int .i64 p0.un.2.1.un.1, .int .i64 p0.un.2.1.un.2.1, .int .i64 p0.un.2.1.un.2.2.1, v1, .int .i64 p0.un.2.2.1, .int .i64 p0.un.2.2.2.1, v2]] w0 fun e w' => e = .returned (.string (bs r)) ∧ Below w0.heap.size w0 w' := by
  intro n
  induction n with
  | zero => intro Y w0 v1 v2 p0 r H; exact nomatch H
  | succ n ih => intro Y w0 v1 v2 p0 r H h_v1 h_v2 hG; exact MT (DW n) ih Y w0 v1 v2 p0 r H h_v1 h_v2 hG
theorem ON (Y : Nat → Prop) (w0 : World) (v1 : Value) (v2 : Value) (p0 : Tr37) (r : List UInt8) (H : Hd p0 = some r) (h_v1 : Sl w0 (NX []) CC v1 p0.un.2.1.un.2.2.2) (h_v2 : Sl w0 (NX []) De v2 p0.un.2.2.2.2) (hG : Gk [] w0) :
    Calls Tryz.prog 25 #[.agg #[.int .i64 p0.un.1, .int .i64 p0.un.2.1.un.1, .int .i64 p0.un.2.1.un.2.1, .int .i64 p0.un.2.1.un.2.2.1, v1, .int .i64 p0.un.2.2.1, .int .i64 p0.un.2.2.2.1, v2]] w0 fun e w' => e = .returned (.string (bs r)) ∧ Below w0.heap.size w0 w' := by
  obtain ⟨n, H⟩ := CR H
  exact NK n Y w0 v1 v2 p0 r H h_v1 h_v2 hG
theorem Ug : type_of% Tryz.underlying65 := Tryz.underlying65
theorem Yz : Bt Tryz.prog 65 [.int .i64 0] [(0, 1)] := ⟨⟨.agg #[.int .i64 0], by kernel_rfl, rfl⟩, ⟨_, Ug, fun w => by kernel_rfl⟩⟩
theorem YC : (Tryz.prog.info? 65).bind (·.zero) = some (.agg #[.int .i64 0]) := by kernel_rfl
theorem YB : Ty Tryz.prog 65 true 1 := ⟨by kernel_rfl, by kernel_rfl⟩
theorem WY : Bt Tryz.prog 34 [.int .i64 0, .int .i64 0, .int .i64 0, .slice none 0 0] [(0, 1), (1, 1), (2, 1), (3, 1)] := ⟨⟨.agg #[.int .i64 0, .int .i64 0, .int .i64 0, .slice none 0 0], by kernel_rfl, rfl⟩, ⟨_, Kw, fun w => by kernel_rfl⟩⟩
theorem Ye : Has Tryz.prog 36 := CJ Tryz.func36
noncomputable def AB (fRec_pred_Same : Tr34 → Tr34 → Option Bool) (p0 : List Tr34) (p1 : List Tr34) : Int → Option (Int ⊕ (Unit ⊕ Bool))
  | x1 => (if x1 < (p0.length : Int) then (ix p0 x1).bind fun x2 => (ix p1 x1).bind fun x3 => (fRec_pred_Same x2 x3).bind fun x4 => (if (!x4) = true then some (.inr (.inr false)) else some (.inl (AO (x1 + 1)))) else some (.inr (.inl ())))
noncomputable def Aw (fRec_pred_Same : Tr34 → Tr34 → Option Bool) (p0 : List Tr34) (p1 : List Tr34) : Option Bool := (if (p0.length : Int) ≠ (p1.length : Int) then some false else Ko (AW (AB fRec_pred_Same p0 p1) 0) fun _ => some true)
theorem Du (fRec_pred_Same : Tr34 → Tr34 → Option Bool) (ih_pred_Same : ∀ (Y : Nat → Prop) (w0 : World) (v1 : Value) (v2 : Value) (p0 : Tr34) (p1 : Tr34) (r : Bool) (H : fRec_pred_Same p0 p1 = some r) (h_v1 : Sl w0 (NX []) CC v1 p0.un.2.2.2) (h_v2 : Sl w0 (NX []) CC v2 p1.un.2.2.2), Calls Tryz.prog 36 #[.agg #[.int .i64 p0.un.1, .int .i64 p0.un.2.1, .int .i64 p0.un.2.2.1, v1], .agg #[.int .i64 p1.un.1, .int .i64 p1.un.2.1, .int .i64 p1.un.2.2.1, v2]] w0 fun e w' => e = .returned (.bool r) ∧ Below w0.heap.size w0 w') (Y : Nat → Prop) (w0 : World) (v1 : Value) (v2 : Value) (p0 : List Tr34) (p1 : List Tr34) (r : Bool) (H : Aw fRec_pred_Same p0 p1 = some r) (h_v1 : Sl w0 (NX []) CC v1 p0) (h_v2 : Sl w0 (NX []) CC v2 p1) :
    Calls Tryz.prog 67 #[v1, v2, .func (.func 36) #[] #[]] w0 fun e w' => e = .returned (.bool r) ∧ Below w0.heap.size w0 w' := by
 refine enter Tryz.func67 Aa Tryz.ntmps67 Aa fun a F => ?_
 have W := Stw.start Y w0
 obtain ⟨v3, h1, h_v1⟩ := h_v1.ex CG
 obtain ⟨v4, h2, h_v2⟩ := h_v2.ex CG
 unfold Aw at H
 refine vc tk 9 F W fun a w F W => ?_
 refine ls F W Aa (CS (r := CC) (l := p0) Kv Aa F Aa (Aq CG h1 (Af h_v1))).q fun a w F W => ?_
 refine ls F W Aa (An F Aa).q fun a w F W => ?_
 refine ls F W Aa (CS (r := CC) (l := p1) Kv Aa F Aa (Aq CG h2 (Af h_v2))).q fun a w F W => ?_
 refine Cl tk 3 F W fun a w F W => ?_
 refine BJ F Aa H (fun F H => ?_) fun F H => ?_
 ·
  refine vc tk 5 F W fun a w F W => ?_
  refine Ak (Ay ?_)
  have H := AA H
  subst H
  refine Au (.inl Aa) F W Aa (Am F Aa) ?_
  exact ⟨rfl, W.done⟩
 refine AX (Ac ?_)
 obtain ⟨o1, G1, K1, L1⟩ := QS H
 refine Ax (fun a w => some (Sum.inl ()) = some o1 ∧ Fr 32 [] [(6, .bool false)] a ∧ Stw ⟨Y, [], w0⟩ [] [] w) ?_ ?_
 ·
  have H := G1
  clear G1 K1
  refine vc tk 3 F W fun a w F W => ?_
  refine ls F W Aa (CS (r := CC) (l := p0) Kv Aa F Aa (Aq CG h1 (Af h_v1))).q fun a w F W => ?_
  refine Cl tk 4 F W fun a w F W => ?_
  refine BF H (fun s a w => Fr 32 [] [(1, v2), (2, .func (.func 36) #[] #[]), (6, .bool false), (15, v1), (16, .int .i64 (p0.length : Int)), (17, .int .i64 s)] a ∧ Stw ⟨Y, [], w0⟩ [] [] w) ⟨F.ra Aa, W⟩ fun s o a w H L2 hR => ?_
  obtain ⟨x1, rfl⟩ : ∃ x, x = s := ⟨s, rfl⟩
  obtain ⟨F, W⟩ := hR
  have F : Fr 32 [] [(1, v2), (2, .func (.func 36) #[] #[]), (6, .bool false), (15, v1), (16, .int .i64 (p0.length : Int)), (17, .int .i64 x1)] a := F
  have W : Stw ⟨Y, [], w0⟩ [] [] w := W
  rw [AB] at H
  refine vc tk 6 F W fun a w F W => ?_
  refine BJ F Aa H (fun F H => ?_) fun F H => ?_
  ·
   refine FL tk 7 F W fun a w F W => ?_
   obtain ⟨x2, h3, H⟩ := Ad H
   obtain ⟨v5, h4, h5⟩ := DM h1 h3
   have h6 : Jd v5 = [.int .i64 x2.un.1, .int .i64 x2.un.2.1, .int .i64 x2.un.2.2.1, (v5.2.2.2.1)] := congrArg (fun q : Tr34 => ([.int .i64 q.un.1, .int .i64 q.un.2.1, .int .i64 q.un.2.2.1, (v5.2.2.2.1)] : List Value)) h5
   refine ls F W Aa (Av (r := Kb) TL F Aa Aa (Af h_v1) h4).q fun a w F W => ?_
   refine ls F W Aa (Al (y := Value.agg #[.int .i64 x2.un.1, .int .i64 x2.un.2.1, .int .i64 x2.un.2.2.1, (v5.2.2.2.1)]) (j := 0) (i := x1) (enc := Jd) F Aa Aa (Af h_v1) h4 P5 L6 (by rw [h6]; rfl)).q fun a w F W => ?_
   refine B9 (cs := (LM)) F W Aa U5 Aa fun b1 a w F W => ?_
   refine ls F W Aa (Bk F Aa).q fun a w F W => ?_
   refine Ed 0 F W Aa Aa Aa L6 Aa Aa (Ae Aa (Ae Aa (Ae Aa (Ae ((BE (Af h_v1) h4 (Ai.snd (Ai.snd (Ai.snd Ai.here))) (congrArg (fun q : Tr34 => q.un.2.2.2) h5)) _ W).one Df)))) fun w W => ?_
   refine Cl tk 3 F W fun a w F W => ?_
   obtain ⟨v6, h7, h8⟩ := Sl.ex CG (Sl.at_ h_v1 h4 (Ai.snd (Ai.snd (Ai.snd Ai.here))) (congrArg (fun q : Tr34 => q.un.2.2.2) h5))
   refine vc tk 3 F W fun a w F W => ?_
   obtain ⟨x3, h9, H⟩ := Ad H
   obtain ⟨v7, h10, h11⟩ := DM h2 h9
   have h12 : Jd v7 = [.int .i64 x3.un.1, .int .i64 x3.un.2.1, .int .i64 x3.un.2.2.1, (v7.2.2.2.1)] := congrArg (fun q : Tr34 => ([.int .i64 q.un.1, .int .i64 q.un.2.1, .int .i64 q.un.2.2.1, (v7.2.2.2.1)] : List Value)) h11
   refine ls F W Aa (Av (r := Kb) TL F Aa Aa (Af h_v2) h10).q fun a w F W => ?_
   refine ls F W Aa (Al (y := Value.agg #[.int .i64 x3.un.1, .int .i64 x3.un.2.1, .int .i64 x3.un.2.2.1, (v7.2.2.2.1)]) (j := 0) (i := x1) (enc := Jd) F Aa Aa (Af h_v2) h10 P5 L6 (by rw [h12]; rfl)).q fun a w F W => ?_
   refine B9 (cs := (LM)) F W Aa U5 Aa fun b2 a w F W => ?_
   refine Ed 0 F W Aa Aa Aa L6 Aa Aa (Ae Aa (Ae Aa (Ae Aa (Ae ((BE (Af h_v2) h10 (Ai.snd (Ai.snd (Ai.snd Ai.here))) (congrArg (fun q : Tr34 => q.un.2.2.2) h11)) _ W).one Df)))) fun w W => ?_
   refine FC tk 7 [1, 0] F W (ai (ai fun a w F W => ?_))
   obtain ⟨x4, h13, H⟩ := Ad H
   refine ls F W Aa (Eo (ws := [.agg #[.int .i64 x2.un.1, .int .i64 x2.un.2.1, .int .i64 x2.un.2.2.1, (v5.2.2.2.1)], .agg #[.int .i64 x3.un.1, .int .i64 x3.un.2.1, .int .i64 x3.un.2.2.1, (v7.2.2.2.1)]]) (v := Value.bool x4) F Ye Aa (fun w W => ih_pred_Same any w ((v5.2.2.2.1)) ((v7.2.2.2.1)) x2 x3 _ h13 (Ek (Aq CG h7 (Af h8)) W) (Ek (BE (Af h_v2) h10 (Ai.snd (Ai.snd (Ai.snd Ai.here))) (congrArg (fun q : Tr34 => q.un.2.2.2) h11)) W))) fun a w F W => ?_
   refine Cl tk 3 F W fun a w F W => ?_
   refine Cz F Aa H (fun F H => ?_) fun F H => ?_
   ·
    refine vc tk 5 F W fun a w F W => ?_
    refine Ak (AD ?_)
    iterate 2 refine Ay ?_
    refine AD (Ay ?_)
    have H := L2 _ H
    have H := L1 _ H
    have H := AA H
    subst H
    refine Au (.inl Aa) F W Aa (Am F Aa) ?_
    exact ⟨rfl, W.done⟩
   refine AX (AG ?_)
   refine vn tk 4 F W fun a w F W => ?_
   refine Ac ?_
   have W := W.sub (M' := []) (Z' := []) (List.nil_sublist _) (List.Sublist.refl _)
   exact ⟨_, H, F.ra Aa, W⟩
  refine Bu ?_
  iterate 2 refine BL ?_
  refine Bp (Ac ?_)
  have H := L2 _ H
  exact ⟨H, F.ra Aa, W⟩
 rintro a w ⟨hj, F, W⟩
 have H := K1 _ hj
 clear hj G1 K1 L1
 refine vc tk 5 F W fun a w F W => ?_
 refine Ak ?_
 have H := AA H
 subst H
 refine Au (.inl Aa) F W Aa (Am F Aa) ?_
 exact ⟨rfl, W.done⟩
theorem YP : Has Tryz.prog 67 := CJ Tryz.func67
noncomputable def Er (fRec : Tr34 → Tr34 → Option Bool) (p0 : Tr34) (p1 : Tr34) : Option Bool := (if p0.un.1 = p1.un.1 then (if p0.un.2.1 = p1.un.2.1 then (if p0.un.2.2.1 = p1.un.2.2.1 then ((Aw fRec) p0.un.2.2.2 p1.un.2.2.2).bind fun x2 => some x2 else some false) else some false) else some false).bind fun x1 => some x1
noncomputable def EX : Nat → Tr34 → Tr34 → Option Bool
  | 0 => fun _ _ => none
  | n + 1 => Er (EX n)
noncomputable def Mn (p0 : Tr34) (p1 : Tr34) : Option Bool := GL fun n => EX n p0 p1
theorem OX (fRec : Tr34 → Tr34 → Option Bool) (ih : ∀ (Y : Nat → Prop) (w0 : World) (v1 : Value) (v2 : Value) (p0 : Tr34) (p1 : Tr34) (r : Bool) (H : fRec p0 p1 = some r) (h_v1 : Sl w0 (NX []) CC v1 p0.un.2.2.2) (h_v2 : Sl w0 (NX []) CC v2 p1.un.2.2.2), Calls Tryz.prog 36 #[.agg #[.int .i64 p0.un.1, .int .i64 p0.un.2.1, .int .i64 p0.un.2.2.1, v1], .agg #[.int .i64 p1.un.1, .int .i64 p1.un.2.1, .int .i64 p1.un.2.2.1, v2]] w0 fun e w' => e = .returned (.bool r) ∧ Below w0.heap.size w0 w') (Y : Nat → Prop) (w0 : World) (v1 : Value) (v2 : Value) (p0 : Tr34) (p1 : Tr34) (r : Bool) (H : Er fRec p0 p1 = some r) (h_v1 : Sl w0 (NX []) CC v1 p0.un.2.2.2) (h_v2 : Sl w0 (NX []) CC v2 p1.un.2.2.2) :
    Calls Tryz.prog 36 #[.agg #[.int .i64 p0.un.1, .int .i64 p0.un.2.1, .int .i64 p0.un.2.2.1, v1], .agg #[.int .i64 p1.un.1, .int .i64 p1.un.2.1, .int .i64 p1.un.2.2.1, v2]] w0 fun e w' => e = .returned (.bool r) ∧ Below w0.heap.size w0 w' := by
 refine enter Tryz.func36 Aa Tryz.ntmps36 Aa fun a F => ?_
 have W := Stw.start Y w0
 obtain ⟨v3, h1, h_v1⟩ := h_v1.ex CG
 obtain ⟨v4, h2, h_v2⟩ := h_v2.ex CG
 unfold Er at H
 refine vc tk 2 F W fun a w F W => ?_
 refine CY (cs := (Im p0 v1)) F W Aa Aa Aa fun b1 a w F W => ?_
 refine CY (cs := (Im p1 v2)) F W Aa Aa Aa fun b2 a w F W => ?_
 refine vl tk 2 F W fun a w F W => ?_
 refine Ac ?_
 obtain ⟨o1, G1, K1⟩ := Ad H
 refine Ax (fun a w => ∃ x1 : Bool, some (x1) = some o1 ∧ Fr 31 [] [(4, .bool x1)] a ∧ Stw ⟨Y, [], w0⟩ [(b2, [.int .i64 p1.un.1, .int .i64 p1.un.2.1, .int .i64 p1.un.2.2.1, v2]), (b1, [.int .i64 p0.un.1, .int .i64 p0.un.2.1, .int .i64 p0.un.2.2.1, v1])] [] w) ?_ ?_
 ·
  have H := G1
  clear G1 K1
  refine Fo tk 7 [1, 0] F W (ai (ai fun a w F W => ?_))
  rcases Bool.eq_false_or_eq_true (decide (p0.un.1 = p1.un.1)) with hb | hb
  ·
   have H := B8 (CI hb) H
   rw [hb] at F
   clear hb
   refine GD tk 7 [1, 0] F W (ai (ai fun a w F W => ?_))
   rcases Bool.eq_false_or_eq_true (decide (p0.un.2.1 = p1.un.2.1)) with hb | hb
   ·
    have H := B8 (CI hb) H
    rw [hb] at F
    clear hb
    refine GD tk 7 [1, 0] F W (ai (ai fun a w F W => ?_))
    rcases Bool.eq_false_or_eq_true (decide (p0.un.2.2.1 = p1.un.2.2.1)) with hb | hb
    ·
     have H := B8 (CI hb) H
     rw [hb] at F
     clear hb
     refine GD tk 4 [1, 0] F W (ai (ai fun a w F W => ?_))
     refine HB (Ab F Aa Aa Aa Aa) ?_
     obtain ⟨x2, h3, H⟩ := Ad H
     refine ls F W Aa (AK (v := Value.bool x2) F YP Aa (fun w W => (Du fRec ih) any w (v1) (v2) p0.un.2.2.2 p1.un.2.2.2 _ h3 (Ek (Aq CG h1 (Af h_v1)) W) (Ek (Aq CG h2 (Af h_v2)) W))) fun a w F W => ?_
     refine vl tk 3 F W fun a w F W => ?_
     refine Ac ?_
     have W := W.frontM (i := 1) Aa Aa
     have W := W.frontM (i := 1) Aa Aa
     exact ⟨_, H, F.ra Aa, W⟩
    have H := B7 (CH hb) H
    rw [hb] at F
    clear hb
    refine vl tk 8 F W fun a w F W => ?_
    refine Ac ?_
    have W := W.frontM (i := 1) Aa Aa
    have W := W.frontM (i := 1) Aa Aa
    exact ⟨_, H, F.ra Aa, W⟩
   have H := B7 (CH hb) H
   rw [hb] at F
   clear hb
   refine vl tk 15 F W fun a w F W => ?_
   refine Ac ?_
   have W := W.frontM (i := 1) Aa Aa
   have W := W.frontM (i := 1) Aa Aa
   exact ⟨_, H, F.ra Aa, W⟩
  have H := B7 (CH hb) H
  rw [hb] at F
  clear hb
  refine vl tk 22 F W fun a w F W => ?_
  refine Ac ?_
  have W := W.frontM (i := 1) Aa Aa
  have W := W.frontM (i := 1) Aa Aa
  exact ⟨_, H, F.ra Aa, W⟩
 rintro a w ⟨x1, hj, F, W⟩
 have hj := AA hj
 subst hj
 have H := K1
 clear G1 K1
 refine Ak ?_
 have H := AA H
 subst H
 refine Au (.inl Aa) F W Aa (Am F Aa) ?_
 exact ⟨rfl, W.done⟩
theorem PQ : ∀ (n : Nat) (Y : Nat → Prop) (w0 : World) (v1 : Value) (v2 : Value) (p0 : Tr34) (p1 : Tr34) (r : Bool) (H : EX n p0 p1 = some r) (h_v1 : Sl w0 (NX []) CC v1 p0.un.2.2.2) (h_v2 : Sl w0 (NX []) CC v2 p1.un.2.2.2), Calls Tryz.prog 36 #[.agg #[.int .i64 p0.un.1, .int .i64 p0.un.2.1, .int .i64 p0.un.2.2.1, v1], .agg #[.int .i64 p1.un.1, .int .i64 p1.un.2.1, .int .i64 p1.un.2.2.1, v2]] w0 fun e w' => e = .returned (.bool r) ∧ Below w0.heap.size w0 w' := by
  intro n
  induction n with
  | zero => intro Y w0 v1 v2 p0 p1 r H; exact nomatch H
  | succ n ih => intro Y w0 v1 v2 p0 p1 r H h_v1 h_v2; exact OX (EX n) ih Y w0 v1 v2 p0 p1 r H h_v1 h_v2
theorem QW (Y : Nat → Prop) (w0 : World) (v1 : Value) (v2 : Value) (p0 : Tr34) (p1 : Tr34) (r : Bool) (H : Mn p0 p1 = some r) (h_v1 : Sl w0 (NX []) CC v1 p0.un.2.2.2) (h_v2 : Sl w0 (NX []) CC v2 p1.un.2.2.2) :
    Calls Tryz.prog 36 #[.agg #[.int .i64 p0.un.1, .int .i64 p0.un.2.1, .int .i64 p0.un.2.2.1, v1], .agg #[.int .i64 p1.un.1, .int .i64 p1.un.2.1, .int .i64 p1.un.2.2.1, v2]] w0 fun e w' => e = .returned (.bool r) ∧ Below w0.heap.size w0 w' := by
  obtain ⟨n, H⟩ := CR H
  exact PQ n Y w0 v1 v2 p0 p1 r H h_v1 h_v2
noncomputable def Ft (p0 : Tr34) : Option Bool := (Mn p0 (Tr34.of (0, 0, 0, ([] : List Tr34)))).bind fun x1 => some x1
theorem Jt (Y : Nat → Prop) (w0 : World) (v1 : Value) (p0 : Tr34) (r : Bool) (H : Ft p0 = some r) (h_v1 : Sl w0 (NX []) CC v1 p0.un.2.2.2) :
    Calls Tryz.prog 88 #[.agg #[.int .i64 p0.un.1, .int .i64 p0.un.2.1, .int .i64 p0.un.2.2.1, v1]] w0 fun e w' => e = .returned (.bool r) ∧ Below w0.heap.size w0 w' := by
 refine enter Tryz.func88 Aa Tryz.ntmps88 Aa fun a F => ?_
 have W := Stw.start Y w0
 obtain ⟨v2, h1, h_v1⟩ := h_v1.ex CG
 unfold Ft at H
 refine vc tk 2 F W fun a w F W => ?_
 refine CY (cs := (Im p0 v1)) F W Aa Aa Aa fun b1 a w F W => ?_
 refine FC tk 6 [0] F W (ai fun a w F W => ?_)
 refine ls F W Aa (CB (v := Value.agg #[.int .i64 0, .int .i64 0, .int .i64 0, .slice none 0 0]) WY F Aa Aa Aa).q fun a w F W => ?_
 obtain ⟨x1, h2, H⟩ := Ad H
 refine ls F W Aa (AK (v := Value.bool x1) F Ye Aa (fun w W => QW any w (v1) (Value.slice none 0 0) p0 (Tr34.of (0, 0, 0, ([] : List Tr34))) _ h2 (Ek (Aq CG h1 (Af h_v1)) W) Sl.nil)) fun a w F W => ?_
 refine Cl tk 3 F W fun a w F W => ?_
 refine Ak ?_
 have H := AA H
 subst H
 refine Au (.inl Aa) F W Aa (Am F Aa) ?_
 exact ⟨rfl, W.done⟩
theorem X1 : Has Tryz.prog 88 := CJ Tryz.func88
noncomputable def Ja (p0 : Int) : Option Int := (if (decide (p0 = 4) || decide (p0 = 5)) = true then some 7 else (D5 p0).bind fun x1 => some x1)
theorem Oc (Y : Nat → Prop) (w0 : World)  (p0 : Int) (r : Int) (H : Ja p0 = some r)  :
    Calls Tryz.prog 89 #[.int .i64 p0] w0 fun e w' => e = .returned (.int .i64 r) ∧ Below w0.heap.size w0 w' := by
 refine enter Tryz.func89 Aa Tryz.ntmps89 Aa fun a F => ?_
 have W := Stw.start Y w0
 unfold Ja at H
 refine vc tk 6 F W fun a w F W => ?_
 refine Ax (fun a w => Fr 11 [] [(0, .int .i64 p0), (2, .int .i64 0), (8, .bool (decide (p0 = 4) || decide (p0 = 5)))] a ∧ Stw ⟨Y, [], w0⟩ [] [] w) ?_ ?_
 ·
  refine vc tk 4 F W fun a w F W => ?_
  rcases Bool.eq_false_or_eq_true (decide (p0 = 4)) with hb0 | hb0
  ·
   rw [hb0] at F
   refine vl tk 4 F W fun a w F W => ?_
   refine Ac ?_
   exact ⟨F.re ⟨rfl, Aa, (DH (by try rw [hb0]; all_goals simp only [DI])), trivial⟩, W⟩
  rw [hb0] at F
  refine vl tk 4 F W fun a w F W => ?_
  refine Ac ?_
  exact ⟨F.re ⟨rfl, Aa, (DH (by try rw [hb0]; all_goals simp only [DI])), trivial⟩, W⟩
 rintro a w ⟨F, W⟩
 refine Cz F Aa H (fun F H => ?_) fun F H => ?_
 ·
  refine vc tk 5 F W fun a w F W => ?_
  refine Ak (Ay ?_)
  have H := AA H
  subst H
  refine Au (.inl Aa) F W Aa (Am F Aa) ?_
  exact ⟨rfl, W.done⟩
 refine FL tk 5 F W fun a w F W => ?_
 obtain ⟨x1, h1, H⟩ := Ad H
 refine ls F W Aa (AK (v := Value.int .i64 x1) F WJ Aa (fun w W => Li any w p0 _ h1)) fun a w F W => ?_
 refine Cl tk 3 F W fun a w F W => ?_
 refine Ak ?_
 have H := AA H
 subst H
 refine Au (.inl Aa) F W Aa (Am F Aa) ?_
 exact ⟨rfl, W.done⟩
theorem XX : Has Tryz.prog 89 := CJ Tryz.func89
noncomputable def Hf (p0 : Tr37) : Option Bool := (if p0.un.1 = 2 then ((Ft (Tr34.of (p0.un.2.1.un.1, p0.un.2.1.un.2.1, p0.un.2.1.un.2.2.1, p0.un.2.1.un.2.2.2))).bind fun x2 => (if x2 = true then (if (p0.un.2.2.2.2.length : Int) = 0 then (if 0 ≤ p0.un.2.2.1 then (if p0.un.2.2.1 ≤ 4 then (if 0 ≤ p0.un.2.2.2.1 then (Ja p0.un.2.2.1).bind fun x3 => some (decide (p0.un.2.2.2.1 ≤ x3)) else some false) else some false) else some false) else some false) else some false)).bind fun x1 => some x1 else (if (decide (p0.un.2.2.1 ≠ 0) || decide (p0.un.2.2.2.1 ≠ 0)) = true then some false else (if p0.un.1 = 1 then some (decide ((p0.un.2.2.2.2.length : Int) = 0)) else (if p0.un.1 = 3 then some true else some (decide (p0.un.1 = 4))).bind fun x4 => (if x4 = true then ((Ft (Tr34.of (p0.un.2.1.un.1, p0.un.2.1.un.2.1, p0.un.2.1.un.2.2.1, p0.un.2.1.un.2.2.2))).bind fun x6 => (if x6 = true then (if 2 ≤ (p0.un.2.2.2.2.length : Int) then some (decide ((p0.un.2.2.2.2.length : Int) ≤ 8)) else some false) else some false)).bind fun x5 => some x5 else (if p0.un.1 = 5 then some (decide ((p0.un.2.2.2.2.length : Int) = 2)) else some false)))))
theorem O4 (Y : Nat → Prop) (w0 : World) (v1 : Value) (v2 : Value) (p0 : Tr37) (r : Bool) (H : Hf p0 = some r) (h_v1 : Sl w0 (NX []) CC v1 p0.un.2.1.un.2.2.2) (h_v2 : Sl w0 (NX []) De v2 p0.un.2.2.2.2) :
    Calls Tryz.prog 65 #[.agg #[.int .i64 p0.un.1, .int .i64 p0.un.2.1.un.1, .int .i64 p0.un.2.1.un.2.1, .int .i64 p0.un.2.1.un.2.2.1, v1, .int .i64 p0.un.2.2.1, .int .i64 p0.un.2.2.2.1, v2]] w0 fun e w' => e = .returned (.bool r) ∧ Below w0.heap.size w0 w' := by
 refine enter Tryz.func65 Aa Tryz.ntmps65 Aa fun a F => ?_
 have W := Stw.start Y w0
 obtain ⟨v3, h1, h_v1⟩ := h_v1.ex CG
 obtain ⟨v4, h2, h_v2⟩ := h_v2.ex EE
 unfold Hf at H
 refine vc tk 2 F W fun a w F W => ?_
 refine CY (cs := (CX p0 v1 v2)) F W Aa Aa Aa fun b1 a w F W => ?_
 refine FC tk 11 [0] F W (ai fun a w F W => ?_)
 refine BJ F Aa H (fun F H => ?_) fun F H => ?_
 ·
  obtain ⟨o1, G1, K1⟩ := Ad H
  refine Ax (fun a w => ∃ x1 : Bool, some (x1) = some o1 ∧ Fr 78 [] [(1, .pointer (some ⟨b1, 0, none⟩)), (2, .bool x1)] a ∧ Stw ⟨Y, [], w0⟩ (Hc b1 p0 v1 v2) [] w) ?_ ?_
  ·
   have H := G1
   clear G1 K1
   refine Cw W MO (by kernel_rfl) ?_
   refine qs F Aa (Ap I2 Aa Aa Aa L6 F Aa 1 Aa).q fun a F => ?_
   refine qs F Aa (Bw (v := Value.agg #[.int .i64 p0.un.2.1.un.1, .int .i64 p0.un.2.1.un.2.1, .int .i64 p0.un.2.1.un.2.2.1, v1]) 0 F Aa Aa L6 Aa).q fun a F => ?_
   obtain ⟨x2, h3, H⟩ := Ad H
   refine qs F Aa (AK (v := Value.bool x2) F X1 Aa (fun w W => Jt any w (v1) (Tr34.of (p0.un.2.1.un.1, p0.un.2.1.un.2.1, p0.un.2.1.un.2.2.1, p0.un.2.1.un.2.2.2)) _ h3 (Ek (Aq CG h1 (Af h_v1)) W))) fun a F => ?_
   refine qs F Aa (An F Aa).q fun a F => ?_
   rcases Bool.eq_false_or_eq_true x2 with hb | hb
   ·
    have H := B8 hb H
    rw [hb] at F
    clear hb
    refine AL F (Ab F Aa Aa Aa Aa) Aa (Ao Aa) (Ap I2 Aa Aa Aa T8 F Aa 7 Aa).q fun a F => ?_
    refine AL F (Ab F Aa Aa Aa Aa) Aa (Ao Aa) (Bw (v := v2) 0 F Aa Aa T8 Aa).q fun a F => ?_
    refine AL F (Ab F Aa Aa Aa Aa) Aa (Ao Aa) (CS (r := De) (l := p0.un.2.2.2.2) Kq Aa F Aa (Aq EE h2 (Af h_v2))).q fun a F => ?_
    refine AL F (Ab F Aa Aa Aa Aa) Aa (Ao Aa) (Pj F Aa Aa).q fun a F => ?_
    refine qs F Aa (Bq F Aa Aa Aa).q fun a F => ?_
    refine qs F Aa (An F Aa).q fun a F => ?_
    rcases Bool.eq_false_or_eq_true (decide ((p0.un.2.2.2.2.length : Int) = 0)) with hb | hb
    ·
     have H := B8 (CI hb) H
     rw [hb] at F
     clear hb
     refine AL F (Ab F Aa Aa Aa Aa) Aa (Ao Aa) (Ap I2 Aa Aa Aa T3 F Aa 5 Aa).q fun a F => ?_
     refine AL F (Ab F Aa Aa Aa Aa) Aa (Ao Aa) (Bw (v := Value.int .i64 p0.un.2.2.1) 0 F Aa Aa T3 Aa).q fun a F => ?_
     refine AL F (Ab F Aa Aa Aa Aa) Aa (Ao Aa) (R4 F Aa Aa).q fun a F => ?_
     refine qs F Aa (Bq F Aa Aa Aa).q fun a F => ?_
     refine qs F Aa (An F Aa).q fun a F => ?_
     rcases Bool.eq_false_or_eq_true (decide (0 ≤ p0.un.2.2.1)) with hb | hb
     ·
      have H := B8 (CI hb) H
      rw [hb] at F
      clear hb
      refine AL F (Ab F Aa Aa Aa Aa) Aa (Ao Aa) (Ap I2 Aa Aa Aa T3 F Aa 5 Aa).q fun a F => ?_
      refine AL F (Ab F Aa Aa Aa Aa) Aa (Ao Aa) (Bw (v := Value.int .i64 p0.un.2.2.1) 0 F Aa Aa T3 Aa).q fun a F => ?_
      refine AL F (Ab F Aa Aa Aa Aa) Aa (Ao Aa) (KN F Aa Aa).q fun a F => ?_
      refine qs F Aa (Bq F Aa Aa Aa).q fun a F => ?_
      refine qs F Aa (An F Aa).q fun a F => ?_
      rcases Bool.eq_false_or_eq_true (decide (p0.un.2.2.1 ≤ 4)) with hb | hb
      ·
       have H := B8 (CI hb) H
       rw [hb] at F
       clear hb
       refine AL F (Ab F Aa Aa Aa Aa) Aa (Ao Aa) (Ap I2 Aa Aa Aa T3 F Aa 6 Aa).q fun a F => ?_
       refine AL F (Ab F Aa Aa Aa Aa) Aa (Ao Aa) (Bw (v := Value.int .i64 p0.un.2.2.2.1) 0 F Aa Aa T3 Aa).q fun a F => ?_
       refine AL F (Ab F Aa Aa Aa Aa) Aa (Ao Aa) (R4 F Aa Aa).q fun a F => ?_
       refine qs F Aa (Bq F Aa Aa Aa).q fun a F => ?_
       refine qs F Aa (An F Aa).q fun a F => ?_
       rcases Bool.eq_false_or_eq_true (decide (0 ≤ p0.un.2.2.2.1)) with hb | hb
       ·
        have H := B8 (CI hb) H
        rw [hb] at F
        clear hb
        refine AL F (Ab F Aa Aa Aa Aa) Aa (Ao Aa) (Ap I2 Aa Aa Aa T3 F Aa 6 Aa).q fun a F => ?_
        refine AL F (Ab F Aa Aa Aa Aa) Aa (Ao Aa) (Bw (v := Value.int .i64 p0.un.2.2.2.1) 0 F Aa Aa T3 Aa).q fun a F => ?_
        refine AL F (Ab F Aa Aa Aa Aa) Aa (Ao Aa) (Ap I2 Aa Aa Aa T3 F Aa 5 Aa).q fun a F => ?_
        refine AL F (Ab F Aa Aa Aa Aa) Aa (Ao Aa) (Bw (v := Value.int .i64 p0.un.2.2.1) 0 F Aa Aa T3 Aa).q fun a F => ?_
        obtain ⟨x3, h4, H⟩ := Ad H
        refine AL F (Ab F Aa Aa Aa Aa) Aa (Ao Aa) (AK (v := Value.int .i64 x3) F XX Aa (fun w W => Oc any w p0.un.2.2.1 _ h4)) fun a F => ?_
        refine AL F (Ab F Aa Aa Aa Aa) Aa (Ao Aa) (KN F Aa Aa).q fun a F => ?_
        refine qs F Aa (Bq F Aa Aa Aa).q fun a F => ?_
        refine qs F Aa (Bk F Aa).q fun a F => ?_
        refine AJ fun w W => ?_
        refine Ac ?_
        exact ⟨_, H, F.ra Aa, W⟩
       have H := B7 (CH hb) H
       rw [hb] at F
       clear hb
       iterate 6 refine Bj F (A7 F Aa Aa Aa Aa Aa) Aa Aa fun a F => ?_
       refine qs F Aa (Br F Aa Aa Aa).q fun a F => ?_
       refine qs F Aa (Bk F Aa).q fun a F => ?_
       refine AJ fun w W => ?_
       refine Ac ?_
       exact ⟨_, H, F.ra Aa, W⟩
      have H := B7 (CH hb) H
      rw [hb] at F
      clear hb
      iterate 3 refine Bj F (A7 F Aa Aa Aa Aa Aa) Aa Aa fun a F => ?_
      refine qs F Aa (Br F Aa Aa Aa).q fun a F => ?_
      refine qs F Aa (An F Aa).q fun a F => ?_
      iterate 6 refine Bj F (A7 F Aa Aa Aa Aa Aa) Aa Aa fun a F => ?_
      refine qs F Aa (Br F Aa Aa Aa).q fun a F => ?_
      refine qs F Aa (Bk F Aa).q fun a F => ?_
      refine AJ fun w W => ?_
      refine Ac ?_
      exact ⟨_, H, F.ra Aa, W⟩
     have H := B7 (CH hb) H
     rw [hb] at F
     clear hb
     iterate 3 refine Bj F (A7 F Aa Aa Aa Aa Aa) Aa Aa fun a F => ?_
     refine qs F Aa (Br F Aa Aa Aa).q fun a F => ?_
     refine qs F Aa (An F Aa).q fun a F => ?_
     iterate 3 refine Bj F (A7 F Aa Aa Aa Aa Aa) Aa Aa fun a F => ?_
     refine qs F Aa (Br F Aa Aa Aa).q fun a F => ?_
     refine qs F Aa (An F Aa).q fun a F => ?_
     iterate 6 refine Bj F (A7 F Aa Aa Aa Aa Aa) Aa Aa fun a F => ?_
     refine qs F Aa (Br F Aa Aa Aa).q fun a F => ?_
     refine qs F Aa (Bk F Aa).q fun a F => ?_
     refine AJ fun w W => ?_
     refine Ac ?_
     exact ⟨_, H, F.ra Aa, W⟩
    have H := B7 (CH hb) H
    rw [hb] at F
    clear hb
    iterate 3 refine Bj F (A7 F Aa Aa Aa Aa Aa) Aa Aa fun a F => ?_
    refine qs F Aa (Br F Aa Aa Aa).q fun a F => ?_
    refine qs F Aa (An F Aa).q fun a F => ?_
    iterate 3 refine Bj F (A7 F Aa Aa Aa Aa Aa) Aa Aa fun a F => ?_
    refine qs F Aa (Br F Aa Aa Aa).q fun a F => ?_
    refine qs F Aa (An F Aa).q fun a F => ?_
    iterate 3 refine Bj F (A7 F Aa Aa Aa Aa Aa) Aa Aa fun a F => ?_
    refine qs F Aa (Br F Aa Aa Aa).q fun a F => ?_
    refine qs F Aa (An F Aa).q fun a F => ?_
    iterate 6 refine Bj F (A7 F Aa Aa Aa Aa Aa) Aa Aa fun a F => ?_
    refine qs F Aa (Br F Aa Aa Aa).q fun a F => ?_
    refine qs F Aa (Bk F Aa).q fun a F => ?_
    refine AJ fun w W => ?_
    refine Ac ?_
    exact ⟨_, H, F.ra Aa, W⟩
   have H := B7 (by rw [hb]; decide) H
   rw [hb] at F
   clear hb
   iterate 4 refine Bj F (A7 F Aa Aa Aa Aa Aa) Aa Aa fun a F => ?_
   refine qs F Aa (Br F Aa Aa Aa).q fun a F => ?_
   refine qs F Aa (An F Aa).q fun a F => ?_
   iterate 3 refine Bj F (A7 F Aa Aa Aa Aa Aa) Aa Aa fun a F => ?_
   refine qs F Aa (Br F Aa Aa Aa).q fun a F => ?_
   refine qs F Aa (An F Aa).q fun a F => ?_
   iterate 3 refine Bj F (A7 F Aa Aa Aa Aa Aa) Aa Aa fun a F => ?_
   refine qs F Aa (Br F Aa Aa Aa).q fun a F => ?_
   refine qs F Aa (An F Aa).q fun a F => ?_
   iterate 3 refine Bj F (A7 F Aa Aa Aa Aa Aa) Aa Aa fun a F => ?_
   refine qs F Aa (Br F Aa Aa Aa).q fun a F => ?_
   refine qs F Aa (An F Aa).q fun a F => ?_
   iterate 6 refine Bj F (A7 F Aa Aa Aa Aa Aa) Aa Aa fun a F => ?_
   refine qs F Aa (Br F Aa Aa Aa).q fun a F => ?_
   refine qs F Aa (Bk F Aa).q fun a F => ?_
   refine AJ fun w W => ?_
   refine Ac ?_
   exact ⟨_, H, F.ra Aa, W⟩
  rintro a w ⟨x1, hj, F, W⟩
  have hj := AA hj
  subst hj
  have H := K1
  clear G1 K1
  refine Ak (Ay ?_)
  have H := AA H
  subst H
  refine Au (.inl Aa) F W Aa (Am F Aa) ?_
  exact ⟨rfl, W.done⟩
 refine FL tk 3 F W fun a w F W => ?_
 refine Ax (fun a w => Fr 78 [] [(1, .pointer (some ⟨b1, 0, none⟩)), (2, .bool false), (45, .bool (decide (p0.un.2.2.1 ≠ 0) || decide (p0.un.2.2.2.1 ≠ 0)))] a ∧ Stw ⟨Y, [], w0⟩ (Hc b1 p0 v1 v2) [] w) ?_ ?_
 ·
  refine Fo tk 5 [0] F W (ai fun a w F W => ?_)
  rcases Bool.eq_false_or_eq_true (decide (p0.un.2.2.1 ≠ 0)) with hb0 | hb0
  ·
   rw [hb0] at F
   refine vl tk 5 F W fun a w F W => ?_
   refine Ac ?_
   exact ⟨F.re ⟨rfl, Aa, (DH (by try rw [hb0]; all_goals simp only [DI])), trivial⟩, W⟩
  rw [hb0] at F
  refine GD tk 5 [0] F W (ai fun a w F W => ?_)
  refine Ac ?_
  exact ⟨F.re ⟨rfl, Aa, (DH (by try rw [hb0]; all_goals simp only [DI])), trivial⟩, W⟩
 rintro a w ⟨F, W⟩
 refine Cz F Aa H (fun F H => ?_) fun F H => ?_
 ·
  refine vc tk 5 F W fun a w F W => ?_
  refine Ak (Ay ?_)
  have H := AA H
  subst H
  refine Au (.inl Aa) F W Aa (Am F Aa) ?_
  exact ⟨rfl, W.done⟩
 refine P6 tk 16 [0] F W (ai fun a w F W => ?_)
 refine BX F Aa (fun hb => ?_) fun hb => ?_
 ·
  have H := B8 (CI hb) H
  rw [hb] at F
  clear hb
  refine Fo tk 4 [0] F W (ai fun a w F W => ?_)
  refine ls F W Aa (CS (r := De) (l := p0.un.2.2.2.2) Kq Aa F Aa (Aq EE h2 (Af h_v2))).q fun a w F W => ?_
  refine Cl tk 4 F W fun a w F W => ?_
  refine Ak (AD (Ay ?_))
  have H := AA H
  subst H
  refine Au (.inl Aa) F W Aa (Am F Aa) ?_
  exact ⟨rfl, W.done⟩
 have H := B7 (CH hb) H
 rw [hb] at F
 clear hb
 obtain ⟨o2, G2, K2⟩ := Ad H
 refine Ax (fun a w => ∃ x4 : Bool, some (x4) = some o2 ∧ Fr 78 [] [(1, .pointer (some ⟨b1, 0, none⟩)), (2, .bool false), (47, .int .i64 p0.un.1), (54, .bool x4)] a ∧ Stw ⟨Y, [], w0⟩ (Hc b1 p0 v1 v2) [] w) ?_ ?_
 ·
  have H := G2
  clear G2 K2
  refine vc tk 6 F W fun a w F W => ?_
  refine BX F Aa (fun hb => ?_) fun hb => ?_
  ·
   have H := B8 (CI hb) H
   rw [hb] at F
   clear hb
   refine AX (Ac ?_)
   exact ⟨_, H, F.ra Aa, W⟩
  have H := B7 (CH hb) H
  rw [hb] at F
  clear hb
  refine vc tk 4 F W fun a w F W => ?_
  refine Ac ?_
  exact ⟨_, H, F.ra Aa, W⟩
 rintro a w ⟨x4, hj, F, W⟩
 have hj := AA hj
 subst hj
 have H := K2
 clear G2 K2
 refine Cz F Aa H (fun F H => ?_) fun F H => ?_
 ·
  obtain ⟨o3, G3, K3⟩ := Ad H
  refine Ax (fun a w => ∃ x5 : Bool, some (x5) = some o3 ∧ Fr 78 [] [(2, .bool x5)] a ∧ Stw ⟨Y, [], w0⟩ (Hc b1 p0 v1 v2) [] w) ?_ ?_
  ·
   have H := G3
   clear G3 K3
   refine Fo tk 3 [0] F W (ai fun a w F W => ?_)
   obtain ⟨x6, h5, H⟩ := Ad H
   refine ls F W Aa (AK (v := Value.bool x6) F X1 Aa (fun w W => Jt any w (v1) (Tr34.of (p0.un.2.1.un.1, p0.un.2.1.un.2.1, p0.un.2.1.un.2.2.1, p0.un.2.1.un.2.2.2)) _ h5 (Ek (Aq CG h1 (Af h_v1)) W))) fun a w F W => ?_
   refine ls F W Aa (An F Aa).q fun a w F W => ?_
   rcases Bool.eq_false_or_eq_true x6 with hb | hb
   ·
    have H := B8 hb H
    rw [hb] at F
    clear hb
    refine GD tk 2 [0] F W (ai fun a w F W => ?_)
    refine GQ F W (Ab F Aa Aa Aa Aa) Aa (Ao Aa) (CS (r := De) (l := p0.un.2.2.2.2) Kq Aa F Aa (Aq EE h2 (Af h_v2))).q fun a w F W => ?_
    refine vl tk 3 F W fun a w F W => ?_
    rcases Bool.eq_false_or_eq_true (decide (2 ≤ (p0.un.2.2.2.2.length : Int))) with hb | hb
    ·
     have H := B8 (CI hb) H
     rw [hb] at F
     clear hb
     refine GD tk 2 [0] F W (ai fun a w F W => ?_)
     refine GQ F W (Ab F Aa Aa Aa Aa) Aa (Ao Aa) (CS (r := De) (l := p0.un.2.2.2.2) Kq Aa F Aa (Aq EE h2 (Af h_v2))).q fun a w F W => ?_
     refine vl tk 4 F W fun a w F W => ?_
     refine Ac ?_
     exact ⟨_, H, F.ra Aa, W⟩
    have H := B7 (CH hb) H
    rw [hb] at F
    clear hb
    refine vl tk 7 F W fun a w F W => ?_
    refine Ac ?_
    exact ⟨_, H, F.ra Aa, W⟩
   have H := B7 (by rw [hb]; decide) H
   rw [hb] at F
   clear hb
   refine vl tk 13 F W fun a w F W => ?_
   refine Ac ?_
   exact ⟨_, H, F.ra Aa, W⟩
  rintro a w ⟨x5, hj, F, W⟩
  have hj := AA hj
  subst hj
  have H := K3
  clear G3 K3
  refine Ak (AD (Ay ?_))
  have H := AA H
  subst H
  refine Au (.inl Aa) F W Aa (Am F Aa) ?_
  exact ⟨rfl, W.done⟩
 refine vc tk 6 F W fun a w F W => ?_
 refine BX F Aa (fun hb => ?_) fun hb => ?_
 ·
  have H := B8 (CI hb) H
  rw [hb] at F
  clear hb
  refine Fo tk 4 [0] F W (ai fun a w F W => ?_)
  refine ls F W Aa (CS (r := De) (l := p0.un.2.2.2.2) Kq Aa F Aa (Aq EE h2 (Af h_v2))).q fun a w F W => ?_
  refine Cl tk 4 F W fun a w F W => ?_
  refine Ak (AD (Ay ?_))
  have H := AA H
  subst H
  refine Au (.inl Aa) F W Aa (Am F Aa) ?_
  exact ⟨rfl, W.done⟩
 have H := B7 (CH hb) H
 rw [hb] at F
 clear hb
 refine AX (AG ?_)
 refine vn tk 5 F W fun a w F W => ?_
 refine Ak ?_
 have H := AA H
 subst H
 refine Au (.inl Aa) F W Aa (Am F Aa) ?_
 exact ⟨rfl, W.done⟩
theorem UL : type_of% Tryz.underlying123 := Tryz.underlying123
theorem YM : Has Tryz.prog 65 := CJ Tryz.func65
theorem Xf : Bt Tryz.prog 123 [.int .i64 0] [(0, 1)] := ⟨⟨.agg #[.int .i64 0], by kernel_rfl, rfl⟩, ⟨_, UL, fun w => by kernel_rfl⟩⟩
theorem Xg : (Tryz.prog.info? 123).bind (·.zero) = some (.agg #[.int .i64 0]) := by kernel_rfl
theorem Xz : Ty Tryz.prog 123 true 1 := ⟨by kernel_rfl, by kernel_rfl⟩
abbrev Ls (a0 : Nat) (a1 : Tr34) (a2 : Value) : List (Nat × List Value) := [(a0, [.int .i64 a1.un.1, .int .i64 a1.un.2.1, .int .i64 a1.un.2.2.1, a2])]
noncomputable def I3 (p0 : Tr34) : Option Bool := (if p0.un.1 = 3 then (if (C7 p0.un.2.1) = true then (if 0 ≤ p0.un.2.2.1 then (Ja p0.un.2.1).bind fun x2 => (if p0.un.2.2.1 ≤ x2 then some (decide ((p0.un.2.2.2.length : Int) = 0)) else some false) else some false) else some false).bind fun x1 => some x1 else (if (decide (p0.un.2.1 ≠ 0) || decide (p0.un.2.2.1 ≠ 0)) = true then some false else (if p0.un.1 = 1 then some true else some (decide (p0.un.1 = 2))).bind fun x3 => (if x3 = true then some (decide ((p0.un.2.2.2.length : Int) = 0)) else (if p0.un.1 = 4 then some (decide ((p0.un.2.2.2.length : Int) = 1)) else (if p0.un.1 = 5 then some true else some (decide (p0.un.1 = 6))).bind fun x4 => (if x4 = true then some (decide (2 ≤ (p0.un.2.2.2.length : Int)) && decide ((p0.un.2.2.2.length : Int) ≤ 8)) else some false)))))
theorem QI (Y : Nat → Prop) (w0 : World) (v1 : Value) (p0 : Tr34) (r : Bool) (H : I3 p0 = some r) (h_v1 : Sl w0 (NX []) CC v1 p0.un.2.2.2) :
    Calls Tryz.prog 118 #[.agg #[.int .i64 p0.un.1, .int .i64 p0.un.2.1, .int .i64 p0.un.2.2.1, v1]] w0 fun e w' => e = .returned (.bool r) ∧ Below w0.heap.size w0 w' := by
 refine enter Tryz.func118 Aa Tryz.ntmps118 Aa fun a F => ?_
 have W := Stw.start Y w0
 obtain ⟨v2, h1, h_v1⟩ := h_v1.ex CG
 unfold I3 at H
 refine vc tk 2 F W fun a w F W => ?_
 refine CY (cs := (Im p0 v1)) F W Aa Aa Aa fun b1 a w F W => ?_
 refine FC tk 11 [0] F W (ai fun a w F W => ?_)
 refine BJ F Aa H (fun F H => ?_) fun F H => ?_
 ·
  obtain ⟨o1, G1, K1⟩ := Ad H
  refine Ax (fun a w => ∃ x1 : Bool, some (x1) = some o1 ∧ Fr 64 [] [(1, .pointer (some ⟨b1, 0, none⟩)), (2, .bool x1)] a ∧ Stw ⟨Y, [], w0⟩ (Ls b1 p0 v1) [] w) ?_ ?_
  ·
   have H := G1
   clear G1 K1
   refine Cw W MO (by kernel_rfl) ?_
   refine qs F Aa (Ap Kw Aa Aa Aa T3 F Aa 1 Aa).q fun a F => ?_
   refine qs F Aa (Bw (v := Value.int .i64 p0.un.2.1) 0 F Aa Aa T3 Aa).q fun a F => ?_
   refine qs F Aa (AK (v := Value.bool (C7 p0.un.2.1)) F VE Aa (fun w W => Jl any w p0.un.2.1 _ Aa)) fun a F => ?_
   refine qs F Aa (An F Aa).q fun a F => ?_
   rcases Bool.eq_false_or_eq_true (C7 p0.un.2.1) with hb | hb
   ·
    have H := B8 hb H
    rw [hb] at F
    clear hb
    refine AL F (Ab F Aa Aa Aa Aa) Aa (Ao Aa) (Ap Kw Aa Aa Aa T3 F Aa 2 Aa).q fun a F => ?_
    refine AL F (Ab F Aa Aa Aa Aa) Aa (Ao Aa) (Bw (v := Value.int .i64 p0.un.2.2.1) 0 F Aa Aa T3 Aa).q fun a F => ?_
    refine AL F (Ab F Aa Aa Aa Aa) Aa (Ao Aa) (R4 F Aa Aa).q fun a F => ?_
    refine qs F Aa (Bq F Aa Aa Aa).q fun a F => ?_
    refine qs F Aa (An F Aa).q fun a F => ?_
    rcases Bool.eq_false_or_eq_true (decide (0 ≤ p0.un.2.2.1)) with hb | hb
    ·
     have H := B8 (CI hb) H
     rw [hb] at F
     clear hb
     refine AL F (Ab F Aa Aa Aa Aa) Aa (Ao Aa) (Ap Kw Aa Aa Aa T3 F Aa 2 Aa).q fun a F => ?_
     refine AL F (Ab F Aa Aa Aa Aa) Aa (Ao Aa) (Bw (v := Value.int .i64 p0.un.2.2.1) 0 F Aa Aa T3 Aa).q fun a F => ?_
     refine AL F (Ab F Aa Aa Aa Aa) Aa (Ao Aa) (Ap Kw Aa Aa Aa T3 F Aa 1 Aa).q fun a F => ?_
     refine AL F (Ab F Aa Aa Aa Aa) Aa (Ao Aa) (Bw (v := Value.int .i64 p0.un.2.1) 0 F Aa Aa T3 Aa).q fun a F => ?_
     obtain ⟨x2, h2, H⟩ := Ad H
     refine AL F (Ab F Aa Aa Aa Aa) Aa (Ao Aa) (AK (v := Value.int .i64 x2) F XX Aa (fun w W => Oc any w p0.un.2.1 _ h2)) fun a F => ?_
     refine AL F (Ab F Aa Aa Aa Aa) Aa (Ao Aa) (KN F Aa Aa).q fun a F => ?_
     refine qs F Aa (Bq F Aa Aa Aa).q fun a F => ?_
     refine qs F Aa (An F Aa).q fun a F => ?_
     rcases Bool.eq_false_or_eq_true (decide (p0.un.2.2.1 ≤ x2)) with hb | hb
     ·
      have H := B8 (CI hb) H
      rw [hb] at F
      clear hb
      refine AL F (Ab F Aa Aa Aa Aa) Aa (Ao Aa) (Ap Kw Aa Aa Aa SP F Aa 3 Aa).q fun a F => ?_
      refine AL F (Ab F Aa Aa Aa Aa) Aa (Ao Aa) (Bw (v := v1) 0 F Aa Aa SP Aa).q fun a F => ?_
      refine AL F (Ab F Aa Aa Aa Aa) Aa (Ao Aa) (CS (r := CC) (l := p0.un.2.2.2) Kv Aa F Aa (Aq CG h1 (Af h_v1))).q fun a F => ?_
      refine AL F (Ab F Aa Aa Aa Aa) Aa (Ao Aa) (Pj F Aa Aa).q fun a F => ?_
      refine qs F Aa (Bq F Aa Aa Aa).q fun a F => ?_
      refine qs F Aa (Bk F Aa).q fun a F => ?_
      refine AJ fun w W => ?_
      refine Ac ?_
      exact ⟨_, H, F.ra Aa, W⟩
     have H := B7 (CH hb) H
     rw [hb] at F
     clear hb
     iterate 4 refine Bj F (A7 F Aa Aa Aa Aa Aa) Aa Aa fun a F => ?_
     refine qs F Aa (Br F Aa Aa Aa).q fun a F => ?_
     refine qs F Aa (Bk F Aa).q fun a F => ?_
     refine AJ fun w W => ?_
     refine Ac ?_
     exact ⟨_, H, F.ra Aa, W⟩
    have H := B7 (CH hb) H
    rw [hb] at F
    clear hb
    iterate 6 refine Bj F (A7 F Aa Aa Aa Aa Aa) Aa Aa fun a F => ?_
    refine qs F Aa (Br F Aa Aa Aa).q fun a F => ?_
    refine qs F Aa (An F Aa).q fun a F => ?_
    iterate 4 refine Bj F (A7 F Aa Aa Aa Aa Aa) Aa Aa fun a F => ?_
    refine qs F Aa (Br F Aa Aa Aa).q fun a F => ?_
    refine qs F Aa (Bk F Aa).q fun a F => ?_
    refine AJ fun w W => ?_
    refine Ac ?_
    exact ⟨_, H, F.ra Aa, W⟩
   have H := B7 (by rw [hb]; decide) H
   rw [hb] at F
   clear hb
   iterate 3 refine Bj F (A7 F Aa Aa Aa Aa Aa) Aa Aa fun a F => ?_
   refine qs F Aa (Br F Aa Aa Aa).q fun a F => ?_
   refine qs F Aa (An F Aa).q fun a F => ?_
   iterate 6 refine Bj F (A7 F Aa Aa Aa Aa Aa) Aa Aa fun a F => ?_
   refine qs F Aa (Br F Aa Aa Aa).q fun a F => ?_
   refine qs F Aa (An F Aa).q fun a F => ?_
   iterate 4 refine Bj F (A7 F Aa Aa Aa Aa Aa) Aa Aa fun a F => ?_
   refine qs F Aa (Br F Aa Aa Aa).q fun a F => ?_
   refine qs F Aa (Bk F Aa).q fun a F => ?_
   refine AJ fun w W => ?_
   refine Ac ?_
   exact ⟨_, H, F.ra Aa, W⟩
  rintro a w ⟨x1, hj, F, W⟩
  have hj := AA hj
  subst hj
  have H := K1
  clear G1 K1
  refine Ak (Ay ?_)
  have H := AA H
  subst H
  refine Au (.inl Aa) F W Aa (Am F Aa) ?_
  exact ⟨rfl, W.done⟩
 refine FL tk 3 F W fun a w F W => ?_
 refine Ax (fun a w => Fr 64 [] [(1, .pointer (some ⟨b1, 0, none⟩)), (2, .bool false), (35, .bool (decide (p0.un.2.1 ≠ 0) || decide (p0.un.2.2.1 ≠ 0)))] a ∧ Stw ⟨Y, [], w0⟩ (Ls b1 p0 v1) [] w) ?_ ?_
 ·
  refine Fo tk 5 [0] F W (ai fun a w F W => ?_)
  rcases Bool.eq_false_or_eq_true (decide (p0.un.2.1 ≠ 0)) with hb0 | hb0
  ·
   rw [hb0] at F
   refine vl tk 5 F W fun a w F W => ?_
   refine Ac ?_
   exact ⟨F.re ⟨rfl, Aa, (DH (by try rw [hb0]; all_goals simp only [DI])), trivial⟩, W⟩
  rw [hb0] at F
  refine GD tk 5 [0] F W (ai fun a w F W => ?_)
  refine Ac ?_
  exact ⟨F.re ⟨rfl, Aa, (DH (by try rw [hb0]; all_goals simp only [DI])), trivial⟩, W⟩
 rintro a w ⟨F, W⟩
 refine Cz F Aa H (fun F H => ?_) fun F H => ?_
 ·
  refine vc tk 5 F W fun a w F W => ?_
  refine Ak (Ay ?_)
  have H := AA H
  subst H
  refine Au (.inl Aa) F W Aa (Am F Aa) ?_
  exact ⟨rfl, W.done⟩
 refine P6 tk 10 [0] F W (ai fun a w F W => ?_)
 obtain ⟨o2, G2, K2⟩ := Ad H
 refine Ax (fun a w => ∃ x3 : Bool, some (x3) = some o2 ∧ Fr 64 [] [(1, .pointer (some ⟨b1, 0, none⟩)), (2, .bool false), (37, .int .i64 p0.un.1), (38, .bool x3)] a ∧ Stw ⟨Y, [], w0⟩ (Ls b1 p0 v1) [] w) ?_ ?_
 ·
  have H := G2
  clear G2 K2
  refine vc tk 6 F W fun a w F W => ?_
  refine BX F Aa (fun hb => ?_) fun hb => ?_
  ·
   have H := B8 (CI hb) H
   rw [hb] at F
   clear hb
   refine AX (Ac ?_)
   exact ⟨_, H, F.ra Aa, W⟩
  have H := B7 (CH hb) H
  rw [hb] at F
  clear hb
  refine vc tk 4 F W fun a w F W => ?_
  refine Ac ?_
  exact ⟨_, H, F.ra Aa, W⟩
 rintro a w ⟨x3, hj, F, W⟩
 have hj := AA hj
 subst hj
 have H := K2
 clear G2 K2
 refine Cz F Aa H (fun F H => ?_) fun F H => ?_
 ·
  refine Fo tk 4 [0] F W (ai fun a w F W => ?_)
  refine ls F W Aa (CS (r := CC) (l := p0.un.2.2.2) Kv Aa F Aa (Aq CG h1 (Af h_v1))).q fun a w F W => ?_
  refine Cl tk 4 F W fun a w F W => ?_
  refine Ak (AD (Ay ?_))
  have H := AA H
  subst H
  refine Au (.inl Aa) F W Aa (Am F Aa) ?_
  exact ⟨rfl, W.done⟩
 refine vc tk 6 F W fun a w F W => ?_
 refine BX F Aa (fun hb => ?_) fun hb => ?_
 ·
  have H := B8 (CI hb) H
  rw [hb] at F
  clear hb
  refine Fo tk 4 [0] F W (ai fun a w F W => ?_)
  refine ls F W Aa (CS (r := CC) (l := p0.un.2.2.2) Kv Aa F Aa (Aq CG h1 (Af h_v1))).q fun a w F W => ?_
  refine Cl tk 4 F W fun a w F W => ?_
  refine Ak (AD (Ay ?_))
  have H := AA H
  subst H
  refine Au (.inl Aa) F W Aa (Am F Aa) ?_
  exact ⟨rfl, W.done⟩
 have H := B7 (CH hb) H
 rw [hb] at F
 clear hb
 obtain ⟨o3, G3, K3⟩ := Ad H
 refine Ax (fun a w => ∃ x4 : Bool, some (x4) = some o3 ∧ Fr 64 [] [(1, .pointer (some ⟨b1, 0, none⟩)), (2, .bool false), (51, .bool x4)] a ∧ Stw ⟨Y, [], w0⟩ (Ls b1 p0 v1) [] w) ?_ ?_
 ·
  have H := G3
  clear G3 K3
  refine vc tk 6 F W fun a w F W => ?_
  refine BX F Aa (fun hb => ?_) fun hb => ?_
  ·
   have H := B8 (CI hb) H
   rw [hb] at F
   clear hb
   refine AX (Ac ?_)
   exact ⟨_, H, F.ra Aa, W⟩
  have H := B7 (CH hb) H
  rw [hb] at F
  clear hb
  refine vc tk 4 F W fun a w F W => ?_
  refine Ac ?_
  exact ⟨_, H, F.ra Aa, W⟩
 rintro a w ⟨x4, hj, F, W⟩
 have hj := AA hj
 subst hj
 have H := K3
 clear G3 K3
 refine Cz F Aa H (fun F H => ?_) fun F H => ?_
 ·
  refine Ax (fun a w => Fr 64 [] [(2, .bool (decide (2 ≤ (p0.un.2.2.2.length : Int)) && decide ((p0.un.2.2.2.length : Int) ≤ 8)))] a ∧ Stw ⟨Y, [], w0⟩ (Ls b1 p0 v1) [] w) ?_ ?_
  ·
   refine Fo tk 3 [0] F W (ai fun a w F W => ?_)
   refine ls F W Aa (CS (r := CC) (l := p0.un.2.2.2) Kv Aa F Aa (Aq CG h1 (Af h_v1))).q fun a w F W => ?_
   refine vl tk 2 F W fun a w F W => ?_
   rcases Bool.eq_false_or_eq_true (decide (2 ≤ (p0.un.2.2.2.length : Int))) with hb0 | hb0
   ·
    rw [hb0] at F
    refine GD tk 2 [0] F W (ai fun a w F W => ?_)
    refine GQ F W (Ab F Aa Aa Aa Aa) Aa (Ao Aa) (CS (r := CC) (l := p0.un.2.2.2) Kv Aa F Aa (Aq CG h1 (Af h_v1))).q fun a w F W => ?_
    refine vl tk 4 F W fun a w F W => ?_
    refine Ac ?_
    exact ⟨F.re ⟨(DH (by try rw [hb0]; all_goals simp only [DI])), trivial⟩, W⟩
   rw [hb0] at F
   refine vl tk 7 F W fun a w F W => ?_
   refine Ac ?_
   exact ⟨F.re ⟨(DH (by try rw [hb0]; all_goals simp only [DI])), trivial⟩, W⟩
  rintro a w ⟨F, W⟩
  refine Ak (AD (Ay ?_))
  have H := AA H
  subst H
  refine Au (.inl Aa) F W Aa (Am F Aa) ?_
  exact ⟨rfl, W.done⟩
 refine AX (AG ?_)
 refine vn tk 5 F W fun a w F W => ?_
 refine Ak ?_
 have H := AA H
 subst H
 refine Au (.inl Aa) F W Aa (Am F Aa) ?_
 exact ⟨rfl, W.done⟩
end Go.Proofs.YtpckgggmgijiiaaGreatDoor
