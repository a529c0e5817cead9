/- The functions of layer 27, IC. Conditions: none. -/
import Derived.Test.YtpckgggmgijiiaaGreatDoorbA3
namespace Go.Proofs.YtpckgggmgijiiaaGreatDoor
open Go Go.RowKit
set_option linter.unusedVariables false
set_option linter.unusedSimpArgs false
set_option maxRecDepth 20000
theorem Zg : Has Tryz.prog 40 := CF Tryz.func40
abbrev NC (a0 : Nat) (a1 : Int × Int × Int × Int) (a2 : Nat) (a3 : Tr37) (a4 : Value) (a5 : Value) : List (Nat × List Value) := [(a0, [.int .i64 a1.1, .int .i64 a1.2.1, .int .i64 a1.2.2.1, .int .i64 a1.2.2.2]), (a2, [.int .i64 a3.un.1, .int .i64 a3.un.2.1.un.1, .int .i64 a3.un.2.1.un.2.1, .int .i64 a3.un.2.1.un.2.2.1, a4, .int .i64 a3.un.2.2.1, .int .i64 a3.un.2.2.2.1, a5])]
abbrev Wx (a0 : Nat) (a1 : Int × (Int × Int × Int × Int)) (a2 : Nat) (a3 : Int × Int × Int × Int) (a4 : Nat) (a5 : Tr37) (a6 : Value) (a7 : Value) : List (Nat × List Value) := [(a0, [.int .i64 a1.1, .int .i64 a1.2.1, .int .i64 a1.2.2.1, .int .i64 a1.2.2.2.1, .int .i64 a1.2.2.2.2]), (a2, [.int .i64 a3.1, .int .i64 a3.2.1, .int .i64 a3.2.2.1, .int .i64 a3.2.2.2]), (a4, [.int .i64 a5.un.1, .int .i64 a5.un.2.1.un.1, .int .i64 a5.un.2.1.un.2.1, .int .i64 a5.un.2.1.un.2.2.1, a6, .int .i64 a5.un.2.2.1, .int .i64 a5.un.2.2.2.1, a7])]
noncomputable def Ct (p0 : Tr37) (p1 : Int) (p2 : Int) (p3 : Int × Int × Int × Int) : Option (List (Int × (Int × Int × Int × Int))) := (D4 (Tr37.of (p0.un.1, Tr34.of (p0.un.2.1.un.1, p0.un.2.1.un.2.1, p0.un.2.1.un.2.2.1, p0.un.2.1.un.2.2.2), p0.un.2.2.1, p0.un.2.2.2.1, p0.un.2.2.2.2)) p1 (p2, p3)).bind fun x1 => (HH ([] : List (Int × (Int × Int × Int × Int))) x1).bind fun _ => (Qo (fun lg4034 => Cm lg4034) x1).bind fun x3 => some x3
theorem GB (Y : Nat → Prop) (w0 : World) (v1 : Value) (v2 : Value) (p0 : Tr37) (p1 : Int) (p2 : Int) (p3 : Int × Int × Int × Int) (r : (List (Int × (Int × Int × Int × Int)))) (H : Ct p0 p1 p2 p3 = some r) (h_v1 : Sl w0 (NX []) CA v1 p0.un.2.1.un.2.2.2) (s_v2 : Sl w0 Y C9 v2 p0.un.2.2.2.2) :
    Calls Tryz.prog 20 #[.agg #[.int .i64 p0.un.1, .int .i64 p0.un.2.1.un.1, .int .i64 p0.un.2.1.un.2.1, .int .i64 p0.un.2.1.un.2.2.1, v1, .int .i64 p0.un.2.2.1, .int .i64 p0.un.2.2.2.1, v2], .int .i64 p1, .int .i64 p2, .agg #[.int .i64 p3.1, .int .i64 p3.2.1, .int .i64 p3.2.2.1, .int .i64 p3.2.2.2]] w0 fun e w' => ∃ x : Value, e = .returned (x) ∧ Stw ⟨Y, [], w0⟩ [] [row (x) 63 Bf r] w' := by
 refine enter Tryz.func20 Aa Tryz.ntmps20 Aa fun a F => ?_
 have W := Stw.start Y w0
 obtain ⟨v3, h1, h_v1⟩ := h_v1.ex CD
 obtain ⟨v4, h2, s_v2⟩ := s_v2.ex ED
 have h_v2 := W.nx s_v2
 unfold Ct at H
 refine vc tk 2 F W fun a w F W => ?_
 refine CU (cs := (CT p0 v1 v2)) F W Aa Aa Aa fun b1 a w F W => ?_
 refine CU (cs := (F0 p3)) F W Aa Aa Aa fun b2 a w F W => ?_
 refine FA tk 15 [1, 0] F W (ai (ai fun a w F W => ?_))
 refine ls F W Aa (Cz (v := Value.agg #[.int .i64 p2, .int .i64 p3.1, .int .i64 p3.2.1, .int .i64 p3.2.2.1, .int .i64 p3.2.2.2]) YM F Aa Aa Aa).q fun a w F W => ?_
 obtain ⟨x1, h3, H⟩ := Ad H
 refine Bu (Ml := []) (Zl := []) (β := Value) (rv := fun x => x) (MM := fun x => []) (ZZ := fun x => [Cx x CW Bh x1]) F W Xn Aa Aa (fun hL => Mb _ w (v1) (v2) (Tr37.of (p0.un.1, Tr34.of (p0.un.2.1.un.1, p0.un.2.1.un.2.1, p0.un.2.1.un.2.2.1, p0.un.2.1.un.2.2.2), p0.un.2.2.1, p0.un.2.2.2.1, p0.un.2.2.2.2)) p1 (p2, p3) _ h3 ((Aq CD h1 (Af h_v1)) w W).nx (Sl.hide ED h2 (W.old s_v2))) fun x a w F W => ?_
 obtain ⟨v5, rfl⟩ : ∃ y, y = x := ⟨x, rfl⟩
 have W : Stw ⟨Y, [], w0⟩ (NC b2 p3 b1 p0 v1 v2) [Cx v5 CW Bh x1] w := W
 refine KW (q := 0) F W Aa Aa Aa Aa Rm fun i4034 m4034 e4034 c4034 l4034 a w hv4034 hE4034 F W => ?_
 have W : Stw ⟨Y, [], w0⟩ (NC b2 p3 b1 p0 v1 v2) [Ga i4034 m4034 c4034 #[] c4034, FY m4034 e4034 c4034] w := W
 refine Ck tk 3 F W fun a w F W => ?_
 have W := W.nilRow 63 Bf
 have W := W.frontZ (i := 2) Aa Aa
 have W := W.frontZ (i := 2) Aa Aa
 have W : Stw ⟨Y, [], w0⟩ (NC b2 p3 b1 p0 v1 v2) [Ga i4034 m4034 c4034 #[] c4034, FY m4034 e4034 c4034, row (Value.slice none 0 0) 63 Bf ([] : List (Int × (Int × Int × Int × Int)))] w := W
 obtain ⟨x2, h4, H⟩ := Ad H
 refine S0 (sl := 9) (v0 := (Value.slice none 0 0)) (Ff := [(0, .agg #[.int .i64 p0.un.1, .int .i64 p0.un.2.1.un.1, .int .i64 p0.un.2.1.un.2.1, .int .i64 p0.un.2.1.un.2.2.1, v1, .int .i64 p0.un.2.2.1, .int .i64 p0.un.2.2.2.1, v2]), (1, .int .i64 p1), (2, .int .i64 p2), (3, .agg #[.int .i64 p3.1, .int .i64 p3.2.1, .int .i64 p3.2.2.1, .int .i64 p3.2.2.2]), (4, .pointer (some ⟨b1, 0, none⟩)), (7, .pointer (some ⟨b2, 0, none⟩)), (8, .slice none 0 0), (11, .agg #[.int .i64 p0.un.1, .int .i64 p0.un.2.1.un.1, .int .i64 p0.un.2.1.un.2.1, .int .i64 p0.un.2.1.un.2.2.1, v1, .int .i64 p0.un.2.2.1, .int .i64 p0.un.2.2.2.1, v2]), (12, .int .i64 p1), (13, .int .i64 p2), (14, .agg #[.int .i64 p3.1, .int .i64 p3.2.1, .int .i64 p3.2.2.1, .int .i64 p3.2.2.2]), (15, .agg #[.int .i64 p2, .int .i64 p3.1, .int .i64 p3.2.1, .int .i64 p3.2.2.1, .int .i64 p3.2.2.2]), (16, v5)]) (Zr := []) (re := 63) (r := Bf) h4 (F.ra Aa) W hv4034 hE4034 Aa Aa (fun kx4034 v4034_ s4034 sn4034 a w ha4034 hc4034 F W => ?_) fun v4034_ lg4034 a w hp4034 F W => ?_
 ·
  have F : Fr 29 [] [(0, .agg #[.int .i64 p0.un.1, .int .i64 p0.un.2.1.un.1, .int .i64 p0.un.2.1.un.2.1, .int .i64 p0.un.2.1.un.2.2.1, v1, .int .i64 p0.un.2.2.1, .int .i64 p0.un.2.2.2.1, v2]), (1, .int .i64 p1), (2, .int .i64 p2), (3, .agg #[.int .i64 p3.1, .int .i64 p3.2.1, .int .i64 p3.2.2.1, .int .i64 p3.2.2.2]), (4, .pointer (some ⟨b1, 0, none⟩)), (7, .pointer (some ⟨b2, 0, none⟩)), (8, .slice none 0 0), (9, v4034_), (11, .agg #[.int .i64 p0.un.1, .int .i64 p0.un.2.1.un.1, .int .i64 p0.un.2.1.un.2.1, .int .i64 p0.un.2.1.un.2.2.1, v1, .int .i64 p0.un.2.2.1, .int .i64 p0.un.2.2.2.1, v2]), (12, .int .i64 p1), (13, .int .i64 p2), (14, .agg #[.int .i64 p3.1, .int .i64 p3.2.1, .int .i64 p3.2.2.1, .int .i64 p3.2.2.2]), (15, .agg #[.int .i64 p2, .int .i64 p3.1, .int .i64 p3.2.1, .int .i64 p3.2.2.1, .int .i64 p3.2.2.2]), (16, v5), (17, .pointer (some ⟨i4034, 0, none⟩)), (18, .tuple #[.bool true, .agg #[.int .i64 kx4034.1, .int .i64 kx4034.2.1, .int .i64 kx4034.2.2.1, .int .i64 kx4034.2.2.2.1, .int .i64 kx4034.2.2.2.2], .agg #[]]), (19, .bool true)] a := F.ra Aa
  have W : Stw ⟨Y, [], w0⟩ (NC b2 p3 b1 p0 v1 v2) [Ga i4034 m4034 c4034 sn4034 c4034, FY m4034 e4034 c4034, row v4034_ 63 Bf s4034] w := W
  refine vc tk 3 F W fun a w F W => ?_
  refine ls F W Aa (Lb (q := 0) (q' := 1) F Aa Aa Aa hc4034).q fun a w F W => ?_
  refine ls F W Aa (Dl (v := Value.agg #[.int .i64 kx4034.1, .int .i64 kx4034.2.1, .int .i64 kx4034.2.2.1, .int .i64 kx4034.2.2.2.1, .int .i64 kx4034.2.2.2.2]) F Aa Aa).q fun a w F W => ?_
  refine B8 (cs := (TY)) F W Aa Wr Aa fun b3 a w F W => ?_
  refine D2 0 F W Aa Aa Aa DM Aa Aa Aa fun w W => ?_
  refine FA tk 5 [0] F W (ai fun a w F W => ?_)
  refine Hr (z := Value.agg #[.int .i64 0, .int .i64 0, .int .i64 0, .int .i64 0, .int .i64 0]) (cs := (CQ kx4034)) Bf ([kx4034] : List (Int × (Int × Int × Int × Int))) F W Aa Ed Wr Aa Aa Aa Aa Aa Aa (Eg.repL _ _ ([kx4034] : List (Int × (Int × Int × Int × Int)))) fun v6 a w F W => ?_
  refine HT (r := Bf) (i := 3) F W Aa Ed Aa Aa Aa Aa (Jg W 0 Aa) ha4034 Aa fun v7 a w F W => ?_
  have W : Stw ⟨Y, [], w0⟩ (Wx b3 kx4034 b2 p3 b1 p0 v1 v2) [row v7 63 Bf (s4034 ++ [kx4034]), row v6 63 Bf ([kx4034] : List (Int × (Int × Int × Int × Int))), Ga i4034 m4034 c4034 sn4034 c4034, FY m4034 e4034 c4034] w := W
  refine vl tk 2 F W fun a w F W => ?_
  refine AG (Ac ?_)
  have W := W.frontZ (i := 3) Aa Aa
  have W := W.frontZ (i := 3) Aa Aa
  have W := W.frontM (i := 2) Aa Aa
  have W := W.frontM (i := 2) Aa Aa
  have W := W.sub (M' := (NC b2 p3 b1 p0 v1 v2)) (Z' := [Ga i4034 m4034 c4034 sn4034 c4034, FY m4034 e4034 c4034, row v7 63 Bf (s4034 ++ [kx4034])]) (List.Sublist.cons_cons _ (List.Sublist.cons_cons _ (List.nil_sublist _))) (List.Sublist.cons_cons _ (List.Sublist.cons_cons _ (List.Sublist.cons_cons _ (List.nil_sublist _))))
  exact ⟨v7, F.ra Aa, W⟩
 have F : Fr 29 [] [(0, .agg #[.int .i64 p0.un.1, .int .i64 p0.un.2.1.un.1, .int .i64 p0.un.2.1.un.2.1, .int .i64 p0.un.2.1.un.2.2.1, v1, .int .i64 p0.un.2.2.1, .int .i64 p0.un.2.2.2.1, v2]), (1, .int .i64 p1), (2, .int .i64 p2), (3, .agg #[.int .i64 p3.1, .int .i64 p3.2.1, .int .i64 p3.2.2.1, .int .i64 p3.2.2.2]), (4, .pointer (some ⟨b1, 0, none⟩)), (7, .pointer (some ⟨b2, 0, none⟩)), (8, .slice none 0 0), (9, v4034_), (11, .agg #[.int .i64 p0.un.1, .int .i64 p0.un.2.1.un.1, .int .i64 p0.un.2.1.un.2.1, .int .i64 p0.un.2.1.un.2.2.1, v1, .int .i64 p0.un.2.2.1, .int .i64 p0.un.2.2.2.1, v2]), (12, .int .i64 p1), (13, .int .i64 p2), (14, .agg #[.int .i64 p3.1, .int .i64 p3.2.1, .int .i64 p3.2.2.1, .int .i64 p3.2.2.2]), (15, .agg #[.int .i64 p2, .int .i64 p3.1, .int .i64 p3.2.1, .int .i64 p3.2.2.1, .int .i64 p3.2.2.2]), (16, v5)] a := F.ra Aa
 have W : Stw ⟨Y, [], w0⟩ (NC b2 p3 b1 p0 v1 v2) [Cx v5 CW Bh x1, row v4034_ 63 Bf lg4034] w := W
 refine Bo ?_
 refine vn tk 3 F W fun a w F W => ?_
 obtain ⟨x3, h5, H⟩ := Ad H
 have h6 := Rq h5 _ hp4034
 have W := W.frontZ (i := 1) Aa Aa
 refine Bu (Ml := []) (Zl := [row v4034_ 63 Bf lg4034]) (β := Unit) (rv := fun x => .tuple #[]) (MM := fun x => []) (ZZ := fun x => [row v4034_ 63 Bf x3]) F W Zg Aa Aa (fun hL => FZ _ _ w (v4034_) lg4034 _ h6 hL) fun x a w F W => ?_
 have W : Stw ⟨Y, [], w0⟩ (NC b2 p3 b1 p0 v1 v2) [row v4034_ 63 Bf x3, Cx v5 CW Bh x1] w := W
 refine Ck tk 8 F W fun a w F W => ?_
 refine Ak ?_
 have H := AA H
 subst H
 refine Au (.inl Aa) F W Aa (Am F Aa) ?_
 have W := W.sub (M' := []) (Z' := [row v4034_ 63 Bf x3]) (List.nil_sublist _) (List.Sublist.cons_cons _ (List.nil_sublist _))
 exact ⟨(v4034_), Aa, W⟩
theorem WO : Has Tryz.prog 20 := CF Tryz.func20
def EK (p0 : Int) : List UInt8 := (if p0 = 0 then ([115, 114, 99] : List UInt8) else (if p0 = 1 then ([100, 115, 116] : List UInt8) else (if p0 = 2 then ([107, 105, 110, 100] : List UInt8) else (if p0 = 3 then ([116, 97, 103] : List UInt8) else (if p0 = 4 then ([112, 111, 114, 116] : List UInt8) else (if p0 = 5 then ([115, 119, 105, 116, 99, 104] : List UInt8) else ([63] : List UInt8)))))))
theorem Mm (Y : Nat → Prop) (w0 : World)  (p0 : Int) (r : List UInt8) (H : EK p0 = r)  :
    Calls Tryz.prog 86 #[.int .i64 p0] w0 fun e w' => e = .returned (.string (bs r)) ∧ Below w0.heap.size w0 w' := by
 refine enter Tryz.func86 Aa Tryz.ntmps86 Aa fun a F => ?_
 have W := Stw.start Y w0
 unfold EK at H
 refine vc tk 2 F W fun a w F W => ?_
 refine ls F W Aa (Bj (v := Value.string (bs ([] : List UInt8))) F Aa).q fun a w F W => ?_
 refine Ck tk 15 F W fun a w F W => ?_
 refine BV F Aa (fun hb => ?_) fun hb => ?_
 ·
  have H := B7 (CE hb) H
  rw [hb] at F
  clear hb
  refine vc tk 2 F W fun a w F W => ?_
  refine ls F W Aa (Bj (v := Value.string (bs ([115, 114, 99] : List UInt8))) F Aa).q fun a w F W => ?_
  refine Ck tk 2 F W fun a w F W => ?_
  refine Ak (AE (Ax ?_))
  subst H
  refine Au (.inl Aa) F W Aa (Am F Aa) ?_
  exact ⟨rfl, W.done⟩
 have H := B6 (CG hb) H
 rw [hb] at F
 clear hb
 refine vc tk 6 F W fun a w F W => ?_
 refine BV F Aa (fun hb => ?_) fun hb => ?_
 ·
  have H := B7 (CE hb) H
  rw [hb] at F
  clear hb
  refine vc tk 2 F W fun a w F W => ?_
  refine ls F W Aa (Bj (v := Value.string (bs ([100, 115, 116] : List UInt8))) F Aa).q fun a w F W => ?_
  refine Ck tk 2 F W fun a w F W => ?_
  refine Ak (AE (Ax ?_))
  subst H
  refine Au (.inl Aa) F W Aa (Am F Aa) ?_
  exact ⟨rfl, W.done⟩
 have H := B6 (CG hb) H
 rw [hb] at F
 clear hb
 refine vc tk 6 F W fun a w F W => ?_
 refine BV F Aa (fun hb => ?_) fun hb => ?_
 ·
  have H := B7 (CE hb) H
  rw [hb] at F
  clear hb
  refine vc tk 2 F W fun a w F W => ?_
  refine ls F W Aa (Bj (v := Value.string (bs ([107, 105, 110, 100] : List UInt8))) F Aa).q fun a w F W => ?_
  refine Ck tk 2 F W fun a w F W => ?_
  refine Ak (AE (Ax ?_))
  subst H
  refine Au (.inl Aa) F W Aa (Am F Aa) ?_
  exact ⟨rfl, W.done⟩
 have H := B6 (CG hb) H
 rw [hb] at F
 clear hb
 refine vc tk 6 F W fun a w F W => ?_
 refine BV F Aa (fun hb => ?_) fun hb => ?_
 ·
  have H := B7 (CE hb) H
  rw [hb] at F
  clear hb
  refine vc tk 2 F W fun a w F W => ?_
  refine ls F W Aa (Bj (v := Value.string (bs ([116, 97, 103] : List UInt8))) F Aa).q fun a w F W => ?_
  refine Ck tk 2 F W fun a w F W => ?_
  refine Ak (AE (Ax ?_))
  subst H
  refine Au (.inl Aa) F W Aa (Am F Aa) ?_
  exact ⟨rfl, W.done⟩
 have H := B6 (CG hb) H
 rw [hb] at F
 clear hb
 refine vc tk 6 F W fun a w F W => ?_
 refine BV F Aa (fun hb => ?_) fun hb => ?_
 ·
  have H := B7 (CE hb) H
  rw [hb] at F
  clear hb
  refine vc tk 2 F W fun a w F W => ?_
  refine ls F W Aa (Bj (v := Value.string (bs ([112, 111, 114, 116] : List UInt8))) F Aa).q fun a w F W => ?_
  refine Ck tk 2 F W fun a w F W => ?_
  refine Ak (AE (Ax ?_))
  subst H
  refine Au (.inl Aa) F W Aa (Am F Aa) ?_
  exact ⟨rfl, W.done⟩
 have H := B6 (CG hb) H
 rw [hb] at F
 clear hb
 refine vc tk 6 F W fun a w F W => ?_
 refine BV F Aa (fun hb => ?_) fun hb => ?_
 ·
  have H := B7 (CE hb) H
  rw [hb] at F
  clear hb
  refine vc tk 2 F W fun a w F W => ?_
  refine ls F W Aa (Bj (v := Value.string (bs ([115, 119, 105, 116, 99, 104] : List UInt8))) F Aa).q fun a w F W => ?_
  refine Ck tk 2 F W fun a w F W => ?_
  refine Ak (AE (Ax ?_))
  subst H
  refine Au (.inl Aa) F W Aa (Am F Aa) ?_
  exact ⟨rfl, W.done⟩
 have H := B6 (CG hb) H
 rw [hb] at F
 clear hb
 refine AW (AG ?_)
 refine vn tk 2 F W fun a w F W => ?_
 refine ls F W Aa (Bj (v := Value.string (bs ([63] : List UInt8))) F Aa).q fun a w F W => ?_
 refine Ck tk 2 F W fun a w F W => ?_
 refine Ak ?_
 subst H
 refine Au (.inl Aa) F W Aa (Am F Aa) ?_
 exact ⟨rfl, W.done⟩
theorem Xx : type_of% Tryz.underlying89 := Tryz.underlying89
theorem Zp : Has Tryz.prog 86 := CF Tryz.func86
theorem YP : Has Tryz.prog 55 := CF Tryz.func55
theorem U5 : (Tryz.prog.info? 34).bind (·.zero) = some (.agg #[.int .i64 0, .int .i64 0, .int .i64 0, .slice none 0 0]) := by kernel_rfl
theorem XY : Has Tryz.prog 58 := CF Tryz.func58
theorem Z9 : (Tryz.prog.info? 9).bind (·.zero) = some (.string (bs ([] : List UInt8))) := by kernel_rfl
theorem Xu : Et Tryz.prog 89 9 1 16 := Et.of Xx (by kernel_rfl) (by kernel_rfl) (by kernel_rfl) (by decide)
theorem Xr : Has Tryz.prog 56 := CF Tryz.func56
abbrev LJ  : List Value := [.int .i64 0, .int .i64 0, .int .i64 0, .slice none 0 0]
noncomputable def DR (fRec_pred_Text : Tr34 → Option (List UInt8)) (p0 : List Tr34) : (List (List UInt8) × Int) → Option ((List (List UInt8) × Int) ⊕ (List (List UInt8)))
  | (x2, x3) => (if x3 < (p0.length : Int) then (ix p0 x3).bind fun x4 => (fRec_pred_Text x4).bind fun x5 => (if (decide (x4.un.1 = 5) || decide (x4.un.1 = 6)) = true then (HH ([40] : List UInt8) x5).bind fun x7 => (HH x7 ([41] : List UInt8)).bind fun x8 => some x8 else some x5).bind fun x6 => (HH x2 ([x6] : List (List UInt8))).bind fun x9 => some (.inl (x9, AO (x3 + 1))) else some (.inr x2))
noncomputable def Fq (fRec_pred_Text : Tr34 → Option (List UInt8)) (p0 : List Tr34) (p1 : List UInt8) : Option (List UInt8) := (AY (DR fRec_pred_Text p0) ([], 0)).bind fun x1 => (KP x1 p1).bind fun x10 => some x10
theorem J0 (fRec_pred_Text : Tr34 → Option (List UInt8)) (ih_pred_Text : ∀ (Y : Nat → Prop) (w0 : World) (v1 : Value) (p0 : Tr34) (r : List UInt8) (H : fRec_pred_Text p0 = some r) (h_v1 : Sl w0 (NX []) CA v1 p0.un.2.2.2) (hG : Gk [] w0), Calls Tryz.prog 58 #[.agg #[.int .i64 p0.un.1, .int .i64 p0.un.2.1, .int .i64 p0.un.2.2.1, v1]] w0 fun e w' => e = .returned (.string (bs r)) ∧ Below w0.heap.size w0 w') (Y : Nat → Prop) (w0 : World) (v1 : Value) (p0 : List Tr34) (p1 : List UInt8) (r : List UInt8) (H : Fq fRec_pred_Text p0 p1 = some r) (h_v1 : Sl w0 (NX []) CA v1 p0) (hG : Gk [] w0) :
    Calls Tryz.prog 87 #[v1, .string (bs p1)] w0 fun e w' => e = .returned (.string (bs r)) ∧ Below w0.heap.size w0 w' := by
 refine enter Tryz.func87 Aa Tryz.ntmps87 Aa fun a F => ?_
 have W := Stw.start Y w0
 obtain ⟨v2, h1, h_v1⟩ := h_v1.ex CD
 unfold Fq at H
 refine vc tk 2 F W fun a w F W => ?_
 refine ls F W Aa (Bj (v := Value.string (bs ([] : List UInt8))) F Aa).q fun a w F W => ?_
 refine Ck tk 7 F W fun a w F W => ?_
 obtain ⟨o1, G1, K1⟩ := Ad H
 refine Ay (fun a w => ∃ x1 : List (List UInt8), ∃ v3 : Value, some (x1) = some o1 ∧ Fr 36 [] [(1, .string (bs p1)), (4, .string (bs ([] : List UInt8))), (5, v3)] a ∧ Stw ⟨Y, [], w0⟩ [] [row v3 9 Rp.str x1] w) ?_ ?_
 ·
  have H := G1
  clear G1 K1
  refine vc tk 3 F W fun a w F W => ?_
  refine ls F W Aa (CP (r := CA) (l := p0) Kw Aa F Aa (Aq CD h1 (Af h_v1))).q fun a w F W => ?_
  refine Ck tk 4 F W fun a w F W => ?_
  have W := W.nilRow 9 Rp.str
  refine BE H (fun s a w => ∃ v4 : Value, Fr 36 [] [(1, .string (bs p1)), (4, .string (bs ([] : List UInt8))), (5, v4), (9, v1), (10, .int .i64 (p0.length : Int)), (11, .int .i64 s.2)] a ∧ Stw ⟨Y, [], w0⟩ [] [row v4 9 Rp.str s.1] w) ⟨(Value.slice none 0 0), F.ra Aa, W⟩ fun s o a w H L2 hR => ?_
  obtain ⟨x2, x3⟩ := s
  obtain ⟨v4, F, W⟩ := hR
  have F : Fr 36 [] [(1, .string (bs p1)), (4, .string (bs ([] : List UInt8))), (5, v4), (9, v1), (10, .int .i64 (p0.length : Int)), (11, .int .i64 x3)] a := F
  have W : Stw ⟨Y, [], w0⟩ [] [row v4 9 Rp.str x2] w := W
  rw [DR] at H
  refine vc tk 6 F W fun a w F W => ?_
  refine BI F Aa H (fun F H => ?_) fun F H => ?_
  ·
   refine FJ tk 6 F W fun a w F W => ?_
   obtain ⟨x4, h2, H⟩ := Ad H
   obtain ⟨v5, h3, h4⟩ := DH h1 h2
   have h5 : Je v5 = [.int .i64 x4.un.1, .int .i64 x4.un.2.1, .int .i64 x4.un.2.2.1, (v5.2.2.2.1)] := congrArg (fun q : Tr34 => ([.int .i64 q.un.1, .int .i64 q.un.2.1, .int .i64 q.un.2.2.1, (v5.2.2.2.1)] : List Value)) h4
   refine ls F W Aa (Av (r := JB) Tg F Aa Aa (Af h_v1) h3).q fun a w F W => ?_
   refine ls F W Aa (Al (y := Value.agg #[.int .i64 x4.un.1, .int .i64 x4.un.2.1, .int .i64 x4.un.2.2.1, (v5.2.2.2.1)]) (j := 0) (i := x3) (enc := Je) F Aa Aa (Af h_v1) h3 Pr L6 (by rw [h5]; rfl)).q fun a w F W => ?_
   refine B8 (cs := (LJ)) F W Aa U5 Aa fun b1 a w F W => ?_
   refine D2 0 F W Aa Aa Aa L6 Aa Aa (Ae Aa (Ae Aa (Ae Aa (Ae ((BD (Af h_v1) h3 (Ah.snd (Ah.snd (Ah.snd Ah.here))) (congrArg (fun q : Tr34 => q.un.2.2.2) h4)) _ W).one Da)))) fun w W => ?_
   refine FA tk 5 [0] F W (ai fun a w F W => ?_)
   obtain ⟨x5, h6, H⟩ := Ad H
   refine ls F W Aa (AL (v := Value.string (bs x5)) F XY Aa (fun w W => ih_pred_Text any w ((v5.2.2.2.1)) x4 _ h6 (Ef (BD (Af h_v1) h3 (Ah.snd (Ah.snd (Ah.snd Ah.here))) (congrArg (fun q : Tr34 => q.un.2.2.2) h4)) W) (hG.go0 W))) fun a w F W => ?_
   refine vl tk 2 F W fun a w F W => ?_
   refine Ac ?_
   obtain ⟨o3, G3, K3⟩ := Ad H
   refine Ay (fun a w => ∃ x6 : List UInt8, some (x6) = some o3 ∧ Fr 36 [] [(1, .string (bs p1)), (4, .string (bs ([] : List UInt8))), (5, v4), (8, .string (bs x6)), (9, v1), (10, .int .i64 (p0.length : Int)), (11, .int .i64 x3)] a ∧ Stw ⟨Y, [], w0⟩ [(b1, [.int .i64 x4.un.1, .int .i64 x4.un.2.1, .int .i64 x4.un.2.2.1, (v5.2.2.2.1)])] [row v4 9 Rp.str x2] w) ?_ ?_
   ·
    have H := G3
    clear G3 K3
    refine Ay (fun a w => Fr 36 [] [(1, .string (bs p1)), (4, .string (bs ([] : List UInt8))), (5, v4), (8, .string (bs x5)), (9, v1), (10, .int .i64 (p0.length : Int)), (11, .int .i64 x3), (24, .bool (decide (x4.un.1 = 5) || decide (x4.un.1 = 6)))] a ∧ Stw ⟨Y, [], w0⟩ [(b1, [.int .i64 x4.un.1, .int .i64 x4.un.2.1, .int .i64 x4.un.2.2.1, (v5.2.2.2.1)])] [row v4 9 Rp.str x2] w) ?_ ?_
    ·
     refine Fj tk 5 [0] F W (ai fun a w F W => ?_)
     rcases Bool.eq_false_or_eq_true (decide (x4.un.1 = 5)) with hb0 | hb0
     ·
      rw [hb0] at F
      refine vl tk 5 F W fun a w F W => ?_
      refine Ac ?_
      exact ⟨F.re ⟨rfl, Aa, Aa, Aa, Aa, Aa, Aa, (DE (by try rw [hb0]; all_goals simp only [DF])), trivial⟩, W⟩
     rw [hb0] at F
     refine GH tk 5 [0] F W (ai fun a w F W => ?_)
     refine Ac ?_
     exact ⟨F.re ⟨rfl, Aa, Aa, Aa, Aa, Aa, Aa, (DE (by try rw [hb0]; all_goals simp only [DF])), trivial⟩, W⟩
    rintro a w ⟨F, W⟩
    refine Cv F Aa H (fun F H => ?_) fun F H => ?_
    ·
     refine vc tk 2 F W fun a w F W => ?_
     obtain ⟨x7, h7, H⟩ := Ad H
     refine ls F W Aa (GV (l := ([40] : List UInt8)) (m := x5) F Aa Aa h7).q fun a w F W => ?_
     obtain ⟨x8, h8, H⟩ := Ad H
     refine ls F W Aa (GV (l := x7) (m := ([41] : List UInt8)) F Aa Aa h8).q fun a w F W => ?_
     refine vl tk 2 F W fun a w F W => ?_
     refine Ac ?_
     exact ⟨_, H, F.ra Aa, W⟩
    refine AW (Ac ?_)
    exact ⟨_, H, F.ra Aa, W⟩
   rintro a w ⟨x6, hj, F, W⟩
   have hj := AA hj
   subst hj
   have H := K3
   clear G3 K3
   refine vc tk 3 F W fun a w F W => ?_
   refine Hr (z := Value.string (bs ([] : List UInt8))) (cs := [.string (bs x6)]) Rp.str ([x6] : List (List UInt8)) F W Aa Xu Z9 Aa Aa Aa Aa Aa Aa (Fl.str.repL _ _ ([x6] : List (List UInt8))) fun v6 a w F W => ?_
   obtain ⟨x9, h9, H⟩ := Ad H
   refine HT (r := Rp.str) (i := 1) F W Aa Xu Aa Aa Aa Aa (Jg W 0 Aa) h9 Aa fun v7 a w F W => ?_
   have W : Stw ⟨Y, [], w0⟩ [(b1, [.int .i64 x4.un.1, .int .i64 x4.un.2.1, .int .i64 x4.un.2.2.1, (v5.2.2.2.1)])] [row v7 9 Rp.str x9, row v6 9 Rp.str ([x6] : List (List UInt8))] w := W
   refine vl tk 2 F W fun a w F W => ?_
   refine AG ?_
   refine vn tk 4 F W fun a w F W => ?_
   refine Ac ?_
   have W := W.sub (M' := []) (Z' := [row v7 9 Rp.str x9]) (List.nil_sublist _) (List.Sublist.cons_cons _ (List.nil_sublist _))
   exact ⟨_, H, (v7), F.ra Aa, W⟩
  refine Br ?_
  iterate 2 refine BK ?_
  refine Bo (Ac ?_)
  have H := L2 _ H
  exact ⟨_, (v4), H, F.ra Aa, W⟩
 rintro a w ⟨x1, v3, hj, F, W⟩
 have hj := AA hj
 subst hj
 have H := K1
 clear G1 K1
 refine vc tk 4 F W fun a w F W => ?_
 obtain ⟨x10, h10, H⟩ := Ad H
 refine ls F W Aa (AL (v := Value.string (bs x10)) F Xr Aa (fun w W => PR any w (v3) x1 p1 _ h10 (Ef (Aj 0 Aa) W))) fun a w F W => ?_
 refine Ck tk 3 F W fun a w F W => ?_
 refine Ak ?_
 have H := AA H
 subst H
 refine Au (.inl Aa) F W Aa (Am F Aa) ?_
 exact ⟨rfl, W.done⟩
theorem XH : Has Tryz.prog 87 := CF Tryz.func87
noncomputable def Er (fRec : Tr34 → Option (List UInt8)) (p0 : Tr34) : Option (List UInt8) := (if p0.un.1 = 1 then some ([116, 114, 117, 101] : List UInt8) else (if p0.un.1 = 2 then some ([102, 97, 108, 115, 101] : List UInt8) else (if p0.un.1 = 3 then (HH (EK p0.un.2.1) ([32, 61, 32] : List UInt8)).bind fun x1 => (O6 p0.un.2.2.1).bind fun x2 => (HH x1 x2).bind fun x3 => some x3 else (if p0.un.1 = 4 then ((Fq fRec) p0.un.2.2.2 ([] : List UInt8)).bind fun x4 => (HH ([110, 111, 116, 32] : List UInt8) x4).bind fun x5 => some x5 else (if p0.un.1 = 5 then ((Fq fRec) p0.un.2.2.2 ([32, 97, 110, 100, 32] : List UInt8)).bind fun x6 => some x6 else (if p0.un.1 = 6 then ((Fq fRec) p0.un.2.2.2 ([32, 111, 114, 32] : List UInt8)).bind fun x7 => some x7 else some ([63] : List UInt8)))))))
noncomputable def EU : Nat → Tr34 → Option (List UInt8)
  | 0 => fun _ => none
  | n + 1 => Er (EU n)
noncomputable def Kn (p0 : Tr34) : Option (List UInt8) := GI fun n => EU n p0
theorem OX (fRec : Tr34 → Option (List UInt8)) (ih : ∀ (Y : Nat → Prop) (w0 : World) (v1 : Value) (p0 : Tr34) (r : List UInt8) (H : fRec p0 = some r) (h_v1 : Sl w0 (NX []) CA v1 p0.un.2.2.2) (hG : Gk [] w0), Calls Tryz.prog 58 #[.agg #[.int .i64 p0.un.1, .int .i64 p0.un.2.1, .int .i64 p0.un.2.2.1, v1]] w0 fun e w' => e = .returned (.string (bs r)) ∧ Below w0.heap.size w0 w') (Y : Nat → Prop) (w0 : World) (v1 : Value) (p0 : Tr34) (r : List UInt8) (H : Er fRec p0 = some r) (h_v1 : Sl w0 (NX []) CA v1 p0.un.2.2.2) (hG : Gk [] w0) :
    Calls Tryz.prog 58 #[.agg #[.int .i64 p0.un.1, .int .i64 p0.un.2.1, .int .i64 p0.un.2.2.1, v1]] w0 fun e w' => e = .returned (.string (bs r)) ∧ Below w0.heap.size w0 w' := by
 refine enter Tryz.func58 Aa Tryz.ntmps58 Aa fun a F => ?_
 have W := Stw.start Y w0
 obtain ⟨v2, h1, h_v1⟩ := h_v1.ex CD
 unfold Er at H
 refine vc tk 2 F W fun a w F W => ?_
 refine CU (cs := (Iy p0 v1)) F W Aa Aa Aa fun b1 a w F W => ?_
 refine ls F W Aa (Bj (v := Value.string (bs ([] : List UInt8))) F Aa).q fun a w F W => ?_
 refine FA tk 16 [0] F W (ai fun a w F W => ?_)
 refine BV F Aa (fun hb => ?_) fun hb => ?_
 ·
  have H := B7 (CE hb) H
  rw [hb] at F
  clear hb
  refine vc tk 2 F W fun a w F W => ?_
  refine ls F W Aa (Bj (v := Value.string (bs ([116, 114, 117, 101] : List UInt8))) F Aa).q fun a w F W => ?_
  refine Ck tk 2 F W fun a w F W => ?_
  refine Ak (AE (Ax ?_))
  have H := AA H
  subst H
  refine Au (.inl Aa) F W Aa (Am F Aa) ?_
  exact ⟨rfl, W.done⟩
 have H := B6 (CG hb) H
 rw [hb] at F
 clear hb
 refine vc tk 6 F W fun a w F W => ?_
 refine BV F Aa (fun hb => ?_) fun hb => ?_
 ·
  have H := B7 (CE hb) H
  rw [hb] at F
  clear hb
  refine vc tk 2 F W fun a w F W => ?_
  refine ls F W Aa (Bj (v := Value.string (bs ([102, 97, 108, 115, 101] : List UInt8))) F Aa).q fun a w F W => ?_
  refine Ck tk 2 F W fun a w F W => ?_
  refine Ak (AE (Ax ?_))
  have H := AA H
  subst H
  refine Au (.inl Aa) F W Aa (Am F Aa) ?_
  exact ⟨rfl, W.done⟩
 have H := B6 (CG hb) H
 rw [hb] at F
 clear hb
 refine vc tk 6 F W fun a w F W => ?_
 refine BV F Aa (fun hb => ?_) fun hb => ?_
 ·
  have H := B7 (CE hb) H
  rw [hb] at F
  clear hb
  refine FN ?_
  refine Cu W MO (by kernel_rfl) ?_
  refine qs F Aa (Ap Kx Aa Aa Aa T3 F Aa 1 Aa).q fun a F => ?_
  refine qs F Aa (Bv (v := Value.int .i64 p0.un.2.1) 0 F Aa Aa T3 Aa).q fun a F => ?_
  refine qs F Aa (AL (v := Value.string (bs (EK p0.un.2.1))) F Zp Aa (fun w W => Mm any w p0.un.2.1 _ Aa)) fun a F => ?_
  obtain ⟨x1, h2, H⟩ := Ad H
  refine qs F Aa (GV (l := (EK p0.un.2.1)) (m := ([32, 61, 32] : List UInt8)) F Aa Aa h2).q fun a F => ?_
  refine qs F Aa (Ap Kx Aa Aa Aa T3 F Aa 2 Aa).q fun a F => ?_
  refine qs F Aa (Bv (v := Value.int .i64 p0.un.2.2.1) 0 F Aa Aa T3 Aa).q fun a F => ?_
  obtain ⟨x2, h3, H⟩ := Ad H
  refine qs F Aa (AL (v := Value.string (bs x2)) F YP Aa (fun w W => Te any w p0.un.2.2.1 _ h3 (hG.go0 W))) fun a F => ?_
  obtain ⟨x3, h4, H⟩ := Ad H
  refine qs F Aa (GV (l := x1) (m := x2) F Aa Aa h4).q fun a F => ?_
  refine qs F Aa (Bj F Aa).q fun a F => ?_
  refine AJ fun w W => ?_
  refine Ac (Ak (AE (Ax ?_)))
  have H := AA H
  subst H
  refine Au (.inl Aa) F W Aa (Am F Aa) ?_
  exact ⟨rfl, W.done⟩
 have H := B6 (CG hb) H
 rw [hb] at F
 clear hb
 refine vc tk 6 F W fun a w F W => ?_
 refine BV F Aa (fun hb => ?_) fun hb => ?_
 ·
  have H := B7 (CE hb) H
  rw [hb] at F
  clear hb
  refine Fj tk 4 [0] F W (ai fun a w F W => ?_)
  obtain ⟨x4, h5, H⟩ := Ad H
  refine ls F W Aa (AL (v := Value.string (bs x4)) F XH Aa (fun w W => (J0 fRec ih) any w (v1) p0.un.2.2.2 ([] : List UInt8) _ h5 (Ef (Aq CD h1 (Af h_v1)) W) (hG.go0 W))) fun a w F W => ?_
  obtain ⟨x5, h6, H⟩ := Ad H
  refine ls F W Aa (GV (l := ([110, 111, 116, 32] : List UInt8)) (m := x4) F Aa Aa h6).q fun a w F W => ?_
  refine Ck tk 3 F W fun a w F W => ?_
  refine Ak (AE (Ax ?_))
  have H := AA H
  subst H
  refine Au (.inl Aa) F W Aa (Am F Aa) ?_
  exact ⟨rfl, W.done⟩
 have H := B6 (CG hb) H
 rw [hb] at F
 clear hb
 refine vc tk 6 F W fun a w F W => ?_
 refine BV F Aa (fun hb => ?_) fun hb => ?_
 ·
  have H := B7 (CE hb) H
  rw [hb] at F
  clear hb
  refine Fj tk 4 [0] F W (ai fun a w F W => ?_)
  obtain ⟨x6, h7, H⟩ := Ad H
  refine ls F W Aa (AL (v := Value.string (bs x6)) F XH Aa (fun w W => (J0 fRec ih) any w (v1) p0.un.2.2.2 ([32, 97, 110, 100, 32] : List UInt8) _ h7 (Ef (Aq CD h1 (Af h_v1)) W) (hG.go0 W))) fun a w F W => ?_
  refine Ck tk 3 F W fun a w F W => ?_
  refine Ak (AE (Ax ?_))
  have H := AA H
  subst H
  refine Au (.inl Aa) F W Aa (Am F Aa) ?_
  exact ⟨rfl, W.done⟩
 have H := B6 (CG hb) H
 rw [hb] at F
 clear hb
 refine vc tk 6 F W fun a w F W => ?_
 refine BV F Aa (fun hb => ?_) fun hb => ?_
 ·
  have H := B7 (CE hb) H
  rw [hb] at F
  clear hb
  refine Fj tk 4 [0] F W (ai fun a w F W => ?_)
  obtain ⟨x7, h8, H⟩ := Ad H
  refine ls F W Aa (AL (v := Value.string (bs x7)) F XH Aa (fun w W => (J0 fRec ih) any w (v1) p0.un.2.2.2 ([32, 111, 114, 32] : List UInt8) _ h8 (Ef (Aq CD h1 (Af h_v1)) W) (hG.go0 W))) fun a w F W => ?_
  refine Ck tk 3 F W fun a w F W => ?_
  refine Ak (AE (Ax ?_))
  have H := AA H
  subst H
  refine Au (.inl Aa) F W Aa (Am F Aa) ?_
  exact ⟨rfl, W.done⟩
 have H := B6 (CG hb) H
 rw [hb] at F
 clear hb
 refine AW (AG ?_)
 refine vn tk 2 F W fun a w F W => ?_
 refine ls F W Aa (Bj (v := Value.string (bs ([63] : List UInt8))) F Aa).q fun a w F W => ?_
 refine Ck tk 2 F W fun a w F W => ?_
 refine Ak ?_
 have H := AA H
 subst H
 refine Au (.inl Aa) F W Aa (Am F Aa) ?_
 exact ⟨rfl, W.done⟩
theorem Py : ∀ (n : Nat) (Y : Nat → Prop) (w0 : World) (v1 : Value) (p0 : Tr34) (r : List UInt8) (H : EU n p0 = some r) (h_v1 : Sl w0 (NX []) CA v1 p0.un.2.2.2) (hG : Gk [] w0), Calls Tryz.prog 58 #[.agg #[.int .i64 p0.un.1, .int .i64 p0.un.2.1, .int .i64 p0.un.2.2.1, v1]] w0 fun e w' => e = .returned (.string (bs r)) ∧ Below w0.heap.size w0 w' := by
  intro n
  induction n with
  | zero => intro Y w0 v1 p0 r H; exact nomatch H
  | succ n ih => intro Y w0 v1 p0 r H h_v1 hG; exact OX (EU n) ih Y w0 v1 p0 r H h_v1 hG
theorem MQ (Y : Nat → Prop) (w0 : World) (v1 : Value) (p0 : Tr34) (r : List UInt8) (H : Kn p0 = some r) (h_v1 : Sl w0 (NX []) CA v1 p0.un.2.2.2) (hG : Gk [] w0) :
    Calls Tryz.prog 58 #[.agg #[.int .i64 p0.un.1, .int .i64 p0.un.2.1, .int .i64 p0.un.2.2.1, v1]] w0 fun e w' => e = .returned (.string (bs r)) ∧ Below w0.heap.size w0 w' := by
  obtain ⟨n, H⟩ := CO H
  exact Py n Y w0 v1 p0 r H h_v1 hG
noncomputable def El (p0 : Tr34) : Option (List UInt8) := (if p0.un.1 = 1 then some ([105, 100] : List UInt8) else (if p0.un.1 = 2 then some ([100, 114, 111, 112] : List UInt8) else (Kn p0).bind fun x1 => (HH ([119, 104, 101, 110, 32] : List UInt8) x1).bind fun x2 => some x2))
theorem Kv (Y : Nat → Prop) (w0 : World) (v1 : Value) (p0 : Tr34) (r : List UInt8) (H : El p0 = some r) (h_v1 : Sl w0 (NX []) CA v1 p0.un.2.2.2) (hG : Gk [] w0) :
    Calls Tryz.prog 53 #[.agg #[.int .i64 p0.un.1, .int .i64 p0.un.2.1, .int .i64 p0.un.2.2.1, v1]] w0 fun e w' => e = .returned (.string (bs r)) ∧ Below w0.heap.size w0 w' := by
 refine enter Tryz.func53 Aa Tryz.ntmps53 Aa fun a F => ?_
 have W := Stw.start Y w0
 obtain ⟨v2, h1, h_v1⟩ := h_v1.ex CD
 unfold El at H
 refine vc tk 2 F W fun a w F W => ?_
 refine CU (cs := (Iy p0 v1)) F W Aa Aa Aa fun b1 a w F W => ?_
 refine ls F W Aa (Bj (v := Value.string (bs ([] : List UInt8))) F Aa).q fun a w F W => ?_
 refine FA tk 16 [0] F W (ai fun a w F W => ?_)
 refine BV F Aa (fun hb => ?_) fun hb => ?_
 ·
  have H := B7 (CE hb) H
  rw [hb] at F
  clear hb
  refine vc tk 2 F W fun a w F W => ?_
  refine ls F W Aa (Bj (v := Value.string (bs ([105, 100] : List UInt8))) F Aa).q fun a w F W => ?_
  refine Ck tk 2 F W fun a w F W => ?_
  refine Ak (AE (Ax ?_))
  have H := AA H
  subst H
  refine Au (.inl Aa) F W Aa (Am F Aa) ?_
  exact ⟨rfl, W.done⟩
 have H := B6 (CG hb) H
 rw [hb] at F
 clear hb
 refine vc tk 6 F W fun a w F W => ?_
 refine BV F Aa (fun hb => ?_) fun hb => ?_
 ·
  have H := B7 (CE hb) H
  rw [hb] at F
  clear hb
  refine vc tk 2 F W fun a w F W => ?_
  refine ls F W Aa (Bj (v := Value.string (bs ([100, 114, 111, 112] : List UInt8))) F Aa).q fun a w F W => ?_
  refine Ck tk 2 F W fun a w F W => ?_
  refine Ak (AE (Ax ?_))
  have H := AA H
  subst H
  refine Au (.inl Aa) F W Aa (Am F Aa) ?_
  exact ⟨rfl, W.done⟩
 have H := B6 (CG hb) H
 rw [hb] at F
 clear hb
 refine AW (AG ?_)
 refine Y1 tk 3 [0] F W (ai fun a w F W => ?_)
 obtain ⟨x1, h2, H⟩ := Ad H
 refine ls F W Aa (AL (v := Value.string (bs x1)) F XY Aa (fun w W => MQ any w (v1) p0 _ h2 (Ef (Aq CD h1 (Af h_v1)) W) (hG.go0 W))) fun a w F W => ?_
 obtain ⟨x2, h3, H⟩ := Ad H
 refine ls F W Aa (GV (l := ([119, 104, 101, 110, 32] : List UInt8)) (m := x1) F Aa Aa h3).q fun a w F W => ?_
 refine Ck tk 3 F W fun a w F W => ?_
 refine Ak ?_
 have H := AA H
 subst H
 refine Au (.inl Aa) F W Aa (Am F Aa) ?_
 exact ⟨rfl, W.done⟩
theorem Y6 : Has Tryz.prog 53 := CF Tryz.func53
def DY (p0 : Int) : List UInt8 := (if p0 = 0 then ([115, 114, 99] : List UInt8) else (if p0 = 1 then ([100, 115, 116] : List UInt8) else (if p0 = 2 then ([107, 105, 110, 100] : List UInt8) else (if p0 = 3 then ([116, 97, 103] : List UInt8) else (if p0 = 4 then ([112, 111, 114, 116] : List UInt8) else ([63] : List UInt8))))))
theorem KT (Y : Nat → Prop) (w0 : World)  (p0 : Int) (r : List UInt8) (H : DY p0 = r)  :
    Calls Tryz.prog 54 #[.int .i64 p0] w0 fun e w' => e = .returned (.string (bs r)) ∧ Below w0.heap.size w0 w' := by
 refine enter Tryz.func54 Aa Tryz.ntmps54 Aa fun a F => ?_
 have W := Stw.start Y w0
 unfold DY at H
 refine vc tk 2 F W fun a w F W => ?_
 refine ls F W Aa (Bj (v := Value.string (bs ([] : List UInt8))) F Aa).q fun a w F W => ?_
 refine Ck tk 15 F W fun a w F W => ?_
 refine BV F Aa (fun hb => ?_) fun hb => ?_
 ·
  have H := B7 (CE hb) H
  rw [hb] at F
  clear hb
  refine vc tk 2 F W fun a w F W => ?_
  refine ls F W Aa (Bj (v := Value.string (bs ([115, 114, 99] : List UInt8))) F Aa).q fun a w F W => ?_
  refine Ck tk 2 F W fun a w F W => ?_
  refine Ak (AE (Ax ?_))
  subst H
  refine Au (.inl Aa) F W Aa (Am F Aa) ?_
  exact ⟨rfl, W.done⟩
 have H := B6 (CG hb) H
 rw [hb] at F
 clear hb
 refine vc tk 6 F W fun a w F W => ?_
 refine BV F Aa (fun hb => ?_) fun hb => ?_
 ·
  have H := B7 (CE hb) H
  rw [hb] at F
  clear hb
  refine vc tk 2 F W fun a w F W => ?_
  refine ls F W Aa (Bj (v := Value.string (bs ([100, 115, 116] : List UInt8))) F Aa).q fun a w F W => ?_
  refine Ck tk 2 F W fun a w F W => ?_
  refine Ak (AE (Ax ?_))
  subst H
  refine Au (.inl Aa) F W Aa (Am F Aa) ?_
  exact ⟨rfl, W.done⟩
 have H := B6 (CG hb) H
 rw [hb] at F
 clear hb
 refine vc tk 6 F W fun a w F W => ?_
 refine BV F Aa (fun hb => ?_) fun hb => ?_
 ·
  have H := B7 (CE hb) H
  rw [hb] at F
  clear hb
  refine vc tk 2 F W fun a w F W => ?_
  refine ls F W Aa (Bj (v := Value.string (bs ([107, 105, 110, 100] : List UInt8))) F Aa).q fun a w F W => ?_
  refine Ck tk 2 F W fun a w F W => ?_
  refine Ak (AE (Ax ?_))
  subst H
  refine Au (.inl Aa) F W Aa (Am F Aa) ?_
  exact ⟨rfl, W.done⟩
 have H := B6 (CG hb) H
 rw [hb] at F
 clear hb
 refine vc tk 6 F W fun a w F W => ?_
 refine BV F Aa (fun hb => ?_) fun hb => ?_
 ·
  have H := B7 (CE hb) H
  rw [hb] at F
  clear hb
  refine vc tk 2 F W fun a w F W => ?_
  refine ls F W Aa (Bj (v := Value.string (bs ([116, 97, 103] : List UInt8))) F Aa).q fun a w F W => ?_
  refine Ck tk 2 F W fun a w F W => ?_
  refine Ak (AE (Ax ?_))
  subst H
  refine Au (.inl Aa) F W Aa (Am F Aa) ?_
  exact ⟨rfl, W.done⟩
 have H := B6 (CG hb) H
 rw [hb] at F
 clear hb
 refine vc tk 6 F W fun a w F W => ?_
 refine BV F Aa (fun hb => ?_) fun hb => ?_
 ·
  have H := B7 (CE hb) H
  rw [hb] at F
  clear hb
  refine vc tk 2 F W fun a w F W => ?_
  refine ls F W Aa (Bj (v := Value.string (bs ([112, 111, 114, 116] : List UInt8))) F Aa).q fun a w F W => ?_
  refine Ck tk 2 F W fun a w F W => ?_
  refine Ak (AE (Ax ?_))
  subst H
  refine Au (.inl Aa) F W Aa (Am F Aa) ?_
  exact ⟨rfl, W.done⟩
 have H := B6 (CG hb) H
 rw [hb] at F
 clear hb
 refine AW (AG ?_)
 refine vn tk 2 F W fun a w F W => ?_
 refine ls F W Aa (Bj (v := Value.string (bs ([63] : List UInt8))) F Aa).q fun a w F W => ?_
 refine Ck tk 2 F W fun a w F W => ?_
 refine Ak ?_
 subst H
 refine Au (.inl Aa) F W Aa (Am F Aa) ?_
 exact ⟨rfl, W.done⟩
theorem Zv : Has Tryz.prog 54 := CF Tryz.func54
theorem Yw : Has Tryz.prog 25 := CF Tryz.func25
noncomputable def Cn (fRec_policy_Text : Tr37 → Option (List UInt8)) (p0 : List Tr37) : (List (List UInt8) × Int) → Option ((List (List UInt8) × Int) ⊕ (List (List UInt8)))
  | (x2, x3) => (if x3 < (p0.length : Int) then (ix p0 x3).bind fun x4 => (fRec_policy_Text (Tr37.of (x4.un.1, Tr34.of (x4.un.2.1.un.1, x4.un.2.1.un.2.1, x4.un.2.1.un.2.2.1, x4.un.2.1.un.2.2.2), x4.un.2.2.1, x4.un.2.2.2.1, x4.un.2.2.2.2))).bind fun x5 => (if (decide (x4.un.1 = 3) || (decide (x4.un.1 = 4) || decide (x4.un.1 = 5))) = true then (HH ([40] : List UInt8) x5).bind fun x7 => (HH x7 ([41] : List UInt8)).bind fun x8 => some x8 else some x5).bind fun x6 => (HH x2 ([x6] : List (List UInt8))).bind fun x9 => some (.inl (x9, AO (x3 + 1))) else some (.inr x2))
noncomputable def CH (fRec_policy_Text : Tr37 → Option (List UInt8)) (p0 : List Tr37) : Option (List (List UInt8)) := (AY (Cn fRec_policy_Text p0) ([], 0)).bind fun x1 => some x1
theorem FQ (fRec_policy_Text : Tr37 → Option (List UInt8)) (ih_policy_Text : ∀ (Y : Nat → Prop) (w0 : World) (v1 : Value) (v2 : Value) (p0 : Tr37) (r : List UInt8) (H : fRec_policy_Text p0 = some r) (h_v1 : Sl w0 (NX []) CA v1 p0.un.2.1.un.2.2.2) (h_v2 : Sl w0 (NX []) C9 v2 p0.un.2.2.2.2) (hG : Gk [] w0), Calls Tryz.prog 25 #[.agg #[.int .i64 p0.un.1, .int .i64 p0.un.2.1.un.1, .int .i64 p0.un.2.1.un.2.1, .int .i64 p0.un.2.1.un.2.2.1, v1, .int .i64 p0.un.2.2.1, .int .i64 p0.un.2.2.2.1, v2]] w0 fun e w' => e = .returned (.string (bs r)) ∧ Below w0.heap.size w0 w') (Y : Nat → Prop) (w0 : World) (v1 : Value) (p0 : List Tr37) (r : List (List UInt8)) (H : CH fRec_policy_Text p0 = some r) (h_v1 : Sl w0 (NX []) C9 v1 p0) (hG : Gk [] w0) :
    Calls Tryz.prog 57 #[v1] w0 fun e w' => ∃ x : Value, e = .returned (x) ∧ Stw ⟨Y, [], w0⟩ [] [row (x) 9 Rp.str r] w' := by
 refine enter Tryz.func57 Aa Tryz.ntmps57 Aa fun a F => ?_
 have W := Stw.start Y w0
 obtain ⟨v2, h1, h_v1⟩ := h_v1.ex ED
 unfold CH at H
 refine vc tk 10 F W fun a w F W => ?_
 obtain ⟨o1, G1, K1⟩ := Ad H
 refine Ay (fun a w => ∃ x1 : List (List UInt8), ∃ v3 : Value, some (x1) = some o1 ∧ Fr 37 [] [(2, .slice none 0 0), (3, v3)] a ∧ Stw ⟨Y, [], w0⟩ [] [row v3 9 Rp.str x1] w) ?_ ?_
 ·
  have H := G1
  clear G1 K1
  refine vc tk 3 F W fun a w F W => ?_
  refine ls F W Aa (CP (r := C9) (l := p0) Kr Aa F Aa (Aq ED h1 (Af h_v1))).q fun a w F W => ?_
  refine Ck tk 4 F W fun a w F W => ?_
  have W := W.nilRow 9 Rp.str
  refine BE H (fun s a w => ∃ v4 : Value, Fr 37 [] [(2, .slice none 0 0), (3, v4), (7, v1), (8, .int .i64 (p0.length : Int)), (9, .int .i64 s.2)] a ∧ Stw ⟨Y, [], w0⟩ [] [row v4 9 Rp.str s.1] w) ⟨(Value.slice none 0 0), F.ra Aa, W⟩ fun s o a w H L2 hR => ?_
  obtain ⟨x2, x3⟩ := s
  obtain ⟨v4, F, W⟩ := hR
  have F : Fr 37 [] [(2, .slice none 0 0), (3, v4), (7, v1), (8, .int .i64 (p0.length : Int)), (9, .int .i64 x3)] a := F
  have W : Stw ⟨Y, [], w0⟩ [] [row v4 9 Rp.str x2] w := W
  rw [Cn] at H
  refine vc tk 6 F W fun a w F W => ?_
  refine BI F Aa H (fun F H => ?_) fun F H => ?_
  ·
   refine FJ tk 6 F W fun a w F W => ?_
   obtain ⟨x4, h2, H⟩ := Ad H
   obtain ⟨v5, h3, h4⟩ := DH h1 h2
   have h5 : Hy v5 = [.int .i64 x4.un.1, .int .i64 x4.un.2.1.un.1, .int .i64 x4.un.2.1.un.2.1, .int .i64 x4.un.2.1.un.2.2.1, (v5.2.1.2.2.2.1), .int .i64 x4.un.2.2.1, .int .i64 x4.un.2.2.2.1, (v5.2.2.2.2.1)] := congrArg (fun q : Tr37 => ([.int .i64 q.un.1, .int .i64 q.un.2.1.un.1, .int .i64 q.un.2.1.un.2.1, .int .i64 q.un.2.1.un.2.2.1, (v5.2.1.2.2.2.1), .int .i64 q.un.2.2.1, .int .i64 q.un.2.2.2.1, (v5.2.2.2.2.1)] : List Value)) h4
   refine ls F W Aa (Av (r := FV) OO F Aa Aa (Af h_v1) h3).q fun a w F W => ?_
   refine ls F W Aa (Al (y := Value.agg #[.int .i64 x4.un.1, .int .i64 x4.un.2.1.un.1, .int .i64 x4.un.2.1.un.2.1, .int .i64 x4.un.2.1.un.2.2.1, (v5.2.1.2.2.2.1), .int .i64 x4.un.2.2.1, .int .i64 x4.un.2.2.2.1, (v5.2.2.2.2.1)]) (j := 0) (i := x3) (enc := Hy) F Aa Aa (Af h_v1) h3 NH IF (by rw [h5]; rfl)).q fun a w F W => ?_
   refine B8 (cs := (F4)) F W Aa Mk Aa fun b1 a w F W => ?_
   refine D2 0 F W Aa Aa Aa IF Aa Aa (Ae Aa (Ae Aa (Ae Aa (Ae Aa (Ae ((BD (Af h_v1) h3 (Ah.snd (Ah.fst (Ah.snd (Ah.snd (Ah.snd Ah.here))))) (congrArg (fun q : Tr37 => q.un.2.1.un.2.2.2) h4)) _ W).one (Ae Aa (Ae Aa (Ae ((BD (Af h_v1) h3 (Ah.snd (Ah.snd (Ah.snd (Ah.snd Ah.here)))) (congrArg (fun q : Tr37 => q.un.2.2.2.2) h4)) _ W).one Da)))))))) fun w W => ?_
   refine FA tk 5 [0] F W (ai fun a w F W => ?_)
   obtain ⟨x5, h6, H⟩ := Ad H
   refine ls F W Aa (AL (v := Value.string (bs x5)) F Yw Aa (fun w W => ih_policy_Text any w ((v5.2.1.2.2.2.1)) ((v5.2.2.2.2.1)) (Tr37.of (x4.un.1, Tr34.of (x4.un.2.1.un.1, x4.un.2.1.un.2.1, x4.un.2.1.un.2.2.1, x4.un.2.1.un.2.2.2), x4.un.2.2.1, x4.un.2.2.2.1, x4.un.2.2.2.2)) _ h6 (Ef (BD (Af h_v1) h3 (Ah.snd (Ah.fst (Ah.snd (Ah.snd (Ah.snd Ah.here))))) (congrArg (fun q : Tr37 => q.un.2.1.un.2.2.2) h4)) W) (Ef (BD (Af h_v1) h3 (Ah.snd (Ah.snd (Ah.snd (Ah.snd Ah.here)))) (congrArg (fun q : Tr37 => q.un.2.2.2.2) h4)) W) (hG.go0 W))) fun a w F W => ?_
   refine vl tk 2 F W fun a w F W => ?_
   refine Ac ?_
   obtain ⟨o3, G3, K3⟩ := Ad H
   refine Ay (fun a w => ∃ x6 : List UInt8, some (x6) = some o3 ∧ Fr 37 [] [(2, .slice none 0 0), (3, v4), (6, .string (bs x6)), (7, v1), (8, .int .i64 (p0.length : Int)), (9, .int .i64 x3)] a ∧ Stw ⟨Y, [], w0⟩ [(b1, [.int .i64 x4.un.1, .int .i64 x4.un.2.1.un.1, .int .i64 x4.un.2.1.un.2.1, .int .i64 x4.un.2.1.un.2.2.1, (v5.2.1.2.2.2.1), .int .i64 x4.un.2.2.1, .int .i64 x4.un.2.2.2.1, (v5.2.2.2.2.1)])] [row v4 9 Rp.str x2] w) ?_ ?_
   ·
    have H := G3
    clear G3 K3
    refine Ay (fun a w => Fr 37 [] [(2, .slice none 0 0), (3, v4), (6, .string (bs x5)), (7, v1), (8, .int .i64 (p0.length : Int)), (9, .int .i64 x3), (27, .bool (decide (x4.un.1 = 3) || (decide (x4.un.1 = 4) || decide (x4.un.1 = 5))))] a ∧ Stw ⟨Y, [], w0⟩ [(b1, [.int .i64 x4.un.1, .int .i64 x4.un.2.1.un.1, .int .i64 x4.un.2.1.un.2.1, .int .i64 x4.un.2.1.un.2.2.1, (v5.2.1.2.2.2.1), .int .i64 x4.un.2.2.1, .int .i64 x4.un.2.2.2.1, (v5.2.2.2.2.1)])] [row v4 9 Rp.str x2] w) ?_ ?_
    ·
     refine Fj tk 5 [0] F W (ai fun a w F W => ?_)
     rcases Bool.eq_false_or_eq_true (decide (x4.un.1 = 3)) with hb0 | hb0
     ·
      rw [hb0] at F
      refine vl tk 10 F W fun a w F W => ?_
      refine Ac ?_
      exact ⟨F.re ⟨rfl, Aa, Aa, Aa, Aa, Aa, (DE (by try rw [hb0]; all_goals simp only [DF])), trivial⟩, W⟩
     rw [hb0] at F
     refine GH tk 5 [0] F W (ai fun a w F W => ?_)
     rcases Bool.eq_false_or_eq_true (decide (x4.un.1 = 4)) with hb1 | hb1
     ·
      rw [hb1] at F
      refine vl tk 5 F W fun a w F W => ?_
      refine Ac ?_
      exact ⟨F.re ⟨rfl, Aa, Aa, Aa, Aa, Aa, (DE (by try rw [hb0]; try rw [hb1]; all_goals simp only [DF])), trivial⟩, W⟩
     rw [hb1] at F
     refine GH tk 5 [0] F W (ai fun a w F W => ?_)
     refine Ac ?_
     exact ⟨F.re ⟨rfl, Aa, Aa, Aa, Aa, Aa, (DE (by try rw [hb0]; try rw [hb1]; all_goals simp only [DF])), trivial⟩, W⟩
    rintro a w ⟨F, W⟩
    refine Cv F Aa H (fun F H => ?_) fun F H => ?_
    ·
     refine vc tk 2 F W fun a w F W => ?_
     obtain ⟨x7, h7, H⟩ := Ad H
     refine ls F W Aa (GV (l := ([40] : List UInt8)) (m := x5) F Aa Aa h7).q fun a w F W => ?_
     obtain ⟨x8, h8, H⟩ := Ad H
     refine ls F W Aa (GV (l := x7) (m := ([41] : List UInt8)) F Aa Aa h8).q fun a w F W => ?_
     refine vl tk 2 F W fun a w F W => ?_
     refine Ac ?_
     exact ⟨_, H, F.ra Aa, W⟩
    refine AW (Ac ?_)
    exact ⟨_, H, F.ra Aa, W⟩
   rintro a w ⟨x6, hj, F, W⟩
   have hj := AA hj
   subst hj
   have H := K3
   clear G3 K3
   refine vc tk 3 F W fun a w F W => ?_
   refine Hr (z := Value.string (bs ([] : List UInt8))) (cs := [.string (bs x6)]) Rp.str ([x6] : List (List UInt8)) F W Aa Xu Z9 Aa Aa Aa Aa Aa Aa (Fl.str.repL _ _ ([x6] : List (List UInt8))) fun v6 a w F W => ?_
   obtain ⟨x9, h9, H⟩ := Ad H
   refine HT (r := Rp.str) (i := 1) F W Aa Xu Aa Aa Aa Aa (Jg W 0 Aa) h9 Aa fun v7 a w F W => ?_
   have W : Stw ⟨Y, [], w0⟩ [(b1, [.int .i64 x4.un.1, .int .i64 x4.un.2.1.un.1, .int .i64 x4.un.2.1.un.2.1, .int .i64 x4.un.2.1.un.2.2.1, (v5.2.1.2.2.2.1), .int .i64 x4.un.2.2.1, .int .i64 x4.un.2.2.2.1, (v5.2.2.2.2.1)])] [row v7 9 Rp.str x9, row v6 9 Rp.str ([x6] : List (List UInt8))] w := W
   refine vl tk 2 F W fun a w F W => ?_
   refine AG ?_
   refine vn tk 4 F W fun a w F W => ?_
   refine Ac ?_
   have W := W.sub (M' := []) (Z' := [row v7 9 Rp.str x9]) (List.nil_sublist _) (List.Sublist.cons_cons _ (List.nil_sublist _))
   exact ⟨_, H, (v7), F.ra Aa, W⟩
  refine Br ?_
  iterate 2 refine BK ?_
  refine Bo (Ac ?_)
  have H := L2 _ H
  exact ⟨_, (v4), H, F.ra Aa, W⟩
 rintro a w ⟨x1, v3, hj, F, W⟩
 have hj := AA hj
 subst hj
 have H := K1
 clear G1 K1
 refine vc tk 6 F W fun a w F W => ?_
 refine Ak ?_
 have H := AA H
 subst H
 refine Au (.inl Aa) F W Aa (Am F Aa) ?_
 exact ⟨(v3), Aa, W⟩
theorem XX : Has Tryz.prog 57 := CF Tryz.func57
abbrev He (a0 : Nat) (a1 : Tr37) (a2 : Value) (a3 : Value) : List (Nat × List Value) := [(a0, [.int .i64 a1.un.1, .int .i64 a1.un.2.1.un.1, .int .i64 a1.un.2.1.un.2.1, .int .i64 a1.un.2.1.un.2.2.1, a2, .int .i64 a1.un.2.2.1, .int .i64 a1.un.2.2.2.1, a3])]
noncomputable def Dy (fRec : Tr37 → Option (List UInt8)) (p0 : Tr37) : Option (List UInt8) := (if p0.un.1 = 1 then (El (Tr34.of (p0.un.2.1.un.1, p0.un.2.1.un.2.1, p0.un.2.1.un.2.2.1, p0.un.2.1.un.2.2.2))).bind fun x1 => some x1 else (if p0.un.1 = 2 then (HH (DY p0.un.2.2.1) ([32, 58, 61, 32] : List UInt8)).bind fun x2 => (O6 p0.un.2.2.2.1).bind fun x3 => (HH x2 x3).bind fun x4 => some x4 else (if p0.un.1 = 3 then ((CH fRec) p0.un.2.2.2.2).bind fun x5 => (KP x5 ([59, 32] : List UInt8)).bind fun x6 => some x6 else (if p0.un.1 = 4 then ((CH fRec) p0.un.2.2.2.2).bind fun x7 => (KP x7 ([32, 124, 32] : List UInt8)).bind fun x8 => some x8 else (if p0.un.1 = 5 then (Kn (Tr34.of (p0.un.2.1.un.1, p0.un.2.1.un.2.1, p0.un.2.1.un.2.2.1, p0.un.2.1.un.2.2.2))).bind fun x9 => (HH ([105, 102, 32] : List UInt8) x9).bind fun x10 => (HH x10 ([32, 116, 104, 101, 110, 32] : List UInt8)).bind fun x11 => ((CH fRec) p0.un.2.2.2.2).bind fun x12 => (KP x12 ([32, 101, 108, 115, 101, 32] : List UInt8)).bind fun x13 => (HH x11 x13).bind fun x14 => some x14 else some ([63] : List UInt8))))))
noncomputable def DT : Nat → Tr37 → Option (List UInt8)
  | 0 => fun _ => none
  | n + 1 => Dy (DT n)
noncomputable def Hh (p0 : Tr37) : Option (List UInt8) := GI fun n => DT n p0
theorem MW (fRec : Tr37 → Option (List UInt8)) (ih : ∀ (Y : Nat → Prop) (w0 : World) (v1 : Value) (v2 : Value) (p0 : Tr37) (r : List UInt8) (H : fRec p0 = some r) (h_v1 : Sl w0 (NX []) CA v1 p0.un.2.1.un.2.2.2) (h_v2 : Sl w0 (NX []) C9 v2 p0.un.2.2.2.2) (hG : Gk [] w0), Calls Tryz.prog 25 #[.agg #[.int .i64 p0.un.1, .int .i64 p0.un.2.1.un.1, .int .i64 p0.un.2.1.un.2.1, .int .i64 p0.un.2.1.un.2.2.1, v1, .int .i64 p0.un.2.2.1, .int .i64 p0.un.2.2.2.1, v2]] w0 fun e w' => e = .returned (.string (bs r)) ∧ Below w0.heap.size w0 w') (Y : Nat → Prop) (w0 : World) (v1 : Value) (v2 : Value) (p0 : Tr37) (r : List UInt8) (H : Dy fRec p0 = some r) (h_v1 : Sl w0 (NX []) CA v1 p0.un.2.1.un.2.2.2) (h_v2 : Sl w0 (NX []) C9 v2 p0.un.2.2.2.2) (hG : Gk [] w0) :
    Calls Tryz.prog 25 #[.agg #[.int .i64 p0.un.1, .int .i64 p0.un.2.1.un.1, .int .i64 p0.un.2.1.un.2.1, .int .i64 p0.un.2.1.un.2.2.1, v1, .int .i64 p0.un.2.2.1, .int .i64 p0.un.2.2.2.1, v2]] w0 fun e w' => e = .returned (.string (bs r)) ∧ Below w0.heap.size w0 w' := by
 refine enter Tryz.func25 Aa Tryz.ntmps25 Aa fun a F => ?_
 have W := Stw.start Y w0
 obtain ⟨v3, h1, h_v1⟩ := h_v1.ex CD
 obtain ⟨v4, h2, h_v2⟩ := h_v2.ex ED
 unfold Dy at H
 refine vc tk 2 F W fun a w F W => ?_
 refine CU (cs := (CT p0 v1 v2)) F W Aa Aa Aa fun b1 a w F W => ?_
 refine ls F W Aa (Bj (v := Value.string (bs ([] : List UInt8))) F Aa).q fun a w F W => ?_
 refine FA tk 16 [0] F W (ai fun a w F W => ?_)
 refine BV F Aa (fun hb => ?_) fun hb => ?_
 ·
  have H := B7 (CE hb) H
  rw [hb] at F
  clear hb
  refine Fj tk 4 [0] F W (ai fun a w F W => ?_)
  obtain ⟨x1, h3, H⟩ := Ad H
  refine ls F W Aa (AL (v := Value.string (bs x1)) F Y6 Aa (fun w W => Kv any w (v1) (Tr34.of (p0.un.2.1.un.1, p0.un.2.1.un.2.1, p0.un.2.1.un.2.2.1, p0.un.2.1.un.2.2.2)) _ h3 (Ef (Aq CD h1 (Af h_v1)) W) (hG.go0 W))) fun a w F W => ?_
  refine Ck tk 3 F W fun a w F W => ?_
  refine Ak (AE (Ax ?_))
  have H := AA H
  subst H
  refine Au (.inl Aa) F W Aa (Am F Aa) ?_
  exact ⟨rfl, W.done⟩
 have H := B6 (CG hb) H
 rw [hb] at F
 clear hb
 refine vc tk 6 F W fun a w F W => ?_
 refine BV F Aa (fun hb => ?_) fun hb => ?_
 ·
  have H := B7 (CE hb) H
  rw [hb] at F
  clear hb
  refine FN ?_
  refine Cu W MO (by kernel_rfl) ?_
  refine qs F Aa (Ap II Aa Aa Aa T3 F Aa 5 Aa).q fun a F => ?_
  refine qs F Aa (Bv (v := Value.int .i64 p0.un.2.2.1) 0 F Aa Aa T3 Aa).q fun a F => ?_
  refine qs F Aa (AL (v := Value.string (bs (DY p0.un.2.2.1))) F Zv Aa (fun w W => KT any w p0.un.2.2.1 _ Aa)) fun a F => ?_
  obtain ⟨x2, h4, H⟩ := Ad H
  refine qs F Aa (GV (l := (DY p0.un.2.2.1)) (m := ([32, 58, 61, 32] : List UInt8)) F Aa Aa h4).q fun a F => ?_
  refine qs F Aa (Ap II Aa Aa Aa T3 F Aa 6 Aa).q fun a F => ?_
  refine qs F Aa (Bv (v := Value.int .i64 p0.un.2.2.2.1) 0 F Aa Aa T3 Aa).q fun a F => ?_
  obtain ⟨x3, h5, H⟩ := Ad H
  refine qs F Aa (AL (v := Value.string (bs x3)) F YP Aa (fun w W => Te any w p0.un.2.2.2.1 _ h5 (hG.go0 W))) fun a F => ?_
  obtain ⟨x4, h6, H⟩ := Ad H
  refine qs F Aa (GV (l := x2) (m := x3) F Aa Aa h6).q fun a F => ?_
  refine qs F Aa (Bj F Aa).q fun a F => ?_
  refine AJ fun w W => ?_
  refine Ac (Ak (AE (Ax ?_)))
  have H := AA H
  subst H
  refine Au (.inl Aa) F W Aa (Am F Aa) ?_
  exact ⟨rfl, W.done⟩
 have H := B6 (CG hb) H
 rw [hb] at F
 clear hb
 refine vc tk 6 F W fun a w F W => ?_
 refine BV F Aa (fun hb => ?_) fun hb => ?_
 ·
  have H := B7 (CE hb) H
  rw [hb] at F
  clear hb
  refine Fj tk 4 [0] F W (ai fun a w F W => ?_)
  obtain ⟨x5, h7, H⟩ := Ad H
  refine Bu (Ml := []) (Zl := []) (β := Value) (rv := fun x => x) (MM := fun x => []) (ZZ := fun x => [row x 9 Rp.str x5]) F W XX Aa Aa (fun hL => (FQ fRec ih) _ w (v2) p0.un.2.2.2.2 _ h7 ((Aq ED h2 (Af h_v2)) w W).nx (hG.go0 W)) fun x a w F W => ?_
  obtain ⟨v5, rfl⟩ : ∃ y, y = x := ⟨x, rfl⟩
  have W : Stw ⟨Y, [], w0⟩ (He b1 p0 v1 v2) [row v5 9 Rp.str x5] w := W
  obtain ⟨x6, h8, H⟩ := Ad H
  refine ls F W Aa (AL (v := Value.string (bs x6)) F Xr Aa (fun w W => PR any w (v5) x5 ([59, 32] : List UInt8) _ h8 (Ef (Aj 0 Aa) W))) fun a w F W => ?_
  refine Ck tk 3 F W fun a w F W => ?_
  refine Ak (AE (Ax ?_))
  have H := AA H
  subst H
  refine Au (.inl Aa) F W Aa (Am F Aa) ?_
  exact ⟨rfl, W.done⟩
 have H := B6 (CG hb) H
 rw [hb] at F
 clear hb
 refine vc tk 6 F W fun a w F W => ?_
 refine BV F Aa (fun hb => ?_) fun hb => ?_
 ·
  have H := B7 (CE hb) H
  rw [hb] at F
  clear hb
  refine Fj tk 4 [0] F W (ai fun a w F W => ?_)
  obtain ⟨x7, h9, H⟩ := Ad H
  refine Bu (Ml := []) (Zl := []) (β := Value) (rv := fun x => x) (MM := fun x => []) (ZZ := fun x => [row x 9 Rp.str x7]) F W XX Aa Aa (fun hL => (FQ fRec ih) _ w (v2) p0.un.2.2.2.2 _ h9 ((Aq ED h2 (Af h_v2)) w W).nx (hG.go0 W)) fun x a w F W => ?_
  obtain ⟨v6, rfl⟩ : ∃ y, y = x := ⟨x, rfl⟩
  have W : Stw ⟨Y, [], w0⟩ (He b1 p0 v1 v2) [row v6 9 Rp.str x7] w := W
  obtain ⟨x8, h10, H⟩ := Ad H
  refine ls F W Aa (AL (v := Value.string (bs x8)) F Xr Aa (fun w W => PR any w (v6) x7 ([32, 124, 32] : List UInt8) _ h10 (Ef (Aj 0 Aa) W))) fun a w F W => ?_
  refine Ck tk 3 F W fun a w F W => ?_
  refine Ak (AE (Ax ?_))
  have H := AA H
  subst H
  refine Au (.inl Aa) F W Aa (Am F Aa) ?_
  exact ⟨rfl, W.done⟩
 have H := B6 (CG hb) H
 rw [hb] at F
 clear hb
 refine vc tk 6 F W fun a w F W => ?_
 refine BV F Aa (fun hb => ?_) fun hb => ?_
 ·
  have H := B7 (CE hb) H
  rw [hb] at F
  clear hb
  refine FN ?_
  refine D3 [(true, 0), (true, 1), (true, 5), (true, 6), (false, 2), (true, 3), (true, 4), (false, 7), (false, 8), (true, 9), (false, 10)] (CN ⟨Y, [], w0⟩ [(some 2, b1, [.int .i64 p0.un.1, .int .i64 p0.un.2.1.un.1, .int .i64 p0.un.2.1.un.2.1, .int .i64 p0.un.2.1.un.2.2.1, v1, .int .i64 p0.un.2.2.1, .int .i64 p0.un.2.2.2.1, v2]), (some 7, b1, [.int .i64 p0.un.1, .int .i64 p0.un.2.1.un.1, .int .i64 p0.un.2.1.un.2.1, .int .i64 p0.un.2.1.un.2.2.1, v1, .int .i64 p0.un.2.2.1, .int .i64 p0.un.2.2.2.1, v2])] []) (fun ch a d v w h => by cases d <;> exact h) MO (by kernel_rfl) W (fun w W => ⟨_, _, W, (all_cons (fun _ => (.head _)) (all_cons (fun _ => (.head _)) Ag)), Ag⟩) fun w W => ?_
  refine Bn (R := []) F Aa Aa (yC fun M Z hN hZ => Ap II Aa Aa Aa L6 F Aa 1 Aa) Aa Aa fun a F => ?_
  refine Bn (R := [2]) F Aa Aa (yC fun M Z hN hZ => CC (cs := (CT p0 v1 v2)) (v := Value.agg #[.int .i64 p0.un.2.1.un.1, .int .i64 p0.un.2.1.un.2.1, .int .i64 p0.un.2.1.un.2.2.1, v1]) F Aa (hN ((some 2), b1, (CT p0 v1 v2)) (.head _) Aa) L6 Aa) (by kernel_rfl) Aa fun a F => ?_
  refine Bn (R := []) F Aa Aa (yC fun M Z hN hZ => Ap II Aa Aa Aa Uv F Aa 7 Aa) Aa Aa fun a F => ?_
  refine Bn (R := [7]) F Aa Aa (yC fun M Z hN hZ => CC (cs := (CT p0 v1 v2)) (v := v2) F Aa (hN ((some 7), b1, (CT p0 v1 v2)) (.tail _ (.head _)) Aa) Uv Aa) (by kernel_rfl) Aa fun a F => ?_
  refine Dn Aa ?_
  obtain ⟨x9, h11, H⟩ := Ad H
  refine ls F W Aa (AL (v := Value.string (bs x9)) F XY Aa (fun w W => MQ any w (v1) (Tr34.of (p0.un.2.1.un.1, p0.un.2.1.un.2.1, p0.un.2.1.un.2.2.1, p0.un.2.1.un.2.2.2)) _ h11 (Ef (Aq CD h1 (Af h_v1)) W) (hG.go0 W))) fun a w F W => ?_
  refine Bk (N2 := []) (NZ2 := []) (N3 := [(some 2, b1, [.int .i64 p0.un.1, .int .i64 p0.un.2.1.un.1, .int .i64 p0.un.2.1.un.2.1, .int .i64 p0.un.2.1.un.2.2.1, v1, .int .i64 p0.un.2.2.1, .int .i64 p0.un.2.2.2.1, v2]), (some 7, b1, [.int .i64 p0.un.1, .int .i64 p0.un.2.1.un.1, .int .i64 p0.un.2.1.un.2.1, .int .i64 p0.un.2.1.un.2.2.1, v1, .int .i64 p0.un.2.2.1, .int .i64 p0.un.2.2.2.1, v2])]) (NZ3 := []) W Aa Aa (all_cons (fun h => Ai (by kernel_rfl) h) (all_cons (fun _ => (.head _)) Ag)) Ag ?_
  obtain ⟨x10, h12, H⟩ := Ad H
  refine Bn (R := []) F Aa Aa (yC fun M Z hN hZ => GV (l := ([105, 102, 32] : List UInt8)) (m := x9) F Aa Aa h12) Aa Aa fun a F => ?_
  obtain ⟨x11, h13, H⟩ := Ad H
  refine Bn (R := []) F Aa Aa (yC fun M Z hN hZ => GV (l := x10) (m := ([32, 116, 104, 101, 110, 32] : List UInt8)) F Aa Aa h13) Aa Aa fun a F => ?_
  refine Dn Aa ?_
  obtain ⟨x12, h14, H⟩ := Ad H
  refine Bu (Ml := []) (Zl := []) (β := Value) (rv := fun x => x) (MM := fun x => []) (ZZ := fun x => [row x 9 Rp.str x12]) F W XX Aa Aa (fun hL => (FQ fRec ih) _ w (v2) p0.un.2.2.2.2 _ h14 ((Aq ED h2 (Af h_v2)) w W).nx (hG.go0 W)) fun x a w F W => ?_
  obtain ⟨v7, rfl⟩ : ∃ y, y = x := ⟨x, rfl⟩
  have W : Stw ⟨Y, [], w0⟩ (He b1 p0 v1 v2) [row v7 9 Rp.str x12] w := W
  refine Bk (N2 := []) (NZ2 := []) (N3 := [(some 2, b1, [.int .i64 p0.un.1, .int .i64 p0.un.2.1.un.1, .int .i64 p0.un.2.1.un.2.1, .int .i64 p0.un.2.1.un.2.2.1, v1, .int .i64 p0.un.2.2.1, .int .i64 p0.un.2.2.2.1, v2]), (some 7, b1, [.int .i64 p0.un.1, .int .i64 p0.un.2.1.un.1, .int .i64 p0.un.2.1.un.2.1, .int .i64 p0.un.2.1.un.2.2.1, v1, .int .i64 p0.un.2.2.1, .int .i64 p0.un.2.2.2.1, v2])]) (NZ3 := []) W Aa Aa (all_cons (fun h => Ai (by kernel_rfl) h) (all_cons (fun h => Ai (by kernel_rfl) h) Ag)) Ag ?_
  refine Dn Aa ?_
  obtain ⟨x13, h15, H⟩ := Ad H
  refine ls F W Aa (AL (v := Value.string (bs x13)) F Xr Aa (fun w W => PR any w (v7) x12 ([32, 101, 108, 115, 101, 32] : List UInt8) _ h15 (Ef (Aj 0 Aa) W))) fun a w F W => ?_
  refine Bk (N2 := []) (NZ2 := []) (N3 := [(some 2, b1, [.int .i64 p0.un.1, .int .i64 p0.un.2.1.un.1, .int .i64 p0.un.2.1.un.2.1, .int .i64 p0.un.2.1.un.2.2.1, v1, .int .i64 p0.un.2.2.1, .int .i64 p0.un.2.2.2.1, v2]), (some 7, b1, [.int .i64 p0.un.1, .int .i64 p0.un.2.1.un.1, .int .i64 p0.un.2.1.un.2.1, .int .i64 p0.un.2.1.un.2.2.1, v1, .int .i64 p0.un.2.2.1, .int .i64 p0.un.2.2.2.1, v2])]) (NZ3 := []) W Aa Aa (all_cons (fun h => Ai (by kernel_rfl) h) (all_cons (fun h => Ai (by kernel_rfl) h) Ag)) Ag ?_
  obtain ⟨x14, h16, H⟩ := Ad H
  refine Bn (R := []) F Aa Aa (yC fun M Z hN hZ => GV (l := x11) (m := x13) F Aa Aa h16) Aa Aa fun a F => ?_
  refine Dn Aa ?_
  refine ls F W Aa (Bj F Aa).q fun a w F W => ?_
  refine Bk (N2 := []) (NZ2 := []) (N3 := [(some 2, b1, [.int .i64 p0.un.1, .int .i64 p0.un.2.1.un.1, .int .i64 p0.un.2.1.un.2.1, .int .i64 p0.un.2.1.un.2.2.1, v1, .int .i64 p0.un.2.2.1, .int .i64 p0.un.2.2.2.1, v2]), (some 7, b1, [.int .i64 p0.un.1, .int .i64 p0.un.2.1.un.1, .int .i64 p0.un.2.1.un.2.1, .int .i64 p0.un.2.1.un.2.2.1, v1, .int .i64 p0.un.2.2.1, .int .i64 p0.un.2.2.2.1, v2])]) (NZ3 := []) W Aa Aa (all_cons (fun h => Ai (by kernel_rfl) h) (all_cons (fun h => Ai (by kernel_rfl) h) Ag)) Ag ?_
  refine Ft (Ac (Ak (AE (Ax ?_))))
  have H := AA H
  subst H
  refine Au (.inl Aa) F W Aa (Am F Aa) ?_
  exact ⟨rfl, W.done⟩
 have H := B6 (CG hb) H
 rw [hb] at F
 clear hb
 refine AW (AG ?_)
 refine vn tk 2 F W fun a w F W => ?_
 refine ls F W Aa (Bj (v := Value.string (bs ([63] : List UInt8))) F Aa).q fun a w F W => ?_
 refine Ck tk 2 F W fun a w F W => ?_
 refine Ak ?_
 have H := AA H
 subst H
 refine Au (.inl Aa) F W Aa (Am F Aa) ?_
 exact ⟨rfl, W.done⟩
theorem OB : ∀ (n : Nat) (Y : Nat → Prop) (w0 : World) (v1 : Value) (v2 : Value) (p0 : Tr37) (r : List UInt8) (H : DT n p0 = some r) (h_v1 : Sl w0 (NX []) CA v1 p0.un.2.1.un.2.2.2) (h_v2 : Sl w0 (NX []) C9 v2 p0.un.2.2.2.2) (hG : Gk [] w0), Calls Tryz.prog 25 #[.agg #[.int .i64 p0.un.1, .int .i64 p0.un.2.1.un.1, .int .i64 p0.un.2.1.un.2.1, .int .i64 p0.un.2.1.un.2.2.1, v1, .int .i64 p0.un.2.2.1, .int .i64 p0.un.2.2.2.1, v2]] w0 fun e w' => e = .returned (.string (bs r)) ∧ Below w0.heap.size w0 w' := by
  intro n
  induction n with
  | zero => intro Y w0 v1 v2 p0 r H; exact nomatch H
  | succ n ih => intro Y w0 v1 v2 p0 r H h_v1 h_v2 hG; exact MW (DT n) ih Y w0 v1 v2 p0 r H h_v1 h_v2 hG
theorem OZ (Y : Nat → Prop) (w0 : World) (v1 : Value) (v2 : Value) (p0 : Tr37) (r : List UInt8) (H : Hh p0 = some r) (h_v1 : Sl w0 (NX []) CA v1 p0.un.2.1.un.2.2.2) (h_v2 : Sl w0 (NX []) C9 v2 p0.un.2.2.2.2) (hG : Gk [] w0) :
    Calls Tryz.prog 25 #[.agg #[.int .i64 p0.un.1, .int .i64 p0.un.2.1.un.1, .int .i64 p0.un.2.1.un.2.1, .int .i64 p0.un.2.1.un.2.2.1, v1, .int .i64 p0.un.2.2.1, .int .i64 p0.un.2.2.2.1, v2]] w0 fun e w' => e = .returned (.string (bs r)) ∧ Below w0.heap.size w0 w' := by
  obtain ⟨n, H⟩ := CO H
  exact OB n Y w0 v1 v2 p0 r H h_v1 h_v2 hG
theorem UN : type_of% Tryz.underlying65 := Tryz.underlying65
theorem Zu : Bt Tryz.prog 65 [.int .i64 0] [(0, 1)] := ⟨⟨.agg #[.int .i64 0], by kernel_rfl, rfl⟩, ⟨_, UN, fun w => by kernel_rfl⟩⟩
theorem Zh : (Tryz.prog.info? 65).bind (·.zero) = some (.agg #[.int .i64 0]) := by kernel_rfl
theorem Y7 : Ty Tryz.prog 65 true 1 := ⟨by kernel_rfl, by kernel_rfl⟩
theorem Xq : Bt Tryz.prog 34 [.int .i64 0, .int .i64 0, .int .i64 0, .slice none 0 0] [(0, 1), (1, 1), (2, 1), (3, 1)] := ⟨⟨.agg #[.int .i64 0, .int .i64 0, .int .i64 0, .slice none 0 0], by kernel_rfl, rfl⟩, ⟨_, Kx, fun w => by kernel_rfl⟩⟩
theorem Yu : Has Tryz.prog 36 := CF Tryz.func36
noncomputable def AB (fRec_pred_Same : Tr34 → Tr34 → Option Bool) (p0 : List Tr34) (p1 : List Tr34) : Int → Option (Int ⊕ (Unit ⊕ Bool))
  | x1 => (if x1 < (p0.length : Int) then (ix p0 x1).bind fun x2 => (ix p1 x1).bind fun x3 => (fRec_pred_Same x2 x3).bind fun x4 => (if (!x4) = true then some (.inr (.inr false)) else some (.inl (AO (x1 + 1)))) else some (.inr (.inl ())))
noncomputable def Aw (fRec_pred_Same : Tr34 → Tr34 → Option Bool) (p0 : List Tr34) (p1 : List Tr34) : Option Bool := (if (p0.length : Int) ≠ (p1.length : Int) then some false else Kq (AY (AB fRec_pred_Same p0 p1) 0) fun _ => some true)
theorem Dq (fRec_pred_Same : Tr34 → Tr34 → Option Bool) (ih_pred_Same : ∀ (Y : Nat → Prop) (w0 : World) (v1 : Value) (v2 : Value) (p0 : Tr34) (p1 : Tr34) (r : Bool) (H : fRec_pred_Same p0 p1 = some r) (h_v1 : Sl w0 (NX []) CA v1 p0.un.2.2.2) (h_v2 : Sl w0 (NX []) CA v2 p1.un.2.2.2), Calls Tryz.prog 36 #[.agg #[.int .i64 p0.un.1, .int .i64 p0.un.2.1, .int .i64 p0.un.2.2.1, v1], .agg #[.int .i64 p1.un.1, .int .i64 p1.un.2.1, .int .i64 p1.un.2.2.1, v2]] w0 fun e w' => e = .returned (.bool r) ∧ Below w0.heap.size w0 w') (Y : Nat → Prop) (w0 : World) (v1 : Value) (v2 : Value) (p0 : List Tr34) (p1 : List Tr34) (r : Bool) (H : Aw fRec_pred_Same p0 p1 = some r) (h_v1 : Sl w0 (NX []) CA v1 p0) (h_v2 : Sl w0 (NX []) CA v2 p1) :
    Calls Tryz.prog 67 #[v1, v2, .func (.func 36) #[] #[]] w0 fun e w' => e = .returned (.bool r) ∧ Below w0.heap.size w0 w' := by
 refine enter Tryz.func67 Aa Tryz.ntmps67 Aa fun a F => ?_
 have W := Stw.start Y w0
 obtain ⟨v3, h1, h_v1⟩ := h_v1.ex CD
 obtain ⟨v4, h2, h_v2⟩ := h_v2.ex CD
 unfold Aw at H
 refine vc tk 9 F W fun a w F W => ?_
 refine ls F W Aa (CP (r := CA) (l := p0) Kw Aa F Aa (Aq CD h1 (Af h_v1))).q fun a w F W => ?_
 refine ls F W Aa (An F Aa).q fun a w F W => ?_
 refine ls F W Aa (CP (r := CA) (l := p1) Kw Aa F Aa (Aq CD h2 (Af h_v2))).q fun a w F W => ?_
 refine Ck tk 3 F W fun a w F W => ?_
 refine BI F Aa H (fun F H => ?_) fun F H => ?_
 ·
  refine vc tk 5 F W fun a w F W => ?_
  refine Ak (Ax ?_)
  have H := AA H
  subst H
  refine Au (.inl Aa) F W Aa (Am F Aa) ?_
  exact ⟨rfl, W.done⟩
 refine AW (Ac ?_)
 obtain ⟨o1, G1, K1, L1⟩ := QO H
 refine Ay (fun a w => some (Sum.inl ()) = some o1 ∧ Fr 32 [] [(6, .bool false)] a ∧ Stw ⟨Y, [], w0⟩ [] [] w) ?_ ?_
 ·
  have H := G1
  clear G1 K1
  refine vc tk 3 F W fun a w F W => ?_
  refine ls F W Aa (CP (r := CA) (l := p0) Kw Aa F Aa (Aq CD h1 (Af h_v1))).q fun a w F W => ?_
  refine Ck tk 4 F W fun a w F W => ?_
  refine BE H (fun s a w => Fr 32 [] [(1, v2), (2, .func (.func 36) #[] #[]), (6, .bool false), (15, v1), (16, .int .i64 (p0.length : Int)), (17, .int .i64 s)] a ∧ Stw ⟨Y, [], w0⟩ [] [] w) ⟨F.ra Aa, W⟩ fun s o a w H L2 hR => ?_
  obtain ⟨x1, rfl⟩ : ∃ x, x = s := ⟨s, rfl⟩
  obtain ⟨F, W⟩ := hR
  have F : Fr 32 [] [(1, v2), (2, .func (.func 36) #[] #[]), (6, .bool false), (15, v1), (16, .int .i64 (p0.length : Int)), (17, .int .i64 x1)] a := F
  have W : Stw ⟨Y, [], w0⟩ [] [] w := W
  rw [AB] at H
  refine vc tk 6 F W fun a w F W => ?_
  refine BI F Aa H (fun F H => ?_) fun F H => ?_
  ·
   refine FJ tk 7 F W fun a w F W => ?_
   obtain ⟨x2, h3, H⟩ := Ad H
   obtain ⟨v5, h4, h5⟩ := DH h1 h3
   have h6 : Je v5 = [.int .i64 x2.un.1, .int .i64 x2.un.2.1, .int .i64 x2.un.2.2.1, (v5.2.2.2.1)] := congrArg (fun q : Tr34 => ([.int .i64 q.un.1, .int .i64 q.un.2.1, .int .i64 q.un.2.2.1, (v5.2.2.2.1)] : List Value)) h5
   refine ls F W Aa (Av (r := JB) Tg F Aa Aa (Af h_v1) h4).q fun a w F W => ?_
   refine ls F W Aa (Al (y := Value.agg #[.int .i64 x2.un.1, .int .i64 x2.un.2.1, .int .i64 x2.un.2.2.1, (v5.2.2.2.1)]) (j := 0) (i := x1) (enc := Je) F Aa Aa (Af h_v1) h4 Pr L6 (by rw [h6]; rfl)).q fun a w F W => ?_
   refine B8 (cs := (LJ)) F W Aa U5 Aa fun b1 a w F W => ?_
   refine ls F W Aa (Bj F Aa).q fun a w F W => ?_
   refine D2 0 F W Aa Aa Aa L6 Aa Aa (Ae Aa (Ae Aa (Ae Aa (Ae ((BD (Af h_v1) h4 (Ah.snd (Ah.snd (Ah.snd Ah.here))) (congrArg (fun q : Tr34 => q.un.2.2.2) h5)) _ W).one Da)))) fun w W => ?_
   refine Ck tk 3 F W fun a w F W => ?_
   obtain ⟨v6, h7, h8⟩ := Sl.ex CD (Sl.at_ h_v1 h4 (Ah.snd (Ah.snd (Ah.snd Ah.here))) (congrArg (fun q : Tr34 => q.un.2.2.2) h5))
   refine vc tk 3 F W fun a w F W => ?_
   obtain ⟨x3, h9, H⟩ := Ad H
   obtain ⟨v7, h10, h11⟩ := DH h2 h9
   have h12 : Je v7 = [.int .i64 x3.un.1, .int .i64 x3.un.2.1, .int .i64 x3.un.2.2.1, (v7.2.2.2.1)] := congrArg (fun q : Tr34 => ([.int .i64 q.un.1, .int .i64 q.un.2.1, .int .i64 q.un.2.2.1, (v7.2.2.2.1)] : List Value)) h11
   refine ls F W Aa (Av (r := JB) Tg F Aa Aa (Af h_v2) h10).q fun a w F W => ?_
   refine ls F W Aa (Al (y := Value.agg #[.int .i64 x3.un.1, .int .i64 x3.un.2.1, .int .i64 x3.un.2.2.1, (v7.2.2.2.1)]) (j := 0) (i := x1) (enc := Je) F Aa Aa (Af h_v2) h10 Pr L6 (by rw [h12]; rfl)).q fun a w F W => ?_
   refine B8 (cs := (LJ)) F W Aa U5 Aa fun b2 a w F W => ?_
   refine D2 0 F W Aa Aa Aa L6 Aa Aa (Ae Aa (Ae Aa (Ae Aa (Ae ((BD (Af h_v2) h10 (Ah.snd (Ah.snd (Ah.snd Ah.here))) (congrArg (fun q : Tr34 => q.un.2.2.2) h11)) _ W).one Da)))) fun w W => ?_
   refine FA tk 7 [1, 0] F W (ai (ai fun a w F W => ?_))
   obtain ⟨x4, h13, H⟩ := Ad H
   refine ls F W Aa (Es (ws := [.agg #[.int .i64 x2.un.1, .int .i64 x2.un.2.1, .int .i64 x2.un.2.2.1, (v5.2.2.2.1)], .agg #[.int .i64 x3.un.1, .int .i64 x3.un.2.1, .int .i64 x3.un.2.2.1, (v7.2.2.2.1)]]) (v := Value.bool x4) F Yu Aa (fun w W => ih_pred_Same any w ((v5.2.2.2.1)) ((v7.2.2.2.1)) x2 x3 _ h13 (Ef (Aq CD h7 (Af h8)) W) (Ef (BD (Af h_v2) h10 (Ah.snd (Ah.snd (Ah.snd Ah.here))) (congrArg (fun q : Tr34 => q.un.2.2.2) h11)) W))) fun a w F W => ?_
   refine Ck tk 3 F W fun a w F W => ?_
   refine Cv F Aa H (fun F H => ?_) fun F H => ?_
   ·
    refine vc tk 5 F W fun a w F W => ?_
    refine Ak (AE ?_)
    iterate 2 refine Ax ?_
    refine AE (Ax ?_)
    have H := L2 _ H
    have H := L1 _ H
    have H := AA H
    subst H
    refine Au (.inl Aa) F W Aa (Am F Aa) ?_
    exact ⟨rfl, W.done⟩
   refine AW (AG ?_)
   refine vn tk 4 F W fun a w F W => ?_
   refine Ac ?_
   have W := W.sub (M' := []) (Z' := []) (List.nil_sublist _) (List.Sublist.refl _)
   exact ⟨_, H, F.ra Aa, W⟩
  refine Br ?_
  iterate 2 refine BK ?_
  refine Bo (Ac ?_)
  have H := L2 _ H
  exact ⟨H, F.ra Aa, W⟩
 rintro a w ⟨hj, F, W⟩
 have H := K1 _ hj
 clear hj G1 K1 L1
 refine vc tk 5 F W fun a w F W => ?_
 refine Ak ?_
 have H := AA H
 subst H
 refine Au (.inl Aa) F W Aa (Am F Aa) ?_
 exact ⟨rfl, W.done⟩
theorem Zs : Has Tryz.prog 67 := CF Tryz.func67
noncomputable def Em (fRec : Tr34 → Tr34 → Option Bool) (p0 : Tr34) (p1 : Tr34) : Option Bool := (if p0.un.1 = p1.un.1 then (if p0.un.2.1 = p1.un.2.1 then (if p0.un.2.2.1 = p1.un.2.2.1 then ((Aw fRec) p0.un.2.2.2 p1.un.2.2.2).bind fun x2 => some x2 else some false) else some false) else some false).bind fun x1 => some x1
noncomputable def EV : Nat → Tr34 → Tr34 → Option Bool
  | 0 => fun _ _ => none
  | n + 1 => Em (EV n)
noncomputable def Ms (p0 : Tr34) (p1 : Tr34) : Option Bool := GI fun n => EV n p0 p1
theorem O0 (fRec : Tr34 → Tr34 → Option Bool) (ih : ∀ (Y : Nat → Prop) (w0 : World) (v1 : Value) (v2 : Value) (p0 : Tr34) (p1 : Tr34) (r : Bool) (H : fRec p0 p1 = some r) (h_v1 : Sl w0 (NX []) CA v1 p0.un.2.2.2) (h_v2 : Sl w0 (NX []) CA v2 p1.un.2.2.2), Calls Tryz.prog 36 #[.agg #[.int .i64 p0.un.1, .int .i64 p0.un.2.1, .int .i64 p0.un.2.2.1, v1], .agg #[.int .i64 p1.un.1, .int .i64 p1.un.2.1, .int .i64 p1.un.2.2.1, v2]] w0 fun e w' => e = .returned (.bool r) ∧ Below w0.heap.size w0 w') (Y : Nat → Prop) (w0 : World) (v1 : Value) (v2 : Value) (p0 : Tr34) (p1 : Tr34) (r : Bool) (H : Em fRec p0 p1 = some r) (h_v1 : Sl w0 (NX []) CA v1 p0.un.2.2.2) (h_v2 : Sl w0 (NX []) CA v2 p1.un.2.2.2) :
    Calls Tryz.prog 36 #[.agg #[.int .i64 p0.un.1, .int .i64 p0.un.2.1, .int .i64 p0.un.2.2.1, v1], .agg #[.int .i64 p1.un.1, .int .i64 p1.un.2.1, .int .i64 p1.un.2.2.1, v2]] w0 fun e w' => e = .returned (.bool r) ∧ Below w0.heap.size w0 w' := by
 refine enter Tryz.func36 Aa Tryz.ntmps36 Aa fun a F => ?_
 have W := Stw.start Y w0
 obtain ⟨v3, h1, h_v1⟩ := h_v1.ex CD
 obtain ⟨v4, h2, h_v2⟩ := h_v2.ex CD
 unfold Em at H
 refine vc tk 2 F W fun a w F W => ?_
 refine CU (cs := (Iy p0 v1)) F W Aa Aa Aa fun b1 a w F W => ?_
 refine CU (cs := (Iy p1 v2)) F W Aa Aa Aa fun b2 a w F W => ?_
 refine vl tk 2 F W fun a w F W => ?_
 refine Ac ?_
 obtain ⟨o1, G1, K1⟩ := Ad H
 refine Ay (fun a w => ∃ x1 : Bool, some (x1) = some o1 ∧ Fr 31 [] [(4, .bool x1)] a ∧ Stw ⟨Y, [], w0⟩ [(b2, [.int .i64 p1.un.1, .int .i64 p1.un.2.1, .int .i64 p1.un.2.2.1, v2]), (b1, [.int .i64 p0.un.1, .int .i64 p0.un.2.1, .int .i64 p0.un.2.2.1, v1])] [] w) ?_ ?_
 ·
  have H := G1
  clear G1 K1
  refine Fj tk 7 [1, 0] F W (ai (ai fun a w F W => ?_))
  rcases Bool.eq_false_or_eq_true (decide (p0.un.1 = p1.un.1)) with hb | hb
  ·
   have H := B7 (CE hb) H
   rw [hb] at F
   clear hb
   refine GH tk 7 [1, 0] F W (ai (ai fun a w F W => ?_))
   rcases Bool.eq_false_or_eq_true (decide (p0.un.2.1 = p1.un.2.1)) with hb | hb
   ·
    have H := B7 (CE hb) H
    rw [hb] at F
    clear hb
    refine GH tk 7 [1, 0] F W (ai (ai fun a w F W => ?_))
    rcases Bool.eq_false_or_eq_true (decide (p0.un.2.2.1 = p1.un.2.2.1)) with hb | hb
    ·
     have H := B7 (CE hb) H
     rw [hb] at F
     clear hb
     refine GH tk 4 [1, 0] F W (ai (ai fun a w F W => ?_))
     refine HJ (Ab F Aa Aa Aa Aa) ?_
     obtain ⟨x2, h3, H⟩ := Ad H
     refine ls F W Aa (AL (v := Value.bool x2) F Zs Aa (fun w W => (Dq fRec ih) any w (v1) (v2) p0.un.2.2.2 p1.un.2.2.2 _ h3 (Ef (Aq CD h1 (Af h_v1)) W) (Ef (Aq CD h2 (Af h_v2)) W))) fun a w F W => ?_
     refine vl tk 3 F W fun a w F W => ?_
     refine Ac ?_
     have W := W.frontM (i := 1) Aa Aa
     have W := W.frontM (i := 1) Aa Aa
     exact ⟨_, H, F.ra Aa, W⟩
    have H := B6 (CG hb) H
    rw [hb] at F
    clear hb
    refine vl tk 8 F W fun a w F W => ?_
    refine Ac ?_
    have W := W.frontM (i := 1) Aa Aa
    have W := W.frontM (i := 1) Aa Aa
    exact ⟨_, H, F.ra Aa, W⟩
   have H := B6 (CG hb) H
   rw [hb] at F
   clear hb
   refine vl tk 15 F W fun a w F W => ?_
   refine Ac ?_
   have W := W.frontM (i := 1) Aa Aa
   have W := W.frontM (i := 1) Aa Aa
   exact ⟨_, H, F.ra Aa, W⟩
  have H := B6 (CG hb) H
  rw [hb] at F
  clear hb
  refine vl tk 22 F W fun a w F W => ?_
  refine Ac ?_
  have W := W.frontM (i := 1) Aa Aa
  have W := W.frontM (i := 1) Aa Aa
  exact ⟨_, H, F.ra Aa, W⟩
 rintro a w ⟨x1, hj, F, W⟩
 have hj := AA hj
 subst hj
 have H := K1
 clear G1 K1
 refine Ak ?_
 have H := AA H
 subst H
 refine Au (.inl Aa) F W Aa (Am F Aa) ?_
 exact ⟨rfl, W.done⟩
theorem Pp : ∀ (n : Nat) (Y : Nat → Prop) (w0 : World) (v1 : Value) (v2 : Value) (p0 : Tr34) (p1 : Tr34) (r : Bool) (H : EV n p0 p1 = some r) (h_v1 : Sl w0 (NX []) CA v1 p0.un.2.2.2) (h_v2 : Sl w0 (NX []) CA v2 p1.un.2.2.2), Calls Tryz.prog 36 #[.agg #[.int .i64 p0.un.1, .int .i64 p0.un.2.1, .int .i64 p0.un.2.2.1, v1], .agg #[.int .i64 p1.un.1, .int .i64 p1.un.2.1, .int .i64 p1.un.2.2.1, v2]] w0 fun e w' => e = .returned (.bool r) ∧ Below w0.heap.size w0 w' := by
  intro n
  induction n with
  | zero => intro Y w0 v1 v2 p0 p1 r H; exact nomatch H
  | succ n ih => intro Y w0 v1 v2 p0 p1 r H h_v1 h_v2; exact O0 (EV n) ih Y w0 v1 v2 p0 p1 r H h_v1 h_v2
theorem Q6 (Y : Nat → Prop) (w0 : World) (v1 : Value) (v2 : Value) (p0 : Tr34) (p1 : Tr34) (r : Bool) (H : Ms p0 p1 = some r) (h_v1 : Sl w0 (NX []) CA v1 p0.un.2.2.2) (h_v2 : Sl w0 (NX []) CA v2 p1.un.2.2.2) :
    Calls Tryz.prog 36 #[.agg #[.int .i64 p0.un.1, .int .i64 p0.un.2.1, .int .i64 p0.un.2.2.1, v1], .agg #[.int .i64 p1.un.1, .int .i64 p1.un.2.1, .int .i64 p1.un.2.2.1, v2]] w0 fun e w' => e = .returned (.bool r) ∧ Below w0.heap.size w0 w' := by
  obtain ⟨n, H⟩ := CO H
  exact Pp n Y w0 v1 v2 p0 p1 r H h_v1 h_v2
noncomputable def Fp (p0 : Tr34) : Option Bool := (Ms p0 (Tr34.of (0, 0, 0, ([] : List Tr34)))).bind fun x1 => some x1
theorem Jn (Y : Nat → Prop) (w0 : World) (v1 : Value) (p0 : Tr34) (r : Bool) (H : Fp p0 = some r) (h_v1 : Sl w0 (NX []) CA v1 p0.un.2.2.2) :
    Calls Tryz.prog 88 #[.agg #[.int .i64 p0.un.1, .int .i64 p0.un.2.1, .int .i64 p0.un.2.2.1, v1]] w0 fun e w' => e = .returned (.bool r) ∧ Below w0.heap.size w0 w' := by
 refine enter Tryz.func88 Aa Tryz.ntmps88 Aa fun a F => ?_
 have W := Stw.start Y w0
 obtain ⟨v2, h1, h_v1⟩ := h_v1.ex CD
 unfold Fp at H
 refine vc tk 2 F W fun a w F W => ?_
 refine CU (cs := (Iy p0 v1)) F W Aa Aa Aa fun b1 a w F W => ?_
 refine FA tk 6 [0] F W (ai fun a w F W => ?_)
 refine ls F W Aa (Cz (v := Value.agg #[.int .i64 0, .int .i64 0, .int .i64 0, .slice none 0 0]) Xq F Aa Aa Aa).q fun a w F W => ?_
 obtain ⟨x1, h2, H⟩ := Ad H
 refine ls F W Aa (AL (v := Value.bool x1) F Yu Aa (fun w W => Q6 any w (v1) (Value.slice none 0 0) p0 (Tr34.of (0, 0, 0, ([] : List Tr34))) _ h2 (Ef (Aq CD h1 (Af h_v1)) W) Sl.nil)) fun a w F W => ?_
 refine Ck tk 3 F W fun a w F W => ?_
 refine Ak ?_
 have H := AA H
 subst H
 refine Au (.inl Aa) F W Aa (Am F Aa) ?_
 exact ⟨rfl, W.done⟩
theorem YO : Has Tryz.prog 88 := CF Tryz.func88
noncomputable def I4 (p0 : Int) : Option Int := (if (decide (p0 = 4) || decide (p0 = 5)) = true then some 7 else (D5 p0).bind fun x1 => some x1)
theorem Nn (Y : Nat → Prop) (w0 : World)  (p0 : Int) (r : Int) (H : I4 p0 = some r)  :
    Calls Tryz.prog 89 #[.int .i64 p0] w0 fun e w' => e = .returned (.int .i64 r) ∧ Below w0.heap.size w0 w' := by
 refine enter Tryz.func89 Aa Tryz.ntmps89 Aa fun a F => ?_
 have W := Stw.start Y w0
 unfold I4 at H
 refine vc tk 6 F W fun a w F W => ?_
 refine Ay (fun a w => Fr 11 [] [(0, .int .i64 p0), (2, .int .i64 0), (8, .bool (decide (p0 = 4) || decide (p0 = 5)))] a ∧ Stw ⟨Y, [], w0⟩ [] [] w) ?_ ?_
 ·
  refine vc tk 4 F W fun a w F W => ?_
  rcases Bool.eq_false_or_eq_true (decide (p0 = 4)) with hb0 | hb0
  ·
   rw [hb0] at F
   refine vl tk 4 F W fun a w F W => ?_
   refine Ac ?_
   exact ⟨F.re ⟨rfl, Aa, (DE (by try rw [hb0]; all_goals simp only [DF])), trivial⟩, W⟩
  rw [hb0] at F
  refine vl tk 4 F W fun a w F W => ?_
  refine Ac ?_
  exact ⟨F.re ⟨rfl, Aa, (DE (by try rw [hb0]; all_goals simp only [DF])), trivial⟩, W⟩
 rintro a w ⟨F, W⟩
 refine Cv F Aa H (fun F H => ?_) fun F H => ?_
 ·
  refine vc tk 5 F W fun a w F W => ?_
  refine Ak (Ax ?_)
  have H := AA H
  subst H
  refine Au (.inl Aa) F W Aa (Am F Aa) ?_
  exact ⟨rfl, W.done⟩
 refine FJ tk 5 F W fun a w F W => ?_
 obtain ⟨x1, h1, H⟩ := Ad H
 refine ls F W Aa (AL (v := Value.int .i64 x1) F WD Aa (fun w W => Lk any w p0 _ h1)) fun a w F W => ?_
 refine Ck tk 3 F W fun a w F W => ?_
 refine Ak ?_
 have H := AA H
 subst H
 refine Au (.inl Aa) F W Aa (Am F Aa) ?_
 exact ⟨rfl, W.done⟩
theorem YX : Has Tryz.prog 89 := CF Tryz.func89
noncomputable def Hj (p0 : Tr37) : Option Bool := (if p0.un.1 = 2 then ((Fp (Tr34.of (p0.un.2.1.un.1, p0.un.2.1.un.2.1, p0.un.2.1.un.2.2.1, p0.un.2.1.un.2.2.2))).bind fun x2 => (if x2 = true then (if (p0.un.2.2.2.2.length : Int) = 0 then (if 0 ≤ p0.un.2.2.1 then (if p0.un.2.2.1 ≤ 4 then (if 0 ≤ p0.un.2.2.2.1 then (I4 p0.un.2.2.1).bind fun x3 => some (decide (p0.un.2.2.2.1 ≤ x3)) else some false) else some false) else some false) else some false) else some false)).bind fun x1 => some x1 else (if (decide (p0.un.2.2.1 ≠ 0) || decide (p0.un.2.2.2.1 ≠ 0)) = true then some false else (if p0.un.1 = 1 then some (decide ((p0.un.2.2.2.2.length : Int) = 0)) else (if p0.un.1 = 3 then some true else some (decide (p0.un.1 = 4))).bind fun x4 => (if x4 = true then ((Fp (Tr34.of (p0.un.2.1.un.1, p0.un.2.1.un.2.1, p0.un.2.1.un.2.2.1, p0.un.2.1.un.2.2.2))).bind fun x6 => (if x6 = true then (if 2 ≤ (p0.un.2.2.2.2.length : Int) then some (decide ((p0.un.2.2.2.2.length : Int) ≤ 8)) else some false) else some false)).bind fun x5 => some x5 else (if p0.un.1 = 5 then some (decide ((p0.un.2.2.2.2.length : Int) = 2)) else some false)))))
theorem OM (Y : Nat → Prop) (w0 : World) (v1 : Value) (v2 : Value) (p0 : Tr37) (r : Bool) (H : Hj p0 = some r) (h_v1 : Sl w0 (NX []) CA v1 p0.un.2.1.un.2.2.2) (h_v2 : Sl w0 (NX []) C9 v2 p0.un.2.2.2.2) :
    Calls Tryz.prog 65 #[.agg #[.int .i64 p0.un.1, .int .i64 p0.un.2.1.un.1, .int .i64 p0.un.2.1.un.2.1, .int .i64 p0.un.2.1.un.2.2.1, v1, .int .i64 p0.un.2.2.1, .int .i64 p0.un.2.2.2.1, v2]] w0 fun e w' => e = .returned (.bool r) ∧ Below w0.heap.size w0 w' := by
 refine enter Tryz.func65 Aa Tryz.ntmps65 Aa fun a F => ?_
 have W := Stw.start Y w0
 obtain ⟨v3, h1, h_v1⟩ := h_v1.ex CD
 obtain ⟨v4, h2, h_v2⟩ := h_v2.ex ED
 unfold Hj at H
 refine vc tk 2 F W fun a w F W => ?_
 refine CU (cs := (CT p0 v1 v2)) F W Aa Aa Aa fun b1 a w F W => ?_
 refine FA tk 11 [0] F W (ai fun a w F W => ?_)
 refine BI F Aa H (fun F H => ?_) fun F H => ?_
 ·
  obtain ⟨o1, G1, K1⟩ := Ad H
  refine Ay (fun a w => ∃ x1 : Bool, some (x1) = some o1 ∧ Fr 78 [] [(1, .pointer (some ⟨b1, 0, none⟩)), (2, .bool x1)] a ∧ Stw ⟨Y, [], w0⟩ (He b1 p0 v1 v2) [] w) ?_ ?_
  ·
   have H := G1
   clear G1 K1
   refine Cu W MO (by kernel_rfl) ?_
   refine qs F Aa (Ap II Aa Aa Aa L6 F Aa 1 Aa).q fun a F => ?_
   refine qs F Aa (Bv (v := Value.agg #[.int .i64 p0.un.2.1.un.1, .int .i64 p0.un.2.1.un.2.1, .int .i64 p0.un.2.1.un.2.2.1, v1]) 0 F Aa Aa L6 Aa).q fun a F => ?_
   obtain ⟨x2, h3, H⟩ := Ad H
   refine qs F Aa (AL (v := Value.bool x2) F YO Aa (fun w W => Jn any w (v1) (Tr34.of (p0.un.2.1.un.1, p0.un.2.1.un.2.1, p0.un.2.1.un.2.2.1, p0.un.2.1.un.2.2.2)) _ h3 (Ef (Aq CD h1 (Af h_v1)) W))) fun a F => ?_
   refine qs F Aa (An F Aa).q fun a F => ?_
   rcases Bool.eq_false_or_eq_true x2 with hb | hb
   ·
    have H := B7 hb H
    rw [hb] at F
    clear hb
    refine AK F (Ab F Aa Aa Aa Aa) Aa (Ao Aa) (Ap II Aa Aa Aa Uv F Aa 7 Aa).q fun a F => ?_
    refine AK F (Ab F Aa Aa Aa Aa) Aa (Ao Aa) (Bv (v := v2) 0 F Aa Aa Uv Aa).q fun a F => ?_
    refine AK F (Ab F Aa Aa Aa Aa) Aa (Ao Aa) (CP (r := C9) (l := p0.un.2.2.2.2) Kr Aa F Aa (Aq ED h2 (Af h_v2))).q fun a F => ?_
    refine AK F (Ab F Aa Aa Aa Aa) Aa (Ao Aa) (Po F Aa Aa).q fun a F => ?_
    refine qs F Aa (Bq F Aa Aa Aa).q fun a F => ?_
    refine qs F Aa (An F Aa).q fun a F => ?_
    rcases Bool.eq_false_or_eq_true (decide ((p0.un.2.2.2.2.length : Int) = 0)) with hb | hb
    ·
     have H := B7 (CE hb) H
     rw [hb] at F
     clear hb
     refine AK F (Ab F Aa Aa Aa Aa) Aa (Ao Aa) (Ap II Aa Aa Aa T3 F Aa 5 Aa).q fun a F => ?_
     refine AK F (Ab F Aa Aa Aa Aa) Aa (Ao Aa) (Bv (v := Value.int .i64 p0.un.2.2.1) 0 F Aa Aa T3 Aa).q fun a F => ?_
     refine AK F (Ab F Aa Aa Aa Aa) Aa (Ao Aa) (Ss F Aa Aa).q fun a F => ?_
     refine qs F Aa (Bq F Aa Aa Aa).q fun a F => ?_
     refine qs F Aa (An F Aa).q fun a F => ?_
     rcases Bool.eq_false_or_eq_true (decide (0 ≤ p0.un.2.2.1)) with hb | hb
     ·
      have H := B7 (CE hb) H
      rw [hb] at F
      clear hb
      refine AK F (Ab F Aa Aa Aa Aa) Aa (Ao Aa) (Ap II Aa Aa Aa T3 F Aa 5 Aa).q fun a F => ?_
      refine AK F (Ab F Aa Aa Aa Aa) Aa (Ao Aa) (Bv (v := Value.int .i64 p0.un.2.2.1) 0 F Aa Aa T3 Aa).q fun a F => ?_
      refine AK F (Ab F Aa Aa Aa Aa) Aa (Ao Aa) (Ky F Aa Aa).q fun a F => ?_
      refine qs F Aa (Bq F Aa Aa Aa).q fun a F => ?_
      refine qs F Aa (An F Aa).q fun a F => ?_
      rcases Bool.eq_false_or_eq_true (decide (p0.un.2.2.1 ≤ 4)) with hb | hb
      ·
       have H := B7 (CE hb) H
       rw [hb] at F
       clear hb
       refine AK F (Ab F Aa Aa Aa Aa) Aa (Ao Aa) (Ap II Aa Aa Aa T3 F Aa 6 Aa).q fun a F => ?_
       refine AK F (Ab F Aa Aa Aa Aa) Aa (Ao Aa) (Bv (v := Value.int .i64 p0.un.2.2.2.1) 0 F Aa Aa T3 Aa).q fun a F => ?_
       refine AK F (Ab F Aa Aa Aa Aa) Aa (Ao Aa) (Ss F Aa Aa).q fun a F => ?_
       refine qs F Aa (Bq F Aa Aa Aa).q fun a F => ?_
       refine qs F Aa (An F Aa).q fun a F => ?_
       rcases Bool.eq_false_or_eq_true (decide (0 ≤ p0.un.2.2.2.1)) with hb | hb
       ·
        have H := B7 (CE hb) H
        rw [hb] at F
        clear hb
        refine AK F (Ab F Aa Aa Aa Aa) Aa (Ao Aa) (Ap II Aa Aa Aa T3 F Aa 6 Aa).q fun a F => ?_
        refine AK F (Ab F Aa Aa Aa Aa) Aa (Ao Aa) (Bv (v := Value.int .i64 p0.un.2.2.2.1) 0 F Aa Aa T3 Aa).q fun a F => ?_
        refine AK F (Ab F Aa Aa Aa Aa) Aa (Ao Aa) (Ap II Aa Aa Aa T3 F Aa 5 Aa).q fun a F => ?_
        refine AK F (Ab F Aa Aa Aa Aa) Aa (Ao Aa) (Bv (v := Value.int .i64 p0.un.2.2.1) 0 F Aa Aa T3 Aa).q fun a F => ?_
        obtain ⟨x3, h4, H⟩ := Ad H
        refine AK F (Ab F Aa Aa Aa Aa) Aa (Ao Aa) (AL (v := Value.int .i64 x3) F YX Aa (fun w W => Nn any w p0.un.2.2.1 _ h4)) fun a F => ?_
        refine AK F (Ab F Aa Aa Aa Aa) Aa (Ao Aa) (Ky F Aa Aa).q fun a F => ?_
        refine qs F Aa (Bq F Aa Aa Aa).q fun a F => ?_
        refine qs F Aa (Bj F Aa).q fun a F => ?_
        refine AJ fun w W => ?_
        refine Ac ?_
        exact ⟨_, H, F.ra Aa, W⟩
       have H := B6 (CG hb) H
       rw [hb] at F
       clear hb
       iterate 6 refine Bi F (A0 F Aa Aa Aa Aa Aa) Aa Aa fun a F => ?_
       refine qs F Aa (Bp F Aa Aa Aa).q fun a F => ?_
       refine qs F Aa (Bj F Aa).q fun a F => ?_
       refine AJ fun w W => ?_
       refine Ac ?_
       exact ⟨_, H, F.ra Aa, W⟩
      have H := B6 (CG hb) H
      rw [hb] at F
      clear hb
      iterate 3 refine Bi F (A0 F Aa Aa Aa Aa Aa) Aa Aa fun a F => ?_
      refine qs F Aa (Bp F Aa Aa Aa).q fun a F => ?_
      refine qs F Aa (An F Aa).q fun a F => ?_
      iterate 6 refine Bi F (A0 F Aa Aa Aa Aa Aa) Aa Aa fun a F => ?_
      refine qs F Aa (Bp F Aa Aa Aa).q fun a F => ?_
      refine qs F Aa (Bj F Aa).q fun a F => ?_
      refine AJ fun w W => ?_
      refine Ac ?_
      exact ⟨_, H, F.ra Aa, W⟩
     have H := B6 (CG hb) H
     rw [hb] at F
     clear hb
     iterate 3 refine Bi F (A0 F Aa Aa Aa Aa Aa) Aa Aa fun a F => ?_
     refine qs F Aa (Bp F Aa Aa Aa).q fun a F => ?_
     refine qs F Aa (An F Aa).q fun a F => ?_
     iterate 3 refine Bi F (A0 F Aa Aa Aa Aa Aa) Aa Aa fun a F => ?_
     refine qs F Aa (Bp F Aa Aa Aa).q fun a F => ?_
     refine qs F Aa (An F Aa).q fun a F => ?_
     iterate 6 refine Bi F (A0 F Aa Aa Aa Aa Aa) Aa Aa fun a F => ?_
     refine qs F Aa (Bp F Aa Aa Aa).q fun a F => ?_
     refine qs F Aa (Bj F Aa).q fun a F => ?_
     refine AJ fun w W => ?_
     refine Ac ?_
     exact ⟨_, H, F.ra Aa, W⟩
    have H := B6 (CG hb) H
    rw [hb] at F
    clear hb
    iterate 3 refine Bi F (A0 F Aa Aa Aa Aa Aa) Aa Aa fun a F => ?_
    refine qs F Aa (Bp F Aa Aa Aa).q fun a F => ?_
    refine qs F Aa (An F Aa).q fun a F => ?_
    iterate 3 refine Bi F (A0 F Aa Aa Aa Aa Aa) Aa Aa fun a F => ?_
    refine qs F Aa (Bp F Aa Aa Aa).q fun a F => ?_
    refine qs F Aa (An F Aa).q fun a F => ?_
    iterate 3 refine Bi F (A0 F Aa Aa Aa Aa Aa) Aa Aa fun a F => ?_
    refine qs F Aa (Bp F Aa Aa Aa).q fun a F => ?_
    refine qs F Aa (An F Aa).q fun a F => ?_
    iterate 6 refine Bi F (A0 F Aa Aa Aa Aa Aa) Aa Aa fun a F => ?_
    refine qs F Aa (Bp F Aa Aa Aa).q fun a F => ?_
    refine qs F Aa (Bj F Aa).q fun a F => ?_
    refine AJ fun w W => ?_
    refine Ac ?_
    exact ⟨_, H, F.ra Aa, W⟩
   have H := B6 (by rw [hb]; decide) H
   rw [hb] at F
   clear hb
   iterate 4 refine Bi F (A0 F Aa Aa Aa Aa Aa) Aa Aa fun a F => ?_
   refine qs F Aa (Bp F Aa Aa Aa).q fun a F => ?_
   refine qs F Aa (An F Aa).q fun a F => ?_
   iterate 3 refine Bi F (A0 F Aa Aa Aa Aa Aa) Aa Aa fun a F => ?_
   refine qs F Aa (Bp F Aa Aa Aa).q fun a F => ?_
   refine qs F Aa (An F Aa).q fun a F => ?_
   iterate 3 refine Bi F (A0 F Aa Aa Aa Aa Aa) Aa Aa fun a F => ?_
   refine qs F Aa (Bp F Aa Aa Aa).q fun a F => ?_
   refine qs F Aa (An F Aa).q fun a F => ?_
   iterate 3 refine Bi F (A0 F Aa Aa Aa Aa Aa) Aa Aa fun a F => ?_
   refine qs F Aa (Bp F Aa Aa Aa).q fun a F => ?_
   refine qs F Aa (An F Aa).q fun a F => ?_
   iterate 6 refine Bi F (A0 F Aa Aa Aa Aa Aa) Aa Aa fun a F => ?_
   refine qs F Aa (Bp F Aa Aa Aa).q fun a F => ?_
   refine qs F Aa (Bj F Aa).q fun a F => ?_
   refine AJ fun w W => ?_
   refine Ac ?_
   exact ⟨_, H, F.ra Aa, W⟩
  rintro a w ⟨x1, hj, F, W⟩
  have hj := AA hj
  subst hj
  have H := K1
  clear G1 K1
  refine Ak (Ax ?_)
  have H := AA H
  subst H
  refine Au (.inl Aa) F W Aa (Am F Aa) ?_
  exact ⟨rfl, W.done⟩
 refine FJ tk 3 F W fun a w F W => ?_
 refine Ay (fun a w => Fr 78 [] [(1, .pointer (some ⟨b1, 0, none⟩)), (2, .bool false), (45, .bool (decide (p0.un.2.2.1 ≠ 0) || decide (p0.un.2.2.2.1 ≠ 0)))] a ∧ Stw ⟨Y, [], w0⟩ (He b1 p0 v1 v2) [] w) ?_ ?_
 ·
  refine Fj tk 5 [0] F W (ai fun a w F W => ?_)
  rcases Bool.eq_false_or_eq_true (decide (p0.un.2.2.1 ≠ 0)) with hb0 | hb0
  ·
   rw [hb0] at F
   refine vl tk 5 F W fun a w F W => ?_
   refine Ac ?_
   exact ⟨F.re ⟨rfl, Aa, (DE (by try rw [hb0]; all_goals simp only [DF])), trivial⟩, W⟩
  rw [hb0] at F
  refine GH tk 5 [0] F W (ai fun a w F W => ?_)
  refine Ac ?_
  exact ⟨F.re ⟨rfl, Aa, (DE (by try rw [hb0]; all_goals simp only [DF])), trivial⟩, W⟩
 rintro a w ⟨F, W⟩
 refine Cv F Aa H (fun F H => ?_) fun F H => ?_
 ·
  refine vc tk 5 F W fun a w F W => ?_
  refine Ak (Ax ?_)
  have H := AA H
  subst H
  refine Au (.inl Aa) F W Aa (Am F Aa) ?_
  exact ⟨rfl, W.done⟩
 refine PY tk 16 [0] F W (ai fun a w F W => ?_)
 refine BV F Aa (fun hb => ?_) fun hb => ?_
 ·
  have H := B7 (CE hb) H
  rw [hb] at F
  clear hb
  refine Fj tk 4 [0] F W (ai fun a w F W => ?_)
  refine ls F W Aa (CP (r := C9) (l := p0.un.2.2.2.2) Kr Aa F Aa (Aq ED h2 (Af h_v2))).q fun a w F W => ?_
  refine Ck tk 4 F W fun a w F W => ?_
  refine Ak (AE (Ax ?_))
  have H := AA H
  subst H
  refine Au (.inl Aa) F W Aa (Am F Aa) ?_
  exact ⟨rfl, W.done⟩
 have H := B6 (CG hb) H
 rw [hb] at F
 clear hb
 obtain ⟨o2, G2, K2⟩ := Ad H
 refine Ay (fun a w => ∃ x4 : Bool, some (x4) = some o2 ∧ Fr 78 [] [(1, .pointer (some ⟨b1, 0, none⟩)), (2, .bool false), (47, .int .i64 p0.un.1), (54, .bool x4)] a ∧ Stw ⟨Y, [], w0⟩ (He b1 p0 v1 v2) [] w) ?_ ?_
 ·
  have H := G2
  clear G2 K2
  refine vc tk 6 F W fun a w F W => ?_
  refine BV F Aa (fun hb => ?_) fun hb => ?_
  ·
   have H := B7 (CE hb) H
   rw [hb] at F
   clear hb
   refine AW (Ac ?_)
   exact ⟨_, H, F.ra Aa, W⟩
  have H := B6 (CG hb) H
  rw [hb] at F
  clear hb
  refine vc tk 4 F W fun a w F W => ?_
  refine Ac ?_
  exact ⟨_, H, F.ra Aa, W⟩
 rintro a w ⟨x4, hj, F, W⟩
 have hj := AA hj
 subst hj
 have H := K2
 clear G2 K2
 refine Cv F Aa H (fun F H => ?_) fun F H => ?_
 ·
  obtain ⟨o3, G3, K3⟩ := Ad H
  refine Ay (fun a w => ∃ x5 : Bool, some (x5) = some o3 ∧ Fr 78 [] [(2, .bool x5)] a ∧ Stw ⟨Y, [], w0⟩ (He b1 p0 v1 v2) [] w) ?_ ?_
  ·
   have H := G3
   clear G3 K3
   refine Fj tk 3 [0] F W (ai fun a w F W => ?_)
   obtain ⟨x6, h5, H⟩ := Ad H
   refine ls F W Aa (AL (v := Value.bool x6) F YO Aa (fun w W => Jn any w (v1) (Tr34.of (p0.un.2.1.un.1, p0.un.2.1.un.2.1, p0.un.2.1.un.2.2.1, p0.un.2.1.un.2.2.2)) _ h5 (Ef (Aq CD h1 (Af h_v1)) W))) fun a w F W => ?_
   refine ls F W Aa (An F Aa).q fun a w F W => ?_
   rcases Bool.eq_false_or_eq_true x6 with hb | hb
   ·
    have H := B7 hb H
    rw [hb] at F
    clear hb
    refine GH tk 2 [0] F W (ai fun a w F W => ?_)
    refine GQ F W (Ab F Aa Aa Aa Aa) Aa (Ao Aa) (CP (r := C9) (l := p0.un.2.2.2.2) Kr Aa F Aa (Aq ED h2 (Af h_v2))).q fun a w F W => ?_
    refine vl tk 3 F W fun a w F W => ?_
    rcases Bool.eq_false_or_eq_true (decide (2 ≤ (p0.un.2.2.2.2.length : Int))) with hb | hb
    ·
     have H := B7 (CE hb) H
     rw [hb] at F
     clear hb
     refine GH tk 2 [0] F W (ai fun a w F W => ?_)
     refine GQ F W (Ab F Aa Aa Aa Aa) Aa (Ao Aa) (CP (r := C9) (l := p0.un.2.2.2.2) Kr Aa F Aa (Aq ED h2 (Af h_v2))).q fun a w F W => ?_
     refine vl tk 4 F W fun a w F W => ?_
     refine Ac ?_
     exact ⟨_, H, F.ra Aa, W⟩
    have H := B6 (CG hb) H
    rw [hb] at F
    clear hb
    refine vl tk 7 F W fun a w F W => ?_
    refine Ac ?_
    exact ⟨_, H, F.ra Aa, W⟩
   have H := B6 (by rw [hb]; decide) H
   rw [hb] at F
   clear hb
   refine vl tk 13 F W fun a w F W => ?_
   refine Ac ?_
   exact ⟨_, H, F.ra Aa, W⟩
  rintro a w ⟨x5, hj, F, W⟩
  have hj := AA hj
  subst hj
  have H := K3
  clear G3 K3
  refine Ak (AE (Ax ?_))
  have H := AA H
  subst H
  refine Au (.inl Aa) F W Aa (Am F Aa) ?_
  exact ⟨rfl, W.done⟩
 refine vc tk 6 F W fun a w F W => ?_
 refine BV F Aa (fun hb => ?_) fun hb => ?_
 ·
  have H := B7 (CE hb) H
  rw [hb] at F
  clear hb
  refine Fj tk 4 [0] F W (ai fun a w F W => ?_)
  refine ls F W Aa (CP (r := C9) (l := p0.un.2.2.2.2) Kr Aa F Aa (Aq ED h2 (Af h_v2))).q fun a w F W => ?_
  refine Ck tk 4 F W fun a w F W => ?_
  refine Ak (AE (Ax ?_))
  have H := AA H
  subst H
  refine Au (.inl Aa) F W Aa (Am F Aa) ?_
  exact ⟨rfl, W.done⟩
 have H := B6 (CG hb) H
 rw [hb] at F
 clear hb
 refine AW (AG ?_)
 refine vn tk 5 F W fun a w F W => ?_
 refine Ak ?_
 have H := AA H
 subst H
 refine Au (.inl Aa) F W Aa (Am F Aa) ?_
 exact ⟨rfl, W.done⟩
theorem Vm : type_of% Tryz.underlying123 := Tryz.underlying123
theorem Zn : Has Tryz.prog 65 := CF Tryz.func65
theorem X2 : Bt Tryz.prog 123 [.int .i64 0] [(0, 1)] := ⟨⟨.agg #[.int .i64 0], by kernel_rfl, rfl⟩, ⟨_, Vm, fun w => by kernel_rfl⟩⟩
theorem Yp : (Tryz.prog.info? 123).bind (·.zero) = some (.agg #[.int .i64 0]) := by kernel_rfl
theorem Xy : Ty Tryz.prog 123 true 1 := ⟨by kernel_rfl, by kernel_rfl⟩
abbrev Lz (a0 : Nat) (a1 : Tr34) (a2 : Value) : List (Nat × List Value) := [(a0, [.int .i64 a1.un.1, .int .i64 a1.un.2.1, .int .i64 a1.un.2.2.1, a2])]
noncomputable def I5 (p0 : Tr34) : Option Bool := (if p0.un.1 = 3 then (if (C2 p0.un.2.1) = true then (if 0 ≤ p0.un.2.2.1 then (I4 p0.un.2.1).bind fun x2 => (if p0.un.2.2.1 ≤ x2 then some (decide ((p0.un.2.2.2.length : Int) = 0)) else some false) else some false) else some false).bind fun x1 => some x1 else (if (decide (p0.un.2.1 ≠ 0) || decide (p0.un.2.2.1 ≠ 0)) = true then some false else (if p0.un.1 = 1 then some true else some (decide (p0.un.1 = 2))).bind fun x3 => (if x3 = true then some (decide ((p0.un.2.2.2.length : Int) = 0)) else (if p0.un.1 = 4 then some (decide ((p0.un.2.2.2.length : Int) = 1)) else (if p0.un.1 = 5 then some true else some (decide (p0.un.1 = 6))).bind fun x4 => (if x4 = true then some (decide (2 ≤ (p0.un.2.2.2.length : Int)) && decide ((p0.un.2.2.2.length : Int) ≤ 8)) else some false)))))
theorem QI (Y : Nat → Prop) (w0 : World) (v1 : Value) (p0 : Tr34) (r : Bool) (H : I5 p0 = some r) (h_v1 : Sl w0 (NX []) CA v1 p0.un.2.2.2) :
    Calls Tryz.prog 118 #[.agg #[.int .i64 p0.un.1, .int .i64 p0.un.2.1, .int .i64 p0.un.2.2.1, v1]] w0 fun e w' => e = .returned (.bool r) ∧ Below w0.heap.size w0 w' := by
 refine enter Tryz.func118 Aa Tryz.ntmps118 Aa fun a F => ?_
 have W := Stw.start Y w0
 obtain ⟨v2, h1, h_v1⟩ := h_v1.ex CD
 unfold I5 at H
 refine vc tk 2 F W fun a w F W => ?_
 refine CU (cs := (Iy p0 v1)) F W Aa Aa Aa fun b1 a w F W => ?_
 refine FA tk 11 [0] F W (ai fun a w F W => ?_)
 refine BI F Aa H (fun F H => ?_) fun F H => ?_
 ·
  obtain ⟨o1, G1, K1⟩ := Ad H
  refine Ay (fun a w => ∃ x1 : Bool, some (x1) = some o1 ∧ Fr 64 [] [(1, .pointer (some ⟨b1, 0, none⟩)), (2, .bool x1)] a ∧ Stw ⟨Y, [], w0⟩ (Lz b1 p0 v1) [] w) ?_ ?_
  ·
   have H := G1
   clear G1 K1
   refine Cu W MO (by kernel_rfl) ?_
   refine qs F Aa (Ap Kx Aa Aa Aa T3 F Aa 1 Aa).q fun a F => ?_
   refine qs F Aa (Bv (v := Value.int .i64 p0.un.2.1) 0 F Aa Aa T3 Aa).q fun a F => ?_
   refine qs F Aa (AL (v := Value.bool (C2 p0.un.2.1)) F Wh Aa (fun w W => Jb any w p0.un.2.1 _ Aa)) fun a F => ?_
   refine qs F Aa (An F Aa).q fun a F => ?_
   rcases Bool.eq_false_or_eq_true (C2 p0.un.2.1) with hb | hb
   ·
    have H := B7 hb H
    rw [hb] at F
    clear hb
    refine AK F (Ab F Aa Aa Aa Aa) Aa (Ao Aa) (Ap Kx Aa Aa Aa T3 F Aa 2 Aa).q fun a F => ?_
    refine AK F (Ab F Aa Aa Aa Aa) Aa (Ao Aa) (Bv (v := Value.int .i64 p0.un.2.2.1) 0 F Aa Aa T3 Aa).q fun a F => ?_
    refine AK F (Ab F Aa Aa Aa Aa) Aa (Ao Aa) (Ss F Aa Aa).q fun a F => ?_
    refine qs F Aa (Bq F Aa Aa Aa).q fun a F => ?_
    refine qs F Aa (An F Aa).q fun a F => ?_
    rcases Bool.eq_false_or_eq_true (decide (0 ≤ p0.un.2.2.1)) with hb | hb
    ·
     have H := B7 (CE hb) H
     rw [hb] at F
     clear hb
     refine AK F (Ab F Aa Aa Aa Aa) Aa (Ao Aa) (Ap Kx Aa Aa Aa T3 F Aa 2 Aa).q fun a F => ?_
     refine AK F (Ab F Aa Aa Aa Aa) Aa (Ao Aa) (Bv (v := Value.int .i64 p0.un.2.2.1) 0 F Aa Aa T3 Aa).q fun a F => ?_
     refine AK F (Ab F Aa Aa Aa Aa) Aa (Ao Aa) (Ap Kx Aa Aa Aa T3 F Aa 1 Aa).q fun a F => ?_
     refine AK F (Ab F Aa Aa Aa Aa) Aa (Ao Aa) (Bv (v := Value.int .i64 p0.un.2.1) 0 F Aa Aa T3 Aa).q fun a F => ?_
     obtain ⟨x2, h2, H⟩ := Ad H
     refine AK F (Ab F Aa Aa Aa Aa) Aa (Ao Aa) (AL (v := Value.int .i64 x2) F YX Aa (fun w W => Nn any w p0.un.2.1 _ h2)) fun a F => ?_
     refine AK F (Ab F Aa Aa Aa Aa) Aa (Ao Aa) (Ky F Aa Aa).q fun a F => ?_
     refine qs F Aa (Bq F Aa Aa Aa).q fun a F => ?_
     refine qs F Aa (An F Aa).q fun a F => ?_
     rcases Bool.eq_false_or_eq_true (decide (p0.un.2.2.1 ≤ x2)) with hb | hb
     ·
      have H := B7 (CE hb) H
      rw [hb] at F
      clear hb
      refine AK F (Ab F Aa Aa Aa Aa) Aa (Ao Aa) (Ap Kx Aa Aa Aa S4 F Aa 3 Aa).q fun a F => ?_
      refine AK F (Ab F Aa Aa Aa Aa) Aa (Ao Aa) (Bv (v := v1) 0 F Aa Aa S4 Aa).q fun a F => ?_
      refine AK F (Ab F Aa Aa Aa Aa) Aa (Ao Aa) (CP (r := CA) (l := p0.un.2.2.2) Kw Aa F Aa (Aq CD h1 (Af h_v1))).q fun a F => ?_
      refine AK F (Ab F Aa Aa Aa Aa) Aa (Ao Aa) (Po F Aa Aa).q fun a F => ?_
      refine qs F Aa (Bq F Aa Aa Aa).q fun a F => ?_
      refine qs F Aa (Bj F Aa).q fun a F => ?_
      refine AJ fun w W => ?_
      refine Ac ?_
      exact ⟨_, H, F.ra Aa, W⟩
     have H := B6 (CG hb) H
     rw [hb] at F
     clear hb
     iterate 4 refine Bi F (A0 F Aa Aa Aa Aa Aa) Aa Aa fun a F => ?_
     refine qs F Aa (Bp F Aa Aa Aa).q fun a F => ?_
     refine qs F Aa (Bj F Aa).q fun a F => ?_
     refine AJ fun w W => ?_
     refine Ac ?_
     exact ⟨_, H, F.ra Aa, W⟩
    have H := B6 (CG hb) H
    rw [hb] at F
    clear hb
    iterate 6 refine Bi F (A0 F Aa Aa Aa Aa Aa) Aa Aa fun a F => ?_
    refine qs F Aa (Bp F Aa Aa Aa).q fun a F => ?_
    refine qs F Aa (An F Aa).q fun a F => ?_
    iterate 4 refine Bi F (A0 F Aa Aa Aa Aa Aa) Aa Aa fun a F => ?_
    refine qs F Aa (Bp F Aa Aa Aa).q fun a F => ?_
    refine qs F Aa (Bj F Aa).q fun a F => ?_
    refine AJ fun w W => ?_
    refine Ac ?_
    exact ⟨_, H, F.ra Aa, W⟩
   have H := B6 (by rw [hb]; decide) H
   rw [hb] at F
   clear hb
   iterate 3 refine Bi F (A0 F Aa Aa Aa Aa Aa) Aa Aa fun a F => ?_
   refine qs F Aa (Bp F Aa Aa Aa).q fun a F => ?_
   refine qs F Aa (An F Aa).q fun a F => ?_
   iterate 6 refine Bi F (A0 F Aa Aa Aa Aa Aa) Aa Aa fun a F => ?_
   refine qs F Aa (Bp F Aa Aa Aa).q fun a F => ?_
   refine qs F Aa (An F Aa).q fun a F => ?_
   iterate 4 refine Bi F (A0 F Aa Aa Aa Aa Aa) Aa Aa fun a F => ?_
   refine qs F Aa (Bp F Aa Aa Aa).q fun a F => ?_
   refine qs F Aa (Bj F Aa).q fun a F => ?_
   refine AJ fun w W => ?_
   refine Ac ?_
   exact ⟨_, H, F.ra Aa, W⟩
  rintro a w ⟨x1, hj, F, W⟩
  have hj := AA hj
  subst hj
  have H := K1
  clear G1 K1
  refine Ak (Ax ?_)
  have H := AA H
  subst H
  refine Au (.inl Aa) F W Aa (Am F Aa) ?_
  exact ⟨rfl, W.done⟩
 refine FJ tk 3 F W fun a w F W => ?_
 refine Ay (fun a w => Fr 64 [] [(1, .pointer (some ⟨b1, 0, none⟩)), (2, .bool false), (35, .bool (decide (p0.un.2.1 ≠ 0) || decide (p0.un.2.2.1 ≠ 0)))] a ∧ Stw ⟨Y, [], w0⟩ (Lz b1 p0 v1) [] w) ?_ ?_
 ·
  refine Fj tk 5 [0] F W (ai fun a w F W => ?_)
  rcases Bool.eq_false_or_eq_true (decide (p0.un.2.1 ≠ 0)) with hb0 | hb0
  ·
   rw [hb0] at F
   refine vl tk 5 F W fun a w F W => ?_
   refine Ac ?_
   exact ⟨F.re ⟨rfl, Aa, (DE (by try rw [hb0]; all_goals simp only [DF])), trivial⟩, W⟩
  rw [hb0] at F
  refine GH tk 5 [0] F W (ai fun a w F W => ?_)
  refine Ac ?_
  exact ⟨F.re ⟨rfl, Aa, (DE (by try rw [hb0]; all_goals simp only [DF])), trivial⟩, W⟩
 rintro a w ⟨F, W⟩
 refine Cv F Aa H (fun F H => ?_) fun F H => ?_
 ·
  refine vc tk 5 F W fun a w F W => ?_
  refine Ak (Ax ?_)
  have H := AA H
  subst H
  refine Au (.inl Aa) F W Aa (Am F Aa) ?_
  exact ⟨rfl, W.done⟩
 refine PY tk 10 [0] F W (ai fun a w F W => ?_)
 obtain ⟨o2, G2, K2⟩ := Ad H
 refine Ay (fun a w => ∃ x3 : Bool, some (x3) = some o2 ∧ Fr 64 [] [(1, .pointer (some ⟨b1, 0, none⟩)), (2, .bool false), (37, .int .i64 p0.un.1), (38, .bool x3)] a ∧ Stw ⟨Y, [], w0⟩ (Lz b1 p0 v1) [] w) ?_ ?_
 ·
  have H := G2
  clear G2 K2
  refine vc tk 6 F W fun a w F W => ?_
  refine BV F Aa (fun hb => ?_) fun hb => ?_
  ·
   have H := B7 (CE hb) H
   rw [hb] at F
   clear hb
   refine AW (Ac ?_)
   exact ⟨_, H, F.ra Aa, W⟩
  have H := B6 (CG hb) H
  rw [hb] at F
  clear hb
  refine vc tk 4 F W fun a w F W => ?_
  refine Ac ?_
  exact ⟨_, H, F.ra Aa, W⟩
 rintro a w ⟨x3, hj, F, W⟩
 have hj := AA hj
 subst hj
 have H := K2
 clear G2 K2
 refine Cv F Aa H (fun F H => ?_) fun F H => ?_
 ·
  refine Fj tk 4 [0] F W (ai fun a w F W => ?_)
  refine ls F W Aa (CP (r := CA) (l := p0.un.2.2.2) Kw Aa F Aa (Aq CD h1 (Af h_v1))).q fun a w F W => ?_
  refine Ck tk 4 F W fun a w F W => ?_
  refine Ak (AE (Ax ?_))
  have H := AA H
  subst H
  refine Au (.inl Aa) F W Aa (Am F Aa) ?_
  exact ⟨rfl, W.done⟩
 refine vc tk 6 F W fun a w F W => ?_
 refine BV F Aa (fun hb => ?_) fun hb => ?_
 ·
  have H := B7 (CE hb) H
  rw [hb] at F
  clear hb
  refine Fj tk 4 [0] F W (ai fun a w F W => ?_)
  refine ls F W Aa (CP (r := CA) (l := p0.un.2.2.2) Kw Aa F Aa (Aq CD h1 (Af h_v1))).q fun a w F W => ?_
  refine Ck tk 4 F W fun a w F W => ?_
  refine Ak (AE (Ax ?_))
  have H := AA H
  subst H
  refine Au (.inl Aa) F W Aa (Am F Aa) ?_
  exact ⟨rfl, W.done⟩
 have H := B6 (CG hb) H
 rw [hb] at F
 clear hb
 obtain ⟨o3, G3, K3⟩ := Ad H
 refine Ay (fun a w => ∃ x4 : Bool, some (x4) = some o3 ∧ Fr 64 [] [(1, .pointer (some ⟨b1, 0, none⟩)), (2, .bool false), (51, .bool x4)] a ∧ Stw ⟨Y, [], w0⟩ (Lz b1 p0 v1) [] w) ?_ ?_
 ·
  have H := G3
  clear G3 K3
  refine vc tk 6 F W fun a w F W => ?_
  refine BV F Aa (fun hb => ?_) fun hb => ?_
  ·
   have H := B7 (CE hb) H
   rw [hb] at F
   clear hb
   refine AW (Ac ?_)
   exact ⟨_, H, F.ra Aa, W⟩
  have H := B6 (CG hb) H
  rw [hb] at F
  clear hb
  refine vc tk 4 F W fun a w F W => ?_
  refine Ac ?_
  exact ⟨_, H, F.ra Aa, W⟩
 rintro a w ⟨x4, hj, F, W⟩
 have hj := AA hj
 subst hj
 have H := K3
 clear G3 K3
 refine Cv F Aa H (fun F H => ?_) fun F H => ?_
 ·
  refine Ay (fun a w => Fr 64 [] [(2, .bool (decide (2 ≤ (p0.un.2.2.2.length : Int)) && decide ((p0.un.2.2.2.length : Int) ≤ 8)))] a ∧ Stw ⟨Y, [], w0⟩ (Lz b1 p0 v1) [] w) ?_ ?_
  ·
   refine Fj tk 3 [0] F W (ai fun a w F W => ?_)
   refine ls F W Aa (CP (r := CA) (l := p0.un.2.2.2) Kw Aa F Aa (Aq CD h1 (Af h_v1))).q fun a w F W => ?_
   refine vl tk 2 F W fun a w F W => ?_
   rcases Bool.eq_false_or_eq_true (decide (2 ≤ (p0.un.2.2.2.length : Int))) with hb0 | hb0
   ·
    rw [hb0] at F
    refine GH tk 2 [0] F W (ai fun a w F W => ?_)
    refine GQ F W (Ab F Aa Aa Aa Aa) Aa (Ao Aa) (CP (r := CA) (l := p0.un.2.2.2) Kw Aa F Aa (Aq CD h1 (Af h_v1))).q fun a w F W => ?_
    refine vl tk 4 F W fun a w F W => ?_
    refine Ac ?_
    exact ⟨F.re ⟨(DE (by try rw [hb0]; all_goals simp only [DF])), trivial⟩, W⟩
   rw [hb0] at F
   refine vl tk 7 F W fun a w F W => ?_
   refine Ac ?_
   exact ⟨F.re ⟨(DE (by try rw [hb0]; all_goals simp only [DF])), trivial⟩, W⟩
  rintro a w ⟨F, W⟩
  refine Ak (AE (Ax ?_))
  have H := AA H
  subst H
  refine Au (.inl Aa) F W Aa (Am F Aa) ?_
  exact ⟨rfl, W.done⟩
 refine AW (AG ?_)
 refine vn tk 5 F W fun a w F W => ?_
 refine Ak ?_
 have H := AA H
 subst H
 refine Au (.inl Aa) F W Aa (Am F Aa) ?_
 exact ⟨rfl, W.done⟩
end Go.Proofs.YtpckgggmgijiiaaGreatDoor
