/- The functions of layer 27, Jw. Conditions: none. -/
import Derived.Test.YtpckgggmgijiiaaGreatDoorcU3
namespace Go.Proofs.YtpckgggmgijiiaaGreatDoor
noncomputable section
open Go Go.RowKit
set_option linter.unusedVariables false
set_option linter.unusedSimpArgs false
set_option maxRecDepth 20000
theorem Y8 : Has Tryz.prog 40 := CP Tryz.func40
abbrev OW (a0 : Nat) (a1 : Int × Int × Int × Int) (a2 : Nat) (a3 : Tr37) (a4 : Value) (a5 : Value) : List (Nat × List Value) := [(a0, [.int .i64 a1.1, .int .i64 a1.2.1, .int .i64 a1.2.2.1, .int .i64 a1.2.2.2]), (a2, [.int .i64 a3.un.1, .int .i64 a3.un.2.1.un.1, .int .i64 a3.un.2.1.un.2.1, .int .i64 a3.un.2.1.un.2.2.1, a4, .int .i64 a3.un.2.2.1, .int .i64 a3.un.2.2.2.1, a5])]
abbrev Xf (a0 : Nat) (a1 : Int × (Int × Int × Int × Int)) (a2 : Nat) (a3 : Int × Int × Int × Int) (a4 : Nat) (a5 : Tr37) (a6 : Value) (a7 : Value) : List (Nat × List Value) := [(a0, [.int .i64 a1.1, .int .i64 a1.2.1, .int .i64 a1.2.2.1, .int .i64 a1.2.2.2.1, .int .i64 a1.2.2.2.2]), (a2, [.int .i64 a3.1, .int .i64 a3.2.1, .int .i64 a3.2.2.1, .int .i64 a3.2.2.2]), (a4, [.int .i64 a5.un.1, .int .i64 a5.un.2.1.un.1, .int .i64 a5.un.2.1.un.2.1, .int .i64 a5.un.2.1.un.2.2.1, a6, .int .i64 a5.un.2.2.1, .int .i64 a5.un.2.2.2.1, a7])]
def FK (p0 : Tr37) (p1 : Int) (p2 : Int) (p3 : Int × Int × Int × Int) : Option (List (Int × (Int × Int × Int × Int))) := (Eu (Tr37.of (p0.un.1, Tr34.of (p0.un.2.1.un.1, p0.un.2.1.un.2.1, p0.un.2.1.un.2.2.1, p0.un.2.1.un.2.2.2), p0.un.2.2.1, p0.un.2.2.2.1, p0.un.2.2.2.2)) p1 (p2, p3)).bind fun x1 => (IF ([] : List (Int × (Int × Int × Int × Int))) x1).bind fun _ => (QR (fun lg4036 => Cx lg4036) x1).bind fun x3 => some x3
theorem JT (Y : Nat → Prop) (w0 : World) (v1 : Value) (v2 : Value) (p0 : Tr37) (p1 : Int) (p2 : Int) (p3 : Int × Int × Int × Int) (r : (List (Int × (Int × Int × Int × Int)))) (H : FK p0 p1 p2 p3 = some r) (h_v1 : Sl w0 (NX []) Bj v1 p0.un.2.1.un.2.2.2) (s_v2 : Sl w0 Y Bl v2 p0.un.2.2.2.2) :
    Calls Tryz.prog 20 #[.agg #[.int .i64 p0.un.1, .int .i64 p0.un.2.1.un.1, .int .i64 p0.un.2.1.un.2.1, .int .i64 p0.un.2.1.un.2.2.1, v1, .int .i64 p0.un.2.2.1, .int .i64 p0.un.2.2.2.1, v2], .int .i64 p1, .int .i64 p2, .agg #[.int .i64 p3.1, .int .i64 p3.2.1, .int .i64 p3.2.2.1, .int .i64 p3.2.2.2]] w0 fun e w' => ∃ x : Value, e = .returned (x) ∧ Stw ⟨Y, [], w0⟩ [] [row (x) 63 Bo r] w' := by
 refine enter Tryz.func20 Aa Tryz.ntmps20 Aa fun a F => ?_
 have W := Stw.start Y w0
 obtain ⟨v3, h1, h_v1⟩ := h_v1.ex Co
 obtain ⟨v4, h2, s_v2⟩ := s_v2.ex Dy
 have h_v2 := W.nx s_v2
 unfold FK at H
 refine vc tk 2 F W fun a w F W => ?_
 refine CX (cs := (BE p0 v1 v2)) F W Aa Aa Aa fun b1 a w F W => ?_
 refine CX (cs := (CF p3)) F W Aa Aa Aa fun b2 a w F W => ?_
 refine Gz tk 15 [1, 0] F W (ai (ai fun a w F W => ?_))
 refine ls F W Aa (CM (v := Value.agg #[.int .i64 p2, .int .i64 p3.1, .int .i64 p3.2.1, .int .i64 p3.2.2.1, .int .i64 p3.2.2.2]) YS F Aa Aa Aa).q fun a w F W => ?_
 obtain ⟨x1, h3, H⟩ := Ag H
 refine A7 (Ml := []) (Zl := []) (β := Value) (rv := fun x => x) (MM := fun x => []) (ZZ := fun x => [CI x C7 AY x1]) F W Xn Aa Aa (fun hL => MW _ w (v1) (v2) (Tr37.of (p0.un.1, Tr34.of (p0.un.2.1.un.1, p0.un.2.1.un.2.1, p0.un.2.1.un.2.2.1, p0.un.2.1.un.2.2.2), p0.un.2.2.1, p0.un.2.2.2.1, p0.un.2.2.2.2)) p1 (p2, p3) _ h3 ((Ak Co h1 (Ah h_v1)) w W).nx (Sl.hide Dy h2 (W.old s_v2))) fun x a w F W => ?_
 obtain ⟨v5, rfl⟩ : ∃ y, y = x := ⟨x, rfl⟩
 have W : Stw ⟨Y, [], w0⟩ (OW b2 p3 b1 p0 v1 v2) [CI v5 C7 AY x1] w := W
 refine LV (q := 0) F W Aa Aa Aa Aa R9 fun i4036 m4036 e4036 c4036 l4036 a w hv4036 hE4036 F W => ?_
 have W : Stw ⟨Y, [], w0⟩ (OW b2 p3 b1 p0 v1 v2) [Hb i4036 m4036 c4036 #[] c4036, GL m4036 e4036 c4036] w := W
 refine Cv tk 3 F W fun a w F W => ?_
 have W := W.nilRow 63 Bo
 have W := W.frontZ (i := 2) Aa Aa
 have W := W.frontZ (i := 2) Aa Aa
 have W : Stw ⟨Y, [], w0⟩ (OW b2 p3 b1 p0 v1 v2) [Hb i4036 m4036 c4036 #[] c4036, GL m4036 e4036 c4036, row (Value.slice none 0 0) 63 Bo ([] : List (Int × (Int × Int × Int × Int)))] w := W
 obtain ⟨x2, h4, H⟩ := Ag H
 refine S9 (sl := 9) (v0 := (Value.slice none 0 0)) (Ff := [(0, .agg #[.int .i64 p0.un.1, .int .i64 p0.un.2.1.un.1, .int .i64 p0.un.2.1.un.2.1, .int .i64 p0.un.2.1.un.2.2.1, v1, .int .i64 p0.un.2.2.1, .int .i64 p0.un.2.2.2.1, v2]), (1, .int .i64 p1), (2, .int .i64 p2), (3, .agg #[.int .i64 p3.1, .int .i64 p3.2.1, .int .i64 p3.2.2.1, .int .i64 p3.2.2.2]), (4, .pointer (some ⟨b1, 0, none⟩)), (7, .pointer (some ⟨b2, 0, none⟩)), (8, .slice none 0 0), (11, .agg #[.int .i64 p0.un.1, .int .i64 p0.un.2.1.un.1, .int .i64 p0.un.2.1.un.2.1, .int .i64 p0.un.2.1.un.2.2.1, v1, .int .i64 p0.un.2.2.1, .int .i64 p0.un.2.2.2.1, v2]), (12, .int .i64 p1), (13, .int .i64 p2), (14, .agg #[.int .i64 p3.1, .int .i64 p3.2.1, .int .i64 p3.2.2.1, .int .i64 p3.2.2.2]), (15, .agg #[.int .i64 p2, .int .i64 p3.1, .int .i64 p3.2.1, .int .i64 p3.2.2.1, .int .i64 p3.2.2.2]), (16, v5)]) (Zr := []) (re := 63) (r := Bo) h4 (F.ra Aa) W hv4036 hE4036 Aa Aa (fun kx4036 v4036_ s4036 sn4036 a w ha4036 hc4036 F W => ?_) fun v4036_ lg4036 a w hp4036 F W => ?_
 ·
  have F : Fr 29 [] [(0, .agg #[.int .i64 p0.un.1, .int .i64 p0.un.2.1.un.1, .int .i64 p0.un.2.1.un.2.1, .int .i64 p0.un.2.1.un.2.2.1, v1, .int .i64 p0.un.2.2.1, .int .i64 p0.un.2.2.2.1, v2]), (1, .int .i64 p1), (2, .int .i64 p2), (3, .agg #[.int .i64 p3.1, .int .i64 p3.2.1, .int .i64 p3.2.2.1, .int .i64 p3.2.2.2]), (4, .pointer (some ⟨b1, 0, none⟩)), (7, .pointer (some ⟨b2, 0, none⟩)), (8, .slice none 0 0), (9, v4036_), (11, .agg #[.int .i64 p0.un.1, .int .i64 p0.un.2.1.un.1, .int .i64 p0.un.2.1.un.2.1, .int .i64 p0.un.2.1.un.2.2.1, v1, .int .i64 p0.un.2.2.1, .int .i64 p0.un.2.2.2.1, v2]), (12, .int .i64 p1), (13, .int .i64 p2), (14, .agg #[.int .i64 p3.1, .int .i64 p3.2.1, .int .i64 p3.2.2.1, .int .i64 p3.2.2.2]), (15, .agg #[.int .i64 p2, .int .i64 p3.1, .int .i64 p3.2.1, .int .i64 p3.2.2.1, .int .i64 p3.2.2.2]), (16, v5), (17, .pointer (some ⟨i4036, 0, none⟩)), (18, .tuple #[.bool true, .agg #[.int .i64 kx4036.1, .int .i64 kx4036.2.1, .int .i64 kx4036.2.2.1, .int .i64 kx4036.2.2.2.1, .int .i64 kx4036.2.2.2.2], .agg #[]]), (19, .bool true)] a := F.ra Aa
  have W : Stw ⟨Y, [], w0⟩ (OW b2 p3 b1 p0 v1 v2) [Hb i4036 m4036 c4036 sn4036 c4036, GL m4036 e4036 c4036, row v4036_ 63 Bo s4036] w := W
  refine vc tk 3 F W fun a w F W => ?_
  refine ls F W Aa (LQ (q := 0) (q' := 1) F Aa Aa Aa hc4036).q fun a w F W => ?_
  refine ls F W Aa (Dx (v := Value.agg #[.int .i64 kx4036.1, .int .i64 kx4036.2.1, .int .i64 kx4036.2.2.1, .int .i64 kx4036.2.2.2.1, .int .i64 kx4036.2.2.2.2]) F Aa Aa).q fun a w F W => ?_
  refine AF (cs := (T1)) F W Aa Xe Aa fun b3 a w F W => ?_
  refine DZ 0 F W Aa Aa Aa D4 Aa Aa Aa fun w W => ?_
  refine Gz tk 5 [0] F W (ai fun a w F W => ?_)
  refine Gs (z := Value.agg #[.int .i64 0, .int .i64 0, .int .i64 0, .int .i64 0, .int .i64 0]) (cs := (C1 kx4036)) Bo ([kx4036] : List (Int × (Int × Int × Int × Int))) F W Aa EJ Xe Aa Aa Aa Aa Aa Aa (EM.repL _ _ ([kx4036] : List (Int × (Int × Int × Int × Int)))) fun v6 a w F W => ?_
  refine IQ (r := Bo) (i := 3) F W Aa EJ Aa Aa Aa Aa (JX W 0 Aa) ha4036 Aa fun v7 a w F W => ?_
  have W : Stw ⟨Y, [], w0⟩ (Xf b3 kx4036 b2 p3 b1 p0 v1 v2) [row v7 63 Bo (s4036 ++ [kx4036]), row v6 63 Bo ([kx4036] : List (Int × (Int × Int × Int × Int))), Hb i4036 m4036 c4036 sn4036 c4036, GL m4036 e4036 c4036] w := W
  refine vl tk 2 F W fun a w F W => ?_
  refine AM (Ad ?_)
  have W := W.frontZ (i := 3) Aa Aa
  have W := W.frontZ (i := 3) Aa Aa
  have W := W.frontM (i := 2) Aa Aa
  have W := W.frontM (i := 2) Aa Aa
  have W := W.sub (M' := (OW b2 p3 b1 p0 v1 v2)) (Z' := [Hb i4036 m4036 c4036 sn4036 c4036, GL m4036 e4036 c4036, row v7 63 Bo (s4036 ++ [kx4036])]) (List.Sublist.cons_cons _ (List.Sublist.cons_cons _ (List.nil_sublist _))) (List.Sublist.cons_cons _ (List.Sublist.cons_cons _ (List.Sublist.cons_cons _ (List.nil_sublist _))))
  exact ⟨v7, F.ra Aa, W⟩
 have F : Fr 29 [] [(0, .agg #[.int .i64 p0.un.1, .int .i64 p0.un.2.1.un.1, .int .i64 p0.un.2.1.un.2.1, .int .i64 p0.un.2.1.un.2.2.1, v1, .int .i64 p0.un.2.2.1, .int .i64 p0.un.2.2.2.1, v2]), (1, .int .i64 p1), (2, .int .i64 p2), (3, .agg #[.int .i64 p3.1, .int .i64 p3.2.1, .int .i64 p3.2.2.1, .int .i64 p3.2.2.2]), (4, .pointer (some ⟨b1, 0, none⟩)), (7, .pointer (some ⟨b2, 0, none⟩)), (8, .slice none 0 0), (9, v4036_), (11, .agg #[.int .i64 p0.un.1, .int .i64 p0.un.2.1.un.1, .int .i64 p0.un.2.1.un.2.1, .int .i64 p0.un.2.1.un.2.2.1, v1, .int .i64 p0.un.2.2.1, .int .i64 p0.un.2.2.2.1, v2]), (12, .int .i64 p1), (13, .int .i64 p2), (14, .agg #[.int .i64 p3.1, .int .i64 p3.2.1, .int .i64 p3.2.2.1, .int .i64 p3.2.2.2]), (15, .agg #[.int .i64 p2, .int .i64 p3.1, .int .i64 p3.2.1, .int .i64 p3.2.2.1, .int .i64 p3.2.2.2]), (16, v5)] a := F.ra Aa
 have W : Stw ⟨Y, [], w0⟩ (OW b2 p3 b1 p0 v1 v2) [CI v5 C7 AY x1, row v4036_ 63 Bo lg4036] w := W
 refine Bx ?_
 refine vn tk 3 F W fun a w F W => ?_
 obtain ⟨x3, h5, H⟩ := Ag H
 have h6 := R5 h5 _ hp4036
 have W := W.frontZ (i := 1) Aa Aa
 refine A7 (Ml := []) (Zl := [row v4036_ 63 Bo lg4036]) (β := Unit) (rv := fun x => .tuple #[]) (MM := fun x => []) (ZZ := fun x => [row v4036_ 63 Bo x3]) F W Y8 Aa Aa (fun hL => GW _ _ w (v4036_) lg4036 _ h6 hL) fun x a w F W => ?_
 have W : Stw ⟨Y, [], w0⟩ (OW b2 p3 b1 p0 v1 v2) [row v4036_ 63 Bo x3, CI v5 C7 AY x1] w := W
 refine Cv tk 8 F W fun a w F W => ?_
 refine Am ?_
 have H := AC H
 subst H
 refine Ax (.inl Aa) F W Aa (Ap F Aa) ?_
 have W := W.sub (M' := []) (Z' := [row v4036_ 63 Bo x3]) (List.nil_sublist _) (List.Sublist.cons_cons _ (List.nil_sublist _))
 exact ⟨(v4036_), Aa, W⟩
theorem XQ : Has Tryz.prog 20 := CP Tryz.func20
def Fe (p0 : Int) : List UInt8 := (if p0 = 0 then ([115, 114, 99] : List UInt8) else (if p0 = 1 then ([100, 115, 116] : List UInt8) else (if p0 = 2 then ([107, 105, 110, 100] : List UInt8) else (if p0 = 3 then ([116, 97, 103] : List UInt8) else (if p0 = 4 then ([112, 111, 114, 116] : List UInt8) else (if p0 = 5 then ([115, 119, 105, 116, 99, 104] : List UInt8) else ([63] : List UInt8)))))))
theorem MY (Y : Nat → Prop) (w0 : World)  (p0 : Int) (r : List UInt8) (H : Fe p0 = r)  :
    Calls Tryz.prog 86 #[.int .i64 p0] w0 fun e w' => e = .returned (.string (bs r)) ∧ Below w0.heap.size w0 w' := by
 refine enter Tryz.func86 Aa Tryz.ntmps86 Aa fun a F => ?_
 have W := Stw.start Y w0
 unfold Fe at H
 refine vc tk 2 F W fun a w F W => ?_
 refine ls F W Aa (Bz (v := Value.string (bs ([] : List UInt8))) F Aa).q fun a w F W => ?_
 refine Cv tk 15 F W fun a w F W => ?_
 refine B9 F Aa (fun hb => ?_) fun hb => ?_
 ·
  have H := Cg (CQ hb) H
  rw [hb] at F
  refine vc tk 2 F W fun a w F W => ?_
  refine ls F W Aa (Bz (v := Value.string (bs ([115, 114, 99] : List UInt8))) F Aa).q fun a w F W => ?_
  refine Cv tk 2 F W fun a w F W => ?_
  refine Am (AH (Az ?_))
  subst H
  refine Ax (.inl Aa) F W Aa (Ap F Aa) ?_
  exact ⟨rfl, W.done⟩
 have H := Cf (CO hb) H
 rw [hb] at F
 refine vc tk 6 F W fun a w F W => ?_
 refine B9 F Aa (fun hb => ?_) fun hb => ?_
 ·
  have H := Cg (CQ hb) H
  rw [hb] at F
  refine vc tk 2 F W fun a w F W => ?_
  refine ls F W Aa (Bz (v := Value.string (bs ([100, 115, 116] : List UInt8))) F Aa).q fun a w F W => ?_
  refine Cv tk 2 F W fun a w F W => ?_
  refine Am (AH (Az ?_))
  subst H
  refine Ax (.inl Aa) F W Aa (Ap F Aa) ?_
  exact ⟨rfl, W.done⟩
 have H := Cf (CO hb) H
 rw [hb] at F
 refine vc tk 6 F W fun a w F W => ?_
 refine B9 F Aa (fun hb => ?_) fun hb => ?_
 ·
  have H := Cg (CQ hb) H
  rw [hb] at F
  refine vc tk 2 F W fun a w F W => ?_
  refine ls F W Aa (Bz (v := Value.string (bs ([107, 105, 110, 100] : List UInt8))) F Aa).q fun a w F W => ?_
  refine Cv tk 2 F W fun a w F W => ?_
  refine Am (AH (Az ?_))
  subst H
  refine Ax (.inl Aa) F W Aa (Ap F Aa) ?_
  exact ⟨rfl, W.done⟩
 have H := Cf (CO hb) H
 rw [hb] at F
 refine vc tk 6 F W fun a w F W => ?_
 refine B9 F Aa (fun hb => ?_) fun hb => ?_
 ·
  have H := Cg (CQ hb) H
  rw [hb] at F
  refine vc tk 2 F W fun a w F W => ?_
  refine ls F W Aa (Bz (v := Value.string (bs ([116, 97, 103] : List UInt8))) F Aa).q fun a w F W => ?_
  refine Cv tk 2 F W fun a w F W => ?_
  refine Am (AH (Az ?_))
  subst H
  refine Ax (.inl Aa) F W Aa (Ap F Aa) ?_
  exact ⟨rfl, W.done⟩
 have H := Cf (CO hb) H
 rw [hb] at F
 refine vc tk 6 F W fun a w F W => ?_
 refine B9 F Aa (fun hb => ?_) fun hb => ?_
 ·
  have H := Cg (CQ hb) H
  rw [hb] at F
  refine vc tk 2 F W fun a w F W => ?_
  refine ls F W Aa (Bz (v := Value.string (bs ([112, 111, 114, 116] : List UInt8))) F Aa).q fun a w F W => ?_
  refine Cv tk 2 F W fun a w F W => ?_
  refine Am (AH (Az ?_))
  subst H
  refine Ax (.inl Aa) F W Aa (Ap F Aa) ?_
  exact ⟨rfl, W.done⟩
 have H := Cf (CO hb) H
 rw [hb] at F
 refine vc tk 6 F W fun a w F W => ?_
 refine B9 F Aa (fun hb => ?_) fun hb => ?_
 ·
  have H := Cg (CQ hb) H
  rw [hb] at F
  refine vc tk 2 F W fun a w F W => ?_
  refine ls F W Aa (Bz (v := Value.string (bs ([115, 119, 105, 116, 99, 104] : List UInt8))) F Aa).q fun a w F W => ?_
  refine Cv tk 2 F W fun a w F W => ?_
  refine Am (AH (Az ?_))
  subst H
  refine Ax (.inl Aa) F W Aa (Ap F Aa) ?_
  exact ⟨rfl, W.done⟩
 have H := Cf (CO hb) H
 rw [hb] at F
 refine Bc (AM ?_)
 refine vn tk 2 F W fun a w F W => ?_
 refine ls F W Aa (Bz (v := Value.string (bs ([63] : List UInt8))) F Aa).q fun a w F W => ?_
 refine Cv tk 2 F W fun a w F W => ?_
 refine Am ?_
 subst H
 refine Ax (.inl Aa) F W Aa (Ap F Aa) ?_
 exact ⟨rfl, W.done⟩
theorem XX : type_of% Tryz.underlying89 := Tryz.underlying89
theorem Zt : Has Tryz.prog 86 := CP Tryz.func86
theorem YK : Has Tryz.prog 55 := CP Tryz.func55
theorem Uw : (Tryz.prog.info? 34).bind (·.zero) = some (.agg #[.int .i64 0, .int .i64 0, .int .i64 0, .slice none 0 0]) := by kernel_rfl
theorem XI : Has Tryz.prog 58 := CP Tryz.func58
theorem Z9 : (Tryz.prog.info? 9).bind (·.zero) = some (.string (bs ([] : List UInt8))) := by kernel_rfl
theorem Xq : Et Tryz.prog 89 9 1 16 := Et.of XX (by kernel_rfl) (by kernel_rfl) (by kernel_rfl) (by decide)
theorem Xk : Has Tryz.prog 56 := CP Tryz.func56
abbrev LH  : List Value := [.int .i64 0, .int .i64 0, .int .i64 0, .slice none 0 0]
def D5 (fRec_pred_Text : Tr34 → Option (List UInt8)) (p0 : List Tr34) : (List (List UInt8) × Int) → Option ((List (List UInt8) × Int) ⊕ (List (List UInt8)))
  | (x2, x3) => (if x3 < (p0.length : Int) then (ix p0 x3).bind fun x4 => (fRec_pred_Text x4).bind fun x5 => (if (decide (x4.un.1 = 5) || decide (x4.un.1 = 6)) = true then (IF ([40] : List UInt8) x5).bind fun x7 => (IF x7 ([41] : List UInt8)).bind fun x8 => some x8 else some x5).bind fun x6 => (IF x2 ([x6] : List (List UInt8))).bind fun x9 => some (.inl (x9, AU (x3 + 1))) else some (.inr x2))
def FZ (fRec_pred_Text : Tr34 → Option (List UInt8)) (p0 : List Tr34) (p1 : List UInt8) : Option (List UInt8) := (Ba (D5 fRec_pred_Text p0) ([], 0)).bind fun x1 => (LE x1 p1).bind fun x10 => some x10
theorem Kw (fRec_pred_Text : Tr34 → Option (List UInt8)) (ih_pred_Text : ∀ (Y : Nat → Prop) (w0 : World) (v1 : Value) (p0 : Tr34) (r : List UInt8) (H : fRec_pred_Text p0 = some r) (h_v1 : Sl w0 (NX []) Bj v1 p0.un.2.2.2) (hG : Gk [] w0), Calls Tryz.prog 58 #[.agg #[.int .i64 p0.un.1, .int .i64 p0.un.2.1, .int .i64 p0.un.2.2.1, v1]] w0 fun e w' => e = .returned (.string (bs r)) ∧ Below w0.heap.size w0 w') (Y : Nat → Prop) (w0 : World) (v1 : Value) (p0 : List Tr34) (p1 : List UInt8) (r : List UInt8) (H : FZ fRec_pred_Text p0 p1 = some r) (h_v1 : Sl w0 (NX []) Bj v1 p0) (hG : Gk [] w0) :
    Calls Tryz.prog 87 #[v1, .string (bs p1)] w0 fun e w' => e = .returned (.string (bs r)) ∧ Below w0.heap.size w0 w' := by
 refine enter Tryz.func87 Aa Tryz.ntmps87 Aa fun a F => ?_
 have W := Stw.start Y w0
 obtain ⟨v2, h1, h_v1⟩ := h_v1.ex Co
 unfold FZ at H
 refine vc tk 2 F W fun a w F W => ?_
 refine ls F W Aa (Bz (v := Value.string (bs ([] : List UInt8))) F Aa).q fun a w F W => ?_
 refine Cv tk 7 F W fun a w F W => ?_
 obtain ⟨o1, G1, K1⟩ := Ag H
 refine AA (fun a w => ∃ x1 : List (List UInt8), ∃ v3 : Value, some (x1) = some o1 ∧ Fr 36 [] [(1, .string (bs p1)), (4, .string (bs ([] : List UInt8))), (5, v3)] a ∧ Stw ⟨Y, [], w0⟩ [] [row v3 9 Rp.str x1] w) ?_ ?_
 ·
  have H := G1
  refine vc tk 3 F W fun a w F W => ?_
  refine ls F W Aa (C2 (r := Bj) (l := p0) Lk Aa F Aa (Ak Co h1 (Ah h_v1))).q fun a w F W => ?_
  refine Cv tk 4 F W fun a w F W => ?_
  have W := W.nilRow 9 Rp.str
  refine BN H (fun s a w => ∃ v4 : Value, Fr 36 [] [(1, .string (bs p1)), (4, .string (bs ([] : List UInt8))), (5, v4), (9, v1), (10, .int .i64 (p0.length : Int)), (11, .int .i64 s.2)] a ∧ Stw ⟨Y, [], w0⟩ [] [row v4 9 Rp.str s.1] w) ⟨(Value.slice none 0 0), F.ra Aa, W⟩ fun s o a w H L2 hR => ?_
  obtain ⟨x2, x3⟩ := s
  obtain ⟨v4, F, W⟩ := hR
  have F : Fr 36 [] [(1, .string (bs p1)), (4, .string (bs ([] : List UInt8))), (5, v4), (9, v1), (10, .int .i64 (p0.length : Int)), (11, .int .i64 x3)] a := F
  have W : Stw ⟨Y, [], w0⟩ [] [row v4 9 Rp.str x2] w := W
  rw [D5] at H
  refine vc tk 6 F W fun a w F W => ?_
  refine BU F Aa H (fun F H => ?_) fun F H => ?_
  ·
   refine Gp tk 6 F W fun a w F W => ?_
   obtain ⟨x4, h2, H⟩ := Ag H
   obtain ⟨v5, h3, h4⟩ := DQ h1 h2
   have h5 : J4 v5 = [.int .i64 x4.un.1, .int .i64 x4.un.2.1, .int .i64 x4.un.2.2.1, (v5.2.2.2.1)] := congrArg (fun q : Tr34 => ([.int .i64 q.un.1, .int .i64 q.un.2.1, .int .i64 q.un.2.2.1, (v5.2.2.2.1)] : List Value)) h4
   refine ls F W Aa (Aw (r := Gr) Tk F Aa Aa (Ah h_v1) h3).q fun a w F W => ?_
   refine ls F W Aa (An (y := Value.agg #[.int .i64 x4.un.1, .int .i64 x4.un.2.1, .int .i64 x4.un.2.2.1, (v5.2.2.2.1)]) (j := 0) (i := x3) (enc := J4) F Aa Aa (Ah h_v1) h3 Qn MT (by rw [h5]; rfl)).q fun a w F W => ?_
   refine AF (cs := (LH)) F W Aa Uw Aa fun b1 a w F W => ?_
   refine DZ 0 F W Aa Aa Aa MT Aa Aa (Af Aa (Af Aa (Af Aa (Af ((Br (Ah h_v1) h3 (Ai.snd (Ai.snd (Ai.snd Ai.here))) (congrArg (fun q : Tr34 => q.un.2.2.2) h4)) _ W).one CT)))) fun w W => ?_
   refine Gz tk 5 [0] F W (ai fun a w F W => ?_)
   obtain ⟨x5, h6, H⟩ := Ag H
   refine ls F W Aa (AL (v := Value.string (bs x5)) F XI Aa (fun w W => ih_pred_Text any w ((v5.2.2.2.1)) x4 _ h6 (Er (Br (Ah h_v1) h3 (Ai.snd (Ai.snd (Ai.snd Ai.here))) (congrArg (fun q : Tr34 => q.un.2.2.2) h4)) W) (hG.go0 W))) fun a w F W => ?_
   refine vl tk 2 F W fun a w F W => ?_
   refine Ad ?_
   obtain ⟨o3, G3, K3⟩ := Ag H
   refine AA (fun a w => ∃ x6 : List UInt8, some (x6) = some o3 ∧ Fr 36 [] [(1, .string (bs p1)), (4, .string (bs ([] : List UInt8))), (5, v4), (8, .string (bs x6)), (9, v1), (10, .int .i64 (p0.length : Int)), (11, .int .i64 x3)] a ∧ Stw ⟨Y, [], w0⟩ [(b1, [.int .i64 x4.un.1, .int .i64 x4.un.2.1, .int .i64 x4.un.2.2.1, (v5.2.2.2.1)])] [row v4 9 Rp.str x2] w) ?_ ?_
   ·
    have H := G3
    refine AA (fun a w => Fr 36 [] [(1, .string (bs p1)), (4, .string (bs ([] : List UInt8))), (5, v4), (8, .string (bs x5)), (9, v1), (10, .int .i64 (p0.length : Int)), (11, .int .i64 x3), (24, .bool (decide (x4.un.1 = 5) || decide (x4.un.1 = 6)))] a ∧ Stw ⟨Y, [], w0⟩ [(b1, [.int .i64 x4.un.1, .int .i64 x4.un.2.1, .int .i64 x4.un.2.2.1, (v5.2.2.2.1)])] [row v4 9 Rp.str x2] w) ?_ ?_
    ·
     refine FR tk 5 [0] F W (ai fun a w F W => ?_)
     rcases bxq (decide (x4.un.1 = 5)) with hb0 | hb0
     ·
      rw [hb0] at F
      refine vl tk 5 F W fun a w F W => ?_
      refine Ad ?_
      exact ⟨F.re ⟨rfl, Aa, Aa, Aa, Aa, Aa, Aa, (DX (by try rw [hb0]; all_goals simp only [DW])), trivial⟩, W⟩
     rw [hb0] at F
     refine Hw tk 5 [0] F W (ai fun a w F W => ?_)
     refine Ad ?_
     exact ⟨F.re ⟨rfl, Aa, Aa, Aa, Aa, Aa, Aa, (DX (by try rw [hb0]; all_goals simp only [DW])), trivial⟩, W⟩
    rintro a w ⟨F, W⟩
    refine CK F Aa H (fun F H => ?_) fun F H => ?_
    ·
     refine vc tk 2 F W fun a w F W => ?_
     obtain ⟨x7, h7, H⟩ := Ag H
     refine ls F W Aa (HU (l := ([40] : List UInt8)) (m := x5) F Aa Aa h7).q fun a w F W => ?_
     obtain ⟨x8, h8, H⟩ := Ag H
     refine ls F W Aa (HU (l := x7) (m := ([41] : List UInt8)) F Aa Aa h8).q fun a w F W => ?_
     refine vl tk 2 F W fun a w F W => ?_
     refine Ad ?_
     exact ⟨_, H, F.ra Aa, W⟩
    refine Bc (Ad ?_)
    exact ⟨_, H, F.ra Aa, W⟩
   rintro a w ⟨x6, hj, F, W⟩
   have hj := AC hj
   subst hj
   have H := K3
   refine vc tk 3 F W fun a w F W => ?_
   refine Gs (z := Value.string (bs ([] : List UInt8))) (cs := [.string (bs x6)]) Rp.str ([x6] : List (List UInt8)) F W Aa Xq Z9 Aa Aa Aa Aa Aa Aa (Fl.str.repL _ _ ([x6] : List (List UInt8))) fun v6 a w F W => ?_
   obtain ⟨x9, h9, H⟩ := Ag H
   refine IQ (r := Rp.str) (i := 1) F W Aa Xq Aa Aa Aa Aa (JX W 0 Aa) h9 Aa fun v7 a w F W => ?_
   have W : Stw ⟨Y, [], w0⟩ [(b1, [.int .i64 x4.un.1, .int .i64 x4.un.2.1, .int .i64 x4.un.2.2.1, (v5.2.2.2.1)])] [row v7 9 Rp.str x9, row v6 9 Rp.str ([x6] : List (List UInt8))] w := W
   refine vl tk 2 F W fun a w F W => ?_
   refine AM ?_
   refine vn tk 4 F W fun a w F W => ?_
   refine Ad ?_
   have W := W.sub (M' := []) (Z' := [row v7 9 Rp.str x9]) (List.nil_sublist _) (List.Sublist.cons_cons _ (List.nil_sublist _))
   exact ⟨_, H, (v7), F.ra Aa, W⟩
  refine BB ?_
  iterate 2 refine BR ?_
  refine Bx (Ad ?_)
  have H := L2 _ H
  exact ⟨_, (v4), H, F.ra Aa, W⟩
 rintro a w ⟨x1, v3, hj, F, W⟩
 have hj := AC hj
 subst hj
 have H := K1
 refine vc tk 4 F W fun a w F W => ?_
 obtain ⟨x10, h10, H⟩ := Ag H
 refine ls F W Aa (AL (v := Value.string (bs x10)) F Xk Aa (fun w W => Qs any w (v3) x1 p1 _ h10 (Er (Al 0 Aa) W))) fun a w F W => ?_
 refine Cv tk 3 F W fun a w F W => ?_
 refine Am ?_
 have H := AC H
 subst H
 refine Ax (.inl Aa) F W Aa (Ap F Aa) ?_
 exact ⟨rfl, W.done⟩
theorem Xx : Has Tryz.prog 87 := CP Tryz.func87
def EQ (fRec : Tr34 → Option (List UInt8)) (p0 : Tr34) : Option (List UInt8) := (if p0.un.1 = 1 then some ([116, 114, 117, 101] : List UInt8) else (if p0.un.1 = 2 then some ([102, 97, 108, 115, 101] : List UInt8) else (if p0.un.1 = 3 then (IF (Fe p0.un.2.1) ([32, 61, 32] : List UInt8)).bind fun x1 => (PH p0.un.2.2.1).bind fun x2 => (IF x1 x2).bind fun x3 => some x3 else (if p0.un.1 = 4 then ((FZ fRec) p0.un.2.2.2 ([] : List UInt8)).bind fun x4 => (IF ([110, 111, 116, 32] : List UInt8) x4).bind fun x5 => some x5 else (if p0.un.1 = 5 then ((FZ fRec) p0.un.2.2.2 ([32, 97, 110, 100, 32] : List UInt8)).bind fun x6 => some x6 else (if p0.un.1 = 6 then ((FZ fRec) p0.un.2.2.2 ([32, 111, 114, 32] : List UInt8)).bind fun x7 => some x7 else some ([63] : List UInt8)))))))
def Fw : Nat → Tr34 → Option (List UInt8)
  | 0 => fun _ => none
  | n + 1 => EQ (Fw n)
def Ld (p0 : Tr34) : Option (List UInt8) := HC fun n => Fw n p0
theorem Po (fRec : Tr34 → Option (List UInt8)) (ih : ∀ (Y : Nat → Prop) (w0 : World) (v1 : Value) (p0 : Tr34) (r : List UInt8) (H : fRec p0 = some r) (h_v1 : Sl w0 (NX []) Bj v1 p0.un.2.2.2) (hG : Gk [] w0), Calls Tryz.prog 58 #[.agg #[.int .i64 p0.un.1, .int .i64 p0.un.2.1, .int .i64 p0.un.2.2.1, v1]] w0 fun e w' => e = .returned (.string (bs r)) ∧ Below w0.heap.size w0 w') (Y : Nat → Prop) (w0 : World) (v1 : Value) (p0 : Tr34) (r : List UInt8) (H : EQ fRec p0 = some r) (h_v1 : Sl w0 (NX []) Bj v1 p0.un.2.2.2) (hG : Gk [] w0) :
    Calls Tryz.prog 58 #[.agg #[.int .i64 p0.un.1, .int .i64 p0.un.2.1, .int .i64 p0.un.2.2.1, v1]] w0 fun e w' => e = .returned (.string (bs r)) ∧ Below w0.heap.size w0 w' := by
 refine enter Tryz.func58 Aa Tryz.ntmps58 Aa fun a F => ?_
 have W := Stw.start Y w0
 obtain ⟨v2, h1, h_v1⟩ := h_v1.ex Co
 unfold EQ at H
 refine vc tk 2 F W fun a w F W => ?_
 refine CX (cs := (F1 p0 v1)) F W Aa Aa Aa fun b1 a w F W => ?_
 refine ls F W Aa (Bz (v := Value.string (bs ([] : List UInt8))) F Aa).q fun a w F W => ?_
 refine Gz tk 16 [0] F W (ai fun a w F W => ?_)
 refine B9 F Aa (fun hb => ?_) fun hb => ?_
 ·
  have H := Cg (CQ hb) H
  rw [hb] at F
  refine vc tk 2 F W fun a w F W => ?_
  refine ls F W Aa (Bz (v := Value.string (bs ([116, 114, 117, 101] : List UInt8))) F Aa).q fun a w F W => ?_
  refine Cv tk 2 F W fun a w F W => ?_
  refine Am (AH (Az ?_))
  have H := AC H
  subst H
  refine Ax (.inl Aa) F W Aa (Ap F Aa) ?_
  exact ⟨rfl, W.done⟩
 have H := Cf (CO hb) H
 rw [hb] at F
 refine vc tk 6 F W fun a w F W => ?_
 refine B9 F Aa (fun hb => ?_) fun hb => ?_
 ·
  have H := Cg (CQ hb) H
  rw [hb] at F
  refine vc tk 2 F W fun a w F W => ?_
  refine ls F W Aa (Bz (v := Value.string (bs ([102, 97, 108, 115, 101] : List UInt8))) F Aa).q fun a w F W => ?_
  refine Cv tk 2 F W fun a w F W => ?_
  refine Am (AH (Az ?_))
  have H := AC H
  subst H
  refine Ax (.inl Aa) F W Aa (Ap F Aa) ?_
  exact ⟨rfl, W.done⟩
 have H := Cf (CO hb) H
 rw [hb] at F
 refine vc tk 6 F W fun a w F W => ?_
 refine B9 F Aa (fun hb => ?_) fun hb => ?_
 ·
  have H := Cg (CQ hb) H
  rw [hb] at F
  refine GK ?_
  refine CH W MO (by kernel_rfl) ?_
  refine qs F Aa (As Lj Aa Aa Aa T3 F Aa 1 Aa).q fun a F => ?_
  refine qs F Aa (Bu (v := Value.int .i64 p0.un.2.1) 0 F Aa Aa T3 Aa).q fun a F => ?_
  refine qs F Aa (AL (v := Value.string (bs (Fe p0.un.2.1))) F Zt Aa (fun w W => MY any w p0.un.2.1 _ Aa)) fun a F => ?_
  obtain ⟨x1, h2, H⟩ := Ag H
  refine qs F Aa (HU (l := (Fe p0.un.2.1)) (m := ([32, 61, 32] : List UInt8)) F Aa Aa h2).q fun a F => ?_
  refine qs F Aa (As Lj Aa Aa Aa T3 F Aa 2 Aa).q fun a F => ?_
  refine qs F Aa (Bu (v := Value.int .i64 p0.un.2.2.1) 0 F Aa Aa T3 Aa).q fun a F => ?_
  obtain ⟨x2, h3, H⟩ := Ag H
  refine qs F Aa (AL (v := Value.string (bs x2)) F YK Aa (fun w W => TY any w p0.un.2.2.1 _ h3 (hG.go0 W))) fun a F => ?_
  obtain ⟨x3, h4, H⟩ := Ag H
  refine qs F Aa (HU (l := x1) (m := x2) F Aa Aa h4).q fun a F => ?_
  refine qs F Aa (Bz F Aa).q fun a F => ?_
  refine AO fun w W => ?_
  refine Ad (Am (AH (Az ?_)))
  have H := AC H
  subst H
  refine Ax (.inl Aa) F W Aa (Ap F Aa) ?_
  exact ⟨rfl, W.done⟩
 have H := Cf (CO hb) H
 rw [hb] at F
 refine vc tk 6 F W fun a w F W => ?_
 refine B9 F Aa (fun hb => ?_) fun hb => ?_
 ·
  have H := Cg (CQ hb) H
  rw [hb] at F
  refine FR tk 4 [0] F W (ai fun a w F W => ?_)
  obtain ⟨x4, h5, H⟩ := Ag H
  refine ls F W Aa (AL (v := Value.string (bs x4)) F Xx Aa (fun w W => (Kw fRec ih) any w (v1) p0.un.2.2.2 ([] : List UInt8) _ h5 (Er (Ak Co h1 (Ah h_v1)) W) (hG.go0 W))) fun a w F W => ?_
  obtain ⟨x5, h6, H⟩ := Ag H
  refine ls F W Aa (HU (l := ([110, 111, 116, 32] : List UInt8)) (m := x4) F Aa Aa h6).q fun a w F W => ?_
  refine Cv tk 3 F W fun a w F W => ?_
  refine Am (AH (Az ?_))
  have H := AC H
  subst H
  refine Ax (.inl Aa) F W Aa (Ap F Aa) ?_
  exact ⟨rfl, W.done⟩
 have H := Cf (CO hb) H
 rw [hb] at F
 refine vc tk 6 F W fun a w F W => ?_
 refine B9 F Aa (fun hb => ?_) fun hb => ?_
 ·
  have H := Cg (CQ hb) H
  rw [hb] at F
  refine FR tk 4 [0] F W (ai fun a w F W => ?_)
  obtain ⟨x6, h7, H⟩ := Ag H
  refine ls F W Aa (AL (v := Value.string (bs x6)) F Xx Aa (fun w W => (Kw fRec ih) any w (v1) p0.un.2.2.2 ([32, 97, 110, 100, 32] : List UInt8) _ h7 (Er (Ak Co h1 (Ah h_v1)) W) (hG.go0 W))) fun a w F W => ?_
  refine Cv tk 3 F W fun a w F W => ?_
  refine Am (AH (Az ?_))
  have H := AC H
  subst H
  refine Ax (.inl Aa) F W Aa (Ap F Aa) ?_
  exact ⟨rfl, W.done⟩
 have H := Cf (CO hb) H
 rw [hb] at F
 refine vc tk 6 F W fun a w F W => ?_
 refine B9 F Aa (fun hb => ?_) fun hb => ?_
 ·
  have H := Cg (CQ hb) H
  rw [hb] at F
  refine FR tk 4 [0] F W (ai fun a w F W => ?_)
  obtain ⟨x7, h8, H⟩ := Ag H
  refine ls F W Aa (AL (v := Value.string (bs x7)) F Xx Aa (fun w W => (Kw fRec ih) any w (v1) p0.un.2.2.2 ([32, 111, 114, 32] : List UInt8) _ h8 (Er (Ak Co h1 (Ah h_v1)) W) (hG.go0 W))) fun a w F W => ?_
  refine Cv tk 3 F W fun a w F W => ?_
  refine Am (AH (Az ?_))
  have H := AC H
  subst H
  refine Ax (.inl Aa) F W Aa (Ap F Aa) ?_
  exact ⟨rfl, W.done⟩
 have H := Cf (CO hb) H
 rw [hb] at F
 refine Bc (AM ?_)
 refine vn tk 2 F W fun a w F W => ?_
 refine ls F W Aa (Bz (v := Value.string (bs ([63] : List UInt8))) F Aa).q fun a w F W => ?_
 refine Cv tk 2 F W fun a w F W => ?_
 refine Am ?_
 have H := AC H
 subst H
 refine Ax (.inl Aa) F W Aa (Ap F Aa) ?_
 exact ⟨rfl, W.done⟩
theorem Qx : ∀ (n : Nat) (Y : Nat → Prop) (w0 : World) (v1 : Value) (p0 : Tr34) (r : List UInt8) (H : Fw n p0 = some r) (h_v1 : Sl w0 (NX []) Bj v1 p0.un.2.2.2) (hG : Gk [] w0), Calls Tryz.prog 58 #[.agg #[.int .i64 p0.un.1, .int .i64 p0.un.2.1, .int .i64 p0.un.2.2.1, v1]] w0 fun e w' => e = .returned (.string (bs r)) ∧ Below w0.heap.size w0 w' := by
  intro n
  induction n with
  | zero => intro Y w0 v1 p0 r H; exact nomatch H
  | succ n ih => intro Y w0 v1 p0 r H h_v1 hG; exact Po (Fw n) ih Y w0 v1 p0 r H h_v1 hG
theorem Nr (Y : Nat → Prop) (w0 : World) (v1 : Value) (p0 : Tr34) (r : List UInt8) (H : Ld p0 = some r) (h_v1 : Sl w0 (NX []) Bj v1 p0.un.2.2.2) (hG : Gk [] w0) :
    Calls Tryz.prog 58 #[.agg #[.int .i64 p0.un.1, .int .i64 p0.un.2.1, .int .i64 p0.un.2.2.1, v1]] w0 fun e w' => e = .returned (.string (bs r)) ∧ Below w0.heap.size w0 w' := by
  obtain ⟨n, H⟩ := CZ H
  exact Qx n Y w0 v1 p0 r H h_v1 hG
def ET (p0 : Tr34) : Option (List UInt8) := (if p0.un.1 = 1 then some ([105, 100] : List UInt8) else (if p0.un.1 = 2 then some ([100, 114, 111, 112] : List UInt8) else (Ld p0).bind fun x1 => (IF ([119, 104, 101, 110, 32] : List UInt8) x1).bind fun x2 => some x2))
theorem Lh (Y : Nat → Prop) (w0 : World) (v1 : Value) (p0 : Tr34) (r : List UInt8) (H : ET p0 = some r) (h_v1 : Sl w0 (NX []) Bj v1 p0.un.2.2.2) (hG : Gk [] w0) :
    Calls Tryz.prog 53 #[.agg #[.int .i64 p0.un.1, .int .i64 p0.un.2.1, .int .i64 p0.un.2.2.1, v1]] w0 fun e w' => e = .returned (.string (bs r)) ∧ Below w0.heap.size w0 w' := by
 refine enter Tryz.func53 Aa Tryz.ntmps53 Aa fun a F => ?_
 have W := Stw.start Y w0
 obtain ⟨v2, h1, h_v1⟩ := h_v1.ex Co
 unfold ET at H
 refine vc tk 2 F W fun a w F W => ?_
 refine CX (cs := (F1 p0 v1)) F W Aa Aa Aa fun b1 a w F W => ?_
 refine ls F W Aa (Bz (v := Value.string (bs ([] : List UInt8))) F Aa).q fun a w F W => ?_
 refine Gz tk 16 [0] F W (ai fun a w F W => ?_)
 refine B9 F Aa (fun hb => ?_) fun hb => ?_
 ·
  have H := Cg (CQ hb) H
  rw [hb] at F
  refine vc tk 2 F W fun a w F W => ?_
  refine ls F W Aa (Bz (v := Value.string (bs ([105, 100] : List UInt8))) F Aa).q fun a w F W => ?_
  refine Cv tk 2 F W fun a w F W => ?_
  refine Am (AH (Az ?_))
  have H := AC H
  subst H
  refine Ax (.inl Aa) F W Aa (Ap F Aa) ?_
  exact ⟨rfl, W.done⟩
 have H := Cf (CO hb) H
 rw [hb] at F
 refine vc tk 6 F W fun a w F W => ?_
 refine B9 F Aa (fun hb => ?_) fun hb => ?_
 ·
  have H := Cg (CQ hb) H
  rw [hb] at F
  refine vc tk 2 F W fun a w F W => ?_
  refine ls F W Aa (Bz (v := Value.string (bs ([100, 114, 111, 112] : List UInt8))) F Aa).q fun a w F W => ?_
  refine Cv tk 2 F W fun a w F W => ?_
  refine Am (AH (Az ?_))
  have H := AC H
  subst H
  refine Ax (.inl Aa) F W Aa (Ap F Aa) ?_
  exact ⟨rfl, W.done⟩
 have H := Cf (CO hb) H
 rw [hb] at F
 refine Bc (AM ?_)
 refine XV tk 3 [0] F W (ai fun a w F W => ?_)
 obtain ⟨x1, h2, H⟩ := Ag H
 refine ls F W Aa (AL (v := Value.string (bs x1)) F XI Aa (fun w W => Nr any w (v1) p0 _ h2 (Er (Ak Co h1 (Ah h_v1)) W) (hG.go0 W))) fun a w F W => ?_
 obtain ⟨x2, h3, H⟩ := Ag H
 refine ls F W Aa (HU (l := ([119, 104, 101, 110, 32] : List UInt8)) (m := x1) F Aa Aa h3).q fun a w F W => ?_
 refine Cv tk 3 F W fun a w F W => ?_
 refine Am ?_
 have H := AC H
 subst H
 refine Ax (.inl Aa) F W Aa (Ap F Aa) ?_
 exact ⟨rfl, W.done⟩
theorem Zg : Has Tryz.prog 53 := CP Tryz.func53
def Ei (p0 : Int) : List UInt8 := (if p0 = 0 then ([115, 114, 99] : List UInt8) else (if p0 = 1 then ([100, 115, 116] : List UInt8) else (if p0 = 2 then ([107, 105, 110, 100] : List UInt8) else (if p0 = 3 then ([116, 97, 103] : List UInt8) else (if p0 = 4 then ([112, 111, 114, 116] : List UInt8) else ([63] : List UInt8))))))
theorem LI (Y : Nat → Prop) (w0 : World)  (p0 : Int) (r : List UInt8) (H : Ei p0 = r)  :
    Calls Tryz.prog 54 #[.int .i64 p0] w0 fun e w' => e = .returned (.string (bs r)) ∧ Below w0.heap.size w0 w' := by
 refine enter Tryz.func54 Aa Tryz.ntmps54 Aa fun a F => ?_
 have W := Stw.start Y w0
 unfold Ei at H
 refine vc tk 2 F W fun a w F W => ?_
 refine ls F W Aa (Bz (v := Value.string (bs ([] : List UInt8))) F Aa).q fun a w F W => ?_
 refine Cv tk 15 F W fun a w F W => ?_
 refine B9 F Aa (fun hb => ?_) fun hb => ?_
 ·
  have H := Cg (CQ hb) H
  rw [hb] at F
  refine vc tk 2 F W fun a w F W => ?_
  refine ls F W Aa (Bz (v := Value.string (bs ([115, 114, 99] : List UInt8))) F Aa).q fun a w F W => ?_
  refine Cv tk 2 F W fun a w F W => ?_
  refine Am (AH (Az ?_))
  subst H
  refine Ax (.inl Aa) F W Aa (Ap F Aa) ?_
  exact ⟨rfl, W.done⟩
 have H := Cf (CO hb) H
 rw [hb] at F
 refine vc tk 6 F W fun a w F W => ?_
 refine B9 F Aa (fun hb => ?_) fun hb => ?_
 ·
  have H := Cg (CQ hb) H
  rw [hb] at F
  refine vc tk 2 F W fun a w F W => ?_
  refine ls F W Aa (Bz (v := Value.string (bs ([100, 115, 116] : List UInt8))) F Aa).q fun a w F W => ?_
  refine Cv tk 2 F W fun a w F W => ?_
  refine Am (AH (Az ?_))
  subst H
  refine Ax (.inl Aa) F W Aa (Ap F Aa) ?_
  exact ⟨rfl, W.done⟩
 have H := Cf (CO hb) H
 rw [hb] at F
 refine vc tk 6 F W fun a w F W => ?_
 refine B9 F Aa (fun hb => ?_) fun hb => ?_
 ·
  have H := Cg (CQ hb) H
  rw [hb] at F
  refine vc tk 2 F W fun a w F W => ?_
  refine ls F W Aa (Bz (v := Value.string (bs ([107, 105, 110, 100] : List UInt8))) F Aa).q fun a w F W => ?_
  refine Cv tk 2 F W fun a w F W => ?_
  refine Am (AH (Az ?_))
  subst H
  refine Ax (.inl Aa) F W Aa (Ap F Aa) ?_
  exact ⟨rfl, W.done⟩
 have H := Cf (CO hb) H
 rw [hb] at F
 refine vc tk 6 F W fun a w F W => ?_
 refine B9 F Aa (fun hb => ?_) fun hb => ?_
 ·
  have H := Cg (CQ hb) H
  rw [hb] at F
  refine vc tk 2 F W fun a w F W => ?_
  refine ls F W Aa (Bz (v := Value.string (bs ([116, 97, 103] : List UInt8))) F Aa).q fun a w F W => ?_
  refine Cv tk 2 F W fun a w F W => ?_
  refine Am (AH (Az ?_))
  subst H
  refine Ax (.inl Aa) F W Aa (Ap F Aa) ?_
  exact ⟨rfl, W.done⟩
 have H := Cf (CO hb) H
 rw [hb] at F
 refine vc tk 6 F W fun a w F W => ?_
 refine B9 F Aa (fun hb => ?_) fun hb => ?_
 ·
  have H := Cg (CQ hb) H
  rw [hb] at F
  refine vc tk 2 F W fun a w F W => ?_
  refine ls F W Aa (Bz (v := Value.string (bs ([112, 111, 114, 116] : List UInt8))) F Aa).q fun a w F W => ?_
  refine Cv tk 2 F W fun a w F W => ?_
  refine Am (AH (Az ?_))
  subst H
  refine Ax (.inl Aa) F W Aa (Ap F Aa) ?_
  exact ⟨rfl, W.done⟩
 have H := Cf (CO hb) H
 rw [hb] at F
 refine Bc (AM ?_)
 refine vn tk 2 F W fun a w F W => ?_
 refine ls F W Aa (Bz (v := Value.string (bs ([63] : List UInt8))) F Aa).q fun a w F W => ?_
 refine Cv tk 2 F W fun a w F W => ?_
 refine Am ?_
 subst H
 refine Ax (.inl Aa) F W Aa (Ap F Aa) ?_
 exact ⟨rfl, W.done⟩
theorem Zo : Has Tryz.prog 54 := CP Tryz.func54
theorem Yw : Has Tryz.prog 25 := CP Tryz.func25
def Cz (fRec_policy_Text : Tr37 → Option (List UInt8)) (p0 : List Tr37) : (List (List UInt8) × Int) → Option ((List (List UInt8) × Int) ⊕ (List (List UInt8)))
  | (x2, x3) => (if x3 < (p0.length : Int) then (ix p0 x3).bind fun x4 => (fRec_policy_Text (Tr37.of (x4.un.1, Tr34.of (x4.un.2.1.un.1, x4.un.2.1.un.2.1, x4.un.2.1.un.2.2.1, x4.un.2.1.un.2.2.2), x4.un.2.2.1, x4.un.2.2.2.1, x4.un.2.2.2.2))).bind fun x5 => (if (decide (x4.un.1 = 3) || (decide (x4.un.1 = 4) || decide (x4.un.1 = 5))) = true then (IF ([40] : List UInt8) x5).bind fun x7 => (IF x7 ([41] : List UInt8)).bind fun x8 => some x8 else some x5).bind fun x6 => (IF x2 ([x6] : List (List UInt8))).bind fun x9 => some (.inl (x9, AU (x3 + 1))) else some (.inr x2))
def CS (fRec_policy_Text : Tr37 → Option (List UInt8)) (p0 : List Tr37) : Option (List (List UInt8)) := (Ba (Cz fRec_policy_Text p0) ([], 0)).bind fun x1 => some x1
theorem GR (fRec_policy_Text : Tr37 → Option (List UInt8)) (ih_policy_Text : ∀ (Y : Nat → Prop) (w0 : World) (v1 : Value) (v2 : Value) (p0 : Tr37) (r : List UInt8) (H : fRec_policy_Text p0 = some r) (h_v1 : Sl w0 (NX []) Bj v1 p0.un.2.1.un.2.2.2) (h_v2 : Sl w0 (NX []) Bl v2 p0.un.2.2.2.2) (hG : Gk [] w0), Calls Tryz.prog 25 #[.agg #[.int .i64 p0.un.1, .int .i64 p0.un.2.1.un.1, .int .i64 p0.un.2.1.un.2.1, .int .i64 p0.un.2.1.un.2.2.1, v1, .int .i64 p0.un.2.2.1, .int .i64 p0.un.2.2.2.1, v2]] w0 fun e w' => e = .returned (.string (bs r)) ∧ Below w0.heap.size w0 w') (Y : Nat → Prop) (w0 : World) (v1 : Value) (p0 : List Tr37) (r : List (List UInt8)) (H : CS fRec_policy_Text p0 = some r) (h_v1 : Sl w0 (NX []) Bl v1 p0) (hG : Gk [] w0) :
    Calls Tryz.prog 57 #[v1] w0 fun e w' => ∃ x : Value, e = .returned (x) ∧ Stw ⟨Y, [], w0⟩ [] [row (x) 9 Rp.str r] w' := by
 refine enter Tryz.func57 Aa Tryz.ntmps57 Aa fun a F => ?_
 have W := Stw.start Y w0
 obtain ⟨v2, h1, h_v1⟩ := h_v1.ex Dy
 unfold CS at H
 refine vc tk 10 F W fun a w F W => ?_
 obtain ⟨o1, G1, K1⟩ := Ag H
 refine AA (fun a w => ∃ x1 : List (List UInt8), ∃ v3 : Value, some (x1) = some o1 ∧ Fr 37 [] [(2, .slice none 0 0), (3, v3)] a ∧ Stw ⟨Y, [], w0⟩ [] [row v3 9 Rp.str x1] w) ?_ ?_
 ·
  have H := G1
  refine vc tk 3 F W fun a w F W => ?_
  refine ls F W Aa (C2 (r := Bl) (l := p0) LU Aa F Aa (Ak Dy h1 (Ah h_v1))).q fun a w F W => ?_
  refine Cv tk 4 F W fun a w F W => ?_
  have W := W.nilRow 9 Rp.str
  refine BN H (fun s a w => ∃ v4 : Value, Fr 37 [] [(2, .slice none 0 0), (3, v4), (7, v1), (8, .int .i64 (p0.length : Int)), (9, .int .i64 s.2)] a ∧ Stw ⟨Y, [], w0⟩ [] [row v4 9 Rp.str s.1] w) ⟨(Value.slice none 0 0), F.ra Aa, W⟩ fun s o a w H L2 hR => ?_
  obtain ⟨x2, x3⟩ := s
  obtain ⟨v4, F, W⟩ := hR
  have F : Fr 37 [] [(2, .slice none 0 0), (3, v4), (7, v1), (8, .int .i64 (p0.length : Int)), (9, .int .i64 x3)] a := F
  have W : Stw ⟨Y, [], w0⟩ [] [row v4 9 Rp.str x2] w := W
  rw [Cz] at H
  refine vc tk 6 F W fun a w F W => ?_
  refine BU F Aa H (fun F H => ?_) fun F H => ?_
  ·
   refine Gp tk 6 F W fun a w F W => ?_
   obtain ⟨x4, h2, H⟩ := Ag H
   obtain ⟨v5, h3, h4⟩ := DQ h1 h2
   have h5 : IU v5 = [.int .i64 x4.un.1, .int .i64 x4.un.2.1.un.1, .int .i64 x4.un.2.1.un.2.1, .int .i64 x4.un.2.1.un.2.2.1, (v5.2.1.2.2.2.1), .int .i64 x4.un.2.2.1, .int .i64 x4.un.2.2.2.1, (v5.2.2.2.2.1)] := congrArg (fun q : Tr37 => ([.int .i64 q.un.1, .int .i64 q.un.2.1.un.1, .int .i64 q.un.2.1.un.2.1, .int .i64 q.un.2.1.un.2.2.1, (v5.2.1.2.2.2.1), .int .i64 q.un.2.2.1, .int .i64 q.un.2.2.2.1, (v5.2.2.2.2.1)] : List Value)) h4
   refine ls F W Aa (Aw (r := Dd) NC F Aa Aa (Ah h_v1) h3).q fun a w F W => ?_
   refine ls F W Aa (An (y := Value.agg #[.int .i64 x4.un.1, .int .i64 x4.un.2.1.un.1, .int .i64 x4.un.2.1.un.2.1, .int .i64 x4.un.2.1.un.2.2.1, (v5.2.1.2.2.2.1), .int .i64 x4.un.2.2.1, .int .i64 x4.un.2.2.2.1, (v5.2.2.2.2.1)]) (j := 0) (i := x3) (enc := IU) F Aa Aa (Ah h_v1) h3 OA Is (by rw [h5]; rfl)).q fun a w F W => ?_
   refine AF (cs := (AB)) F W Aa Fx Aa fun b1 a w F W => ?_
   refine DZ 0 F W Aa Aa Aa Is Aa Aa (Af Aa (Af Aa (Af Aa (Af Aa (Af ((Br (Ah h_v1) h3 (Ai.snd (Ai.fst (Ai.snd (Ai.snd (Ai.snd Ai.here))))) (congrArg (fun q : Tr37 => q.un.2.1.un.2.2.2) h4)) _ W).one (Af Aa (Af Aa (Af ((Br (Ah h_v1) h3 (Ai.snd (Ai.snd (Ai.snd (Ai.snd Ai.here)))) (congrArg (fun q : Tr37 => q.un.2.2.2.2) h4)) _ W).one CT)))))))) fun w W => ?_
   refine Gz tk 5 [0] F W (ai fun a w F W => ?_)
   obtain ⟨x5, h6, H⟩ := Ag H
   refine ls F W Aa (AL (v := Value.string (bs x5)) F Yw Aa (fun w W => ih_policy_Text any w ((v5.2.1.2.2.2.1)) ((v5.2.2.2.2.1)) (Tr37.of (x4.un.1, Tr34.of (x4.un.2.1.un.1, x4.un.2.1.un.2.1, x4.un.2.1.un.2.2.1, x4.un.2.1.un.2.2.2), x4.un.2.2.1, x4.un.2.2.2.1, x4.un.2.2.2.2)) _ h6 (Er (Br (Ah h_v1) h3 (Ai.snd (Ai.fst (Ai.snd (Ai.snd (Ai.snd Ai.here))))) (congrArg (fun q : Tr37 => q.un.2.1.un.2.2.2) h4)) W) (Er (Br (Ah h_v1) h3 (Ai.snd (Ai.snd (Ai.snd (Ai.snd Ai.here)))) (congrArg (fun q : Tr37 => q.un.2.2.2.2) h4)) W) (hG.go0 W))) fun a w F W => ?_
   refine vl tk 2 F W fun a w F W => ?_
   refine Ad ?_
   obtain ⟨o3, G3, K3⟩ := Ag H
   refine AA (fun a w => ∃ x6 : List UInt8, some (x6) = some o3 ∧ Fr 37 [] [(2, .slice none 0 0), (3, v4), (6, .string (bs x6)), (7, v1), (8, .int .i64 (p0.length : Int)), (9, .int .i64 x3)] a ∧ Stw ⟨Y, [], w0⟩ [(b1, [.int .i64 x4.un.1, .int .i64 x4.un.2.1.un.1, .int .i64 x4.un.2.1.un.2.1, .int .i64 x4.un.2.1.un.2.2.1, (v5.2.1.2.2.2.1), .int .i64 x4.un.2.2.1, .int .i64 x4.un.2.2.2.1, (v5.2.2.2.2.1)])] [row v4 9 Rp.str x2] w) ?_ ?_
   ·
    have H := G3
    refine AA (fun a w => Fr 37 [] [(2, .slice none 0 0), (3, v4), (6, .string (bs x5)), (7, v1), (8, .int .i64 (p0.length : Int)), (9, .int .i64 x3), (27, .bool (decide (x4.un.1 = 3) || (decide (x4.un.1 = 4) || decide (x4.un.1 = 5))))] a ∧ Stw ⟨Y, [], w0⟩ [(b1, [.int .i64 x4.un.1, .int .i64 x4.un.2.1.un.1, .int .i64 x4.un.2.1.un.2.1, .int .i64 x4.un.2.1.un.2.2.1, (v5.2.1.2.2.2.1), .int .i64 x4.un.2.2.1, .int .i64 x4.un.2.2.2.1, (v5.2.2.2.2.1)])] [row v4 9 Rp.str x2] w) ?_ ?_
    ·
     refine FR tk 5 [0] F W (ai fun a w F W => ?_)
     rcases bxq (decide (x4.un.1 = 3)) with hb0 | hb0
     ·
      rw [hb0] at F
      refine vl tk 10 F W fun a w F W => ?_
      refine Ad ?_
      exact ⟨F.re ⟨rfl, Aa, Aa, Aa, Aa, Aa, (DX (by try rw [hb0]; all_goals simp only [DW])), trivial⟩, W⟩
     rw [hb0] at F
     refine Hw tk 5 [0] F W (ai fun a w F W => ?_)
     rcases bxq (decide (x4.un.1 = 4)) with hb1 | hb1
     ·
      rw [hb1] at F
      refine vl tk 5 F W fun a w F W => ?_
      refine Ad ?_
      exact ⟨F.re ⟨rfl, Aa, Aa, Aa, Aa, Aa, (DX (by try rw [hb0]; try rw [hb1]; all_goals simp only [DW])), trivial⟩, W⟩
     rw [hb1] at F
     refine Hw tk 5 [0] F W (ai fun a w F W => ?_)
     refine Ad ?_
     exact ⟨F.re ⟨rfl, Aa, Aa, Aa, Aa, Aa, (DX (by try rw [hb0]; try rw [hb1]; all_goals simp only [DW])), trivial⟩, W⟩
    rintro a w ⟨F, W⟩
    refine CK F Aa H (fun F H => ?_) fun F H => ?_
    ·
     refine vc tk 2 F W fun a w F W => ?_
     obtain ⟨x7, h7, H⟩ := Ag H
     refine ls F W Aa (HU (l := ([40] : List UInt8)) (m := x5) F Aa Aa h7).q fun a w F W => ?_
     obtain ⟨x8, h8, H⟩ := Ag H
     refine ls F W Aa (HU (l := x7) (m := ([41] : List UInt8)) F Aa Aa h8).q fun a w F W => ?_
     refine vl tk 2 F W fun a w F W => ?_
     refine Ad ?_
     exact ⟨_, H, F.ra Aa, W⟩
    refine Bc (Ad ?_)
    exact ⟨_, H, F.ra Aa, W⟩
   rintro a w ⟨x6, hj, F, W⟩
   have hj := AC hj
   subst hj
   have H := K3
   refine vc tk 3 F W fun a w F W => ?_
   refine Gs (z := Value.string (bs ([] : List UInt8))) (cs := [.string (bs x6)]) Rp.str ([x6] : List (List UInt8)) F W Aa Xq Z9 Aa Aa Aa Aa Aa Aa (Fl.str.repL _ _ ([x6] : List (List UInt8))) fun v6 a w F W => ?_
   obtain ⟨x9, h9, H⟩ := Ag H
   refine IQ (r := Rp.str) (i := 1) F W Aa Xq Aa Aa Aa Aa (JX W 0 Aa) h9 Aa fun v7 a w F W => ?_
   have W : Stw ⟨Y, [], w0⟩ [(b1, [.int .i64 x4.un.1, .int .i64 x4.un.2.1.un.1, .int .i64 x4.un.2.1.un.2.1, .int .i64 x4.un.2.1.un.2.2.1, (v5.2.1.2.2.2.1), .int .i64 x4.un.2.2.1, .int .i64 x4.un.2.2.2.1, (v5.2.2.2.2.1)])] [row v7 9 Rp.str x9, row v6 9 Rp.str ([x6] : List (List UInt8))] w := W
   refine vl tk 2 F W fun a w F W => ?_
   refine AM ?_
   refine vn tk 4 F W fun a w F W => ?_
   refine Ad ?_
   have W := W.sub (M' := []) (Z' := [row v7 9 Rp.str x9]) (List.nil_sublist _) (List.Sublist.cons_cons _ (List.nil_sublist _))
   exact ⟨_, H, (v7), F.ra Aa, W⟩
  refine BB ?_
  iterate 2 refine BR ?_
  refine Bx (Ad ?_)
  have H := L2 _ H
  exact ⟨_, (v4), H, F.ra Aa, W⟩
 rintro a w ⟨x1, v3, hj, F, W⟩
 have hj := AC hj
 subst hj
 have H := K1
 refine vc tk 6 F W fun a w F W => ?_
 refine Am ?_
 have H := AC H
 subst H
 refine Ax (.inl Aa) F W Aa (Ap F Aa) ?_
 exact ⟨(v3), Aa, W⟩
theorem Yi : Has Tryz.prog 57 := CP Tryz.func57
abbrev Ia (a0 : Nat) (a1 : Tr37) (a2 : Value) (a3 : Value) : List (Nat × List Value) := [(a0, [.int .i64 a1.un.1, .int .i64 a1.un.2.1.un.1, .int .i64 a1.un.2.1.un.2.1, .int .i64 a1.un.2.1.un.2.2.1, a2, .int .i64 a1.un.2.2.1, .int .i64 a1.un.2.2.2.1, a3])]
def DK (fRec : Tr37 → Option (List UInt8)) (p0 : Tr37) : Option (List UInt8) := (if p0.un.1 = 1 then (ET (Tr34.of (p0.un.2.1.un.1, p0.un.2.1.un.2.1, p0.un.2.1.un.2.2.1, p0.un.2.1.un.2.2.2))).bind fun x1 => some x1 else (if p0.un.1 = 2 then (IF (Ei p0.un.2.2.1) ([32, 58, 61, 32] : List UInt8)).bind fun x2 => (PH p0.un.2.2.2.1).bind fun x3 => (IF x2 x3).bind fun x4 => some x4 else (if p0.un.1 = 3 then ((CS fRec) p0.un.2.2.2.2).bind fun x5 => (LE x5 ([59, 32] : List UInt8)).bind fun x6 => some x6 else (if p0.un.1 = 4 then ((CS fRec) p0.un.2.2.2.2).bind fun x7 => (LE x7 ([32, 124, 32] : List UInt8)).bind fun x8 => some x8 else (if p0.un.1 = 5 then (Ld (Tr34.of (p0.un.2.1.un.1, p0.un.2.1.un.2.1, p0.un.2.1.un.2.2.1, p0.un.2.1.un.2.2.2))).bind fun x9 => (IF ([105, 102, 32] : List UInt8) x9).bind fun x10 => (IF x10 ([32, 116, 104, 101, 110, 32] : List UInt8)).bind fun x11 => ((CS fRec) p0.un.2.2.2.2).bind fun x12 => (LE x12 ([32, 101, 108, 115, 101, 32] : List UInt8)).bind fun x13 => (IF x11 x13).bind fun x14 => some x14 else some ([63] : List UInt8))))))
def Eb : Nat → Tr37 → Option (List UInt8)
  | 0 => fun _ => none
  | n + 1 => DK (Eb n)
def Ib (p0 : Tr37) : Option (List UInt8) := HC fun n => Eb n p0
theorem NL (fRec : Tr37 → Option (List UInt8)) (ih : ∀ (Y : Nat → Prop) (w0 : World) (v1 : Value) (v2 : Value) (p0 : Tr37) (r : List UInt8) (H : fRec p0 = some r) (h_v1 : Sl w0 (NX []) Bj v1 p0.un.2.1.un.2.2.2) (h_v2 : Sl w0 (NX []) Bl v2 p0.un.2.2.2.2) (hG : Gk [] w0), Calls Tryz.prog 25 #[.agg #[.int .i64 p0.un.1, .int .i64 p0.un.2.1.un.1, .int .i64 p0.un.2.1.un.2.1, .int .i64 p0.un.2.1.un.2.2.1, v1, .int .i64 p0.un.2.2.1, .int .i64 p0.un.2.2.2.1, v2]] w0 fun e w' => e = .returned (.string (bs r)) ∧ Below w0.heap.size w0 w') (Y : Nat → Prop) (w0 : World) (v1 : Value) (v2 : Value) (p0 : Tr37) (r : List UInt8) (H : DK fRec p0 = some r) (h_v1 : Sl w0 (NX []) Bj v1 p0.un.2.1.un.2.2.2) (h_v2 : Sl w0 (NX []) Bl v2 p0.un.2.2.2.2) (hG : Gk [] w0) :
    Calls Tryz.prog 25 #[.agg #[.int .i64 p0.un.1, .int .i64 p0.un.2.1.un.1, .int .i64 p0.un.2.1.un.2.1, .int .i64 p0.un.2.1.un.2.2.1, v1, .int .i64 p0.un.2.2.1, .int .i64 p0.un.2.2.2.1, v2]] w0 fun e w' => e = .returned (.string (bs r)) ∧ Below w0.heap.size w0 w' := by
 refine enter Tryz.func25 Aa Tryz.ntmps25 Aa fun a F => ?_
 have W := Stw.start Y w0
 obtain ⟨v3, h1, h_v1⟩ := h_v1.ex Co
 obtain ⟨v4, h2, h_v2⟩ := h_v2.ex Dy
 unfold DK at H
 refine vc tk 2 F W fun a w F W => ?_
 refine CX (cs := (BE p0 v1 v2)) F W Aa Aa Aa fun b1 a w F W => ?_
 refine ls F W Aa (Bz (v := Value.string (bs ([] : List UInt8))) F Aa).q fun a w F W => ?_
 refine Gz tk 16 [0] F W (ai fun a w F W => ?_)
 refine B9 F Aa (fun hb => ?_) fun hb => ?_
 ·
  have H := Cg (CQ hb) H
  rw [hb] at F
  refine FR tk 4 [0] F W (ai fun a w F W => ?_)
  obtain ⟨x1, h3, H⟩ := Ag H
  refine ls F W Aa (AL (v := Value.string (bs x1)) F Zg Aa (fun w W => Lh any w (v1) (Tr34.of (p0.un.2.1.un.1, p0.un.2.1.un.2.1, p0.un.2.1.un.2.2.1, p0.un.2.1.un.2.2.2)) _ h3 (Er (Ak Co h1 (Ah h_v1)) W) (hG.go0 W))) fun a w F W => ?_
  refine Cv tk 3 F W fun a w F W => ?_
  refine Am (AH (Az ?_))
  have H := AC H
  subst H
  refine Ax (.inl Aa) F W Aa (Ap F Aa) ?_
  exact ⟨rfl, W.done⟩
 have H := Cf (CO hb) H
 rw [hb] at F
 refine vc tk 6 F W fun a w F W => ?_
 refine B9 F Aa (fun hb => ?_) fun hb => ?_
 ·
  have H := Cg (CQ hb) H
  rw [hb] at F
  refine GK ?_
  refine CH W MO (by kernel_rfl) ?_
  refine qs F Aa (As JH Aa Aa Aa T3 F Aa 5 Aa).q fun a F => ?_
  refine qs F Aa (Bu (v := Value.int .i64 p0.un.2.2.1) 0 F Aa Aa T3 Aa).q fun a F => ?_
  refine qs F Aa (AL (v := Value.string (bs (Ei p0.un.2.2.1))) F Zo Aa (fun w W => LI any w p0.un.2.2.1 _ Aa)) fun a F => ?_
  obtain ⟨x2, h4, H⟩ := Ag H
  refine qs F Aa (HU (l := (Ei p0.un.2.2.1)) (m := ([32, 58, 61, 32] : List UInt8)) F Aa Aa h4).q fun a F => ?_
  refine qs F Aa (As JH Aa Aa Aa T3 F Aa 6 Aa).q fun a F => ?_
  refine qs F Aa (Bu (v := Value.int .i64 p0.un.2.2.2.1) 0 F Aa Aa T3 Aa).q fun a F => ?_
  obtain ⟨x3, h5, H⟩ := Ag H
  refine qs F Aa (AL (v := Value.string (bs x3)) F YK Aa (fun w W => TY any w p0.un.2.2.2.1 _ h5 (hG.go0 W))) fun a F => ?_
  obtain ⟨x4, h6, H⟩ := Ag H
  refine qs F Aa (HU (l := x2) (m := x3) F Aa Aa h6).q fun a F => ?_
  refine qs F Aa (Bz F Aa).q fun a F => ?_
  refine AO fun w W => ?_
  refine Ad (Am (AH (Az ?_)))
  have H := AC H
  subst H
  refine Ax (.inl Aa) F W Aa (Ap F Aa) ?_
  exact ⟨rfl, W.done⟩
 have H := Cf (CO hb) H
 rw [hb] at F
 refine vc tk 6 F W fun a w F W => ?_
 refine B9 F Aa (fun hb => ?_) fun hb => ?_
 ·
  have H := Cg (CQ hb) H
  rw [hb] at F
  refine FR tk 4 [0] F W (ai fun a w F W => ?_)
  obtain ⟨x5, h7, H⟩ := Ag H
  refine A7 (Ml := []) (Zl := []) (β := Value) (rv := fun x => x) (MM := fun x => []) (ZZ := fun x => [row x 9 Rp.str x5]) F W Yi Aa Aa (fun hL => (GR fRec ih) _ w (v2) p0.un.2.2.2.2 _ h7 ((Ak Dy h2 (Ah h_v2)) w W).nx (hG.go0 W)) fun x a w F W => ?_
  obtain ⟨v5, rfl⟩ : ∃ y, y = x := ⟨x, rfl⟩
  have W : Stw ⟨Y, [], w0⟩ (Ia b1 p0 v1 v2) [row v5 9 Rp.str x5] w := W
  obtain ⟨x6, h8, H⟩ := Ag H
  refine ls F W Aa (AL (v := Value.string (bs x6)) F Xk Aa (fun w W => Qs any w (v5) x5 ([59, 32] : List UInt8) _ h8 (Er (Al 0 Aa) W))) fun a w F W => ?_
  refine Cv tk 3 F W fun a w F W => ?_
  refine Am (AH (Az ?_))
  have H := AC H
  subst H
  refine Ax (.inl Aa) F W Aa (Ap F Aa) ?_
  exact ⟨rfl, W.done⟩
 have H := Cf (CO hb) H
 rw [hb] at F
 refine vc tk 6 F W fun a w F W => ?_
 refine B9 F Aa (fun hb => ?_) fun hb => ?_
 ·
  have H := Cg (CQ hb) H
  rw [hb] at F
  refine FR tk 4 [0] F W (ai fun a w F W => ?_)
  obtain ⟨x7, h9, H⟩ := Ag H
  refine A7 (Ml := []) (Zl := []) (β := Value) (rv := fun x => x) (MM := fun x => []) (ZZ := fun x => [row x 9 Rp.str x7]) F W Yi Aa Aa (fun hL => (GR fRec ih) _ w (v2) p0.un.2.2.2.2 _ h9 ((Ak Dy h2 (Ah h_v2)) w W).nx (hG.go0 W)) fun x a w F W => ?_
  obtain ⟨v6, rfl⟩ : ∃ y, y = x := ⟨x, rfl⟩
  have W : Stw ⟨Y, [], w0⟩ (Ia b1 p0 v1 v2) [row v6 9 Rp.str x7] w := W
  obtain ⟨x8, h10, H⟩ := Ag H
  refine ls F W Aa (AL (v := Value.string (bs x8)) F Xk Aa (fun w W => Qs any w (v6) x7 ([32, 124, 32] : List UInt8) _ h10 (Er (Al 0 Aa) W))) fun a w F W => ?_
  refine Cv tk 3 F W fun a w F W => ?_
  refine Am (AH (Az ?_))
  have H := AC H
  subst H
  refine Ax (.inl Aa) F W Aa (Ap F Aa) ?_
  exact ⟨rfl, W.done⟩
 have H := Cf (CO hb) H
 rw [hb] at F
 refine vc tk 6 F W fun a w F W => ?_
 refine B9 F Aa (fun hb => ?_) fun hb => ?_
 ·
  have H := Cg (CQ hb) H
  rw [hb] at F
  refine GK ?_
  refine EX [(true, 0), (true, 1), (true, 5), (true, 6), (false, 2), (true, 3), (true, 4), (false, 7), (false, 8), (true, 9), (false, 10)] (CN ⟨Y, [], w0⟩ [(some 2, b1, [.int .i64 p0.un.1, .int .i64 p0.un.2.1.un.1, .int .i64 p0.un.2.1.un.2.1, .int .i64 p0.un.2.1.un.2.2.1, v1, .int .i64 p0.un.2.2.1, .int .i64 p0.un.2.2.2.1, v2]), (some 7, b1, [.int .i64 p0.un.1, .int .i64 p0.un.2.1.un.1, .int .i64 p0.un.2.1.un.2.1, .int .i64 p0.un.2.1.un.2.2.1, v1, .int .i64 p0.un.2.2.1, .int .i64 p0.un.2.2.2.1, v2])] []) (fun ch a d v w h => by cases d <;> exact h) MO (by kernel_rfl) W (fun w W => ⟨_, _, W, (all_cons (fun _ => (.head _)) (all_cons (fun _ => (.head _)) Ab)), Ab⟩) fun w W => ?_
  refine BD (R := []) F Aa Aa (yC fun M Z hN hZ => As JH Aa Aa Aa MT F Aa 1 Aa) Aa Aa fun a F => ?_
  refine BD (R := [2]) F Aa Aa (yC fun M Z hN hZ => Cw (cs := (BE p0 v1 v2)) (v := Value.agg #[.int .i64 p0.un.2.1.un.1, .int .i64 p0.un.2.1.un.2.1, .int .i64 p0.un.2.1.un.2.2.1, v1]) F Aa (hN ((some 2), b1, (BE p0 v1 v2)) (.head _) Aa) MT Aa) (by kernel_rfl) Aa fun a F => ?_
  refine BD (R := []) F Aa Aa (yC fun M Z hN hZ => As JH Aa Aa Aa Ti F Aa 7 Aa) Aa Aa fun a F => ?_
  refine BD (R := [7]) F Aa Aa (yC fun M Z hN hZ => Cw (cs := (BE p0 v1 v2)) (v := v2) F Aa (hN ((some 7), b1, (BE p0 v1 v2)) (.tail _ (.head _)) Aa) Ti Aa) (by kernel_rfl) Aa fun a F => ?_
  refine DU Aa ?_
  obtain ⟨x9, h11, H⟩ := Ag H
  refine ls F W Aa (AL (v := Value.string (bs x9)) F XI Aa (fun w W => Nr any w (v1) (Tr34.of (p0.un.2.1.un.1, p0.un.2.1.un.2.1, p0.un.2.1.un.2.2.1, p0.un.2.1.un.2.2.2)) _ h11 (Er (Ak Co h1 (Ah h_v1)) W) (hG.go0 W))) fun a w F W => ?_
  refine BG (N2 := []) (NZ2 := []) (N3 := [(some 2, b1, [.int .i64 p0.un.1, .int .i64 p0.un.2.1.un.1, .int .i64 p0.un.2.1.un.2.1, .int .i64 p0.un.2.1.un.2.2.1, v1, .int .i64 p0.un.2.2.1, .int .i64 p0.un.2.2.2.1, v2]), (some 7, b1, [.int .i64 p0.un.1, .int .i64 p0.un.2.1.un.1, .int .i64 p0.un.2.1.un.2.1, .int .i64 p0.un.2.1.un.2.2.1, v1, .int .i64 p0.un.2.2.1, .int .i64 p0.un.2.2.2.1, v2])]) (NZ3 := []) W Aa Aa (all_cons (fun h => Ae (by kernel_rfl) h) (all_cons (fun _ => (.head _)) Ab)) Ab ?_
  obtain ⟨x10, h12, H⟩ := Ag H
  refine BD (R := []) F Aa Aa (yC fun M Z hN hZ => HU (l := ([105, 102, 32] : List UInt8)) (m := x9) F Aa Aa h12) Aa Aa fun a F => ?_
  obtain ⟨x11, h13, H⟩ := Ag H
  refine BD (R := []) F Aa Aa (yC fun M Z hN hZ => HU (l := x10) (m := ([32, 116, 104, 101, 110, 32] : List UInt8)) F Aa Aa h13) Aa Aa fun a F => ?_
  refine DU Aa ?_
  obtain ⟨x12, h14, H⟩ := Ag H
  refine A7 (Ml := []) (Zl := []) (β := Value) (rv := fun x => x) (MM := fun x => []) (ZZ := fun x => [row x 9 Rp.str x12]) F W Yi Aa Aa (fun hL => (GR fRec ih) _ w (v2) p0.un.2.2.2.2 _ h14 ((Ak Dy h2 (Ah h_v2)) w W).nx (hG.go0 W)) fun x a w F W => ?_
  obtain ⟨v7, rfl⟩ : ∃ y, y = x := ⟨x, rfl⟩
  have W : Stw ⟨Y, [], w0⟩ (Ia b1 p0 v1 v2) [row v7 9 Rp.str x12] w := W
  refine BG (N2 := []) (NZ2 := []) (N3 := [(some 2, b1, [.int .i64 p0.un.1, .int .i64 p0.un.2.1.un.1, .int .i64 p0.un.2.1.un.2.1, .int .i64 p0.un.2.1.un.2.2.1, v1, .int .i64 p0.un.2.2.1, .int .i64 p0.un.2.2.2.1, v2]), (some 7, b1, [.int .i64 p0.un.1, .int .i64 p0.un.2.1.un.1, .int .i64 p0.un.2.1.un.2.1, .int .i64 p0.un.2.1.un.2.2.1, v1, .int .i64 p0.un.2.2.1, .int .i64 p0.un.2.2.2.1, v2])]) (NZ3 := []) W Aa Aa (all_cons (fun h => Ae (by kernel_rfl) h) (all_cons (fun h => Ae (by kernel_rfl) h) Ab)) Ab ?_
  refine DU Aa ?_
  obtain ⟨x13, h15, H⟩ := Ag H
  refine ls F W Aa (AL (v := Value.string (bs x13)) F Xk Aa (fun w W => Qs any w (v7) x12 ([32, 101, 108, 115, 101, 32] : List UInt8) _ h15 (Er (Al 0 Aa) W))) fun a w F W => ?_
  refine BG (N2 := []) (NZ2 := []) (N3 := [(some 2, b1, [.int .i64 p0.un.1, .int .i64 p0.un.2.1.un.1, .int .i64 p0.un.2.1.un.2.1, .int .i64 p0.un.2.1.un.2.2.1, v1, .int .i64 p0.un.2.2.1, .int .i64 p0.un.2.2.2.1, v2]), (some 7, b1, [.int .i64 p0.un.1, .int .i64 p0.un.2.1.un.1, .int .i64 p0.un.2.1.un.2.1, .int .i64 p0.un.2.1.un.2.2.1, v1, .int .i64 p0.un.2.2.1, .int .i64 p0.un.2.2.2.1, v2])]) (NZ3 := []) W Aa Aa (all_cons (fun h => Ae (by kernel_rfl) h) (all_cons (fun h => Ae (by kernel_rfl) h) Ab)) Ab ?_
  obtain ⟨x14, h16, H⟩ := Ag H
  refine BD (R := []) F Aa Aa (yC fun M Z hN hZ => HU (l := x11) (m := x13) F Aa Aa h16) Aa Aa fun a F => ?_
  refine DU Aa ?_
  refine ls F W Aa (Bz F Aa).q fun a w F W => ?_
  refine BG (N2 := []) (NZ2 := []) (N3 := [(some 2, b1, [.int .i64 p0.un.1, .int .i64 p0.un.2.1.un.1, .int .i64 p0.un.2.1.un.2.1, .int .i64 p0.un.2.1.un.2.2.1, v1, .int .i64 p0.un.2.2.1, .int .i64 p0.un.2.2.2.1, v2]), (some 7, b1, [.int .i64 p0.un.1, .int .i64 p0.un.2.1.un.1, .int .i64 p0.un.2.1.un.2.1, .int .i64 p0.un.2.1.un.2.2.1, v1, .int .i64 p0.un.2.2.1, .int .i64 p0.un.2.2.2.1, v2])]) (NZ3 := []) W Aa Aa (all_cons (fun h => Ae (by kernel_rfl) h) (all_cons (fun h => Ae (by kernel_rfl) h) Ab)) Ab ?_
  refine GM (Ad (Am (AH (Az ?_))))
  have H := AC H
  subst H
  refine Ax (.inl Aa) F W Aa (Ap F Aa) ?_
  exact ⟨rfl, W.done⟩
 have H := Cf (CO hb) H
 rw [hb] at F
 refine Bc (AM ?_)
 refine vn tk 2 F W fun a w F W => ?_
 refine ls F W Aa (Bz (v := Value.string (bs ([63] : List UInt8))) F Aa).q fun a w F W => ?_
 refine Cv tk 2 F W fun a w F W => ?_
 refine Am ?_
 have H := AC H
 subst H
 refine Ax (.inl Aa) F W Aa (Ap F Aa) ?_
 exact ⟨rfl, W.done⟩
theorem Oa : ∀ (n : Nat) (Y : Nat → Prop) (w0 : World) (v1 : Value) (v2 : Value) (p0 : Tr37) (r : List UInt8) (H : Eb n p0 = some r) (h_v1 : Sl w0 (NX []) Bj v1 p0.un.2.1.un.2.2.2) (h_v2 : Sl w0 (NX []) Bl v2 p0.un.2.2.2.2) (hG : Gk [] w0), Calls Tryz.prog 25 #[.agg #[.int .i64 p0.un.1, .int .i64 p0.un.2.1.un.1, .int .i64 p0.un.2.1.un.2.1, .int .i64 p0.un.2.1.un.2.2.1, v1, .int .i64 p0.un.2.2.1, .int .i64 p0.un.2.2.2.1, v2]] w0 fun e w' => e = .returned (.string (bs r)) ∧ Below w0.heap.size w0 w' := by
  intro n
  induction n with
  | zero => intro Y w0 v1 v2 p0 r H; exact nomatch H
  | succ n ih => intro Y w0 v1 v2 p0 r H h_v1 h_v2 hG; exact NL (Eb n) ih Y w0 v1 v2 p0 r H h_v1 h_v2 hG
theorem Pn (Y : Nat → Prop) (w0 : World) (v1 : Value) (v2 : Value) (p0 : Tr37) (r : List UInt8) (H : Ib p0 = some r) (h_v1 : Sl w0 (NX []) Bj v1 p0.un.2.1.un.2.2.2) (h_v2 : Sl w0 (NX []) Bl v2 p0.un.2.2.2.2) (hG : Gk [] w0) :
    Calls Tryz.prog 25 #[.agg #[.int .i64 p0.un.1, .int .i64 p0.un.2.1.un.1, .int .i64 p0.un.2.1.un.2.1, .int .i64 p0.un.2.1.un.2.2.1, v1, .int .i64 p0.un.2.2.1, .int .i64 p0.un.2.2.2.1, v2]] w0 fun e w' => e = .returned (.string (bs r)) ∧ Below w0.heap.size w0 w' := by
  obtain ⟨n, H⟩ := CZ H
  exact Oa n Y w0 v1 v2 p0 r H h_v1 h_v2 hG
theorem UO : type_of% Tryz.underlying65 := Tryz.underlying65
theorem Y7 : Bt Tryz.prog 65 [.int .i64 0] [(0, 1)] := ⟨⟨.agg #[.int .i64 0], by kernel_rfl, rfl⟩, ⟨_, UO, fun w => by kernel_rfl⟩⟩
theorem Zq : (Tryz.prog.info? 65).bind (·.zero) = some (.agg #[.int .i64 0]) := by kernel_rfl
theorem Zb : Ty Tryz.prog 65 true 1 := ⟨by kernel_rfl, by kernel_rfl⟩
theorem XY : Bt Tryz.prog 34 [.int .i64 0, .int .i64 0, .int .i64 0, .slice none 0 0] [(0, 1), (1, 1), (2, 1), (3, 1)] := ⟨⟨.agg #[.int .i64 0, .int .i64 0, .int .i64 0, .slice none 0 0], by kernel_rfl, rfl⟩, ⟨_, Lj, fun w => by kernel_rfl⟩⟩
theorem Yv : Has Tryz.prog 36 := CP Tryz.func36
def AD (fRec_pred_Same : Tr34 → Tr34 → Option Bool) (p0 : List Tr34) (p1 : List Tr34) : Int → Option (Int ⊕ (Unit ⊕ Bool))
  | x1 => (if x1 < (p0.length : Int) then (ix p0 x1).bind fun x2 => (ix p1 x1).bind fun x3 => (fRec_pred_Same x2 x3).bind fun x4 => (if (!x4) = true then some (.inr (.inr false)) else some (.inl (AU (x1 + 1)))) else some (.inr (.inl ())))
def Ay (fRec_pred_Same : Tr34 → Tr34 → Option Bool) (p0 : List Tr34) (p1 : List Tr34) : Option Bool := (if (p0.length : Int) ≠ (p1.length : Int) then some false else Ku (Ba (AD fRec_pred_Same p0 p1) 0) fun _ => some true)
theorem DH (fRec_pred_Same : Tr34 → Tr34 → Option Bool) (ih_pred_Same : ∀ (Y : Nat → Prop) (w0 : World) (v1 : Value) (v2 : Value) (p0 : Tr34) (p1 : Tr34) (r : Bool) (H : fRec_pred_Same p0 p1 = some r) (h_v1 : Sl w0 (NX []) Bj v1 p0.un.2.2.2) (h_v2 : Sl w0 (NX []) Bj v2 p1.un.2.2.2), Calls Tryz.prog 36 #[.agg #[.int .i64 p0.un.1, .int .i64 p0.un.2.1, .int .i64 p0.un.2.2.1, v1], .agg #[.int .i64 p1.un.1, .int .i64 p1.un.2.1, .int .i64 p1.un.2.2.1, v2]] w0 fun e w' => e = .returned (.bool r) ∧ Below w0.heap.size w0 w') (Y : Nat → Prop) (w0 : World) (v1 : Value) (v2 : Value) (p0 : List Tr34) (p1 : List Tr34) (r : Bool) (H : Ay fRec_pred_Same p0 p1 = some r) (h_v1 : Sl w0 (NX []) Bj v1 p0) (h_v2 : Sl w0 (NX []) Bj v2 p1) :
    Calls Tryz.prog 67 #[v1, v2, .func (.func 36) #[] #[]] w0 fun e w' => e = .returned (.bool r) ∧ Below w0.heap.size w0 w' := by
 refine enter Tryz.func67 Aa Tryz.ntmps67 Aa fun a F => ?_
 have W := Stw.start Y w0
 obtain ⟨v3, h1, h_v1⟩ := h_v1.ex Co
 obtain ⟨v4, h2, h_v2⟩ := h_v2.ex Co
 unfold Ay at H
 refine vc tk 9 F W fun a w F W => ?_
 refine ls F W Aa (C2 (r := Bj) (l := p0) Lk Aa F Aa (Ak Co h1 (Ah h_v1))).q fun a w F W => ?_
 refine ls F W Aa (Aq F Aa).q fun a w F W => ?_
 refine ls F W Aa (C2 (r := Bj) (l := p1) Lk Aa F Aa (Ak Co h2 (Ah h_v2))).q fun a w F W => ?_
 refine Cv tk 3 F W fun a w F W => ?_
 refine BU F Aa H (fun F H => ?_) fun F H => ?_
 ·
  refine vc tk 5 F W fun a w F W => ?_
  refine Am (Az ?_)
  have H := AC H
  subst H
  refine Ax (.inl Aa) F W Aa (Ap F Aa) ?_
  exact ⟨rfl, W.done⟩
 refine Bc (Ad ?_)
 obtain ⟨o1, G1, K1, L1⟩ := RM H
 refine AA (fun a w => some (Sum.inl ()) = some o1 ∧ Fr 32 [] [(6, .bool false)] a ∧ Stw ⟨Y, [], w0⟩ [] [] w) ?_ ?_
 ·
  have H := G1
  refine vc tk 3 F W fun a w F W => ?_
  refine ls F W Aa (C2 (r := Bj) (l := p0) Lk Aa F Aa (Ak Co h1 (Ah h_v1))).q fun a w F W => ?_
  refine Cv tk 4 F W fun a w F W => ?_
  refine BN H (fun s a w => Fr 32 [] [(1, v2), (2, .func (.func 36) #[] #[]), (6, .bool false), (15, v1), (16, .int .i64 (p0.length : Int)), (17, .int .i64 s)] a ∧ Stw ⟨Y, [], w0⟩ [] [] w) ⟨F.ra Aa, W⟩ fun s o a w H L2 hR => ?_
  obtain ⟨x1, rfl⟩ : ∃ x, x = s := ⟨s, rfl⟩
  obtain ⟨F, W⟩ := hR
  have F : Fr 32 [] [(1, v2), (2, .func (.func 36) #[] #[]), (6, .bool false), (15, v1), (16, .int .i64 (p0.length : Int)), (17, .int .i64 x1)] a := F
  have W : Stw ⟨Y, [], w0⟩ [] [] w := W
  rw [AD] at H
  refine vc tk 6 F W fun a w F W => ?_
  refine BU F Aa H (fun F H => ?_) fun F H => ?_
  ·
   refine Gp tk 7 F W fun a w F W => ?_
   obtain ⟨x2, h3, H⟩ := Ag H
   obtain ⟨v5, h4, h5⟩ := DQ h1 h3
   have h6 : J4 v5 = [.int .i64 x2.un.1, .int .i64 x2.un.2.1, .int .i64 x2.un.2.2.1, (v5.2.2.2.1)] := congrArg (fun q : Tr34 => ([.int .i64 q.un.1, .int .i64 q.un.2.1, .int .i64 q.un.2.2.1, (v5.2.2.2.1)] : List Value)) h5
   refine ls F W Aa (Aw (r := Gr) Tk F Aa Aa (Ah h_v1) h4).q fun a w F W => ?_
   refine ls F W Aa (An (y := Value.agg #[.int .i64 x2.un.1, .int .i64 x2.un.2.1, .int .i64 x2.un.2.2.1, (v5.2.2.2.1)]) (j := 0) (i := x1) (enc := J4) F Aa Aa (Ah h_v1) h4 Qn MT (by rw [h6]; rfl)).q fun a w F W => ?_
   refine AF (cs := (LH)) F W Aa Uw Aa fun b1 a w F W => ?_
   refine ls F W Aa (Bz F Aa).q fun a w F W => ?_
   refine DZ 0 F W Aa Aa Aa MT Aa Aa (Af Aa (Af Aa (Af Aa (Af ((Br (Ah h_v1) h4 (Ai.snd (Ai.snd (Ai.snd Ai.here))) (congrArg (fun q : Tr34 => q.un.2.2.2) h5)) _ W).one CT)))) fun w W => ?_
   refine Cv tk 3 F W fun a w F W => ?_
   obtain ⟨v6, h7, h8⟩ := Sl.ex Co (Sl.at_ h_v1 h4 (Ai.snd (Ai.snd (Ai.snd Ai.here))) (congrArg (fun q : Tr34 => q.un.2.2.2) h5))
   refine vc tk 3 F W fun a w F W => ?_
   obtain ⟨x3, h9, H⟩ := Ag H
   obtain ⟨v7, h10, h11⟩ := DQ h2 h9
   have h12 : J4 v7 = [.int .i64 x3.un.1, .int .i64 x3.un.2.1, .int .i64 x3.un.2.2.1, (v7.2.2.2.1)] := congrArg (fun q : Tr34 => ([.int .i64 q.un.1, .int .i64 q.un.2.1, .int .i64 q.un.2.2.1, (v7.2.2.2.1)] : List Value)) h11
   refine ls F W Aa (Aw (r := Gr) Tk F Aa Aa (Ah h_v2) h10).q fun a w F W => ?_
   refine ls F W Aa (An (y := Value.agg #[.int .i64 x3.un.1, .int .i64 x3.un.2.1, .int .i64 x3.un.2.2.1, (v7.2.2.2.1)]) (j := 0) (i := x1) (enc := J4) F Aa Aa (Ah h_v2) h10 Qn MT (by rw [h12]; rfl)).q fun a w F W => ?_
   refine AF (cs := (LH)) F W Aa Uw Aa fun b2 a w F W => ?_
   refine DZ 0 F W Aa Aa Aa MT Aa Aa (Af Aa (Af Aa (Af Aa (Af ((Br (Ah h_v2) h10 (Ai.snd (Ai.snd (Ai.snd Ai.here))) (congrArg (fun q : Tr34 => q.un.2.2.2) h11)) _ W).one CT)))) fun w W => ?_
   refine Gz tk 7 [1, 0] F W (ai (ai fun a w F W => ?_))
   obtain ⟨x4, h13, H⟩ := Ag H
   refine ls F W Aa (ES (ws := [.agg #[.int .i64 x2.un.1, .int .i64 x2.un.2.1, .int .i64 x2.un.2.2.1, (v5.2.2.2.1)], .agg #[.int .i64 x3.un.1, .int .i64 x3.un.2.1, .int .i64 x3.un.2.2.1, (v7.2.2.2.1)]]) (v := Value.bool x4) F Yv Aa (fun w W => ih_pred_Same any w ((v5.2.2.2.1)) ((v7.2.2.2.1)) x2 x3 _ h13 (Er (Ak Co h7 (Ah h8)) W) (Er (Br (Ah h_v2) h10 (Ai.snd (Ai.snd (Ai.snd Ai.here))) (congrArg (fun q : Tr34 => q.un.2.2.2) h11)) W))) fun a w F W => ?_
   refine Cv tk 3 F W fun a w F W => ?_
   refine CK F Aa H (fun F H => ?_) fun F H => ?_
   ·
    refine vc tk 5 F W fun a w F W => ?_
    refine Am (AH ?_)
    iterate 2 refine Az ?_
    refine AH (Az ?_)
    have H := L2 _ H
    have H := L1 _ H
    have H := AC H
    subst H
    refine Ax (.inl Aa) F W Aa (Ap F Aa) ?_
    exact ⟨rfl, W.done⟩
   refine Bc (AM ?_)
   refine vn tk 4 F W fun a w F W => ?_
   refine Ad ?_
   have W := W.sub (M' := []) (Z' := []) (List.nil_sublist _) (List.Sublist.refl _)
   exact ⟨_, H, F.ra Aa, W⟩
  refine BB ?_
  iterate 2 refine BR ?_
  refine Bx (Ad ?_)
  have H := L2 _ H
  exact ⟨H, F.ra Aa, W⟩
 rintro a w ⟨hj, F, W⟩
 have H := K1 _ hj
 refine vc tk 5 F W fun a w F W => ?_
 refine Am ?_
 have H := AC H
 subst H
 refine Ax (.inl Aa) F W Aa (Ap F Aa) ?_
 exact ⟨rfl, W.done⟩
theorem Zx : Has Tryz.prog 67 := CP Tryz.func67
def EW (fRec : Tr34 → Tr34 → Option Bool) (p0 : Tr34) (p1 : Tr34) : Option Bool := (if p0.un.1 = p1.un.1 then (if p0.un.2.1 = p1.un.2.1 then (if p0.un.2.2.1 = p1.un.2.2.1 then ((Ay fRec) p0.un.2.2.2 p1.un.2.2.2).bind fun x2 => some x2 else some false) else some false) else some false).bind fun x1 => some x1
def FA : Nat → Tr34 → Tr34 → Option Bool
  | 0 => fun _ _ => none
  | n + 1 => EW (FA n)
def M5 (p0 : Tr34) (p1 : Tr34) : Option Bool := HC fun n => FA n p0 p1
theorem PE (fRec : Tr34 → Tr34 → Option Bool) (ih : ∀ (Y : Nat → Prop) (w0 : World) (v1 : Value) (v2 : Value) (p0 : Tr34) (p1 : Tr34) (r : Bool) (H : fRec p0 p1 = some r) (h_v1 : Sl w0 (NX []) Bj v1 p0.un.2.2.2) (h_v2 : Sl w0 (NX []) Bj v2 p1.un.2.2.2), Calls Tryz.prog 36 #[.agg #[.int .i64 p0.un.1, .int .i64 p0.un.2.1, .int .i64 p0.un.2.2.1, v1], .agg #[.int .i64 p1.un.1, .int .i64 p1.un.2.1, .int .i64 p1.un.2.2.1, v2]] w0 fun e w' => e = .returned (.bool r) ∧ Below w0.heap.size w0 w') (Y : Nat → Prop) (w0 : World) (v1 : Value) (v2 : Value) (p0 : Tr34) (p1 : Tr34) (r : Bool) (H : EW fRec p0 p1 = some r) (h_v1 : Sl w0 (NX []) Bj v1 p0.un.2.2.2) (h_v2 : Sl w0 (NX []) Bj v2 p1.un.2.2.2) :
    Calls Tryz.prog 36 #[.agg #[.int .i64 p0.un.1, .int .i64 p0.un.2.1, .int .i64 p0.un.2.2.1, v1], .agg #[.int .i64 p1.un.1, .int .i64 p1.un.2.1, .int .i64 p1.un.2.2.1, v2]] w0 fun e w' => e = .returned (.bool r) ∧ Below w0.heap.size w0 w' := by
 refine enter Tryz.func36 Aa Tryz.ntmps36 Aa fun a F => ?_
 have W := Stw.start Y w0
 obtain ⟨v3, h1, h_v1⟩ := h_v1.ex Co
 obtain ⟨v4, h2, h_v2⟩ := h_v2.ex Co
 unfold EW at H
 refine vc tk 2 F W fun a w F W => ?_
 refine CX (cs := (F1 p0 v1)) F W Aa Aa Aa fun b1 a w F W => ?_
 refine CX (cs := (F1 p1 v2)) F W Aa Aa Aa fun b2 a w F W => ?_
 refine vl tk 2 F W fun a w F W => ?_
 refine Ad ?_
 obtain ⟨o1, G1, K1⟩ := Ag H
 refine AA (fun a w => ∃ x1 : Bool, some (x1) = some o1 ∧ Fr 31 [] [(4, .bool x1)] a ∧ Stw ⟨Y, [], w0⟩ [(b2, [.int .i64 p1.un.1, .int .i64 p1.un.2.1, .int .i64 p1.un.2.2.1, v2]), (b1, [.int .i64 p0.un.1, .int .i64 p0.un.2.1, .int .i64 p0.un.2.2.1, v1])] [] w) ?_ ?_
 ·
  have H := G1
  refine FR tk 7 [1, 0] F W (ai (ai fun a w F W => ?_))
  rcases bxq (decide (p0.un.1 = p1.un.1)) with hb | hb
  ·
   have H := Cg (CQ hb) H
   rw [hb] at F
   refine Hw tk 7 [1, 0] F W (ai (ai fun a w F W => ?_))
   rcases bxq (decide (p0.un.2.1 = p1.un.2.1)) with hb | hb
   ·
    have H := Cg (CQ hb) H
    rw [hb] at F
    refine Hw tk 7 [1, 0] F W (ai (ai fun a w F W => ?_))
    rcases bxq (decide (p0.un.2.2.1 = p1.un.2.2.1)) with hb | hb
    ·
     have H := Cg (CQ hb) H
     rw [hb] at F
     refine Hw tk 4 [1, 0] F W (ai (ai fun a w F W => ?_))
     refine Iq (Ac F Aa Aa Aa Aa) ?_
     obtain ⟨x2, h3, H⟩ := Ag H
     refine ls F W Aa (AL (v := Value.bool x2) F Zx Aa (fun w W => (DH fRec ih) any w (v1) (v2) p0.un.2.2.2 p1.un.2.2.2 _ h3 (Er (Ak Co h1 (Ah h_v1)) W) (Er (Ak Co h2 (Ah h_v2)) W))) fun a w F W => ?_
     refine vl tk 3 F W fun a w F W => ?_
     refine Ad ?_
     have W := W.frontM (i := 1) Aa Aa
     have W := W.frontM (i := 1) Aa Aa
     exact ⟨_, H, F.ra Aa, W⟩
    have H := Cf (CO hb) H
    rw [hb] at F
    refine vl tk 8 F W fun a w F W => ?_
    refine Ad ?_
    have W := W.frontM (i := 1) Aa Aa
    have W := W.frontM (i := 1) Aa Aa
    exact ⟨_, H, F.ra Aa, W⟩
   have H := Cf (CO hb) H
   rw [hb] at F
   refine vl tk 15 F W fun a w F W => ?_
   refine Ad ?_
   have W := W.frontM (i := 1) Aa Aa
   have W := W.frontM (i := 1) Aa Aa
   exact ⟨_, H, F.ra Aa, W⟩
  have H := Cf (CO hb) H
  rw [hb] at F
  refine vl tk 22 F W fun a w F W => ?_
  refine Ad ?_
  have W := W.frontM (i := 1) Aa Aa
  have W := W.frontM (i := 1) Aa Aa
  exact ⟨_, H, F.ra Aa, W⟩
 rintro a w ⟨x1, hj, F, W⟩
 have hj := AC hj
 subst hj
 have H := K1
 refine Am ?_
 have H := AC H
 subst H
 refine Ax (.inl Aa) F W Aa (Ap F Aa) ?_
 exact ⟨rfl, W.done⟩
theorem Qm : ∀ (n : Nat) (Y : Nat → Prop) (w0 : World) (v1 : Value) (v2 : Value) (p0 : Tr34) (p1 : Tr34) (r : Bool) (H : FA n p0 p1 = some r) (h_v1 : Sl w0 (NX []) Bj v1 p0.un.2.2.2) (h_v2 : Sl w0 (NX []) Bj v2 p1.un.2.2.2), Calls Tryz.prog 36 #[.agg #[.int .i64 p0.un.1, .int .i64 p0.un.2.1, .int .i64 p0.un.2.2.1, v1], .agg #[.int .i64 p1.un.1, .int .i64 p1.un.2.1, .int .i64 p1.un.2.2.1, v2]] w0 fun e w' => e = .returned (.bool r) ∧ Below w0.heap.size w0 w' := by
  intro n
  induction n with
  | zero => intro Y w0 v1 v2 p0 p1 r H; exact nomatch H
  | succ n ih => intro Y w0 v1 v2 p0 p1 r H h_v1 h_v2; exact PE (FA n) ih Y w0 v1 v2 p0 p1 r H h_v1 h_v2
theorem Rq (Y : Nat → Prop) (w0 : World) (v1 : Value) (v2 : Value) (p0 : Tr34) (p1 : Tr34) (r : Bool) (H : M5 p0 p1 = some r) (h_v1 : Sl w0 (NX []) Bj v1 p0.un.2.2.2) (h_v2 : Sl w0 (NX []) Bj v2 p1.un.2.2.2) :
    Calls Tryz.prog 36 #[.agg #[.int .i64 p0.un.1, .int .i64 p0.un.2.1, .int .i64 p0.un.2.2.1, v1], .agg #[.int .i64 p1.un.1, .int .i64 p1.un.2.1, .int .i64 p1.un.2.2.1, v2]] w0 fun e w' => e = .returned (.bool r) ∧ Below w0.heap.size w0 w' := by
  obtain ⟨n, H⟩ := CZ H
  exact Qm n Y w0 v1 v2 p0 p1 r H h_v1 h_v2
def FY (p0 : Tr34) : Option Bool := (M5 p0 (Tr34.of (0, 0, 0, ([] : List Tr34)))).bind fun x1 => some x1
theorem Ka (Y : Nat → Prop) (w0 : World) (v1 : Value) (p0 : Tr34) (r : Bool) (H : FY p0 = some r) (h_v1 : Sl w0 (NX []) Bj v1 p0.un.2.2.2) :
    Calls Tryz.prog 88 #[.agg #[.int .i64 p0.un.1, .int .i64 p0.un.2.1, .int .i64 p0.un.2.2.1, v1]] w0 fun e w' => e = .returned (.bool r) ∧ Below w0.heap.size w0 w' := by
 refine enter Tryz.func88 Aa Tryz.ntmps88 Aa fun a F => ?_
 have W := Stw.start Y w0
 obtain ⟨v2, h1, h_v1⟩ := h_v1.ex Co
 unfold FY at H
 refine vc tk 2 F W fun a w F W => ?_
 refine CX (cs := (F1 p0 v1)) F W Aa Aa Aa fun b1 a w F W => ?_
 refine Gz tk 6 [0] F W (ai fun a w F W => ?_)
 refine ls F W Aa (CM (v := Value.agg #[.int .i64 0, .int .i64 0, .int .i64 0, .slice none 0 0]) XY F Aa Aa Aa).q fun a w F W => ?_
 obtain ⟨x1, h2, H⟩ := Ag H
 refine ls F W Aa (AL (v := Value.bool x1) F Yv Aa (fun w W => Rq any w (v1) (Value.slice none 0 0) p0 (Tr34.of (0, 0, 0, ([] : List Tr34))) _ h2 (Er (Ak Co h1 (Ah h_v1)) W) Sl.nil)) fun a w F W => ?_
 refine Cv tk 3 F W fun a w F W => ?_
 refine Am ?_
 have H := AC H
 subst H
 refine Ax (.inl Aa) F W Aa (Ap F Aa) ?_
 exact ⟨rfl, W.done⟩
theorem YP : Has Tryz.prog 88 := CP Tryz.func88
def Jx (p0 : Int) : Option Int := (if (decide (p0 = 4) || decide (p0 = 5)) = true then some 7 else (Hj p0).bind fun x1 => some x1)
theorem Pk (Y : Nat → Prop) (w0 : World)  (p0 : Int) (r : Int) (H : Jx p0 = some r)  :
    Calls Tryz.prog 89 #[.int .i64 p0] w0 fun e w' => e = .returned (.int .i64 r) ∧ Below w0.heap.size w0 w' := by
 refine enter Tryz.func89 Aa Tryz.ntmps89 Aa fun a F => ?_
 have W := Stw.start Y w0
 unfold Jx at H
 refine vc tk 6 F W fun a w F W => ?_
 refine AA (fun a w => Fr 11 [] [(0, .int .i64 p0), (2, .int .i64 0), (8, .bool (decide (p0 = 4) || decide (p0 = 5)))] a ∧ Stw ⟨Y, [], w0⟩ [] [] w) ?_ ?_
 ·
  refine vc tk 4 F W fun a w F W => ?_
  rcases bxq (decide (p0 = 4)) with hb0 | hb0
  ·
   rw [hb0] at F
   refine vl tk 4 F W fun a w F W => ?_
   refine Ad ?_
   exact ⟨F.re ⟨rfl, Aa, (DX (by try rw [hb0]; all_goals simp only [DW])), trivial⟩, W⟩
  rw [hb0] at F
  refine vl tk 4 F W fun a w F W => ?_
  refine Ad ?_
  exact ⟨F.re ⟨rfl, Aa, (DX (by try rw [hb0]; all_goals simp only [DW])), trivial⟩, W⟩
 rintro a w ⟨F, W⟩
 refine CK F Aa H (fun F H => ?_) fun F H => ?_
 ·
  refine vc tk 5 F W fun a w F W => ?_
  refine Am (Az ?_)
  have H := AC H
  subst H
  refine Ax (.inl Aa) F W Aa (Ap F Aa) ?_
  exact ⟨rfl, W.done⟩
 refine Gp tk 5 F W fun a w F W => ?_
 obtain ⟨x1, h1, H⟩ := Ag H
 refine ls F W Aa (AL (v := Value.int .i64 x1) F WW Aa (fun w W => MQ any w p0 _ h1)) fun a w F W => ?_
 refine Cv tk 3 F W fun a w F W => ?_
 refine Am ?_
 have H := AC H
 subst H
 refine Ax (.inl Aa) F W Aa (Ap F Aa) ?_
 exact ⟨rfl, W.done⟩
theorem YT : Has Tryz.prog 89 := CP Tryz.func89
def H2 (p0 : Tr37) : Option Bool := (if p0.un.1 = 2 then ((FY (Tr34.of (p0.un.2.1.un.1, p0.un.2.1.un.2.1, p0.un.2.1.un.2.2.1, p0.un.2.1.un.2.2.2))).bind fun x2 => (if x2 = true then (if (p0.un.2.2.2.2.length : Int) = 0 then (if 0 ≤ p0.un.2.2.1 then (if p0.un.2.2.1 ≤ 4 then (if 0 ≤ p0.un.2.2.2.1 then (Jx p0.un.2.2.1).bind fun x3 => some (decide (p0.un.2.2.2.1 ≤ x3)) else some false) else some false) else some false) else some false) else some false)).bind fun x1 => some x1 else (if (decide (p0.un.2.2.1 ≠ 0) || decide (p0.un.2.2.2.1 ≠ 0)) = true then some false else (if p0.un.1 = 1 then some (decide ((p0.un.2.2.2.2.length : Int) = 0)) else (if p0.un.1 = 3 then some true else some (decide (p0.un.1 = 4))).bind fun x4 => (if x4 = true then ((FY (Tr34.of (p0.un.2.1.un.1, p0.un.2.1.un.2.1, p0.un.2.1.un.2.2.1, p0.un.2.1.un.2.2.2))).bind fun x6 => (if x6 = true then (if 2 ≤ (p0.un.2.2.2.2.length : Int) then some (decide ((p0.un.2.2.2.2.length : Int) ≤ 8)) else some false) else some false)).bind fun x5 => some x5 else (if p0.un.1 = 5 then some (decide ((p0.un.2.2.2.2.length : Int) = 2)) else some false)))))
theorem PB (Y : Nat → Prop) (w0 : World) (v1 : Value) (v2 : Value) (p0 : Tr37) (r : Bool) (H : H2 p0 = some r) (h_v1 : Sl w0 (NX []) Bj v1 p0.un.2.1.un.2.2.2) (h_v2 : Sl w0 (NX []) Bl v2 p0.un.2.2.2.2) :
    Calls Tryz.prog 65 #[.agg #[.int .i64 p0.un.1, .int .i64 p0.un.2.1.un.1, .int .i64 p0.un.2.1.un.2.1, .int .i64 p0.un.2.1.un.2.2.1, v1, .int .i64 p0.un.2.2.1, .int .i64 p0.un.2.2.2.1, v2]] w0 fun e w' => e = .returned (.bool r) ∧ Below w0.heap.size w0 w' := by
 refine enter Tryz.func65 Aa Tryz.ntmps65 Aa fun a F => ?_
 have W := Stw.start Y w0
 obtain ⟨v3, h1, h_v1⟩ := h_v1.ex Co
 obtain ⟨v4, h2, h_v2⟩ := h_v2.ex Dy
 unfold H2 at H
 refine vc tk 2 F W fun a w F W => ?_
 refine CX (cs := (BE p0 v1 v2)) F W Aa Aa Aa fun b1 a w F W => ?_
 refine Gz tk 11 [0] F W (ai fun a w F W => ?_)
 refine BU F Aa H (fun F H => ?_) fun F H => ?_
 ·
  obtain ⟨o1, G1, K1⟩ := Ag H
  refine AA (fun a w => ∃ x1 : Bool, some (x1) = some o1 ∧ Fr 78 [] [(1, .pointer (some ⟨b1, 0, none⟩)), (2, .bool x1)] a ∧ Stw ⟨Y, [], w0⟩ (Ia b1 p0 v1 v2) [] w) ?_ ?_
  ·
   have H := G1
   refine CH W MO (by kernel_rfl) ?_
   refine qs F Aa (As JH Aa Aa Aa MT F Aa 1 Aa).q fun a F => ?_
   refine qs F Aa (Bu (v := Value.agg #[.int .i64 p0.un.2.1.un.1, .int .i64 p0.un.2.1.un.2.1, .int .i64 p0.un.2.1.un.2.2.1, v1]) 0 F Aa Aa MT Aa).q fun a F => ?_
   obtain ⟨x2, h3, H⟩ := Ag H
   refine qs F Aa (AL (v := Value.bool x2) F YP Aa (fun w W => Ka any w (v1) (Tr34.of (p0.un.2.1.un.1, p0.un.2.1.un.2.1, p0.un.2.1.un.2.2.1, p0.un.2.1.un.2.2.2)) _ h3 (Er (Ak Co h1 (Ah h_v1)) W))) fun a F => ?_
   refine qs F Aa (Aq F Aa).q fun a F => ?_
   rcases bxq x2 with hb | hb
   ·
    have H := Cg hb H
    rw [hb] at F
    refine AP F (Ac F Aa Aa Aa Aa) Aa (Ao Aa) (As JH Aa Aa Aa Ti F Aa 7 Aa).q fun a F => ?_
    refine AP F (Ac F Aa Aa Aa Aa) Aa (Ao Aa) (Bu (v := v2) 0 F Aa Aa Ti Aa).q fun a F => ?_
    refine AP F (Ac F Aa Aa Aa Aa) Aa (Ao Aa) (C2 (r := Bl) (l := p0.un.2.2.2.2) LU Aa F Aa (Ak Dy h2 (Ah h_v2))).q fun a F => ?_
    refine AP F (Ac F Aa Aa Aa Aa) Aa (Ao Aa) (PO F Aa Aa).q fun a F => ?_
    refine qs F Aa (BI F Aa Aa Aa).q fun a F => ?_
    refine qs F Aa (Aq F Aa).q fun a F => ?_
    rcases bxq (decide ((p0.un.2.2.2.2.length : Int) = 0)) with hb | hb
    ·
     have H := Cg (CQ hb) H
     rw [hb] at F
     refine AP F (Ac F Aa Aa Aa Aa) Aa (Ao Aa) (As JH Aa Aa Aa T3 F Aa 5 Aa).q fun a F => ?_
     refine AP F (Ac F Aa Aa Aa Aa) Aa (Ao Aa) (Bu (v := Value.int .i64 p0.un.2.2.1) 0 F Aa Aa T3 Aa).q fun a F => ?_
     refine AP F (Ac F Aa Aa Aa Aa) Aa (Ao Aa) (Sy F Aa Aa).q fun a F => ?_
     refine qs F Aa (BI F Aa Aa Aa).q fun a F => ?_
     refine qs F Aa (Aq F Aa).q fun a F => ?_
     rcases bxq (decide (0 ≤ p0.un.2.2.1)) with hb | hb
     ·
      have H := Cg (CQ hb) H
      rw [hb] at F
      refine AP F (Ac F Aa Aa Aa Aa) Aa (Ao Aa) (As JH Aa Aa Aa T3 F Aa 5 Aa).q fun a F => ?_
      refine AP F (Ac F Aa Aa Aa Aa) Aa (Ao Aa) (Bu (v := Value.int .i64 p0.un.2.2.1) 0 F Aa Aa T3 Aa).q fun a F => ?_
      refine AP F (Ac F Aa Aa Aa Aa) Aa (Ao Aa) (Lp F Aa Aa).q fun a F => ?_
      refine qs F Aa (BI F Aa Aa Aa).q fun a F => ?_
      refine qs F Aa (Aq F Aa).q fun a F => ?_
      rcases bxq (decide (p0.un.2.2.1 ≤ 4)) with hb | hb
      ·
       have H := Cg (CQ hb) H
       rw [hb] at F
       refine AP F (Ac F Aa Aa Aa Aa) Aa (Ao Aa) (As JH Aa Aa Aa T3 F Aa 6 Aa).q fun a F => ?_
       refine AP F (Ac F Aa Aa Aa Aa) Aa (Ao Aa) (Bu (v := Value.int .i64 p0.un.2.2.2.1) 0 F Aa Aa T3 Aa).q fun a F => ?_
       refine AP F (Ac F Aa Aa Aa Aa) Aa (Ao Aa) (Sy F Aa Aa).q fun a F => ?_
       refine qs F Aa (BI F Aa Aa Aa).q fun a F => ?_
       refine qs F Aa (Aq F Aa).q fun a F => ?_
       rcases bxq (decide (0 ≤ p0.un.2.2.2.1)) with hb | hb
       ·
        have H := Cg (CQ hb) H
        rw [hb] at F
        refine AP F (Ac F Aa Aa Aa Aa) Aa (Ao Aa) (As JH Aa Aa Aa T3 F Aa 6 Aa).q fun a F => ?_
        refine AP F (Ac F Aa Aa Aa Aa) Aa (Ao Aa) (Bu (v := Value.int .i64 p0.un.2.2.2.1) 0 F Aa Aa T3 Aa).q fun a F => ?_
        refine AP F (Ac F Aa Aa Aa Aa) Aa (Ao Aa) (As JH Aa Aa Aa T3 F Aa 5 Aa).q fun a F => ?_
        refine AP F (Ac F Aa Aa Aa Aa) Aa (Ao Aa) (Bu (v := Value.int .i64 p0.un.2.2.1) 0 F Aa Aa T3 Aa).q fun a F => ?_
        obtain ⟨x3, h4, H⟩ := Ag H
        refine AP F (Ac F Aa Aa Aa Aa) Aa (Ao Aa) (AL (v := Value.int .i64 x3) F YT Aa (fun w W => Pk any w p0.un.2.2.1 _ h4)) fun a F => ?_
        refine AP F (Ac F Aa Aa Aa Aa) Aa (Ao Aa) (Lp F Aa Aa).q fun a F => ?_
        refine qs F Aa (BI F Aa Aa Aa).q fun a F => ?_
        refine qs F Aa (Bz F Aa).q fun a F => ?_
        refine AO fun w W => ?_
        refine Ad ?_
        exact ⟨_, H, F.ra Aa, W⟩
       have H := Cf (CO hb) H
       rw [hb] at F
       iterate 6 refine Bp F (Be F Aa Aa Aa Aa Aa) Aa Aa fun a F => ?_
       refine qs F Aa (BA F Aa Aa Aa).q fun a F => ?_
       refine qs F Aa (Bz F Aa).q fun a F => ?_
       refine AO fun w W => ?_
       refine Ad ?_
       exact ⟨_, H, F.ra Aa, W⟩
      have H := Cf (CO hb) H
      rw [hb] at F
      iterate 3 refine Bp F (Be F Aa Aa Aa Aa Aa) Aa Aa fun a F => ?_
      refine qs F Aa (BA F Aa Aa Aa).q fun a F => ?_
      refine qs F Aa (Aq F Aa).q fun a F => ?_
      iterate 6 refine Bp F (Be F Aa Aa Aa Aa Aa) Aa Aa fun a F => ?_
      refine qs F Aa (BA F Aa Aa Aa).q fun a F => ?_
      refine qs F Aa (Bz F Aa).q fun a F => ?_
      refine AO fun w W => ?_
      refine Ad ?_
      exact ⟨_, H, F.ra Aa, W⟩
     have H := Cf (CO hb) H
     rw [hb] at F
     iterate 3 refine Bp F (Be F Aa Aa Aa Aa Aa) Aa Aa fun a F => ?_
     refine qs F Aa (BA F Aa Aa Aa).q fun a F => ?_
     refine qs F Aa (Aq F Aa).q fun a F => ?_
     iterate 3 refine Bp F (Be F Aa Aa Aa Aa Aa) Aa Aa fun a F => ?_
     refine qs F Aa (BA F Aa Aa Aa).q fun a F => ?_
     refine qs F Aa (Aq F Aa).q fun a F => ?_
     iterate 6 refine Bp F (Be F Aa Aa Aa Aa Aa) Aa Aa fun a F => ?_
     refine qs F Aa (BA F Aa Aa Aa).q fun a F => ?_
     refine qs F Aa (Bz F Aa).q fun a F => ?_
     refine AO fun w W => ?_
     refine Ad ?_
     exact ⟨_, H, F.ra Aa, W⟩
    have H := Cf (CO hb) H
    rw [hb] at F
    iterate 3 refine Bp F (Be F Aa Aa Aa Aa Aa) Aa Aa fun a F => ?_
    refine qs F Aa (BA F Aa Aa Aa).q fun a F => ?_
    refine qs F Aa (Aq F Aa).q fun a F => ?_
    iterate 3 refine Bp F (Be F Aa Aa Aa Aa Aa) Aa Aa fun a F => ?_
    refine qs F Aa (BA F Aa Aa Aa).q fun a F => ?_
    refine qs F Aa (Aq F Aa).q fun a F => ?_
    iterate 3 refine Bp F (Be F Aa Aa Aa Aa Aa) Aa Aa fun a F => ?_
    refine qs F Aa (BA F Aa Aa Aa).q fun a F => ?_
    refine qs F Aa (Aq F Aa).q fun a F => ?_
    iterate 6 refine Bp F (Be F Aa Aa Aa Aa Aa) Aa Aa fun a F => ?_
    refine qs F Aa (BA F Aa Aa Aa).q fun a F => ?_
    refine qs F Aa (Bz F Aa).q fun a F => ?_
    refine AO fun w W => ?_
    refine Ad ?_
    exact ⟨_, H, F.ra Aa, W⟩
   have H := Cf (by rw [hb]; decide) H
   rw [hb] at F
   iterate 4 refine Bp F (Be F Aa Aa Aa Aa Aa) Aa Aa fun a F => ?_
   refine qs F Aa (BA F Aa Aa Aa).q fun a F => ?_
   refine qs F Aa (Aq F Aa).q fun a F => ?_
   iterate 3 refine Bp F (Be F Aa Aa Aa Aa Aa) Aa Aa fun a F => ?_
   refine qs F Aa (BA F Aa Aa Aa).q fun a F => ?_
   refine qs F Aa (Aq F Aa).q fun a F => ?_
   iterate 3 refine Bp F (Be F Aa Aa Aa Aa Aa) Aa Aa fun a F => ?_
   refine qs F Aa (BA F Aa Aa Aa).q fun a F => ?_
   refine qs F Aa (Aq F Aa).q fun a F => ?_
   iterate 3 refine Bp F (Be F Aa Aa Aa Aa Aa) Aa Aa fun a F => ?_
   refine qs F Aa (BA F Aa Aa Aa).q fun a F => ?_
   refine qs F Aa (Aq F Aa).q fun a F => ?_
   iterate 6 refine Bp F (Be F Aa Aa Aa Aa Aa) Aa Aa fun a F => ?_
   refine qs F Aa (BA F Aa Aa Aa).q fun a F => ?_
   refine qs F Aa (Bz F Aa).q fun a F => ?_
   refine AO fun w W => ?_
   refine Ad ?_
   exact ⟨_, H, F.ra Aa, W⟩
  rintro a w ⟨x1, hj, F, W⟩
  have hj := AC hj
  subst hj
  have H := K1
  refine Am (Az ?_)
  have H := AC H
  subst H
  refine Ax (.inl Aa) F W Aa (Ap F Aa) ?_
  exact ⟨rfl, W.done⟩
 refine Gp tk 3 F W fun a w F W => ?_
 refine AA (fun a w => Fr 78 [] [(1, .pointer (some ⟨b1, 0, none⟩)), (2, .bool false), (45, .bool (decide (p0.un.2.2.1 ≠ 0) || decide (p0.un.2.2.2.1 ≠ 0)))] a ∧ Stw ⟨Y, [], w0⟩ (Ia b1 p0 v1 v2) [] w) ?_ ?_
 ·
  refine FR tk 5 [0] F W (ai fun a w F W => ?_)
  rcases bxq (decide (p0.un.2.2.1 ≠ 0)) with hb0 | hb0
  ·
   rw [hb0] at F
   refine vl tk 5 F W fun a w F W => ?_
   refine Ad ?_
   exact ⟨F.re ⟨rfl, Aa, (DX (by try rw [hb0]; all_goals simp only [DW])), trivial⟩, W⟩
  rw [hb0] at F
  refine Hw tk 5 [0] F W (ai fun a w F W => ?_)
  refine Ad ?_
  exact ⟨F.re ⟨rfl, Aa, (DX (by try rw [hb0]; all_goals simp only [DW])), trivial⟩, W⟩
 rintro a w ⟨F, W⟩
 refine CK F Aa H (fun F H => ?_) fun F H => ?_
 ·
  refine vc tk 5 F W fun a w F W => ?_
  refine Am (Az ?_)
  have H := AC H
  subst H
  refine Ax (.inl Aa) F W Aa (Ap F Aa) ?_
  exact ⟨rfl, W.done⟩
 refine QT tk 16 [0] F W (ai fun a w F W => ?_)
 refine B9 F Aa (fun hb => ?_) fun hb => ?_
 ·
  have H := Cg (CQ hb) H
  rw [hb] at F
  refine FR tk 4 [0] F W (ai fun a w F W => ?_)
  refine ls F W Aa (C2 (r := Bl) (l := p0.un.2.2.2.2) LU Aa F Aa (Ak Dy h2 (Ah h_v2))).q fun a w F W => ?_
  refine Cv tk 4 F W fun a w F W => ?_
  refine Am (AH (Az ?_))
  have H := AC H
  subst H
  refine Ax (.inl Aa) F W Aa (Ap F Aa) ?_
  exact ⟨rfl, W.done⟩
 have H := Cf (CO hb) H
 rw [hb] at F
 obtain ⟨o2, G2, K2⟩ := Ag H
 refine AA (fun a w => ∃ x4 : Bool, some (x4) = some o2 ∧ Fr 78 [] [(1, .pointer (some ⟨b1, 0, none⟩)), (2, .bool false), (47, .int .i64 p0.un.1), (54, .bool x4)] a ∧ Stw ⟨Y, [], w0⟩ (Ia b1 p0 v1 v2) [] w) ?_ ?_
 ·
  have H := G2
  refine vc tk 6 F W fun a w F W => ?_
  refine B9 F Aa (fun hb => ?_) fun hb => ?_
  ·
   have H := Cg (CQ hb) H
   rw [hb] at F
   refine Bc (Ad ?_)
   exact ⟨_, H, F.ra Aa, W⟩
  have H := Cf (CO hb) H
  rw [hb] at F
  refine vc tk 4 F W fun a w F W => ?_
  refine Ad ?_
  exact ⟨_, H, F.ra Aa, W⟩
 rintro a w ⟨x4, hj, F, W⟩
 have hj := AC hj
 subst hj
 have H := K2
 refine CK F Aa H (fun F H => ?_) fun F H => ?_
 ·
  obtain ⟨o3, G3, K3⟩ := Ag H
  refine AA (fun a w => ∃ x5 : Bool, some (x5) = some o3 ∧ Fr 78 [] [(2, .bool x5)] a ∧ Stw ⟨Y, [], w0⟩ (Ia b1 p0 v1 v2) [] w) ?_ ?_
  ·
   have H := G3
   refine FR tk 3 [0] F W (ai fun a w F W => ?_)
   obtain ⟨x6, h5, H⟩ := Ag H
   refine ls F W Aa (AL (v := Value.bool x6) F YP Aa (fun w W => Ka any w (v1) (Tr34.of (p0.un.2.1.un.1, p0.un.2.1.un.2.1, p0.un.2.1.un.2.2.1, p0.un.2.1.un.2.2.2)) _ h5 (Er (Ak Co h1 (Ah h_v1)) W))) fun a w F W => ?_
   refine ls F W Aa (Aq F Aa).q fun a w F W => ?_
   rcases bxq x6 with hb | hb
   ·
    have H := Cg hb H
    rw [hb] at F
    refine Hw tk 2 [0] F W (ai fun a w F W => ?_)
    refine Hu F W (Ac F Aa Aa Aa Aa) Aa (Ao Aa) (C2 (r := Bl) (l := p0.un.2.2.2.2) LU Aa F Aa (Ak Dy h2 (Ah h_v2))).q fun a w F W => ?_
    refine vl tk 3 F W fun a w F W => ?_
    rcases bxq (decide (2 ≤ (p0.un.2.2.2.2.length : Int))) with hb | hb
    ·
     have H := Cg (CQ hb) H
     rw [hb] at F
     refine Hw tk 2 [0] F W (ai fun a w F W => ?_)
     refine Hu F W (Ac F Aa Aa Aa Aa) Aa (Ao Aa) (C2 (r := Bl) (l := p0.un.2.2.2.2) LU Aa F Aa (Ak Dy h2 (Ah h_v2))).q fun a w F W => ?_
     refine vl tk 4 F W fun a w F W => ?_
     refine Ad ?_
     exact ⟨_, H, F.ra Aa, W⟩
    have H := Cf (CO hb) H
    rw [hb] at F
    refine vl tk 7 F W fun a w F W => ?_
    refine Ad ?_
    exact ⟨_, H, F.ra Aa, W⟩
   have H := Cf (by rw [hb]; decide) H
   rw [hb] at F
   refine vl tk 13 F W fun a w F W => ?_
   refine Ad ?_
   exact ⟨_, H, F.ra Aa, W⟩
  rintro a w ⟨x5, hj, F, W⟩
  have hj := AC hj
  subst hj
  have H := K3
  refine Am (AH (Az ?_))
  have H := AC H
  subst H
  refine Ax (.inl Aa) F W Aa (Ap F Aa) ?_
  exact ⟨rfl, W.done⟩
 refine vc tk 6 F W fun a w F W => ?_
 refine B9 F Aa (fun hb => ?_) fun hb => ?_
 ·
  have H := Cg (CQ hb) H
  rw [hb] at F
  refine FR tk 4 [0] F W (ai fun a w F W => ?_)
  refine ls F W Aa (C2 (r := Bl) (l := p0.un.2.2.2.2) LU Aa F Aa (Ak Dy h2 (Ah h_v2))).q fun a w F W => ?_
  refine Cv tk 4 F W fun a w F W => ?_
  refine Am (AH (Az ?_))
  have H := AC H
  subst H
  refine Ax (.inl Aa) F W Aa (Ap F Aa) ?_
  exact ⟨rfl, W.done⟩
 have H := Cf (CO hb) H
 rw [hb] at F
 refine Bc (AM ?_)
 refine vn tk 5 F W fun a w F W => ?_
 refine Am ?_
 have H := AC H
 subst H
 refine Ax (.inl Aa) F W Aa (Ap F Aa) ?_
 exact ⟨rfl, W.done⟩
theorem Vw : type_of% Tryz.underlying123 := Tryz.underlying123
theorem Y1 : Has Tryz.prog 65 := CP Tryz.func65
theorem XS : Bt Tryz.prog 123 [.int .i64 0] [(0, 1)] := ⟨⟨.agg #[.int .i64 0], by kernel_rfl, rfl⟩, ⟨_, Vw, fun w => by kernel_rfl⟩⟩
theorem Yf : (Tryz.prog.info? 123).bind (·.zero) = some (.agg #[.int .i64 0]) := by kernel_rfl
theorem XT : Ty Tryz.prog 123 true 1 := ⟨by kernel_rfl, by kernel_rfl⟩
abbrev MA (a0 : Nat) (a1 : Tr34) (a2 : Value) : List (Nat × List Value) := [(a0, [.int .i64 a1.un.1, .int .i64 a1.un.2.1, .int .i64 a1.un.2.2.1, a2])]
def JK (p0 : Tr34) : Option Bool := (if p0.un.1 = 3 then (if (Dg p0.un.2.1) = true then (if 0 ≤ p0.un.2.2.1 then (Jx p0.un.2.1).bind fun x2 => (if p0.un.2.2.1 ≤ x2 then some (decide ((p0.un.2.2.2.length : Int) = 0)) else some false) else some false) else some false).bind fun x1 => some x1 else (if (decide (p0.un.2.1 ≠ 0) || decide (p0.un.2.2.1 ≠ 0)) = true then some false else (if p0.un.1 = 1 then some true else some (decide (p0.un.1 = 2))).bind fun x3 => (if x3 = true then some (decide ((p0.un.2.2.2.length : Int) = 0)) else (if p0.un.1 = 4 then some (decide ((p0.un.2.2.2.length : Int) = 1)) else (if p0.un.1 = 5 then some true else some (decide (p0.un.1 = 6))).bind fun x4 => (if x4 = true then some (decide (2 ≤ (p0.un.2.2.2.length : Int)) && decide ((p0.un.2.2.2.length : Int) ≤ 8)) else some false)))))
theorem RC (Y : Nat → Prop) (w0 : World) (v1 : Value) (p0 : Tr34) (r : Bool) (H : JK p0 = some r) (h_v1 : Sl w0 (NX []) Bj v1 p0.un.2.2.2) :
    Calls Tryz.prog 118 #[.agg #[.int .i64 p0.un.1, .int .i64 p0.un.2.1, .int .i64 p0.un.2.2.1, v1]] w0 fun e w' => e = .returned (.bool r) ∧ Below w0.heap.size w0 w' := by
 refine enter Tryz.func118 Aa Tryz.ntmps118 Aa fun a F => ?_
 have W := Stw.start Y w0
 obtain ⟨v2, h1, h_v1⟩ := h_v1.ex Co
 unfold JK at H
 refine vc tk 2 F W fun a w F W => ?_
 refine CX (cs := (F1 p0 v1)) F W Aa Aa Aa fun b1 a w F W => ?_
 refine Gz tk 11 [0] F W (ai fun a w F W => ?_)
 refine BU F Aa H (fun F H => ?_) fun F H => ?_
 ·
  obtain ⟨o1, G1, K1⟩ := Ag H
  refine AA (fun a w => ∃ x1 : Bool, some (x1) = some o1 ∧ Fr 64 [] [(1, .pointer (some ⟨b1, 0, none⟩)), (2, .bool x1)] a ∧ Stw ⟨Y, [], w0⟩ (MA b1 p0 v1) [] w) ?_ ?_
  ·
   have H := G1
   refine CH W MO (by kernel_rfl) ?_
   refine qs F Aa (As Lj Aa Aa Aa T3 F Aa 1 Aa).q fun a F => ?_
   refine qs F Aa (Bu (v := Value.int .i64 p0.un.2.1) 0 F Aa Aa T3 Aa).q fun a F => ?_
   refine qs F Aa (AL (v := Value.bool (Dg p0.un.2.1)) F VK Aa (fun w W => JW any w p0.un.2.1 _ Aa)) fun a F => ?_
   refine qs F Aa (Aq F Aa).q fun a F => ?_
   rcases bxq (Dg p0.un.2.1) with hb | hb
   ·
    have H := Cg hb H
    rw [hb] at F
    refine AP F (Ac F Aa Aa Aa Aa) Aa (Ao Aa) (As Lj Aa Aa Aa T3 F Aa 2 Aa).q fun a F => ?_
    refine AP F (Ac F Aa Aa Aa Aa) Aa (Ao Aa) (Bu (v := Value.int .i64 p0.un.2.2.1) 0 F Aa Aa T3 Aa).q fun a F => ?_
    refine AP F (Ac F Aa Aa Aa Aa) Aa (Ao Aa) (Sy F Aa Aa).q fun a F => ?_
    refine qs F Aa (BI F Aa Aa Aa).q fun a F => ?_
    refine qs F Aa (Aq F Aa).q fun a F => ?_
    rcases bxq (decide (0 ≤ p0.un.2.2.1)) with hb | hb
    ·
     have H := Cg (CQ hb) H
     rw [hb] at F
     refine AP F (Ac F Aa Aa Aa Aa) Aa (Ao Aa) (As Lj Aa Aa Aa T3 F Aa 2 Aa).q fun a F => ?_
     refine AP F (Ac F Aa Aa Aa Aa) Aa (Ao Aa) (Bu (v := Value.int .i64 p0.un.2.2.1) 0 F Aa Aa T3 Aa).q fun a F => ?_
     refine AP F (Ac F Aa Aa Aa Aa) Aa (Ao Aa) (As Lj Aa Aa Aa T3 F Aa 1 Aa).q fun a F => ?_
     refine AP F (Ac F Aa Aa Aa Aa) Aa (Ao Aa) (Bu (v := Value.int .i64 p0.un.2.1) 0 F Aa Aa T3 Aa).q fun a F => ?_
     obtain ⟨x2, h2, H⟩ := Ag H
     refine AP F (Ac F Aa Aa Aa Aa) Aa (Ao Aa) (AL (v := Value.int .i64 x2) F YT Aa (fun w W => Pk any w p0.un.2.1 _ h2)) fun a F => ?_
     refine AP F (Ac F Aa Aa Aa Aa) Aa (Ao Aa) (Lp F Aa Aa).q fun a F => ?_
     refine qs F Aa (BI F Aa Aa Aa).q fun a F => ?_
     refine qs F Aa (Aq F Aa).q fun a F => ?_
     rcases bxq (decide (p0.un.2.2.1 ≤ x2)) with hb | hb
     ·
      have H := Cg (CQ hb) H
      rw [hb] at F
      refine AP F (Ac F Aa Aa Aa Aa) Aa (Ao Aa) (As Lj Aa Aa Aa Th F Aa 3 Aa).q fun a F => ?_
      refine AP F (Ac F Aa Aa Aa Aa) Aa (Ao Aa) (Bu (v := v1) 0 F Aa Aa Th Aa).q fun a F => ?_
      refine AP F (Ac F Aa Aa Aa Aa) Aa (Ao Aa) (C2 (r := Bj) (l := p0.un.2.2.2) Lk Aa F Aa (Ak Co h1 (Ah h_v1))).q fun a F => ?_
      refine AP F (Ac F Aa Aa Aa Aa) Aa (Ao Aa) (PO F Aa Aa).q fun a F => ?_
      refine qs F Aa (BI F Aa Aa Aa).q fun a F => ?_
      refine qs F Aa (Bz F Aa).q fun a F => ?_
      refine AO fun w W => ?_
      refine Ad ?_
      exact ⟨_, H, F.ra Aa, W⟩
     have H := Cf (CO hb) H
     rw [hb] at F
     iterate 4 refine Bp F (Be F Aa Aa Aa Aa Aa) Aa Aa fun a F => ?_
     refine qs F Aa (BA F Aa Aa Aa).q fun a F => ?_
     refine qs F Aa (Bz F Aa).q fun a F => ?_
     refine AO fun w W => ?_
     refine Ad ?_
     exact ⟨_, H, F.ra Aa, W⟩
    have H := Cf (CO hb) H
    rw [hb] at F
    iterate 6 refine Bp F (Be F Aa Aa Aa Aa Aa) Aa Aa fun a F => ?_
    refine qs F Aa (BA F Aa Aa Aa).q fun a F => ?_
    refine qs F Aa (Aq F Aa).q fun a F => ?_
    iterate 4 refine Bp F (Be F Aa Aa Aa Aa Aa) Aa Aa fun a F => ?_
    refine qs F Aa (BA F Aa Aa Aa).q fun a F => ?_
    refine qs F Aa (Bz F Aa).q fun a F => ?_
    refine AO fun w W => ?_
    refine Ad ?_
    exact ⟨_, H, F.ra Aa, W⟩
   have H := Cf (by rw [hb]; decide) H
   rw [hb] at F
   iterate 3 refine Bp F (Be F Aa Aa Aa Aa Aa) Aa Aa fun a F => ?_
   refine qs F Aa (BA F Aa Aa Aa).q fun a F => ?_
   refine qs F Aa (Aq F Aa).q fun a F => ?_
   iterate 6 refine Bp F (Be F Aa Aa Aa Aa Aa) Aa Aa fun a F => ?_
   refine qs F Aa (BA F Aa Aa Aa).q fun a F => ?_
   refine qs F Aa (Aq F Aa).q fun a F => ?_
   iterate 4 refine Bp F (Be F Aa Aa Aa Aa Aa) Aa Aa fun a F => ?_
   refine qs F Aa (BA F Aa Aa Aa).q fun a F => ?_
   refine qs F Aa (Bz F Aa).q fun a F => ?_
   refine AO fun w W => ?_
   refine Ad ?_
   exact ⟨_, H, F.ra Aa, W⟩
  rintro a w ⟨x1, hj, F, W⟩
  have hj := AC hj
  subst hj
  have H := K1
  refine Am (Az ?_)
  have H := AC H
  subst H
  refine Ax (.inl Aa) F W Aa (Ap F Aa) ?_
  exact ⟨rfl, W.done⟩
 refine Gp tk 3 F W fun a w F W => ?_
 refine AA (fun a w => Fr 64 [] [(1, .pointer (some ⟨b1, 0, none⟩)), (2, .bool false), (35, .bool (decide (p0.un.2.1 ≠ 0) || decide (p0.un.2.2.1 ≠ 0)))] a ∧ Stw ⟨Y, [], w0⟩ (MA b1 p0 v1) [] w) ?_ ?_
 ·
  refine FR tk 5 [0] F W (ai fun a w F W => ?_)
  rcases bxq (decide (p0.un.2.1 ≠ 0)) with hb0 | hb0
  ·
   rw [hb0] at F
   refine vl tk 5 F W fun a w F W => ?_
   refine Ad ?_
   exact ⟨F.re ⟨rfl, Aa, (DX (by try rw [hb0]; all_goals simp only [DW])), trivial⟩, W⟩
  rw [hb0] at F
  refine Hw tk 5 [0] F W (ai fun a w F W => ?_)
  refine Ad ?_
  exact ⟨F.re ⟨rfl, Aa, (DX (by try rw [hb0]; all_goals simp only [DW])), trivial⟩, W⟩
 rintro a w ⟨F, W⟩
 refine CK F Aa H (fun F H => ?_) fun F H => ?_
 ·
  refine vc tk 5 F W fun a w F W => ?_
  refine Am (Az ?_)
  have H := AC H
  subst H
  refine Ax (.inl Aa) F W Aa (Ap F Aa) ?_
  exact ⟨rfl, W.done⟩
 refine QT tk 10 [0] F W (ai fun a w F W => ?_)
 obtain ⟨o2, G2, K2⟩ := Ag H
 refine AA (fun a w => ∃ x3 : Bool, some (x3) = some o2 ∧ Fr 64 [] [(1, .pointer (some ⟨b1, 0, none⟩)), (2, .bool false), (37, .int .i64 p0.un.1), (38, .bool x3)] a ∧ Stw ⟨Y, [], w0⟩ (MA b1 p0 v1) [] w) ?_ ?_
 ·
  have H := G2
  refine vc tk 6 F W fun a w F W => ?_
  refine B9 F Aa (fun hb => ?_) fun hb => ?_
  ·
   have H := Cg (CQ hb) H
   rw [hb] at F
   refine Bc (Ad ?_)
   exact ⟨_, H, F.ra Aa, W⟩
  have H := Cf (CO hb) H
  rw [hb] at F
  refine vc tk 4 F W fun a w F W => ?_
  refine Ad ?_
  exact ⟨_, H, F.ra Aa, W⟩
 rintro a w ⟨x3, hj, F, W⟩
 have hj := AC hj
 subst hj
 have H := K2
 refine CK F Aa H (fun F H => ?_) fun F H => ?_
 ·
  refine FR tk 4 [0] F W (ai fun a w F W => ?_)
  refine ls F W Aa (C2 (r := Bj) (l := p0.un.2.2.2) Lk Aa F Aa (Ak Co h1 (Ah h_v1))).q fun a w F W => ?_
  refine Cv tk 4 F W fun a w F W => ?_
  refine Am (AH (Az ?_))
  have H := AC H
  subst H
  refine Ax (.inl Aa) F W Aa (Ap F Aa) ?_
  exact ⟨rfl, W.done⟩
 refine vc tk 6 F W fun a w F W => ?_
 refine B9 F Aa (fun hb => ?_) fun hb => ?_
 ·
  have H := Cg (CQ hb) H
  rw [hb] at F
  refine FR tk 4 [0] F W (ai fun a w F W => ?_)
  refine ls F W Aa (C2 (r := Bj) (l := p0.un.2.2.2) Lk Aa F Aa (Ak Co h1 (Ah h_v1))).q fun a w F W => ?_
  refine Cv tk 4 F W fun a w F W => ?_
  refine Am (AH (Az ?_))
  have H := AC H
  subst H
  refine Ax (.inl Aa) F W Aa (Ap F Aa) ?_
  exact ⟨rfl, W.done⟩
 have H := Cf (CO hb) H
 rw [hb] at F
 obtain ⟨o3, G3, K3⟩ := Ag H
 refine AA (fun a w => ∃ x4 : Bool, some (x4) = some o3 ∧ Fr 64 [] [(1, .pointer (some ⟨b1, 0, none⟩)), (2, .bool false), (51, .bool x4)] a ∧ Stw ⟨Y, [], w0⟩ (MA b1 p0 v1) [] w) ?_ ?_
 ·
  have H := G3
  refine vc tk 6 F W fun a w F W => ?_
  refine B9 F Aa (fun hb => ?_) fun hb => ?_
  ·
   have H := Cg (CQ hb) H
   rw [hb] at F
   refine Bc (Ad ?_)
   exact ⟨_, H, F.ra Aa, W⟩
  have H := Cf (CO hb) H
  rw [hb] at F
  refine vc tk 4 F W fun a w F W => ?_
  refine Ad ?_
  exact ⟨_, H, F.ra Aa, W⟩
 rintro a w ⟨x4, hj, F, W⟩
 have hj := AC hj
 subst hj
 have H := K3
 refine CK F Aa H (fun F H => ?_) fun F H => ?_
 ·
  refine AA (fun a w => Fr 64 [] [(2, .bool (decide (2 ≤ (p0.un.2.2.2.length : Int)) && decide ((p0.un.2.2.2.length : Int) ≤ 8)))] a ∧ Stw ⟨Y, [], w0⟩ (MA b1 p0 v1) [] w) ?_ ?_
  ·
   refine FR tk 3 [0] F W (ai fun a w F W => ?_)
   refine ls F W Aa (C2 (r := Bj) (l := p0.un.2.2.2) Lk Aa F Aa (Ak Co h1 (Ah h_v1))).q fun a w F W => ?_
   refine vl tk 2 F W fun a w F W => ?_
   rcases bxq (decide (2 ≤ (p0.un.2.2.2.length : Int))) with hb0 | hb0
   ·
    rw [hb0] at F
    refine Hw tk 2 [0] F W (ai fun a w F W => ?_)
    refine Hu F W (Ac F Aa Aa Aa Aa) Aa (Ao Aa) (C2 (r := Bj) (l := p0.un.2.2.2) Lk Aa F Aa (Ak Co h1 (Ah h_v1))).q fun a w F W => ?_
    refine vl tk 4 F W fun a w F W => ?_
    refine Ad ?_
    exact ⟨F.re ⟨(DX (by try rw [hb0]; all_goals simp only [DW])), trivial⟩, W⟩
   rw [hb0] at F
   refine vl tk 7 F W fun a w F W => ?_
   refine Ad ?_
   exact ⟨F.re ⟨(DX (by try rw [hb0]; all_goals simp only [DW])), trivial⟩, W⟩
  rintro a w ⟨F, W⟩
  refine Am (AH (Az ?_))
  have H := AC H
  subst H
  refine Ax (.inl Aa) F W Aa (Ap F Aa) ?_
  exact ⟨rfl, W.done⟩
 refine Bc (AM ?_)
 refine vn tk 5 F W fun a w F W => ?_
 refine Am ?_
 have H := AC H
 subst H
 refine Ax (.inl Aa) F W Aa (Ap F Aa) ?_
 exact ⟨rfl, W.done⟩
end
end Go.Proofs.YtpckgggmgijiiaaGreatDoor
