/- The functions of layer 29, EO. Conditions: none. -/
import Derived.Test.YtlgjpoapclifbaaDoorbA5
namespace Go.Proofs.YtlgjpoapclifbaaDoor
open Go Go.RowKit
set_option linter.unusedVariables false
set_option linter.unusedSimpArgs false
set_option maxRecDepth 20000
abbrev FD (a0 : Int) (a1 : Int) (a2 : Int) (a3 : Int) (a4 : Value) (a5 : Int) (a6 : Int) (a7 : Value) : List Value := [.int .i64 a0, .int .i64 a1, .int .i64 a2, .int .i64 a3, a4, .int .i64 a5, .int .i64 a6, a7]
noncomputable def Ea (fRec_r29_rows : (List (Int × Int × List UInt8 × Int)) → Int → Option (Tr37 × Int × Bool)) (p0 : List (Int × Int × List UInt8 × Int)) : (Int × Bool × List Tr37 × Int × Int × Int × Int × List Tr34 × Int × Int × List Tr37) → Option ((Int × Bool × List Tr37 × Int × Int × Int × Int × List Tr34 × Int × Int × List Tr37) ⊕ (Int × Bool × List Tr37 × Int × Int × Int × Int × List Tr34 × Int × Int × List Tr37))
  | (x13, x14, x15, x16, x17, x18, x19, x20, x21, x22, x23) => (if x14 = true then (CJ p0 x13 ([59] : List UInt8)).bind fun x26 => some (true, x26) else some (false, false)).bind fun (x24, x25) => (if x25 = true then ((GJ fRec_r29_rows) p0 (Co (x13 + 1))).bind fun x27 => (Eo x15 ([Tr37.of (x27.1.un.1, Tr34.of (x27.1.un.2.1.un.1, x27.1.un.2.1.un.2.1, x27.1.un.2.1.un.2.2.1, x27.1.un.2.1.un.2.2.2), x27.1.un.2.2.1, x27.1.un.2.2.2.1, x27.1.un.2.2.2.2)] : List Tr37)).bind fun x28 => some (.inl (x27.2.1, x27.2.2, x28, x27.1.un.1, x27.1.un.2.1.un.1, x27.1.un.2.1.un.2.1, x27.1.un.2.1.un.2.2.1, x27.1.un.2.1.un.2.2.2, x27.1.un.2.2.1, x27.1.un.2.2.2.1, x27.1.un.2.2.2.2)) else some (.inr (x13, x24, x15, x16, x17, x18, x19, x20, x21, x22, x23)))
noncomputable def Fv (fRec_r29_rows : (List (Int × Int × List UInt8 × Int)) → Int → Option (Tr37 × Int × Bool)) (p0 : List (Int × Int × List UInt8 × Int)) (p1 : Int) : Option (Tr37 × Int × Bool) := ((GJ fRec_r29_rows) p0 p1).bind fun x1 => (Bx (Ea fRec_r29_rows p0) (x1.2.1, x1.2.2, ([Tr37.of (x1.1.un.1, Tr34.of (x1.1.un.2.1.un.1, x1.1.un.2.1.un.2.1, x1.1.un.2.1.un.2.2.1, x1.1.un.2.1.un.2.2.2), x1.1.un.2.2.1, x1.1.un.2.2.2.1, x1.1.un.2.2.2.2)] : List Tr37), x1.1.un.1, x1.1.un.2.1.un.1, x1.1.un.2.1.un.2.1, x1.1.un.2.1.un.2.2.1, x1.1.un.2.1.un.2.2.2, x1.1.un.2.2.1, x1.1.un.2.2.2.1, x1.1.un.2.2.2.2)).bind fun (x2, x3, x4, x5, x6, x7, x8, x9, x10, x11, x12) => (if (x4.length : Int) = 1 then some (Tr37.of (x5, Tr34.of (x6, x7, x8, x9), x10, x11, x12), x2, x3) else some (Tr37.of (3, Tr34.of (0, 0, 0, ([] : List Tr34)), 0, 0, x4), x2, x3))
theorem Md (fRec_r29_rows : (List (Int × Int × List UInt8 × Int)) → Int → Option (Tr37 × Int × Bool)) (ih_r29_rows : ∀ (Y : Nat → Prop) (w0 : World) (v1 : Value) (p0 : List (Int × Int × List UInt8 × Int)) (p1 : Int) (r : Tr37 × Int × Bool) (H : fRec_r29_rows p0 p1 = some r) (h_v1 : Sl w0 (NX []) DA v1 p0), Calls Tryd.prog 31 #[v1, .int .i64 p1] w0 fun e w' => ∃ x : Value × Value, e = .returned (.tuple #[.agg #[.int .i64 r.1.un.1, .int .i64 r.1.un.2.1.un.1, .int .i64 r.1.un.2.1.un.2.1, .int .i64 r.1.un.2.1.un.2.2.1, x.1, .int .i64 r.1.un.2.2.1, .int .i64 r.1.un.2.2.2.1, x.2], .int .i64 r.2.1, .bool r.2.2]) ∧ Stw ⟨Y, [], w0⟩ [] [Av (x.1) A9 r.1.un.2.1.un.2.2.2, Av (x.2) B3 r.1.un.2.2.2.2] w') (Y : Nat → Prop) (w0 : World) (v1 : Value) (p0 : List (Int × Int × List UInt8 × Int)) (p1 : Int) (r : Tr37 × Int × Bool) (H : Fv fRec_r29_rows p0 p1 = some r) (h_v1 : Sl w0 (NX []) DA v1 p0) :
    Calls Tryd.prog 65 #[v1, .int .i64 p1] w0 fun e w' => ∃ x : Value × Value, e = .returned (.tuple #[.agg #[.int .i64 r.1.un.1, .int .i64 r.1.un.2.1.un.1, .int .i64 r.1.un.2.1.un.2.1, .int .i64 r.1.un.2.1.un.2.2.1, x.1, .int .i64 r.1.un.2.2.1, .int .i64 r.1.un.2.2.2.1, x.2], .int .i64 r.2.1, .bool r.2.2]) ∧ Stw ⟨Y, [], w0⟩ [] [Av (x.1) A9 r.1.un.2.1.un.2.2.2, Av (x.2) B3 r.1.un.2.2.2.2] w' := by
 refine enter Tryd.func65 Aa Tryd.ntmps65 Aa fun a W => ?_
 have F := Stw.start Y w0
 unfold Fv at H
 refine Ai (Ab ?_)
 refine AU (cs := (Bl)) W F Aa LH Aa fun b1 a w W F => ?_
 iterate 2 refine ls W F Aa (Ag W Aa).q fun a w W F => ?_
 refine Ae (Ad (Ai (Ab ?_)))
 iterate 2 refine ls W F Aa (Ah W Aa).q fun a w W F => ?_
 obtain ⟨x1, h1, H⟩ := An H
 refine AO (Ml := []) (Zl := []) (M := (Cc b1)) (Z := []) (β := Value × Value) (rv := fun x => .tuple #[.agg #[.int .i64 x1.1.un.1, .int .i64 x1.1.un.2.1.un.1, .int .i64 x1.1.un.2.1.un.2.1, .int .i64 x1.1.un.2.1.un.2.2.1, x.1, .int .i64 x1.1.un.2.2.1, .int .i64 x1.1.un.2.2.2.1, x.2], .int .i64 x1.2.1, .bool x1.2.2]) (MM := fun x => []) (ZZ := fun x => [Av x.1 A9 x1.1.un.2.1.un.2.2.2, Av x.2 B3 x1.1.un.2.2.2.2]) W F Sr Aa Aa (fun hL => (Lr fRec_r29_rows ih_r29_rows) _ w (v1) p0 p1 _ h1 ((AG h_v1) w F).nx) fun x a w W F => ?_
 obtain ⟨v2, v3⟩ := x
 have F : Stw ⟨Y, [], w0⟩ (Cc b1) [Av v2 A9 x1.1.un.2.1.un.2.2.2, Av v3 B3 x1.1.un.2.2.2.2] w := F
 refine ls W F Aa (Ah W Aa).q fun a w W F => ?_
 refine ls W F Aa (As (v := Value.agg #[.int .i64 x1.1.un.1, .int .i64 x1.1.un.2.1.un.1, .int .i64 x1.1.un.2.1.un.2.1, .int .i64 x1.1.un.2.1.un.2.2.1, v2, .int .i64 x1.1.un.2.2.1, .int .i64 x1.1.un.2.2.2.1, v3]) W Aa Aa).q fun a w W F => ?_
 refine ls W F Aa (As (v := Value.int .i64 x1.2.1) W Aa Aa).q fun a w W F => ?_
 refine ls W F Aa (As (v := Value.bool x1.2.2) W Aa Aa).q fun a w W F => ?_
 refine AU (cs := (Bl)) W F Aa LH Aa fun b2 a w W F => ?_
 refine Au (vs := (EL x1 v2 v3)) (M' := (Hx b2 x1 v2 v3 b1)) 0 W F Aa Aa Aa EU Aa Aa Aa (Ac Aa (Ac Aa (Ac Aa (Ac Aa (Ac (F.oneF (k := 0) Aa) (Ac Aa (Ac Aa (Ac (F.oneF (k := 1) Aa) AM)))))))) Aa fun w F => ?_
 iterate 2 refine ls W F Aa (Ag W Aa).q fun a w W F => ?_
 refine Ae (Ad (Ai (Ab ?_)))
 refine ls W F Aa (AJ (v := Value.agg #[.int .i64 x1.1.un.1, .int .i64 x1.1.un.2.1.un.1, .int .i64 x1.1.un.2.1.un.2.1, .int .i64 x1.1.un.2.1.un.2.2.1, v2, .int .i64 x1.1.un.2.2.1, .int .i64 x1.1.un.2.2.2.1, v3]) 0 W Aa Aa EU Aa).q fun a w W F => ?_
 refine Dj (z := Value.agg #[.int .i64 0, .int .i64 0, .int .i64 0, .int .i64 0, .slice none 0 0, .int .i64 0, .int .i64 0, .slice none 0 0]) (cs := (EL x1 v2 v3)) B3 ([Tr37.of (x1.1.un.1, Tr34.of (x1.1.un.2.1.un.1, x1.1.un.2.1.un.2.1, x1.1.un.2.1.un.2.2.1, x1.1.un.2.1.un.2.2.2), x1.1.un.2.2.1, x1.1.un.2.2.2.1, x1.1.un.2.2.2.2)] : List Tr37) W F Aa P9 LH Aa Aa Aa (AK Aa Aa Aa Br) Aa Aa ⟨[Value.int .i64 x1.1.un.1, Value.int .i64 x1.1.un.2.1.un.1, Value.int .i64 x1.1.un.2.1.un.2.1, Value.int .i64 x1.1.un.2.1.un.2.2.1, v2, Value.int .i64 x1.1.un.2.2.1, Value.int .i64 x1.1.un.2.2.2.1, v3], _, Aa, (Om.2 ⟨[Value.int .i64 x1.1.un.1], [Value.int .i64 x1.1.un.2.1.un.1, Value.int .i64 x1.1.un.2.1.un.2.1, Value.int .i64 x1.1.un.2.1.un.2.2.1, v2, Value.int .i64 x1.1.un.2.2.1, Value.int .i64 x1.1.un.2.2.2.1, v3], Aa, Aa, ⟨[Value.int .i64 x1.1.un.2.1.un.1, Value.int .i64 x1.1.un.2.1.un.2.1, Value.int .i64 x1.1.un.2.1.un.2.2.1, v2], [Value.int .i64 x1.1.un.2.2.1, Value.int .i64 x1.1.un.2.2.2.1, v3], Aa, (J1.2 ⟨[Value.int .i64 x1.1.un.2.1.un.1], [Value.int .i64 x1.1.un.2.1.un.2.1, Value.int .i64 x1.1.un.2.1.un.2.2.1, v2], Aa, Aa, ⟨[Value.int .i64 x1.1.un.2.1.un.2.1], [Value.int .i64 x1.1.un.2.1.un.2.2.1, v2], Aa, Aa, ⟨[Value.int .i64 x1.1.un.2.1.un.2.2.1], [v2], Aa, Aa, ⟨_, Aa, (F.item (i := 0) Aa)⟩⟩⟩⟩), ⟨[Value.int .i64 x1.1.un.2.2.1], [Value.int .i64 x1.1.un.2.2.2.1, v3], Aa, Aa, ⟨[Value.int .i64 x1.1.un.2.2.2.1], [v3], Aa, Aa, ⟨_, Aa, (F.item (i := 1) Aa)⟩⟩⟩⟩⟩), Aa⟩ fun v4 a w W F => ?_
 refine ls W F Aa (Ag W Aa).q fun a w W F => ?_
 refine Ae (Ad ?_)
 obtain ⟨o1, G1, K1⟩ := An H
 refine Bd (fun a w => ∃ x2 : Int, ∃ x3 : Bool, ∃ x4 : List Tr37, ∃ x5 : Int, ∃ x6 : Int, ∃ x7 : Int, ∃ x8 : Int, ∃ x9 : List Tr34, ∃ x10 : Int, ∃ x11 : Int, ∃ x12 : List Tr37, ∃ v5 : Value, ∃ v6 : Value, ∃ v7 : Value, some ((x2, x3, x4, x5, x6, x7, x8, x9, x10, x11, x12)) = some o1 ∧ Fr 48 [] [(4, .pointer (some ⟨b1, 0, none⟩)), (5, .int .i64 0), (6, .bool false), (7, .pointer (some ⟨b2, 0, none⟩)), (8, .int .i64 x2), (9, .bool x3), (10, v5)] a ∧ Stw ⟨Y, [], w0⟩ [(b2, (FD x5 x6 x7 x8 v6 x10 x11 v7)), (b1, (Bl))] [row v5 37 B3 x4, Av v6 A9 x9, Av v7 B3 x12] w) ?_ ?_
 ·
  have H := G1
  clear G1 K1
  refine AV ?_
  have F := F.frontZ (i := 2) Aa Aa
  have F := F.frontZ (i := 2) Aa Aa
  have F := F.frontZ (i := 2) Aa Aa
  have F := F.frontM (i := 1) Aa Aa
  have F := F.frontM (i := 1) Aa Aa
  refine Cr H (fun s a w => ∃ v8 : Value, ∃ v9 : Value, ∃ v10 : Value, Fr 48 [] [(0, v1), (4, .pointer (some ⟨b1, 0, none⟩)), (5, .int .i64 0), (6, .bool false), (7, .pointer (some ⟨b2, 0, none⟩)), (8, .int .i64 s.1), (9, .bool s.2.1), (10, v8)] a ∧ Stw ⟨Y, [], w0⟩ [(b2, [.int .i64 s.2.2.2.1, .int .i64 s.2.2.2.2.1, .int .i64 s.2.2.2.2.2.1, .int .i64 s.2.2.2.2.2.2.1, v9, .int .i64 s.2.2.2.2.2.2.2.2.1, .int .i64 s.2.2.2.2.2.2.2.2.2.1, v10]), (b1, (Bl))] [row v8 37 B3 s.2.2.1, Av v9 A9 s.2.2.2.2.2.2.2.1, Av v10 B3 s.2.2.2.2.2.2.2.2.2.2] w) ⟨(v4), (v2), (v3), W.re ⟨rfl, Aa, Aa, Aa, Aa, Aa, Aa, Aa, trivial⟩, F⟩ fun s o a w H L2 hR => ?_
  obtain ⟨x13, x14, x15, x16, x17, x18, x19, x20, x21, x22, x23⟩ := s
  obtain ⟨v8, v9, v10, W, F⟩ := hR
  have W : Fr 48 [] [(0, v1), (4, .pointer (some ⟨b1, 0, none⟩)), (5, .int .i64 0), (6, .bool false), (7, .pointer (some ⟨b2, 0, none⟩)), (8, .int .i64 x13), (9, .bool x14), (10, v8)] a := W
  have F : Stw ⟨Y, [], w0⟩ [(b2, (FD x16 x17 x18 x19 v9 x21 x22 v10)), (b1, (Bl))] [row v8 37 B3 x15, Av v9 A9 x20, Av v10 B3 x23] w := F
  rw [Ea] at H
  refine Ai ?_
  obtain ⟨o3, G3, K3⟩ := An H
  refine Bd (fun a w => ∃ x24 : Bool, ∃ x25 : Bool, some ((x24, x25)) = some o3 ∧ Fr 48 [] [(0, v1), (4, .pointer (some ⟨b1, 0, none⟩)), (5, .int .i64 0), (6, .bool false), (7, .pointer (some ⟨b2, 0, none⟩)), (8, .int .i64 x13), (9, .bool x24), (10, v8), (25, .bool x25)] a ∧ Stw ⟨Y, [], w0⟩ [(b2, (FD x16 x17 x18 x19 v9 x21 x22 v10)), (b1, (Bl))] [row v8 37 B3 x15, Av v9 A9 x20, Av v10 B3 x23] w) ?_ ?_
  ·
   have H := G3
   clear G3 K3
   refine Ab ?_
   iterate 2 refine ls W F Aa (Ah W Aa).q fun a w W F => ?_
   rcases Bool.eq_false_or_eq_true x14 with hb | hb
   ·
    have H := AQ hb H
    rw [hb] at W
    clear hb
    iterate 2 refine AX W F (Ak W Aa Aa Aa Aa) Aa (Ay Aa) (Ah W Aa).q fun a w W F => ?_
    refine JT (Ak W Aa Aa Aa Aa) ?_
    obtain ⟨x26, h2, H⟩ := An H
    refine ls W F Aa (A1 (v := Value.bool x26) W M9 Aa (fun w F => Cu any w (v1) p0 x13 ([59] : List UInt8) _ h2 (((AG h_v1) : EN _ _ _ _ _ _) w F).nx)) fun a w W F => ?_
    refine ls W F Aa (AE W Aa Aa Aa).q fun a w W F => ?_
    refine Ae (Ad ?_)
    have F := F.frontZ (i := 2) Aa Aa
    have F := F.frontZ (i := 2) Aa Aa
    have F := F.frontZ (i := 2) Aa Aa
    have F := F.frontM (i := 1) Aa Aa
    have F := F.frontM (i := 1) Aa Aa
    exact ⟨_, _, H, W.re ⟨rfl, Aa, Aa, Aa, Aa, Aa, Aa, Aa, Aa, trivial⟩, F⟩
   have H := AR (by rw [hb]; decide) H
   rw [hb] at W
   clear hb
   iterate 3 refine Ec W Aa Aa Aa Aa Aa Aa Aa fun a W => ?_
   refine ls W F Aa (AN W Aa Aa Aa).q fun a w W F => ?_
   refine Ae (Ad ?_)
   have F := F.frontZ (i := 2) Aa Aa
   have F := F.frontZ (i := 2) Aa Aa
   have F := F.frontZ (i := 2) Aa Aa
   have F := F.frontM (i := 1) Aa Aa
   have F := F.frontM (i := 1) Aa Aa
   exact ⟨_, _, H, W.re ⟨rfl, Aa, Aa, Aa, Aa, Aa, Aa, Aa, Aa, trivial⟩, F⟩
  rintro a w ⟨x24, x25, hj, W, F⟩
  have hj := AH hj
  subst hj
  have H := K3
  clear G3 K3
  refine Aw W Aa (fun hb => ?_) fun hb => ?_
  ·
   have H := AQ hb H
   rw [hb] at W
   clear hb
   refine Ax (Ad (AV (Ai (Ab ?_))))
   iterate 2 refine ls W F Aa (Ah W Aa).q fun a w W F => ?_
   refine ls W F Aa (BT W Aa Aa Aa).q fun a w W F => ?_
   obtain ⟨x27, h3, H⟩ := An H
   refine AO (Ml := []) (Zl := []) (M := [(b2, (FD x16 x17 x18 x19 v9 x21 x22 v10)), (b1, (Bl))]) (Z := [row v8 37 B3 x15, Av v9 A9 x20, Av v10 B3 x23]) (β := Value × Value) (rv := fun x => .tuple #[.agg #[.int .i64 x27.1.un.1, .int .i64 x27.1.un.2.1.un.1, .int .i64 x27.1.un.2.1.un.2.1, .int .i64 x27.1.un.2.1.un.2.2.1, x.1, .int .i64 x27.1.un.2.2.1, .int .i64 x27.1.un.2.2.2.1, x.2], .int .i64 x27.2.1, .bool x27.2.2]) (MM := fun x => []) (ZZ := fun x => [Av x.1 A9 x27.1.un.2.1.un.2.2.2, Av x.2 B3 x27.1.un.2.2.2.2]) W F Sr Aa Aa (fun hL => (Lr fRec_r29_rows ih_r29_rows) _ w (v1) p0 (Co (x13 + 1)) _ h3 ((AG h_v1) w F).nx) fun x a w W F => ?_
   obtain ⟨v11, v12⟩ := x
   have F : Stw ⟨Y, [], w0⟩ [(b2, (FD x16 x17 x18 x19 v9 x21 x22 v10)), (b1, (Bl))] [Av v11 A9 x27.1.un.2.1.un.2.2.2, Av v12 B3 x27.1.un.2.2.2.2, row v8 37 B3 x15, Av v9 A9 x20, Av v10 B3 x23] w := F
   refine ls W F Aa (Ah W Aa).q fun a w W F => ?_
   refine ls W F Aa (As (v := Value.agg #[.int .i64 x27.1.un.1, .int .i64 x27.1.un.2.1.un.1, .int .i64 x27.1.un.2.1.un.2.1, .int .i64 x27.1.un.2.1.un.2.2.1, v11, .int .i64 x27.1.un.2.2.1, .int .i64 x27.1.un.2.2.2.1, v12]) W Aa Aa).q fun a w W F => ?_
   refine ls W F Aa (As (v := Value.int .i64 x27.2.1) W Aa Aa).q fun a w W F => ?_
   refine ls W F Aa (As (v := Value.bool x27.2.2) W Aa Aa).q fun a w W F => ?_
   refine Au (vs := (EL x27 v11 v12)) (M' := (Hx b2 x27 v11 v12 b1)) 0 W F Aa Aa Aa EU Aa Aa Aa (Ac Aa (Ac Aa (Ac Aa (Ac Aa (Ac (F.oneF (k := 0) Aa) (Ac Aa (Ac Aa (Ac (F.oneF (k := 1) Aa) AM)))))))) Aa fun w F => ?_
   iterate 2 refine ls W F Aa (Ag W Aa).q fun a w W F => ?_
   refine Ae (Ad (Ab ?_))
   refine ls W F Aa (Ah W Aa).q fun a w W F => ?_
   refine ls W F Aa (AJ (v := Value.agg #[.int .i64 x27.1.un.1, .int .i64 x27.1.un.2.1.un.1, .int .i64 x27.1.un.2.1.un.2.1, .int .i64 x27.1.un.2.1.un.2.2.1, v11, .int .i64 x27.1.un.2.2.1, .int .i64 x27.1.un.2.2.2.1, v12]) 0 W Aa Aa EU Aa).q fun a w W F => ?_
   refine Dj (z := Value.agg #[.int .i64 0, .int .i64 0, .int .i64 0, .int .i64 0, .slice none 0 0, .int .i64 0, .int .i64 0, .slice none 0 0]) (cs := (EL x27 v11 v12)) B3 ([Tr37.of (x27.1.un.1, Tr34.of (x27.1.un.2.1.un.1, x27.1.un.2.1.un.2.1, x27.1.un.2.1.un.2.2.1, x27.1.un.2.1.un.2.2.2), x27.1.un.2.2.1, x27.1.un.2.2.2.1, x27.1.un.2.2.2.2)] : List Tr37) W F Aa P9 LH Aa Aa Aa (AK Aa Aa Aa Br) Aa Aa ⟨[Value.int .i64 x27.1.un.1, Value.int .i64 x27.1.un.2.1.un.1, Value.int .i64 x27.1.un.2.1.un.2.1, Value.int .i64 x27.1.un.2.1.un.2.2.1, v11, Value.int .i64 x27.1.un.2.2.1, Value.int .i64 x27.1.un.2.2.2.1, v12], _, Aa, (Om.2 ⟨[Value.int .i64 x27.1.un.1], [Value.int .i64 x27.1.un.2.1.un.1, Value.int .i64 x27.1.un.2.1.un.2.1, Value.int .i64 x27.1.un.2.1.un.2.2.1, v11, Value.int .i64 x27.1.un.2.2.1, Value.int .i64 x27.1.un.2.2.2.1, v12], Aa, Aa, ⟨[Value.int .i64 x27.1.un.2.1.un.1, Value.int .i64 x27.1.un.2.1.un.2.1, Value.int .i64 x27.1.un.2.1.un.2.2.1, v11], [Value.int .i64 x27.1.un.2.2.1, Value.int .i64 x27.1.un.2.2.2.1, v12], Aa, (J1.2 ⟨[Value.int .i64 x27.1.un.2.1.un.1], [Value.int .i64 x27.1.un.2.1.un.2.1, Value.int .i64 x27.1.un.2.1.un.2.2.1, v11], Aa, Aa, ⟨[Value.int .i64 x27.1.un.2.1.un.2.1], [Value.int .i64 x27.1.un.2.1.un.2.2.1, v11], Aa, Aa, ⟨[Value.int .i64 x27.1.un.2.1.un.2.2.1], [v11], Aa, Aa, ⟨_, Aa, (F.item (i := 0) Aa)⟩⟩⟩⟩), ⟨[Value.int .i64 x27.1.un.2.2.1], [Value.int .i64 x27.1.un.2.2.2.1, v12], Aa, Aa, ⟨[Value.int .i64 x27.1.un.2.2.2.1], [v12], Aa, Aa, ⟨_, Aa, (F.item (i := 1) Aa)⟩⟩⟩⟩⟩), Aa⟩ fun v13 a w W F => ?_
   obtain ⟨x28, h4, H⟩ := An H
   refine CU (r := B3) (i := 3) W F Aa P9 Aa Aa Aa Aa (DD F 0 Aa) h4 Aa fun v14 a w W F => ?_
   have F : Stw ⟨Y, [], w0⟩ (Hx b2 x27 v11 v12 b1) [row v14 37 B3 x28, row v13 37 B3 ([Tr37.of (x27.1.un.1, Tr34.of (x27.1.un.2.1.un.1, x27.1.un.2.1.un.2.1, x27.1.un.2.1.un.2.2.1, x27.1.un.2.1.un.2.2.2), x27.1.un.2.2.1, x27.1.un.2.2.2.1, x27.1.un.2.2.2.2)] : List Tr37), Av v11 A9 x27.1.un.2.1.un.2.2.2, Av v12 B3 x27.1.un.2.2.2.2, Av v9 A9 x20, Av v10 B3 x23] w := F
   refine ls W F Aa (Ag W Aa).q fun a w W F => ?_
   refine Ae (Bw (Ad ?_))
   have F := F.frontZ (i := 3) Aa Aa
   have F := F.frontZ (i := 3) Aa Aa
   have F := F.frontZ (i := 2) Aa Aa
   have F := F.frontM (i := 1) Aa Aa
   have F := F.frontM (i := 1) Aa Aa
   have F := F.sub (M' := (Hx b2 x27 v11 v12 b1)) (Z' := [row v14 37 B3 x28, Av v11 A9 x27.1.un.2.1.un.2.2.2, Av v12 B3 x27.1.un.2.2.2.2]) (List.Sublist.refl _) (List.Sublist.cons_cons _ (List.Sublist.cons_cons _ (List.Sublist.cons_cons _ (List.nil_sublist _))))
   exact ⟨_, H, (v14), (v11), (v12), W.re ⟨rfl, Aa, Aa, Aa, Aa, Aa, Aa, Aa, trivial⟩, F⟩
  have H := AR (by rw [hb]; decide) H
  rw [hb] at W
  clear hb
  refine Cl ?_
  iterate 2 refine CO ?_
  refine Ck (Ad ?_)
  have F := F.frontZ (i := 2) Aa Aa
  have F := F.frontZ (i := 2) Aa Aa
  have F := F.frontZ (i := 2) Aa Aa
  have F := F.frontM (i := 1) Aa Aa
  have F := F.frontM (i := 1) Aa Aa
  have H := L2 _ H
  exact ⟨_, _, _, _, _, _, _, _, _, _, _, (v8), (v9), (v10), H, W.re ⟨rfl, Aa, Aa, Aa, Aa, Aa, Aa, trivial⟩, F⟩
 rintro a w ⟨x2, x3, x4, x5, x6, x7, x8, x9, x10, x11, x12, v5, v6, v7, hj, W, F⟩
 have hj := AH hj
 subst hj
 have H := K1
 clear G1 K1
 refine Ai (Ai (Ab ?_))
 refine ls W F Aa (Ah W Aa).q fun a w W F => ?_
 refine ls W F Aa (E4 (r := B3) (l := x4) Pb Aa W Aa (Bq 0 Aa)).q fun a w W F => ?_
 refine ls W F Aa (Bn W Aa Aa).q fun a w W F => ?_
 refine Ae (Ad ?_)
 refine Aw W Aa (fun hb => ?_) fun hb => ?_
 ·
  have H := AQ (BB hb) H
  rw [hb] at W
  clear hb
  refine Ai (Ab ?_)
  refine ls W F Aa (AJ (v := Value.agg #[.int .i64 x5, .int .i64 x6, .int .i64 x7, .int .i64 x8, v6, .int .i64 x10, .int .i64 x11, v7]) 0 W Aa Aa EU Aa).q fun a w W F => ?_
  iterate 2 refine ls W F Aa (Ah W Aa).q fun a w W F => ?_
  refine Au (vs := (FD x5 x6 x7 x8 v6 x10 x11 v7)) (M' := [(b2, (FD x5 x6 x7 x8 v6 x10 x11 v7)), (b1, (FD x5 x6 x7 x8 v6 x10 x11 v7))]) 1 W F Aa Aa Aa EU Aa Aa Aa (Ac Aa (Ac Aa (Ac Aa (Ac Aa (Ac (F.oneF (k := 1) Aa) (Ac Aa (Ac Aa (Ac (F.oneF (k := 2) Aa) AM)))))))) Aa fun w F => ?_
  iterate 2 refine ls W F Aa (Ag W Aa).q fun a w W F => ?_
  refine Ae (Ad (Aq (AD ?_)))
  have H := AH H
  subst H
  refine CD (.inl Aa) W F Aa (AB 1 W Aa Aa EU Aa) (Ap W Aa) (Ap W Aa) ?_
  have F := F.frontZ (i := 2) Aa Aa
  have F := F.frontZ (i := 2) Aa Aa
  have F := F.sub (M' := []) (Z' := [Av v6 A9 x9, Av v7 B3 x12]) (List.nil_sublist _) (List.Sublist.cons_cons _ (List.Sublist.cons_cons _ (List.nil_sublist _)))
  exact ⟨((v6), (v7)), Aa, F⟩
 have H := AR (Bz hb) H
 rw [hb] at W
 clear hb
 refine Ax (Ad (Ai (Ab ?_)))
 refine ls W F Aa (Ah W Aa).q fun a w W F => ?_
 refine ls W F Aa (Ba (v := Value.agg #[.int .i64 3, .int .i64 0, .int .i64 0, .int .i64 0, .slice none 0 0, .int .i64 0, .int .i64 0, v5]) Qo W Aa (AK Aa Aa Aa (AK Aa (C4 (F.one (k := 0) Aa)) Aa Br)) Aa).q fun a w W F => ?_
 iterate 2 refine ls W F Aa (Ah W Aa).q fun a w W F => ?_
 refine Au (vs := (Qx v5)) (M' := [(b2, (FD x5 x6 x7 x8 v6 x10 x11 v7)), (b1, (Qx v5))]) 1 W F Aa Aa Aa EU Aa Aa Aa (Ac Aa (Ac Aa (Ac Aa (Ac Aa (Ac Aa (Ac Aa (Ac Aa (Ac (F.one (k := 0) Aa) AM)))))))) Aa fun w F => ?_
 iterate 2 refine ls W F Aa (Ag W Aa).q fun a w W F => ?_
 refine Ae (Ad (Aq ?_))
 have H := AH H
 subst H
 refine CD (.inl Aa) W F Aa (AB 1 W Aa Aa EU Aa) (Ap W Aa) (Ap W Aa) ?_
 have F := F.note (Sl.nil (r := A9))
 have F := F.frontZ (i := 1) Aa Aa
 have F := F.freeze
 have F := F.frontZ (i := 1) Aa Aa
 have F := F.sub (M' := []) (Z' := [Av (Value.slice none 0 0) A9 ([]), Av v5 B3 x4]) (List.nil_sublist _) (List.Sublist.cons_cons _ (List.Sublist.cons_cons _ (List.nil_sublist _)))
 exact ⟨((Value.slice none 0 0), (v5)), Aa, F⟩
theorem Te : Has Tryd.prog 65 := ⟨fun args w => Al Tryd.func65 rfl (by decide) args w⟩
noncomputable def Dk (fRec : (List (Int × Int × List UInt8 × Int)) → Int → Option (Tr37 × Int × Bool)) (p0 : List (Int × Int × List UInt8 × Int)) : (Int × Bool × List Tr37 × Int × Int × Int × Int × List Tr34 × Int × Int × List Tr37) → Option ((Int × Bool × List Tr37 × Int × Int × Int × Int × List Tr34 × Int × Int × List Tr37) ⊕ (Int × Bool × List Tr37 × Int × Int × Int × Int × List Tr34 × Int × Int × List Tr37))
  | (x13, x14, x15, x16, x17, x18, x19, x20, x21, x22, x23) => (if x14 = true then (CJ p0 x13 ([124] : List UInt8)).bind fun x26 => some (true, x26) else some (false, false)).bind fun (x24, x25) => (if x25 = true then ((Fv fRec) p0 (Co (x13 + 1))).bind fun x27 => (Eo x15 ([Tr37.of (x27.1.un.1, Tr34.of (x27.1.un.2.1.un.1, x27.1.un.2.1.un.2.1, x27.1.un.2.1.un.2.2.1, x27.1.un.2.1.un.2.2.2), x27.1.un.2.2.1, x27.1.un.2.2.2.1, x27.1.un.2.2.2.2)] : List Tr37)).bind fun x28 => some (.inl (x27.2.1, x27.2.2, x28, x27.1.un.1, x27.1.un.2.1.un.1, x27.1.un.2.1.un.2.1, x27.1.un.2.1.un.2.2.1, x27.1.un.2.1.un.2.2.2, x27.1.un.2.2.1, x27.1.un.2.2.2.1, x27.1.un.2.2.2.2)) else some (.inr (x13, x24, x15, x16, x17, x18, x19, x20, x21, x22, x23)))
noncomputable def Dp (fRec : (List (Int × Int × List UInt8 × Int)) → Int → Option (Tr37 × Int × Bool)) (p0 : List (Int × Int × List UInt8 × Int)) (p1 : Int) : Option (Tr37 × Int × Bool) := ((Fv fRec) p0 p1).bind fun x1 => (Bx (Dk fRec p0) (x1.2.1, x1.2.2, ([Tr37.of (x1.1.un.1, Tr34.of (x1.1.un.2.1.un.1, x1.1.un.2.1.un.2.1, x1.1.un.2.1.un.2.2.1, x1.1.un.2.1.un.2.2.2), x1.1.un.2.2.1, x1.1.un.2.2.2.1, x1.1.un.2.2.2.2)] : List Tr37), x1.1.un.1, x1.1.un.2.1.un.1, x1.1.un.2.1.un.2.1, x1.1.un.2.1.un.2.2.1, x1.1.un.2.1.un.2.2.2, x1.1.un.2.2.1, x1.1.un.2.2.2.1, x1.1.un.2.2.2.2)).bind fun (x2, x3, x4, x5, x6, x7, x8, x9, x10, x11, x12) => (if (x4.length : Int) = 1 then some (Tr37.of (x5, Tr34.of (x6, x7, x8, x9), x10, x11, x12), x2, x3) else some (Tr37.of (4, Tr34.of (0, 0, 0, ([] : List Tr34)), 0, 0, x4), x2, x3))
noncomputable def CH : Nat → (List (Int × Int × List UInt8 × Int)) → Int → Option (Tr37 × Int × Bool)
  | 0 => fun _ _ => none
  | n + 1 => Dp (CH n)
noncomputable def IG (p0 : List (Int × Int × List UInt8 × Int)) (p1 : Int) : Option (Tr37 × Int × Bool) := Gx fun n => CH n p0 p1
theorem MD (fRec : (List (Int × Int × List UInt8 × Int)) → Int → Option (Tr37 × Int × Bool)) (ih : ∀ (Y : Nat → Prop) (w0 : World) (v1 : Value) (p0 : List (Int × Int × List UInt8 × Int)) (p1 : Int) (r : Tr37 × Int × Bool) (H : fRec p0 p1 = some r) (h_v1 : Sl w0 (NX []) DA v1 p0), Calls Tryd.prog 31 #[v1, .int .i64 p1] w0 fun e w' => ∃ x : Value × Value, e = .returned (.tuple #[.agg #[.int .i64 r.1.un.1, .int .i64 r.1.un.2.1.un.1, .int .i64 r.1.un.2.1.un.2.1, .int .i64 r.1.un.2.1.un.2.2.1, x.1, .int .i64 r.1.un.2.2.1, .int .i64 r.1.un.2.2.2.1, x.2], .int .i64 r.2.1, .bool r.2.2]) ∧ Stw ⟨Y, [], w0⟩ [] [Av (x.1) A9 r.1.un.2.1.un.2.2.2, Av (x.2) B3 r.1.un.2.2.2.2] w') (Y : Nat → Prop) (w0 : World) (v1 : Value) (p0 : List (Int × Int × List UInt8 × Int)) (p1 : Int) (r : Tr37 × Int × Bool) (H : Dp fRec p0 p1 = some r) (h_v1 : Sl w0 (NX []) DA v1 p0) :
    Calls Tryd.prog 31 #[v1, .int .i64 p1] w0 fun e w' => ∃ x : Value × Value, e = .returned (.tuple #[.agg #[.int .i64 r.1.un.1, .int .i64 r.1.un.2.1.un.1, .int .i64 r.1.un.2.1.un.2.1, .int .i64 r.1.un.2.1.un.2.2.1, x.1, .int .i64 r.1.un.2.2.1, .int .i64 r.1.un.2.2.2.1, x.2], .int .i64 r.2.1, .bool r.2.2]) ∧ Stw ⟨Y, [], w0⟩ [] [Av (x.1) A9 r.1.un.2.1.un.2.2.2, Av (x.2) B3 r.1.un.2.2.2.2] w' := by
 refine enter Tryd.func31 Aa Tryd.ntmps31 Aa fun a W => ?_
 have F := Stw.start Y w0
 unfold Dp at H
 refine Ai (Ab ?_)
 refine AU (cs := (Bl)) W F Aa LH Aa fun b1 a w W F => ?_
 iterate 2 refine ls W F Aa (Ag W Aa).q fun a w W F => ?_
 refine Ae (Ad (Ai (Ab ?_)))
 iterate 2 refine ls W F Aa (Ah W Aa).q fun a w W F => ?_
 obtain ⟨x1, h1, H⟩ := An H
 refine AO (Ml := []) (Zl := []) (M := (Cc b1)) (Z := []) (β := Value × Value) (rv := fun x => .tuple #[.agg #[.int .i64 x1.1.un.1, .int .i64 x1.1.un.2.1.un.1, .int .i64 x1.1.un.2.1.un.2.1, .int .i64 x1.1.un.2.1.un.2.2.1, x.1, .int .i64 x1.1.un.2.2.1, .int .i64 x1.1.un.2.2.2.1, x.2], .int .i64 x1.2.1, .bool x1.2.2]) (MM := fun x => []) (ZZ := fun x => [Av x.1 A9 x1.1.un.2.1.un.2.2.2, Av x.2 B3 x1.1.un.2.2.2.2]) W F Te Aa Aa (fun hL => (Md fRec ih) _ w (v1) p0 p1 _ h1 ((AG h_v1) w F).nx) fun x a w W F => ?_
 obtain ⟨v2, v3⟩ := x
 have F : Stw ⟨Y, [], w0⟩ (Cc b1) [Av v2 A9 x1.1.un.2.1.un.2.2.2, Av v3 B3 x1.1.un.2.2.2.2] w := F
 refine ls W F Aa (Ah W Aa).q fun a w W F => ?_
 refine ls W F Aa (As (v := Value.agg #[.int .i64 x1.1.un.1, .int .i64 x1.1.un.2.1.un.1, .int .i64 x1.1.un.2.1.un.2.1, .int .i64 x1.1.un.2.1.un.2.2.1, v2, .int .i64 x1.1.un.2.2.1, .int .i64 x1.1.un.2.2.2.1, v3]) W Aa Aa).q fun a w W F => ?_
 refine ls W F Aa (As (v := Value.int .i64 x1.2.1) W Aa Aa).q fun a w W F => ?_
 refine ls W F Aa (As (v := Value.bool x1.2.2) W Aa Aa).q fun a w W F => ?_
 refine AU (cs := (Bl)) W F Aa LH Aa fun b2 a w W F => ?_
 refine Au (vs := (EL x1 v2 v3)) (M' := (Hx b2 x1 v2 v3 b1)) 0 W F Aa Aa Aa EU Aa Aa Aa (Ac Aa (Ac Aa (Ac Aa (Ac Aa (Ac (F.oneF (k := 0) Aa) (Ac Aa (Ac Aa (Ac (F.oneF (k := 1) Aa) AM)))))))) Aa fun w F => ?_
 iterate 2 refine ls W F Aa (Ag W Aa).q fun a w W F => ?_
 refine Ae (Ad (Ai (Ab ?_)))
 refine ls W F Aa (AJ (v := Value.agg #[.int .i64 x1.1.un.1, .int .i64 x1.1.un.2.1.un.1, .int .i64 x1.1.un.2.1.un.2.1, .int .i64 x1.1.un.2.1.un.2.2.1, v2, .int .i64 x1.1.un.2.2.1, .int .i64 x1.1.un.2.2.2.1, v3]) 0 W Aa Aa EU Aa).q fun a w W F => ?_
 refine Dj (z := Value.agg #[.int .i64 0, .int .i64 0, .int .i64 0, .int .i64 0, .slice none 0 0, .int .i64 0, .int .i64 0, .slice none 0 0]) (cs := (EL x1 v2 v3)) B3 ([Tr37.of (x1.1.un.1, Tr34.of (x1.1.un.2.1.un.1, x1.1.un.2.1.un.2.1, x1.1.un.2.1.un.2.2.1, x1.1.un.2.1.un.2.2.2), x1.1.un.2.2.1, x1.1.un.2.2.2.1, x1.1.un.2.2.2.2)] : List Tr37) W F Aa P9 LH Aa Aa Aa (AK Aa Aa Aa Br) Aa Aa ⟨[Value.int .i64 x1.1.un.1, Value.int .i64 x1.1.un.2.1.un.1, Value.int .i64 x1.1.un.2.1.un.2.1, Value.int .i64 x1.1.un.2.1.un.2.2.1, v2, Value.int .i64 x1.1.un.2.2.1, Value.int .i64 x1.1.un.2.2.2.1, v3], _, Aa, (Om.2 ⟨[Value.int .i64 x1.1.un.1], [Value.int .i64 x1.1.un.2.1.un.1, Value.int .i64 x1.1.un.2.1.un.2.1, Value.int .i64 x1.1.un.2.1.un.2.2.1, v2, Value.int .i64 x1.1.un.2.2.1, Value.int .i64 x1.1.un.2.2.2.1, v3], Aa, Aa, ⟨[Value.int .i64 x1.1.un.2.1.un.1, Value.int .i64 x1.1.un.2.1.un.2.1, Value.int .i64 x1.1.un.2.1.un.2.2.1, v2], [Value.int .i64 x1.1.un.2.2.1, Value.int .i64 x1.1.un.2.2.2.1, v3], Aa, (J1.2 ⟨[Value.int .i64 x1.1.un.2.1.un.1], [Value.int .i64 x1.1.un.2.1.un.2.1, Value.int .i64 x1.1.un.2.1.un.2.2.1, v2], Aa, Aa, ⟨[Value.int .i64 x1.1.un.2.1.un.2.1], [Value.int .i64 x1.1.un.2.1.un.2.2.1, v2], Aa, Aa, ⟨[Value.int .i64 x1.1.un.2.1.un.2.2.1], [v2], Aa, Aa, ⟨_, Aa, (F.item (i := 0) Aa)⟩⟩⟩⟩), ⟨[Value.int .i64 x1.1.un.2.2.1], [Value.int .i64 x1.1.un.2.2.2.1, v3], Aa, Aa, ⟨[Value.int .i64 x1.1.un.2.2.2.1], [v3], Aa, Aa, ⟨_, Aa, (F.item (i := 1) Aa)⟩⟩⟩⟩⟩), Aa⟩ fun v4 a w W F => ?_
 refine ls W F Aa (Ag W Aa).q fun a w W F => ?_
 refine Ae (Ad ?_)
 obtain ⟨o1, G1, K1⟩ := An H
 refine Bd (fun a w => ∃ x2 : Int, ∃ x3 : Bool, ∃ x4 : List Tr37, ∃ x5 : Int, ∃ x6 : Int, ∃ x7 : Int, ∃ x8 : Int, ∃ x9 : List Tr34, ∃ x10 : Int, ∃ x11 : Int, ∃ x12 : List Tr37, ∃ v5 : Value, ∃ v6 : Value, ∃ v7 : Value, some ((x2, x3, x4, x5, x6, x7, x8, x9, x10, x11, x12)) = some o1 ∧ Fr 48 [] [(4, .pointer (some ⟨b1, 0, none⟩)), (5, .int .i64 0), (6, .bool false), (7, .pointer (some ⟨b2, 0, none⟩)), (8, .int .i64 x2), (9, .bool x3), (10, v5)] a ∧ Stw ⟨Y, [], w0⟩ [(b2, (FD x5 x6 x7 x8 v6 x10 x11 v7)), (b1, (Bl))] [row v5 37 B3 x4, Av v6 A9 x9, Av v7 B3 x12] w) ?_ ?_
 ·
  have H := G1
  clear G1 K1
  refine AV ?_
  have F := F.frontZ (i := 2) Aa Aa
  have F := F.frontZ (i := 2) Aa Aa
  have F := F.frontZ (i := 2) Aa Aa
  have F := F.frontM (i := 1) Aa Aa
  have F := F.frontM (i := 1) Aa Aa
  refine Cr H (fun s a w => ∃ v8 : Value, ∃ v9 : Value, ∃ v10 : Value, Fr 48 [] [(0, v1), (4, .pointer (some ⟨b1, 0, none⟩)), (5, .int .i64 0), (6, .bool false), (7, .pointer (some ⟨b2, 0, none⟩)), (8, .int .i64 s.1), (9, .bool s.2.1), (10, v8)] a ∧ Stw ⟨Y, [], w0⟩ [(b2, [.int .i64 s.2.2.2.1, .int .i64 s.2.2.2.2.1, .int .i64 s.2.2.2.2.2.1, .int .i64 s.2.2.2.2.2.2.1, v9, .int .i64 s.2.2.2.2.2.2.2.2.1, .int .i64 s.2.2.2.2.2.2.2.2.2.1, v10]), (b1, (Bl))] [row v8 37 B3 s.2.2.1, Av v9 A9 s.2.2.2.2.2.2.2.1, Av v10 B3 s.2.2.2.2.2.2.2.2.2.2] w) ⟨(v4), (v2), (v3), W.re ⟨rfl, Aa, Aa, Aa, Aa, Aa, Aa, Aa, trivial⟩, F⟩ fun s o a w H L2 hR => ?_
  obtain ⟨x13, x14, x15, x16, x17, x18, x19, x20, x21, x22, x23⟩ := s
  obtain ⟨v8, v9, v10, W, F⟩ := hR
  have W : Fr 48 [] [(0, v1), (4, .pointer (some ⟨b1, 0, none⟩)), (5, .int .i64 0), (6, .bool false), (7, .pointer (some ⟨b2, 0, none⟩)), (8, .int .i64 x13), (9, .bool x14), (10, v8)] a := W
  have F : Stw ⟨Y, [], w0⟩ [(b2, (FD x16 x17 x18 x19 v9 x21 x22 v10)), (b1, (Bl))] [row v8 37 B3 x15, Av v9 A9 x20, Av v10 B3 x23] w := F
  rw [Dk] at H
  refine Ai ?_
  obtain ⟨o3, G3, K3⟩ := An H
  refine Bd (fun a w => ∃ x24 : Bool, ∃ x25 : Bool, some ((x24, x25)) = some o3 ∧ Fr 48 [] [(0, v1), (4, .pointer (some ⟨b1, 0, none⟩)), (5, .int .i64 0), (6, .bool false), (7, .pointer (some ⟨b2, 0, none⟩)), (8, .int .i64 x13), (9, .bool x24), (10, v8), (25, .bool x25)] a ∧ Stw ⟨Y, [], w0⟩ [(b2, (FD x16 x17 x18 x19 v9 x21 x22 v10)), (b1, (Bl))] [row v8 37 B3 x15, Av v9 A9 x20, Av v10 B3 x23] w) ?_ ?_
  ·
   have H := G3
   clear G3 K3
   refine Ab ?_
   iterate 2 refine ls W F Aa (Ah W Aa).q fun a w W F => ?_
   rcases Bool.eq_false_or_eq_true x14 with hb | hb
   ·
    have H := AQ hb H
    rw [hb] at W
    clear hb
    iterate 2 refine AX W F (Ak W Aa Aa Aa Aa) Aa (Ay Aa) (Ah W Aa).q fun a w W F => ?_
    refine JT (Ak W Aa Aa Aa Aa) ?_
    obtain ⟨x26, h2, H⟩ := An H
    refine ls W F Aa (A1 (v := Value.bool x26) W M9 Aa (fun w F => Cu any w (v1) p0 x13 ([124] : List UInt8) _ h2 (((AG h_v1) : EN _ _ _ _ _ _) w F).nx)) fun a w W F => ?_
    refine ls W F Aa (AE W Aa Aa Aa).q fun a w W F => ?_
    refine Ae (Ad ?_)
    have F := F.frontZ (i := 2) Aa Aa
    have F := F.frontZ (i := 2) Aa Aa
    have F := F.frontZ (i := 2) Aa Aa
    have F := F.frontM (i := 1) Aa Aa
    have F := F.frontM (i := 1) Aa Aa
    exact ⟨_, _, H, W.re ⟨rfl, Aa, Aa, Aa, Aa, Aa, Aa, Aa, Aa, trivial⟩, F⟩
   have H := AR (by rw [hb]; decide) H
   rw [hb] at W
   clear hb
   iterate 3 refine Ec W Aa Aa Aa Aa Aa Aa Aa fun a W => ?_
   refine ls W F Aa (AN W Aa Aa Aa).q fun a w W F => ?_
   refine Ae (Ad ?_)
   have F := F.frontZ (i := 2) Aa Aa
   have F := F.frontZ (i := 2) Aa Aa
   have F := F.frontZ (i := 2) Aa Aa
   have F := F.frontM (i := 1) Aa Aa
   have F := F.frontM (i := 1) Aa Aa
   exact ⟨_, _, H, W.re ⟨rfl, Aa, Aa, Aa, Aa, Aa, Aa, Aa, Aa, trivial⟩, F⟩
  rintro a w ⟨x24, x25, hj, W, F⟩
  have hj := AH hj
  subst hj
  have H := K3
  clear G3 K3
  refine Aw W Aa (fun hb => ?_) fun hb => ?_
  ·
   have H := AQ hb H
   rw [hb] at W
   clear hb
   refine Ax (Ad (AV (Ai (Ab ?_))))
   iterate 2 refine ls W F Aa (Ah W Aa).q fun a w W F => ?_
   refine ls W F Aa (BT W Aa Aa Aa).q fun a w W F => ?_
   obtain ⟨x27, h3, H⟩ := An H
   refine AO (Ml := []) (Zl := []) (M := [(b2, (FD x16 x17 x18 x19 v9 x21 x22 v10)), (b1, (Bl))]) (Z := [row v8 37 B3 x15, Av v9 A9 x20, Av v10 B3 x23]) (β := Value × Value) (rv := fun x => .tuple #[.agg #[.int .i64 x27.1.un.1, .int .i64 x27.1.un.2.1.un.1, .int .i64 x27.1.un.2.1.un.2.1, .int .i64 x27.1.un.2.1.un.2.2.1, x.1, .int .i64 x27.1.un.2.2.1, .int .i64 x27.1.un.2.2.2.1, x.2], .int .i64 x27.2.1, .bool x27.2.2]) (MM := fun x => []) (ZZ := fun x => [Av x.1 A9 x27.1.un.2.1.un.2.2.2, Av x.2 B3 x27.1.un.2.2.2.2]) W F Te Aa Aa (fun hL => (Md fRec ih) _ w (v1) p0 (Co (x13 + 1)) _ h3 ((AG h_v1) w F).nx) fun x a w W F => ?_
   obtain ⟨v11, v12⟩ := x
   have F : Stw ⟨Y, [], w0⟩ [(b2, (FD x16 x17 x18 x19 v9 x21 x22 v10)), (b1, (Bl))] [Av v11 A9 x27.1.un.2.1.un.2.2.2, Av v12 B3 x27.1.un.2.2.2.2, row v8 37 B3 x15, Av v9 A9 x20, Av v10 B3 x23] w := F
   refine ls W F Aa (Ah W Aa).q fun a w W F => ?_
   refine ls W F Aa (As (v := Value.agg #[.int .i64 x27.1.un.1, .int .i64 x27.1.un.2.1.un.1, .int .i64 x27.1.un.2.1.un.2.1, .int .i64 x27.1.un.2.1.un.2.2.1, v11, .int .i64 x27.1.un.2.2.1, .int .i64 x27.1.un.2.2.2.1, v12]) W Aa Aa).q fun a w W F => ?_
   refine ls W F Aa (As (v := Value.int .i64 x27.2.1) W Aa Aa).q fun a w W F => ?_
   refine ls W F Aa (As (v := Value.bool x27.2.2) W Aa Aa).q fun a w W F => ?_
   refine Au (vs := (EL x27 v11 v12)) (M' := (Hx b2 x27 v11 v12 b1)) 0 W F Aa Aa Aa EU Aa Aa Aa (Ac Aa (Ac Aa (Ac Aa (Ac Aa (Ac (F.oneF (k := 0) Aa) (Ac Aa (Ac Aa (Ac (F.oneF (k := 1) Aa) AM)))))))) Aa fun w F => ?_
   iterate 2 refine ls W F Aa (Ag W Aa).q fun a w W F => ?_
   refine Ae (Ad (Ab ?_))
   refine ls W F Aa (Ah W Aa).q fun a w W F => ?_
   refine ls W F Aa (AJ (v := Value.agg #[.int .i64 x27.1.un.1, .int .i64 x27.1.un.2.1.un.1, .int .i64 x27.1.un.2.1.un.2.1, .int .i64 x27.1.un.2.1.un.2.2.1, v11, .int .i64 x27.1.un.2.2.1, .int .i64 x27.1.un.2.2.2.1, v12]) 0 W Aa Aa EU Aa).q fun a w W F => ?_
   refine Dj (z := Value.agg #[.int .i64 0, .int .i64 0, .int .i64 0, .int .i64 0, .slice none 0 0, .int .i64 0, .int .i64 0, .slice none 0 0]) (cs := (EL x27 v11 v12)) B3 ([Tr37.of (x27.1.un.1, Tr34.of (x27.1.un.2.1.un.1, x27.1.un.2.1.un.2.1, x27.1.un.2.1.un.2.2.1, x27.1.un.2.1.un.2.2.2), x27.1.un.2.2.1, x27.1.un.2.2.2.1, x27.1.un.2.2.2.2)] : List Tr37) W F Aa P9 LH Aa Aa Aa (AK Aa Aa Aa Br) Aa Aa ⟨[Value.int .i64 x27.1.un.1, Value.int .i64 x27.1.un.2.1.un.1, Value.int .i64 x27.1.un.2.1.un.2.1, Value.int .i64 x27.1.un.2.1.un.2.2.1, v11, Value.int .i64 x27.1.un.2.2.1, Value.int .i64 x27.1.un.2.2.2.1, v12], _, Aa, (Om.2 ⟨[Value.int .i64 x27.1.un.1], [Value.int .i64 x27.1.un.2.1.un.1, Value.int .i64 x27.1.un.2.1.un.2.1, Value.int .i64 x27.1.un.2.1.un.2.2.1, v11, Value.int .i64 x27.1.un.2.2.1, Value.int .i64 x27.1.un.2.2.2.1, v12], Aa, Aa, ⟨[Value.int .i64 x27.1.un.2.1.un.1, Value.int .i64 x27.1.un.2.1.un.2.1, Value.int .i64 x27.1.un.2.1.un.2.2.1, v11], [Value.int .i64 x27.1.un.2.2.1, Value.int .i64 x27.1.un.2.2.2.1, v12], Aa, (J1.2 ⟨[Value.int .i64 x27.1.un.2.1.un.1], [Value.int .i64 x27.1.un.2.1.un.2.1, Value.int .i64 x27.1.un.2.1.un.2.2.1, v11], Aa, Aa, ⟨[Value.int .i64 x27.1.un.2.1.un.2.1], [Value.int .i64 x27.1.un.2.1.un.2.2.1, v11], Aa, Aa, ⟨[Value.int .i64 x27.1.un.2.1.un.2.2.1], [v11], Aa, Aa, ⟨_, Aa, (F.item (i := 0) Aa)⟩⟩⟩⟩), ⟨[Value.int .i64 x27.1.un.2.2.1], [Value.int .i64 x27.1.un.2.2.2.1, v12], Aa, Aa, ⟨[Value.int .i64 x27.1.un.2.2.2.1], [v12], Aa, Aa, ⟨_, Aa, (F.item (i := 1) Aa)⟩⟩⟩⟩⟩), Aa⟩ fun v13 a w W F => ?_
   obtain ⟨x28, h4, H⟩ := An H
   refine CU (r := B3) (i := 3) W F Aa P9 Aa Aa Aa Aa (DD F 0 Aa) h4 Aa fun v14 a w W F => ?_
   have F : Stw ⟨Y, [], w0⟩ (Hx b2 x27 v11 v12 b1) [row v14 37 B3 x28, row v13 37 B3 ([Tr37.of (x27.1.un.1, Tr34.of (x27.1.un.2.1.un.1, x27.1.un.2.1.un.2.1, x27.1.un.2.1.un.2.2.1, x27.1.un.2.1.un.2.2.2), x27.1.un.2.2.1, x27.1.un.2.2.2.1, x27.1.un.2.2.2.2)] : List Tr37), Av v11 A9 x27.1.un.2.1.un.2.2.2, Av v12 B3 x27.1.un.2.2.2.2, Av v9 A9 x20, Av v10 B3 x23] w := F
   refine ls W F Aa (Ag W Aa).q fun a w W F => ?_
   refine Ae (Bw (Ad ?_))
   have F := F.frontZ (i := 3) Aa Aa
   have F := F.frontZ (i := 3) Aa Aa
   have F := F.frontZ (i := 2) Aa Aa
   have F := F.frontM (i := 1) Aa Aa
   have F := F.frontM (i := 1) Aa Aa
   have F := F.sub (M' := (Hx b2 x27 v11 v12 b1)) (Z' := [row v14 37 B3 x28, Av v11 A9 x27.1.un.2.1.un.2.2.2, Av v12 B3 x27.1.un.2.2.2.2]) (List.Sublist.refl _) (List.Sublist.cons_cons _ (List.Sublist.cons_cons _ (List.Sublist.cons_cons _ (List.nil_sublist _))))
   exact ⟨_, H, (v14), (v11), (v12), W.re ⟨rfl, Aa, Aa, Aa, Aa, Aa, Aa, Aa, trivial⟩, F⟩
  have H := AR (by rw [hb]; decide) H
  rw [hb] at W
  clear hb
  refine Cl ?_
  iterate 2 refine CO ?_
  refine Ck (Ad ?_)
  have F := F.frontZ (i := 2) Aa Aa
  have F := F.frontZ (i := 2) Aa Aa
  have F := F.frontZ (i := 2) Aa Aa
  have F := F.frontM (i := 1) Aa Aa
  have F := F.frontM (i := 1) Aa Aa
  have H := L2 _ H
  exact ⟨_, _, _, _, _, _, _, _, _, _, _, (v8), (v9), (v10), H, W.re ⟨rfl, Aa, Aa, Aa, Aa, Aa, Aa, trivial⟩, F⟩
 rintro a w ⟨x2, x3, x4, x5, x6, x7, x8, x9, x10, x11, x12, v5, v6, v7, hj, W, F⟩
 have hj := AH hj
 subst hj
 have H := K1
 clear G1 K1
 refine Ai (Ai (Ab ?_))
 refine ls W F Aa (Ah W Aa).q fun a w W F => ?_
 refine ls W F Aa (E4 (r := B3) (l := x4) Pb Aa W Aa (Bq 0 Aa)).q fun a w W F => ?_
 refine ls W F Aa (Bn W Aa Aa).q fun a w W F => ?_
 refine Ae (Ad ?_)
 refine Aw W Aa (fun hb => ?_) fun hb => ?_
 ·
  have H := AQ (BB hb) H
  rw [hb] at W
  clear hb
  refine Ai (Ab ?_)
  refine ls W F Aa (AJ (v := Value.agg #[.int .i64 x5, .int .i64 x6, .int .i64 x7, .int .i64 x8, v6, .int .i64 x10, .int .i64 x11, v7]) 0 W Aa Aa EU Aa).q fun a w W F => ?_
  iterate 2 refine ls W F Aa (Ah W Aa).q fun a w W F => ?_
  refine Au (vs := (FD x5 x6 x7 x8 v6 x10 x11 v7)) (M' := [(b2, (FD x5 x6 x7 x8 v6 x10 x11 v7)), (b1, (FD x5 x6 x7 x8 v6 x10 x11 v7))]) 1 W F Aa Aa Aa EU Aa Aa Aa (Ac Aa (Ac Aa (Ac Aa (Ac Aa (Ac (F.oneF (k := 1) Aa) (Ac Aa (Ac Aa (Ac (F.oneF (k := 2) Aa) AM)))))))) Aa fun w F => ?_
  iterate 2 refine ls W F Aa (Ag W Aa).q fun a w W F => ?_
  refine Ae (Ad (Aq (AD ?_)))
  have H := AH H
  subst H
  refine CD (.inl Aa) W F Aa (AB 1 W Aa Aa EU Aa) (Ap W Aa) (Ap W Aa) ?_
  have F := F.frontZ (i := 2) Aa Aa
  have F := F.frontZ (i := 2) Aa Aa
  have F := F.sub (M' := []) (Z' := [Av v6 A9 x9, Av v7 B3 x12]) (List.nil_sublist _) (List.Sublist.cons_cons _ (List.Sublist.cons_cons _ (List.nil_sublist _)))
  exact ⟨((v6), (v7)), Aa, F⟩
 have H := AR (Bz hb) H
 rw [hb] at W
 clear hb
 refine Ax (Ad (Ai (Ab ?_)))
 refine ls W F Aa (Ah W Aa).q fun a w W F => ?_
 refine ls W F Aa (Ba (v := Value.agg #[.int .i64 4, .int .i64 0, .int .i64 0, .int .i64 0, .slice none 0 0, .int .i64 0, .int .i64 0, v5]) Qo W Aa (AK Aa Aa Aa (AK Aa (C4 (F.one (k := 0) Aa)) Aa Br)) Aa).q fun a w W F => ?_
 iterate 2 refine ls W F Aa (Ah W Aa).q fun a w W F => ?_
 refine Au (vs := (PU v5)) (M' := [(b2, (FD x5 x6 x7 x8 v6 x10 x11 v7)), (b1, (PU v5))]) 1 W F Aa Aa Aa EU Aa Aa Aa (Ac Aa (Ac Aa (Ac Aa (Ac Aa (Ac Aa (Ac Aa (Ac Aa (Ac (F.one (k := 0) Aa) AM)))))))) Aa fun w F => ?_
 iterate 2 refine ls W F Aa (Ag W Aa).q fun a w W F => ?_
 refine Ae (Ad (Aq ?_))
 have H := AH H
 subst H
 refine CD (.inl Aa) W F Aa (AB 1 W Aa Aa EU Aa) (Ap W Aa) (Ap W Aa) ?_
 have F := F.note (Sl.nil (r := A9))
 have F := F.frontZ (i := 1) Aa Aa
 have F := F.freeze
 have F := F.frontZ (i := 1) Aa Aa
 have F := F.sub (M' := []) (Z' := [Av (Value.slice none 0 0) A9 ([]), Av v5 B3 x4]) (List.nil_sublist _) (List.Sublist.cons_cons _ (List.Sublist.cons_cons _ (List.nil_sublist _)))
 exact ⟨((Value.slice none 0 0), (v5)), Aa, F⟩
theorem Nf : ∀ (n : Nat) (Y : Nat → Prop) (w0 : World) (v1 : Value) (p0 : List (Int × Int × List UInt8 × Int)) (p1 : Int) (r : Tr37 × Int × Bool) (H : CH n p0 p1 = some r) (h_v1 : Sl w0 (NX []) DA v1 p0), Calls Tryd.prog 31 #[v1, .int .i64 p1] w0 fun e w' => ∃ x : Value × Value, e = .returned (.tuple #[.agg #[.int .i64 r.1.un.1, .int .i64 r.1.un.2.1.un.1, .int .i64 r.1.un.2.1.un.2.1, .int .i64 r.1.un.2.1.un.2.2.1, x.1, .int .i64 r.1.un.2.2.1, .int .i64 r.1.un.2.2.2.1, x.2], .int .i64 r.2.1, .bool r.2.2]) ∧ Stw ⟨Y, [], w0⟩ [] [Av (x.1) A9 r.1.un.2.1.un.2.2.2, Av (x.2) B3 r.1.un.2.2.2.2] w' := by
  intro n
  induction n with
  | zero => intro Y w0 v1 p0 p1 r H; exact nomatch H
  | succ n ih => intro Y w0 v1 p0 p1 r H h_v1; exact MD (CH n) ih Y w0 v1 p0 p1 r H h_v1
theorem Ou (Y : Nat → Prop) (w0 : World) (v1 : Value) (p0 : List (Int × Int × List UInt8 × Int)) (p1 : Int) (r : Tr37 × Int × Bool) (H : IG p0 p1 = some r) (h_v1 : Sl w0 (NX []) DA v1 p0) :
    Calls Tryd.prog 31 #[v1, .int .i64 p1] w0 fun e w' => ∃ x : Value × Value, e = .returned (.tuple #[.agg #[.int .i64 r.1.un.1, .int .i64 r.1.un.2.1.un.1, .int .i64 r.1.un.2.1.un.2.1, .int .i64 r.1.un.2.1.un.2.2.1, x.1, .int .i64 r.1.un.2.2.1, .int .i64 r.1.un.2.2.2.1, x.2], .int .i64 r.2.1, .bool r.2.2]) ∧ Stw ⟨Y, [], w0⟩ [] [Av (x.1) A9 r.1.un.2.1.un.2.2.2, Av (x.2) B3 r.1.un.2.2.2.2] w' := by
  obtain ⟨n, H⟩ := Ch H
  exact Nf n Y w0 v1 p0 p1 r H h_v1
noncomputable def HC (p0 : List UInt8) : Option (Tr37 × Int × Int) := (IL p0).bind fun x1 => (if x1.2.2 ≠ 0 then some (Tr37.of (0, Tr34.of (0, 0, 0, ([] : List Tr34)), 0, 0, ([] : List Tr37)), x1.2.1, x1.2.2) else (IG x1.1 0).bind fun x2 => (if (!x2.2.2) = true then some true else (ix x1.1 x2.2.1).bind fun x4 => some (decide (x4.1 ≠ 4))).bind fun x3 => (if x3 = true then (ix x1.1 x2.2.1).bind fun x5 => some (Tr37.of (0, Tr34.of (0, 0, 0, ([] : List Tr34)), 0, 0, ([] : List Tr37)), x5.2.2.2, 10) else some (Tr37.of (x2.1.un.1, Tr34.of (x2.1.un.2.1.un.1, x2.1.un.2.1.un.2.1, x2.1.un.2.1.un.2.2.1, x2.1.un.2.1.un.2.2.2), x2.1.un.2.2.1, x2.1.un.2.2.2.1, x2.1.un.2.2.2.2), 0, 0)))
theorem Np (Y : Nat → Prop) (w0 : World)  (p0 : List UInt8) (r : Tr37 × Int × Int) (H : HC p0 = some r)  :
    Calls Tryd.prog 8 #[.string (bs p0)] w0 fun e w' => ∃ x : Value × Value, e = .returned (.tuple #[.agg #[.int .i64 r.1.un.1, .int .i64 r.1.un.2.1.un.1, .int .i64 r.1.un.2.1.un.2.1, .int .i64 r.1.un.2.1.un.2.2.1, x.1, .int .i64 r.1.un.2.2.1, .int .i64 r.1.un.2.2.2.1, x.2], .int .i64 r.2.1, .int .i64 r.2.2]) ∧ Stw ⟨Y, [], w0⟩ [] [Av (x.1) A9 r.1.un.2.1.un.2.2.2, Av (x.2) B3 r.1.un.2.2.2.2] w' := by
 refine enter Tryd.func8 Aa Tryd.ntmps8 Aa fun a W => ?_
 have F := Stw.start Y w0
 unfold HC at H
 refine Ai (Ab ?_)
 refine AU (cs := (Bl)) W F Aa LH Aa fun b1 a w W F => ?_
 iterate 2 refine ls W F Aa (Ag W Aa).q fun a w W F => ?_
 refine Ae (Ad (Ai (Ab ?_)))
 refine ls W F Aa (Ah W Aa).q fun a w W F => ?_
 obtain ⟨x1, h1, H⟩ := An H
 refine AO (Ml := []) (Zl := []) (M := (Cc b1)) (Z := []) (β := Value) (rv := fun x => .tuple #[x, .int .i64 x1.2.1, .int .i64 x1.2.2]) (MM := fun x => []) (ZZ := fun x => [row x 71 DA x1.1]) W F Tb Aa Aa (fun hL => Mu _ w p0 _ h1) fun x a w W F => ?_
 obtain ⟨v1, rfl⟩ : ∃ y, y = x := ⟨x, rfl⟩
 have F : Stw ⟨Y, [], w0⟩ (Cc b1) [row v1 71 DA x1.1] w := F
 refine ls W F Aa (Ah W Aa).q fun a w W F => ?_
 refine ls W F Aa (As (v := v1) W Aa Aa).q fun a w W F => ?_
 refine ls W F Aa (As (v := Value.int .i64 x1.2.1) W Aa Aa).q fun a w W F => ?_
 refine ls W F Aa (As (v := Value.int .i64 x1.2.2) W Aa Aa).q fun a w W F => ?_
 iterate 3 refine ls W F Aa (Ag W Aa).q fun a w W F => ?_
 refine Ae (Ad (Ai (Ai (Ab ?_))))
 refine ls W F Aa (Ah W Aa).q fun a w W F => ?_
 refine ls W F Aa (Ev W Aa Aa).q fun a w W F => ?_
 refine Ae (Ad ?_)
 refine Aw W Aa (fun hb => ?_) fun hb => ?_
 ·
  have H := AQ (BB hb) H
  rw [hb] at W
  clear hb
  refine Ai (Ab ?_)
  refine ls W F Aa (Ba (v := Value.agg #[.int .i64 0, .int .i64 0, .int .i64 0, .int .i64 0, .slice none 0 0, .int .i64 0, .int .i64 0, .slice none 0 0]) Qo W Aa Aa Aa).q fun a w W F => ?_
  iterate 2 refine ls W F Aa (Ah W Aa).q fun a w W F => ?_
  refine Au (vs := (Bl)) (M' := (Cc b1)) 0 W F Aa Aa Aa EU Aa Aa Aa Aa Aa fun w F => ?_
  iterate 2 refine ls W F Aa (Ag W Aa).q fun a w W F => ?_
  refine Ae (Ad (Aq (AD ?_)))
  have H := AH H
  subst H
  refine CD (.inl Aa) W F Aa (AB 0 W Aa Aa EU Aa) (Ap W Aa) (Ap W Aa) ?_
  have F := F.note (Sl.nil (r := A9))
  have F := F.note (Sl.nil (r := B3))
  have F := F.frontZ (i := 1) Aa Aa
  have F := F.sub (M' := []) (Z' := [Av (Value.slice none 0 0) A9 ([]), Av (Value.slice none 0 0) B3 ([])]) (List.nil_sublist _) (List.Sublist.cons_cons _ (List.Sublist.cons_cons _ (List.nil_sublist _)))
  exact ⟨((Value.slice none 0 0), (Value.slice none 0 0)), Aa, F⟩
 have H := AR (Bz hb) H
 rw [hb] at W
 clear hb
 refine Ax (Ad (Ai (Ab ?_)))
 refine ls W F Aa (Ah W Aa).q fun a w W F => ?_
 obtain ⟨x2, h2, H⟩ := An H
 refine AO (Ml := []) (Zl := []) (M := (Cc b1)) (Z := [row v1 71 DA x1.1]) (β := Value × Value) (rv := fun x => .tuple #[.agg #[.int .i64 x2.1.un.1, .int .i64 x2.1.un.2.1.un.1, .int .i64 x2.1.un.2.1.un.2.1, .int .i64 x2.1.un.2.1.un.2.2.1, x.1, .int .i64 x2.1.un.2.2.1, .int .i64 x2.1.un.2.2.2.1, x.2], .int .i64 x2.2.1, .bool x2.2.2]) (MM := fun x => []) (ZZ := fun x => [Av x.1 A9 x2.1.un.2.1.un.2.2.2, Av x.2 B3 x2.1.un.2.2.2.2]) W F S8 Aa Aa (fun hL => Ou _ w (v1) x1.1 0 _ h2 ((Bq 0 Aa) w F).nx) fun x a w W F => ?_
 obtain ⟨v2, v3⟩ := x
 have F : Stw ⟨Y, [], w0⟩ (Cc b1) [Av v2 A9 x2.1.un.2.1.un.2.2.2, Av v3 B3 x2.1.un.2.2.2.2, row v1 71 DA x1.1] w := F
 refine ls W F Aa (Ah W Aa).q fun a w W F => ?_
 refine ls W F Aa (As (v := Value.agg #[.int .i64 x2.1.un.1, .int .i64 x2.1.un.2.1.un.1, .int .i64 x2.1.un.2.1.un.2.1, .int .i64 x2.1.un.2.1.un.2.2.1, v2, .int .i64 x2.1.un.2.2.1, .int .i64 x2.1.un.2.2.2.1, v3]) W Aa Aa).q fun a w W F => ?_
 refine ls W F Aa (As (v := Value.int .i64 x2.2.1) W Aa Aa).q fun a w W F => ?_
 refine ls W F Aa (As (v := Value.bool x2.2.2) W Aa Aa).q fun a w W F => ?_
 refine AU (cs := (Bl)) W F Aa LH Aa fun b2 a w W F => ?_
 refine Au (vs := (EL x2 v2 v3)) (M' := (Hx b2 x2 v2 v3 b1)) 0 W F Aa Aa Aa EU Aa Aa Aa (Ac Aa (Ac Aa (Ac Aa (Ac Aa (Ac (F.oneF (k := 0) Aa) (Ac Aa (Ac Aa (Ac (F.oneF (k := 1) Aa) AM)))))))) Aa fun w F => ?_
 iterate 2 refine ls W F Aa (Ag W Aa).q fun a w W F => ?_
 refine Ae (Ad (Ai ?_))
 obtain ⟨o1, G1, K1⟩ := An H
 refine Bd (fun a w => ∃ x3 : Bool, some (x3) = some o1 ∧ Fr 45 [] [(2, .pointer (some ⟨b1, 0, none⟩)), (3, .int .i64 0), (4, .int .i64 0), (5, v1), (8, .pointer (some ⟨b2, 0, none⟩)), (9, .int .i64 x2.2.1), (37, .bool x3)] a ∧ Stw ⟨Y, [], w0⟩ (Hx b2 x2 v2 v3 b1) [row v1 71 DA x1.1, Av v2 A9 x2.1.un.2.1.un.2.2.2, Av v3 B3 x2.1.un.2.2.2.2] w) ?_ ?_
 ·
  have H := G1
  clear G1 K1
  refine Ab ?_
  refine ls W F Aa (Ah W Aa).q fun a w W F => ?_
  refine ls W F Aa (FH W Aa).q fun a w W F => ?_
  refine ls W F Aa (Ah W Aa).q fun a w W F => ?_
  rcases Bool.eq_false_or_eq_true (!x2.2.2) with hb | hb
  ·
   have H := AQ hb H
   rw [hb] at W
   clear hb
   iterate 6 refine Ec W Aa Aa Aa Aa Aa Aa Aa fun a W => ?_
   refine ls W F Aa (AE W Aa Aa Aa).q fun a w W F => ?_
   refine Ae (Ad ?_)
   have F := F.frontZ (i := 1) Aa Aa
   have F := F.frontZ (i := 1) Aa Aa
   have F := F.frontZ (i := 2) Aa Aa
   have F := F.frontM (i := 1) Aa Aa
   have F := F.frontM (i := 1) Aa Aa
   exact ⟨_, H, W.re ⟨rfl, Aa, Aa, Aa, Aa, Aa, Aa, trivial⟩, F⟩
  have H := AR (by rw [hb]; decide) H
  rw [hb] at W
  clear hb
  iterate 2 refine AX W F (Ak W Aa Aa Aa Aa) Aa (Ay Aa) (Ah W Aa).q fun a w W F => ?_
  obtain ⟨x4, h3, H⟩ := An H
  refine AX W F (Ak W Aa Aa Aa Aa) Aa (Ay Aa) (CE (r := DA) Oz W Aa Aa (Bq 2 Aa) h3).q fun a w W F => ?_
  refine AX W F (Ak W Aa Aa Aa Aa) Aa (Ay Aa) (Ao Kv Aa Aa Aa T3 W Aa (Hq v1 + (x2.2.1).toNat * 4) Aa).q fun a w W F => ?_
  refine AX W F (Ak W Aa Aa Aa Aa) Aa (Ay Aa) (BV (y := Value.int .i64 x4.1) (j := 0) (i := x2.2.1) W Aa Aa (Bq 2 Aa) h3 Pz.to T3 Aa).q fun a w W F => ?_
  refine AX W F (Ak W Aa Aa Aa Aa) Aa (Ay Aa) (Ev W Aa Aa).q fun a w W F => ?_
  refine ls W F Aa (AN W Aa Aa Aa).q fun a w W F => ?_
  refine Ae (Ad ?_)
  have F := F.frontZ (i := 1) Aa Aa
  have F := F.frontZ (i := 1) Aa Aa
  have F := F.frontZ (i := 2) Aa Aa
  have F := F.frontM (i := 1) Aa Aa
  have F := F.frontM (i := 1) Aa Aa
  exact ⟨_, H, W.re ⟨rfl, Aa, Aa, Aa, Aa, Aa, Aa, trivial⟩, F⟩
 rintro a w ⟨x3, hj, W, F⟩
 have hj := AH hj
 subst hj
 have H := K1
 clear G1 K1
 refine Aw W Aa (fun hb => ?_) fun hb => ?_
 ·
  have H := AQ hb H
  rw [hb] at W
  clear hb
  refine Ai ?_
  refine GN [(true, 0), (true, 1), (true, 2), (true, 3), (true, 4), (true, 5), (false, 6), (false, 7), (false, 8)] (CN ⟨Y, [], w0⟩ [] [(some 7, row v1 71 DA x1.1)]) (fun ch a d v w h => by cases d <;> exact h) MO (by kernel_rfl) F (fun w F => ⟨_, _, F, AF, (AC (fun _ => (.head _)) AF)⟩) fun w F => ?_
  refine Cs (R := []) W Aa Aa (yC fun M Z hN hZ => Ba (v := Value.agg #[.int .i64 0, .int .i64 0, .int .i64 0, .int .i64 0, .slice none 0 0, .int .i64 0, .int .i64 0, .slice none 0 0]) Qo W Aa Aa Aa) Aa Aa fun a W => ?_
  iterate 2 refine Cs (R := []) W Aa Aa (yC fun M Z hN hZ => Ah W Aa) Aa Aa fun a W => ?_
  obtain ⟨x5, h4, H⟩ := An H
  refine Cs (R := []) W Aa Aa (yC fun M Z hN hZ => Ni (r := DA) Oz W Aa Aa (Rd F (Bq 0 Aa)) h4) Aa Aa fun a W => ?_
  refine Cs (R := []) W Aa Aa (yC fun M Z hN hZ => Ao Kv Aa Aa Aa T3 W Aa (Hq v1 + (x2.2.1).toNat * 4 + 3) Aa) Aa Aa fun a W => ?_
  refine Cs (R := [7]) W Aa Aa (yC fun M Z hN hZ => BV (y := Value.int .i64 x5.2.2.2) (j := 3) (i := x2.2.1) W Aa Aa (NM (hZ ((some 7), row v1 71 DA x1.1) (.head _) Aa)) h4 Pz.to T3 Aa) (by kernel_rfl) Aa fun a W => ?_
  refine Fg Aa ?_
  refine Au (vs := (Bl)) (M' := (Hx b2 x2 v2 v3 b1)) 1 W F Aa Aa Aa EU Aa Aa Aa Aa Aa fun w F => ?_
  refine B8 (N2 := []) (NZ2 := []) (N3 := []) (NZ3 := [(some 7, row v1 71 DA x1.1)]) F Aa Aa AF (AC (fun _ => (.head _)) AF) ?_
  refine Fg Aa ?_
  refine ls W F Aa (Ag W Aa).q fun a w W F => ?_
  refine B8 (N2 := []) (NZ2 := []) (N3 := []) (NZ3 := [(some 7, row v1 71 DA x1.1)]) F Aa Aa AF (AC (fun h => A2 (by kernel_rfl) h) AF) ?_
  refine Fg Aa ?_
  refine ls W F Aa (Ag W Aa).q fun a w W F => ?_
  refine B8 (N2 := []) (NZ2 := []) (N3 := []) (NZ3 := [(some 7, row v1 71 DA x1.1)]) F Aa Aa AF (AC (fun h => A2 (by kernel_rfl) h) AF) ?_
  refine Gi (Ad (Aq (AD ?_)))
  have H := AH H
  subst H
  refine CD (.inl Aa) W F Aa (AB 1 W Aa Aa EU Aa) (Ap W Aa) (Ap W Aa) ?_
  have F := F.note (Sl.nil (r := A9))
  have F := F.note (Sl.nil (r := B3))
  have F := F.frontZ (i := 1) Aa Aa
  have F := F.sub (M' := []) (Z' := [Av (Value.slice none 0 0) A9 ([]), Av (Value.slice none 0 0) B3 ([])]) (List.nil_sublist _) (List.Sublist.cons_cons _ (List.Sublist.cons_cons _ (List.nil_sublist _)))
  exact ⟨((Value.slice none 0 0), (Value.slice none 0 0)), Aa, F⟩
 have H := AR (by rw [hb]; decide) H
 rw [hb] at W
 clear hb
 refine Ax (Ad (Ai (Ab ?_)))
 refine ls W F Aa (AJ (v := Value.agg #[.int .i64 x2.1.un.1, .int .i64 x2.1.un.2.1.un.1, .int .i64 x2.1.un.2.1.un.2.1, .int .i64 x2.1.un.2.1.un.2.2.1, v2, .int .i64 x2.1.un.2.2.1, .int .i64 x2.1.un.2.2.2.1, v3]) 0 W Aa Aa EU Aa).q fun a w W F => ?_
 refine Au (vs := (EL x2 v2 v3)) (M' := (P5 b2 x2 v2 v3 b1)) 1 W F Aa Aa Aa EU Aa Aa Aa (Ac Aa (Ac Aa (Ac Aa (Ac Aa (Ac (F.oneF (k := 1) Aa) (Ac Aa (Ac Aa (Ac (F.oneF (k := 2) Aa) AM)))))))) Aa fun w F => ?_
 iterate 2 refine ls W F Aa (Ag W Aa).q fun a w W F => ?_
 refine Ae (Ad (Aq ?_))
 have H := AH H
 subst H
 refine CD (.inl Aa) W F Aa (AB 1 W Aa Aa EU Aa) (Ap W Aa) (Ap W Aa) ?_
 have F := F.frontZ (i := 2) Aa Aa
 have F := F.frontZ (i := 2) Aa Aa
 have F := F.sub (M' := []) (Z' := [Av v2 A9 x2.1.un.2.1.un.2.2.2, Av v3 B3 x2.1.un.2.2.2.2]) (List.nil_sublist _) (List.Sublist.cons_cons _ (List.Sublist.cons_cons _ (List.nil_sublist _)))
 exact ⟨((v2), (v3)), Aa, F⟩
theorem H8 : Has Tryd.prog 8 := ⟨fun args w => Al Tryd.func8 rfl (by decide) args w⟩
theorem OR : Ty Tryd.prog 32 false 1 := ⟨by kernel_rfl, by kernel_rfl⟩
theorem Sq : Has Tryd.prog 14 := ⟨fun args w => Al Tryd.func14 rfl (by decide) args w⟩
abbrev LN : Rp (Int × Int × Int × (Value × List Tr34)) := (Rp.pair (Rp.int .i64) (Rp.pair (Rp.int .i64) (Rp.pair (Rp.int .i64) (Rp.vsl A9))))
abbrev SO (p : Int × Int × Int × (Value × List Tr34)) : Tr34 := (Tr34.of (p.1, p.2.1, p.2.2.1, p.2.2.2.2))
theorem J7 : Ex A9 LN SO := (Ex.knot QK (of := Tr34.of) (fun _ => rfl) (fun x => by cases x; rfl) (Ex.pair Ex.rfl' (Ex.pair Ex.rfl' (Ex.pair Ex.rfl' Ex.sliceF))))
abbrev Kn (a0 : Nat) (a1 : Tr25) (a2 : Value) (a3 : Nat) (a4 : Nat) (a5 : Value) : List (Nat × List Value) := [(a0, [.int .i64 a1.un.1, .int .i64 a1.un.2.1, .int .i64 a1.un.2.2.1, a2]), (a3, [.int .i64 0, .int .i64 0, .int .i64 0, .slice none 0 0]), (a4, [.int .i64 a1.un.1, .int .i64 a1.un.2.1, .int .i64 a1.un.2.2.1, a5])]
abbrev Qz (a0 : Tr34) (a1 : Value) : List Value := [.int .i64 a0.un.1, .int .i64 a0.un.2.1, .int .i64 a0.un.2.2.1, a1]
noncomputable def Cm (fRec : Tr25 → Option Tr34) (p0 : Tr25) : (Int × List Tr34) → Option ((Int × List Tr34) ⊕ (List Tr34))
  | (x2, x3) => (if x2 < (p0.un.2.2.2.length : Int) then (ix p0.un.2.2.2 x2).bind fun x4 => (fRec x4).bind fun x5 => (Eo x3 ([x5] : List Tr34)).bind fun x6 => some (.inl (Co (x2 + 1), x6)) else some (.inr x3))
noncomputable def C2 (fRec : Tr25 → Option Tr34) (p0 : Tr25) : Option Tr34 := (Bx (Cm fRec p0) (0, [])).bind fun x1 => some (Tr34.of (p0.un.1, p0.un.2.1, p0.un.2.2.1, x1))
noncomputable def Cz : Nat → Tr25 → Option Tr34
  | 0 => fun _ => none
  | n + 1 => C2 (Cz n)
noncomputable def HK (p0 : Tr25) : Option Tr34 := Gx fun n => Cz n p0
theorem K7 (fRec : Tr25 → Option Tr34) (ih : ∀ (Y : Nat → Prop) (w0 : World) (v1 : Value) (p0 : Tr25) (r : Tr34) (H : fRec p0 = some r) (h_v1 : Sl w0 (NX []) AY v1 p0.un.2.2.2), Calls Tryd.prog 14 #[.agg #[.int .i64 p0.un.1, .int .i64 p0.un.2.1, .int .i64 p0.un.2.2.1, v1]] w0 fun e w' => ∃ x : Value, e = .returned (.agg #[.int .i64 r.un.1, .int .i64 r.un.2.1, .int .i64 r.un.2.2.1, x]) ∧ Stw ⟨Y, [], w0⟩ [] [row (x) 34 A9 r.un.2.2.2] w') (Y : Nat → Prop) (w0 : World) (v1 : Value) (p0 : Tr25) (r : Tr34) (H : C2 fRec p0 = some r) (h_v1 : Sl w0 (NX []) AY v1 p0.un.2.2.2) :
    Calls Tryd.prog 14 #[.agg #[.int .i64 p0.un.1, .int .i64 p0.un.2.1, .int .i64 p0.un.2.2.1, v1]] w0 fun e w' => ∃ x : Value, e = .returned (.agg #[.int .i64 r.un.1, .int .i64 r.un.2.1, .int .i64 r.un.2.2.1, x]) ∧ Stw ⟨Y, [], w0⟩ [] [row (x) 34 A9 r.un.2.2.2] w' := by
 refine enter Tryd.func14 Aa Tryd.ntmps14 Aa fun a W => ?_
 have F := Stw.start Y w0
 obtain ⟨v2, h1, h_v1⟩ := h_v1.ex Gq
 unfold C2 at H
 refine Ai (Ab ?_)
 refine H2 (cs := (MI p0 v1)) W F Aa Aa Aa fun b1 a w W F => ?_
 refine AU (cs := (B2)) W F Aa Ms Aa fun b2 a w W F => ?_
 refine Ae (Ad (Ai (Ab ?_)))
 refine ls W F Aa (Ao Jm Aa Aa Aa T3 W Aa 0 Aa).q fun a w W F => ?_
 refine ls W F Aa (AJ (v := Value.int .i64 p0.un.1) 1 W Aa Aa T3 Aa).q fun a w W F => ?_
 refine ls W F Aa (Ao Jm Aa Aa Aa T3 W Aa 1 Aa).q fun a w W F => ?_
 refine ls W F Aa (AJ (v := Value.int .i64 p0.un.2.1) 1 W Aa Aa T3 Aa).q fun a w W F => ?_
 refine ls W F Aa (Ao Jm Aa Aa Aa T3 W Aa 2 Aa).q fun a w W F => ?_
 refine ls W F Aa (AJ (v := Value.int .i64 p0.un.2.2.1) 1 W Aa Aa T3 Aa).q fun a w W F => ?_
 refine ls W F Aa (Ba (v := Value.agg #[.int .i64 p0.un.1, .int .i64 p0.un.2.1, .int .i64 p0.un.2.2.1, .slice none 0 0]) PW W Aa Aa Aa).q fun a w W F => ?_
 refine AU (cs := (B2)) W F Aa Ms Aa fun b3 a w W F => ?_
 refine Au (vs := [.int .i64 p0.un.1, .int .i64 p0.un.2.1, .int .i64 p0.un.2.2.1, .slice none 0 0]) (M' := [(b3, [.int .i64 p0.un.1, .int .i64 p0.un.2.1, .int .i64 p0.un.2.2.1, .slice none 0 0]), (b2, [.int .i64 0, .int .i64 0, .int .i64 0, .slice none 0 0]), (b1, [.int .i64 p0.un.1, .int .i64 p0.un.2.1, .int .i64 p0.un.2.2.1, v1])]) 0 W F Aa Aa Aa Fh Aa Aa Aa Aa Aa fun w F => ?_
 refine Ae (Ad ?_)
 obtain ⟨o1, G1, K1⟩ := An H
 refine Bd (fun a w => ∃ x1 : List Tr34, ∃ v3 : Value, some (x1) = some o1 ∧ Fr 31 [] [(2, .pointer (some ⟨b2, 0, none⟩)), (3, .pointer (some ⟨b3, 0, none⟩))] a ∧ Stw ⟨Y, [], w0⟩ (Kn b3 p0 v3 b2 b1 v1) [row v3 34 A9 x1] w) ?_ ?_
 ·
  have H := G1
  clear G1 K1
  refine Ai (Ab ?_)
  refine ls W F Aa (Ag W Aa).q fun a w W F => ?_
  refine Ae (Ad (AV ?_))
  have F := F.nilRow 34 A9
  have F := F.frontM (i := 2) Aa Aa
  have F := F.frontM (i := 2) Aa Aa
  have F := F.frontM (i := 2) Aa Aa
  refine Cr H (fun s a w => ∃ v4 : Value, Fr 31 [] [(1, .pointer (some ⟨b1, 0, none⟩)), (2, .pointer (some ⟨b2, 0, none⟩)), (3, .pointer (some ⟨b3, 0, none⟩)), (4, .int .i64 s.1)] a ∧ Stw ⟨Y, [], w0⟩ (Kn b3 p0 v4 b2 b1 v1) [row v4 34 A9 s.2] w) ⟨(Value.slice none 0 0), W.re ⟨rfl, Aa, Aa, Aa, trivial⟩, F⟩ fun s o a w H L2 hR => ?_
  obtain ⟨x2, x3⟩ := s
  obtain ⟨v4, W, F⟩ := hR
  have W : Fr 31 [] [(1, .pointer (some ⟨b1, 0, none⟩)), (2, .pointer (some ⟨b2, 0, none⟩)), (3, .pointer (some ⟨b3, 0, none⟩)), (4, .int .i64 x2)] a := W
  have F : Stw ⟨Y, [], w0⟩ (Kn b3 p0 v4 b2 b1 v1) [row v4 34 A9 x3] w := F
  rw [Cm] at H
  refine Ai (Ai (Ab ?_))
  refine ls W F Aa (Ah W Aa).q fun a w W F => ?_
  refine ls W F Aa (Ao Jm Aa Aa Aa QJ W Aa 3 Aa).q fun a w W F => ?_
  refine ls W F Aa (AJ (v := v1) 2 W Aa Aa QJ Aa).q fun a w W F => ?_
  refine ls W F Aa (E4 (r := AY) (l := p0.un.2.2.2) Qb Aa W Aa (Cd Gq h1 (AG h_v1))).q fun a w W F => ?_
  refine ls W F Aa (Fd W Aa Aa).q fun a w W F => ?_
  refine Ae (Ad ?_)
  refine Aw W Aa (fun hb => ?_) fun hb => ?_
  ·
   have H := AQ (BB hb) H
   rw [hb] at W
   clear hb
   refine Ax (Ad (Ai (AV ?_)))
   obtain ⟨v5, h2, F⟩ := F.exR J7
   refine GN [(true, 0), (true, 1), (true, 2), (true, 3), (true, 4), (true, 5), (true, 6), (false, 7), (false, 8), (false, 9), (true, 10), (false, 11)] (CN ⟨Y, [], w0⟩ [(some 9, b3, [.int .i64 p0.un.1, .int .i64 p0.un.2.1, .int .i64 p0.un.2.2.1, v4]), (some 7, b1, [.int .i64 p0.un.1, .int .i64 p0.un.2.1, .int .i64 p0.un.2.2.1, v1])] []) (fun ch a d v w h => by cases d <;> exact h) MO (by kernel_rfl) F (fun w F => ⟨_, _, F, (AC (fun _ => (.head _)) (AC (fun _ => (.tail _ (.tail _ (.head _)))) AF)), AF⟩) fun w F => ?_
   refine Cs (R := []) W Aa Aa (yC fun M Z hN hZ => Ao Jy Aa Aa Aa OR W Aa 3 Aa) Aa Aa fun a W => ?_
   refine Cs (R := [9]) W Aa Aa (yC fun M Z hN hZ => Dh (cs := (MI p0 v4)) (v := v4) W Aa (hN ((some 9), b3, (MI p0 v4)) (.head _) Aa) OR Aa) (by kernel_rfl) Aa fun a W => ?_
   refine Cs (R := []) W Aa Aa (yC fun M Z hN hZ => Ao Jm Aa Aa Aa QJ W Aa 3 Aa) Aa Aa fun a W => ?_
   refine Cs (R := [7, 6, 5]) W Aa Aa (yC fun M Z hN hZ => Dh (cs := (MI p0 v1)) (v := v1) W Aa (hN ((some 7), b1, (MI p0 v1)) (.tail _ (.head _)) Aa) QJ Aa) (by kernel_rfl) Aa fun a W => ?_
   refine Cs (R := []) W Aa Aa (yC fun M Z hN hZ => Ah W Aa) Aa Aa fun a W => ?_
   obtain ⟨x4, h3, H⟩ := An H
   obtain ⟨v6, h4, h5⟩ := H1 h1 h3
   have h6 : MR v6 = [.int .i64 x4.un.1, .int .i64 x4.un.2.1, .int .i64 x4.un.2.2.1, (v6.2.2.2.1)] := congrArg (fun q : Tr25 => ([.int .i64 q.un.1, .int .i64 q.un.2.1, .int .i64 q.un.2.2.1, (v6.2.2.2.1)] : List Value)) h5
   refine Cs (R := []) W Aa Aa (yC fun M Z hN hZ => CE (r := N5) PN W Aa Aa (AG h_v1) h4) Aa Aa fun a W => ?_
   refine Cs (R := []) W Aa Aa (yC fun M Z hN hZ => BV (y := Value.agg #[.int .i64 x4.un.1, .int .i64 x4.un.2.1, .int .i64 x4.un.2.2.1, (v6.2.2.2.1)]) (j := 0) (i := x2) (enc := MR) W Aa Aa (AG h_v1) h4 QN FV (by rw [h6]; rfl)) Aa Aa fun a W => ?_
   refine Fg Aa ?_
   obtain ⟨x5, h7, H⟩ := An H
   refine AO (Ml := []) (Zl := []) (M := (Kn b3 p0 v4 b2 b1 v1)) (Z := [row v4 34 LN v5]) (β := Value) (rv := fun x => .agg #[.int .i64 x5.un.1, .int .i64 x5.un.2.1, .int .i64 x5.un.2.2.1, x]) (MM := fun x => []) (ZZ := fun x => [row x 34 A9 x5.un.2.2.2]) W F Sq Aa Aa (fun hL => ih _ w ((v6.2.2.2.1)) x4 _ h7 ((E8 (AG h_v1) h4 (Bp.snd (Bp.snd (Bp.snd Bp.here))) (congrArg (fun q : Tr25 => q.un.2.2.2) h5)) w F).nx) fun x a w W F => ?_
   obtain ⟨v7, rfl⟩ : ∃ y, y = x := ⟨x, rfl⟩
   have F : Stw ⟨Y, [], w0⟩ (Kn b3 p0 v4 b2 b1 v1) [row v7 34 A9 x5.un.2.2.2, row v4 34 LN v5] w := F
   refine B8 (N2 := []) (NZ2 := []) (N3 := [(some 9, b3, [.int .i64 p0.un.1, .int .i64 p0.un.2.1, .int .i64 p0.un.2.2.1, v4]), (some 7, b1, [.int .i64 p0.un.1, .int .i64 p0.un.2.1, .int .i64 p0.un.2.2.1, v1])]) (NZ3 := []) F Aa Aa (AC (fun _ => (.head _)) (AC (fun h => A2 (by kernel_rfl) h) AF)) AF ?_
   refine Fg Aa ?_
   have F := F.freeze
   refine Dj (z := Value.agg #[.int .i64 0, .int .i64 0, .int .i64 0, .slice none 0 0]) (cs := (Qz x5 v7)) A9 ([x5] : List Tr34) W F Aa Qq Ms Aa Aa Aa (AK Aa Aa Aa Br) Aa Aa ⟨[Value.int .i64 x5.un.1, Value.int .i64 x5.un.2.1, Value.int .i64 x5.un.2.2.1, v7], _, Aa, (J1.2 ⟨[Value.int .i64 x5.un.1], [Value.int .i64 x5.un.2.1, Value.int .i64 x5.un.2.2.1, v7], Aa, Aa, ⟨[Value.int .i64 x5.un.2.1], [Value.int .i64 x5.un.2.2.1, v7], Aa, Aa, ⟨[Value.int .i64 x5.un.2.2.1], [v7], Aa, Aa, ⟨_, Aa, (F.item (i := 0) Aa)⟩⟩⟩⟩), Aa⟩ fun v8 a w W F => ?_
   refine B8 (N2 := []) (NZ2 := []) (N3 := [(some 9, b3, [.int .i64 p0.un.1, .int .i64 p0.un.2.1, .int .i64 p0.un.2.2.1, v4]), (some 7, b1, [.int .i64 p0.un.1, .int .i64 p0.un.2.1, .int .i64 p0.un.2.2.1, v1])]) (NZ3 := []) F Aa Aa (AC (fun _ => (.head _)) (AC (fun h => A2 (by kernel_rfl) h) AF)) AF ?_
   refine Fg Aa ?_
   have F := F.frontZ (i := 2) Aa Aa
   have F := F.hideR J7 h2
   obtain ⟨x6, h8, H⟩ := An H
   refine CU (r := A9) (i := 0) W F Aa Qq Aa Aa Aa Aa (DD F 1 Aa) h8 Aa fun v9 a w W F => ?_
   have F : Stw ⟨Y, [], w0⟩ (Kn b3 p0 v4 b2 b1 v1) [row v9 34 A9 x6, row v8 34 A9 ([x5] : List Tr34), Av v7 A9 x5.un.2.2.2] w := F
   refine B8 (N2 := []) (NZ2 := []) (N3 := [(some 9, b3, [.int .i64 p0.un.1, .int .i64 p0.un.2.1, .int .i64 p0.un.2.2.1, v4]), (some 7, b1, [.int .i64 p0.un.1, .int .i64 p0.un.2.1, .int .i64 p0.un.2.2.1, v1])]) (NZ3 := []) F Aa Aa (AC (fun h => A2 (by kernel_rfl) h) (AC (fun h => A2 (by kernel_rfl) h) AF)) AF ?_
   refine Cs (R := []) W Aa Aa (yC fun M Z hN hZ => Ao Jy Aa Aa Aa OR W Aa 3 Aa) Aa Aa fun a W => ?_
   refine Fg Aa ?_
   refine LD (M' := (Kn b3 p0 v9 b2 b1 v1)) 0 W F Aa Aa Aa OR (F.one (k := 0) Aa) Aa Aa fun w F => ?_
   refine B8 (N2 := []) (NZ2 := []) (N3 := [(some 9, b3, [.int .i64 p0.un.1, .int .i64 p0.un.2.1, .int .i64 p0.un.2.2.1, v4]), (some 7, b1, [.int .i64 p0.un.1, .int .i64 p0.un.2.1, .int .i64 p0.un.2.2.1, v1])]) (NZ3 := []) F Aa Aa (AC (fun h => A2 (by kernel_rfl) h) (AC (fun h => A2 (by kernel_rfl) h) AF)) AF ?_
   refine Gi (Bw (Ad (Ab ?_)))
   refine ls W F Aa (Ah W Aa).q fun a w W F => ?_
   refine ls W F Aa (BT W Aa Aa Aa).q fun a w W F => ?_
   refine ls W F Aa (Ag W Aa).q fun a w W F => ?_
   refine Ae (Ad ?_)
   have F := F.frontM (i := 2) Aa Aa
   have F := F.frontM (i := 2) Aa Aa
   have F := F.frontM (i := 2) Aa Aa
   have F := F.sub (M' := (Kn b3 p0 v9 b2 b1 v1)) (Z' := [row v9 34 A9 x6]) (List.Sublist.refl _) (List.Sublist.cons_cons _ (List.nil_sublist _))
   exact ⟨_, H, (v9), W.re ⟨rfl, Aa, Aa, Aa, trivial⟩, F⟩
  have H := AR (Bz hb) H
  rw [hb] at W
  clear hb
  refine Cl ?_
  iterate 2 refine CO ?_
  refine Ck (Ad ?_)
  have F := F.frontM (i := 2) Aa Aa
  have F := F.frontM (i := 2) Aa Aa
  have F := F.frontM (i := 2) Aa Aa
  have H := L2 _ H
  exact ⟨_, (v4), H, W.re ⟨rfl, Aa, trivial⟩, F⟩
 rintro a w ⟨x1, v3, hj, W, F⟩
 have hj := AH hj
 subst hj
 have H := K1
 clear G1 K1
 refine Ai (Ab ?_)
 refine ls W F Aa (AJ (v := Value.agg #[.int .i64 p0.un.1, .int .i64 p0.un.2.1, .int .i64 p0.un.2.2.1, v3]) 0 W Aa Aa Fh Aa).q fun a w W F => ?_
 refine Au (vs := (MI p0 v3)) (M' := [(b3, [.int .i64 p0.un.1, .int .i64 p0.un.2.1, .int .i64 p0.un.2.2.1, v3]), (b2, [.int .i64 p0.un.1, .int .i64 p0.un.2.1, .int .i64 p0.un.2.2.1, v3]), (b1, [.int .i64 p0.un.1, .int .i64 p0.un.2.1, .int .i64 p0.un.2.2.1, v1])]) 1 W F Aa Aa Aa Fh Aa Aa Aa (Ac Aa (Ac Aa (Ac Aa (Ac (F.one (k := 0) Aa) AM)))) Aa fun w F => ?_
 refine Ae (Ad (Aq ?_))
 have H := AH H
 subst H
 refine AP (.inl Aa) W F Aa (AB 1 W Aa Aa Fh Aa) ?_
 have F := F.sub (M' := []) (Z' := [row v3 34 A9 x1]) (List.nil_sublist _) (List.Sublist.refl _)
 exact ⟨(v3), Aa, F⟩
theorem LR : ∀ (n : Nat) (Y : Nat → Prop) (w0 : World) (v1 : Value) (p0 : Tr25) (r : Tr34) (H : Cz n p0 = some r) (h_v1 : Sl w0 (NX []) AY v1 p0.un.2.2.2), Calls Tryd.prog 14 #[.agg #[.int .i64 p0.un.1, .int .i64 p0.un.2.1, .int .i64 p0.un.2.2.1, v1]] w0 fun e w' => ∃ x : Value, e = .returned (.agg #[.int .i64 r.un.1, .int .i64 r.un.2.1, .int .i64 r.un.2.2.1, x]) ∧ Stw ⟨Y, [], w0⟩ [] [row (x) 34 A9 r.un.2.2.2] w' := by
  intro n
  induction n with
  | zero => intro Y w0 v1 p0 r H; exact nomatch H
  | succ n ih => intro Y w0 v1 p0 r H h_v1; exact K7 (Cz n) ih Y w0 v1 p0 r H h_v1
theorem HV (Y : Nat → Prop) (w0 : World) (v1 : Value) (p0 : Tr25) (r : Tr34) (H : HK p0 = some r) (h_v1 : Sl w0 (NX []) AY v1 p0.un.2.2.2) :
    Calls Tryd.prog 14 #[.agg #[.int .i64 p0.un.1, .int .i64 p0.un.2.1, .int .i64 p0.un.2.2.1, v1]] w0 fun e w' => ∃ x : Value, e = .returned (.agg #[.int .i64 r.un.1, .int .i64 r.un.2.1, .int .i64 r.un.2.2.1, x]) ∧ Stw ⟨Y, [], w0⟩ [] [row (x) 34 A9 r.un.2.2.2] w' := by
  obtain ⟨n, H⟩ := Ch H
  exact LR n Y w0 v1 p0 r H h_v1
theorem Ta : Has Tryd.prog 10 := ⟨fun args w => Al Tryd.func10 rfl (by decide) args w⟩
abbrev Pi : Rp (Int × (Int × Int × Int × (Value × List Tr34)) × Int × Int × (Value × List Tr37)) := (Rp.pair (Rp.int .i64) (Rp.pair LN (Rp.pair (Rp.int .i64) (Rp.pair (Rp.int .i64) (Rp.vsl B3)))))
abbrev SS (p : Int × (Int × Int × Int × (Value × List Tr34)) × Int × Int × (Value × List Tr37)) : Tr37 := (Tr37.of (p.1, (Tr34.of (p.2.1.1, p.2.1.2.1, p.2.1.2.2.1, p.2.1.2.2.2.2)), p.2.2.1, p.2.2.2.1, p.2.2.2.2.2))
theorem Oo : Ex B3 Pi SS := (Ex.knot RN (of := Tr37.of) (fun _ => rfl) (fun x => by cases x; rfl) (Ex.pair Ex.rfl' (Ex.pair (Ex.knot QK (of := Tr34.of) (fun _ => rfl) (fun x => by cases x; rfl) (Ex.pair Ex.rfl' (Ex.pair Ex.rfl' (Ex.pair Ex.rfl' Ex.sliceF)))) (Ex.pair Ex.rfl' (Ex.pair Ex.rfl' Ex.sliceF)))))
abbrev P6 (a0 : Nat) (a1 : Tr28) (a2 : Tr34) (a3 : Value) (a4 : Nat) (a5 : Nat) (a6 : Value) (a7 : Value) : List (Nat × List Value) := [(a0, [.int .i64 a1.un.1, .int .i64 a2.un.1, .int .i64 a2.un.2.1, .int .i64 a2.un.2.2.1, a3, .int .i64 a1.un.2.2.1, .int .i64 a1.un.2.2.2.1, .slice none 0 0]), (a4, [.int .i64 0, .int .i64 0, .int .i64 0, .int .i64 0, .slice none 0 0, .int .i64 0, .int .i64 0, .slice none 0 0]), (a5, [.int .i64 a1.un.1, .int .i64 a1.un.2.1.un.1, .int .i64 a1.un.2.1.un.2.1, .int .i64 a1.un.2.1.un.2.2.1, a6, .int .i64 a1.un.2.2.1, .int .i64 a1.un.2.2.2.1, a7])]
abbrev Rc (a0 : Nat) (a1 : Nat) (a2 : Tr28) (a3 : Value) (a4 : Value) : List (Nat × List Value) := [(a0, [.int .i64 0, .int .i64 0, .int .i64 0, .int .i64 0, .slice none 0 0, .int .i64 0, .int .i64 0, .slice none 0 0]), (a1, [.int .i64 a2.un.1, .int .i64 a2.un.2.1.un.1, .int .i64 a2.un.2.1.un.2.1, .int .i64 a2.un.2.1.un.2.2.1, a3, .int .i64 a2.un.2.2.1, .int .i64 a2.un.2.2.2.1, a4])]
abbrev Qd (a0 : Tr28) (a1 : Tr34) (a2 : Value) : List Value := [.int .i64 a0.un.1, .int .i64 a1.un.1, .int .i64 a1.un.2.1, .int .i64 a1.un.2.2.1, a2, .int .i64 a0.un.2.2.1, .int .i64 a0.un.2.2.2.1, .slice none 0 0]
abbrev Qs (a0 : Nat) (a1 : Nat) (a2 : Nat) (a3 : Tr28) (a4 : Value) (a5 : Value) : List (Nat × List Value) := [(a0, [.int .i64 0, .int .i64 0, .int .i64 0, .int .i64 0, .slice none 0 0, .int .i64 0, .int .i64 0, .slice none 0 0]), (a1, [.int .i64 0, .int .i64 0, .int .i64 0, .int .i64 0, .slice none 0 0, .int .i64 0, .int .i64 0, .slice none 0 0]), (a2, [.int .i64 a3.un.1, .int .i64 a3.un.2.1.un.1, .int .i64 a3.un.2.1.un.2.1, .int .i64 a3.un.2.1.un.2.2.1, a4, .int .i64 a3.un.2.2.1, .int .i64 a3.un.2.2.2.1, a5])]
abbrev Io (a0 : Nat) (a1 : Tr28) (a2 : Tr34) (a3 : Value) (a4 : Value) (a5 : Nat) (a6 : Nat) (a7 : Value) (a8 : Value) : List (Nat × List Value) := [(a0, [.int .i64 a1.un.1, .int .i64 a2.un.1, .int .i64 a2.un.2.1, .int .i64 a2.un.2.2.1, a3, .int .i64 a1.un.2.2.1, .int .i64 a1.un.2.2.2.1, a4]), (a5, [.int .i64 0, .int .i64 0, .int .i64 0, .int .i64 0, .slice none 0 0, .int .i64 0, .int .i64 0, .slice none 0 0]), (a6, [.int .i64 a1.un.1, .int .i64 a1.un.2.1.un.1, .int .i64 a1.un.2.1.un.2.1, .int .i64 a1.un.2.1.un.2.2.1, a7, .int .i64 a1.un.2.2.1, .int .i64 a1.un.2.2.2.1, a8])]
abbrev Oq (a0 : Tr28) (a1 : Tr34) (a2 : Value) (a3 : Value) : List Value := [.int .i64 a0.un.1, .int .i64 a1.un.1, .int .i64 a1.un.2.1, .int .i64 a1.un.2.2.1, a2, .int .i64 a0.un.2.2.1, .int .i64 a0.un.2.2.2.1, a3]
abbrev Of (a0 : Tr37) (a1 : Value) (a2 : Value) : List Value := [.int .i64 a0.un.1, .int .i64 a0.un.2.1.un.1, .int .i64 a0.un.2.1.un.2.1, .int .i64 a0.un.2.1.un.2.2.1, a1, .int .i64 a0.un.2.2.1, .int .i64 a0.un.2.2.2.1, a2]
noncomputable def Ct (fRec : Tr28 → Option Tr37) (p0 : Tr28) : (Int × List Tr37) → Option ((Int × List Tr37) ⊕ (List Tr37))
  | (x3, x4) => (if x3 < (p0.un.2.2.2.2.length : Int) then (ix p0.un.2.2.2.2 x3).bind fun x5 => (fRec (Tr28.of (x5.un.1, Tr25.of (x5.un.2.1.un.1, x5.un.2.1.un.2.1, x5.un.2.1.un.2.2.1, x5.un.2.1.un.2.2.2), x5.un.2.2.1, x5.un.2.2.2.1, x5.un.2.2.2.2))).bind fun x6 => (Eo x4 ([Tr37.of (x6.un.1, Tr34.of (x6.un.2.1.un.1, x6.un.2.1.un.2.1, x6.un.2.1.un.2.2.1, x6.un.2.1.un.2.2.2), x6.un.2.2.1, x6.un.2.2.2.1, x6.un.2.2.2.2)] : List Tr37)).bind fun x7 => some (.inl (Co (x3 + 1), x7)) else some (.inr x4))
noncomputable def C0 (fRec : Tr28 → Option Tr37) (p0 : Tr28) : Option Tr37 := (HK (Tr25.of (p0.un.2.1.un.1, p0.un.2.1.un.2.1, p0.un.2.1.un.2.2.1, p0.un.2.1.un.2.2.2))).bind fun x1 => (Bx (Ct fRec p0) (0, [])).bind fun x2 => some (Tr37.of (p0.un.1, x1, p0.un.2.2.1, p0.un.2.2.2.1, x2))
noncomputable def CL : Nat → Tr28 → Option Tr37
  | 0 => fun _ => none
  | n + 1 => C0 (CL n)
noncomputable def Ju (p0 : Tr28) : Option Tr37 := Gx fun n => CL n p0
theorem Lk (fRec : Tr28 → Option Tr37) (ih : ∀ (Y : Nat → Prop) (w0 : World) (v1 : Value) (v2 : Value) (p0 : Tr28) (r : Tr37) (H : fRec p0 = some r) (h_v1 : Sl w0 (NX []) AY v1 p0.un.2.1.un.2.2.2) (h_v2 : Sl w0 (NX []) BJ v2 p0.un.2.2.2.2), Calls Tryd.prog 10 #[.agg #[.int .i64 p0.un.1, .int .i64 p0.un.2.1.un.1, .int .i64 p0.un.2.1.un.2.1, .int .i64 p0.un.2.1.un.2.2.1, v1, .int .i64 p0.un.2.2.1, .int .i64 p0.un.2.2.2.1, v2]] w0 fun e w' => ∃ x : Value × Value, e = .returned (.agg #[.int .i64 r.un.1, .int .i64 r.un.2.1.un.1, .int .i64 r.un.2.1.un.2.1, .int .i64 r.un.2.1.un.2.2.1, x.1, .int .i64 r.un.2.2.1, .int .i64 r.un.2.2.2.1, x.2]) ∧ Stw ⟨Y, [], w0⟩ [] [row (x.1) 34 A9 r.un.2.1.un.2.2.2, row (x.2) 37 B3 r.un.2.2.2.2] w') (Y : Nat → Prop) (w0 : World) (v1 : Value) (v2 : Value) (p0 : Tr28) (r : Tr37) (H : C0 fRec p0 = some r) (h_v1 : Sl w0 (NX []) AY v1 p0.un.2.1.un.2.2.2) (h_v2 : Sl w0 (NX []) BJ v2 p0.un.2.2.2.2) :
    Calls Tryd.prog 10 #[.agg #[.int .i64 p0.un.1, .int .i64 p0.un.2.1.un.1, .int .i64 p0.un.2.1.un.2.1, .int .i64 p0.un.2.1.un.2.2.1, v1, .int .i64 p0.un.2.2.1, .int .i64 p0.un.2.2.2.1, v2]] w0 fun e w' => ∃ x : Value × Value, e = .returned (.agg #[.int .i64 r.un.1, .int .i64 r.un.2.1.un.1, .int .i64 r.un.2.1.un.2.1, .int .i64 r.un.2.1.un.2.2.1, x.1, .int .i64 r.un.2.2.1, .int .i64 r.un.2.2.2.1, x.2]) ∧ Stw ⟨Y, [], w0⟩ [] [row (x.1) 34 A9 r.un.2.1.un.2.2.2, row (x.2) 37 B3 r.un.2.2.2.2] w' := by
 refine enter Tryd.func10 Aa Tryd.ntmps10 Aa fun a W => ?_
 have F := Stw.start Y w0
 obtain ⟨v3, h1, h_v1⟩ := h_v1.ex Gq
 obtain ⟨v4, h2, h_v2⟩ := h_v2.ex JB
 unfold C0 at H
 refine Ai (Ab ?_)
 refine H2 (cs := (Gp p0 v1 v2)) W F Aa Aa Aa fun b1 a w W F => ?_
 refine AU (cs := (Bl)) W F Aa LH Aa fun b2 a w W F => ?_
 refine Ae (Ad (Ai ?_))
 obtain ⟨x1, h3, H⟩ := An H
 refine QR (fun a w => ∃ b3 : Nat, ∃ v5 : Value, Fr 34 [] [(0, .agg #[.int .i64 p0.un.1, .int .i64 p0.un.2.1.un.1, .int .i64 p0.un.2.1.un.2.1, .int .i64 p0.un.2.1.un.2.2.1, v1, .int .i64 p0.un.2.2.1, .int .i64 p0.un.2.2.2.1, v2]), (1, .pointer (some ⟨b1, 0, none⟩)), (2, .pointer (some ⟨b2, 0, none⟩)), (3, .pointer (some ⟨b3, 0, none⟩)), (5, .pointer (some ⟨b1, 0, none⟩)), (6, .int .i64 p0.un.1), (7, .pointer (some ⟨b1, 1, none⟩)), (8, .agg #[.int .i64 p0.un.2.1.un.1, .int .i64 p0.un.2.1.un.2.1, .int .i64 p0.un.2.1.un.2.2.1, v1]), (9, .agg #[.int .i64 x1.un.1, .int .i64 x1.un.2.1, .int .i64 x1.un.2.2.1, v5]), (10, .pointer (some ⟨b1, 5, none⟩)), (11, .int .i64 p0.un.2.2.1), (12, .pointer (some ⟨b1, 6, none⟩)), (13, .int .i64 p0.un.2.2.2.1), (14, .agg #[.int .i64 p0.un.1, .int .i64 x1.un.1, .int .i64 x1.un.2.1, .int .i64 x1.un.2.2.1, v5, .int .i64 p0.un.2.2.1, .int .i64 p0.un.2.2.2.1, .slice none 0 0])] a ∧ Stw ⟨Y, [], w0⟩ (P6 b3 p0 x1 v5 b2 b1 v1 v2) [row v5 34 A9 x1.un.2.2.2] w) ?_ ?_
 ·
  refine Qf (PT.st 0 (PT.st 1 (PT.st 2 (PT.st 3 (PT.st 5 (PT.st 6 (PT.st 7 (PT.st 8 (PT.alt 4 (PT.st 9 (PT.alt 10 (PT.alt 11 PT.done PT.stop) PT.stop)) (PT.alt 10 (PT.alt 4 (PT.st 9 (PT.alt 11 PT.done PT.stop)) PT.stop) PT.stop)))))))))) (CN ⟨Y, [], w0⟩ [(some 11, b1, [.int .i64 p0.un.1, .int .i64 p0.un.2.1.un.1, .int .i64 p0.un.2.1.un.2.1, .int .i64 p0.un.2.1.un.2.2.1, v1, .int .i64 p0.un.2.2.1, .int .i64 p0.un.2.2.2.1, v2]), (some 4, b1, [.int .i64 p0.un.1, .int .i64 p0.un.2.1.un.1, .int .i64 p0.un.2.1.un.2.1, .int .i64 p0.un.2.1.un.2.2.1, v1, .int .i64 p0.un.2.2.1, .int .i64 p0.un.2.2.2.1, v2])] []) (fun ch a d v w h => by cases d <;> exact h) MO (by kernel_rfl) F (fun w F => ⟨_, _, F, (AC (fun _ => (.tail _ (.head _))) (AC (fun _ => (.tail _ (.head _))) AF)), AF⟩) fun w F => ?_
  refine LZ (R := []) W Aa Aa (yC fun M Z hN hZ => Ao Hv Aa Aa Aa T3 W Aa 0 Aa) Aa Aa fun a W => ?_
  refine LZ (R := [11]) W Aa Aa (yC fun M Z hN hZ => Dh (cs := (Gp p0 v1 v2)) (v := Value.int .i64 p0.un.1) W Aa (hN ((some 11), b1, (Gp p0 v1 v2)) (.head _) Aa) T3 Aa) (by kernel_rfl) Aa fun a W => ?_
  refine LZ (R := []) W Aa Aa (yC fun M Z hN hZ => Ao Hv Aa Aa Aa FV W Aa 1 Aa) Aa Aa fun a W => ?_
  refine LZ (R := [4]) W Aa Aa (yC fun M Z hN hZ => Dh (cs := (Gp p0 v1 v2)) (v := Value.agg #[.int .i64 p0.un.2.1.un.1, .int .i64 p0.un.2.1.un.2.1, .int .i64 p0.un.2.1.un.2.2.1, v1]) W Aa (hN ((some 4), b1, (Gp p0 v1 v2)) (.tail _ (.head _)) Aa) FV Aa) (by kernel_rfl) Aa fun a W => ?_
  refine LZ (R := []) W Aa Aa (yC fun M Z hN hZ => Ao Hv Aa Aa Aa T3 W Aa 5 Aa) Aa Aa fun a W => ?_
  refine LZ (R := [11]) W Aa Aa (yC fun M Z hN hZ => Dh (cs := (Gp p0 v1 v2)) (v := Value.int .i64 p0.un.2.2.1) W Aa (hN ((some 11), b1, (Gp p0 v1 v2)) (.head _) Aa) T3 Aa) (by kernel_rfl) Aa fun a W => ?_
  refine LZ (R := []) W Aa Aa (yC fun M Z hN hZ => Ao Hv Aa Aa Aa T3 W Aa 6 Aa) Aa Aa fun a W => ?_
  refine LZ (R := [11]) W Aa Aa (yC fun M Z hN hZ => Dh (cs := (Gp p0 v1 v2)) (v := Value.int .i64 p0.un.2.2.2.1) W Aa (hN ((some 11), b1, (Gp p0 v1 v2)) (.head _) Aa) T3 Aa) (by kernel_rfl) Aa fun a W => ?_
  refine RU Aa ?_ ?_
  ·
   refine AO (Ml := []) (Zl := []) (M := (Rc b2 b1 p0 v1 v2)) (Z := []) (β := Value) (rv := fun x => .agg #[.int .i64 x1.un.1, .int .i64 x1.un.2.1, .int .i64 x1.un.2.2.1, x]) (MM := fun x => []) (ZZ := fun x => [row x 34 A9 x1.un.2.2.2]) W F Sq Aa Aa (fun hL => HV _ w (v1) (Tr25.of (p0.un.2.1.un.1, p0.un.2.1.un.2.1, p0.un.2.1.un.2.2.1, p0.un.2.1.un.2.2.2)) _ h3 ((Cd Gq h1 (AG h_v1)) w F).nx) fun x a w W F => ?_
   obtain ⟨v5, rfl⟩ : ∃ y, y = x := ⟨x, rfl⟩
   have F : Stw ⟨Y, [], w0⟩ (Rc b2 b1 p0 v1 v2) [row v5 34 A9 x1.un.2.2.2] w := F
   refine IP (N2 := []) (NZ2 := []) (N3 := [(some 11, b1, [.int .i64 p0.un.1, .int .i64 p0.un.2.1.un.1, .int .i64 p0.un.2.1.un.2.1, .int .i64 p0.un.2.1.un.2.2.1, v1, .int .i64 p0.un.2.2.1, .int .i64 p0.un.2.2.2.1, v2]), (some 4, b1, [.int .i64 p0.un.1, .int .i64 p0.un.2.1.un.1, .int .i64 p0.un.2.1.un.2.1, .int .i64 p0.un.2.1.un.2.2.1, v1, .int .i64 p0.un.2.2.1, .int .i64 p0.un.2.2.2.1, v2])]) (NZ3 := []) F Aa Aa (AC (fun _ => (.tail _ (.head _))) (AC (fun h => A2 (by kernel_rfl) h) AF)) AF ?_
   refine LZ (R := []) W Aa Aa (yC fun M Z hN hZ => Ba (v := Value.agg #[.int .i64 p0.un.1, .int .i64 x1.un.1, .int .i64 x1.un.2.1, .int .i64 x1.un.2.2.1, v5, .int .i64 p0.un.2.2.1, .int .i64 p0.un.2.2.2.1, .slice none 0 0]) Qo W Aa (AK Aa Aa Aa (AK Aa Aa Aa (AK Aa Aa Aa (AK Aa Aa Aa Br)))) Aa) Aa Aa fun a W => ?_
   refine Ow Aa ?_
   refine AU (cs := (Bl)) W F Aa LH Aa fun b3 a w W F => ?_
   refine IP (N2 := []) (NZ2 := []) (N3 := [(some 11, b1, [.int .i64 p0.un.1, .int .i64 p0.un.2.1.un.1, .int .i64 p0.un.2.1.un.2.1, .int .i64 p0.un.2.1.un.2.2.1, v1, .int .i64 p0.un.2.2.1, .int .i64 p0.un.2.2.2.1, v2]), (some 4, b1, [.int .i64 p0.un.1, .int .i64 p0.un.2.1.un.1, .int .i64 p0.un.2.1.un.2.1, .int .i64 p0.un.2.1.un.2.2.1, v1, .int .i64 p0.un.2.2.1, .int .i64 p0.un.2.2.2.1, v2])]) (NZ3 := []) F Aa Aa (AC (fun _ => (.tail _ (.tail _ (.head _)))) (AC (fun h => A2 (by kernel_rfl) h) AF)) AF ?_
   refine Ow Aa ?_
   refine Au (vs := (Qd p0 x1 v5)) (M' := (P6 b3 p0 x1 v5 b2 b1 v1 v2)) 0 W F Aa Aa Aa EU Aa Aa Aa (Ac Aa (Ac Aa (Ac Aa (Ac Aa (Ac (F.one (k := 0) Aa) (Ac Aa (Ac Aa (Ac Aa AM)))))))) Aa fun w F => ?_
   refine IP (N2 := []) (NZ2 := []) (N3 := [(some 11, b1, [.int .i64 p0.un.1, .int .i64 p0.un.2.1.un.1, .int .i64 p0.un.2.1.un.2.1, .int .i64 p0.un.2.1.un.2.2.1, v1, .int .i64 p0.un.2.2.1, .int .i64 p0.un.2.2.2.1, v2]), (some 4, b1, [.int .i64 p0.un.1, .int .i64 p0.un.2.1.un.1, .int .i64 p0.un.2.1.un.2.1, .int .i64 p0.un.2.1.un.2.2.1, v1, .int .i64 p0.un.2.2.1, .int .i64 p0.un.2.2.2.1, v2])]) (NZ3 := []) F Aa Aa (AC (fun h => A2 (by kernel_rfl) h) (AC (fun h => A2 (by kernel_rfl) h) AF)) AF ?_
   have F := F.frontM (i := 2) Aa Aa
   have F := F.frontM (i := 2) Aa Aa
   have F := F.frontM (i := 2) Aa Aa
   refine PY ?_
   exact ⟨b3, v5, W.re ⟨rfl, Aa, Aa, Aa, Aa, Aa, Aa, Aa, Aa, Aa, Aa, Aa, Aa, Aa, trivial⟩, F⟩
  refine RU Aa ?_ ?_
  ·
   refine AU (cs := (Bl)) W F Aa LH Aa fun b3 a w W F => ?_
   refine IP (N2 := []) (NZ2 := []) (N3 := [(some 11, b1, [.int .i64 p0.un.1, .int .i64 p0.un.2.1.un.1, .int .i64 p0.un.2.1.un.2.1, .int .i64 p0.un.2.1.un.2.2.1, v1, .int .i64 p0.un.2.2.1, .int .i64 p0.un.2.2.2.1, v2]), (some 4, b1, [.int .i64 p0.un.1, .int .i64 p0.un.2.1.un.1, .int .i64 p0.un.2.1.un.2.1, .int .i64 p0.un.2.1.un.2.2.1, v1, .int .i64 p0.un.2.2.1, .int .i64 p0.un.2.2.2.1, v2])]) (NZ3 := []) F Aa Aa (AC (fun _ => (.tail _ (.tail _ (.head _)))) (AC (fun _ => (.tail _ (.tail _ (.head _)))) AF)) AF ?_
   refine Ow Aa ?_
   refine AO (Ml := []) (Zl := []) (M := (Qs b3 b2 b1 p0 v1 v2)) (Z := []) (β := Value) (rv := fun x => .agg #[.int .i64 x1.un.1, .int .i64 x1.un.2.1, .int .i64 x1.un.2.2.1, x]) (MM := fun x => []) (ZZ := fun x => [row x 34 A9 x1.un.2.2.2]) W F Sq Aa Aa (fun hL => HV _ w (v1) (Tr25.of (p0.un.2.1.un.1, p0.un.2.1.un.2.1, p0.un.2.1.un.2.2.1, p0.un.2.1.un.2.2.2)) _ h3 ((Cd Gq h1 (AG h_v1)) w F).nx) fun x a w W F => ?_
   obtain ⟨v5, rfl⟩ : ∃ y, y = x := ⟨x, rfl⟩
   have F : Stw ⟨Y, [], w0⟩ (Qs b3 b2 b1 p0 v1 v2) [row v5 34 A9 x1.un.2.2.2] w := F
   refine IP (N2 := []) (NZ2 := []) (N3 := [(some 11, b1, [.int .i64 p0.un.1, .int .i64 p0.un.2.1.un.1, .int .i64 p0.un.2.1.un.2.1, .int .i64 p0.un.2.1.un.2.2.1, v1, .int .i64 p0.un.2.2.1, .int .i64 p0.un.2.2.2.1, v2]), (some 4, b1, [.int .i64 p0.un.1, .int .i64 p0.un.2.1.un.1, .int .i64 p0.un.2.1.un.2.1, .int .i64 p0.un.2.1.un.2.2.1, v1, .int .i64 p0.un.2.2.1, .int .i64 p0.un.2.2.2.1, v2])]) (NZ3 := []) F Aa Aa (AC (fun _ => (.tail _ (.tail _ (.head _)))) (AC (fun h => A2 (by kernel_rfl) h) AF)) AF ?_
   refine LZ (R := []) W Aa Aa (yC fun M Z hN hZ => Ba (v := Value.agg #[.int .i64 p0.un.1, .int .i64 x1.un.1, .int .i64 x1.un.2.1, .int .i64 x1.un.2.2.1, v5, .int .i64 p0.un.2.2.1, .int .i64 p0.un.2.2.2.1, .slice none 0 0]) Qo W Aa (AK Aa Aa Aa (AK Aa Aa Aa (AK Aa Aa Aa (AK Aa Aa Aa Br)))) Aa) Aa Aa fun a W => ?_
   refine Ow Aa ?_
   refine Au (vs := (Qd p0 x1 v5)) (M' := (P6 b3 p0 x1 v5 b2 b1 v1 v2)) 0 W F Aa Aa Aa EU Aa Aa Aa (Ac Aa (Ac Aa (Ac Aa (Ac Aa (Ac (F.one (k := 0) Aa) (Ac Aa (Ac Aa (Ac Aa AM)))))))) Aa fun w F => ?_
   refine IP (N2 := []) (NZ2 := []) (N3 := [(some 11, b1, [.int .i64 p0.un.1, .int .i64 p0.un.2.1.un.1, .int .i64 p0.un.2.1.un.2.1, .int .i64 p0.un.2.1.un.2.2.1, v1, .int .i64 p0.un.2.2.1, .int .i64 p0.un.2.2.2.1, v2]), (some 4, b1, [.int .i64 p0.un.1, .int .i64 p0.un.2.1.un.1, .int .i64 p0.un.2.1.un.2.1, .int .i64 p0.un.2.1.un.2.2.1, v1, .int .i64 p0.un.2.2.1, .int .i64 p0.un.2.2.2.1, v2])]) (NZ3 := []) F Aa Aa (AC (fun h => A2 (by kernel_rfl) h) (AC (fun h => A2 (by kernel_rfl) h) AF)) AF ?_
   have F := F.frontM (i := 2) Aa Aa
   have F := F.frontM (i := 2) Aa Aa
   have F := F.frontM (i := 2) Aa Aa
   refine PY ?_
   exact ⟨b3, v5, W.re ⟨rfl, Aa, Aa, Aa, Aa, Aa, Aa, Aa, Aa, Aa, Aa, Aa, Aa, Aa, trivial⟩, F⟩
  exact trivial
 rintro a w ⟨b3, v5, W, F⟩
 refine Ad ?_
 obtain ⟨o1, G1, K1⟩ := An H
 refine Bd (fun a w => ∃ x2 : List Tr37, ∃ v6 : Value, some (x2) = some o1 ∧ Fr 34 [] [(2, .pointer (some ⟨b2, 0, none⟩)), (3, .pointer (some ⟨b3, 0, none⟩))] a ∧ Stw ⟨Y, [], w0⟩ (Io b3 p0 x1 v5 v6 b2 b1 v1 v2) [row v5 34 A9 x1.un.2.2.2, row v6 37 B3 x2] w) ?_ ?_
 ·
  have H := G1
  clear G1 K1
  refine Ai (Ab ?_)
  refine ls W F Aa (Ag W Aa).q fun a w W F => ?_
  refine Ae (Ad (AV ?_))
  have F := F.nilRow 37 B3
  have F := F.frontZ (i := 1) Aa Aa
  have F := F.frontM (i := 2) Aa Aa
  have F := F.frontM (i := 2) Aa Aa
  have F := F.frontM (i := 2) Aa Aa
  refine Cr H (fun s a w => ∃ v7 : Value, Fr 34 [] [(1, .pointer (some ⟨b1, 0, none⟩)), (2, .pointer (some ⟨b2, 0, none⟩)), (3, .pointer (some ⟨b3, 0, none⟩)), (4, .int .i64 s.1)] a ∧ Stw ⟨Y, [], w0⟩ (Io b3 p0 x1 v5 v7 b2 b1 v1 v2) [row v5 34 A9 x1.un.2.2.2, row v7 37 B3 s.2] w) ⟨(Value.slice none 0 0), W.re ⟨rfl, Aa, Aa, Aa, trivial⟩, F⟩ fun s o a w H L2 hR => ?_
  obtain ⟨x3, x4⟩ := s
  obtain ⟨v7, W, F⟩ := hR
  have W : Fr 34 [] [(1, .pointer (some ⟨b1, 0, none⟩)), (2, .pointer (some ⟨b2, 0, none⟩)), (3, .pointer (some ⟨b3, 0, none⟩)), (4, .int .i64 x3)] a := W
  have F : Stw ⟨Y, [], w0⟩ (Io b3 p0 x1 v5 v7 b2 b1 v1 v2) [row v5 34 A9 x1.un.2.2.2, row v7 37 B3 x4] w := F
  rw [Ct] at H
  refine Ai (Ai (Ab ?_))
  refine ls W F Aa (Ah W Aa).q fun a w W F => ?_
  refine ls W F Aa (Ao Hv Aa Aa Aa PE W Aa 7 Aa).q fun a w W F => ?_
  refine ls W F Aa (AJ (v := v2) 2 W Aa Aa PE Aa).q fun a w W F => ?_
  refine ls W F Aa (E4 (r := BJ) (l := p0.un.2.2.2.2) Pj Aa W Aa (Cd JB h2 (AG h_v2))).q fun a w W F => ?_
  refine ls W F Aa (Fd W Aa Aa).q fun a w W F => ?_
  refine Ae (Ad ?_)
  refine Aw W Aa (fun hb => ?_) fun hb => ?_
  ·
   have H := AQ (BB hb) H
   rw [hb] at W
   clear hb
   refine Ax (Ad (Ai (AV ?_)))
   obtain ⟨v8, h4, F⟩ := F.exR J7
   have F := F.frontZ (i := 1) Aa Aa
   obtain ⟨v9, h5, F⟩ := F.exR Oo
   refine GN [(true, 0), (true, 1), (true, 2), (true, 3), (true, 4), (true, 5), (true, 6), (false, 7), (false, 8), (false, 9), (true, 10), (false, 11)] (CN ⟨Y, [], w0⟩ [(some 9, b3, [.int .i64 p0.un.1, .int .i64 x1.un.1, .int .i64 x1.un.2.1, .int .i64 x1.un.2.2.1, v5, .int .i64 p0.un.2.2.1, .int .i64 p0.un.2.2.2.1, v7]), (some 7, b1, [.int .i64 p0.un.1, .int .i64 p0.un.2.1.un.1, .int .i64 p0.un.2.1.un.2.1, .int .i64 p0.un.2.1.un.2.2.1, v1, .int .i64 p0.un.2.2.1, .int .i64 p0.un.2.2.2.1, v2])] []) (fun ch a d v w h => by cases d <;> exact h) MO (by kernel_rfl) F (fun w F => ⟨_, _, F, (AC (fun _ => (.head _)) (AC (fun _ => (.tail _ (.tail _ (.head _)))) AF)), AF⟩) fun w F => ?_
   refine Cs (R := []) W Aa Aa (yC fun M Z hN hZ => Ao H5 Aa Aa Aa NY W Aa 7 Aa) Aa Aa fun a W => ?_
   refine Cs (R := [9]) W Aa Aa (yC fun M Z hN hZ => Dh (cs := (Oq p0 x1 v5 v7)) (v := v7) W Aa (hN ((some 9), b3, (Oq p0 x1 v5 v7)) (.head _) Aa) NY Aa) (by kernel_rfl) Aa fun a W => ?_
   refine Cs (R := []) W Aa Aa (yC fun M Z hN hZ => Ao Hv Aa Aa Aa PE W Aa 7 Aa) Aa Aa fun a W => ?_
   refine Cs (R := [7, 6, 5]) W Aa Aa (yC fun M Z hN hZ => Dh (cs := (Gp p0 v1 v2)) (v := v2) W Aa (hN ((some 7), b1, (Gp p0 v1 v2)) (.tail _ (.head _)) Aa) PE Aa) (by kernel_rfl) Aa fun a W => ?_
   refine Cs (R := []) W Aa Aa (yC fun M Z hN hZ => Ah W Aa) Aa Aa fun a W => ?_
   obtain ⟨x5, h6, H⟩ := An H
   obtain ⟨v10, h7, h8⟩ := H1 h2 h6
   have h9 : MZ v10 = [.int .i64 x5.un.1, .int .i64 x5.un.2.1.un.1, .int .i64 x5.un.2.1.un.2.1, .int .i64 x5.un.2.1.un.2.2.1, (v10.2.1.2.2.2.1), .int .i64 x5.un.2.2.1, .int .i64 x5.un.2.2.2.1, (v10.2.2.2.2.1)] := congrArg (fun q : Tr28 => ([.int .i64 q.un.1, .int .i64 q.un.2.1.un.1, .int .i64 q.un.2.1.un.2.1, .int .i64 q.un.2.1.un.2.2.1, (v10.2.1.2.2.2.1), .int .i64 q.un.2.2.1, .int .i64 q.un.2.2.2.1, (v10.2.2.2.2.1)] : List Value)) h8
   refine Cs (R := []) W Aa Aa (yC fun M Z hN hZ => CE (r := Pw) Qn W Aa Aa (AG h_v2) h7) Aa Aa fun a W => ?_
   refine Cs (R := []) W Aa Aa (yC fun M Z hN hZ => BV (y := Value.agg #[.int .i64 x5.un.1, .int .i64 x5.un.2.1.un.1, .int .i64 x5.un.2.1.un.2.1, .int .i64 x5.un.2.1.un.2.2.1, (v10.2.1.2.2.2.1), .int .i64 x5.un.2.2.1, .int .i64 x5.un.2.2.2.1, (v10.2.2.2.2.1)]) (j := 0) (i := x3) (enc := MZ) W Aa Aa (AG h_v2) h7 Q4 FG (by rw [h9]; rfl)) Aa Aa fun a W => ?_
   refine Fg Aa ?_
   obtain ⟨x6, h10, H⟩ := An H
   refine AO (Ml := []) (Zl := []) (M := (Io b3 p0 x1 v5 v7 b2 b1 v1 v2)) (Z := [row v7 37 Pi v9, row v5 34 LN v8]) (β := Value × Value) (rv := fun x => .agg #[.int .i64 x6.un.1, .int .i64 x6.un.2.1.un.1, .int .i64 x6.un.2.1.un.2.1, .int .i64 x6.un.2.1.un.2.2.1, x.1, .int .i64 x6.un.2.2.1, .int .i64 x6.un.2.2.2.1, x.2]) (MM := fun x => []) (ZZ := fun x => [row x.1 34 A9 x6.un.2.1.un.2.2.2, row x.2 37 B3 x6.un.2.2.2.2]) W F Ta Aa Aa (fun hL => ih _ w ((v10.2.1.2.2.2.1)) ((v10.2.2.2.2.1)) (Tr28.of (x5.un.1, Tr25.of (x5.un.2.1.un.1, x5.un.2.1.un.2.1, x5.un.2.1.un.2.2.1, x5.un.2.1.un.2.2.2), x5.un.2.2.1, x5.un.2.2.2.1, x5.un.2.2.2.2)) _ h10 ((E8 (AG h_v2) h7 (Bp.snd (Bp.fst (Bp.snd (Bp.snd (Bp.snd Bp.here))))) (congrArg (fun q : Tr28 => q.un.2.1.un.2.2.2) h8)) w F).nx ((E8 (AG h_v2) h7 (Bp.snd (Bp.snd (Bp.snd (Bp.snd Bp.here)))) (congrArg (fun q : Tr28 => q.un.2.2.2.2) h8)) w F).nx) fun x a w W F => ?_
   obtain ⟨v11, v12⟩ := x
   have F : Stw ⟨Y, [], w0⟩ (Io b3 p0 x1 v5 v7 b2 b1 v1 v2) [row v11 34 A9 x6.un.2.1.un.2.2.2, row v12 37 B3 x6.un.2.2.2.2, row v7 37 Pi v9, row v5 34 LN v8] w := F
   refine B8 (N2 := []) (NZ2 := []) (N3 := [(some 9, b3, [.int .i64 p0.un.1, .int .i64 x1.un.1, .int .i64 x1.un.2.1, .int .i64 x1.un.2.2.1, v5, .int .i64 p0.un.2.2.1, .int .i64 p0.un.2.2.2.1, v7]), (some 7, b1, [.int .i64 p0.un.1, .int .i64 p0.un.2.1.un.1, .int .i64 p0.un.2.1.un.2.1, .int .i64 p0.un.2.1.un.2.2.1, v1, .int .i64 p0.un.2.2.1, .int .i64 p0.un.2.2.2.1, v2])]) (NZ3 := []) F Aa Aa (AC (fun _ => (.head _)) (AC (fun h => A2 (by kernel_rfl) h) AF)) AF ?_
   refine Fg Aa ?_
   have F := F.freeze
   have F := F.frontZ (i := 1) Aa Aa
   have F := F.freeze
   refine Dj (z := Value.agg #[.int .i64 0, .int .i64 0, .int .i64 0, .int .i64 0, .slice none 0 0, .int .i64 0, .int .i64 0, .slice none 0 0]) (cs := (Of x6 v11 v12)) B3 ([Tr37.of (x6.un.1, Tr34.of (x6.un.2.1.un.1, x6.un.2.1.un.2.1, x6.un.2.1.un.2.2.1, x6.un.2.1.un.2.2.2), x6.un.2.2.1, x6.un.2.2.2.1, x6.un.2.2.2.2)] : List Tr37) W F Aa P9 LH Aa Aa Aa (AK Aa Aa Aa Br) Aa Aa ⟨[Value.int .i64 x6.un.1, Value.int .i64 x6.un.2.1.un.1, Value.int .i64 x6.un.2.1.un.2.1, Value.int .i64 x6.un.2.1.un.2.2.1, v11, Value.int .i64 x6.un.2.2.1, Value.int .i64 x6.un.2.2.2.1, v12], _, Aa, (Om.2 ⟨[Value.int .i64 x6.un.1], [Value.int .i64 x6.un.2.1.un.1, Value.int .i64 x6.un.2.1.un.2.1, Value.int .i64 x6.un.2.1.un.2.2.1, v11, Value.int .i64 x6.un.2.2.1, Value.int .i64 x6.un.2.2.2.1, v12], Aa, Aa, ⟨[Value.int .i64 x6.un.2.1.un.1, Value.int .i64 x6.un.2.1.un.2.1, Value.int .i64 x6.un.2.1.un.2.2.1, v11], [Value.int .i64 x6.un.2.2.1, Value.int .i64 x6.un.2.2.2.1, v12], Aa, (J1.2 ⟨[Value.int .i64 x6.un.2.1.un.1], [Value.int .i64 x6.un.2.1.un.2.1, Value.int .i64 x6.un.2.1.un.2.2.1, v11], Aa, Aa, ⟨[Value.int .i64 x6.un.2.1.un.2.1], [Value.int .i64 x6.un.2.1.un.2.2.1, v11], Aa, Aa, ⟨[Value.int .i64 x6.un.2.1.un.2.2.1], [v11], Aa, Aa, ⟨_, Aa, (F.item (i := 1) Aa)⟩⟩⟩⟩), ⟨[Value.int .i64 x6.un.2.2.1], [Value.int .i64 x6.un.2.2.2.1, v12], Aa, Aa, ⟨[Value.int .i64 x6.un.2.2.2.1], [v12], Aa, Aa, ⟨_, Aa, (F.item (i := 0) Aa)⟩⟩⟩⟩⟩), Aa⟩ fun v13 a w W F => ?_
   refine B8 (N2 := []) (NZ2 := []) (N3 := [(some 9, b3, [.int .i64 p0.un.1, .int .i64 x1.un.1, .int .i64 x1.un.2.1, .int .i64 x1.un.2.2.1, v5, .int .i64 p0.un.2.2.1, .int .i64 p0.un.2.2.2.1, v7]), (some 7, b1, [.int .i64 p0.un.1, .int .i64 p0.un.2.1.un.1, .int .i64 p0.un.2.1.un.2.1, .int .i64 p0.un.2.1.un.2.2.1, v1, .int .i64 p0.un.2.2.1, .int .i64 p0.un.2.2.2.1, v2])]) (NZ3 := []) F Aa Aa (AC (fun _ => (.head _)) (AC (fun h => A2 (by kernel_rfl) h) AF)) AF ?_
   refine Fg Aa ?_
   have F := F.frontZ (i := 3) Aa Aa
   have F := F.hideR Oo h5
   obtain ⟨x7, h11, H⟩ := An H
   refine CU (r := B3) (i := 0) W F Aa P9 Aa Aa Aa Aa (DD F 1 Aa) h11 Aa fun v14 a w W F => ?_
   have F : Stw ⟨Y, [], w0⟩ (Io b3 p0 x1 v5 v7 b2 b1 v1 v2) [row v14 37 B3 x7, row v13 37 B3 ([Tr37.of (x6.un.1, Tr34.of (x6.un.2.1.un.1, x6.un.2.1.un.2.1, x6.un.2.1.un.2.2.1, x6.un.2.1.un.2.2.2), x6.un.2.2.1, x6.un.2.2.2.1, x6.un.2.2.2.2)] : List Tr37), Av v12 B3 x6.un.2.2.2.2, Av v11 A9 x6.un.2.1.un.2.2.2, row v5 34 LN v8] w := F
   refine B8 (N2 := []) (NZ2 := []) (N3 := [(some 9, b3, [.int .i64 p0.un.1, .int .i64 x1.un.1, .int .i64 x1.un.2.1, .int .i64 x1.un.2.2.1, v5, .int .i64 p0.un.2.2.1, .int .i64 p0.un.2.2.2.1, v7]), (some 7, b1, [.int .i64 p0.un.1, .int .i64 p0.un.2.1.un.1, .int .i64 p0.un.2.1.un.2.1, .int .i64 p0.un.2.1.un.2.2.1, v1, .int .i64 p0.un.2.2.1, .int .i64 p0.un.2.2.2.1, v2])]) (NZ3 := []) F Aa Aa (AC (fun h => A2 (by kernel_rfl) h) (AC (fun h => A2 (by kernel_rfl) h) AF)) AF ?_
   refine Cs (R := []) W Aa Aa (yC fun M Z hN hZ => Ao H5 Aa Aa Aa NY W Aa 7 Aa) Aa Aa fun a W => ?_
   refine Fg Aa ?_
   refine LD (M' := (Io b3 p0 x1 v5 v14 b2 b1 v1 v2)) 0 W F Aa Aa Aa NY (F.one (k := 0) Aa) Aa Aa fun w F => ?_
   refine B8 (N2 := []) (NZ2 := []) (N3 := [(some 9, b3, [.int .i64 p0.un.1, .int .i64 x1.un.1, .int .i64 x1.un.2.1, .int .i64 x1.un.2.2.1, v5, .int .i64 p0.un.2.2.1, .int .i64 p0.un.2.2.2.1, v7]), (some 7, b1, [.int .i64 p0.un.1, .int .i64 p0.un.2.1.un.1, .int .i64 p0.un.2.1.un.2.1, .int .i64 p0.un.2.1.un.2.2.1, v1, .int .i64 p0.un.2.2.1, .int .i64 p0.un.2.2.2.1, v2])]) (NZ3 := []) F Aa Aa (AC (fun h => A2 (by kernel_rfl) h) (AC (fun h => A2 (by kernel_rfl) h) AF)) AF ?_
   refine Gi (Bw (Ad (Ab ?_)))
   refine ls W F Aa (Ah W Aa).q fun a w W F => ?_
   refine ls W F Aa (BT W Aa Aa Aa).q fun a w W F => ?_
   refine ls W F Aa (Ag W Aa).q fun a w W F => ?_
   refine Ae (Ad ?_)
   have F := F.frontZ (i := 4) Aa Aa
   have F := F.hideR J7 h4
   have F := F.frontZ (i := 1) Aa Aa
   have F := F.frontZ (i := 1) Aa Aa
   have F := F.frontM (i := 2) Aa Aa
   have F := F.frontM (i := 2) Aa Aa
   have F := F.frontM (i := 2) Aa Aa
   have F := F.sub (M' := (Io b3 p0 x1 v5 v14 b2 b1 v1 v2)) (Z' := [row v5 34 A9 x1.un.2.2.2, row v14 37 B3 x7]) (List.Sublist.refl _) (List.Sublist.cons_cons _ (List.Sublist.cons_cons _ (List.nil_sublist _)))
   exact ⟨_, H, (v14), W.re ⟨rfl, Aa, Aa, Aa, trivial⟩, F⟩
  have H := AR (Bz hb) H
  rw [hb] at W
  clear hb
  refine Cl ?_
  iterate 2 refine CO ?_
  refine Ck (Ad ?_)
  have F := F.frontZ (i := 1) Aa Aa
  have F := F.frontZ (i := 1) Aa Aa
  have F := F.frontM (i := 2) Aa Aa
  have F := F.frontM (i := 2) Aa Aa
  have F := F.frontM (i := 2) Aa Aa
  have H := L2 _ H
  exact ⟨_, (v7), H, W.re ⟨rfl, Aa, trivial⟩, F⟩
 rintro a w ⟨x2, v6, hj, W, F⟩
 have hj := AH hj
 subst hj
 have H := K1
 clear G1 K1
 refine Ai (Ab ?_)
 refine ls W F Aa (AJ (v := Value.agg #[.int .i64 p0.un.1, .int .i64 x1.un.1, .int .i64 x1.un.2.1, .int .i64 x1.un.2.2.1, v5, .int .i64 p0.un.2.2.1, .int .i64 p0.un.2.2.2.1, v6]) 0 W Aa Aa EU Aa).q fun a w W F => ?_
 refine Au (vs := (Oq p0 x1 v5 v6)) (M' := [(b3, [.int .i64 p0.un.1, .int .i64 x1.un.1, .int .i64 x1.un.2.1, .int .i64 x1.un.2.2.1, v5, .int .i64 p0.un.2.2.1, .int .i64 p0.un.2.2.2.1, v6]), (b2, [.int .i64 p0.un.1, .int .i64 x1.un.1, .int .i64 x1.un.2.1, .int .i64 x1.un.2.2.1, v5, .int .i64 p0.un.2.2.1, .int .i64 p0.un.2.2.2.1, v6]), (b1, [.int .i64 p0.un.1, .int .i64 p0.un.2.1.un.1, .int .i64 p0.un.2.1.un.2.1, .int .i64 p0.un.2.1.un.2.2.1, v1, .int .i64 p0.un.2.2.1, .int .i64 p0.un.2.2.2.1, v2])]) 1 W F Aa Aa Aa EU Aa Aa Aa (Ac Aa (Ac Aa (Ac Aa (Ac Aa (Ac (F.one (k := 0) Aa) (Ac Aa (Ac Aa (Ac (F.one (k := 1) Aa) AM)))))))) Aa fun w F => ?_
 refine Ae (Ad (Aq ?_))
 have H := AH H
 subst H
 refine AP (.inl Aa) W F Aa (AB 1 W Aa Aa EU Aa) ?_
 have F := F.frontZ (i := 1) Aa Aa
 have F := F.frontZ (i := 1) Aa Aa
 have F := F.sub (M' := []) (Z' := [row v5 34 A9 x1.un.2.2.2, row v6 37 B3 x2]) (List.nil_sublist _) (List.Sublist.refl _)
 exact ⟨((v5), (v6)), Aa, F⟩
theorem LT : ∀ (n : Nat) (Y : Nat → Prop) (w0 : World) (v1 : Value) (v2 : Value) (p0 : Tr28) (r : Tr37) (H : CL n p0 = some r) (h_v1 : Sl w0 (NX []) AY v1 p0.un.2.1.un.2.2.2) (h_v2 : Sl w0 (NX []) BJ v2 p0.un.2.2.2.2), Calls Tryd.prog 10 #[.agg #[.int .i64 p0.un.1, .int .i64 p0.un.2.1.un.1, .int .i64 p0.un.2.1.un.2.1, .int .i64 p0.un.2.1.un.2.2.1, v1, .int .i64 p0.un.2.2.1, .int .i64 p0.un.2.2.2.1, v2]] w0 fun e w' => ∃ x : Value × Value, e = .returned (.agg #[.int .i64 r.un.1, .int .i64 r.un.2.1.un.1, .int .i64 r.un.2.1.un.2.1, .int .i64 r.un.2.1.un.2.2.1, x.1, .int .i64 r.un.2.2.1, .int .i64 r.un.2.2.2.1, x.2]) ∧ Stw ⟨Y, [], w0⟩ [] [row (x.1) 34 A9 r.un.2.1.un.2.2.2, row (x.2) 37 B3 r.un.2.2.2.2] w' := by
  intro n
  induction n with
  | zero => intro Y w0 v1 v2 p0 r H; exact nomatch H
  | succ n ih => intro Y w0 v1 v2 p0 r H h_v1 h_v2; exact Lk (CL n) ih Y w0 v1 v2 p0 r H h_v1 h_v2
theorem M0 (Y : Nat → Prop) (w0 : World) (v1 : Value) (v2 : Value) (p0 : Tr28) (r : Tr37) (H : Ju p0 = some r) (h_v1 : Sl w0 (NX []) AY v1 p0.un.2.1.un.2.2.2) (h_v2 : Sl w0 (NX []) BJ v2 p0.un.2.2.2.2) :
    Calls Tryd.prog 10 #[.agg #[.int .i64 p0.un.1, .int .i64 p0.un.2.1.un.1, .int .i64 p0.un.2.1.un.2.1, .int .i64 p0.un.2.1.un.2.2.1, v1, .int .i64 p0.un.2.2.1, .int .i64 p0.un.2.2.2.1, v2]] w0 fun e w' => ∃ x : Value × Value, e = .returned (.agg #[.int .i64 r.un.1, .int .i64 r.un.2.1.un.1, .int .i64 r.un.2.1.un.2.1, .int .i64 r.un.2.1.un.2.2.1, x.1, .int .i64 r.un.2.2.1, .int .i64 r.un.2.2.2.1, x.2]) ∧ Stw ⟨Y, [], w0⟩ [] [row (x.1) 34 A9 r.un.2.1.un.2.2.2, row (x.2) 37 B3 r.un.2.2.2.2] w' := by
  obtain ⟨n, H⟩ := Ch H
  exact LT n Y w0 v1 v2 p0 r H h_v1 h_v2
end Go.Proofs.YtlgjpoapclifbaaDoor
