/- The functions of layer 40, FH. Conditions: none. -/
import Derived.Test.YthmkgdnnocemmaaDoorcA0
namespace Go.Proofs.YthmkgdnnocemmaaDoor
open Go Go.RowKit
set_option linter.unusedVariables false
set_option linter.unusedSimpArgs false
set_option maxRecDepth 20000
theorem N1 : Has Tryd.prog 15 := ⟨fun args w => Am Tryd.func15 rfl (by decide) args w⟩
abbrev KK (a0 : Nat) (a1 : Int × Int) (a2 : Nat) (a3 : (Int × (List (Int × Int × Int × Int × Int × Int)) × (List (Int × Int))) × List (List Int) × List Int × Int × Int × Int × Int × Int × Int) (a4 : Value) (a5 : Value) (a6 : Value) (a7 : Value) : List (Nat × List Value) := [(a0, [.int .i64 a1.1, .int .i64 a1.2]), (a2, [.int .i64 a3.1.1, a4, a5, a6, a7, .int .i64 a3.2.2.2.1, .int .i64 a3.2.2.2.2.1, .int .i64 a3.2.2.2.2.2.1, .int .i64 a3.2.2.2.2.2.2.1, .int .i64 a3.2.2.2.2.2.2.2.1, .int .i64 a3.2.2.2.2.2.2.2.2])]
noncomputable def CF (p0 : (Int × (List (Int × Int × Int × Int × Int × Int)) × (List (Int × Int))) × List (List Int) × List Int × Int × Int × Int × Int × Int × Int) : (Int × List UInt8) → Option ((Int × List UInt8) ⊕ (List UInt8))
  | (x4, x5) => (if x4 < (p0.1.2.1.length : Int) then (ix p0.1.2.1 x4).bind fun x6 => (AV ([108, 105, 110, 107] : List UInt8) ([x6.1, x6.2.1, x6.2.2.1, x6.2.2.2.1, x6.2.2.2.2.1, x6.2.2.2.2.2] : List Int)).bind fun x7 => (DB x5 x7).bind fun x8 => some (.inl (CL (x4 + 1), x8)) else some (.inr x5))
noncomputable def CE (p0 : (Int × (List (Int × Int × Int × Int × Int × Int)) × (List (Int × Int))) × List (List Int) × List Int × Int × Int × Int × Int × Int × Int) : (Int × List UInt8) → Option ((Int × List UInt8) ⊕ (List UInt8))
  | (x10, x11) => (if x10 < (p0.1.2.2.length : Int) then (ix p0.1.2.2 x10).bind fun x12 => (AV ([104, 111, 115, 116] : List UInt8) ([x12.1, x12.2] : List Int)).bind fun x13 => (DB x11 x13).bind fun x14 => some (.inl (CL (x10 + 1), x14)) else some (.inr x11))
noncomputable def Cn (x19 : List Int) : (Int × List UInt8) → Option ((Int × List UInt8) ⊕ (List UInt8))
  | (x22, x23) => (if x22 < (x19.length : Int) then (ix x19 x22).bind fun x24 => (Du x24).bind fun x25 => (DB ([32] : List UInt8) x25).bind fun x26 => (DB x23 x26).bind fun x27 => some (.inl (CL (x22 + 1), x27)) else some (.inr x23))
noncomputable def CB (p0 : (Int × (List (Int × Int × Int × Int × Int × Int)) × (List (Int × Int))) × List (List Int) × List Int × Int × Int × Int × Int × Int × Int) : (Int × List UInt8) → Option ((Int × List UInt8) ⊕ (List UInt8))
  | (x16, x17) => (if x16 < (p0.2.1.length : Int) then ((ix p0.2.1 x16).bind fun x19 => (DB x17 ([119, 101, 105, 103, 104, 116, 115] : List UInt8)).bind fun x20 => (BB (Cn x19) (0, x20)).bind fun x21 => (DB x21 ([10] : List UInt8)).bind fun x28 => some x28).bind fun x18 => some (.inl (CL (x16 + 1), x18)) else some (.inr x17))
noncomputable def Dk (p0 : (Int × (List (Int × Int × Int × Int × Int × Int)) × (List (Int × Int))) × List (List Int) × List Int × Int × Int × Int × Int × Int × Int) : Option (List UInt8) := (AV ([115, 119, 105, 116, 99, 104, 101, 115] : List UInt8) ([p0.1.1] : List Int)).bind fun x1 => (DB ([] : List UInt8) x1).bind fun x2 => (BB (CF p0) (0, x2)).bind fun x3 => (BB (CE p0) (0, x3)).bind fun x9 => (BB (CB p0) (0, x9)).bind fun x15 => (AV ([115, 116, 97, 114, 116, 115] : List UInt8) p0.2.2.1).bind fun x29 => (DB x15 x29).bind fun x30 => (AV ([114, 97, 116, 101] : List UInt8) ([p0.2.2.2.1] : List Int)).bind fun x31 => (DB x30 x31).bind fun x32 => (AV ([114, 111, 111, 109] : List UInt8) ([p0.2.2.2.2.1] : List Int)).bind fun x33 => (DB x32 x33).bind fun x34 => (AV ([119, 105, 100, 101] : List UInt8) ([p0.2.2.2.2.2.1] : List Int)).bind fun x35 => (DB x34 x35).bind fun x36 => (AV ([108, 101, 97, 100] : List UInt8) ([p0.2.2.2.2.2.2.1] : List Int)).bind fun x37 => (DB x36 x37).bind fun x38 => (AV ([109, 97, 114, 103, 105, 110] : List UInt8) ([p0.2.2.2.2.2.2.2.1] : List Int)).bind fun x39 => (DB x38 x39).bind fun x40 => (AV ([114, 101, 116, 114, 121] : List UInt8) ([p0.2.2.2.2.2.2.2.2] : List Int)).bind fun x41 => (DB x40 x41).bind fun x42 => (Ip x42).bind fun x43 => some x43
theorem F6 (Y : Nat → Prop) (w0 : World) (v1 : Value) (v2 : Value) (v3 : Value) (v4 : Value) (p0 : (Int × (List (Int × Int × Int × Int × Int × Int)) × (List (Int × Int))) × List (List Int) × List Int × Int × Int × Int × Int × Int × Int) (r : List UInt8) (H : Dk p0 = some r) (h_v1 : Sl w0 (NX []) Bu v1 p0.1.2.1) (h_v2 : Sl w0 (NX []) BC v2 p0.1.2.2) (h_v3 : Sl w0 (NX []) (Rp.slice (Rp.int .u64)) v3 p0.2.1) (h_v4 : Sl w0 (NX []) (Rp.int .i64) v4 p0.2.2.1) (hG : Gk [] w0) :
    Calls Tryd.prog 8 #[.agg #[.int .i64 p0.1.1, v1, v2, v3, v4, .int .i64 p0.2.2.2.1, .int .i64 p0.2.2.2.2.1, .int .i64 p0.2.2.2.2.2.1, .int .i64 p0.2.2.2.2.2.2.1, .int .i64 p0.2.2.2.2.2.2.2.1, .int .i64 p0.2.2.2.2.2.2.2.2]] w0 fun e w' => e = .returned (.string (bs r)) ∧ Below w0.heap.size w0 w' := by
 refine enter Tryd.func8 Aa Tryd.ntmps8 Aa fun a F => ?_
 have W := Stw.start Y w0
 obtain ⟨v5, h1, h_v3⟩ := h_v3.ex HC
 unfold Dk at H
 refine Aj (Ac ?_)
 refine JB (cs := (KP p0 v1 v2 v3 v4)) F W Aa Aa Aa fun b1 a w F W => ?_
 refine ls F W Aa (Ag (v := Value.string (bs ([] : List UInt8))) F Aa).q fun a w F W => ?_
 refine Af (Ad (Aj (Ac ?_)))
 refine IZ F W Aa fun b2 a w F W => ?_
 have W : Stw ⟨Y, [], w0⟩ (C3 b1 p0 v1 v2 v3 v4) [Bv 49 5 b2 (Value.slice none 0 0) ([] : List UInt8)] w := W
 refine Af (Ad (Aj (Ac ?_)))
 refine ls F W Aa (Ak CH Aa Aa Aa JC F Aa 0 Aa).q fun a w F W => ?_
 refine ls F W Aa (Ak F1 Aa Aa Aa T3 F Aa 0 Aa).q fun a w F W => ?_
 refine ls F W Aa (AW (v := Value.int .i64 p0.1.1) 0 F Aa Aa T3 Aa).q fun a w F W => ?_
 refine D6 (z := Value.int .i64 0) (cs := [.int .i64 p0.1.1]) (Rp.int .i64) ([p0.1.1] : List Int) F W Aa GZ Z3 Aa Aa Aa Aa Aa Aa (Fl.int.repL _ _ ([p0.1.1] : List Int)) fun v6 a w F W => ?_
 obtain ⟨x1, h2, H⟩ := An H
 refine ls F W Aa (Ba (v := Value.string (bs x1)) F Lp Aa (fun w W => Co any w (v6) ([115, 119, 105, 116, 99, 104, 101, 115] : List UInt8) ([p0.1.1] : List Int) _ h2 (((AO 0 Aa) : D9 _ _ _ _ _ _) w W).nx (hG.go0 W))) fun a w F W => ?_
 have W := W.frontZ (i := 1) Aa Aa
 obtain ⟨x2, h3, H⟩ := An H
 refine AE (Ml := []) (Zl := [Bv 49 5 b2 (Value.slice none 0 0) ([] : List UInt8)]) (M := (C3 b1 p0 v1 v2 v3 v4)) (Z := [row v6 3 (Rp.int .i64) ([p0.1.1] : List Int)]) (β := Value) (rv := fun x => .tuple #[.int .i64 (x1.length : Int), .nilIface]) (MM := fun x => []) (ZZ := fun x => [Bv 49 5 b2 x x2]) F W Ji Aa Aa (fun hL => FQ _ _ w b2 (Value.slice none 0 0) ([] : List UInt8) x1 _ h3 hL) fun v7 a w F W => ?_
 have W : Stw ⟨Y, [], w0⟩ (C3 b1 p0 v1 v2 v3 v4) [Bv 49 5 b2 v7 x2, row v6 3 (Rp.int .i64) ([p0.1.1] : List Int)] w := W
 refine Af (Ad ?_)
 obtain ⟨o1, G1, K1⟩ := An H
 refine AX (fun a w => ∃ x3 : List UInt8, ∃ v8 : Value, some (x3) = some o1 ∧ Fr 114 [] [(1, .pointer (some ⟨b1, 0, none⟩)), (2, .string (bs ([] : List UInt8))), (3, .pointer (some ⟨b2, 0, none⟩))] a ∧ Stw ⟨Y, [], w0⟩ (C3 b1 p0 v1 v2 v3 v4) [Bv 49 5 b2 v8 x3] w) ?_ ?_
 ·
  have H := G1
  clear G1 K1
  refine Aj (Ac ?_)
  refine ls F W Aa (Ak CH Aa Aa Aa JC F Aa 0 Aa).q fun a w F W => ?_
  refine ls F W Aa (Ak F1 Aa Aa Aa Ls F Aa 1 Aa).q fun a w F W => ?_
  refine ls F W Aa (AW (v := v1) 0 F Aa Aa Ls Aa).q fun a w F W => ?_
  refine ls F W Aa (Dg (r := Bu) (l := p0.1.2.1) Lh Aa F Aa (AK h_v1)).q fun a w F W => ?_
  refine ls F W Aa (Ae F Aa).q fun a w F W => ?_
  refine Af (Ad (AF ?_))
  have W := W.sub (M' := (C3 b1 p0 v1 v2 v3 v4)) (Z' := [Bv 49 5 b2 v7 x2]) (List.Sublist.refl _) (List.Sublist.cons_cons _ (List.nil_sublist _))
  refine CA H (fun s a w => ∃ v9 : Value, Fr 114 [] [(1, .pointer (some ⟨b1, 0, none⟩)), (2, .string (bs ([] : List UInt8))), (3, .pointer (some ⟨b2, 0, none⟩)), (20, v1), (21, .int .i64 (p0.1.2.1.length : Int)), (22, .int .i64 s.1)] a ∧ Stw ⟨Y, [], w0⟩ (C3 b1 p0 v1 v2 v3 v4) [Bv 49 5 b2 v9 s.2] w) ⟨v7, F.re ⟨rfl, Aa, Aa, Aa, Aa, Aa, trivial⟩, W⟩ fun s o a w H L2 hR => ?_
  obtain ⟨x4, x5⟩ := s
  obtain ⟨v9, F, W⟩ := hR
  have F : Fr 114 [] [(1, .pointer (some ⟨b1, 0, none⟩)), (2, .string (bs ([] : List UInt8))), (3, .pointer (some ⟨b2, 0, none⟩)), (20, v1), (21, .int .i64 (p0.1.2.1.length : Int)), (22, .int .i64 x4)] a := F
  have W : Stw ⟨Y, [], w0⟩ (C3 b1 p0 v1 v2 v3 v4) [Bv 49 5 b2 v9 x5] w := W
  rw [CF] at H
  refine Aj (Ac ?_)
  refine ls F W Aa (DM F Aa Aa).q fun a w F W => ?_
  refine Af (Ad (Aj ?_))
  refine AA F Aa (fun hb => ?_) fun hb => ?_
  ·
   have H := AZ (BQ hb) H
   rw [hb] at F
   clear hb
   refine Ax (Ad (Aj (AF (Aj (Ac ?_)))))
   obtain ⟨x6, h4, H⟩ := An H
   refine ls F W Aa (Cv (r := Bu) MW F Aa Aa (AK h_v1) h4).q fun a w F W => ?_
   refine ls F W Aa (A3 (y := Value.agg #[.int .i64 x6.1, .int .i64 x6.2.1, .int .i64 x6.2.2.1, .int .i64 x6.2.2.2.1, .int .i64 x6.2.2.2.2.1, .int .i64 x6.2.2.2.2.2]) (j := 0) (i := x4) F Aa Aa (AK h_v1) h4 Nl.to Nj Aa).q fun a w F W => ?_
   refine Ep (cs := (Nw)) F W Aa Ob Aa fun b3 a w F W => ?_
   refine Ch (vs := (M8 x6)) (M' := (ML b3 x6 b1 p0 v1 v2 v3 v4)) 0 F W Aa Aa Aa Nj Aa Aa Aa Aa Aa fun w W => ?_
   refine Af (Ad (Ac ?_))
   refine ls F W Aa (Ak IV Aa Aa Aa T3 F Aa 0 Aa).q fun a w F W => ?_
   refine ls F W Aa (AW (v := Value.int .i64 x6.1) 0 F Aa Aa T3 Aa).q fun a w F W => ?_
   refine ls F W Aa (Ak IV Aa Aa Aa T3 F Aa 1 Aa).q fun a w F W => ?_
   refine ls F W Aa (AW (v := Value.int .i64 x6.2.1) 0 F Aa Aa T3 Aa).q fun a w F W => ?_
   refine ls F W Aa (Ak IV Aa Aa Aa T3 F Aa 2 Aa).q fun a w F W => ?_
   refine ls F W Aa (AW (v := Value.int .i64 x6.2.2.1) 0 F Aa Aa T3 Aa).q fun a w F W => ?_
   refine ls F W Aa (Ak IV Aa Aa Aa T3 F Aa 3 Aa).q fun a w F W => ?_
   refine ls F W Aa (AW (v := Value.int .i64 x6.2.2.2.1) 0 F Aa Aa T3 Aa).q fun a w F W => ?_
   refine ls F W Aa (Ak IV Aa Aa Aa T3 F Aa 4 Aa).q fun a w F W => ?_
   refine ls F W Aa (AW (v := Value.int .i64 x6.2.2.2.2.1) 0 F Aa Aa T3 Aa).q fun a w F W => ?_
   refine ls F W Aa (Ak IV Aa Aa Aa T3 F Aa 5 Aa).q fun a w F W => ?_
   refine ls F W Aa (AW (v := Value.int .i64 x6.2.2.2.2.2) 0 F Aa Aa T3 Aa).q fun a w F W => ?_
   refine D6 (z := Value.int .i64 0) (cs := (M8 x6)) (Rp.int .i64) ([x6.1, x6.2.1, x6.2.2.1, x6.2.2.2.1, x6.2.2.2.2.1, x6.2.2.2.2.2] : List Int) F W Aa GZ Z3 Aa Aa Aa Aa Aa Aa (Fl.int.repL _ _ ([x6.1, x6.2.1, x6.2.2.1, x6.2.2.2.1, x6.2.2.2.2.1, x6.2.2.2.2.2] : List Int)) fun v10 a w F W => ?_
   obtain ⟨x7, h5, H⟩ := An H
   refine ls F W Aa (Ba (v := Value.string (bs x7)) F Lp Aa (fun w W => Co any w (v10) ([108, 105, 110, 107] : List UInt8) ([x6.1, x6.2.1, x6.2.2.1, x6.2.2.2.1, x6.2.2.2.2.1, x6.2.2.2.2.2] : List Int) _ h5 (((AO 0 Aa) : D9 _ _ _ _ _ _) w W).nx (hG.go0 W))) fun a w F W => ?_
   have W := W.frontZ (i := 1) Aa Aa
   obtain ⟨x8, h6, H⟩ := An H
   refine AE (Ml := []) (Zl := [Bv 49 5 b2 v9 x5]) (M := (ML b3 x6 b1 p0 v1 v2 v3 v4)) (Z := [row v10 3 (Rp.int .i64) ([x6.1, x6.2.1, x6.2.2.1, x6.2.2.2.1, x6.2.2.2.2.1, x6.2.2.2.2.2] : List Int)]) (β := Value) (rv := fun x => .tuple #[.int .i64 (x7.length : Int), .nilIface]) (MM := fun x => []) (ZZ := fun x => [Bv 49 5 b2 x x8]) F W Ji Aa Aa (fun hL => FQ _ _ w b2 v9 x5 x7 _ h6 hL) fun v11 a w F W => ?_
   have W : Stw ⟨Y, [], w0⟩ (ML b3 x6 b1 p0 v1 v2 v3 v4) [Bv 49 5 b2 v11 x8, row v10 3 (Rp.int .i64) ([x6.1, x6.2.1, x6.2.2.1, x6.2.2.2.1, x6.2.2.2.2.1, x6.2.2.2.2.2] : List Int)] w := W
   refine Af (Bk (Ad (Ac ?_)))
   refine ls F W Aa (DJ F Aa Aa Aa).q fun a w F W => ?_
   refine ls F W Aa (Ae F Aa).q fun a w F W => ?_
   refine Af (Ad ?_)
   have W := W.frontM (i := 1) Aa Aa
   have W := W.sub (M' := (C3 b1 p0 v1 v2 v3 v4)) (Z' := [Bv 49 5 b2 v11 x8]) (List.Sublist.cons_cons _ (List.nil_sublist _)) (List.Sublist.cons_cons _ (List.nil_sublist _))
   exact ⟨_, H, v11, F.re ⟨rfl, Aa, Aa, Aa, Aa, Aa, trivial⟩, W⟩
  have H := AY (BR hb) H
  rw [hb] at F
  clear hb
  refine Ci ?_
  iterate 2 refine CM ?_
  refine Cj (Ad ?_)
  have H := L2 _ H
  exact ⟨_, v9, H, F.re ⟨rfl, Aa, Aa, trivial⟩, W⟩
 rintro a w ⟨x3, v8, hj, F, W⟩
 have hj := A2 hj
 subst hj
 have H := K1
 clear G1 K1
 obtain ⟨o3, G3, K3⟩ := An H
 refine AX (fun a w => ∃ x9 : List UInt8, ∃ v12 : Value, some (x9) = some o3 ∧ Fr 114 [] [(1, .pointer (some ⟨b1, 0, none⟩)), (2, .string (bs ([] : List UInt8))), (3, .pointer (some ⟨b2, 0, none⟩))] a ∧ Stw ⟨Y, [], w0⟩ (C3 b1 p0 v1 v2 v3 v4) [Bv 49 5 b2 v12 x9] w) ?_ ?_
 ·
  have H := G3
  clear G3 K3
  refine Aj (Ac ?_)
  refine ls F W Aa (Ak CH Aa Aa Aa JC F Aa 0 Aa).q fun a w F W => ?_
  refine ls F W Aa (Ak F1 Aa Aa Aa Lt F Aa 2 Aa).q fun a w F W => ?_
  refine ls F W Aa (AW (v := v2) 0 F Aa Aa Lt Aa).q fun a w F W => ?_
  refine ls F W Aa (Dg (r := BC) (l := p0.1.2.2) Kr Aa F Aa (AK h_v2)).q fun a w F W => ?_
  refine ls F W Aa (Ae F Aa).q fun a w F W => ?_
  refine Af (Ad (AF ?_))
  refine CA H (fun s a w => ∃ v13 : Value, Fr 114 [] [(1, .pointer (some ⟨b1, 0, none⟩)), (2, .string (bs ([] : List UInt8))), (3, .pointer (some ⟨b2, 0, none⟩)), (44, v2), (45, .int .i64 (p0.1.2.2.length : Int)), (46, .int .i64 s.1)] a ∧ Stw ⟨Y, [], w0⟩ (C3 b1 p0 v1 v2 v3 v4) [Bv 49 5 b2 v13 s.2] w) ⟨v8, F.re ⟨rfl, Aa, Aa, Aa, Aa, Aa, trivial⟩, W⟩ fun s o a w H L4 hR => ?_
  obtain ⟨x10, x11⟩ := s
  obtain ⟨v13, F, W⟩ := hR
  have F : Fr 114 [] [(1, .pointer (some ⟨b1, 0, none⟩)), (2, .string (bs ([] : List UInt8))), (3, .pointer (some ⟨b2, 0, none⟩)), (44, v2), (45, .int .i64 (p0.1.2.2.length : Int)), (46, .int .i64 x10)] a := F
  have W : Stw ⟨Y, [], w0⟩ (C3 b1 p0 v1 v2 v3 v4) [Bv 49 5 b2 v13 x11] w := W
  rw [CE] at H
  refine Aj (Ac ?_)
  refine ls F W Aa (DM F Aa Aa).q fun a w F W => ?_
  refine Af (Ad (Aj ?_))
  refine AA F Aa (fun hb => ?_) fun hb => ?_
  ·
   have H := AZ (BQ hb) H
   rw [hb] at F
   clear hb
   refine Ax (Ad (Aj (AF (Aj (Ac ?_)))))
   obtain ⟨x12, h7, H⟩ := An H
   refine ls F W Aa (Cv (r := BC) MY F Aa Aa (AK h_v2) h7).q fun a w F W => ?_
   refine ls F W Aa (A3 (y := Value.agg #[.int .i64 x12.1, .int .i64 x12.2]) (j := 0) (i := x10) F Aa Aa (AK h_v2) h7 Ns.to Nr Aa).q fun a w F W => ?_
   refine Ep (cs := [.int .i64 0, .int .i64 0]) F W Aa N5 Aa fun b4 a w F W => ?_
   refine Ch (vs := [.int .i64 x12.1, .int .i64 x12.2]) (M' := (KK b4 x12 b1 p0 v1 v2 v3 v4)) 0 F W Aa Aa Aa Nr Aa Aa Aa Aa Aa fun w W => ?_
   refine Af (Ad (Ac ?_))
   refine ls F W Aa (Ak LE Aa Aa Aa T3 F Aa 0 Aa).q fun a w F W => ?_
   refine ls F W Aa (AW (v := Value.int .i64 x12.1) 0 F Aa Aa T3 Aa).q fun a w F W => ?_
   refine ls F W Aa (Ak LE Aa Aa Aa T3 F Aa 1 Aa).q fun a w F W => ?_
   refine ls F W Aa (AW (v := Value.int .i64 x12.2) 0 F Aa Aa T3 Aa).q fun a w F W => ?_
   refine D6 (z := Value.int .i64 0) (cs := [.int .i64 x12.1, .int .i64 x12.2]) (Rp.int .i64) ([x12.1, x12.2] : List Int) F W Aa GZ Z3 Aa Aa Aa Aa Aa Aa (Fl.int.repL _ _ ([x12.1, x12.2] : List Int)) fun v14 a w F W => ?_
   obtain ⟨x13, h8, H⟩ := An H
   refine ls F W Aa (Ba (v := Value.string (bs x13)) F Lp Aa (fun w W => Co any w (v14) ([104, 111, 115, 116] : List UInt8) ([x12.1, x12.2] : List Int) _ h8 (((AO 0 Aa) : D9 _ _ _ _ _ _) w W).nx (hG.go0 W))) fun a w F W => ?_
   have W := W.frontZ (i := 1) Aa Aa
   obtain ⟨x14, h9, H⟩ := An H
   refine AE (Ml := []) (Zl := [Bv 49 5 b2 v13 x11]) (M := (KK b4 x12 b1 p0 v1 v2 v3 v4)) (Z := [row v14 3 (Rp.int .i64) ([x12.1, x12.2] : List Int)]) (β := Value) (rv := fun x => .tuple #[.int .i64 (x13.length : Int), .nilIface]) (MM := fun x => []) (ZZ := fun x => [Bv 49 5 b2 x x14]) F W Ji Aa Aa (fun hL => FQ _ _ w b2 v13 x11 x13 _ h9 hL) fun v15 a w F W => ?_
   have W : Stw ⟨Y, [], w0⟩ (KK b4 x12 b1 p0 v1 v2 v3 v4) [Bv 49 5 b2 v15 x14, row v14 3 (Rp.int .i64) ([x12.1, x12.2] : List Int)] w := W
   refine Af (Bk (Ad (Ac ?_)))
   refine ls F W Aa (DJ F Aa Aa Aa).q fun a w F W => ?_
   refine ls F W Aa (Ae F Aa).q fun a w F W => ?_
   refine Af (Ad ?_)
   have W := W.frontM (i := 1) Aa Aa
   have W := W.sub (M' := (C3 b1 p0 v1 v2 v3 v4)) (Z' := [Bv 49 5 b2 v15 x14]) (List.Sublist.cons_cons _ (List.nil_sublist _)) (List.Sublist.cons_cons _ (List.nil_sublist _))
   exact ⟨_, H, v15, F.re ⟨rfl, Aa, Aa, Aa, Aa, Aa, trivial⟩, W⟩
  have H := AY (BR hb) H
  rw [hb] at F
  clear hb
  refine Ci ?_
  iterate 2 refine CM ?_
  refine Cj (Ad ?_)
  have H := L4 _ H
  exact ⟨_, v13, H, F.re ⟨rfl, Aa, Aa, trivial⟩, W⟩
 rintro a w ⟨x9, v12, hj, F, W⟩
 have hj := A2 hj
 subst hj
 have H := K3
 clear G3 K3
 obtain ⟨o5, G5, K5⟩ := An H
 refine AX (fun a w => ∃ x15 : List UInt8, ∃ v16 : Value, some (x15) = some o5 ∧ Fr 114 [] [(1, .pointer (some ⟨b1, 0, none⟩)), (2, .string (bs ([] : List UInt8))), (3, .pointer (some ⟨b2, 0, none⟩))] a ∧ Stw ⟨Y, [], w0⟩ (C3 b1 p0 v1 v2 v3 v4) [Bv 49 5 b2 v16 x15] w) ?_ ?_
 ·
  have H := G5
  clear G5 K5
  refine Aj (Ac ?_)
  refine ls F W Aa (Ak CH Aa Aa Aa Lq F Aa 3 Aa).q fun a w F W => ?_
  refine ls F W Aa (AW (v := v3) 0 F Aa Aa Lq Aa).q fun a w F W => ?_
  refine ls F W Aa (Dg (r := (Rp.slice (Rp.int .u64))) (l := p0.2.1) Ku Aa F Aa (E3 HC h1 (AK h_v3))).q fun a w F W => ?_
  refine ls F W Aa (Ae F Aa).q fun a w F W => ?_
  refine Af (Ad (AF ?_))
  refine CA H (fun s a w => ∃ v17 : Value, Fr 114 [] [(1, .pointer (some ⟨b1, 0, none⟩)), (2, .string (bs ([] : List UInt8))), (3, .pointer (some ⟨b2, 0, none⟩)), (59, v3), (60, .int .i64 (p0.2.1.length : Int)), (61, .int .i64 s.1)] a ∧ Stw ⟨Y, [], w0⟩ (C3 b1 p0 v1 v2 v3 v4) [Bv 49 5 b2 v17 s.2] w) ⟨v12, F.re ⟨rfl, Aa, Aa, Aa, Aa, Aa, trivial⟩, W⟩ fun s o a w H L6 hR => ?_
  obtain ⟨x16, x17⟩ := s
  obtain ⟨v17, F, W⟩ := hR
  have F : Fr 114 [] [(1, .pointer (some ⟨b1, 0, none⟩)), (2, .string (bs ([] : List UInt8))), (3, .pointer (some ⟨b2, 0, none⟩)), (59, v3), (60, .int .i64 (p0.2.1.length : Int)), (61, .int .i64 x16)] a := F
  have W : Stw ⟨Y, [], w0⟩ (C3 b1 p0 v1 v2 v3 v4) [Bv 49 5 b2 v17 x17] w := W
  rw [CB] at H
  refine Aj (Ac ?_)
  refine ls F W Aa (DM F Aa Aa).q fun a w F W => ?_
  refine Af (Ad (Aj ?_))
  refine AA F Aa (fun hb => ?_) fun hb => ?_
  ·
   have H := AZ (BQ hb) H
   rw [hb] at F
   clear hb
   refine Ax (Ad ?_)
   obtain ⟨o7, G7, K7⟩ := An H
   refine AX (fun a w => ∃ x18 : List UInt8, ∃ v18 : Value, some (x18) = some o7 ∧ Fr 114 [] [(1, .pointer (some ⟨b1, 0, none⟩)), (2, .string (bs ([] : List UInt8))), (3, .pointer (some ⟨b2, 0, none⟩)), (59, v3), (60, .int .i64 (p0.2.1.length : Int)), (61, .int .i64 x16)] a ∧ Stw ⟨Y, [], w0⟩ (C3 b1 p0 v1 v2 v3 v4) [Bv 49 5 b2 v18 x18] w) ?_ ?_
   ·
    have H := G7
    clear G7 K7
    refine AF (Aj (Ac ?_))
    obtain ⟨x19, h10, H⟩ := An H
    obtain ⟨v19, h11, h12⟩ := Lf h1 h10
    have h13 : Jv v19 = [(v19.1)] := congrArg (fun q : List Int => ([(v19.1)] : List Value)) h12
    refine ls F W Aa (Cv (r := (Rp.vsl (Rp.int .u64))) MU F Aa Aa (AK h_v3) h11).q fun a w F W => ?_
    refine ls F W Aa (A3 (y := (v19.1)) (j := 0) (i := x16) (enc := Jv) F Aa Aa (AK h_v3) h11 Mz NG (by rw [h13]; rfl)).q fun a w F W => ?_
    refine ls F W Aa (Ag F Aa).q fun a w F W => ?_
    refine Af (Ad (Aj (Ac ?_)))
    obtain ⟨x20, h14, H⟩ := An H
    refine AE (Ml := []) (Zl := [Bv 49 5 b2 v17 x17]) (M := (C3 b1 p0 v1 v2 v3 v4)) (Z := []) (β := Value) (rv := fun x => .tuple #[.int .i64 (([119, 101, 105, 103, 104, 116, 115] : List UInt8).length : Int), .nilIface]) (MM := fun x => []) (ZZ := fun x => [Bv 49 5 b2 x x20]) F W Ji Aa Aa (fun hL => FQ _ _ w b2 v17 x17 ([119, 101, 105, 103, 104, 116, 115] : List UInt8) _ h14 hL) fun v20 a w F W => ?_
    have W : Stw ⟨Y, [], w0⟩ (C3 b1 p0 v1 v2 v3 v4) [Bv 49 5 b2 v20 x20] w := W
    refine Af (Ad ?_)
    obtain ⟨o8, G8, K8⟩ := An H
    refine AX (fun a w => ∃ x21 : List UInt8, ∃ v21 : Value, some (x21) = some o8 ∧ Fr 114 [] [(1, .pointer (some ⟨b1, 0, none⟩)), (2, .string (bs ([] : List UInt8))), (3, .pointer (some ⟨b2, 0, none⟩)), (59, v3), (60, .int .i64 (p0.2.1.length : Int)), (61, .int .i64 x16)] a ∧ Stw ⟨Y, [], w0⟩ (C3 b1 p0 v1 v2 v3 v4) [Bv 49 5 b2 v21 x21] w) ?_ ?_
    ·
     have H := G8
     clear G8 K8
     refine Aj (Ac ?_)
     refine ls F W Aa (Ae F Aa).q fun a w F W => ?_
     refine ls F W Aa (Dg (r := (Rp.int .u64)) (l := x19) Lm Aa F Aa (Ht (AK h_v3) h11 HK.here (congrArg (fun q : List Int => q) h12))).q fun a w F W => ?_
     refine ls F W Aa (Ae F Aa).q fun a w F W => ?_
     refine Af (Ad (AF ?_))
     refine CA H (fun s a w => ∃ v22 : Value, Fr 114 [] [(1, .pointer (some ⟨b1, 0, none⟩)), (2, .string (bs ([] : List UInt8))), (3, .pointer (some ⟨b2, 0, none⟩)), (59, v3), (60, .int .i64 (p0.2.1.length : Int)), (61, .int .i64 x16), (66, (v19.1)), (67, .int .i64 (x19.length : Int)), (68, .int .i64 s.1)] a ∧ Stw ⟨Y, [], w0⟩ (C3 b1 p0 v1 v2 v3 v4) [Bv 49 5 b2 v22 s.2] w) ⟨v20, F.re ⟨rfl, Aa, Aa, Aa, Aa, Aa, Aa, Aa, Aa, trivial⟩, W⟩ fun s o a w H L9 hR => ?_
     obtain ⟨x22, x23⟩ := s
     obtain ⟨v22, F, W⟩ := hR
     have F : Fr 114 [] [(1, .pointer (some ⟨b1, 0, none⟩)), (2, .string (bs ([] : List UInt8))), (3, .pointer (some ⟨b2, 0, none⟩)), (59, v3), (60, .int .i64 (p0.2.1.length : Int)), (61, .int .i64 x16), (66, (v19.1)), (67, .int .i64 (x19.length : Int)), (68, .int .i64 x22)] a := F
     have W : Stw ⟨Y, [], w0⟩ (C3 b1 p0 v1 v2 v3 v4) [Bv 49 5 b2 v22 x23] w := W
     rw [Cn] at H
     refine Aj (Ac ?_)
     refine ls F W Aa (DM F Aa Aa).q fun a w F W => ?_
     refine Af (Ad (Aj ?_))
     refine AA F Aa (fun hb => ?_) fun hb => ?_
     ·
      have H := AZ (BQ hb) H
      rw [hb] at F
      clear hb
      refine Ax (Ad (Aj (AF (Aj (Ac ?_)))))
      obtain ⟨x24, h15, H⟩ := An H
      refine ls F W Aa (Cv (r := (Rp.int .u64)) MS F Aa Aa (Ht (AK h_v3) h11 HK.here (congrArg (fun q : List Int => q) h12)) h15).q fun a w F W => ?_
      refine ls F W Aa (A3 (y := Value.int .u64 x24) (j := 0) (i := x22) F Aa Aa (Ht (AK h_v3) h11 HK.here (congrArg (fun q : List Int => q) h12)) h15 Fl.int.to NK Aa).q fun a w F W => ?_
      refine ls F W Aa (Ag F Aa).q fun a w F W => ?_
      refine Af (Ad (Ac ?_))
      refine ls F W Aa (Ae F Aa).q fun a w F W => ?_
      obtain ⟨x25, h16, H⟩ := An H
      refine ls F W Aa (Ba (v := Value.string (bs x25)) F N1 Aa (fun w W => GJ any w x24 _ h16 (hG.go0 W))) fun a w F W => ?_
      obtain ⟨x26, h17, H⟩ := An H
      refine ls F W Aa (Jx (l := ([32] : List UInt8)) (m := x25) F Aa Aa h17).q fun a w F W => ?_
      obtain ⟨x27, h18, H⟩ := An H
      refine AE (Ml := []) (Zl := [Bv 49 5 b2 v22 x23]) (M := (C3 b1 p0 v1 v2 v3 v4)) (Z := []) (β := Value) (rv := fun x => .tuple #[.int .i64 (x26.length : Int), .nilIface]) (MM := fun x => []) (ZZ := fun x => [Bv 49 5 b2 x x27]) F W Ji Aa Aa (fun hL => FQ _ _ w b2 v22 x23 x26 _ h18 hL) fun v23 a w F W => ?_
      have W : Stw ⟨Y, [], w0⟩ (C3 b1 p0 v1 v2 v3 v4) [Bv 49 5 b2 v23 x27] w := W
      refine Af (Bk (Ad (Ac ?_)))
      refine ls F W Aa (DJ F Aa Aa Aa).q fun a w F W => ?_
      refine ls F W Aa (Ae F Aa).q fun a w F W => ?_
      refine Af (Ad ?_)
      exact ⟨_, H, v23, F.re ⟨rfl, Aa, Aa, Aa, Aa, Aa, Aa, Aa, Aa, trivial⟩, W⟩
     have H := AY (BR hb) H
     rw [hb] at F
     clear hb
     refine Ci ?_
     iterate 2 refine CM ?_
     refine Cj (Ad ?_)
     have H := L9 _ H
     exact ⟨_, v22, H, F.re ⟨rfl, Aa, Aa, Aa, Aa, Aa, trivial⟩, W⟩
    rintro a w ⟨x21, v21, hj, F, W⟩
    have hj := A2 hj
    subst hj
    have H := K8
    clear G8 K8
    refine Ac ?_
    obtain ⟨x28, h19, H⟩ := An H
    refine AE (Ml := []) (Zl := [Bv 49 5 b2 v21 x21]) (M := (C3 b1 p0 v1 v2 v3 v4)) (Z := []) (β := Value) (rv := fun x => .tuple #[.int .i64 (([10] : List UInt8).length : Int), .nilIface]) (MM := fun x => []) (ZZ := fun x => [Bv 49 5 b2 x x28]) F W Ji Aa Aa (fun hL => FQ _ _ w b2 v21 x21 ([10] : List UInt8) _ h19 hL) fun v24 a w F W => ?_
    have W : Stw ⟨Y, [], w0⟩ (C3 b1 p0 v1 v2 v3 v4) [Bv 49 5 b2 v24 x28] w := W
    refine Af (Bk (Ad ?_))
    exact ⟨_, v24, H, F.re ⟨rfl, Aa, Aa, Aa, Aa, Aa, trivial⟩, W⟩
   rintro a w ⟨x18, v18, hj, F, W⟩
   have hj := A2 hj
   subst hj
   have H := K7
   clear G7 K7
   refine Ac ?_
   refine ls F W Aa (DJ F Aa Aa Aa).q fun a w F W => ?_
   refine ls F W Aa (Ae F Aa).q fun a w F W => ?_
   refine Af (Ad ?_)
   exact ⟨_, H, v18, F.re ⟨rfl, Aa, Aa, Aa, Aa, Aa, trivial⟩, W⟩
  have H := AY (BR hb) H
  rw [hb] at F
  clear hb
  refine Ci ?_
  iterate 2 refine CM ?_
  refine Cj (Ad ?_)
  have H := L6 _ H
  exact ⟨_, v17, H, F.re ⟨rfl, Aa, Aa, trivial⟩, W⟩
 rintro a w ⟨x15, v16, hj, F, W⟩
 have hj := A2 hj
 subst hj
 have H := K5
 clear G5 K5
 refine Aj (Ac ?_)
 refine ls F W Aa (Ak CH Aa Aa Aa LZ F Aa 4 Aa).q fun a w F W => ?_
 refine ls F W Aa (AW (v := v4) 0 F Aa Aa LZ Aa).q fun a w F W => ?_
 obtain ⟨x29, h20, H⟩ := An H
 refine ls F W Aa (Ba (v := Value.string (bs x29)) F Lp Aa (fun w W => Co any w (v4) ([115, 116, 97, 114, 116, 115] : List UInt8) p0.2.2.1 _ h20 (((AK h_v4) : D9 _ _ _ _ _ _) w W).nx (hG.go0 W))) fun a w F W => ?_
 obtain ⟨x30, h21, H⟩ := An H
 refine AE (Ml := []) (Zl := [Bv 49 5 b2 v16 x15]) (M := (C3 b1 p0 v1 v2 v3 v4)) (Z := []) (β := Value) (rv := fun x => .tuple #[.int .i64 (x29.length : Int), .nilIface]) (MM := fun x => []) (ZZ := fun x => [Bv 49 5 b2 x x30]) F W Ji Aa Aa (fun hL => FQ _ _ w b2 v16 x15 x29 _ h21 hL) fun v25 a w F W => ?_
 have W : Stw ⟨Y, [], w0⟩ (C3 b1 p0 v1 v2 v3 v4) [Bv 49 5 b2 v25 x30] w := W
 refine Af (Ad (Aj (Ac ?_)))
 refine ls F W Aa (Ak CH Aa Aa Aa T3 F Aa 5 Aa).q fun a w F W => ?_
 refine ls F W Aa (AW (v := Value.int .i64 p0.2.2.2.1) 0 F Aa Aa T3 Aa).q fun a w F W => ?_
 refine D6 (z := Value.int .i64 0) (cs := [.int .i64 p0.2.2.2.1]) (Rp.int .i64) ([p0.2.2.2.1] : List Int) F W Aa GZ Z3 Aa Aa Aa Aa Aa Aa (Fl.int.repL _ _ ([p0.2.2.2.1] : List Int)) fun v26 a w F W => ?_
 obtain ⟨x31, h22, H⟩ := An H
 refine ls F W Aa (Ba (v := Value.string (bs x31)) F Lp Aa (fun w W => Co any w (v26) ([114, 97, 116, 101] : List UInt8) ([p0.2.2.2.1] : List Int) _ h22 (((AO 0 Aa) : D9 _ _ _ _ _ _) w W).nx (hG.go0 W))) fun a w F W => ?_
 have W := W.frontZ (i := 1) Aa Aa
 obtain ⟨x32, h23, H⟩ := An H
 refine AE (Ml := []) (Zl := [Bv 49 5 b2 v25 x30]) (M := (C3 b1 p0 v1 v2 v3 v4)) (Z := [row v26 3 (Rp.int .i64) ([p0.2.2.2.1] : List Int)]) (β := Value) (rv := fun x => .tuple #[.int .i64 (x31.length : Int), .nilIface]) (MM := fun x => []) (ZZ := fun x => [Bv 49 5 b2 x x32]) F W Ji Aa Aa (fun hL => FQ _ _ w b2 v25 x30 x31 _ h23 hL) fun v27 a w F W => ?_
 have W : Stw ⟨Y, [], w0⟩ (C3 b1 p0 v1 v2 v3 v4) [Bv 49 5 b2 v27 x32, row v26 3 (Rp.int .i64) ([p0.2.2.2.1] : List Int)] w := W
 refine Af (Ad (Aj (Ac ?_)))
 refine ls F W Aa (Ak CH Aa Aa Aa T3 F Aa 6 Aa).q fun a w F W => ?_
 refine ls F W Aa (AW (v := Value.int .i64 p0.2.2.2.2.1) 0 F Aa Aa T3 Aa).q fun a w F W => ?_
 refine D6 (z := Value.int .i64 0) (cs := [.int .i64 p0.2.2.2.2.1]) (Rp.int .i64) ([p0.2.2.2.2.1] : List Int) F W Aa GZ Z3 Aa Aa Aa Aa Aa Aa (Fl.int.repL _ _ ([p0.2.2.2.2.1] : List Int)) fun v28 a w F W => ?_
 obtain ⟨x33, h24, H⟩ := An H
 refine ls F W Aa (Ba (v := Value.string (bs x33)) F Lp Aa (fun w W => Co any w (v28) ([114, 111, 111, 109] : List UInt8) ([p0.2.2.2.2.1] : List Int) _ h24 (((AO 0 Aa) : D9 _ _ _ _ _ _) w W).nx (hG.go0 W))) fun a w F W => ?_
 have W := W.frontZ (i := 1) Aa Aa
 obtain ⟨x34, h25, H⟩ := An H
 refine AE (Ml := []) (Zl := [Bv 49 5 b2 v27 x32]) (M := (C3 b1 p0 v1 v2 v3 v4)) (Z := [row v28 3 (Rp.int .i64) ([p0.2.2.2.2.1] : List Int), row v26 3 (Rp.int .i64) ([p0.2.2.2.1] : List Int)]) (β := Value) (rv := fun x => .tuple #[.int .i64 (x33.length : Int), .nilIface]) (MM := fun x => []) (ZZ := fun x => [Bv 49 5 b2 x x34]) F W Ji Aa Aa (fun hL => FQ _ _ w b2 v27 x32 x33 _ h25 hL) fun v29 a w F W => ?_
 have W : Stw ⟨Y, [], w0⟩ (C3 b1 p0 v1 v2 v3 v4) [Bv 49 5 b2 v29 x34, row v28 3 (Rp.int .i64) ([p0.2.2.2.2.1] : List Int), row v26 3 (Rp.int .i64) ([p0.2.2.2.1] : List Int)] w := W
 refine Af (Ad (Aj (Ac ?_)))
 refine ls F W Aa (Ak CH Aa Aa Aa T3 F Aa 7 Aa).q fun a w F W => ?_
 refine ls F W Aa (AW (v := Value.int .i64 p0.2.2.2.2.2.1) 0 F Aa Aa T3 Aa).q fun a w F W => ?_
 refine D6 (z := Value.int .i64 0) (cs := [.int .i64 p0.2.2.2.2.2.1]) (Rp.int .i64) ([p0.2.2.2.2.2.1] : List Int) F W Aa GZ Z3 Aa Aa Aa Aa Aa Aa (Fl.int.repL _ _ ([p0.2.2.2.2.2.1] : List Int)) fun v30 a w F W => ?_
 obtain ⟨x35, h26, H⟩ := An H
 refine ls F W Aa (Ba (v := Value.string (bs x35)) F Lp Aa (fun w W => Co any w (v30) ([119, 105, 100, 101] : List UInt8) ([p0.2.2.2.2.2.1] : List Int) _ h26 (((AO 0 Aa) : D9 _ _ _ _ _ _) w W).nx (hG.go0 W))) fun a w F W => ?_
 have W := W.frontZ (i := 1) Aa Aa
 obtain ⟨x36, h27, H⟩ := An H
 refine AE (Ml := []) (Zl := [Bv 49 5 b2 v29 x34]) (M := (C3 b1 p0 v1 v2 v3 v4)) (Z := [row v30 3 (Rp.int .i64) ([p0.2.2.2.2.2.1] : List Int), row v28 3 (Rp.int .i64) ([p0.2.2.2.2.1] : List Int), row v26 3 (Rp.int .i64) ([p0.2.2.2.1] : List Int)]) (β := Value) (rv := fun x => .tuple #[.int .i64 (x35.length : Int), .nilIface]) (MM := fun x => []) (ZZ := fun x => [Bv 49 5 b2 x x36]) F W Ji Aa Aa (fun hL => FQ _ _ w b2 v29 x34 x35 _ h27 hL) fun v31 a w F W => ?_
 have W : Stw ⟨Y, [], w0⟩ (C3 b1 p0 v1 v2 v3 v4) [Bv 49 5 b2 v31 x36, row v30 3 (Rp.int .i64) ([p0.2.2.2.2.2.1] : List Int), row v28 3 (Rp.int .i64) ([p0.2.2.2.2.1] : List Int), row v26 3 (Rp.int .i64) ([p0.2.2.2.1] : List Int)] w := W
 refine Af (Ad (Aj (Ac ?_)))
 refine ls F W Aa (Ak CH Aa Aa Aa T3 F Aa 8 Aa).q fun a w F W => ?_
 refine ls F W Aa (AW (v := Value.int .i64 p0.2.2.2.2.2.2.1) 0 F Aa Aa T3 Aa).q fun a w F W => ?_
 refine D6 (z := Value.int .i64 0) (cs := [.int .i64 p0.2.2.2.2.2.2.1]) (Rp.int .i64) ([p0.2.2.2.2.2.2.1] : List Int) F W Aa GZ Z3 Aa Aa Aa Aa Aa Aa (Fl.int.repL _ _ ([p0.2.2.2.2.2.2.1] : List Int)) fun v32 a w F W => ?_
 obtain ⟨x37, h28, H⟩ := An H
 refine ls F W Aa (Ba (v := Value.string (bs x37)) F Lp Aa (fun w W => Co any w (v32) ([108, 101, 97, 100] : List UInt8) ([p0.2.2.2.2.2.2.1] : List Int) _ h28 (((AO 0 Aa) : D9 _ _ _ _ _ _) w W).nx (hG.go0 W))) fun a w F W => ?_
 have W := W.frontZ (i := 1) Aa Aa
 obtain ⟨x38, h29, H⟩ := An H
 refine AE (Ml := []) (Zl := [Bv 49 5 b2 v31 x36]) (M := (C3 b1 p0 v1 v2 v3 v4)) (Z := [row v32 3 (Rp.int .i64) ([p0.2.2.2.2.2.2.1] : List Int), row v30 3 (Rp.int .i64) ([p0.2.2.2.2.2.1] : List Int), row v28 3 (Rp.int .i64) ([p0.2.2.2.2.1] : List Int), row v26 3 (Rp.int .i64) ([p0.2.2.2.1] : List Int)]) (β := Value) (rv := fun x => .tuple #[.int .i64 (x37.length : Int), .nilIface]) (MM := fun x => []) (ZZ := fun x => [Bv 49 5 b2 x x38]) F W Ji Aa Aa (fun hL => FQ _ _ w b2 v31 x36 x37 _ h29 hL) fun v33 a w F W => ?_
 have W : Stw ⟨Y, [], w0⟩ (C3 b1 p0 v1 v2 v3 v4) [Bv 49 5 b2 v33 x38, row v32 3 (Rp.int .i64) ([p0.2.2.2.2.2.2.1] : List Int), row v30 3 (Rp.int .i64) ([p0.2.2.2.2.2.1] : List Int), row v28 3 (Rp.int .i64) ([p0.2.2.2.2.1] : List Int), row v26 3 (Rp.int .i64) ([p0.2.2.2.1] : List Int)] w := W
 refine Af (Ad (Aj (Ac ?_)))
 refine ls F W Aa (Ak CH Aa Aa Aa T3 F Aa 9 Aa).q fun a w F W => ?_
 refine ls F W Aa (AW (v := Value.int .i64 p0.2.2.2.2.2.2.2.1) 0 F Aa Aa T3 Aa).q fun a w F W => ?_
 refine D6 (z := Value.int .i64 0) (cs := [.int .i64 p0.2.2.2.2.2.2.2.1]) (Rp.int .i64) ([p0.2.2.2.2.2.2.2.1] : List Int) F W Aa GZ Z3 Aa Aa Aa Aa Aa Aa (Fl.int.repL _ _ ([p0.2.2.2.2.2.2.2.1] : List Int)) fun v34 a w F W => ?_
 obtain ⟨x39, h30, H⟩ := An H
 refine ls F W Aa (Ba (v := Value.string (bs x39)) F Lp Aa (fun w W => Co any w (v34) ([109, 97, 114, 103, 105, 110] : List UInt8) ([p0.2.2.2.2.2.2.2.1] : List Int) _ h30 (((AO 0 Aa) : D9 _ _ _ _ _ _) w W).nx (hG.go0 W))) fun a w F W => ?_
 have W := W.frontZ (i := 1) Aa Aa
 obtain ⟨x40, h31, H⟩ := An H
 refine AE (Ml := []) (Zl := [Bv 49 5 b2 v33 x38]) (M := (C3 b1 p0 v1 v2 v3 v4)) (Z := [row v34 3 (Rp.int .i64) ([p0.2.2.2.2.2.2.2.1] : List Int), row v32 3 (Rp.int .i64) ([p0.2.2.2.2.2.2.1] : List Int), row v30 3 (Rp.int .i64) ([p0.2.2.2.2.2.1] : List Int), row v28 3 (Rp.int .i64) ([p0.2.2.2.2.1] : List Int), row v26 3 (Rp.int .i64) ([p0.2.2.2.1] : List Int)]) (β := Value) (rv := fun x => .tuple #[.int .i64 (x39.length : Int), .nilIface]) (MM := fun x => []) (ZZ := fun x => [Bv 49 5 b2 x x40]) F W Ji Aa Aa (fun hL => FQ _ _ w b2 v33 x38 x39 _ h31 hL) fun v35 a w F W => ?_
 have W : Stw ⟨Y, [], w0⟩ (C3 b1 p0 v1 v2 v3 v4) [Bv 49 5 b2 v35 x40, row v34 3 (Rp.int .i64) ([p0.2.2.2.2.2.2.2.1] : List Int), row v32 3 (Rp.int .i64) ([p0.2.2.2.2.2.2.1] : List Int), row v30 3 (Rp.int .i64) ([p0.2.2.2.2.2.1] : List Int), row v28 3 (Rp.int .i64) ([p0.2.2.2.2.1] : List Int), row v26 3 (Rp.int .i64) ([p0.2.2.2.1] : List Int)] w := W
 refine Af (Ad (Aj (Ac ?_)))
 refine ls F W Aa (Ak CH Aa Aa Aa T3 F Aa 10 Aa).q fun a w F W => ?_
 refine ls F W Aa (AW (v := Value.int .i64 p0.2.2.2.2.2.2.2.2) 0 F Aa Aa T3 Aa).q fun a w F W => ?_
 refine D6 (z := Value.int .i64 0) (cs := [.int .i64 p0.2.2.2.2.2.2.2.2]) (Rp.int .i64) ([p0.2.2.2.2.2.2.2.2] : List Int) F W Aa GZ Z3 Aa Aa Aa Aa Aa Aa (Fl.int.repL _ _ ([p0.2.2.2.2.2.2.2.2] : List Int)) fun v36 a w F W => ?_
 obtain ⟨x41, h32, H⟩ := An H
 refine ls F W Aa (Ba (v := Value.string (bs x41)) F Lp Aa (fun w W => Co any w (v36) ([114, 101, 116, 114, 121] : List UInt8) ([p0.2.2.2.2.2.2.2.2] : List Int) _ h32 (((AO 0 Aa) : D9 _ _ _ _ _ _) w W).nx (hG.go0 W))) fun a w F W => ?_
 have W := W.frontZ (i := 1) Aa Aa
 obtain ⟨x42, h33, H⟩ := An H
 refine AE (Ml := []) (Zl := [Bv 49 5 b2 v35 x40]) (M := (C3 b1 p0 v1 v2 v3 v4)) (Z := [row v36 3 (Rp.int .i64) ([p0.2.2.2.2.2.2.2.2] : List Int), row v34 3 (Rp.int .i64) ([p0.2.2.2.2.2.2.2.1] : List Int), row v32 3 (Rp.int .i64) ([p0.2.2.2.2.2.2.1] : List Int), row v30 3 (Rp.int .i64) ([p0.2.2.2.2.2.1] : List Int), row v28 3 (Rp.int .i64) ([p0.2.2.2.2.1] : List Int), row v26 3 (Rp.int .i64) ([p0.2.2.2.1] : List Int)]) (β := Value) (rv := fun x => .tuple #[.int .i64 (x41.length : Int), .nilIface]) (MM := fun x => []) (ZZ := fun x => [Bv 49 5 b2 x x42]) F W Ji Aa Aa (fun hL => FQ _ _ w b2 v35 x40 x41 _ h33 hL) fun v37 a w F W => ?_
 have W : Stw ⟨Y, [], w0⟩ (C3 b1 p0 v1 v2 v3 v4) [Bv 49 5 b2 v37 x42, row v36 3 (Rp.int .i64) ([p0.2.2.2.2.2.2.2.2] : List Int), row v34 3 (Rp.int .i64) ([p0.2.2.2.2.2.2.2.1] : List Int), row v32 3 (Rp.int .i64) ([p0.2.2.2.2.2.2.1] : List Int), row v30 3 (Rp.int .i64) ([p0.2.2.2.2.2.1] : List Int), row v28 3 (Rp.int .i64) ([p0.2.2.2.2.1] : List Int), row v26 3 (Rp.int .i64) ([p0.2.2.2.1] : List Int)] w := W
 refine Af (Ad (Aj (Ac ?_)))
 obtain ⟨x43, h34, H⟩ := An H
 refine AE (Ml := []) (Zl := [Bv 49 5 b2 v37 x42]) (M := (C3 b1 p0 v1 v2 v3 v4)) (Z := [row v36 3 (Rp.int .i64) ([p0.2.2.2.2.2.2.2.2] : List Int), row v34 3 (Rp.int .i64) ([p0.2.2.2.2.2.2.2.1] : List Int), row v32 3 (Rp.int .i64) ([p0.2.2.2.2.2.2.1] : List Int), row v30 3 (Rp.int .i64) ([p0.2.2.2.2.2.1] : List Int), row v28 3 (Rp.int .i64) ([p0.2.2.2.2.1] : List Int), row v26 3 (Rp.int .i64) ([p0.2.2.2.1] : List Int)]) (β := Unit) (rv := fun x => .string (bs x43)) (MM := fun x => []) (ZZ := fun x => [Bv 49 5 b2 v37 x42]) F W NT Aa Aa (fun hL => Ni _ _ w b2 v37 x42 _ h34 hL) fun _ a w F W => ?_
 have W : Stw ⟨Y, [], w0⟩ (C3 b1 p0 v1 v2 v3 v4) [Bv 49 5 b2 v37 x42, row v36 3 (Rp.int .i64) ([p0.2.2.2.2.2.2.2.2] : List Int), row v34 3 (Rp.int .i64) ([p0.2.2.2.2.2.2.2.1] : List Int), row v32 3 (Rp.int .i64) ([p0.2.2.2.2.2.2.1] : List Int), row v30 3 (Rp.int .i64) ([p0.2.2.2.2.2.1] : List Int), row v28 3 (Rp.int .i64) ([p0.2.2.2.2.1] : List Int), row v26 3 (Rp.int .i64) ([p0.2.2.2.1] : List Int)] w := W
 refine ls F W Aa (Ag F Aa).q fun a w F W => ?_
 refine Af (Ad (A1 ?_))
 have H := A2 H
 subst H
 refine Ck (.inl Aa) F W Aa (AL F Aa) ?_
 exact ⟨rfl, W.done⟩
theorem ID : type_of% Tryd.underlying60 := Tryd.underlying60
theorem Nb : type_of% Tryd.underlying75 := Tryd.underlying75
theorem H8 : Has Tryd.prog 8 := ⟨fun args w => Am Tryd.func8 rfl (by decide) args w⟩
theorem Oq : (Tryd.prog.info? 33).bind (·.zero) = some (.int .i64 0) := by kernel_rfl
theorem Oy : Bt Tryd.prog 60 [.string (bs ([] : List UInt8)), .int .i64 0] [(0, 1), (1, 1)] := ⟨⟨.agg #[.string (bs ([] : List UInt8)), .int .i64 0], by kernel_rfl, rfl⟩, ⟨_, ID, fun w => by kernel_rfl⟩⟩
theorem T9 : Ty Tryd.prog 9 false 1 := ⟨by kernel_rfl, by kernel_rfl⟩
theorem NP : Has Tryd.prog 36 := ⟨fun args w => Am Tryd.func36 rfl (by decide) args w⟩
theorem OE : Bt Tryd.prog 75 [.int .i64 0] [(0, 1)] := ⟨⟨.agg #[.int .i64 0], by kernel_rfl, rfl⟩, ⟨_, Nb, fun w => by kernel_rfl⟩⟩
theorem N6 : (Tryd.prog.underlying 75).map (fun d => match d with | .interface _ => true | _ => false) = some false := by kernel_rfl
def Ap (p0 : List UInt8 × Int) : Int := p0.2
theorem BD (Y : Nat → Prop) (w0 : World) (q_p0 : Nat) (p0 : List UInt8 × Int) (r : Int) (H : Ap p0 = r) (a_q_p0 : At ⟨Y, [], w0⟩ q_p0 0 [.string (bs p0.1), .int .i64 p0.2]) :
    Calls Tryd.prog 40 #[.pointer (some ⟨q_p0, 0, none⟩)] w0 fun e w' => ∃ x : Unit, e = .panicked [{ v := .iface 75 (.agg #[.int .i64 r]), recovered := false }] ∧ Stw ⟨Y, [], w0⟩ [] [] w' := by
 refine enter Tryd.func40 Aa Tryd.ntmps40 Aa fun a F => ?_
 have W := Stw.start Y w0
 unfold Ap at H
 refine Ac ?_
 refine ls F W Aa (Ae F Aa).q fun a w F W => ?_
 refine ls F W Aa (Dr F Aa).q fun a w F W => ?_
 refine ls F W Aa (Ak ID Aa Aa Aa T3 F Aa 1 Aa).q fun a w F W => ?_
 refine ls F W Aa (GG (y := Value.int .i64 p0.2) (j := 1) F Aa (Nat.zero_add _).symm a_q_p0 T3 Aa).q fun a w F W => ?_
 refine ls F W Aa (EU (v := Value.agg #[.int .i64 p0.2]) OE F Aa Aa Aa).q fun a w F W => ?_
 refine ls F W Aa (CD N6 F Aa).q fun a w F W => ?_
 refine LC F Aa ?_
 subst H
 refine B7 F ?_
 exact ⟨(), Aa, W⟩
theorem Ms : Has Tryd.prog 40 := ⟨fun args w => Am Tryd.func40 rfl (by decide) args w⟩
noncomputable def Bc (p0 : List UInt8 × Int) : Option ((List UInt8) ⊕ Int) := (GP p0.1 ([10] : List UInt8)).bind fun x1 => (if (!x1.2.2) = true then some (.inr (Ap p0)) else some (.inl x1.1))
theorem CY (Y : Nat → Prop) (w0 : World) (q_p0 : Nat) (p0 : List UInt8 × Int) (r : (List UInt8) ⊕ Int) (H : Bc p0 = some r) (a_q_p0 : At ⟨Y, [], w0⟩ q_p0 0 [.string (bs p0.1), .int .i64 p0.2]) (hG : Gk [] w0) :
    Calls Tryd.prog 37 #[.pointer (some ⟨q_p0, 0, none⟩)] w0 fun e w' => HP r (fun r => ∃ x : Unit, e = .returned (.string (bs r)) ∧ Stw ⟨Y, [], w0⟩ [] [] w') (fun r => ∃ x : Unit, e = .panicked [{ v := .iface 75 (.agg #[.int .i64 r]), recovered := false }] ∧ Stw ⟨Y, [], w0⟩ [] [] w') := by
 refine enter Tryd.func37 Aa Tryd.ntmps37 Aa fun a F => ?_
 have W := Stw.start Y w0
 unfold Bc at H
 refine Aj (Ac ?_)
 refine ls F W Aa (Ag (v := Value.string (bs ([] : List UInt8))) F Aa).q fun a w F W => ?_
 refine Af (Ad (Aj (Ac ?_)))
 refine ls F W Aa (Ae F Aa).q fun a w F W => ?_
 refine ls F W Aa (Dr F Aa).q fun a w F W => ?_
 refine ls F W Aa (Ak ID Aa Aa Aa T9 F Aa 0 Aa).q fun a w F W => ?_
 refine ls F W Aa (GG (y := Value.string (bs p0.1)) (j := 0) F Aa (Nat.zero_add _).symm a_q_p0 T9 Aa).q fun a w F W => ?_
 obtain ⟨x1, h1, H⟩ := An H
 refine ls F W Aa (Ba (v := Value.tuple #[.string (bs x1.1), .string (bs x1.2.1), .bool x1.2.2]) F NP Aa (fun w W => Ks any w p0.1 ([10] : List UInt8) _ h1 (hG.go0 W))) fun a w F W => ?_
 refine ls F W Aa (Ae F Aa).q fun a w F W => ?_
 refine ls F W Aa (AP (v := Value.string (bs x1.1)) F Aa Aa).q fun a w F W => ?_
 refine ls F W Aa (AP (v := Value.string (bs x1.2.1)) F Aa Aa).q fun a w F W => ?_
 refine ls F W Aa (AP (v := Value.bool x1.2.2) F Aa Aa).q fun a w F W => ?_
 iterate 3 refine ls F W Aa (Ag F Aa).q fun a w F W => ?_
 refine Af (Ad (Aj (Aj (Ac ?_))))
 refine ls F W Aa (Ae F Aa).q fun a w F W => ?_
 refine ls F W Aa (JO F Aa).q fun a w F W => ?_
 refine Af (Ad ?_)
 refine AA F Aa (fun hb => ?_) fun hb => ?_
 ·
  have H := AZ hb H
  rw [hb] at F
  clear hb
  refine Ac ?_
  refine ls F W Aa (Ae F Aa).q fun a w F W => ?_
  refine BH (Ml := []) (Zl := []) (M := []) (Z := []) (β := Unit) (pv := fun x => .iface 75 (.agg #[.int .i64 (Ap p0)])) (MM := fun x => []) (ZZ := fun x => []) F W Ms Aa (fun hL => BD _ w q_p0 p0 _ Aa (At.re a_q_p0 W)) fun x w W => ?_
  have W : Stw ⟨Y, [], w0⟩ [] [] w := W
  refine Bp ?_
  have H := A2 H
  subst H
  refine B7 F ?_
  exact ⟨(), Aa, W⟩
 have H := AY (by rw [hb]; decide) H
 rw [hb] at F
 clear hb
 refine Ax (Ad (Aj (Ac ?_)))
 refine ls F W Aa (Ae F Aa).q fun a w F W => ?_
 refine ls F W Aa (Ag F Aa).q fun a w F W => ?_
 refine Af (Ad (A1 ?_))
 have H := A2 H
 subst H
 refine Ck (.inl Aa) F W Aa (AL F Aa) ?_
 exact ⟨(), Aa, W⟩
theorem MI : type_of% Tryd.underlying79 := Tryd.underlying79
theorem Nq : Has Tryd.prog 37 := ⟨fun args w => Am Tryd.func37 rfl (by decide) args w⟩
theorem OG : Has Tryd.prog 51 := ⟨fun args w => Am Tryd.func51 rfl (by decide) args w⟩
theorem Np : Et Tryd.prog 79 9 1 16 := Et.of MI (by kernel_rfl) (by kernel_rfl) (by kernel_rfl) (by decide)
noncomputable def Bo (p0 : List UInt8 × Int) (p1 : List UInt8) : Option ((List (List UInt8)) ⊕ Int) := (Bc p0).bind fun x1 => B3 x1 (fun x2 => (F4 x2 ([32] : List UInt8)).bind fun x4 => (ix x4 0).bind fun x5 => (if x5 ≠ p1 then some (.inr (Ap p0)) else (Ef x4 1 (x4.length : Int)).bind fun x6 => some (.inl x6))) (fun x3 => some (.inr x3))
theorem CR (Y : Nat → Prop) (w0 : World) (q_p0 : Nat) (p0 : List UInt8 × Int) (p1 : List UInt8) (r : (List (List UInt8)) ⊕ Int) (H : Bo p0 p1 = some r) (a_q_p0 : At ⟨Y, [], w0⟩ q_p0 0 [.string (bs p0.1), .int .i64 p0.2]) (hG : Gk [] w0) :
    Calls Tryd.prog 38 #[.pointer (some ⟨q_p0, 0, none⟩), .string (bs p1)] w0 fun e w' => HP r (fun r => ∃ x : Value, e = .returned (x) ∧ Stw ⟨Y, [], w0⟩ [] [row (x) 9 Rp.str r] w') (fun r => ∃ x : Unit, e = .panicked [{ v := .iface 75 (.agg #[.int .i64 r]), recovered := false }] ∧ Stw ⟨Y, [], w0⟩ [] [] w') := by
 refine enter Tryd.func38 Aa Tryd.ntmps38 Aa fun a F => ?_
 have W := Stw.start Y w0
 unfold Bo at H
 refine Aj (Ac ?_)
 refine ls F W Aa (Ag F Aa).q fun a w F W => ?_
 refine Af (Ad (Aj (Ac ?_)))
 refine ls F W Aa (Ae F Aa).q fun a w F W => ?_
 obtain ⟨x1, h1, H⟩ := An H
 rcases x1 with x2 | x3
 ·
  have H := EG H
  refine AE (Ml := []) (Zl := []) (M := []) (Z := []) (β := Unit) (rv := fun x => .string (bs x2)) (MM := fun x => []) (ZZ := fun x => []) F W Nq Aa Aa (fun hL => CY _ w q_p0 p0 _ h1 (At.re a_q_p0 W) (hG.go0 W)) fun x a w F W => ?_
  have W : Stw ⟨Y, [], w0⟩ [] [] w := W
  obtain ⟨x4, h2, H⟩ := An H
  refine AE (Ml := []) (Zl := []) (M := []) (Z := []) (β := Value) (rv := fun x => x) (MM := fun x => []) (ZZ := fun x => [row x 9 Rp.str x4]) F W OG Aa Aa (fun hL => LS _ w x2 ([32] : List UInt8) _ h2 (hG.go0 W)) fun x a w F W => ?_
  obtain ⟨v1, rfl⟩ : ∃ y, y = x := ⟨x, rfl⟩
  have W : Stw ⟨Y, [], w0⟩ [] [row v1 9 Rp.str x4] w := W
  refine ls F W Aa (Ag F Aa).q fun a w F W => ?_
  refine Af (Ad (Aj (Aj (Ac ?_))))
  refine ls F W Aa (Ae F Aa).q fun a w F W => ?_
  obtain ⟨x5, h3, H⟩ := An H
  refine ls F W Aa (Cv (r := Rp.str) Np F Aa Aa (AO 0 Aa) h3).q fun a w F W => ?_
  refine ls F W Aa (A3 (y := Value.string (bs x5)) (j := 0) (i := 0) F Aa Aa (AO 0 Aa) h3 Fl.str.to T9 Aa).q fun a w F W => ?_
  refine ls F W Aa (Ae F Aa).q fun a w F W => ?_
  refine ls F W Aa (JE (l := x5) (m := p1) F Aa Aa).q fun a w F W => ?_
  refine Af (Ad ?_)
  refine AA F Aa (fun hb => ?_) fun hb => ?_
  ·
   have H := AZ (BQ hb) H
   rw [hb] at F
   clear hb
   refine Ac ?_
   refine ls F W Aa (Ae F Aa).q fun a w F W => ?_
   refine BH (Ml := []) (Zl := []) (M := []) (Z := [row v1 9 Rp.str x4]) (β := Unit) (pv := fun x => .iface 75 (.agg #[.int .i64 (Ap p0)])) (MM := fun x => []) (ZZ := fun x => []) F W Ms Aa (fun hL => BD _ w q_p0 p0 _ Aa (At.re a_q_p0 W)) fun x w W => ?_
   have W : Stw ⟨Y, [], w0⟩ [] [row v1 9 Rp.str x4] w := W
   refine Bp ?_
   have H := A2 H
   subst H
   refine B7 F ?_
   have W := W.sub (M' := []) (Z' := []) (List.Sublist.refl _) (List.nil_sublist _)
   exact ⟨(), Aa, W⟩
  have H := AY (BR hb) H
  rw [hb] at F
  clear hb
  refine Ax (Ad (Aj (Ac ?_)))
  refine ls F W Aa (Ae F Aa).q fun a w F W => ?_
  obtain ⟨x6, h4, H⟩ := An H
  refine ls F W Aa (Lw (r := Rp.str) Np F Aa Aa Aa (AO 0 Aa) h4).q fun a w F W => ?_
  refine ls F W Aa (Ag F Aa).q fun a w F W => ?_
  refine Af (Ad (A1 ?_))
  have H := A2 H
  subst H
  refine Ck (.inl Aa) F W Aa (AL F Aa) ?_
  have W := W.subRow (k := 0) Aa Aa h4
  exact ⟨((Di v1 (1 : Int) (x4.length : Int) 1)), Aa, W⟩
 have H := EF H
 refine BH (Ml := []) (Zl := []) (M := []) (Z := []) (β := Unit) (pv := fun x => .iface 75 (.agg #[.int .i64 x3])) (MM := fun x => []) (ZZ := fun x => []) F W Nq Aa (fun hL => CY _ w q_p0 p0 _ h1 (At.re a_q_p0 W) (hG.go0 W)) fun x w W => ?_
 have W : Stw ⟨Y, [], w0⟩ [] [] w := W
 refine Bp ?_
 have H := A2 H
 subst H
 refine B7 F ?_
 exact ⟨(), Aa, W⟩
theorem Nk : Has Tryd.prog 38 := ⟨fun args w => Am Tryd.func38 rfl (by decide) args w⟩
theorem N8 : Has Tryd.prog 39 := ⟨fun args w => Am Tryd.func39 rfl (by decide) args w⟩
noncomputable def Bw (p0 : List UInt8 × Int) : Option (List UInt8 × Int) := (GP p0.1 ([10] : List UInt8)).bind fun x1 => some (x1.2.1, CL (p0.2 + 1))
theorem Em (Y : Nat → Prop) (X : List Nat) (w0 : World) (q_p0 : Nat) (p0 : List UInt8 × Int) (r : (List UInt8 × Int)) (H : Bw p0 = some r) (hG : Gk X w0) (hL : Stw ⟨Y, X, w0⟩ [(q_p0, [.string (bs p0.1), .int .i64 p0.2])] [] w0) :
    Calls Tryd.prog 41 #[.pointer (some ⟨q_p0, 0, none⟩)] w0 fun e w' => ∃ x : Unit, e = .returned (.tuple #[]) ∧ Stw ⟨Y, X, w0⟩ [(q_p0, [.string (bs r.1), .int .i64 r.2])] [] w' := by
 refine enter Tryd.func41 Aa Tryd.ntmps41 Aa fun a F => ?_
 have W := hL
 unfold Bw at H
 refine Aj (Ac ?_)
 iterate 2 refine ls F W Aa (Ae F Aa).q fun a w F W => ?_
 refine ls F W Aa (Dr F Aa).q fun a w F W => ?_
 refine ls F W Aa (Ak ID Aa Aa Aa T9 F Aa 0 Aa).q fun a w F W => ?_
 refine ls F W Aa (AW (v := Value.string (bs p0.1)) 0 F Aa Aa T9 Aa).q fun a w F W => ?_
 obtain ⟨x1, h1, H⟩ := An H
 refine ls F W Aa (Ba (v := Value.tuple #[.string (bs x1.1), .string (bs x1.2.1), .bool x1.2.2]) F NP Aa (fun w W => Ks any w p0.1 ([10] : List UInt8) _ h1 (hG.go0 W))) fun a w F W => ?_
 refine ls F W Aa (Ae F Aa).q fun a w F W => ?_
 refine ls F W Aa (AP (v := Value.string (bs x1.1)) F Aa Aa).q fun a w F W => ?_
 refine ls F W Aa (AP (v := Value.string (bs x1.2.1)) F Aa Aa).q fun a w F W => ?_
 refine ls F W Aa (AP (v := Value.bool x1.2.2) F Aa Aa).q fun a w F W => ?_
 refine ls F W Aa (Dr F Aa).q fun a w F W => ?_
 refine ls F W Aa (Ak ID Aa Aa Aa T9 F Aa 0 Aa).q fun a w F W => ?_
 refine Ch (vs := [.string (bs x1.2.1)]) (M' := [(q_p0, [.string (bs x1.2.1), .int .i64 p0.2])]) 0 F W Aa Aa Aa T9 Aa Aa Aa Aa Aa fun w W => ?_
 refine Af (Ad (Ac ?_))
 refine ls F W Aa (Ae F Aa).q fun a w F W => ?_
 refine ls F W Aa (Dr F Aa).q fun a w F W => ?_
 refine ls F W Aa (Ak ID Aa Aa Aa T3 F Aa 1 Aa).q fun a w F W => ?_
 refine ls F W Aa (AW (v := Value.int .i64 p0.2) 0 F Aa Aa T3 Aa).q fun a w F W => ?_
 refine ls F W Aa (DJ F Aa Aa Aa).q fun a w F W => ?_
 refine ls F W Aa (Dr F Aa).q fun a w F W => ?_
 refine ls F W Aa (Ak ID Aa Aa Aa T3 F Aa 1 Aa).q fun a w F W => ?_
 refine Ch (vs := [.int .i64 (CL (p0.2 + 1))]) (M' := [(q_p0, [.string (bs x1.2.1), .int .i64 (CL (p0.2 + 1))])]) 0 F W Aa Aa Aa T3 Aa Aa Aa Aa Aa fun w W => ?_
 refine Af ?_
 have H := A2 H
 subst H
 refine JU (.inr Aa) F Aa ?_
 exact ⟨(), Aa, W⟩
theorem Kk : type_of% Tryd.underlying51 := Tryd.underlying51
theorem N0 : Has Tryd.prog 41 := ⟨fun args w => Am Tryd.func41 rfl (by decide) args w⟩
noncomputable def AH (p0 : List UInt8 × Int) (x3 : List (List UInt8)) : (List Int × Int) → Option ((List Int × Int) ⊕ ((List Int) ⊕ ((List Int × (List UInt8 × Int)) ⊕ (Int × (List UInt8 × Int)))))
  | (x5, x6) => (if x6 < (x3.length : Int) then (ix x3 x6).bind fun x7 => (FY x7).bind fun x8 => B3 x8 (fun x9 => Es (if x9 < (-1125899906842624) then some (.inl true) else (if 1125899906842624 < x9 then some (.inl true) else (Hv x9).bind fun x12 => some (.inl (decide (x12 ≠ x7))))) fun x11 => (if x11 = true then some (.inr (.inr (.inr ((Ap p0), p0)))) else (DB x5 ([x9] : List Int)).bind fun x13 => some (.inl (x13, CL (x6 + 1))))) (fun x10 => some (.inr (.inr (.inr ((Ap p0), p0))))) else some (.inr (.inl x5)))
noncomputable def AJ (p0 : List UInt8 × Int) (p1 : List UInt8) (p2 : Int) : Option ((List Int × (List UInt8 × Int)) ⊕ (Int × (List UInt8 × Int))) := Es ((Bo p0 p1).bind fun x2 => B3 x2 (fun x3 => BB (AH p0 x3) ([], 0)) (fun x4 => some (.inr (.inr (x4, p0))))) fun x1 => (if (decide (p2 ≠ (-1)) && decide ((x1.length : Int) ≠ p2)) = true then some (.inr ((Ap p0), p0)) else (Bw p0).bind fun x14 => some (.inl (x1, x14)))
theorem Bm (Y : Nat → Prop) (X : List Nat) (w0 : World) (q_p0 : Nat) (p0 : List UInt8 × Int) (p1 : List UInt8) (p2 : Int) (r : (List Int × (List UInt8 × Int)) ⊕ (Int × (List UInt8 × Int))) (H : AJ p0 p1 p2 = some r) (hG : Gk X w0) (hL : Stw ⟨Y, X, w0⟩ [(q_p0, [.string (bs p0.1), .int .i64 p0.2])] [] w0) :
    Calls Tryd.prog 21 #[.pointer (some ⟨q_p0, 0, none⟩), .string (bs p1), .int .i64 p2] w0 fun e w' => HP r (fun r => ∃ x : Value, e = .returned (x) ∧ Stw ⟨Y, X, w0⟩ [(q_p0, [.string (bs r.2.1), .int .i64 r.2.2])] [row (x) 3 (Rp.int .i64) r.1] w') (fun r => ∃ x : Unit, e = .panicked [{ v := .iface 75 (.agg #[.int .i64 r.1]), recovered := false }] ∧ Stw ⟨Y, X, w0⟩ [(q_p0, [.string (bs r.2.1), .int .i64 r.2.2])] [] w') := by
 refine enter Tryd.func21 Aa Tryd.ntmps21 Aa fun a F => ?_
 have W := hL
 unfold AJ at H
 refine Aj (Ac ?_)
 refine ls F W Aa (Ag F Aa).q fun a w F W => ?_
 refine Af (Ad (Aj (Ac ?_)))
 refine ls F W Aa (Ag F Aa).q fun a w F W => ?_
 refine Af (Ad ?_)
 obtain ⟨o1, G1, K1, L1⟩ := IB H
 refine AX (fun a w => ∃ x1 : List Int, ∃ v1 : Value, some (Sum.inl x1) = some o1 ∧ Fr 61 [] [(0, .pointer (some ⟨q_p0, 0, none⟩)), (2, .int .i64 p2), (6, .slice none 0 0), (7, v1)] a ∧ Stw ⟨Y, X, w0⟩ [(q_p0, [.string (bs p0.1), .int .i64 p0.2])] [row v1 3 (Rp.int .i64) x1] w) ?_ ?_
 ·
  have H := G1
  clear G1 K1
  refine Aj (Ac ?_)
  iterate 2 refine ls F W Aa (Ae F Aa).q fun a w F W => ?_
  obtain ⟨x2, h1, H⟩ := An H
  rcases x2 with x3 | x4
  ·
   have H := EG H
   refine AE (Ml := []) (Zl := []) (M := [(q_p0, [.string (bs p0.1), .int .i64 p0.2])]) (Z := []) (β := Value) (rv := fun x => x) (MM := fun x => []) (ZZ := fun x => [row x 9 Rp.str x3]) F W Nk Aa Aa (fun hL => CR _ w q_p0 p0 p1 _ h1 (Fs W 0 Aa) (hG.go0 W)) fun x a w F W => ?_
   obtain ⟨v2, rfl⟩ : ∃ y, y = x := ⟨x, rfl⟩
   have W : Stw ⟨Y, X, w0⟩ [(q_p0, [.string (bs p0.1), .int .i64 p0.2])] [row v2 9 Rp.str x3] w := W
   refine ls F W Aa (Dg (r := Rp.str) (l := x3) MI Aa F Aa (AO 0 Aa)).q fun a w F W => ?_
   refine ls F W Aa (Ae F Aa).q fun a w F W => ?_
   refine Af (Ad (AF ?_))
   have W := W.nilRow 3 (Rp.int .i64)
   have W := W.frontZ (i := 1) Aa Aa
   have W := W.frontZ (i := 1) Aa Aa
   refine CA H (fun s a w => ∃ v3 : Value, Fr 61 [] [(0, .pointer (some ⟨q_p0, 0, none⟩)), (2, .int .i64 p2), (6, .slice none 0 0), (7, v3), (14, v2), (15, .int .i64 (x3.length : Int)), (16, .int .i64 s.2)] a ∧ Stw ⟨Y, X, w0⟩ [(q_p0, [.string (bs p0.1), .int .i64 p0.2])] [row v3 3 (Rp.int .i64) s.1, row v2 9 Rp.str x3] w) ⟨(Value.slice none 0 0), F.re ⟨rfl, Aa, Aa, Aa, Aa, Aa, Aa, trivial⟩, W⟩ fun s o a w H L2 hR => ?_
   obtain ⟨x5, x6⟩ := s
   obtain ⟨v3, F, W⟩ := hR
   have F : Fr 61 [] [(0, .pointer (some ⟨q_p0, 0, none⟩)), (2, .int .i64 p2), (6, .slice none 0 0), (7, v3), (14, v2), (15, .int .i64 (x3.length : Int)), (16, .int .i64 x6)] a := F
   have W : Stw ⟨Y, X, w0⟩ [(q_p0, [.string (bs p0.1), .int .i64 p0.2])] [row v3 3 (Rp.int .i64) x5, row v2 9 Rp.str x3] w := W
   rw [AH] at H
   refine Aj (Ac ?_)
   refine ls F W Aa (DM F Aa Aa).q fun a w F W => ?_
   refine Af (Ad (Aj ?_))
   refine AA F Aa (fun hb => ?_) fun hb => ?_
   ·
    have H := AZ (BQ hb) H
    rw [hb] at F
    clear hb
    refine Ax (Ad (Aj (AF (Aj (Ac ?_)))))
    obtain ⟨x7, h2, H⟩ := An H
    refine ls F W Aa (Cv (r := Rp.str) Np F Aa Aa (AO 1 Aa) h2).q fun a w F W => ?_
    refine ls F W Aa (A3 (y := Value.string (bs x7)) (j := 0) (i := x6) F Aa Aa (AO 1 Aa) h2 Fl.str.to T9 Aa).q fun a w F W => ?_
    refine ls F W Aa (Ag F Aa).q fun a w F W => ?_
    refine Af (Ad (Aj (Ac ?_)))
    refine ls F W Aa (Ae F Aa).q fun a w F W => ?_
    obtain ⟨x8, h3, H⟩ := An H
    rcases x8 with x9 | x10
    ·
     have H := EG H
     refine AE (Ml := []) (Zl := []) (M := [(q_p0, [.string (bs p0.1), .int .i64 p0.2])]) (Z := [row v3 3 (Rp.int .i64) x5, row v2 9 Rp.str x3]) (β := Unit) (rv := fun x => .tuple #[.int .i64 x9, .nilIface]) (MM := fun x => []) (ZZ := fun x => []) F W N8 Aa Aa (fun hL => Lb _ w x7 _ h3 (hG.go0 W)) fun x a w F W => ?_
     have W : Stw ⟨Y, X, w0⟩ [(q_p0, [.string (bs p0.1), .int .i64 p0.2])] [row v3 3 (Rp.int .i64) x5, row v2 9 Rp.str x3] w := W
     refine ls F W Aa (Ae F Aa).q fun a w F W => ?_
     refine ls F W Aa (AP (v := Value.int .i64 x9) F Aa Aa).q fun a w F W => ?_
     refine ls F W Aa (AP (v := Value.nilIface) F Aa Aa).q fun a w F W => ?_
     iterate 2 refine ls F W Aa (Ag F Aa).q fun a w F W => ?_
     refine Af (Ad (Aj ?_))
     obtain ⟨o3, G3, K3, L3⟩ := IB H
     refine AX (fun a w => ∃ x11 : Bool, some (Sum.inl x11) = some o3 ∧ Fr 61 [] [(0, .pointer (some ⟨q_p0, 0, none⟩)), (2, .int .i64 p2), (6, .slice none 0 0), (7, v3), (10, .int .i64 x9), (14, v2), (15, .int .i64 (x3.length : Int)), (16, .int .i64 x6), (40, .bool x11)] a ∧ Stw ⟨Y, X, w0⟩ [(q_p0, [.string (bs p0.1), .int .i64 p0.2])] [row v3 3 (Rp.int .i64) x5, row v2 9 Rp.str x3] w) ?_ ?_
     ·
      have H := G3
      clear G3 K3
      refine Ac ?_
      refine ls F W Aa (Ae F Aa).q fun a w F W => ?_
      refine ls F W Aa (Er Kk F Aa).q fun a w F W => ?_
      refine ls F W Aa (Ae F Aa).q fun a w F W => ?_
      refine Av F W (Ai F Aa Aa Aa Aa) Aa (Ao Aa) (Ae F Aa).q fun a w F W => ?_
      refine Av F W (Ai F Aa Aa Aa Aa) Aa (Ao Aa) (DM F Aa Aa).q fun a w F W => ?_
      refine ls F W Aa (Al F Aa Aa Aa).q fun a w F W => ?_
      refine ls F W Aa (Ae F Aa).q fun a w F W => ?_
      rcases Bool.eq_false_or_eq_true (decide (x9 < (-1125899906842624))) with hb | hb
      ·
       have H := AZ (BQ hb) H
       rw [hb] at F
       clear hb
       iterate 2 refine Cm F Aa Aa Aa Aa Aa Aa Aa fun a F => ?_
       refine ls F W Aa (Au F Aa Aa Aa).q fun a w F W => ?_
       refine ls F W Aa (Ae F Aa).q fun a w F W => ?_
       iterate 4 refine Cm F Aa Aa Aa Aa Aa Aa Aa fun a F => ?_
       refine ls F W Aa (Au F Aa Aa Aa).q fun a w F W => ?_
       refine Af (Ad ?_)
       have W := W.frontZ (i := 1) Aa Aa
       have W := W.frontZ (i := 1) Aa Aa
       exact ⟨_, H, F.re ⟨rfl, Aa, Aa, Aa, Aa, Aa, Aa, Aa, Aa, trivial⟩, W⟩
      have H := AY (BR hb) H
      rw [hb] at F
      clear hb
      refine Av F W (Ai F Aa Aa Aa Aa) Aa (Ao Aa) (Ae F Aa).q fun a w F W => ?_
      refine Av F W (Ai F Aa Aa Aa Aa) Aa (Ao Aa) (HV F Aa Aa).q fun a w F W => ?_
      refine ls F W Aa (Al F Aa Aa Aa).q fun a w F W => ?_
      refine ls F W Aa (Ae F Aa).q fun a w F W => ?_
      rcases Bool.eq_false_or_eq_true (decide (1125899906842624 < x9)) with hb | hb
      ·
       have H := AZ (BQ hb) H
       rw [hb] at F
       clear hb
       iterate 4 refine Cm F Aa Aa Aa Aa Aa Aa Aa fun a F => ?_
       refine ls F W Aa (Au F Aa Aa Aa).q fun a w F W => ?_
       refine Af (Ad ?_)
       have W := W.frontZ (i := 1) Aa Aa
       have W := W.frontZ (i := 1) Aa Aa
       exact ⟨_, H, F.re ⟨rfl, Aa, Aa, Aa, Aa, Aa, Aa, Aa, Aa, trivial⟩, W⟩
      have H := AY (BR hb) H
      rw [hb] at F
      clear hb
      refine Av F W (Ai F Aa Aa Aa Aa) Aa (Ao Aa) (Ae F Aa).q fun a w F W => ?_
      refine Ew (Ai F Aa Aa Aa Aa) ?_
      obtain ⟨x12, h4, H⟩ := An H
      refine ls F W Aa (Ba (v := Value.string (bs x12)) F Oa Aa (fun w W => Ky any w x9 _ h4 (hG.go0 W))) fun a w F W => ?_
      refine Av F W (Ai F Aa Aa Aa Aa) Aa (Ao Aa) (Ae F Aa).q fun a w F W => ?_
      refine Av F W (Ai F Aa Aa Aa Aa) Aa (Ao Aa) (JE (l := x12) (m := x7) F Aa Aa).q fun a w F W => ?_
      refine ls F W Aa (Al F Aa Aa Aa).q fun a w F W => ?_
      refine Af (Ad ?_)
      have W := W.frontZ (i := 1) Aa Aa
      have W := W.frontZ (i := 1) Aa Aa
      exact ⟨_, H, F.re ⟨rfl, Aa, Aa, Aa, Aa, Aa, Aa, Aa, Aa, trivial⟩, W⟩
     rintro a w ⟨x11, hj, F, W⟩
     have H := K3 _ hj
     clear hj G3 K3 L3
     refine AA F Aa (fun hb => ?_) fun hb => ?_
     ·
      have H := AZ hb H
      rw [hb] at F
      clear hb
      refine Ac ?_
      refine ls F W Aa (Ae F Aa).q fun a w F W => ?_
      refine BH (Ml := []) (Zl := []) (M := [(q_p0, [.string (bs p0.1), .int .i64 p0.2])]) (Z := [row v3 3 (Rp.int .i64) x5, row v2 9 Rp.str x3]) (β := Unit) (pv := fun x => .iface 75 (.agg #[.int .i64 (Ap p0)])) (MM := fun x => []) (ZZ := fun x => []) F W Ms Aa (fun hL => BD _ w q_p0 p0 _ Aa (Fs W 0 Aa)) fun x w W => ?_
      have W : Stw ⟨Y, X, w0⟩ [(q_p0, [.string (bs p0.1), .int .i64 p0.2])] [row v3 3 (Rp.int .i64) x5, row v2 9 Rp.str x3] w := W
      refine Bp (CT ?_)
      iterate 2 refine Bp ?_
      refine CT (Bp ?_)
      have H := L2 _ H
      have H := L1 _ H
      have H := A2 H
      subst H
      refine B7 F ?_
      have W := W.sub (M' := [(q_p0, [.string (bs p0.1), .int .i64 p0.2])]) (Z' := []) (List.Sublist.refl _) (List.nil_sublist _)
      exact ⟨(), Aa, W⟩
     have H := AY (by rw [hb]; decide) H
     rw [hb] at F
     clear hb
     refine Ax (Ad (Ac ?_))
     iterate 2 refine ls F W Aa (Ae F Aa).q fun a w F W => ?_
     refine D6 (z := Value.int .i64 0) (cs := [.int .i64 x9]) (Rp.int .i64) ([x9] : List Int) F W Aa GZ Z3 Aa Aa Aa Aa Aa Aa (Fl.int.repL _ _ ([x9] : List Int)) fun v4 a w F W => ?_
     obtain ⟨x13, h5, H⟩ := An H
     refine Fx (r := (Rp.int .i64)) (i := 1) F W Aa GZ Aa Aa Aa Aa (Gc W 0 Aa) h5 Aa fun v5 a w F W => ?_
     have W : Stw ⟨Y, X, w0⟩ [(q_p0, [.string (bs p0.1), .int .i64 p0.2])] [row v5 3 (Rp.int .i64) x13, row v4 3 (Rp.int .i64) ([x9] : List Int), row v2 9 Rp.str x3] w := W
     refine ls F W Aa (Ag F Aa).q fun a w F W => ?_
     refine Af (Bk (Ad (Ac ?_)))
     refine ls F W Aa (DJ F Aa Aa Aa).q fun a w F W => ?_
     refine ls F W Aa (Ae F Aa).q fun a w F W => ?_
     refine Af (Ad ?_)
     have W := W.frontZ (i := 2) Aa Aa
     have W := W.frontZ (i := 1) Aa Aa
     have W := W.sub (M' := [(q_p0, [.string (bs p0.1), .int .i64 p0.2])]) (Z' := [row v5 3 (Rp.int .i64) x13, row v2 9 Rp.str x3]) (List.Sublist.refl _) (List.Sublist.cons_cons _ (List.Sublist.cons_cons _ (List.nil_sublist _)))
     exact ⟨_, H, (v5), F.re ⟨rfl, Aa, Aa, Aa, Aa, Aa, Aa, trivial⟩, W⟩
    have H := EF H
    refine AE (Ml := []) (Zl := []) (M := [(q_p0, [.string (bs p0.1), .int .i64 p0.2])]) (Z := [row v3 3 (Rp.int .i64) x5, row v2 9 Rp.str x3]) (β := Nat) (rv := fun x => .tuple #[.int .i64 x10, .iface 109 (.pointer (some ⟨x, 0, none⟩))]) (MM := fun x => []) (ZZ := fun x => []) F W N8 Aa Aa (fun hL => Lb _ w x7 _ h3 (hG.go0 W)) fun x a w F W => ?_
    obtain ⟨b1, rfl⟩ : ∃ y, y = x := ⟨x, rfl⟩
    have W : Stw ⟨Y, X, w0⟩ [(q_p0, [.string (bs p0.1), .int .i64 p0.2])] [row v3 3 (Rp.int .i64) x5, row v2 9 Rp.str x3] w := W
    refine ls F W Aa (Ae F Aa).q fun a w F W => ?_
    refine ls F W Aa (AP (v := Value.int .i64 x10) F Aa Aa).q fun a w F W => ?_
    refine ls F W Aa (AP (v := Value.iface 109 (.pointer (some ⟨b1, 0, none⟩))) F Aa Aa).q fun a w F W => ?_
    iterate 2 refine ls F W Aa (Ag F Aa).q fun a w F W => ?_
    refine Af (Ad (Aj (Aj (Ac ?_))))
    refine ls F W Aa (Ae F Aa).q fun a w F W => ?_
    refine ls F W Aa (DU Kk F Aa).q fun a w F W => ?_
    refine ls F W Aa (Ae F Aa).q fun a w F W => ?_
    iterate 2 refine Cm F Aa Aa Aa Aa Aa Aa Aa fun a F => ?_
    refine ls F W Aa (Au F Aa Aa Aa).q fun a w F W => ?_
    refine ls F W Aa (Ae F Aa).q fun a w F W => ?_
    iterate 2 refine Cm F Aa Aa Aa Aa Aa Aa Aa fun a F => ?_
    refine ls F W Aa (Au F Aa Aa Aa).q fun a w F W => ?_
    refine ls F W Aa (Ae F Aa).q fun a w F W => ?_
    iterate 4 refine Cm F Aa Aa Aa Aa Aa Aa Aa fun a F => ?_
    refine ls F W Aa (Au F Aa Aa Aa).q fun a w F W => ?_
    refine Af (Ad ?_)
    refine Gg F Aa ?_
    refine Ac ?_
    refine ls F W Aa (Ae F Aa).q fun a w F W => ?_
    refine BH (Ml := []) (Zl := []) (M := [(q_p0, [.string (bs p0.1), .int .i64 p0.2])]) (Z := [row v3 3 (Rp.int .i64) x5, row v2 9 Rp.str x3]) (β := Unit) (pv := fun x => .iface 75 (.agg #[.int .i64 (Ap p0)])) (MM := fun x => []) (ZZ := fun x => []) F W Ms Aa (fun hL => BD _ w q_p0 p0 _ Aa (Fs W 0 Aa)) fun x w W => ?_
    have W : Stw ⟨Y, X, w0⟩ [(q_p0, [.string (bs p0.1), .int .i64 p0.2])] [row v3 3 (Rp.int .i64) x5, row v2 9 Rp.str x3] w := W
    refine Bp (CT ?_)
    iterate 2 refine Bp ?_
    refine CT (Bp ?_)
    have H := L2 _ H
    have H := L1 _ H
    have H := A2 H
    subst H
    refine B7 F ?_
    have W := W.sub (M' := [(q_p0, [.string (bs p0.1), .int .i64 p0.2])]) (Z' := []) (List.Sublist.refl _) (List.nil_sublist _)
    exact ⟨(), Aa, W⟩
   have H := AY (BR hb) H
   rw [hb] at F
   clear hb
   refine Ci ?_
   iterate 2 refine CM ?_
   refine Cj (Ad ?_)
   have W := W.sub (M' := [(q_p0, [.string (bs p0.1), .int .i64 p0.2])]) (Z' := [row v3 3 (Rp.int .i64) x5]) (List.Sublist.refl _) (List.Sublist.cons_cons _ (List.nil_sublist _))
   have H := L2 _ H
   exact ⟨_, (v3), H, F.re ⟨rfl, Aa, Aa, Aa, trivial⟩, W⟩
  have H := EF H
  refine BH (Ml := []) (Zl := []) (M := [(q_p0, [.string (bs p0.1), .int .i64 p0.2])]) (Z := []) (β := Unit) (pv := fun x => .iface 75 (.agg #[.int .i64 x4])) (MM := fun x => []) (ZZ := fun x => []) F W Nk Aa (fun hL => CR _ w q_p0 p0 p1 _ h1 (Fs W 0 Aa) (hG.go0 W)) fun x w W => ?_
  have W : Stw ⟨Y, X, w0⟩ [(q_p0, [.string (bs p0.1), .int .i64 p0.2])] [] w := W
  iterate 2 refine Bp ?_
  have H := L1 _ H
  have H := A2 H
  subst H
  refine B7 F ?_
  exact ⟨(), Aa, W⟩
 rintro a w ⟨x1, v1, hj, F, W⟩
 have H := K1 _ hj
 clear hj G1 K1 L1
 refine Aj ?_
 refine AX (fun a w => Fr 61 [] [(0, .pointer (some ⟨q_p0, 0, none⟩)), (6, .slice none 0 0), (7, v1), (55, .bool (decide (p2 ≠ (-1)) && decide ((x1.length : Int) ≠ p2)))] a ∧ Stw ⟨Y, X, w0⟩ [(q_p0, [.string (bs p0.1), .int .i64 p0.2])] [row v1 3 (Rp.int .i64) x1] w) ?_ ?_
 ·
  refine Ac ?_
  refine ls F W Aa (Ae F Aa).q fun a w F W => ?_
  refine ls F W Aa (Fe F Aa Aa).q fun a w F W => ?_
  refine ls F W Aa (Ae F Aa).q fun a w F W => ?_
  rcases Bool.eq_false_or_eq_true (decide (p2 ≠ (-1))) with hb0 | hb0
  ·
   rw [hb0] at F
   refine Av F W (Ai F Aa Aa Aa Aa) Aa (Ao Aa) (Ae F Aa).q fun a w F W => ?_
   refine Av F W (Ai F Aa Aa Aa Aa) Aa (Ao Aa) (Dg (r := (Rp.int .i64)) (l := x1) J5 Aa F Aa (AO 0 Aa)).q fun a w F W => ?_
   refine Av F W (Ai F Aa Aa Aa Aa) Aa (Ao Aa) (Ae F Aa).q fun a w F W => ?_
   refine Av F W (Ai F Aa Aa Aa Aa) Aa (Ao Aa) (Fe F Aa Aa).q fun a w F W => ?_
   refine ls F W Aa (Au F Aa Aa Aa).q fun a w F W => ?_
   refine Af (Ad ?_)
   exact ⟨F.re ⟨rfl, Aa, Aa, (IY (by try rw [hb0]; all_goals simp only [IP])), trivial⟩, W⟩
  rw [hb0] at F
  iterate 4 refine Cm F Aa Aa Aa Aa Aa Aa Aa fun a F => ?_
  refine ls F W Aa (Al F Aa Aa Aa).q fun a w F W => ?_
  refine Af (Ad ?_)
  exact ⟨F.re ⟨rfl, Aa, Aa, (IY (by try rw [hb0]; all_goals simp only [IP])), trivial⟩, W⟩
 rintro a w ⟨F, W⟩
 refine AA F Aa (fun hb => ?_) fun hb => ?_
 ·
  have H := AZ hb H
  rw [hb] at F
  clear hb
  refine Ac ?_
  refine ls F W Aa (Ae F Aa).q fun a w F W => ?_
  refine BH (Ml := []) (Zl := []) (M := [(q_p0, [.string (bs p0.1), .int .i64 p0.2])]) (Z := [row v1 3 (Rp.int .i64) x1]) (β := Unit) (pv := fun x => .iface 75 (.agg #[.int .i64 (Ap p0)])) (MM := fun x => []) (ZZ := fun x => []) F W Ms Aa (fun hL => BD _ w q_p0 p0 _ Aa (Fs W 0 Aa)) fun x w W => ?_
  have W : Stw ⟨Y, X, w0⟩ [(q_p0, [.string (bs p0.1), .int .i64 p0.2])] [row v1 3 (Rp.int .i64) x1] w := W
  refine Bp ?_
  have H := A2 H
  subst H
  refine B7 F ?_
  have W := W.sub (M' := [(q_p0, [.string (bs p0.1), .int .i64 p0.2])]) (Z' := []) (List.Sublist.refl _) (List.nil_sublist _)
  exact ⟨(), Aa, W⟩
 have H := AY (by rw [hb]; decide) H
 rw [hb] at F
 clear hb
 refine Ax (Ad (Aj (Ac ?_)))
 refine ls F W Aa (Ae F Aa).q fun a w F W => ?_
 obtain ⟨x14, h6, H⟩ := An H
 refine AE (Ml := [(q_p0, [.string (bs p0.1), .int .i64 p0.2])]) (Zl := []) (M := []) (Z := [row v1 3 (Rp.int .i64) x1]) (β := Unit) (rv := fun x => .tuple #[]) (MM := fun x => [(q_p0, [.string (bs x14.1), .int .i64 x14.2])]) (ZZ := fun x => []) F W N0 Aa Aa (fun hL => Em _ _ w q_p0 p0 _ h6 (hG.go W) hL) fun x a w F W => ?_
 have W : Stw ⟨Y, X, w0⟩ [(q_p0, [.string (bs x14.1), .int .i64 x14.2])] [row v1 3 (Rp.int .i64) x1] w := W
 refine Af (Ad (Aj (Ac ?_)))
 refine ls F W Aa (Ae F Aa).q fun a w F W => ?_
 refine ls F W Aa (Ag F Aa).q fun a w F W => ?_
 refine Af (Ad (A1 ?_))
 have H := A2 H
 subst H
 refine Ck (.inl Aa) F W Aa (AL F Aa) ?_
 exact ⟨(v1), Aa, W⟩
theorem Mo : Has Tryd.prog 21 := ⟨fun args w => Am Tryd.func21 rfl (by decide) args w⟩
noncomputable def AG (p0 : List UInt8 × Int) (p1 : List UInt8) : Option ((Int × (List UInt8 × Int)) ⊕ (Int × (List UInt8 × Int))) := (AJ p0 p1 1).bind fun x1 => B3 x1 (fun x2 => (ix x2.1 0).bind fun x4 => some (.inl (x4, x2.2))) (fun x3 => some (.inr (x3.1, x3.2)))
theorem Ay (Y : Nat → Prop) (X : List Nat) (w0 : World) (q_p0 : Nat) (p0 : List UInt8 × Int) (p1 : List UInt8) (r : (Int × (List UInt8 × Int)) ⊕ (Int × (List UInt8 × Int))) (H : AG p0 p1 = some r) (hG : Gk X w0) (hL : Stw ⟨Y, X, w0⟩ [(q_p0, [.string (bs p0.1), .int .i64 p0.2])] [] w0) :
    Calls Tryd.prog 19 #[.pointer (some ⟨q_p0, 0, none⟩), .string (bs p1)] w0 fun e w' => HP r (fun r => ∃ x : Unit, e = .returned (.int .i64 r.1) ∧ Stw ⟨Y, X, w0⟩ [(q_p0, [.string (bs r.2.1), .int .i64 r.2.2])] [] w') (fun r => ∃ x : Unit, e = .panicked [{ v := .iface 75 (.agg #[.int .i64 r.1]), recovered := false }] ∧ Stw ⟨Y, X, w0⟩ [(q_p0, [.string (bs r.2.1), .int .i64 r.2.2])] [] w') := by
 refine enter Tryd.func19 Aa Tryd.ntmps19 Aa fun a F => ?_
 have W := hL
 unfold AG at H
 refine Aj (Ac ?_)
 refine ls F W Aa (Ag F Aa).q fun a w F W => ?_
 refine Af (Ad (Aj (Ac ?_)))
 iterate 2 refine ls F W Aa (Ae F Aa).q fun a w F W => ?_
 obtain ⟨x1, h1, H⟩ := An H
 rcases x1 with x2 | x3
 ·
  have H := EG H
  refine AE (Ml := [(q_p0, [.string (bs p0.1), .int .i64 p0.2])]) (Zl := []) (M := []) (Z := []) (β := Value) (rv := fun x => x) (MM := fun x => [(q_p0, [.string (bs x2.2.1), .int .i64 x2.2.2])]) (ZZ := fun x => [row x 3 (Rp.int .i64) x2.1]) F W Mo Aa Aa (fun hL => Bm _ _ w q_p0 p0 p1 1 _ h1 (hG.go W) hL) fun x a w F W => ?_
  obtain ⟨v1, rfl⟩ : ∃ y, y = x := ⟨x, rfl⟩
  have W : Stw ⟨Y, X, w0⟩ [(q_p0, [.string (bs x2.2.1), .int .i64 x2.2.2])] [row v1 3 (Rp.int .i64) x2.1] w := W
  obtain ⟨x4, h2, H⟩ := An H
  refine ls F W Aa (Cv (r := (Rp.int .i64)) GZ F Aa Aa (AO 0 Aa) h2).q fun a w F W => ?_
  refine ls F W Aa (A3 (y := Value.int .i64 x4) (j := 0) (i := 0) F Aa Aa (AO 0 Aa) h2 Fl.int.to T3 Aa).q fun a w F W => ?_
  refine ls F W Aa (Ag F Aa).q fun a w F W => ?_
  refine Af (Ad (A1 ?_))
  have H := A2 H
  subst H
  refine Ck (.inl Aa) F W Aa (AL F Aa) ?_
  have W := W.sub (M' := [(q_p0, [.string (bs x2.2.1), .int .i64 x2.2.2])]) (Z' := []) (List.Sublist.refl _) (List.nil_sublist _)
  exact ⟨(), Aa, W⟩
 have H := EF H
 refine BH (Ml := [(q_p0, [.string (bs p0.1), .int .i64 p0.2])]) (Zl := []) (M := []) (Z := []) (β := Unit) (pv := fun x => .iface 75 (.agg #[.int .i64 x3.1])) (MM := fun x => [(q_p0, [.string (bs x3.2.1), .int .i64 x3.2.2])]) (ZZ := fun x => []) F W Mo Aa (fun hL => Bm _ _ w q_p0 p0 p1 1 _ h1 (hG.go W) hL) fun x w W => ?_
 have W : Stw ⟨Y, X, w0⟩ [(q_p0, [.string (bs x3.2.1), .int .i64 x3.2.2])] [] w := W
 refine Bp ?_
 have H := A2 H
 subst H
 refine B7 F ?_
 exact ⟨(), Aa, W⟩
theorem Jz : Has Tryd.prog 19 := ⟨fun args w => Am Tryd.func19 rfl (by decide) args w⟩
noncomputable def Bi (p0 : List UInt8 × Int) (p1 : List UInt8) : Option (Bool ⊕ Int) := (Bc p0).bind fun x1 => B3 x1 (fun x2 => (GP x2 ([32] : List UInt8)).bind fun x4 => some (.inl (decide (x4.1 = p1)))) (fun x3 => some (.inr x3))
theorem BV (Y : Nat → Prop) (w0 : World) (q_p0 : Nat) (p0 : List UInt8 × Int) (p1 : List UInt8) (r : Bool ⊕ Int) (H : Bi p0 p1 = some r) (a_q_p0 : At ⟨Y, [], w0⟩ q_p0 0 [.string (bs p0.1), .int .i64 p0.2]) (hG : Gk [] w0) :
    Calls Tryd.prog 20 #[.pointer (some ⟨q_p0, 0, none⟩), .string (bs p1)] w0 fun e w' => HP r (fun r => ∃ x : Unit, e = .returned (.bool r) ∧ Stw ⟨Y, [], w0⟩ [] [] w') (fun r => ∃ x : Unit, e = .panicked [{ v := .iface 75 (.agg #[.int .i64 r]), recovered := false }] ∧ Stw ⟨Y, [], w0⟩ [] [] w') := by
 refine enter Tryd.func20 Aa Tryd.ntmps20 Aa fun a F => ?_
 have W := Stw.start Y w0
 unfold Bi at H
 refine Aj (Ac ?_)
 refine ls F W Aa (Ag F Aa).q fun a w F W => ?_
 refine Af (Ad (Aj (Ac ?_)))
 refine ls F W Aa (Ae F Aa).q fun a w F W => ?_
 obtain ⟨x1, h1, H⟩ := An H
 rcases x1 with x2 | x3
 ·
  have H := EG H
  refine AE (Ml := []) (Zl := []) (M := []) (Z := []) (β := Unit) (rv := fun x => .string (bs x2)) (MM := fun x => []) (ZZ := fun x => []) F W Nq Aa Aa (fun hL => CY _ w q_p0 p0 _ h1 (At.re a_q_p0 W) (hG.go0 W)) fun x a w F W => ?_
  have W : Stw ⟨Y, [], w0⟩ [] [] w := W
  obtain ⟨x4, h2, H⟩ := An H
  refine ls F W Aa (Ba (v := Value.tuple #[.string (bs x4.1), .string (bs x4.2.1), .bool x4.2.2]) F NP Aa (fun w W => Ks any w x2 ([32] : List UInt8) _ h2 (hG.go0 W))) fun a w F W => ?_
  refine ls F W Aa (Ae F Aa).q fun a w F W => ?_
  refine ls F W Aa (AP (v := Value.string (bs x4.1)) F Aa Aa).q fun a w F W => ?_
  refine ls F W Aa (AP (v := Value.string (bs x4.2.1)) F Aa Aa).q fun a w F W => ?_
  refine ls F W Aa (AP (v := Value.bool x4.2.2) F Aa Aa).q fun a w F W => ?_
  iterate 3 refine ls F W Aa (Ag F Aa).q fun a w F W => ?_
  refine Af (Ad (Aj (Ac ?_)))
  iterate 2 refine ls F W Aa (Ae F Aa).q fun a w F W => ?_
  refine ls F W Aa (JP (l := x4.1) (m := p1) F Aa Aa).q fun a w F W => ?_
  refine ls F W Aa (Ag F Aa).q fun a w F W => ?_
  refine Af (Ad (A1 ?_))
  have H := A2 H
  subst H
  refine Ck (.inl Aa) F W Aa (AL F Aa) ?_
  exact ⟨(), Aa, W⟩
 have H := EF H
 refine BH (Ml := []) (Zl := []) (M := []) (Z := []) (β := Unit) (pv := fun x => .iface 75 (.agg #[.int .i64 x3])) (MM := fun x => []) (ZZ := fun x => []) F W Nq Aa (fun hL => CY _ w q_p0 p0 _ h1 (At.re a_q_p0 W) (hG.go0 W)) fun x w W => ?_
 have W : Stw ⟨Y, [], w0⟩ [] [] w := W
 refine Bp ?_
 have H := A2 H
 subst H
 refine B7 F ?_
 exact ⟨(), Aa, W⟩
theorem MV : Has Tryd.prog 20 := ⟨fun args w => Am Tryd.func20 rfl (by decide) args w⟩
theorem Ou : Bt Tryd.prog 41 [.int .i64 0, .int .i64 0, .int .i64 0, .int .i64 0, .int .i64 0, .int .i64 0] [(0, 1), (1, 1), (2, 1), (3, 1), (4, 1), (5, 1)] := ⟨⟨.agg #[.int .i64 0, .int .i64 0, .int .i64 0, .int .i64 0, .int .i64 0, .int .i64 0], by kernel_rfl, rfl⟩, ⟨_, IV, fun w => by kernel_rfl⟩⟩
theorem OK : (Tryd.prog.info? 75).bind (·.zero) = some (.agg #[.int .i64 0]) := by kernel_rfl
theorem OD : Ty Tryd.prog 75 true 1 := ⟨by kernel_rfl, by kernel_rfl⟩
def B0 (p0 : Int) : Int := p0
theorem Hn (Y : Nat → Prop) (w0 : World)  (p0 : Int) (r : Int) (H : B0 p0 = r)  :
    Calls Tryd.prog 18 #[.iface 75 (.agg #[.int .i64 p0])] w0 fun e w' => e = .returned (.int .i64 r) ∧ Below w0.heap.size w0 w' := by
 refine enter Tryd.func18 Aa Tryd.ntmps18 Aa fun a F => ?_
 have W := Stw.start Y w0
 unfold B0 at H
 refine Aj (Ac ?_)
 refine ls F W Aa (Ag F Aa).q fun a w F W => ?_
 refine Af (Ad (Aj (Ac ?_)))
 refine ls F W Aa (Ae F Aa).q fun a w F W => ?_
 refine ls F W Aa (Iy N6 F Aa).q fun a w F W => ?_
 refine ls F W Aa (Ae F Aa).q fun a w F W => ?_
 refine ls F W Aa (AP (v := Value.agg #[.int .i64 p0]) F Aa Aa).q fun a w F W => ?_
 refine ls F W Aa (AP (v := Value.bool true) F Aa Aa).q fun a w F W => ?_
 refine Ep (cs := [.int .i64 0]) F W Aa OK Aa fun b1 a w F W => ?_
 refine Ch (vs := [.int .i64 p0]) (M' := [(b1, [.int .i64 p0])]) 0 F W Aa Aa Aa OD Aa Aa Aa Aa Aa fun w W => ?_
 refine ls F W Aa (Ag F Aa).q fun a w F W => ?_
 refine Af (Ad (Aj (Aj (Ac ?_))))
 refine ls F W Aa (Ae F Aa).q fun a w F W => ?_
 refine ls F W Aa (JO F Aa).q fun a w F W => ?_
 refine Af (Ad ?_)
 refine He F Aa ?_
 refine Ax (Ad (Aj (Ac ?_)))
 refine ls F W Aa (Ak Nb Aa Aa Aa T3 F Aa 0 Aa).q fun a w F W => ?_
 refine ls F W Aa (AW (v := Value.int .i64 p0) 0 F Aa Aa T3 Aa).q fun a w F W => ?_
 refine ls F W Aa (Ag F Aa).q fun a w F W => ?_
 refine Af (Ad (A1 ?_))
 subst H
 refine Ck (.inl Aa) F W Aa (AL F Aa) ?_
 exact ⟨rfl, W.done⟩
theorem Nd : type_of% Tryd.underlying20 := Tryd.underlying20
theorem Oo : Has Tryd.prog 18 := ⟨fun args w => Am Tryd.func18 rfl (by decide) args w⟩
theorem IA : Ty Tryd.prog 33 false 1 := ⟨by kernel_rfl, by kernel_rfl⟩
abbrev FD  : List Value := [.int .i64 0, .slice none 0 0, .slice none 0 0, .slice none 0 0, .slice none 0 0, .int .i64 0, .int .i64 0, .int .i64 0, .int .i64 0, .int .i64 0, .int .i64 0]
def Ab (p0 : (Int × (List (Int × Int × Int × Int × Int × Int)) × (List (Int × Int))) × List (List Int) × List Int × Int × Int × Int × Int × Int × Int) (p1 : Int) (p2 : Int) (pc : Int) : ((Int × (List (Int × Int × Int × Int × Int × Int)) × (List (Int × Int))) × List (List Int) × List Int × Int × Int × Int × Int × Int × Int) × Int × Int := (((0, ([] : List (Int × Int × Int × Int × Int × Int)), ([] : List (Int × Int))), ([] : List (List Int)), ([] : List Int), 0, 0, 0, 0, 0, 0), (B0 pc), 10)
theorem Aw (Y : Nat → Prop) (X : List Nat) (w0 : World) (q_p0 : Nat) (v1 : Value) (v2 : Value) (v3 : Value) (v4 : Value) (q_p1 : Nat) (q_p2 : Nat) (p0 : (Int × (List (Int × Int × Int × Int × Int × Int)) × (List (Int × Int))) × List (List Int) × List Int × Int × Int × Int × Int × Int × Int) (p1 : Int) (p2 : Int) (pc : Int) (r : ((Int × (List (Int × Int × Int × Int × Int × Int)) × (List (Int × Int))) × List (List Int) × List Int × Int × Int × Int × Int × Int × Int) × Int × Int) (H : Ab p0 p1 p2 pc = r) (hL : Stw ⟨Y, X, w0⟩ [(q_p0, [.int .i64 p0.1.1, v1, v2, v3, v4, .int .i64 p0.2.2.2.1, .int .i64 p0.2.2.2.2.1, .int .i64 p0.2.2.2.2.2.1, .int .i64 p0.2.2.2.2.2.2.1, .int .i64 p0.2.2.2.2.2.2.2.1, .int .i64 p0.2.2.2.2.2.2.2.2]), (q_p1, [.int .i64 p1]), (q_p2, [.int .i64 p2])] [row v1 41 Bu p0.1.2.1, row v2 43 BC p0.1.2.2, row v3 39 (Rp.slice (Rp.int .u64)) p0.2.1, row v4 3 (Rp.int .i64) p0.2.2.1] w0) :
    CallsD Tryd.prog 17 #[.pointer (some ⟨q_p0, 0, none⟩), .pointer (some ⟨q_p1, 0, none⟩), .pointer (some ⟨q_p2, 0, none⟩)] (.panicking ({ v := .iface 75 (.agg #[.int .i64 pc]), recovered := false } :: [])) w0 fun e u' w' => u' = .panicking ({ v := .iface 75 (.agg #[.int .i64 pc]), recovered := true } :: []) ∧ (∃ x : Value × Value × Value × Value, e = .returned (.tuple #[]) ∧ Stw ⟨Y, X, w0⟩ [(q_p0, [.int .i64 r.1.1.1, x.1, x.2.1, x.2.2.1, x.2.2.2, .int .i64 r.1.2.2.2.1, .int .i64 r.1.2.2.2.2.1, .int .i64 r.1.2.2.2.2.2.1, .int .i64 r.1.2.2.2.2.2.2.1, .int .i64 r.1.2.2.2.2.2.2.2.1, .int .i64 r.1.2.2.2.2.2.2.2.2]), (q_p1, [.int .i64 r.2.1]), (q_p2, [.int .i64 r.2.2])] [row (x.1) 41 Bu r.1.1.2.1, row (x.2.1) 43 BC r.1.1.2.2, row (x.2.2.1) 39 (Rp.slice (Rp.int .u64)) r.1.2.1, row (x.2.2.2) 3 (Rp.int .i64) r.1.2.2.1] w') := by
 refine HH Tryd.func17 Aa Tryd.ntmps17 Aa Aa Aa fun a F => ?_
 have W := hL
 unfold Ab at H
 refine Aj (Ac ?_)
 refine ls F W Aa (Ae F Aa).q fun a w F W => ?_
 refine ls F W Aa (DU Nd F Aa).q fun a w F W => ?_
 refine Af (Ad ?_)
 refine Gg F Aa ?_
 refine Ac ?_
 refine ls F W Aa (EU (v := Value.agg #[.int .i64 0, .slice none 0 0, .slice none 0 0, .slice none 0 0, .slice none 0 0, .int .i64 0, .int .i64 0, .int .i64 0, .int .i64 0, .int .i64 0, .int .i64 0]) NE F Aa Aa Aa).q fun a w F W => ?_
 refine ls F W Aa (Ae F Aa).q fun a w F W => ?_
 refine ls F W Aa (Ba (v := Value.int .i64 (B0 pc)) F Oo Aa (fun w W => Hn any w pc _ Aa)) fun a w F W => ?_
 refine Ch (vs := (FD)) (M' := [(q_p0, (FD)), (q_p1, [.int .i64 p1]), (q_p2, [.int .i64 p2])]) 0 F W Aa Aa Aa Gv Aa Aa Aa Aa Aa fun w W => ?_
 refine Ch (vs := [.int .i64 (B0 pc)]) (M' := [(q_p0, (FD)), (q_p1, [.int .i64 (B0 pc)]), (q_p2, [.int .i64 p2])]) 1 F W Aa Aa Aa T3 Aa Aa Aa Aa Aa fun w W => ?_
 refine Ch (vs := [.int .i64 10]) (M' := [(q_p0, (FD)), (q_p1, [.int .i64 (B0 pc)]), (q_p2, [.int .i64 10])]) 2 F W Aa Aa Aa IA Aa Aa Aa Aa Aa fun w W => ?_
 refine Af ?_
 subst H
 refine JU (.inr Aa) F Aa ?_
 have W := W.nilRow 41 Bu
 have W := W.nilRow 43 BC
 have W := W.nilRow 39 (Rp.slice (Rp.int .u64))
 have W := W.nilRow 3 (Rp.int .i64)
 have W := W.frontZ (i := 1) Aa Aa
 have W := W.frontZ (i := 2) Aa Aa
 have W := W.frontZ (i := 3) Aa Aa
 have W := W.frontM (i := 2) Aa Aa
 have W := W.frontM (i := 2) Aa Aa
 have W := W.frontM (i := 2) Aa Aa
 have W := W.sub (M' := [(q_p0, (FD)), (q_p1, [.int .i64 (B0 pc)]), (q_p2, [.int .i64 10])]) (Z' := [row (Value.slice none 0 0) 41 Bu ([]), row (Value.slice none 0 0) 43 BC ([]), row (Value.slice none 0 0) 39 (Rp.slice (Rp.int .u64)) ([]), row (Value.slice none 0 0) 3 (Rp.int .i64) ([])]) (List.Sublist.refl _) (List.Sublist.cons_cons _ (List.Sublist.cons_cons _ (List.Sublist.cons_cons _ (List.Sublist.cons_cons _ (List.nil_sublist _)))))
 exact ⟨((Value.slice none 0 0), (Value.slice none 0 0), (Value.slice none 0 0), (Value.slice none 0 0)), Aa, W⟩
theorem Jh : Has Tryd.prog 17 := ⟨fun args w => Am Tryd.func17 rfl (by decide) args w⟩
theorem Oj : Bt Tryd.prog 43 [.int .i64 0, .int .i64 0] [(0, 1), (1, 1)] := ⟨⟨.agg #[.int .i64 0, .int .i64 0], by kernel_rfl, rfl⟩, ⟨_, LE, fun w => by kernel_rfl⟩⟩
theorem Je : (Tryd.prog.underlying 106).map (fun d => match d with | .interface _ => true | _ => false) = some false := by kernel_rfl
def Ah (p0 : Int) : Int := ND .u8 p0 32
theorem As (Y : Nat → Prop) (w0 : World)  (p0 : Int) (r : Int) (H : Ah p0 = r)  :
    Calls Tryd.prog 71 #[.int .u8 p0] w0 fun e w' => e = .returned (.int .u8 r) ∧ Below w0.heap.size w0 w' := by
 refine enter Tryd.func71 Aa Tryd.ntmps71 Aa fun a F => ?_
 have W := Stw.start Y w0
 unfold Ah at H
 refine Aj (Ac ?_)
 refine ls F W Aa (Ag F Aa).q fun a w F W => ?_
 refine Af (Ad (Aj (Ac ?_)))
 refine ls F W Aa (Ae F Aa).q fun a w F W => ?_
 refine ls F W Aa (Ny F Aa Aa).q fun a w F W => ?_
 refine ls F W Aa (Ag F Aa).q fun a w F W => ?_
 refine Af (Ad (A1 ?_))
 subst H
 refine Ck (.inl Aa) F W Aa (AL F Aa) ?_
 exact ⟨rfl, W.done⟩
end Go.Proofs.YthmkgdnnocemmaaDoor
