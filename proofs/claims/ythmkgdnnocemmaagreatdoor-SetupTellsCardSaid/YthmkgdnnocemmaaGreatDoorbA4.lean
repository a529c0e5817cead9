/- The functions of layer 40, GQ. Conditions: none. -/
import Derived.Test.YthmkgdnnocemmaaGreatDoorbA3
namespace Go.Proofs.YthmkgdnnocemmaaGreatDoor
open Go Go.RowKit
set_option linter.unusedVariables false
set_option linter.unusedSimpArgs false
set_option maxRecDepth 20000
theorem TZ : Has Tryz.prog 48 := ⟨fun args w => Af Tryz.func48 rfl (by decide) args w⟩
abbrev Jf (a0 : Nat) (a1 : Nat) (a2 : (Int × (List (Int × Int × Int × Int × Int × Int)) × (List (Int × Int))) × List (List Int) × List Int × Int × Int × Int × Int × Int × Int) (a3 : Value) : List (Nat × List Value) := [(a0, [.int .i64 0, .slice none 0 0, .slice none 0 0, .slice none 0 0, .slice none 0 0, .int .i64 0, .int .i64 0, .int .i64 0, .int .i64 0, .int .i64 0, .int .i64 0]), (a1, [.int .i64 a2.1.1, a3, .slice none 0 0, .slice none 0 0, .slice none 0 0, .int .i64 a2.2.2.2.1, .int .i64 a2.2.2.2.2.1, .int .i64 a2.2.2.2.2.2.1, .int .i64 a2.2.2.2.2.2.2.1, .int .i64 a2.2.2.2.2.2.2.2.1, .int .i64 a2.2.2.2.2.2.2.2.2])]
abbrev Pb (a0 : (Int × (List (Int × Int × Int × Int × Int × Int)) × (List (Int × Int))) × List (List Int) × List Int × Int × Int × Int × Int × Int × Int) (a1 : Value) : List Value := [.int .i64 a0.1.1, a1, .slice none 0 0, .slice none 0 0, .slice none 0 0, .int .i64 a0.2.2.2.1, .int .i64 a0.2.2.2.2.1, .int .i64 a0.2.2.2.2.2.1, .int .i64 a0.2.2.2.2.2.2.1, .int .i64 a0.2.2.2.2.2.2.2.1, .int .i64 a0.2.2.2.2.2.2.2.2]
abbrev Jc (a0 : Nat) (a1 : Nat) (a2 : (Int × (List (Int × Int × Int × Int × Int × Int)) × (List (Int × Int))) × List (List Int) × List Int × Int × Int × Int × Int × Int × Int) (a3 : Value) (a4 : Value) : List (Nat × List Value) := [(a0, [.int .i64 0, .slice none 0 0, .slice none 0 0, .slice none 0 0, .slice none 0 0, .int .i64 0, .int .i64 0, .int .i64 0, .int .i64 0, .int .i64 0, .int .i64 0]), (a1, [.int .i64 a2.1.1, a3, a4, .slice none 0 0, .slice none 0 0, .int .i64 a2.2.2.2.1, .int .i64 a2.2.2.2.2.1, .int .i64 a2.2.2.2.2.2.1, .int .i64 a2.2.2.2.2.2.2.1, .int .i64 a2.2.2.2.2.2.2.2.1, .int .i64 a2.2.2.2.2.2.2.2.2])]
abbrev PA (a0 : (Int × (List (Int × Int × Int × Int × Int × Int)) × (List (Int × Int))) × List (List Int) × List Int × Int × Int × Int × Int × Int × Int) (a1 : Value) (a2 : Value) : List Value := [.int .i64 a0.1.1, a1, a2, .slice none 0 0, .slice none 0 0, .int .i64 a0.2.2.2.1, .int .i64 a0.2.2.2.2.1, .int .i64 a0.2.2.2.2.2.1, .int .i64 a0.2.2.2.2.2.2.1, .int .i64 a0.2.2.2.2.2.2.2.1, .int .i64 a0.2.2.2.2.2.2.2.2]
abbrev Jd (a0 : Nat) (a1 : Nat) (a2 : (Int × (List (Int × Int × Int × Int × Int × Int)) × (List (Int × Int))) × List (List Int) × List Int × Int × Int × Int × Int × Int × Int) (a3 : Value) (a4 : Value) (a5 : Value) : List (Nat × List Value) := [(a0, [.int .i64 0, .slice none 0 0, .slice none 0 0, .slice none 0 0, .slice none 0 0, .int .i64 0, .int .i64 0, .int .i64 0, .int .i64 0, .int .i64 0, .int .i64 0]), (a1, [.int .i64 a2.1.1, a3, a4, a5, .slice none 0 0, .int .i64 a2.2.2.2.1, .int .i64 a2.2.2.2.2.1, .int .i64 a2.2.2.2.2.2.1, .int .i64 a2.2.2.2.2.2.2.1, .int .i64 a2.2.2.2.2.2.2.2.1, .int .i64 a2.2.2.2.2.2.2.2.2])]
abbrev QQ (a0 : Nat) (a1 : (Int × (List (Int × Int × Int × Int × Int × Int)) × (List (Int × Int))) × List (List Int) × List Int × Int × Int × Int × Int × Int × Int) (a2 : Value) (a3 : Value) (a4 : Value) (a5 : Nat) : List (Nat × List Value) := [(a0, [.int .i64 a1.1.1, a2, a3, a4, .slice none 0 0, .int .i64 a1.2.2.2.1, .int .i64 a1.2.2.2.2.1, .int .i64 a1.2.2.2.2.2.1, .int .i64 a1.2.2.2.2.2.2.1, .int .i64 a1.2.2.2.2.2.2.2.1, .int .i64 a1.2.2.2.2.2.2.2.2]), (a5, [.int .i64 a1.1.1, a2, a3, a4, .slice none 0 0, .int .i64 a1.2.2.2.1, .int .i64 a1.2.2.2.2.1, .int .i64 a1.2.2.2.2.2.1, .int .i64 a1.2.2.2.2.2.2.1, .int .i64 a1.2.2.2.2.2.2.2.1, .int .i64 a1.2.2.2.2.2.2.2.2])]
noncomputable def Cp (p0 : List (List UInt8)) (p1 : (Int × (List (Int × Int × Int × Int × Int × Int)) × (List (Int × Int))) × List (List Int) × List Int × Int × Int × Int × Int × Int × Int) : (Int × (List (Int × Int × Int × Int × Int × Int))) → Option ((Int × (List (Int × Int × Int × Int × Int × Int))) ⊕ ((Int × (List (Int × Int × Int × Int × Int × Int))) ⊕ (((Int × (List (Int × Int × Int × Int × Int × Int)) × (List (Int × Int))) × List (List Int) × List Int × Int × Int × Int × Int × Int × Int) × Int × Bool)))
  | (x3, x4) => (Ba p0 x3 ([108, 105, 110, 107] : List UInt8)).bind fun x5 => (if x5 = true then (ix p0 x3).bind fun x6 => (Dn x6 6).bind fun x7 => (if (!x7.2) = true then some (.inr (.inr (((p1.1.1, x4, ([] : List (Int × Int))), ([] : List (List Int)), ([] : List Int), p1.2.2.2.1, p1.2.2.2.2.1, p1.2.2.2.2.2.1, p1.2.2.2.2.2.2.1, p1.2.2.2.2.2.2.2.1, p1.2.2.2.2.2.2.2.2), x3, false))) else (ix x7.1 0).bind fun x8 => (ix x7.1 1).bind fun x9 => (ix x7.1 2).bind fun x10 => (ix x7.1 3).bind fun x11 => (ix x7.1 4).bind fun x12 => (ix x7.1 5).bind fun x13 => (Dg x4 ([(x8, x9, x10, x11, x12, x13)] : List (Int × Int × Int × Int × Int × Int))).bind fun x14 => some (.inl (BD (x3 + 1), x14))) else some (.inr (.inl (x3, x4))))
noncomputable def C1 (p0 : List (List UInt8)) (p1 : (Int × (List (Int × Int × Int × Int × Int × Int)) × (List (Int × Int))) × List (List Int) × List Int × Int × Int × Int × Int × Int × Int) (x2 : List (Int × Int × Int × Int × Int × Int)) : (Int × (List (Int × Int))) → Option ((Int × (List (Int × Int))) ⊕ ((Int × (List (Int × Int))) ⊕ (((Int × (List (Int × Int × Int × Int × Int × Int)) × (List (Int × Int))) × List (List Int) × List Int × Int × Int × Int × Int × Int × Int) × Int × Bool)))
  | (x17, x18) => (Ba p0 x17 ([104, 111, 115, 116] : List UInt8)).bind fun x19 => (if x19 = true then (ix p0 x17).bind fun x20 => (Dn x20 2).bind fun x21 => (if (!x21.2) = true then some (.inr (.inr (((p1.1.1, x2, x18), ([] : List (List Int)), ([] : List Int), p1.2.2.2.1, p1.2.2.2.2.1, p1.2.2.2.2.2.1, p1.2.2.2.2.2.2.1, p1.2.2.2.2.2.2.2.1, p1.2.2.2.2.2.2.2.2), x17, false))) else (ix x21.1 0).bind fun x22 => (ix x21.1 1).bind fun x23 => (Dg x18 ([(x22, x23)] : List (Int × Int))).bind fun x24 => some (.inl (BD (x17 + 1), x24))) else some (.inr (.inl (x17, x18))))
noncomputable def CZ (p0 : List (List UInt8)) (p1 : (Int × (List (Int × Int × Int × Int × Int × Int)) × (List (Int × Int))) × List (List Int) × List Int × Int × Int × Int × Int × Int × Int) (x2 : List (Int × Int × Int × Int × Int × Int)) (x16 : List (Int × Int)) : (Int × List (List Int)) → Option ((Int × List (List Int)) ⊕ ((Int × List (List Int)) ⊕ (((Int × (List (Int × Int × Int × Int × Int × Int)) × (List (Int × Int))) × List (List Int) × List Int × Int × Int × Int × Int × Int × Int) × Int × Bool)))
  | (x27, x28) => (Ba p0 x27 ([119, 101, 105, 103, 104, 116, 115] : List UInt8)).bind fun x29 => (if x29 = true then (ix p0 x27).bind fun x30 => (GJ x30).bind fun x31 => (if (!x31.2) = true then some (.inr (.inr (((p1.1.1, x2, x16), x28, ([] : List Int), p1.2.2.2.1, p1.2.2.2.2.1, p1.2.2.2.2.2.1, p1.2.2.2.2.2.2.1, p1.2.2.2.2.2.2.2.1, p1.2.2.2.2.2.2.2.2), x27, false))) else (Dg x28 ([x31.1] : List (List Int))).bind fun x32 => some (.inl (BD (x27 + 1), x32))) else some (.inr (.inl (x27, x28))))
noncomputable def HD (p0 : List (List UInt8)) (p1 : (Int × (List (Int × Int × Int × Int × Int × Int)) × (List (Int × Int))) × List (List Int) × List Int × Int × Int × Int × Int × Int × Int) : Option (((Int × (List (Int × Int × Int × Int × Int × Int)) × (List (Int × Int))) × List (List Int) × List Int × Int × Int × Int × Int × Int × Int) × Int × Bool) := ES (Av (Cp p0 p1) (1, [])) fun (x1, x2) => ES (Av (C1 p0 p1 x2) (x1, [])) fun (x15, x16) => ES (Av (CZ p0 p1 x2 x16) (x15, [])) fun (x25, x26) => some (((p1.1.1, x2, x16), x26, ([] : List Int), p1.2.2.2.1, p1.2.2.2.2.1, p1.2.2.2.2.2.1, p1.2.2.2.2.2.2.1, p1.2.2.2.2.2.2.2.1, p1.2.2.2.2.2.2.2.2), x25, true)
theorem Md (Y : Nat → Prop) (w0 : World) (v1 : Value) (p0 : List (List UInt8)) (p1 : (Int × (List (Int × Int × Int × Int × Int × Int)) × (List (Int × Int))) × List (List Int) × List Int × Int × Int × Int × Int × Int × Int) (r : ((Int × (List (Int × Int × Int × Int × Int × Int)) × (List (Int × Int))) × List (List Int) × List Int × Int × Int × Int × Int × Int × Int) × Int × Bool) (H : HD p0 p1 = some r) (h_v1 : Sl w0 (NX []) Rp.str v1 p0) :
    Calls Tryz.prog 22 #[v1, .agg #[.int .i64 p1.1.1, .slice none 0 0, .slice none 0 0, .slice none 0 0, .slice none 0 0, .int .i64 p1.2.2.2.1, .int .i64 p1.2.2.2.2.1, .int .i64 p1.2.2.2.2.2.1, .int .i64 p1.2.2.2.2.2.2.1, .int .i64 p1.2.2.2.2.2.2.2.1, .int .i64 p1.2.2.2.2.2.2.2.2]] w0 fun e w' => ∃ x : Value × Value × Value × Value, e = .returned (.tuple #[.agg #[.int .i64 r.1.1.1, x.1, x.2.1, x.2.2.1, x.2.2.2, .int .i64 r.1.2.2.2.1, .int .i64 r.1.2.2.2.2.1, .int .i64 r.1.2.2.2.2.2.1, .int .i64 r.1.2.2.2.2.2.2.1, .int .i64 r.1.2.2.2.2.2.2.2.1, .int .i64 r.1.2.2.2.2.2.2.2.2], .int .i64 r.2.1, .bool r.2.2]) ∧ Stw ⟨Y, [], w0⟩ [] [row (x.1) 50 AV r.1.1.2.1, row (x.2.1) 52 A3 r.1.1.2.2, row (x.2.2.1) 40 (Rp.slice (Rp.int .u64)) r.1.2.1, row (x.2.2.2) 3 (Rp.int .i64) r.1.2.2.1] w' := by
 refine enter Tryz.func22 Aa Tryz.ntmps22 Aa fun a W => ?_
 have F := Stw.start Y w0
 unfold HD at H
 refine vc tk 2 W F fun a w W F => ?_
 refine GU (cs := [.int .i64 p1.1.1, .slice none 0 0, .slice none 0 0, .slice none 0 0, .slice none 0 0, .int .i64 p1.2.2.2.1, .int .i64 p1.2.2.2.2.1, .int .i64 p1.2.2.2.2.2.1, .int .i64 p1.2.2.2.2.2.2.1, .int .i64 p1.2.2.2.2.2.2.2.1, .int .i64 p1.2.2.2.2.2.2.2.2]) W F Aa Aa Aa fun b1 a w W F => ?_
 refine DI (cs := (Dr)) W F Aa P2 Aa fun b2 a w W F => ?_
 refine C5 tk 9 W F fun a w W F => ?_
 obtain ⟨o1, G1, K1, L1⟩ := HU H
 refine Aw (fun a w => ∃ x1 : Int, ∃ x2 : List (Int × Int × Int × Int × Int × Int), ∃ v2 : Value, some (Sum.inl (x1, x2)) = some o1 ∧ Fr 113 [] [(0, v1), (3, .pointer (some ⟨b1, 0, none⟩)), (4, .pointer (some ⟨b2, 0, none⟩)), (5, .int .i64 0), (6, .bool false), (7, .int .i64 x1)] a ∧ Stw ⟨Y, [], w0⟩ (Jf b2 b1 p1 v2) [row v2 50 AV x2] w) ?_ ?_
 ·
  have H := G1
  clear G1 K1
  refine Dk ?_
  have F := F.nilRow 50 AV
  have F := F.frontM (i := 1) Aa Aa
  have F := F.frontM (i := 1) Aa Aa
  refine Bl H (fun s a w => ∃ v3 : Value, Fr 113 [] [(0, v1), (3, .pointer (some ⟨b1, 0, none⟩)), (4, .pointer (some ⟨b2, 0, none⟩)), (5, .int .i64 0), (6, .bool false), (7, .int .i64 s.1)] a ∧ Stw ⟨Y, [], w0⟩ (Jf b2 b1 p1 v3) [row v3 50 AV s.2] w) ⟨(Value.slice none 0 0), W.ra Aa, F⟩ fun s o a w H L2 hR => ?_
  obtain ⟨x3, x4⟩ := s
  obtain ⟨v3, W, F⟩ := hR
  have W : Fr 113 [] [(0, v1), (3, .pointer (some ⟨b1, 0, none⟩)), (4, .pointer (some ⟨b2, 0, none⟩)), (5, .int .i64 0), (6, .bool false), (7, .int .i64 x3)] a := W
  have F : Stw ⟨Y, [], w0⟩ (Jf b2 b1 p1 v3) [row v3 50 AV x4] w := F
  rw [Cp] at H
  refine vc tk 5 W F fun a w W F => ?_
  obtain ⟨x5, h1, H⟩ := Ae H
  refine ls W F Aa (AE (v := Value.bool x5) W Rr Aa (fun w F => Ey any w (v1) p0 x3 ([108, 105, 110, 107] : List UInt8) _ h1 (((Ah h_v1) : CW _ _ _ _ _ _) w F).nx)) fun a w W F => ?_
  refine CJ (Ac ?_)
  refine B2 W Aa H (fun W H => ?_) fun W H => ?_
  ·
   refine Ek tk 7 W F fun a w W F => ?_
   obtain ⟨x6, h2, H⟩ := Ae H
   refine ls W F Aa (AR (r := Rp.str) JP W Aa Aa (Ah h_v1) h2).q fun a w W F => ?_
   refine ls W F Aa (An (y := Value.string (bs x6)) (j := 0) (i := x3) W Aa Aa (Ah h_v1) h2 Fl.str.to T9 Aa).q fun a w W F => ?_
   obtain ⟨x7, h3, H⟩ := Ae H
   refine AC (Ml := []) (Zl := []) (M := (Jf b2 b1 p1 v3)) (Z := [row v3 50 AV x4]) (β := Value) (rv := fun x => .tuple #[x, .bool x7.2]) (MM := fun x => []) (ZZ := fun x => [row x 3 (Rp.int .i64) x7.1]) W F R2 Aa Aa (fun hL => Gf _ w x6 6 _ h3) fun x a w W F => ?_
   obtain ⟨v4, rfl⟩ : ∃ y, y = x := ⟨x, rfl⟩
   have F : Stw ⟨Y, [], w0⟩ (Jf b2 b1 p1 v3) [row v4 3 (Rp.int .i64) x7.1, row v3 50 AV x4] w := F
   refine ls W F Aa (Am W Aa).q fun a w W F => ?_
   refine ls W F Aa (Au (v := v4) W Aa Aa).q fun a w W F => ?_
   refine ls W F Aa (Au (v := Value.bool x7.2) W Aa Aa).q fun a w W F => ?_
   refine C5 tk 11 W F fun a w W F => ?_
   refine B2 W Aa H (fun W H => ?_) fun W H => ?_
   ·
    refine Ib tk 4 [1] W F (ai fun a w W F => ?_)
    refine Bg (vs := (Pb p1 v3)) (M' := [(b2, [.int .i64 p1.1.1, v3, .slice none 0 0, .slice none 0 0, .slice none 0 0, .int .i64 p1.2.2.2.1, .int .i64 p1.2.2.2.2.1, .int .i64 p1.2.2.2.2.2.1, .int .i64 p1.2.2.2.2.2.2.1, .int .i64 p1.2.2.2.2.2.2.2.1, .int .i64 p1.2.2.2.2.2.2.2.2]), (b1, [.int .i64 p1.1.1, v3, .slice none 0 0, .slice none 0 0, .slice none 0 0, .int .i64 p1.2.2.2.1, .int .i64 p1.2.2.2.2.1, .int .i64 p1.2.2.2.2.2.1, .int .i64 p1.2.2.2.2.2.2.1, .int .i64 p1.2.2.2.2.2.2.2.1, .int .i64 p1.2.2.2.2.2.2.2.2])]) 0 W F Aa Aa Aa ET Aa Aa Aa (Ai Aa (Ai (F.one (k := 1) Aa) (Ai Aa (Ai Aa (Ai Aa (Ai Aa (Ai Aa (Ai Aa (Ai Aa (Ai Aa (Ai Aa ER))))))))))) Aa fun w F => ?_
    refine vl tk 3 W F fun a w W F => ?_
    refine Ac (Ax (Az (AU (Az (AU (Az ?_))))))
    have H := L2 _ H
    have H := L1 _ H
    have H := AA H
    subst H
    refine Hc (.inl Aa) W F Aa (AJ 0 W Aa Aa ET Aa) (Ao W Aa) (Ao W Aa) ?_
    have F := F.nilRow 52 A3
    have F := F.nilRow 40 (Rp.slice (Rp.int .u64))
    have F := F.nilRow 3 (Rp.int .i64)
    have F := F.frontZ (i := 1) Aa Aa
    have F := F.frontZ (i := 2) Aa Aa
    have F := F.frontZ (i := 4) Aa Aa
    have F := F.sub (M' := []) (Z' := [row v3 50 AV x4, row (Value.slice none 0 0) 52 A3 ([]), row (Value.slice none 0 0) 40 (Rp.slice (Rp.int .u64)) ([]), row (Value.slice none 0 0) 3 (Rp.int .i64) ([])]) (List.nil_sublist _) (List.Sublist.cons_cons _ (List.Sublist.cons_cons _ (List.Sublist.cons_cons _ (List.Sublist.cons_cons _ (List.nil_sublist _)))))
    exact ⟨((v3), (Value.slice none 0 0), (Value.slice none 0 0), (Value.slice none 0 0)), Aa, F⟩
   refine Ek tk 3 W F fun a w W F => ?_
   refine Ih [(true, 0), (true, 1), (true, 2), (true, 3), (true, 4), (true, 5), (true, 6), (true, 7), (true, 8), (true, 9), (true, 10), (true, 11), (true, 12), (true, 13), (true, 14), (true, 15), (true, 16), (true, 17), (true, 18), (true, 19), (true, 20), (true, 21), (false, 22), (false, 23), (true, 24), (true, 25), (false, 26)] (CN ⟨Y, [], w0⟩ [(some 23, b1, [.int .i64 p1.1.1, v3, .slice none 0 0, .slice none 0 0, .slice none 0 0, .int .i64 p1.2.2.2.1, .int .i64 p1.2.2.2.2.1, .int .i64 p1.2.2.2.2.2.1, .int .i64 p1.2.2.2.2.2.2.1, .int .i64 p1.2.2.2.2.2.2.2.1, .int .i64 p1.2.2.2.2.2.2.2.2])] [(some 22, row v4 3 (Rp.int .i64) x7.1)]) (fun ch a d v w h => by cases d <;> exact h) MO (by kernel_rfl) F (fun w F => ⟨_, _, F, (all_cons (fun _ => (.tail _ (.head _))) Al), (all_cons (fun _ => (.head _)) Al)⟩) fun w F => ?_
   refine AL (R := []) W Aa Aa (yC fun M Z hN hZ => Aj Dj Aa Aa Aa KB W Aa 0 Aa) Aa Aa fun a W => ?_
   refine AL (R := []) W Aa Aa (yC fun M Z hN hZ => Aj Gn Aa Aa Aa MA W Aa 1 Aa) Aa Aa fun a W => ?_
   refine AL (R := [23]) W Aa Aa (yC fun M Z hN hZ => CP (cs := (Pb p1 v3)) (v := v3) W Aa (hN ((some 23), b1, (Pb p1 v3)) (.head _) Aa) MA Aa) (by kernel_rfl) Aa fun a W => ?_
   refine AL (R := []) W Aa Aa (yC fun M Z hN hZ => Am W Aa) Aa Aa fun a W => ?_
   obtain ⟨x8, h4, H⟩ := Ae H
   refine AL (R := []) W Aa Aa (yC fun M Z hN hZ => Ca (r := (Rp.int .i64)) Fb W Aa Aa (D6 F (Ap 0 Aa)) h4) Aa Aa fun a W => ?_
   refine AL (R := [22, 21]) W Aa Aa (yC fun M Z hN hZ => An (y := Value.int .i64 x8) (j := 0) (i := 0) W Aa Aa (B8 (hZ ((some 22), row v4 3 (Rp.int .i64) x7.1) (.head _) Aa)) h4 Fl.int.to T3 Aa) (by kernel_rfl) Aa fun a W => ?_
   refine AL (R := []) W Aa Aa (yC fun M Z hN hZ => Am W Aa) Aa Aa fun a W => ?_
   obtain ⟨x9, h5, H⟩ := Ae H
   refine AL (R := []) W Aa Aa (yC fun M Z hN hZ => Ca (r := (Rp.int .i64)) Fb W Aa Aa (D6 F (Ap 0 Aa)) h5) Aa Aa fun a W => ?_
   refine AL (R := [22, 21]) W Aa Aa (yC fun M Z hN hZ => An (y := Value.int .i64 x9) (j := 0) (i := 1) W Aa Aa (B8 (hZ ((some 22), row v4 3 (Rp.int .i64) x7.1) (.head _) Aa)) h5 Fl.int.to T3 Aa) (by kernel_rfl) Aa fun a W => ?_
   refine AL (R := []) W Aa Aa (yC fun M Z hN hZ => Am W Aa) Aa Aa fun a W => ?_
   obtain ⟨x10, h6, H⟩ := Ae H
   refine AL (R := []) W Aa Aa (yC fun M Z hN hZ => Ca (r := (Rp.int .i64)) Fb W Aa Aa (D6 F (Ap 0 Aa)) h6) Aa Aa fun a W => ?_
   refine AL (R := [22, 21]) W Aa Aa (yC fun M Z hN hZ => An (y := Value.int .i64 x10) (j := 0) (i := 2) W Aa Aa (B8 (hZ ((some 22), row v4 3 (Rp.int .i64) x7.1) (.head _) Aa)) h6 Fl.int.to T3 Aa) (by kernel_rfl) Aa fun a W => ?_
   refine AL (R := []) W Aa Aa (yC fun M Z hN hZ => Am W Aa) Aa Aa fun a W => ?_
   obtain ⟨x11, h7, H⟩ := Ae H
   refine AL (R := []) W Aa Aa (yC fun M Z hN hZ => Ca (r := (Rp.int .i64)) Fb W Aa Aa (D6 F (Ap 0 Aa)) h7) Aa Aa fun a W => ?_
   refine AL (R := [22, 21]) W Aa Aa (yC fun M Z hN hZ => An (y := Value.int .i64 x11) (j := 0) (i := 3) W Aa Aa (B8 (hZ ((some 22), row v4 3 (Rp.int .i64) x7.1) (.head _) Aa)) h7 Fl.int.to T3 Aa) (by kernel_rfl) Aa fun a W => ?_
   refine AL (R := []) W Aa Aa (yC fun M Z hN hZ => Am W Aa) Aa Aa fun a W => ?_
   obtain ⟨x12, h8, H⟩ := Ae H
   refine AL (R := []) W Aa Aa (yC fun M Z hN hZ => Ca (r := (Rp.int .i64)) Fb W Aa Aa (D6 F (Ap 0 Aa)) h8) Aa Aa fun a W => ?_
   refine AL (R := [22, 21]) W Aa Aa (yC fun M Z hN hZ => An (y := Value.int .i64 x12) (j := 0) (i := 4) W Aa Aa (B8 (hZ ((some 22), row v4 3 (Rp.int .i64) x7.1) (.head _) Aa)) h8 Fl.int.to T3 Aa) (by kernel_rfl) Aa fun a W => ?_
   refine AL (R := []) W Aa Aa (yC fun M Z hN hZ => Am W Aa) Aa Aa fun a W => ?_
   obtain ⟨x13, h9, H⟩ := Ae H
   refine AL (R := []) W Aa Aa (yC fun M Z hN hZ => Ca (r := (Rp.int .i64)) Fb W Aa Aa (D6 F (Ap 0 Aa)) h9) Aa Aa fun a W => ?_
   refine AL (R := [22, 21]) W Aa Aa (yC fun M Z hN hZ => An (y := Value.int .i64 x13) (j := 0) (i := 5) W Aa Aa (B8 (hZ ((some 22), row v4 3 (Rp.int .i64) x7.1) (.head _) Aa)) h9 Fl.int.to T3 Aa) (by kernel_rfl) Aa fun a W => ?_
   refine AL (R := []) W Aa Aa (yC fun M Z hN hZ => Fa (v := Value.agg #[.int .i64 x8, .int .i64 x9, .int .i64 x10, .int .i64 x11, .int .i64 x12, .int .i64 x13]) To W Aa Aa Aa) Aa Aa fun a W => ?_
   refine Df Aa ?_
   refine CY (z := Value.agg #[.int .i64 0, .int .i64 0, .int .i64 0, .int .i64 0, .int .i64 0, .int .i64 0]) (cs := [.int .i64 x8, .int .i64 x9, .int .i64 x10, .int .i64 x11, .int .i64 x12, .int .i64 x13]) AV ([(x8, x9, x10, x11, x12, x13)] : List (Int × Int × Int × Int × Int × Int)) W F Aa PL So Aa Aa Aa Aa Aa Aa (QN.repL _ _ ([(x8, x9, x10, x11, x12, x13)] : List (Int × Int × Int × Int × Int × Int))) fun v5 a w W F => ?_
   refine Bf (N2 := []) (NZ2 := []) (N3 := [(some 23, b1, [.int .i64 p1.1.1, v3, .slice none 0 0, .slice none 0 0, .slice none 0 0, .int .i64 p1.2.2.2.1, .int .i64 p1.2.2.2.2.1, .int .i64 p1.2.2.2.2.2.1, .int .i64 p1.2.2.2.2.2.2.1, .int .i64 p1.2.2.2.2.2.2.2.1, .int .i64 p1.2.2.2.2.2.2.2.2])]) (NZ3 := [(some 22, row v4 3 (Rp.int .i64) x7.1)]) F Aa Aa (all_cons (fun _ => (.tail _ (.head _))) Al) (all_cons (fun h => Ak (by kernel_rfl) h) Al) ?_
   refine Df Aa ?_
   obtain ⟨x14, h10, H⟩ := Ae H
   refine Do (r := AV) (i := 2) W F Aa PL Aa Aa Aa Aa (DZ F 0 Aa) h10 Aa fun v6 a w W F => ?_
   have F : Stw ⟨Y, [], w0⟩ (Jf b2 b1 p1 v3) [row v6 50 AV x14, row v5 50 AV ([(x8, x9, x10, x11, x12, x13)] : List (Int × Int × Int × Int × Int × Int)), row v4 3 (Rp.int .i64) x7.1] w := F
   refine Bf (N2 := []) (NZ2 := []) (N3 := [(some 23, b1, [.int .i64 p1.1.1, v3, .slice none 0 0, .slice none 0 0, .slice none 0 0, .int .i64 p1.2.2.2.1, .int .i64 p1.2.2.2.2.1, .int .i64 p1.2.2.2.2.2.1, .int .i64 p1.2.2.2.2.2.2.1, .int .i64 p1.2.2.2.2.2.2.2.1, .int .i64 p1.2.2.2.2.2.2.2.2])]) (NZ3 := [(some 22, row v4 3 (Rp.int .i64) x7.1)]) F Aa Aa (all_cons (fun h => Ak (by kernel_rfl) h) Al) (all_cons (fun h => Ak (by kernel_rfl) h) Al) ?_
   refine AL (R := []) W Aa Aa (yC fun M Z hN hZ => Aj Dj Aa Aa Aa KB W Aa 0 Aa) Aa Aa fun a W => ?_
   refine AL (R := []) W Aa Aa (yC fun M Z hN hZ => Aj Gn Aa Aa Aa MA W Aa 1 Aa) Aa Aa fun a W => ?_
   refine Df Aa ?_
   refine FA (M' := (Jf b2 b1 p1 v6)) 1 W F Aa Aa Aa MA (F.one (k := 0) Aa) Aa Aa fun w F => ?_
   refine Bf (N2 := []) (NZ2 := []) (N3 := [(some 23, b1, [.int .i64 p1.1.1, v3, .slice none 0 0, .slice none 0 0, .slice none 0 0, .int .i64 p1.2.2.2.1, .int .i64 p1.2.2.2.2.1, .int .i64 p1.2.2.2.2.2.1, .int .i64 p1.2.2.2.2.2.2.1, .int .i64 p1.2.2.2.2.2.2.2.1, .int .i64 p1.2.2.2.2.2.2.2.2])]) (NZ3 := [(some 22, row v4 3 (Rp.int .i64) x7.1)]) F Aa Aa (all_cons (fun h => Ak (by kernel_rfl) h) Al) (all_cons (fun h => Ak (by kernel_rfl) h) Al) ?_
   refine FH ?_
   refine vn tk 5 W F fun a w W F => ?_
   refine AB (Ac ?_)
   have F := F.frontM (i := 1) Aa Aa
   have F := F.frontM (i := 1) Aa Aa
   have F := F.sub (M' := (Jf b2 b1 p1 v6)) (Z' := [row v6 50 AV x14]) (List.Sublist.refl _) (List.Sublist.cons_cons _ (List.nil_sublist _))
   exact ⟨_, H, (v6), W.ra Aa, F⟩
  refine A1 ?_
  iterate 2 refine BC ?_
  refine Bb (Ac ?_)
  have F := F.frontM (i := 1) Aa Aa
  have F := F.frontM (i := 1) Aa Aa
  have H := L2 _ H
  exact ⟨_, _, (v3), H, W.ra Aa, F⟩
 rintro a w ⟨x1, x2, v2, hj, W, F⟩
 have H := K1 _ hj
 clear hj G1 K1 L1
 obtain ⟨o3, G3, K3, L3⟩ := HU H
 refine Aw (fun a w => ∃ x15 : Int, ∃ x16 : List (Int × Int), ∃ v7 : Value, some (Sum.inl (x15, x16)) = some o3 ∧ Fr 113 [] [(0, v1), (3, .pointer (some ⟨b1, 0, none⟩)), (4, .pointer (some ⟨b2, 0, none⟩)), (5, .int .i64 0), (6, .bool false), (7, .int .i64 x15)] a ∧ Stw ⟨Y, [], w0⟩ (Jc b2 b1 p1 v2 v7) [row v2 50 AV x2, row v7 52 A3 x16] w) ?_ ?_
 ·
  have H := G3
  clear G3 K3
  refine Dk ?_
  have F := F.nilRow 52 A3
  have F := F.frontZ (i := 1) Aa Aa
  have F := F.frontM (i := 1) Aa Aa
  have F := F.frontM (i := 1) Aa Aa
  refine Bl H (fun s a w => ∃ v8 : Value, Fr 113 [] [(0, v1), (3, .pointer (some ⟨b1, 0, none⟩)), (4, .pointer (some ⟨b2, 0, none⟩)), (5, .int .i64 0), (6, .bool false), (7, .int .i64 s.1)] a ∧ Stw ⟨Y, [], w0⟩ (Jc b2 b1 p1 v2 v8) [row v2 50 AV x2, row v8 52 A3 s.2] w) ⟨(Value.slice none 0 0), W.ra Aa, F⟩ fun s o a w H L4 hR => ?_
  obtain ⟨x17, x18⟩ := s
  obtain ⟨v8, W, F⟩ := hR
  have W : Fr 113 [] [(0, v1), (3, .pointer (some ⟨b1, 0, none⟩)), (4, .pointer (some ⟨b2, 0, none⟩)), (5, .int .i64 0), (6, .bool false), (7, .int .i64 x17)] a := W
  have F : Stw ⟨Y, [], w0⟩ (Jc b2 b1 p1 v2 v8) [row v2 50 AV x2, row v8 52 A3 x18] w := F
  rw [C1] at H
  refine vc tk 5 W F fun a w W F => ?_
  obtain ⟨x19, h11, H⟩ := Ae H
  refine ls W F Aa (AE (v := Value.bool x19) W Rr Aa (fun w F => Ey any w (v1) p0 x17 ([104, 111, 115, 116] : List UInt8) _ h11 (((Ah h_v1) : CW _ _ _ _ _ _) w F).nx)) fun a w W F => ?_
  refine CJ (Ac ?_)
  refine B2 W Aa H (fun W H => ?_) fun W H => ?_
  ·
   refine Ek tk 7 W F fun a w W F => ?_
   obtain ⟨x20, h12, H⟩ := Ae H
   refine ls W F Aa (AR (r := Rp.str) JP W Aa Aa (Ah h_v1) h12).q fun a w W F => ?_
   refine ls W F Aa (An (y := Value.string (bs x20)) (j := 0) (i := x17) W Aa Aa (Ah h_v1) h12 Fl.str.to T9 Aa).q fun a w W F => ?_
   obtain ⟨x21, h13, H⟩ := Ae H
   refine AC (Ml := []) (Zl := []) (M := (Jc b2 b1 p1 v2 v8)) (Z := [row v2 50 AV x2, row v8 52 A3 x18]) (β := Value) (rv := fun x => .tuple #[x, .bool x21.2]) (MM := fun x => []) (ZZ := fun x => [row x 3 (Rp.int .i64) x21.1]) W F R2 Aa Aa (fun hL => Gf _ w x20 2 _ h13) fun x a w W F => ?_
   obtain ⟨v9, rfl⟩ : ∃ y, y = x := ⟨x, rfl⟩
   have F : Stw ⟨Y, [], w0⟩ (Jc b2 b1 p1 v2 v8) [row v9 3 (Rp.int .i64) x21.1, row v2 50 AV x2, row v8 52 A3 x18] w := F
   refine ls W F Aa (Am W Aa).q fun a w W F => ?_
   refine ls W F Aa (Au (v := v9) W Aa Aa).q fun a w W F => ?_
   refine ls W F Aa (Au (v := Value.bool x21.2) W Aa Aa).q fun a w W F => ?_
   refine C5 tk 11 W F fun a w W F => ?_
   refine B2 W Aa H (fun W H => ?_) fun W H => ?_
   ·
    refine Ib tk 4 [1] W F (ai fun a w W F => ?_)
    refine Bg (vs := (PA p1 v2 v8)) (M' := [(b2, [.int .i64 p1.1.1, v2, v8, .slice none 0 0, .slice none 0 0, .int .i64 p1.2.2.2.1, .int .i64 p1.2.2.2.2.1, .int .i64 p1.2.2.2.2.2.1, .int .i64 p1.2.2.2.2.2.2.1, .int .i64 p1.2.2.2.2.2.2.2.1, .int .i64 p1.2.2.2.2.2.2.2.2]), (b1, [.int .i64 p1.1.1, v2, v8, .slice none 0 0, .slice none 0 0, .int .i64 p1.2.2.2.1, .int .i64 p1.2.2.2.2.1, .int .i64 p1.2.2.2.2.2.1, .int .i64 p1.2.2.2.2.2.2.1, .int .i64 p1.2.2.2.2.2.2.2.1, .int .i64 p1.2.2.2.2.2.2.2.2])]) 0 W F Aa Aa Aa ET Aa Aa Aa (Ai Aa (Ai (F.one (k := 1) Aa) (Ai (F.one (k := 2) Aa) (Ai Aa (Ai Aa (Ai Aa (Ai Aa (Ai Aa (Ai Aa (Ai Aa (Ai Aa ER))))))))))) Aa fun w F => ?_
    refine vl tk 3 W F fun a w W F => ?_
    refine Ac (Ax (Az (AU (Az (AU (Az ?_))))))
    have H := L4 _ H
    have H := L3 _ H
    have H := AA H
    subst H
    refine Hc (.inl Aa) W F Aa (AJ 0 W Aa Aa ET Aa) (Ao W Aa) (Ao W Aa) ?_
    have F := F.nilRow 40 (Rp.slice (Rp.int .u64))
    have F := F.nilRow 3 (Rp.int .i64)
    have F := F.frontZ (i := 1) Aa Aa
    have F := F.frontZ (i := 4) Aa Aa
    have F := F.frontZ (i := 4) Aa Aa
    have F := F.sub (M' := []) (Z' := [row v2 50 AV x2, row v8 52 A3 x18, row (Value.slice none 0 0) 40 (Rp.slice (Rp.int .u64)) ([]), row (Value.slice none 0 0) 3 (Rp.int .i64) ([])]) (List.nil_sublist _) (List.Sublist.cons_cons _ (List.Sublist.cons_cons _ (List.Sublist.cons_cons _ (List.Sublist.cons_cons _ (List.nil_sublist _)))))
    exact ⟨((v2), (v8), (Value.slice none 0 0), (Value.slice none 0 0)), Aa, F⟩
   refine Ek tk 3 W F fun a w W F => ?_
   refine Ih [(true, 0), (true, 1), (true, 2), (true, 3), (true, 4), (true, 5), (true, 6), (true, 7), (true, 8), (true, 9), (false, 10), (false, 11), (true, 12), (true, 13), (false, 14)] (CN ⟨Y, [], w0⟩ [(some 11, b1, [.int .i64 p1.1.1, v2, v8, .slice none 0 0, .slice none 0 0, .int .i64 p1.2.2.2.1, .int .i64 p1.2.2.2.2.1, .int .i64 p1.2.2.2.2.2.1, .int .i64 p1.2.2.2.2.2.2.1, .int .i64 p1.2.2.2.2.2.2.2.1, .int .i64 p1.2.2.2.2.2.2.2.2])] [(some 10, row v9 3 (Rp.int .i64) x21.1)]) (fun ch a d v w h => by cases d <;> exact h) MO (by kernel_rfl) F (fun w F => ⟨_, _, F, (all_cons (fun _ => (.tail _ (.head _))) Al), (all_cons (fun _ => (.head _)) Al)⟩) fun w F => ?_
   refine AL (R := []) W Aa Aa (yC fun M Z hN hZ => Aj Dj Aa Aa Aa KB W Aa 0 Aa) Aa Aa fun a W => ?_
   refine AL (R := []) W Aa Aa (yC fun M Z hN hZ => Aj Gn Aa Aa Aa KM W Aa 2 Aa) Aa Aa fun a W => ?_
   refine AL (R := [11]) W Aa Aa (yC fun M Z hN hZ => CP (cs := (PA p1 v2 v8)) (v := v8) W Aa (hN ((some 11), b1, (PA p1 v2 v8)) (.head _) Aa) KM Aa) (by kernel_rfl) Aa fun a W => ?_
   refine AL (R := []) W Aa Aa (yC fun M Z hN hZ => Am W Aa) Aa Aa fun a W => ?_
   obtain ⟨x22, h14, H⟩ := Ae H
   refine AL (R := []) W Aa Aa (yC fun M Z hN hZ => Ca (r := (Rp.int .i64)) Fb W Aa Aa (D6 F (Ap 0 Aa)) h14) Aa Aa fun a W => ?_
   refine AL (R := [10, 9]) W Aa Aa (yC fun M Z hN hZ => An (y := Value.int .i64 x22) (j := 0) (i := 0) W Aa Aa (B8 (hZ ((some 10), row v9 3 (Rp.int .i64) x21.1) (.head _) Aa)) h14 Fl.int.to T3 Aa) (by kernel_rfl) Aa fun a W => ?_
   refine AL (R := []) W Aa Aa (yC fun M Z hN hZ => Am W Aa) Aa Aa fun a W => ?_
   obtain ⟨x23, h15, H⟩ := Ae H
   refine AL (R := []) W Aa Aa (yC fun M Z hN hZ => Ca (r := (Rp.int .i64)) Fb W Aa Aa (D6 F (Ap 0 Aa)) h15) Aa Aa fun a W => ?_
   refine AL (R := [10, 9]) W Aa Aa (yC fun M Z hN hZ => An (y := Value.int .i64 x23) (j := 0) (i := 1) W Aa Aa (B8 (hZ ((some 10), row v9 3 (Rp.int .i64) x21.1) (.head _) Aa)) h15 Fl.int.to T3 Aa) (by kernel_rfl) Aa fun a W => ?_
   refine AL (R := []) W Aa Aa (yC fun M Z hN hZ => Fa (v := Value.agg #[.int .i64 x22, .int .i64 x23]) S8 W Aa Aa Aa) Aa Aa fun a W => ?_
   refine Df Aa ?_
   refine CY (z := Value.agg #[.int .i64 0, .int .i64 0]) (cs := [.int .i64 x22, .int .i64 x23]) A3 ([(x22, x23)] : List (Int × Int)) W F Aa O9 SI Aa Aa Aa Aa Aa Aa (PU.repL _ _ ([(x22, x23)] : List (Int × Int))) fun v10 a w W F => ?_
   refine Bf (N2 := []) (NZ2 := []) (N3 := [(some 11, b1, [.int .i64 p1.1.1, v2, v8, .slice none 0 0, .slice none 0 0, .int .i64 p1.2.2.2.1, .int .i64 p1.2.2.2.2.1, .int .i64 p1.2.2.2.2.2.1, .int .i64 p1.2.2.2.2.2.2.1, .int .i64 p1.2.2.2.2.2.2.2.1, .int .i64 p1.2.2.2.2.2.2.2.2])]) (NZ3 := [(some 10, row v9 3 (Rp.int .i64) x21.1)]) F Aa Aa (all_cons (fun _ => (.tail _ (.head _))) Al) (all_cons (fun h => Ak (by kernel_rfl) h) Al) ?_
   refine Df Aa ?_
   obtain ⟨x24, h16, H⟩ := Ae H
   refine Do (r := A3) (i := 3) W F Aa O9 Aa Aa Aa Aa (DZ F 0 Aa) h16 Aa fun v11 a w W F => ?_
   have F : Stw ⟨Y, [], w0⟩ (Jc b2 b1 p1 v2 v8) [row v11 52 A3 x24, row v10 52 A3 ([(x22, x23)] : List (Int × Int)), row v9 3 (Rp.int .i64) x21.1, row v2 50 AV x2] w := F
   refine Bf (N2 := []) (NZ2 := []) (N3 := [(some 11, b1, [.int .i64 p1.1.1, v2, v8, .slice none 0 0, .slice none 0 0, .int .i64 p1.2.2.2.1, .int .i64 p1.2.2.2.2.1, .int .i64 p1.2.2.2.2.2.1, .int .i64 p1.2.2.2.2.2.2.1, .int .i64 p1.2.2.2.2.2.2.2.1, .int .i64 p1.2.2.2.2.2.2.2.2])]) (NZ3 := [(some 10, row v9 3 (Rp.int .i64) x21.1)]) F Aa Aa (all_cons (fun h => Ak (by kernel_rfl) h) Al) (all_cons (fun h => Ak (by kernel_rfl) h) Al) ?_
   refine AL (R := []) W Aa Aa (yC fun M Z hN hZ => Aj Dj Aa Aa Aa KB W Aa 0 Aa) Aa Aa fun a W => ?_
   refine AL (R := []) W Aa Aa (yC fun M Z hN hZ => Aj Gn Aa Aa Aa KM W Aa 2 Aa) Aa Aa fun a W => ?_
   refine Df Aa ?_
   refine FA (M' := (Jc b2 b1 p1 v2 v11)) 1 W F Aa Aa Aa KM (F.one (k := 0) Aa) Aa Aa fun w F => ?_
   refine Bf (N2 := []) (NZ2 := []) (N3 := [(some 11, b1, [.int .i64 p1.1.1, v2, v8, .slice none 0 0, .slice none 0 0, .int .i64 p1.2.2.2.1, .int .i64 p1.2.2.2.2.1, .int .i64 p1.2.2.2.2.2.1, .int .i64 p1.2.2.2.2.2.2.1, .int .i64 p1.2.2.2.2.2.2.2.1, .int .i64 p1.2.2.2.2.2.2.2.2])]) (NZ3 := [(some 10, row v9 3 (Rp.int .i64) x21.1)]) F Aa Aa (all_cons (fun h => Ak (by kernel_rfl) h) Al) (all_cons (fun h => Ak (by kernel_rfl) h) Al) ?_
   refine FH ?_
   refine vn tk 5 W F fun a w W F => ?_
   refine AB (Ac ?_)
   have F := F.frontZ (i := 3) Aa Aa
   have F := F.frontM (i := 1) Aa Aa
   have F := F.frontM (i := 1) Aa Aa
   have F := F.sub (M' := (Jc b2 b1 p1 v2 v11)) (Z' := [row v2 50 AV x2, row v11 52 A3 x24]) (List.Sublist.refl _) (List.Sublist.cons_cons _ (List.Sublist.cons_cons _ (List.nil_sublist _)))
   exact ⟨_, H, (v11), W.ra Aa, F⟩
  refine A1 ?_
  iterate 2 refine BC ?_
  refine Bb (Ac ?_)
  have F := F.frontZ (i := 1) Aa Aa
  have F := F.frontZ (i := 1) Aa Aa
  have F := F.frontM (i := 1) Aa Aa
  have F := F.frontM (i := 1) Aa Aa
  have H := L4 _ H
  exact ⟨_, _, (v8), H, W.ra Aa, F⟩
 rintro a w ⟨x15, x16, v7, hj, W, F⟩
 have H := K3 _ hj
 clear hj G3 K3 L3
 obtain ⟨o5, G5, K5, L5⟩ := HU H
 refine Aw (fun a w => ∃ x25 : Int, ∃ x26 : List (List Int), ∃ v12 : Value, some (Sum.inl (x25, x26)) = some o5 ∧ Fr 113 [] [(3, .pointer (some ⟨b1, 0, none⟩)), (4, .pointer (some ⟨b2, 0, none⟩)), (5, .int .i64 0), (6, .bool false), (7, .int .i64 x25)] a ∧ Stw ⟨Y, [], w0⟩ (Jd b2 b1 p1 v2 v7 v12) [row v2 50 AV x2, row v7 52 A3 x16, row v12 40 (Rp.slice (Rp.int .u64)) x26] w) ?_ ?_
 ·
  have H := G5
  clear G5 K5
  refine Dk ?_
  have F := F.nilRow 40 (Rp.slice (Rp.int .u64))
  have F := F.frontZ (i := 2) Aa Aa
  have F := F.frontZ (i := 2) Aa Aa
  have F := F.frontM (i := 1) Aa Aa
  have F := F.frontM (i := 1) Aa Aa
  refine Bl H (fun s a w => ∃ v13 : Value, Fr 113 [] [(0, v1), (3, .pointer (some ⟨b1, 0, none⟩)), (4, .pointer (some ⟨b2, 0, none⟩)), (5, .int .i64 0), (6, .bool false), (7, .int .i64 s.1)] a ∧ Stw ⟨Y, [], w0⟩ (Jd b2 b1 p1 v2 v7 v13) [row v2 50 AV x2, row v7 52 A3 x16, row v13 40 (Rp.slice (Rp.int .u64)) s.2] w) ⟨(Value.slice none 0 0), W.ra Aa, F⟩ fun s o a w H L6 hR => ?_
  obtain ⟨x27, x28⟩ := s
  obtain ⟨v13, W, F⟩ := hR
  have W : Fr 113 [] [(0, v1), (3, .pointer (some ⟨b1, 0, none⟩)), (4, .pointer (some ⟨b2, 0, none⟩)), (5, .int .i64 0), (6, .bool false), (7, .int .i64 x27)] a := W
  have F : Stw ⟨Y, [], w0⟩ (Jd b2 b1 p1 v2 v7 v13) [row v2 50 AV x2, row v7 52 A3 x16, row v13 40 (Rp.slice (Rp.int .u64)) x28] w := F
  rw [CZ] at H
  refine vc tk 5 W F fun a w W F => ?_
  obtain ⟨x29, h17, H⟩ := Ae H
  refine ls W F Aa (AE (v := Value.bool x29) W Rr Aa (fun w F => Ey any w (v1) p0 x27 ([119, 101, 105, 103, 104, 116, 115] : List UInt8) _ h17 (((Ah h_v1) : CW _ _ _ _ _ _) w F).nx)) fun a w W F => ?_
  refine CJ (Ac ?_)
  refine B2 W Aa H (fun W H => ?_) fun W H => ?_
  ·
   refine Ek tk 7 W F fun a w W F => ?_
   obtain ⟨x30, h18, H⟩ := Ae H
   refine ls W F Aa (AR (r := Rp.str) JP W Aa Aa (Ah h_v1) h18).q fun a w W F => ?_
   refine ls W F Aa (An (y := Value.string (bs x30)) (j := 0) (i := x27) W Aa Aa (Ah h_v1) h18 Fl.str.to T9 Aa).q fun a w W F => ?_
   obtain ⟨x31, h19, H⟩ := Ae H
   refine AC (Ml := []) (Zl := []) (M := (Jd b2 b1 p1 v2 v7 v13)) (Z := [row v2 50 AV x2, row v7 52 A3 x16, row v13 40 (Rp.slice (Rp.int .u64)) x28]) (β := Value) (rv := fun x => .tuple #[x, .bool x31.2]) (MM := fun x => []) (ZZ := fun x => [row x 41 (Rp.int .u64) x31.1]) W F TZ Aa Aa (fun hL => MD _ w x30 _ h19) fun x a w W F => ?_
   obtain ⟨v14, rfl⟩ : ∃ y, y = x := ⟨x, rfl⟩
   have F : Stw ⟨Y, [], w0⟩ (Jd b2 b1 p1 v2 v7 v13) [row v14 41 (Rp.int .u64) x31.1, row v2 50 AV x2, row v7 52 A3 x16, row v13 40 (Rp.slice (Rp.int .u64)) x28] w := F
   refine ls W F Aa (Am W Aa).q fun a w W F => ?_
   refine ls W F Aa (Au (v := v14) W Aa Aa).q fun a w W F => ?_
   refine ls W F Aa (Au (v := Value.bool x31.2) W Aa Aa).q fun a w W F => ?_
   refine C5 tk 11 W F fun a w W F => ?_
   refine B2 W Aa H (fun W H => ?_) fun W H => ?_
   ·
    refine Ib tk 4 [1] W F (ai fun a w W F => ?_)
    refine Bg (vs := [.int .i64 p1.1.1, v2, v7, v13, .slice none 0 0, .int .i64 p1.2.2.2.1, .int .i64 p1.2.2.2.2.1, .int .i64 p1.2.2.2.2.2.1, .int .i64 p1.2.2.2.2.2.2.1, .int .i64 p1.2.2.2.2.2.2.2.1, .int .i64 p1.2.2.2.2.2.2.2.2]) (M' := (QQ b2 p1 v2 v7 v13 b1)) 0 W F Aa Aa Aa ET Aa Aa Aa (Ai Aa (Ai (F.one (k := 1) Aa) (Ai (F.one (k := 2) Aa) (Ai (F.one (k := 3) Aa) (Ai Aa (Ai Aa (Ai Aa (Ai Aa (Ai Aa (Ai Aa (Ai Aa ER))))))))))) Aa fun w F => ?_
    refine vl tk 3 W F fun a w W F => ?_
    refine Ac (Ax (Az (AU (Az (AU (Az ?_))))))
    have H := L6 _ H
    have H := L5 _ H
    have H := AA H
    subst H
    refine Hc (.inl Aa) W F Aa (AJ 0 W Aa Aa ET Aa) (Ao W Aa) (Ao W Aa) ?_
    have F := F.nilRow 3 (Rp.int .i64)
    have F := F.frontZ (i := 4) Aa Aa
    have F := F.frontZ (i := 4) Aa Aa
    have F := F.frontZ (i := 4) Aa Aa
    have F := F.sub (M' := []) (Z' := [row v2 50 AV x2, row v7 52 A3 x16, row v13 40 (Rp.slice (Rp.int .u64)) x28, row (Value.slice none 0 0) 3 (Rp.int .i64) ([])]) (List.nil_sublist _) (List.Sublist.cons_cons _ (List.Sublist.cons_cons _ (List.Sublist.cons_cons _ (List.Sublist.cons_cons _ (List.nil_sublist _)))))
    exact ⟨((v2), (v7), (v13), (Value.slice none 0 0)), Aa, F⟩
   refine ON tk 7 [1] W F (ai fun a w W F => ?_)
   have F := F.freeze
   refine CY (z := Value.slice none 0 0) (cs := [v14]) (Rp.slice (Rp.int .u64)) ([x31.1] : List (List Int)) W F Aa NW SJ Aa Aa Aa (EZ Aa (FV (F.oneF (k := 0) Aa)) Aa Im) Aa Aa ⟨[v14], _, Aa, ⟨_, Aa, (F.item (i := 0) Aa)⟩, Aa⟩ fun v15 a w W F => ?_
   obtain ⟨x32, h20, H⟩ := Ae H
   refine Do (r := (Rp.slice (Rp.int .u64))) (i := 4) W F Aa NW Aa Aa Aa Aa (DZ F 0 Aa) h20 Aa fun v16 a w W F => ?_
   have F : Stw ⟨Y, [], w0⟩ (Jd b2 b1 p1 v2 v7 v13) [row v16 40 (Rp.slice (Rp.int .u64)) x32, row v15 40 (Rp.slice (Rp.int .u64)) ([x31.1] : List (List Int)), KY v14 (Rp.int .u64) x31.1, row v2 50 AV x2, row v7 52 A3 x16] w := F
   refine ls W F Aa (Aj Dj Aa Aa Aa NA W Aa 3 Aa).q fun a w W F => ?_
   refine FA (M' := (Jd b2 b1 p1 v2 v7 v16)) 1 W F Aa Aa Aa NA (F.one (k := 0) Aa) Aa Aa fun w F => ?_
   refine C5 tk 7 W F fun a w W F => ?_
   refine AB (Ac ?_)
   have F := F.frontZ (i := 4) Aa Aa
   have F := F.frontZ (i := 4) Aa Aa
   have F := F.frontM (i := 1) Aa Aa
   have F := F.frontM (i := 1) Aa Aa
   have F := F.sub (M' := (Jd b2 b1 p1 v2 v7 v16)) (Z' := [row v2 50 AV x2, row v7 52 A3 x16, row v16 40 (Rp.slice (Rp.int .u64)) x32]) (List.Sublist.refl _) (List.Sublist.cons_cons _ (List.Sublist.cons_cons _ (List.Sublist.cons_cons _ (List.nil_sublist _))))
   exact ⟨_, H, (v16), W.ra Aa, F⟩
  refine A1 ?_
  iterate 2 refine BC ?_
  refine Bb (Ac ?_)
  have F := F.frontZ (i := 2) Aa Aa
  have F := F.frontZ (i := 2) Aa Aa
  have F := F.frontZ (i := 2) Aa Aa
  have F := F.frontM (i := 1) Aa Aa
  have F := F.frontM (i := 1) Aa Aa
  have H := L6 _ H
  exact ⟨_, _, (v13), H, W.ra Aa, F⟩
 rintro a w ⟨x25, x26, v12, hj, W, F⟩
 have H := K5 _ hj
 clear hj G5 K5 L5
 refine Ib tk 4 [1] W F (ai fun a w W F => ?_)
 refine Bg (vs := [.int .i64 p1.1.1, v2, v7, v12, .slice none 0 0, .int .i64 p1.2.2.2.1, .int .i64 p1.2.2.2.2.1, .int .i64 p1.2.2.2.2.2.1, .int .i64 p1.2.2.2.2.2.2.1, .int .i64 p1.2.2.2.2.2.2.2.1, .int .i64 p1.2.2.2.2.2.2.2.2]) (M' := (QQ b2 p1 v2 v7 v12 b1)) 0 W F Aa Aa Aa ET Aa Aa Aa (Ai Aa (Ai (F.one (k := 0) Aa) (Ai (F.one (k := 1) Aa) (Ai (F.one (k := 2) Aa) (Ai Aa (Ai Aa (Ai Aa (Ai Aa (Ai Aa (Ai Aa (Ai Aa ER))))))))))) Aa fun w F => ?_
 refine vl tk 3 W F fun a w W F => ?_
 refine Ac (Ax ?_)
 have H := AA H
 subst H
 refine Hc (.inl Aa) W F Aa (AJ 0 W Aa Aa ET Aa) (Ao W Aa) (Ao W Aa) ?_
 have F := F.nilRow 3 (Rp.int .i64)
 have F := F.frontZ (i := 3) Aa Aa
 have F := F.frontZ (i := 3) Aa Aa
 have F := F.frontZ (i := 3) Aa Aa
 have F := F.sub (M' := []) (Z' := [row v2 50 AV x2, row v7 52 A3 x16, row v12 40 (Rp.slice (Rp.int .u64)) x26, row (Value.slice none 0 0) 3 (Rp.int .i64) ([])]) (List.nil_sublist _) (List.Sublist.refl _)
 exact ⟨((v2), (v7), (v12), (Value.slice none 0 0)), Aa, F⟩
theorem T2 : Has Tryz.prog 22 := ⟨fun args w => Af Tryz.func22 rfl (by decide) args w⟩
noncomputable def GC (p0 : Int) : Option (List UInt8) := (ix ([([114, 97, 116, 101] : List UInt8), ([114, 111, 111, 109] : List UInt8), ([119, 105, 100, 101] : List UInt8), ([108, 101, 97, 100] : List UInt8), ([109, 97, 114, 103, 105, 110] : List UInt8), ([114, 101, 116, 114, 121] : List UInt8)] : List (List UInt8)) p0).bind fun x1 => some x1
theorem H1 (Y : Nat → Prop) (w0 : World)  (p0 : Int) (r : List UInt8) (H : GC p0 = some r)  :
    Calls Tryz.prog 23 #[.int .i64 p0] w0 fun e w' => e = .returned (.string (bs r)) ∧ Below w0.heap.size w0 w' := by
 refine enter Tryz.func23 Aa Tryz.ntmps23 Aa fun a W => ?_
 have F := Stw.start Y w0
 unfold GC at H
 refine vc tk 2 W F fun a w W F => ?_
 refine ls W F Aa (Cc (v := Value.string (bs ([] : List UInt8))) W Aa).q fun a w W F => ?_
 refine C5 tk 4 W F fun a w W F => ?_
 refine CY (z := Value.string (bs ([] : List UInt8))) (cs := [.string (bs ([114, 97, 116, 101] : List UInt8)), .string (bs ([114, 111, 111, 109] : List UInt8)), .string (bs ([119, 105, 100, 101] : List UInt8)), .string (bs ([108, 101, 97, 100] : List UInt8)), .string (bs ([109, 97, 114, 103, 105, 110] : List UInt8)), .string (bs ([114, 101, 116, 114, 121] : List UInt8))]) Rp.str ([([114, 97, 116, 101] : List UInt8), ([114, 111, 111, 109] : List UInt8), ([119, 105, 100, 101] : List UInt8), ([108, 101, 97, 100] : List UInt8), ([109, 97, 114, 103, 105, 110] : List UInt8), ([114, 101, 116, 114, 121] : List UInt8)] : List (List UInt8)) W F Aa JP Z9 Aa Aa Aa Aa Aa Aa (Fl.str.repL _ _ ([([114, 97, 116, 101] : List UInt8), ([114, 111, 111, 109] : List UInt8), ([119, 105, 100, 101] : List UInt8), ([108, 101, 97, 100] : List UInt8), ([109, 97, 114, 103, 105, 110] : List UInt8), ([114, 101, 116, 114, 121] : List UInt8)] : List (List UInt8))) fun v1 a w W F => ?_
 refine ls W F Aa (Am W Aa).q fun a w W F => ?_
 obtain ⟨x1, h1, H⟩ := Ae H
 refine ls W F Aa (AR (r := Rp.str) JP W Aa Aa (Ap 0 Aa) h1).q fun a w W F => ?_
 refine ls W F Aa (An (y := Value.string (bs x1)) (j := 0) (i := p0) W Aa Aa (Ap 0 Aa) h1 Fl.str.to T9 Aa).q fun a w W F => ?_
 refine vl tk 2 W F fun a w W F => ?_
 refine Ac (Ax ?_)
 have H := AA H
 subst H
 refine BB (.inl Aa) W F Aa (Ao W Aa) ?_
 exact ⟨rfl, F.done⟩
theorem ST : Has Tryz.prog 23 := ⟨fun args w => Af Tryz.func23 rfl (by decide) args w⟩
abbrev Qu (a0 : Nat) : List (Nat × List Value) := [(a0, [.int .i64 0, .slice none 0 0, .slice none 0 0, .slice none 0 0, .slice none 0 0, .int .i64 0, .int .i64 0, .int .i64 0, .int .i64 0, .int .i64 0, .int .i64 0])]
abbrev LY (a0 : Nat) (a1 : Nat) (a2 : Nat) : List (Nat × List Value) := [(a0, [.int .i64 0, .slice none 0 0, .slice none 0 0, .slice none 0 0, .slice none 0 0, .int .i64 0, .int .i64 0, .int .i64 0, .int .i64 0, .int .i64 0, .int .i64 0]), (a1, [.int .i64 0, .slice none 0 0, .slice none 0 0, .slice none 0 0, .slice none 0 0, .int .i64 0, .int .i64 0, .int .i64 0, .int .i64 0, .int .i64 0, .int .i64 0]), (a2, [.int .i64 0, .slice none 0 0, .slice none 0 0, .slice none 0 0, .slice none 0 0, .int .i64 0, .int .i64 0, .int .i64 0, .int .i64 0, .int .i64 0, .int .i64 0])]
abbrev PH (a0 : Nat) (a1 : Int) (a2 : Nat) (a3 : Nat) : List (Nat × List Value) := [(a0, [.int .i64 a1, .slice none 0 0, .slice none 0 0, .slice none 0 0, .slice none 0 0, .int .i64 0, .int .i64 0, .int .i64 0, .int .i64 0, .int .i64 0, .int .i64 0]), (a2, [.int .i64 0, .slice none 0 0, .slice none 0 0, .slice none 0 0, .slice none 0 0, .int .i64 0, .int .i64 0, .int .i64 0, .int .i64 0, .int .i64 0, .int .i64 0]), (a3, [.int .i64 0, .slice none 0 0, .slice none 0 0, .slice none 0 0, .slice none 0 0, .int .i64 0, .int .i64 0, .int .i64 0, .int .i64 0, .int .i64 0, .int .i64 0])]
abbrev EK (a0 : Nat) (a1 : ((Int × (List (Int × Int × Int × Int × Int × Int)) × (List (Int × Int))) × List (List Int) × List Int × Int × Int × Int × Int × Int × Int) × Int × Bool) (a2 : Value) (a3 : Value) (a4 : Value) (a5 : Value) (a6 : Nat) (a7 : Nat) : List (Nat × List Value) := [(a0, [.int .i64 a1.1.1.1, a2, a3, a4, a5, .int .i64 a1.1.2.2.2.1, .int .i64 a1.1.2.2.2.2.1, .int .i64 a1.1.2.2.2.2.2.1, .int .i64 a1.1.2.2.2.2.2.2.1, .int .i64 a1.1.2.2.2.2.2.2.2.1, .int .i64 a1.1.2.2.2.2.2.2.2.2]), (a6, [.int .i64 0, .slice none 0 0, .slice none 0 0, .slice none 0 0, .slice none 0 0, .int .i64 0, .int .i64 0, .int .i64 0, .int .i64 0, .int .i64 0, .int .i64 0]), (a7, [.int .i64 0, .slice none 0 0, .slice none 0 0, .slice none 0 0, .slice none 0 0, .int .i64 0, .int .i64 0, .int .i64 0, .int .i64 0, .int .i64 0, .int .i64 0])]
noncomputable def A2 (x1 : List (List UInt8)) : (Int × List Int × Int) → Option ((Int × List Int × Int) ⊕ ((Int × List Int) ⊕ (((Int × (List (Int × Int × Int × Int × Int × Int)) × (List (Int × Int))) × List (List Int) × List Int × Int × Int × Int × Int × Int × Int) × Int × Int)))
  | (x14, x15, x16) => (if x16 < 6 then (GC x16).bind fun x17 => (Ba x1 (BD (x14 + 1)) x17).bind fun x18 => (if (!x18) = true then some (.inr (.inr (((0, ([] : List (Int × Int × Int × Int × Int × Int)), ([] : List (Int × Int))), ([] : List (List Int)), ([] : List Int), 0, 0, 0, 0, 0, 0), BD ((BD (x14 + 1)) + 1), 10))) else (ix x1 (BD (x14 + 1))).bind fun x19 => (Dn x19 1).bind fun x20 => (if (!x20.2) = true then some (.inr (.inr (((0, ([] : List (Int × Int × Int × Int × Int × Int)), ([] : List (Int × Int))), ([] : List (List Int)), ([] : List Int), 0, 0, 0, 0, 0, 0), BD ((BD (x14 + 1)) + 1), 10))) else (ix x20.1 0).bind fun x21 => (Dg x15 ([x21] : List Int)).bind fun x22 => some (.inl (BD (x14 + 1), x22, BD (x16 + 1))))) else some (.inr (.inl (x14, x15))))
noncomputable def GD (p0 : List UInt8) : Option (((Int × (List (Int × Int × Int × Int × Int × Int)) × (List (Int × Int))) × List (List Int) × List Int × Int × Int × Int × Int × Int × Int) × Int × Int) := (GH p0).bind fun x1 => (ix x1 0).bind fun x2 => (Dn x2 1).bind fun x3 => ((Ba x1 0 ([115, 119, 105, 116, 99, 104, 101, 115] : List UInt8)).bind fun x5 => (if (!x5) = true then some true else some (!x3.2))).bind fun x4 => (if x4 = true then some (((0, ([] : List (Int × Int × Int × Int × Int × Int)), ([] : List (Int × Int))), ([] : List (List Int)), ([] : List Int), 0, 0, 0, 0, 0, 0), 1, 10) else (ix x3.1 0).bind fun x6 => (HD x1 ((x6, ([] : List (Int × Int × Int × Int × Int × Int)), ([] : List (Int × Int))), ([] : List (List Int)), ([] : List Int), 0, 0, 0, 0, 0, 0)).bind fun x7 => (if (!x7.2.2) = true then some true else (Ba x1 x7.2.1 ([115, 116, 97, 114, 116, 115] : List UInt8)).bind fun x9 => some (!x9)).bind fun x8 => (if x8 = true then some (((0, ([] : List (Int × Int × Int × Int × Int × Int)), ([] : List (Int × Int))), ([] : List (List Int)), ([] : List Int), 0, 0, 0, 0, 0, 0), BD (x7.2.1 + 1), 10) else (ix x1 x7.2.1).bind fun x10 => (Dn x10 (-1)).bind fun x11 => (if (!x11.2) = true then some (((0, ([] : List (Int × Int × Int × Int × Int × Int)), ([] : List (Int × Int))), ([] : List (List Int)), ([] : List Int), 0, 0, 0, 0, 0, 0), BD (x7.2.1 + 1), 10) else ES (Av (A2 x1) (x7.2.1, [], 0)) fun (x12, x13) => (ix x13 0).bind fun x23 => (ix x13 1).bind fun x24 => (ix x13 2).bind fun x25 => (ix x13 3).bind fun x26 => (ix x13 4).bind fun x27 => (ix x13 5).bind fun x28 => (if (x1.length : Int) ≠ (BD (x12 + 2)) then some true else (ix x1 (BD (x12 + 1))).bind fun x30 => some (decide (x30 ≠ ([] : List UInt8)))).bind fun x29 => (if x29 = true then some (((0, ([] : List (Int × Int × Int × Int × Int × Int)), ([] : List (Int × Int))), ([] : List (List Int)), ([] : List Int), 0, 0, 0, 0, 0, 0), BD (x12 + 2), 10) else some ((x7.1.1, x7.1.2.1, x11.1, x23, x24, x25, x26, x27, x28), 0, 0)))))
theorem Mw (Y : Nat → Prop) (w0 : World)  (p0 : List UInt8) (r : ((Int × (List (Int × Int × Int × Int × Int × Int)) × (List (Int × Int))) × List (List Int) × List Int × Int × Int × Int × Int × Int × Int) × Int × Int) (H : GD p0 = some r)  :
    Calls Tryz.prog 7 #[.string (bs p0)] w0 fun e w' => ∃ x : Value × Value × Value × Value, e = .returned (.tuple #[.agg #[.int .i64 r.1.1.1, x.1, x.2.1, x.2.2.1, x.2.2.2, .int .i64 r.1.2.2.2.1, .int .i64 r.1.2.2.2.2.1, .int .i64 r.1.2.2.2.2.2.1, .int .i64 r.1.2.2.2.2.2.2.1, .int .i64 r.1.2.2.2.2.2.2.2.1, .int .i64 r.1.2.2.2.2.2.2.2.2], .int .i64 r.2.1, .int .i64 r.2.2]) ∧ Stw ⟨Y, [], w0⟩ [] [row (x.1) 50 AV r.1.1.2.1, row (x.2.1) 52 A3 r.1.1.2.2, row (x.2.2.1) 40 (Rp.slice (Rp.int .u64)) r.1.2.1, row (x.2.2.2) 3 (Rp.int .i64) r.1.2.2.1] w' := by
 refine enter Tryz.func7 Aa Tryz.ntmps7 Aa fun a W => ?_
 have F := Stw.start Y w0
 unfold GD at H
 refine vc tk 2 W F fun a w W F => ?_
 refine DI (cs := (Dr)) W F Aa P2 Aa fun b1 a w W F => ?_
 refine C5 tk 7 W F fun a w W F => ?_
 obtain ⟨x1, h1, H⟩ := Ae H
 refine AC (Ml := []) (Zl := []) (M := (Qu b1)) (Z := []) (β := Value) (rv := fun x => x) (MM := fun x => []) (ZZ := fun x => [row x 9 Rp.str x1]) W F TI Aa Aa (fun hL => Mn _ w p0 _ h1) fun x a w W F => ?_
 obtain ⟨v1, rfl⟩ : ∃ y, y = x := ⟨x, rfl⟩
 have F : Stw ⟨Y, [], w0⟩ (Qu b1) [row v1 9 Rp.str x1] w := F
 refine C5 tk 5 W F fun a w W F => ?_
 refine ls W F Aa (Fa (v := Value.agg #[.int .i64 0, .slice none 0 0, .slice none 0 0, .slice none 0 0, .slice none 0 0, .int .i64 0, .int .i64 0, .int .i64 0, .int .i64 0, .int .i64 0, .int .i64 0]) SW W Aa Aa Aa).q fun a w W F => ?_
 refine DI (cs := (Dr)) W F Aa P2 Aa fun b2 a w W F => ?_
 refine Bg (vs := (Dr)) (M' := [(b2, [.int .i64 0, .slice none 0 0, .slice none 0 0, .slice none 0 0, .slice none 0 0, .int .i64 0, .int .i64 0, .int .i64 0, .int .i64 0, .int .i64 0, .int .i64 0]), (b1, [.int .i64 0, .slice none 0 0, .slice none 0 0, .slice none 0 0, .slice none 0 0, .int .i64 0, .int .i64 0, .int .i64 0, .int .i64 0, .int .i64 0, .int .i64 0])]) 0 W F Aa Aa Aa ET Aa Aa Aa Aa Aa fun w F => ?_
 refine GO tk 5 [0] W F (ai fun a w W F => ?_)
 refine DI (cs := (Dr)) W F Aa P2 Aa fun b3 a w W F => ?_
 refine Bg (vs := (Dr)) (M' := (LY b3 b2 b1)) 0 W F Aa Aa Aa ET Aa Aa Aa Aa Aa fun w F => ?_
 refine C5 tk 5 W F fun a w W F => ?_
 obtain ⟨x2, h2, H⟩ := Ae H
 refine ls W F Aa (AR (r := Rp.str) JP W Aa Aa (Ap 0 Aa) h2).q fun a w W F => ?_
 refine ls W F Aa (An (y := Value.string (bs x2)) (j := 0) (i := 0) W Aa Aa (Ap 0 Aa) h2 Fl.str.to T9 Aa).q fun a w W F => ?_
 obtain ⟨x3, h3, H⟩ := Ae H
 refine AC (Ml := []) (Zl := []) (M := (LY b3 b2 b1)) (Z := [row v1 9 Rp.str x1]) (β := Value) (rv := fun x => .tuple #[x, .bool x3.2]) (MM := fun x => []) (ZZ := fun x => [row x 3 (Rp.int .i64) x3.1]) W F R2 Aa Aa (fun hL => Gf _ w x2 1 _ h3) fun x a w W F => ?_
 obtain ⟨v2, rfl⟩ : ∃ y, y = x := ⟨x, rfl⟩
 have F : Stw ⟨Y, [], w0⟩ (LY b3 b2 b1) [row v2 3 (Rp.int .i64) x3.1, row v1 9 Rp.str x1] w := F
 refine ls W F Aa (Am W Aa).q fun a w W F => ?_
 refine ls W F Aa (Au (v := v2) W Aa Aa).q fun a w W F => ?_
 refine ls W F Aa (Au (v := Value.bool x3.2) W Aa Aa).q fun a w W F => ?_
 refine C5 tk 5 W F fun a w W F => ?_
 obtain ⟨o1, G1, K1⟩ := Ae H
 refine Aw (fun a w => ∃ x4 : Bool, some (x4) = some o1 ∧ Fr 146 [] [(2, .pointer (some ⟨b1, 0, none⟩)), (3, .int .i64 0), (4, .int .i64 0), (5, v1), (6, .pointer (some ⟨b2, 0, none⟩)), (7, .pointer (some ⟨b3, 0, none⟩)), (8, v2), (32, .bool x4)] a ∧ Stw ⟨Y, [], w0⟩ (LY b3 b2 b1) [row v1 9 Rp.str x1, row v2 3 (Rp.int .i64) x3.1] w) ?_ ?_
 ·
  have H := G1
  clear G1 K1
  refine vc tk 2 W F fun a w W F => ?_
  obtain ⟨x5, h4, H⟩ := Ae H
  refine ls W F Aa (AE (v := Value.bool x5) W Rr Aa (fun w F => Ey any w (v1) x1 0 ([115, 119, 105, 116, 99, 104, 101, 115] : List UInt8) _ h4 (((Ap 1 Aa) : CW _ _ _ _ _ _) w F).nx)) fun a w W F => ?_
  refine vl tk 2 W F fun a w W F => ?_
  rcases Bool.eq_false_or_eq_true (!x5) with hb | hb
  ·
   have H := Cu hb H
   rw [hb] at W
   clear hb
   refine vl tk 4 W F fun a w W F => ?_
   refine Ac ?_
   have F := F.frontZ (i := 1) Aa Aa
   have F := F.frontM (i := 2) Aa Aa
   have F := F.frontM (i := 2) Aa Aa
   have F := F.frontM (i := 2) Aa Aa
   exact ⟨_, H, W.ra Aa, F⟩
  have H := Ct (by rw [hb]; decide) H
  rw [hb] at W
  clear hb
  refine vl tk 4 W F fun a w W F => ?_
  refine Ac ?_
  have F := F.frontZ (i := 1) Aa Aa
  have F := F.frontM (i := 2) Aa Aa
  have F := F.frontM (i := 2) Aa Aa
  have F := F.frontM (i := 2) Aa Aa
  exact ⟨_, H, W.ra Aa, F⟩
 rintro a w ⟨x4, hj, W, F⟩
 have hj := AA hj
 subst hj
 have H := K1
 clear G1 K1
 refine B2 W Aa H (fun W H => ?_) fun W H => ?_
 ·
  refine Ib tk 3 [1] W F (ai fun a w W F => ?_)
  refine Bg (vs := (Dr)) (M' := (LY b3 b2 b1)) 2 W F Aa Aa Aa ET Aa Aa Aa Aa Aa fun w F => ?_
  refine vl tk 3 W F fun a w W F => ?_
  refine Ac (Ax (Az ?_))
  have H := AA H
  subst H
  refine Hc (.inl Aa) W F Aa (AJ 2 W Aa Aa ET Aa) (Ao W Aa) (Ao W Aa) ?_
  have F := F.nilRow 50 AV
  have F := F.nilRow 52 A3
  have F := F.nilRow 40 (Rp.slice (Rp.int .u64))
  have F := F.nilRow 3 (Rp.int .i64)
  have F := F.frontZ (i := 1) Aa Aa
  have F := F.frontZ (i := 2) Aa Aa
  have F := F.frontZ (i := 3) Aa Aa
  have F := F.sub (M' := []) (Z' := [row (Value.slice none 0 0) 50 AV ([]), row (Value.slice none 0 0) 52 A3 ([]), row (Value.slice none 0 0) 40 (Rp.slice (Rp.int .u64)) ([]), row (Value.slice none 0 0) 3 (Rp.int .i64) ([])]) (List.nil_sublist _) (List.Sublist.cons_cons _ (List.Sublist.cons_cons _ (List.Sublist.cons_cons _ (List.Sublist.cons_cons _ (List.nil_sublist _)))))
  exact ⟨((Value.slice none 0 0), (Value.slice none 0 0), (Value.slice none 0 0), (Value.slice none 0 0)), Aa, F⟩
 refine Ek tk 5 W F fun a w W F => ?_
 obtain ⟨x6, h5, H⟩ := Ae H
 refine ls W F Aa (AR (r := (Rp.int .i64)) Fb W Aa Aa (Ap 1 Aa) h5).q fun a w W F => ?_
 refine ls W F Aa (An (y := Value.int .i64 x6) (j := 0) (i := 0) W Aa Aa (Ap 1 Aa) h5 Fl.int.to T3 Aa).q fun a w W F => ?_
 refine vl tk 2 W F fun a w W F => ?_
 refine Bg (vs := [.int .i64 x6]) (M' := (PH b3 x6 b2 b1)) 0 W F Aa Aa Aa T3 Aa Aa Aa Aa Aa fun w F => ?_
 refine GO tk 6 [0] W F (ai fun a w W F => ?_)
 obtain ⟨x7, h6, H⟩ := Ae H
 refine AC (Ml := []) (Zl := []) (M := (PH b3 x6 b2 b1)) (Z := [row v1 9 Rp.str x1, row v2 3 (Rp.int .i64) x3.1]) (β := Value × Value × Value × Value) (rv := fun x => .tuple #[.agg #[.int .i64 x7.1.1.1, x.1, x.2.1, x.2.2.1, x.2.2.2, .int .i64 x7.1.2.2.2.1, .int .i64 x7.1.2.2.2.2.1, .int .i64 x7.1.2.2.2.2.2.1, .int .i64 x7.1.2.2.2.2.2.2.1, .int .i64 x7.1.2.2.2.2.2.2.2.1, .int .i64 x7.1.2.2.2.2.2.2.2.2], .int .i64 x7.2.1, .bool x7.2.2]) (MM := fun x => []) (ZZ := fun x => [row x.1 50 AV x7.1.1.2.1, row x.2.1 52 A3 x7.1.1.2.2, row x.2.2.1 40 (Rp.slice (Rp.int .u64)) x7.1.2.1, row x.2.2.2 3 (Rp.int .i64) x7.1.2.2.1]) W F T2 Aa Aa (fun hL => Md _ w (v1) x1 ((x6, ([] : List (Int × Int × Int × Int × Int × Int)), ([] : List (Int × Int))), ([] : List (List Int)), ([] : List Int), 0, 0, 0, 0, 0, 0) _ h6 ((Ap 0 Aa) w F).nx) fun x a w W F => ?_
 obtain ⟨v3, v4, v5, v6⟩ := x
 have F : Stw ⟨Y, [], w0⟩ (PH b3 x6 b2 b1) [row v3 50 AV x7.1.1.2.1, row v4 52 A3 x7.1.1.2.2, row v5 40 (Rp.slice (Rp.int .u64)) x7.1.2.1, row v6 3 (Rp.int .i64) x7.1.2.2.1, row v1 9 Rp.str x1, row v2 3 (Rp.int .i64) x3.1] w := F
 refine ls W F Aa (Am W Aa).q fun a w W F => ?_
 refine ls W F Aa (Au (v := Value.agg #[.int .i64 x7.1.1.1, v3, v4, v5, v6, .int .i64 x7.1.2.2.2.1, .int .i64 x7.1.2.2.2.2.1, .int .i64 x7.1.2.2.2.2.2.1, .int .i64 x7.1.2.2.2.2.2.2.1, .int .i64 x7.1.2.2.2.2.2.2.2.1, .int .i64 x7.1.2.2.2.2.2.2.2.2]) W Aa Aa).q fun a w W F => ?_
 refine ls W F Aa (Au (v := Value.int .i64 x7.2.1) W Aa Aa).q fun a w W F => ?_
 refine ls W F Aa (Au (v := Value.bool x7.2.2) W Aa Aa).q fun a w W F => ?_
 refine Bg (vs := [.int .i64 x7.1.1.1, v3, v4, v5, v6, .int .i64 x7.1.2.2.2.1, .int .i64 x7.1.2.2.2.2.1, .int .i64 x7.1.2.2.2.2.2.1, .int .i64 x7.1.2.2.2.2.2.2.1, .int .i64 x7.1.2.2.2.2.2.2.2.1, .int .i64 x7.1.2.2.2.2.2.2.2.2]) (M' := (EK b3 x7 v3 v4 v5 v6 b2 b1)) 0 W F Aa Aa Aa ET Aa Aa Aa (Ai Aa (Ai (F.one (k := 0) Aa) (Ai (F.one (k := 1) Aa) (Ai (F.one (k := 2) Aa) (Ai (F.one (k := 3) Aa) (Ai Aa (Ai Aa (Ai Aa (Ai Aa (Ai Aa (Ai Aa ER))))))))))) Aa fun w F => ?_
 refine C5 tk 5 W F fun a w W F => ?_
 obtain ⟨o2, G2, K2⟩ := Ae H
 refine Aw (fun a w => ∃ x8 : Bool, some (x8) = some o2 ∧ Fr 146 [] [(2, .pointer (some ⟨b1, 0, none⟩)), (3, .int .i64 0), (4, .int .i64 0), (5, v1), (6, .pointer (some ⟨b2, 0, none⟩)), (7, .pointer (some ⟨b3, 0, none⟩)), (10, .int .i64 x7.2.1), (53, .bool x8)] a ∧ Stw ⟨Y, [], w0⟩ (EK b3 x7 v3 v4 v5 v6 b2 b1) [row v1 9 Rp.str x1, row v3 50 AV x7.1.1.2.1, row v4 52 A3 x7.1.1.2.2, row v5 40 (Rp.slice (Rp.int .u64)) x7.1.2.1, row v6 3 (Rp.int .i64) x7.1.2.2.1] w) ?_ ?_
 ·
  have H := G2
  clear G2 K2
  refine vc tk 4 W F fun a w W F => ?_
  rcases Bool.eq_false_or_eq_true (!x7.2.2) with hb | hb
  ·
   have H := Cu hb H
   rw [hb] at W
   clear hb
   refine vl tk 6 W F fun a w W F => ?_
   refine Ac ?_
   have F := F.frontZ (i := 3) Aa Aa
   have F := F.frontZ (i := 3) Aa Aa
   have F := F.frontZ (i := 3) Aa Aa
   have F := F.frontZ (i := 3) Aa Aa
   have F := F.frontZ (i := 4) Aa Aa
   have F := F.frontM (i := 2) Aa Aa
   have F := F.frontM (i := 2) Aa Aa
   have F := F.frontM (i := 2) Aa Aa
   have F := F.sub (M' := (EK b3 x7 v3 v4 v5 v6 b2 b1)) (Z' := [row v1 9 Rp.str x1, row v3 50 AV x7.1.1.2.1, row v4 52 A3 x7.1.1.2.2, row v5 40 (Rp.slice (Rp.int .u64)) x7.1.2.1, row v6 3 (Rp.int .i64) x7.1.2.2.1]) (List.Sublist.refl _) (List.Sublist.cons_cons _ (List.Sublist.cons_cons _ (List.Sublist.cons_cons _ (List.Sublist.cons_cons _ (List.Sublist.cons_cons _ (List.nil_sublist _))))))
   exact ⟨_, H, W.ra Aa, F⟩
  have H := Ct (by rw [hb]; decide) H
  rw [hb] at W
  clear hb
  refine vl tk 2 W F fun a w W F => ?_
  refine E5 (Ag W Aa Aa Aa Aa) ?_
  obtain ⟨x9, h7, H⟩ := Ae H
  refine ls W F Aa (AE (v := Value.bool x9) W Rr Aa (fun w F => Ey any w (v1) x1 x7.2.1 ([115, 116, 97, 114, 116, 115] : List UInt8) _ h7 (((Ap 4 Aa) : CW _ _ _ _ _ _) w F).nx)) fun a w W F => ?_
  refine vl tk 3 W F fun a w W F => ?_
  refine Ac ?_
  have F := F.frontZ (i := 3) Aa Aa
  have F := F.frontZ (i := 3) Aa Aa
  have F := F.frontZ (i := 3) Aa Aa
  have F := F.frontZ (i := 3) Aa Aa
  have F := F.frontZ (i := 4) Aa Aa
  have F := F.frontM (i := 2) Aa Aa
  have F := F.frontM (i := 2) Aa Aa
  have F := F.frontM (i := 2) Aa Aa
  have F := F.sub (M' := (EK b3 x7 v3 v4 v5 v6 b2 b1)) (Z' := [row v1 9 Rp.str x1, row v3 50 AV x7.1.1.2.1, row v4 52 A3 x7.1.1.2.2, row v5 40 (Rp.slice (Rp.int .u64)) x7.1.2.1, row v6 3 (Rp.int .i64) x7.1.2.2.1]) (List.Sublist.refl _) (List.Sublist.cons_cons _ (List.Sublist.cons_cons _ (List.Sublist.cons_cons _ (List.Sublist.cons_cons _ (List.Sublist.cons_cons _ (List.nil_sublist _))))))
  exact ⟨_, H, W.ra Aa, F⟩
 rintro a w ⟨x8, hj, W, F⟩
 have hj := AA hj
 subst hj
 have H := K2
 clear G2 K2
 refine B2 W Aa H (fun W H => ?_) fun W H => ?_
 ·
  refine Ib tk 5 [1] W F (ai fun a w W F => ?_)
  refine Bg (vs := (Dr)) (M' := (EK b3 x7 v3 v4 v5 v6 b2 b1)) 2 W F Aa Aa Aa ET Aa Aa Aa Aa Aa fun w F => ?_
  refine vl tk 3 W F fun a w W F => ?_
  refine Ac (Ax (Az ?_))
  have H := AA H
  subst H
  refine Hc (.inl Aa) W F Aa (AJ 2 W Aa Aa ET Aa) (Ao W Aa) (Ao W Aa) ?_
  have F := F.nilRow 50 AV
  have F := F.nilRow 52 A3
  have F := F.nilRow 40 (Rp.slice (Rp.int .u64))
  have F := F.nilRow 3 (Rp.int .i64)
  have F := F.frontZ (i := 1) Aa Aa
  have F := F.frontZ (i := 2) Aa Aa
  have F := F.frontZ (i := 3) Aa Aa
  have F := F.sub (M' := []) (Z' := [row (Value.slice none 0 0) 50 AV ([]), row (Value.slice none 0 0) 52 A3 ([]), row (Value.slice none 0 0) 40 (Rp.slice (Rp.int .u64)) ([]), row (Value.slice none 0 0) 3 (Rp.int .i64) ([])]) (List.nil_sublist _) (List.Sublist.cons_cons _ (List.Sublist.cons_cons _ (List.Sublist.cons_cons _ (List.Sublist.cons_cons _ (List.nil_sublist _)))))
  exact ⟨((Value.slice none 0 0), (Value.slice none 0 0), (Value.slice none 0 0), (Value.slice none 0 0)), Aa, F⟩
 refine Ek tk 6 W F fun a w W F => ?_
 obtain ⟨x10, h8, H⟩ := Ae H
 refine ls W F Aa (AR (r := Rp.str) JP W Aa Aa (Ap 0 Aa) h8).q fun a w W F => ?_
 refine ls W F Aa (An (y := Value.string (bs x10)) (j := 0) (i := x7.2.1) W Aa Aa (Ap 0 Aa) h8 Fl.str.to T9 Aa).q fun a w W F => ?_
 obtain ⟨x11, h9, H⟩ := Ae H
 refine AC (Ml := []) (Zl := []) (M := (EK b3 x7 v3 v4 v5 v6 b2 b1)) (Z := [row v1 9 Rp.str x1, row v3 50 AV x7.1.1.2.1, row v4 52 A3 x7.1.1.2.2, row v5 40 (Rp.slice (Rp.int .u64)) x7.1.2.1, row v6 3 (Rp.int .i64) x7.1.2.2.1]) (β := Value) (rv := fun x => .tuple #[x, .bool x11.2]) (MM := fun x => []) (ZZ := fun x => [row x 3 (Rp.int .i64) x11.1]) W F R2 Aa Aa (fun hL => Gf _ w x10 (-1) _ h9) fun x a w W F => ?_
 obtain ⟨v7, rfl⟩ : ∃ y, y = x := ⟨x, rfl⟩
 have F : Stw ⟨Y, [], w0⟩ (EK b3 x7 v3 v4 v5 v6 b2 b1) [row v7 3 (Rp.int .i64) x11.1, row v1 9 Rp.str x1, row v3 50 AV x7.1.1.2.1, row v4 52 A3 x7.1.1.2.2, row v5 40 (Rp.slice (Rp.int .u64)) x7.1.2.1, row v6 3 (Rp.int .i64) x7.1.2.2.1] w := F
 refine ls W F Aa (Am W Aa).q fun a w W F => ?_
 refine ls W F Aa (Au (v := v7) W Aa Aa).q fun a w W F => ?_
 refine ls W F Aa (Au (v := Value.bool x11.2) W Aa Aa).q fun a w W F => ?_
 refine ls W F Aa (Aj Dj Aa Aa Aa QJ W Aa 4 Aa).q fun a w W F => ?_
 refine FA (M' := (EK b3 x7 v3 v4 v5 v7 b2 b1)) 0 W F Aa Aa Aa QJ (F.one (k := 0) Aa) Aa Aa fun w F => ?_
 refine C5 tk 10 W F fun a w W F => ?_
 refine B2 W Aa H (fun W H => ?_) fun W H => ?_
 ·
  refine Ib tk 5 [1] W F (ai fun a w W F => ?_)
  refine Bg (vs := (Dr)) (M' := (EK b3 x7 v3 v4 v5 v7 b2 b1)) 2 W F Aa Aa Aa ET Aa Aa Aa Aa Aa fun w F => ?_
  refine vl tk 3 W F fun a w W F => ?_
  refine Ac (Ax (Az ?_))
  have H := AA H
  subst H
  refine Hc (.inl Aa) W F Aa (AJ 2 W Aa Aa ET Aa) (Ao W Aa) (Ao W Aa) ?_
  have F := F.nilRow 50 AV
  have F := F.nilRow 52 A3
  have F := F.nilRow 40 (Rp.slice (Rp.int .u64))
  have F := F.nilRow 3 (Rp.int .i64)
  have F := F.frontZ (i := 1) Aa Aa
  have F := F.frontZ (i := 2) Aa Aa
  have F := F.frontZ (i := 3) Aa Aa
  have F := F.sub (M' := []) (Z' := [row (Value.slice none 0 0) 50 AV ([]), row (Value.slice none 0 0) 52 A3 ([]), row (Value.slice none 0 0) 40 (Rp.slice (Rp.int .u64)) ([]), row (Value.slice none 0 0) 3 (Rp.int .i64) ([])]) (List.nil_sublist _) (List.Sublist.cons_cons _ (List.Sublist.cons_cons _ (List.Sublist.cons_cons _ (List.Sublist.cons_cons _ (List.nil_sublist _)))))
  exact ⟨((Value.slice none 0 0), (Value.slice none 0 0), (Value.slice none 0 0), (Value.slice none 0 0)), Aa, F⟩
 refine Ek tk 7 W F fun a w W F => ?_
 obtain ⟨o3, G3, K3, L3⟩ := HU H
 refine Aw (fun a w => ∃ x12 : Int, ∃ x13 : List Int, ∃ v8 : Value, some (Sum.inl (x12, x13)) = some o3 ∧ Fr 146 [] [(2, .pointer (some ⟨b1, 0, none⟩)), (3, .int .i64 0), (4, .int .i64 0), (5, v1), (6, .pointer (some ⟨b2, 0, none⟩)), (7, .pointer (some ⟨b3, 0, none⟩)), (10, .int .i64 x12), (11, v8)] a ∧ Stw ⟨Y, [], w0⟩ (EK b3 x7 v3 v4 v5 v7 b2 b1) [row v1 9 Rp.str x1, row v8 3 (Rp.int .i64) x13, row v3 50 AV x7.1.1.2.1, row v4 52 A3 x7.1.1.2.2, row v5 40 (Rp.slice (Rp.int .u64)) x7.1.2.1, row v7 3 (Rp.int .i64) x11.1] w) ?_ ?_
 ·
  have H := G3
  clear G3 K3
  refine vc tk 6 W F fun a w W F => ?_
  have F := F.nilRow 3 (Rp.int .i64)
  have F := F.frontZ (i := 1) Aa Aa
  have F := F.frontZ (i := 5) Aa Aa
  have F := F.frontZ (i := 5) Aa Aa
  have F := F.frontZ (i := 5) Aa Aa
  have F := F.frontZ (i := 4) Aa Aa
  have F := F.frontZ (i := 5) Aa Aa
  have F := F.frontM (i := 2) Aa Aa
  have F := F.frontM (i := 2) Aa Aa
  have F := F.frontM (i := 2) Aa Aa
  have F := F.sub (M' := (EK b3 x7 v3 v4 v5 v7 b2 b1)) (Z' := [row v1 9 Rp.str x1, row (Value.slice none 0 0) 3 (Rp.int .i64) ([]), row v3 50 AV x7.1.1.2.1, row v4 52 A3 x7.1.1.2.2, row v5 40 (Rp.slice (Rp.int .u64)) x7.1.2.1, row v7 3 (Rp.int .i64) x11.1]) (List.Sublist.refl _) (List.Sublist.cons_cons _ (List.Sublist.cons_cons _ (List.Sublist.cons_cons _ (List.Sublist.cons_cons _ (List.Sublist.cons_cons _ (List.Sublist.cons_cons _ (List.nil_sublist _)))))))
  refine Bl H (fun s a w => ∃ v9 : Value, Fr 146 [] [(2, .pointer (some ⟨b1, 0, none⟩)), (3, .int .i64 0), (4, .int .i64 0), (5, v1), (6, .pointer (some ⟨b2, 0, none⟩)), (7, .pointer (some ⟨b3, 0, none⟩)), (10, .int .i64 s.1), (11, v9), (12, .int .i64 s.2.2)] a ∧ Stw ⟨Y, [], w0⟩ (EK b3 x7 v3 v4 v5 v7 b2 b1) [row v1 9 Rp.str x1, row v9 3 (Rp.int .i64) s.2.1, row v3 50 AV x7.1.1.2.1, row v4 52 A3 x7.1.1.2.2, row v5 40 (Rp.slice (Rp.int .u64)) x7.1.2.1, row v7 3 (Rp.int .i64) x11.1] w) ⟨(Value.slice none 0 0), W.ra Aa, F⟩ fun s o a w H L4 hR => ?_
  obtain ⟨x14, x15, x16⟩ := s
  obtain ⟨v9, W, F⟩ := hR
  have W : Fr 146 [] [(2, .pointer (some ⟨b1, 0, none⟩)), (3, .int .i64 0), (4, .int .i64 0), (5, v1), (6, .pointer (some ⟨b2, 0, none⟩)), (7, .pointer (some ⟨b3, 0, none⟩)), (10, .int .i64 x14), (11, v9), (12, .int .i64 x16)] a := W
  have F : Stw ⟨Y, [], w0⟩ (EK b3 x7 v3 v4 v5 v7 b2 b1) [row v1 9 Rp.str x1, row v9 3 (Rp.int .i64) x15, row v3 50 AV x7.1.1.2.1, row v4 52 A3 x7.1.1.2.2, row v5 40 (Rp.slice (Rp.int .u64)) x7.1.2.1, row v7 3 (Rp.int .i64) x11.1] w := F
  rw [A2] at H
  refine vc tk 7 W F fun a w W F => ?_
  refine Bq W Aa H (fun W H => ?_) fun W H => ?_
  ·
   refine Ek tk 17 W F fun a w W F => ?_
   obtain ⟨x17, h10, H⟩ := Ae H
   refine ls W F Aa (AE (v := Value.string (bs x17)) W ST Aa (fun w F => H1 any w x16 _ h10)) fun a w W F => ?_
   obtain ⟨x18, h11, H⟩ := Ae H
   refine ls W F Aa (AE (v := Value.bool x18) W Rr Aa (fun w F => Ey any w (v1) x1 (BD (x14 + 1)) x17 _ h11 (((Ap 0 Aa) : CW _ _ _ _ _ _) w F).nx)) fun a w W F => ?_
   refine vl tk 2 W F fun a w W F => ?_
   refine Ac ?_
   refine B2 W Aa H (fun W H => ?_) fun W H => ?_
   ·
    refine Ib tk 5 [1] W F (ai fun a w W F => ?_)
    refine Bg (vs := (Dr)) (M' := (EK b3 x7 v3 v4 v5 v7 b2 b1)) 2 W F Aa Aa Aa ET Aa Aa Aa Aa Aa fun w F => ?_
    refine vl tk 3 W F fun a w W F => ?_
    refine Ac (Ax (Az (AU ?_)))
    iterate 2 refine Az ?_
    refine AU (Az ?_)
    have H := L4 _ H
    have H := L3 _ H
    have H := AA H
    subst H
    refine Hc (.inl Aa) W F Aa (AJ 2 W Aa Aa ET Aa) (Ao W Aa) (Ao W Aa) ?_
    have F := F.nilRow 50 AV
    have F := F.nilRow 52 A3
    have F := F.nilRow 40 (Rp.slice (Rp.int .u64))
    have F := F.nilRow 3 (Rp.int .i64)
    have F := F.frontZ (i := 1) Aa Aa
    have F := F.frontZ (i := 2) Aa Aa
    have F := F.frontZ (i := 3) Aa Aa
    have F := F.sub (M' := []) (Z' := [row (Value.slice none 0 0) 50 AV ([]), row (Value.slice none 0 0) 52 A3 ([]), row (Value.slice none 0 0) 40 (Rp.slice (Rp.int .u64)) ([]), row (Value.slice none 0 0) 3 (Rp.int .i64) ([])]) (List.nil_sublist _) (List.Sublist.cons_cons _ (List.Sublist.cons_cons _ (List.Sublist.cons_cons _ (List.Sublist.cons_cons _ (List.nil_sublist _)))))
    exact ⟨((Value.slice none 0 0), (Value.slice none 0 0), (Value.slice none 0 0), (Value.slice none 0 0)), Aa, F⟩
   refine Ek tk 6 W F fun a w W F => ?_
   obtain ⟨x19, h12, H⟩ := Ae H
   refine ls W F Aa (AR (r := Rp.str) JP W Aa Aa (Ap 0 Aa) h12).q fun a w W F => ?_
   refine ls W F Aa (An (y := Value.string (bs x19)) (j := 0) (i := BD (x14 + 1)) W Aa Aa (Ap 0 Aa) h12 Fl.str.to T9 Aa).q fun a w W F => ?_
   obtain ⟨x20, h13, H⟩ := Ae H
   refine AC (Ml := []) (Zl := []) (M := (EK b3 x7 v3 v4 v5 v7 b2 b1)) (Z := [row v1 9 Rp.str x1, row v9 3 (Rp.int .i64) x15, row v3 50 AV x7.1.1.2.1, row v4 52 A3 x7.1.1.2.2, row v5 40 (Rp.slice (Rp.int .u64)) x7.1.2.1, row v7 3 (Rp.int .i64) x11.1]) (β := Value) (rv := fun x => .tuple #[x, .bool x20.2]) (MM := fun x => []) (ZZ := fun x => [row x 3 (Rp.int .i64) x20.1]) W F R2 Aa Aa (fun hL => Gf _ w x19 1 _ h13) fun x a w W F => ?_
   obtain ⟨v10, rfl⟩ : ∃ y, y = x := ⟨x, rfl⟩
   have F : Stw ⟨Y, [], w0⟩ (EK b3 x7 v3 v4 v5 v7 b2 b1) [row v10 3 (Rp.int .i64) x20.1, row v1 9 Rp.str x1, row v9 3 (Rp.int .i64) x15, row v3 50 AV x7.1.1.2.1, row v4 52 A3 x7.1.1.2.2, row v5 40 (Rp.slice (Rp.int .u64)) x7.1.2.1, row v7 3 (Rp.int .i64) x11.1] w := F
   refine ls W F Aa (Am W Aa).q fun a w W F => ?_
   refine ls W F Aa (Au (v := v10) W Aa Aa).q fun a w W F => ?_
   refine ls W F Aa (Au (v := Value.bool x20.2) W Aa Aa).q fun a w W F => ?_
   refine C5 tk 11 W F fun a w W F => ?_
   refine B2 W Aa H (fun W H => ?_) fun W H => ?_
   ·
    refine Ib tk 5 [1] W F (ai fun a w W F => ?_)
    refine Bg (vs := (Dr)) (M' := (EK b3 x7 v3 v4 v5 v7 b2 b1)) 2 W F Aa Aa Aa ET Aa Aa Aa Aa Aa fun w F => ?_
    refine vl tk 3 W F fun a w W F => ?_
    refine Ac (Ax (Az (AU ?_)))
    iterate 2 refine Az ?_
    refine AU (Az ?_)
    have H := L4 _ H
    have H := L3 _ H
    have H := AA H
    subst H
    refine Hc (.inl Aa) W F Aa (AJ 2 W Aa Aa ET Aa) (Ao W Aa) (Ao W Aa) ?_
    have F := F.nilRow 50 AV
    have F := F.nilRow 52 A3
    have F := F.nilRow 40 (Rp.slice (Rp.int .u64))
    have F := F.nilRow 3 (Rp.int .i64)
    have F := F.frontZ (i := 1) Aa Aa
    have F := F.frontZ (i := 2) Aa Aa
    have F := F.frontZ (i := 3) Aa Aa
    have F := F.sub (M' := []) (Z' := [row (Value.slice none 0 0) 50 AV ([]), row (Value.slice none 0 0) 52 A3 ([]), row (Value.slice none 0 0) 40 (Rp.slice (Rp.int .u64)) ([]), row (Value.slice none 0 0) 3 (Rp.int .i64) ([])]) (List.nil_sublist _) (List.Sublist.cons_cons _ (List.Sublist.cons_cons _ (List.Sublist.cons_cons _ (List.Sublist.cons_cons _ (List.nil_sublist _)))))
    exact ⟨((Value.slice none 0 0), (Value.slice none 0 0), (Value.slice none 0 0), (Value.slice none 0 0)), Aa, F⟩
   refine Ek tk 5 W F fun a w W F => ?_
   obtain ⟨x21, h14, H⟩ := Ae H
   refine ls W F Aa (AR (r := (Rp.int .i64)) Fb W Aa Aa (Ap 0 Aa) h14).q fun a w W F => ?_
   refine ls W F Aa (An (y := Value.int .i64 x21) (j := 0) (i := 0) W Aa Aa (Ap 0 Aa) h14 Fl.int.to T3 Aa).q fun a w W F => ?_
   refine CY (z := Value.int .i64 0) (cs := [.int .i64 x21]) (Rp.int .i64) ([x21] : List Int) W F Aa Fb Z3 Aa Aa Aa Aa Aa Aa (Fl.int.repL _ _ ([x21] : List Int)) fun v11 a w W F => ?_
   obtain ⟨x22, h15, H⟩ := Ae H
   refine Do (r := (Rp.int .i64)) (i := 3) W F Aa Fb Aa Aa Aa Aa (DZ F 0 Aa) h15 Aa fun v12 a w W F => ?_
   have F : Stw ⟨Y, [], w0⟩ (EK b3 x7 v3 v4 v5 v7 b2 b1) [row v12 3 (Rp.int .i64) x22, row v11 3 (Rp.int .i64) ([x21] : List Int), row v10 3 (Rp.int .i64) x20.1, row v1 9 Rp.str x1, row v3 50 AV x7.1.1.2.1, row v4 52 A3 x7.1.1.2.2, row v5 40 (Rp.slice (Rp.int .u64)) x7.1.2.1, row v7 3 (Rp.int .i64) x11.1] w := F
   refine vl tk 2 W F fun a w W F => ?_
   refine AB ?_
   refine vn tk 5 W F fun a w W F => ?_
   refine Ac ?_
   have F := F.frontZ (i := 7) Aa Aa
   have F := F.frontZ (i := 7) Aa Aa
   have F := F.frontZ (i := 7) Aa Aa
   have F := F.frontZ (i := 7) Aa Aa
   have F := F.frontZ (i := 4) Aa Aa
   have F := F.frontZ (i := 7) Aa Aa
   have F := F.frontM (i := 2) Aa Aa
   have F := F.frontM (i := 2) Aa Aa
   have F := F.frontM (i := 2) Aa Aa
   have F := F.sub (M' := (EK b3 x7 v3 v4 v5 v7 b2 b1)) (Z' := [row v1 9 Rp.str x1, row v12 3 (Rp.int .i64) x22, row v3 50 AV x7.1.1.2.1, row v4 52 A3 x7.1.1.2.2, row v5 40 (Rp.slice (Rp.int .u64)) x7.1.2.1, row v7 3 (Rp.int .i64) x11.1]) (List.Sublist.refl _) (List.Sublist.cons_cons _ (List.Sublist.cons_cons _ (List.Sublist.cons_cons _ (List.Sublist.cons_cons _ (List.Sublist.cons_cons _ (List.Sublist.cons_cons _ (List.nil_sublist _)))))))
   exact ⟨_, H, (v12), W.ra Aa, F⟩
  refine A1 ?_
  iterate 2 refine BC ?_
  refine Bb (Ac ?_)
  have F := F.frontZ (i := 5) Aa Aa
  have F := F.frontZ (i := 5) Aa Aa
  have F := F.frontZ (i := 5) Aa Aa
  have F := F.frontZ (i := 5) Aa Aa
  have F := F.frontZ (i := 5) Aa Aa
  have F := F.frontZ (i := 5) Aa Aa
  have F := F.frontM (i := 2) Aa Aa
  have F := F.frontM (i := 2) Aa Aa
  have F := F.frontM (i := 2) Aa Aa
  have H := L4 _ H
  exact ⟨_, _, (v9), H, W.ra Aa, F⟩
 rintro a w ⟨x12, x13, v8, hj, W, F⟩
 have H := K3 _ hj
 clear hj G3 K3 L3
 refine Nv ?_
 refine Ih [(true, 0), (true, 1), (true, 2), (true, 3), (true, 4), (true, 5), (true, 6), (true, 7), (true, 8), (true, 9), (true, 10), (true, 11), (true, 12), (true, 13), (true, 14), (true, 15), (true, 16), (true, 17), (true, 18), (false, 19), (true, 20), (false, 21), (true, 22), (false, 23), (true, 24), (false, 25), (true, 26), (false, 27), (true, 28), (false, 29)] (CN ⟨Y, [], w0⟩ [] [(some 19, row v8 3 (Rp.int .i64) x13), (some 21, row v8 3 (Rp.int .i64) x13), (some 23, row v8 3 (Rp.int .i64) x13), (some 25, row v8 3 (Rp.int .i64) x13), (some 27, row v8 3 (Rp.int .i64) x13), (some 29, row v8 3 (Rp.int .i64) x13)]) (fun ch a d v w h => by cases d <;> exact h) MO (by kernel_rfl) F (fun w F => ⟨_, _, F, Al, (all_cons (fun _ => (.tail _ (.head _))) (all_cons (fun _ => (.tail _ (.head _))) (all_cons (fun _ => (.tail _ (.head _))) (all_cons (fun _ => (.tail _ (.head _))) (all_cons (fun _ => (.tail _ (.head _))) (all_cons (fun _ => (.tail _ (.head _))) Al))))))⟩) fun w F => ?_
 refine AL (R := []) W Aa Aa (yC fun M Z hN hZ => Am W Aa) Aa Aa fun a W => ?_
 obtain ⟨x23, h16, H⟩ := Ae H
 refine AL (R := []) W Aa Aa (yC fun M Z hN hZ => Ca (r := (Rp.int .i64)) Fb W Aa Aa (D6 F (Ap 1 Aa)) h16) Aa Aa fun a W => ?_
 refine AL (R := [19]) W Aa Aa (yC fun M Z hN hZ => An (y := Value.int .i64 x23) (j := 0) (i := 0) W Aa Aa (B8 (hZ ((some 19), row v8 3 (Rp.int .i64) x13) (.head _) Aa)) h16 Fl.int.to T3 Aa) (by kernel_rfl) Aa fun a W => ?_
 refine AL (R := []) W Aa Aa (yC fun M Z hN hZ => Am W Aa) Aa Aa fun a W => ?_
 obtain ⟨x24, h17, H⟩ := Ae H
 refine AL (R := []) W Aa Aa (yC fun M Z hN hZ => Ca (r := (Rp.int .i64)) Fb W Aa Aa (D6 F (Ap 1 Aa)) h17) Aa Aa fun a W => ?_
 refine AL (R := [21]) W Aa Aa (yC fun M Z hN hZ => An (y := Value.int .i64 x24) (j := 0) (i := 1) W Aa Aa (B8 (hZ ((some 21), row v8 3 (Rp.int .i64) x13) (.tail _ (.head _)) Aa)) h17 Fl.int.to T3 Aa) (by kernel_rfl) Aa fun a W => ?_
 refine AL (R := []) W Aa Aa (yC fun M Z hN hZ => Am W Aa) Aa Aa fun a W => ?_
 obtain ⟨x25, h18, H⟩ := Ae H
 refine AL (R := []) W Aa Aa (yC fun M Z hN hZ => Ca (r := (Rp.int .i64)) Fb W Aa Aa (D6 F (Ap 1 Aa)) h18) Aa Aa fun a W => ?_
 refine AL (R := [23]) W Aa Aa (yC fun M Z hN hZ => An (y := Value.int .i64 x25) (j := 0) (i := 2) W Aa Aa (B8 (hZ ((some 23), row v8 3 (Rp.int .i64) x13) (.tail _ (.tail _ (.head _))) Aa)) h18 Fl.int.to T3 Aa) (by kernel_rfl) Aa fun a W => ?_
 refine AL (R := []) W Aa Aa (yC fun M Z hN hZ => Am W Aa) Aa Aa fun a W => ?_
 obtain ⟨x26, h19, H⟩ := Ae H
 refine AL (R := []) W Aa Aa (yC fun M Z hN hZ => Ca (r := (Rp.int .i64)) Fb W Aa Aa (D6 F (Ap 1 Aa)) h19) Aa Aa fun a W => ?_
 refine AL (R := [25]) W Aa Aa (yC fun M Z hN hZ => An (y := Value.int .i64 x26) (j := 0) (i := 3) W Aa Aa (B8 (hZ ((some 25), row v8 3 (Rp.int .i64) x13) (.tail _ (.tail _ (.tail _ (.head _)))) Aa)) h19 Fl.int.to T3 Aa) (by kernel_rfl) Aa fun a W => ?_
 refine AL (R := []) W Aa Aa (yC fun M Z hN hZ => Am W Aa) Aa Aa fun a W => ?_
 obtain ⟨x27, h20, H⟩ := Ae H
 refine AL (R := []) W Aa Aa (yC fun M Z hN hZ => Ca (r := (Rp.int .i64)) Fb W Aa Aa (D6 F (Ap 1 Aa)) h20) Aa Aa fun a W => ?_
 refine AL (R := [27]) W Aa Aa (yC fun M Z hN hZ => An (y := Value.int .i64 x27) (j := 0) (i := 4) W Aa Aa (B8 (hZ ((some 27), row v8 3 (Rp.int .i64) x13) (.tail _ (.tail _ (.tail _ (.tail _ (.head _))))) Aa)) h20 Fl.int.to T3 Aa) (by kernel_rfl) Aa fun a W => ?_
 refine AL (R := []) W Aa Aa (yC fun M Z hN hZ => Am W Aa) Aa Aa fun a W => ?_
 obtain ⟨x28, h21, H⟩ := Ae H
 refine AL (R := []) W Aa Aa (yC fun M Z hN hZ => Ca (r := (Rp.int .i64)) Fb W Aa Aa (D6 F (Ap 1 Aa)) h21) Aa Aa fun a W => ?_
 refine AL (R := [29]) W Aa Aa (yC fun M Z hN hZ => An (y := Value.int .i64 x28) (j := 0) (i := 5) W Aa Aa (B8 (hZ ((some 29), row v8 3 (Rp.int .i64) x13) (.tail _ (.tail _ (.tail _ (.tail _ (.tail _ (.head _)))))) Aa)) h21 Fl.int.to T3 Aa) (by kernel_rfl) Aa fun a W => ?_
 refine AL (R := []) W Aa Aa (yC fun M Z hN hZ => Aj Dj Aa Aa Aa T3 W Aa 5 Aa) Aa Aa fun a W => ?_
 refine Df Aa ?_
 refine Bg (vs := [.int .i64 x23]) (M' := [(b3, [.int .i64 x7.1.1.1, v3, v4, v5, v7, .int .i64 x23, .int .i64 x7.1.2.2.2.2.1, .int .i64 x7.1.2.2.2.2.2.1, .int .i64 x7.1.2.2.2.2.2.2.1, .int .i64 x7.1.2.2.2.2.2.2.2.1, .int .i64 x7.1.2.2.2.2.2.2.2.2]), (b2, [.int .i64 0, .slice none 0 0, .slice none 0 0, .slice none 0 0, .slice none 0 0, .int .i64 0, .int .i64 0, .int .i64 0, .int .i64 0, .int .i64 0, .int .i64 0]), (b1, [.int .i64 0, .slice none 0 0, .slice none 0 0, .slice none 0 0, .slice none 0 0, .int .i64 0, .int .i64 0, .int .i64 0, .int .i64 0, .int .i64 0, .int .i64 0])]) 0 W F Aa Aa Aa T3 Aa Aa Aa Aa Aa fun w F => ?_
 refine Bf (N2 := []) (NZ2 := []) (N3 := []) (NZ3 := [(some 19, row v8 3 (Rp.int .i64) x13), (some 21, row v8 3 (Rp.int .i64) x13), (some 23, row v8 3 (Rp.int .i64) x13), (some 25, row v8 3 (Rp.int .i64) x13), (some 27, row v8 3 (Rp.int .i64) x13), (some 29, row v8 3 (Rp.int .i64) x13)]) F Aa Aa Al (all_cons (fun h => Ak (by kernel_rfl) h) (all_cons (fun _ => (.tail _ (.head _))) (all_cons (fun _ => (.tail _ (.head _))) (all_cons (fun _ => (.tail _ (.head _))) (all_cons (fun _ => (.tail _ (.head _))) (all_cons (fun _ => (.tail _ (.head _))) Al)))))) ?_
 refine AL (R := []) W Aa Aa (yC fun M Z hN hZ => Aj Dj Aa Aa Aa T3 W Aa 6 Aa) Aa Aa fun a W => ?_
 refine Df Aa ?_
 refine Bg (vs := [.int .i64 x24]) (M' := [(b3, [.int .i64 x7.1.1.1, v3, v4, v5, v7, .int .i64 x23, .int .i64 x24, .int .i64 x7.1.2.2.2.2.2.1, .int .i64 x7.1.2.2.2.2.2.2.1, .int .i64 x7.1.2.2.2.2.2.2.2.1, .int .i64 x7.1.2.2.2.2.2.2.2.2]), (b2, (Dr)), (b1, (Dr))]) 0 W F Aa Aa Aa T3 Aa Aa Aa Aa Aa fun w F => ?_
 refine Bf (N2 := []) (NZ2 := []) (N3 := []) (NZ3 := [(some 19, row v8 3 (Rp.int .i64) x13), (some 21, row v8 3 (Rp.int .i64) x13), (some 23, row v8 3 (Rp.int .i64) x13), (some 25, row v8 3 (Rp.int .i64) x13), (some 27, row v8 3 (Rp.int .i64) x13), (some 29, row v8 3 (Rp.int .i64) x13)]) F Aa Aa Al (all_cons (fun h => Ak (by kernel_rfl) h) (all_cons (fun h => Ak (by kernel_rfl) h) (all_cons (fun _ => (.tail _ (.head _))) (all_cons (fun _ => (.tail _ (.head _))) (all_cons (fun _ => (.tail _ (.head _))) (all_cons (fun _ => (.tail _ (.head _))) Al)))))) ?_
 refine AL (R := []) W Aa Aa (yC fun M Z hN hZ => Aj Dj Aa Aa Aa T3 W Aa 7 Aa) Aa Aa fun a W => ?_
 refine Df Aa ?_
 refine Bg (vs := [.int .i64 x25]) (M' := [(b3, [.int .i64 x7.1.1.1, v3, v4, v5, v7, .int .i64 x23, .int .i64 x24, .int .i64 x25, .int .i64 x7.1.2.2.2.2.2.2.1, .int .i64 x7.1.2.2.2.2.2.2.2.1, .int .i64 x7.1.2.2.2.2.2.2.2.2]), (b2, (Dr)), (b1, (Dr))]) 0 W F Aa Aa Aa T3 Aa Aa Aa Aa Aa fun w F => ?_
 refine Bf (N2 := []) (NZ2 := []) (N3 := []) (NZ3 := [(some 19, row v8 3 (Rp.int .i64) x13), (some 21, row v8 3 (Rp.int .i64) x13), (some 23, row v8 3 (Rp.int .i64) x13), (some 25, row v8 3 (Rp.int .i64) x13), (some 27, row v8 3 (Rp.int .i64) x13), (some 29, row v8 3 (Rp.int .i64) x13)]) F Aa Aa Al (all_cons (fun h => Ak (by kernel_rfl) h) (all_cons (fun h => Ak (by kernel_rfl) h) (all_cons (fun h => Ak (by kernel_rfl) h) (all_cons (fun _ => (.tail _ (.head _))) (all_cons (fun _ => (.tail _ (.head _))) (all_cons (fun _ => (.tail _ (.head _))) Al)))))) ?_
 refine AL (R := []) W Aa Aa (yC fun M Z hN hZ => Aj Dj Aa Aa Aa T3 W Aa 8 Aa) Aa Aa fun a W => ?_
 refine Df Aa ?_
 refine Bg (vs := [.int .i64 x26]) (M' := [(b3, [.int .i64 x7.1.1.1, v3, v4, v5, v7, .int .i64 x23, .int .i64 x24, .int .i64 x25, .int .i64 x26, .int .i64 x7.1.2.2.2.2.2.2.2.1, .int .i64 x7.1.2.2.2.2.2.2.2.2]), (b2, (Dr)), (b1, (Dr))]) 0 W F Aa Aa Aa T3 Aa Aa Aa Aa Aa fun w F => ?_
 refine Bf (N2 := []) (NZ2 := []) (N3 := []) (NZ3 := [(some 19, row v8 3 (Rp.int .i64) x13), (some 21, row v8 3 (Rp.int .i64) x13), (some 23, row v8 3 (Rp.int .i64) x13), (some 25, row v8 3 (Rp.int .i64) x13), (some 27, row v8 3 (Rp.int .i64) x13), (some 29, row v8 3 (Rp.int .i64) x13)]) F Aa Aa Al (all_cons (fun h => Ak (by kernel_rfl) h) (all_cons (fun h => Ak (by kernel_rfl) h) (all_cons (fun h => Ak (by kernel_rfl) h) (all_cons (fun h => Ak (by kernel_rfl) h) (all_cons (fun _ => (.tail _ (.head _))) (all_cons (fun _ => (.tail _ (.head _))) Al)))))) ?_
 refine AL (R := []) W Aa Aa (yC fun M Z hN hZ => Aj Dj Aa Aa Aa T3 W Aa 9 Aa) Aa Aa fun a W => ?_
 refine Df Aa ?_
 refine Bg (vs := [.int .i64 x27]) (M' := [(b3, [.int .i64 x7.1.1.1, v3, v4, v5, v7, .int .i64 x23, .int .i64 x24, .int .i64 x25, .int .i64 x26, .int .i64 x27, .int .i64 x7.1.2.2.2.2.2.2.2.2]), (b2, (Dr)), (b1, (Dr))]) 0 W F Aa Aa Aa T3 Aa Aa Aa Aa Aa fun w F => ?_
 refine Bf (N2 := []) (NZ2 := []) (N3 := []) (NZ3 := [(some 19, row v8 3 (Rp.int .i64) x13), (some 21, row v8 3 (Rp.int .i64) x13), (some 23, row v8 3 (Rp.int .i64) x13), (some 25, row v8 3 (Rp.int .i64) x13), (some 27, row v8 3 (Rp.int .i64) x13), (some 29, row v8 3 (Rp.int .i64) x13)]) F Aa Aa Al (all_cons (fun h => Ak (by kernel_rfl) h) (all_cons (fun h => Ak (by kernel_rfl) h) (all_cons (fun h => Ak (by kernel_rfl) h) (all_cons (fun h => Ak (by kernel_rfl) h) (all_cons (fun h => Ak (by kernel_rfl) h) (all_cons (fun _ => (.tail _ (.head _))) Al)))))) ?_
 refine AL (R := []) W Aa Aa (yC fun M Z hN hZ => Aj Dj Aa Aa Aa T3 W Aa 10 Aa) Aa Aa fun a W => ?_
 refine Df Aa ?_
 refine Bg (vs := [.int .i64 x28]) (M' := [(b3, [.int .i64 x7.1.1.1, v3, v4, v5, v7, .int .i64 x23, .int .i64 x24, .int .i64 x25, .int .i64 x26, .int .i64 x27, .int .i64 x28]), (b2, (Dr)), (b1, (Dr))]) 0 W F Aa Aa Aa T3 Aa Aa Aa Aa Aa fun w F => ?_
 refine Bf (N2 := []) (NZ2 := []) (N3 := []) (NZ3 := [(some 19, row v8 3 (Rp.int .i64) x13), (some 21, row v8 3 (Rp.int .i64) x13), (some 23, row v8 3 (Rp.int .i64) x13), (some 25, row v8 3 (Rp.int .i64) x13), (some 27, row v8 3 (Rp.int .i64) x13), (some 29, row v8 3 (Rp.int .i64) x13)]) F Aa Aa Al (all_cons (fun h => Ak (by kernel_rfl) h) (all_cons (fun h => Ak (by kernel_rfl) h) (all_cons (fun h => Ak (by kernel_rfl) h) (all_cons (fun h => Ak (by kernel_rfl) h) (all_cons (fun h => Ak (by kernel_rfl) h) (all_cons (fun h => Ak (by kernel_rfl) h) Al)))))) ?_
 refine FH ?_
 refine vn tk 1 W F fun a w W F => ?_
 obtain ⟨o5, G5, K5⟩ := Ae H
 refine Aw (fun a w => ∃ x29 : Bool, some (x29) = some o5 ∧ Fr 146 [] [(2, .pointer (some ⟨b1, 0, none⟩)), (3, .int .i64 0), (4, .int .i64 0), (6, .pointer (some ⟨b2, 0, none⟩)), (7, .pointer (some ⟨b3, 0, none⟩)), (10, .int .i64 x12), (141, .bool x29)] a ∧ Stw ⟨Y, [], w0⟩ [(b3, [.int .i64 x7.1.1.1, v3, v4, v5, v7, .int .i64 x23, .int .i64 x24, .int .i64 x25, .int .i64 x26, .int .i64 x27, .int .i64 x28]), (b2, (Dr)), (b1, (Dr))] [row v3 50 AV x7.1.1.2.1, row v4 52 A3 x7.1.1.2.2, row v5 40 (Rp.slice (Rp.int .u64)) x7.1.2.1, row v7 3 (Rp.int .i64) x11.1] w) ?_ ?_
 ·
  have H := G5
  clear G5 K5
  refine vc tk 2 W F fun a w W F => ?_
  refine ls W F Aa (BN (r := Rp.str) (l := x1) MJ Aa W Aa (Ap 0 Aa)).q fun a w W F => ?_
  refine vl tk 4 W F fun a w W F => ?_
  rcases Bool.eq_false_or_eq_true (decide ((x1.length : Int) ≠ (BD (x12 + 2)))) with hb | hb
  ·
   have H := Cu (Dc hb) H
   rw [hb] at W
   clear hb
   refine vl tk 8 W F fun a w W F => ?_
   refine Ac ?_
   have F := F.frontZ (i := 5) Aa Aa
   have F := F.frontZ (i := 5) Aa Aa
   have F := F.frontZ (i := 5) Aa Aa
   have F := F.frontZ (i := 5) Aa Aa
   have F := F.frontM (i := 2) Aa Aa
   have F := F.frontM (i := 2) Aa Aa
   have F := F.frontM (i := 2) Aa Aa
   have F := F.sub (M' := [(b3, [.int .i64 x7.1.1.1, v3, v4, v5, v7, .int .i64 x23, .int .i64 x24, .int .i64 x25, .int .i64 x26, .int .i64 x27, .int .i64 x28]), (b2, (Dr)), (b1, (Dr))]) (Z' := [row v3 50 AV x7.1.1.2.1, row v4 52 A3 x7.1.1.2.2, row v5 40 (Rp.slice (Rp.int .u64)) x7.1.2.1, row v7 3 (Rp.int .i64) x11.1]) (List.Sublist.refl _) (List.Sublist.cons_cons _ (List.Sublist.cons_cons _ (List.Sublist.cons_cons _ (List.Sublist.cons_cons _ (List.nil_sublist _)))))
   exact ⟨_, H, W.ra Aa, F⟩
  have H := Ct (Db hb) H
  rw [hb] at W
  clear hb
  refine vl tk 3 W F fun a w W F => ?_
  obtain ⟨x30, h22, H⟩ := Ae H
  refine Cw W F (Ag W Aa Aa Aa Aa) Aa (Bi Aa) (AR (r := Rp.str) JP W Aa Aa (Ap 0 Aa) h22).q fun a w W F => ?_
  refine Cw W F (Ag W Aa Aa Aa Aa) Aa (Bi Aa) (An (y := Value.string (bs x30)) (j := 0) (i := BD (x12 + 1)) W Aa Aa (Ap 0 Aa) h22 Fl.str.to T9 Aa).q fun a w W F => ?_
  refine Cw W F (Ag W Aa Aa Aa Aa) Aa (Bi Aa) (Mq (l := x30) (m := ([] : List UInt8)) W Aa Aa).q fun a w W F => ?_
  refine vl tk 2 W F fun a w W F => ?_
  refine Ac ?_
  have F := F.frontZ (i := 5) Aa Aa
  have F := F.frontZ (i := 5) Aa Aa
  have F := F.frontZ (i := 5) Aa Aa
  have F := F.frontZ (i := 5) Aa Aa
  have F := F.frontM (i := 2) Aa Aa
  have F := F.frontM (i := 2) Aa Aa
  have F := F.frontM (i := 2) Aa Aa
  have F := F.sub (M' := [(b3, [.int .i64 x7.1.1.1, v3, v4, v5, v7, .int .i64 x23, .int .i64 x24, .int .i64 x25, .int .i64 x26, .int .i64 x27, .int .i64 x28]), (b2, (Dr)), (b1, (Dr))]) (Z' := [row v3 50 AV x7.1.1.2.1, row v4 52 A3 x7.1.1.2.2, row v5 40 (Rp.slice (Rp.int .u64)) x7.1.2.1, row v7 3 (Rp.int .i64) x11.1]) (List.Sublist.refl _) (List.Sublist.cons_cons _ (List.Sublist.cons_cons _ (List.Sublist.cons_cons _ (List.Sublist.cons_cons _ (List.nil_sublist _)))))
  exact ⟨_, H, W.ra Aa, F⟩
 rintro a w ⟨x29, hj, W, F⟩
 have hj := AA hj
 subst hj
 have H := K5
 clear G5 K5
 refine B2 W Aa H (fun W H => ?_) fun W H => ?_
 ·
  refine Ib tk 5 [1] W F (ai fun a w W F => ?_)
  refine Bg (vs := (Dr)) (M' := [(b3, [.int .i64 x7.1.1.1, v3, v4, v5, v7, .int .i64 x23, .int .i64 x24, .int .i64 x25, .int .i64 x26, .int .i64 x27, .int .i64 x28]), (b2, (Dr)), (b1, (Dr))]) 2 W F Aa Aa Aa ET Aa Aa Aa Aa Aa fun w F => ?_
  refine vl tk 3 W F fun a w W F => ?_
  refine Ac (Ax (Az ?_))
  have H := AA H
  subst H
  refine Hc (.inl Aa) W F Aa (AJ 2 W Aa Aa ET Aa) (Ao W Aa) (Ao W Aa) ?_
  have F := F.nilRow 50 AV
  have F := F.nilRow 52 A3
  have F := F.nilRow 40 (Rp.slice (Rp.int .u64))
  have F := F.nilRow 3 (Rp.int .i64)
  have F := F.frontZ (i := 1) Aa Aa
  have F := F.frontZ (i := 2) Aa Aa
  have F := F.frontZ (i := 3) Aa Aa
  have F := F.sub (M' := []) (Z' := [row (Value.slice none 0 0) 50 AV ([]), row (Value.slice none 0 0) 52 A3 ([]), row (Value.slice none 0 0) 40 (Rp.slice (Rp.int .u64)) ([]), row (Value.slice none 0 0) 3 (Rp.int .i64) ([])]) (List.nil_sublist _) (List.Sublist.cons_cons _ (List.Sublist.cons_cons _ (List.Sublist.cons_cons _ (List.Sublist.cons_cons _ (List.nil_sublist _)))))
  exact ⟨((Value.slice none 0 0), (Value.slice none 0 0), (Value.slice none 0 0), (Value.slice none 0 0)), Aa, F⟩
 refine ON tk 5 [0] W F (ai fun a w W F => ?_)
 refine Bg (vs := [.int .i64 x7.1.1.1, v3, v4, v5, v7, .int .i64 x23, .int .i64 x24, .int .i64 x25, .int .i64 x26, .int .i64 x27, .int .i64 x28]) (M' := [(b3, [.int .i64 x7.1.1.1, v3, v4, v5, v7, .int .i64 x23, .int .i64 x24, .int .i64 x25, .int .i64 x26, .int .i64 x27, .int .i64 x28]), (b2, (Dr)), (b1, [.int .i64 x7.1.1.1, v3, v4, v5, v7, .int .i64 x23, .int .i64 x24, .int .i64 x25, .int .i64 x26, .int .i64 x27, .int .i64 x28])]) 2 W F Aa Aa Aa ET Aa Aa Aa (Ai Aa (Ai (F.one (k := 0) Aa) (Ai (F.one (k := 1) Aa) (Ai (F.one (k := 2) Aa) (Ai (F.one (k := 3) Aa) (Ai Aa (Ai Aa (Ai Aa (Ai Aa (Ai Aa (Ai Aa ER))))))))))) Aa fun w F => ?_
 refine vl tk 3 W F fun a w W F => ?_
 refine Ac (Ax ?_)
 have H := AA H
 subst H
 refine Hc (.inl Aa) W F Aa (AJ 2 W Aa Aa ET Aa) (Ao W Aa) (Ao W Aa) ?_
 have F := F.frontZ (i := 3) Aa Aa
 have F := F.frontZ (i := 3) Aa Aa
 have F := F.frontZ (i := 3) Aa Aa
 have F := F.frontZ (i := 3) Aa Aa
 have F := F.sub (M' := []) (Z' := [row v3 50 AV x7.1.1.2.1, row v4 52 A3 x7.1.1.2.2, row v5 40 (Rp.slice (Rp.int .u64)) x7.1.2.1, row v7 3 (Rp.int .i64) x11.1]) (List.nil_sublist _) (List.Sublist.refl _)
 exact ⟨((v3), (v4), (v5), (v7)), Aa, F⟩
theorem H7 : Has Tryz.prog 7 := ⟨fun args w => Af Tryz.func7 rfl (by decide) args w⟩
noncomputable def Fx (p1 : List Int) : (List UInt8 × Int) → Option ((List UInt8 × Int) ⊕ (List UInt8))
  | (x2, x3) => (if x3 < (p1.length : Int) then (Dg x2 ([32] : List UInt8)).bind fun x4 => (ix p1 x3).bind fun x5 => (FZ x5).bind fun x6 => (Dg x4 x6).bind fun x7 => some (.inl (x7, BD (x3 + 1))) else some (.inr x2))
noncomputable def DC (p0 : List UInt8) (p1 : List Int) : Option (List UInt8) := (Av (Fx p1) (p0, 0)).bind fun x1 => (Dg x1 ([10] : List UInt8)).bind fun x8 => some x8
theorem E8 (Y : Nat → Prop) (w0 : World) (v1 : Value) (p0 : List UInt8) (p1 : List Int) (r : List UInt8) (H : DC p0 p1 = some r) (h_v1 : Sl w0 (NX []) (Rp.int .i64) v1 p1) :
    Calls Tryz.prog 28 #[.string (bs p0), v1] w0 fun e w' => e = .returned (.string (bs r)) ∧ Below w0.heap.size w0 w' := by
 refine enter Tryz.func28 Aa Tryz.ntmps28 Aa fun a W => ?_
 have F := Stw.start Y w0
 unfold DC at H
 refine vc tk 2 W F fun a w W F => ?_
 refine ls W F Aa (Cc (v := Value.string (bs ([] : List UInt8))) W Aa).q fun a w W F => ?_
 refine C5 tk 8 W F fun a w W F => ?_
 obtain ⟨o1, G1, K1⟩ := Ae H
 refine Aw (fun a w => ∃ x1 : List UInt8, some (x1) = some o1 ∧ Fr 24 [] [(4, .string (bs ([] : List UInt8))), (5, .string (bs x1))] a ∧ Stw ⟨Y, [], w0⟩ [] [] w) ?_ ?_
 ·
  have H := G1
  clear G1 K1
  refine vc tk 6 W F fun a w W F => ?_
  refine Bl H (fun s a w => Fr 24 [] [(1, v1), (4, .string (bs ([] : List UInt8))), (5, .string (bs s.1)), (6, .int .i64 s.2)] a ∧ Stw ⟨Y, [], w0⟩ [] [] w) ⟨W.ra Aa, F⟩ fun s o a w H L2 hR => ?_
  obtain ⟨x2, x3⟩ := s
  obtain ⟨W, F⟩ := hR
  have W : Fr 24 [] [(1, v1), (4, .string (bs ([] : List UInt8))), (5, .string (bs x2)), (6, .int .i64 x3)] a := W
  have F : Stw ⟨Y, [], w0⟩ [] [] w := F
  rw [Fx] at H
  refine vc tk 5 W F fun a w W F => ?_
  refine ls W F Aa (BN (r := (Rp.int .i64)) (l := p1) Jg Aa W Aa (Ah h_v1)).q fun a w W F => ?_
  refine vl tk 2 W F fun a w W F => ?_
  refine Ac ?_
  refine Bq W Aa H (fun W H => ?_) fun W H => ?_
  ·
   refine Ek tk 6 W F fun a w W F => ?_
   obtain ⟨x4, h1, H⟩ := Ae H
   refine ls W F Aa (DB (l := x2) (m := ([32] : List UInt8)) W Aa Aa h1).q fun a w W F => ?_
   refine vl tk 2 W F fun a w W F => ?_
   obtain ⟨x5, h2, H⟩ := Ae H
   refine ls W F Aa (AR (r := (Rp.int .i64)) Fb W Aa Aa (Ah h_v1) h2).q fun a w W F => ?_
   refine ls W F Aa (An (y := Value.int .i64 x5) (j := 0) (i := x3) W Aa Aa (Ah h_v1) h2 Fl.int.to T3 Aa).q fun a w W F => ?_
   obtain ⟨x6, h3, H⟩ := Ae H
   refine ls W F Aa (AE (v := Value.string (bs x6)) W Rs Aa (fun w F => Ic any w x5 _ h3)) fun a w W F => ?_
   obtain ⟨x7, h4, H⟩ := Ae H
   refine ls W F Aa (DB (l := x4) (m := x6) W Aa Aa h4).q fun a w W F => ?_
   refine vl tk 2 W F fun a w W F => ?_
   refine AB ?_
   refine vn tk 5 W F fun a w W F => ?_
   refine Ac ?_
   exact ⟨_, H, W.ra Aa, F⟩
  refine A1 ?_
  iterate 2 refine BC ?_
  refine Bb (Ac ?_)
  have H := L2 _ H
  exact ⟨_, H, W.ra Aa, F⟩
 rintro a w ⟨x1, hj, W, F⟩
 have hj := AA hj
 subst hj
 have H := K1
 clear G1 K1
 refine vc tk 3 W F fun a w W F => ?_
 obtain ⟨x8, h5, H⟩ := Ae H
 refine ls W F Aa (DB (l := x1) (m := ([10] : List UInt8)) W Aa Aa h5).q fun a w W F => ?_
 refine vl tk 2 W F fun a w W F => ?_
 refine Ac (Ax ?_)
 have H := AA H
 subst H
 refine BB (.inl Aa) W F Aa (Ao W Aa) ?_
 exact ⟨rfl, F.done⟩
theorem Rx : Has Tryz.prog 28 := ⟨fun args w => Af Tryz.func28 rfl (by decide) args w⟩
def Bm (p0 : (Int × (List (Int × Int × Int × Int × Int × Int)) × (List (Int × Int))) × List (List Int) × List Int × Int × Int × Int × Int × Int × Int) : List Int := ([p0.2.2.2.1, p0.2.2.2.2.1, p0.2.2.2.2.2.1, p0.2.2.2.2.2.2.1, p0.2.2.2.2.2.2.2.1, p0.2.2.2.2.2.2.2.2] : List Int)
theorem Ia (Y : Nat → Prop) (w0 : World) (v1 : Value) (v2 : Value) (v3 : Value) (v4 : Value) (p0 : (Int × (List (Int × Int × Int × Int × Int × Int)) × (List (Int × Int))) × List (List Int) × List Int × Int × Int × Int × Int × Int × Int) (r : List Int) (H : Bm p0 = r) (h_v1 : Sl w0 (NX []) AV v1 p0.1.2.1) (h_v2 : Sl w0 (NX []) A3 v2 p0.1.2.2) (h_v3 : Sl w0 (NX []) (Rp.slice (Rp.int .u64)) v3 p0.2.1) (h_v4 : Sl w0 (NX []) (Rp.int .i64) v4 p0.2.2.1) :
    Calls Tryz.prog 30 #[.agg #[.int .i64 p0.1.1, v1, v2, v3, v4, .int .i64 p0.2.2.2.1, .int .i64 p0.2.2.2.2.1, .int .i64 p0.2.2.2.2.2.1, .int .i64 p0.2.2.2.2.2.2.1, .int .i64 p0.2.2.2.2.2.2.2.1, .int .i64 p0.2.2.2.2.2.2.2.2]] w0 fun e w' => ∃ x : Value, e = .returned (x) ∧ Stw ⟨Y, [], w0⟩ [] [row (x) 3 (Rp.int .i64) r] w' := by
 refine enter Tryz.func30 Aa Tryz.ntmps30 Aa fun a W => ?_
 have F := Stw.start Y w0
 obtain ⟨v5, h1, h_v3⟩ := h_v3.ex D4
 unfold Bm at H
 refine vc tk 2 W F fun a w W F => ?_
 refine GU (cs := (BP p0 v1 v2 v3 v4)) W F Aa Aa Aa fun b1 a w W F => ?_
 refine GO tk 17 [0, 0, 0, 0, 0, 0] W F (ai (ai (ai (ai (ai (ai fun a w W F => ?_))))))
 refine CY (z := Value.int .i64 0) (cs := [.int .i64 p0.2.2.2.1, .int .i64 p0.2.2.2.2.1, .int .i64 p0.2.2.2.2.2.1, .int .i64 p0.2.2.2.2.2.2.1, .int .i64 p0.2.2.2.2.2.2.2.1, .int .i64 p0.2.2.2.2.2.2.2.2]) (Rp.int .i64) ([p0.2.2.2.1, p0.2.2.2.2.1, p0.2.2.2.2.2.1, p0.2.2.2.2.2.2.1, p0.2.2.2.2.2.2.2.1, p0.2.2.2.2.2.2.2.2] : List Int) W F Aa Fb Z3 Aa Aa Aa Aa Aa Aa (Fl.int.repL _ _ ([p0.2.2.2.1, p0.2.2.2.2.1, p0.2.2.2.2.2.1, p0.2.2.2.2.2.2.1, p0.2.2.2.2.2.2.2.1, p0.2.2.2.2.2.2.2.2] : List Int)) fun v6 a w W F => ?_
 refine vl tk 2 W F fun a w W F => ?_
 refine Ac (Ax ?_)
 subst H
 refine BB (.inl Aa) W F Aa (Ao W Aa) ?_
 have F := F.sub (M' := []) (Z' := [row v6 3 (Rp.int .i64) ([p0.2.2.2.1, p0.2.2.2.2.1, p0.2.2.2.2.2.1, p0.2.2.2.2.2.2.1, p0.2.2.2.2.2.2.2.1, p0.2.2.2.2.2.2.2.2] : List Int)]) (List.nil_sublist _) (List.Sublist.refl _)
 exact ⟨(v6), Aa, F⟩
end Go.Proofs.YthmkgdnnocemmaaGreatDoor
