/- The functions of layer 29, E5. Conditions: none. -/
import Derived.Test.YtlgjpoapclifbaaDoorcA5
namespace Go.Proofs.YtlgjpoapclifbaaDoor
open Go Go.RowKit
set_option linter.unusedVariables false
set_option linter.unusedSimpArgs false
set_option maxRecDepth 20000
theorem Ix : Ty Tryd.prog 32 false 1 := ⟨by kernel_rfl, by kernel_rfl⟩
theorem U3 : Has Tryd.prog 14 := ⟨fun args w => An Tryd.func14 rfl (by decide) args w⟩
abbrev I8 : Rp (Int × Int × Int × (Value × List Tr34)) := (Rp.pair (Rp.int .i64) (Rp.pair (Rp.int .i64) (Rp.pair (Rp.int .i64) (Rp.vsl CS))))
abbrev Ve (p : Int × Int × Int × (Value × List Tr34)) : Tr34 := (Tr34.of (p.1, p.2.1, p.2.2.1, p.2.2.2.2))
theorem CL : Ex CS I8 Ve := (Ex.knot RP (of := Tr34.of) (fun _ => rfl) (fun x => by cases x; rfl) (Ex.pair Ex.rfl' (Ex.pair Ex.rfl' (Ex.pair Ex.rfl' Ex.sliceF))))
abbrev KW (a0 : Nat) (a1 : Tr25) (a2 : Value) (a3 : Nat) (a4 : Nat) (a5 : Value) : List (Nat × List Value) := [(a0, [.int .i64 a1.un.1, .int .i64 a1.un.2.1, .int .i64 a1.un.2.2.1, a2]), (a3, [.int .i64 0, .int .i64 0, .int .i64 0, .slice none 0 0]), (a4, [.int .i64 a1.un.1, .int .i64 a1.un.2.1, .int .i64 a1.un.2.2.1, a5])]
abbrev Du (a0 : Tr34) (a1 : Value) : List Value := [.int .i64 a0.un.1, .int .i64 a0.un.2.1, .int .i64 a0.un.2.2.1, a1]
noncomputable def CD (fRec : Tr25 → Option Tr34) (p0 : Tr25) : (Int × List Tr34) → Option ((Int × List Tr34) ⊕ (List Tr34))
  | (x2, x3) => (if x2 < (p0.un.2.2.2.length : Int) then (ix p0.un.2.2.2 x2).bind fun x4 => (fRec x4).bind fun x5 => (DQ x3 ([x5] : List Tr34)).bind fun x6 => some (.inl (DP (x2 + 1), x6)) else some (.inr x3))
noncomputable def Dn (fRec : Tr25 → Option Tr34) (p0 : Tr25) : Option Tr34 := (Br (CD fRec p0) (0, [])).bind fun x1 => some (Tr34.of (p0.un.1, p0.un.2.1, p0.un.2.2.1, x1))
noncomputable def CQ : Nat → Tr25 → Option Tr34
  | 0 => fun _ => none
  | n + 1 => Dn (CQ n)
noncomputable def GY (p0 : Tr25) : Option Tr34 := FY fun n => CQ n p0
theorem Mb (fRec : Tr25 → Option Tr34) (ih : ∀ (Y : Nat → Prop) (w0 : World) (v1 : Value) (p0 : Tr25) (r : Tr34) (H : fRec p0 = some r) (h_v1 : Sl w0 (NX []) AR v1 p0.un.2.2.2), Calls Tryd.prog 14 #[.agg #[.int .i64 p0.un.1, .int .i64 p0.un.2.1, .int .i64 p0.un.2.2.1, v1]] w0 fun e w' => ∃ x : Value, e = .returned (.agg #[.int .i64 r.un.1, .int .i64 r.un.2.1, .int .i64 r.un.2.2.1, x]) ∧ Stw ⟨Y, [], w0⟩ [] [row (x) 34 CS r.un.2.2.2] w') (Y : Nat → Prop) (w0 : World) (v1 : Value) (p0 : Tr25) (r : Tr34) (H : Dn fRec p0 = some r) (h_v1 : Sl w0 (NX []) AR v1 p0.un.2.2.2) :
    Calls Tryd.prog 14 #[.agg #[.int .i64 p0.un.1, .int .i64 p0.un.2.1, .int .i64 p0.un.2.2.1, v1]] w0 fun e w' => ∃ x : Value, e = .returned (.agg #[.int .i64 r.un.1, .int .i64 r.un.2.1, .int .i64 r.un.2.2.1, x]) ∧ Stw ⟨Y, [], w0⟩ [] [row (x) 34 CS r.un.2.2.2] w' := by
 refine enter Tryd.func14 Aa Tryd.ntmps14 Aa fun a W => ?_
 have F := Stw.start Y w0
 obtain ⟨v2, h1, h_v1⟩ := h_v1.ex FZ
 unfold Dn at H
 refine Ak (Ab ?_)
 refine D6 (cs := (M4 p0 v1)) W F Aa Aa Aa fun b1 a w W F => ?_
 refine Bi (cs := (Ct)) W F Aa Vr Aa fun b2 a w W F => ?_
 refine Ae (Ac (Ak (Ab ?_)))
 refine ls W F Aa (Aj Ja Aa Aa Aa T3 W Aa 0 Aa).q fun a w W F => ?_
 refine ls W F Aa (Av (v := Value.int .i64 p0.un.1) 1 W Aa Aa T3 Aa).q fun a w W F => ?_
 refine ls W F Aa (Aj Ja Aa Aa Aa T3 W Aa 1 Aa).q fun a w W F => ?_
 refine ls W F Aa (Av (v := Value.int .i64 p0.un.2.1) 1 W Aa Aa T3 Aa).q fun a w W F => ?_
 refine ls W F Aa (Aj Ja Aa Aa Aa T3 W Aa 2 Aa).q fun a w W F => ?_
 refine ls W F Aa (Av (v := Value.int .i64 p0.un.2.2.1) 1 W Aa Aa T3 Aa).q fun a w W F => ?_
 refine ls W F Aa (B7 (v := Value.agg #[.int .i64 p0.un.1, .int .i64 p0.un.2.1, .int .i64 p0.un.2.2.1, .slice none 0 0]) VU W Aa Aa Aa).q fun a w W F => ?_
 refine Bi (cs := (Ct)) W F Aa Vr Aa fun b3 a w W F => ?_
 refine AL (vs := [.int .i64 p0.un.1, .int .i64 p0.un.2.1, .int .i64 p0.un.2.2.1, .slice none 0 0]) (M' := [(b3, [.int .i64 p0.un.1, .int .i64 p0.un.2.1, .int .i64 p0.un.2.2.1, .slice none 0 0]), (b2, [.int .i64 0, .int .i64 0, .int .i64 0, .slice none 0 0]), (b1, [.int .i64 p0.un.1, .int .i64 p0.un.2.1, .int .i64 p0.un.2.2.1, v1])]) 0 W F Aa Aa Aa IA Aa Aa Aa Aa Aa fun w F => ?_
 refine Ae (Ac ?_)
 obtain ⟨o1, G1, K1⟩ := Aq H
 refine A1 (fun a w => ∃ x1 : List Tr34, ∃ v3 : Value, some (x1) = some o1 ∧ Fr 31 [] [(2, .pointer (some ⟨b2, 0, none⟩)), (3, .pointer (some ⟨b3, 0, none⟩))] a ∧ Stw ⟨Y, [], w0⟩ (KW b3 p0 v3 b2 b1 v1) [row v3 34 CS x1] w) ?_ ?_
 ·
  have H := G1
  clear G1 K1
  refine Ak (Ab ?_)
  refine ls W F Aa (Ag W Aa).q fun a w W F => ?_
  refine Ae (Ac (AP ?_))
  have F := F.nilRow 34 CS
  have F := F.frontM (i := 2) Aa Aa
  have F := F.frontM (i := 2) Aa Aa
  have F := F.frontM (i := 2) Aa Aa
  refine Cx H (fun s a w => ∃ v4 : Value, Fr 31 [] [(1, .pointer (some ⟨b1, 0, none⟩)), (2, .pointer (some ⟨b2, 0, none⟩)), (3, .pointer (some ⟨b3, 0, none⟩)), (4, .int .i64 s.1)] a ∧ Stw ⟨Y, [], w0⟩ (KW b3 p0 v4 b2 b1 v1) [row v4 34 CS s.2] w) ⟨(Value.slice none 0 0), W.re ⟨rfl, Aa, Aa, Aa, trivial⟩, F⟩ fun s o a w H L2 hR => ?_
  obtain ⟨x2, x3⟩ := s
  obtain ⟨v4, W, F⟩ := hR
  have W : Fr 31 [] [(1, .pointer (some ⟨b1, 0, none⟩)), (2, .pointer (some ⟨b2, 0, none⟩)), (3, .pointer (some ⟨b3, 0, none⟩)), (4, .int .i64 x2)] a := W
  have F : Stw ⟨Y, [], w0⟩ (KW b3 p0 v4 b2 b1 v1) [row v4 34 CS x3] w := F
  rw [CD] at H
  refine Ak (Ak (Ab ?_))
  refine ls W F Aa (Ah W Aa).q fun a w W F => ?_
  refine ls W F Aa (Aj Ja Aa Aa Aa QE W Aa 3 Aa).q fun a w W F => ?_
  refine ls W F Aa (Av (v := v1) 2 W Aa Aa QE Aa).q fun a w W F => ?_
  refine ls W F Aa (D7 (r := AR) (l := p0.un.2.2.2) SE Aa W Aa (AM FZ h1 (Ay h_v1))).q fun a w W F => ?_
  refine ls W F Aa (Co W Aa Aa).q fun a w W F => ?_
  refine Ae (Ac ?_)
  refine Az W Aa (fun hb => ?_) fun hb => ?_
  ·
   have H := AW (Bw hb) H
   rw [hb] at W
   clear hb
   refine AA (Ac (Ak (AP ?_)))
   obtain ⟨v5, h2, F⟩ := F.exR CL
   refine GW [(true, 0), (true, 1), (true, 2), (true, 3), (true, 4), (true, 5), (true, 6), (false, 7), (false, 8), (false, 9), (true, 10), (false, 11)] (CN ⟨Y, [], w0⟩ [(some 9, b3, [.int .i64 p0.un.1, .int .i64 p0.un.2.1, .int .i64 p0.un.2.2.1, v4]), (some 7, b1, [.int .i64 p0.un.1, .int .i64 p0.un.2.1, .int .i64 p0.un.2.2.1, v1])] []) (fun ch a d v w h => by cases d <;> exact h) MO (by kernel_rfl) F (fun w F => ⟨_, _, F, (Aw (fun _ => (.head _)) (Aw (fun _ => (.tail _ (.tail _ (.head _)))) AB)), AB⟩) fun w F => ?_
   refine CK (R := []) W Aa Aa (yC fun M Z hN hZ => Aj CJ Aa Aa Aa Ix W Aa 3 Aa) Aa Aa fun a W => ?_
   refine CK (R := [9]) W Aa Aa (yC fun M Z hN hZ => Cs (cs := (M4 p0 v4)) (v := v4) W Aa (hN ((some 9), b3, (M4 p0 v4)) (.head _) Aa) Ix Aa) (by kernel_rfl) Aa fun a W => ?_
   refine CK (R := []) W Aa Aa (yC fun M Z hN hZ => Aj Ja Aa Aa Aa QE W Aa 3 Aa) Aa Aa fun a W => ?_
   refine CK (R := [7, 6, 5]) W Aa Aa (yC fun M Z hN hZ => Cs (cs := (M4 p0 v1)) (v := v1) W Aa (hN ((some 7), b1, (M4 p0 v1)) (.tail _ (.head _)) Aa) QE Aa) (by kernel_rfl) Aa fun a W => ?_
   refine CK (R := []) W Aa Aa (yC fun M Z hN hZ => Ah W Aa) Aa Aa fun a W => ?_
   obtain ⟨x4, h3, H⟩ := Aq H
   obtain ⟨v6, h4, h5⟩ := D5 h1 h3
   have h6 : Oc v6 = [.int .i64 x4.un.1, .int .i64 x4.un.2.1, .int .i64 x4.un.2.2.1, (v6.2.2.2.1)] := congrArg (fun q : Tr25 => ([.int .i64 q.un.1, .int .i64 q.un.2.1, .int .i64 q.un.2.2.1, (v6.2.2.2.1)] : List Value)) h5
   refine CK (R := []) W Aa Aa (yC fun M Z hN hZ => Cg (r := Ln) Rl W Aa Aa (Ay h_v1) h4) Aa Aa fun a W => ?_
   refine CK (R := []) W Aa Aa (yC fun M Z hN hZ => BC (y := Value.agg #[.int .i64 x4.un.1, .int .i64 x4.un.2.1, .int .i64 x4.un.2.2.1, (v6.2.2.2.1)]) (j := 0) (i := x2) (enc := Oc) W Aa Aa (Ay h_v1) h4 SQ FW (by rw [h6]; rfl)) Aa Aa fun a W => ?_
   refine Fj Aa ?_
   obtain ⟨x5, h7, H⟩ := Aq H
   refine A2 (Ml := []) (Zl := []) (M := (KW b3 p0 v4 b2 b1 v1)) (Z := [row v4 34 I8 v5]) (β := Value) (rv := fun x => .agg #[.int .i64 x5.un.1, .int .i64 x5.un.2.1, .int .i64 x5.un.2.2.1, x]) (MM := fun x => []) (ZZ := fun x => [row x 34 CS x5.un.2.2.2]) W F U3 Aa Aa (fun hL => ih _ w ((v6.2.2.2.1)) x4 _ h7 ((Ci (Ay h_v1) h4 (AE.snd (AE.snd (AE.snd AE.here))) (congrArg (fun q : Tr25 => q.un.2.2.2) h5)) w F).nx) fun x a w W F => ?_
   obtain ⟨v7, rfl⟩ : ∃ y, y = x := ⟨x, rfl⟩
   have F : Stw ⟨Y, [], w0⟩ (KW b3 p0 v4 b2 b1 v1) [row v7 34 CS x5.un.2.2.2, row v4 34 I8 v5] w := F
   refine BZ (N2 := []) (NZ2 := []) (N3 := [(some 9, b3, [.int .i64 p0.un.1, .int .i64 p0.un.2.1, .int .i64 p0.un.2.2.1, v4]), (some 7, b1, [.int .i64 p0.un.1, .int .i64 p0.un.2.1, .int .i64 p0.un.2.2.1, v1])]) (NZ3 := []) F Aa Aa (Aw (fun _ => (.head _)) (Aw (fun h => AN (by kernel_rfl) h) AB)) AB ?_
   refine Fj Aa ?_
   have F := F.freeze
   refine FN (z := Value.agg #[.int .i64 0, .int .i64 0, .int .i64 0, .slice none 0 0]) (cs := (Du x5 v7)) CS ([x5] : List Tr34) W F Aa St Vr Aa Aa Aa (AX Aa Aa Aa B2) Aa Aa ⟨[Value.int .i64 x5.un.1, Value.int .i64 x5.un.2.1, Value.int .i64 x5.un.2.2.1, v7], _, Aa, (S8.2 ⟨[Value.int .i64 x5.un.1], [Value.int .i64 x5.un.2.1, Value.int .i64 x5.un.2.2.1, v7], Aa, Aa, ⟨[Value.int .i64 x5.un.2.1], [Value.int .i64 x5.un.2.2.1, v7], Aa, Aa, ⟨[Value.int .i64 x5.un.2.2.1], [v7], Aa, Aa, ⟨_, Aa, (F.item (i := 0) Aa)⟩⟩⟩⟩), Aa⟩ fun v8 a w W F => ?_
   refine BZ (N2 := []) (NZ2 := []) (N3 := [(some 9, b3, [.int .i64 p0.un.1, .int .i64 p0.un.2.1, .int .i64 p0.un.2.2.1, v4]), (some 7, b1, [.int .i64 p0.un.1, .int .i64 p0.un.2.1, .int .i64 p0.un.2.2.1, v1])]) (NZ3 := []) F Aa Aa (Aw (fun _ => (.head _)) (Aw (fun h => AN (by kernel_rfl) h) AB)) AB ?_
   refine Fj Aa ?_
   have F := F.frontZ (i := 2) Aa Aa
   have F := F.hideR CL h2
   obtain ⟨x6, h8, H⟩ := Aq H
   refine EP (r := CS) (i := 0) W F Aa St Aa Aa Aa Aa (Fv F 1 Aa) h8 Aa fun v9 a w W F => ?_
   have F : Stw ⟨Y, [], w0⟩ (KW b3 p0 v4 b2 b1 v1) [row v9 34 CS x6, row v8 34 CS ([x5] : List Tr34), AU v7 CS x5.un.2.2.2] w := F
   refine BZ (N2 := []) (NZ2 := []) (N3 := [(some 9, b3, [.int .i64 p0.un.1, .int .i64 p0.un.2.1, .int .i64 p0.un.2.2.1, v4]), (some 7, b1, [.int .i64 p0.un.1, .int .i64 p0.un.2.1, .int .i64 p0.un.2.2.1, v1])]) (NZ3 := []) F Aa Aa (Aw (fun h => AN (by kernel_rfl) h) (Aw (fun h => AN (by kernel_rfl) h) AB)) AB ?_
   refine CK (R := []) W Aa Aa (yC fun M Z hN hZ => Aj CJ Aa Aa Aa Ix W Aa 3 Aa) Aa Aa fun a W => ?_
   refine Fj Aa ?_
   refine Kg (M' := (KW b3 p0 v9 b2 b1 v1)) 0 W F Aa Aa Aa Ix (F.one (k := 0) Aa) Aa Aa fun w F => ?_
   refine BZ (N2 := []) (NZ2 := []) (N3 := [(some 9, b3, [.int .i64 p0.un.1, .int .i64 p0.un.2.1, .int .i64 p0.un.2.2.1, v4]), (some 7, b1, [.int .i64 p0.un.1, .int .i64 p0.un.2.1, .int .i64 p0.un.2.2.1, v1])]) (NZ3 := []) F Aa Aa (Aw (fun h => AN (by kernel_rfl) h) (Aw (fun h => AN (by kernel_rfl) h) AB)) AB ?_
   refine He (Bn (Ac (Ab ?_)))
   refine ls W F Aa (Ah W Aa).q fun a w W F => ?_
   refine ls W F Aa (C5 W Aa Aa Aa).q fun a w W F => ?_
   refine ls W F Aa (Ag W Aa).q fun a w W F => ?_
   refine Ae (Ac ?_)
   have F := F.frontM (i := 2) Aa Aa
   have F := F.frontM (i := 2) Aa Aa
   have F := F.frontM (i := 2) Aa Aa
   have F := F.sub (M' := (KW b3 p0 v9 b2 b1 v1)) (Z' := [row v9 34 CS x6]) (List.Sublist.refl _) (List.Sublist.cons_cons _ (List.nil_sublist _))
   exact ⟨_, H, (v9), W.re ⟨rfl, Aa, Aa, Aa, trivial⟩, F⟩
  have H := AY (Bx hb) H
  rw [hb] at W
  clear hb
  refine Cz ?_
  iterate 2 refine C8 ?_
  refine Cy (Ac ?_)
  have F := F.frontM (i := 2) Aa Aa
  have F := F.frontM (i := 2) Aa Aa
  have F := F.frontM (i := 2) Aa Aa
  have H := L2 _ H
  exact ⟨_, (v4), H, W.re ⟨rfl, Aa, trivial⟩, F⟩
 rintro a w ⟨x1, v3, hj, W, F⟩
 have hj := AK hj
 subst hj
 have H := K1
 clear G1 K1
 refine Ak (Ab ?_)
 refine ls W F Aa (Av (v := Value.agg #[.int .i64 p0.un.1, .int .i64 p0.un.2.1, .int .i64 p0.un.2.2.1, v3]) 0 W Aa Aa IA Aa).q fun a w W F => ?_
 refine AL (vs := (M4 p0 v3)) (M' := [(b3, [.int .i64 p0.un.1, .int .i64 p0.un.2.1, .int .i64 p0.un.2.2.1, v3]), (b2, [.int .i64 p0.un.1, .int .i64 p0.un.2.1, .int .i64 p0.un.2.2.1, v3]), (b1, [.int .i64 p0.un.1, .int .i64 p0.un.2.1, .int .i64 p0.un.2.2.1, v1])]) 1 W F Aa Aa Aa IA Aa Aa Aa (Ai Aa (Ai Aa (Ai Aa (Ai (F.one (k := 0) Aa) Bp)))) Aa fun w F => ?_
 refine Ae (Ac (Ax ?_))
 have H := AK H
 subst H
 refine AG (.inl Aa) W F Aa (A3 1 W Aa Aa IA Aa) ?_
 have F := F.sub (M' := []) (Z' := [row v3 34 CS x1]) (List.nil_sublist _) (List.Sublist.refl _)
 exact ⟨(v3), Aa, F⟩
theorem MU : ∀ (n : Nat) (Y : Nat → Prop) (w0 : World) (v1 : Value) (p0 : Tr25) (r : Tr34) (H : CQ n p0 = some r) (h_v1 : Sl w0 (NX []) AR v1 p0.un.2.2.2), Calls Tryd.prog 14 #[.agg #[.int .i64 p0.un.1, .int .i64 p0.un.2.1, .int .i64 p0.un.2.2.1, v1]] w0 fun e w' => ∃ x : Value, e = .returned (.agg #[.int .i64 r.un.1, .int .i64 r.un.2.1, .int .i64 r.un.2.2.1, x]) ∧ Stw ⟨Y, [], w0⟩ [] [row (x) 34 CS r.un.2.2.2] w' := by
  intro n
  induction n with
  | zero => intro Y w0 v1 p0 r H; exact nomatch H
  | succ n ih => intro Y w0 v1 p0 r H h_v1; exact Mb (CQ n) ih Y w0 v1 p0 r H h_v1
theorem Il (Y : Nat → Prop) (w0 : World) (v1 : Value) (p0 : Tr25) (r : Tr34) (H : GY p0 = some r) (h_v1 : Sl w0 (NX []) AR v1 p0.un.2.2.2) :
    Calls Tryd.prog 14 #[.agg #[.int .i64 p0.un.1, .int .i64 p0.un.2.1, .int .i64 p0.un.2.2.1, v1]] w0 fun e w' => ∃ x : Value, e = .returned (.agg #[.int .i64 r.un.1, .int .i64 r.un.2.1, .int .i64 r.un.2.2.1, x]) ∧ Stw ⟨Y, [], w0⟩ [] [row (x) 34 CS r.un.2.2.2] w' := by
  obtain ⟨n, H⟩ := BR H
  exact MU n Y w0 v1 p0 r H h_v1
theorem VK : Has Tryd.prog 10 := ⟨fun args w => An Tryd.func10 rfl (by decide) args w⟩
abbrev Kr : Rp (Int × (Int × Int × Int × (Value × List Tr34)) × Int × Int × (Value × List Tr37)) := (Rp.pair (Rp.int .i64) (Rp.pair I8 (Rp.pair (Rp.int .i64) (Rp.pair (Rp.int .i64) (Rp.vsl Ff)))))
abbrev Vq (p : Int × (Int × Int × Int × (Value × List Tr34)) × Int × Int × (Value × List Tr37)) : Tr37 := (Tr37.of (p.1, (Tr34.of (p.2.1.1, p.2.1.2.1, p.2.1.2.2.1, p.2.1.2.2.2.2)), p.2.2.1, p.2.2.2.1, p.2.2.2.2.2))
theorem Fx : Ex Ff Kr Vq := (Ex.knot Te (of := Tr37.of) (fun _ => rfl) (fun x => by cases x; rfl) (Ex.pair Ex.rfl' (Ex.pair (Ex.knot RP (of := Tr34.of) (fun _ => rfl) (fun x => by cases x; rfl) (Ex.pair Ex.rfl' (Ex.pair Ex.rfl' (Ex.pair Ex.rfl' Ex.sliceF)))) (Ex.pair Ex.rfl' (Ex.pair Ex.rfl' Ex.sliceF)))))
abbrev SJ (a0 : Nat) (a1 : Tr28) (a2 : Tr34) (a3 : Value) (a4 : Nat) (a5 : Nat) (a6 : Value) (a7 : Value) : List (Nat × List Value) := [(a0, [.int .i64 a1.un.1, .int .i64 a2.un.1, .int .i64 a2.un.2.1, .int .i64 a2.un.2.2.1, a3, .int .i64 a1.un.2.2.1, .int .i64 a1.un.2.2.2.1, .slice none 0 0]), (a4, [.int .i64 0, .int .i64 0, .int .i64 0, .int .i64 0, .slice none 0 0, .int .i64 0, .int .i64 0, .slice none 0 0]), (a5, [.int .i64 a1.un.1, .int .i64 a1.un.2.1.un.1, .int .i64 a1.un.2.1.un.2.1, .int .i64 a1.un.2.1.un.2.2.1, a6, .int .i64 a1.un.2.2.1, .int .i64 a1.un.2.2.2.1, a7])]
abbrev TB (a0 : Nat) (a1 : Nat) (a2 : Tr28) (a3 : Value) (a4 : Value) : List (Nat × List Value) := [(a0, [.int .i64 0, .int .i64 0, .int .i64 0, .int .i64 0, .slice none 0 0, .int .i64 0, .int .i64 0, .slice none 0 0]), (a1, [.int .i64 a2.un.1, .int .i64 a2.un.2.1.un.1, .int .i64 a2.un.2.1.un.2.1, .int .i64 a2.un.2.1.un.2.2.1, a3, .int .i64 a2.un.2.2.1, .int .i64 a2.un.2.2.2.1, a4])]
abbrev RR (a0 : Tr28) (a1 : Tr34) (a2 : Value) : List Value := [.int .i64 a0.un.1, .int .i64 a1.un.1, .int .i64 a1.un.2.1, .int .i64 a1.un.2.2.1, a2, .int .i64 a0.un.2.2.1, .int .i64 a0.un.2.2.2.1, .slice none 0 0]
abbrev R4 (a0 : Nat) (a1 : Nat) (a2 : Nat) (a3 : Tr28) (a4 : Value) (a5 : Value) : List (Nat × List Value) := [(a0, [.int .i64 0, .int .i64 0, .int .i64 0, .int .i64 0, .slice none 0 0, .int .i64 0, .int .i64 0, .slice none 0 0]), (a1, [.int .i64 0, .int .i64 0, .int .i64 0, .int .i64 0, .slice none 0 0, .int .i64 0, .int .i64 0, .slice none 0 0]), (a2, [.int .i64 a3.un.1, .int .i64 a3.un.2.1.un.1, .int .i64 a3.un.2.1.un.2.1, .int .i64 a3.un.2.1.un.2.2.1, a4, .int .i64 a3.un.2.2.1, .int .i64 a3.un.2.2.2.1, a5])]
abbrev ID (a0 : Nat) (a1 : Tr28) (a2 : Tr34) (a3 : Value) (a4 : Value) (a5 : Nat) (a6 : Nat) (a7 : Value) (a8 : Value) : List (Nat × List Value) := [(a0, [.int .i64 a1.un.1, .int .i64 a2.un.1, .int .i64 a2.un.2.1, .int .i64 a2.un.2.2.1, a3, .int .i64 a1.un.2.2.1, .int .i64 a1.un.2.2.2.1, a4]), (a5, [.int .i64 0, .int .i64 0, .int .i64 0, .int .i64 0, .slice none 0 0, .int .i64 0, .int .i64 0, .slice none 0 0]), (a6, [.int .i64 a1.un.1, .int .i64 a1.un.2.1.un.1, .int .i64 a1.un.2.1.un.2.1, .int .i64 a1.un.2.1.un.2.2.1, a7, .int .i64 a1.un.2.2.1, .int .i64 a1.un.2.2.2.1, a8])]
abbrev P9 (a0 : Tr28) (a1 : Tr34) (a2 : Value) (a3 : Value) : List Value := [.int .i64 a0.un.1, .int .i64 a1.un.1, .int .i64 a1.un.2.1, .int .i64 a1.un.2.2.1, a2, .int .i64 a0.un.2.2.1, .int .i64 a0.un.2.2.2.1, a3]
abbrev Ce (a0 : Tr37) (a1 : Value) (a2 : Value) : List Value := [.int .i64 a0.un.1, .int .i64 a0.un.2.1.un.1, .int .i64 a0.un.2.1.un.2.1, .int .i64 a0.un.2.1.un.2.2.1, a1, .int .i64 a0.un.2.2.1, .int .i64 a0.un.2.2.2.1, a2]
noncomputable def CI (fRec : Tr28 → Option Tr37) (p0 : Tr28) : (Int × List Tr37) → Option ((Int × List Tr37) ⊕ (List Tr37))
  | (x3, x4) => (if x3 < (p0.un.2.2.2.2.length : Int) then (ix p0.un.2.2.2.2 x3).bind fun x5 => (fRec (Tr28.of (x5.un.1, Tr25.of (x5.un.2.1.un.1, x5.un.2.1.un.2.1, x5.un.2.1.un.2.2.1, x5.un.2.1.un.2.2.2), x5.un.2.2.1, x5.un.2.2.2.1, x5.un.2.2.2.2))).bind fun x6 => (DQ x4 ([Tr37.of (x6.un.1, Tr34.of (x6.un.2.1.un.1, x6.un.2.1.un.2.1, x6.un.2.1.un.2.2.1, x6.un.2.1.un.2.2.2), x6.un.2.2.1, x6.un.2.2.2.1, x6.un.2.2.2.2)] : List Tr37)).bind fun x7 => some (.inl (DP (x3 + 1), x7)) else some (.inr x4))
noncomputable def Do (fRec : Tr28 → Option Tr37) (p0 : Tr28) : Option Tr37 := (GY (Tr25.of (p0.un.2.1.un.1, p0.un.2.1.un.2.1, p0.un.2.1.un.2.2.1, p0.un.2.1.un.2.2.2))).bind fun x1 => (Br (CI fRec p0) (0, [])).bind fun x2 => some (Tr37.of (p0.un.1, x1, p0.un.2.2.1, p0.un.2.2.2.1, x2))
noncomputable def CY : Nat → Tr28 → Option Tr37
  | 0 => fun _ => none
  | n + 1 => Do (CY n)
noncomputable def Ib (p0 : Tr28) : Option Tr37 := FY fun n => CY n p0
theorem ML (fRec : Tr28 → Option Tr37) (ih : ∀ (Y : Nat → Prop) (w0 : World) (v1 : Value) (v2 : Value) (p0 : Tr28) (r : Tr37) (H : fRec p0 = some r) (h_v1 : Sl w0 (NX []) AR v1 p0.un.2.1.un.2.2.2) (h_v2 : Sl w0 (NX []) BD v2 p0.un.2.2.2.2), Calls Tryd.prog 10 #[.agg #[.int .i64 p0.un.1, .int .i64 p0.un.2.1.un.1, .int .i64 p0.un.2.1.un.2.1, .int .i64 p0.un.2.1.un.2.2.1, v1, .int .i64 p0.un.2.2.1, .int .i64 p0.un.2.2.2.1, v2]] w0 fun e w' => ∃ x : Value × Value, e = .returned (.agg #[.int .i64 r.un.1, .int .i64 r.un.2.1.un.1, .int .i64 r.un.2.1.un.2.1, .int .i64 r.un.2.1.un.2.2.1, x.1, .int .i64 r.un.2.2.1, .int .i64 r.un.2.2.2.1, x.2]) ∧ Stw ⟨Y, [], w0⟩ [] [row (x.1) 34 CS r.un.2.1.un.2.2.2, row (x.2) 37 Ff r.un.2.2.2.2] w') (Y : Nat → Prop) (w0 : World) (v1 : Value) (v2 : Value) (p0 : Tr28) (r : Tr37) (H : Do fRec p0 = some r) (h_v1 : Sl w0 (NX []) AR v1 p0.un.2.1.un.2.2.2) (h_v2 : Sl w0 (NX []) BD v2 p0.un.2.2.2.2) :
    Calls Tryd.prog 10 #[.agg #[.int .i64 p0.un.1, .int .i64 p0.un.2.1.un.1, .int .i64 p0.un.2.1.un.2.1, .int .i64 p0.un.2.1.un.2.2.1, v1, .int .i64 p0.un.2.2.1, .int .i64 p0.un.2.2.2.1, v2]] w0 fun e w' => ∃ x : Value × Value, e = .returned (.agg #[.int .i64 r.un.1, .int .i64 r.un.2.1.un.1, .int .i64 r.un.2.1.un.2.1, .int .i64 r.un.2.1.un.2.2.1, x.1, .int .i64 r.un.2.2.1, .int .i64 r.un.2.2.2.1, x.2]) ∧ Stw ⟨Y, [], w0⟩ [] [row (x.1) 34 CS r.un.2.1.un.2.2.2, row (x.2) 37 Ff r.un.2.2.2.2] w' := by
 refine enter Tryd.func10 Aa Tryd.ntmps10 Aa fun a W => ?_
 have F := Stw.start Y w0
 obtain ⟨v3, h1, h_v1⟩ := h_v1.ex FZ
 obtain ⟨v4, h2, h_v2⟩ := h_v2.ex Js
 unfold Do at H
 refine Ak (Ab ?_)
 refine D6 (cs := (Gu p0 v1 v2)) W F Aa Aa Aa fun b1 a w W F => ?_
 refine Bi (cs := (BM)) W F Aa UW Aa fun b2 a w W F => ?_
 refine Ae (Ac (Ak ?_))
 obtain ⟨x1, h3, H⟩ := Aq H
 refine Qr (fun a w => ∃ b3 : Nat, ∃ v5 : Value, Fr 34 [] [(0, .agg #[.int .i64 p0.un.1, .int .i64 p0.un.2.1.un.1, .int .i64 p0.un.2.1.un.2.1, .int .i64 p0.un.2.1.un.2.2.1, v1, .int .i64 p0.un.2.2.1, .int .i64 p0.un.2.2.2.1, v2]), (1, .pointer (some ⟨b1, 0, none⟩)), (2, .pointer (some ⟨b2, 0, none⟩)), (3, .pointer (some ⟨b3, 0, none⟩)), (5, .pointer (some ⟨b1, 0, none⟩)), (6, .int .i64 p0.un.1), (7, .pointer (some ⟨b1, 1, none⟩)), (8, .agg #[.int .i64 p0.un.2.1.un.1, .int .i64 p0.un.2.1.un.2.1, .int .i64 p0.un.2.1.un.2.2.1, v1]), (9, .agg #[.int .i64 x1.un.1, .int .i64 x1.un.2.1, .int .i64 x1.un.2.2.1, v5]), (10, .pointer (some ⟨b1, 5, none⟩)), (11, .int .i64 p0.un.2.2.1), (12, .pointer (some ⟨b1, 6, none⟩)), (13, .int .i64 p0.un.2.2.2.1), (14, .agg #[.int .i64 p0.un.1, .int .i64 x1.un.1, .int .i64 x1.un.2.1, .int .i64 x1.un.2.2.1, v5, .int .i64 p0.un.2.2.1, .int .i64 p0.un.2.2.2.1, .slice none 0 0])] a ∧ Stw ⟨Y, [], w0⟩ (SJ b3 p0 x1 v5 b2 b1 v1 v2) [row v5 34 CS x1.un.2.2.2] w) ?_ ?_
 ·
  refine Pr (PT.st 0 (PT.st 1 (PT.st 2 (PT.st 3 (PT.st 5 (PT.st 6 (PT.st 7 (PT.st 8 (PT.alt 4 (PT.st 9 (PT.alt 10 (PT.alt 11 PT.done PT.stop) PT.stop)) (PT.alt 10 (PT.alt 4 (PT.st 9 (PT.alt 11 PT.done PT.stop)) PT.stop) PT.stop)))))))))) (CN ⟨Y, [], w0⟩ [(some 11, b1, [.int .i64 p0.un.1, .int .i64 p0.un.2.1.un.1, .int .i64 p0.un.2.1.un.2.1, .int .i64 p0.un.2.1.un.2.2.1, v1, .int .i64 p0.un.2.2.1, .int .i64 p0.un.2.2.2.1, v2]), (some 4, b1, [.int .i64 p0.un.1, .int .i64 p0.un.2.1.un.1, .int .i64 p0.un.2.1.un.2.1, .int .i64 p0.un.2.1.un.2.2.1, v1, .int .i64 p0.un.2.2.1, .int .i64 p0.un.2.2.2.1, v2])] []) (fun ch a d v w h => by cases d <;> exact h) MO (by kernel_rfl) F (fun w F => ⟨_, _, F, (Aw (fun _ => (.tail _ (.head _))) (Aw (fun _ => (.tail _ (.head _))) AB)), AB⟩) fun w F => ?_
  refine HP (R := []) W Aa Aa (yC fun M Z hN hZ => Aj Hl Aa Aa Aa T3 W Aa 0 Aa) Aa Aa fun a W => ?_
  refine HP (R := [11]) W Aa Aa (yC fun M Z hN hZ => Cs (cs := (Gu p0 v1 v2)) (v := Value.int .i64 p0.un.1) W Aa (hN ((some 11), b1, (Gu p0 v1 v2)) (.head _) Aa) T3 Aa) (by kernel_rfl) Aa fun a W => ?_
  refine HP (R := []) W Aa Aa (yC fun M Z hN hZ => Aj Hl Aa Aa Aa FW W Aa 1 Aa) Aa Aa fun a W => ?_
  refine HP (R := [4]) W Aa Aa (yC fun M Z hN hZ => Cs (cs := (Gu p0 v1 v2)) (v := Value.agg #[.int .i64 p0.un.2.1.un.1, .int .i64 p0.un.2.1.un.2.1, .int .i64 p0.un.2.1.un.2.2.1, v1]) W Aa (hN ((some 4), b1, (Gu p0 v1 v2)) (.tail _ (.head _)) Aa) FW Aa) (by kernel_rfl) Aa fun a W => ?_
  refine HP (R := []) W Aa Aa (yC fun M Z hN hZ => Aj Hl Aa Aa Aa T3 W Aa 5 Aa) Aa Aa fun a W => ?_
  refine HP (R := [11]) W Aa Aa (yC fun M Z hN hZ => Cs (cs := (Gu p0 v1 v2)) (v := Value.int .i64 p0.un.2.2.1) W Aa (hN ((some 11), b1, (Gu p0 v1 v2)) (.head _) Aa) T3 Aa) (by kernel_rfl) Aa fun a W => ?_
  refine HP (R := []) W Aa Aa (yC fun M Z hN hZ => Aj Hl Aa Aa Aa T3 W Aa 6 Aa) Aa Aa fun a W => ?_
  refine HP (R := [11]) W Aa Aa (yC fun M Z hN hZ => Cs (cs := (Gu p0 v1 v2)) (v := Value.int .i64 p0.un.2.2.2.1) W Aa (hN ((some 11), b1, (Gu p0 v1 v2)) (.head _) Aa) T3 Aa) (by kernel_rfl) Aa fun a W => ?_
  refine RY Aa ?_ ?_
  ·
   refine A2 (Ml := []) (Zl := []) (M := (TB b2 b1 p0 v1 v2)) (Z := []) (β := Value) (rv := fun x => .agg #[.int .i64 x1.un.1, .int .i64 x1.un.2.1, .int .i64 x1.un.2.2.1, x]) (MM := fun x => []) (ZZ := fun x => [row x 34 CS x1.un.2.2.2]) W F U3 Aa Aa (fun hL => Il _ w (v1) (Tr25.of (p0.un.2.1.un.1, p0.un.2.1.un.2.1, p0.un.2.1.un.2.2.1, p0.un.2.1.un.2.2.2)) _ h3 ((AM FZ h1 (Ay h_v1)) w F).nx) fun x a w W F => ?_
   obtain ⟨v5, rfl⟩ : ∃ y, y = x := ⟨x, rfl⟩
   have F : Stw ⟨Y, [], w0⟩ (TB b2 b1 p0 v1 v2) [row v5 34 CS x1.un.2.2.2] w := F
   refine Fw (N2 := []) (NZ2 := []) (N3 := [(some 11, b1, [.int .i64 p0.un.1, .int .i64 p0.un.2.1.un.1, .int .i64 p0.un.2.1.un.2.1, .int .i64 p0.un.2.1.un.2.2.1, v1, .int .i64 p0.un.2.2.1, .int .i64 p0.un.2.2.2.1, v2]), (some 4, b1, [.int .i64 p0.un.1, .int .i64 p0.un.2.1.un.1, .int .i64 p0.un.2.1.un.2.1, .int .i64 p0.un.2.1.un.2.2.1, v1, .int .i64 p0.un.2.2.1, .int .i64 p0.un.2.2.2.1, v2])]) (NZ3 := []) F Aa Aa (Aw (fun _ => (.tail _ (.head _))) (Aw (fun h => AN (by kernel_rfl) h) AB)) AB ?_
   refine HP (R := []) W Aa Aa (yC fun M Z hN hZ => B7 (v := Value.agg #[.int .i64 p0.un.1, .int .i64 x1.un.1, .int .i64 x1.un.2.1, .int .i64 x1.un.2.2.1, v5, .int .i64 p0.un.2.2.1, .int .i64 p0.un.2.2.2.1, .slice none 0 0]) VV W Aa (AX Aa Aa Aa (AX Aa Aa Aa (AX Aa Aa Aa (AX Aa Aa Aa B2)))) Aa) Aa Aa fun a W => ?_
   refine K9 Aa ?_
   refine Bi (cs := (BM)) W F Aa UW Aa fun b3 a w W F => ?_
   refine Fw (N2 := []) (NZ2 := []) (N3 := [(some 11, b1, [.int .i64 p0.un.1, .int .i64 p0.un.2.1.un.1, .int .i64 p0.un.2.1.un.2.1, .int .i64 p0.un.2.1.un.2.2.1, v1, .int .i64 p0.un.2.2.1, .int .i64 p0.un.2.2.2.1, v2]), (some 4, b1, [.int .i64 p0.un.1, .int .i64 p0.un.2.1.un.1, .int .i64 p0.un.2.1.un.2.1, .int .i64 p0.un.2.1.un.2.2.1, v1, .int .i64 p0.un.2.2.1, .int .i64 p0.un.2.2.2.1, v2])]) (NZ3 := []) F Aa Aa (Aw (fun _ => (.tail _ (.tail _ (.head _)))) (Aw (fun h => AN (by kernel_rfl) h) AB)) AB ?_
   refine K9 Aa ?_
   refine AL (vs := (RR p0 x1 v5)) (M' := (SJ b3 p0 x1 v5 b2 b1 v1 v2)) 0 W F Aa Aa Aa MR Aa Aa Aa (Ai Aa (Ai Aa (Ai Aa (Ai Aa (Ai (F.one (k := 0) Aa) (Ai Aa (Ai Aa (Ai Aa Bp)))))))) Aa fun w F => ?_
   refine Fw (N2 := []) (NZ2 := []) (N3 := [(some 11, b1, [.int .i64 p0.un.1, .int .i64 p0.un.2.1.un.1, .int .i64 p0.un.2.1.un.2.1, .int .i64 p0.un.2.1.un.2.2.1, v1, .int .i64 p0.un.2.2.1, .int .i64 p0.un.2.2.2.1, v2]), (some 4, b1, [.int .i64 p0.un.1, .int .i64 p0.un.2.1.un.1, .int .i64 p0.un.2.1.un.2.1, .int .i64 p0.un.2.1.un.2.2.1, v1, .int .i64 p0.un.2.2.1, .int .i64 p0.un.2.2.2.1, v2])]) (NZ3 := []) F Aa Aa (Aw (fun h => AN (by kernel_rfl) h) (Aw (fun h => AN (by kernel_rfl) h) AB)) AB ?_
   have F := F.frontM (i := 2) Aa Aa
   have F := F.frontM (i := 2) Aa Aa
   have F := F.frontM (i := 2) Aa Aa
   refine OG ?_
   exact ⟨b3, v5, W.re ⟨rfl, Aa, Aa, Aa, Aa, Aa, Aa, Aa, Aa, Aa, Aa, Aa, Aa, Aa, trivial⟩, F⟩
  refine RY Aa ?_ ?_
  ·
   refine Bi (cs := (BM)) W F Aa UW Aa fun b3 a w W F => ?_
   refine Fw (N2 := []) (NZ2 := []) (N3 := [(some 11, b1, [.int .i64 p0.un.1, .int .i64 p0.un.2.1.un.1, .int .i64 p0.un.2.1.un.2.1, .int .i64 p0.un.2.1.un.2.2.1, v1, .int .i64 p0.un.2.2.1, .int .i64 p0.un.2.2.2.1, v2]), (some 4, b1, [.int .i64 p0.un.1, .int .i64 p0.un.2.1.un.1, .int .i64 p0.un.2.1.un.2.1, .int .i64 p0.un.2.1.un.2.2.1, v1, .int .i64 p0.un.2.2.1, .int .i64 p0.un.2.2.2.1, v2])]) (NZ3 := []) F Aa Aa (Aw (fun _ => (.tail _ (.tail _ (.head _)))) (Aw (fun _ => (.tail _ (.tail _ (.head _)))) AB)) AB ?_
   refine K9 Aa ?_
   refine A2 (Ml := []) (Zl := []) (M := (R4 b3 b2 b1 p0 v1 v2)) (Z := []) (β := Value) (rv := fun x => .agg #[.int .i64 x1.un.1, .int .i64 x1.un.2.1, .int .i64 x1.un.2.2.1, x]) (MM := fun x => []) (ZZ := fun x => [row x 34 CS x1.un.2.2.2]) W F U3 Aa Aa (fun hL => Il _ w (v1) (Tr25.of (p0.un.2.1.un.1, p0.un.2.1.un.2.1, p0.un.2.1.un.2.2.1, p0.un.2.1.un.2.2.2)) _ h3 ((AM FZ h1 (Ay h_v1)) w F).nx) fun x a w W F => ?_
   obtain ⟨v5, rfl⟩ : ∃ y, y = x := ⟨x, rfl⟩
   have F : Stw ⟨Y, [], w0⟩ (R4 b3 b2 b1 p0 v1 v2) [row v5 34 CS x1.un.2.2.2] w := F
   refine Fw (N2 := []) (NZ2 := []) (N3 := [(some 11, b1, [.int .i64 p0.un.1, .int .i64 p0.un.2.1.un.1, .int .i64 p0.un.2.1.un.2.1, .int .i64 p0.un.2.1.un.2.2.1, v1, .int .i64 p0.un.2.2.1, .int .i64 p0.un.2.2.2.1, v2]), (some 4, b1, [.int .i64 p0.un.1, .int .i64 p0.un.2.1.un.1, .int .i64 p0.un.2.1.un.2.1, .int .i64 p0.un.2.1.un.2.2.1, v1, .int .i64 p0.un.2.2.1, .int .i64 p0.un.2.2.2.1, v2])]) (NZ3 := []) F Aa Aa (Aw (fun _ => (.tail _ (.tail _ (.head _)))) (Aw (fun h => AN (by kernel_rfl) h) AB)) AB ?_
   refine HP (R := []) W Aa Aa (yC fun M Z hN hZ => B7 (v := Value.agg #[.int .i64 p0.un.1, .int .i64 x1.un.1, .int .i64 x1.un.2.1, .int .i64 x1.un.2.2.1, v5, .int .i64 p0.un.2.2.1, .int .i64 p0.un.2.2.2.1, .slice none 0 0]) VV W Aa (AX Aa Aa Aa (AX Aa Aa Aa (AX Aa Aa Aa (AX Aa Aa Aa B2)))) Aa) Aa Aa fun a W => ?_
   refine K9 Aa ?_
   refine AL (vs := (RR p0 x1 v5)) (M' := (SJ b3 p0 x1 v5 b2 b1 v1 v2)) 0 W F Aa Aa Aa MR Aa Aa Aa (Ai Aa (Ai Aa (Ai Aa (Ai Aa (Ai (F.one (k := 0) Aa) (Ai Aa (Ai Aa (Ai Aa Bp)))))))) Aa fun w F => ?_
   refine Fw (N2 := []) (NZ2 := []) (N3 := [(some 11, b1, [.int .i64 p0.un.1, .int .i64 p0.un.2.1.un.1, .int .i64 p0.un.2.1.un.2.1, .int .i64 p0.un.2.1.un.2.2.1, v1, .int .i64 p0.un.2.2.1, .int .i64 p0.un.2.2.2.1, v2]), (some 4, b1, [.int .i64 p0.un.1, .int .i64 p0.un.2.1.un.1, .int .i64 p0.un.2.1.un.2.1, .int .i64 p0.un.2.1.un.2.2.1, v1, .int .i64 p0.un.2.2.1, .int .i64 p0.un.2.2.2.1, v2])]) (NZ3 := []) F Aa Aa (Aw (fun h => AN (by kernel_rfl) h) (Aw (fun h => AN (by kernel_rfl) h) AB)) AB ?_
   have F := F.frontM (i := 2) Aa Aa
   have F := F.frontM (i := 2) Aa Aa
   have F := F.frontM (i := 2) Aa Aa
   refine OG ?_
   exact ⟨b3, v5, W.re ⟨rfl, Aa, Aa, Aa, Aa, Aa, Aa, Aa, Aa, Aa, Aa, Aa, Aa, Aa, trivial⟩, F⟩
  exact trivial
 rintro a w ⟨b3, v5, W, F⟩
 refine Ac ?_
 obtain ⟨o1, G1, K1⟩ := Aq H
 refine A1 (fun a w => ∃ x2 : List Tr37, ∃ v6 : Value, some (x2) = some o1 ∧ Fr 34 [] [(2, .pointer (some ⟨b2, 0, none⟩)), (3, .pointer (some ⟨b3, 0, none⟩))] a ∧ Stw ⟨Y, [], w0⟩ (ID b3 p0 x1 v5 v6 b2 b1 v1 v2) [row v5 34 CS x1.un.2.2.2, row v6 37 Ff x2] w) ?_ ?_
 ·
  have H := G1
  clear G1 K1
  refine Ak (Ab ?_)
  refine ls W F Aa (Ag W Aa).q fun a w W F => ?_
  refine Ae (Ac (AP ?_))
  have F := F.nilRow 37 Ff
  have F := F.frontZ (i := 1) Aa Aa
  have F := F.frontM (i := 2) Aa Aa
  have F := F.frontM (i := 2) Aa Aa
  have F := F.frontM (i := 2) Aa Aa
  refine Cx H (fun s a w => ∃ v7 : Value, Fr 34 [] [(1, .pointer (some ⟨b1, 0, none⟩)), (2, .pointer (some ⟨b2, 0, none⟩)), (3, .pointer (some ⟨b3, 0, none⟩)), (4, .int .i64 s.1)] a ∧ Stw ⟨Y, [], w0⟩ (ID b3 p0 x1 v5 v7 b2 b1 v1 v2) [row v5 34 CS x1.un.2.2.2, row v7 37 Ff s.2] w) ⟨(Value.slice none 0 0), W.re ⟨rfl, Aa, Aa, Aa, trivial⟩, F⟩ fun s o a w H L2 hR => ?_
  obtain ⟨x3, x4⟩ := s
  obtain ⟨v7, W, F⟩ := hR
  have W : Fr 34 [] [(1, .pointer (some ⟨b1, 0, none⟩)), (2, .pointer (some ⟨b2, 0, none⟩)), (3, .pointer (some ⟨b3, 0, none⟩)), (4, .int .i64 x3)] a := W
  have F : Stw ⟨Y, [], w0⟩ (ID b3 p0 x1 v5 v7 b2 b1 v1 v2) [row v5 34 CS x1.un.2.2.2, row v7 37 Ff x4] w := F
  rw [CI] at H
  refine Ak (Ak (Ab ?_))
  refine ls W F Aa (Ah W Aa).q fun a w W F => ?_
  refine ls W F Aa (Aj Hl Aa Aa Aa PL W Aa 7 Aa).q fun a w W F => ?_
  refine ls W F Aa (Av (v := v2) 2 W Aa Aa PL Aa).q fun a w W F => ?_
  refine ls W F Aa (D7 (r := BD) (l := p0.un.2.2.2.2) Rz Aa W Aa (AM Js h2 (Ay h_v2))).q fun a w W F => ?_
  refine ls W F Aa (Co W Aa Aa).q fun a w W F => ?_
  refine Ae (Ac ?_)
  refine Az W Aa (fun hb => ?_) fun hb => ?_
  ·
   have H := AW (Bw hb) H
   rw [hb] at W
   clear hb
   refine AA (Ac (Ak (AP ?_)))
   obtain ⟨v8, h4, F⟩ := F.exR CL
   have F := F.frontZ (i := 1) Aa Aa
   obtain ⟨v9, h5, F⟩ := F.exR Fx
   refine GW [(true, 0), (true, 1), (true, 2), (true, 3), (true, 4), (true, 5), (true, 6), (false, 7), (false, 8), (false, 9), (true, 10), (false, 11)] (CN ⟨Y, [], w0⟩ [(some 9, b3, [.int .i64 p0.un.1, .int .i64 x1.un.1, .int .i64 x1.un.2.1, .int .i64 x1.un.2.2.1, v5, .int .i64 p0.un.2.2.1, .int .i64 p0.un.2.2.2.1, v7]), (some 7, b1, [.int .i64 p0.un.1, .int .i64 p0.un.2.1.un.1, .int .i64 p0.un.2.1.un.2.1, .int .i64 p0.un.2.1.un.2.2.1, v1, .int .i64 p0.un.2.2.1, .int .i64 p0.un.2.2.2.1, v2])] []) (fun ch a d v w h => by cases d <;> exact h) MO (by kernel_rfl) F (fun w F => ⟨_, _, F, (Aw (fun _ => (.head _)) (Aw (fun _ => (.tail _ (.tail _ (.head _)))) AB)), AB⟩) fun w F => ?_
   refine CK (R := []) W Aa Aa (yC fun M Z hN hZ => Aj BX Aa Aa Aa HK W Aa 7 Aa) Aa Aa fun a W => ?_
   refine CK (R := [9]) W Aa Aa (yC fun M Z hN hZ => Cs (cs := (P9 p0 x1 v5 v7)) (v := v7) W Aa (hN ((some 9), b3, (P9 p0 x1 v5 v7)) (.head _) Aa) HK Aa) (by kernel_rfl) Aa fun a W => ?_
   refine CK (R := []) W Aa Aa (yC fun M Z hN hZ => Aj Hl Aa Aa Aa PL W Aa 7 Aa) Aa Aa fun a W => ?_
   refine CK (R := [7, 6, 5]) W Aa Aa (yC fun M Z hN hZ => Cs (cs := (Gu p0 v1 v2)) (v := v2) W Aa (hN ((some 7), b1, (Gu p0 v1 v2)) (.tail _ (.head _)) Aa) PL Aa) (by kernel_rfl) Aa fun a W => ?_
   refine CK (R := []) W Aa Aa (yC fun M Z hN hZ => Ah W Aa) Aa Aa fun a W => ?_
   obtain ⟨x5, h6, H⟩ := Aq H
   obtain ⟨v10, h7, h8⟩ := D5 h2 h6
   have h9 : Ow v10 = [.int .i64 x5.un.1, .int .i64 x5.un.2.1.un.1, .int .i64 x5.un.2.1.un.2.1, .int .i64 x5.un.2.1.un.2.2.1, (v10.2.1.2.2.2.1), .int .i64 x5.un.2.2.1, .int .i64 x5.un.2.2.2.1, (v10.2.2.2.2.1)] := congrArg (fun q : Tr28 => ([.int .i64 q.un.1, .int .i64 q.un.2.1.un.1, .int .i64 q.un.2.1.un.2.1, .int .i64 q.un.2.1.un.2.2.1, (v10.2.1.2.2.2.1), .int .i64 q.un.2.2.1, .int .i64 q.un.2.2.2.1, (v10.2.2.2.2.1)] : List Value)) h8
   refine CK (R := []) W Aa Aa (yC fun M Z hN hZ => Cg (r := PB) Re W Aa Aa (Ay h_v2) h7) Aa Aa fun a W => ?_
   refine CK (R := []) W Aa Aa (yC fun M Z hN hZ => BC (y := Value.agg #[.int .i64 x5.un.1, .int .i64 x5.un.2.1.un.1, .int .i64 x5.un.2.1.un.2.1, .int .i64 x5.un.2.1.un.2.2.1, (v10.2.1.2.2.2.1), .int .i64 x5.un.2.2.1, .int .i64 x5.un.2.2.2.1, (v10.2.2.2.2.1)]) (j := 0) (i := x3) (enc := Ow) W Aa Aa (Ay h_v2) h7 SS FJ (by rw [h9]; rfl)) Aa Aa fun a W => ?_
   refine Fj Aa ?_
   obtain ⟨x6, h10, H⟩ := Aq H
   refine A2 (Ml := []) (Zl := []) (M := (ID b3 p0 x1 v5 v7 b2 b1 v1 v2)) (Z := [row v7 37 Kr v9, row v5 34 I8 v8]) (β := Value × Value) (rv := fun x => .agg #[.int .i64 x6.un.1, .int .i64 x6.un.2.1.un.1, .int .i64 x6.un.2.1.un.2.1, .int .i64 x6.un.2.1.un.2.2.1, x.1, .int .i64 x6.un.2.2.1, .int .i64 x6.un.2.2.2.1, x.2]) (MM := fun x => []) (ZZ := fun x => [row x.1 34 CS x6.un.2.1.un.2.2.2, row x.2 37 Ff x6.un.2.2.2.2]) W F VK Aa Aa (fun hL => ih _ w ((v10.2.1.2.2.2.1)) ((v10.2.2.2.2.1)) (Tr28.of (x5.un.1, Tr25.of (x5.un.2.1.un.1, x5.un.2.1.un.2.1, x5.un.2.1.un.2.2.1, x5.un.2.1.un.2.2.2), x5.un.2.2.1, x5.un.2.2.2.1, x5.un.2.2.2.2)) _ h10 ((Ci (Ay h_v2) h7 (AE.snd (AE.fst (AE.snd (AE.snd (AE.snd AE.here))))) (congrArg (fun q : Tr28 => q.un.2.1.un.2.2.2) h8)) w F).nx ((Ci (Ay h_v2) h7 (AE.snd (AE.snd (AE.snd (AE.snd AE.here)))) (congrArg (fun q : Tr28 => q.un.2.2.2.2) h8)) w F).nx) fun x a w W F => ?_
   obtain ⟨v11, v12⟩ := x
   have F : Stw ⟨Y, [], w0⟩ (ID b3 p0 x1 v5 v7 b2 b1 v1 v2) [row v11 34 CS x6.un.2.1.un.2.2.2, row v12 37 Ff x6.un.2.2.2.2, row v7 37 Kr v9, row v5 34 I8 v8] w := F
   refine BZ (N2 := []) (NZ2 := []) (N3 := [(some 9, b3, [.int .i64 p0.un.1, .int .i64 x1.un.1, .int .i64 x1.un.2.1, .int .i64 x1.un.2.2.1, v5, .int .i64 p0.un.2.2.1, .int .i64 p0.un.2.2.2.1, v7]), (some 7, b1, [.int .i64 p0.un.1, .int .i64 p0.un.2.1.un.1, .int .i64 p0.un.2.1.un.2.1, .int .i64 p0.un.2.1.un.2.2.1, v1, .int .i64 p0.un.2.2.1, .int .i64 p0.un.2.2.2.1, v2])]) (NZ3 := []) F Aa Aa (Aw (fun _ => (.head _)) (Aw (fun h => AN (by kernel_rfl) h) AB)) AB ?_
   refine Fj Aa ?_
   have F := F.freeze
   have F := F.frontZ (i := 1) Aa Aa
   have F := F.freeze
   refine FN (z := Value.agg #[.int .i64 0, .int .i64 0, .int .i64 0, .int .i64 0, .slice none 0 0, .int .i64 0, .int .i64 0, .slice none 0 0]) (cs := (Ce x6 v11 v12)) Ff ([Tr37.of (x6.un.1, Tr34.of (x6.un.2.1.un.1, x6.un.2.1.un.2.1, x6.un.2.1.un.2.2.1, x6.un.2.1.un.2.2.2), x6.un.2.2.1, x6.un.2.2.2.1, x6.un.2.2.2.2)] : List Tr37) W F Aa RC UW Aa Aa Aa (AX Aa Aa Aa B2) Aa Aa ⟨[Value.int .i64 x6.un.1, Value.int .i64 x6.un.2.1.un.1, Value.int .i64 x6.un.2.1.un.2.1, Value.int .i64 x6.un.2.1.un.2.2.1, v11, Value.int .i64 x6.un.2.2.1, Value.int .i64 x6.un.2.2.2.1, v12], _, Aa, (UL.2 ⟨[Value.int .i64 x6.un.1], [Value.int .i64 x6.un.2.1.un.1, Value.int .i64 x6.un.2.1.un.2.1, Value.int .i64 x6.un.2.1.un.2.2.1, v11, Value.int .i64 x6.un.2.2.1, Value.int .i64 x6.un.2.2.2.1, v12], Aa, Aa, ⟨[Value.int .i64 x6.un.2.1.un.1, Value.int .i64 x6.un.2.1.un.2.1, Value.int .i64 x6.un.2.1.un.2.2.1, v11], [Value.int .i64 x6.un.2.2.1, Value.int .i64 x6.un.2.2.2.1, v12], Aa, (S8.2 ⟨[Value.int .i64 x6.un.2.1.un.1], [Value.int .i64 x6.un.2.1.un.2.1, Value.int .i64 x6.un.2.1.un.2.2.1, v11], Aa, Aa, ⟨[Value.int .i64 x6.un.2.1.un.2.1], [Value.int .i64 x6.un.2.1.un.2.2.1, v11], Aa, Aa, ⟨[Value.int .i64 x6.un.2.1.un.2.2.1], [v11], Aa, Aa, ⟨_, Aa, (F.item (i := 1) Aa)⟩⟩⟩⟩), ⟨[Value.int .i64 x6.un.2.2.1], [Value.int .i64 x6.un.2.2.2.1, v12], Aa, Aa, ⟨[Value.int .i64 x6.un.2.2.2.1], [v12], Aa, Aa, ⟨_, Aa, (F.item (i := 0) Aa)⟩⟩⟩⟩⟩), Aa⟩ fun v13 a w W F => ?_
   refine BZ (N2 := []) (NZ2 := []) (N3 := [(some 9, b3, [.int .i64 p0.un.1, .int .i64 x1.un.1, .int .i64 x1.un.2.1, .int .i64 x1.un.2.2.1, v5, .int .i64 p0.un.2.2.1, .int .i64 p0.un.2.2.2.1, v7]), (some 7, b1, [.int .i64 p0.un.1, .int .i64 p0.un.2.1.un.1, .int .i64 p0.un.2.1.un.2.1, .int .i64 p0.un.2.1.un.2.2.1, v1, .int .i64 p0.un.2.2.1, .int .i64 p0.un.2.2.2.1, v2])]) (NZ3 := []) F Aa Aa (Aw (fun _ => (.head _)) (Aw (fun h => AN (by kernel_rfl) h) AB)) AB ?_
   refine Fj Aa ?_
   have F := F.frontZ (i := 3) Aa Aa
   have F := F.hideR Fx h5
   obtain ⟨x7, h11, H⟩ := Aq H
   refine EP (r := Ff) (i := 0) W F Aa RC Aa Aa Aa Aa (Fv F 1 Aa) h11 Aa fun v14 a w W F => ?_
   have F : Stw ⟨Y, [], w0⟩ (ID b3 p0 x1 v5 v7 b2 b1 v1 v2) [row v14 37 Ff x7, row v13 37 Ff ([Tr37.of (x6.un.1, Tr34.of (x6.un.2.1.un.1, x6.un.2.1.un.2.1, x6.un.2.1.un.2.2.1, x6.un.2.1.un.2.2.2), x6.un.2.2.1, x6.un.2.2.2.1, x6.un.2.2.2.2)] : List Tr37), AU v12 Ff x6.un.2.2.2.2, AU v11 CS x6.un.2.1.un.2.2.2, row v5 34 I8 v8] w := F
   refine BZ (N2 := []) (NZ2 := []) (N3 := [(some 9, b3, [.int .i64 p0.un.1, .int .i64 x1.un.1, .int .i64 x1.un.2.1, .int .i64 x1.un.2.2.1, v5, .int .i64 p0.un.2.2.1, .int .i64 p0.un.2.2.2.1, v7]), (some 7, b1, [.int .i64 p0.un.1, .int .i64 p0.un.2.1.un.1, .int .i64 p0.un.2.1.un.2.1, .int .i64 p0.un.2.1.un.2.2.1, v1, .int .i64 p0.un.2.2.1, .int .i64 p0.un.2.2.2.1, v2])]) (NZ3 := []) F Aa Aa (Aw (fun h => AN (by kernel_rfl) h) (Aw (fun h => AN (by kernel_rfl) h) AB)) AB ?_
   refine CK (R := []) W Aa Aa (yC fun M Z hN hZ => Aj BX Aa Aa Aa HK W Aa 7 Aa) Aa Aa fun a W => ?_
   refine Fj Aa ?_
   refine Kg (M' := (ID b3 p0 x1 v5 v14 b2 b1 v1 v2)) 0 W F Aa Aa Aa HK (F.one (k := 0) Aa) Aa Aa fun w F => ?_
   refine BZ (N2 := []) (NZ2 := []) (N3 := [(some 9, b3, [.int .i64 p0.un.1, .int .i64 x1.un.1, .int .i64 x1.un.2.1, .int .i64 x1.un.2.2.1, v5, .int .i64 p0.un.2.2.1, .int .i64 p0.un.2.2.2.1, v7]), (some 7, b1, [.int .i64 p0.un.1, .int .i64 p0.un.2.1.un.1, .int .i64 p0.un.2.1.un.2.1, .int .i64 p0.un.2.1.un.2.2.1, v1, .int .i64 p0.un.2.2.1, .int .i64 p0.un.2.2.2.1, v2])]) (NZ3 := []) F Aa Aa (Aw (fun h => AN (by kernel_rfl) h) (Aw (fun h => AN (by kernel_rfl) h) AB)) AB ?_
   refine He (Bn (Ac (Ab ?_)))
   refine ls W F Aa (Ah W Aa).q fun a w W F => ?_
   refine ls W F Aa (C5 W Aa Aa Aa).q fun a w W F => ?_
   refine ls W F Aa (Ag W Aa).q fun a w W F => ?_
   refine Ae (Ac ?_)
   have F := F.frontZ (i := 4) Aa Aa
   have F := F.hideR CL h4
   have F := F.frontZ (i := 1) Aa Aa
   have F := F.frontZ (i := 1) Aa Aa
   have F := F.frontM (i := 2) Aa Aa
   have F := F.frontM (i := 2) Aa Aa
   have F := F.frontM (i := 2) Aa Aa
   have F := F.sub (M' := (ID b3 p0 x1 v5 v14 b2 b1 v1 v2)) (Z' := [row v5 34 CS x1.un.2.2.2, row v14 37 Ff x7]) (List.Sublist.refl _) (List.Sublist.cons_cons _ (List.Sublist.cons_cons _ (List.nil_sublist _)))
   exact ⟨_, H, (v14), W.re ⟨rfl, Aa, Aa, Aa, trivial⟩, F⟩
  have H := AY (Bx hb) H
  rw [hb] at W
  clear hb
  refine Cz ?_
  iterate 2 refine C8 ?_
  refine Cy (Ac ?_)
  have F := F.frontZ (i := 1) Aa Aa
  have F := F.frontZ (i := 1) Aa Aa
  have F := F.frontM (i := 2) Aa Aa
  have F := F.frontM (i := 2) Aa Aa
  have F := F.frontM (i := 2) Aa Aa
  have H := L2 _ H
  exact ⟨_, (v7), H, W.re ⟨rfl, Aa, trivial⟩, F⟩
 rintro a w ⟨x2, v6, hj, W, F⟩
 have hj := AK hj
 subst hj
 have H := K1
 clear G1 K1
 refine Ak (Ab ?_)
 refine ls W F Aa (Av (v := Value.agg #[.int .i64 p0.un.1, .int .i64 x1.un.1, .int .i64 x1.un.2.1, .int .i64 x1.un.2.2.1, v5, .int .i64 p0.un.2.2.1, .int .i64 p0.un.2.2.2.1, v6]) 0 W Aa Aa MR Aa).q fun a w W F => ?_
 refine AL (vs := (P9 p0 x1 v5 v6)) (M' := [(b3, [.int .i64 p0.un.1, .int .i64 x1.un.1, .int .i64 x1.un.2.1, .int .i64 x1.un.2.2.1, v5, .int .i64 p0.un.2.2.1, .int .i64 p0.un.2.2.2.1, v6]), (b2, [.int .i64 p0.un.1, .int .i64 x1.un.1, .int .i64 x1.un.2.1, .int .i64 x1.un.2.2.1, v5, .int .i64 p0.un.2.2.1, .int .i64 p0.un.2.2.2.1, v6]), (b1, [.int .i64 p0.un.1, .int .i64 p0.un.2.1.un.1, .int .i64 p0.un.2.1.un.2.1, .int .i64 p0.un.2.1.un.2.2.1, v1, .int .i64 p0.un.2.2.1, .int .i64 p0.un.2.2.2.1, v2])]) 1 W F Aa Aa Aa MR Aa Aa Aa (Ai Aa (Ai Aa (Ai Aa (Ai Aa (Ai (F.one (k := 0) Aa) (Ai Aa (Ai Aa (Ai (F.one (k := 1) Aa) Bp)))))))) Aa fun w F => ?_
 refine Ae (Ac (Ax ?_))
 have H := AK H
 subst H
 refine AG (.inl Aa) W F Aa (A3 1 W Aa Aa MR Aa) ?_
 have F := F.frontZ (i := 1) Aa Aa
 have F := F.frontZ (i := 1) Aa Aa
 have F := F.sub (M' := []) (Z' := [row v5 34 CS x1.un.2.2.2, row v6 37 Ff x2]) (List.nil_sublist _) (List.Sublist.refl _)
 exact ⟨((v5), (v6)), Aa, F⟩
theorem M6 : ∀ (n : Nat) (Y : Nat → Prop) (w0 : World) (v1 : Value) (v2 : Value) (p0 : Tr28) (r : Tr37) (H : CY n p0 = some r) (h_v1 : Sl w0 (NX []) AR v1 p0.un.2.1.un.2.2.2) (h_v2 : Sl w0 (NX []) BD v2 p0.un.2.2.2.2), Calls Tryd.prog 10 #[.agg #[.int .i64 p0.un.1, .int .i64 p0.un.2.1.un.1, .int .i64 p0.un.2.1.un.2.1, .int .i64 p0.un.2.1.un.2.2.1, v1, .int .i64 p0.un.2.2.1, .int .i64 p0.un.2.2.2.1, v2]] w0 fun e w' => ∃ x : Value × Value, e = .returned (.agg #[.int .i64 r.un.1, .int .i64 r.un.2.1.un.1, .int .i64 r.un.2.1.un.2.1, .int .i64 r.un.2.1.un.2.2.1, x.1, .int .i64 r.un.2.2.1, .int .i64 r.un.2.2.2.1, x.2]) ∧ Stw ⟨Y, [], w0⟩ [] [row (x.1) 34 CS r.un.2.1.un.2.2.2, row (x.2) 37 Ff r.un.2.2.2.2] w' := by
  intro n
  induction n with
  | zero => intro Y w0 v1 v2 p0 r H; exact nomatch H
  | succ n ih => intro Y w0 v1 v2 p0 r H h_v1 h_v2; exact ML (CY n) ih Y w0 v1 v2 p0 r H h_v1 h_v2
theorem Og (Y : Nat → Prop) (w0 : World) (v1 : Value) (v2 : Value) (p0 : Tr28) (r : Tr37) (H : Ib p0 = some r) (h_v1 : Sl w0 (NX []) AR v1 p0.un.2.1.un.2.2.2) (h_v2 : Sl w0 (NX []) BD v2 p0.un.2.2.2.2) :
    Calls Tryd.prog 10 #[.agg #[.int .i64 p0.un.1, .int .i64 p0.un.2.1.un.1, .int .i64 p0.un.2.1.un.2.1, .int .i64 p0.un.2.1.un.2.2.1, v1, .int .i64 p0.un.2.2.1, .int .i64 p0.un.2.2.2.1, v2]] w0 fun e w' => ∃ x : Value × Value, e = .returned (.agg #[.int .i64 r.un.1, .int .i64 r.un.2.1.un.1, .int .i64 r.un.2.1.un.2.1, .int .i64 r.un.2.1.un.2.2.1, x.1, .int .i64 r.un.2.2.1, .int .i64 r.un.2.2.2.1, x.2]) ∧ Stw ⟨Y, [], w0⟩ [] [row (x.1) 34 CS r.un.2.1.un.2.2.2, row (x.2) 37 Ff r.un.2.2.2.2] w' := by
  obtain ⟨n, H⟩ := BR H
  exact M6 n Y w0 v1 v2 p0 r H h_v1 h_v2
end Go.Proofs.YtlgjpoapclifbaaDoor
