/- The functions of layer 41, ER. Conditions: none. -/
import Derived.Test.YtpmhmemmniiomaaDoorbA0
namespace Go.Proofs.YtpmhmemmniiomaaDoor
open Go Go.RowKit
set_option linter.unusedVariables false
set_option linter.unusedSimpArgs false
set_option maxRecDepth 20000
theorem I8 : Has Tryd.prog 11 := ⟨fun args w => Ap Tryd.func11 rfl (by decide) args w⟩
noncomputable def Cz  : Option Bool := (CW ([(1, 5, 0, 0, 1, 0), (2, 5, 0, 0, 0, 0), (2, 9, 0, 2, 0, 0), (3, 9, 0, 2, 0, 0)] : List (Int × Int × Int × Int × Int × Int))).bind fun x1 => (if (x1.length : Int) = 1 then (ix x1 0).bind fun x3 => (Ca x3).bind fun x4 => (if x4 = ([48, 58, 32, 49, 62, 48, 32, 97, 116, 32, 53, 58, 32, 48, 32, 50, 32, 103, 111, 110, 101, 32, 48, 32, 97, 116, 32, 57] : List UInt8) then (ix x1 0).bind fun x5 => (if (Bj x5) = 1 then (ix x1 0).bind fun x6 => (BR x6).bind fun x7 => some (!x7) else some false) else some false) else some false).bind fun x2 => some x2
theorem D3 (Y : Nat → Prop) (w0 : World)   (r : Bool) (H : Cz  = some r) (hG : Gk [] w0) :
    Calls Tryd.prog 5 #[] w0 fun e w' => e = .returned (.bool r) ∧ Below w0.heap.size w0 w' := by
 refine enter Tryd.func5 Aa Tryd.ntmps5 Aa fun a F => ?_
 have W := Stw.start Y w0
 unfold Cz at H
 refine Aj (Ad ?_)
 refine ls F W Aa (Ag F Aa).q fun a w F W => ?_
 refine Ae (Ac (Aj (Ad ?_)))
 refine ls F W Aa (Cw (v := Value.agg #[.int .i64 1, .int .i64 5, .int .i64 0, .int .i64 0, .int .i64 1, .int .i64 0]) IM F Aa Aa Aa).q fun a w F W => ?_
 refine ls F W Aa (Cw (v := Value.agg #[.int .i64 2, .int .i64 5, .int .i64 0, .int .i64 0, .int .i64 0, .int .i64 0]) IM F Aa Aa Aa).q fun a w F W => ?_
 refine ls F W Aa (Cw (v := Value.agg #[.int .i64 2, .int .i64 9, .int .i64 0, .int .i64 2, .int .i64 0, .int .i64 0]) IM F Aa Aa Aa).q fun a w F W => ?_
 refine ls F W Aa (Cw (v := Value.agg #[.int .i64 3, .int .i64 9, .int .i64 0, .int .i64 2, .int .i64 0, .int .i64 0]) IM F Aa Aa Aa).q fun a w F W => ?_
 refine Ey (z := Value.agg #[.int .i64 0, .int .i64 0, .int .i64 0, .int .i64 0, .int .i64 0, .int .i64 0]) (cs := [.int .i64 1, .int .i64 5, .int .i64 0, .int .i64 0, .int .i64 1, .int .i64 0, .int .i64 2, .int .i64 5, .int .i64 0, .int .i64 0, .int .i64 0, .int .i64 0, .int .i64 2, .int .i64 9, .int .i64 0, .int .i64 2, .int .i64 0, .int .i64 0, .int .i64 3, .int .i64 9, .int .i64 0, .int .i64 2, .int .i64 0, .int .i64 0]) Gn ([(1, 5, 0, 0, 1, 0), (2, 5, 0, 0, 0, 0), (2, 9, 0, 2, 0, 0), (3, 9, 0, 2, 0, 0)] : List (Int × Int × Int × Int × Int × Int)) F W Aa I1 IY Aa Aa Aa Aa Aa Aa (IU.repL _ _ ([(1, 5, 0, 0, 1, 0), (2, 5, 0, 0, 0, 0), (2, 9, 0, 2, 0, 0), (3, 9, 0, 2, 0, 0)] : List (Int × Int × Int × Int × Int × Int))) fun v1 a w F W => ?_
 obtain ⟨x1, h1, H⟩ := Ak H
 refine BE (Ml := []) (Zl := []) (M := []) (Z := [row v1 41 Gn ([(1, 5, 0, 0, 1, 0), (2, 5, 0, 0, 0, 0), (2, 9, 0, 2, 0, 0), (3, 9, 0, 2, 0, 0)] : List (Int × Int × Int × Int × Int × Int))]) (β := Value) (rv := fun x => x) (MM := fun x => []) (ZZ := fun x => [row x 34 Ed x1]) F W H6 Aa Aa (fun hL => EM _ w (v1) ([(1, 5, 0, 0, 1, 0), (2, 5, 0, 0, 0, 0), (2, 9, 0, 2, 0, 0), (3, 9, 0, 2, 0, 0)] : List (Int × Int × Int × Int × Int × Int)) _ h1 ((AN 0 Aa) w W).nx) fun x a w F W => ?_
 obtain ⟨v2, rfl⟩ : ∃ y, y = x := ⟨x, rfl⟩
 have W : Stw ⟨Y, [], w0⟩ [] [row v2 34 Ed x1, row v1 41 Gn ([(1, 5, 0, 0, 1, 0), (2, 5, 0, 0, 0, 0), (2, 9, 0, 2, 0, 0), (3, 9, 0, 2, 0, 0)] : List (Int × Int × Int × Int × Int × Int))] w := W
 refine ls F W Aa (Ag F Aa).q fun a w F W => ?_
 refine Ae (Ac ?_)
 obtain ⟨o1, G1, K1⟩ := Ak H
 refine A3 (fun a w => ∃ x2 : Bool, some (x2) = some o1 ∧ Fr 32 [] [(0, .bool x2)] a ∧ Stw ⟨Y, [], w0⟩ [] [] w) ?_ ?_
 ·
  have H := G1
  clear G1 K1
  obtain ⟨v3, h2, W⟩ := W.exR Er
  refine Ad ?_
  refine ls F W Aa (Af F Aa).q fun a w F W => ?_
  refine ls F W Aa (BT (r := Ed) (l := x1) HU Aa F Aa (C7 Er h2 (AN 0 Aa))).q fun a w F W => ?_
  refine ls F W Aa (B3 F Aa Aa).q fun a w F W => ?_
  refine ls F W Aa (Af F Aa).q fun a w F W => ?_
  rcases Bool.eq_false_or_eq_true (decide ((x1.length : Int) = 1)) with hb | hb
  ·
   have H := A0 (Ba hb) H
   rw [hb] at F
   clear hb
   refine AZ F W (Ah F Aa Aa Aa Aa) Aa (Aw Aa) (Af F Aa).q fun a w F W => ?_
   obtain ⟨x3, h3, H⟩ := Ak H
   obtain ⟨v4, h4, h5⟩ := Bh h2 h3
   have h6 : DD v4 = [.int .i64 x3.1, .int .i64 x3.2.1, .int .i64 x3.2.2.1, .int .i64 x3.2.2.2.1, (v4.2.2.2.2.1.1), .int .i64 x3.2.2.2.2.2.1, .int .i64 x3.2.2.2.2.2.2.1, .int .i64 x3.2.2.2.2.2.2.2] := congrArg (fun q : Int × Int × Int × Int × List Int × Int × Int × Int => ([.int .i64 q.1, .int .i64 q.2.1, .int .i64 q.2.2.1, .int .i64 q.2.2.2.1, (v4.2.2.2.2.1.1), .int .i64 q.2.2.2.2.2.1, .int .i64 q.2.2.2.2.2.2.1, .int .i64 q.2.2.2.2.2.2.2] : List Value)) h5
   refine AZ F W (Ah F Aa Aa Aa Aa) Aa (Aw Aa) (AE (r := Fg) HE F Aa Aa (AN 0 Aa) h4).q fun a w F W => ?_
   refine AZ F W (Ah F Aa Aa Aa Aa) Aa (Aw Aa) (Az (y := Value.agg #[.int .i64 x3.1, .int .i64 x3.2.1, .int .i64 x3.2.2.1, .int .i64 x3.2.2.2.1, (v4.2.2.2.2.1.1), .int .i64 x3.2.2.2.2.2.1, .int .i64 x3.2.2.2.2.2.2.1, .int .i64 x3.2.2.2.2.2.2.2]) (j := 0) (i := 0) (enc := DD) F Aa Aa (AN 0 Aa) h4 Gc HF (by rw [h6]; rfl)).q fun a w F W => ?_
   refine HO (Ah F Aa Aa Aa Aa) ?_
   obtain ⟨x4, h7, H⟩ := Ak H
   refine ls F W Aa (AF (v := Value.string (bs x4)) F I6 Aa (fun w W => DQ any w ((v4.2.2.2.2.1.1)) x3 _ h7 (((BG (AN 0 Aa) h4 (Al.snd (Al.snd (Al.snd (Al.snd (Al.fst Al.here))))) (congrArg (fun q : Int × Int × Int × Int × List Int × Int × Int × Int => q.2.2.2.2.1) h5)) : DU _ _ _ _ _ _) w W).nx (hG.go0 W))) fun a w F W => ?_
   refine AZ F W (Ah F Aa Aa Aa Aa) Aa (Aw Aa) (IF (l := x4) (m := ([48, 58, 32, 49, 62, 48, 32, 97, 116, 32, 53, 58, 32, 48, 32, 50, 32, 103, 111, 110, 101, 32, 48, 32, 97, 116, 32, 57] : List UInt8)) F Aa Aa).q fun a w F W => ?_
   refine ls F W Aa (Av F Aa Aa Aa).q fun a w F W => ?_
   refine ls F W Aa (Af F Aa).q fun a w F W => ?_
   rcases Bool.eq_false_or_eq_true (decide (x4 = ([48, 58, 32, 49, 62, 48, 32, 97, 116, 32, 53, 58, 32, 48, 32, 50, 32, 103, 111, 110, 101, 32, 48, 32, 97, 116, 32, 57] : List UInt8))) with hb | hb
   ·
    have H := A0 (Ba hb) H
    rw [hb] at F
    clear hb
    refine AZ F W (Ah F Aa Aa Aa Aa) Aa (Aw Aa) (Af F Aa).q fun a w F W => ?_
    obtain ⟨x5, h8, H⟩ := Ak H
    obtain ⟨v5, h9, h10⟩ := Bh h2 h8
    have h11 : DD v5 = [.int .i64 x5.1, .int .i64 x5.2.1, .int .i64 x5.2.2.1, .int .i64 x5.2.2.2.1, (v5.2.2.2.2.1.1), .int .i64 x5.2.2.2.2.2.1, .int .i64 x5.2.2.2.2.2.2.1, .int .i64 x5.2.2.2.2.2.2.2] := congrArg (fun q : Int × Int × Int × Int × List Int × Int × Int × Int => ([.int .i64 q.1, .int .i64 q.2.1, .int .i64 q.2.2.1, .int .i64 q.2.2.2.1, (v5.2.2.2.2.1.1), .int .i64 q.2.2.2.2.2.1, .int .i64 q.2.2.2.2.2.2.1, .int .i64 q.2.2.2.2.2.2.2] : List Value)) h10
    refine AZ F W (Ah F Aa Aa Aa Aa) Aa (Aw Aa) (AE (r := Fg) HE F Aa Aa (AN 0 Aa) h9).q fun a w F W => ?_
    refine AZ F W (Ah F Aa Aa Aa Aa) Aa (Aw Aa) (Az (y := Value.agg #[.int .i64 x5.1, .int .i64 x5.2.1, .int .i64 x5.2.2.1, .int .i64 x5.2.2.2.1, (v5.2.2.2.2.1.1), .int .i64 x5.2.2.2.2.2.1, .int .i64 x5.2.2.2.2.2.2.1, .int .i64 x5.2.2.2.2.2.2.2]) (j := 0) (i := 0) (enc := DD) F Aa Aa (AN 0 Aa) h9 Gc HF (by rw [h11]; rfl)).q fun a w F W => ?_
    refine HO (Ah F Aa Aa Aa Aa) ?_
    refine ls F W Aa (AF (v := Value.int .i64 (Bj x5)) F Jd Aa (fun w W => DF any w ((v5.2.2.2.2.1.1)) x5 _ Aa (((BG (AN 0 Aa) h9 (Al.snd (Al.snd (Al.snd (Al.snd (Al.fst Al.here))))) (congrArg (fun q : Int × Int × Int × Int × List Int × Int × Int × Int => q.2.2.2.2.1) h10)) : DU _ _ _ _ _ _) w W).nx)) fun a w F W => ?_
    refine AZ F W (Ah F Aa Aa Aa Aa) Aa (Aw Aa) (B3 F Aa Aa).q fun a w F W => ?_
    refine ls F W Aa (Av F Aa Aa Aa).q fun a w F W => ?_
    refine ls F W Aa (Af F Aa).q fun a w F W => ?_
    rcases Bool.eq_false_or_eq_true (decide ((Bj x5) = 1)) with hb | hb
    ·
     have H := A0 (Ba hb) H
     rw [hb] at F
     clear hb
     refine AZ F W (Ah F Aa Aa Aa Aa) Aa (Aw Aa) (Af F Aa).q fun a w F W => ?_
     obtain ⟨x6, h12, H⟩ := Ak H
     obtain ⟨v6, h13, h14⟩ := Bh h2 h12
     have h15 : DD v6 = [.int .i64 x6.1, .int .i64 x6.2.1, .int .i64 x6.2.2.1, .int .i64 x6.2.2.2.1, (v6.2.2.2.2.1.1), .int .i64 x6.2.2.2.2.2.1, .int .i64 x6.2.2.2.2.2.2.1, .int .i64 x6.2.2.2.2.2.2.2] := congrArg (fun q : Int × Int × Int × Int × List Int × Int × Int × Int => ([.int .i64 q.1, .int .i64 q.2.1, .int .i64 q.2.2.1, .int .i64 q.2.2.2.1, (v6.2.2.2.2.1.1), .int .i64 q.2.2.2.2.2.1, .int .i64 q.2.2.2.2.2.2.1, .int .i64 q.2.2.2.2.2.2.2] : List Value)) h14
     refine AZ F W (Ah F Aa Aa Aa Aa) Aa (Aw Aa) (AE (r := Fg) HE F Aa Aa (AN 0 Aa) h13).q fun a w F W => ?_
     refine AZ F W (Ah F Aa Aa Aa Aa) Aa (Aw Aa) (Az (y := Value.agg #[.int .i64 x6.1, .int .i64 x6.2.1, .int .i64 x6.2.2.1, .int .i64 x6.2.2.2.1, (v6.2.2.2.2.1.1), .int .i64 x6.2.2.2.2.2.1, .int .i64 x6.2.2.2.2.2.2.1, .int .i64 x6.2.2.2.2.2.2.2]) (j := 0) (i := 0) (enc := DD) F Aa Aa (AN 0 Aa) h13 Gc HF (by rw [h15]; rfl)).q fun a w F W => ?_
     refine HO (Ah F Aa Aa Aa Aa) ?_
     obtain ⟨x7, h16, H⟩ := Ak H
     refine ls F W Aa (AF (v := Value.bool x7) F I8 Aa (fun w W => Dy any w ((v6.2.2.2.2.1.1)) x6 _ h16 (((BG (AN 0 Aa) h13 (Al.snd (Al.snd (Al.snd (Al.snd (Al.fst Al.here))))) (congrArg (fun q : Int × Int × Int × Int × List Int × Int × Int × Int => q.2.2.2.2.1) h14)) : DU _ _ _ _ _ _) w W).nx)) fun a w F W => ?_
     refine AZ F W (Ah F Aa Aa Aa Aa) Aa (Aw Aa) (Gl F Aa).q fun a w F W => ?_
     refine ls F W Aa (Av F Aa Aa Aa).q fun a w F W => ?_
     refine ls F W Aa (Ag F Aa).q fun a w F W => ?_
     refine Ae (Ac ?_)
     have W := W.sub (M' := []) (Z' := []) (List.Sublist.refl _) (List.nil_sublist _)
     exact ⟨_, H, F.re ⟨rfl, trivial⟩, W⟩
    have H := AY (A7 hb) H
    rw [hb] at F
    clear hb
    iterate 5 refine C3 F Aa Aa Aa Aa Aa Aa Aa fun a F => ?_
    refine ls F W Aa (AU F Aa Aa Aa).q fun a w F W => ?_
    refine ls F W Aa (Ag F Aa).q fun a w F W => ?_
    refine Ae (Ac ?_)
    have W := W.sub (M' := []) (Z' := []) (List.Sublist.refl _) (List.nil_sublist _)
    exact ⟨_, H, F.re ⟨rfl, trivial⟩, W⟩
   have H := AY (A7 hb) H
   rw [hb] at F
   clear hb
   iterate 5 refine C3 F Aa Aa Aa Aa Aa Aa Aa fun a F => ?_
   refine ls F W Aa (AU F Aa Aa Aa).q fun a w F W => ?_
   refine ls F W Aa (Af F Aa).q fun a w F W => ?_
   iterate 5 refine C3 F Aa Aa Aa Aa Aa Aa Aa fun a F => ?_
   refine ls F W Aa (AU F Aa Aa Aa).q fun a w F W => ?_
   refine ls F W Aa (Ag F Aa).q fun a w F W => ?_
   refine Ae (Ac ?_)
   have W := W.sub (M' := []) (Z' := []) (List.Sublist.refl _) (List.nil_sublist _)
   exact ⟨_, H, F.re ⟨rfl, trivial⟩, W⟩
  have H := AY (A7 hb) H
  rw [hb] at F
  clear hb
  iterate 5 refine C3 F Aa Aa Aa Aa Aa Aa Aa fun a F => ?_
  refine ls F W Aa (AU F Aa Aa Aa).q fun a w F W => ?_
  refine ls F W Aa (Af F Aa).q fun a w F W => ?_
  iterate 5 refine C3 F Aa Aa Aa Aa Aa Aa Aa fun a F => ?_
  refine ls F W Aa (AU F Aa Aa Aa).q fun a w F W => ?_
  refine ls F W Aa (Af F Aa).q fun a w F W => ?_
  iterate 5 refine C3 F Aa Aa Aa Aa Aa Aa Aa fun a F => ?_
  refine ls F W Aa (AU F Aa Aa Aa).q fun a w F W => ?_
  refine ls F W Aa (Ag F Aa).q fun a w F W => ?_
  refine Ae (Ac ?_)
  have W := W.sub (M' := []) (Z' := []) (List.Sublist.refl _) (List.nil_sublist _)
  exact ⟨_, H, F.re ⟨rfl, trivial⟩, W⟩
 rintro a w ⟨x2, hj, F, W⟩
 have hj := A1 hj
 subst hj
 have H := K1
 clear G1 K1
 refine AJ ?_
 have H := A1 H
 subst H
 refine A9 (.inl Aa) F W Aa (AM F Aa) ?_
 exact ⟨rfl, W.done⟩
theorem Gx : type_of% Tryd.underlying26 := Tryd.underlying26
theorem Bv : type_of% Tryd.underlying32 := Tryd.underlying32
theorem H5 : Has Tryd.prog 5 := ⟨fun args w => Ap Tryd.func5 rfl (by decide) args w⟩
theorem Jb : Bt Tryd.prog 32 [.int .i64 0, .int .i64 0, .int .i64 0, .int .i64 0, .slice none 0 0, .int .i64 0, .int .i64 0, .int .i64 0] [(0, 1), (1, 1), (2, 1), (3, 1), (4, 1), (5, 1), (6, 1), (7, 1)] := ⟨⟨.agg #[.int .i64 0, .int .i64 0, .int .i64 0, .int .i64 0, .slice none 0 0, .int .i64 0, .int .i64 0, .int .i64 0], by kernel_rfl, rfl⟩, ⟨_, Bv, fun w => by kernel_rfl⟩⟩
theorem Iw : (Tryd.prog.info? 32).bind (·.zero) = some (.agg #[.int .i64 0, .int .i64 0, .int .i64 0, .int .i64 0, .slice none 0 0, .int .i64 0, .int .i64 0, .int .i64 0]) := by kernel_rfl
abbrev AX : Dp (Int × Int × Int × Int × (Value × Nat × List Int) × Int × Int × Int) := (Dp.pair (Dp.fl 1 (fun a => [.int .i64 a]) (fun _ => rfl)) (Dp.pair (Dp.fl 1 (fun a => [.int .i64 a]) (fun _ => rfl)) (Dp.pair (Dp.fl 1 (fun a => [.int .i64 a]) (fun _ => rfl)) (Dp.pair (Dp.fl 1 (fun a => [.int .i64 a]) (fun _ => rfl)) (Dp.pair (Dp.sl 3 (Rp.int .i64)) (Dp.pair (Dp.fl 1 (fun a => [.int .i64 a]) (fun _ => rfl)) (Dp.pair (Dp.fl 1 (fun a => [.int .i64 a]) (fun _ => rfl)) (Dp.fl 1 (fun a => [.int .i64 a]) (fun _ => rfl)))))))))
abbrev A4 (p : Int × Int × Int × Int × (Value × Nat × List Int) × Int × Int × Int) : Int × Int × Int × Int × (Nat × List Int) × Int × Int × Int := (p.1, p.2.1, p.2.2.1, p.2.2.2.1, p.2.2.2.2.1.2, p.2.2.2.2.2.1, p.2.2.2.2.2.2.1, p.2.2.2.2.2.2.2)
abbrev Db : Rp (Int × Int × Int × Int × List Int × Int × Int × Int) := (Rp.pair (Rp.int .i64) (Rp.pair (Rp.int .i64) (Rp.pair (Rp.int .i64) (Rp.pair (Rp.int .i64) (Rp.pair (Rp.slice (Rp.int .i64)) (Rp.pair (Rp.int .i64) (Rp.pair (Rp.int .i64) (Rp.int .i64))))))))
abbrev Hy : (Int × Int × Int × Int × (Nat × List Int) × Int × Int × Int) → Option (Int × Int × Int × Int × List Int × Int × Int × Int) := (fun (p : Int × Int × Int × Int × (Nat × List Int) × Int × Int × Int) => (some p.1).bind fun a => ((fun (p : Int × Int × Int × (Nat × List Int) × Int × Int × Int) => (some p.1).bind fun a => ((fun (p : Int × Int × (Nat × List Int) × Int × Int × Int) => (some p.1).bind fun a => ((fun (p : Int × (Nat × List Int) × Int × Int × Int) => (some p.1).bind fun a => ((fun (p : (Nat × List Int) × Int × Int × Int) => (IL p.1).bind fun a => ((fun (p : Int × Int × Int) => (some p.1).bind fun a => ((fun (p : Int × Int) => (some p.1).bind fun a => (some p.2).bind fun b => some (a, b)) p.2).bind fun b => some (a, b)) p.2).bind fun b => some (a, b)) p.2).bind fun b => some (a, b)) p.2).bind fun b => some (a, b)) p.2).bind fun b => some (a, b)) p.2).bind fun b => some (a, b))
theorem I5 : Rst AX Db A4 Hy := (Rst.pair (Rst.flat Fl.int (fun _ => rfl) rfl) (Rst.pair (Rst.flat Fl.int (fun _ => rfl) rfl) (Rst.pair (Rst.flat Fl.int (fun _ => rfl) rfl) (Rst.pair (Rst.flat Fl.int (fun _ => rfl) rfl) (Rst.pair Rst.sl (Rst.pair (Rst.flat Fl.int (fun _ => rfl) rfl) (Rst.pair (Rst.flat Fl.int (fun _ => rfl) rfl) (Rst.flat Fl.int (fun _ => rfl) rfl))))))))
theorem FX : Et Tryd.prog 26 32 8 80 := Et.of Gx (by kernel_rfl) (by kernel_rfl) (by kernel_rfl) (by decide)
noncomputable def Cc (x5 : Int × Int × Int × Int × Int × Int) : ((List (Int × Int × Int × Int × (Nat × List Int) × Int × Int × Int)) × Int × Int) → Option (((List (Int × Int × Int × Int × (Nat × List Int) × Int × Int × Int)) × Int × Int) ⊕ ((List (Int × Int × Int × Int × (Nat × List Int) × Int × Int × Int)) × Int))
  | (x10, x11, x12) => (if x12 < (x10.length : Int) then (((ix x10 x12).bind fun x17 => (if x17.1 = x5.2.2.1 then (ix x10 x12).bind fun x18 => some (x10, decide (x18.2.2.2.2.2.1 = 0)) else some (x10, false))).bind fun (x15, x16) => (if x16 = true then some (x15, x12) else some (x15, x11))).bind fun (x13, x14) => some (.inl (x13, x14, CV (x12 + 1))) else some (.inr (x10, x11)))
noncomputable def CA (p0 : List (Int × Int × Int × Int × Int × Int)) : ((List (Int × Int × Int × Int × (Nat × List Int) × Int × Int × Int)) × Int) → Option (((List (Int × Int × Int × Int × (Nat × List Int) × Int × Int × Int)) × Int) ⊕ (List (Int × Int × Int × Int × (Nat × List Int) × Int × Int × Int)))
  | (x2, x3) => (if x3 < (p0.length : Int) then ((ix p0 x3).bind fun x5 => (if x5.1 = 1 then (BV x2 ([(x5.2.2.1, x5.2.2.2.2.1, x5.2.2.2.2.2, x5.2.1, (2, []), 0, 0, x5.2.1)] : List (Int × Int × Int × Int × (Nat × List Int) × Int × Int × Int))).bind fun x7 => some x7 else some x2).bind fun x6 => (AP (Cc x5) (x6, (-1), 0)).bind fun (x8, x9) => (if (decide (x9 = (-1)) || (decide (x5.1 < 2) || decide (4 < x5.1))) = true then some x8 else (ix x8 x9).bind fun x19 => (ix x8 x9).bind fun x20 => (if x5.1 = 2 then (ix (Ai x8 x9 (x20.1, x20.2.1, x20.2.2.1, x20.2.2.2.1, x20.2.2.2.2.1, x20.2.2.2.2.2.1, x20.2.2.2.2.2.2.1, x5.2.1)) x9).bind fun x22 => (GQ x22.2.2.2.2.1.1).bind fun x23 => (BV x22.2.2.2.2.1.2 ([x5.2.2.2.1] : List Int)).bind fun x24 => (ix (Ai (Ai x8 x9 (x20.1, x20.2.1, x20.2.2.1, x20.2.2.2.1, x20.2.2.2.2.1, x20.2.2.2.2.2.1, x20.2.2.2.2.2.2.1, x5.2.1)) x9 (x22.1, x22.2.1, x22.2.2.1, x22.2.2.2.1, (0, []), x22.2.2.2.2.2.1, x22.2.2.2.2.2.2.1, x22.2.2.2.2.2.2.2)) x9).bind fun x25 => (ix (Ai (Ai x8 x9 (x20.1, x20.2.1, x20.2.2.1, x20.2.2.2.1, x20.2.2.2.2.1, x20.2.2.2.2.2.1, x20.2.2.2.2.2.2.1, x5.2.1)) x9 (x22.1, x22.2.1, x22.2.2.1, x22.2.2.2.1, (0, []), x22.2.2.2.2.2.1, x22.2.2.2.2.2.2.1, x22.2.2.2.2.2.2.2)) x9).bind fun x26 => some (Ai (Ai (Ai x8 x9 (x20.1, x20.2.1, x20.2.2.1, x20.2.2.2.1, x20.2.2.2.2.1, x20.2.2.2.2.2.1, x20.2.2.2.2.2.2.1, x5.2.1)) x9 (x22.1, x22.2.1, x22.2.2.1, x22.2.2.2.1, (0, []), x22.2.2.2.2.2.1, x22.2.2.2.2.2.2.1, x22.2.2.2.2.2.2.2)) x9 (x26.1, x26.2.1, x26.2.2.1, x26.2.2.2.1, (2, x24), x26.2.2.2.2.2.1, x26.2.2.2.2.2.2.1, x26.2.2.2.2.2.2.2)) else (ix (Ai x8 x9 (x20.1, x20.2.1, x20.2.2.1, x20.2.2.2.1, x20.2.2.2.2.1, x20.2.2.2.2.2.1, x20.2.2.2.2.2.2.1, x5.2.1)) x9).bind fun x27 => (ix (Ai x8 x9 (x20.1, x20.2.1, x20.2.2.1, x20.2.2.2.1, x20.2.2.2.2.1, x20.2.2.2.2.2.1, x20.2.2.2.2.2.2.1, x5.2.1)) x9).bind fun x28 => some (Ai (Ai x8 x9 (x20.1, x20.2.1, x20.2.2.1, x20.2.2.2.1, x20.2.2.2.2.1, x20.2.2.2.2.2.1, x20.2.2.2.2.2.2.1, x5.2.1)) x9 (x28.1, x28.2.1, x28.2.2.1, x28.2.2.2.1, x28.2.2.2.2.1, x5.1, x28.2.2.2.2.2.2.1, x28.2.2.2.2.2.2.2))).bind fun x21 => (if x5.1 = 3 then (ix x21 x9).bind fun x29 => (ix x21 x9).bind fun x30 => some (Ai x21 x9 (x30.1, x30.2.1, x30.2.2.1, x30.2.2.2.1, x30.2.2.2.2.1, x30.2.2.2.2.2.1, x5.2.2.2.2.1, x30.2.2.2.2.2.2.2)) else some x21))).bind fun x4 => some (.inl (x4, CV (x3 + 1))) else some (.inr x2))
noncomputable def EA (p0 : List (Int × Int × Int × Int × Int × Int)) : Option (List (Int × Int × Int × Int × List Int × Int × Int × Int)) := (AP (CA p0) ([], 0)).bind fun x1 => (CT Hy x1).bind fun x31 => some x31
theorem GT (Y : Nat → Prop) (w0 : World) (v1 : Value) (p0 : List (Int × Int × Int × Int × Int × Int)) (r : (List (Int × Int × Int × Int × List Int × Int × Int × Int))) (H : EA p0 = some r) (h_v1 : Sl w0 (NX []) Gn v1 p0) :
    Calls Tryd.prog 7 #[v1] w0 fun e w' => ∃ x : Value, e = .returned (x) ∧ Stw ⟨Y, [], w0⟩ [] [row (x) 32 Db r] w' := by
 refine enter Tryd.func7 Aa Tryd.ntmps7 Aa fun a F => ?_
 have W := Stw.start Y w0
 unfold EA at H
 refine Aj (Ad ?_)
 refine ls F W Aa (Ag F Aa).q fun a w F W => ?_
 refine Ae (Ac (Aj (Ad ?_)))
 refine ls F W Aa (Ag F Aa).q fun a w F W => ?_
 refine Ae (Ac ?_)
 obtain ⟨o1, G1, K1⟩ := Ak H
 refine A3 (fun a w => ∃ x1 : List (Int × Int × Int × Int × (Nat × List Int) × Int × Int × Int), ∃ v2 : Value, ∃ g_x1 : {x : List (Int × Int × Int × Int × (Value × Nat × List Int) × Int × Int × Int) // x.map A4 = x1}, some (x1) = some o1 ∧ Fr 108 [] [(2, .slice none 0 0), (3, v2)] a ∧ Stw ⟨Y, [], w0⟩ [] [Au v2 32 AX g_x1.1] w) ?_ ?_
 ·
  have H := G1
  clear G1 K1
  refine Aj (Ad ?_)
  refine ls F W Aa (Ag F Aa).q fun a w F W => ?_
  refine Ae (Ac (AD ?_))
  have W := W.dNil 32 AX
  have h1 : List.map A4 ([] : List (Int × Int × Int × Int × (Value × Nat × List Int) × Int × Int × Int)) = ([] : List (Int × Int × Int × Int × (Nat × List Int) × Int × Int × Int)) := Aa
  refine BN H (fun s a w => ∃ v3 : Value, ∃ g_x2 : {x : List (Int × Int × Int × Int × (Value × Nat × List Int) × Int × Int × Int) // x.map A4 = s.1}, Fr 108 [] [(0, v1), (2, .slice none 0 0), (3, v3), (4, .int .i64 s.2)] a ∧ Stw ⟨Y, [], w0⟩ [] [Au v3 32 AX g_x2.1] w) ⟨(Value.slice none 0 0), ⟨([] : List (Int × Int × Int × Int × (Value × Nat × List Int) × Int × Int × Int)), h1⟩, F.re ⟨rfl, Aa, Aa, Aa, trivial⟩, W⟩ fun s o a w H L2 hR => ?_
  obtain ⟨x2, x3⟩ := s
  obtain ⟨v3, g_x2, F, W⟩ := hR
  have F : Fr 108 [] [(0, v1), (2, .slice none 0 0), (3, v3), (4, .int .i64 x3)] a := F
  have W : Stw ⟨Y, [], w0⟩ [] [Au v3 32 AX g_x2.1] w := W
  rw [CA] at H
  refine Aj (Aj (Ad ?_))
  iterate 2 refine ls F W Aa (Af F Aa).q fun a w F W => ?_
  refine ls F W Aa (BT (r := Gn) (l := p0) HL Aa F Aa (Ax h_v1)).q fun a w F W => ?_
  refine ls F W Aa (Cn F Aa Aa).q fun a w F W => ?_
  refine Ae (Ac ?_)
  refine AB F Aa (fun hb => ?_) fun hb => ?_
  ·
   have H := A0 (Ba hb) H
   rw [hb] at F
   clear hb
   refine Ay (Ac ?_)
   obtain ⟨o3, G3, K3⟩ := Ak H
   refine A3 (fun a w => ∃ x4 : List (Int × Int × Int × Int × (Nat × List Int) × Int × Int × Int), ∃ v4 : Value, ∃ g_x4 : {x : List (Int × Int × Int × Int × (Value × Nat × List Int) × Int × Int × Int) // x.map A4 = x4}, some (x4) = some o3 ∧ Fr 108 [] [(0, v1), (2, .slice none 0 0), (3, v4), (4, .int .i64 x3)] a ∧ Stw ⟨Y, [], w0⟩ [] [Au v4 32 AX g_x4.1] w) ?_ ?_
   ·
    have H := G3
    clear G3 K3
    refine AD (Aj (Ad ?_))
    iterate 2 refine ls F W Aa (Af F Aa).q fun a w F W => ?_
    obtain ⟨x5, h2, H⟩ := Ak H
    refine ls F W Aa (AE (r := Gn) I1 F Aa Aa (Ax h_v1) h2).q fun a w F W => ?_
    refine ls F W Aa (Az (y := Value.agg #[.int .i64 x5.1, .int .i64 x5.2.1, .int .i64 x5.2.2.1, .int .i64 x5.2.2.2.1, .int .i64 x5.2.2.2.2.1, .int .i64 x5.2.2.2.2.2]) (j := 0) (i := x3) F Aa Aa (Ax h_v1) h2 IU.to Ie Aa).q fun a w F W => ?_
    refine CJ (cs := [.int .i64 0, .int .i64 0, .int .i64 0, .int .i64 0, .int .i64 0, .int .i64 0]) F W Aa IY Aa fun b1 a w F W => ?_
    refine Cy (vs := [.int .i64 x5.1, .int .i64 x5.2.1, .int .i64 x5.2.2.1, .int .i64 x5.2.2.2.1, .int .i64 x5.2.2.2.2.1, .int .i64 x5.2.2.2.2.2]) (M' := [(b1, [.int .i64 x5.1, .int .i64 x5.2.1, .int .i64 x5.2.2.1, .int .i64 x5.2.2.2.1, .int .i64 x5.2.2.2.2.1, .int .i64 x5.2.2.2.2.2])]) 0 F W Aa Aa Aa Ie Aa Aa Aa Aa Aa fun w W => ?_
    refine Ae (Ac ?_)
    obtain ⟨o4, G4, K4⟩ := Ak H
    refine A3 (fun a w => ∃ x6 : List (Int × Int × Int × Int × (Nat × List Int) × Int × Int × Int), ∃ v5 : Value, ∃ g_x6 : {x : List (Int × Int × Int × Int × (Value × Nat × List Int) × Int × Int × Int) // x.map A4 = x6}, some (x6) = some o4 ∧ Fr 108 [] [(0, v1), (2, .slice none 0 0), (3, v5), (4, .int .i64 x3), (5, .pointer (some ⟨b1, 0, none⟩))] a ∧ Stw ⟨Y, [], w0⟩ [(b1, [.int .i64 x5.1, .int .i64 x5.2.1, .int .i64 x5.2.2.1, .int .i64 x5.2.2.2.1, .int .i64 x5.2.2.2.2.1, .int .i64 x5.2.2.2.2.2])] [Au v5 32 AX g_x6.1] w) ?_ ?_
    ·
     have H := G4
     clear G4 K4
     refine Aj (Ad ?_)
     refine ls F W Aa (Ab BM Aa Aa Aa T3 F Aa 0 Aa).q fun a w F W => ?_
     refine ls F W Aa (An (v := Value.int .i64 x5.1) 0 F Aa Aa T3 Aa).q fun a w F W => ?_
     refine ls F W Aa (B3 F Aa Aa).q fun a w F W => ?_
     refine Ae (Ac ?_)
     refine AB F Aa (fun hb => ?_) fun hb => ?_
     ·
      have H := A0 (Ba hb) H
      rw [hb] at F
      clear hb
      refine Ad ?_
      refine ls F W Aa (Af F Aa).q fun a w F W => ?_
      refine ls F W Aa (Ab BM Aa Aa Aa T3 F Aa 2 Aa).q fun a w F W => ?_
      refine ls F W Aa (An (v := Value.int .i64 x5.2.2.1) 0 F Aa Aa T3 Aa).q fun a w F W => ?_
      refine ls F W Aa (Ab BM Aa Aa Aa T3 F Aa 4 Aa).q fun a w F W => ?_
      refine ls F W Aa (An (v := Value.int .i64 x5.2.2.2.2.1) 0 F Aa Aa T3 Aa).q fun a w F W => ?_
      refine ls F W Aa (Ab BM Aa Aa Aa T3 F Aa 5 Aa).q fun a w F W => ?_
      refine ls F W Aa (An (v := Value.int .i64 x5.2.2.2.2.2) 0 F Aa Aa T3 Aa).q fun a w F W => ?_
      refine ls F W Aa (Ab BM Aa Aa Aa T3 F Aa 1 Aa).q fun a w F W => ?_
      refine ls F W Aa (An (v := Value.int .i64 x5.2.1) 0 F Aa Aa T3 Aa).q fun a w F W => ?_
      refine ls F W Aa (Ab BM Aa Aa Aa T3 F Aa 1 Aa).q fun a w F W => ?_
      refine ls F W Aa (An (v := Value.int .i64 x5.2.1) 0 F Aa Aa T3 Aa).q fun a w F W => ?_
      refine ls F W Aa (Cw (v := Value.agg #[.int .i64 x5.2.2.1, .int .i64 x5.2.2.2.2.1, .int .i64 x5.2.2.2.2.2, .int .i64 x5.2.1, .slice none 0 0, .int .i64 0, .int .i64 0, .int .i64 x5.2.1]) Jb F Aa Aa Aa).q fun a w F W => ?_
      have W := W.addEmp
      have W := W.addEmp
      have W := W.pairZ (D := (Dp.fl 1 (fun a => [.int .i64 a]) (fun _ => rfl))) (E := (Dp.fl 1 (fun a => [.int .i64 a]) (fun _ => rfl))) (p := 0) (q := x5.2.1)
      have W := W.addEmp
      have W := W.pairZ (D := (Dp.fl 1 (fun a => [.int .i64 a]) (fun _ => rfl))) (E := (Dp.pair (Dp.fl 1 (fun a => [.int .i64 a]) (fun _ => rfl)) (Dp.fl 1 (fun a => [.int .i64 a]) (fun _ => rfl)))) (p := 0) (q := (0, x5.2.1))
      have W := W.nlZ (Nl.sl (e' := 3) (r := (Rp.int .i64)))
      have W := W.pairZ (D := (Dp.sl 3 (Rp.int .i64))) (E := (Dp.pair (Dp.fl 1 (fun a => [.int .i64 a]) (fun _ => rfl)) (Dp.pair (Dp.fl 1 (fun a => [.int .i64 a]) (fun _ => rfl)) (Dp.fl 1 (fun a => [.int .i64 a]) (fun _ => rfl))))) (p := (Value.slice none 0 0, 2, [])) (q := (0, 0, x5.2.1))
      have W := W.addEmp
      have W := W.pairZ (D := (Dp.fl 1 (fun a => [.int .i64 a]) (fun _ => rfl))) (E := (Dp.pair (Dp.sl 3 (Rp.int .i64)) (Dp.pair (Dp.fl 1 (fun a => [.int .i64 a]) (fun _ => rfl)) (Dp.pair (Dp.fl 1 (fun a => [.int .i64 a]) (fun _ => rfl)) (Dp.fl 1 (fun a => [.int .i64 a]) (fun _ => rfl)))))) (p := x5.2.1) (q := ((Value.slice none 0 0, 2, []), 0, 0, x5.2.1))
      have W := W.addEmp
      have W := W.pairZ (D := (Dp.fl 1 (fun a => [.int .i64 a]) (fun _ => rfl))) (E := (Dp.pair (Dp.fl 1 (fun a => [.int .i64 a]) (fun _ => rfl)) (Dp.pair (Dp.sl 3 (Rp.int .i64)) (Dp.pair (Dp.fl 1 (fun a => [.int .i64 a]) (fun _ => rfl)) (Dp.pair (Dp.fl 1 (fun a => [.int .i64 a]) (fun _ => rfl)) (Dp.fl 1 (fun a => [.int .i64 a]) (fun _ => rfl))))))) (p := x5.2.2.2.2.2) (q := (x5.2.1, (Value.slice none 0 0, 2, []), 0, 0, x5.2.1))
      have W := W.addEmp
      have W := W.pairZ (D := (Dp.fl 1 (fun a => [.int .i64 a]) (fun _ => rfl))) (E := (Dp.pair (Dp.fl 1 (fun a => [.int .i64 a]) (fun _ => rfl)) (Dp.pair (Dp.fl 1 (fun a => [.int .i64 a]) (fun _ => rfl)) (Dp.pair (Dp.sl 3 (Rp.int .i64)) (Dp.pair (Dp.fl 1 (fun a => [.int .i64 a]) (fun _ => rfl)) (Dp.pair (Dp.fl 1 (fun a => [.int .i64 a]) (fun _ => rfl)) (Dp.fl 1 (fun a => [.int .i64 a]) (fun _ => rfl)))))))) (p := x5.2.2.2.2.1) (q := (x5.2.2.2.2.2, x5.2.1, (Value.slice none 0 0, 2, []), 0, 0, x5.2.1))
      have W := W.addEmp
      have W := W.pairZ (D := (Dp.fl 1 (fun a => [.int .i64 a]) (fun _ => rfl))) (E := (Dp.pair (Dp.fl 1 (fun a => [.int .i64 a]) (fun _ => rfl)) (Dp.pair (Dp.fl 1 (fun a => [.int .i64 a]) (fun _ => rfl)) (Dp.pair (Dp.fl 1 (fun a => [.int .i64 a]) (fun _ => rfl)) (Dp.pair (Dp.sl 3 (Rp.int .i64)) (Dp.pair (Dp.fl 1 (fun a => [.int .i64 a]) (fun _ => rfl)) (Dp.pair (Dp.fl 1 (fun a => [.int .i64 a]) (fun _ => rfl)) (Dp.fl 1 (fun a => [.int .i64 a]) (fun _ => rfl))))))))) (p := x5.2.2.1) (q := (x5.2.2.2.2.1, x5.2.2.2.2.2, x5.2.1, (Value.slice none 0 0, 2, []), 0, 0, x5.2.1))
      refine Ey (z := Value.agg #[.int .i64 0, .int .i64 0, .int .i64 0, .int .i64 0, .slice none 0 0, .int .i64 0, .int .i64 0, .int .i64 0]) (cs := [.int .i64 x5.2.2.1, .int .i64 x5.2.2.2.2.1, .int .i64 x5.2.2.2.2.2, .int .i64 x5.2.1, .slice none 0 0, .int .i64 0, .int .i64 0, .int .i64 x5.2.1]) AX.hr ([(x5.2.2.1, x5.2.2.2.2.1, x5.2.2.2.2.2, x5.2.1, (Value.slice none 0 0, 2, []), 0, 0, x5.2.1)] : List (Int × Int × Int × Int × (Value × Nat × List Int) × Int × Int × Int)) F W Aa FX Iw Aa Aa Aa (Bn Aa Aa Aa DR) Aa Aa ⟨[Value.int .i64 x5.2.2.1, Value.int .i64 x5.2.2.2.2.1, Value.int .i64 x5.2.2.2.2.2, Value.int .i64 x5.2.1, Value.slice none 0 0, Value.int .i64 0, Value.int .i64 0, Value.int .i64 x5.2.1], _, Aa, ⟨rfl, (Am Aa (Am Aa (Am Aa (Am Aa (Am Aa (Am Aa (Am Aa (Am Aa C0))))))))⟩, Aa⟩ fun v6 a w F W => ?_
      have W := Stw.dShutL (D := AX) (lx := ([(x5.2.2.1, x5.2.2.2.2.1, x5.2.2.2.2.2, x5.2.1, (Value.slice none 0 0, 2, []), 0, 0, x5.2.1)] : List (Int × Int × Int × Int × (Value × Nat × List Int) × Int × Int × Int))) W
      have h3 : List.map A4 ([(x5.2.2.1, x5.2.2.2.2.1, x5.2.2.2.2.2, x5.2.1, (Value.slice none 0 0, 2, []), 0, 0, x5.2.1)] : List (Int × Int × Int × Int × (Value × Nat × List Int) × Int × Int × Int)) = ([(x5.2.2.1, x5.2.2.2.2.1, x5.2.2.2.2.2, x5.2.1, (2, []), 0, 0, x5.2.1)] : List (Int × Int × Int × Int × (Nat × List Int) × Int × Int × Int)) := Aa
      have W : Stw ⟨Y, [], w0⟩ [(b1, [.int .i64 x5.1, .int .i64 x5.2.1, .int .i64 x5.2.2.1, .int .i64 x5.2.2.2.1, .int .i64 x5.2.2.2.2.1, .int .i64 x5.2.2.2.2.2])] [Au v6 32 AX ([(x5.2.2.1, x5.2.2.2.2.1, x5.2.2.2.2.2, x5.2.1, (Value.slice none 0 0, 2, []), 0, 0, x5.2.1)] : List (Int × Int × Int × Int × (Value × Nat × List Int) × Int × Int × Int)), Au v3 32 AX g_x2.1] w := W
      have W := W.frontZ (i := 1) Aa Aa
      obtain ⟨x7, h4, H⟩ := Ak H
      refine Ez (D := AX) F W Aa FX Aa Aa (Fn (er := A4) g_x2.2 h3 h4).1 Aa fun v7 a w F W => ?_
      have h5 : List.map A4 (g_x2.1 ++ ([(x5.2.2.1, x5.2.2.2.2.1, x5.2.2.2.2.2, x5.2.1, (Value.slice none 0 0, 2, []), 0, 0, x5.2.1)] : List (Int × Int × Int × Int × (Value × Nat × List Int) × Int × Int × Int))) = x7 := (Fn (er := A4) g_x2.2 h3 h4).2
      have W : Stw ⟨Y, [], w0⟩ [(b1, [.int .i64 x5.1, .int .i64 x5.2.1, .int .i64 x5.2.2.1, .int .i64 x5.2.2.2.1, .int .i64 x5.2.2.2.2.1, .int .i64 x5.2.2.2.2.2])] [Au v7 32 AX (g_x2.1 ++ ([(x5.2.2.1, x5.2.2.2.2.1, x5.2.2.2.2.2, x5.2.1, (Value.slice none 0 0, 2, []), 0, 0, x5.2.1)] : List (Int × Int × Int × Int × (Value × Nat × List Int) × Int × Int × Int)))] w := W
      refine ls F W Aa (Ag F Aa).q fun a w F W => ?_
      refine Ae (Ac ?_)
      exact ⟨_, (v7), ⟨(g_x2.1 ++ ([(x5.2.2.1, x5.2.2.2.2.1, x5.2.2.2.2.2, x5.2.1, (Value.slice none 0 0, 2, []), 0, 0, x5.2.1)] : List (Int × Int × Int × Int × (Value × Nat × List Int) × Int × Int × Int))), h5⟩, H, F.re ⟨rfl, Aa, Aa, Aa, Aa, trivial⟩, W⟩
     have H := AY (A7 hb) H
     rw [hb] at F
     clear hb
     refine Ay (Ac ?_)
     exact ⟨_, (v3), ⟨g_x2.1, g_x2.2⟩, H, F.re ⟨rfl, Aa, Aa, Aa, Aa, trivial⟩, W⟩
    rintro a w ⟨x6, v5, g_x6, hj, F, W⟩
    have hj := A1 hj
    subst hj
    have H := K4
    clear G4 K4
    refine Aj (Ad ?_)
    refine ls F W Aa (Ag F Aa).q fun a w F W => ?_
    refine Ae (Ac ?_)
    obtain ⟨o5, G5, K5⟩ := Ak H
    refine A3 (fun a w => ∃ x8 : List (Int × Int × Int × Int × (Nat × List Int) × Int × Int × Int), ∃ x9 : Int, ∃ g_x8 : {x : List (Int × Int × Int × Int × (Value × Nat × List Int) × Int × Int × Int) // x.map A4 = x8}, some ((x8, x9)) = some o5 ∧ Fr 108 [] [(0, v1), (2, .slice none 0 0), (3, v5), (4, .int .i64 x3), (5, .pointer (some ⟨b1, 0, none⟩)), (6, .int .i64 x9)] a ∧ Stw ⟨Y, [], w0⟩ [(b1, [.int .i64 x5.1, .int .i64 x5.2.1, .int .i64 x5.2.2.1, .int .i64 x5.2.2.2.1, .int .i64 x5.2.2.2.2.1, .int .i64 x5.2.2.2.2.2])] [Au v5 32 AX g_x8.1] w) ?_ ?_
    ·
     have H := G5
     clear G5 K5
     refine Aj (Ad ?_)
     refine ls F W Aa (Ag F Aa).q fun a w F W => ?_
     refine Ae (Ac (AD ?_))
     refine BN H (fun s a w => ∃ g_x10 : {x : List (Int × Int × Int × Int × (Value × Nat × List Int) × Int × Int × Int) // x.map A4 = s.1}, Fr 108 [] [(0, v1), (2, .slice none 0 0), (3, v5), (4, .int .i64 x3), (5, .pointer (some ⟨b1, 0, none⟩)), (6, .int .i64 s.2.1), (7, .int .i64 s.2.2)] a ∧ Stw ⟨Y, [], w0⟩ [(b1, [.int .i64 x5.1, .int .i64 x5.2.1, .int .i64 x5.2.2.1, .int .i64 x5.2.2.2.1, .int .i64 x5.2.2.2.2.1, .int .i64 x5.2.2.2.2.2])] [Au v5 32 AX g_x10.1] w) ⟨⟨g_x6.1, g_x6.2⟩, F.re ⟨rfl, Aa, Aa, Aa, Aa, Aa, Aa, trivial⟩, W⟩ fun s o a w H L6 hR => ?_
     obtain ⟨x10, x11, x12⟩ := s
     obtain ⟨g_x10, F, W⟩ := hR
     have F : Fr 108 [] [(0, v1), (2, .slice none 0 0), (3, v5), (4, .int .i64 x3), (5, .pointer (some ⟨b1, 0, none⟩)), (6, .int .i64 x11), (7, .int .i64 x12)] a := F
     have W : Stw ⟨Y, [], w0⟩ [(b1, [.int .i64 x5.1, .int .i64 x5.2.1, .int .i64 x5.2.2.1, .int .i64 x5.2.2.2.1, .int .i64 x5.2.2.2.2.1, .int .i64 x5.2.2.2.2.2])] [Au v5 32 AX g_x10.1] w := W
     rw [Cc] at H
     refine Aj (Aj (Ad ?_))
     iterate 2 refine ls F W Aa (Af F Aa).q fun a w F W => ?_
     refine ls F W Aa (Gh (er := A4) g_x10.2 Gx Aa F Aa (Ek.hd (BF 0 Aa))).q fun a w F W => ?_
     refine ls F W Aa (Cn F Aa Aa).q fun a w F W => ?_
     refine Ae (Ac ?_)
     refine AB F Aa (fun hb => ?_) fun hb => ?_
     ·
      have H := A0 (Ba hb) H
      rw [hb] at F
      clear hb
      refine Ay (Ac ?_)
      obtain ⟨o7, G7, K7⟩ := Ak H
      refine A3 (fun a w => ∃ x13 : List (Int × Int × Int × Int × (Nat × List Int) × Int × Int × Int), ∃ x14 : Int, ∃ g_x13 : {x : List (Int × Int × Int × Int × (Value × Nat × List Int) × Int × Int × Int) // x.map A4 = x13}, some ((x13, x14)) = some o7 ∧ Fr 108 [] [(0, v1), (2, .slice none 0 0), (3, v5), (4, .int .i64 x3), (5, .pointer (some ⟨b1, 0, none⟩)), (6, .int .i64 x14), (7, .int .i64 x12)] a ∧ Stw ⟨Y, [], w0⟩ [(b1, [.int .i64 x5.1, .int .i64 x5.2.1, .int .i64 x5.2.2.1, .int .i64 x5.2.2.2.1, .int .i64 x5.2.2.2.2.1, .int .i64 x5.2.2.2.2.2])] [Au v5 32 AX g_x13.1] w) ?_ ?_
      ·
       have H := G7
       clear G7 K7
       refine AD ?_
       obtain ⟨o8, G8, K8⟩ := Ak H
       refine A3 (fun a w => ∃ x15 : List (Int × Int × Int × Int × (Nat × List Int) × Int × Int × Int), ∃ x16 : Bool, ∃ g_x15 : {x : List (Int × Int × Int × Int × (Value × Nat × List Int) × Int × Int × Int) // x.map A4 = x15}, some ((x15, x16)) = some o8 ∧ Fr 108 [] [(0, v1), (2, .slice none 0 0), (3, v5), (4, .int .i64 x3), (5, .pointer (some ⟨b1, 0, none⟩)), (6, .int .i64 x11), (7, .int .i64 x12), (56, .bool x16)] a ∧ Stw ⟨Y, [], w0⟩ [(b1, [.int .i64 x5.1, .int .i64 x5.2.1, .int .i64 x5.2.2.1, .int .i64 x5.2.2.2.1, .int .i64 x5.2.2.2.2.1, .int .i64 x5.2.2.2.2.2])] [Au v5 32 AX g_x15.1] w) ?_ ?_
       ·
        have H := G8
        clear G8 K8
        refine BQ W MO (by kernel_rfl) ?_
        iterate 2 refine qs F Aa (Af F Aa).q fun a F => ?_
        obtain ⟨x17, h6, H⟩ := Ak H
        obtain ⟨v8, h7, h8⟩ := Bh (er := A4) g_x10.2 h6
        refine qs F Aa (AE (r := AX.hr) FX F Aa Aa (Ek.hd (BF 0 Aa)) h7).q fun a F => ?_
        refine qs F Aa (Ab Bv Aa Aa Aa T3 F Aa (BW v5 + (x12).toNat * 8) Aa).q fun a F => ?_
        have h9 : AX.cells v8 = [.int .i64 x17.1, .int .i64 x17.2.1, .int .i64 x17.2.2.1, .int .i64 x17.2.2.2.1, (v8.2.2.2.2.1.1), .int .i64 x17.2.2.2.2.2.1, .int .i64 x17.2.2.2.2.2.2.1, .int .i64 x17.2.2.2.2.2.2.2] := congrArg (fun q : Int × Int × Int × Int × (Nat × List Int) × Int × Int × Int => ([.int .i64 q.1, .int .i64 q.2.1, .int .i64 q.2.2.1, .int .i64 q.2.2.2.1, (v8.2.2.2.2.1.1), .int .i64 q.2.2.2.2.2.1, .int .i64 q.2.2.2.2.2.2.1, .int .i64 q.2.2.2.2.2.2.2] : List Value)) h8
        refine qs F Aa (Az (y := Value.int .i64 x17.1) (j := 0) (i := x12) (enc := AX.cells) F Aa Aa (Ek.hd (BF 0 Aa)) h7 AX.flat T3 (by rw [h9]; rfl)).q fun a F => ?_
        refine qs F Aa (Ab BM Aa Aa Aa T3 F Aa 2 Aa).q fun a F => ?_
        refine qs F Aa (An (v := Value.int .i64 x5.2.2.1) 0 F Aa Aa T3 Aa).q fun a F => ?_
        refine qs F Aa (B3 F Aa Aa).q fun a F => ?_
        refine qs F Aa (Af F Aa).q fun a F => ?_
        rcases Bool.eq_false_or_eq_true (decide (x17.1 = x5.2.2.1)) with hb | hb
        ·
         have H := A0 (Ba hb) H
         rw [hb] at F
         clear hb
         iterate 2 refine Ct F (Ah F Aa Aa Aa Aa) Aa (Aw Aa) (Af F Aa).q fun a F => ?_
         obtain ⟨x18, h10, H⟩ := Ak H
         obtain ⟨v9, h11, h12⟩ := Bh (er := A4) g_x10.2 h10
         refine Ct F (Ah F Aa Aa Aa Aa) Aa (Aw Aa) (AE (r := AX.hr) FX F Aa Aa (Ek.hd (BF 0 Aa)) h11).q fun a F => ?_
         refine Ct F (Ah F Aa Aa Aa Aa) Aa (Aw Aa) (Ab Bv Aa Aa Aa T3 F Aa (BW v5 + (x12).toNat * 8 + 5) Aa).q fun a F => ?_
         have h13 : AX.cells v9 = [.int .i64 x18.1, .int .i64 x18.2.1, .int .i64 x18.2.2.1, .int .i64 x18.2.2.2.1, (v9.2.2.2.2.1.1), .int .i64 x18.2.2.2.2.2.1, .int .i64 x18.2.2.2.2.2.2.1, .int .i64 x18.2.2.2.2.2.2.2] := congrArg (fun q : Int × Int × Int × Int × (Nat × List Int) × Int × Int × Int => ([.int .i64 q.1, .int .i64 q.2.1, .int .i64 q.2.2.1, .int .i64 q.2.2.2.1, (v9.2.2.2.2.1.1), .int .i64 q.2.2.2.2.2.1, .int .i64 q.2.2.2.2.2.2.1, .int .i64 q.2.2.2.2.2.2.2] : List Value)) h12
         refine Ct F (Ah F Aa Aa Aa Aa) Aa (Aw Aa) (Az (y := Value.int .i64 x18.2.2.2.2.2.1) (j := 5) (i := x12) (enc := AX.cells) F Aa Aa (Ek.hd (BF 0 Aa)) h11 AX.flat T3 (by rw [h13]; rfl)).q fun a F => ?_
         refine Ct F (Ah F Aa Aa Aa Aa) Aa (Aw Aa) (B3 F Aa Aa).q fun a F => ?_
         refine qs F Aa (Av F Aa Aa Aa).q fun a F => ?_
         refine A2 fun w W => ?_
         refine Ac ?_
         exact ⟨_, _, ⟨g_x10.1, g_x10.2⟩, H, F.re ⟨rfl, Aa, Aa, Aa, Aa, Aa, Aa, Aa, trivial⟩, W⟩
        have H := AY (A7 hb) H
        rw [hb] at F
        clear hb
        iterate 6 refine En F (Dj F Aa Aa Aa Aa Aa) Aa Aa fun a F => ?_
        refine qs F Aa (AU F Aa Aa Aa).q fun a F => ?_
        refine A2 fun w W => ?_
        refine Ac ?_
        exact ⟨_, _, ⟨g_x10.1, g_x10.2⟩, H, F.re ⟨rfl, Aa, Aa, Aa, Aa, Aa, Aa, Aa, trivial⟩, W⟩
       rintro a w ⟨x15, x16, g_x15, hj, F, W⟩
       have hj := A1 hj
       subst hj
       have H := K8
       clear G8 K8
       refine AB F Aa (fun hb => ?_) fun hb => ?_
       ·
        have H := A0 hb H
        rw [hb] at F
        clear hb
        refine Ad ?_
        refine ls F W Aa (Af F Aa).q fun a w F W => ?_
        refine ls F W Aa (Ag F Aa).q fun a w F W => ?_
        refine Ae (AO (Ac ?_))
        exact ⟨_, _, ⟨g_x15.1, g_x15.2⟩, H, F.re ⟨rfl, Aa, Aa, Aa, Aa, Aa, Aa, trivial⟩, W⟩
       have H := AY (by rw [hb]; decide) H
       rw [hb] at F
       clear hb
       refine Ay (AO (Ac ?_))
       exact ⟨_, _, ⟨g_x15.1, g_x15.2⟩, H, F.re ⟨rfl, Aa, Aa, Aa, Aa, Aa, Aa, trivial⟩, W⟩
      rintro a w ⟨x13, x14, g_x13, hj, F, W⟩
      have hj := A1 hj
      subst hj
      have H := K7
      clear G7 K7
      refine Ad ?_
      refine ls F W Aa (Af F Aa).q fun a w F W => ?_
      refine ls F W Aa (CK F Aa Aa Aa).q fun a w F W => ?_
      refine ls F W Aa (Ag F Aa).q fun a w F W => ?_
      refine Ae (Ac ?_)
      exact ⟨_, H, ⟨g_x13.1, g_x13.2⟩, F.re ⟨rfl, Aa, Aa, Aa, Aa, Aa, Aa, trivial⟩, W⟩
     have H := AY (A7 hb) H
     rw [hb] at F
     clear hb
     refine BC ?_
     iterate 2 refine Cd ?_
     refine BA (Ac ?_)
     have H := L6 _ H
     exact ⟨_, _, ⟨g_x10.1, g_x10.2⟩, H, F.re ⟨rfl, Aa, Aa, Aa, Aa, Aa, trivial⟩, W⟩
    rintro a w ⟨x8, x9, g_x8, hj, F, W⟩
    have hj := A1 hj
    subst hj
    have H := K5
    clear G5 K5
    refine Aj ?_
    refine A3 (fun a w => Fr 108 [] [(0, v1), (2, .slice none 0 0), (3, v5), (4, .int .i64 x3), (5, .pointer (some ⟨b1, 0, none⟩)), (6, .int .i64 x9), (69, .bool (decide (x9 = (-1)) || (decide (x5.1 < 2) || decide (4 < x5.1))))] a ∧ Stw ⟨Y, [], w0⟩ [(b1, [.int .i64 x5.1, .int .i64 x5.2.1, .int .i64 x5.2.2.1, .int .i64 x5.2.2.2.1, .int .i64 x5.2.2.2.2.1, .int .i64 x5.2.2.2.2.2])] [Au v5 32 AX g_x8.1] w) ?_ ?_
    ·
     refine Ad ?_
     refine ls F W Aa (Af F Aa).q fun a w F W => ?_
     refine ls F W Aa (B3 F Aa Aa).q fun a w F W => ?_
     refine ls F W Aa (Af F Aa).q fun a w F W => ?_
     rcases Bool.eq_false_or_eq_true (decide (x9 = (-1))) with hb0 | hb0
     ·
      rw [hb0] at F
      iterate 3 refine C3 F Aa Aa Aa Aa Aa Aa Aa fun a F => ?_
      refine ls F W Aa (Av F Aa Aa Aa).q fun a w F W => ?_
      refine ls F W Aa (Af F Aa).q fun a w F W => ?_
      iterate 3 refine C3 F Aa Aa Aa Aa Aa Aa Aa fun a F => ?_
      refine ls F W Aa (Av F Aa Aa Aa).q fun a w F W => ?_
      refine Ae (Ac ?_)
      exact ⟨F.re ⟨rfl, Aa, Aa, Aa, Aa, Aa, (by show some (Value.bool true) = some (Value.bool (decide (x9 = (-1)) || (decide (x5.1 < 2) || decide (4 < x5.1)))); try rw [hb0]; all_goals simp only [Bool.not_true, Bool.not_false, Bool.true_and, Bool.false_and, Bool.true_or, Bool.false_or, Bool.and_true, Bool.or_false, cond_true, cond_false]), trivial⟩, W⟩
     rw [hb0] at F
     refine AZ F W (Ah F Aa Aa Aa Aa) Aa (Aw Aa) (Ab BM Aa Aa Aa T3 F Aa 0 Aa).q fun a w F W => ?_
     refine AZ F W (Ah F Aa Aa Aa Aa) Aa (Aw Aa) (An (v := Value.int .i64 x5.1) 0 F Aa Aa T3 Aa).q fun a w F W => ?_
     refine AZ F W (Ah F Aa Aa Aa Aa) Aa (Aw Aa) (Cn F Aa Aa).q fun a w F W => ?_
     refine ls F W Aa (AU F Aa Aa Aa).q fun a w F W => ?_
     refine ls F W Aa (Af F Aa).q fun a w F W => ?_
     rcases Bool.eq_false_or_eq_true (decide (x5.1 < 2)) with hb1 | hb1
     ·
      rw [hb1] at F
      iterate 3 refine C3 F Aa Aa Aa Aa Aa Aa Aa fun a F => ?_
      refine ls F W Aa (Av F Aa Aa Aa).q fun a w F W => ?_
      refine Ae (Ac ?_)
      exact ⟨F.re ⟨rfl, Aa, Aa, Aa, Aa, Aa, (by show some (Value.bool true) = some (Value.bool (decide (x9 = (-1)) || (decide (x5.1 < 2) || decide (4 < x5.1)))); try rw [hb0]; try rw [hb1]; all_goals simp only [Bool.not_true, Bool.not_false, Bool.true_and, Bool.false_and, Bool.true_or, Bool.false_or, Bool.and_true, Bool.or_false, cond_true, cond_false]), trivial⟩, W⟩
     rw [hb1] at F
     refine AZ F W (Ah F Aa Aa Aa Aa) Aa (Aw Aa) (Ab BM Aa Aa Aa T3 F Aa 0 Aa).q fun a w F W => ?_
     refine AZ F W (Ah F Aa Aa Aa Aa) Aa (Aw Aa) (An (v := Value.int .i64 x5.1) 0 F Aa Aa T3 Aa).q fun a w F W => ?_
     refine AZ F W (Ah F Aa Aa Aa Aa) Aa (Aw Aa) (GY F Aa Aa).q fun a w F W => ?_
     refine ls F W Aa (AU F Aa Aa Aa).q fun a w F W => ?_
     refine Ae (Ac ?_)
     exact ⟨F.re ⟨rfl, Aa, Aa, Aa, Aa, Aa, (by show some (Value.bool (decide (4 < x5.1))) = some (Value.bool (decide (x9 = (-1)) || (decide (x5.1 < 2) || decide (4 < x5.1)))); try rw [hb0]; try rw [hb1]; all_goals simp only [Bool.not_true, Bool.not_false, Bool.true_and, Bool.false_and, Bool.true_or, Bool.false_or, Bool.and_true, Bool.or_false, cond_true, cond_false]), trivial⟩, W⟩
    rintro a w ⟨F, W⟩
    refine AB F Aa (fun hb => ?_) fun hb => ?_
    ·
     have H := A0 hb H
     rw [hb] at F
     clear hb
     refine BC (Cd (BA (Ac ?_)))
     have W := W.sub (M' := []) (Z' := [Au v5 32 AX g_x8.1]) (List.nil_sublist _) (List.Sublist.refl _)
     exact ⟨_, (v5), ⟨g_x8.1, g_x8.2⟩, H, F.re ⟨rfl, Aa, Aa, Aa, trivial⟩, W⟩
    have H := AY (by rw [hb]; decide) H
    rw [hb] at F
    clear hb
    refine Ay (Ac (Aj (Ad ?_)))
    iterate 2 refine ls F W Aa (Af F Aa).q fun a w F W => ?_
    refine ls F W Aa (Ab BM Aa Aa Aa T3 F Aa 1 Aa).q fun a w F W => ?_
    refine ls F W Aa (An (v := Value.int .i64 x5.2.1) 0 F Aa Aa T3 Aa).q fun a w F W => ?_
    obtain ⟨x19, h14, H⟩ := Ak H
    obtain ⟨v10, h15, h16⟩ := Bh (er := A4) g_x8.2 h14
    refine ls F W Aa (AE (r := AX.hr) FX F Aa Aa (Ek.hd (BF 0 Aa)) h15).q fun a w F W => ?_
    refine ls F W Aa (Ab Bv Aa Aa Aa T3 F Aa (BW v5 + (x9).toNat * 8 + 7) Aa).q fun a w F W => ?_
    obtain ⟨x20, h17, H⟩ := Ak H
    obtain ⟨v11, h18, h19⟩ := Bh (er := A4) g_x8.2 h17
    refine B6 (D := AX) (i := x9) (j := 7) (vs := [.int .i64 x5.2.1]) (x' := (v11.1, v11.2.1, v11.2.2.1, v11.2.2.2.1, v11.2.2.2.2.1, v11.2.2.2.2.2.1, v11.2.2.2.2.2.2.1, x5.2.1)) F W Aa Aa Aa h18 T3 Aa Aa Aa Aa Aa Aa fun w W => ?_
    have h20 : List.map A4 (Ai g_x8.1 x9 (v11.1, v11.2.1, v11.2.2.1, v11.2.2.2.1, v11.2.2.2.2.1, v11.2.2.2.2.2.1, v11.2.2.2.2.2.2.1, x5.2.1)) = (Ai x8 x9 (x20.1, x20.2.1, x20.2.2.1, x20.2.2.2.1, x20.2.2.2.2.1, x20.2.2.2.2.2.1, x20.2.2.2.2.2.2.1, x5.2.1)) := (CQ g_x8.2 (congrArg (fun q : Int × Int × Int × Int × (Nat × List Int) × Int × Int × Int => (q.1, q.2.1, q.2.2.1, q.2.2.2.1, q.2.2.2.2.1, q.2.2.2.2.2.1, q.2.2.2.2.2.2.1, x5.2.1)) h19))
    have W : Stw ⟨Y, [], w0⟩ [(b1, [.int .i64 x5.1, .int .i64 x5.2.1, .int .i64 x5.2.2.1, .int .i64 x5.2.2.2.1, .int .i64 x5.2.2.2.2.1, .int .i64 x5.2.2.2.2.2])] [Au v5 32 AX (Ai g_x8.1 x9 (v11.1, v11.2.1, v11.2.2.1, v11.2.2.2.1, v11.2.2.2.2.1, v11.2.2.2.2.2.1, v11.2.2.2.2.2.2.1, x5.2.1))] w := W
    refine Ae (Ac ?_)
    obtain ⟨o9, G9, K9⟩ := Ak H
    refine A3 (fun a w => ∃ x21 : List (Int × Int × Int × Int × (Nat × List Int) × Int × Int × Int), ∃ g_x21 : {x : List (Int × Int × Int × Int × (Value × Nat × List Int) × Int × Int × Int) // x.map A4 = x21}, some (x21) = some o9 ∧ Fr 108 [] [(0, v1), (2, .slice none 0 0), (3, v5), (4, .int .i64 x3), (5, .pointer (some ⟨b1, 0, none⟩)), (6, .int .i64 x9)] a ∧ Stw ⟨Y, [], w0⟩ [(b1, [.int .i64 x5.1, .int .i64 x5.2.1, .int .i64 x5.2.2.1, .int .i64 x5.2.2.2.1, .int .i64 x5.2.2.2.2.1, .int .i64 x5.2.2.2.2.2])] [Au v5 32 AX g_x21.1] w) ?_ ?_
    ·
     have H := G9
     clear G9 K9
     refine Aj (Ad ?_)
     refine ls F W Aa (Ab BM Aa Aa Aa T3 F Aa 0 Aa).q fun a w F W => ?_
     refine ls F W Aa (An (v := Value.int .i64 x5.1) 0 F Aa Aa T3 Aa).q fun a w F W => ?_
     refine ls F W Aa (B3 F Aa Aa).q fun a w F W => ?_
     refine Ae (Ac ?_)
     refine AB F Aa (fun hb => ?_) fun hb => ?_
     ·
      have H := A0 (Ba hb) H
      rw [hb] at F
      clear hb
      refine DG [(true, 0), (true, 1), (true, 2), (true, 3), (true, 4), (true, 5), (true, 6), (true, 7), (true, 8), (false, 9), (false, 10), (true, 11), (true, 12), (false, 13)] (CN ⟨Y, [], w0⟩ [(some 9, b1, [.int .i64 x5.1, .int .i64 x5.2.1, .int .i64 x5.2.2.1, .int .i64 x5.2.2.2.1, .int .i64 x5.2.2.2.2.1, .int .i64 x5.2.2.2.2.2])] [(some 10, Au v5 32 AX (Ai g_x8.1 x9 (v11.1, v11.2.1, v11.2.2.1, v11.2.2.2.1, v11.2.2.2.2.1, v11.2.2.2.2.2.1, v11.2.2.2.2.2.2.1, x5.2.1)))]) (fun ch a d v w h => by cases d <;> exact h) MO (by kernel_rfl) W (fun w W => ⟨_, _, W, (all_cons (fun _ => (.head _)) As), (all_cons (fun _ => (.head _)) As)⟩) fun w W => ?_
      iterate 4 refine Bm (R := []) F Aa Aa (yC fun M Z hN hZ => Af F Aa) Aa Aa fun a F => ?_
      obtain ⟨x22, h21, H⟩ := Ak H
      obtain ⟨v12, h22, h23⟩ := Bh (er := A4) h20 h21
      refine Bm (R := []) F Aa Aa (yC fun M Z hN hZ => FG (r := AX.hr) FX F Aa Aa (H2 W (Ek.hd (BF 0 Aa))) h22) Aa Aa fun a F => ?_
      refine Bm (R := []) F Aa Aa (yC fun M Z hN hZ => Ab Bv Aa Aa Aa C4 F Aa (BW v5 + (x9).toNat * 8 + 4) Aa) Aa Aa fun a F => ?_
      have h24 : AX.cells v12 = [.int .i64 x22.1, .int .i64 x22.2.1, .int .i64 x22.2.2.1, .int .i64 x22.2.2.2.1, (v12.2.2.2.2.1.1), .int .i64 x22.2.2.2.2.2.1, .int .i64 x22.2.2.2.2.2.2.1, .int .i64 x22.2.2.2.2.2.2.2] := congrArg (fun q : Int × Int × Int × Int × (Nat × List Int) × Int × Int × Int => ([.int .i64 q.1, .int .i64 q.2.1, .int .i64 q.2.2.1, .int .i64 q.2.2.2.1, (v12.2.2.2.2.1.1), .int .i64 q.2.2.2.2.2.1, .int .i64 q.2.2.2.2.2.2.1, .int .i64 q.2.2.2.2.2.2.2] : List Value)) h23
      refine Bm (R := [10]) F Aa Aa (yC fun M Z hN hZ => Az (y := (v12.2.2.2.2.1.1)) (j := 4) (i := x9) (enc := AX.cells) F Aa Aa (Ek.hd (Ib (hZ ((some 10), Au v5 32 AX (Ai g_x8.1 x9 (v11.1, v11.2.1, v11.2.2.1, v11.2.2.2.1, v11.2.2.2.2.1, v11.2.2.2.2.2.1, v11.2.2.2.2.2.2.1, x5.2.1))) (.head _) Aa))) h22 AX.flat C4 (by rw [h24]; rfl)) (by kernel_rfl) Aa fun a F => ?_
      refine Bm (R := []) F Aa Aa (yC fun M Z hN hZ => Ab BM Aa Aa Aa T3 F Aa 3 Aa) Aa Aa fun a F => ?_
      refine Bm (R := [9]) F Aa Aa (yC fun M Z hN hZ => BJ (cs := [.int .i64 x5.1, .int .i64 x5.2.1, .int .i64 x5.2.2.1, .int .i64 x5.2.2.2.1, .int .i64 x5.2.2.2.2.1, .int .i64 x5.2.2.2.2.2]) (v := Value.int .i64 x5.2.2.2.1) F Aa (hN ((some 9), b1, [.int .i64 x5.1, .int .i64 x5.2.1, .int .i64 x5.2.2.1, .int .i64 x5.2.2.2.1, .int .i64 x5.2.2.2.2.1, .int .i64 x5.2.2.2.2.2]) (.head _) Aa) T3 Aa) (by kernel_rfl) Aa fun a F => ?_
      refine DZ Aa ?_
      refine Ey (z := Value.int .i64 0) (cs := [.int .i64 x5.2.2.2.1]) (Rp.int .i64) ([x5.2.2.2.1] : List Int) F W Aa Gg Z3 Aa Aa Aa Aa Aa Aa (Fl.int.repL _ _ ([x5.2.2.2.1] : List Int)) fun v13 a w F W => ?_
      refine BD (N2 := []) (NZ2 := []) (N3 := [(some 9, b1, [.int .i64 x5.1, .int .i64 x5.2.1, .int .i64 x5.2.2.1, .int .i64 x5.2.2.2.1, .int .i64 x5.2.2.2.2.1, .int .i64 x5.2.2.2.2.2])]) (NZ3 := [(some 10, Au v5 32 AX (Ai g_x8.1 x9 (v11.1, v11.2.1, v11.2.2.1, v11.2.2.2.1, v11.2.2.2.2.1, v11.2.2.2.2.2.1, v11.2.2.2.2.2.2.1, x5.2.1)))]) W Aa Aa (all_cons (fun h => AH (by kernel_rfl) h) As) (all_cons (fun _ => (.tail _ (.head _))) As) ?_
      refine DZ Aa ?_
      obtain ⟨x23, h25, H⟩ := Ak H
      have W := W.frontZ (i := 1) Aa Aa
      have W := W.dTakeR h22 (Foc.snd (Foc.snd (Foc.snd (Foc.snd (Foc.fst Foc.here))))) ((congrArg (fun q : Int × Int × Int × Int × (Nat × List Int) × Int × Int × Int => q.2.2.2.2.1) h23).trans (Prod.ext (Gm h25) Aa))
      have h26 : List.map A4 (Ai (Ai g_x8.1 x9 (v11.1, v11.2.1, v11.2.2.1, v11.2.2.2.1, v11.2.2.2.2.1, v11.2.2.2.2.2.1, v11.2.2.2.2.2.2.1, x5.2.1)) x9 (v12.1, v12.2.1, v12.2.2.1, v12.2.2.2.1, ((v12.2.2.2.2.1.1), 0, []), v12.2.2.2.2.2.1, v12.2.2.2.2.2.2.1, v12.2.2.2.2.2.2.2)) = (Ai (Ai x8 x9 (x20.1, x20.2.1, x20.2.2.1, x20.2.2.2.1, x20.2.2.2.2.1, x20.2.2.2.2.2.1, x20.2.2.2.2.2.2.1, x5.2.1)) x9 (x22.1, x22.2.1, x22.2.2.1, x22.2.2.2.1, (0, []), x22.2.2.2.2.2.1, x22.2.2.2.2.2.2.1, x22.2.2.2.2.2.2.2)) := (CQ h20 (congrArg (fun q : Int × Int × Int × Int × (Nat × List Int) × Int × Int × Int => (q.1, q.2.1, q.2.2.1, q.2.2.2.1, (0, []), q.2.2.2.2.2.1, q.2.2.2.2.2.2.1, q.2.2.2.2.2.2.2)) h23))
      have W : Stw ⟨Y, [], w0⟩ [(b1, [.int .i64 x5.1, .int .i64 x5.2.1, .int .i64 x5.2.2.1, .int .i64 x5.2.2.2.1, .int .i64 x5.2.2.2.2.1, .int .i64 x5.2.2.2.2.2])] [row (v12.2.2.2.2.1.1) 3 (Rp.int .i64) x22.2.2.2.2.1.2, Au v5 32 AX (Ai (Ai g_x8.1 x9 (v11.1, v11.2.1, v11.2.2.1, v11.2.2.2.1, v11.2.2.2.2.1, v11.2.2.2.2.2.1, v11.2.2.2.2.2.2.1, x5.2.1)) x9 (v12.1, v12.2.1, v12.2.2.1, v12.2.2.2.1, ((v12.2.2.2.2.1.1), 0, []), v12.2.2.2.2.2.1, v12.2.2.2.2.2.2.1, v12.2.2.2.2.2.2.2)), row v13 3 (Rp.int .i64) ([x5.2.2.2.1] : List Int)] w := W
      obtain ⟨x24, h27, H⟩ := Ak H
      refine Dl (r := (Rp.int .i64)) (i := 0) F W Aa Gg Aa Aa Aa Aa (DO W 2 Aa) h27 Aa fun v14 a w F W => ?_
      have W : Stw ⟨Y, [], w0⟩ [(b1, [.int .i64 x5.1, .int .i64 x5.2.1, .int .i64 x5.2.2.1, .int .i64 x5.2.2.2.1, .int .i64 x5.2.2.2.2.1, .int .i64 x5.2.2.2.2.2])] [row v14 3 (Rp.int .i64) x24, Au v5 32 AX (Ai (Ai g_x8.1 x9 (v11.1, v11.2.1, v11.2.2.1, v11.2.2.2.1, v11.2.2.2.2.1, v11.2.2.2.2.2.1, v11.2.2.2.2.2.2.1, x5.2.1)) x9 (v12.1, v12.2.1, v12.2.2.1, v12.2.2.2.1, ((v12.2.2.2.2.1.1), 0, []), v12.2.2.2.2.2.1, v12.2.2.2.2.2.2.1, v12.2.2.2.2.2.2.2)), row v13 3 (Rp.int .i64) ([x5.2.2.2.1] : List Int)] w := W
      refine BD (N2 := []) (NZ2 := []) (N3 := [(some 9, b1, [.int .i64 x5.1, .int .i64 x5.2.1, .int .i64 x5.2.2.1, .int .i64 x5.2.2.2.1, .int .i64 x5.2.2.2.2.1, .int .i64 x5.2.2.2.2.2])]) (NZ3 := [(some 10, Au v5 32 AX (Ai g_x8.1 x9 (v11.1, v11.2.1, v11.2.2.1, v11.2.2.2.1, v11.2.2.2.2.1, v11.2.2.2.2.2.1, v11.2.2.2.2.2.2.1, x5.2.1)))]) W Aa Aa (all_cons (fun h => AH (by kernel_rfl) h) As) (all_cons (fun h => AH (by kernel_rfl) h) As) ?_
      obtain ⟨x25, h28, H⟩ := Ak H
      obtain ⟨v15, h29, h30⟩ := Bh (er := A4) h26 h28
      refine Bm (R := []) F Aa Aa (yC fun M Z hN hZ => FG (r := AX.hr) FX F Aa Aa (H2 W (Ek.hd (BF 1 Aa))) h29) Aa Aa fun a F => ?_
      refine Bm (R := []) F Aa Aa (yC fun M Z hN hZ => Ab Bv Aa Aa Aa C4 F Aa (BW v5 + (x9).toNat * 8 + 4) Aa) Aa Aa fun a F => ?_
      refine DZ Aa ?_
      obtain ⟨x26, h31, H⟩ := Ak H
      obtain ⟨v16, h32, h33⟩ := Bh (er := A4) h26 h31
      have h34 : Value.oneCell' v14 = true := (W.one (k := 0) Aa)
      have W := W.frontZ (i := 1) Aa Aa
      have W := W.frontZ (i := 1) Aa Aa
      have W := W.toR
      refine EL (D := AX) (S := (Dp.sl 3 (Rp.int .i64))) (b := (v14, 2, x24)) (i := x9) (j := 4) (Foc.snd (Foc.snd (Foc.snd (Foc.snd (Foc.fst Foc.here))))) F W Aa Aa Aa h32 C4 (Dq h34) Aa h34 Aa fun w W => ?_
      have h35 : List.map A4 (Ai (Ai (Ai g_x8.1 x9 (v11.1, v11.2.1, v11.2.2.1, v11.2.2.2.1, v11.2.2.2.2.1, v11.2.2.2.2.2.1, v11.2.2.2.2.2.2.1, x5.2.1)) x9 (v12.1, v12.2.1, v12.2.2.1, v12.2.2.2.1, ((v12.2.2.2.2.1.1), 0, []), v12.2.2.2.2.2.1, v12.2.2.2.2.2.2.1, v12.2.2.2.2.2.2.2)) x9 (v16.1, v16.2.1, v16.2.2.1, v16.2.2.2.1, (v14, 2, x24), v16.2.2.2.2.2.1, v16.2.2.2.2.2.2.1, v16.2.2.2.2.2.2.2)) = (Ai (Ai (Ai x8 x9 (x20.1, x20.2.1, x20.2.2.1, x20.2.2.2.1, x20.2.2.2.2.1, x20.2.2.2.2.2.1, x20.2.2.2.2.2.2.1, x5.2.1)) x9 (x22.1, x22.2.1, x22.2.2.1, x22.2.2.2.1, (0, []), x22.2.2.2.2.2.1, x22.2.2.2.2.2.2.1, x22.2.2.2.2.2.2.2)) x9 (x26.1, x26.2.1, x26.2.2.1, x26.2.2.2.1, (2, x24), x26.2.2.2.2.2.1, x26.2.2.2.2.2.2.1, x26.2.2.2.2.2.2.2)) := (CQ h26 (congrArg (fun q : Int × Int × Int × Int × (Nat × List Int) × Int × Int × Int => (q.1, q.2.1, q.2.2.1, q.2.2.2.1, (2, x24), q.2.2.2.2.2.1, q.2.2.2.2.2.2.1, q.2.2.2.2.2.2.2)) h33))
      have W : Stw ⟨Y, [], w0⟩ [(b1, [.int .i64 x5.1, .int .i64 x5.2.1, .int .i64 x5.2.2.1, .int .i64 x5.2.2.2.1, .int .i64 x5.2.2.2.2.1, .int .i64 x5.2.2.2.2.2])] [Au v5 32 AX (Ai (Ai (Ai g_x8.1 x9 (v11.1, v11.2.1, v11.2.2.1, v11.2.2.2.1, v11.2.2.2.2.1, v11.2.2.2.2.2.1, v11.2.2.2.2.2.2.1, x5.2.1)) x9 (v12.1, v12.2.1, v12.2.2.1, v12.2.2.2.1, ((v12.2.2.2.2.1.1), 0, []), v12.2.2.2.2.2.1, v12.2.2.2.2.2.2.1, v12.2.2.2.2.2.2.2)) x9 (v16.1, v16.2.1, v16.2.2.1, v16.2.2.2.1, (v14, 2, x24), v16.2.2.2.2.2.1, v16.2.2.2.2.2.2.1, v16.2.2.2.2.2.2.2)), row v13 3 (Rp.int .i64) ([x5.2.2.2.1] : List Int)] w := W
      refine BD (N2 := []) (NZ2 := []) (N3 := [(some 9, b1, [.int .i64 x5.1, .int .i64 x5.2.1, .int .i64 x5.2.2.1, .int .i64 x5.2.2.2.1, .int .i64 x5.2.2.2.2.1, .int .i64 x5.2.2.2.2.2])]) (NZ3 := [(some 10, Au v5 32 AX (Ai g_x8.1 x9 (v11.1, v11.2.1, v11.2.2.1, v11.2.2.2.1, v11.2.2.2.2.1, v11.2.2.2.2.2.1, v11.2.2.2.2.2.2.1, x5.2.1)))]) W Aa Aa (all_cons (fun h => AH (by kernel_rfl) h) As) (all_cons (fun h => AH (by kernel_rfl) h) As) ?_
      refine Fi (Ac ?_)
      have W := W.sub (M' := [(b1, [.int .i64 x5.1, .int .i64 x5.2.1, .int .i64 x5.2.2.1, .int .i64 x5.2.2.2.1, .int .i64 x5.2.2.2.2.1, .int .i64 x5.2.2.2.2.2])]) (Z' := [Au v5 32 AX (Ai (Ai (Ai g_x8.1 x9 (v11.1, v11.2.1, v11.2.2.1, v11.2.2.2.1, v11.2.2.2.2.1, v11.2.2.2.2.2.1, v11.2.2.2.2.2.2.1, x5.2.1)) x9 (v12.1, v12.2.1, v12.2.2.1, v12.2.2.2.1, ((v12.2.2.2.2.1.1), 0, []), v12.2.2.2.2.2.1, v12.2.2.2.2.2.2.1, v12.2.2.2.2.2.2.2)) x9 (v16.1, v16.2.1, v16.2.2.1, v16.2.2.2.1, (v14, 2, x24), v16.2.2.2.2.2.1, v16.2.2.2.2.2.2.1, v16.2.2.2.2.2.2.2))]) (List.Sublist.refl _) (List.Sublist.cons_cons _ (List.nil_sublist _))
      exact ⟨_, ⟨(Ai (Ai (Ai g_x8.1 x9 (v11.1, v11.2.1, v11.2.2.1, v11.2.2.2.1, v11.2.2.2.2.1, v11.2.2.2.2.2.1, v11.2.2.2.2.2.2.1, x5.2.1)) x9 (v12.1, v12.2.1, v12.2.2.1, v12.2.2.2.1, ((v12.2.2.2.2.1.1), 0, []), v12.2.2.2.2.2.1, v12.2.2.2.2.2.2.1, v12.2.2.2.2.2.2.2)) x9 (v16.1, v16.2.1, v16.2.2.1, v16.2.2.2.1, (v14, 2, x24), v16.2.2.2.2.2.1, v16.2.2.2.2.2.2.1, v16.2.2.2.2.2.2.2)), h35⟩, H, F.re ⟨rfl, Aa, Aa, Aa, Aa, Aa, trivial⟩, W⟩
     have H := AY (A7 hb) H
     rw [hb] at F
     clear hb
     refine Ad ?_
     iterate 2 refine ls F W Aa (Af F Aa).q fun a w F W => ?_
     refine ls F W Aa (Ab BM Aa Aa Aa T3 F Aa 0 Aa).q fun a w F W => ?_
     refine ls F W Aa (An (v := Value.int .i64 x5.1) 0 F Aa Aa T3 Aa).q fun a w F W => ?_
     obtain ⟨x27, h36, H⟩ := Ak H
     obtain ⟨v17, h37, h38⟩ := Bh (er := A4) h20 h36
     refine ls F W Aa (AE (r := AX.hr) FX F Aa Aa (Ek.hd (BF 0 Aa)) h37).q fun a w F W => ?_
     refine ls F W Aa (Ab Bv Aa Aa Aa T3 F Aa (BW v5 + (x9).toNat * 8 + 5) Aa).q fun a w F W => ?_
     obtain ⟨x28, h39, H⟩ := Ak H
     obtain ⟨v18, h40, h41⟩ := Bh (er := A4) h20 h39
     refine B6 (D := AX) (i := x9) (j := 5) (vs := [.int .i64 x5.1]) (x' := (v18.1, v18.2.1, v18.2.2.1, v18.2.2.2.1, v18.2.2.2.2.1, x5.1, v18.2.2.2.2.2.2.1, v18.2.2.2.2.2.2.2)) F W Aa Aa Aa h40 T3 Aa Aa Aa Aa Aa Aa fun w W => ?_
     have h42 : List.map A4 (Ai (Ai g_x8.1 x9 (v11.1, v11.2.1, v11.2.2.1, v11.2.2.2.1, v11.2.2.2.2.1, v11.2.2.2.2.2.1, v11.2.2.2.2.2.2.1, x5.2.1)) x9 (v18.1, v18.2.1, v18.2.2.1, v18.2.2.2.1, v18.2.2.2.2.1, x5.1, v18.2.2.2.2.2.2.1, v18.2.2.2.2.2.2.2)) = (Ai (Ai x8 x9 (x20.1, x20.2.1, x20.2.2.1, x20.2.2.2.1, x20.2.2.2.2.1, x20.2.2.2.2.2.1, x20.2.2.2.2.2.2.1, x5.2.1)) x9 (x28.1, x28.2.1, x28.2.2.1, x28.2.2.2.1, x28.2.2.2.2.1, x5.1, x28.2.2.2.2.2.2.1, x28.2.2.2.2.2.2.2)) := (CQ h20 (congrArg (fun q : Int × Int × Int × Int × (Nat × List Int) × Int × Int × Int => (q.1, q.2.1, q.2.2.1, q.2.2.2.1, q.2.2.2.2.1, x5.1, q.2.2.2.2.2.2.1, q.2.2.2.2.2.2.2)) h41))
     have W : Stw ⟨Y, [], w0⟩ [(b1, [.int .i64 x5.1, .int .i64 x5.2.1, .int .i64 x5.2.2.1, .int .i64 x5.2.2.2.1, .int .i64 x5.2.2.2.2.1, .int .i64 x5.2.2.2.2.2])] [Au v5 32 AX (Ai (Ai g_x8.1 x9 (v11.1, v11.2.1, v11.2.2.1, v11.2.2.2.1, v11.2.2.2.2.1, v11.2.2.2.2.2.1, v11.2.2.2.2.2.2.1, x5.2.1)) x9 (v18.1, v18.2.1, v18.2.2.1, v18.2.2.2.1, v18.2.2.2.2.1, x5.1, v18.2.2.2.2.2.2.1, v18.2.2.2.2.2.2.2))] w := W
     refine Ae (Ac ?_)
     exact ⟨_, ⟨(Ai (Ai g_x8.1 x9 (v11.1, v11.2.1, v11.2.2.1, v11.2.2.2.1, v11.2.2.2.2.1, v11.2.2.2.2.2.1, v11.2.2.2.2.2.2.1, x5.2.1)) x9 (v18.1, v18.2.1, v18.2.2.1, v18.2.2.2.1, v18.2.2.2.2.1, x5.1, v18.2.2.2.2.2.2.1, v18.2.2.2.2.2.2.2)), h42⟩, H, F.re ⟨rfl, Aa, Aa, Aa, Aa, Aa, trivial⟩, W⟩
    rintro a w ⟨x21, g_x21, hj, F, W⟩
    have hj := A1 hj
    subst hj
    have H := K9
    clear G9 K9
    refine Aj (Ad ?_)
    refine ls F W Aa (Ab BM Aa Aa Aa T3 F Aa 0 Aa).q fun a w F W => ?_
    refine ls F W Aa (An (v := Value.int .i64 x5.1) 0 F Aa Aa T3 Aa).q fun a w F W => ?_
    refine ls F W Aa (B3 F Aa Aa).q fun a w F W => ?_
    refine Ae (Ac ?_)
    refine AB F Aa (fun hb => ?_) fun hb => ?_
    ·
     have H := A0 (Ba hb) H
     rw [hb] at F
     clear hb
     refine Ad ?_
     iterate 2 refine ls F W Aa (Af F Aa).q fun a w F W => ?_
     refine ls F W Aa (Ab BM Aa Aa Aa T3 F Aa 4 Aa).q fun a w F W => ?_
     refine ls F W Aa (An (v := Value.int .i64 x5.2.2.2.2.1) 0 F Aa Aa T3 Aa).q fun a w F W => ?_
     obtain ⟨x29, h43, H⟩ := Ak H
     obtain ⟨v19, h44, h45⟩ := Bh (er := A4) g_x21.2 h43
     refine ls F W Aa (AE (r := AX.hr) FX F Aa Aa (Ek.hd (BF 0 Aa)) h44).q fun a w F W => ?_
     refine ls F W Aa (Ab Bv Aa Aa Aa T3 F Aa (BW v5 + (x9).toNat * 8 + 6) Aa).q fun a w F W => ?_
     obtain ⟨x30, h46, H⟩ := Ak H
     obtain ⟨v20, h47, h48⟩ := Bh (er := A4) g_x21.2 h46
     refine B6 (D := AX) (i := x9) (j := 6) (vs := [.int .i64 x5.2.2.2.2.1]) (x' := (v20.1, v20.2.1, v20.2.2.1, v20.2.2.2.1, v20.2.2.2.2.1, v20.2.2.2.2.2.1, x5.2.2.2.2.1, v20.2.2.2.2.2.2.2)) F W Aa Aa Aa h47 T3 Aa Aa Aa Aa Aa Aa fun w W => ?_
     have h49 : List.map A4 (Ai g_x21.1 x9 (v20.1, v20.2.1, v20.2.2.1, v20.2.2.2.1, v20.2.2.2.2.1, v20.2.2.2.2.2.1, x5.2.2.2.2.1, v20.2.2.2.2.2.2.2)) = (Ai x21 x9 (x30.1, x30.2.1, x30.2.2.1, x30.2.2.2.1, x30.2.2.2.2.1, x30.2.2.2.2.2.1, x5.2.2.2.2.1, x30.2.2.2.2.2.2.2)) := (CQ g_x21.2 (congrArg (fun q : Int × Int × Int × Int × (Nat × List Int) × Int × Int × Int => (q.1, q.2.1, q.2.2.1, q.2.2.2.1, q.2.2.2.2.1, q.2.2.2.2.2.1, x5.2.2.2.2.1, q.2.2.2.2.2.2.2)) h48))
     have W : Stw ⟨Y, [], w0⟩ [(b1, [.int .i64 x5.1, .int .i64 x5.2.1, .int .i64 x5.2.2.1, .int .i64 x5.2.2.2.1, .int .i64 x5.2.2.2.2.1, .int .i64 x5.2.2.2.2.2])] [Au v5 32 AX (Ai g_x21.1 x9 (v20.1, v20.2.1, v20.2.2.1, v20.2.2.2.1, v20.2.2.2.2.1, v20.2.2.2.2.2.1, x5.2.2.2.2.1, v20.2.2.2.2.2.2.2))] w := W
     refine Ae (AO (Ac ?_))
     have W := W.sub (M' := []) (Z' := [Au v5 32 AX (Ai g_x21.1 x9 (v20.1, v20.2.1, v20.2.2.1, v20.2.2.2.1, v20.2.2.2.2.1, v20.2.2.2.2.2.1, x5.2.2.2.2.1, v20.2.2.2.2.2.2.2))]) (List.nil_sublist _) (List.Sublist.refl _)
     exact ⟨_, (v5), ⟨(Ai g_x21.1 x9 (v20.1, v20.2.1, v20.2.2.1, v20.2.2.2.1, v20.2.2.2.2.1, v20.2.2.2.2.2.1, x5.2.2.2.2.1, v20.2.2.2.2.2.2.2)), h49⟩, H, F.re ⟨rfl, Aa, Aa, Aa, trivial⟩, W⟩
    have H := AY (A7 hb) H
    rw [hb] at F
    clear hb
    refine Ay (AO (Ac ?_))
    have W := W.sub (M' := []) (Z' := [Au v5 32 AX g_x21.1]) (List.nil_sublist _) (List.Sublist.refl _)
    exact ⟨_, (v5), ⟨g_x21.1, g_x21.2⟩, H, F.re ⟨rfl, Aa, Aa, Aa, trivial⟩, W⟩
   rintro a w ⟨x4, v4, g_x4, hj, F, W⟩
   have hj := A1 hj
   subst hj
   have H := K3
   clear G3 K3
   refine Ad ?_
   refine ls F W Aa (Af F Aa).q fun a w F W => ?_
   refine ls F W Aa (CK F Aa Aa Aa).q fun a w F W => ?_
   refine ls F W Aa (Ag F Aa).q fun a w F W => ?_
   refine Ae (Ac ?_)
   exact ⟨_, H, (v4), ⟨g_x4.1, g_x4.2⟩, F.re ⟨rfl, Aa, Aa, Aa, trivial⟩, W⟩
  have H := AY (A7 hb) H
  rw [hb] at F
  clear hb
  refine BC ?_
  iterate 2 refine Cd ?_
  refine BA (Ac ?_)
  have H := L2 _ H
  exact ⟨_, (v3), ⟨g_x2.1, g_x2.2⟩, H, F.re ⟨rfl, Aa, trivial⟩, W⟩
 rintro a w ⟨x1, v2, g_x1, hj, F, W⟩
 have hj := A1 hj
 subst hj
 have H := K1
 clear G1 K1
 refine Aj (Ad ?_)
 refine ls F W Aa (Af F Aa).q fun a w F W => ?_
 refine ls F W Aa (Ag F Aa).q fun a w F W => ?_
 refine Ae (Ac (AJ ?_))
 obtain ⟨x31, h50, H⟩ := Ak H
 have H := A1 H
 subst H
 refine A9 (.inl Aa) F W Aa (AM F Aa) ?_
 have W := Stw.ddRest I5 g_x1.2 h50 W
 exact ⟨(v2), Aa, W⟩
theorem H7 : Has Tryd.prog 7 := ⟨fun args w => Ap Tryd.func7 rfl (by decide) args w⟩
abbrev Ge : Rp (Int × Int × Int × Int × (Value × List Int) × Int × Int × Int) := (Rp.pair (Rp.int .i64) (Rp.pair (Rp.int .i64) (Rp.pair (Rp.int .i64) (Rp.pair (Rp.int .i64) (Rp.pair (Rp.vsl (Rp.int .i64)) (Rp.pair (Rp.int .i64) (Rp.pair (Rp.int .i64) (Rp.int .i64))))))))
abbrev I3 (p : Int × Int × Int × Int × (Value × List Int) × Int × Int × Int) : Int × Int × Int × Int × List Int × Int × Int × Int := (p.1, p.2.1, p.2.2.1, p.2.2.2.1, p.2.2.2.2.1.2, p.2.2.2.2.2.1, p.2.2.2.2.2.2.1, p.2.2.2.2.2.2.2)
theorem DJ : Ex Db Ge I3 := (Ex.pair Ex.rfl' (Ex.pair Ex.rfl' (Ex.pair Ex.rfl' (Ex.pair Ex.rfl' (Ex.pair Ex.sliceF (Ex.pair Ex.rfl' (Ex.pair Ex.rfl' Ex.rfl')))))))
noncomputable def BK (p0 : List (Int × Int × Int × Int × List Int × Int × Int × Int)) : ((List (Int × Int × Int × Int × List Int × Int × Int × Int)) × Int) → Option (((List (Int × Int × Int × Int × List Int × Int × Int × Int)) × Int) ⊕ (List (Int × Int × Int × Int × List Int × Int × Int × Int)))
  | (x2, x3) => (if x3 < (p0.length : Int) then (ix p0 x3).bind fun x4 => (BV x2 ([x4] : List (Int × Int × Int × Int × List Int × Int × Int × Int))).bind fun x5 => some (.inl (x5, CV (x3 + 1))) else some (.inr x2))
noncomputable def CB (p0 : List (Int × Int × Int × Int × List Int × Int × Int × Int)) : Option (List (Int × Int × Int × Int × List Int × Int × Int × Int)) := (AP (BK p0) ([], 0)).bind fun x1 => some x1
theorem Fk (Y : Nat → Prop) (w0 : World) (v1 : Value) (p0 : List (Int × Int × Int × Int × List Int × Int × Int × Int)) (r : (List (Int × Int × Int × Int × List Int × Int × Int × Int))) (H : CB p0 = some r) (s_v1 : Sl w0 Y Ed v1 p0) :
    Calls Tryd.prog 9 #[v1] w0 fun e w' => ∃ x : Value, e = .returned (x) ∧ Stw ⟨Y, [], w0⟩ [] [row (x) 32 Db r] w' := by
 refine enter Tryd.func9 Aa Tryd.ntmps9 Aa fun a F => ?_
 have W := Stw.start Y w0
 obtain ⟨v2, h1, s_v1⟩ := s_v1.ex Er
 have h_v1 := W.nx s_v1
 unfold CB at H
 refine Aj (Ad ?_)
 refine ls F W Aa (Ag F Aa).q fun a w F W => ?_
 refine Ae (Ac (Aj (Ad ?_)))
 refine ls F W Aa (Ag F Aa).q fun a w F W => ?_
 refine Ae (Ac ?_)
 obtain ⟨o1, G1, K1⟩ := Ak H
 refine A3 (fun a w => ∃ x1 : List (Int × Int × Int × Int × List Int × Int × Int × Int), ∃ v3 : Value, some (x1) = some o1 ∧ Fr 37 [] [(2, .slice none 0 0), (3, v3)] a ∧ Stw ⟨Y, [], w0⟩ [] [row v3 32 Db x1] w) ?_ ?_
 ·
  have H := G1
  clear G1 K1
  refine Aj (Ad ?_)
  refine ls F W Aa (Ag F Aa).q fun a w F W => ?_
  refine Ae (Ac (AD ?_))
  have W := W.nilRow 32 Db
  refine BN H (fun s a w => ∃ v4 : Value, Fr 37 [] [(0, v1), (2, .slice none 0 0), (3, v4), (4, .int .i64 s.2)] a ∧ Stw ⟨Y, [], w0⟩ [] [row v4 32 Db s.1] w) ⟨(Value.slice none 0 0), F.re ⟨rfl, Aa, Aa, Aa, trivial⟩, W⟩ fun s o a w H L2 hR => ?_
  obtain ⟨x2, x3⟩ := s
  obtain ⟨v4, F, W⟩ := hR
  have F : Fr 37 [] [(0, v1), (2, .slice none 0 0), (3, v4), (4, .int .i64 x3)] a := F
  have W : Stw ⟨Y, [], w0⟩ [] [row v4 32 Db x2] w := W
  rw [BK] at H
  refine Aj (Aj (Ad ?_))
  iterate 2 refine ls F W Aa (Af F Aa).q fun a w F W => ?_
  refine ls F W Aa (BT (r := Ed) (l := p0) HU Aa F Aa (C7 Er h1 (Ax h_v1))).q fun a w F W => ?_
  refine ls F W Aa (Cn F Aa Aa).q fun a w F W => ?_
  refine Ae (Ac ?_)
  refine AB F Aa (fun hb => ?_) fun hb => ?_
  ·
   have H := A0 (Ba hb) H
   rw [hb] at F
   clear hb
   refine Ay (Ac (Aj (AD (Aj ?_))))
   obtain ⟨v5, h2, W⟩ := W.exR DJ
   refine Ad ?_
   iterate 2 refine ls F W Aa (Af F Aa).q fun a w F W => ?_
   obtain ⟨x4, h3, H⟩ := Ak H
   obtain ⟨v6, h4, h5⟩ := Bh h1 h3
   have h6 : DD v6 = [.int .i64 x4.1, .int .i64 x4.2.1, .int .i64 x4.2.2.1, .int .i64 x4.2.2.2.1, (v6.2.2.2.2.1.1), .int .i64 x4.2.2.2.2.2.1, .int .i64 x4.2.2.2.2.2.2.1, .int .i64 x4.2.2.2.2.2.2.2] := congrArg (fun q : Int × Int × Int × Int × List Int × Int × Int × Int => ([.int .i64 q.1, .int .i64 q.2.1, .int .i64 q.2.2.1, .int .i64 q.2.2.2.1, (v6.2.2.2.2.1.1), .int .i64 q.2.2.2.2.2.1, .int .i64 q.2.2.2.2.2.2.1, .int .i64 q.2.2.2.2.2.2.2] : List Value)) h5
   refine ls F W Aa (AE (r := Fg) HE F Aa Aa (Ax h_v1) h4).q fun a w F W => ?_
   refine ls F W Aa (Az (y := Value.agg #[.int .i64 x4.1, .int .i64 x4.2.1, .int .i64 x4.2.2.1, .int .i64 x4.2.2.2.1, (v6.2.2.2.2.1.1), .int .i64 x4.2.2.2.2.2.1, .int .i64 x4.2.2.2.2.2.2.1, .int .i64 x4.2.2.2.2.2.2.2]) (j := 0) (i := x3) (enc := DD) F Aa Aa (Ax h_v1) h4 Gc HF (by rw [h6]; rfl)).q fun a w F W => ?_
   refine CJ (cs := [.int .i64 0, .int .i64 0, .int .i64 0, .int .i64 0, .slice none 0 0, .int .i64 0, .int .i64 0, .int .i64 0]) F W Aa I9 Aa fun b1 a w F W => ?_
   refine Cy (vs := [.int .i64 x4.1, .int .i64 x4.2.1, .int .i64 x4.2.2.1, .int .i64 x4.2.2.2.1, (v6.2.2.2.2.1.1), .int .i64 x4.2.2.2.2.2.1, .int .i64 x4.2.2.2.2.2.2.1, .int .i64 x4.2.2.2.2.2.2.2]) (M' := [(b1, [.int .i64 x4.1, .int .i64 x4.2.1, .int .i64 x4.2.2.1, .int .i64 x4.2.2.2.1, (v6.2.2.2.2.1.1), .int .i64 x4.2.2.2.2.2.1, .int .i64 x4.2.2.2.2.2.2.1, .int .i64 x4.2.2.2.2.2.2.2])]) 0 F W Aa Aa Aa HF Aa Aa Aa (Am Aa (Am Aa (Am Aa (Am Aa (Am ((BG (Ax h_v1) h4 (Al.snd (Al.snd (Al.snd (Al.snd (Al.fst Al.here))))) (congrArg (fun q : Int × Int × Int × Int × List Int × Int × Int × Int => q.2.2.2.2.1) h5)) _ W).one (Am Aa (Am Aa (Am Aa C0)))))))) Aa fun w W => ?_
   refine Ae (Ac (Ad ?_))
   refine ls F W Aa (Af F Aa).q fun a w F W => ?_
   refine ls F W Aa (Ab Ck Aa Aa Aa T3 F Aa 0 Aa).q fun a w F W => ?_
   refine ls F W Aa (An (v := Value.int .i64 x4.1) 0 F Aa Aa T3 Aa).q fun a w F W => ?_
   refine ls F W Aa (Ab Ck Aa Aa Aa T3 F Aa 1 Aa).q fun a w F W => ?_
   refine ls F W Aa (An (v := Value.int .i64 x4.2.1) 0 F Aa Aa T3 Aa).q fun a w F W => ?_
   refine ls F W Aa (Ab Ck Aa Aa Aa T3 F Aa 2 Aa).q fun a w F W => ?_
   refine ls F W Aa (An (v := Value.int .i64 x4.2.2.1) 0 F Aa Aa T3 Aa).q fun a w F W => ?_
   refine ls F W Aa (Ab Ck Aa Aa Aa T3 F Aa 3 Aa).q fun a w F W => ?_
   refine ls F W Aa (An (v := Value.int .i64 x4.2.2.2.1) 0 F Aa Aa T3 Aa).q fun a w F W => ?_
   refine ls F W Aa (Ab Ck Aa Aa Aa C4 F Aa 4 Aa).q fun a w F W => ?_
   refine ls F W Aa (An (v := (v6.2.2.2.2.1.1)) 0 F Aa Aa C4 Aa).q fun a w F W => ?_
   refine ls F W Aa (Ab Ck Aa Aa Aa T3 F Aa 5 Aa).q fun a w F W => ?_
   refine ls F W Aa (An (v := Value.int .i64 x4.2.2.2.2.2.1) 0 F Aa Aa T3 Aa).q fun a w F W => ?_
   refine ls F W Aa (Ab Ck Aa Aa Aa T3 F Aa 6 Aa).q fun a w F W => ?_
   refine ls F W Aa (An (v := Value.int .i64 x4.2.2.2.2.2.2.1) 0 F Aa Aa T3 Aa).q fun a w F W => ?_
   refine ls F W Aa (Ab Ck Aa Aa Aa T3 F Aa 7 Aa).q fun a w F W => ?_
   refine ls F W Aa (An (v := Value.int .i64 x4.2.2.2.2.2.2.2) 0 F Aa Aa T3 Aa).q fun a w F W => ?_
   refine ls F W Aa (Cw (v := Value.agg #[.int .i64 x4.1, .int .i64 x4.2.1, .int .i64 x4.2.2.1, .int .i64 x4.2.2.2.1, (v6.2.2.2.2.1.1), .int .i64 x4.2.2.2.2.2.1, .int .i64 x4.2.2.2.2.2.2.1, .int .i64 x4.2.2.2.2.2.2.2]) Jb F Aa (Bn Aa Aa Aa (Bn Aa Aa Aa (Bn Aa Aa Aa (Bn Aa Aa Aa (Bn Aa (Dq ((BG (Ax h_v1) h4 (Al.snd (Al.snd (Al.snd (Al.snd (Al.fst Al.here))))) (congrArg (fun q : Int × Int × Int × Int × List Int × Int × Int × Int => q.2.2.2.2.1) h5)) _ W).one) Aa (Bn Aa Aa Aa (Bn Aa Aa Aa (Bn Aa Aa Aa DR)))))))) Aa).q fun a w F W => ?_
   refine Ey (z := Value.agg #[.int .i64 0, .int .i64 0, .int .i64 0, .int .i64 0, .slice none 0 0, .int .i64 0, .int .i64 0, .int .i64 0]) (cs := [.int .i64 x4.1, .int .i64 x4.2.1, .int .i64 x4.2.2.1, .int .i64 x4.2.2.2.1, (v6.2.2.2.2.1.1), .int .i64 x4.2.2.2.2.2.1, .int .i64 x4.2.2.2.2.2.2.1, .int .i64 x4.2.2.2.2.2.2.2]) Db ([x4] : List (Int × Int × Int × Int × List Int × Int × Int × Int)) F W Aa FX Iw Aa Aa Aa (Bn Aa Aa Aa DR) Aa Aa ⟨[Value.int .i64 x4.1, Value.int .i64 x4.2.1, Value.int .i64 x4.2.2.1, Value.int .i64 x4.2.2.2.1, (v6.2.2.2.2.1.1), Value.int .i64 x4.2.2.2.2.2.1, Value.int .i64 x4.2.2.2.2.2.2.1, Value.int .i64 x4.2.2.2.2.2.2.2], _, Aa, ⟨[Value.int .i64 x4.1], [Value.int .i64 x4.2.1, Value.int .i64 x4.2.2.1, Value.int .i64 x4.2.2.2.1, (v6.2.2.2.2.1.1), Value.int .i64 x4.2.2.2.2.2.1, Value.int .i64 x4.2.2.2.2.2.2.1, Value.int .i64 x4.2.2.2.2.2.2.2], Aa, Aa, ⟨[Value.int .i64 x4.2.1], [Value.int .i64 x4.2.2.1, Value.int .i64 x4.2.2.2.1, (v6.2.2.2.2.1.1), Value.int .i64 x4.2.2.2.2.2.1, Value.int .i64 x4.2.2.2.2.2.2.1, Value.int .i64 x4.2.2.2.2.2.2.2], Aa, Aa, ⟨[Value.int .i64 x4.2.2.1], [Value.int .i64 x4.2.2.2.1, (v6.2.2.2.2.1.1), Value.int .i64 x4.2.2.2.2.2.1, Value.int .i64 x4.2.2.2.2.2.2.1, Value.int .i64 x4.2.2.2.2.2.2.2], Aa, Aa, ⟨[Value.int .i64 x4.2.2.2.1], [(v6.2.2.2.2.1.1), Value.int .i64 x4.2.2.2.2.2.1, Value.int .i64 x4.2.2.2.2.2.2.1, Value.int .i64 x4.2.2.2.2.2.2.2], Aa, Aa, ⟨[(v6.2.2.2.2.1.1)], [Value.int .i64 x4.2.2.2.2.2.1, Value.int .i64 x4.2.2.2.2.2.2.1, Value.int .i64 x4.2.2.2.2.2.2.2], Aa, ⟨_, Aa, (Sl.at_ (W.old s_v1) h4 (Al.snd (Al.snd (Al.snd (Al.snd (Al.fst Al.here))))) (congrArg (fun q : Int × Int × Int × Int × List Int × Int × Int × Int => q.2.2.2.2.1) h5))⟩, ⟨[Value.int .i64 x4.2.2.2.2.2.1], [Value.int .i64 x4.2.2.2.2.2.2.1, Value.int .i64 x4.2.2.2.2.2.2.2], Aa, Aa, ⟨[Value.int .i64 x4.2.2.2.2.2.2.1], [Value.int .i64 x4.2.2.2.2.2.2.2], Aa, Aa, Aa⟩⟩⟩⟩⟩⟩⟩, Aa⟩ fun v7 a w F W => ?_
   have W := W.frontZ (i := 1) Aa Aa
   have W := W.hideR DJ h2
   obtain ⟨x5, h7, H⟩ := Ak H
   refine Dl (r := Db) (i := 0) F W Aa FX Aa Aa Aa Aa (DO W 1 Aa) h7 Aa fun v8 a w F W => ?_
   have W : Stw ⟨Y, [], w0⟩ [(b1, [.int .i64 x4.1, .int .i64 x4.2.1, .int .i64 x4.2.2.1, .int .i64 x4.2.2.2.1, (v6.2.2.2.2.1.1), .int .i64 x4.2.2.2.2.2.1, .int .i64 x4.2.2.2.2.2.2.1, .int .i64 x4.2.2.2.2.2.2.2])] [row v8 32 Db x5, row v7 32 Db ([x4] : List (Int × Int × Int × Int × List Int × Int × Int × Int))] w := W
   refine ls F W Aa (Ag F Aa).q fun a w F W => ?_
   refine Ae (AO (Ac (Ad ?_)))
   refine ls F W Aa (Af F Aa).q fun a w F W => ?_
   refine ls F W Aa (CK F Aa Aa Aa).q fun a w F W => ?_
   refine ls F W Aa (Ag F Aa).q fun a w F W => ?_
   refine Ae (Ac ?_)
   have W := W.sub (M' := []) (Z' := [row v8 32 Db x5]) (List.nil_sublist _) (List.Sublist.cons_cons _ (List.nil_sublist _))
   exact ⟨_, H, (v8), F.re ⟨rfl, Aa, Aa, Aa, trivial⟩, W⟩
  have H := AY (A7 hb) H
  rw [hb] at F
  clear hb
  refine BC ?_
  iterate 2 refine Cd ?_
  refine BA (Ac ?_)
  have H := L2 _ H
  exact ⟨_, (v4), H, F.re ⟨rfl, Aa, trivial⟩, W⟩
 rintro a w ⟨x1, v3, hj, F, W⟩
 have hj := A1 hj
 subst hj
 have H := K1
 clear G1 K1
 refine Aj (Ad ?_)
 refine ls F W Aa (Af F Aa).q fun a w F W => ?_
 refine ls F W Aa (Ag F Aa).q fun a w F W => ?_
 refine Ae (Ac (AJ ?_))
 have H := A1 H
 subst H
 refine A9 (.inl Aa) F W Aa (AM F Aa) ?_
 exact ⟨(v3), Aa, W⟩
theorem H9 : Has Tryd.prog 9 := ⟨fun args w => Ap Tryd.func9 rfl (by decide) args w⟩
abbrev EG (a : Int × Int × Int × Int × (Value × List Int) × Int × Int × Int) : List Value := [.int .i64 a.1, .int .i64 a.2.1, .int .i64 a.2.2.1, .int .i64 a.2.2.2.1, a.2.2.2.2.1.1, .int .i64 a.2.2.2.2.2.1, .int .i64 a.2.2.2.2.2.2.1, .int .i64 a.2.2.2.2.2.2.2]
theorem Hj : Cb Ge EG := (Cb.pair Fl.int.to (Cb.pair Fl.int.to (Cb.pair Fl.int.to (Cb.pair Fl.int.to (Cb.pair Cb.vsl (Cb.pair Fl.int.to (Cb.pair Fl.int.to Fl.int.to)))))))
theorem Iq : Ty Tryd.prog 32 true 8 := ⟨by kernel_rfl, by kernel_rfl⟩
noncomputable def Ci (p0 : List Int) (p1 : List Int) : Int → Option (Int ⊕ (Unit ⊕ Bool))
  | x1 => (if x1 < (p0.length : Int) then (ix p0 x1).bind fun x2 => (ix p1 x1).bind fun x3 => (if x2 ≠ x3 then some (.inr (.inr false)) else some (.inl (CV (x1 + 1)))) else some (.inr (.inl ())))
noncomputable def Dg (p0 : List Int) (p1 : List Int) : Option Bool := (if (p0.length : Int) ≠ (p1.length : Int) then some false else Ix (AP (Ci p0 p1) 0) fun _ => some true)
theorem FZ (Y : Nat → Prop) (w0 : World) (v1 : Value) (v2 : Value) (p0 : List Int) (p1 : List Int) (r : Bool) (H : Dg p0 p1 = some r) (h_v1 : Sl w0 (NX []) (Rp.int .i64) v1 p0) (h_v2 : Sl w0 (NX []) (Rp.int .i64) v2 p1) :
    Calls Tryd.prog 16 #[v1, v2] w0 fun e w' => e = .returned (.bool r) ∧ Below w0.heap.size w0 w' := by
 refine enter Tryd.func16 Aa Tryd.ntmps16 Aa fun a F => ?_
 have W := Stw.start Y w0
 unfold Dg at H
 refine Aj (Ad ?_)
 refine ls F W Aa (Ag F Aa).q fun a w F W => ?_
 refine Ae (Ac (Aj (Aj (Ad ?_))))
 refine ls F W Aa (Af F Aa).q fun a w F W => ?_
 refine ls F W Aa (BT (r := (Rp.int .i64)) (l := p0) Eu Aa F Aa (Ax h_v1)).q fun a w F W => ?_
 refine ls F W Aa (Af F Aa).q fun a w F W => ?_
 refine ls F W Aa (BT (r := (Rp.int .i64)) (l := p1) Eu Aa F Aa (Ax h_v2)).q fun a w F W => ?_
 refine ls F W Aa (C2 F Aa Aa).q fun a w F W => ?_
 refine Ae (Ac ?_)
 refine AB F Aa (fun hb => ?_) fun hb => ?_
 ·
  have H := A0 (Ba hb) H
  rw [hb] at F
  clear hb
  refine Aj (Ad ?_)
  refine ls F W Aa (Ag F Aa).q fun a w F W => ?_
  refine Ae (Ac (AJ (Bc ?_)))
  have H := A1 H
  subst H
  refine A9 (.inl Aa) F W Aa (AM F Aa) ?_
  exact ⟨rfl, W.done⟩
 have H := AY (A7 hb) H
 rw [hb] at F
 clear hb
 refine Ay (Ac ?_)
 obtain ⟨o1, G1, K1, L1⟩ := IB H
 refine A3 (fun a w => some (Sum.inl ()) = some o1 ∧ Fr 26 [] [(4, .bool false)] a ∧ Stw ⟨Y, [], w0⟩ [] [] w) ?_ ?_
 ·
  have H := G1
  clear G1 K1
  refine Aj (Ad ?_)
  refine ls F W Aa (Ag F Aa).q fun a w F W => ?_
  refine Ae (Ac (AD ?_))
  refine BN H (fun s a w => Fr 26 [] [(0, v1), (1, v2), (4, .bool false), (5, .int .i64 s)] a ∧ Stw ⟨Y, [], w0⟩ [] [] w) ⟨F.re ⟨rfl, Aa, Aa, Aa, trivial⟩, W⟩ fun s o a w H L2 hR => ?_
  obtain ⟨x1, rfl⟩ : ∃ x, x = s := ⟨s, rfl⟩
  obtain ⟨F, W⟩ := hR
  have F : Fr 26 [] [(0, v1), (1, v2), (4, .bool false), (5, .int .i64 x1)] a := F
  have W : Stw ⟨Y, [], w0⟩ [] [] w := W
  rw [Ci] at H
  refine Aj (Aj (Ad ?_))
  iterate 2 refine ls F W Aa (Af F Aa).q fun a w F W => ?_
  refine ls F W Aa (BT (r := (Rp.int .i64)) (l := p0) Eu Aa F Aa (Ax h_v1)).q fun a w F W => ?_
  refine ls F W Aa (Cn F Aa Aa).q fun a w F W => ?_
  refine Ae (Ac ?_)
  refine AB F Aa (fun hb => ?_) fun hb => ?_
  ·
   have H := A0 (Ba hb) H
   rw [hb] at F
   clear hb
   refine Ay (Ac (Aj (AD (Aj ?_))))
   refine BQ W MO (by kernel_rfl) ?_
   iterate 2 refine qs F Aa (Af F Aa).q fun a F => ?_
   obtain ⟨x2, h1, H⟩ := Ak H
   refine qs F Aa (AE (r := (Rp.int .i64)) Gg F Aa Aa (Ax h_v1) h1).q fun a F => ?_
   refine qs F Aa (Az (y := Value.int .i64 x2) (j := 0) (i := x1) F Aa Aa (Ax h_v1) h1 Fl.int.to T3 Aa).q fun a F => ?_
   iterate 2 refine qs F Aa (Af F Aa).q fun a F => ?_
   obtain ⟨x3, h2, H⟩ := Ak H
   refine qs F Aa (AE (r := (Rp.int .i64)) Gg F Aa Aa (Ax h_v2) h2).q fun a F => ?_
   refine qs F Aa (Az (y := Value.int .i64 x3) (j := 0) (i := x1) F Aa Aa (Ax h_v2) h2 Fl.int.to T3 Aa).q fun a F => ?_
   refine qs F Aa (C2 F Aa Aa).q fun a F => ?_
   refine A2 fun w W => ?_
   refine Ac ?_
   refine AB F Aa (fun hb => ?_) fun hb => ?_
   ·
    have H := A0 (Ba hb) H
    rw [hb] at F
    clear hb
    refine Aj (Ad ?_)
    refine ls F W Aa (Ag F Aa).q fun a w F W => ?_
    refine Ae (Ac (AJ (B1 ?_)))
    iterate 2 refine Bc ?_
    refine B1 (Bc ?_)
    have H := L2 _ H
    have H := L1 _ H
    have H := A1 H
    subst H
    refine A9 (.inl Aa) F W Aa (AM F Aa) ?_
    exact ⟨rfl, W.done⟩
   have H := AY (A7 hb) H
   rw [hb] at F
   clear hb
   refine Ay (AO (Ac (Ad ?_)))
   refine ls F W Aa (Af F Aa).q fun a w F W => ?_
   refine ls F W Aa (CK F Aa Aa Aa).q fun a w F W => ?_
   refine ls F W Aa (Ag F Aa).q fun a w F W => ?_
   refine Ae (Ac ?_)
   exact ⟨_, H, F.re ⟨rfl, Aa, Aa, Aa, trivial⟩, W⟩
  have H := AY (A7 hb) H
  rw [hb] at F
  clear hb
  refine BC ?_
  iterate 2 refine Cd ?_
  refine BA (Ac ?_)
  have H := L2 _ H
  exact ⟨H, F.re ⟨rfl, trivial⟩, W⟩
 rintro a w ⟨hj, F, W⟩
 have H := K1 _ hj
 clear hj G1 K1 L1
 refine Aj (Ad ?_)
 refine ls F W Aa (Ag F Aa).q fun a w F W => ?_
 refine Ae (Ac (AJ ?_))
 have H := A1 H
 subst H
 refine A9 (.inl Aa) F W Aa (AM F Aa) ?_
 exact ⟨rfl, W.done⟩
end Go.Proofs.YtpmhmemmniiomaaDoor
